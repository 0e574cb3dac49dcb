/- Plain words: what a message is when it was tried once more. -/
import Derived.Test.YtlapicjbnheioaaMg
set_option maxRecDepth 4000
namespace Go.Proofs.Ytlapicjbnheioaa
/-- how often a message was tried, once more -/
def more1 (r : Int) : Int := if r < 1000 then r + 1 else 1000
def Mg.tried (m : Mg) : Mg := { m with claimed := false, retry := more1 m.retry }
def triedB (r limit : Int) : Bool := decide (limit ≤ more1 r)
end Go.Proofs.Ytlapicjbnheioaa
