/- A message: plain, and as a value. -/
import Derived.WalkKit
set_option maxRecDepth 4000
namespace Go.Proofs.Ytlapicjbnheioaa
/-- a message -/
structure Mg where
  id : Int
  pri : Int
  retry : Int
  claimed : Bool
  corr : ByteArray
  body : ByteArray
def Mg.zero : Mg := ⟨0, 0, 0, false, ⟨#[]⟩, ⟨#[]⟩⟩
/-- its numbers are an int's -/
def Mg.fits (m : Mg) : Prop := (-9223372036854775808 ≤ m.id ∧ m.id ≤ 9223372036854775807) ∧ (-9223372036854775808 ≤ m.pri ∧ m.pri ≤ 9223372036854775807) ∧ (-9223372036854775808 ≤ m.retry ∧ m.retry ≤ 9223372036854775807)
abbrev Mg.cells (m : Mg) : Array Value := #[.int .i64 m.id, .int .i64 m.pri, .int .i64 m.retry, .bool m.claimed, .string m.corr, .string m.body]
abbrev Mg.val (m : Mg) : Value := .agg m.cells
end Go.Proofs.Ytlapicjbnheioaa
