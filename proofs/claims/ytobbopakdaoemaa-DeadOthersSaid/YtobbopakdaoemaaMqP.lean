/- Plain words on messages in order: nothing of the program. -/
import Derived.Test.YtobbopakdaoemaaMg
import Derived.Test.YtobbopakdaoemaaCmpP
import Derived.Test.YtobbopakdaoemaaIdx
set_option maxRecDepth 4000
namespace Go.Proofs.Ytobbopakdaoemaa
/-- by priority, then by number -/
def cmpG (a b : Mg) : Int := cmpM a.pri a.id b.pri b.id
def behM (m o : Mg) : Bool := decide (cmpG m o < 0)
def isM (id : Int) (m : Mg) : Bool := m.id == id
def freeM (m : Mg) : Bool := !m.claimed
def freeC (c : ByteArray) (m : Mg) : Bool := !m.claimed && m.corr.toList == c.toList
/-- where a message goes -/
def spotM (l : List Mg) (m : Mg) : Nat := l.findIdx (behM m)
def addM (l : List Mg) (m : Mg) : List Mg := l.take (spotM l m) ++ [m] ++ l.drop (spotM l m)
def hasM (l : List Mg) (id : Int) : Bool := l.any (isM id)
def cutM (l : List Mg) (id : Int) : List Mg := l.eraseIdx (l.findIdx (isM id))
/-- there, and of another Claimed -/
def canM (l : List Mg) (id : Int) (on : Bool) : Bool := match l[l.findIdx (isM id)]? with
  | some m => !(m.claimed == on)
  | none => false
def claimM (l : List Mg) (id : Int) (on : Bool) : List Mg := l.modify (l.findIdx (isM id)) fun m => { m with claimed := on }
/-- the i-th message is behind the one ahead of it, and its number is new -/
def upM (l : List Mg) (i : Nat) : Bool := match l[i]? with
  | some m => !decide (m.id ∈ (l.take i).map (·.id)) && (i == 0 || match l[i - 1]? with
    | some p => decide (cmpG p m < 0)
    | none => true)
  | none => true
def risesM (l : List Mg) : Bool := (List.range l.length).all (upM l)
theorem spot_le (l : List Mg) (m : Mg) : spotM l m ≤ l.length := List.findIdx_le_length
theorem add_len (l : List Mg) (m : Mg) : (addM l m).length = l.length + 1 := by
  have := spot_le l m
  simp [addM]; omega
theorem cut_none {l : List Mg} {id : Int} (h : hasM l id = false) : cutM l id = l := by
  unfold cutM
  apply List.eraseIdx_of_length_le
  have : l.findIdx (isM id) = l.length := List.findIdx_eq_length.2 fun x hx => by simpa using List.any_eq_false.1 h x hx
  omega
theorem cut_at_m {l : List Mg} {id : Int} : cutM l id = l.take (l.findIdx (isM id)) ++ l.drop (l.findIdx (isM id) + 1) := List.eraseIdx_eq_take_drop_succ _ _
end Go.Proofs.Ytobbopakdaoemaa
