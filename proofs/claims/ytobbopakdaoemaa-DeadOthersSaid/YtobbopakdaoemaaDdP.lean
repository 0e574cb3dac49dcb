/- Plain words on objects: where a message is, and what an object is when one is given back. Nothing of the program. -/
import Derived.Test.YtobbopakdaoemaaMqP
import Derived.Test.YtobbopakdaoemaaTrdP
import Derived.Test.YtobbopakdaoemaaRowP
set_option maxRecDepth 4000
namespace Go.Proofs.Ytobbopakdaoemaa
/-- an object -/
structure Ob where
  name : ByteArray
  kind : Int
  limit : Int
  rows : List Rw
  msgs : List Mg
  dead : List Mg
/-- lists of a length that a call bears -/
def Ob.short (o : Ob) (n : Nat) : Prop := o.rows.length ≤ n ∧ o.msgs.length ≤ n ∧ o.dead.length ≤ n
/-- each number of its messages is an int's -/
def Ob.fits (o : Ob) : Prop := (∀ m ∈ o.msgs, m.fits) ∧ ∀ m ∈ o.dead, m.fits
def whereO (o : Ob) (id : Int) : Int := if hasM o.msgs id = true then 1 else if hasM o.dead id = true then 2 else 0
def freeOk (o : Ob) (id : Int) : Bool := match o.msgs[o.msgs.findIdx (isM id)]? with
  | some m => m.claimed
  | none => false
def freeO (o : Ob) (id : Int) (tried : Bool) : Ob := match o.msgs[o.msgs.findIdx (isM id)]? with
  | some m => if m.claimed = false then o else if tried = false then { o with msgs := o.msgs.set (o.msgs.findIdx (isM id)) { m with claimed := false } } else
    if triedB m.retry o.limit = true then { o with msgs := o.msgs.eraseIdx (o.msgs.findIdx (isM id)), dead := o.dead ++ [m.tried] } else { o with msgs := o.msgs.set (o.msgs.findIdx (isM id)) m.tried }
  | none => o
theorem find_len {l : List Mg} {id : Int} (h : l.any (isM id) = false) : l.findIdx (isM id) = l.length := List.findIdx_eq_length.2 fun x hx => by simpa using List.any_eq_false.1 h x hx
theorem free_none {o : Ob} {id : Int} (tried : Bool) (h : o.msgs.any (isM id) = false) : freeOk o id = false ∧ freeO o id tried = o := by
  unfold freeOk freeO
  rw [find_len h, List.getElem?_eq_none (Nat.le_refl _)]
  exact ⟨rfl, rfl⟩
section
variable {o : Ob} {id : Int} {q : Nat} {m : Mg}
theorem free_off (tried : Bool) (hq : o.msgs.findIdx (isM id) = q) (h : o.msgs[q]? = some m) (hc : m.claimed = false) : freeOk o id = false ∧ freeO o id tried = o := by
  unfold freeOk freeO
  rw [hq, h]
  exact ⟨hc, if_pos hc⟩
theorem free_back (hq : o.msgs.findIdx (isM id) = q) (h : o.msgs[q]? = some m) (hc : m.claimed = true) : freeOk o id = true ∧ freeO o id false = { o with msgs := o.msgs.set q { m with claimed := false } } := by
  unfold freeOk freeO
  rw [hq, h]
  simp [hc]
theorem free_stay (hq : o.msgs.findIdx (isM id) = q) (h : o.msgs[q]? = some m) (hc : m.claimed = true) (ht : triedB m.retry o.limit = false) : freeOk o id = true ∧ freeO o id true = { o with msgs := o.msgs.set q m.tried } := by
  unfold freeOk freeO
  rw [hq, h]
  simp [hc, ht]
theorem free_dead (hq : o.msgs.findIdx (isM id) = q) (h : o.msgs[q]? = some m) (hc : m.claimed = true) (ht : triedB m.retry o.limit = true) : freeOk o id = true ∧ freeO o id true = { o with msgs := o.msgs.eraseIdx q, dead := o.dead ++ [m.tried] } := by
  unfold freeOk freeO
  rw [hq, h]
  simp [hc, ht]
end
end Go.Proofs.Ytobbopakdaoemaa
