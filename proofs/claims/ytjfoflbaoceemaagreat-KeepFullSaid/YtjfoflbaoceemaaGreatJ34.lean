/- . -/
import Derived.Test.YtjfoflbaoceemaaGreatJ17
import Derived.Test.YtjfoflbaoceemaaGreatJ14
import Derived.RegionTactic
import Derived.Deep.QuietTactic
import Derived.BigQuiet
import Derived.Deep.RegionHeld3
import Derived.Deep.DeepCutAuto
import Derived.Deep.RegionWith
import Derived.Test.YtjfoflbaoceemaaGreatJ08
set_option maxRecDepth 4000
namespace Go.Proofs.YtjfoflbaoceemaaGreat
open Go.RowKit
structure ShutU (p : Prop) : Prop where out : p
def upD (l : List Mg) (j : Nat) : Bool := match l[j]? with
  | some m => !((decide (0 < j) && match l[j - 1]? with
    | some p => decide (0 ≤ cmpG p m)
    | none => false) || decide (idxI (isM m.id) l < (j : Int)))
  | none => true
def risesD (l : List Mg) : Bool := (List.range l.length).all (upD l)
theorem rises_one {l : List Mg} (h : risesD l = true) {i j : Nat} (hi : i < l.length) (hij : j < i) : l[j].id ≠ l[i].id := fun e => by
  have hu := List.all_eq_true.1 h i (List.mem_range.2 hi)
  unfold upD at hu
  rw [List.getElem?_eq_getElem hi] at hu
  simp only [Bool.not_eq_true', Bool.or_eq_false_iff, decide_eq_false_iff_not] at hu
  apply hu.2
  have hj : j < l.length := by omega
  have hp : isM l[i].id l[j] = true := by unfold isM; rw [e]; exact beq_self_eq_true _
  have hle : l.findIdx (isM l[i].id) ≤ j := by
    rcases Nat.lt_or_ge j (l.findIdx (isM l[i].id)) with h1 | h1
    · have := List.not_of_lt_findIdx h1
      rw [hp] at this
      simp at this
    · exact h1
  unfold idxI
  rw [if_pos (by omega)]
  omega
end Go.Proofs.YtjfoflbaoceemaaGreat
