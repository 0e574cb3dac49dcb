/- May it be a table's row: package rows' Right. -/
import Derived.Test.YtlapicjbnheioaaProg
import Derived.Test.YtlapicjbnheioaaKeep
import Derived.Test.YtlapicjbnheioaaRowP
import Derived.WalkKit
import Derived.ProofKit
import Derived.Lib.Hide
import Derived.RegionTactic
import Derived.Lib.Strings
set_option maxRecDepth 4000
namespace Go.Proofs.Ytlapicjbnheioaa
open Go.RowKit
theorem retBr {a b : Bool} (h : a = b) : Ending.returned (.bool a) = .returned (.bool b) := by rw [h]
theorem size_toList (a : ByteArray) : a.size = a.toList.length := by rw [Lib.toList_data]; simp
/-- may it be a table's row? -/
def rightR (r : Rw) : Bool := decide (1 ≤ r.1.size) && decide (r.1.size ≤ 40) && decide (r.2.size ≤ 100)
theorem right_row (r : Rw) (w : World) : Calls Try.prog 43 #[.agg #[.string r.1, .string r.2]] w fun e w' => e = .returned (.bool (rightR r)) ∧ Below w.heap.size w w' := by
  obtain ⟨k, v⟩ := r
  go_enter Try.func43, Try.ntmps43
  go_wp2
  · rename_i h
    go_ret
    exact ⟨retBr (by simp [rightR, size_toList, h]), alloc_below _ _⟩
  · rename_i h1 h2
    go_ret
    refine ⟨retBr ?_, alloc_below _ _⟩
    have h3 : 1 ≤ k.size := by rcases Nat.eq_zero_or_pos k.size with h0 | h0; exact absurd (List.eq_nil_of_length_eq_zero (by rw [← size_toList]; exact h0)) h1; exact h0
    have h4 : k.toList.isEmpty = false := by simpa using h1
    have h5 : k.size ≤ 40 := by omega
    have h6 : decide ((v.size : Int) ≤ 100) = decide (v.size ≤ 100) := decide_eq_decide.2 (by omega)
    rw [rightR, decide_eq_true h3, decide_eq_true h5, h4, h6]; rfl
  · rename_i h1 h2
    go_ret
    have h5 : ¬ k.size ≤ 40 := by omega
    exact ⟨retBr (by simp [rightR, h5]), alloc_below _ _⟩
end Go.Proofs.Ytlapicjbnheioaa
