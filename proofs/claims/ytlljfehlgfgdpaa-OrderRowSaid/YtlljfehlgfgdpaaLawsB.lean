/- The law on rows of keys, walked. -/
import Derived.Test.YtlljfehlgfgdpaaCalls
import Derived.Below
namespace Go.Proofs.Ytlljfehlgfgdpaa
open Go.RowKit
set_option maxHeartbeats 1000000 in
theorem orderRow (a b c : ByteArray) (ha : a.size ≤ maxLen) (hb : b.size ≤ maxLen) (w : World) :
    Calls Try.prog 4 #[.string a, .string b, .string c] w fun e w' => e = .returned (.bool true) ∧ Below w.heap.size w w' := by
  unfold maxLen at ha hb
  have n1 := cmpS_range a b
  have t1 : (cmpS b a != -cmpS a b) = false := by rw [cmpS_turn a b]; simp
  have t2 : (!(cmpS a b == 0) == (a.toList == b.toList)) = false := by
    have e : (cmpS a b == 0) = (a.toList == b.toList) := by rw [Bool.eq_iff_iff]; simpa using cmpS_eq a b
    rw [e]; simp
  have T1 := Lib.hid (cmpS_trans a b c)
  have T2 := Lib.hid (cmpS_trans' a b c)
  go_enter Try.func4, Try.ntmps4
  go_wp2_with (first | (go_at_call 7; refine (alive _).mono ?_; rintro e w' ⟨rfl, rfl⟩) | (go_at_call 8; refine (keys _ _ _).mono ?_; rintro e w' ⟨rfl, rfl⟩))
  all_goals go_ret
  all_goals refine ⟨retB ?_, Below.refl _ _⟩
  all_goals have u1 := T1.out
  all_goals have u2 := T2.out
  all_goals clear T1 T2
  all_goals first | rfl | (exfalso; omega) | (simp; omega)
end Go.Proofs.Ytlljfehlgfgdpaa
