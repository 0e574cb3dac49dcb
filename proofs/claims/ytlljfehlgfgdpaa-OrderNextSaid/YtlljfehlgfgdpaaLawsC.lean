/- The law on the next key, walked. -/
import Derived.Test.YtlljfehlgfgdpaaCalls
import Derived.Below
import Derived.Lib.Strings
namespace Go.Proofs.Ytlljfehlgfgdpaa
open Go.RowKit
theorem toList_next (a : ByteArray) : (a ++ ⟨#[0]⟩ : ByteArray).toList = a.toList ++ [0] := by
  rw [Lib.toList_data, Lib.toList_data, ByteArray.data_append]; simp
theorem cmpS_next (y a : ByteArray) : cmpS y (a ++ ⟨#[0]⟩) < 0 ↔ cmpS y a ≤ 0 := by
  unfold cmpS; rw [toList_next]; exact cmpL_next _ _
theorem cmpS_self (a : ByteArray) : cmpS a a = 0 := (cmpS_eq a a).2 rfl
theorem inS_next (b a : ByteArray) : inS b a (a ++ ⟨#[0]⟩) = (a.toList == b.toList) := by
  have h := cmpS_next b a
  have e := cmpS_eq b a
  have hn : ((a ++ ⟨#[0]⟩ : ByteArray).toList == []) = false := by rw [toList_next]; simp
  rw [inS, hn, Bool.false_or, Bool.eq_iff_iff]
  simp only [Bool.and_eq_true, decide_eq_true_eq, beq_iff_eq, h]
  constructor
  · intro ⟨h1, h2⟩; exact (e.1 (by omega)).symm
  · intro h1; have := e.2 h1.symm; omega
set_option maxHeartbeats 1000000 in
theorem orderNext (a b : ByteArray) (ha : a.size ≤ maxLen) (w : World) :
    Calls Try.prog 5 #[.string a, .string b] w fun e w' => e = .returned (.bool true) ∧ Below w.heap.size w w' := by
  unfold maxLen at ha
  have t1 : cmpS a (a ++ ⟨#[0]⟩) < 0 := (cmpS_next a a).2 (by rw [cmpS_self]; omega)
  have t2 : inS a a (a ++ ⟨#[0]⟩) = true := by rw [inS_next]; simp
  have t3 : (inS b a (a ++ ⟨#[0]⟩) == (a.toList == b.toList)) = true := by rw [inS_next]; simp
  have T1 := Lib.hid (cmpS_next b a)
  have T2 := Lib.hid (cmpS_turn a b)
  go_enter Try.func5, Try.ntmps5
  go_wp2_with (first | (go_at_call 7; refine (alive _).mono ?_; rintro e w' ⟨rfl, rfl⟩) | (go_at_call 8; refine (keys _ _ _).mono ?_; rintro e w' ⟨rfl, rfl⟩) | (go_at_call 12; refine (next _ _ (by omega)).mono ?_; rintro e w' ⟨rfl, rfl⟩) | (go_at_call 14; refine (inn _ _ _ _).mono ?_; rintro e w' ⟨rfl, rfl⟩))
  all_goals go_ret
  all_goals refine ⟨retB ?_, Below.refl _ _⟩
  all_goals have u1 := T1.out
  all_goals have u2 := T2.out
  all_goals clear T1 T2
  all_goals first | rfl | (exfalso; omega) | (simp; omega)
end Go.Proofs.Ytlljfehlgfgdpaa
