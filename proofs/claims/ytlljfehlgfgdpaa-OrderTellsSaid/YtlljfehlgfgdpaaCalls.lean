/- What the small functions of package order answer, function by function. -/
import Derived.Test.YtlljfehlgfgdpaaProg
import Derived.Test.YtlljfehlgfgdpaaPure
import Derived.WalkKit
import Derived.ProofKit
import Derived.Laws.Cover1
import Derived.Lib.Hide
namespace Go.Proofs.Ytlljfehlgfgdpaa
open Go.RowKit

theorem retI {a b : Int} (h : a = b) : Ending.returned (.int .i64 a) = .returned (.int .i64 b) := by rw [h]
theorem retB {a b : Bool} (h : a = b) : Ending.returned (.bool a) = .returned (.bool b) := by rw [h]

theorem cmpS_lt {a b : ByteArray} (h : Op.bytesLess a.toList b.toList = true) : cmpS a b = -1 := by
  rw [cmpL_less] at h; exact of_decide_eq_true h
theorem cmpS_zero {a b : ByteArray} (h : (!a.toList == b.toList) = false) : cmpS a b = 0 := by
  simp at h; rw [cmpS, cmpL_eq]; exact h
theorem cmpS_gt {a b : ByteArray} (h : Op.bytesLess a.toList b.toList = false) (h2 : (!a.toList == b.toList) = true) : cmpS a b = 1 := by
  rw [cmpL_less] at h
  have h1 := of_decide_eq_false h
  have h3 : ¬ cmpL a.toList b.toList = 0 := by rw [cmpL_eq]; simpa using h2
  have := cmpL_range a.toList b.toList
  unfold cmpS; omega

theorem nanS (a : ByteArray) (w : World) : Calls Try.prog 18 #[.string a] w fun e w' => e = .returned (.bool false) ∧ w = w' := by
  go_enter Try.func18, Try.ntmps18
  go_wp2
  go_ret
  exact ⟨by simp, rfl⟩
theorem nanI (a : Int) (w : World) : Calls Try.prog 19 #[.int .i64 a] w fun e w' => e = .returned (.bool false) ∧ w = w' := by
  go_enter Try.func19, Try.ntmps19
  go_wp2
  go_ret
  exact ⟨by simp, rfl⟩
theorem compareI (a b : Int) (w : World) : Calls Try.prog 17 #[.int .i64 a, .int .i64 b] w fun e w' => e = .returned (.int .i64 (cmpI a b)) ∧ w = w' := by
  go_enter Try.func17, Try.ntmps17
  go_wp2_with (go_at_call 19; refine (nanI _ _).mono ?_; rintro e w' ⟨rfl, rfl⟩)
  all_goals go_ret
  all_goals refine ⟨?_, rfl⟩
  · rename_i h; exact retI (by rw [cmpI, if_pos h])
  · rename_i h _ _ h2; exact retI (by rw [cmpI, if_neg (by omega), if_pos h2])
  · exact retI (by rw [cmpI, if_neg (by omega), if_neg (by omega)])
theorem compareS (a b : ByteArray) (w : World) : Calls Try.prog 16 #[.string a, .string b] w fun e w' => e = .returned (.int .i64 (cmpS a b)) ∧ w = w' := by
  go_enter Try.func16, Try.ntmps16
  go_wp2_with (go_at_call 18; refine (nanS _ _).mono ?_; rintro e w' ⟨rfl, rfl⟩)
  all_goals go_ret
  all_goals refine ⟨?_, rfl⟩
  · exact retI (cmpS_lt (by assumption)).symm
  · exact retI (cmpS_gt (by assumption) (by assumption)).symm
  · exact retI (cmpS_zero (by assumption)).symm
theorem keys (a b : ByteArray) (w : World) : Calls Try.prog 8 #[.string a, .string b] w fun e w' => e = .returned (.int .i64 (cmpS a b)) ∧ w = w' := by
  go_enter Try.func8, Try.ntmps8
  go_wp2_with (go_at_call 16; refine (compareS _ _ _).mono ?_; rintro e w' ⟨rfl, rfl⟩)
  go_ret
  exact ⟨rfl, rfl⟩
/-- of a message its number and its priority alone are looked at; the others may be any values -/
theorem msgs (i p : Int) (x2 x3 x4 x5 : Value) (j q : Int) (y2 y3 y4 y5 : Value) (w : World) :
    Calls Try.prog 10 #[.agg #[.int .i64 i, .int .i64 p, x2, x3, x4, x5], .agg #[.int .i64 j, .int .i64 q, y2, y3, y4, y5]] w fun e w' => e = .returned (.int .i64 (cmpM p i q j)) ∧ (w.alloc (.cells #[.int .i64 i, .int .i64 p, x2, x3, x4, x5] 23)).alloc (.cells #[.int .i64 j, .int .i64 q, y2, y3, y4, y5] 23) = w' := by
  go_enter Try.func10, Try.ntmps10
  go_wp2_with (go_at_call 17; refine (compareI _ _ _).mono ?_; rintro e w' ⟨rfl, rfl⟩)
  all_goals go_ret
  · rename_i h; exact ⟨retI (by rw [cmpM, if_neg (by simpa using h)]), rfl⟩
  · rename_i h; exact ⟨retI (by rw [cmpM, if_pos (by simpa using h)]), rfl⟩
theorem next (a : ByteArray) (w : World) (h : a.size ≤ 100) : Calls Try.prog 12 #[.string a] w fun e w' => e = .returned (.string (a ++ ⟨#[0]⟩)) ∧ w = w' := by
  go_enter Try.func12, Try.ntmps12
  go_wp2
  go_ret
  exact ⟨rfl, rfl⟩
theorem inn (k f t : ByteArray) (w : World) : Calls Try.prog 14 #[.string k, .string f, .string t] w fun e w' => e = .returned (.bool (inS k f t)) ∧ w = w' := by
  go_enter Try.func14, Try.ntmps14
  go_wp2_with (go_at_call 8; refine (keys _ _ _).mono ?_; rintro e w' ⟨rfl, rfl⟩)
  all_goals go_ret
  all_goals refine ⟨retB ?_, rfl⟩
  · rename_i h; simp [inS]; omega
  · rename_i h0 h; simp [inS, h, h0]
  · rename_i h0 h; simp [inS, h0]
theorem al1 : cmpS ⟨#[97]⟩ ⟨#[97, 98]⟩ = -1 := by decide +kernel
theorem al2 : cmpS ⟨#[98]⟩ ⟨#[97]⟩ = 1 := by decide +kernel
theorem al3 : inS ⟨#[98]⟩ ⟨#[97]⟩ ⟨#[]⟩ = true := by decide +kernel
theorem alive (w : World) : Calls Try.prog 7 #[] w fun e w' => e = .returned (.bool true) ∧ w = w' := by
  have a1 := al1
  have a2 := al2
  have a3 := al3
  go_enter Try.func7, Try.ntmps7
  go_wp2_with (first | (go_at_call 8; refine (keys _ _ _).mono ?_; rintro e w' ⟨rfl, rfl⟩) | (go_at_call 14; refine (inn _ _ _ _).mono ?_; rintro e w' ⟨rfl, rfl⟩))
  go_ret
  exact ⟨rfl, rfl⟩
end Go.Proofs.Ytlljfehlgfgdpaa
