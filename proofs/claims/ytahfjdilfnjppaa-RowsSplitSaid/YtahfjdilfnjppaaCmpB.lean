/- What the library's comparing of texts answers. -/
import Derived.Test.YtahfjdilfnjppaaProg
import Derived.Test.YtahfjdilfnjppaaCmpP
import Derived.WalkKit
import Derived.ProofKit
import Derived.Laws.Cover1
import Derived.Lib.Hide
set_option maxRecDepth 4000
namespace Go.Proofs.Ytahfjdilfnjppaa
open Go.RowKit

theorem retIk {a b : Int} (h : a = b) : Ending.returned (.int .i64 a) = .returned (.int .i64 b) := by rw [h]
theorem retBk {a b : Bool} (h : a = b) : Ending.returned (.bool a) = .returned (.bool b) := by rw [h]

theorem cmpS_lt {a b : ByteArray} (h : Op.bytesLess a.toList b.toList = true) : cmpS a b = -1 := by
  rw [cmpL_less] at h; exact of_decide_eq_true h
theorem cmpS_zero {a b : ByteArray} (h : (!a.toList == b.toList) = false) : cmpS a b = 0 := by
  simp at h; rw [cmpS, cmpL_eq]; exact h
theorem cmpS_gt {a b : ByteArray} (h : Op.bytesLess a.toList b.toList = false) (h2 : (!a.toList == b.toList) = true) : cmpS a b = 1 := by
  rw [cmpL_less] at h
  have h1 := of_decide_eq_false h
  have h3 : ¬ cmpL a.toList b.toList = 0 := by rw [cmpL_eq]; simpa using h2
  have := cmpL_range a.toList b.toList
  unfold cmpS; omega

theorem nanS (a : ByteArray) (w : World) : Calls Try.prog 15 #[.string a] w fun e w' => e = .returned (.bool false) ∧ w = w' := by
  go_enter Try.func15, Try.ntmps15
  go_wp2
  go_ret
  exact ⟨by simp, rfl⟩
theorem compareS (a b : ByteArray) (w : World) : Calls Try.prog 14 #[.string a, .string b] w fun e w' => e = .returned (.int .i64 (cmpS a b)) ∧ w = w' := by
  go_enter Try.func14, Try.ntmps14
  go_wp2_with (go_at_call 15; refine (nanS _ _).mono ?_; rintro e w' ⟨rfl, rfl⟩)
  all_goals go_ret
  all_goals refine ⟨?_, rfl⟩
  · exact retIk (cmpS_lt (by assumption)).symm
  · exact retIk (cmpS_gt (by assumption) (by assumption)).symm
  · exact retIk (cmpS_zero (by assumption)).symm
end Go.Proofs.Ytahfjdilfnjppaa
