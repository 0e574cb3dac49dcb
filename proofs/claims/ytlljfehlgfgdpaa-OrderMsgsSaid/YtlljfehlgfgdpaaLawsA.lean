/- The law on messages, walked. -/
import Derived.Test.YtlljfehlgfgdpaaCalls
import Derived.Below
namespace Go.Proofs.Ytlljfehlgfgdpaa
open Go.RowKit
theorem below_alloc {w w' : World} (h : Below w.heap.size w w') (o : Obj) : Below w.heap.size w (w'.alloc o) := h.alloc h.size o
set_option maxHeartbeats 1000000 in
theorem orderMsgs (i p : Int) (x2 x3 x4 x5 : Value) (j q : Int) (y2 y3 y4 y5 : Value) (k r : Int) (z2 z3 z4 z5 : Value) (w : World) :
    Calls Try.prog 6 #[.agg #[.int .i64 i, .int .i64 p, x2, x3, x4, x5], .agg #[.int .i64 j, .int .i64 q, y2, y3, y4, y5], .agg #[.int .i64 k, .int .i64 r, z2, z3, z4, z5]] w
      fun e w' => e = .returned (.bool true) ∧ Below w.heap.size w w' := by
  have n1 := cmpM_range p i q j
  have t1 : (cmpM q j p i != -cmpM p i q j) = false := by rw [cmpM_turn p i q j]; simp
  have t2 : (!(cmpM p i q j == 0) == ((p == q) && (i == j))) = false := by
    have e : (cmpM p i q j == 0) = ((p == q) && (i == j)) := by rw [Bool.eq_iff_iff]; simpa using cmpM_eq p i q j
    rw [e]; simp
  have T1 := Lib.hid (cmpM_trans p i q j r k)
  have T2 := Lib.hid (cmpM_trans' p i q j r k)
  by_cases h : p = q
  case pos =>
    subst h
    simp only [beq_self_eq_true, Bool.true_and] at t2
    go_enter Try.func6, Try.ntmps6
    go_wp2_with (first | (go_at_call 7; refine (alive _).mono ?_; rintro e w' ⟨rfl, rfl⟩) | (go_at_call 10; refine (msgs _ _ _ _ _ _ _ _ _ _ _ _ _).mono ?_; rintro e w' ⟨rfl, rfl⟩))
    all_goals go_ret
    all_goals refine ⟨retB ?_, ?_⟩
    any_goals (repeat (first | with_reducible exact Below.refl _ _ | with_reducible refine below_alloc ?_ _))
    all_goals have u1 := T1.out
    all_goals have u2 := T2.out
    all_goals clear T1 T2 t1 t2
    all_goals first | rfl | (exfalso; omega) | (simp; omega)
  case neg =>
    have h1 : (p == q) = false := by simpa using h
    simp only [h1, Bool.false_and, beq_false, Bool.not_not] at t2
    have t3 : cmpM p i q j ≠ 0 := by simpa using t2
    go_enter Try.func6, Try.ntmps6
    go_wp2_with (first | (go_at_call 7; refine (alive _).mono ?_; rintro e w' ⟨rfl, rfl⟩) | (go_at_call 10; refine (msgs _ _ _ _ _ _ _ _ _ _ _ _ _).mono ?_; rintro e w' ⟨rfl, rfl⟩))
    all_goals go_ret
    all_goals refine ⟨retB ?_, ?_⟩
    any_goals (repeat (first | with_reducible exact Below.refl _ _ | with_reducible refine below_alloc ?_ _))
    all_goals have u1 := T1.out
    all_goals have u2 := T2.out
    all_goals clear T1 T2 t1 t2
    all_goals first | rfl | (exfalso; omega) | (simp; omega)
end Go.Proofs.Ytlljfehlgfgdpaa
