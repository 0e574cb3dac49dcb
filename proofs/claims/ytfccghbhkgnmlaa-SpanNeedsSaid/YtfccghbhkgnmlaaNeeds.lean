/- What SpanNeeds answers. -/
import Derived.Test.YtfccghbhkgnmlaaSpanAlive
namespace Go.Proofs.Ytfccghbhkgnmlaa
open Go.RowKit
theorem need_any (n : Int) (hn : n ≤ 9223372036854775807) (w : World) (m : Nat) (hm : need n.toNat = m) : Calls Try.prog 11 #[.int .i64 n] w fun e w' => e = .returned (.int .i64 (m : Nat)) ∧ w = w' := by
  subst hm
  exact need_of rfl hn w
set_option maxHeartbeats 400000 in
theorem spanNeeds (n more : Int) (w : World) : Calls Try.prog 5 #[.int .i64 n, .int .i64 more] w fun e w' => e = .returned (.bool true) ∧ Below w.heap.size w w' := by
  by_cases h : 0 ≤ n ∧ n ≤ 1000 ∧ 1 ≤ more ∧ more ≤ 64
  · obtain ⟨h0, h1, h2, h3⟩ := h
    obtain ⟨k, rfl⟩ := Int.eq_ofNat_of_zero_le h0
    obtain ⟨m, rfl⟩ := Int.eq_ofNat_of_zero_le (show 0 ≤ more by omega)
    go_enter Try.func5, Try.ntmps5
    go_wp2_with fail
    refine (alive w).mono ?_
    rintro e w1 ⟨rfl, hb⟩
    have HB := Lib.hid hb
    clear hb
    go_wp2_with fail
    refine (need_any _ (by omega) _ k (by unfold need; omega)).mono ?_
    rintro e w2 ⟨rfl, rfl⟩
    go_wp2_with fail
    refine (need_any _ (by omega) _ (k + 1) (by unfold need; omega)).mono ?_
    rintro e w2 ⟨rfl, rfl⟩
    go_wp2_with fail
    refine (need_any _ (by omega) _ 0 (by unfold need; omega)).mono ?_
    rintro e w2 ⟨rfl, rfl⟩
    go_wp2
    go_ret
    exact ⟨rfl, HB.out⟩
  · go_enter Try.func5, Try.ntmps5
    go_wp2_with fail
    refine (alive w).mono ?_
    rintro e w1 ⟨rfl, hb⟩
    have HB := Lib.hid hb
    clear hb
    go_wp2_with fail
    all_goals first | (go_ret; exact ⟨rfl, HB.out⟩) | (exfalso; omega)
end Go.Proofs.Ytfccghbhkgnmlaa
