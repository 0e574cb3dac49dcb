/- What the small calls of package roots answer: cut, turn, newPlaces, root, image, fits, there, Need. -/
import Derived.Test.YteilbaabnhogbaaDskM
import Derived.Test.YteilbaabnhogbaaRootP
import Derived.Test.YteilbaabnhogbaaBits
import Derived.Test.YteilbaabnhogbaaOrderH
import Derived.BigQuiet
import Derived.Deep.QuietTactic
namespace Go.Proofs.Yteilbaabnhogbaa
open Go.RowKit
theorem below_drewN {B : Nat} {w w1 : World} (h : Below B w w1) (n : Nat) : Below B w (w1.drewN n) := ⟨h.os, h.tape, h.output, h.size, h.block⟩
def cutR (n : Int) : Nat := (min (max n 1) 1000).toNat
theorem cutR_range (n : Int) : 1 ≤ cutR n ∧ cutR n ≤ 1000 := by unfold cutR; omega
theorem rcut_ (n : Int) (w : World) : Calls Try.prog 14 #[.int .i64 n] w fun e w' => e = .returned (.int .i64 (cutR n : Int)) ∧ w = w' := by
  have h1 : ∀ m : Int, m = min (max n 1) 1000 → (cutR n : Int) = m := fun m h => by unfold cutR; omega
  have H1 := Lib.hid h1
  clear h1
  rcases Int.lt_or_le n 1 with h0 | h0
  · rw [H1.out 1 (by omega)]
    go_enter Try.func14, Try.ntmps14
    go_wp2
    all_goals first | (go_ret; exact ⟨rfl, rfl⟩) | (exfalso; omega)
  · rcases Int.lt_or_le 1000 n with h2 | h2
    · rw [H1.out 1000 (by omega)]
      go_enter Try.func14, Try.ntmps14
      go_wp2
      all_goals first | (go_ret; exact ⟨rfl, rfl⟩) | (exfalso; omega)
    · rw [H1.out n (by omega)]
      go_enter Try.func14, Try.ntmps14
      go_wp2
      all_goals first | (go_ret; exact ⟨rfl, rfl⟩) | (go_ret; exact ⟨retU (by omega), rfl⟩) | (exfalso; omega)
theorem turn_ (e : Nat) (w : World) : Calls Try.prog 31 #[.int .i64 (e : Int)] w fun r w' => r = .returned (.int .i64 ((e % 2 : Nat) : Int)) ∧ w = w' := by
  have h := and1 e
  go_enter Try.func31, Try.ntmps31
  go_wp2
  go_ret
  exact ⟨retU (by omega), rfl⟩
theorem newPlaces_ (a : Nat) (ha : a ≤ 1048576) (n : Int) (w : World) : Calls Try.prog 15 #[.int .i64 (a : Int), .int .i64 n] w fun e w' => e = .returned (.agg #[.int .i64 (a : Int), .int .i64 (cutR n : Int)]) ∧ Below w.heap.size w w' := by
  have hc := (cutR_range n).2
  go_enter Try.func15, Try.ntmps15
  go_wp2_with (go_at_call 14; refine (rcut_ _ _).mono ?_; rintro e w' ⟨rfl, rfl⟩)
  refine bodyPost_ret (v := .agg #[.int .i64 (a : Int), .int .i64 (cutR n : Int)]) (by simp [results, Try.results15, go_sem]) rfl ⟨rfl, alloc_below _ _⟩
theorem fits_ (a ar : Nat) (har : ar ≤ 1000) (n : Int) (w : World) : Calls Try.prog 16 #[.agg #[.int .i64 (a : Int), .int .i64 (ar : Int)], .int .i64 n] w fun e w' => e = .returned (.bool ((⟨a, ar⟩ : Pl).fits n)) ∧ Below w.heap.size w w' := by
  have hf : (⟨a, ar⟩ : Pl).fits n = (decide (0 ≤ n) && decide (n ≤ ((ar * 64 : Nat) : Int))) := rfl
  rw [hf]
  clear hf
  rcases Int.lt_or_le n 0 with h0 | h0
  · rw [decide_eq_false (by omega : ¬ 0 ≤ n)]
    go_enter Try.func16, Try.ntmps16
    go_wp2
    go_ret
    exact ⟨rfl, alloc_below _ _⟩
  · rw [decide_eq_true h0]
    go_enter Try.func16, Try.ntmps16
    go_wp2
    go_ret
    exact ⟨retB (by simp), alloc_below _ _⟩
theorem root_ (a ar e : Nat) (ha : a ≤ 1048576) (w : World) : Calls Try.prog 27 #[.agg #[.int .i64 (a : Int), .int .i64 (ar : Int)], .int .i64 (e : Int)] w fun r w' => r = .returned (.int .i64 (((⟨a, ar⟩ : Pl).root e : Nat) : Int)) ∧ Below w.heap.size w w' := by
  have hr : (((⟨a, ar⟩ : Pl).root e : Nat) : Int) = (a : Int) + ((e % 2 : Nat) : Int) := by simp [Pl.root]
  rw [hr]
  clear hr
  go_enter Try.func27, Try.ntmps27
  go_wp2_with fail
  go_quiet ((go_at_call 31; exact Calls.quiet_of_same ((turn_ _ _).mono fun _ _ h => ⟨h.1, h.2.symm⟩)))
  go_wp2
  go_ret
  exact ⟨retU (by omega), (below_drewN (alloc_below _ _) _)⟩
theorem image_num {a ar e : Nat} (ha : a ≤ 1048576) (har : ar ≤ 1000) : wrap64 ((a : Int) + 2 + wrap64 ((e : Int) % 2 * (ar : Int))) = (a : Int) + 2 + ((e % 2 : Nat) : Int) * (ar : Int) := by
  rcases (by omega : e % 2 = 0 ∨ e % 2 = 1) with h | h
  · rw [show (e : Int) % 2 = 0 by omega, h]; unfold wrap64; omega
  · rw [show (e : Int) % 2 = 1 by omega, h]; unfold wrap64; omega
theorem image_ (a ar e : Nat) (ha : a ≤ 1048576) (har : ar ≤ 1000) (w : World) : Calls Try.prog 23 #[.agg #[.int .i64 (a : Int), .int .i64 (ar : Int)], .int .i64 (e : Int)] w fun r w' => r = .returned (.int .i64 (((⟨a, ar⟩ : Pl).image e : Nat) : Int)) ∧ Below w.heap.size w w' := by
  have hr : (((⟨a, ar⟩ : Pl).image e : Nat) : Int) = (a : Int) + 2 + ((e % 2 : Nat) : Int) * (ar : Int) := by unfold Pl.image; simp
  rw [hr]
  clear hr
  go_enter Try.func23, Try.ntmps23
  go_wp2_with fail
  go_quiet ((go_at_call 31; exact Calls.quiet_of_same ((turn_ _ _).mono fun _ _ h => ⟨h.1, h.2.symm⟩)))
  go_wp2
  go_ret
  exact ⟨retU (image_num ha har), (below_drewN (alloc_below _ _) _)⟩
theorem rneed_ (n : Int) (w : World) : Calls Try.prog 7 #[.int .i64 n] w fun e w' => e = .returned (.int .i64 ((2 + 2 * cutR n : Nat) : Int)) ∧ w = w' := by
  have hc := (cutR_range n).2
  go_enter Try.func7, Try.ntmps7
  go_wp2_with (go_at_call 14; refine (rcut_ _ _).mono ?_; rintro e w' ⟨rfl, rfl⟩)
  go_ret
  exact ⟨retU (by omega), rfl⟩
theorem there_ {w : World} {gd : Nat} {R : Nat → Prop} {s : St} (h : DiskR w gd R s) (a ar e n : Nat) (ha : a ≤ 1048576) (har : ar ≤ 1000) (hn : n ≤ 64000) : Calls Try.prog 32 #[.agg #[.int .i64 (a : Int), .int .i64 (ar : Int)], ptr gd, .int .i64 (e : Int), .int .i64 (n : Int)] w fun r w' => r = .returned (.bool ((⟨a, ar⟩ : Pl).there s e n)) ∧ Below w.heap.size w w' := by
  have hq : ∃ q, (⟨a, ar⟩ : Pl).image e = q ∧ q ≤ 1050000 := ⟨_, rfl, by have := (image_le ⟨a, ar⟩ e).2; simp only at this; omega⟩
  obtain ⟨q, hq, hq2⟩ := hq
  have him := fun w => image_ a ar e ha har w
  have hth : (⟨a, ar⟩ : Pl).there s e n = decide (q + max (need n) 1 ≤ s.n) := by rw [← hq]; rfl
  rw [hth]
  rw [hq] at him
  have hnd : need n ≤ 1000 := by unfold need; omega
  have H := Lib.hid h
  have HIM := Lib.hid him
  clear h him hth hq
  go_enter Try.func32, Try.ntmps32
  go_wp2_with fail
  refine (HIM.out _).mono ?_
  rintro r w1 ⟨rfl, hb1⟩
  have HB1 := Lib.hid ((alloc_below w (.cells #[.int .i64 (a : Int), .int .i64 (ar : Int)] 44)).trans (hb1.mono (by simp)))
  clear hb1
  go_wp2_with (first | (go_at_call 34; refine (need_of (m := n) (by omega) (by omega) _).mono ?_; rintro e w' ⟨rfl, rfl⟩) | (go_at_call 43; refine (d_len (H.out.below HB1.out)).mono ?_; rintro e w' ⟨rfl, rfl⟩))
  all_goals go_ret
  all_goals exact ⟨retB (by rw [Bool.eq_iff_iff]; simp; omega), HB1.out⟩
end Go.Proofs.Yteilbaabnhogbaa
