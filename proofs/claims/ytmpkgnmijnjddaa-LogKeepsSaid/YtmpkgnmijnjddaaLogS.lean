/- What a log's small calls answer: size, left, fits, there, Room. -/
import Derived.Test.YtmpkgnmijnjddaaLogM
namespace Go.Proofs.Ytmpkgnmijnjddaa
open Go.RowKit
theorem retB {a b : Bool} (h : a = b) : Ending.returned (.bool a) = .returned (.bool b) := by rw [h]
section
variable {w : World} {g gd : Nat} {R : Nat → Prop} {s : St} {L : Lg}
theorem size_ {n : Int} {m : Nat} (h : n.toNat = m) (hn : n ≤ 9223372036854775807) (w : World) : Calls Try.prog 35 #[.int .i64 n] w fun e w' => e = .returned (.int .i64 ((1 + need m : Nat) : Int)) ∧ w = w' := by
  have hb : need m ≤ 1000000000000000000 := by unfold need; omega
  go_enter Try.func35, Try.ntmps35
  go_wp2_with (go_at_call 46; refine (need_of h hn _).mono ?_; rintro e w' ⟨rfl, rfl⟩)
  go_ret
  exact ⟨by simp, rfl⟩
theorem left_ (h : LogAt w g gd R s L) : Calls Try.prog 28 #[ptr g] w fun e w' => e = .returned (.int .i64 (L.left : Int)) ∧ w.drew = w' := by
  obtain ⟨A, c, _, _, c2, c3, _, _, _, _, h1, h2, _, _⟩ := h.cells
  clear h
  go_enter Try.func28, Try.ntmps28
  go_wp2
  go_region
  go_wp2
  go_ret
  exact ⟨retU (by unfold Lg.left; omega), rfl⟩
theorem left_lt (h : LogAt w g gd R s L) : L.left ≤ 4096 := by
  obtain ⟨A, c, _, _, c2, c3, _, _, _, _, h1, h2, _, _⟩ := h.cells
  unfold Lg.left; omega
theorem fits_ {n : Int} (h : LogAt w g gd R s L) (hn : i64r n) : Calls Try.prog 22 #[ptr g, .int .i64 n] w fun e w' => e = .returned (.bool (L.fits n)) ∧ Below w.heap.size w w' := by
  have hll := left_lt h
  have H := Lib.hid h
  clear h
  rcases Int.lt_or_le n 0 with h0 | h0
  · have e : L.fits n = false := by simp [Lg.fits]; omega
    rw [e]
    clear e
    obtain ⟨hn1, hn2⟩ := hn
    go_enter Try.func22, Try.ntmps22
    go_wp2
    go_ret
    exact ⟨rfl, Below.refl _ _⟩
  · have e : L.fits n = decide (1 + need n.toNat ≤ L.left) := by simp [Lg.fits, h0]
    rw [e]
    clear e
    obtain ⟨hn1, hn2⟩ := hn
    go_enter Try.func22, Try.ntmps22
    go_wp2_with (first | (go_at_call 35; refine (size_ (n := n) rfl (by assumption) _).mono ?_; rintro e w' ⟨rfl, rfl⟩) | (go_at_call 28; refine (left_ H.out).mono ?_; rintro e w' ⟨rfl, rfl⟩))
    go_ret
    exact ⟨retB (by rw [Bool.eq_iff_iff]; simp; omega), (Below.refl _ _).drew⟩
theorem room_ (h : LogAt w g gd R s L) : Calls Try.prog 18 #[ptr g] w fun e w' => e = .returned (.int .i64 ((L.left - 1) * 64 : Nat)) ∧ Below w.heap.size w w' := by
  have hll := left_lt h
  have H := Lib.hid h
  clear h
  rcases Nat.eq_zero_or_pos L.left with h0 | h0
  · rw [h0]
    rw [h0] at hll
    go_enter Try.func18, Try.ntmps18
    go_wp2_with (go_at_call 28; refine (left_ H.out).mono ?_; rintro e w' ⟨rfl, rfl⟩; rw [h0])
    go_ret
    exact ⟨rfl, (Below.refl _ _).drew⟩
  · go_enter Try.func18, Try.ntmps18
    go_wp2_with (go_at_call 28; refine (left_ H.out).mono ?_; rintro e w' ⟨rfl, rfl⟩)
    go_ret
    exact ⟨retU (by omega), (Below.refl _ _).drew⟩
theorem there_ {O : Nat → Prop} (h : DiskAt w gd O s) (a n : Nat) (ha : a < s.n) (hn : a + n ≤ s.n) : Calls Try.prog 19 #[ptr gd, .int .i64 (a : Int), .int .i64 (n : Int)] w fun e w' => e = .returned (.int .i64 (n : Int)) ∧ w = w' := by
  have hm : s.n ≤ 4096 := by obtain ⟨_, _, h⟩ := h; exact h.ok.many
  have H := Lib.hid h
  clear h
  go_enter Try.func19, Try.ntmps19
  go_wp2_with (go_at_call 29; refine (len_ H.out).mono ?_; rintro e w' ⟨rfl, rfl⟩)
  go_ret
  exact ⟨retU (by omega), rfl⟩
end
end Go.Proofs.Ytmpkgnmijnjddaa
