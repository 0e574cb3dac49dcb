/- What Need and has answer, in the program and in the document. -/
import Derived.Test.YteilbaabnhogbaaSpanP
import Derived.Test.YteilbaabnhogbaaWrite
import Derived.Test.YteilbaabnhogbaaHi
namespace Go.Proofs.Yteilbaabnhogbaa
open Go.RowKit
theorem need_i {n : Int} (h : 1 ≤ n) : ((need n.toNat : Nat) : Int) = (n - 1).tdiv 64 + 1 := by
  rw [Int.tdiv_eq_ediv_of_nonneg (by omega)]
  unfold need; omega
theorem need_of {n : Int} {m : Nat} (h : n.toNat = m) (hn : n ≤ 9223372036854775807) (w : World) : Calls Try.prog 34 #[.int .i64 n] w fun e w' => e = .returned (.int .i64 (need m : Nat)) ∧ w = w' := by
  subst h
  rcases Int.lt_or_le n 1 with h | h
  · have e : need n.toNat = 0 := by rw [need_zero]; omega
    rw [e]
    go_enter Try.func34, Try.ntmps34
    go_wp2
    go_ret
    exact ⟨rfl, rfl⟩
  · have e := need_i h
    have hb : (n - 1).tdiv 64 ≤ n - 1 := by rw [Int.tdiv_eq_ediv_of_nonneg (by omega)]; omega
    have h0 : 0 ≤ (n - 1).tdiv 64 := by rw [Int.tdiv_eq_ediv_of_nonneg (by omega)]; omega
    rw [e]
    clear e
    go_enter Try.func34, Try.ntmps34
    go_wp2
    go_ret
    exact ⟨rfl, rfl⟩
theorem spanHas {w : World} {g : Nat} {O : Nat → Prop} {s : St} (h : DiskAt w g O s) (at_ : Int) (k : Nat) (hk : k ≤ 4611686018427387904) :
    Calls Try.prog 35 #[ptr g, .int .i64 at_, .int .i64 (k : Int)] w fun e w' => e = .returned (.bool (s.fits at_ k)) ∧ w = w' := by
  have hn : s.n ≤ 4096 := by obtain ⟨_, _, h⟩ := h; exact h.ok.many
  have H := Lib.hid h
  clear h
  rcases Int.lt_or_le at_ 0 with h0 | h0
  · have e : s.fits at_ k = false := St.fits_no.2 (.inl h0)
    rw [e]
    clear e
    go_enter Try.func35, Try.ntmps35
    go_wp2
    go_ret
    exact ⟨rfl, rfl⟩
  · rcases Int.lt_or_le (s.n : Int) (at_ + (k : Int)) with h1 | h1
    · have e : s.fits at_ k = false := St.fits_no.2 (.inr h1)
      rw [e]
      have h2 : decide (at_ ≤ (s.n : Int) - (k : Int)) = false := by simp; omega
      clear e
      go_enter Try.func35, Try.ntmps35
      go_wp2_with (go_at_call 43; refine (len_ H.out).mono ?_; rintro e w' ⟨rfl, rfl⟩)
      go_ret
      exact ⟨rfl, rfl⟩
    · have e : s.fits at_ k = true := St.fits_iff.2 ⟨h0, h1⟩
      rw [e]
      have h2 : decide (at_ ≤ (s.n : Int) - (k : Int)) = true := by simp; omega
      clear e
      go_enter Try.func35, Try.ntmps35
      go_wp2_with (go_at_call 43; refine (len_ H.out).mono ?_; rintro e w' ⟨rfl, rfl⟩)
      go_ret
      exact ⟨rfl, rfl⟩
end Go.Proofs.Yteilbaabnhogbaa
