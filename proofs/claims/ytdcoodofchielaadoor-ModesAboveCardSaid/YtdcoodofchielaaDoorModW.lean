/- ModesAbove and ModesLaws. -/
import Derived.Test.YtdcoodofchielaaDoorModL
set_option maxRecDepth 4000
namespace Go.Proofs.YtdcoodofchielaaDoor
open Go.RowKit
set_option maxHeartbeats 1000000 in
theorem modesAbove (a b : Int) (w : World) (hT : Tab w) : Calls Tryd.prog 5 #[.int .i64 a, .int .i64 b] w fun e w' => e = .returned (.bool true) ∧ Below w.heap.size w w' := by
  have H0 := Lib.hid alive_
  have HT := Lib.hid hT
  clear hT
  by_cases a0 : a < 0
  · go_enter Tryd.func5, Tryd.ntmps5
    go_wp2_with fail
    refine (H0.out _ HT.out).mono ?_
    rintro e w0 ⟨rfl, t, b⟩
    have T0 := Lib.hid t
    have B0 := Lib.hid b
    clear t b
    go_wp2_with fail
    go_ret
    exact ⟨rfl, B0.out⟩
  by_cases a5 : 5 < a
  · go_enter Tryd.func5, Tryd.ntmps5
    go_wp2_with fail
    refine (H0.out _ HT.out).mono ?_
    rintro e w0 ⟨rfl, t, b⟩
    have T0 := Lib.hid t
    have B0 := Lib.hid b
    clear t b
    go_wp2_with fail
    go_ret
    exact ⟨rfl, B0.out⟩
  by_cases b0 : b < 0
  · go_enter Tryd.func5, Tryd.ntmps5
    go_wp2_with fail
    refine (H0.out _ HT.out).mono ?_
    rintro e w0 ⟨rfl, t, b⟩
    have T0 := Lib.hid t
    have B0 := Lib.hid b
    clear t b
    go_wp2_with fail
    go_ret
    exact ⟨rfl, B0.out⟩
  by_cases b5 : 5 < b
  · go_enter Tryd.func5, Tryd.ntmps5
    go_wp2_with fail
    refine (H0.out _ HT.out).mono ?_
    rintro e w0 ⟨rfl, t, b⟩
    have T0 := Lib.hid t
    have B0 := Lib.hid b
    clear t b
    go_wp2_with fail
    go_ret
    exact ⟨rfl, B0.out⟩
  obtain ⟨p, rfl⟩ := Int.eq_ofNat_of_zero_le (by omega : 0 ≤ a)
  obtain ⟨q, rfl⟩ := Int.eq_ofNat_of_zero_le (by omega : 0 ≤ b)
  have hp : p < 6 := by omega
  have hq : q < 6 := by omega
  have h1 := says_above p
  have h2 := says_above q
  have h3 := says_covers p q
  have h4 := says_covers (abvN p : Nat) (abvN q : Nat)
  have h5 := says_covers p (abvN p : Nat)
  have h6 := says_fits p q
  have h7 := says_fits (abvN p : Nat) (abvN q : Nat)
  rw [mdN_of hp] at h1 h3 h5 h6
  rw [mdN_of hq] at h2 h3 h6
  rw [mdN_of (abvN_lt p), mdN_of (abvN_lt q)] at h4 h7
  rw [mdN_of (abvN_lt p), cov_above hp] at h5
  rw [fit_above hp hq] at h7
  have hc := above_cov hp hq
  generalize covB p q = y at *
  generalize fitB p q = x at *
  generalize covB (abvN p) (abvN q) = z at *
  generalize ((abvN p : Nat) : Int) = u at *
  generalize ((abvN q : Nat) : Int) = v at *
  have HC := Lib.hid hc
  clear hp hq hc
  have H1 := Lib.hid h1
  have H2 := Lib.hid h2
  have H3 := Lib.hid h3
  have H4 := Lib.hid h4
  have H5 := Lib.hid h5
  have H6 := Lib.hid h6
  have H7 := Lib.hid h7
  clear h1 h2 h3 h4 h5 h6 h7
  go_enter Tryd.func5, Tryd.ntmps5
  go_wp2_with fail
  refine (H0.out _ HT.out).mono ?_
  rintro e w0 ⟨rfl, t, b⟩
  have T0 := Lib.hid t
  have B0 := Lib.hid b
  clear t b
  go_wp2_with fail
  refine (H1.out _ T0.out).mono ?_
  rintro e w1 ⟨rfl, t, b⟩
  have B1 := Lib.hid (B0.out.trans (b.mono B0.out.size))
  have T1 := Lib.hid t
  clear t b
  go_wp2_with fail
  refine (H2.out _ T1.out).mono ?_
  rintro e w2 ⟨rfl, t, b⟩
  have B2 := Lib.hid (B1.out.trans (b.mono B1.out.size))
  have T2 := Lib.hid t
  clear t b
  go_wp2_with fail
  cases y
  · refine (H3.out _ T2.out).mono ?_
    rintro e w3 ⟨rfl, t, b⟩
    have B3 := Lib.hid (B2.out.trans (b.mono B2.out.size))
    have T3 := Lib.hid t
    clear t b
    go_wp2_with fail
    refine (H5.out _ T3.out).mono ?_
    rintro e w4 ⟨rfl, t, b⟩
    have B4 := Lib.hid (B3.out.trans (b.mono B3.out.size))
    have T4 := Lib.hid t
    clear t b
    go_wp2_with fail
    cases x
    · refine (H6.out _ T4.out).mono ?_
      rintro e w5 ⟨rfl, t, b⟩
      have B5 := Lib.hid (B4.out.trans (b.mono B4.out.size))
      have T5 := Lib.hid t
      clear t b
      go_wp2_with fail
      go_ret
      exact ⟨rfl, B5.out⟩
    · refine (H6.out _ T4.out).mono ?_
      rintro e w5 ⟨rfl, t, b⟩
      have B5 := Lib.hid (B4.out.trans (b.mono B4.out.size))
      have T5 := Lib.hid t
      clear t b
      go_wp2_with fail
      refine (H7.out _ T5.out).mono ?_
      rintro e w6 ⟨rfl, t, b⟩
      have B6 := Lib.hid (B5.out.trans (b.mono B5.out.size))
      have T6 := Lib.hid t
      clear t b
      go_wp2_with fail
      go_ret
      exact ⟨rfl, B6.out⟩
  · obtain rfl : z = true := HC.out (by simp)
    refine (H3.out _ T2.out).mono ?_
    rintro e w3 ⟨rfl, t, b⟩
    have B3 := Lib.hid (B2.out.trans (b.mono B2.out.size))
    have T3 := Lib.hid t
    clear t b
    go_wp2_with fail
    refine (H4.out _ T3.out).mono ?_
    rintro e w4 ⟨rfl, t, b⟩
    have B4 := Lib.hid (B3.out.trans (b.mono B3.out.size))
    have T4 := Lib.hid t
    clear t b
    go_wp2_with fail
    refine (H5.out _ T4.out).mono ?_
    rintro e w5 ⟨rfl, t, b⟩
    have B5 := Lib.hid (B4.out.trans (b.mono B4.out.size))
    have T5 := Lib.hid t
    clear t b
    go_wp2_with fail
    cases x
    · refine (H6.out _ T5.out).mono ?_
      rintro e w6 ⟨rfl, t, b⟩
      have B6 := Lib.hid (B5.out.trans (b.mono B5.out.size))
      have T6 := Lib.hid t
      clear t b
      go_wp2_with fail
      go_ret
      exact ⟨rfl, B6.out⟩
    · refine (H6.out _ T5.out).mono ?_
      rintro e w6 ⟨rfl, t, b⟩
      have B6 := Lib.hid (B5.out.trans (b.mono B5.out.size))
      have T6 := Lib.hid t
      clear t b
      go_wp2_with fail
      refine (H7.out _ T6.out).mono ?_
      rintro e w7 ⟨rfl, t, b⟩
      have B7 := Lib.hid (B6.out.trans (b.mono B6.out.size))
      have T7 := Lib.hid t
      clear t b
      go_wp2_with fail
      go_ret
      exact ⟨rfl, B7.out⟩
set_option maxHeartbeats 4000000 in
theorem modesLaws (a b c : Int) (w : World) (hT : Tab w) : Calls Tryd.prog 4 #[.int .i64 a, .int .i64 b, .int .i64 c] w fun e w' => e = .returned (.bool true) ∧ Below w.heap.size w w' := by
  have H0 := Lib.hid alive_
  have HT := Lib.hid hT
  clear hT
  by_cases a0 : a < 0
  · go_enter Tryd.func4, Tryd.ntmps4
    go_wp2_with fail
    refine (H0.out _ HT.out).mono ?_
    rintro e w0 ⟨rfl, ht, hb⟩
    have T0 := Lib.hid ht
    have B0 := Lib.hid hb
    clear ht hb
    go_wp2_with fail
    go_ret
    exact ⟨rfl, B0.out⟩
  by_cases a5 : 5 < a
  · go_enter Tryd.func4, Tryd.ntmps4
    go_wp2_with fail
    refine (H0.out _ HT.out).mono ?_
    rintro e w0 ⟨rfl, ht, hb⟩
    have T0 := Lib.hid ht
    have B0 := Lib.hid hb
    clear ht hb
    go_wp2_with fail
    go_ret
    exact ⟨rfl, B0.out⟩
  by_cases b0 : b < 0
  · go_enter Tryd.func4, Tryd.ntmps4
    go_wp2_with fail
    refine (H0.out _ HT.out).mono ?_
    rintro e w0 ⟨rfl, ht, hb⟩
    have T0 := Lib.hid ht
    have B0 := Lib.hid hb
    clear ht hb
    go_wp2_with fail
    go_ret
    exact ⟨rfl, B0.out⟩
  by_cases b5 : 5 < b
  · go_enter Tryd.func4, Tryd.ntmps4
    go_wp2_with fail
    refine (H0.out _ HT.out).mono ?_
    rintro e w0 ⟨rfl, ht, hb⟩
    have T0 := Lib.hid ht
    have B0 := Lib.hid hb
    clear ht hb
    go_wp2_with fail
    go_ret
    exact ⟨rfl, B0.out⟩
  by_cases c0 : c < 0
  · go_enter Tryd.func4, Tryd.ntmps4
    go_wp2_with fail
    refine (H0.out _ HT.out).mono ?_
    rintro e w0 ⟨rfl, ht, hb⟩
    have T0 := Lib.hid ht
    have B0 := Lib.hid hb
    clear ht hb
    go_wp2_with fail
    go_ret
    exact ⟨rfl, B0.out⟩
  by_cases c5 : 5 < c
  · go_enter Tryd.func4, Tryd.ntmps4
    go_wp2_with fail
    refine (H0.out _ HT.out).mono ?_
    rintro e w0 ⟨rfl, ht, hb⟩
    have T0 := Lib.hid ht
    have B0 := Lib.hid hb
    clear ht hb
    go_wp2_with fail
    go_ret
    exact ⟨rfl, B0.out⟩
  obtain ⟨p, rfl⟩ := Int.eq_ofNat_of_zero_le (by omega : 0 ≤ a)
  obtain ⟨q, rfl⟩ := Int.eq_ofNat_of_zero_le (by omega : 0 ≤ b)
  obtain ⟨r, rfl⟩ := Int.eq_ofNat_of_zero_le (by omega : 0 ≤ c)
  have hp : p < 6 := by omega
  have hq : q < 6 := by omega
  have hr : r < 6 := by omega
  have hj := joinN_lt hp hq
  have h1 := says_join p q
  have h2 := says_fits p q
  have h3 := says_fits q p
  have h4 := says_covers p q
  have h5 := says_fits p r
  have h6 := says_fits q r
  have h7 := says_covers (joinN p q : Nat) p
  have h8 := says_covers (joinN p q : Nat) q
  have h9 := says_join q p
  have h10 := says_join p p
  have h11 := says_covers r p
  have h12 := says_covers r q
  have h13 := says_covers r (joinN p q : Nat)
  have h14 := says_covers q p
  rw [mdN_of hp, mdN_of hq] at h1 h2 h4
  rw [mdN_of hq, mdN_of hp, fit_comm hq hp] at h3
  rw [mdN_of hp, mdN_of hr] at h5
  rw [mdN_of hq, mdN_of hr] at h6
  rw [mdN_of hj, mdN_of hp, join_left hp hq] at h7
  rw [mdN_of hj, mdN_of hq, join_right hp hq] at h8
  rw [mdN_of hq, mdN_of hp, join_comm hp hq] at h9
  rw [mdN_of hp, join_self hp] at h10
  rw [mdN_of hr, mdN_of hp] at h11
  rw [mdN_of hr, mdN_of hq] at h12
  rw [mdN_of hr, mdN_of hj] at h13
  rw [mdN_of hq, mdN_of hp] at h14
  have k1 := cov_fit hp hq hr
  have k2 := join_least hp hq hr
  have k3 := cov_anti hp hq
  generalize fitB p q = x at *
  generalize covB p q = y at *
  generalize fitB p r = u at *
  generalize fitB q r = z at *
  generalize covB r p = s at *
  generalize covB r q = t at *
  generalize covB r (joinN p q) = g at *
  generalize covB q p = o at *
  generalize ((joinN p q : Nat) : Int) = j at *
  have K1 := Lib.hid k1
  have K2 := Lib.hid k2
  have K3 := Lib.hid k3
  clear hp hq hr hj k1 k2 k3
  have H1 := Lib.hid h1
  have H2 := Lib.hid h2
  have H3 := Lib.hid h3
  have H4 := Lib.hid h4
  have H5 := Lib.hid h5
  have H6 := Lib.hid h6
  have H7 := Lib.hid h7
  have H8 := Lib.hid h8
  have H9 := Lib.hid h9
  have H10 := Lib.hid h10
  have H11 := Lib.hid h11
  have H12 := Lib.hid h12
  have H13 := Lib.hid h13
  have H14 := Lib.hid h14
  clear h1 h2 h3 h4 h5 h6 h7 h8 h9 h10 h11 h12 h13 h14
  go_enter Tryd.func4, Tryd.ntmps4
  go_wp2_with fail
  refine (H0.out _ HT.out).mono ?_
  rintro e w0 ⟨rfl, ht, hb⟩
  have T0 := Lib.hid ht
  have B0 := Lib.hid hb
  clear ht hb
  go_wp2_with fail
  refine (H1.out _ T0.out).mono ?_
  rintro e w1 ⟨rfl, ht, hb⟩
  have B1 := Lib.hid (B0.out.trans (hb.mono B0.out.size))
  have T1 := Lib.hid ht
  clear ht hb
  go_wp2_with fail
  refine (H2.out _ T1.out).mono ?_
  rintro e w2 ⟨rfl, ht, hb⟩
  have B2 := Lib.hid (B1.out.trans (hb.mono B1.out.size))
  have T2 := Lib.hid ht
  clear ht hb
  go_wp2_with fail
  refine (H3.out _ T2.out).mono ?_
  rintro e w3 ⟨rfl, ht, hb⟩
  have B3 := Lib.hid (B2.out.trans (hb.mono B2.out.size))
  have T3 := Lib.hid ht
  clear ht hb
  go_wp2_with fail
  cases y
  · refine (H4.out _ T3.out).mono ?_
    rintro e w4 ⟨rfl, ht, hb⟩
    have B4 := Lib.hid (B3.out.trans (hb.mono B3.out.size))
    have T4 := Lib.hid ht
    clear ht hb
    go_wp2_with fail
    refine (H7.out _ T4.out).mono ?_
    rintro e w5 ⟨rfl, ht, hb⟩
    have B5 := Lib.hid (B4.out.trans (hb.mono B4.out.size))
    have T5 := Lib.hid ht
    clear ht hb
    go_wp2_with fail
    refine (H8.out _ T5.out).mono ?_
    rintro e w6 ⟨rfl, ht, hb⟩
    have B6 := Lib.hid (B5.out.trans (hb.mono B5.out.size))
    have T6 := Lib.hid ht
    clear ht hb
    go_wp2_with fail
    refine (H9.out _ T6.out).mono ?_
    rintro e w7 ⟨rfl, ht, hb⟩
    have B7 := Lib.hid (B6.out.trans (hb.mono B6.out.size))
    have T7 := Lib.hid ht
    clear ht hb
    go_wp2_with fail
    refine (H10.out _ T7.out).mono ?_
    rintro e w8 ⟨rfl, ht, hb⟩
    have B8 := Lib.hid (B7.out.trans (hb.mono B7.out.size))
    have T8 := Lib.hid ht
    clear ht hb
    go_wp2_with fail
    cases s
    · refine (H11.out _ T8.out).mono ?_
      rintro e w9 ⟨rfl, ht, hb⟩
      have B9 := Lib.hid (B8.out.trans (hb.mono B8.out.size))
      have T9 := Lib.hid ht
      clear ht hb
      go_wp2_with fail
      refine (H4.out _ T9.out).mono ?_
      rintro e w10 ⟨rfl, ht, hb⟩
      have B10 := Lib.hid (B9.out.trans (hb.mono B9.out.size))
      have T10 := Lib.hid ht
      clear ht hb
      go_wp2_with fail
      go_ret
      exact ⟨rfl, B10.out⟩
    · refine (H11.out _ T8.out).mono ?_
      rintro e w9 ⟨rfl, ht, hb⟩
      have B9 := Lib.hid (B8.out.trans (hb.mono B8.out.size))
      have T9 := Lib.hid ht
      clear ht hb
      go_wp2_with fail
      cases t
      · refine (H12.out _ T9.out).mono ?_
        rintro e w10 ⟨rfl, ht, hb⟩
        have B10 := Lib.hid (B9.out.trans (hb.mono B9.out.size))
        have T10 := Lib.hid ht
        clear ht hb
        go_wp2_with fail
        refine (H4.out _ T10.out).mono ?_
        rintro e w11 ⟨rfl, ht, hb⟩
        have B11 := Lib.hid (B10.out.trans (hb.mono B10.out.size))
        have T11 := Lib.hid ht
        clear ht hb
        go_wp2_with fail
        go_ret
        exact ⟨rfl, B11.out⟩
      · obtain rfl : g = true := K2.out (by simp) (by simp)
        refine (H12.out _ T9.out).mono ?_
        rintro e w10 ⟨rfl, ht, hb⟩
        have B10 := Lib.hid (B9.out.trans (hb.mono B9.out.size))
        have T10 := Lib.hid ht
        clear ht hb
        go_wp2_with fail
        refine (H13.out _ T10.out).mono ?_
        rintro e w11 ⟨rfl, ht, hb⟩
        have B11 := Lib.hid (B10.out.trans (hb.mono B10.out.size))
        have T11 := Lib.hid ht
        clear ht hb
        go_wp2_with fail
        refine (H4.out _ T11.out).mono ?_
        rintro e w12 ⟨rfl, ht, hb⟩
        have B12 := Lib.hid (B11.out.trans (hb.mono B11.out.size))
        have T12 := Lib.hid ht
        clear ht hb
        go_wp2_with fail
        go_ret
        exact ⟨rfl, B12.out⟩
  · refine (H4.out _ T3.out).mono ?_
    rintro e w4 ⟨rfl, ht, hb⟩
    have B4 := Lib.hid (B3.out.trans (hb.mono B3.out.size))
    have T4 := Lib.hid ht
    clear ht hb
    go_wp2_with fail
    cases u
    · refine (H5.out _ T4.out).mono ?_
      rintro e w5 ⟨rfl, ht, hb⟩
      have B5 := Lib.hid (B4.out.trans (hb.mono B4.out.size))
      have T5 := Lib.hid ht
      clear ht hb
      go_wp2_with fail
      refine (H7.out _ T5.out).mono ?_
      rintro e w6 ⟨rfl, ht, hb⟩
      have B6 := Lib.hid (B5.out.trans (hb.mono B5.out.size))
      have T6 := Lib.hid ht
      clear ht hb
      go_wp2_with fail
      refine (H8.out _ T6.out).mono ?_
      rintro e w7 ⟨rfl, ht, hb⟩
      have B7 := Lib.hid (B6.out.trans (hb.mono B6.out.size))
      have T7 := Lib.hid ht
      clear ht hb
      go_wp2_with fail
      refine (H9.out _ T7.out).mono ?_
      rintro e w8 ⟨rfl, ht, hb⟩
      have B8 := Lib.hid (B7.out.trans (hb.mono B7.out.size))
      have T8 := Lib.hid ht
      clear ht hb
      go_wp2_with fail
      refine (H10.out _ T8.out).mono ?_
      rintro e w9 ⟨rfl, ht, hb⟩
      have B9 := Lib.hid (B8.out.trans (hb.mono B8.out.size))
      have T9 := Lib.hid ht
      clear ht hb
      go_wp2_with fail
      cases s
      · refine (H11.out _ T9.out).mono ?_
        rintro e w10 ⟨rfl, ht, hb⟩
        have B10 := Lib.hid (B9.out.trans (hb.mono B9.out.size))
        have T10 := Lib.hid ht
        clear ht hb
        go_wp2_with fail
        refine (H4.out _ T10.out).mono ?_
        rintro e w11 ⟨rfl, ht, hb⟩
        have B11 := Lib.hid (B10.out.trans (hb.mono B10.out.size))
        have T11 := Lib.hid ht
        clear ht hb
        go_wp2_with fail
        cases o
        · refine (H14.out _ T11.out).mono ?_
          rintro e w12 ⟨rfl, ht, hb⟩
          have B12 := Lib.hid (B11.out.trans (hb.mono B11.out.size))
          have T12 := Lib.hid ht
          clear ht hb
          go_wp2_with fail
          go_ret
          exact ⟨rfl, B12.out⟩
        · obtain rfl := K3.out (by simp) (by simp)
          refine (H14.out _ T11.out).mono ?_
          rintro e w12 ⟨rfl, ht, hb⟩
          have B12 := Lib.hid (B11.out.trans (hb.mono B11.out.size))
          have T12 := Lib.hid ht
          clear ht hb
          go_wp2_with fail
          go_ret
          exact ⟨rfl, B12.out⟩
      · refine (H11.out _ T9.out).mono ?_
        rintro e w10 ⟨rfl, ht, hb⟩
        have B10 := Lib.hid (B9.out.trans (hb.mono B9.out.size))
        have T10 := Lib.hid ht
        clear ht hb
        go_wp2_with fail
        cases t
        · refine (H12.out _ T10.out).mono ?_
          rintro e w11 ⟨rfl, ht, hb⟩
          have B11 := Lib.hid (B10.out.trans (hb.mono B10.out.size))
          have T11 := Lib.hid ht
          clear ht hb
          go_wp2_with fail
          refine (H4.out _ T11.out).mono ?_
          rintro e w12 ⟨rfl, ht, hb⟩
          have B12 := Lib.hid (B11.out.trans (hb.mono B11.out.size))
          have T12 := Lib.hid ht
          clear ht hb
          go_wp2_with fail
          cases o
          · refine (H14.out _ T12.out).mono ?_
            rintro e w13 ⟨rfl, ht, hb⟩
            have B13 := Lib.hid (B12.out.trans (hb.mono B12.out.size))
            have T13 := Lib.hid ht
            clear ht hb
            go_wp2_with fail
            go_ret
            exact ⟨rfl, B13.out⟩
          · obtain rfl := K3.out (by simp) (by simp)
            refine (H14.out _ T12.out).mono ?_
            rintro e w13 ⟨rfl, ht, hb⟩
            have B13 := Lib.hid (B12.out.trans (hb.mono B12.out.size))
            have T13 := Lib.hid ht
            clear ht hb
            go_wp2_with fail
            go_ret
            exact ⟨rfl, B13.out⟩
        · obtain rfl : g = true := K2.out (by simp) (by simp)
          refine (H12.out _ T10.out).mono ?_
          rintro e w11 ⟨rfl, ht, hb⟩
          have B11 := Lib.hid (B10.out.trans (hb.mono B10.out.size))
          have T11 := Lib.hid ht
          clear ht hb
          go_wp2_with fail
          refine (H13.out _ T11.out).mono ?_
          rintro e w12 ⟨rfl, ht, hb⟩
          have B12 := Lib.hid (B11.out.trans (hb.mono B11.out.size))
          have T12 := Lib.hid ht
          clear ht hb
          go_wp2_with fail
          refine (H4.out _ T12.out).mono ?_
          rintro e w13 ⟨rfl, ht, hb⟩
          have B13 := Lib.hid (B12.out.trans (hb.mono B12.out.size))
          have T13 := Lib.hid ht
          clear ht hb
          go_wp2_with fail
          cases o
          · refine (H14.out _ T13.out).mono ?_
            rintro e w14 ⟨rfl, ht, hb⟩
            have B14 := Lib.hid (B13.out.trans (hb.mono B13.out.size))
            have T14 := Lib.hid ht
            clear ht hb
            go_wp2_with fail
            go_ret
            exact ⟨rfl, B14.out⟩
          · obtain rfl := K3.out (by simp) (by simp)
            refine (H14.out _ T13.out).mono ?_
            rintro e w14 ⟨rfl, ht, hb⟩
            have B14 := Lib.hid (B13.out.trans (hb.mono B13.out.size))
            have T14 := Lib.hid ht
            clear ht hb
            go_wp2_with fail
            go_ret
            exact ⟨rfl, B14.out⟩
    · obtain rfl : z = true := K1.out (by simp) (by simp)
      refine (H5.out _ T4.out).mono ?_
      rintro e w5 ⟨rfl, ht, hb⟩
      have B5 := Lib.hid (B4.out.trans (hb.mono B4.out.size))
      have T5 := Lib.hid ht
      clear ht hb
      go_wp2_with fail
      refine (H6.out _ T5.out).mono ?_
      rintro e w6 ⟨rfl, ht, hb⟩
      have B6 := Lib.hid (B5.out.trans (hb.mono B5.out.size))
      have T6 := Lib.hid ht
      clear ht hb
      go_wp2_with fail
      refine (H7.out _ T6.out).mono ?_
      rintro e w7 ⟨rfl, ht, hb⟩
      have B7 := Lib.hid (B6.out.trans (hb.mono B6.out.size))
      have T7 := Lib.hid ht
      clear ht hb
      go_wp2_with fail
      refine (H8.out _ T7.out).mono ?_
      rintro e w8 ⟨rfl, ht, hb⟩
      have B8 := Lib.hid (B7.out.trans (hb.mono B7.out.size))
      have T8 := Lib.hid ht
      clear ht hb
      go_wp2_with fail
      refine (H9.out _ T8.out).mono ?_
      rintro e w9 ⟨rfl, ht, hb⟩
      have B9 := Lib.hid (B8.out.trans (hb.mono B8.out.size))
      have T9 := Lib.hid ht
      clear ht hb
      go_wp2_with fail
      refine (H10.out _ T9.out).mono ?_
      rintro e w10 ⟨rfl, ht, hb⟩
      have B10 := Lib.hid (B9.out.trans (hb.mono B9.out.size))
      have T10 := Lib.hid ht
      clear ht hb
      go_wp2_with fail
      cases s
      · refine (H11.out _ T10.out).mono ?_
        rintro e w11 ⟨rfl, ht, hb⟩
        have B11 := Lib.hid (B10.out.trans (hb.mono B10.out.size))
        have T11 := Lib.hid ht
        clear ht hb
        go_wp2_with fail
        refine (H4.out _ T11.out).mono ?_
        rintro e w12 ⟨rfl, ht, hb⟩
        have B12 := Lib.hid (B11.out.trans (hb.mono B11.out.size))
        have T12 := Lib.hid ht
        clear ht hb
        go_wp2_with fail
        cases o
        · refine (H14.out _ T12.out).mono ?_
          rintro e w13 ⟨rfl, ht, hb⟩
          have B13 := Lib.hid (B12.out.trans (hb.mono B12.out.size))
          have T13 := Lib.hid ht
          clear ht hb
          go_wp2_with fail
          go_ret
          exact ⟨rfl, B13.out⟩
        · obtain rfl := K3.out (by simp) (by simp)
          refine (H14.out _ T12.out).mono ?_
          rintro e w13 ⟨rfl, ht, hb⟩
          have B13 := Lib.hid (B12.out.trans (hb.mono B12.out.size))
          have T13 := Lib.hid ht
          clear ht hb
          go_wp2_with fail
          go_ret
          exact ⟨rfl, B13.out⟩
      · refine (H11.out _ T10.out).mono ?_
        rintro e w11 ⟨rfl, ht, hb⟩
        have B11 := Lib.hid (B10.out.trans (hb.mono B10.out.size))
        have T11 := Lib.hid ht
        clear ht hb
        go_wp2_with fail
        cases t
        · refine (H12.out _ T11.out).mono ?_
          rintro e w12 ⟨rfl, ht, hb⟩
          have B12 := Lib.hid (B11.out.trans (hb.mono B11.out.size))
          have T12 := Lib.hid ht
          clear ht hb
          go_wp2_with fail
          refine (H4.out _ T12.out).mono ?_
          rintro e w13 ⟨rfl, ht, hb⟩
          have B13 := Lib.hid (B12.out.trans (hb.mono B12.out.size))
          have T13 := Lib.hid ht
          clear ht hb
          go_wp2_with fail
          cases o
          · refine (H14.out _ T13.out).mono ?_
            rintro e w14 ⟨rfl, ht, hb⟩
            have B14 := Lib.hid (B13.out.trans (hb.mono B13.out.size))
            have T14 := Lib.hid ht
            clear ht hb
            go_wp2_with fail
            go_ret
            exact ⟨rfl, B14.out⟩
          · obtain rfl := K3.out (by simp) (by simp)
            refine (H14.out _ T13.out).mono ?_
            rintro e w14 ⟨rfl, ht, hb⟩
            have B14 := Lib.hid (B13.out.trans (hb.mono B13.out.size))
            have T14 := Lib.hid ht
            clear ht hb
            go_wp2_with fail
            go_ret
            exact ⟨rfl, B14.out⟩
        · obtain rfl : g = true := K2.out (by simp) (by simp)
          refine (H12.out _ T11.out).mono ?_
          rintro e w12 ⟨rfl, ht, hb⟩
          have B12 := Lib.hid (B11.out.trans (hb.mono B11.out.size))
          have T12 := Lib.hid ht
          clear ht hb
          go_wp2_with fail
          refine (H13.out _ T12.out).mono ?_
          rintro e w13 ⟨rfl, ht, hb⟩
          have B13 := Lib.hid (B12.out.trans (hb.mono B12.out.size))
          have T13 := Lib.hid ht
          clear ht hb
          go_wp2_with fail
          refine (H4.out _ T13.out).mono ?_
          rintro e w14 ⟨rfl, ht, hb⟩
          have B14 := Lib.hid (B13.out.trans (hb.mono B13.out.size))
          have T14 := Lib.hid ht
          clear ht hb
          go_wp2_with fail
          cases o
          · refine (H14.out _ T14.out).mono ?_
            rintro e w15 ⟨rfl, ht, hb⟩
            have B15 := Lib.hid (B14.out.trans (hb.mono B14.out.size))
            have T15 := Lib.hid ht
            clear ht hb
            go_wp2_with fail
            go_ret
            exact ⟨rfl, B15.out⟩
          · obtain rfl := K3.out (by simp) (by simp)
            refine (H14.out _ T14.out).mono ?_
            rintro e w15 ⟨rfl, ht, hb⟩
            have B15 := Lib.hid (B14.out.trans (hb.mono B14.out.size))
            have T15 := Lib.hid ht
            clear ht hb
            go_wp2_with fail
            go_ret
            exact ⟨rfl, B15.out⟩
end Go.Proofs.YtdcoodofchielaaDoor
