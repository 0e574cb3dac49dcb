/- WaitsChain: those that wait in a row are in no ring; two rings with one in common are one. -/
import Derived.Test.YtoojoldcomokhaaWtE
import Derived.Test.YtoojoldcomokhaaWtS
set_option maxRecDepth 4000
namespace Go.Proofs.Ytoojoldcomokhaa
open Go.RowKit
def C1 (w : World) (N k : Nat) (v i : Value) (wr : World) : Prop :=
  ∃ j, j + k = N ∧ i = .int .i64 (j : Int) ∧ Own wr w.heap.size eE 30 v (chn 0 j) ∧ Below w.heap.size w wr
def C2 (w : World) (N k : Nat) (i : Value) (wr : World) : Prop :=
  ∃ j, j + k = N ∧ i = .int .i64 (j : Int) ∧ Below w.heap.size w wr
def C3 (w : World) (pre : List (Int × Int)) (n m k : Nat) (v i : Value) (wr : World) : Prop :=
  ∃ j, j + k = m ∧ i = .int .i64 ((n + j : Nat) : Int) ∧ Own wr w.heap.size eE 30 v (pre ++ chn n j) ∧ Below w.heap.size w wr
theorem wf_chn {a j : Nat} (h : a + j ≤ 1000) : ∀ e ∈ chn a j, Wf e.1 ∧ Wf e.2 := fun e he => by
  obtain ⟨x, _, _, rfl⟩ := of_chn he
  exact ⟨wf_small (by simp only; omega), wf_small (by simp only; omega)⟩
theorem wf_eight {n m : Nat} (hn : 2 ≤ n) (hn2 : n ≤ 20) (hm : 2 ≤ m) (hm2 : m ≤ 20) : ∀ e ∈ eight n m, Wf e.1 ∧ Wf e.2 := fun e he => by
  unfold eight at he
  rcases List.mem_append.1 he with he | he
  · rcases List.mem_append.1 he with he | he
    · exact wf_chn (by omega) e he
    · simp at he
      rcases he with rfl | rfl | rfl <;> exact ⟨wf_small (by simp only; omega), wf_small (by simp only; omega)⟩
  · exact wf_chn (by omega) e he
set_option maxHeartbeats 4000000 in
theorem waitsChain {w : World} (n0 m0 u : Int) (hu : (Lit.int .i64 u).wf = true) :
    Calls Try.prog 5 #[.int .i64 n0, .int .i64 m0, .int .i64 u] w fun e w' => e = .returned (.bool true) ∧ Below w.heap.size w w' := by
  by_cases h : (2 ≤ n0 ∧ n0 ≤ 20) ∧ (2 ≤ m0 ∧ m0 ≤ 20) ∧ 0 ≤ u
  · obtain ⟨⟨n1, n2⟩, ⟨m1, m2⟩, u1⟩ := h
    obtain ⟨n, rfl⟩ := Int.eq_ofNat_of_zero_le (show 0 ≤ n0 by omega)
    obtain ⟨m, rfl⟩ := Int.eq_ofNat_of_zero_le (show 0 ≤ m0 by omega)
    have hn1 : 2 ≤ n := by omega
    have hn2 : n ≤ 20 := by omega
    have hm1 : 2 ≤ m := by omega
    have hm2 : m ≤ 20 := by omega
    have d1 : decide ((n : Int) < 2) = false := by simp; omega
    have d2 : decide ((20 : Int) < (n : Int)) = false := by simp; omega
    have d3 : decide ((m : Int) < 2) = false := by simp; omega
    have d4 : decide ((20 : Int) < (m : Int)) = false := by simp; omega
    have d5 : decide (u < 0) = false := by simp; omega
    have HU := Lib.hid hu
    clear n1 n2 m1 m2 hu
    go_enter Try.func5, Try.ntmps5
    go_wp2_with fail
    refine (alive w).mono ?_
    rintro e w1 ⟨rfl, hb1⟩
    have HB1 := Lib.hid hb1
    clear hb1
    go_wp2_with fail
    go_loopg [8, 9] (n - 1) (fun k v i wr => C1 w1 (n - 1) k v i wr)
    case atStart => exact ⟨0, by omega, rfl, own_nil _ _, Below.refl _ _⟩
    case round =>
      obtain ⟨j, hj, rfl, ho, hb⟩ := hrel
      have HJ := Lib.hid hj
      have hjN : j + 1 ≤ n := by omega
      have HO := Lib.hid ho
      have HB := Lib.hid hb
      clear hj ho hb
      by_cases hlt : j + 1 < n
      · have hlt2 : (j : Int) + 1 < (n : Int) := by omega
        obtain ⟨v', W', hap, ho', hb'⟩ := append_edges HO.out HB.out.size (by rw [chn_length]; omega) HB.out [((j : Int), (j : Int) + 1)] (m := 1) rfl (by omega) rfl
        have hcn : chn 0 j ++ [((j : Int), (j : Int) + 1)] = chn 0 (j + 1) := by
          rw [chn_next, Nat.zero_add]; simp
        rw [hcn] at ho'
        have HAP := Lib.hid hap
        have HO2 := Lib.hid ho'
        have HB2 := Lib.hid hb'
        clear hap ho' hb' hcn
        go_wp2_with (at_builtin; refine wpList_append_run rfl (.tmp 44) (.tmp 49) 22 22 rfl _ _ rfl rfl HAP.out ?_)
        go_roundg (n - 1 - (j + 1))
        case measure => have := HJ.out; omega
        case rel => exact ⟨j + 1, by omega, by go_num, HO2.out, HB2.out⟩
      · have hj1 : j = n - 1 := by omega
        have ho := HO.out
        rw [hj1] at ho
        have hv : (j : Int) = (n : Int) - 1 := by omega
        have hlt2 : ¬ ((j : Int) + 1 < (n : Int)) := by omega
        have HO1 := Lib.hid ho
        obtain ⟨A5, c5, rfl, hl5, hc5, _⟩ := own_lst ho
        rw [chn_length] at hc5 hl5 ⊢
        have HL5 := Lib.hid hl5
        clear ho hlt HJ HO hl5 hj1 hv
        go_wp2_with fail
        obtain ⟨wa, hwa⟩ : ∃ x, x = wr := ⟨_, rfl⟩
        subst hwa
        have HWF := Lib.hid (wf_chn (a := 0) (j := n - 1) (by omega))
        go_loopg [10] n (fun k i wz => C2 wa n k i wz)
        case atStart => exact ⟨0, by omega, rfl, Below.refl _ _⟩
        case round =>
          obtain ⟨j, hj, rfl, hb⟩ := hrel
          have HJ := Lib.hid hj
          have hjN : j ≤ n := by omega
          have HBR := Lib.hid hb
          clear hj hb
          by_cases hlt : j < n
          · go_wp2_with fail
            refine (ring_ (HL5.out.below HBR.out) (chn_length 0 (n - 1)) (by omega) HWF.out (wf_small (x := (j : Int)) (by omega))).mono ?_
            rintro e w2 ⟨v6, r, rfl, ho6, hr, hb⟩
            obtain rfl := hr.unique (ring_chn (n - 1) (j : Int))
            obtain ⟨A6, c6, rfl, _⟩ := own_lst ho6
            have HB2 := Lib.hid (HBR.out.trans (hb.mono HBR.out.size))
            clear ho6 hr hb
            go_wp2_with fail
            go_roundg (n - (j + 1))
            case measure => have := HJ.out; omega
            case rel => exact ⟨j + 1, by have := HJ.out; omega, by go_num, HB2.out⟩
          · obtain rfl : n = j := by omega
            have hbb := HB.out.trans (HBR.out.mono HB.out.size)
            obtain ⟨v', W', hap, ho', hb'⟩ := append_edges (own_belowE HO1.out HBR.out) hbb.size (by rw [chn_length]; omega) hbb [((n : Int) - 1, 0), (0, (n : Int)), ((n : Int) + (m : Int) - 2, 0)] (m := 3) rfl (by omega) rfl
            have HAP := Lib.hid hap
            have HO2 := Lib.hid ho'
            have HB2 := Lib.hid hb'
            clear hap ho' hb' hbb HL5 HBR HB HO1 hlt HJ
            rw [chn_length] at HAP
            go_wp2_with (at_builtin; refine wpList_append_run rfl (.tmp 61) (.tmp 72) 22 22 rfl _ _ rfl rfl HAP.out ?_)
            go_loopg [8, 11] (m - 2) (fun k v i wz => C3 w1 (chn 0 (n - 1) ++ [((n : Int) - 1, 0), (0, (n : Int)), ((n : Int) + (m : Int) - 2, 0)]) n (m - 2) k v i wz)
            case atStart => exact ⟨0, by omega, by simp, by simpa [chn] using HO2.out, HB2.out⟩
            case round =>
              clear HO2 HB2
              obtain ⟨j, hj, rfl, ho, hb⟩ := hrel
              have HJ := Lib.hid hj
              have HO := Lib.hid ho
              have HB := Lib.hid hb
              have hjm : j + 2 ≤ m := by omega
              clear hj ho hb
              obtain ⟨x, hx⟩ : ∃ x, n + j = x := ⟨_, rfl⟩
              rw [hx]
              have HX := Lib.hid hx
              have hxm : x ≤ 40 := by omega
              by_cases hlt : j < m - 2
              · have hlt2 : (x : Int) + 1 < (n : Int) + (m : Int) - 1 := by omega
                obtain ⟨v', W', hap, ho', hb'⟩ := append_edges HO.out HB.out.size (by rw [List.length_append, List.length_append, chn_length, chn_length]; simp; omega) HB.out [((x : Int), (x : Int) + 1)] (m := 1) rfl (by omega) rfl
                have hcn : (chn 0 (n - 1) ++ [((n : Int) - 1, 0), (0, (n : Int)), ((n : Int) + (m : Int) - 2, 0)] ++ chn n j) ++ [((x : Int), (x : Int) + 1)] = chn 0 (n - 1) ++ [((n : Int) - 1, 0), (0, (n : Int)), ((n : Int) + (m : Int) - 2, 0)] ++ chn n (j + 1) := by
                  rw [chn_next, hx, List.append_assoc _ (chn n j)]; simp
                rw [hcn] at ho'
                have HAP := Lib.hid hap
                have HO2 := Lib.hid ho'
                have HB2 := Lib.hid hb'
                clear hap ho' hb' hcn hx
                go_wp2_with (at_builtin; refine wpList_append_run rfl (.tmp 84) (.tmp 89) 22 22 rfl _ _ rfl rfl HAP.out ?_)
                go_roundg (m - 2 - (j + 1))
                case measure => have := HJ.out; omega
                case rel => exact ⟨j + 1, by have := HJ.out; omega, by have := HX.out; go_num, HO2.out, HB2.out⟩
              · obtain ⟨N, hN⟩ : ∃ N, n + m - 1 = N := ⟨_, rfl⟩
                have hlt2 : ¬ ((x : Int) + 1 < (n : Int) + (m : Int) - 1) := by omega
                have ho := HO.out
                rw [show j = m - 2 by have := HJ.out; omega, show chn 0 (n - 1) ++ [((n : Int) - 1, 0), (0, (n : Int)), ((n : Int) + (m : Int) - 2, 0)] ++ chn n (m - 2) = eight n m from rfl] at ho
                obtain ⟨n', hn'⟩ : ∃ n', (eight n m).length = n' := ⟨_, rfl⟩
                have hn60 : n' ≤ 60 := by
                  rw [← hn']; unfold eight
                  rw [List.length_append, List.length_append, chn_length, chn_length]; simp; omega
                obtain ⟨A5, c5, rfl, hl5, _⟩ := own_lst ho
                rw [hn'] at hl5 ⊢
                obtain ⟨y, hy⟩ : ∃ y, u.tmod (N : Int) = y := ⟨_, rfl⟩
                have hy0 : 0 ≤ y := by rw [← hy]; exact Int.tmod_nonneg _ u1
                have hyN : y < (N : Int) := by rw [← hy]; exact Int.tmod_lt_of_pos _ (by omega)
                have hr0 := ring_eight hn1 hm1 (who := y) ⟨hy0, by rw [hN]; exact hyN⟩
                rw [hN] at hr0
                have HR := Lib.hid hr0
                have HL5 := Lib.hid hl5
                have HN5 := Lib.hid hn'
                have HWE := Lib.hid (wf_eight hn1 hn2 hm1 hm2)
                have HY := Lib.hid (wf_small (x := y) (by omega))
                have hNb : N ≤ 39 := by omega
                have hN0 : 0 < N := by omega
                have i1 : (n : Int) + (m : Int) - 1 = (N : Int) := by omega
                have i2 : (n : Int) + (m : Int) - 2 = (N : Int) - 1 := by omega
                have hNz : ((N : Int) == 0) = false := by simp; omega
                clear ho hr0 hl5 hn' HO hx hy0 hyN hN
                go_wp2_with fail
                refine (victim_ HL5.out HN5.out (by omega) HWE.out HY.out).mono ?_
                rintro e w2 ⟨r, hr, rfl, hb⟩
                obtain rfl := hr.unique HR.out
                rw [rangeI_last hN0, rangeI_some hN0]
                have HB2 := Lib.hid (HB.out.trans (hb.mono HB.out.size))
                have HL52 := Lib.hid (HL5.out.below hb)
                clear hr hb HL5
                have e1 : ((N : Int) - 1 == (N : Int) - 1) = true := by simp
                have e2 : ((N : Int) == (N : Int)) = true := by simp
                go_wp2_with fail
                refine (ring_ HL52.out HN5.out (by omega) HWE.out HY.out).mono ?_
                rintro e w3 ⟨v6, r, rfl, ho6, hr, hb⟩
                obtain rfl := hr.unique HR.out
                obtain ⟨A6, c6, rfl, _⟩ := own_lst ho6
                rw [rangeI_length]
                have HB3 := Lib.hid (HB1.out.trans ((HB2.out.trans (hb.mono HB2.out.size)).mono HB1.out.size))
                clear ho6 hr hb HL52
                go_wp2_with fail
                go_ret
                exact ⟨rfl, HB3.out⟩
  · have hor : (n0 < 2 ∨ 20 < n0) ∨ (m0 < 2 ∨ 20 < m0) ∨ u < 0 := by omega
    clear h
    go_enter Try.func5, Try.ntmps5
    go_wp2_with fail
    refine (alive w).mono ?_
    rintro e w1 ⟨rfl, hb⟩
    have HB := Lib.hid hb
    clear hb
    go_wp2_with fail
    all_goals first | (go_ret; exact ⟨rfl, HB.out⟩) | (exfalso; omega)
end Go.Proofs.Ytoojoldcomokhaa
