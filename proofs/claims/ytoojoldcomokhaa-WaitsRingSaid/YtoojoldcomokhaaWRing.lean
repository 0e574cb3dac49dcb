/- WaitsRing: a ring is found from each of its members, the same; without one of its edges there is none. -/
import Derived.Test.YtoojoldcomokhaaWtE
import Derived.Test.YtoojoldcomokhaaWtS
import Derived.Test.YtoojoldcomokhaaBits
import Derived.BigQuiet
set_option maxRecDepth 4000
namespace Go.Proofs.Ytoojoldcomokhaa
open Go.RowKit
def R1 (w : World) (N k : Nat) (v i : Value) (wr : World) : Prop :=
  ∃ j, j + k = N ∧ i = .int .i64 (j : Int) ∧ Own wr w.heap.size eE 30 v (cyc N j) ∧ Below w.heap.size w wr
def R2 (w : World) (N m k : Nat) (v i : Value) (wr : World) : Prop :=
  ∃ j xs, j + k = m ∧ i = .int .i64 (j : Int) ∧ xs.length = j ∧ Others N xs ∧ Own wr w.heap.size eE 30 v (cyc N N ++ xs) ∧ Below w.heap.size w wr
def R3 (w : World) (N k : Nat) (i : Value) (wr : World) : Prop :=
  ∃ j, j + k = N ∧ i = .int .i64 (j : Int) ∧ Below w.heap.size w wr
theorem others_snoc {n : Nat} {xs : List (Int × Int)} (h : Others n xs) {a b : Int} (ha : 100 ≤ a ∧ a ≤ 1000) (hb : 0 ≤ b ∧ b < n) : Others n (xs ++ [(a, b)]) := fun e he => by
  rcases List.mem_append.1 he with he | he
  · exact h e he
  · rw [List.mem_singleton.1 he]
    exact ⟨ha.1, ha.2, hb⟩
theorem wf_cyc {n : Nat} (hn : 0 < n) (hn2 : n ≤ 99) {xs : List (Int × Int)} (h : Others n xs) : ∀ e ∈ cyc n n ++ xs, Wf e.1 ∧ Wf e.2 := fun e he => by
  have ht := cyc_targets hn h e he
  rcases List.mem_append.1 he with he | he
  · obtain ⟨i, hi, rfl⟩ := of_cyc he
    exact ⟨wf_small (by simp only; omega), wf_small (by omega)⟩
  · have := h e he
    exact ⟨wf_small (by omega), wf_small (by omega)⟩
set_option maxHeartbeats 4000000 in
theorem waitsRing {w : World} (n q0 u0 : Int) {K : Nat → Prop} {A : Option Addr} {zs : List Int} {m c : Nat} (hl : Lst w K eI A zs) (hm : zs.length = m) :
    Calls Try.prog 4 #[.int .i64 n, .int .i64 q0, .int .i64 u0, .slice A m c] w fun e w' => e = .returned (.bool true) ∧ Below w.heap.size w w' := by
  by_cases h : (1 ≤ n ∧ n ≤ 30) ∧ (0 ≤ q0 ∧ q0 < n) ∧ (0 ≤ u0 ∧ u0 < n) ∧ m ≤ 30
  · obtain ⟨⟨n1, n2⟩, ⟨q1, q2⟩, ⟨u1, u2⟩, hm30⟩ := h
    obtain ⟨N, rfl⟩ := Int.eq_ofNat_of_zero_le (show 0 ≤ n by omega)
    obtain ⟨q, rfl⟩ := Int.eq_ofNat_of_zero_le q1
    obtain ⟨u, rfl⟩ := Int.eq_ofNat_of_zero_le u1
    have HL := Lib.hid hl
    have HM := Lib.hid hm
    have hN1 : 1 ≤ N := by omega
    have hN2 : N ≤ 30 := by omega
    have hqN : q < N := by omega
    have huN : u < N := by omega
    have hm3 : ¬ ((30 : Int) < (m : Int)) := by omega
    have hn3 : ¬ ((30 : Int) < (N : Int)) := by omega
    have hn4 : decide ((N : Int) < 1) = false := by simp; omega
    have hn5 : decide ((30 : Int) < (N : Int)) = false := by simp; omega
    have hm5 : decide ((30 : Int) < (m : Int)) = false := by simp; omega
    have hq3 : decide ((q : Int) < 0) = false := by simp
    have hu3 : decide ((u : Int) < 0) = false := by simp
    have hq4 : decide (N ≤ q) = false := by simp; omega
    have hu4 : decide (N ≤ u) = false := by simp; omega
    clear hl hm
    go_enter Try.func4, Try.ntmps4
    go_wp2_with fail
    refine (alive w).mono ?_
    rintro e w1 ⟨rfl, hb1⟩
    have HB1 := Lib.hid hb1
    clear hb1
    go_wp2_with fail
    go_loopg [10, 11] N (fun k v i wr => R1 w1 N k v i wr)
    case atStart => exact ⟨0, by omega, rfl, own_nil _ _, Below.refl _ _⟩
    case round =>
      obtain ⟨j, hj, rfl, ho, hb⟩ := hrel
      have HJ := Lib.hid hj
      have hjN : j ≤ N := by omega
      have HO := Lib.hid ho
      have HB := Lib.hid hb
      clear hj ho hb
      by_cases hlt : j < N
      · have hrem : ((j : Int) + 1).tmod (N : Int) = (((j + 1) % N : Nat) : Int) := by
          rw [Int.tmod_eq_emod_of_nonneg (by omega)]; norm_cast
        obtain ⟨v', W', hap, ho', hb'⟩ := append_edges HO.out HB.out.size (by rw [cyc_length]; omega) HB.out [((j : Int), (((j + 1) % N : Nat) : Int))] (m := 1) rfl (by omega) rfl
        rw [← cyc_next] at ho'
        have HAP := Lib.hid hap
        have HO2 := Lib.hid ho'
        have HB2 := Lib.hid hb'
        clear hap ho' hb'
        have hN0 : ((N : Int) == 0) = false := by simp; omega
        go_wp2_with (at_builtin; refine wpList_append_run rfl (.tmp 57) (.tmp 64) 22 22 rfl _ _ rfl rfl HAP.out ?_)
        go_roundg (N - (j + 1))
        case measure => have := HJ.out; omega
        case rel => exact ⟨j + 1, by omega, by go_num, HO2.out, HB2.out⟩
      · obtain rfl : N = j := by omega
        clear hlt HJ
        go_wp2_with fail
        go_loopg [10, 12] m (fun k v i wr => R2 w1 N m k v i wr)
        case atStart => exact ⟨0, [], by omega, rfl, rfl, fun _ h => (by cases h), by rw [List.append_nil]; exact HO.out, HB.out⟩
        case round =>
          clear HO HB
          obtain ⟨j, xs, hj, rfl, hxl, hot, ho, hb⟩ := hrel
          have HJ := Lib.hid hj
          have hjm : j ≤ m := by omega
          have HXL := Lib.hid hxl
          have HOT := Lib.hid hot
          have HO := Lib.hid ho
          have HB := Lib.hid hb
          clear hj ho hb hxl hot
          by_cases hlt : j < m
          · have hx : j < zs.length := by rw [HM.out]; exact hlt
            obtain ⟨g, o, rfl, _, d0⟩ := ((HL.out.below HB1.out).below HB.out).atI hx
            generalize zs[j] = x at *
            obtain ⟨b, hb1, hbits⟩ := and1023 x
            have hrem : (b : Int).tmod (N : Int) = ((b % N : Nat) : Int) := by
              rw [Int.tmod_eq_emod_of_nonneg (by omega)]; norm_cast
            have hbm : b % N < N := Nat.mod_lt _ (by omega)
            obtain ⟨v', W', hap, ho', hb'⟩ := append_edges HO.out HB.out.size (by rw [List.length_append, cyc_length, HXL.out]; omega) HB.out [(100 + (j : Int), ((b % N : Nat) : Int))] (m := 1) rfl (by omega) rfl
            rw [List.append_assoc] at ho'
            have HOT2 := Lib.hid (others_snoc HOT.out (a := 100 + (j : Int)) (b := ((b % N : Nat) : Int)) (by omega) (by omega))
            have HAP := Lib.hid hap
            have HO2 := Lib.hid ho'
            have HB2 := Lib.hid hb'
            clear hap ho' hb' hbm
            have hN0 : ((N : Int) == 0) = false := by simp; omega
            go_wp2_with (at_builtin; refine wpList_append_run rfl (.tmp 72) (.tmp 83) 22 22 rfl _ _ rfl rfl HAP.out ?_)
            go_roundg (m - (j + 1))
            case measure => have := HJ.out; omega
            case rel => exact ⟨j + 1, xs ++ [(100 + (j : Int), ((b % N : Nat) : Int))], by omega, by go_num, by simp [HXL.out], HOT2.out, HO2.out, HB2.out⟩
          · obtain rfl : m = j := by omega
            clear hlt HJ
            obtain ⟨n', hn'⟩ : ∃ n', (cyc N N ++ xs).length = n' := ⟨_, rfl⟩
            have hn2 : n' = N + m := by rw [← hn', List.length_append, cyc_length, HXL.out]
            have hn60 : n' ≤ 60 := by omega
            obtain ⟨A5, c5, rfl, hl5, hc5, _⟩ := own_lst HO.out
            rw [hn'] at hc5 ⊢
            obtain ⟨g5, o5, rfl, _⟩ := hl5 (by rw [hn']; omega)
            have HL5 := Lib.hid hl5
            have HN5 := Lib.hid hn'
            have HN2 := Lib.hid hn2
            have HWF := Lib.hid (wf_cyc (by omega) (by omega) HOT.out)
            have HR := Lib.hid (ring_cyc (n := N) (by omega) HOT.out (who := (u : Int)) (by omega))
            clear hl5 hn' hn2 HO
            go_wp2_with fail
            refine (ring_ HL5.out HN5.out (by omega) HWF.out (wf_small (x := (u : Int)) (by omega))).mono ?_
            rintro e w2 ⟨v6, r, rfl, ho6, hr, hb⟩
            obtain rfl := hr.unique HR.out
            obtain ⟨A6, c6, rfl, hl6, _⟩ := own_lst ho6
            rw [rangeI_length]
            have HB2 := Lib.hid (HB.out.trans (hb.mono HB.out.size))
            have HL52 := Lib.hid (HL5.out.below hb)
            have HL6 := Lib.hid hl6
            clear ho6 hr hb hl6 HL5
            go_wp2_with fail
            refine (victim_ HL52.out HN5.out (by omega) HWF.out (wf_small (x := (u : Int)) (by omega))).mono ?_
            rintro e w3 ⟨r, hr, rfl, hb⟩
            obtain rfl := hr.unique HR.out
            rw [rangeI_last (by omega), rangeI_some (by omega)]
            have HB3 := Lib.hid (HB2.out.trans (hb.mono HB2.out.size))
            have HL53 := Lib.hid (HL52.out.below hb)
            have HL63 := Lib.hid (HL6.out.below hb)
            clear hr hb HL52 HL6
            have e1 : ((N : Int) != (N : Int)) = false := by simp
            have e2 : ((N : Int) - 1 != (N : Int) - 1) = false := by simp
            go_wp2_with fail
            have HL6F := Lib.hid (fun W (k : Below w3.heap.size w3 W) => HL63.out.below k)
            have HL5F := Lib.hid (fun W (k : Below w3.heap.size w3 W) => HL53.out.below k)
            go_loopg [16] N (fun k i wr => R3 w3 N k i wr)
            case atStart => exact ⟨0, by omega, rfl, Below.refl _ _⟩
            case round =>
              obtain ⟨j, hj, rfl, hb⟩ := hrel
              have HJ := Lib.hid hj
              have hjN : j ≤ N := by omega
              have HB := Lib.hid hb
              clear hj hb
              by_cases hlt : j < N
              · obtain ⟨g, o, rfl, _, d0⟩ := (HL6F.out wr HB.out).atI (j := j) (by rw [rangeI_length]; exact hlt)
                rw [rangeI_get] at d0
                have e3 : ((j : Int) != (j : Int)) = false := by simp
                go_wp2_with fail
                go_roundg (N - (j + 1))
                case measure => have := HJ.out; omega
                case rel => exact ⟨j + 1, by have := HJ.out; omega, by go_num, HB.out⟩
              · obtain rfl : N = j := by omega
                obtain ⟨t, ht⟩ : ∃ t, n' - (q + 1) = t := ⟨_, rfl⟩
                have hlc := HL5F.out wr HB.out
                obtain ⟨A7, htail, hl7⟩ := tail_edges hlc HN5.out hc5 (q := q + 1) (by have := HN2.out; omega) ht
                have hq1 : (((q + 1 : Nat) : Int)) = (q : Int) + 1 := by omega
                rw [hq1] at htail
                have hd := head_full (some ⟨g5, o5, none⟩) n' c5 q (by have := HN2.out; omega)
                have hlq : ((cyc N N ++ xs).take q).length = q := by rw [List.length_take, HN5.out]; have := HN2.out; omega
                have hlt7 : ((cyc N N ++ xs).drop (q + 1)).length = t := by rw [List.length_drop, HN5.out]; exact ht
                have hA1 : Lst wr.drew _ eE (some ⟨g5, o5, none⟩) ((cyc N N ++ xs).take q) := hlc.take q
                have hA2 : Lst wr.drew _ eE A7 ((cyc N N ++ xs).drop (q + 1)) := hl7
                have hqt : q + t = n' - 1 := by have := HN2.out; omega
                obtain ⟨B, c', W', hap, hlW, hbW⟩ := append_full hA1 hlq hA2 hlt7 (c := c5 - (q + 1)) (by have := HN2.out; omega)
                rw [hqt] at hap
                have hlen : (cutE (cyc N N ++ xs) q).length = n' - 1 := by
                  unfold cutE
                  rw [List.length_append, hlq, hlt7, hqt]
                have hwf : ∀ e ∈ cutE (cyc N N ++ xs) q, Wf e.1 ∧ Wf e.2 := fun e he => by
                  unfold cutE at he
                  rcases List.mem_append.1 he with he | he
                  · exact HWF.out e (List.mem_of_mem_take he)
                  · exact HWF.out e (List.mem_of_mem_drop he)
                have hwr : IntKind.i64.wrap ((q : Int) + 1) = (q : Int) + 1 := IntWalk.i64_in _ (by omega)
                have HAP := Lib.hid hap
                have HLW := Lib.hid hlW
                have HBW := Lib.hid (show Below w.heap.size w W' from (((HB1.out.trans (HB3.out.mono HB1.out.size)).trans (HB.out.mono (HB1.out.trans (HB3.out.mono HB1.out.size)).size))).trans ((show Below wr.heap.size wr W' from ⟨hbW.os, hbW.tape, hbW.output, hbW.size, hbW.block⟩).mono ((HB1.out.trans (HB3.out.mono HB1.out.size)).trans (HB.out.mono (HB1.out.trans (HB3.out.mono HB1.out.size)).size)).size))
                have HLEN := Lib.hid hlen
                have HWF2 := Lib.hid hwf
                have HRC := Lib.hid (ring_cut (n := N) (by omega) (by omega) HOT.out hqN (who := (u : Int)) (by omega))
                have HRH := Lib.hid (ring_cut_100 (n := N) (by omega) (by omega) HOT.out hqN)
                clear hap hlW hbW hlen hwf hA1 hA2 hlq hlt7 hl7 hlc hq1 hqt ht hlt
                go_wp2_with fail
                go_region_held3 (fun _ : World => True) (first | exact trivial) (first
                  | (refine step_append_at rfl (.tmp 122) (.tmp 126) 22 22 rfl _ _ rfl rfl HAP.out ?_))
                all_goals
                  go_wp2_with fail
                  refine (ring_ HLW.out HLEN.out (by omega) HWF2.out (wf_small (x := (u : Int)) (by omega))).mono ?_
                  rintro e w4 ⟨v7, r, rfl, ho7, hr, hb⟩
                  obtain rfl := hr.unique HRC.out
                  obtain ⟨A8, c8, rfl, _⟩ := own_lst ho7
                  have HB4 := Lib.hid (HBW.out.trans (hb.mono HBW.out.size))
                  have HLW4 := Lib.hid (HLW.out.below hb)
                  clear ho7 hr hb HLW
                  go_wp2_with fail
                  refine (ring_ HLW4.out HLEN.out (by omega) HWF2.out (wf_small (x := 100) (by omega))).mono ?_
                  rintro e w5 ⟨v8, r, rfl, ho8, hr, hb⟩
                  obtain rfl := hr.unique HRH.out
                  obtain ⟨A9, c9, rfl, _⟩ := own_lst ho8
                  have HB5 := Lib.hid (HB4.out.trans (hb.mono HB4.out.size))
                  clear ho8 hr hb
                  go_wp2_with fail
                  go_ret
                  exact ⟨rfl, HB5.out⟩
  · have hor : (n < 1 ∨ 30 < n) ∨ (q0 < 0 ∨ n ≤ q0) ∨ (u0 < 0 ∨ n ≤ u0) ∨ 30 < m := by omega
    clear h hl hm
    go_enter Try.func4, Try.ntmps4
    go_wp2_with fail
    refine (alive w).mono ?_
    rintro e w1 ⟨rfl, hb⟩
    have HB := Lib.hid hb
    clear hb
    go_wp2_with fail
    all_goals first | (go_ret; exact ⟨rfl, HB.out⟩) | (exfalso; omega)
end Go.Proofs.Ytoojoldcomokhaa
