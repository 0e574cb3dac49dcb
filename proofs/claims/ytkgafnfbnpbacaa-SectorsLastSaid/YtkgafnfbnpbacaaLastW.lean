/- The law on one sector that is written again and again, walked. -/
import Derived.Test.YtkgafnfbnpbacaaLastP
import Derived.Deep.RegionWith
namespace Go.Proofs.Ytkgafnfbnpbacaa
open Go.RowKit
def LastRel (w : World) (B g n at_ k : Nat) (want i : Value) (wr : World) : Prop :=
  ∃ j : Nat, j + k = n ∧ i = .int .i64 (j : Int) ∧ want = .int .u8 ((min j at_ : Nat) : Int) ∧ B ≤ wr.heap.size ∧ Keep (fun i _ => i < B) w wr ∧
    ∃ s : St, DiskAt wr g (Hi B) s ∧ (if j ≤ at_ then s.one 0 j else s.one at_ (j - at_)) ∧ s.count = j
def LastRel2 (ks : List Bool) (n at_ k : Nat) (want i : Value) : Prop :=
  ∃ j : Nat, j + k = n - at_ ∧ i = .int .i64 ((at_ : Int) + (j : Int)) ∧ want = .int .u8 ((lastK (stays ks) at_ j : Nat) : Int)
set_option maxRecDepth 100000 in
set_option maxHeartbeats 2000000 in
theorem sectorsLast (n : Int) (A : Option Addr) (len c : Nat) (ks : List Bool) (sync : Int) (w : World) (hks : Bools w (fun i => i < w.heap.size) A len ks) (hlen : len ≤ 9223372036854775807) :
    Calls Try.prog 6 #[.int .i64 n, .slice A len c, .int .i64 sync] w fun e w' => e = .returned (.bool true) ∧ Below w.heap.size w w' := by
  by_cases hin : 1 ≤ n ∧ n ≤ 40 ∧ len ≤ 60 ∧ 0 ≤ sync
  · obtain ⟨h1, h2, h3, h4⟩ := hin
    obtain ⟨n, rfl⟩ := Int.eq_ofNat_of_zero_le (show 0 ≤ n by omega)
    obtain ⟨sync, rfl⟩ := Int.eq_ofNat_of_zero_le h4
    have HKS := Lib.hid hks
    clear hks
    go_enter Try.func6, Try.ntmps6
    go_wp2_with fail
    refine (alive w).mono ?_
    rintro e w1 ⟨rfl, hb1⟩
    have HB1 := Lib.hid hb1
    clear hb1
    go_wp2_with fail
    refine (new_ w1 1).mono ?_
    rintro e w2 ⟨rfl, hd, hb, hz⟩
    have HD := Lib.hid hd
    have HB2 := Lib.hid hb
    have HZ := Lib.hid hz
    clear hd hb hz
    obtain ⟨t, hat⟩ := Int.eq_ofNat_of_zero_le (Int.emod_nonneg (sync : Int) (show (n : Int) + 1 ≠ 0 by omega))
    have htn : t ≤ n := by
      have := Int.emod_lt_of_pos (sync : Int) (show (0 : Int) < (n : Int) + 1 by omega)
      omega
    have HAT := Lib.hid hat
    clear hat
    have hm0 : (0 : Int) ≤ (sync : Int) % ((n : Int) + 1) := by rw [HAT.out]; omega
    have hm1 : (sync : Int) % ((n : Int) + 1) ≤ (n : Int) := by rw [HAT.out]; omega
    go_wp2_with fail
    rw [HAT.out]
    clear hm0 hm1
    go_loopg [9, 11] n (fun k want i wr => LastRel w1 w1.heap.size (w1.heap.size + 1) n t k want i wr)
    case atStart =>
      refine ⟨0, by omega, rfl, ?_, ?_, Keep.of_below HB2.out, _, HD.out, ?_, rfl⟩
      · rw [Nat.zero_min]; rfl
      · have := HZ.out; omega
      · rw [if_pos (Nat.zero_le _)]; exact St.one_new
    case round =>
      obtain ⟨j, hj, rfl, rfl, hBs, hkw, s, hd, hone, hco⟩ := hrel
      have HD := Lib.hid hd
      have HKW := Lib.hid hkw
      have HONE := Lib.hid hone
      have HCO := Lib.hid hco
      have HJ := Lib.hid hj
      clear hd hkw hone hco
      by_cases hlt : j < n
      · rcases Nat.lt_trichotomy j t with hjt | hjt | hjt
        · have hne : ((j : Int) == (t : Int)) = false := by rw [beq_eq_false_iff_ne]; omega
          have hone := HONE.out
          rw [if_pos (by omega)] at hone
          have HO := Lib.hid hone
          clear hone HONE
          go_wp2_with fail
          refine (fill_z _ (j + 1) false (by omega) (by omega) wr).mono ?_
          rintro e w5 ⟨rfl, rfl⟩
          have HD6 := Lib.hid (HD.out.below (alloc_below wr (.cells (cellsB (filled (j + 1) false)).toArray 5)))
          go_wp2_with fail
          refine (write_ HD6.out HO.out.broken (by rw [HO.out.2.1, ws_length]; omega) (by have := HO.out.2.2.1; omega) (by rw [HO.out.2.2.2.2]; omega) 0 (by rw [HO.out.n]; omega) _ _ (filled_length (j + 1) false) (Blk.new wr 5 _)).mono ?_
          rintro e w7 ⟨rfl, hd7, hk7⟩
          have hd8 : DiskAt w7 (w1.heap.size + 1) (Hi w1.heap.size) _ := hd7.more (O' := Hi w1.heap.size) fun i hi => by
            simp at hi
            simp only [Hi]; omega
          have HD8 := Lib.hid hd8
          have HK8 := Lib.hid ((HKW.out.alloc (.cells (cellsB (filled (j + 1) false)).toArray 5)).trans (keep_lo hk7 fun i hi => hi))
          clear hd7 hk7 hd8
          go_wp2
          go_roundg (n - (j + 1))
          case measure => have := HJ.out; omega
          case rel =>
            refine ⟨j + 1, by omega, by go_num, by rw [Nat.min_eq_left (by omega)]; go_num, Nat.le_trans (by have := HB2.out.size; omega) HK8.out.size, HK8.out, _, HD8.out, ?_, by show s.count + 1 = j + 1; rw [HCO.out]⟩
            rw [if_pos (by omega)]; exact HO.out.wr (by omega) (by rw [HCO.out]; omega)
        · subst hjt
          have hone := HONE.out
          rw [if_pos (by omega)] at hone
          have HO1 := Lib.hid hone
          clear hone HONE
          go_wp2_with fail
          refine (sync_ HD.out HO1.out.broken).mono ?_
          rintro e w4 ⟨rfl, hd4, hk4⟩
          have ho := HO1.out.sync
          rw [Nat.zero_add] at ho
          have HO := Lib.hid ho
          have HD4 := Lib.hid hd4
          have HK4 := Lib.hid (HKW.out.trans (keep_lo hk4 fun i hi => hi))
          have hs4 : w1.heap.size ≤ w4.heap.size := Nat.le_trans (by omega) hk4.size
          clear hd4 hk4 ho
          go_wp2_with fail
          refine (fill_z _ (j + 1) false (by omega) (by omega) w4).mono ?_
          rintro e w5 ⟨rfl, rfl⟩
          have HD6 := Lib.hid (HD4.out.below (alloc_below w4 (.cells (cellsB (filled (j + 1) false)).toArray 5)))
          go_wp2_with fail
          refine (write_ HD6.out HO.out.broken (by rw [HO.out.2.1, ws_length]; omega) (by have := HO.out.2.2.1; omega) (by rw [HO.out.2.2.2.2]; omega) 0 (by rw [HO.out.n]; omega) _ _ (filled_length (j + 1) false) (Blk.new w4 5 _)).mono ?_
          rintro e w7 ⟨rfl, hd7, hk7⟩
          have hd8 : DiskAt w7 (w1.heap.size + 1) (Hi w1.heap.size) _ := hd7.more (O' := Hi w1.heap.size) fun i hi => by
            simp at hi
            simp only [Hi]; omega
          have HD8 := Lib.hid hd8
          have HK8 := Lib.hid ((HK4.out.alloc (.cells (cellsB (filled (j + 1) false)).toArray 5)).trans (keep_lo hk7 fun i hi => hi))
          clear hd7 hk7 hd8
          go_wp2
          go_roundg (n - (j + 1))
          case measure => have := HJ.out; omega
          case rel =>
            refine ⟨j + 1, by omega, by go_num, by rw [Nat.min_eq_right (by omega)], Nat.le_trans (by have := HK4.out.size; have := HB2.out.size; omega) HK8.out.size, HK8.out, _, HD8.out, ?_, by show s.count + 1 = j + 1; rw [HCO.out]⟩
            rw [if_neg (by omega), show j + 1 - j = 0 + 1 by omega]; exact HO.out.wr (by omega) (by show s.count + 1 ≤ _; rw [HCO.out]; omega)
        · have hne : ((j : Int) == (t : Int)) = false := by rw [beq_eq_false_iff_ne]; omega
          have hone := HONE.out
          rw [if_neg (by omega)] at hone
          have HO := Lib.hid hone
          clear hone HONE
          go_wp2_with fail
          refine (fill_z _ (j + 1) false (by omega) (by omega) wr).mono ?_
          rintro e w5 ⟨rfl, rfl⟩
          have HD6 := Lib.hid (HD.out.below (alloc_below wr (.cells (cellsB (filled (j + 1) false)).toArray 5)))
          go_wp2_with fail
          refine (write_ HD6.out HO.out.broken (by rw [HO.out.2.1, ws_length]; omega) (by have := HO.out.2.2.1; omega) (by rw [HO.out.2.2.2.2]; omega) 0 (by rw [HO.out.n]; omega) _ _ (filled_length (j + 1) false) (Blk.new wr 5 _)).mono ?_
          rintro e w7 ⟨rfl, hd7, hk7⟩
          have hd8 : DiskAt w7 (w1.heap.size + 1) (Hi w1.heap.size) _ := hd7.more (O' := Hi w1.heap.size) fun i hi => by
            simp at hi
            simp only [Hi]; omega
          have HD8 := Lib.hid hd8
          have HK8 := Lib.hid ((HKW.out.alloc (.cells (cellsB (filled (j + 1) false)).toArray 5)).trans (keep_lo hk7 fun i hi => hi))
          clear hd7 hk7 hd8
          go_wp2
          go_roundg (n - (j + 1))
          case measure => have := HJ.out; omega
          case rel =>
            refine ⟨j + 1, by omega, by go_num, by rw [Nat.min_eq_right (by omega), Nat.min_eq_right (by omega)], Nat.le_trans (by have := HB2.out.size; omega) HK8.out.size, HK8.out, _, HD8.out, ?_, by show s.count + 1 = j + 1; rw [HCO.out]⟩
            rw [if_neg (by omega), show j + 1 - t = (j - t) + 1 by omega]; exact HO.out.wr (by omega) (by rw [HCO.out]; omega)
      · obtain rfl : j = n := by have := HJ.out; omega
        have hbelow : Below w.heap.size w wr := HB1.out.trans ((below_of_keep HKW.out (Nat.le_refl _)).mono HB1.out.size)
        have HBEL := Lib.hid hbelow
        clear hbelow hlt
        rw [Nat.min_eq_right htn]
        by_cases htj : t = j
        · subst htj
          have hone := HONE.out
          rw [if_pos (by omega)] at hone
          have HO1 := Lib.hid hone
          clear hone HONE
          go_wp2_with fail
          refine (sync_ HD.out HO1.out.broken).mono ?_
          rintro e w4 ⟨rfl, hd4, hk4⟩
          have ho := HO1.out.sync
          rw [Nat.zero_add] at ho
          have HO := Lib.hid ho
          have HD4 := Lib.hid hd4
          have HB4 := Lib.hid (HBEL.out.trans ((keep_hi hk4 (by omega)).mono HB1.out.size))
          have HBK := Lib.hid (HKS.out.keep (Keep.of_below (HB4.out.mono (Nat.le_refl _))))
          have hs4 : w1.heap.size ≤ w4.heap.size := Nat.le_trans (by omega) hk4.size
          clear hd4 hk4 ho
          go_wp2
          go_loopg [9, 12] (t - t) (fun k want i wr' => wr' = w4 ∧ LastRel2 ks t t k want i)
          case atStart => exact ⟨rfl, 0, by omega, by simp, by simp [lastK]⟩
          case round =>
            obtain ⟨rfl, m, hm, rfl, rfl⟩ := hrel
            have hlk := lastK_le (stays ks) t m
            have HM := Lib.hid hm
            clear hm
            by_cases hmj : m < t - t
            · exact absurd hmj (by omega)
            · obtain rfl : m = 0 := by have := HM.out; omega
              have HLK := Lib.hid hlk
              clear hmj hlk
              go_wp2_with fail
              refine (crash_ HD4.out (by rw [HO.out.2.1, ws_length]; omega) A len c ks (HBK.out.more fun i _ hi => by have := HB1.out.size; simp only [Hi]; omega) hlen).mono ?_
              rintro e w6 ⟨rfl, hd6, hk6⟩
              have HD6 := Lib.hid hd6
              have HB6 := Lib.hid (HB4.out.trans ((keep_hi hk6 (by omega)).mono HB1.out.size))
              have hnow := HO.out.crash (stays ks)
              have hn1 : 0 < (s.sync.crash (stays ks)).n := by rw [← St.now_length, hnow]; simp
              have hg0 : (s.sync.crash (stays ks)).now.getD 0 [] = filled (lastK (stays ks) t 0) false := by rw [hnow]; rfl
              have HG0 := Lib.hid hg0
              have hlk40 : lastK (stays ks) t 0 < 256 := by have := HLK.out; omega
              have hcf := convert_filled (lastK (stays ks) t 0)
              clear hd6 hk6 hnow hg0
              go_wp2
              go_region_with (first | (go_at_call 22; refine (read_strD HD6.out 0 hn1 HG0.out).mono ?_; rintro e w7 ⟨rfl, hcv1, hcv2, hbel7, hsz7⟩) | (go_at_call 11; refine (fill_f _ (lastK (stays ks) t 0) rfl hlk40 _).mono ?_; rintro e w8 ⟨rfl, rfl⟩))
              all_goals
                go_wp2
                go_ret
                refine ⟨?_, ?_⟩
                · rfl
                · exact (HB6.out.trans (hbel7.mono HB6.out.size)).alloc (by have := HB6.out.size; omega) _
        · have hne : ((t : Int) == (j : Int)) = false := by rw [beq_eq_false_iff_ne]; omega
          have hone := HONE.out
          rw [if_neg (by omega)] at hone
          have HO := Lib.hid hone
          have HBK := Lib.hid (HKS.out.keep (Keep.of_below (HBEL.out.mono (Nat.le_refl _))))
          clear hone HONE
          go_wp2_with fail
          go_loopg [9, 12] (j - t) (fun k want i wr' => wr' = wr ∧ LastRel2 ks j t k want i)
          case atStart => exact ⟨rfl, 0, by omega, by simp, by simp [lastK]⟩
          case round =>
            obtain ⟨rfl, m, hm, rfl, rfl⟩ := hrel
            have hlk := lastK_le (stays ks) t m
            have HM := Lib.hid hm
            clear hm
            by_cases hmj : m < j - t
            · by_cases hml : m < len
              · obtain ⟨kb, ko, rfl, hkb, _, hkc⟩ := HBK.out.2 (by omega)
                obtain ⟨y, hy⟩ := at_of_lt ks m (by have := HBK.out.1; omega)
                have hcell := hkc m y hy
                have hst0 : stays ks m = y := by
                  unfold stays
                  rw [List.getD_eq_getElem?_getD, hy]; rfl
                have HF := Lib.hid hst0
                clear hst0 hy hkc hkb
                cases y
                all_goals
                  go_wp2
                  go_roundg (j - t - (m + 1))
                  case measure => have := HM.out; omega
                  case rel => exact ⟨rfl, m + 1, by omega, by go_num, by rw [lastK, HF.out]; first | rfl | go_num⟩
              · have hst0 : stays ks m = false := by
                  unfold stays
                  rw [List.getD_eq_getElem?_getD, List.getElem?_eq_none (by have := HBK.out.1; omega)]; rfl
                have HF := Lib.hid hst0
                clear hst0
                go_wp2
                go_roundg (j - t - (m + 1))
                case measure => have := HM.out; omega
                case rel => exact ⟨rfl, m + 1, by omega, by go_num, by rw [lastK, HF.out]; rfl⟩
            · obtain rfl : m = j - t := by have := HM.out; omega
              have HLK := Lib.hid hlk
              clear hmj hlk
              go_wp2_with fail
              refine (crash_ HD.out (by rw [HO.out.2.1, ws_length]; omega) A len c ks (HBK.out.more fun i _ hi => by have := HB1.out.size; simp only [Hi]; omega) hlen).mono ?_
              rintro e w6 ⟨rfl, hd6, hk6⟩
              have HD6 := Lib.hid hd6
              have HB6 := Lib.hid (HBEL.out.trans ((keep_hi hk6 (by omega)).mono HB1.out.size))
              have hnow := HO.out.crash (stays ks)
              have hn1 : 0 < (s.crash (stays ks)).n := by rw [← St.now_length, hnow]; simp
              have hg0 : (s.crash (stays ks)).now.getD 0 [] = filled (lastK (stays ks) t (j - t)) false := by rw [hnow]; rfl
              have HG0 := Lib.hid hg0
              have hlk40 : lastK (stays ks) t (j - t) < 256 := by have := HLK.out; omega
              have hcf := convert_filled (lastK (stays ks) t (j - t))
              clear hd6 hk6 hnow hg0
              go_wp2
              go_region_with (first | (go_at_call 22; refine (read_strD HD6.out 0 hn1 HG0.out).mono ?_; rintro e w7 ⟨rfl, hcv1, hcv2, hbel7, hsz7⟩) | (go_at_call 11; refine (fill_f _ (lastK (stays ks) t (j - t)) rfl hlk40 _).mono ?_; rintro e w8 ⟨rfl, rfl⟩))
              all_goals
                go_wp2
                go_ret
                refine ⟨?_, ?_⟩
                · rfl
                · exact (HB6.out.trans (hbel7.mono HB6.out.size)).alloc (by have := HB6.out.size; omega) _
  · have hor : n < 1 ∨ (¬ n < 1 ∧ 40 < n) ∨ (¬ n < 1 ∧ ¬ 40 < n ∧ 60 < len) ∨ (¬ n < 1 ∧ ¬ 40 < n ∧ ¬ 60 < len ∧ sync < 0) := by omega
    clear hin hks
    rcases hor with h1 | ⟨h1, h2⟩ | ⟨h1, h2, h3⟩ | ⟨h1, h2, h3, h4⟩
    all_goals
      go_enter Try.func6, Try.ntmps6
      go_wp2_with (go_at_call 7; refine (alive _).mono ?_; rintro e w' ⟨rfl, hb⟩)
      go_ret
      exact ⟨rfl, hb⟩
end Go.Proofs.Ytkgafnfbnpbacaa
