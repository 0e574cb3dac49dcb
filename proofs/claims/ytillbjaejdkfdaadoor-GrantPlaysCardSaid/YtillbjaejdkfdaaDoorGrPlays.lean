/- The law on any row of calls, walked. -/
import Derived.Test.YtillbjaejdkfdaaDoorGrPl
import Derived.Deep.RegionHeld3
set_option maxRecDepth 4000
namespace Go.Proofs.YtillbjaejdkfdaaDoor
open Go.RowKit
theorem holds_length (s : Lk) : (holdsP s).length ≤ total s := by
  unfold holdsP total
  rw [List.length_append, List.length_map, List.length_map]
  have := List.length_filter_le (fun c => modeP s.1 c.1 == 0) s.2
  omega
theorem waits_length (s : Lk) (who : Int) : (waitsP s who).length ≤ total s := by
  unfold waitsP
  split
  · rename_i h
    rw [← fold_uniq]
    refine Nat.le_trans (foldI_length _) ?_
    unfold rawP total
    rw [List.length_append, List.length_map, List.length_map, List.length_take]
    have := List.length_filter_le (fun c => inwayP c s.2[s.2.findIdx (isW who)]) s.1
    omega
  · simp
def PRel (w : World) (bx bo br n k : Nat) (i : Value) (wr : World) : Prop := ∃ j s so, j + k = n ∧ i = .int .i64 (j : Int) ∧ total s ≤ j ∧ total so ≤ j ∧ PL w bx bo br s so s wr
set_option maxHeartbeats 4000000 in
theorem grantPlays {A : Option Addr} {n c : Nat} {xs : List Ac3} (w : World) (ha : Acts w A n xs) (hT : Tab w) : Calls Tryd.prog 3 #[.slice A n c] w fun e w' => e = .returned (.bool true) ∧ Below w.heap.size w w' := by
  have hal := galive_ w hT
  have HA := Lib.hid hal
  have HT := Lib.hid hT
  have HAC := Lib.hid ha
  clear hal hT ha
  by_cases h1 : (100 : Int) < (n : Int)
  · go_enter Tryd.func3, Tryd.ntmps3
    go_wp2_with (go_at_call 8; refine HA.out.mono ?_; rintro e w1 ⟨rfl, hb1⟩)
    go_ret
    exact ⟨rfl, hb1⟩
  have hn : n ≤ 100 := by omega
  go_enter Tryd.func3, Tryd.ntmps3
  go_wp2_with (go_at_call 8; refine HA.out.mono ?_; rintro e w1 ⟨rfl, hb1⟩; have P1 := Lib.hid (PL.new HT.out (HT.out.below hb1) hb1); clear hb1)
  generalize ((w1.alloc (.cells #[.slice none 0 0, .slice none 0 0] 27)).alloc (.cells #[.slice none 0 0, .slice none 0 0] 27)).alloc (.cells #[.slice none 0 0, .slice none 0 0] 31) = w2 at *
  generalize w1.heap.size + 1 + 1 = br at *
  generalize w1.heap.size + 1 = bo at *
  generalize w1.heap.size = bx at *
  go_loopg [7, 8] n (fun k i _ wr => PRel w bx bo br n k i wr)
  case atStart => exact ⟨0, ([], []), ([], []), by omega, rfl, by simp [total], by simp [total], P1.out⟩
  case round =>
    obtain ⟨j, s, so, hj, rfl, hts, hto, p⟩ := hrel
    have HJ := Lib.hid hj
    have HP := Lib.hid p
    have HTS := Lib.hid hts
    have HTO := Lib.hid hto
    clear hj p hts hto
    by_cases hlt : j < n
    · have hx : j < xs.length := by rw [HAC.out.1]; exact hlt
      obtain ⟨ga, oa, rfl, hga, d0, d1, d2⟩ := (HAC.out.below HP.out.gx.below).2.atA hx
      generalize (xs[j]).1 = way at *
      generalize (xs[j]).2.1 = who at *
      generalize (xs[j]).2.2 = mode at *
      have hal := alloc_below wr (.cells #[.int .i64 way, .int .i64 who, .int .i64 mode] 33)
      have pA := HP.out.next hal
      have bA := Blk.new wr 33 #[.int .i64 way, .int .i64 who, .int .i64 mode]
      have hasko := pA.askO (by have := HTO.out; omega) (j : Int) 5
      have hso := ask_total so (j : Int) (mdN 5)
      generalize askP so (j : Int) (mdN 5) = ro at *
      have HSO := Lib.hid (Nat.le_trans hso (Nat.succ_le_succ HTO.out))
      have HASKO := Lib.hid hasko
      have BA := Lib.hid bA
      clear hx hal pA bA hso hasko HTO
      go_wp2_with fail
      refine HASKO.out.mono ?_
      rintro e w3 ⟨rfl, p3, k3⟩
      have hblk := blk_ik BA.out k3
      generalize wr.heap.size = ba at *
      obtain ⟨ro1, so'⟩ := ro
      simp only at p3 HSO
      have P3 := Lib.hid p3
      have B3 := Lib.hid hblk
      have a0 : w3.cell? ⟨ba, 0, none⟩ = some (.int .i64 way) := hblk.cell 0
      have a1 : w3.cell? ⟨ba, 1, none⟩ = some (.int .i64 who) := hblk.cell 1
      have a2 : w3.cell? ⟨ba, 2, none⟩ = some (.int .i64 mode) := hblk.cell 2
      clear p3 k3 hblk HASKO BA d0 d1 d2 HP
      by_cases hw0 : way = 0
      · subst hw0
        have hts1 := ask_total s who (mdN mode)
        have HT1 := Lib.hid (Nat.le_trans hts1 (Nat.succ_le_succ HTS.out))
        have hax := fun W (p : PL w bx bo br s so' s W) => p.askX (by have := HTS.out; omega) who mode
        have har2 := fun W s2 (p : PL w bx bo br s2 so' s W) => p.askR (by have := HTS.out; omega) who mode
        generalize askP s who (mdN mode) = r at *
        obtain ⟨r1, s1⟩ := r
        simp only at hax har2 HT1
        have HAX := Lib.hid hax
        have HAR2 := Lib.hid har2
        have hS0 : (fun W : World => W.cell? ⟨ba, 1, none⟩ = some (.int .i64 who) ∧ W.cell? ⟨ba, 2, none⟩ = some (.int .i64 mode)) w3.drew := ⟨a1, a2⟩
        have PD := Lib.hid (P3.out.next (Below.refl _ _).drew)
        have BD := Lib.hid (Blk.drew B3.out)
        have hrr : (r1 != r1) = false := by simp
        clear hts1 hax har2
        go_wp2_with fail
        clear a0 a1 a2
        go_region_held3 (fun W : World => W.cell? ⟨ba, 1, none⟩ = some (.int .i64 who) ∧ W.cell? ⟨ba, 2, none⟩ = some (.int .i64 mode))
          (first | exact hS0 | exact hS1 | exact hS2)
          (first
            | (go_at_call 10; refine (HAR2.out _ _ PX.out).mono ?_; rintro e w5 ⟨rfl, p5, k5⟩; have P5 := Lib.hid p5; have B5 := Lib.hid (blk_ik BX.out k5); have hS2 : (fun W : World => W.cell? ⟨ba, 1, none⟩ = some (.int .i64 who) ∧ W.cell? ⟨ba, 2, none⟩ = some (.int .i64 mode)) w5 := ⟨B5.out.cell 1, B5.out.cell 2⟩; clear p5 k5)
            | (go_at_call 9; refine (HAX.out _ PD.out).mono ?_; rintro e w4 ⟨rfl, p4, k4⟩; have PX := Lib.hid p4; have BX := Lib.hid (blk_ik BD.out k4); have hS1 : (fun W : World => W.cell? ⟨ba, 1, none⟩ = some (.int .i64 who) ∧ W.cell? ⟨ba, 2, none⟩ = some (.int .i64 mode)) w4 := ⟨BX.out.cell 1, BX.out.cell 2⟩; clear p4 k4))
        have hh1 := fun W (p : PL w bx bo br s1 so' s1 W) => p.holdsX (by have := HT1.out; omega)
        have hh2 := fun W (p : PL w bx bo br s1 so' s1 W) => p.holdsR (by have := HT1.out; omega)
        have hw1 := fun W (p : PL w bx bo br s1 so' s1 W) => p.waitsX (by have := HT1.out; omega) who
        have hw2 := fun W (p : PL w bx bo br s1 so' s1 W) => p.waitsR (by have := HT1.out; omega) who
        have hhl := holds_length s1
        have hwl := waits_length s1 who
        generalize holdsP s1 = hs at *
        generalize waitsP s1 who = ws at *
        have hhs : hs.length ≤ 1000000 := by have := HT1.out; omega
        have hws : ws.length ≤ 1000000 := by have := HT1.out; omega
        have HH1 := Lib.hid hh1
        have HH2 := Lib.hid hh2
        have HW1 := Lib.hid hw1
        have HW2 := Lib.hid hw2
        have HHS := Lib.hid hhs
        have HWS := Lib.hid hws
        have PD := Lib.hid (P5.out.next (Below.refl _ _).drew)
        have BD := Lib.hid (Blk.drew B5.out)
        have hT0 : (fun W : World => W.cell? ⟨ba, 1, none⟩ = some (.int .i64 who)) w5.drew := B5.out.cell 1
        clear hh1 hh2 hw1 hw2 hhl hwl hhs hws
        go_wp2_with fail
        go_region_held3 (fun W : World => W.cell? ⟨ba, 1, none⟩ = some (.int .i64 who))
          (first | exact hT0 | exact hT6 | exact hT7 | exact hT8 | exact hT9 | exact hT10 | exact hT11)
          (first
            | (go_at_call 11; refine (same_ints LY9.out rfl LY10.out rfl HWS.out HWS.out).mono ?_; rintro e w11 ⟨rfl, hb⟩; simp only [decide_true]; have P11 := Lib.hid (P10.out.next hb); have hT11 : (fun W : World => W.cell? ⟨ba, 1, none⟩ = some (.int .i64 who)) w11 := (Blk.below B10.out hb B10.out.lt).cell 1; clear hb)
            | (go_at_call 18; refine (HW2.out _ P9.out).mono ?_; rintro e w10 ⟨v10, rfl, o10, hb⟩; obtain ⟨A10, c10, e10, l10, _⟩ := own_lst o10; subst e10; have LY10 := Lib.hid l10; have LY9 := Lib.hid (LX9.out.below hb); have P10 := Lib.hid (P9.out.next hb); have B10 := Lib.hid (Blk.below B9.out hb B9.out.lt); have hT10 : (fun W : World => W.cell? ⟨ba, 1, none⟩ = some (.int .i64 who)) w10 := B10.out.cell 1; clear hb o10 l10)
            | (go_at_call 17; refine (HW1.out _ P8.out).mono ?_; rintro e w9 ⟨v9, rfl, o9, hb⟩; obtain ⟨A9, c9, e9, l9, _⟩ := own_lst o9; subst e9; have LX9 := Lib.hid l9; have P9 := Lib.hid (P8.out.next hb); have B9 := Lib.hid (Blk.below B8.out hb B8.out.lt); have hT9 : (fun W : World => W.cell? ⟨ba, 1, none⟩ = some (.int .i64 who)) w9 := B9.out.cell 1; clear hb o9 l9)
            | (go_at_call 14; refine (same_holds LY6.out rfl LY7.out rfl HHS.out HHS.out).mono ?_; rintro e w8 ⟨rfl, hb⟩; simp only [decide_true]; have P8 := Lib.hid (P7.out.next hb); have B8 := Lib.hid (Blk.below B7.out hb B7.out.lt); have hT8 : (fun W : World => W.cell? ⟨ba, 1, none⟩ = some (.int .i64 who)) w8 := B8.out.cell 1; clear hb)
            | (go_at_call 16; refine (HH2.out _ P6.out).mono ?_; rintro e w7 ⟨v7, rfl, o7, hb⟩; obtain ⟨A7, c7, e7, l7, _⟩ := own_lst o7; subst e7; have LY7 := Lib.hid l7; have LY6 := Lib.hid (LX6.out.below hb); have P7 := Lib.hid (P6.out.next hb); have B7 := Lib.hid (Blk.below B6.out hb B6.out.lt); have hT7 : (fun W : World => W.cell? ⟨ba, 1, none⟩ = some (.int .i64 who)) w7 := B7.out.cell 1; clear hb o7 l7)
            | (go_at_call 15; refine (HH1.out _ PD.out).mono ?_; rintro e w6 ⟨v6, rfl, o6, hb⟩; obtain ⟨A6, c6, e6, l6, _⟩ := own_lst o6; subst e6; have LX6 := Lib.hid l6; have P6 := Lib.hid (PD.out.next hb); have B6 := Lib.hid (Blk.below BD.out hb BD.out.lt); have hT6 : (fun W : World => W.cell? ⟨ba, 1, none⟩ = some (.int .i64 who)) w6 := B6.out.cell 1; clear hb o6 l6))
        go_wp2_with fail
        go_roundg (n - (j + 1))
        case measure => have := HJ.out; omega
        case rel => exact ⟨j + 1, s1, so', by omega, by go_num, HT1.out, HSO.out, P11.out⟩
      by_cases hw1 : way = 1
      · subst hw1
        have hdt := drop_total s who
        have HT1 := Lib.hid (Nat.le_trans (Nat.le_trans hdt HTS.out) (Nat.le_succ j))
        have hdl := (drop_length s who).2.2
        have hds : (dropP s who).1.length ≤ 1000000 := by have := HTS.out; unfold total at this; omega
        have hax := fun W (p : PL w bx bo br s so' s W) => p.dropX (by have := HTS.out; omega) who
        have har2 := fun W s2 (p : PL w bx bo br s2 so' s W) => p.dropR (by have := HTS.out; omega) who
        generalize dropP s who = r at *
        obtain ⟨r1, s1⟩ := r
        simp only at hax har2 HT1 hds
        have HAX := Lib.hid hax
        have HAR2 := Lib.hid har2
        have HDS := Lib.hid hds
        have hS0 : (fun W : World => W.cell? ⟨ba, 1, none⟩ = some (.int .i64 who)) w3.drew := a1
        have PD := Lib.hid (P3.out.next (Below.refl _ _).drew)
        have BD := Lib.hid (Blk.drew B3.out)
        clear hdt hdl hds hax har2
        go_wp2_with fail
        clear a0 a1 a2
        go_region_held3 (fun W : World => W.cell? ⟨ba, 1, none⟩ = some (.int .i64 who))
          (first | exact hS0 | exact hS1 | exact hS2 | exact hS3)
          (first
            | (go_at_call 11; refine (same_ints LY4.out rfl LY5.out rfl HDS.out HDS.out).mono ?_; rintro e w6 ⟨rfl, hb⟩; simp only [decide_true]; have P5 := Lib.hid (PY.out.next hb); have B5 := Lib.hid (Blk.below BY.out hb BY.out.lt); have hS3 : (fun W : World => W.cell? ⟨ba, 1, none⟩ = some (.int .i64 who)) w6 := B5.out.cell 1; clear hb)
            | (go_at_call 13; refine (HAR2.out _ _ PX.out).mono ?_; rintro e w5 ⟨v5, rfl, o5, p5, k5⟩; obtain ⟨A5, c5, e5, l5, _⟩ := own_lst o5; obtain ⟨A4', c4', e4', l4', _⟩ := own_lst (own_ik OX.out k5); subst e5; injection e4' with e41 _ _; subst e41; have LY5 := Lib.hid l5; have LY4 := Lib.hid l4'; have PY := Lib.hid p5; have BY := Lib.hid (blk_ik BX.out k5); have hS2 : (fun W : World => W.cell? ⟨ba, 1, none⟩ = some (.int .i64 who)) w5 := BY.out.cell 1; clear p5 k5 o5 l5 l4')
            | (go_at_call 12; refine (HAX.out _ PD.out).mono ?_; rintro e w4 ⟨v4, rfl, o4, p4, k4⟩; obtain ⟨A4, c4, e4, l4, _⟩ := own_lst o4; subst e4; have OX := Lib.hid o4; have PX := Lib.hid p4; have BX := Lib.hid (blk_ik BD.out k4); have hS1 : (fun W : World => W.cell? ⟨ba, 1, none⟩ = some (.int .i64 who)) w4 := BX.out.cell 1; clear p4 k4 o4 l4))
        have hh1 := fun W (p : PL w bx bo br s1 so' s1 W) => p.holdsX (by have := HT1.out; omega)
        have hh2 := fun W (p : PL w bx bo br s1 so' s1 W) => p.holdsR (by have := HT1.out; omega)
        have hw1 := fun W (p : PL w bx bo br s1 so' s1 W) => p.waitsX (by have := HT1.out; omega) who
        have hw2 := fun W (p : PL w bx bo br s1 so' s1 W) => p.waitsR (by have := HT1.out; omega) who
        have hhl := holds_length s1
        have hwl := waits_length s1 who
        generalize holdsP s1 = hs at *
        generalize waitsP s1 who = ws at *
        have hhs : hs.length ≤ 1000000 := by have := HT1.out; omega
        have hws : ws.length ≤ 1000000 := by have := HT1.out; omega
        have HH1 := Lib.hid hh1
        have HH2 := Lib.hid hh2
        have HW1 := Lib.hid hw1
        have HW2 := Lib.hid hw2
        have HHS := Lib.hid hhs
        have HWS := Lib.hid hws
        have PD := Lib.hid (P5.out.next (Below.refl _ _).drew)
        have BD := Lib.hid (Blk.drew B5.out)
        have hT0 : (fun W : World => W.cell? ⟨ba, 1, none⟩ = some (.int .i64 who)) w6.drew := B5.out.cell 1
        clear hh1 hh2 hw1 hw2 hhl hwl hhs hws
        go_wp2_with fail
        go_region_held3 (fun W : World => W.cell? ⟨ba, 1, none⟩ = some (.int .i64 who))
          (first | exact hT0 | exact hT6 | exact hT7 | exact hT8 | exact hT9 | exact hT10 | exact hT11)
          (first
            | (go_at_call 11; refine (same_ints LY9.out rfl LY10.out rfl HWS.out HWS.out).mono ?_; rintro e w11 ⟨rfl, hb⟩; simp only [decide_true]; have P11 := Lib.hid (P10.out.next hb); have hT11 : (fun W : World => W.cell? ⟨ba, 1, none⟩ = some (.int .i64 who)) w11 := (Blk.below B10.out hb B10.out.lt).cell 1; clear hb)
            | (go_at_call 18; refine (HW2.out _ P9.out).mono ?_; rintro e w10 ⟨v10, rfl, o10, hb⟩; obtain ⟨A10, c10, e10, l10, _⟩ := own_lst o10; subst e10; have LY10 := Lib.hid l10; have LY9 := Lib.hid (LX9.out.below hb); have P10 := Lib.hid (P9.out.next hb); have B10 := Lib.hid (Blk.below B9.out hb B9.out.lt); have hT10 : (fun W : World => W.cell? ⟨ba, 1, none⟩ = some (.int .i64 who)) w10 := B10.out.cell 1; clear hb o10 l10)
            | (go_at_call 17; refine (HW1.out _ P8.out).mono ?_; rintro e w9 ⟨v9, rfl, o9, hb⟩; obtain ⟨A9, c9, e9, l9, _⟩ := own_lst o9; subst e9; have LX9 := Lib.hid l9; have P9 := Lib.hid (P8.out.next hb); have B9 := Lib.hid (Blk.below B8.out hb B8.out.lt); have hT9 : (fun W : World => W.cell? ⟨ba, 1, none⟩ = some (.int .i64 who)) w9 := B9.out.cell 1; clear hb o9 l9)
            | (go_at_call 14; refine (same_holds LY6.out rfl LY7.out rfl HHS.out HHS.out).mono ?_; rintro e w8 ⟨rfl, hb⟩; simp only [decide_true]; have P8 := Lib.hid (P7.out.next hb); have B8 := Lib.hid (Blk.below B7.out hb B7.out.lt); have hT8 : (fun W : World => W.cell? ⟨ba, 1, none⟩ = some (.int .i64 who)) w8 := B8.out.cell 1; clear hb)
            | (go_at_call 16; refine (HH2.out _ P6.out).mono ?_; rintro e w7 ⟨v7, rfl, o7, hb⟩; obtain ⟨A7, c7, e7, l7, _⟩ := own_lst o7; subst e7; have LY7 := Lib.hid l7; have LY6 := Lib.hid (LX6.out.below hb); have P7 := Lib.hid (P6.out.next hb); have B7 := Lib.hid (Blk.below B6.out hb B6.out.lt); have hT7 : (fun W : World => W.cell? ⟨ba, 1, none⟩ = some (.int .i64 who)) w7 := B7.out.cell 1; clear hb o7 l7)
            | (go_at_call 15; refine (HH1.out _ PD.out).mono ?_; rintro e w6 ⟨v6, rfl, o6, hb⟩; obtain ⟨A6, c6, e6, l6, _⟩ := own_lst o6; subst e6; have LX6 := Lib.hid l6; have P6 := Lib.hid (PD.out.next hb); have B6 := Lib.hid (Blk.below BD.out hb BD.out.lt); have hT6 : (fun W : World => W.cell? ⟨ba, 1, none⟩ = some (.int .i64 who)) w6 := B6.out.cell 1; clear hb o6 l6))
        go_wp2_with fail
        go_roundg (n - (j + 1))
        case measure => have := HJ.out; omega
        case rel => exact ⟨j + 1, s1, so', by omega, by go_num, HT1.out, HSO.out, P11.out⟩
      · have HT1 := Lib.hid (Nat.le_trans HTS.out (Nat.le_succ j))
        have hh1 := fun W (p : PL w bx bo br s so' s W) => p.holdsX (by have := HT1.out; omega)
        have hh2 := fun W (p : PL w bx bo br s so' s W) => p.holdsR (by have := HT1.out; omega)
        have hw1 := fun W (p : PL w bx bo br s so' s W) => p.waitsX (by have := HT1.out; omega) who
        have hw2 := fun W (p : PL w bx bo br s so' s W) => p.waitsR (by have := HT1.out; omega) who
        have hhl := holds_length s
        have hwl := waits_length s who
        generalize holdsP s = hs at *
        generalize waitsP s who = ws at *
        have hhs : hs.length ≤ 1000000 := by have := HT1.out; omega
        have hws : ws.length ≤ 1000000 := by have := HT1.out; omega
        have HH1 := Lib.hid hh1
        have HH2 := Lib.hid hh2
        have HW1 := Lib.hid hw1
        have HW2 := Lib.hid hw2
        have HHS := Lib.hid hhs
        have HWS := Lib.hid hws
        have PD := Lib.hid (P3.out.next (Below.refl _ _).drew)
        have BD := Lib.hid (Blk.drew B3.out)
        have hT0 : (fun W : World => W.cell? ⟨ba, 1, none⟩ = some (.int .i64 who)) w3.drew := B3.out.cell 1
        clear hh1 hh2 hw1 hw2 hhl hwl hhs hws
        go_wp2_with fail
        go_region_held3 (fun W : World => W.cell? ⟨ba, 1, none⟩ = some (.int .i64 who))
          (first | exact hT0 | exact hT6 | exact hT7 | exact hT8 | exact hT9 | exact hT10 | exact hT11)
          (first
            | (go_at_call 11; refine (same_ints LY9.out rfl LY10.out rfl HWS.out HWS.out).mono ?_; rintro e w11 ⟨rfl, hb⟩; simp only [decide_true]; have P11 := Lib.hid (P10.out.next hb); have hT11 : (fun W : World => W.cell? ⟨ba, 1, none⟩ = some (.int .i64 who)) w11 := (Blk.below B10.out hb B10.out.lt).cell 1; clear hb)
            | (go_at_call 18; refine (HW2.out _ P9.out).mono ?_; rintro e w10 ⟨v10, rfl, o10, hb⟩; obtain ⟨A10, c10, e10, l10, _⟩ := own_lst o10; subst e10; have LY10 := Lib.hid l10; have LY9 := Lib.hid (LX9.out.below hb); have P10 := Lib.hid (P9.out.next hb); have B10 := Lib.hid (Blk.below B9.out hb B9.out.lt); have hT10 : (fun W : World => W.cell? ⟨ba, 1, none⟩ = some (.int .i64 who)) w10 := B10.out.cell 1; clear hb o10 l10)
            | (go_at_call 17; refine (HW1.out _ P8.out).mono ?_; rintro e w9 ⟨v9, rfl, o9, hb⟩; obtain ⟨A9, c9, e9, l9, _⟩ := own_lst o9; subst e9; have LX9 := Lib.hid l9; have P9 := Lib.hid (P8.out.next hb); have B9 := Lib.hid (Blk.below B8.out hb B8.out.lt); have hT9 : (fun W : World => W.cell? ⟨ba, 1, none⟩ = some (.int .i64 who)) w9 := B9.out.cell 1; clear hb o9 l9)
            | (go_at_call 14; refine (same_holds LY6.out rfl LY7.out rfl HHS.out HHS.out).mono ?_; rintro e w8 ⟨rfl, hb⟩; simp only [decide_true]; have P8 := Lib.hid (P7.out.next hb); have B8 := Lib.hid (Blk.below B7.out hb B7.out.lt); have hT8 : (fun W : World => W.cell? ⟨ba, 1, none⟩ = some (.int .i64 who)) w8 := B8.out.cell 1; clear hb)
            | (go_at_call 16; refine (HH2.out _ P6.out).mono ?_; rintro e w7 ⟨v7, rfl, o7, hb⟩; obtain ⟨A7, c7, e7, l7, _⟩ := own_lst o7; subst e7; have LY7 := Lib.hid l7; have LY6 := Lib.hid (LX6.out.below hb); have P7 := Lib.hid (P6.out.next hb); have B7 := Lib.hid (Blk.below B6.out hb B6.out.lt); have hT7 : (fun W : World => W.cell? ⟨ba, 1, none⟩ = some (.int .i64 who)) w7 := B7.out.cell 1; clear hb o7 l7)
            | (go_at_call 15; refine (HH1.out _ PD.out).mono ?_; rintro e w6 ⟨v6, rfl, o6, hb⟩; obtain ⟨A6, c6, e6, l6, _⟩ := own_lst o6; subst e6; have LX6 := Lib.hid l6; have P6 := Lib.hid (PD.out.next hb); have B6 := Lib.hid (Blk.below BD.out hb BD.out.lt); have hT6 : (fun W : World => W.cell? ⟨ba, 1, none⟩ = some (.int .i64 who)) w6 := B6.out.cell 1; clear hb o6 l6))
        go_wp2_with fail
        go_roundg (n - (j + 1))
        case measure => have := HJ.out; omega
        case rel => exact ⟨j + 1, s, so', by omega, by go_num, HT1.out, HSO.out, P11.out⟩
    · have he : j = n := by have := HJ.out; omega
      subst he
      have HB := Lib.hid HP.out.gx.below
      clear HP
      go_wp2_with fail
      go_ret
      exact ⟨rfl, HB.out⟩
end Go.Proofs.YtillbjaejdkfdaaDoor
