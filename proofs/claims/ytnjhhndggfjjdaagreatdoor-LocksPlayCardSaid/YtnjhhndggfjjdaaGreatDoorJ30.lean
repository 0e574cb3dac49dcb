/- The law on any row of calls of tables, walked (written by a program). -/
import Derived.Test.YtnjhhndggfjjdaaGreatDoorJ29
import Derived.Deep.RegionHeld3
set_option maxRecDepth 4000
namespace Go.Proofs.YtnjhhndggfjjdaaGreatDoor
open Go.RowKit
theorem count_free_play : ∀ {s : TS} (who : Int), (∀ e ∈ s, Ok e.2) → countP (freeN s who).2 ≤ countP s
  | [], _, _ => Nat.le_refl _
  | e :: s, who, h => by
    have ih := count_free_play (s := s) who fun x hx => h x (by simp [hx])
    cases hh : hereP e.2 who
    · rw [freeN, if_neg (by simp [hh])]
      simp only
      rw [count_cons, count_cons]
      omega
    · have hd := drop_count (h e (by simp)) hh
      rw [freeN, if_pos hh]
      simp only
      split
      · rw [count_cons]; omega
      · rw [count_cons, count_cons]
        simp only
        omega
theorem free_len {s : TS} (hi : TInv s) (who : Int) (hc : countP s ≤ 100) : (freeN s who).1.length ≤ 1000000 := by
  have key : ∀ t : TS, (∀ e ∈ t, e ∈ s) → (freeN t who).1.length ≤ t.length * countP s := by
    intro t
    induction t with
    | nil => intro _; exact Nat.zero_le _
    | cons e r ih =>
      intro ht
      have h1 := ih fun x hx => ht x (by simp [hx])
      have he := ht e (by simp)
      have h2 : (dropP e.2 who).1.length ≤ countP s := Nat.le_trans (drop_length e.2 who).2.2 (hi.small he).2
      rw [List.length_cons, Nat.add_mul]
      unfold freeN
      split
      · simp only [List.length_append]
        omega
      · simp only
        omega
  have h1 := key s fun _ h => h
  have h2 := length_count hi.some
  exact Nat.le_trans h1 (Nat.le_trans (Nat.mul_le_mul (Nat.le_trans h2 hc) hc) (by omega))
def FrP (w : World) (bt bo br n k : Nat) (i : Value) (wr : World) : Prop := ∃ j s so, j + k = n ∧ i = .int .i64 (j : Int) ∧ PT w bt bo br s so s wr ∧ countP s ≤ j ∧ countP so ≤ j ∧ Short s
set_option maxHeartbeats 40000000 in
theorem locksPlay {A : Option Addr} {n c : Nat} {xs : List Ac6} (w : World) (ha : Acts w A n xs) (hT : Tab w) : Calls Tryz.prog 3 #[.slice A n c] w fun e w' => e = .returned (.bool true) ∧ Below w.heap.size w w' := by
  have hal := lalive_ w hT
  have HA := Lib.hid hal
  have HT := Lib.hid hT
  have HAC := Lib.hid ha
  clear hal hT ha
  by_cases h1 : (100 : Int) < (n : Int)
  · go_enter Tryz.func3, Tryz.ntmps3
    go_wp2_with (go_at_call 4; refine HA.out.mono ?_; rintro e w1 ⟨rfl, hb1⟩)
    go_ret
    exact ⟨rfl, hb1⟩
  have hn : n ≤ 100 := by omega
  go_enter Tryz.func3, Tryz.ntmps3
  go_wp2_with (go_at_call 4; refine HA.out.mono ?_; rintro e w1 ⟨rfl, hb1⟩; have P1 := Lib.hid (PT.new HT.out (HT.out.below hb1) hb1); clear hb1)
  refine (lnew_ _).mono ?_
  rintro e w2 ⟨rfl, hw2⟩
  have HW2 := Lib.hid hw2
  clear hw2
  go_wp2_with fail
  refine (lnew_ _).mono ?_
  rintro e w3 ⟨rfl, hw3⟩
  have e2 : w2.heap.size = w1.heap.size + 1 := by rw [HW2.out]; simp
  have e3 : w3.heap.size = w1.heap.size + 1 + 1 := by rw [hw3, HW2.out]; simp
  have p3 : PT w w1.heap.size w2.heap.size w3.heap.size [] [] [] (w3.alloc (.cells #[.slice none 0 0] 29)) := by
    rw [e2, e3, hw3, HW2.out]
    exact P1.out
  have P3 := Lib.hid p3
  clear HW2 hw3 e2 e3 p3 P1
  go_wp2_with fail
  generalize w1.heap.size = bt at *
  generalize w2.heap.size = bo at *
  have P4 : Hid (PT w bt bo w3.heap.size [] [] [] (w3.alloc (.cells #[.slice none 0 0] 29))) := P3
  clear P3
  go_loopg [7] n (fun k i wr => FrP w bt bo w3.heap.size n k i wr)
  case atStart => exact ⟨0, [], [], by omega, rfl, P4.out, Nat.zero_le _, Nat.zero_le _, fun _ h => by cases h⟩
  clear P4
  case round =>
    obtain ⟨j, s, so, hj, rfl, p, hts, hto, hsh⟩ := hrel
    generalize w3.heap.size = br at *
    have HJ := Lib.hid hj
    have HP := Lib.hid p
    have HTS := Lib.hid hts
    have HTO := Lib.hid hto
    have HSH := Lib.hid hsh
    clear hj p hts hto hsh
    by_cases hlt : j < n
    · have hx : j < xs.length := by rw [HAC.out.1]; exact hlt
      obtain ⟨ga, oa, rfl, hga, d0, d1, d2, d3, d4, d5⟩ := (HAC.out.below HP.out.t.below).2.atA hx
      generalize (xs[j]).1 = aw at *
      generalize (xs[j]).2.1 = ax at *
      generalize (xs[j]).2.2.1 = am at *
      generalize (xs[j]).2.2.2.1 = n1 at *
      generalize (xs[j]).2.2.2.2.1 = n2 at *
      generalize (xs[j]).2.2.2.2.2 = n3 at *
      have hal := alloc_below wr (.cells #[.int .i64 aw, .int .i64 ax, .int .i64 am, .int .i64 n1, .string n2, .string n3] 33)
      have HAL := Lib.hid hal
      have pA := HP.out.next hal
      have bA := Blk.new wr 33 #[.int .i64 aw, .int .i64 ax, .int .i64 am, .int .i64 n1, .string n2, .string n3]
      have BA := Lib.hid bA
      have a3 := bA.cell 3
      have a4 := bA.cell 4
      have a5 := bA.cell 5
      by_cases h4 : (40 : Int) < (n2.size : Int)
      · clear hx hal bA
        have HB := Lib.hid pA.t.below
        clear pA
        go_wp2_with fail
        go_ret
        exact ⟨rfl, HB.out⟩
      by_cases h5 : (40 : Int) < (n3.size : Int)
      · clear hx hal bA
        have HB := Lib.hid pA.t.below
        clear pA
        go_wp2_with fail
        go_ret
        exact ⟨rfl, HB.out⟩
      have hasko := pA.askO (by have := HTO.out; omega) (j : Int) (n1, n2, n3) 5
      have hso := count_ask pA.o.inv (j : Int) (n1, n2, n3) 5
      generalize askN so (j : Int) (n1, n2, n3) 5 = ro at *
      have HSO := Lib.hid (Nat.le_trans hso (Nat.succ_le_succ HTO.out))
      unfold valN at hasko
      simp only at hasko
      have HASKO := Lib.hid hasko
      have HS2 : Hid (n2.size ≤ 40) := Lib.hid (by omega)
      have HS3 : Hid (n3.size ≤ 40) := Lib.hid (by omega)
      clear hx hal pA bA hso hasko HTO
      go_wp2_with fail
      refine HASKO.out.mono ?_
      rintro e w4 ⟨rfl, p4, k4⟩
      have hblk := blk_ik BA.out k4
      generalize wr.heap.size = ba at *
      obtain ⟨ro1, so'⟩ := ro
      simp only at p4 HSO
      have P4 := Lib.hid p4
      have B4 := Lib.hid hblk
      have a0 : w4.cell? ⟨ba, 0, none⟩ = some (.int .i64 aw) := hblk.cell 0
      have a1 : w4.cell? ⟨ba, 1, none⟩ = some (.int .i64 ax) := hblk.cell 1
      have a2 : w4.cell? ⟨ba, 2, none⟩ = some (.int .i64 am) := hblk.cell 2
      replace a3 : w4.cell? ⟨ba, 3, none⟩ = some (.int .i64 n1) := hblk.cell 3
      replace a4 : w4.cell? ⟨ba, 4, none⟩ = some (.string n2) := hblk.cell 4
      replace a5 : w4.cell? ⟨ba, 5, none⟩ = some (.string n3) := hblk.cell 5
      clear p4 k4 hblk HASKO BA d0 d1 d2 d3 d4 d5 HP h4 h5 HAL
      by_cases hw0 : aw = 0
      · subst hw0
        have hts1 := count_ask P4.out.t.inv ax (n1, n2, n3) am
        have HT1 := Lib.hid (Nat.le_trans hts1 (Nat.succ_le_succ HTS.out))
        have HSH1 := Lib.hid (short_ask P4.out.t.inv HSH.out ax (n := (n1, n2, n3)) am HS2.out HS3.out)
        have hax := fun W (p : PT w bt bo br s so' s W) => p.askT (by have := HTS.out; omega) ax (n1, n2, n3) am
        have har2 := fun W s2 (p : PT w bt bo br s2 so' s W) => p.askR (by have := HTS.out; omega) ax (n1, n2, n3) am HSH.out
        generalize askN s ax (n1, n2, n3) am = r at *
        obtain ⟨r1, s1⟩ := r
        unfold valN at hax har2
        simp only at hax har2 HT1 HSH1
        have HAX := Lib.hid hax
        have HAR2 := Lib.hid har2
        have HNU := Lib.hid (num_ r1)
        have hS0 : (fun W : World => W.cell? ⟨ba, 1, none⟩ = some (.int .i64 ax) ∧ W.cell? ⟨ba, 2, none⟩ = some (.int .i64 am) ∧ W.cell? ⟨ba, 3, none⟩ = some (.int .i64 n1) ∧ W.cell? ⟨ba, 4, none⟩ = some (.string n2) ∧ W.cell? ⟨ba, 5, none⟩ = some (.string n3)) w4.drew := ⟨a1, a2, a3, a4, a5⟩
        have PD := Lib.hid (P4.out.next (Below.refl _ _).drew)
        have BD := Lib.hid (Blk.drew B4.out)
        have hrr : ((r1 : Int) != (r1 : Int)) = false := by simp
        clear hts1 hax har2
        go_wp2_with fail
        clear a0 a1 a2 a3 a4 a5
        go_region_held3 (fun W : World => W.cell? ⟨ba, 1, none⟩ = some (.int .i64 ax) ∧ W.cell? ⟨ba, 2, none⟩ = some (.int .i64 am) ∧ W.cell? ⟨ba, 3, none⟩ = some (.int .i64 n1) ∧ W.cell? ⟨ba, 4, none⟩ = some (.string n2) ∧ W.cell? ⟨ba, 5, none⟩ = some (.string n3))
          (first | exact hS0 | exact hS1 | exact hS2)
          (first
            | (go_at_call 7; refine (HNU.out _).mono ?_; rintro e w5b ⟨rfl, rfl⟩)
            | (go_at_call 8; refine (HAR2.out _ _ PX.out).mono ?_; rintro e w6 ⟨rfl, p6, k6⟩; have P6 := Lib.hid p6; have B6 := Lib.hid (blk_ik BX.out k6); have hS2 : (fun W : World => W.cell? ⟨ba, 1, none⟩ = some (.int .i64 ax) ∧ W.cell? ⟨ba, 2, none⟩ = some (.int .i64 am) ∧ W.cell? ⟨ba, 3, none⟩ = some (.int .i64 n1) ∧ W.cell? ⟨ba, 4, none⟩ = some (.string n2) ∧ W.cell? ⟨ba, 5, none⟩ = some (.string n3)) w6 := ⟨B6.out.cell 1, B6.out.cell 2, B6.out.cell 3, B6.out.cell 4, B6.out.cell 5⟩; clear p6 k6)
            | (go_at_call 6; refine (HAX.out _ PD.out).mono ?_; rintro e w5 ⟨rfl, p5, k5⟩; have PX := Lib.hid p5; have BX := Lib.hid (blk_ik BD.out k5); have hS1 : (fun W : World => W.cell? ⟨ba, 1, none⟩ = some (.int .i64 ax) ∧ W.cell? ⟨ba, 2, none⟩ = some (.int .i64 am) ∧ W.cell? ⟨ba, 3, none⟩ = some (.int .i64 n1) ∧ W.cell? ⟨ba, 4, none⟩ = some (.string n2) ∧ W.cell? ⟨ba, 5, none⟩ = some (.string n3)) w5 := ⟨BX.out.cell 1, BX.out.cell 2, BX.out.cell 3, BX.out.cell 4, BX.out.cell 5⟩; clear p5 k5))
        have hwt := fun W (p : PT w bt bo br s1 so' s1 W) => p.waitT (by have := HT1.out; omega) ax
        have hwr := fun W (p : PT w bt bo br s1 so' s1 W) => p.waitR (by have := HT1.out; omega) ax
        have hm1 := fun W (p : PT w bt bo br s1 so' s1 W) => p.modeT (by have := HT1.out; omega) ax (n1, n2, n3)
        have hm2 := fun W (p : PT w bt bo br s1 so' s1 W) => p.modeR (by have := HT1.out; omega) ax (n1, n2, n3)
        have hc1 := fun W (p : PT w bt bo br s1 so' s1 W) => p.countT
        have hc2 := fun W (p : PT w bt bo br s1 so' s1 W) => p.countR (by have := HT1.out; omega)
        have he1 := fun W (p : PT w bt bo br s1 so' s1 W) => p.edgesT (by have := HT1.out; omega)
        have he2 := fun W (p : PT w bt bo br s1 so' s1 W) => p.edgesR (by have := HT1.out; omega)
        have hel : (sortedE (rawE s1)).length ≤ 1000000 := by
          rw [sortedE_length]
          have := HT1.out
          exact Nat.le_trans (rawE_length P6.out.t.inv) (Nat.le_trans (Nat.mul_le_mul (show countP s1 ≤ 100 by omega) (show countP s1 ≤ 100 by omega)) (by omega))
        generalize sortedE (rawE s1) = es at *
        generalize (waitN s1 ax).isSome = y at *
        generalize (waitN s1 ax).getD (0, noB, noB) = pn at *
        generalize modeN s1 ax (n1, n2, n3) = mo at *
        obtain ⟨p1, p2, p3⟩ := pn
        unfold valN at hwt hwr hm1 hm2
        simp only at hwt hwr hm1 hm2
        have HWT := Lib.hid hwt
        have HWR := Lib.hid hwr
        have HM1 := Lib.hid hm1
        have HM2 := Lib.hid hm2
        have HC1 := Lib.hid hc1
        have HC2 := Lib.hid hc2
        have HE1 := Lib.hid he1
        have HE2 := Lib.hid he2
        have HEL := Lib.hid hel
        clear hwt hwr hm1 hm2 hc1 hc2 he1 he2 hel
        have z1 : w6.cell? ⟨ba, 1, none⟩ = some (.int .i64 ax) := B6.out.cell 1
        go_wp2_with fail
        refine (HWT.out _ P6.out).mono ?_
        rintro e w20 ⟨rfl, hb⟩
        have P21 := Lib.hid ((P6.out.next hb).next (alloc_below w20 (.cells #[.int .i64 p1, .string p2, .string p3] 31)))
        have b20 := Blk.below B6.out hb B6.out.lt
        have B21 := Lib.hid (b20.alloc (.cells #[.int .i64 p1, .string p2, .string p3] 31))
        have N21 := Lib.hid (Blk.new w20 31 #[.int .i64 p1, .string p2, .string p3])
        have z1 : w20.cell? ⟨ba, 1, none⟩ = some (.int .i64 ax) := b20.cell 1
        have z2 : (w20.alloc (.cells #[.int .i64 p1, .string p2, .string p3] 31)).cell? ⟨ba, 1, none⟩ = some (.int .i64 ax) := B21.out.cell 1
        clear hb b20
        go_wp2_with fail
        refine (HWR.out _ P21.out).mono ?_
        rintro e w22 ⟨rfl, hb⟩
        have P23 := Lib.hid ((P21.out.next hb).next (alloc_below w22 (.cells #[.int .i64 p1, .string p2, .string p3] 31)))
        have b22 := Blk.below B21.out hb B21.out.lt
        have n22 := Blk.below N21.out hb N21.out.lt
        have B23 := Lib.hid (b22.alloc (.cells #[.int .i64 p1, .string p2, .string p3] 31))
        have N23 := Lib.hid (n22.alloc (.cells #[.int .i64 p1, .string p2, .string p3] 31))
        have M23 := Lib.hid (Blk.new w22 31 #[.int .i64 p1, .string p2, .string p3])
        generalize w20.heap.size = bn at *
        clear hb b22 n22 z1 z2 B21 N21 P21
        go_wp2_with fail
        generalize w22.heap.size = bm at *
        generalize w22.alloc (.cells #[.int .i64 p1, .string p2, .string p3] 31) = w23 at *
        have HSB : Hid (∀ W, Below w23.heap.size w23 W → (fun W : World => W.cell? ⟨ba, 1, none⟩ = some (.int .i64 ax) ∧ W.cell? ⟨ba, 3, none⟩ = some (.int .i64 n1) ∧ W.cell? ⟨ba, 4, none⟩ = some (.string n2) ∧ W.cell? ⟨ba, 5, none⟩ = some (.string n3) ∧ W.cell? ⟨bn, 0, none⟩ = some (.int .i64 p1) ∧ W.cell? ⟨bn, 1, none⟩ = some (.string p2) ∧ W.cell? ⟨bn, 2, none⟩ = some (.string p3) ∧ W.cell? ⟨bm, 0, none⟩ = some (.int .i64 p1) ∧ W.cell? ⟨bm, 1, none⟩ = some (.string p2) ∧ W.cell? ⟨bm, 2, none⟩ = some (.string p3)) W) := Lib.hid fun W k => by
          have b := Blk.below B23.out k B23.out.lt
          have n := Blk.below N23.out k N23.out.lt
          have m := Blk.below M23.out k M23.out.lt
          exact ⟨b.cell 1, b.cell 3, b.cell 4, b.cell 5, n.cell 0, n.cell 1, n.cell 2, m.cell 0, m.cell 1, m.cell 2⟩
        have HPP : Hid (∀ W, Below w23.heap.size w23 W → PT w bt bo br s1 so' s1 W) := Lib.hid fun W k => P23.out.next k
        have HB24 : Hid (Below w23.heap.size w23 w23.drew) := Lib.hid (Below.refl _ _).drew
        have hT24 : (fun W : World => W.cell? ⟨ba, 1, none⟩ = some (.int .i64 ax) ∧ W.cell? ⟨ba, 3, none⟩ = some (.int .i64 n1) ∧ W.cell? ⟨ba, 4, none⟩ = some (.string n2) ∧ W.cell? ⟨ba, 5, none⟩ = some (.string n3) ∧ W.cell? ⟨bn, 0, none⟩ = some (.int .i64 p1) ∧ W.cell? ⟨bn, 1, none⟩ = some (.string p2) ∧ W.cell? ⟨bn, 2, none⟩ = some (.string p3) ∧ W.cell? ⟨bm, 0, none⟩ = some (.int .i64 p1) ∧ W.cell? ⟨bm, 1, none⟩ = some (.string p2) ∧ W.cell? ⟨bm, 2, none⟩ = some (.string p3)) w23.drew := HSB.out _ HB24.out
        have hy : (y != y) = false := by cases y <;> rfl
        have hp : (p2.toList == p2.toList) = true := by simp
        have hq : (p3.toList == p3.toList) = true := by simp
        have hmm : ((mo : Int) != (mo : Int)) = false := by simp
        have hcc : ((countP s1 : Int) != (countP s1 : Int)) = false := by simp
        go_region_held3 (fun W : World => W.cell? ⟨ba, 1, none⟩ = some (.int .i64 ax) ∧ W.cell? ⟨ba, 3, none⟩ = some (.int .i64 n1) ∧ W.cell? ⟨ba, 4, none⟩ = some (.string n2) ∧ W.cell? ⟨ba, 5, none⟩ = some (.string n3) ∧ W.cell? ⟨bn, 0, none⟩ = some (.int .i64 p1) ∧ W.cell? ⟨bn, 1, none⟩ = some (.string p2) ∧ W.cell? ⟨bn, 2, none⟩ = some (.string p3) ∧ W.cell? ⟨bm, 0, none⟩ = some (.int .i64 p1) ∧ W.cell? ⟨bm, 1, none⟩ = some (.string p2) ∧ W.cell? ⟨bm, 2, none⟩ = some (.string p3))
          (first | exact hT24 | exact hT25 | exact hT26 | exact hT27 | exact hT28 | exact hT29 | exact hT30 | exact hT31)
          (first
            | (go_at_call 18; refine (same_edges LY29.out rfl LY30.out rfl HEL.out HEL.out).mono ?_; rintro e w31 ⟨rfl, hb⟩; simp only [decide_true]; have HB31 := Lib.hid (HB30.out.trans (hb.mono HB30.out.size)); have hT31 : (fun W : World => W.cell? ⟨ba, 1, none⟩ = some (.int .i64 ax) ∧ W.cell? ⟨ba, 3, none⟩ = some (.int .i64 n1) ∧ W.cell? ⟨ba, 4, none⟩ = some (.string n2) ∧ W.cell? ⟨ba, 5, none⟩ = some (.string n3) ∧ W.cell? ⟨bn, 0, none⟩ = some (.int .i64 p1) ∧ W.cell? ⟨bn, 1, none⟩ = some (.string p2) ∧ W.cell? ⟨bn, 2, none⟩ = some (.string p3) ∧ W.cell? ⟨bm, 0, none⟩ = some (.int .i64 p1) ∧ W.cell? ⟨bm, 1, none⟩ = some (.string p2) ∧ W.cell? ⟨bm, 2, none⟩ = some (.string p3)) w31 := HSB.out _ HB31.out; clear hb)
            | (go_at_call 20; refine (HE2.out _ (HPP.out _ HB29.out)).mono ?_; rintro e w30 ⟨v30, rfl, o30, hb⟩; obtain ⟨A30, c30, e30, l30, _⟩ := own_lst o30; subst e30; have LY30 := Lib.hid l30; have LY29 := Lib.hid (LX29.out.below hb); have HB30 := Lib.hid (HB29.out.trans (hb.mono HB29.out.size)); have hT30 : (fun W : World => W.cell? ⟨ba, 1, none⟩ = some (.int .i64 ax) ∧ W.cell? ⟨ba, 3, none⟩ = some (.int .i64 n1) ∧ W.cell? ⟨ba, 4, none⟩ = some (.string n2) ∧ W.cell? ⟨ba, 5, none⟩ = some (.string n3) ∧ W.cell? ⟨bn, 0, none⟩ = some (.int .i64 p1) ∧ W.cell? ⟨bn, 1, none⟩ = some (.string p2) ∧ W.cell? ⟨bn, 2, none⟩ = some (.string p3) ∧ W.cell? ⟨bm, 0, none⟩ = some (.int .i64 p1) ∧ W.cell? ⟨bm, 1, none⟩ = some (.string p2) ∧ W.cell? ⟨bm, 2, none⟩ = some (.string p3)) w30 := HSB.out _ HB30.out; clear o30 l30; clear hb)
            | (go_at_call 19; refine (HE1.out _ (HPP.out _ HB28.out)).mono ?_; rintro e w29 ⟨v29, rfl, o29, hb⟩; obtain ⟨A29, c29, e29, l29, _⟩ := own_lst o29; subst e29; have LX29 := Lib.hid l29; have HB29 := Lib.hid (HB28.out.trans (hb.mono HB28.out.size)); have hT29 : (fun W : World => W.cell? ⟨ba, 1, none⟩ = some (.int .i64 ax) ∧ W.cell? ⟨ba, 3, none⟩ = some (.int .i64 n1) ∧ W.cell? ⟨ba, 4, none⟩ = some (.string n2) ∧ W.cell? ⟨ba, 5, none⟩ = some (.string n3) ∧ W.cell? ⟨bn, 0, none⟩ = some (.int .i64 p1) ∧ W.cell? ⟨bn, 1, none⟩ = some (.string p2) ∧ W.cell? ⟨bn, 2, none⟩ = some (.string p3) ∧ W.cell? ⟨bm, 0, none⟩ = some (.int .i64 p1) ∧ W.cell? ⟨bm, 1, none⟩ = some (.string p2) ∧ W.cell? ⟨bm, 2, none⟩ = some (.string p3)) w29 := HSB.out _ HB29.out; clear o29 l29; clear hb)
            | (go_at_call 17; refine (HC2.out _ (HPP.out _ HB27.out)).mono ?_; rintro e w28 ⟨rfl, hb⟩; have HB28 := Lib.hid (HB27.out.trans (hb.mono HB27.out.size)); have hT28 : (fun W : World => W.cell? ⟨ba, 1, none⟩ = some (.int .i64 ax) ∧ W.cell? ⟨ba, 3, none⟩ = some (.int .i64 n1) ∧ W.cell? ⟨ba, 4, none⟩ = some (.string n2) ∧ W.cell? ⟨ba, 5, none⟩ = some (.string n3) ∧ W.cell? ⟨bn, 0, none⟩ = some (.int .i64 p1) ∧ W.cell? ⟨bn, 1, none⟩ = some (.string p2) ∧ W.cell? ⟨bn, 2, none⟩ = some (.string p3) ∧ W.cell? ⟨bm, 0, none⟩ = some (.int .i64 p1) ∧ W.cell? ⟨bm, 1, none⟩ = some (.string p2) ∧ W.cell? ⟨bm, 2, none⟩ = some (.string p3)) w28 := HSB.out _ HB28.out; clear hb)
            | (go_at_call 16; refine (HC1.out _ (HPP.out _ HB26.out)).mono ?_; rintro e w27 ⟨rfl, hb⟩; have HB27 := Lib.hid (HB26.out.trans (hb.mono HB26.out.size)); have hT27 : (fun W : World => W.cell? ⟨ba, 1, none⟩ = some (.int .i64 ax) ∧ W.cell? ⟨ba, 3, none⟩ = some (.int .i64 n1) ∧ W.cell? ⟨ba, 4, none⟩ = some (.string n2) ∧ W.cell? ⟨ba, 5, none⟩ = some (.string n3) ∧ W.cell? ⟨bn, 0, none⟩ = some (.int .i64 p1) ∧ W.cell? ⟨bn, 1, none⟩ = some (.string p2) ∧ W.cell? ⟨bn, 2, none⟩ = some (.string p3) ∧ W.cell? ⟨bm, 0, none⟩ = some (.int .i64 p1) ∧ W.cell? ⟨bm, 1, none⟩ = some (.string p2) ∧ W.cell? ⟨bm, 2, none⟩ = some (.string p3)) w27 := HSB.out _ HB27.out; clear hb)
            | (go_at_call 15; refine (HM2.out _ (HPP.out _ HB25.out)).mono ?_; rintro e w26 ⟨rfl, hb⟩; have HB26 := Lib.hid (HB25.out.trans (hb.mono HB25.out.size)); have hT26 : (fun W : World => W.cell? ⟨ba, 1, none⟩ = some (.int .i64 ax) ∧ W.cell? ⟨ba, 3, none⟩ = some (.int .i64 n1) ∧ W.cell? ⟨ba, 4, none⟩ = some (.string n2) ∧ W.cell? ⟨ba, 5, none⟩ = some (.string n3) ∧ W.cell? ⟨bn, 0, none⟩ = some (.int .i64 p1) ∧ W.cell? ⟨bn, 1, none⟩ = some (.string p2) ∧ W.cell? ⟨bn, 2, none⟩ = some (.string p3) ∧ W.cell? ⟨bm, 0, none⟩ = some (.int .i64 p1) ∧ W.cell? ⟨bm, 1, none⟩ = some (.string p2) ∧ W.cell? ⟨bm, 2, none⟩ = some (.string p3)) w26 := HSB.out _ HB26.out; clear hb)
            | (go_at_call 14; refine (HM1.out _ (HPP.out _ HB24.out)).mono ?_; rintro e w25 ⟨rfl, hb⟩; have HB25 := Lib.hid (HB24.out.trans (hb.mono HB24.out.size)); have hT25 : (fun W : World => W.cell? ⟨ba, 1, none⟩ = some (.int .i64 ax) ∧ W.cell? ⟨ba, 3, none⟩ = some (.int .i64 n1) ∧ W.cell? ⟨ba, 4, none⟩ = some (.string n2) ∧ W.cell? ⟨ba, 5, none⟩ = some (.string n3) ∧ W.cell? ⟨bn, 0, none⟩ = some (.int .i64 p1) ∧ W.cell? ⟨bn, 1, none⟩ = some (.string p2) ∧ W.cell? ⟨bn, 2, none⟩ = some (.string p3) ∧ W.cell? ⟨bm, 0, none⟩ = some (.int .i64 p1) ∧ W.cell? ⟨bm, 1, none⟩ = some (.string p2) ∧ W.cell? ⟨bm, 2, none⟩ = some (.string p3)) w25 := HSB.out _ HB25.out; clear hb))
        go_wp2_with fail
        go_roundg (n - (j + 1))
        case measure => have := HJ.out; omega
        case rel => exact ⟨j + 1, s1, so', by omega, by go_num, HPP.out _ HB31.out, HT1.out, HSO.out, HSH1.out⟩
      by_cases hw1 : aw = 1
      · subst hw1
        have hdt := count_free_play ax P4.out.t.inv.ok
        have HT1 := Lib.hid (Nat.le_trans (Nat.le_trans hdt HTS.out) (Nat.le_succ j))
        have HSH1 := Lib.hid (short_free ax HSH.out)
        have hds := free_len P4.out.t.inv ax (by have := HTS.out; omega)
        have hax := fun W (p : PT w bt bo br s so' s W) => p.freeT (by have := HTS.out; omega) ax
        have har2 := fun W s2 (p : PT w bt bo br s2 so' s W) => p.freeR (by have := HTS.out; omega) ax
        generalize freeN s ax = r at *
        obtain ⟨r1, s1⟩ := r
        simp only at hax har2 HT1 HSH1 hds
        have HAX := Lib.hid hax
        have HAR2 := Lib.hid har2
        have HDS := Lib.hid hds
        have hS0 : (fun W : World => W.cell? ⟨ba, 1, none⟩ = some (.int .i64 ax)) w4.drew := a1
        have PD := Lib.hid (P4.out.next (Below.refl _ _).drew)
        have BD := Lib.hid (Blk.drew B4.out)
        clear hdt hds hax har2
        go_wp2_with fail
        clear a0 a1 a2 a3 a4 a5
        go_region_held3 (fun W : World => W.cell? ⟨ba, 1, none⟩ = some (.int .i64 ax))
          (first | exact hS0 | exact hS1 | exact hS2 | exact hS3)
          (first
            | (go_at_call 9; refine (same_ints LY4.out rfl LY5.out rfl HDS.out HDS.out).mono ?_; rintro e w6 ⟨rfl, hb⟩; simp only [decide_true]; have P6 := Lib.hid (PY.out.next hb); have B6 := Lib.hid (Blk.below BY.out hb BY.out.lt); have hS3 : (fun W : World => W.cell? ⟨ba, 1, none⟩ = some (.int .i64 ax)) w6 := B6.out.cell 1; clear hb)
            | (go_at_call 11; refine (HAR2.out _ _ PX.out).mono ?_; rintro e w5 ⟨v5, rfl, o5, p5, k5⟩; obtain ⟨A5, c5, e5, l5, _⟩ := own_lst o5; obtain ⟨A4', c4', e4', l4', _⟩ := own_lst (own_ik OX.out k5); subst e5; injection e4' with e41 _ _; subst e41; have LY5 := Lib.hid l5; have LY4 := Lib.hid l4'; have PY := Lib.hid p5; have BY := Lib.hid (blk_ik BX.out k5); have hS2 : (fun W : World => W.cell? ⟨ba, 1, none⟩ = some (.int .i64 ax)) w5 := BY.out.cell 1; clear p5 k5 o5 l5 l4')
            | (go_at_call 10; refine (HAX.out _ PD.out).mono ?_; rintro e w4b ⟨v4, rfl, o4, p4, k4⟩; obtain ⟨A4, c4, e4, l4, _⟩ := own_lst o4; subst e4; have OX := Lib.hid o4; have PX := Lib.hid p4; have BX := Lib.hid (blk_ik BD.out k4); have hS1 : (fun W : World => W.cell? ⟨ba, 1, none⟩ = some (.int .i64 ax)) w4b := BX.out.cell 1; clear p4 k4 o4 l4))
        have hwt := fun W (p : PT w bt bo br s1 so' s1 W) => p.waitT (by have := HT1.out; omega) ax
        have hwr := fun W (p : PT w bt bo br s1 so' s1 W) => p.waitR (by have := HT1.out; omega) ax
        have hm1 := fun W (p : PT w bt bo br s1 so' s1 W) => p.modeT (by have := HT1.out; omega) ax (n1, n2, n3)
        have hm2 := fun W (p : PT w bt bo br s1 so' s1 W) => p.modeR (by have := HT1.out; omega) ax (n1, n2, n3)
        have hc1 := fun W (p : PT w bt bo br s1 so' s1 W) => p.countT
        have hc2 := fun W (p : PT w bt bo br s1 so' s1 W) => p.countR (by have := HT1.out; omega)
        have he1 := fun W (p : PT w bt bo br s1 so' s1 W) => p.edgesT (by have := HT1.out; omega)
        have he2 := fun W (p : PT w bt bo br s1 so' s1 W) => p.edgesR (by have := HT1.out; omega)
        have hel : (sortedE (rawE s1)).length ≤ 1000000 := by
          rw [sortedE_length]
          have := HT1.out
          exact Nat.le_trans (rawE_length P6.out.t.inv) (Nat.le_trans (Nat.mul_le_mul (show countP s1 ≤ 100 by omega) (show countP s1 ≤ 100 by omega)) (by omega))
        generalize sortedE (rawE s1) = es at *
        generalize (waitN s1 ax).isSome = y at *
        generalize (waitN s1 ax).getD (0, noB, noB) = pn at *
        generalize modeN s1 ax (n1, n2, n3) = mo at *
        obtain ⟨p1, p2, p3⟩ := pn
        unfold valN at hwt hwr hm1 hm2
        simp only at hwt hwr hm1 hm2
        have HWT := Lib.hid hwt
        have HWR := Lib.hid hwr
        have HM1 := Lib.hid hm1
        have HM2 := Lib.hid hm2
        have HC1 := Lib.hid hc1
        have HC2 := Lib.hid hc2
        have HE1 := Lib.hid he1
        have HE2 := Lib.hid he2
        have HEL := Lib.hid hel
        clear hwt hwr hm1 hm2 hc1 hc2 he1 he2 hel
        have z1 : w6.cell? ⟨ba, 1, none⟩ = some (.int .i64 ax) := B6.out.cell 1
        go_wp2_with fail
        refine (HWT.out _ P6.out).mono ?_
        rintro e w20 ⟨rfl, hb⟩
        have P21 := Lib.hid ((P6.out.next hb).next (alloc_below w20 (.cells #[.int .i64 p1, .string p2, .string p3] 31)))
        have b20 := Blk.below B6.out hb B6.out.lt
        have B21 := Lib.hid (b20.alloc (.cells #[.int .i64 p1, .string p2, .string p3] 31))
        have N21 := Lib.hid (Blk.new w20 31 #[.int .i64 p1, .string p2, .string p3])
        have z1 : w20.cell? ⟨ba, 1, none⟩ = some (.int .i64 ax) := b20.cell 1
        have z2 : (w20.alloc (.cells #[.int .i64 p1, .string p2, .string p3] 31)).cell? ⟨ba, 1, none⟩ = some (.int .i64 ax) := B21.out.cell 1
        clear hb b20
        go_wp2_with fail
        refine (HWR.out _ P21.out).mono ?_
        rintro e w22 ⟨rfl, hb⟩
        have P23 := Lib.hid ((P21.out.next hb).next (alloc_below w22 (.cells #[.int .i64 p1, .string p2, .string p3] 31)))
        have b22 := Blk.below B21.out hb B21.out.lt
        have n22 := Blk.below N21.out hb N21.out.lt
        have B23 := Lib.hid (b22.alloc (.cells #[.int .i64 p1, .string p2, .string p3] 31))
        have N23 := Lib.hid (n22.alloc (.cells #[.int .i64 p1, .string p2, .string p3] 31))
        have M23 := Lib.hid (Blk.new w22 31 #[.int .i64 p1, .string p2, .string p3])
        generalize w20.heap.size = bn at *
        clear hb b22 n22 z1 z2 B21 N21 P21
        go_wp2_with fail
        generalize w22.heap.size = bm at *
        generalize w22.alloc (.cells #[.int .i64 p1, .string p2, .string p3] 31) = w23 at *
        have HSB : Hid (∀ W, Below w23.heap.size w23 W → (fun W : World => W.cell? ⟨ba, 1, none⟩ = some (.int .i64 ax) ∧ W.cell? ⟨ba, 3, none⟩ = some (.int .i64 n1) ∧ W.cell? ⟨ba, 4, none⟩ = some (.string n2) ∧ W.cell? ⟨ba, 5, none⟩ = some (.string n3) ∧ W.cell? ⟨bn, 0, none⟩ = some (.int .i64 p1) ∧ W.cell? ⟨bn, 1, none⟩ = some (.string p2) ∧ W.cell? ⟨bn, 2, none⟩ = some (.string p3) ∧ W.cell? ⟨bm, 0, none⟩ = some (.int .i64 p1) ∧ W.cell? ⟨bm, 1, none⟩ = some (.string p2) ∧ W.cell? ⟨bm, 2, none⟩ = some (.string p3)) W) := Lib.hid fun W k => by
          have b := Blk.below B23.out k B23.out.lt
          have n := Blk.below N23.out k N23.out.lt
          have m := Blk.below M23.out k M23.out.lt
          exact ⟨b.cell 1, b.cell 3, b.cell 4, b.cell 5, n.cell 0, n.cell 1, n.cell 2, m.cell 0, m.cell 1, m.cell 2⟩
        have HPP : Hid (∀ W, Below w23.heap.size w23 W → PT w bt bo br s1 so' s1 W) := Lib.hid fun W k => P23.out.next k
        have HB24 : Hid (Below w23.heap.size w23 w23.drew) := Lib.hid (Below.refl _ _).drew
        have hT24 : (fun W : World => W.cell? ⟨ba, 1, none⟩ = some (.int .i64 ax) ∧ W.cell? ⟨ba, 3, none⟩ = some (.int .i64 n1) ∧ W.cell? ⟨ba, 4, none⟩ = some (.string n2) ∧ W.cell? ⟨ba, 5, none⟩ = some (.string n3) ∧ W.cell? ⟨bn, 0, none⟩ = some (.int .i64 p1) ∧ W.cell? ⟨bn, 1, none⟩ = some (.string p2) ∧ W.cell? ⟨bn, 2, none⟩ = some (.string p3) ∧ W.cell? ⟨bm, 0, none⟩ = some (.int .i64 p1) ∧ W.cell? ⟨bm, 1, none⟩ = some (.string p2) ∧ W.cell? ⟨bm, 2, none⟩ = some (.string p3)) w23.drew := HSB.out _ HB24.out
        have hy : (y != y) = false := by cases y <;> rfl
        have hp : (p2.toList == p2.toList) = true := by simp
        have hq : (p3.toList == p3.toList) = true := by simp
        have hmm : ((mo : Int) != (mo : Int)) = false := by simp
        have hcc : ((countP s1 : Int) != (countP s1 : Int)) = false := by simp
        go_region_held3 (fun W : World => W.cell? ⟨ba, 1, none⟩ = some (.int .i64 ax) ∧ W.cell? ⟨ba, 3, none⟩ = some (.int .i64 n1) ∧ W.cell? ⟨ba, 4, none⟩ = some (.string n2) ∧ W.cell? ⟨ba, 5, none⟩ = some (.string n3) ∧ W.cell? ⟨bn, 0, none⟩ = some (.int .i64 p1) ∧ W.cell? ⟨bn, 1, none⟩ = some (.string p2) ∧ W.cell? ⟨bn, 2, none⟩ = some (.string p3) ∧ W.cell? ⟨bm, 0, none⟩ = some (.int .i64 p1) ∧ W.cell? ⟨bm, 1, none⟩ = some (.string p2) ∧ W.cell? ⟨bm, 2, none⟩ = some (.string p3))
          (first | exact hT24 | exact hT25 | exact hT26 | exact hT27 | exact hT28 | exact hT29 | exact hT30 | exact hT31)
          (first
            | (go_at_call 18; refine (same_edges LY29.out rfl LY30.out rfl HEL.out HEL.out).mono ?_; rintro e w31 ⟨rfl, hb⟩; simp only [decide_true]; have HB31 := Lib.hid (HB30.out.trans (hb.mono HB30.out.size)); have hT31 : (fun W : World => W.cell? ⟨ba, 1, none⟩ = some (.int .i64 ax) ∧ W.cell? ⟨ba, 3, none⟩ = some (.int .i64 n1) ∧ W.cell? ⟨ba, 4, none⟩ = some (.string n2) ∧ W.cell? ⟨ba, 5, none⟩ = some (.string n3) ∧ W.cell? ⟨bn, 0, none⟩ = some (.int .i64 p1) ∧ W.cell? ⟨bn, 1, none⟩ = some (.string p2) ∧ W.cell? ⟨bn, 2, none⟩ = some (.string p3) ∧ W.cell? ⟨bm, 0, none⟩ = some (.int .i64 p1) ∧ W.cell? ⟨bm, 1, none⟩ = some (.string p2) ∧ W.cell? ⟨bm, 2, none⟩ = some (.string p3)) w31 := HSB.out _ HB31.out; clear hb)
            | (go_at_call 20; refine (HE2.out _ (HPP.out _ HB29.out)).mono ?_; rintro e w30 ⟨v30, rfl, o30, hb⟩; obtain ⟨A30, c30, e30, l30, _⟩ := own_lst o30; subst e30; have LY30 := Lib.hid l30; have LY29 := Lib.hid (LX29.out.below hb); have HB30 := Lib.hid (HB29.out.trans (hb.mono HB29.out.size)); have hT30 : (fun W : World => W.cell? ⟨ba, 1, none⟩ = some (.int .i64 ax) ∧ W.cell? ⟨ba, 3, none⟩ = some (.int .i64 n1) ∧ W.cell? ⟨ba, 4, none⟩ = some (.string n2) ∧ W.cell? ⟨ba, 5, none⟩ = some (.string n3) ∧ W.cell? ⟨bn, 0, none⟩ = some (.int .i64 p1) ∧ W.cell? ⟨bn, 1, none⟩ = some (.string p2) ∧ W.cell? ⟨bn, 2, none⟩ = some (.string p3) ∧ W.cell? ⟨bm, 0, none⟩ = some (.int .i64 p1) ∧ W.cell? ⟨bm, 1, none⟩ = some (.string p2) ∧ W.cell? ⟨bm, 2, none⟩ = some (.string p3)) w30 := HSB.out _ HB30.out; clear o30 l30; clear hb)
            | (go_at_call 19; refine (HE1.out _ (HPP.out _ HB28.out)).mono ?_; rintro e w29 ⟨v29, rfl, o29, hb⟩; obtain ⟨A29, c29, e29, l29, _⟩ := own_lst o29; subst e29; have LX29 := Lib.hid l29; have HB29 := Lib.hid (HB28.out.trans (hb.mono HB28.out.size)); have hT29 : (fun W : World => W.cell? ⟨ba, 1, none⟩ = some (.int .i64 ax) ∧ W.cell? ⟨ba, 3, none⟩ = some (.int .i64 n1) ∧ W.cell? ⟨ba, 4, none⟩ = some (.string n2) ∧ W.cell? ⟨ba, 5, none⟩ = some (.string n3) ∧ W.cell? ⟨bn, 0, none⟩ = some (.int .i64 p1) ∧ W.cell? ⟨bn, 1, none⟩ = some (.string p2) ∧ W.cell? ⟨bn, 2, none⟩ = some (.string p3) ∧ W.cell? ⟨bm, 0, none⟩ = some (.int .i64 p1) ∧ W.cell? ⟨bm, 1, none⟩ = some (.string p2) ∧ W.cell? ⟨bm, 2, none⟩ = some (.string p3)) w29 := HSB.out _ HB29.out; clear o29 l29; clear hb)
            | (go_at_call 17; refine (HC2.out _ (HPP.out _ HB27.out)).mono ?_; rintro e w28 ⟨rfl, hb⟩; have HB28 := Lib.hid (HB27.out.trans (hb.mono HB27.out.size)); have hT28 : (fun W : World => W.cell? ⟨ba, 1, none⟩ = some (.int .i64 ax) ∧ W.cell? ⟨ba, 3, none⟩ = some (.int .i64 n1) ∧ W.cell? ⟨ba, 4, none⟩ = some (.string n2) ∧ W.cell? ⟨ba, 5, none⟩ = some (.string n3) ∧ W.cell? ⟨bn, 0, none⟩ = some (.int .i64 p1) ∧ W.cell? ⟨bn, 1, none⟩ = some (.string p2) ∧ W.cell? ⟨bn, 2, none⟩ = some (.string p3) ∧ W.cell? ⟨bm, 0, none⟩ = some (.int .i64 p1) ∧ W.cell? ⟨bm, 1, none⟩ = some (.string p2) ∧ W.cell? ⟨bm, 2, none⟩ = some (.string p3)) w28 := HSB.out _ HB28.out; clear hb)
            | (go_at_call 16; refine (HC1.out _ (HPP.out _ HB26.out)).mono ?_; rintro e w27 ⟨rfl, hb⟩; have HB27 := Lib.hid (HB26.out.trans (hb.mono HB26.out.size)); have hT27 : (fun W : World => W.cell? ⟨ba, 1, none⟩ = some (.int .i64 ax) ∧ W.cell? ⟨ba, 3, none⟩ = some (.int .i64 n1) ∧ W.cell? ⟨ba, 4, none⟩ = some (.string n2) ∧ W.cell? ⟨ba, 5, none⟩ = some (.string n3) ∧ W.cell? ⟨bn, 0, none⟩ = some (.int .i64 p1) ∧ W.cell? ⟨bn, 1, none⟩ = some (.string p2) ∧ W.cell? ⟨bn, 2, none⟩ = some (.string p3) ∧ W.cell? ⟨bm, 0, none⟩ = some (.int .i64 p1) ∧ W.cell? ⟨bm, 1, none⟩ = some (.string p2) ∧ W.cell? ⟨bm, 2, none⟩ = some (.string p3)) w27 := HSB.out _ HB27.out; clear hb)
            | (go_at_call 15; refine (HM2.out _ (HPP.out _ HB25.out)).mono ?_; rintro e w26 ⟨rfl, hb⟩; have HB26 := Lib.hid (HB25.out.trans (hb.mono HB25.out.size)); have hT26 : (fun W : World => W.cell? ⟨ba, 1, none⟩ = some (.int .i64 ax) ∧ W.cell? ⟨ba, 3, none⟩ = some (.int .i64 n1) ∧ W.cell? ⟨ba, 4, none⟩ = some (.string n2) ∧ W.cell? ⟨ba, 5, none⟩ = some (.string n3) ∧ W.cell? ⟨bn, 0, none⟩ = some (.int .i64 p1) ∧ W.cell? ⟨bn, 1, none⟩ = some (.string p2) ∧ W.cell? ⟨bn, 2, none⟩ = some (.string p3) ∧ W.cell? ⟨bm, 0, none⟩ = some (.int .i64 p1) ∧ W.cell? ⟨bm, 1, none⟩ = some (.string p2) ∧ W.cell? ⟨bm, 2, none⟩ = some (.string p3)) w26 := HSB.out _ HB26.out; clear hb)
            | (go_at_call 14; refine (HM1.out _ (HPP.out _ HB24.out)).mono ?_; rintro e w25 ⟨rfl, hb⟩; have HB25 := Lib.hid (HB24.out.trans (hb.mono HB24.out.size)); have hT25 : (fun W : World => W.cell? ⟨ba, 1, none⟩ = some (.int .i64 ax) ∧ W.cell? ⟨ba, 3, none⟩ = some (.int .i64 n1) ∧ W.cell? ⟨ba, 4, none⟩ = some (.string n2) ∧ W.cell? ⟨ba, 5, none⟩ = some (.string n3) ∧ W.cell? ⟨bn, 0, none⟩ = some (.int .i64 p1) ∧ W.cell? ⟨bn, 1, none⟩ = some (.string p2) ∧ W.cell? ⟨bn, 2, none⟩ = some (.string p3) ∧ W.cell? ⟨bm, 0, none⟩ = some (.int .i64 p1) ∧ W.cell? ⟨bm, 1, none⟩ = some (.string p2) ∧ W.cell? ⟨bm, 2, none⟩ = some (.string p3)) w25 := HSB.out _ HB25.out; clear hb))
        go_wp2_with fail
        go_roundg (n - (j + 1))
        case measure => have := HJ.out; omega
        case rel => exact ⟨j + 1, s1, so', by omega, by go_num, HPP.out _ HB31.out, HT1.out, HSO.out, HSH1.out⟩
      · have HT1 := Lib.hid (Nat.le_trans HTS.out (Nat.le_succ j))
        clear a1 a2 a3 a4 a5
        have hwt := fun W (p : PT w bt bo br s so' s W) => p.waitT (by have := HT1.out; omega) ax
        have hwr := fun W (p : PT w bt bo br s so' s W) => p.waitR (by have := HT1.out; omega) ax
        have hm1 := fun W (p : PT w bt bo br s so' s W) => p.modeT (by have := HT1.out; omega) ax (n1, n2, n3)
        have hm2 := fun W (p : PT w bt bo br s so' s W) => p.modeR (by have := HT1.out; omega) ax (n1, n2, n3)
        have hc1 := fun W (p : PT w bt bo br s so' s W) => p.countT
        have hc2 := fun W (p : PT w bt bo br s so' s W) => p.countR (by have := HT1.out; omega)
        have he1 := fun W (p : PT w bt bo br s so' s W) => p.edgesT (by have := HT1.out; omega)
        have he2 := fun W (p : PT w bt bo br s so' s W) => p.edgesR (by have := HT1.out; omega)
        have hel : (sortedE (rawE s)).length ≤ 1000000 := by
          rw [sortedE_length]
          have := HT1.out
          exact Nat.le_trans (rawE_length P4.out.t.inv) (Nat.le_trans (Nat.mul_le_mul (show countP s ≤ 100 by omega) (show countP s ≤ 100 by omega)) (by omega))
        generalize sortedE (rawE s) = es at *
        generalize (waitN s ax).isSome = y at *
        generalize (waitN s ax).getD (0, noB, noB) = pn at *
        generalize modeN s ax (n1, n2, n3) = mo at *
        obtain ⟨p1, p2, p3⟩ := pn
        unfold valN at hwt hwr hm1 hm2
        simp only at hwt hwr hm1 hm2
        have HWT := Lib.hid hwt
        have HWR := Lib.hid hwr
        have HM1 := Lib.hid hm1
        have HM2 := Lib.hid hm2
        have HC1 := Lib.hid hc1
        have HC2 := Lib.hid hc2
        have HE1 := Lib.hid he1
        have HE2 := Lib.hid he2
        have HEL := Lib.hid hel
        clear hwt hwr hm1 hm2 hc1 hc2 he1 he2 hel
        have z1 : w4.cell? ⟨ba, 1, none⟩ = some (.int .i64 ax) := B4.out.cell 1
        go_wp2_with fail
        refine (HWT.out _ P4.out).mono ?_
        rintro e w20 ⟨rfl, hb⟩
        have P21 := Lib.hid ((P4.out.next hb).next (alloc_below w20 (.cells #[.int .i64 p1, .string p2, .string p3] 31)))
        have b20 := Blk.below B4.out hb B4.out.lt
        have B21 := Lib.hid (b20.alloc (.cells #[.int .i64 p1, .string p2, .string p3] 31))
        have N21 := Lib.hid (Blk.new w20 31 #[.int .i64 p1, .string p2, .string p3])
        have z1 : w20.cell? ⟨ba, 1, none⟩ = some (.int .i64 ax) := b20.cell 1
        have z2 : (w20.alloc (.cells #[.int .i64 p1, .string p2, .string p3] 31)).cell? ⟨ba, 1, none⟩ = some (.int .i64 ax) := B21.out.cell 1
        clear hb b20
        go_wp2_with fail
        refine (HWR.out _ P21.out).mono ?_
        rintro e w22 ⟨rfl, hb⟩
        have P23 := Lib.hid ((P21.out.next hb).next (alloc_below w22 (.cells #[.int .i64 p1, .string p2, .string p3] 31)))
        have b22 := Blk.below B21.out hb B21.out.lt
        have n22 := Blk.below N21.out hb N21.out.lt
        have B23 := Lib.hid (b22.alloc (.cells #[.int .i64 p1, .string p2, .string p3] 31))
        have N23 := Lib.hid (n22.alloc (.cells #[.int .i64 p1, .string p2, .string p3] 31))
        have M23 := Lib.hid (Blk.new w22 31 #[.int .i64 p1, .string p2, .string p3])
        generalize w20.heap.size = bn at *
        clear hb b22 n22 z1 z2 B21 N21 P21
        go_wp2_with fail
        generalize w22.heap.size = bm at *
        generalize w22.alloc (.cells #[.int .i64 p1, .string p2, .string p3] 31) = w23 at *
        have HSB : Hid (∀ W, Below w23.heap.size w23 W → (fun W : World => W.cell? ⟨ba, 1, none⟩ = some (.int .i64 ax) ∧ W.cell? ⟨ba, 3, none⟩ = some (.int .i64 n1) ∧ W.cell? ⟨ba, 4, none⟩ = some (.string n2) ∧ W.cell? ⟨ba, 5, none⟩ = some (.string n3) ∧ W.cell? ⟨bn, 0, none⟩ = some (.int .i64 p1) ∧ W.cell? ⟨bn, 1, none⟩ = some (.string p2) ∧ W.cell? ⟨bn, 2, none⟩ = some (.string p3) ∧ W.cell? ⟨bm, 0, none⟩ = some (.int .i64 p1) ∧ W.cell? ⟨bm, 1, none⟩ = some (.string p2) ∧ W.cell? ⟨bm, 2, none⟩ = some (.string p3)) W) := Lib.hid fun W k => by
          have b := Blk.below B23.out k B23.out.lt
          have n := Blk.below N23.out k N23.out.lt
          have m := Blk.below M23.out k M23.out.lt
          exact ⟨b.cell 1, b.cell 3, b.cell 4, b.cell 5, n.cell 0, n.cell 1, n.cell 2, m.cell 0, m.cell 1, m.cell 2⟩
        have HPP : Hid (∀ W, Below w23.heap.size w23 W → PT w bt bo br s so' s W) := Lib.hid fun W k => P23.out.next k
        have HB24 : Hid (Below w23.heap.size w23 w23.drew) := Lib.hid (Below.refl _ _).drew
        have hT24 : (fun W : World => W.cell? ⟨ba, 1, none⟩ = some (.int .i64 ax) ∧ W.cell? ⟨ba, 3, none⟩ = some (.int .i64 n1) ∧ W.cell? ⟨ba, 4, none⟩ = some (.string n2) ∧ W.cell? ⟨ba, 5, none⟩ = some (.string n3) ∧ W.cell? ⟨bn, 0, none⟩ = some (.int .i64 p1) ∧ W.cell? ⟨bn, 1, none⟩ = some (.string p2) ∧ W.cell? ⟨bn, 2, none⟩ = some (.string p3) ∧ W.cell? ⟨bm, 0, none⟩ = some (.int .i64 p1) ∧ W.cell? ⟨bm, 1, none⟩ = some (.string p2) ∧ W.cell? ⟨bm, 2, none⟩ = some (.string p3)) w23.drew := HSB.out _ HB24.out
        have hy : (y != y) = false := by cases y <;> rfl
        have hp : (p2.toList == p2.toList) = true := by simp
        have hq : (p3.toList == p3.toList) = true := by simp
        have hmm : ((mo : Int) != (mo : Int)) = false := by simp
        have hcc : ((countP s : Int) != (countP s : Int)) = false := by simp
        go_region_held3 (fun W : World => W.cell? ⟨ba, 1, none⟩ = some (.int .i64 ax) ∧ W.cell? ⟨ba, 3, none⟩ = some (.int .i64 n1) ∧ W.cell? ⟨ba, 4, none⟩ = some (.string n2) ∧ W.cell? ⟨ba, 5, none⟩ = some (.string n3) ∧ W.cell? ⟨bn, 0, none⟩ = some (.int .i64 p1) ∧ W.cell? ⟨bn, 1, none⟩ = some (.string p2) ∧ W.cell? ⟨bn, 2, none⟩ = some (.string p3) ∧ W.cell? ⟨bm, 0, none⟩ = some (.int .i64 p1) ∧ W.cell? ⟨bm, 1, none⟩ = some (.string p2) ∧ W.cell? ⟨bm, 2, none⟩ = some (.string p3))
          (first | exact hT24 | exact hT25 | exact hT26 | exact hT27 | exact hT28 | exact hT29 | exact hT30 | exact hT31)
          (first
            | (go_at_call 18; refine (same_edges LY29.out rfl LY30.out rfl HEL.out HEL.out).mono ?_; rintro e w31 ⟨rfl, hb⟩; simp only [decide_true]; have HB31 := Lib.hid (HB30.out.trans (hb.mono HB30.out.size)); have hT31 : (fun W : World => W.cell? ⟨ba, 1, none⟩ = some (.int .i64 ax) ∧ W.cell? ⟨ba, 3, none⟩ = some (.int .i64 n1) ∧ W.cell? ⟨ba, 4, none⟩ = some (.string n2) ∧ W.cell? ⟨ba, 5, none⟩ = some (.string n3) ∧ W.cell? ⟨bn, 0, none⟩ = some (.int .i64 p1) ∧ W.cell? ⟨bn, 1, none⟩ = some (.string p2) ∧ W.cell? ⟨bn, 2, none⟩ = some (.string p3) ∧ W.cell? ⟨bm, 0, none⟩ = some (.int .i64 p1) ∧ W.cell? ⟨bm, 1, none⟩ = some (.string p2) ∧ W.cell? ⟨bm, 2, none⟩ = some (.string p3)) w31 := HSB.out _ HB31.out; clear hb)
            | (go_at_call 20; refine (HE2.out _ (HPP.out _ HB29.out)).mono ?_; rintro e w30 ⟨v30, rfl, o30, hb⟩; obtain ⟨A30, c30, e30, l30, _⟩ := own_lst o30; subst e30; have LY30 := Lib.hid l30; have LY29 := Lib.hid (LX29.out.below hb); have HB30 := Lib.hid (HB29.out.trans (hb.mono HB29.out.size)); have hT30 : (fun W : World => W.cell? ⟨ba, 1, none⟩ = some (.int .i64 ax) ∧ W.cell? ⟨ba, 3, none⟩ = some (.int .i64 n1) ∧ W.cell? ⟨ba, 4, none⟩ = some (.string n2) ∧ W.cell? ⟨ba, 5, none⟩ = some (.string n3) ∧ W.cell? ⟨bn, 0, none⟩ = some (.int .i64 p1) ∧ W.cell? ⟨bn, 1, none⟩ = some (.string p2) ∧ W.cell? ⟨bn, 2, none⟩ = some (.string p3) ∧ W.cell? ⟨bm, 0, none⟩ = some (.int .i64 p1) ∧ W.cell? ⟨bm, 1, none⟩ = some (.string p2) ∧ W.cell? ⟨bm, 2, none⟩ = some (.string p3)) w30 := HSB.out _ HB30.out; clear o30 l30; clear hb)
            | (go_at_call 19; refine (HE1.out _ (HPP.out _ HB28.out)).mono ?_; rintro e w29 ⟨v29, rfl, o29, hb⟩; obtain ⟨A29, c29, e29, l29, _⟩ := own_lst o29; subst e29; have LX29 := Lib.hid l29; have HB29 := Lib.hid (HB28.out.trans (hb.mono HB28.out.size)); have hT29 : (fun W : World => W.cell? ⟨ba, 1, none⟩ = some (.int .i64 ax) ∧ W.cell? ⟨ba, 3, none⟩ = some (.int .i64 n1) ∧ W.cell? ⟨ba, 4, none⟩ = some (.string n2) ∧ W.cell? ⟨ba, 5, none⟩ = some (.string n3) ∧ W.cell? ⟨bn, 0, none⟩ = some (.int .i64 p1) ∧ W.cell? ⟨bn, 1, none⟩ = some (.string p2) ∧ W.cell? ⟨bn, 2, none⟩ = some (.string p3) ∧ W.cell? ⟨bm, 0, none⟩ = some (.int .i64 p1) ∧ W.cell? ⟨bm, 1, none⟩ = some (.string p2) ∧ W.cell? ⟨bm, 2, none⟩ = some (.string p3)) w29 := HSB.out _ HB29.out; clear o29 l29; clear hb)
            | (go_at_call 17; refine (HC2.out _ (HPP.out _ HB27.out)).mono ?_; rintro e w28 ⟨rfl, hb⟩; have HB28 := Lib.hid (HB27.out.trans (hb.mono HB27.out.size)); have hT28 : (fun W : World => W.cell? ⟨ba, 1, none⟩ = some (.int .i64 ax) ∧ W.cell? ⟨ba, 3, none⟩ = some (.int .i64 n1) ∧ W.cell? ⟨ba, 4, none⟩ = some (.string n2) ∧ W.cell? ⟨ba, 5, none⟩ = some (.string n3) ∧ W.cell? ⟨bn, 0, none⟩ = some (.int .i64 p1) ∧ W.cell? ⟨bn, 1, none⟩ = some (.string p2) ∧ W.cell? ⟨bn, 2, none⟩ = some (.string p3) ∧ W.cell? ⟨bm, 0, none⟩ = some (.int .i64 p1) ∧ W.cell? ⟨bm, 1, none⟩ = some (.string p2) ∧ W.cell? ⟨bm, 2, none⟩ = some (.string p3)) w28 := HSB.out _ HB28.out; clear hb)
            | (go_at_call 16; refine (HC1.out _ (HPP.out _ HB26.out)).mono ?_; rintro e w27 ⟨rfl, hb⟩; have HB27 := Lib.hid (HB26.out.trans (hb.mono HB26.out.size)); have hT27 : (fun W : World => W.cell? ⟨ba, 1, none⟩ = some (.int .i64 ax) ∧ W.cell? ⟨ba, 3, none⟩ = some (.int .i64 n1) ∧ W.cell? ⟨ba, 4, none⟩ = some (.string n2) ∧ W.cell? ⟨ba, 5, none⟩ = some (.string n3) ∧ W.cell? ⟨bn, 0, none⟩ = some (.int .i64 p1) ∧ W.cell? ⟨bn, 1, none⟩ = some (.string p2) ∧ W.cell? ⟨bn, 2, none⟩ = some (.string p3) ∧ W.cell? ⟨bm, 0, none⟩ = some (.int .i64 p1) ∧ W.cell? ⟨bm, 1, none⟩ = some (.string p2) ∧ W.cell? ⟨bm, 2, none⟩ = some (.string p3)) w27 := HSB.out _ HB27.out; clear hb)
            | (go_at_call 15; refine (HM2.out _ (HPP.out _ HB25.out)).mono ?_; rintro e w26 ⟨rfl, hb⟩; have HB26 := Lib.hid (HB25.out.trans (hb.mono HB25.out.size)); have hT26 : (fun W : World => W.cell? ⟨ba, 1, none⟩ = some (.int .i64 ax) ∧ W.cell? ⟨ba, 3, none⟩ = some (.int .i64 n1) ∧ W.cell? ⟨ba, 4, none⟩ = some (.string n2) ∧ W.cell? ⟨ba, 5, none⟩ = some (.string n3) ∧ W.cell? ⟨bn, 0, none⟩ = some (.int .i64 p1) ∧ W.cell? ⟨bn, 1, none⟩ = some (.string p2) ∧ W.cell? ⟨bn, 2, none⟩ = some (.string p3) ∧ W.cell? ⟨bm, 0, none⟩ = some (.int .i64 p1) ∧ W.cell? ⟨bm, 1, none⟩ = some (.string p2) ∧ W.cell? ⟨bm, 2, none⟩ = some (.string p3)) w26 := HSB.out _ HB26.out; clear hb)
            | (go_at_call 14; refine (HM1.out _ (HPP.out _ HB24.out)).mono ?_; rintro e w25 ⟨rfl, hb⟩; have HB25 := Lib.hid (HB24.out.trans (hb.mono HB24.out.size)); have hT25 : (fun W : World => W.cell? ⟨ba, 1, none⟩ = some (.int .i64 ax) ∧ W.cell? ⟨ba, 3, none⟩ = some (.int .i64 n1) ∧ W.cell? ⟨ba, 4, none⟩ = some (.string n2) ∧ W.cell? ⟨ba, 5, none⟩ = some (.string n3) ∧ W.cell? ⟨bn, 0, none⟩ = some (.int .i64 p1) ∧ W.cell? ⟨bn, 1, none⟩ = some (.string p2) ∧ W.cell? ⟨bn, 2, none⟩ = some (.string p3) ∧ W.cell? ⟨bm, 0, none⟩ = some (.int .i64 p1) ∧ W.cell? ⟨bm, 1, none⟩ = some (.string p2) ∧ W.cell? ⟨bm, 2, none⟩ = some (.string p3)) w25 := HSB.out _ HB25.out; clear hb))
        go_wp2_with fail
        go_roundg (n - (j + 1))
        case measure => have := HJ.out; omega
        case rel => exact ⟨j + 1, s, so', by omega, by go_num, HPP.out _ HB31.out, HT1.out, HSO.out, HSH.out⟩
    · have he : j = n := by have := HJ.out; omega
      subst he
      have HB := Lib.hid HP.out.t.below
      clear HP
      go_wp2_with fail
      go_ret
      exact ⟨rfl, HB.out⟩
end Go.Proofs.YtnjhhndggfjjdaaGreatDoor
