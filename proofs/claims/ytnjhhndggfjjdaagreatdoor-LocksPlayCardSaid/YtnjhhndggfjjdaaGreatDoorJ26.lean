/- The document's Ask, where a holder waits. -/
import Derived.Test.YtnjhhndggfjjdaaGreatDoorJ20
import Derived.Deep.RegionHeld3
set_option maxRecDepth 4000
namespace Go.Proofs.YtnjhhndggfjjdaaGreatDoor
open Go.RowKit
def FrRq (w : World) (H L : List Cl) (k : Nat) (i : Value) (wr : World) : Prop := ∃ j, j + k = L.length ∧ i = .int .i64 (j : Int) ∧ (∀ q (_ : q < j) (hl : q < L.length), hasP H (L[q]).1 = true) ∧ Below w.heap.size w wr
set_option maxHeartbeats 2000000 in
theorem rask_wait3 {w : World} {base b : Nat} {X : Nat → Prop} {H L : List Cl} {vH vL : Value} (h : RK base X b (H, L) vH vL w) (hbase : base ≤ w.heap.size) (hok : Ok (H, L)) (hn : H.length ≤ 10000) (hm : L.length ≤ 10000) (who mode : Int) (h0 : mdN mode ≠ 0) (h1 : hasP L who = false) (h2 : hasP H who = true) (h3 : covB (modeP H who) (mdN mode) = false) (h4 : fitsP H (who, joinN (modeP H who) (mdN mode)) = false) :
    Calls Tryz.prog 32 #[.pointer (some ⟨b, 0, none⟩), .int .i64 who, .int .i64 mode] w fun e w' => e = .returned (.bool false) ∧ RLk base X b (H, waitP H L (who, joinN (modeP H who) (mdN mode))) w' ∧ RKeep base X b w w' := by
  have hq := mdN_lt mode
  have RKH := Lib.hid h
  have HBASE := Lib.hid hbase
  have hbs := h.two.lt
  have b0 := h.two.c0
  have b1 := h.two.c1
  obtain ⟨AH, cH, eH1, lH, gH, xH, _⟩ := own_lst h.oH
  obtain ⟨AL, cL, eL1, lL, gL, xL, _⟩ := own_lst h.oL
  simp only [List.length_map] at eH1 eL1 gH gL lH lL
  subst eH1 eL1
  have hfL := rfind_ (c := cL) (n := L.length) lL (by simp only [List.length_map]) (by omega) who
  have hfH := fun W (hb : Below w.heap.size w W) => rfind_ (w := W) (c := cH) (n := H.length) (lH.below hb) (by simp only [List.length_map]) (by omega) who
  have hfit := fun W (hb : Below w.heap.size w W) (x : Cl) (hx : x.2 < 6) => rfits_ (w := W) (n := H.length) (c := cH) ((RKH.out.below hb).two) (lH.below hb) rfl (by omega) hok.mH x hx
  simp only [idx_hd] at hfH
  simp only [idx_ln] at hfL
  have hsp : spotP H L who = frontP H L := by
    unfold spotP
    rw [if_pos h2]
  have e1 : idxI (isW who) L = -1 := by
    rcases idx_cases (isW who) L with ⟨e, _⟩ | ⟨_, _, e, _⟩
    · exact e
    · rw [show L.any (isW who) = hasP L who from rfl, h1] at e; cases e
  rw [e1] at hfL
  have e2 : ∃ k, H.findIdx (isW who) = k ∧ idxI (isW who) H = (k : Int) ∧ ∃ h : k < H.length, (H[k]).1 = who ∧ (H[k]).2 = modeP H who := by
    rcases idx_cases (isW who) H with ⟨_, e⟩ | ⟨h0, e, _, e3⟩
    · rw [show H.any (isW who) = hasP H who from rfl, h2] at e; cases e
    · exact ⟨_, rfl, e, h0, by simpa [isW] using e3, (mode_of_idx h0).symm⟩
  obtain ⟨k, hkx, e2, hk, hkw, hkm⟩ := e2
  rw [e2] at hfH
  have hhas := mode_lt hok.mH who
  simp only at hhas
  obtain ⟨g, curH, eA, hgb, hblk, _⟩ := own_slot RKH.out.oH (by simp only [List.length_map]; omega)
  subst eA
  obtain ⟨_, _, e, hg, d0, d1, _⟩ := lH.atHd hk
  injection e with e
  injection e with e3 e4 _
  subst e3 e4
  rw [hkm] at d1
  have HBLK := Lib.hid hblk
  have HKX := Lib.hid hkx
  have hkw2 : (H[k]?).map (·.1) = some who := by rw [List.getElem?_eq_getElem hk, Option.map_some, hkw]
  have HKW := Lib.hid hkw2
  have hkn := hk
  have HK := Lib.hid hk
  clear e1 e2 hkw hkw2 hkm hblk hgb hkx hk h1 h2 d0
  simp only [Nat.zero_add] at d1
  have hcv := fun W => ref_covers (modeP H who : Int) (mdN mode : Int) W
  have hmm2 : mdN (mdN mode : Int) = mdN mode := mdN_of hq
  rw [mdN_of hhas, hmm2, h3] at hcv
  have HCV := Lib.hid hcv
  clear hcv
  have hjn := fun W => ref_join (modeP H who : Int) (mdN mode : Int) W
  rw [mdN_of hhas, hmm2] at hjn
  have HJN := Lib.hid hjn
  have hjlt := joinN_lt hhas hq
  clear hjn hmm2 h3
  generalize joinN (modeP H who) (mdN mode) = jn at *
  generalize modeP H who = has at *
  have HFL := Lib.hid hfL
  have HFH := Lib.hid hfH
  have HFIT := Lib.hid hfit
  have HLH := Lib.hid lH
  have HLL := Lib.hid lL
  have HOK := Lib.hid hok
  clear hfL hfH hfit lH lL hok h hbase
  generalize hnn : H.length = n at *
  generalize hmm : L.length = m at *
  have HN := Lib.hid hnn
  have HM := Lib.hid hmm
  clear hnn hmm
  have HS0 := Lib.hid hsp
  have hmd := mode_ mode w
  generalize mdN mode = q at *
  have HMD := Lib.hid hmd
  clear hmd
  have hq0 : ¬ ((q : Int) = 0) := by omega
  clear h0 hsp
  go_enter Tryz.func32, Tryz.ntmps32
  go_wp2_with fail
  refine HMD.out.mono ?_
  rintro e w' ⟨rfl, rfl⟩
  go_wp2_with fail
  refine HFL.out.mono ?_
  rintro e w1 ⟨rfl, hb1⟩
  have HB1 := Lib.hid hb1
  have p0 := (cell_of_heap (hb1.block b hbs) 0).trans b0
  have p1 := (cell_of_heap (hb1.block b hbs) 1).trans b1
  clear hb1 HFL
  go_wp2_with fail
  refine (HFH.out _ HB1.out).mono ?_
  rintro e w2 ⟨rfl, hb2⟩
  have HB2 := Lib.hid (HB1.out.trans (hb2.mono HB1.out.size))
  have p0 := (cell_of_heap (hb2.block b (Nat.lt_of_lt_of_le hbs HB1.out.size)) 0).trans p0
  have p1 := (cell_of_heap (hb2.block b (Nat.lt_of_lt_of_le hbs HB1.out.size)) 1).trans p1
  clear hb2 HFH
  have d1 := (cell_of_heap (HB2.out.block g hg) _).trans d1
  go_wp2_with fail
  refine (HCV.out _).mono ?_
  rintro e w3 ⟨rfl, hb3⟩
  have HB3 := Lib.hid (HB2.out.trans (hb3.mono HB2.out.size))
  have p0 := (cell_of_heap (hb3.block b (Nat.lt_of_lt_of_le hbs HB2.out.size)) 0).trans p0
  have p1 := (cell_of_heap (hb3.block b (Nat.lt_of_lt_of_le hbs HB2.out.size)) 1).trans p1
  have d1 := (cell_of_heap (hb3.block g (Nat.lt_of_lt_of_le hg HB2.out.size)) _).trans d1
  clear hb3 HCV HB2
  go_wp2_with fail
  refine (HJN.out _).mono ?_
  rintro e w4 ⟨rfl, hb4⟩
  have HB4 := Lib.hid (HB3.out.trans (hb4.mono HB3.out.size))
  have p0 := (cell_of_heap (hb4.block b (Nat.lt_of_lt_of_le hbs HB3.out.size)) 0).trans p0
  have p1 := (cell_of_heap (hb4.block b (Nat.lt_of_lt_of_le hbs HB3.out.size)) 1).trans p1
  have d1 := (cell_of_heap (hb4.block g (Nat.lt_of_lt_of_le hg HB3.out.size)) _).trans d1
  clear hb4 HJN HB3
  go_wp2_with fail
  refine (HFIT.out _ HB4.out (who, jn) hjlt).mono ?_
  rw [h4]
  rintro e w5 ⟨rfl, hb5⟩
  have HB5 := Lib.hid (HB4.out.trans (hb5.mono HB4.out.size))
  have p0 := (cell_of_heap (hb5.block b (Nat.lt_of_lt_of_le hbs HB4.out.size)) 0).trans p0
  have p1 := (cell_of_heap (hb5.block b (Nat.lt_of_lt_of_le hbs HB4.out.size)) 1).trans p1
  have d1 := (cell_of_heap (hb5.block g (Nat.lt_of_lt_of_le hg HB4.out.size)) _).trans d1
  clear hb5 HFIT HB4
  go_wp2_with fail
  go_loopg [8] m (fun k i wr => FrRq w H L k i wr)
  case atStart => exact ⟨0, by rw [HM.out]; omega, rfl, fun q hq => absurd hq (Nat.not_lt_zero q), HB5.out⟩
  case round =>
    obtain ⟨j, hj, rfl, h1, hb⟩ := hrel
    have hjm0 : j ≤ m := by have := HM.out; omega
    have HJ := Lib.hid hj
    have HB := Lib.hid hb
    have H1 := Lib.hid h1
    clear hj hb h1 p0 p1 d1 b0 b1 HB5
    have p0 := ((RKH.out.below HB.out).two).c0
    have p1 := ((RKH.out.below HB.out).two).c1
    by_cases hlt : j < m
    · have hx : j < L.length := by rw [HM.out]; exact hlt
      obtain ⟨gY, oY, eL, hgY, f0, _, _⟩ := (HLL.out.below HB.out).atLn hx
      have hfd := fun W (hb2 : Below w.heap.size w W) => rfind_ (w := W) (c := cH) (n := n) (HLH.out.below hb2) (by simp only [List.length_map]; exact HN.out) (by omega) (L[j]).1
      simp only [idx_hd] at hfd
      have hbr0 : b < wr.heap.size := Nat.lt_of_lt_of_le hbs HB.out.size
      have hnx : hasP H (L[j]).1 = true → ∀ q (hq : q < j + 1) (hl : q < L.length), hasP H (L[q]).1 = true := fun h q hq hql => by
        rcases Nat.lt_or_ge q j with h5 | h5
        · exact H1.out q h5 hql
        · obtain rfl : q = j := by omega
          exact h
      have hfr : hasP H (L[j]).1 = false → frontP H L = j := fun h => front_at hx H1.out h
      have HNX := Lib.hid hnx
      have HFR := Lib.hid hfr
      have hplace := has_place H (L[j]).1
      clear hnx hfr
      subst eL
      generalize (L[j]).1 = y at *
      have hS0 : (fun W : World => W.cell? ⟨b, 0, none⟩ = some (.slice (some ⟨g, 0, none⟩) n cH) ∧ W.cell? ⟨b, 1, none⟩ = some (.slice (some ⟨gY, oY, none⟩) m cL) ∧ W.cell? ⟨gY, oY + j * 3, none⟩ = some (.int .i64 y)) wr.drew := ⟨p0, p1, f0⟩
      rcases hplace with ⟨hh, e⟩ | ⟨hh, kk, e⟩
      · simp only [e] at hfd
        have HSQ := Lib.hid (HS0.out.trans (HFR.out hh))
        clear hh e HFR HNX H1
        have HFD := Lib.hid hfd
        clear hfd
        go_wp2_with fail
        go_region_held3 (fun W : World => W.cell? ⟨b, 0, none⟩ = some (.slice (some ⟨g, 0, none⟩) n cH) ∧ W.cell? ⟨b, 1, none⟩ = some (.slice (some ⟨gY, oY, none⟩) m cL) ∧ W.cell? ⟨gY, oY + j * 3, none⟩ = some (.int .i64 y))
          (first | exact hS0 | exact hS1)
          (first | (go_at_call 30; refine (HFD.out _ HB.out.drew).mono ?_; rintro e w6 ⟨rfl, hb6⟩; have HB6 := Lib.hid hb6; have hS1 : (fun W : World => W.cell? ⟨b, 0, none⟩ = some (.slice (some ⟨g, 0, none⟩) n cH) ∧ W.cell? ⟨b, 1, none⟩ = some (.slice (some ⟨gY, oY, none⟩) m cL) ∧ W.cell? ⟨gY, oY + j * 3, none⟩ = some (.int .i64 y)) w6 := ⟨(cell_of_heap (hb6.block b hbr0) _).trans hS0.1, (cell_of_heap (hb6.block b hbr0) _).trans hS0.2.1, (cell_of_heap (hb6.block gY hgY) _).trans hS0.2.2⟩; clear hb6))
        have HBW := Lib.hid (HB.out.trans (((Below.refl _ _).drew.trans HB6.out).mono HB.out.size))
        obtain ⟨_, p1, _⟩ := hS1
        clear hS0 HB6 HFD HB HJ
        have hbr : b < w6.heap.size := Nat.lt_of_lt_of_le hbs HBW.out.size
        have hML : (L.map lnA).length = m := by rw [List.length_map]; exact HM.out
        have hjm : j ≤ m := hjm0
        have hlj : ((L.map lnA).take j).length = j := by rw [List.length_take, hML]; omega
        have HLJ := Lib.hid hlj
        obtain ⟨m2, hm2⟩ : ∃ m2, m - j = m2 := ⟨_, rfl⟩
        obtain ⟨A2, hd2, hr2, _⟩ := tail_holds HLL.out hML gL hjm hm2
        have hd1 := fun W => head_holds (some ⟨gY, oY, none⟩) m cL j (by omega) W
        have hlm : ((L.map lnA).drop j).length = m2 := by rw [List.length_drop, hML]; exact hm2
        have HLM := Lib.hid hlm
        have hjm2 : j + 1 + m2 ≤ 200000 := by omega
        have hjm3 : j ≤ 100000 := by omega
        have HQ := Lib.hid ((HLL.out.below HBW.out).take j)
        have HTL := Lib.hid (hr2.below HBW.out)
        have HSP := Lib.hid (HSQ.out)
        clear hlj hr2 hlm hm2 hML
        go_wp2_with fail
        go_region_law (first
          | (refine step_append_own tyH rfl (.tmp 130) (.tmp 136) rfl rfl HO6.out rfl (HTL.out.below HB6.out) HLM.out (by show _ + m2 ≤ 1000000; rw [List.length_append, HLJ.out]; show j + 1 + m2 ≤ 1000000; omega) HB6.out.size ?_; intro v7 W7 ho7 hg7; obtain ⟨A7, n7, c7, e7⟩ := own_form ho7; subst e7; have HO7 := Lib.hid ho7; have HB7 : Hid (Below w6.heap.size w6 W7) := HB6.out.trans (grown_own HO6.out hg7 HB6.out.size); have qW7 : W7.cell? ⟨b, 1, none⟩ = some (.slice (some ⟨gY, oY, none⟩) m cL) := (cell_of_heap (HB7.out.block b hbr) 1).trans p1; have sW7 : b < W7.heap.size := Nat.lt_of_lt_of_le hbr HB7.out.size; have fW7 := Blk.frozen (((RKH.out.below HBW.out).below HB7.out).two) 1; clear ho7 hg7)
          | (refine step_append_own tyH rfl (.tmp 125) (.tmp 129) rfl rfl HO5.out rfl HS5.out rfl (by show _ + 1 ≤ 1000000; rw [HLJ.out]; omega) HB5.out.size ?_; intro v6 W6 ho6 hg6; have HO6 := Lib.hid ho6; have HB6 : Hid (Below w6.heap.size w6 W6) := HB5.out.trans (grown_own HO5.out hg6 HB5.out.size); have qW6 : W6.cell? ⟨b, 1, none⟩ = some (.slice (some ⟨gY, oY, none⟩) m cL) := (cell_of_heap (HB6.out.block b hbr) 1).trans p1; have sW6 : b < W6.heap.size := Nat.lt_of_lt_of_le hbr HB6.out.size; clear ho6 hg6)
          | (refine step_append_own tyH rfl (.tmp 125) (.tmp 129) rfl rfl (own_belowE HO5.out (alloc_below W5 (.cells #[.int .i64 who, .int .i64 0, .int .i64 (jn : Int)] 56))) rfl (hold_one W5 who jn) rfl (by show _ + 1 ≤ 1000000; rw [HLJ.out]; omega) (Nat.le_trans HB5.out.size (alloc_below W5 (.cells #[.int .i64 who, .int .i64 0, .int .i64 (jn : Int)] 56)).size) ?_; intro v6 W6 ho6 hg6; have HO6 := Lib.hid ho6; have HB6 : Hid (Below w6.heap.size w6 W6) := (HB5.out.alloc HB5.out.size _).trans (grown_own (own_belowE HO5.out (alloc_below W5 (.cells #[.int .i64 who, .int .i64 0, .int .i64 (jn : Int)] 56))) hg6 (Nat.le_trans HB5.out.size (alloc_below W5 (.cells #[.int .i64 who, .int .i64 0, .int .i64 (jn : Int)] 56)).size)); have qW6 : W6.cell? ⟨b, 1, none⟩ = some (.slice (some ⟨gY, oY, none⟩) m cL) := (cell_of_heap (HB6.out.block b hbr) 1).trans p1; have sW6 : b < W6.heap.size := Nat.lt_of_lt_of_le hbr HB6.out.size; clear ho6 hg6)
          | (refine step_append_own (v := .slice none 0 0) (ys := []) tyH rfl (.const (.slice none 0 0)) (.tmp 124) rfl rfl (own_nil (w6.alloc (.cells #[.int .i64 who, .int .i64 0, .int .i64 (jn : Int)] 56)).drew w6.heap.size) rfl (HQ.out.below (alloc_below w6 (.cells #[.int .i64 who, .int .i64 0, .int .i64 (jn : Int)] 56)).drew) HLJ.out (by show 0 + j ≤ 1000000; omega) (alloc_below w6 (.cells #[.int .i64 who, .int .i64 0, .int .i64 (jn : Int)] 56)).size ?_; intro v5 W5 ho5 hg5; rw [List.nil_append] at ho5; have HO5 := Lib.hid ho5; have HB5 : Hid (Below w6.heap.size w6 W5) := (alloc_below w6 (.cells #[.int .i64 who, .int .i64 0, .int .i64 (jn : Int)] 56)).drew.trans ((Below.refl _ _).grown hg5 (alloc_below w6 (.cells #[.int .i64 who, .int .i64 0, .int .i64 (jn : Int)] 56)).size (fun q hq => by simp [Value.ownBlock] at hq)); have HS5 := Lib.hid ((hold_one w6 who jn).below ((Below.refl (w6.alloc (.cells #[.int .i64 who, .int .i64 0, .int .i64 (jn : Int)] 56)).heap.size (w6.alloc (.cells #[.int .i64 who, .int .i64 0, .int .i64 (jn : Int)] 56))).drew.trans ((Below.refl _ _).grown hg5 (Nat.le_refl _) (fun q hq => by simp [Value.ownBlock] at hq)))); have qW5 : W5.cell? ⟨b, 1, none⟩ = some (.slice (some ⟨gY, oY, none⟩) m cL) := (cell_of_heap (HB5.out.block b hbr) 1).trans p1; have sW5 : b < W5.heap.size := Nat.lt_of_lt_of_le hbr HB5.out.size; clear ho5 hg5)
          | (refine step_append_own (v := .slice none 0 0) (ys := []) tyH rfl (.const (.slice none 0 0)) (.tmp 124) rfl rfl (own_nil w6.drew w6.heap.size) rfl (HQ.out.below (Below.refl _ _).drew) HLJ.out (by show 0 + j ≤ 1000000; omega) (Nat.le_refl _) ?_; intro v5 W5 ho5 hg5; rw [List.nil_append] at ho5; have HO5 := Lib.hid ho5; have HB5 : Hid (Below w6.heap.size w6 W5) := (Below.refl w6.heap.size w6).drew.trans ((Below.refl _ _).grown hg5 (Nat.le_refl _) (fun q hq => by simp [Value.ownBlock] at hq)); have qW5 : W5.cell? ⟨b, 1, none⟩ = some (.slice (some ⟨gY, oY, none⟩) m cL) := (cell_of_heap (HB5.out.block b hbr) 1).trans p1; have sW5 : b < W5.heap.size := Nat.lt_of_lt_of_le hbr HB5.out.size; clear ho5 hg5))
        all_goals
          have hend := rk_wait RKH.out HBW.out HBASE.out HB7.out HO7.out HSP.out
          have HE1 := Lib.hid hend.1
          have HE2 := Lib.hid hend.2
          clear hend
          go_wp2_with fail
          go_ret
          exact ⟨rfl, HE1.out, HE2.out⟩
      · simp only [e] at hfd
        have HNQ := Lib.hid (HNX.out hh)
        clear hh e HFR HNX H1
        have HFD := Lib.hid hfd
        clear hfd
        go_wp2_with fail
        go_region_held3 (fun W : World => W.cell? ⟨b, 0, none⟩ = some (.slice (some ⟨g, 0, none⟩) n cH) ∧ W.cell? ⟨b, 1, none⟩ = some (.slice (some ⟨gY, oY, none⟩) m cL) ∧ W.cell? ⟨gY, oY + j * 3, none⟩ = some (.int .i64 y))
          (first | exact hS0 | exact hS1)
          (first | (go_at_call 30; refine (HFD.out _ HB.out.drew).mono ?_; rintro e w6 ⟨rfl, hb6⟩; have HB6 := Lib.hid hb6; have hS1 : (fun W : World => W.cell? ⟨b, 0, none⟩ = some (.slice (some ⟨g, 0, none⟩) n cH) ∧ W.cell? ⟨b, 1, none⟩ = some (.slice (some ⟨gY, oY, none⟩) m cL) ∧ W.cell? ⟨gY, oY + j * 3, none⟩ = some (.int .i64 y)) w6 := ⟨(cell_of_heap (hb6.block b hbr0) _).trans hS0.1, (cell_of_heap (hb6.block b hbr0) _).trans hS0.2.1, (cell_of_heap (hb6.block gY hgY) _).trans hS0.2.2⟩; clear hb6))
        have HBW := Lib.hid (HB.out.trans (((Below.refl _ _).drew.trans HB6.out).mono HB.out.size))
        go_wp2_with fail
        go_roundg (m - (j + 1))
        case measure => have := HJ.out; have := HM.out; omega
        case rel => exact ⟨j + 1, by rw [HM.out]; omega, by go_num, HNQ.out, HBW.out⟩
    · have hall : frontP H L = j := by
        have := front_all (H := H) (L := L) fun q hq => H1.out q (by have := HM.out; omega) hq
        rw [this, HM.out]; omega
      have HSQ := Lib.hid (HS0.out.trans hall)
      have hdd : decide ((j : Int) < (m : Int)) = false := by simp; omega
      have hddn : ¬ ((j : Int) < (m : Int)) := by omega
      clear hall H1
      go_wp2_with fail
      go_quiet (fail)
      have HBW := Lib.hid (below_drewN HB.out nq)
      have p1 : (wr.drewN nq).cell? ⟨b, 1, none⟩ = some (.slice AL m cL) := p1
      generalize wr.drewN nq = w6 at *
      have hbr : b < w6.heap.size := Nat.lt_of_lt_of_le hbs HBW.out.size
      have hML : (L.map lnA).length = m := by rw [List.length_map]; exact HM.out
      have hjm : j ≤ m := hjm0
      have hlj : ((L.map lnA).take j).length = j := by rw [List.length_take, hML]; omega
      have HLJ := Lib.hid hlj
      obtain ⟨m2, hm2⟩ : ∃ m2, m - j = m2 := ⟨_, rfl⟩
      obtain ⟨A2, hd2, hr2, _⟩ := tail_holds HLL.out hML gL hjm hm2
      have hd1 := fun W => head_holds AL m cL j (by omega) W
      have hlm : ((L.map lnA).drop j).length = m2 := by rw [List.length_drop, hML]; exact hm2
      have HLM := Lib.hid hlm
      have hjm2 : j + 1 + m2 ≤ 200000 := by omega
      have hjm3 : j ≤ 100000 := by omega
      have HQ := Lib.hid ((HLL.out.below HBW.out).take j)
      have HTL := Lib.hid (hr2.below HBW.out)
      have HSP := Lib.hid (HSQ.out)
      clear hlj hr2 hlm hm2 hML
      go_wp2_with fail
      go_region_law (first
        | (refine step_append_own tyH rfl (.tmp 130) (.tmp 136) rfl rfl HO6.out rfl (HTL.out.below HB6.out) HLM.out (by show _ + m2 ≤ 1000000; rw [List.length_append, HLJ.out]; show j + 1 + m2 ≤ 1000000; omega) HB6.out.size ?_; intro v7 W7 ho7 hg7; obtain ⟨A7, n7, c7, e7⟩ := own_form ho7; subst e7; have HO7 := Lib.hid ho7; have HB7 : Hid (Below w6.heap.size w6 W7) := HB6.out.trans (grown_own HO6.out hg7 HB6.out.size); have qW7 : W7.cell? ⟨b, 1, none⟩ = some (.slice AL m cL) := (cell_of_heap (HB7.out.block b hbr) 1).trans p1; have sW7 : b < W7.heap.size := Nat.lt_of_lt_of_le hbr HB7.out.size; have fW7 := Blk.frozen (((RKH.out.below HBW.out).below HB7.out).two) 1; clear ho7 hg7)
        | (refine step_append_own tyH rfl (.tmp 125) (.tmp 129) rfl rfl HO5.out rfl HS5.out rfl (by show _ + 1 ≤ 1000000; rw [HLJ.out]; omega) HB5.out.size ?_; intro v6 W6 ho6 hg6; have HO6 := Lib.hid ho6; have HB6 : Hid (Below w6.heap.size w6 W6) := HB5.out.trans (grown_own HO5.out hg6 HB5.out.size); have qW6 : W6.cell? ⟨b, 1, none⟩ = some (.slice AL m cL) := (cell_of_heap (HB6.out.block b hbr) 1).trans p1; have sW6 : b < W6.heap.size := Nat.lt_of_lt_of_le hbr HB6.out.size; clear ho6 hg6)
        | (refine step_append_own tyH rfl (.tmp 125) (.tmp 129) rfl rfl (own_belowE HO5.out (alloc_below W5 (.cells #[.int .i64 who, .int .i64 0, .int .i64 (jn : Int)] 56))) rfl (hold_one W5 who jn) rfl (by show _ + 1 ≤ 1000000; rw [HLJ.out]; omega) (Nat.le_trans HB5.out.size (alloc_below W5 (.cells #[.int .i64 who, .int .i64 0, .int .i64 (jn : Int)] 56)).size) ?_; intro v6 W6 ho6 hg6; have HO6 := Lib.hid ho6; have HB6 : Hid (Below w6.heap.size w6 W6) := (HB5.out.alloc HB5.out.size _).trans (grown_own (own_belowE HO5.out (alloc_below W5 (.cells #[.int .i64 who, .int .i64 0, .int .i64 (jn : Int)] 56))) hg6 (Nat.le_trans HB5.out.size (alloc_below W5 (.cells #[.int .i64 who, .int .i64 0, .int .i64 (jn : Int)] 56)).size)); have qW6 : W6.cell? ⟨b, 1, none⟩ = some (.slice AL m cL) := (cell_of_heap (HB6.out.block b hbr) 1).trans p1; have sW6 : b < W6.heap.size := Nat.lt_of_lt_of_le hbr HB6.out.size; clear ho6 hg6)
        | (refine step_append_own (v := .slice none 0 0) (ys := []) tyH rfl (.const (.slice none 0 0)) (.tmp 124) rfl rfl (own_nil (w6.alloc (.cells #[.int .i64 who, .int .i64 0, .int .i64 (jn : Int)] 56)).drew w6.heap.size) rfl (HQ.out.below (alloc_below w6 (.cells #[.int .i64 who, .int .i64 0, .int .i64 (jn : Int)] 56)).drew) HLJ.out (by show 0 + j ≤ 1000000; omega) (alloc_below w6 (.cells #[.int .i64 who, .int .i64 0, .int .i64 (jn : Int)] 56)).size ?_; intro v5 W5 ho5 hg5; rw [List.nil_append] at ho5; have HO5 := Lib.hid ho5; have HB5 : Hid (Below w6.heap.size w6 W5) := (alloc_below w6 (.cells #[.int .i64 who, .int .i64 0, .int .i64 (jn : Int)] 56)).drew.trans ((Below.refl _ _).grown hg5 (alloc_below w6 (.cells #[.int .i64 who, .int .i64 0, .int .i64 (jn : Int)] 56)).size (fun q hq => by simp [Value.ownBlock] at hq)); have HS5 := Lib.hid ((hold_one w6 who jn).below ((Below.refl (w6.alloc (.cells #[.int .i64 who, .int .i64 0, .int .i64 (jn : Int)] 56)).heap.size (w6.alloc (.cells #[.int .i64 who, .int .i64 0, .int .i64 (jn : Int)] 56))).drew.trans ((Below.refl _ _).grown hg5 (Nat.le_refl _) (fun q hq => by simp [Value.ownBlock] at hq)))); have qW5 : W5.cell? ⟨b, 1, none⟩ = some (.slice AL m cL) := (cell_of_heap (HB5.out.block b hbr) 1).trans p1; have sW5 : b < W5.heap.size := Nat.lt_of_lt_of_le hbr HB5.out.size; clear ho5 hg5)
        | (refine step_append_own (v := .slice none 0 0) (ys := []) tyH rfl (.const (.slice none 0 0)) (.tmp 124) rfl rfl (own_nil w6.drew w6.heap.size) rfl (HQ.out.below (Below.refl _ _).drew) HLJ.out (by show 0 + j ≤ 1000000; omega) (Nat.le_refl _) ?_; intro v5 W5 ho5 hg5; rw [List.nil_append] at ho5; have HO5 := Lib.hid ho5; have HB5 : Hid (Below w6.heap.size w6 W5) := (Below.refl w6.heap.size w6).drew.trans ((Below.refl _ _).grown hg5 (Nat.le_refl _) (fun q hq => by simp [Value.ownBlock] at hq)); have qW5 : W5.cell? ⟨b, 1, none⟩ = some (.slice AL m cL) := (cell_of_heap (HB5.out.block b hbr) 1).trans p1; have sW5 : b < W5.heap.size := Nat.lt_of_lt_of_le hbr HB5.out.size; clear ho5 hg5))
      all_goals
        have hend := rk_wait RKH.out HBW.out HBASE.out HB7.out HO7.out HSP.out
        have HE1 := Lib.hid hend.1
        have HE2 := Lib.hid hend.2
        clear hend
        go_wp2_with fail
        go_ret
        exact ⟨rfl, HE1.out, HE2.out⟩
end Go.Proofs.YtnjhhndggfjjdaaGreatDoor
