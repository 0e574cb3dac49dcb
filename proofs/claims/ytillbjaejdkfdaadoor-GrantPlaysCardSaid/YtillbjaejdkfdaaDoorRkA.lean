/- The document's Ask, where nothing is put in. -/
import Derived.Test.YtillbjaejdkfdaaDoorRkL
set_option maxRecDepth 4000
namespace Go.Proofs.YtillbjaejdkfdaaDoor
open Go.RowKit
set_option maxHeartbeats 2000000 in
theorem rask_none {w : World} {base b : Nat} {H L : List Cl} {vH vL : Value} (h : RK base b (H, L) vH vL w) (hbase : base ≤ w.heap.size) (hok : Ok (H, L)) (hn : H.length ≤ 10000) (hm : L.length ≤ 10000) (who mode : Int) (h0 : mdN mode = 0) :
    Calls Tryd.prog 10 #[.pointer (some ⟨b, 0, none⟩), .int .i64 who, .int .i64 mode] w fun e w' => e = .returned (.bool true) ∧ Below w.heap.size w w' := by
  have hq := mdN_lt mode
  have RKH := Lib.hid h
  have HBASE := Lib.hid hbase
  have hbs := h.two.lt
  have b0 := h.two.c0
  have b1 := h.two.c1
  obtain ⟨AH, cH, eH1, lH, gH, xH, _⟩ := own_lst h.oH
  obtain ⟨AL, cL, eL1, lL, gL, xL, _⟩ := own_lst h.oL
  simp only [List.length_map] at eH1 eL1 gH gL lH lL
  subst eH1 eL1
  have hfL := rfind_ (c := cL) (n := L.length) lL (by simp only [List.length_map]) (by omega) who
  have hfH := fun W (hb : Below w.heap.size w W) => rfind_ (w := W) (c := cH) (n := H.length) (lH.below hb) (by simp only [List.length_map]) (by omega) who
  have hfit := fun W (hb : Below w.heap.size w W) (x : Cl) (hx : x.2 < 6) => rfits_ (w := W) (n := H.length) (c := cH) ((RKH.out.below hb).two) (lH.below hb) rfl (by omega) hok.mH x hx
  simp only [idx_hd] at hfH
  simp only [idx_ln] at hfL
  have HFL := Lib.hid hfL
  have HFH := Lib.hid hfH
  have HFIT := Lib.hid hfit
  have HLH := Lib.hid lH
  have HLL := Lib.hid lL
  have HOK := Lib.hid hok
  clear hfL hfH hfit lH lL hok h hbase
  generalize hnn : H.length = n at *
  generalize hmm : L.length = m at *
  have HN := Lib.hid hnn
  have HM := Lib.hid hmm
  clear hnn hmm
  have hmd := mode_ mode w
  rw [h0] at hmd
  have HMD := Lib.hid hmd
  clear hmd h0
  go_enter Tryd.func10, Tryd.ntmps10
  go_wp2_with fail
  refine HMD.out.mono ?_
  rintro e w' ⟨rfl, rfl⟩
  go_wp2_with fail
  go_ret
  exact ⟨rfl, Below.refl _ _⟩
set_option maxHeartbeats 2000000 in
theorem rask_line {w : World} {base b : Nat} {H L : List Cl} {vH vL : Value} (h : RK base b (H, L) vH vL w) (hbase : base ≤ w.heap.size) (hok : Ok (H, L)) (hn : H.length ≤ 10000) (hm : L.length ≤ 10000) (who mode : Int) (h0 : mdN mode ≠ 0) (h1 : hasP L who = true) :
    Calls Tryd.prog 10 #[.pointer (some ⟨b, 0, none⟩), .int .i64 who, .int .i64 mode] w fun e w' => e = .returned (.bool false) ∧ Below w.heap.size w w' := by
  have hq := mdN_lt mode
  have RKH := Lib.hid h
  have HBASE := Lib.hid hbase
  have hbs := h.two.lt
  have b0 := h.two.c0
  have b1 := h.two.c1
  obtain ⟨AH, cH, eH1, lH, gH, xH, _⟩ := own_lst h.oH
  obtain ⟨AL, cL, eL1, lL, gL, xL, _⟩ := own_lst h.oL
  simp only [List.length_map] at eH1 eL1 gH gL lH lL
  subst eH1 eL1
  have hfL := rfind_ (c := cL) (n := L.length) lL (by simp only [List.length_map]) (by omega) who
  have hfH := fun W (hb : Below w.heap.size w W) => rfind_ (w := W) (c := cH) (n := H.length) (lH.below hb) (by simp only [List.length_map]) (by omega) who
  have hfit := fun W (hb : Below w.heap.size w W) (x : Cl) (hx : x.2 < 6) => rfits_ (w := W) (n := H.length) (c := cH) ((RKH.out.below hb).two) (lH.below hb) rfl (by omega) hok.mH x hx
  simp only [idx_hd] at hfH
  simp only [idx_ln] at hfL
  have e1 : ∃ j : Nat, idxI (isW who) L = (j : Int) := by
    rcases idx_cases (isW who) L with ⟨_, e⟩ | ⟨_, e, _⟩
    · rw [show L.any (isW who) = hasP L who from rfl, h1] at e; cases e
    · exact ⟨_, e⟩
  obtain ⟨j, e1⟩ := e1
  rw [e1] at hfL
  clear e1 h1
  have HFL := Lib.hid hfL
  have HFH := Lib.hid hfH
  have HFIT := Lib.hid hfit
  have HLH := Lib.hid lH
  have HLL := Lib.hid lL
  have HOK := Lib.hid hok
  clear hfL hfH hfit lH lL hok h hbase
  generalize hnn : H.length = n at *
  generalize hmm : L.length = m at *
  have HN := Lib.hid hnn
  have HM := Lib.hid hmm
  clear hnn hmm
  have hmd := mode_ mode w
  generalize mdN mode = q at *
  have HMD := Lib.hid hmd
  clear hmd
  have hq0 : ¬ ((q : Int) = 0) := by omega
  clear h0
  go_enter Tryd.func10, Tryd.ntmps10
  go_wp2_with fail
  refine HMD.out.mono ?_
  rintro e w' ⟨rfl, rfl⟩
  go_wp2_with fail
  refine HFL.out.mono ?_
  rintro e w1 ⟨rfl, hb1⟩
  have HB1 := Lib.hid hb1
  clear hb1
  go_wp2_with fail
  go_ret
  exact ⟨rfl, HB1.out⟩
set_option maxHeartbeats 2000000 in
theorem rask_has {w : World} {base b : Nat} {H L : List Cl} {vH vL : Value} (h : RK base b (H, L) vH vL w) (hbase : base ≤ w.heap.size) (hok : Ok (H, L)) (hn : H.length ≤ 10000) (hm : L.length ≤ 10000) (who mode : Int) (h0 : mdN mode ≠ 0) (h1 : hasP L who = false) (h2 : hasP H who = true) (h3 : covB (modeP H who) (mdN mode) = true) :
    Calls Tryd.prog 10 #[.pointer (some ⟨b, 0, none⟩), .int .i64 who, .int .i64 mode] w fun e w' => e = .returned (.bool true) ∧ Below w.heap.size w w' := by
  have hq := mdN_lt mode
  have RKH := Lib.hid h
  have HBASE := Lib.hid hbase
  have hbs := h.two.lt
  have b0 := h.two.c0
  have b1 := h.two.c1
  obtain ⟨AH, cH, eH1, lH, gH, xH, _⟩ := own_lst h.oH
  obtain ⟨AL, cL, eL1, lL, gL, xL, _⟩ := own_lst h.oL
  simp only [List.length_map] at eH1 eL1 gH gL lH lL
  subst eH1 eL1
  have hfL := rfind_ (c := cL) (n := L.length) lL (by simp only [List.length_map]) (by omega) who
  have hfH := fun W (hb : Below w.heap.size w W) => rfind_ (w := W) (c := cH) (n := H.length) (lH.below hb) (by simp only [List.length_map]) (by omega) who
  have hfit := fun W (hb : Below w.heap.size w W) (x : Cl) (hx : x.2 < 6) => rfits_ (w := W) (n := H.length) (c := cH) ((RKH.out.below hb).two) (lH.below hb) rfl (by omega) hok.mH x hx
  simp only [idx_hd] at hfH
  simp only [idx_ln] at hfL
  have e1 : idxI (isW who) L = -1 := by
    rcases idx_cases (isW who) L with ⟨e, _⟩ | ⟨_, _, e, _⟩
    · exact e
    · rw [show L.any (isW who) = hasP L who from rfl, h1] at e; cases e
  rw [e1] at hfL
  have e2 : ∃ k, H.findIdx (isW who) = k ∧ idxI (isW who) H = (k : Int) ∧ ∃ h : k < H.length, (H[k]).1 = who ∧ (H[k]).2 = modeP H who := by
    rcases idx_cases (isW who) H with ⟨_, e⟩ | ⟨h0, e, _, e3⟩
    · rw [show H.any (isW who) = hasP H who from rfl, h2] at e; cases e
    · exact ⟨_, rfl, e, h0, by simpa [isW] using e3, (mode_of_idx h0).symm⟩
  obtain ⟨k, hkx, e2, hk, hkw, hkm⟩ := e2
  rw [e2] at hfH
  have hhas := mode_lt hok.mH who
  simp only at hhas
  obtain ⟨g, curH, eA, hgb, hblk, _⟩ := own_slot RKH.out.oH (by simp only [List.length_map]; omega)
  subst eA
  obtain ⟨_, _, e, hg, d0, d1, _⟩ := lH.atHd hk
  injection e with e
  injection e with e3 e4 _
  subst e3 e4
  rw [hkm] at d1
  have HBLK := Lib.hid hblk
  have HKX := Lib.hid hkx
  have hkw2 : (H[k]?).map (·.1) = some who := by rw [List.getElem?_eq_getElem hk, Option.map_some, hkw]
  have HKW := Lib.hid hkw2
  have hkn := hk
  have HK := Lib.hid hk
  clear e1 e2 hkw hkw2 hkm hblk hgb hkx hk h1 h2 d0
  simp only [Nat.zero_add] at d1
  have hcv := fun W => ref_covers (modeP H who : Int) (mdN mode : Int) W
  have hmm2 : mdN (mdN mode : Int) = mdN mode := mdN_of hq
  rw [mdN_of hhas, hmm2, h3] at hcv
  have HCV := Lib.hid hcv
  clear hcv
  clear hmm2 h3
  generalize modeP H who = has at *
  have HFL := Lib.hid hfL
  have HFH := Lib.hid hfH
  have HFIT := Lib.hid hfit
  have HLH := Lib.hid lH
  have HLL := Lib.hid lL
  have HOK := Lib.hid hok
  clear hfL hfH hfit lH lL hok h hbase
  generalize hnn : H.length = n at *
  generalize hmm : L.length = m at *
  have HN := Lib.hid hnn
  have HM := Lib.hid hmm
  clear hnn hmm
  have hmd := mode_ mode w
  generalize mdN mode = q at *
  have HMD := Lib.hid hmd
  clear hmd
  have hq0 : ¬ ((q : Int) = 0) := by omega
  clear h0
  go_enter Tryd.func10, Tryd.ntmps10
  go_wp2_with fail
  refine HMD.out.mono ?_
  rintro e w' ⟨rfl, rfl⟩
  go_wp2_with fail
  refine HFL.out.mono ?_
  rintro e w1 ⟨rfl, hb1⟩
  have HB1 := Lib.hid hb1
  have p0 := (cell_of_heap (hb1.block b hbs) 0).trans b0
  have p1 := (cell_of_heap (hb1.block b hbs) 1).trans b1
  clear hb1 HFL
  go_wp2_with fail
  refine (HFH.out _ HB1.out).mono ?_
  rintro e w2 ⟨rfl, hb2⟩
  have HB2 := Lib.hid (HB1.out.trans (hb2.mono HB1.out.size))
  have p0 := (cell_of_heap (hb2.block b (Nat.lt_of_lt_of_le hbs HB1.out.size)) 0).trans p0
  have p1 := (cell_of_heap (hb2.block b (Nat.lt_of_lt_of_le hbs HB1.out.size)) 1).trans p1
  clear hb2 HFH
  have d1 := (cell_of_heap (HB2.out.block g hg) _).trans d1
  go_wp2_with fail
  refine (HCV.out _).mono ?_
  rintro e w3 ⟨rfl, hb3⟩
  have HB3 := Lib.hid (HB2.out.trans (hb3.mono HB2.out.size))
  have p0 := (cell_of_heap (hb3.block b (Nat.lt_of_lt_of_le hbs HB2.out.size)) 0).trans p0
  have p1 := (cell_of_heap (hb3.block b (Nat.lt_of_lt_of_le hbs HB2.out.size)) 1).trans p1
  have d1 := (cell_of_heap (hb3.block g (Nat.lt_of_lt_of_le hg HB2.out.size)) _).trans d1
  clear hb3 HCV HB2
  go_wp2_with fail
  go_ret
  exact ⟨rfl, HB3.out⟩
set_option maxHeartbeats 2000000 in
theorem rask_take {w : World} {base b : Nat} {H L : List Cl} {vH vL : Value} (h : RK base b (H, L) vH vL w) (hbase : base ≤ w.heap.size) (hok : Ok (H, L)) (hn : H.length ≤ 10000) (hm : L.length ≤ 10000) (who mode : Int) (h0 : mdN mode ≠ 0) (h1 : hasP L who = false) (h2 : hasP H who = true) (h3 : covB (modeP H who) (mdN mode) = false) (h4 : fitsP H (who, joinN (modeP H who) (mdN mode)) = true) :
    Calls Tryd.prog 10 #[.pointer (some ⟨b, 0, none⟩), .int .i64 who, .int .i64 mode] w fun e w' => e = .returned (.bool true) ∧ RLk base b (grantP H (who, joinN (modeP H who) (mdN mode)), L) w' ∧ RKeep base b w w' := by
  have hq := mdN_lt mode
  have RKH := Lib.hid h
  have HBASE := Lib.hid hbase
  have hbs := h.two.lt
  have b0 := h.two.c0
  have b1 := h.two.c1
  obtain ⟨AH, cH, eH1, lH, gH, xH, _⟩ := own_lst h.oH
  obtain ⟨AL, cL, eL1, lL, gL, xL, _⟩ := own_lst h.oL
  simp only [List.length_map] at eH1 eL1 gH gL lH lL
  subst eH1 eL1
  have hfL := rfind_ (c := cL) (n := L.length) lL (by simp only [List.length_map]) (by omega) who
  have hfH := fun W (hb : Below w.heap.size w W) => rfind_ (w := W) (c := cH) (n := H.length) (lH.below hb) (by simp only [List.length_map]) (by omega) who
  have hfit := fun W (hb : Below w.heap.size w W) (x : Cl) (hx : x.2 < 6) => rfits_ (w := W) (n := H.length) (c := cH) ((RKH.out.below hb).two) (lH.below hb) rfl (by omega) hok.mH x hx
  simp only [idx_hd] at hfH
  simp only [idx_ln] at hfL
  have hgp : ∀ x : Cl, x.1 = who → grantP H x = H.set (H.findIdx (isW who)) x := fun x hx => by
    unfold grantP
    rw [hx, h2, if_pos rfl]
  have e1 : idxI (isW who) L = -1 := by
    rcases idx_cases (isW who) L with ⟨e, _⟩ | ⟨_, _, e, _⟩
    · exact e
    · rw [show L.any (isW who) = hasP L who from rfl, h1] at e; cases e
  rw [e1] at hfL
  have e2 : ∃ k, H.findIdx (isW who) = k ∧ idxI (isW who) H = (k : Int) ∧ ∃ h : k < H.length, (H[k]).1 = who ∧ (H[k]).2 = modeP H who := by
    rcases idx_cases (isW who) H with ⟨_, e⟩ | ⟨h0, e, _, e3⟩
    · rw [show H.any (isW who) = hasP H who from rfl, h2] at e; cases e
    · exact ⟨_, rfl, e, h0, by simpa [isW] using e3, (mode_of_idx h0).symm⟩
  obtain ⟨k, hkx, e2, hk, hkw, hkm⟩ := e2
  rw [e2] at hfH
  have hhas := mode_lt hok.mH who
  simp only at hhas
  obtain ⟨g, curH, eA, hgb, hblk, _⟩ := own_slot RKH.out.oH (by simp only [List.length_map]; omega)
  subst eA
  obtain ⟨_, _, e, hg, d0, d1, _⟩ := lH.atHd hk
  injection e with e
  injection e with e3 e4 _
  subst e3 e4
  rw [hkm] at d1
  have HBLK := Lib.hid hblk
  have HKX := Lib.hid hkx
  have hkw2 : (H[k]?).map (·.1) = some who := by rw [List.getElem?_eq_getElem hk, Option.map_some, hkw]
  have HKW := Lib.hid hkw2
  have hkn := hk
  have HK := Lib.hid hk
  clear e1 e2 hkw hkw2 hkm hblk hgb hkx hk h1 h2 d0
  simp only [Nat.zero_add] at d1
  have hcv := fun W => ref_covers (modeP H who : Int) (mdN mode : Int) W
  have hmm2 : mdN (mdN mode : Int) = mdN mode := mdN_of hq
  rw [mdN_of hhas, hmm2, h3] at hcv
  have HCV := Lib.hid hcv
  clear hcv
  have hjn := fun W => ref_join (modeP H who : Int) (mdN mode : Int) W
  rw [mdN_of hhas, hmm2] at hjn
  have HJN := Lib.hid hjn
  have hjlt := joinN_lt hhas hq
  clear hjn hmm2 h3
  generalize joinN (modeP H who) (mdN mode) = jn at *
  generalize modeP H who = has at *
  have hgp2 := hgp (who, jn) rfl
  rw [HKX.out] at hgp2
  have HGP := Lib.hid hgp2
  clear hgp hgp2
  have HFL := Lib.hid hfL
  have HFH := Lib.hid hfH
  have HFIT := Lib.hid hfit
  have HLH := Lib.hid lH
  have HLL := Lib.hid lL
  have HOK := Lib.hid hok
  clear hfL hfH hfit lH lL hok h hbase
  generalize hnn : H.length = n at *
  generalize hmm : L.length = m at *
  have HN := Lib.hid hnn
  have HM := Lib.hid hmm
  clear hnn hmm
  have hmd := mode_ mode w
  generalize mdN mode = q at *
  have HMD := Lib.hid hmd
  clear hmd
  have hq0 : ¬ ((q : Int) = 0) := by omega
  clear h0
  go_enter Tryd.func10, Tryd.ntmps10
  go_wp2_with fail
  refine HMD.out.mono ?_
  rintro e w' ⟨rfl, rfl⟩
  go_wp2_with fail
  refine HFL.out.mono ?_
  rintro e w1 ⟨rfl, hb1⟩
  have HB1 := Lib.hid hb1
  have p0 := (cell_of_heap (hb1.block b hbs) 0).trans b0
  have p1 := (cell_of_heap (hb1.block b hbs) 1).trans b1
  clear hb1 HFL
  go_wp2_with fail
  refine (HFH.out _ HB1.out).mono ?_
  rintro e w2 ⟨rfl, hb2⟩
  have HB2 := Lib.hid (HB1.out.trans (hb2.mono HB1.out.size))
  have p0 := (cell_of_heap (hb2.block b (Nat.lt_of_lt_of_le hbs HB1.out.size)) 0).trans p0
  have p1 := (cell_of_heap (hb2.block b (Nat.lt_of_lt_of_le hbs HB1.out.size)) 1).trans p1
  clear hb2 HFH
  have d1 := (cell_of_heap (HB2.out.block g hg) _).trans d1
  go_wp2_with fail
  refine (HCV.out _).mono ?_
  rintro e w3 ⟨rfl, hb3⟩
  have HB3 := Lib.hid (HB2.out.trans (hb3.mono HB2.out.size))
  have p0 := (cell_of_heap (hb3.block b (Nat.lt_of_lt_of_le hbs HB2.out.size)) 0).trans p0
  have p1 := (cell_of_heap (hb3.block b (Nat.lt_of_lt_of_le hbs HB2.out.size)) 1).trans p1
  have d1 := (cell_of_heap (hb3.block g (Nat.lt_of_lt_of_le hg HB2.out.size)) _).trans d1
  clear hb3 HCV HB2
  go_wp2_with fail
  refine (HJN.out _).mono ?_
  rintro e w4 ⟨rfl, hb4⟩
  have HB4 := Lib.hid (HB3.out.trans (hb4.mono HB3.out.size))
  have p0 := (cell_of_heap (hb4.block b (Nat.lt_of_lt_of_le hbs HB3.out.size)) 0).trans p0
  have p1 := (cell_of_heap (hb4.block b (Nat.lt_of_lt_of_le hbs HB3.out.size)) 1).trans p1
  have d1 := (cell_of_heap (hb4.block g (Nat.lt_of_lt_of_le hg HB3.out.size)) _).trans d1
  clear hb4 HJN HB3
  go_wp2_with fail
  refine (HFIT.out _ HB4.out (who, jn) hjlt).mono ?_
  rw [h4]
  rintro e w5 ⟨rfl, hb5⟩
  have HB5 := Lib.hid (HB4.out.trans (hb5.mono HB4.out.size))
  have p0 := (cell_of_heap (hb5.block b (Nat.lt_of_lt_of_le hbs HB4.out.size)) 0).trans p0
  have p1 := (cell_of_heap (hb5.block b (Nat.lt_of_lt_of_le hbs HB4.out.size)) 1).trans p1
  have d1 := (cell_of_heap (hb5.block g (Nat.lt_of_lt_of_le hg HB4.out.size)) _).trans d1
  clear hb5 HFIT HB4
  have f1 := (Blk.below HBLK.out HB5.out hg).frozen (k * 3 + 1)
  have hend := rk_set (RKH.out.below HB5.out) (by rw [HN.out]; exact HK.out) (who, jn) HKW.out
  have hend2 : RLk base b (grantP H (who, jn), L) (w5.setCell ⟨g, k * 3 + 1, none⟩ (.int .i64 (jn : Int))) := by
    rw [HGP.out]
    exact ⟨_, _, hend.1⟩
  have HEND := Lib.hid hend2
  have HKP := Lib.hid (((Keep.of_below HB5.out).trans (hend.2.mono fun i o ho hi => hi)) : RKeep base b w _)
  clear hend hend2
  rcases Nat.eq_zero_or_pos m with hm0 | hm0
  · subst hm0
    go_wp2_with fail
    go_ret
    exact ⟨rfl, HEND.out, HKP.out⟩
  · have hm1 : ¬ ((m : Int) = 0) := by omega
    go_wp2_with fail
    go_ret
    exact ⟨rfl, HEND.out, HKP.out⟩
set_option maxHeartbeats 2000000 in
theorem rask_new {w : World} {base b : Nat} {H L : List Cl} {vH vL : Value} (h : RK base b (H, L) vH vL w) (hbase : base ≤ w.heap.size) (hok : Ok (H, L)) (hn : H.length ≤ 10000) (hm : L.length ≤ 10000) (who mode : Int) (h0 : mdN mode ≠ 0) (h1 : hasP L who = false) (h2 : hasP H who = false) (h3 : L.length = 0) (h4 : fitsP H (who, mdN mode) = true) :
    Calls Tryd.prog 10 #[.pointer (some ⟨b, 0, none⟩), .int .i64 who, .int .i64 mode] w fun e w' => e = .returned (.bool true) ∧ RLk base b (grantP H (who, mdN mode), L) w' ∧ RKeep base b w w' := by
  have hq := mdN_lt mode
  have RKH := Lib.hid h
  have HBASE := Lib.hid hbase
  have hbs := h.two.lt
  have b0 := h.two.c0
  have b1 := h.two.c1
  obtain ⟨AH, cH, eH1, lH, gH, xH, _⟩ := own_lst h.oH
  obtain ⟨AL, cL, eL1, lL, gL, xL, _⟩ := own_lst h.oL
  simp only [List.length_map] at eH1 eL1 gH gL lH lL
  subst eH1 eL1
  have hfL := rfind_ (c := cL) (n := L.length) lL (by simp only [List.length_map]) (by omega) who
  have hfH := fun W (hb : Below w.heap.size w W) => rfind_ (w := W) (c := cH) (n := H.length) (lH.below hb) (by simp only [List.length_map]) (by omega) who
  have hfit := fun W (hb : Below w.heap.size w W) (x : Cl) (hx : x.2 < 6) => rfits_ (w := W) (n := H.length) (c := cH) ((RKH.out.below hb).two) (lH.below hb) rfl (by omega) hok.mH x hx
  simp only [idx_hd] at hfH
  simp only [idx_ln] at hfL
  have hgp : grantP H (who, mdN mode) = H ++ [(who, mdN mode)] := by
    unfold grantP
    rw [if_neg (by simp [h2])]
  have e1 : idxI (isW who) L = -1 := by
    rcases idx_cases (isW who) L with ⟨e, _⟩ | ⟨_, _, e, _⟩
    · exact e
    · rw [show L.any (isW who) = hasP L who from rfl, h1] at e; cases e
  rw [e1] at hfL
  have e2 : idxI (isW who) H = -1 := by
    rcases idx_cases (isW who) H with ⟨e, _⟩ | ⟨_, _, e, _⟩
    · exact e
    · rw [show H.any (isW who) = hasP H who from rfl, h2] at e; cases e
  simp only [e2] at hfH
  clear e1 e2 h1
  have HFL := Lib.hid hfL
  have HFH := Lib.hid hfH
  have HFIT := Lib.hid hfit
  have HLH := Lib.hid lH
  have HLL := Lib.hid lL
  have HOK := Lib.hid hok
  clear hfL hfH hfit lH lL hok h hbase
  generalize hnn : H.length = n at *
  generalize hmm : L.length = m at *
  have HN := Lib.hid hnn
  have HM := Lib.hid hmm
  clear hnn hmm
  subst h3
  have hmd := mode_ mode w
  generalize mdN mode = q at *
  have HMD := Lib.hid hmd
  clear hmd
  have hq0 : ¬ ((q : Int) = 0) := by omega
  clear h0 h2
  go_enter Tryd.func10, Tryd.ntmps10
  go_wp2_with fail
  refine HMD.out.mono ?_
  rintro e w' ⟨rfl, rfl⟩
  go_wp2_with fail
  refine HFL.out.mono ?_
  rintro e w1 ⟨rfl, hb1⟩
  have HB1 := Lib.hid hb1
  have p0 := (cell_of_heap (hb1.block b hbs) 0).trans b0
  have p1 := (cell_of_heap (hb1.block b hbs) 1).trans b1
  clear hb1 HFL
  go_wp2_with fail
  refine (HFH.out _ HB1.out).mono ?_
  rintro e w2 ⟨rfl, hb2⟩
  have HB2 := Lib.hid (HB1.out.trans (hb2.mono HB1.out.size))
  have p0 := (cell_of_heap (hb2.block b (Nat.lt_of_lt_of_le hbs HB1.out.size)) 0).trans p0
  have p1 := (cell_of_heap (hb2.block b (Nat.lt_of_lt_of_le hbs HB1.out.size)) 1).trans p1
  clear hb2 HFH
  go_wp2_with fail
  refine (HFIT.out _ HB2.out (who, q) hq).mono ?_
  rw [h4]
  rintro e w5 ⟨rfl, hb5⟩
  have HB5 := Lib.hid (HB2.out.trans (hb5.mono HB2.out.size))
  have p0 := (cell_of_heap (hb5.block b (Nat.lt_of_lt_of_le hbs HB2.out.size)) 0).trans p0
  have p1 := (cell_of_heap (hb5.block b (Nat.lt_of_lt_of_le hbs HB2.out.size)) 1).trans p1
  clear hb5 HFIT HB2
  obtain ⟨v6, w6, hap, t6, hrk, hkp, _⟩ := rk_append (RKH.out.below HB5.out) (Nat.le_trans HBASE.out HB5.out.size) (by rw [HN.out]; omega) (who, q)
  obtain ⟨A6, c6, e6, _⟩ := own_lst hrk.oH
  subst e6
  generalize (List.map hdA (H ++ [(who, q)], L).1).length = n6 at *
  have q0 := t6.c0
  have f0 := Blk.frozen t6 0
  have HAP := Lib.hid hap
  have HEND := Lib.hid hrk
  have HKP := Lib.hid (((Keep.of_below HB5.out).trans (hkp.mono fun i o ho hi => hi)) : RKeep base b w _)
  have HGP := Lib.hid hgp
  clear hap hrk hkp t6 hgp
  go_wp2_with (at_builtin; refine wpList_append_run rfl (.tmp 78) (.tmp 82) 29 29 rfl _ _ rfl rfl HAP.out ?_)
  go_ret
  exact ⟨rfl, by rw [HGP.out]; exact ⟨_, _, HEND.out⟩, HKP.out⟩
end Go.Proofs.YtillbjaejdkfdaaDoor
