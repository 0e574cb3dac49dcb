/- The document's Ask, where nothing is put in. The document's Ask: rows of holds cut in two. Words for the document's Drop: a row of numbers beside the lock; the lock while Drop goes on. -/
import Derived.Test.YtnjhhndggfjjdaaGreatDoorJ12
import Derived.Test.YtnjhhndggfjjdaaGreatDoorJ07
set_option maxRecDepth 4000
namespace Go.Proofs.YtnjhhndggfjjdaaGreatDoor
open Go.RowKit
set_option maxHeartbeats 2000000 in
theorem rask_none {w : World} {base b : Nat} {X : Nat → Prop} {H L : List Cl} {vH vL : Value} (h : RK base X b (H, L) vH vL w) (hbase : base ≤ w.heap.size) (hok : Ok (H, L)) (hn : H.length ≤ 10000) (hm : L.length ≤ 10000) (who mode : Int) (h0 : mdN mode = 0) :
    Calls Tryz.prog 32 #[.pointer (some ⟨b, 0, none⟩), .int .i64 who, .int .i64 mode] w fun e w' => e = .returned (.bool true) ∧ Below w.heap.size w w' := by
  have hq := mdN_lt mode
  have RKH := Lib.hid h
  have HBASE := Lib.hid hbase
  have hbs := h.two.lt
  have b0 := h.two.c0
  have b1 := h.two.c1
  obtain ⟨AH, cH, eH1, lH, gH, xH, _⟩ := own_lst h.oH
  obtain ⟨AL, cL, eL1, lL, gL, xL, _⟩ := own_lst h.oL
  simp only [List.length_map] at eH1 eL1 gH gL lH lL
  subst eH1 eL1
  have hfL := rfind_ (c := cL) (n := L.length) lL (by simp only [List.length_map]) (by omega) who
  have hfH := fun W (hb : Below w.heap.size w W) => rfind_ (w := W) (c := cH) (n := H.length) (lH.below hb) (by simp only [List.length_map]) (by omega) who
  have hfit := fun W (hb : Below w.heap.size w W) (x : Cl) (hx : x.2 < 6) => rfits_ (w := W) (n := H.length) (c := cH) ((RKH.out.below hb).two) (lH.below hb) rfl (by omega) hok.mH x hx
  simp only [idx_hd] at hfH
  simp only [idx_ln] at hfL
  have HFL := Lib.hid hfL
  have HFH := Lib.hid hfH
  have HFIT := Lib.hid hfit
  have HLH := Lib.hid lH
  have HLL := Lib.hid lL
  have HOK := Lib.hid hok
  clear hfL hfH hfit lH lL hok h hbase
  generalize hnn : H.length = n at *
  generalize hmm : L.length = m at *
  have HN := Lib.hid hnn
  have HM := Lib.hid hmm
  clear hnn hmm
  have hmd := mode_ mode w
  rw [h0] at hmd
  have HMD := Lib.hid hmd
  clear hmd h0
  go_enter Tryz.func32, Tryz.ntmps32
  go_wp2_with fail
  refine HMD.out.mono ?_
  rintro e w' ⟨rfl, rfl⟩
  go_wp2_with fail
  go_ret
  exact ⟨rfl, Below.refl _ _⟩
set_option maxHeartbeats 2000000 in
theorem rask_line {w : World} {base b : Nat} {X : Nat → Prop} {H L : List Cl} {vH vL : Value} (h : RK base X b (H, L) vH vL w) (hbase : base ≤ w.heap.size) (hok : Ok (H, L)) (hn : H.length ≤ 10000) (hm : L.length ≤ 10000) (who mode : Int) (h0 : mdN mode ≠ 0) (h1 : hasP L who = true) :
    Calls Tryz.prog 32 #[.pointer (some ⟨b, 0, none⟩), .int .i64 who, .int .i64 mode] w fun e w' => e = .returned (.bool false) ∧ Below w.heap.size w w' := by
  have hq := mdN_lt mode
  have RKH := Lib.hid h
  have HBASE := Lib.hid hbase
  have hbs := h.two.lt
  have b0 := h.two.c0
  have b1 := h.two.c1
  obtain ⟨AH, cH, eH1, lH, gH, xH, _⟩ := own_lst h.oH
  obtain ⟨AL, cL, eL1, lL, gL, xL, _⟩ := own_lst h.oL
  simp only [List.length_map] at eH1 eL1 gH gL lH lL
  subst eH1 eL1
  have hfL := rfind_ (c := cL) (n := L.length) lL (by simp only [List.length_map]) (by omega) who
  have hfH := fun W (hb : Below w.heap.size w W) => rfind_ (w := W) (c := cH) (n := H.length) (lH.below hb) (by simp only [List.length_map]) (by omega) who
  have hfit := fun W (hb : Below w.heap.size w W) (x : Cl) (hx : x.2 < 6) => rfits_ (w := W) (n := H.length) (c := cH) ((RKH.out.below hb).two) (lH.below hb) rfl (by omega) hok.mH x hx
  simp only [idx_hd] at hfH
  simp only [idx_ln] at hfL
  have e1 : ∃ j : Nat, idxI (isW who) L = (j : Int) := by
    rcases idx_cases (isW who) L with ⟨_, e⟩ | ⟨_, e, _⟩
    · rw [show L.any (isW who) = hasP L who from rfl, h1] at e; cases e
    · exact ⟨_, e⟩
  obtain ⟨j, e1⟩ := e1
  rw [e1] at hfL
  clear e1 h1
  have HFL := Lib.hid hfL
  have HFH := Lib.hid hfH
  have HFIT := Lib.hid hfit
  have HLH := Lib.hid lH
  have HLL := Lib.hid lL
  have HOK := Lib.hid hok
  clear hfL hfH hfit lH lL hok h hbase
  generalize hnn : H.length = n at *
  generalize hmm : L.length = m at *
  have HN := Lib.hid hnn
  have HM := Lib.hid hmm
  clear hnn hmm
  have hmd := mode_ mode w
  generalize mdN mode = q at *
  have HMD := Lib.hid hmd
  clear hmd
  have hq0 : ¬ ((q : Int) = 0) := by omega
  clear h0
  go_enter Tryz.func32, Tryz.ntmps32
  go_wp2_with fail
  refine HMD.out.mono ?_
  rintro e w' ⟨rfl, rfl⟩
  go_wp2_with fail
  refine HFL.out.mono ?_
  rintro e w1 ⟨rfl, hb1⟩
  have HB1 := Lib.hid hb1
  clear hb1
  go_wp2_with fail
  go_ret
  exact ⟨rfl, HB1.out⟩
set_option maxHeartbeats 2000000 in
theorem rask_has {w : World} {base b : Nat} {X : Nat → Prop} {H L : List Cl} {vH vL : Value} (h : RK base X b (H, L) vH vL w) (hbase : base ≤ w.heap.size) (hok : Ok (H, L)) (hn : H.length ≤ 10000) (hm : L.length ≤ 10000) (who mode : Int) (h0 : mdN mode ≠ 0) (h1 : hasP L who = false) (h2 : hasP H who = true) (h3 : covB (modeP H who) (mdN mode) = true) :
    Calls Tryz.prog 32 #[.pointer (some ⟨b, 0, none⟩), .int .i64 who, .int .i64 mode] w fun e w' => e = .returned (.bool true) ∧ Below w.heap.size w w' := by
  have hq := mdN_lt mode
  have RKH := Lib.hid h
  have HBASE := Lib.hid hbase
  have hbs := h.two.lt
  have b0 := h.two.c0
  have b1 := h.two.c1
  obtain ⟨AH, cH, eH1, lH, gH, xH, _⟩ := own_lst h.oH
  obtain ⟨AL, cL, eL1, lL, gL, xL, _⟩ := own_lst h.oL
  simp only [List.length_map] at eH1 eL1 gH gL lH lL
  subst eH1 eL1
  have hfL := rfind_ (c := cL) (n := L.length) lL (by simp only [List.length_map]) (by omega) who
  have hfH := fun W (hb : Below w.heap.size w W) => rfind_ (w := W) (c := cH) (n := H.length) (lH.below hb) (by simp only [List.length_map]) (by omega) who
  have hfit := fun W (hb : Below w.heap.size w W) (x : Cl) (hx : x.2 < 6) => rfits_ (w := W) (n := H.length) (c := cH) ((RKH.out.below hb).two) (lH.below hb) rfl (by omega) hok.mH x hx
  simp only [idx_hd] at hfH
  simp only [idx_ln] at hfL
  have e1 : idxI (isW who) L = -1 := by
    rcases idx_cases (isW who) L with ⟨e, _⟩ | ⟨_, _, e, _⟩
    · exact e
    · rw [show L.any (isW who) = hasP L who from rfl, h1] at e; cases e
  rw [e1] at hfL
  have e2 : ∃ k, H.findIdx (isW who) = k ∧ idxI (isW who) H = (k : Int) ∧ ∃ h : k < H.length, (H[k]).1 = who ∧ (H[k]).2 = modeP H who := by
    rcases idx_cases (isW who) H with ⟨_, e⟩ | ⟨h0, e, _, e3⟩
    · rw [show H.any (isW who) = hasP H who from rfl, h2] at e; cases e
    · exact ⟨_, rfl, e, h0, by simpa [isW] using e3, (mode_of_idx h0).symm⟩
  obtain ⟨k, hkx, e2, hk, hkw, hkm⟩ := e2
  rw [e2] at hfH
  have hhas := mode_lt hok.mH who
  simp only at hhas
  obtain ⟨g, curH, eA, hgb, hblk, _⟩ := own_slot RKH.out.oH (by simp only [List.length_map]; omega)
  subst eA
  obtain ⟨_, _, e, hg, d0, d1, _⟩ := lH.atHd hk
  injection e with e
  injection e with e3 e4 _
  subst e3 e4
  rw [hkm] at d1
  have HBLK := Lib.hid hblk
  have HKX := Lib.hid hkx
  have hkw2 : (H[k]?).map (·.1) = some who := by rw [List.getElem?_eq_getElem hk, Option.map_some, hkw]
  have HKW := Lib.hid hkw2
  have hkn := hk
  have HK := Lib.hid hk
  clear e1 e2 hkw hkw2 hkm hblk hgb hkx hk h1 h2 d0
  simp only [Nat.zero_add] at d1
  have hcv := fun W => ref_covers (modeP H who : Int) (mdN mode : Int) W
  have hmm2 : mdN (mdN mode : Int) = mdN mode := mdN_of hq
  rw [mdN_of hhas, hmm2, h3] at hcv
  have HCV := Lib.hid hcv
  clear hcv
  clear hmm2 h3
  generalize modeP H who = has at *
  have HFL := Lib.hid hfL
  have HFH := Lib.hid hfH
  have HFIT := Lib.hid hfit
  have HLH := Lib.hid lH
  have HLL := Lib.hid lL
  have HOK := Lib.hid hok
  clear hfL hfH hfit lH lL hok h hbase
  generalize hnn : H.length = n at *
  generalize hmm : L.length = m at *
  have HN := Lib.hid hnn
  have HM := Lib.hid hmm
  clear hnn hmm
  have hmd := mode_ mode w
  generalize mdN mode = q at *
  have HMD := Lib.hid hmd
  clear hmd
  have hq0 : ¬ ((q : Int) = 0) := by omega
  clear h0
  go_enter Tryz.func32, Tryz.ntmps32
  go_wp2_with fail
  refine HMD.out.mono ?_
  rintro e w' ⟨rfl, rfl⟩
  go_wp2_with fail
  refine HFL.out.mono ?_
  rintro e w1 ⟨rfl, hb1⟩
  have HB1 := Lib.hid hb1
  have p0 := (cell_of_heap (hb1.block b hbs) 0).trans b0
  have p1 := (cell_of_heap (hb1.block b hbs) 1).trans b1
  clear hb1 HFL
  go_wp2_with fail
  refine (HFH.out _ HB1.out).mono ?_
  rintro e w2 ⟨rfl, hb2⟩
  have HB2 := Lib.hid (HB1.out.trans (hb2.mono HB1.out.size))
  have p0 := (cell_of_heap (hb2.block b (Nat.lt_of_lt_of_le hbs HB1.out.size)) 0).trans p0
  have p1 := (cell_of_heap (hb2.block b (Nat.lt_of_lt_of_le hbs HB1.out.size)) 1).trans p1
  clear hb2 HFH
  have d1 := (cell_of_heap (HB2.out.block g hg) _).trans d1
  go_wp2_with fail
  refine (HCV.out _).mono ?_
  rintro e w3 ⟨rfl, hb3⟩
  have HB3 := Lib.hid (HB2.out.trans (hb3.mono HB2.out.size))
  have p0 := (cell_of_heap (hb3.block b (Nat.lt_of_lt_of_le hbs HB2.out.size)) 0).trans p0
  have p1 := (cell_of_heap (hb3.block b (Nat.lt_of_lt_of_le hbs HB2.out.size)) 1).trans p1
  have d1 := (cell_of_heap (hb3.block g (Nat.lt_of_lt_of_le hg HB2.out.size)) _).trans d1
  clear hb3 HCV HB2
  go_wp2_with fail
  go_ret
  exact ⟨rfl, HB3.out⟩
set_option maxHeartbeats 2000000 in
theorem rask_take {w : World} {base b : Nat} {X : Nat → Prop} {H L : List Cl} {vH vL : Value} (h : RK base X b (H, L) vH vL w) (hbase : base ≤ w.heap.size) (hok : Ok (H, L)) (hn : H.length ≤ 10000) (hm : L.length ≤ 10000) (who mode : Int) (h0 : mdN mode ≠ 0) (h1 : hasP L who = false) (h2 : hasP H who = true) (h3 : covB (modeP H who) (mdN mode) = false) (h4 : fitsP H (who, joinN (modeP H who) (mdN mode)) = true) :
    Calls Tryz.prog 32 #[.pointer (some ⟨b, 0, none⟩), .int .i64 who, .int .i64 mode] w fun e w' => e = .returned (.bool true) ∧ RLk base X b (grantP H (who, joinN (modeP H who) (mdN mode)), L) w' ∧ RKeep base X b w w' := by
  have hq := mdN_lt mode
  have RKH := Lib.hid h
  have HBASE := Lib.hid hbase
  have hbs := h.two.lt
  have b0 := h.two.c0
  have b1 := h.two.c1
  obtain ⟨AH, cH, eH1, lH, gH, xH, _⟩ := own_lst h.oH
  obtain ⟨AL, cL, eL1, lL, gL, xL, _⟩ := own_lst h.oL
  simp only [List.length_map] at eH1 eL1 gH gL lH lL
  subst eH1 eL1
  have hfL := rfind_ (c := cL) (n := L.length) lL (by simp only [List.length_map]) (by omega) who
  have hfH := fun W (hb : Below w.heap.size w W) => rfind_ (w := W) (c := cH) (n := H.length) (lH.below hb) (by simp only [List.length_map]) (by omega) who
  have hfit := fun W (hb : Below w.heap.size w W) (x : Cl) (hx : x.2 < 6) => rfits_ (w := W) (n := H.length) (c := cH) ((RKH.out.below hb).two) (lH.below hb) rfl (by omega) hok.mH x hx
  simp only [idx_hd] at hfH
  simp only [idx_ln] at hfL
  have hgp : ∀ x : Cl, x.1 = who → grantP H x = H.set (H.findIdx (isW who)) x := fun x hx => by
    unfold grantP
    rw [hx, h2, if_pos rfl]
  have e1 : idxI (isW who) L = -1 := by
    rcases idx_cases (isW who) L with ⟨e, _⟩ | ⟨_, _, e, _⟩
    · exact e
    · rw [show L.any (isW who) = hasP L who from rfl, h1] at e; cases e
  rw [e1] at hfL
  have e2 : ∃ k, H.findIdx (isW who) = k ∧ idxI (isW who) H = (k : Int) ∧ ∃ h : k < H.length, (H[k]).1 = who ∧ (H[k]).2 = modeP H who := by
    rcases idx_cases (isW who) H with ⟨_, e⟩ | ⟨h0, e, _, e3⟩
    · rw [show H.any (isW who) = hasP H who from rfl, h2] at e; cases e
    · exact ⟨_, rfl, e, h0, by simpa [isW] using e3, (mode_of_idx h0).symm⟩
  obtain ⟨k, hkx, e2, hk, hkw, hkm⟩ := e2
  rw [e2] at hfH
  have hhas := mode_lt hok.mH who
  simp only at hhas
  obtain ⟨g, curH, eA, hgb, hblk, _⟩ := own_slot RKH.out.oH (by simp only [List.length_map]; omega)
  subst eA
  obtain ⟨_, _, e, hg, d0, d1, _⟩ := lH.atHd hk
  injection e with e
  injection e with e3 e4 _
  subst e3 e4
  rw [hkm] at d1
  have HBLK := Lib.hid hblk
  have HKX := Lib.hid hkx
  have hkw2 : (H[k]?).map (·.1) = some who := by rw [List.getElem?_eq_getElem hk, Option.map_some, hkw]
  have HKW := Lib.hid hkw2
  have hkn := hk
  have HK := Lib.hid hk
  clear e1 e2 hkw hkw2 hkm hblk hgb hkx hk h1 h2 d0
  simp only [Nat.zero_add] at d1
  have hcv := fun W => ref_covers (modeP H who : Int) (mdN mode : Int) W
  have hmm2 : mdN (mdN mode : Int) = mdN mode := mdN_of hq
  rw [mdN_of hhas, hmm2, h3] at hcv
  have HCV := Lib.hid hcv
  clear hcv
  have hjn := fun W => ref_join (modeP H who : Int) (mdN mode : Int) W
  rw [mdN_of hhas, hmm2] at hjn
  have HJN := Lib.hid hjn
  have hjlt := joinN_lt hhas hq
  clear hjn hmm2 h3
  generalize joinN (modeP H who) (mdN mode) = jn at *
  generalize modeP H who = has at *
  have hgp2 := hgp (who, jn) rfl
  rw [HKX.out] at hgp2
  have HGP := Lib.hid hgp2
  clear hgp hgp2
  have HFL := Lib.hid hfL
  have HFH := Lib.hid hfH
  have HFIT := Lib.hid hfit
  have HLH := Lib.hid lH
  have HLL := Lib.hid lL
  have HOK := Lib.hid hok
  clear hfL hfH hfit lH lL hok h hbase
  generalize hnn : H.length = n at *
  generalize hmm : L.length = m at *
  have HN := Lib.hid hnn
  have HM := Lib.hid hmm
  clear hnn hmm
  have hmd := mode_ mode w
  generalize mdN mode = q at *
  have HMD := Lib.hid hmd
  clear hmd
  have hq0 : ¬ ((q : Int) = 0) := by omega
  clear h0
  go_enter Tryz.func32, Tryz.ntmps32
  go_wp2_with fail
  refine HMD.out.mono ?_
  rintro e w' ⟨rfl, rfl⟩
  go_wp2_with fail
  refine HFL.out.mono ?_
  rintro e w1 ⟨rfl, hb1⟩
  have HB1 := Lib.hid hb1
  have p0 := (cell_of_heap (hb1.block b hbs) 0).trans b0
  have p1 := (cell_of_heap (hb1.block b hbs) 1).trans b1
  clear hb1 HFL
  go_wp2_with fail
  refine (HFH.out _ HB1.out).mono ?_
  rintro e w2 ⟨rfl, hb2⟩
  have HB2 := Lib.hid (HB1.out.trans (hb2.mono HB1.out.size))
  have p0 := (cell_of_heap (hb2.block b (Nat.lt_of_lt_of_le hbs HB1.out.size)) 0).trans p0
  have p1 := (cell_of_heap (hb2.block b (Nat.lt_of_lt_of_le hbs HB1.out.size)) 1).trans p1
  clear hb2 HFH
  have d1 := (cell_of_heap (HB2.out.block g hg) _).trans d1
  go_wp2_with fail
  refine (HCV.out _).mono ?_
  rintro e w3 ⟨rfl, hb3⟩
  have HB3 := Lib.hid (HB2.out.trans (hb3.mono HB2.out.size))
  have p0 := (cell_of_heap (hb3.block b (Nat.lt_of_lt_of_le hbs HB2.out.size)) 0).trans p0
  have p1 := (cell_of_heap (hb3.block b (Nat.lt_of_lt_of_le hbs HB2.out.size)) 1).trans p1
  have d1 := (cell_of_heap (hb3.block g (Nat.lt_of_lt_of_le hg HB2.out.size)) _).trans d1
  clear hb3 HCV HB2
  go_wp2_with fail
  refine (HJN.out _).mono ?_
  rintro e w4 ⟨rfl, hb4⟩
  have HB4 := Lib.hid (HB3.out.trans (hb4.mono HB3.out.size))
  have p0 := (cell_of_heap (hb4.block b (Nat.lt_of_lt_of_le hbs HB3.out.size)) 0).trans p0
  have p1 := (cell_of_heap (hb4.block b (Nat.lt_of_lt_of_le hbs HB3.out.size)) 1).trans p1
  have d1 := (cell_of_heap (hb4.block g (Nat.lt_of_lt_of_le hg HB3.out.size)) _).trans d1
  clear hb4 HJN HB3
  go_wp2_with fail
  refine (HFIT.out _ HB4.out (who, jn) hjlt).mono ?_
  rw [h4]
  rintro e w5 ⟨rfl, hb5⟩
  have HB5 := Lib.hid (HB4.out.trans (hb5.mono HB4.out.size))
  have p0 := (cell_of_heap (hb5.block b (Nat.lt_of_lt_of_le hbs HB4.out.size)) 0).trans p0
  have p1 := (cell_of_heap (hb5.block b (Nat.lt_of_lt_of_le hbs HB4.out.size)) 1).trans p1
  have d1 := (cell_of_heap (hb5.block g (Nat.lt_of_lt_of_le hg HB4.out.size)) _).trans d1
  clear hb5 HFIT HB4
  have f1 := (Blk.below HBLK.out HB5.out hg).frozen (k * 3 + 1)
  have hend := rk_set (RKH.out.below HB5.out) (by rw [HN.out]; exact HK.out) (who, jn) HKW.out
  have hend2 : RLk base X b (grantP H (who, jn), L) (w5.setCell ⟨g, k * 3 + 1, none⟩ (.int .i64 (jn : Int))) := by
    rw [HGP.out]
    exact ⟨_, _, hend.1⟩
  have HEND := Lib.hid hend2
  have HKP := Lib.hid (((Keep.of_below HB5.out).trans (hend.2.mono fun i o ho hi => hi)) : RKeep base X b w _)
  clear hend hend2
  rcases Nat.eq_zero_or_pos m with hm0 | hm0
  · subst hm0
    go_wp2_with fail
    go_ret
    exact ⟨rfl, HEND.out, HKP.out⟩
  · have hm1 : ¬ ((m : Int) = 0) := by omega
    go_wp2_with fail
    go_ret
    exact ⟨rfl, HEND.out, HKP.out⟩
set_option maxHeartbeats 2000000 in
theorem rask_new {w : World} {base b : Nat} {X : Nat → Prop} {H L : List Cl} {vH vL : Value} (h : RK base X b (H, L) vH vL w) (hbase : base ≤ w.heap.size) (hok : Ok (H, L)) (hn : H.length ≤ 10000) (hm : L.length ≤ 10000) (who mode : Int) (h0 : mdN mode ≠ 0) (h1 : hasP L who = false) (h2 : hasP H who = false) (h3 : L.length = 0) (h4 : fitsP H (who, mdN mode) = true) :
    Calls Tryz.prog 32 #[.pointer (some ⟨b, 0, none⟩), .int .i64 who, .int .i64 mode] w fun e w' => e = .returned (.bool true) ∧ RLk base X b (grantP H (who, mdN mode), L) w' ∧ RKeep base X b w w' := by
  have hq := mdN_lt mode
  have RKH := Lib.hid h
  have HBASE := Lib.hid hbase
  have hbs := h.two.lt
  have b0 := h.two.c0
  have b1 := h.two.c1
  obtain ⟨AH, cH, eH1, lH, gH, xH, _⟩ := own_lst h.oH
  obtain ⟨AL, cL, eL1, lL, gL, xL, _⟩ := own_lst h.oL
  simp only [List.length_map] at eH1 eL1 gH gL lH lL
  subst eH1 eL1
  have hfL := rfind_ (c := cL) (n := L.length) lL (by simp only [List.length_map]) (by omega) who
  have hfH := fun W (hb : Below w.heap.size w W) => rfind_ (w := W) (c := cH) (n := H.length) (lH.below hb) (by simp only [List.length_map]) (by omega) who
  have hfit := fun W (hb : Below w.heap.size w W) (x : Cl) (hx : x.2 < 6) => rfits_ (w := W) (n := H.length) (c := cH) ((RKH.out.below hb).two) (lH.below hb) rfl (by omega) hok.mH x hx
  simp only [idx_hd] at hfH
  simp only [idx_ln] at hfL
  have hgp : grantP H (who, mdN mode) = H ++ [(who, mdN mode)] := by
    unfold grantP
    rw [if_neg (by simp [h2])]
  have e1 : idxI (isW who) L = -1 := by
    rcases idx_cases (isW who) L with ⟨e, _⟩ | ⟨_, _, e, _⟩
    · exact e
    · rw [show L.any (isW who) = hasP L who from rfl, h1] at e; cases e
  rw [e1] at hfL
  have e2 : idxI (isW who) H = -1 := by
    rcases idx_cases (isW who) H with ⟨e, _⟩ | ⟨_, _, e, _⟩
    · exact e
    · rw [show H.any (isW who) = hasP H who from rfl, h2] at e; cases e
  simp only [e2] at hfH
  clear e1 e2 h1
  have HFL := Lib.hid hfL
  have HFH := Lib.hid hfH
  have HFIT := Lib.hid hfit
  have HLH := Lib.hid lH
  have HLL := Lib.hid lL
  have HOK := Lib.hid hok
  clear hfL hfH hfit lH lL hok h hbase
  generalize hnn : H.length = n at *
  generalize hmm : L.length = m at *
  have HN := Lib.hid hnn
  have HM := Lib.hid hmm
  clear hnn hmm
  subst h3
  have hmd := mode_ mode w
  generalize mdN mode = q at *
  have HMD := Lib.hid hmd
  clear hmd
  have hq0 : ¬ ((q : Int) = 0) := by omega
  clear h0 h2
  go_enter Tryz.func32, Tryz.ntmps32
  go_wp2_with fail
  refine HMD.out.mono ?_
  rintro e w' ⟨rfl, rfl⟩
  go_wp2_with fail
  refine HFL.out.mono ?_
  rintro e w1 ⟨rfl, hb1⟩
  have HB1 := Lib.hid hb1
  have p0 := (cell_of_heap (hb1.block b hbs) 0).trans b0
  have p1 := (cell_of_heap (hb1.block b hbs) 1).trans b1
  clear hb1 HFL
  go_wp2_with fail
  refine (HFH.out _ HB1.out).mono ?_
  rintro e w2 ⟨rfl, hb2⟩
  have HB2 := Lib.hid (HB1.out.trans (hb2.mono HB1.out.size))
  have p0 := (cell_of_heap (hb2.block b (Nat.lt_of_lt_of_le hbs HB1.out.size)) 0).trans p0
  have p1 := (cell_of_heap (hb2.block b (Nat.lt_of_lt_of_le hbs HB1.out.size)) 1).trans p1
  clear hb2 HFH
  go_wp2_with fail
  refine (HFIT.out _ HB2.out (who, q) hq).mono ?_
  rw [h4]
  rintro e w5 ⟨rfl, hb5⟩
  have HB5 := Lib.hid (HB2.out.trans (hb5.mono HB2.out.size))
  have p0 := (cell_of_heap (hb5.block b (Nat.lt_of_lt_of_le hbs HB2.out.size)) 0).trans p0
  have p1 := (cell_of_heap (hb5.block b (Nat.lt_of_lt_of_le hbs HB2.out.size)) 1).trans p1
  clear hb5 HFIT HB2
  obtain ⟨v6, w6, hap, t6, hrk, hkp, _⟩ := rk_append (RKH.out.below HB5.out) (Nat.le_trans HBASE.out HB5.out.size) (by rw [HN.out]; omega) (who, q)
  obtain ⟨A6, c6, e6, _⟩ := own_lst hrk.oH
  subst e6
  generalize (List.map hdA (H ++ [(who, q)], L).1).length = n6 at *
  have q0 := t6.c0
  have f0 := Blk.frozen t6 0
  have HAP := Lib.hid hap
  have HEND := Lib.hid hrk
  have HKP := Lib.hid (((Keep.of_below HB5.out).trans (hkp.mono fun i o ho hi => hi)) : RKeep base X b w _)
  have HGP := Lib.hid hgp
  clear hap hrk hkp t6 hgp
  go_wp2_with (at_builtin; refine wpList_append_run rfl (.tmp 78) (.tmp 82) 71 71 rfl _ _ rfl rfl HAP.out ?_)
  go_ret
  exact ⟨rfl, by rw [HGP.out]; exact ⟨_, _, HEND.out⟩, HKP.out⟩
end Go.Proofs.YtnjhhndggfjjdaaGreatDoor
namespace Go.Proofs.YtnjhhndggfjjdaaGreatDoor
open Go.RowKit
theorem elemH : Tryz.prog.elem 71 = 56 := by simp [Program.elem, Tryz.underlying71]
theorem sizeH : ∀ w, (Go.sizeOf 56).run Tryz.prog w = .ok 3 w := Tryz.sizeOf56
theorem head_holds (A : Option Addr) (l c q : Nat) (h : q ≤ c) (W : World) : (Instr.slice 71 (.slice A l c) none (some (.int .i64 (q : Int))) none).run Tryz.prog W = .ok (.slice A q c) W := by
  rw [run_slice_h W 71 _ _ _ (by rw [elemH]; exact Tryz.underlying71) .i64 _ (by omega) (by omega), elemH, sizeH]
  have : A.map (·.add (0 * 3)) = A := by cases A <;> simp [Addr.add]
  simp [Result.andThen, sliced]
  cases A <;> simp [Addr.add]
theorem tail_holds {w : World} {K : Nat → Prop} {A : Option Addr} {l : List Ho} {n c : Nat} (h : Lst w K eH A l) (hl : l.length = n) (hc : n ≤ c) {q m : Nat} (hq : q ≤ n) (hm : n - q = m) :
    ∃ A', (∀ W, (Instr.slice 71 (.slice A n c) (some (.int .i64 (q : Int))) none none).run Tryz.prog W = .ok (.slice A' m (c - q)) W) ∧ Lst w K eH A' (l.drop q) ∧ (A' = none → A = none) := by
  subst hl hm
  refine ⟨_, fun W => ?_, h.drop (k := q) hc, fun e => by split at e <;> simpa using e⟩
  rw [run_slice_l W 71 _ _ _ (by rw [elemH]; exact Tryz.underlying71) .i64 _ (by omega) (by omega), elemH, sizeH]
  rfl
theorem own_form {α : Type} {E : Enc α} {T : TypeId} {W : World} {base : Nat} {v : Value} {ys : List α} (h : Own W base E T v ys) : ∃ A n c, v = .slice A n c := by
  obtain ⟨A, c, e, _⟩ := own_lst h
  exact ⟨A, _, c, e⟩
theorem hold_one (W : World) (who : Int) (q : Nat) : Lst (W.alloc (.cells #[.int .i64 who, .int .i64 0, .int .i64 (q : Int)] 56)) (fun i => W.heap.size ≤ i) eH (some ⟨W.heap.size, 0, none⟩) [lnA (who, q)] := lst_hold W (who, 0, q)
/-- the line with one more put at j -/
theorem line_put (L : List Cl) (j : Nat) (x : Cl) : (L.map lnA).take j ++ [lnA x] ++ (L.map lnA).drop j = (L.take j ++ x :: L.drop j).map lnA := by
  rw [List.map_append, List.map_cons, List.map_take, List.map_drop, List.append_assoc, List.singleton_append]
/-- the end of Ask where it waits -/
theorem rk_wait {w wr W : World} {base b : Nat} {X : Nat → Prop} {H L : List Cl} {vH vL v : Value} (h : RK base X b (H, L) vH vL w) (hb : Below w.heap.size w wr) (hbase : base ≤ w.heap.size) (k : Below wr.heap.size wr W) {who : Int} {q j : Nat}
    (ho : Own W wr.heap.size eH 56 v ((L.map lnA).take j ++ [lnA (who, q)] ++ (L.map lnA).drop j)) (hs : spotP H L who = j) :
    RLk base X b (H, waitP H L (who, q)) (W.setCell ⟨b, 1, none⟩ v) ∧ RKeep base X b w (W.setCell ⟨b, 1, none⟩ v) := by
  rw [line_put] at ho
  have h2 := rk_line (h.below hb) k ho (Nat.le_trans hbase hb.size)
  refine ⟨⟨vH, v, ?_⟩, (Keep.of_below hb).trans (h2.2.mono fun i o _ hi => hi)⟩
  have e : waitP H L (who, q) = L.take j ++ (who, q) :: L.drop j := by
    unfold waitP
    simp only [hs]
  rw [e]
  exact h2.1
end Go.Proofs.YtnjhhndggfjjdaaGreatDoor
namespace Go.Proofs.YtnjhhndggfjjdaaGreatDoor
open Go.RowKit
section
variable {w W W' : World} {base base' b : Nat} {X : Nat → Prop} {s : Lk} {vH vL gv : Value} {done : List Int}
theorem int_far (h : RTwo W b vH vL) (ho : Own W base' eI 3 gv done) {g : Nat} (hg : gv.ownBlock = some g) : ∃ cur, W.heap[g]? = some (.cells cur 3 (0, 0)) ∧ g ≠ b ∧ NoH (.cells cur 3 (0, 0)) := by
  obtain ⟨_, _, cur, hc⟩ := own_blk ho hg
  exact ⟨cur, hc, ne_of_types (g := b) h hc (by decide), fun cur' e => by injection e with _ e; cases e⟩
theorem own_rkeep (h : RTwo W b vH vL) (ho : Own W base' eI 3 gv done) (k : RKeep base X b W W') : Own W' base' eI 3 gv done :=
  own_keep ho fun g hg => by
    obtain ⟨cur, hc, h1, h2⟩ := int_far h ho hg
    rw [hc]
    exact k.block g _ hc ⟨h1, .inr (.inr h2)⟩
/-- a number more behind the row of numbers -/
theorem rk_int (h : RK base X b s vH vL W) (ho : Own W w.heap.size eI 3 gv done) (hn : done.length ≤ 100000) (k : RKeep base X b w W) (x : Int) :
    ∃ v' W', (Builtin.append_ #[39, 39] 39 #[gv, .slice (some ⟨W.heap.size, 0, none⟩) 1 1]).run Tryz.prog (W.alloc (.cells #[.int .i64 x] 3)) = .ok v' W' ∧
      Own W' w.heap.size eI 3 v' (done ++ [x]) ∧ RK base X b s vH vL W' ∧ RKeep base X b w W' := by
  have hal := alloc_below W (.cells #[.int .i64 x] 3)
  have h2 := h.below hal
  have ho2 := own_belowE ho hal
  obtain ⟨v', W', hap, ho', hg', _⟩ := append_own tyI ho2 (int_one W x) rfl 1 (by show done.length + 1 ≤ _; omega) (Nat.le_trans k.size hal.size)
  have far : ∀ g, gv.ownBlock = some g → g ≠ b := fun g hg => by
    obtain ⟨_, _, h3, _⟩ := int_far h2.two ho2 hg
    exact h3
  refine ⟨v', W', hap, ho', ⟨(hg'.block b h2.two.lt (fun e => far b e.symm rfl)).trans h2.two, own_keep h2.oH fun g hg => ?_, own_keep h2.oL fun g hg => ?_, h.sep, h.xH, h.xL, fun g hg => Nat.lt_of_lt_of_le (h2.xs g hg) hg'.size⟩, (k.trans (Keep.of_below hal)).mono (fun _ _ _ hi => hi) |>.grown hg' fun g o hg ho3 _ => ?_⟩
  · refine hg'.block g (own_blk h2.oH hg).2.1 (fun e => ?_)
    exact own_ne h2.oH ho2 (by decide) hg e.symm
  · refine hg'.block g (own_blk h2.oL hg).2.1 (fun e => ?_)
    exact own_ne h2.oL ho2 (by decide) hg e.symm
  · have h3 := (own_blk ho2 hg).1
    have h4 := lt_of_some ho3
    omega
end
end Go.Proofs.YtnjhhndggfjjdaaGreatDoor
