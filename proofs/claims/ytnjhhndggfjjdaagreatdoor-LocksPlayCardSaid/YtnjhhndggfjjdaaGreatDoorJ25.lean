/- The document's Ask, where somebody new waits. -/
import Derived.Test.YtnjhhndggfjjdaaGreatDoorJ20
import Derived.Deep.RegionHeld3
set_option maxRecDepth 4000
namespace Go.Proofs.YtnjhhndggfjjdaaGreatDoor
open Go.RowKit
set_option maxHeartbeats 2000000 in
theorem rask_wait1 {w : World} {base b : Nat} {X : Nat → Prop} {H L : List Cl} {vH vL : Value} (h : RK base X b (H, L) vH vL w) (hbase : base ≤ w.heap.size) (hok : Ok (H, L)) (hn : H.length ≤ 10000) (hm : L.length ≤ 10000) (who mode : Int) (h0 : mdN mode ≠ 0) (h1 : hasP L who = false) (h2 : hasP H who = false)  (h4 : fitsP H (who, mdN mode) = false) :
    Calls Tryz.prog 32 #[.pointer (some ⟨b, 0, none⟩), .int .i64 who, .int .i64 mode] w fun e w' => e = .returned (.bool false) ∧ RLk base X b (H, waitP H L (who, mdN mode)) w' ∧ RKeep base X b w w' := by
  have hq := mdN_lt mode
  have RKH := Lib.hid h
  have HBASE := Lib.hid hbase
  have hbs := h.two.lt
  have b0 := h.two.c0
  have b1 := h.two.c1
  obtain ⟨AH, cH, eH1, lH, gH, xH, _⟩ := own_lst h.oH
  obtain ⟨AL, cL, eL1, lL, gL, xL, _⟩ := own_lst h.oL
  simp only [List.length_map] at eH1 eL1 gH gL lH lL
  subst eH1 eL1
  have hfL := rfind_ (c := cL) (n := L.length) lL (by simp only [List.length_map]) (by omega) who
  have hfH := fun W (hb : Below w.heap.size w W) => rfind_ (w := W) (c := cH) (n := H.length) (lH.below hb) (by simp only [List.length_map]) (by omega) who
  have hfit := fun W (hb : Below w.heap.size w W) (x : Cl) (hx : x.2 < 6) => rfits_ (w := W) (n := H.length) (c := cH) ((RKH.out.below hb).two) (lH.below hb) rfl (by omega) hok.mH x hx
  simp only [idx_hd] at hfH
  simp only [idx_ln] at hfL
  have hsp : spotP H L who = L.length := by
    unfold spotP
    rw [if_neg (by simp [h2])]
  have e1 : idxI (isW who) L = -1 := by
    rcases idx_cases (isW who) L with ⟨e, _⟩ | ⟨_, _, e, _⟩
    · exact e
    · rw [show L.any (isW who) = hasP L who from rfl, h1] at e; cases e
  rw [e1] at hfL
  have e2 : idxI (isW who) H = -1 := by
    rcases idx_cases (isW who) H with ⟨e, _⟩ | ⟨_, _, e, _⟩
    · exact e
    · rw [show H.any (isW who) = hasP H who from rfl, h2] at e; cases e
  simp only [e2] at hfH
  clear e1 e2 h1
  have HFL := Lib.hid hfL
  have HFH := Lib.hid hfH
  have HFIT := Lib.hid hfit
  have HLH := Lib.hid lH
  have HLL := Lib.hid lL
  have HOK := Lib.hid hok
  clear hfL hfH hfit lH lL hok h hbase
  generalize hnn : H.length = n at *
  generalize hmm : L.length = m at *
  have HN := Lib.hid hnn
  have HM := Lib.hid hmm
  clear hnn hmm
  have HS0 := Lib.hid hsp
  have hmd := mode_ mode w
  generalize mdN mode = q at *
  have HMD := Lib.hid hmd
  clear hmd
  have hq0 : ¬ ((q : Int) = 0) := by omega
  clear h0 h2 hsp
  go_enter Tryz.func32, Tryz.ntmps32
  go_wp2_with fail
  refine HMD.out.mono ?_
  rintro e w' ⟨rfl, rfl⟩
  go_wp2_with fail
  refine HFL.out.mono ?_
  rintro e w1 ⟨rfl, hb1⟩
  have HB1 := Lib.hid hb1
  have p0 := (cell_of_heap (hb1.block b hbs) 0).trans b0
  have p1 := (cell_of_heap (hb1.block b hbs) 1).trans b1
  clear hb1 HFL
  go_wp2_with fail
  refine (HFH.out _ HB1.out).mono ?_
  rintro e w2 ⟨rfl, hb2⟩
  have HB2 := Lib.hid (HB1.out.trans (hb2.mono HB1.out.size))
  have p0 := (cell_of_heap (hb2.block b (Nat.lt_of_lt_of_le hbs HB1.out.size)) 0).trans p0
  have p1 := (cell_of_heap (hb2.block b (Nat.lt_of_lt_of_le hbs HB1.out.size)) 1).trans p1
  clear hb2 HFH
  go_wp2_with fail
  refine (HFIT.out _ HB2.out (who, q) hq).mono ?_
  rw [h4]
  rintro e w5 ⟨rfl, hb5⟩
  have HB5 := Lib.hid (HB2.out.trans (hb5.mono HB2.out.size))
  have p0 := (cell_of_heap (hb5.block b (Nat.lt_of_lt_of_le hbs HB2.out.size)) 0).trans p0
  have p1 := (cell_of_heap (hb5.block b (Nat.lt_of_lt_of_le hbs HB2.out.size)) 1).trans p1
  clear hb5 HFIT HB2
  have HBW := HB5
  clear HB5
  have hbr : b < w5.heap.size := Nat.lt_of_lt_of_le hbs HBW.out.size
  have hML : (L.map lnA).length = m := by rw [List.length_map]; exact HM.out
  have hjm : m ≤ m := Nat.le_refl _
  have hlj : ((L.map lnA).take m).length = m := by rw [List.length_take, hML]; omega
  have HLJ := Lib.hid hlj
  obtain ⟨m2, hm2⟩ : ∃ m2, m - m = m2 := ⟨_, rfl⟩
  obtain ⟨A2, hd2, hr2, _⟩ := tail_holds HLL.out hML gL hjm hm2
  have hd1 := fun W => head_holds AL m cL m (by omega) W
  have hlm : ((L.map lnA).drop m).length = m2 := by rw [List.length_drop, hML]; exact hm2
  have HLM := Lib.hid hlm
  have hjm2 : m + 1 + m2 ≤ 200000 := by omega
  have hjm3 : m ≤ 100000 := by omega
  have HQ := Lib.hid ((HLL.out.below HBW.out).take m)
  have HTL := Lib.hid (hr2.below HBW.out)
  have HSP := Lib.hid (HS0.out)
  clear hlj hr2 hlm hm2 hML
  go_wp2_with fail
  go_region_law (first
    | (refine step_append_own tyH rfl (.tmp 130) (.tmp 136) rfl rfl HO6.out rfl (HTL.out.below HB6.out) HLM.out (by show _ + m2 ≤ 1000000; rw [List.length_append, HLJ.out]; show m + 1 + m2 ≤ 1000000; omega) HB6.out.size ?_; intro v7 W7 ho7 hg7; obtain ⟨A7, n7, c7, e7⟩ := own_form ho7; subst e7; have HO7 := Lib.hid ho7; have HB7 : Hid (Below w5.heap.size w5 W7) := HB6.out.trans (grown_own HO6.out hg7 HB6.out.size); have qW7 : W7.cell? ⟨b, 1, none⟩ = some (.slice AL m cL) := (cell_of_heap (HB7.out.block b hbr) 1).trans p1; have sW7 : b < W7.heap.size := Nat.lt_of_lt_of_le hbr HB7.out.size; have fW7 := Blk.frozen (((RKH.out.below HBW.out).below HB7.out).two) 1; clear ho7 hg7)
    | (refine step_append_own tyH rfl (.tmp 125) (.tmp 129) rfl rfl HO5.out rfl HS5.out rfl (by show _ + 1 ≤ 1000000; rw [HLJ.out]; omega) HB5.out.size ?_; intro v6 W6 ho6 hg6; have HO6 := Lib.hid ho6; have HB6 : Hid (Below w5.heap.size w5 W6) := HB5.out.trans (grown_own HO5.out hg6 HB5.out.size); have qW6 : W6.cell? ⟨b, 1, none⟩ = some (.slice AL m cL) := (cell_of_heap (HB6.out.block b hbr) 1).trans p1; have sW6 : b < W6.heap.size := Nat.lt_of_lt_of_le hbr HB6.out.size; clear ho6 hg6)
    | (refine step_append_own tyH rfl (.tmp 125) (.tmp 129) rfl rfl (own_belowE HO5.out (alloc_below W5 (.cells #[.int .i64 who, .int .i64 0, .int .i64 (q : Int)] 56))) rfl (hold_one W5 who q) rfl (by show _ + 1 ≤ 1000000; rw [HLJ.out]; omega) (Nat.le_trans HB5.out.size (alloc_below W5 (.cells #[.int .i64 who, .int .i64 0, .int .i64 (q : Int)] 56)).size) ?_; intro v6 W6 ho6 hg6; have HO6 := Lib.hid ho6; have HB6 : Hid (Below w5.heap.size w5 W6) := (HB5.out.alloc HB5.out.size _).trans (grown_own (own_belowE HO5.out (alloc_below W5 (.cells #[.int .i64 who, .int .i64 0, .int .i64 (q : Int)] 56))) hg6 (Nat.le_trans HB5.out.size (alloc_below W5 (.cells #[.int .i64 who, .int .i64 0, .int .i64 (q : Int)] 56)).size)); have qW6 : W6.cell? ⟨b, 1, none⟩ = some (.slice AL m cL) := (cell_of_heap (HB6.out.block b hbr) 1).trans p1; have sW6 : b < W6.heap.size := Nat.lt_of_lt_of_le hbr HB6.out.size; clear ho6 hg6)
    | (refine step_append_own (v := .slice none 0 0) (ys := []) tyH rfl (.const (.slice none 0 0)) (.tmp 124) rfl rfl (own_nil (w5.alloc (.cells #[.int .i64 who, .int .i64 0, .int .i64 (q : Int)] 56)).drew w5.heap.size) rfl (HQ.out.below (alloc_below w5 (.cells #[.int .i64 who, .int .i64 0, .int .i64 (q : Int)] 56)).drew) HLJ.out (by show 0 + m ≤ 1000000; omega) (alloc_below w5 (.cells #[.int .i64 who, .int .i64 0, .int .i64 (q : Int)] 56)).size ?_; intro v5 W5 ho5 hg5; rw [List.nil_append] at ho5; have HO5 := Lib.hid ho5; have HB5 : Hid (Below w5.heap.size w5 W5) := (alloc_below w5 (.cells #[.int .i64 who, .int .i64 0, .int .i64 (q : Int)] 56)).drew.trans ((Below.refl _ _).grown hg5 (alloc_below w5 (.cells #[.int .i64 who, .int .i64 0, .int .i64 (q : Int)] 56)).size (fun q hq => by simp [Value.ownBlock] at hq)); have HS5 := Lib.hid ((hold_one w5 who q).below ((Below.refl (w5.alloc (.cells #[.int .i64 who, .int .i64 0, .int .i64 (q : Int)] 56)).heap.size (w5.alloc (.cells #[.int .i64 who, .int .i64 0, .int .i64 (q : Int)] 56))).drew.trans ((Below.refl _ _).grown hg5 (Nat.le_refl _) (fun q hq => by simp [Value.ownBlock] at hq)))); have qW5 : W5.cell? ⟨b, 1, none⟩ = some (.slice AL m cL) := (cell_of_heap (HB5.out.block b hbr) 1).trans p1; have sW5 : b < W5.heap.size := Nat.lt_of_lt_of_le hbr HB5.out.size; clear ho5 hg5)
    | (refine step_append_own (v := .slice none 0 0) (ys := []) tyH rfl (.const (.slice none 0 0)) (.tmp 124) rfl rfl (own_nil w5.drew w5.heap.size) rfl (HQ.out.below (Below.refl _ _).drew) HLJ.out (by show 0 + m ≤ 1000000; omega) (Nat.le_refl _) ?_; intro v5 W5 ho5 hg5; rw [List.nil_append] at ho5; have HO5 := Lib.hid ho5; have HB5 : Hid (Below w5.heap.size w5 W5) := (Below.refl w5.heap.size w5).drew.trans ((Below.refl _ _).grown hg5 (Nat.le_refl _) (fun q hq => by simp [Value.ownBlock] at hq)); have qW5 : W5.cell? ⟨b, 1, none⟩ = some (.slice AL m cL) := (cell_of_heap (HB5.out.block b hbr) 1).trans p1; have sW5 : b < W5.heap.size := Nat.lt_of_lt_of_le hbr HB5.out.size; clear ho5 hg5))
  all_goals
    have hend := rk_wait RKH.out HBW.out HBASE.out HB7.out HO7.out HSP.out
    have HE1 := Lib.hid hend.1
    have HE2 := Lib.hid hend.2
    clear hend
    go_wp2_with fail
    go_ret
    exact ⟨rfl, HE1.out, HE2.out⟩
set_option maxHeartbeats 2000000 in
theorem rask_wait2 {w : World} {base b : Nat} {X : Nat → Prop} {H L : List Cl} {vH vL : Value} (h : RK base X b (H, L) vH vL w) (hbase : base ≤ w.heap.size) (hok : Ok (H, L)) (hn : H.length ≤ 10000) (hm : L.length ≤ 10000) (who mode : Int) (h0 : mdN mode ≠ 0) (h1 : hasP L who = false) (h2 : hasP H who = false) (h3 : L.length ≠ 0) (h4 : fitsP H (who, mdN mode) = true) :
    Calls Tryz.prog 32 #[.pointer (some ⟨b, 0, none⟩), .int .i64 who, .int .i64 mode] w fun e w' => e = .returned (.bool false) ∧ RLk base X b (H, waitP H L (who, mdN mode)) w' ∧ RKeep base X b w w' := by
  have hq := mdN_lt mode
  have RKH := Lib.hid h
  have HBASE := Lib.hid hbase
  have hbs := h.two.lt
  have b0 := h.two.c0
  have b1 := h.two.c1
  obtain ⟨AH, cH, eH1, lH, gH, xH, _⟩ := own_lst h.oH
  obtain ⟨AL, cL, eL1, lL, gL, xL, _⟩ := own_lst h.oL
  simp only [List.length_map] at eH1 eL1 gH gL lH lL
  subst eH1 eL1
  have hfL := rfind_ (c := cL) (n := L.length) lL (by simp only [List.length_map]) (by omega) who
  have hfH := fun W (hb : Below w.heap.size w W) => rfind_ (w := W) (c := cH) (n := H.length) (lH.below hb) (by simp only [List.length_map]) (by omega) who
  have hfit := fun W (hb : Below w.heap.size w W) (x : Cl) (hx : x.2 < 6) => rfits_ (w := W) (n := H.length) (c := cH) ((RKH.out.below hb).two) (lH.below hb) rfl (by omega) hok.mH x hx
  simp only [idx_hd] at hfH
  simp only [idx_ln] at hfL
  have hsp : spotP H L who = L.length := by
    unfold spotP
    rw [if_neg (by simp [h2])]
  have e1 : idxI (isW who) L = -1 := by
    rcases idx_cases (isW who) L with ⟨e, _⟩ | ⟨_, _, e, _⟩
    · exact e
    · rw [show L.any (isW who) = hasP L who from rfl, h1] at e; cases e
  rw [e1] at hfL
  have e2 : idxI (isW who) H = -1 := by
    rcases idx_cases (isW who) H with ⟨e, _⟩ | ⟨_, _, e, _⟩
    · exact e
    · rw [show H.any (isW who) = hasP H who from rfl, h2] at e; cases e
  simp only [e2] at hfH
  clear e1 e2 h1
  have HFL := Lib.hid hfL
  have HFH := Lib.hid hfH
  have HFIT := Lib.hid hfit
  have HLH := Lib.hid lH
  have HLL := Lib.hid lL
  have HOK := Lib.hid hok
  clear hfL hfH hfit lH lL hok h hbase
  generalize hnn : H.length = n at *
  generalize hmm : L.length = m at *
  have HN := Lib.hid hnn
  have HM := Lib.hid hmm
  clear hnn hmm
  have HS0 := Lib.hid hsp
  have hm1 : ¬ ((m : Int) = 0) := by omega
  have hmd := mode_ mode w
  generalize mdN mode = q at *
  have HMD := Lib.hid hmd
  clear hmd
  have hq0 : ¬ ((q : Int) = 0) := by omega
  clear h0 h2 hsp
  go_enter Tryz.func32, Tryz.ntmps32
  go_wp2_with fail
  refine HMD.out.mono ?_
  rintro e w' ⟨rfl, rfl⟩
  go_wp2_with fail
  refine HFL.out.mono ?_
  rintro e w1 ⟨rfl, hb1⟩
  have HB1 := Lib.hid hb1
  have p0 := (cell_of_heap (hb1.block b hbs) 0).trans b0
  have p1 := (cell_of_heap (hb1.block b hbs) 1).trans b1
  clear hb1 HFL
  go_wp2_with fail
  refine (HFH.out _ HB1.out).mono ?_
  rintro e w2 ⟨rfl, hb2⟩
  have HB2 := Lib.hid (HB1.out.trans (hb2.mono HB1.out.size))
  have p0 := (cell_of_heap (hb2.block b (Nat.lt_of_lt_of_le hbs HB1.out.size)) 0).trans p0
  have p1 := (cell_of_heap (hb2.block b (Nat.lt_of_lt_of_le hbs HB1.out.size)) 1).trans p1
  clear hb2 HFH
  go_wp2_with fail
  refine (HFIT.out _ HB2.out (who, q) hq).mono ?_
  rw [h4]
  rintro e w5 ⟨rfl, hb5⟩
  have HB5 := Lib.hid (HB2.out.trans (hb5.mono HB2.out.size))
  have p0 := (cell_of_heap (hb5.block b (Nat.lt_of_lt_of_le hbs HB2.out.size)) 0).trans p0
  have p1 := (cell_of_heap (hb5.block b (Nat.lt_of_lt_of_le hbs HB2.out.size)) 1).trans p1
  clear hb5 HFIT HB2
  have HBW := HB5
  clear HB5
  have hbr : b < w5.heap.size := Nat.lt_of_lt_of_le hbs HBW.out.size
  have hML : (L.map lnA).length = m := by rw [List.length_map]; exact HM.out
  have hjm : m ≤ m := Nat.le_refl _
  have hlj : ((L.map lnA).take m).length = m := by rw [List.length_take, hML]; omega
  have HLJ := Lib.hid hlj
  obtain ⟨m2, hm2⟩ : ∃ m2, m - m = m2 := ⟨_, rfl⟩
  obtain ⟨A2, hd2, hr2, _⟩ := tail_holds HLL.out hML gL hjm hm2
  have hd1 := fun W => head_holds AL m cL m (by omega) W
  have hlm : ((L.map lnA).drop m).length = m2 := by rw [List.length_drop, hML]; exact hm2
  have HLM := Lib.hid hlm
  have hjm2 : m + 1 + m2 ≤ 200000 := by omega
  have hjm3 : m ≤ 100000 := by omega
  have HQ := Lib.hid ((HLL.out.below HBW.out).take m)
  have HTL := Lib.hid (hr2.below HBW.out)
  have HSP := Lib.hid (HS0.out)
  clear hlj hr2 hlm hm2 hML
  go_wp2_with fail
  go_region_law (first
    | (refine step_append_own tyH rfl (.tmp 130) (.tmp 136) rfl rfl HO6.out rfl (HTL.out.below HB6.out) HLM.out (by show _ + m2 ≤ 1000000; rw [List.length_append, HLJ.out]; show m + 1 + m2 ≤ 1000000; omega) HB6.out.size ?_; intro v7 W7 ho7 hg7; obtain ⟨A7, n7, c7, e7⟩ := own_form ho7; subst e7; have HO7 := Lib.hid ho7; have HB7 : Hid (Below w5.heap.size w5 W7) := HB6.out.trans (grown_own HO6.out hg7 HB6.out.size); have qW7 : W7.cell? ⟨b, 1, none⟩ = some (.slice AL m cL) := (cell_of_heap (HB7.out.block b hbr) 1).trans p1; have sW7 : b < W7.heap.size := Nat.lt_of_lt_of_le hbr HB7.out.size; have fW7 := Blk.frozen (((RKH.out.below HBW.out).below HB7.out).two) 1; clear ho7 hg7)
    | (refine step_append_own tyH rfl (.tmp 125) (.tmp 129) rfl rfl HO5.out rfl HS5.out rfl (by show _ + 1 ≤ 1000000; rw [HLJ.out]; omega) HB5.out.size ?_; intro v6 W6 ho6 hg6; have HO6 := Lib.hid ho6; have HB6 : Hid (Below w5.heap.size w5 W6) := HB5.out.trans (grown_own HO5.out hg6 HB5.out.size); have qW6 : W6.cell? ⟨b, 1, none⟩ = some (.slice AL m cL) := (cell_of_heap (HB6.out.block b hbr) 1).trans p1; have sW6 : b < W6.heap.size := Nat.lt_of_lt_of_le hbr HB6.out.size; clear ho6 hg6)
    | (refine step_append_own tyH rfl (.tmp 125) (.tmp 129) rfl rfl (own_belowE HO5.out (alloc_below W5 (.cells #[.int .i64 who, .int .i64 0, .int .i64 (q : Int)] 56))) rfl (hold_one W5 who q) rfl (by show _ + 1 ≤ 1000000; rw [HLJ.out]; omega) (Nat.le_trans HB5.out.size (alloc_below W5 (.cells #[.int .i64 who, .int .i64 0, .int .i64 (q : Int)] 56)).size) ?_; intro v6 W6 ho6 hg6; have HO6 := Lib.hid ho6; have HB6 : Hid (Below w5.heap.size w5 W6) := (HB5.out.alloc HB5.out.size _).trans (grown_own (own_belowE HO5.out (alloc_below W5 (.cells #[.int .i64 who, .int .i64 0, .int .i64 (q : Int)] 56))) hg6 (Nat.le_trans HB5.out.size (alloc_below W5 (.cells #[.int .i64 who, .int .i64 0, .int .i64 (q : Int)] 56)).size)); have qW6 : W6.cell? ⟨b, 1, none⟩ = some (.slice AL m cL) := (cell_of_heap (HB6.out.block b hbr) 1).trans p1; have sW6 : b < W6.heap.size := Nat.lt_of_lt_of_le hbr HB6.out.size; clear ho6 hg6)
    | (refine step_append_own (v := .slice none 0 0) (ys := []) tyH rfl (.const (.slice none 0 0)) (.tmp 124) rfl rfl (own_nil (w5.alloc (.cells #[.int .i64 who, .int .i64 0, .int .i64 (q : Int)] 56)).drew w5.heap.size) rfl (HQ.out.below (alloc_below w5 (.cells #[.int .i64 who, .int .i64 0, .int .i64 (q : Int)] 56)).drew) HLJ.out (by show 0 + m ≤ 1000000; omega) (alloc_below w5 (.cells #[.int .i64 who, .int .i64 0, .int .i64 (q : Int)] 56)).size ?_; intro v5 W5 ho5 hg5; rw [List.nil_append] at ho5; have HO5 := Lib.hid ho5; have HB5 : Hid (Below w5.heap.size w5 W5) := (alloc_below w5 (.cells #[.int .i64 who, .int .i64 0, .int .i64 (q : Int)] 56)).drew.trans ((Below.refl _ _).grown hg5 (alloc_below w5 (.cells #[.int .i64 who, .int .i64 0, .int .i64 (q : Int)] 56)).size (fun q hq => by simp [Value.ownBlock] at hq)); have HS5 := Lib.hid ((hold_one w5 who q).below ((Below.refl (w5.alloc (.cells #[.int .i64 who, .int .i64 0, .int .i64 (q : Int)] 56)).heap.size (w5.alloc (.cells #[.int .i64 who, .int .i64 0, .int .i64 (q : Int)] 56))).drew.trans ((Below.refl _ _).grown hg5 (Nat.le_refl _) (fun q hq => by simp [Value.ownBlock] at hq)))); have qW5 : W5.cell? ⟨b, 1, none⟩ = some (.slice AL m cL) := (cell_of_heap (HB5.out.block b hbr) 1).trans p1; have sW5 : b < W5.heap.size := Nat.lt_of_lt_of_le hbr HB5.out.size; clear ho5 hg5)
    | (refine step_append_own (v := .slice none 0 0) (ys := []) tyH rfl (.const (.slice none 0 0)) (.tmp 124) rfl rfl (own_nil w5.drew w5.heap.size) rfl (HQ.out.below (Below.refl _ _).drew) HLJ.out (by show 0 + m ≤ 1000000; omega) (Nat.le_refl _) ?_; intro v5 W5 ho5 hg5; rw [List.nil_append] at ho5; have HO5 := Lib.hid ho5; have HB5 : Hid (Below w5.heap.size w5 W5) := (Below.refl w5.heap.size w5).drew.trans ((Below.refl _ _).grown hg5 (Nat.le_refl _) (fun q hq => by simp [Value.ownBlock] at hq)); have qW5 : W5.cell? ⟨b, 1, none⟩ = some (.slice AL m cL) := (cell_of_heap (HB5.out.block b hbr) 1).trans p1; have sW5 : b < W5.heap.size := Nat.lt_of_lt_of_le hbr HB5.out.size; clear ho5 hg5))
  all_goals
    have hend := rk_wait RKH.out HBW.out HBASE.out HB7.out HO7.out HSP.out
    have HE1 := Lib.hid hend.1
    have HE2 := Lib.hid hend.2
    clear hend
    go_wp2_with fail
    go_ret
    exact ⟨rfl, HE1.out, HE2.out⟩
end Go.Proofs.YtnjhhndggfjjdaaGreatDoor
