/- Package grant's grant: somebody comes to hold it, in the place of what it held, or as the last. -/
import Derived.Test.YtnjhhndggfjjdaaDoorGqF
import Derived.Deep.RegionLaw
import Derived.StillTailTactics
set_option maxRecDepth 4000
namespace Go.Proofs.YtnjhhndggfjjdaaDoor
open Go.RowKit
/-- one claim in a block of its own -/
theorem lst_one (W : World) (c : Cl) : Lst (W.alloc (.cells #[.int .i64 c.1, .int .i64 (c.2 : Int)] 78)) (fun i => W.heap.size ≤ i) eC (some ⟨W.heap.size, 0, none⟩) [c] := fun _ =>
  ⟨_, 0, rfl, Nat.le_refl _, by simp, fun j u hu => by rw [(Blk.new W 78 _).cell, Nat.zero_add]; simpa [cellsE, eC] using hu⟩
theorem Two.frozen {w : World} {b off : Nat} {zn : Zn} {vH vL : Value} (h : Two w b off zn vH vL) (i : Nat) : w.frozen? ⟨b, i, none⟩ = false := Blk.frozen h.blk i
theorem two_ne {w : World} {b base off : Nat} {zn : Zn} {vH vL v : Value} {l : List Cl} (h : Two w b off zn vH vL) (ho : Own w base eC 78 v l) : v.ownBlock ≠ some b := fun e => by
  obtain ⟨_, _, cur, hc⟩ := own_blk ho e
  have := h.blk.symm.trans hc
  injection this with this
  injection this with _ this
  exact h.ty.1 this
theorem Two.grown {w w' : World} {b off : Nat} {zn : Zn} {vH vL v : Value} (h : Two w b off zn vH vL) (hg : w.grownBy w' v.ownBlock) (hn : v.ownBlock ≠ some b) : Two w' b off zn vH vL := h.same (hg.block b h.lt (fun e => hn e.symm))
def Granted (w : World) (b off : Nat) (zn : Zn) (vH vL : Value) (base : Nat) (H : List Cl) (w' : World) : Prop :=
  ∃ vH', Two w' b off zn vH' vL ∧ Own w' base eC 78 vH' H ∧ (vH'.ownBlock = vH.ownBlock ∨ ∃ g, vH'.ownBlock = some g ∧ w.heap.size ≤ g) ∧ Keep (fun i _ => i ≠ b ∧ vH.ownBlock ≠ some i) w w'
set_option maxHeartbeats 2000000 in
theorem grant_new {w : World} {b base off : Nat} {zn : Zn} {vH vL : Value} {H : List Cl} (h2 : Two w b off zn vH vL) (ho : Own w base eC 78 vH H) (hbase : base ≤ w.heap.size) (hn : H.length ≤ 100000) (x : Cl) (hx : hasP H x.1 = false) :
    Calls Tryd.prog 40 #[.pointer (some ⟨b, off, none⟩), valC x] w fun e w' => e = .returned (.tuple #[]) ∧ Granted w b off zn vH vL base (H ++ [x]) w' := by
  have hbl := alloc_below w (.cells #[.int .i64 x.1, .int .i64 (x.2 : Int)] 78)
  obtain ⟨A, c, hv, hlst, _, _, _⟩ := own_lst ho
  have hp := fun W hb => place_ (w := W) (c := c) ((hlst.below hbl).below hb) rfl (by omega) x.1
  have e0 : idxI (isW x.1) H = -1 := by
    rcases idx_cases (isW x.1) H with ⟨e, _⟩ | ⟨_, _, e, _⟩
    · exact e
    · rw [show H.any (isW x.1) = hasP H x.1 from rfl, hx] at e; cases e
  rw [e0] at hp
  have hbs : b < w.heap.size := Two.lt h2
  have hbn : b ≠ w.heap.size := by omega
  have b0 := (Two.below h2 hbl hbs).c0
  rw [hv] at b0
  have HP := Lib.hid hp
  have H2 := Lib.hid h2
  have HO := Lib.hid ho
  have HV := Lib.hid hv
  have HB := Lib.hid hbl
  have HX := Lib.hid hx
  have hwA : (w.alloc (.cells #[.int .i64 x.1, .int .i64 (x.2 : Int)] 78)).heap.size = w.heap.size + 1 := by simp
  have d0 : (w.alloc (.cells #[.int .i64 x.1, .int .i64 (x.2 : Int)] 78)).cell? ⟨w.heap.size, 0, none⟩ = some (.int .i64 x.1) := (Blk.new w _ _).cell 0
  have d1 : (w.alloc (.cells #[.int .i64 x.1, .int .i64 (x.2 : Int)] 78)).cell? ⟨w.heap.size, 1, none⟩ = some (.int .i64 (x.2 : Int)) := (Blk.new w _ _).cell 1
  obtain ⟨x1, x2⟩ := x
  unfold valC
  simp only at *
  clear hp h2 ho hv hlst hbl hx e0
  generalize hm : H.length = m at *
  have HM := Lib.hid hm
  clear hm
  go_enter Tryd.func40, Tryd.ntmps40
  go_wp2_with fail
  generalize w.alloc (.cells #[.int .i64 x1, .int .i64 (x2 : Int)] 78) = wA at *
  refine wp_region_still_tail 6 (by kernel_rfl) (by kernel_rfl) ?_
  simp only [List.take_succ_cons, List.take_zero, List.drop_succ_cons, List.drop_zero]
  repeat still_step
  refine wpStill_nil ?_
  go_wp2_with fail
  refine (HP.out _ (Below.refl _ _).drew).mono ?_
  rintro e w1 ⟨rfl, hb1⟩
  have HB1 := Lib.hid (below_drew_on HB.out hb1 HB.out.size)
  have q0 : w1.cell? ⟨w.heap.size, 0, none⟩ = some (.int .i64 x1) := (cell_of_heap (hb1.block w.heap.size (by show w.heap.size < wA.heap.size; omega)) 0).trans d0
  have q1 : w1.cell? ⟨w.heap.size, 1, none⟩ = some (.int .i64 (x2 : Int)) := (cell_of_heap (hb1.block w.heap.size (by show w.heap.size < wA.heap.size; omega)) 1).trans d1
  have T1 := Lib.hid (Two.below H2.out HB1.out hbs)
  have p0 := T1.out.c0
  rw [HV.out] at p0
  have O1 := Lib.hid (own_keep HO.out fun g hg => HB1.out.block g (own_blk HO.out hg).2.1)
  clear d0 d1 b0 hb1
  have hal := alloc_below w1.drew (.cells #[.int .i64 x1, .int .i64 (x2 : Int)] 78)
  obtain ⟨v3, W3, hap, ho3, hg3, hat⟩ := append_own tyC (own_keep (W' := w1.drew.alloc (.cells #[.int .i64 x1, .int .i64 (x2 : Int)] 78)) O1.out fun g hg => hal.block g (own_blk O1.out hg).2.1) (lst_one w1.drew (x1, x2)) rfl 1 (by rw [HM.out]; show m + 1 ≤ 1000000; omega) (Nat.le_trans hbase (Nat.le_trans HB1.out.size hal.size))
  rw [HV.out] at hap
  have HA := Lib.hid hap
  have hne := two_ne T1.out O1.out
  have T3 := Lib.hid (Two.grown (Two.below (T1.out.same (w' := w1.drew) rfl) hal T1.out.lt) hg3 hne)
  obtain ⟨A3, c3, rfl, _, _, _, _⟩ := own_lst ho3
  have p3 := T3.out.c0
  rw [HV.out] at p3
  have f3 := T3.out.frozen off
  have pA : (w1.alloc (.cells #[.int .i64 x1, .int .i64 (x2 : Int)] 78)).drew.cell? ⟨b, off, none⟩ = some (.slice A m c) := (cell_of_heap (hal.block b T1.out.lt) off).trans p0
  have HO3 := Lib.hid ho3
  have HG3 := Lib.hid hg3
  have HAT := Lib.hid hat
  have hfin : Granted w b off zn vH vL base (H ++ [(x1, x2)]) (W3.setCell ⟨b, off, none⟩ (.slice A3 (H ++ [(x1, x2)]).length c3)) := by
    refine ⟨_, Two.set0 T3.out _, own_keep ho3 fun g hg => ?_, ?_, ?_⟩
    · have hgb : g ≠ b := fun e => by subst e; exact two_ne T3.out ho3 hg
      exact Below.heap_setCell W3 ⟨b, off, none⟩ _ g hgb
    · rcases hat with h | h
      · exact .inl h
      · exact .inr ⟨_, h, Nat.le_trans HB1.out.size hal.size⟩
    · refine Keep.setCell (Keep.grown (Keep.of_below (below_drew_on HB1.out hal HB1.out.size)) hg3 ?_) ?_ _
      · intro g o e _ h
        exact h.2 e
      · intro o _ h
        exact h.1 rfl
  have HFIN := Lib.hid hfin
  generalize (H ++ [(x1, x2)]).length = m3 at *
  clear ho3 hg3 hat hap hal hne hfin
  go_wp2_with fail
  go_region_law (refine step_append_at rfl (.tmp 25) (.tmp 27) 58 58 rfl _ _ rfl rfl HA.out ?_)
  all_goals (go_end0; exact ⟨rfl, HFIN.out⟩)
theorem own_set {α : Type} {E : Enc α} {T : TypeId} {W : World} {base g n c : Nat} {ys : List α} (h : Own W base E T (.slice (some ⟨g, 0, none⟩) n c) ys) {q : Nat} (hq : q < ys.length) (x : α) :
    Own (W.setCells g (q * E.k) (E.enc x)) base E T (.slice (some ⟨g, 0, none⟩) n c) (ys.set q x) := by
  rcases h.2 with ⟨e, _⟩ | ⟨g', cap, cur, e, hb, hh, hnc, hcm, hcs, htk⟩
  · cases e
  · injection e with e1 e2 e3
    injection e1 with e1
    injection e1 with e1 _ _
    subst e1 e2 e3
    have hy : ys = ys.take q ++ ys[q] :: ys.drop (q + 1) := by rw [← List.drop_eq_getElem_cons hq, List.take_append_drop]
    have hs : ys.set q x = ys.take q ++ x :: ys.drop (q + 1) := by
      rw [List.set_eq_take_append_cons_drop, if_pos hq]
    have hcur : cur.toList = cellsE E (ys.take q) ++ E.enc ys[q] ++ (cellsE E (ys.drop (q + 1)) ++ cur.toList.drop (ys.length * E.k)) := by
      have hce : cellsE E ys = cellsE E (ys.take q) ++ (E.enc ys[q] ++ cellsE E (ys.drop (q + 1))) := by
        conv => lhs; rw [hy, cellsE_append, cellsE]
      conv => lhs; rw [← List.take_append_drop (ys.length * E.k) cur.toList, htk, hce]
      simp only [List.append_assoc]
    have hpl : (cellsE E (ys.take q)).length = q * E.k := by rw [cellsE_length, List.length_take, Nat.min_eq_left (by omega)]
    have hb0 : Blk W g T (cellsE E (ys.take q) ++ E.enc ys[q] ++ (cellsE E (ys.drop (q + 1)) ++ cur.toList.drop (ys.length * E.k))).toArray := by
      rw [← hcur]; exact hh
    have hb1 := blk_setCells (E.enc x) _ _ _ W (by rw [E.len, E.len]) hb0
    rw [hpl] at hb1
    refine ⟨by rw [cellsE_length], .inr ⟨g, c, _, by rw [List.length_set], hb, hb1, by rw [List.length_set]; exact hnc, hcm, ?_, ?_⟩⟩
    · have := congrArg List.length hcur
      simp only [Array.length_toList, List.length_append, E.len] at this
      simp only [List.size_toArray, List.length_append, E.len]
      omega
    · rw [hs]
      have hl : (ys.take q ++ x :: ys.drop (q + 1)).length * E.k = (cellsE E (ys.take q) ++ E.enc x ++ cellsE E (ys.drop (q + 1))).length := by
        rw [← cellsE_length E, cellsE_append, cellsE, List.append_assoc]
      rw [hl, List.toList_toArray, ← List.append_assoc, List.take_left']
      · rw [cellsE_append, cellsE, List.append_assoc]
      · rfl
set_option maxHeartbeats 2000000 in
theorem grant_old {w : World} {b base off : Nat} {zn : Zn} {vH vL : Value} {H : List Cl} (h2 : Two w b off zn vH vL) (ho : Own w base eC 78 vH H) (hn : H.length ≤ 100000) (x : Cl) (hx : H.findIdx (isW x.1) < H.length) :
    Calls Tryd.prog 40 #[.pointer (some ⟨b, off, none⟩), valC x] w fun e w' => e = .returned (.tuple #[]) ∧ Granted w b off zn vH vL base (H.set (H.findIdx (isW x.1)) x) w' := by
  have hbl := alloc_below w (.cells #[.int .i64 x.1, .int .i64 (x.2 : Int)] 78)
  obtain ⟨A, c, hv, hlst, hmc, hcm, _⟩ := own_lst ho
  have hp := fun W hb => place_ (w := W) (c := c) ((hlst.below hbl).below hb) rfl (by omega) x.1
  have e0 : idxI (isW x.1) H = (H.findIdx (isW x.1) : Int) := by unfold idxI; rw [if_pos hx]
  rw [e0] at hp
  obtain ⟨g, o, rfl, ⟨_, hgo⟩, hgl, hcell⟩ := hlst (by omega)
  obtain rfl : o = 0 := by
    rcases ho.2 with ⟨e, _⟩ | ⟨_, _, _, e, _⟩
    · rw [e] at hv; cases hv
    · rw [e] at hv; injection hv with h1; injection h1 with h1; injection h1 with _ h1 _; exact h1.symm
  generalize hq : H.findIdx (isW x.1) = q at *
  have hbs : b < w.heap.size := Two.lt h2
  have b0 := (Two.below h2 hbl hbs).c0
  rw [hv] at b0
  have hos := fun W (hb : Below w.heap.size w W) => own_set (W := W) (hv ▸ own_keep ho fun g hg => hb.block g (own_blk ho hg).2.1) hx x
  have HP := Lib.hid hp
  have H2 := Lib.hid h2
  have HO := Lib.hid ho
  have HS := Lib.hid hos
  have HV := Lib.hid hv
  have HB := Lib.hid hbl
  have HC := Lib.hid hcell
  have HG := Lib.hid hgo
  have HX := Lib.hid hx
  have hwA : (w.alloc (.cells #[.int .i64 x.1, .int .i64 (x.2 : Int)] 78)).heap.size = w.heap.size + 1 := by simp
  have d0 : (w.alloc (.cells #[.int .i64 x.1, .int .i64 (x.2 : Int)] 78)).cell? ⟨w.heap.size, 0, none⟩ = some (.int .i64 x.1) := (Blk.new w _ _).cell 0
  have d1 : (w.alloc (.cells #[.int .i64 x.1, .int .i64 (x.2 : Int)] 78)).cell? ⟨w.heap.size, 1, none⟩ = some (.int .i64 (x.2 : Int)) := (Blk.new w _ _).cell 1
  obtain ⟨x1, x2⟩ := x
  unfold valC
  simp only at *
  clear hp h2 ho hv hlst hbl e0 hcell hq hgo hos hx
  generalize hm : H.length = m at *
  have hqm : q < m := HX.out
  have HM := Lib.hid hm
  clear hm
  go_enter Tryd.func40, Tryd.ntmps40
  go_wp2_with fail
  generalize w.alloc (.cells #[.int .i64 x1, .int .i64 (x2 : Int)] 78) = wA at *
  refine wp_region_still_tail 6 (by kernel_rfl) (by kernel_rfl) ?_
  simp only [List.take_succ_cons, List.take_zero, List.drop_succ_cons, List.drop_zero]
  repeat still_step
  refine wpStill_nil ?_
  go_wp2_with fail
  refine (HP.out _ (Below.refl _ _).drew).mono ?_
  rintro e w1 ⟨rfl, hb1⟩
  have HB1 := Lib.hid (below_drew_on HB.out hb1 HB.out.size)
  have q0 : w1.cell? ⟨w.heap.size, 0, none⟩ = some (.int .i64 x1) := (cell_of_heap (hb1.block w.heap.size (by show w.heap.size < wA.heap.size; omega)) 0).trans d0
  have q1 : w1.cell? ⟨w.heap.size, 1, none⟩ = some (.int .i64 (x2 : Int)) := (cell_of_heap (hb1.block w.heap.size (by show w.heap.size < wA.heap.size; omega)) 1).trans d1
  have T1 := Lib.hid (Two.below H2.out HB1.out hbs)
  have p0 := T1.out.c0
  rw [HV.out] at p0
  obtain ⟨_, _, cur, hcur⟩ := own_blk HO.out HG.out
  have hcur1 : Blk w1 g 78 cur := (HB1.out.block g hgl).trans hcur
  have hxl : q < H.length := by rw [HM.out]; exact hqm
  have cx : ∀ i v, (eC.enc H[q])[i]? = some v → w1.cell? ⟨g, 0 + (q * 2 + i), none⟩ = some v := fun i v hi => by
    exact (cell_of_heap (HB1.out.block g hgl) _).trans (HC.out _ _ (cellsE_at eC hxl hi))
  have cx0 := cx 0 _ rfl
  have cx1 := cx 1 _ rfl
  simp only [Nat.zero_add, Nat.add_zero] at cx0 cx1
  have fx0 := hcur1.frozen (q * 2)
  have fx1 := hcur1.frozen (q * 2 + 1)
  have S1 := Lib.hid (HS.out w1 HB1.out)
  have hgb : g ≠ b := fun e => by subst e; exact two_ne H2.out HO.out HG.out
  have hfin : Granted w b off zn vH vL base (H.set q (x1, x2)) ((w1.setCell ⟨g, q * 2, none⟩ (.int .i64 x1)).setCell ⟨g, q * 2 + 1, none⟩ (.int .i64 (x2 : Int))).drew := by
    refine ⟨vH, (T1.out.same ((Below.heap_setCell _ ⟨g, q * 2 + 1, none⟩ _ b (fun e => hgb e.symm)).trans (Below.heap_setCell _ ⟨g, q * 2, none⟩ _ b (fun e => hgb e.symm)))), by rw [HV.out]; exact S1.out, .inl rfl, ?_⟩
    refine Keep.drew (Keep.setCell (Keep.setCell (Keep.of_below HB1.out) ?_ _) ?_ _)
    · intro o _ h
      exact h.2 HG.out
    · intro o _ h
      exact h.2 HG.out
  have HFIN := Lib.hid hfin
  clear d0 d1 b0 hb1 cx hcur hcur1 hfin
  generalize H[q].1 = y1 at *
  generalize H[q].2 = y2 at *
  clear hxl
  go_wp2_with fail
  go_region
  go_wp2_with fail
  refine bodyPost_ret (results_none rfl _ _ _) rfl ?_
  exact ⟨rfl, HFIN.out⟩
theorem grant_ {w : World} {b base off : Nat} {zn : Zn} {vH vL : Value} {H : List Cl} (h2 : Two w b off zn vH vL) (ho : Own w base eC 78 vH H) (hbase : base ≤ w.heap.size) (hn : H.length ≤ 100000) (x : Cl) :
    Calls Tryd.prog 40 #[.pointer (some ⟨b, off, none⟩), valC x] w fun e w' => e = .returned (.tuple #[]) ∧ Granted w b off zn vH vL base (grantP H x) w' := by
  unfold grantP
  rcases idx_cases (isW x.1) H with ⟨_, h⟩ | ⟨hlt, _, h, _⟩
  · have h : hasP H x.1 = false := h
    rw [h]
    exact grant_new h2 ho hbase hn x h
  · have h : hasP H x.1 = true := h
    rw [h]
    exact grant_old h2 ho hn x hlt
end Go.Proofs.YtnjhhndggfjjdaaDoor
