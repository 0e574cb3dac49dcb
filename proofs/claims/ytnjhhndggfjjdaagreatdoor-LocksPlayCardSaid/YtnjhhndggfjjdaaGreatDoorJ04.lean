/- Who is in the way, and whether something fits: package grant's inWay and fits. Package grant's grant: somebody comes to hold it, in the place of what it held, or as the last. A lock's lists are made anew ahead of a change: Clone at claims, and package grant's ownLists. -/
import Derived.Test.YtnjhhndggfjjdaaGreatDoorJ03
import Derived.Deep.RegionLaw
import Derived.StillTailTactics
import Derived.Deep.Slices
import Derived.ChangeArms
import Derived.Laws.Cover1
set_option maxRecDepth 4000
namespace Go.Proofs.YtnjhhndggfjjdaaGreatDoor
open Go.RowKit
theorem inway_ (c x : Cl) (hc : c.2 < 6) (hx : x.2 < 6) (w : World) (hT : Tab w) :
    Calls Tryz.prog 63 #[valC c, valC x] w fun e w' => e = .returned (.bool (inwayP c x)) ∧ Below w.heap.size w w' := by
  obtain ⟨c1, c2⟩ := c
  obtain ⟨x1, x2⟩ := x
  unfold valC inwayP
  simp only at hc hx ⊢
  obtain ⟨W2, hW2⟩ : ∃ W2, W2 = ((w.alloc (.cells #[.int .i64 c1, .int .i64 (c2 : Int)] 94)).alloc (.cells #[.int .i64 x1, .int .i64 (x2 : Int)] 94)) := ⟨_, rfl⟩
  have hbel : Below w.heap.size w W2 := by rw [hW2]; exact ((Below.refl _ _).alloc (Nat.le_refl _) _).alloc (by simp) _
  have hF := fits_ (c2 : Int) (x2 : Int) W2 (hT.below hbel)
  rw [mdN_of hc, mdN_of hx] at hF
  generalize fitB c2 x2 = f at *
  have HF := Lib.hid hF
  have HB := Lib.hid hbel
  clear hF hbel hT
  by_cases h : c1 = x1
  · subst h
    have e : (c1 != c1) = false := by simp
    rw [e]
    clear HF
    go_enter Tryz.func63, Tryz.ntmps63
    go_wp2
    go_ret
    rw [← hW2]
    exact ⟨by simp, HB.out⟩
  · have e : (c1 != x1) = true := by simpa using h
    have e2 : (c1 == x1) = false := by simpa using h
    rw [e, Bool.true_and]
    go_enter Tryz.func63, Tryz.ntmps63
    go_wp2_with (go_at_call 85; rw [← hW2]; refine HF.out.mono ?_; rintro e w' ⟨rfl, nn, rfl⟩)
    go_ret
    rw [← hW2]
    exact ⟨rfl, below_drewN HB.out _⟩
theorem pred_fits (x : Cl) (B : Nat) (w : World) (hT : Tab w) (hx : x.2 < 6) (hB : B < w.heap.size) (h0 : w.cell? ⟨B, 0, none⟩ = some (.int .i64 x.1)) (h1 : w.cell? ⟨B, 1, none⟩ = some (.int .i64 (x.2 : Int))) (l : List Cl) (hl : ∀ c ∈ l, 0 < c.2 ∧ c.2 < 6) :
    Pred 78 #[.pointer (some ⟨B, 0, none⟩)] (fun c => inwayP c x) l w := fun W c hc hb => by
  have h0' : W.cell? ⟨B, 0, none⟩ = some (.int .i64 x.1) := (hb.cell (p := ⟨B, 0, none⟩) hB).trans h0
  have h1' : W.cell? ⟨B, 1, none⟩ = some (.int .i64 (x.2 : Int)) := (hb.cell (p := ⟨B, 1, none⟩) hB).trans h1
  have hBW : B < W.heap.size := Nat.lt_of_lt_of_le hB hb.size
  have hne : B ≠ W.heap.size := by omega
  have hnew := hb.alloc hb.size (.cells #[.int .i64 c.1, .int .i64 (c.2 : Int)] 94)
  have hI := inway_ c x (hl c hc).2 hx _ (hT.below hnew)
  show Calls Tryz.prog 78 #[valC c, .pointer (some ⟨B, 0, none⟩)] W fun e w' => e = .returned (.bool (inwayP c x)) ∧ Below w.heap.size w w'
  generalize inwayP c x = r at *
  unfold valC at hI ⊢
  obtain ⟨c1, c2⟩ := c
  obtain ⟨x1, x2⟩ := x
  simp only at *
  have HI := Lib.hid hI
  have HN := Lib.hid hnew
  clear h0 h1 hb hnew hI hT hc hx hl
  go_enter Tryz.func78, Tryz.ntmps78
  go_wp2_with (go_at_call 63; refine HI.out.mono ?_; rintro e w' ⟨rfl, hb'⟩)
  go_ret
  exact ⟨rfl, HN.out.trans (hb'.mono HN.out.size)⟩
theorem enters_fits : ∀ args w, (callFunc 78 args).run Tryz.prog w = .ok (.enter 78 args) w := enters_of Tryz.func78 (by kernel_rfl) rfl
/-- what stands around a lock in its block: the block's type, and all its cells -/
structure Zn where
  T : TypeId
  cs : Array Value
/-- the block's cells with these two slices at a place -/
def Zn.with (zn : Zn) (off : Nat) (vH vL : Value) : Array Value := (zn.cs.setIfInBounds off vH).setIfInBounds (off + 1) vL
/-- the lock at place off of block b has these two slices; all else of its block is as told; it is no block of claims, holds or numbers -/
structure Two (w : World) (b off : Nat) (zn : Zn) (vH vL : Value) : Prop where
  blk : Blk w b zn.T (zn.with off vH vL)
  sz : off + 1 < zn.cs.size
  ty : zn.T ≠ 94 ∧ zn.T ≠ 3 ∧ zn.T ≠ 56
theorem with_0 (zn : Zn) (off : Nat) (vH vL u : Value) : (zn.with off vH vL).setIfInBounds off u = zn.with off u vL := by
  unfold Zn.with
  rw [Array.setIfInBounds_comm _ _ (show off + 1 ≠ off by omega)]
  simp
theorem with_1 (zn : Zn) (off : Nat) (vH vL u : Value) : (zn.with off vH vL).setIfInBounds (off + 1) u = zn.with off vH u := by
  unfold Zn.with
  simp
theorem Two.set0 {w : World} {b off : Nat} {zn : Zn} {vH vL : Value} (h : Two w b off zn vH vL) (u : Value) : Two (w.setCell ⟨b, off, none⟩ u) b off zn u vL := ⟨by have := h.blk.set_ off u; rwa [with_0] at this, h.sz, h.ty⟩
theorem Two.set1 {w : World} {b off : Nat} {zn : Zn} {vH vL : Value} (h : Two w b off zn vH vL) (u : Value) : Two (w.setCell ⟨b, off + 1, none⟩ u) b off zn vH u := ⟨by have := h.blk.set_ (off + 1) u; rwa [with_1] at this, h.sz, h.ty⟩
theorem Two.same {w w' : World} {b off : Nat} {zn : Zn} {vH vL : Value} (h : Two w b off zn vH vL) (e : w'.heap[b]? = w.heap[b]?) : Two w' b off zn vH vL := ⟨e.trans h.blk, h.sz, h.ty⟩
theorem Two.lt {w : World} {b off : Nat} {zn : Zn} {vH vL : Value} (h : Two w b off zn vH vL) : b < w.heap.size := Blk.lt h.blk
theorem Two.c0 {w : World} {b off : Nat} {zn : Zn} {vH vL : Value} (h : Two w b off zn vH vL) : w.cell? ⟨b, off, none⟩ = some vH := by
  rw [h.blk.cell]
  have := h.sz
  unfold Zn.with
  simp [Array.getElem?_setIfInBounds]
  omega
theorem Two.c1 {w : World} {b off : Nat} {zn : Zn} {vH vL : Value} (h : Two w b off zn vH vL) : w.cell? ⟨b, off + 1, none⟩ = some vL := by
  rw [h.blk.cell]
  have := h.sz
  unfold Zn.with
  simp [Array.getElem?_setIfInBounds]
  omega
theorem Two.below {w w' : World} {B b off : Nat} {zn : Zn} {vH vL : Value} (h : Two w b off zn vH vL) (k : Below B w w') (hb : b < B) : Two w' b off zn vH vL := h.same (k.block b hb)
theorem fits_lock {w : World} {b off : Nat} {zn : Zn} {vH vL : Value} {K : Nat → Prop} {A : Option Addr} {c : Nat} {H : List Cl} (h2 : Two w b off zn vH vL) (hv : vH = .slice A H.length c) (h : Lst w K eC A H) (hn : H.length ≤ 1000000) (hm : ∀ c ∈ H, 0 < c.2 ∧ c.2 < 6) (x : Cl) (hx : x.2 < 6) (hT : Tab w) :
    Calls Tryz.prog 53 #[.pointer (some ⟨b, off, none⟩), valC x] w fun e w' => e = .returned (.bool (fitsP H x)) ∧ Below w.heap.size w w' := by
  subst hv
  have hbl := alloc_below w (.cells #[.int .i64 x.1, .int .i64 (x.2 : Int)] 94)
  have hI := contains_ (c := c) (h.below hbl) rfl hn enters_fits (pred_fits x w.heap.size _ (hT.below hbl) hx (by simp) ((Blk.new w _ _).cell 0) ((Blk.new w _ _).cell 1) H hm)
  unfold fitsP
  generalize (H.any fun c => inwayP c x) = r at *
  have b0 := h2.c0
  have hbs : b < w.heap.size := Two.lt h2
  have hbn : b ≠ w.heap.size := by omega
  generalize H.length = n at *
  obtain ⟨x1, x2⟩ := x
  unfold valC
  simp only at *
  have HI := Lib.hid hI
  have HB := Lib.hid hbl
  clear hI h h2 hT hx hm hbl
  go_enter Tryz.func53, Tryz.ntmps53
  go_wp2_with (go_at_call 77; refine HI.out.mono ?_; rintro e w' ⟨rfl, hb'⟩)
  go_ret
  exact ⟨rfl, HB.out.trans (hb'.mono HB.out.size)⟩
end Go.Proofs.YtnjhhndggfjjdaaGreatDoor
namespace Go.Proofs.YtnjhhndggfjjdaaGreatDoor
open Go.RowKit
/-- one claim in a block of its own -/
theorem lst_one (W : World) (c : Cl) : Lst (W.alloc (.cells #[.int .i64 c.1, .int .i64 (c.2 : Int)] 94)) (fun i => W.heap.size ≤ i) eC (some ⟨W.heap.size, 0, none⟩) [c] := fun _ =>
  ⟨_, 0, rfl, Nat.le_refl _, by simp, fun j u hu => by rw [(Blk.new W 94 _).cell, Nat.zero_add]; simpa [cellsE, eC] using hu⟩
theorem Two.frozen {w : World} {b off : Nat} {zn : Zn} {vH vL : Value} (h : Two w b off zn vH vL) (i : Nat) : w.frozen? ⟨b, i, none⟩ = false := Blk.frozen h.blk i
theorem two_ne {w : World} {b base off : Nat} {zn : Zn} {vH vL v : Value} {l : List Cl} (h : Two w b off zn vH vL) (ho : Own w base eC 94 v l) : v.ownBlock ≠ some b := fun e => by
  obtain ⟨_, _, cur, hc⟩ := own_blk ho e
  have := h.blk.symm.trans hc
  injection this with this
  injection this with _ this
  exact h.ty.1 this
theorem Two.grown {w w' : World} {b off : Nat} {zn : Zn} {vH vL v : Value} (h : Two w b off zn vH vL) (hg : w.grownBy w' v.ownBlock) (hn : v.ownBlock ≠ some b) : Two w' b off zn vH vL := h.same (hg.block b h.lt (fun e => hn e.symm))
def Granted (w : World) (b off : Nat) (zn : Zn) (vH vL : Value) (base : Nat) (H : List Cl) (w' : World) : Prop :=
  ∃ vH', Two w' b off zn vH' vL ∧ Own w' base eC 94 vH' H ∧ (vH'.ownBlock = vH.ownBlock ∨ ∃ g, vH'.ownBlock = some g ∧ w.heap.size ≤ g) ∧ Keep (fun i _ => i ≠ b ∧ vH.ownBlock ≠ some i) w w'
set_option maxHeartbeats 2000000 in
theorem grant_new {w : World} {b base off : Nat} {zn : Zn} {vH vL : Value} {H : List Cl} (h2 : Two w b off zn vH vL) (ho : Own w base eC 94 vH H) (hbase : base ≤ w.heap.size) (hn : H.length ≤ 100000) (x : Cl) (hx : hasP H x.1 = false) :
    Calls Tryz.prog 54 #[.pointer (some ⟨b, off, none⟩), valC x] w fun e w' => e = .returned (.tuple #[]) ∧ Granted w b off zn vH vL base (H ++ [x]) w' := by
  have hbl := alloc_below w (.cells #[.int .i64 x.1, .int .i64 (x.2 : Int)] 94)
  obtain ⟨A, c, hv, hlst, _, _, _⟩ := own_lst ho
  have hp := fun W hb => place_ (w := W) (c := c) ((hlst.below hbl).below hb) rfl (by omega) x.1
  have e0 : idxI (isW x.1) H = -1 := by
    rcases idx_cases (isW x.1) H with ⟨e, _⟩ | ⟨_, _, e, _⟩
    · exact e
    · rw [show H.any (isW x.1) = hasP H x.1 from rfl, hx] at e; cases e
  rw [e0] at hp
  have hbs : b < w.heap.size := Two.lt h2
  have hbn : b ≠ w.heap.size := by omega
  have b0 := (Two.below h2 hbl hbs).c0
  rw [hv] at b0
  have HP := Lib.hid hp
  have H2 := Lib.hid h2
  have HO := Lib.hid ho
  have HV := Lib.hid hv
  have HB := Lib.hid hbl
  have HX := Lib.hid hx
  have hwA : (w.alloc (.cells #[.int .i64 x.1, .int .i64 (x.2 : Int)] 94)).heap.size = w.heap.size + 1 := by simp
  have d0 : (w.alloc (.cells #[.int .i64 x.1, .int .i64 (x.2 : Int)] 94)).cell? ⟨w.heap.size, 0, none⟩ = some (.int .i64 x.1) := (Blk.new w _ _).cell 0
  have d1 : (w.alloc (.cells #[.int .i64 x.1, .int .i64 (x.2 : Int)] 94)).cell? ⟨w.heap.size, 1, none⟩ = some (.int .i64 (x.2 : Int)) := (Blk.new w _ _).cell 1
  obtain ⟨x1, x2⟩ := x
  unfold valC
  simp only at *
  clear hp h2 ho hv hlst hbl hx e0
  generalize hm : H.length = m at *
  have HM := Lib.hid hm
  clear hm
  go_enter Tryz.func54, Tryz.ntmps54
  go_wp2_with fail
  generalize w.alloc (.cells #[.int .i64 x1, .int .i64 (x2 : Int)] 94) = wA at *
  refine wp_region_still_tail 6 (by kernel_rfl) (by kernel_rfl) ?_
  simp only [List.take_succ_cons, List.take_zero, List.drop_succ_cons, List.drop_zero]
  repeat still_step
  refine wpStill_nil ?_
  go_wp2_with fail
  refine (HP.out _ (Below.refl _ _).drew).mono ?_
  rintro e w1 ⟨rfl, hb1⟩
  have HB1 := Lib.hid (below_drew_on HB.out hb1 HB.out.size)
  have q0 : w1.cell? ⟨w.heap.size, 0, none⟩ = some (.int .i64 x1) := (cell_of_heap (hb1.block w.heap.size (by show w.heap.size < wA.heap.size; omega)) 0).trans d0
  have q1 : w1.cell? ⟨w.heap.size, 1, none⟩ = some (.int .i64 (x2 : Int)) := (cell_of_heap (hb1.block w.heap.size (by show w.heap.size < wA.heap.size; omega)) 1).trans d1
  have T1 := Lib.hid (Two.below H2.out HB1.out hbs)
  have p0 := T1.out.c0
  rw [HV.out] at p0
  have O1 := Lib.hid (own_keep HO.out fun g hg => HB1.out.block g (own_blk HO.out hg).2.1)
  clear d0 d1 b0 hb1
  have hal := alloc_below w1.drew (.cells #[.int .i64 x1, .int .i64 (x2 : Int)] 94)
  obtain ⟨v3, W3, hap, ho3, hg3, hat⟩ := append_own tyC (own_keep (W' := w1.drew.alloc (.cells #[.int .i64 x1, .int .i64 (x2 : Int)] 94)) O1.out fun g hg => hal.block g (own_blk O1.out hg).2.1) (lst_one w1.drew (x1, x2)) rfl 1 (by rw [HM.out]; show m + 1 ≤ 1000000; omega) (Nat.le_trans hbase (Nat.le_trans HB1.out.size hal.size))
  rw [HV.out] at hap
  have HA := Lib.hid hap
  have hne := two_ne T1.out O1.out
  have T3 := Lib.hid (Two.grown (Two.below (T1.out.same (w' := w1.drew) rfl) hal T1.out.lt) hg3 hne)
  obtain ⟨A3, c3, rfl, _, _, _, _⟩ := own_lst ho3
  have p3 := T3.out.c0
  rw [HV.out] at p3
  have f3 := T3.out.frozen off
  have pA : (w1.alloc (.cells #[.int .i64 x1, .int .i64 (x2 : Int)] 94)).drew.cell? ⟨b, off, none⟩ = some (.slice A m c) := (cell_of_heap (hal.block b T1.out.lt) off).trans p0
  have HO3 := Lib.hid ho3
  have HG3 := Lib.hid hg3
  have HAT := Lib.hid hat
  have hfin : Granted w b off zn vH vL base (H ++ [(x1, x2)]) (W3.setCell ⟨b, off, none⟩ (.slice A3 (H ++ [(x1, x2)]).length c3)) := by
    refine ⟨_, Two.set0 T3.out _, own_keep ho3 fun g hg => ?_, ?_, ?_⟩
    · have hgb : g ≠ b := fun e => by subst e; exact two_ne T3.out ho3 hg
      exact Below.heap_setCell W3 ⟨b, off, none⟩ _ g hgb
    · rcases hat with h | h
      · exact .inl h
      · exact .inr ⟨_, h, Nat.le_trans HB1.out.size hal.size⟩
    · refine Keep.setCell (Keep.grown (Keep.of_below (below_drew_on HB1.out hal HB1.out.size)) hg3 ?_) ?_ _
      · intro g o e _ h
        exact h.2 e
      · intro o _ h
        exact h.1 rfl
  have HFIN := Lib.hid hfin
  generalize (H ++ [(x1, x2)]).length = m3 at *
  clear ho3 hg3 hat hap hal hne hfin
  go_wp2_with fail
  go_region_law (refine step_append_at rfl (.tmp 25) (.tmp 27) 62 62 rfl _ _ rfl rfl HA.out ?_)
  all_goals (go_end0; exact ⟨rfl, HFIN.out⟩)
theorem own_set {α : Type} {E : Enc α} {T : TypeId} {W : World} {base g n c : Nat} {ys : List α} (h : Own W base E T (.slice (some ⟨g, 0, none⟩) n c) ys) {q : Nat} (hq : q < ys.length) (x : α) :
    Own (W.setCells g (q * E.k) (E.enc x)) base E T (.slice (some ⟨g, 0, none⟩) n c) (ys.set q x) := by
  rcases h.2 with ⟨e, _⟩ | ⟨g', cap, cur, e, hb, hh, hnc, hcm, hcs, htk⟩
  · cases e
  · injection e with e1 e2 e3
    injection e1 with e1
    injection e1 with e1 _ _
    subst e1 e2 e3
    have hy : ys = ys.take q ++ ys[q] :: ys.drop (q + 1) := by rw [← List.drop_eq_getElem_cons hq, List.take_append_drop]
    have hs : ys.set q x = ys.take q ++ x :: ys.drop (q + 1) := by
      rw [List.set_eq_take_append_cons_drop, if_pos hq]
    have hcur : cur.toList = cellsE E (ys.take q) ++ E.enc ys[q] ++ (cellsE E (ys.drop (q + 1)) ++ cur.toList.drop (ys.length * E.k)) := by
      have hce : cellsE E ys = cellsE E (ys.take q) ++ (E.enc ys[q] ++ cellsE E (ys.drop (q + 1))) := by
        conv => lhs; rw [hy, cellsE_append, cellsE]
      conv => lhs; rw [← List.take_append_drop (ys.length * E.k) cur.toList, htk, hce]
      simp only [List.append_assoc]
    have hpl : (cellsE E (ys.take q)).length = q * E.k := by rw [cellsE_length, List.length_take, Nat.min_eq_left (by omega)]
    have hb0 : Blk W g T (cellsE E (ys.take q) ++ E.enc ys[q] ++ (cellsE E (ys.drop (q + 1)) ++ cur.toList.drop (ys.length * E.k))).toArray := by
      rw [← hcur]; exact hh
    have hb1 := blk_setCells (E.enc x) _ _ _ W (by rw [E.len, E.len]) hb0
    rw [hpl] at hb1
    refine ⟨by rw [cellsE_length], .inr ⟨g, c, _, by rw [List.length_set], hb, hb1, by rw [List.length_set]; exact hnc, hcm, ?_, ?_⟩⟩
    · have := congrArg List.length hcur
      simp only [Array.length_toList, List.length_append, E.len] at this
      simp only [List.size_toArray, List.length_append, E.len]
      omega
    · rw [hs]
      have hl : (ys.take q ++ x :: ys.drop (q + 1)).length * E.k = (cellsE E (ys.take q) ++ E.enc x ++ cellsE E (ys.drop (q + 1))).length := by
        rw [← cellsE_length E, cellsE_append, cellsE, List.append_assoc]
      rw [hl, List.toList_toArray, ← List.append_assoc, List.take_left']
      · rw [cellsE_append, cellsE, List.append_assoc]
      · rfl
set_option maxHeartbeats 2000000 in
theorem grant_old {w : World} {b base off : Nat} {zn : Zn} {vH vL : Value} {H : List Cl} (h2 : Two w b off zn vH vL) (ho : Own w base eC 94 vH H) (hn : H.length ≤ 100000) (x : Cl) (hx : H.findIdx (isW x.1) < H.length) :
    Calls Tryz.prog 54 #[.pointer (some ⟨b, off, none⟩), valC x] w fun e w' => e = .returned (.tuple #[]) ∧ Granted w b off zn vH vL base (H.set (H.findIdx (isW x.1)) x) w' := by
  have hbl := alloc_below w (.cells #[.int .i64 x.1, .int .i64 (x.2 : Int)] 94)
  obtain ⟨A, c, hv, hlst, hmc, hcm, _⟩ := own_lst ho
  have hp := fun W hb => place_ (w := W) (c := c) ((hlst.below hbl).below hb) rfl (by omega) x.1
  have e0 : idxI (isW x.1) H = (H.findIdx (isW x.1) : Int) := by unfold idxI; rw [if_pos hx]
  rw [e0] at hp
  obtain ⟨g, o, rfl, ⟨_, hgo⟩, hgl, hcell⟩ := hlst (by omega)
  obtain rfl : o = 0 := by
    rcases ho.2 with ⟨e, _⟩ | ⟨_, _, _, e, _⟩
    · rw [e] at hv; cases hv
    · rw [e] at hv; injection hv with h1; injection h1 with h1; injection h1 with _ h1 _; exact h1.symm
  generalize hq : H.findIdx (isW x.1) = q at *
  have hbs : b < w.heap.size := Two.lt h2
  have b0 := (Two.below h2 hbl hbs).c0
  rw [hv] at b0
  have hos := fun W (hb : Below w.heap.size w W) => own_set (W := W) (hv ▸ own_keep ho fun g hg => hb.block g (own_blk ho hg).2.1) hx x
  have HP := Lib.hid hp
  have H2 := Lib.hid h2
  have HO := Lib.hid ho
  have HS := Lib.hid hos
  have HV := Lib.hid hv
  have HB := Lib.hid hbl
  have HC := Lib.hid hcell
  have HG := Lib.hid hgo
  have HX := Lib.hid hx
  have hwA : (w.alloc (.cells #[.int .i64 x.1, .int .i64 (x.2 : Int)] 94)).heap.size = w.heap.size + 1 := by simp
  have d0 : (w.alloc (.cells #[.int .i64 x.1, .int .i64 (x.2 : Int)] 94)).cell? ⟨w.heap.size, 0, none⟩ = some (.int .i64 x.1) := (Blk.new w _ _).cell 0
  have d1 : (w.alloc (.cells #[.int .i64 x.1, .int .i64 (x.2 : Int)] 94)).cell? ⟨w.heap.size, 1, none⟩ = some (.int .i64 (x.2 : Int)) := (Blk.new w _ _).cell 1
  obtain ⟨x1, x2⟩ := x
  unfold valC
  simp only at *
  clear hp h2 ho hv hlst hbl e0 hcell hq hgo hos hx
  generalize hm : H.length = m at *
  have hqm : q < m := HX.out
  have HM := Lib.hid hm
  clear hm
  go_enter Tryz.func54, Tryz.ntmps54
  go_wp2_with fail
  generalize w.alloc (.cells #[.int .i64 x1, .int .i64 (x2 : Int)] 94) = wA at *
  refine wp_region_still_tail 6 (by kernel_rfl) (by kernel_rfl) ?_
  simp only [List.take_succ_cons, List.take_zero, List.drop_succ_cons, List.drop_zero]
  repeat still_step
  refine wpStill_nil ?_
  go_wp2_with fail
  refine (HP.out _ (Below.refl _ _).drew).mono ?_
  rintro e w1 ⟨rfl, hb1⟩
  have HB1 := Lib.hid (below_drew_on HB.out hb1 HB.out.size)
  have q0 : w1.cell? ⟨w.heap.size, 0, none⟩ = some (.int .i64 x1) := (cell_of_heap (hb1.block w.heap.size (by show w.heap.size < wA.heap.size; omega)) 0).trans d0
  have q1 : w1.cell? ⟨w.heap.size, 1, none⟩ = some (.int .i64 (x2 : Int)) := (cell_of_heap (hb1.block w.heap.size (by show w.heap.size < wA.heap.size; omega)) 1).trans d1
  have T1 := Lib.hid (Two.below H2.out HB1.out hbs)
  have p0 := T1.out.c0
  rw [HV.out] at p0
  obtain ⟨_, _, cur, hcur⟩ := own_blk HO.out HG.out
  have hcur1 : Blk w1 g 94 cur := (HB1.out.block g hgl).trans hcur
  have hxl : q < H.length := by rw [HM.out]; exact hqm
  have cx : ∀ i v, (eC.enc H[q])[i]? = some v → w1.cell? ⟨g, 0 + (q * 2 + i), none⟩ = some v := fun i v hi => by
    exact (cell_of_heap (HB1.out.block g hgl) _).trans (HC.out _ _ (cellsE_at eC hxl hi))
  have cx0 := cx 0 _ rfl
  have cx1 := cx 1 _ rfl
  simp only [Nat.zero_add, Nat.add_zero] at cx0 cx1
  have fx0 := hcur1.frozen (q * 2)
  have fx1 := hcur1.frozen (q * 2 + 1)
  have S1 := Lib.hid (HS.out w1 HB1.out)
  have hgb : g ≠ b := fun e => by subst e; exact two_ne H2.out HO.out HG.out
  have hfin : Granted w b off zn vH vL base (H.set q (x1, x2)) ((w1.setCell ⟨g, q * 2, none⟩ (.int .i64 x1)).setCell ⟨g, q * 2 + 1, none⟩ (.int .i64 (x2 : Int))).drew := by
    refine ⟨vH, (T1.out.same ((Below.heap_setCell _ ⟨g, q * 2 + 1, none⟩ _ b (fun e => hgb e.symm)).trans (Below.heap_setCell _ ⟨g, q * 2, none⟩ _ b (fun e => hgb e.symm)))), by rw [HV.out]; exact S1.out, .inl rfl, ?_⟩
    refine Keep.drew (Keep.setCell (Keep.setCell (Keep.of_below HB1.out) ?_ _) ?_ _)
    · intro o _ h
      exact h.2 HG.out
    · intro o _ h
      exact h.2 HG.out
  have HFIN := Lib.hid hfin
  clear d0 d1 b0 hb1 cx hcur hcur1 hfin
  generalize H[q].1 = y1 at *
  generalize H[q].2 = y2 at *
  clear hxl
  go_wp2_with fail
  go_region
  go_wp2_with fail
  refine bodyPost_ret (results_none rfl _ _ _) rfl ?_
  exact ⟨rfl, HFIN.out⟩
theorem grant_ {w : World} {b base off : Nat} {zn : Zn} {vH vL : Value} {H : List Cl} (h2 : Two w b off zn vH vL) (ho : Own w base eC 94 vH H) (hbase : base ≤ w.heap.size) (hn : H.length ≤ 100000) (x : Cl) :
    Calls Tryz.prog 54 #[.pointer (some ⟨b, off, none⟩), valC x] w fun e w' => e = .returned (.tuple #[]) ∧ Granted w b off zn vH vL base (grantP H x) w' := by
  unfold grantP
  rcases idx_cases (isW x.1) H with ⟨_, h⟩ | ⟨hlt, _, h, _⟩
  · have h : hasP H x.1 = false := h
    rw [h]
    exact grant_new h2 ho hbase hn x h
  · have h : hasP H x.1 = true := h
    rw [h]
    exact grant_old h2 ho hn x hlt
end Go.Proofs.YtnjhhndggfjjdaaGreatDoor
namespace Go.Proofs.YtnjhhndggfjjdaaGreatDoor
open Go.RowKit
set_option maxHeartbeats 400000 in
theorem clone_ {w : World} {K : Nat → Prop} {A : Option Addr} {n c : Nat} {l : List Cl} (h : Lst w K eC A l) (hl : l.length = n) (hn : n ≤ 100000) (hA : A = none → c = 0) :
    Calls Tryz.prog 76 #[.slice A n c] w fun e w' => ∃ v, e = .returned v ∧ Own w' w.heap.size eC 94 v l ∧ Below w.heap.size w w' := by
  rcases A with _ | a
  · have hc := hA rfl
    have hx : l = [] := h.none_
    subst hx
    simp only [List.length_nil] at hl
    subst hc hl
    clear h hA
    have hnil := fun (W : World) => Lib.run_eql_slice_nil (P := Tryz.prog) W 62 94 none 0 0 0 0 Tryz.underlying62
    simp only [Option.isNone_none] at hnil
    go_enter Tryz.func76, Tryz.ntmps76
    go_wp2
    go_ret
    exact ⟨_, rfl, own_nil _ _, Below.refl _ _⟩
  · have hnil := fun (W : World) => Lib.run_eql_slice_nil (P := Tryz.prog) W 62 94 (some a) n c 0 0 Tryz.underlying62
    simp only [Option.isNone_some] at hnil
    obtain ⟨v', W', hap, ho, hg, hat⟩ := append_own tyC (own_empty w w.heap.size (Nat.le_refl _)) (h.below (alloc_below w (.cells #[] 94))) hl c (by show 0 + n ≤ _; omega) (by simp)
    rw [List.nil_append] at ho
    have hbel : Below w.heap.size w W' := ((Below.refl _ _).alloc (Nat.le_refl _) _).grown hg (by simp) (by intro k hk; simp [Value.ownBlock] at hk; omega)
    have HBE := Lib.hid hbel
    have HO := Lib.hid ho
    clear ho hg hat hbel h hA hl
    go_enter Tryz.func76, Tryz.ntmps76
    go_wp2_with (at_builtin; refine wpList_append_run rfl (.tmp 5) (.tmp 6) 62 62 rfl _ _ rfl rfl hap ?_)
    go_ret
    exact ⟨_, rfl, HO.out, HBE.out⟩
/-- a list that lies somewhere, in a block of claims, as a slice -/
def IsC (w : World) (i : Nat) : Prop := ∃ cur, w.heap[i]? = some (.cells cur 94 (0, 0))
def At (w : World) (v : Value) (l : List Cl) : Prop := ∃ A c, v = .slice A l.length c ∧ Lst w (IsC w) eC A l ∧ l.length ≤ c ∧ c ≤ maxLen ∧ (A = none → c = 0)
theorem At.kept {w w' : World} {v : Value} {l : List Cl} {Q : Nat → Obj → Prop} (h : At w v l) (k : Keep Q w w') (hq : ∀ i cur, w.heap[i]? = some (.cells cur 94 (0, 0)) → Q i (.cells cur 94 (0, 0))) : At w' v l := by
  obtain ⟨A, c, e, hl, hr⟩ := h
  refine ⟨A, c, e, fun h0 => ?_, hr⟩
  obtain ⟨g, o, e, ⟨cur, hk⟩, hg, hc⟩ := hl h0
  have hk' := k.block g _ hk (hq g cur hk)
  exact ⟨g, o, e, ⟨cur, hk'⟩, lt_of_some hk', fun j u hu => (cell_of_heap (hk'.trans hk.symm) _).trans (hc j u hu)⟩
theorem At.below {w w' : World} {v : Value} {l : List Cl} (h : At w v l) (k : Below w.heap.size w w') : At w' v l := h.kept (Keep.of_below (K := fun _ _ => True) k) fun _ _ _ => trivial
theorem At.own {w : World} {base : Nat} {v : Value} {l : List Cl} (h : Own w base eC 94 v l) : At w v l := by
  obtain ⟨A, c, e, hl, hr⟩ := own_lst h
  exact ⟨A, c, e, hl.more fun i _ hi => (own_blk h hi.2).2.2, hr⟩
theorem isC_ne {w : World} {b i off : Nat} {zn : Zn} {vH vL : Value} (h : Two w b off zn vH vL) (hc : IsC w i) : i ≠ b := fun e => by
  subst e
  obtain ⟨cur, hc⟩ := hc
  have := h.blk.symm.trans hc
  injection this with this
  injection this with _ this
  exact h.ty.1 this
/-- what an exported call of a lock at block b leaves alone: every other block that was there -/
theorem At.keep {w w' : World} {b off : Nat} {zn : Zn} {v vH vL : Value} {l : List Cl} (h : At w v l) (h2 : Two w b off zn vH vL) (k : Keep (fun i _ => i ≠ b) w w') : At w' v l := h.kept k fun _ cur hc => isC_ne h2 ⟨cur, hc⟩
set_option maxHeartbeats 1000000 in
theorem own_lists {w : World} {b off : Nat} {zn : Zn} {vH vL : Value} {H L : List Cl} (h2 : Two w b off zn vH vL) (hH : At w vH H) (hL : At w vL L) (hn : H.length ≤ 100000) (hm : L.length ≤ 100000) :
    Calls Tryz.prog 51 #[.pointer (some ⟨b, off, none⟩)] w fun e w' => e = .returned (.tuple #[]) ∧ ∃ vH' vL', Two w' b off zn vH' vL' ∧ Own w' w.heap.size eC 94 vH' H ∧ Own w' w.heap.size eC 94 vL' L ∧
      (∀ g, vH'.ownBlock = some g → vL'.ownBlock ≠ some g) ∧ Keep (fun i _ => i ≠ b) w w' := by
  have hL0 := hL
  have h20 := h2
  obtain ⟨A1, c1, rfl, l1, _, _, n1⟩ := hH
  obtain ⟨A2, c2, rfl, l2, _, _, n2⟩ := hL
  have b0 := h2.c0
  have hbs := h2.lt
  have hp1 := clone_ (c := c1) l1 rfl hn n1
  have HP1 := Lib.hid hp1
  have H2 := Lib.hid h20
  have HL := Lib.hid hL0
  clear hp1 h2 h20 hL0 l1 l2
  generalize hnn : H.length = n at *
  generalize hmm : L.length = m at *
  go_enter Tryz.func51, Tryz.ntmps51
  go_wp2_with fail
  refine HP1.out.mono ?_
  rintro e w1 ⟨v1, rfl, ho1, hb1⟩
  have T1 := Lib.hid (H2.out.below hb1 hbs)
  have p0 := T1.out.c0
  have p1 := T1.out.c1
  have f0 := T1.out.frozen off
  obtain ⟨A3, c3, rfl, _, _, _, _⟩ := own_lst ho1
  rw [hnn] at *
  obtain ⟨W2, hW2⟩ : ∃ W2, W2 = w1.setCell ⟨b, off, none⟩ (.slice A3 n c3) := ⟨_, rfl⟩
  have hk2 : Keep (fun i _ => i ≠ b) w W2 := by rw [hW2]; exact (Keep.of_below hb1).setCell (fun _ _ h => h rfl) _
  have t2 : Two W2 b off zn (.slice A3 n c3) (.slice A2 m c2) := by rw [hW2]; exact Two.set0 T1.out _
  have ho2 : Own W2 w.heap.size eC 94 (.slice A3 n c3) H := own_keep ho1 fun g hg => by
    have hgb : g ≠ b := fun e => by subst e; exact two_ne T1.out ho1 hg
    rw [hW2]; exact Below.heap_setCell w1 ⟨b, off, none⟩ _ g hgb
  obtain ⟨A4, c4, e4, l4, _, _, n4⟩ := HL.out.keep H2.out hk2
  rw [hmm] at e4
  injection e4 with e41 e42 e43
  subst e41 e43
  have hp2 := clone_ (c := c2) l4 hmm hm n4
  have HP2 := Lib.hid hp2
  have T2 := Lib.hid t2
  have K2 := Lib.hid hk2
  have HO2 := Lib.hid ho2
  clear ho1 hb1 b0 hk2 t2 ho2 l4 hp2
  go_wp2_with fail
  rw [← hW2]
  refine HP2.out.mono ?_
  rintro e w3 ⟨v3, rfl, ho3, hb3⟩
  have T3 := Lib.hid (T2.out.below hb3 T2.out.lt)
  have p4 := T3.out.c1
  have f4 := T3.out.frozen (off + 1)
  obtain ⟨A5, c5, rfl, _, _, _, _⟩ := own_lst ho3
  rw [hmm] at *
  have hO3 : Own w3 w.heap.size eC 94 (.slice A3 n c3) H := own_keep HO2.out fun g hg => hb3.block g (own_blk HO2.out hg).2.1
  have hfin : ∃ vH' vL', Two (w3.setCell ⟨b, off + 1, none⟩ (.slice A5 m c5)) b off zn vH' vL' ∧ Own (w3.setCell ⟨b, off + 1, none⟩ (.slice A5 m c5)) w.heap.size eC 94 vH' H ∧ Own (w3.setCell ⟨b, off + 1, none⟩ (.slice A5 m c5)) w.heap.size eC 94 vL' L ∧
      (∀ g, vH'.ownBlock = some g → vL'.ownBlock ≠ some g) ∧ Keep (fun i _ => i ≠ b) w (w3.setCell ⟨b, off + 1, none⟩ (.slice A5 m c5)) := by
    refine ⟨_, _, Two.set1 T3.out _, own_keep hO3 fun g hg => ?_, own_base (own_keep ho3 fun g hg => ?_) K2.out.size, fun g hg hg' => ?_, ?_⟩
    · have hgb : g ≠ b := fun e => by subst e; exact two_ne T3.out hO3 hg
      exact Below.heap_setCell w3 ⟨b, off + 1, none⟩ _ g hgb
    · have hgb : g ≠ b := fun e => by subst e; exact two_ne T3.out ho3 hg
      exact Below.heap_setCell w3 ⟨b, off + 1, none⟩ _ g hgb
    · have h1 := (own_blk HO2.out hg).2.1
      have h2 := (own_blk ho3 hg').1
      omega
    · exact (K2.out.trans (Keep.of_below hb3)).setCell (fun _ _ h => h rfl) _
  have HFIN := Lib.hid hfin
  clear hfin hO3 ho3 hb3
  go_wp2_with fail
  go_end0
  exact ⟨rfl, HFIN.out⟩
end Go.Proofs.YtnjhhndggfjjdaaGreatDoor
