/- The document's table: Mode, Waiting. The document's table: Count. The document's table: a lock more. The document's table: one of its locks asked. -/
import Derived.Test.YtnjhhndggfjjdaaGreatDoorJ14
import Derived.Test.YtnjhhndggfjjdaaGreatDoorJ16
import Derived.Test.YtnjhhndggfjjdaaGreatDoorJ12
set_option maxRecDepth 4000
namespace Go.Proofs.YtnjhhndggfjjdaaGreatDoor
open Go.RowKit
section
variable {w wr : World} {base b m c : Nat} {A : Option Addr} {v : Value} {rs : List Rw}
theorem TB0.see (h : TB0 base b v rs w) : ∃ A c, v = .slice A rs.length c ∧ rs.length ≤ c ∧ c ≤ maxLen := by
  obtain ⟨A, c, e, _, hc, hm, _⟩ := own_lst h.own
  rw [List.length_map] at e hc
  exact ⟨A, c, e, hc, hm⟩
theorem TB0.row (h : TB0 base b (.slice A m c) rs w) (k : Below w.heap.size w wr) {j : Nat} (hj : j < rs.length) : ∃ g o, A = some ⟨g, o, none⟩ ∧ wr.cell? ⟨g, o + j * 4, none⟩ = some (.int .i64 rs[j].n.1) ∧ wr.cell? ⟨g, o + j * 4 + 1, none⟩ = some (.string rs[j].n.2.1) ∧ wr.cell? ⟨g, o + j * 4 + 2, none⟩ = some (.string rs[j].n.2.2) ∧ wr.cell? ⟨g, o + j * 4 + 3, none⟩ = some (.pointer (some ⟨rs[j].q, 0, none⟩)) := by
  obtain ⟨A', c', e, hl, _⟩ := own_lst (h.below k).own
  injection e with e1 e2 e3
  subst e1
  obtain ⟨g, o, rfl, _, d0, d1, d2, d3⟩ := hl.atN (j := j) (by rw [List.length_map]; exact hj)
  rw [List.getElem_map] at d0 d1 d2 d3
  exact ⟨g, o, rfl, d0, d1, d2, d3⟩
/-- a lock's two rows -/
theorem Rw.Ok.rows {r : Rw} (h : r.Ok w base) : ∃ AH cH AL cL, RTwo w r.q (.slice AH r.l.1.length cH) (.slice AL r.l.2.length cL) ∧ Lst w (fun _ => True) eH AH (r.l.1.map hdA) ∧ Lst w (fun _ => True) eH AL (r.l.2.map lnA) := by
  obtain ⟨AH, cH, eh, hH, _⟩ := own_lst h.2.oH
  obtain ⟨AL, cL, el, hL, _⟩ := own_lst h.2.oL
  rw [List.length_map] at eh el
  have h2 := h.2.two
  rw [eh, el] at h2
  exact ⟨AH, cH, AL, cL, h2, fun h0 => by obtain ⟨g, o, e, _, r⟩ := hH h0; exact ⟨g, o, e, trivial, r⟩, fun h0 => by obtain ⟨g, o, e, _, r⟩ := hL h0; exact ⟨g, o, e, trivial, r⟩⟩
end
def nmLock (rs : List Rw) (n : Nm) : Lk := ((rs.find? (isNm n)).map (·.l)).getD ([], [])
theorem lock_miss {rs : List Rw} {n : Nm} (h : ∀ j (hj : j < rs.length), isNm n rs[j] = false) : nmLock rs n = ([], []) := by
  unfold nmLock
  rw [List.find?_eq_none.2 fun x hx => by
    obtain ⟨j, hj, rfl⟩ := List.getElem_of_mem hx
    rw [h j hj]; simp]
  rfl
theorem find_idx {α : Type} {p : α → Bool} {l : List α} (h : l.findIdx p < l.length) : l.find? p = some l[l.findIdx p] :=
  List.find?_eq_some_iff_getElem.2 ⟨List.findIdx_getElem, _, h, rfl, fun j hj => by have := List.not_of_lt_findIdx hj; simpa using this⟩
theorem lock_hit {rs : List Rw} {n : Nm} (h : rs.findIdx (isNm n) < rs.length) : nmLock rs n = (rs[rs.findIdx (isNm n)]).l := by
  unfold nmLock
  rw [find_idx h]
  rfl
theorem mode_hit {H : List Cl} {who : Int} (h : H.findIdx (isW who) < H.length) : modeP H who = (H[H.findIdx (isW who)]).2 := by
  unfold modeP
  rw [find_idx h]
  rfl
set_option maxHeartbeats 2000000 in
theorem rtmode_ {w : World} {base b : Nat} {v : Value} {rs : List Rw} (h : TB0 base b v rs w) (hn : rs.length ≤ 1000) (hs : ∀ r ∈ rs, r.l.1.length ≤ 10000) (who : Int) (n : Nm) :
    Calls Tryz.prog 15 #[.pointer (some ⟨b, 0, none⟩), .int .i64 who, valN n] w fun e w' => e = .returned (.int .i64 (modeP (nmLock rs (plainN n)).1 who : Int)) ∧ Below w.heap.size w w' := by
  have hpl := rplain_ n
  have hal := alloc_below w (.cells #[.int .i64 n.1, .string n.2.1, .string n.2.2] 31)
  have hB := Blk.new w 31 #[.int .i64 n.1, .string n.2.1, .string n.2.2]
  have h2 := h.below hal
  obtain ⟨A, c, rfl, hc, hcm⟩ := h2.see
  unfold maxLen at hcm
  have hat := fun W (k : Below (w.alloc (.cells #[.int .i64 n.1, .string n.2.1, .string n.2.2] 31)).heap.size (w.alloc (.cells #[.int .i64 n.1, .string n.2.1, .string n.2.2] 31)) W) => rat_ (h2.below k) hn (plainN n)
  have p0 := h2.blk.cell 0
  have n0 := hB.cell 0
  have n1 := hB.cell 1
  have n2 := hB.cell 2
  unfold valN at *
  generalize plainN n = pn at *
  obtain ⟨z, hz⟩ : ∃ z, modeP (nmLock rs pn).1 who = z := ⟨_, rfl⟩
  rw [hz]
  have HN := Lib.hid hs
  have H2 := Lib.hid h2
  have HAL := Lib.hid hal
  clear h hs h2 hal hB
  have HAT := Lib.hid hat
  clear hat
  obtain ⟨ln, hln⟩ : ∃ ln, rs.length = ln := ⟨_, rfl⟩
  rw [hln] at hn hc p0 H2
  have HLN := Lib.hid hln
  have hbs := H2.out.blk.lt
  clear hln
  go_enter Tryz.func15, Tryz.ntmps15
  go_wp2_with fail
  generalize w.alloc (.cells #[.int .i64 n.1, .string n.2.1, .string n.2.2] 31) = wA at *
  refine (hpl _).mono ?_
  rintro e w1 ⟨rfl, hb1⟩
  have HB1 := Lib.hid hb1
  clear hb1
  go_wp2_with fail
  refine (HAT.out _ HB1.out).mono ?_
  rintro e w2 ⟨rfl, hb2⟩
  have HB2 := Lib.hid (HB1.out.trans (hb2.mono HB1.out.size))
  clear hb2
  have q0 := (cell_of_heap (HB2.out.block b hbs) _).trans p0
  rcases idx_cases (isNm pn) rs with ⟨hi, ha⟩ | ⟨hlt, hi, _, _⟩
  · have hm : nmLock rs pn = ([], []) := lock_miss fun j hj => by simpa using List.any_eq_false.1 ha _ (List.getElem_mem hj)
    rw [hi]
    rw [hm] at hz
    obtain rfl : z = 0 := hz.symm
    have HAL2 := Lib.hid (HAL.out.trans (HB2.out.mono HAL.out.size))
    clear ha hm HAT
    go_wp2_with fail
    go_ret
    exact ⟨rfl, HAL2.out⟩
  · rw [hi]
    rw [lock_hit hlt] at hz
    obtain ⟨g, o, rfl, _, _, _, d3⟩ := H2.out.row HB2.out hlt
    have hok := (H2.out.lk _ (List.getElem_mem hlt)).below HB2.out
    have hsz := HN.out _ (List.getElem_mem hlt)
    generalize hj : rs.findIdx (isNm pn) = j at *
    have hjl : j < ln := by rw [← HLN.out]; exact hlt
    generalize rs[j] = x at *
    obtain ⟨AH, cH, AL, cL, h2r, hH, hL⟩ := hok.rows
    have r0 := h2r.c0
    have hfi := fun W (k : Below w2.heap.size w2 W) => rfind_ (c := cH) (hH.below k) (List.length_map _) (Nat.le_trans hsz (by omega)) who
    rw [idx_hd] at hfi
    have HFI := Lib.hid hfi
    clear hfi
    have HAL2 := Lib.hid (HAL.out.trans (HB2.out.mono HAL.out.size))
    clear HAT
    have h10 : ¬ ((j : Int) < 0) := by omega
    rcases idx_cases (isW who) x.l.1 with ⟨hi2, ha2⟩ | ⟨hlt2, hi2, _, _⟩
    · rw [mode_of_miss ha2] at hz
      subst hz
      rw [hi2] at HFI
      clear ha2
      go_wp2_with fail
      refine (HFI.out _ (Below.refl _ _)).mono ?_
      rintro e w3 ⟨rfl, hb3⟩
      have HAL3 := Lib.hid (HAL2.out.trans (hb3.mono HAL2.out.size))
      clear hb3
      go_wp2_with fail
      go_ret
      exact ⟨rfl, HAL3.out⟩
    · rw [mode_hit hlt2] at hz
      rw [hi2] at HFI
      generalize hjk : x.l.1.findIdx (isW who) = k2 at *
      have h11 : ¬ ((k2 : Int) < 0) := by omega
      go_wp2_with fail
      refine (HFI.out _ (Below.refl _ _)).mono ?_
      rintro e w3 ⟨rfl, hb3⟩
      have HAL3 := Lib.hid (HAL2.out.trans (hb3.mono HAL2.out.size))
      obtain ⟨gH, oH, rfl, _, _, m1, _⟩ := (hH.below hb3).atH (j := k2) (by rw [List.length_map]; exact hlt2)
      rw [List.getElem_map] at m1
      have hm1 : ((hdA x.l.1[k2]).2.1 : Int) = z := by rw [← hz]; rfl
      rw [hm1] at m1
      have q1 := (cell_of_heap (hb3.block b (Nat.lt_of_lt_of_le hbs HB2.out.size)) _).trans q0
      have e3 := (cell_of_heap (hb3.block g (block_of_cell d3)) _).trans d3
      have r1 := (cell_of_heap (hb3.block x.q (block_of_cell r0)) _).trans r0
      clear hb3
      go_wp2_with fail
      go_ret
      exact ⟨rfl, HAL3.out⟩
def nmWait (rs : List Rw) (who : Int) : Option Nm := (rs.find? fun r => hasP r.l.2 who).map (·.n)
theorem nmWait_none {rs : List Rw} {who : Int} (h : ∀ q (hq : q < rs.length), hasP rs[q].l.2 who = false) : nmWait rs who = none := by
  unfold nmWait
  rw [List.find?_eq_none.2 fun x hx => by
    obtain ⟨j, hj, rfl⟩ := List.getElem_of_mem hx
    rw [h j hj]; simp]
  rfl
theorem nmWait_hit {rs : List Rw} {who : Int} {j : Nat} (hj : j < rs.length) (h : ∀ q (_ : q < j) (hq : q < rs.length), hasP rs[q].l.2 who = false) (h1 : hasP rs[j].l.2 who = true) : nmWait rs who = some rs[j].n := by
  unfold nmWait
  have : rs.find? (fun r => hasP r.l.2 who) = some rs[j] := List.find?_eq_some_iff_getElem.2 ⟨h1, j, hj, rfl, fun q hq => by rw [h q hq (by omega)]; rfl⟩
  rw [this]
  rfl
theorem idx_has (H : List Cl) (who : Int) : (hasP H who = false ∧ idxI (isW who) H = -1) ∨ (hasP H who = true ∧ ∃ k : Nat, idxI (isW who) H = (k : Int)) := by
  rcases idx_cases (isW who) H with ⟨h1, h2⟩ | ⟨_, h1, h2, _⟩
  · exact .inl ⟨h2, h1⟩
  · exact .inr ⟨h2, _, h1⟩
set_option maxHeartbeats 4000000 in
theorem rtwaiting_ {w : World} {base b : Nat} {v : Value} {rs : List Rw} (h : TB0 base b v rs w) (hn : rs.length ≤ 1000) (hs : ∀ r ∈ rs, r.l.2.length ≤ 10000) (who : Int) :
    Calls Tryz.prog 13 #[.pointer (some ⟨b, 0, none⟩), .int .i64 who] w fun e w' => e = .returned (.tuple #[valN ((nmWait rs who).getD (0, noB, noB)), .bool (nmWait rs who).isSome]) ∧ Below w.heap.size w w' := by
  have hal := alloc_below w (.cells #[.int .i64 0, .string noB, .string noB] 31)
  have hB := Blk.new w 31 #[.int .i64 0, .string noB, .string noB]
  have h2 := h.below hal
  obtain ⟨A, c, rfl, hc, hcm⟩ := h2.see
  unfold maxLen at hcm
  have p0 := h2.blk.cell 0
  obtain ⟨m, hm⟩ : ∃ m, rs.length = m := ⟨_, rfl⟩
  rw [hm] at hn hc p0 h2
  have hbs := h2.blk.lt
  have H2 := Lib.hid h2
  have HB := Lib.hid hB
  have HAL := Lib.hid hal
  have HM := Lib.hid hm
  have HS := Lib.hid hs
  clear h h2 hB hal hm hs
  have hP := Lib.hid p0
  clear p0
  unfold noB at *
  go_enter Tryz.func13, Tryz.ntmps13
  go_wp2_with fail
  generalize w.alloc (.cells #[.int .i64 0, .string ⟨#[]⟩, .string ⟨#[]⟩] 31) = wA at *
  go_loopg [6] m (fun k i wr => AtR wA rs (fun r => hasP r.l.2 who) k i wr)
  case atStart => exact ⟨0, by rw [HM.out]; omega, rfl, fun q hq => absurd hq (Nat.not_lt_zero q), Below.refl _ _⟩
  case round =>
    obtain ⟨j, hj, rfl, h1, hb⟩ := hrel
    have HJ := Lib.hid hj
    have H1 := Lib.hid h1
    have HBR := Lib.hid hb
    have HRR := Lib.hid (HB.out.below hb HB.out.lt)
    have HTOT := Lib.hid (HAL.out.trans (hb.mono HAL.out.size))
    have p0 := (cell_of_heap (hb.block b hbs) _).trans hP.out
    clear hj h1 hb
    have hend3 : ∀ (W : World) (u v x : Value), Below wr.heap.size wr W → Below w.heap.size w (((W.setCell ⟨w.heap.size, 0, none⟩ u).setCell ⟨w.heap.size, 1, none⟩ v).setCell ⟨w.heap.size, 2, none⟩ x) := fun W u v x hW => by
      refine Keep.below (K := fun i _ => i < w.heap.size) (((Keep.setCell (Keep.setCell (Keep.setCell (Keep.of_below (HTOT.out.trans (hW.mono HTOT.out.size))) ?_ _) ?_ _) ?_ _))) (Nat.le_refl _) (fun _ _ h => h)
      all_goals (intro _ _ h; exact absurd h (Nat.lt_irrefl _))
    have HEND3 := Lib.hid hend3
    clear hend3
    by_cases hlt : j < m
    · have hx : j < rs.length := by rw [HM.out]; exact hlt
      obtain ⟨g, o, rfl, d0, d1, d2, d3⟩ := H2.out.row HBR.out hx
      have hok := (H2.out.lk _ (List.getElem_mem hx)).below HBR.out
      have hsz := HS.out _ (List.getElem_mem hx)
      have hnm : hasP rs[j].l.2 who = true → nmWait rs who = some rs[j].n := fun h => nmWait_hit hx (fun q hq hl => H1.out q hq hl) h
      have hnx : hasP rs[j].l.2 who = false → ∀ q (_ : q < j + 1) (hl : q < rs.length), hasP rs[q].l.2 who = false := fun h q hq hl => by
        rcases Nat.lt_or_ge q j with h5 | h5
        · exact H1.out q h5 hl
        · obtain rfl : q = j := by omega
          exact h
      have HNM := Lib.hid hnm
      have HNX := Lib.hid hnx
      obtain ⟨AH, cH, AL, cL, h2r, hH, hL⟩ := hok.rows
      have r1 := h2r.c1
      have hfi := rfind_ (c := cL) hL (List.length_map _) (Nat.le_trans hsz (by omega)) who
      rw [idx_ln] at hfi
      clear hnm hnx hsz hok
      rcases idx_has rs[j].l.2 who with ⟨hh, hi⟩ | ⟨hh, k2, hi⟩
      · rw [hi] at hfi
        have HFI := Lib.hid hfi
        have HNX2 := Lib.hid (HNX.out hh)
        clear hfi hh hi HNX HNM hH hL
        generalize rs[j] = x at *
        go_wp2_with fail
        refine HFI.out.mono ?_
        rintro e w3 ⟨rfl, hb3⟩
        have HB3 := Lib.hid (HBR.out.trans (hb3.mono HBR.out.size))
        clear hb3
        go_wp2_with fail
        go_roundg (m - (j + 1))
        case measure => have := HJ.out; have := HM.out; omega
        case rel => exact ⟨j + 1, by have := HM.out; omega, by go_num, HNX2.out, HB3.out⟩
      · rw [hi] at hfi
        have HFI := Lib.hid hfi
        have HNM2 := Lib.hid (HNM.out hh)
        have h20 : (0 : Int) ≤ (k2 : Int) := by omega
        clear hfi hh hi HNX HNM hH hL
        generalize rs[j] = x at *
        obtain ⟨⟨y0, y1, y2⟩, xq, xl, xH, xL⟩ := x
        simp only at *
        go_wp2_with fail
        refine HFI.out.mono ?_
        rintro e w3 ⟨rfl, hb3⟩
        have HB3 := Lib.hid hb3
        have HRR2 := Lib.hid (HRR.out.below hb3 HRR.out.lt)
        have q1 := (cell_of_heap (hb3.block b (Nat.lt_of_lt_of_le hbs HBR.out.size)) _).trans p0
        have e0 := (cell_of_heap (hb3.block g (block_of_cell d0)) _).trans d0
        have e1 := (cell_of_heap (hb3.block g (block_of_cell d1)) _).trans d1
        have e2 := (cell_of_heap (hb3.block g (block_of_cell d2)) _).trans d2
        clear hb3
        have q0 := HRR2.out.cell 0
        have q1 := HRR2.out.cell 1
        have q2 := HRR2.out.cell 2
        have f0 := HRR2.out.frozen 0
        have f1 := HRR2.out.frozen 1
        have f2 := HRR2.out.frozen 2
        have hres2 := blk_store3 (u := .int .i64 y0) (v := .string y1) (x := .string y2) HRR2.out
        have r0 := hres2.cell 0
        have r1 := hres2.cell 1
        have r2 := hres2.cell 2
        clear hres2
        go_wp2_with fail
        refine bodyPost_ret (v := .tuple #[.agg #[.int .i64 y0, .string y1, .string y2], .bool true]) (by simp [results, Tryz.results13, go_sem, r0, r1, r2]) rfl ?_
        exact ⟨by rw [HNM2.out]; rfl, HEND3.out _ _ _ _ HB3.out⟩
    · have hf : nmWait rs who = none := nmWait_none fun q hl => H1.out q (by have := HJ.out; have := HM.out; omega) hl
      have HF := Lib.hid hf
      have q0 := HRR.out.cell 0
      have q1 := HRR.out.cell 1
      have q2 := HRR.out.cell 2
      have f0 := HRR.out.frozen 0
      have f1 := HRR.out.frozen 1
      have f2 := HRR.out.frozen 2
      have hres2 := blk_store3 (u := .int .i64 0) (v := .string ⟨#[]⟩) (x := .string ⟨#[]⟩) HRR.out
      have r0 := hres2.cell 0
      have r1 := hres2.cell 1
      have r2 := hres2.cell 2
      clear hres2 hf
      go_wp2_with fail
      refine bodyPost_ret (v := .tuple #[.agg #[.int .i64 0, .string ⟨#[]⟩, .string ⟨#[]⟩], .bool false]) (by simp [results, Tryz.results13, go_sem, r0, r1, r2]) rfl ?_
      exact ⟨by rw [HF.out]; rfl, HEND3.out _ _ _ _ (Below.refl _ _)⟩
end Go.Proofs.YtnjhhndggfjjdaaGreatDoor
namespace Go.Proofs.YtnjhhndggfjjdaaGreatDoor
open Go.RowKit
def cntR (rs : List Rw) : Nat := (rs.map fun r => (holdsP r.l).length).sum
theorem cntR_snoc (rs : List Rw) (r : Rw) : cntR (rs ++ [r]) = cntR rs + (holdsP r.l).length := by
  unfold cntR
  rw [List.map_append, List.sum_append]
  simp
theorem cntR_take (rs : List Rw) (j : Nat) : cntR (rs.take j) ≤ cntR rs := by
  have : cntR rs = cntR (rs.take j) + cntR (rs.drop j) := by
    unfold cntR
    rw [← List.sum_append, ← List.map_append, List.take_append_drop]
  omega
theorem cntR_ent (rs : List Rw) : countP (rs.map Rw.ent) = cntR rs := by
  unfold countP cntR
  rw [List.map_map]
  rfl
def CoR (w : World) (rs : List Rw) (k : Nat) (v i : Value) (wr : World) : Prop := ∃ j, j + k = rs.length ∧ i = .int .i64 (j : Int) ∧ v = .int .i64 (cntR (rs.take j) : Int) ∧ Below w.heap.size w wr
structure SmallR (rs : List Rw) : Prop where
  ok : ∀ r ∈ rs, Ok r.l
  sm : ∀ r ∈ rs, r.l.1.length ≤ 10000 ∧ r.l.2.length ≤ 10000
  cnt : cntR rs ≤ 100000
  len : rs.length ≤ 1000
set_option maxHeartbeats 2000000 in
theorem rtcount_ {w : World} {base b : Nat} {v : Value} {rs : List Rw} (h : TB0 base b v rs w) (hs : SmallR rs) :
    Calls Tryz.prog 17 #[.pointer (some ⟨b, 0, none⟩)] w fun e w' => e = .returned (.int .i64 (cntR rs : Int)) ∧ Below w.heap.size w w' := by
  obtain ⟨A, c, rfl, hc, hcm⟩ := h.see
  unfold maxLen at hcm
  have p0 := h.blk.cell 0
  obtain ⟨m, hm⟩ : ∃ m, rs.length = m := ⟨_, rfl⟩
  have hn := hs.len
  rw [hm] at hn hc p0 h
  have hbs := h.blk.lt
  have H2 := Lib.hid h
  have HM := Lib.hid hm
  have HS := Lib.hid hs
  have hP := Lib.hid p0
  clear h hm hs p0
  go_enter Tryz.func17, Tryz.ntmps17
  go_wp2_with fail
  go_loopg [3, 4] m (fun k v i wr => CoR w rs k v i wr)
  case atStart => exact ⟨0, by rw [HM.out]; omega, rfl, rfl, Below.refl _ _⟩
  case round =>
    obtain ⟨j, hj, rfl, rfl, hb⟩ := hrel
    have HJ := Lib.hid hj
    have HBR := Lib.hid hb
    have p0 := (cell_of_heap (hb.block b hbs) _).trans hP.out
    clear hj hb
    by_cases hlt : j < m
    · have hx : j < rs.length := by rw [HM.out]; exact hlt
      have htk : rs.take (j + 1) = rs.take j ++ [rs[j]] := List.take_succ_eq_append_getElem hx
      have hcn := cntR_snoc (rs.take j) rs[j]
      rw [← htk] at hcn
      have hle := cntR_take rs (j + 1)
      have hcs := HS.out.cnt
      obtain ⟨g, o, rfl, _, _, _, d3⟩ := H2.out.row HBR.out hx
      have hmem := List.getElem_mem hx
      have hok := (H2.out.lk _ hmem).below HBR.out
      obtain ⟨AH, cH, AL, cL, h2r, hH, hL⟩ := hok.rows
      have hho := rholds_ h2r hH hL rfl rfl (HS.out.sm _ hmem).1 (HS.out.sm _ hmem).2 (HS.out.ok _ hmem)
      have HHO := Lib.hid hho
      have HCN := Lib.hid hcn
      clear hho hcn hH hL hok hmem htk h2r
      generalize rs[j] = x at *
      generalize hcj : cntR (rs.take j) = cj at *
      generalize hcj1 : cntR (rs.take (j + 1)) = cj1 at *
      have hsz : cj + (holdsP x.l).length ≤ 100000 := by have := HCN.out; omega
      go_wp2_with fail
      refine HHO.out.mono ?_
      rintro e w3 ⟨v3, rfl, ho3, hb3⟩
      obtain ⟨A3, c3, rfl, _, _, _, _⟩ := own_lst ho3
      have HB3 := Lib.hid (HBR.out.trans (hb3.mono HBR.out.size))
      clear hb3 ho3
      generalize (holdsP x.l).length = hl at *
      have hw1 : IntKind.i64.wrap ((cj : Int) + (hl : Int)) = (cj1 : Int) := by rw [IntKind.wrap_i64]; have := HCN.out; omega
      go_wp2_with fail
      go_roundg (m - (j + 1))
      case measure => have := HJ.out; have := HM.out; omega
      case rel => exact ⟨j + 1, by have := HM.out; omega, by go_num, by rw [hcj1], HB3.out⟩
    · obtain rfl : j = m := by have := HJ.out; have := HM.out; omega
      have he : rs.take j = rs := List.take_of_length_le (by have := HM.out; omega)
      rw [he]
      clear he
      go_wp2_with fail
      go_ret
      exact ⟨rfl, HBR.out⟩
end Go.Proofs.YtnjhhndggfjjdaaGreatDoor
namespace Go.Proofs.YtnjhhndggfjjdaaGreatDoor
open Go.RowKit
section
variable {w W : World} {base b : Nat} {v v' : Value} {pre post : List Rw} {q : Nat} {n : Nm}
def newRw (n : Nm) (q : Nat) : Rw := ⟨n, q, ([], []), .slice none 0 0, .slice none 0 0⟩
theorem newRw_has {g : Nat} : ¬ (newRw n q).has g := fun h => by
  unfold newRw Rw.has at h
  rcases h with h | h <;> cases h
theorem TB0.insert (h : TB0 base b v (pre ++ post) w) (k : Below w.heap.size w W) (hbase : base ≤ w.heap.size) (ho : Own W w.heap.size eN 76 v' (pre.map Rw.at_ ++ [(n, q)] ++ post.map Rw.at_)) (hq : Blk W q 73 #[.slice none 0 0, .slice none 0 0]) (hqw : w.heap.size ≤ q) :
    TB0 base b v' (pre ++ newRw n q :: post) (W.setCell ⟨b, 0, none⟩ v') ∧ TKeep base w (W.setCell ⟨b, 0, none⟩ v') := by
  have h2 := h.below k
  have hb := h.blk.lt
  have hks : Keep (fun i _ => i ≠ b) W (W.setCell ⟨b, 0, none⟩ v') := (Keep.refl W).setCell (fun _ _ h => h rfl) _
  have hin : ∀ r, (r ∈ pre ∨ r ∈ post) → r ∈ pre ++ post := fun r hr => List.mem_append.2 hr
  have hold : ∀ r, (r ∈ pre ∨ r ∈ post) → r.Ok (W.setCell ⟨b, 0, none⟩ v') base := fun r hr =>
    (h2.lk r (hin r hr)).kept hks (ne_of_types h2.blk (h2.lk r (hin r hr)).2.two (by decide)) fun g hg o ho => by
      obtain ⟨_, _, cur, hc⟩ := (h2.lk r (hin r hr)).row hg
      exact ne_of_types h2.blk hc (by decide)
  have hfar : ∀ r, (r ∈ pre ∨ r ∈ post) → r.Far (newRw n q) := fun r hr => ⟨fun e => by
    have := (h.lk r (hin r hr)).2.two.lt
    have e : r.q = q := e
    omega, fun g _ h => newRw_has h⟩
  have hf := List.pairwise_append.1 h.far
  refine ⟨⟨Blk.set_ h2.blk 0 v', ?_, fun r hr => ?_, ?_, h.ge⟩, (Keep.of_below k).setCell (fun o ho hk => ?_) _⟩
  · have e : (pre ++ newRw n q :: post).map Rw.at_ = pre.map Rw.at_ ++ [(n, q)] ++ post.map Rw.at_ := by simp [newRw, Rw.at_]
    rw [e]
    refine own_base (own_keep ho fun g hg => Below.heap_setCell W ⟨b, 0, none⟩ _ g fun e => ?_) hbase
    subst e
    have := (own_blk ho hg).1
    omega
  · rw [List.mem_append, List.mem_cons] at hr
    rcases hr with hr | rfl | hr
    · exact hold r (.inl hr)
    · refine ⟨Nat.le_trans hbase hqw, ⟨Blk.far hq (p := ⟨b, 0, none⟩) (by simp only; omega) _, own_nil _ _, own_nil _ _, fun g hg => ?_, fun _ _ h => h, fun _ _ h => h, fun _ h => h.elim⟩⟩
      cases hg
    · exact hold r (.inr hr)
  · rw [List.pairwise_append, List.pairwise_cons]
    refine ⟨hf.1, ⟨fun r hr => (hfar r (.inr hr)).symm, hf.2.1⟩, fun r hr y hy => ?_⟩
    rw [List.mem_cons] at hy
    rcases hy with rfl | hy
    · exact hfar r (.inl hr)
    · exact hf.2.2 r hr y hy
  · rcases hk with hk | hk
    · have := h.ge
      simp only at hk
      omega
    · exact hk.1 _ (by have := h.blk.symm.trans ho; injection this with this; exact this.symm)
/-- an entry more, as the append takes it -/
theorem ent_one (W : World) (n : Nm) (q : Nat) : Lst (W.alloc (.cells #[.int .i64 n.1, .string n.2.1, .string n.2.2, .pointer (some ⟨q, 0, none⟩)] 76)) (fun i => W.heap.size ≤ i) eN (some ⟨W.heap.size, 0, none⟩) [(n, q)] := fun _ =>
  ⟨_, 0, rfl, Nat.le_refl _, by simp, fun j u hu => by rw [(Blk.new W 76 _).cell, Nat.zero_add]; simpa [cellsE, eN] using hu⟩
end
theorem elemN : Tryz.prog.elem 27 = 76 := by simp [Program.elem, Tryz.underlying27]
theorem sizeN : ∀ w, (Go.sizeOf 76).run Tryz.prog w = .ok 4 w := Tryz.sizeOf76
theorem head_ents (A : Option Addr) (l c q : Nat) (h : q ≤ c) (W : World) : (Instr.slice 27 (.slice A l c) none (some (.int .i64 (q : Int))) none).run Tryz.prog W = .ok (.slice A q c) W := by
  rw [run_slice_h W 27 _ _ _ (by rw [elemN]; exact Tryz.underlying27) .i64 _ (by omega) (by omega), elemN, sizeN]
  have : A.map (·.add (0 * 4)) = A := by cases A <;> simp [Addr.add]
  simp [Result.andThen, sliced]
  cases A <;> simp [Addr.add]
theorem tail_ents {w : World} {K : Nat → Prop} {A : Option Addr} {l : List (Nm × Nat)} {n c : Nat} (h : Lst w K eN A l) (hl : l.length = n) (hc : n ≤ c) {q m : Nat} (hq : q ≤ n) (hm : n - q = m) :
    ∃ A', (∀ W, (Instr.slice 27 (.slice A n c) (some (.int .i64 (q : Int))) none none).run Tryz.prog W = .ok (.slice A' m (c - q)) W) ∧ Lst w K eN A' (l.drop q) ∧ (A' = none → A = none) := by
  subst hl hm
  refine ⟨_, fun W => ?_, h.drop (k := q) hc, fun e => by split at e <;> simpa using e⟩
  rw [run_slice_l W 27 _ _ _ (by rw [elemN]; exact Tryz.underlying27) .i64 _ (by omega) (by omega), elemN, sizeN]
  rfl
theorem blk_grown {W W' : World} {base q : Nat} {cs : Array Value} {v : Value} {l : List (Nm × Nat)} (hq : Blk W q 73 cs) (ho : Own W base eN 76 v l) (hg : W.grownBy W' v.ownBlock) : Blk W' q 73 cs :=
  (hg.block q hq.lt fun e => by
    obtain ⟨_, _, cur, hc⟩ := own_blk ho e.symm
    exact ne_of_types hq hc (by decide) rfl).trans hq
/-- a world in which a lock more was made and its entry -/
theorem below2 (W : World) (o1 o2 : Obj) : Below W.heap.size W ((W.alloc o1).alloc o2) := (alloc_below W o1).trans ((alloc_below _ o2).mono (by simp))
theorem ent_two (W : World) (ob : Obj) (n : Nm) (q : Nat) : Lst ((W.alloc ob).alloc (.cells #[.int .i64 n.1, .string n.2.1, .string n.2.2, .pointer (some ⟨q, 0, none⟩)] 76)) (fun _ => True) eN (some ⟨W.heap.size + 1, 0, none⟩) [(n, q)] := fun h => by
  obtain ⟨g, o, e, _, r⟩ := ent_one (W.alloc ob) n q h
  have hs : (W.alloc ob).heap.size = W.heap.size + 1 := by simp
  rw [hs] at e
  exact ⟨g, o, e, trivial, r⟩
end Go.Proofs.YtnjhhndggfjjdaaGreatDoor
namespace Go.Proofs.YtnjhhndggfjjdaaGreatDoor
open Go.RowKit
section
variable {w w' : World} {base b : Nat} {v : Value} {rs : List Rw} {j : Nat}
theorem cut_at (hj : j < rs.length) : rs.take j ++ rs[j] :: rs.drop (j + 1) = rs := by rw [← List.drop_eq_getElem_cons hj, List.take_append_drop]
theorem TB0.one_at (h : TB0 base b v rs w) (hj : j < rs.length) : RLk base (Oth (rs.take j) (rs.drop (j + 1))) rs[j].q rs[j].l w :=
  TB0.one (by rw [cut_at hj]; exact h)
theorem TB0.turn_at (h : TB0 base b v rs w) (hj : j < rs.length) {l : Lk} (hl : RLk base (Oth (rs.take j) (rs.drop (j + 1))) rs[j].q l w') (k : RKeep base (Oth (rs.take j) (rs.drop (j + 1))) rs[j].q w w') :
    ∃ rs', rs'.map Rw.ent = (rs.map Rw.ent).set j (rs[j].n, l) ∧ TB0 base b v rs' w' := by
  obtain ⟨x', h1, h2, h3, h4⟩ := TB0.turn (w := w) (by rw [cut_at hj]; exact h) hl k
  refine ⟨_, ?_, h4⟩
  have e : rs.take j ++ x' :: rs.drop (j + 1) = rs.set j x' := by rw [List.set_eq_take_append_cons_drop, if_pos hj]
  rw [e, List.map_set]
  have e2 : x'.ent = (rs[j].n, l) := by
    unfold Rw.ent
    rw [h1, h3]
  rw [e2]
theorem TB0.keep_at (h : TB0 base b v rs w) (hj : j < rs.length) (k : RKeep base (Oth (rs.take j) (rs.drop (j + 1))) rs[j].q w w') : TKeep base w w' :=
  TKeep.of_rkeep k (h.lk _ (List.getElem_mem hj)).1 (h.lk _ (List.getElem_mem hj)).2.two
theorem new_set {n : Nm} {q : Nat} {l : Lk} (hj : j ≤ rs.length) : ((rs.take j ++ newRw n q :: rs.drop j).map Rw.ent).set j (n, l) = (rs.map Rw.ent).take j ++ (n, l) :: (rs.map Rw.ent).drop j := by
  rw [List.map_append, List.map_cons, List.map_take, List.map_drop]
  have hl : ((rs.map Rw.ent).take j).length = j := by rw [List.length_take, List.length_map]; omega
  rw [List.set_append, if_neg (by omega), hl, Nat.sub_self, List.set_cons_zero]
theorem new_at {n : Nm} {q : Nat} (hj : j ≤ rs.length) (h : j < (rs.take j ++ newRw n q :: rs.drop j).length) : (rs.take j ++ newRw n q :: rs.drop j)[j] = newRw n q := by
  have hl : (rs.take j).length = j := by rw [List.length_take]; omega
  rw [List.getElem_append_right (by omega)]
  simp [hl]
end
end Go.Proofs.YtnjhhndggfjjdaaGreatDoor
