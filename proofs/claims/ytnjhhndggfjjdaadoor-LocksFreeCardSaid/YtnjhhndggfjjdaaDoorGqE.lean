/- Package grant's Drop, walked. -/
import Derived.Test.YtnjhhndggfjjdaaDoorGqD
set_option maxRecDepth 4000
namespace Go.Proofs.YtnjhhndggfjjdaaDoor
open Go.RowKit
theorem Two.store {α : Type} {E : Enc α} {T : TypeId} {w : World} {b base off : Nat} {zn : Zn} {vH vL v : Value} {l : List α} (h : Two w b off zn vH vL) (ho : Own w base E T v l) (ht : T = 78 ∨ T = 3 ∨ T = 53) (i : Nat) (u : Value) : Own (w.setCell ⟨b, i, none⟩ u) base E T v l :=
  own_keep ho fun g hg => Below.heap_setCell w ⟨b, i, none⟩ u g (fun e => by subst e; exact two_neT h ho ht hg)
theorem grant_length (H : List Cl) (x : Cl) : (grantP H x).length ≤ H.length + 1 := by
  unfold grantP
  split <;> simp
theorem grant_modes {H : List Cl} {x : Cl} (h : ∀ c ∈ H, 0 < c.2 ∧ c.2 < 6) (hx : 0 < x.2 ∧ x.2 < 6) : ∀ c ∈ grantP H x, 0 < c.2 ∧ c.2 < 6 := by
  intro c hc
  unfold grantP at hc
  split at hc
  · rcases List.mem_or_eq_of_mem_set hc with h1 | h1
    · exact h c h1
    · subst h1; exact hx
  · rcases List.mem_append.1 hc with h1 | h1
    · exact h c h1
    · obtain rfl : c = x := by simpa using h1
      exact hx
theorem without_modes {H : List Cl} {who : Int} (h : ∀ c ∈ H, 0 < c.2 ∧ c.2 < 6) : ∀ c ∈ withoutP H who, 0 < c.2 ∧ c.2 < 6 := fun c hc => h c (List.mem_filter.1 hc).1
theorem without_length (H : List Cl) (who : Int) : (withoutP H who).length ≤ H.length := List.length_filter_le _ _
def DropR (w2 : World) (b off : Nat) (zn : Zn) (base : Nat) (H0 L0 : List Cl) (m : Nat) (gv : Value) (wr : World) : Prop :=
  ∃ (H L : List Cl) (done : List Int) (vH vL : Value) (q : Nat), L.length = m ∧ drainP H0 L0 = (done ++ (drainP H L).1, (drainP H L).2) ∧ DS w2 b off zn base H L done gv vH vL q wr ∧ H.length + L.length ≤ 30000 ∧ done.length + L.length ≤ 30000 ∧ (∀ c ∈ H, 0 < c.2 ∧ c.2 < 6) ∧ (∀ c ∈ L, 0 < c.2 ∧ c.2 < 6)
theorem drain_go {H L : List Cl} {x : Cl} (h : fitsP H x = true) : drainP H (x :: L) = (x.1 :: (drainP (grantP H x) L).1, (drainP (grantP H x) L).2) := by simp [drainP, h]
theorem drain_stop {H L : List Cl} {x : Cl} (h : fitsP H x = false) : drainP H (x :: L) = ([], (H, x :: L)) := by simp [drainP, h]
set_option maxHeartbeats 2000000 in
theorem drop_ {w : World} {b off : Nat} {zn : Zn} {s : Lk} (h : Lock w b off zn s) (hok : Ok s) (hn : s.1.length ≤ 10000) (hm : s.2.length ≤ 10000) (hT : Tab w) (hb0 : 0 ≠ b) (who : Int) :
    Calls Tryd.prog 24 #[.pointer (some ⟨b, off, none⟩), .int .i64 who] w fun e w' => ∃ v, e = .returned v ∧ Own w' w.heap.size eI 3 v (dropP s who).1 ∧ Lock w' b off zn (dropP s who).2 ∧ Keep (fun i _ => i ≠ b) w w' := by
  obtain ⟨H, L⟩ := s
  obtain ⟨vH, vL, h2, aH, aL⟩ := h
  have hbs := h2.lt
  have hol := own_lists h2 aH aL (by simp only at hn ⊢; omega) (by simp only at hm ⊢; omega)
  simp only at hol hn hm
  have HOL := Lib.hid hol
  have HT := Lib.hid hT
  have MH := Lib.hid hok.mH
  have ML := Lib.hid hok.mL
  simp only at MH ML
  unfold dropP
  simp only
  clear hol hT hok aH aL h2
  go_enter Tryd.func24, Tryd.ntmps24
  go_wp2_with fail
  refine HOL.out.mono ?_
  rintro e w1 ⟨rfl, vH1, vL1, t1, o1, o2, sep, k1⟩
  obtain ⟨A1, c1, e1, _, _, _, _⟩ := own_lst o1
  obtain ⟨A2, c2, e2, _, _, _, _⟩ := own_lst o2
  have p0 := t1.c0
  rw [e1] at p0
  have hwo := without_ who o1 (by omega)
  rw [e1] at hwo
  have HWO := Lib.hid hwo
  have T1 := Lib.hid t1
  have O1 := Lib.hid o1
  have O2 := Lib.hid o2
  have K1 := Lib.hid k1
  have SEP := Lib.hid sep
  have E1 := Lib.hid e1
  have E2 := Lib.hid e2
  have hTb1 : Tab w1 := HT.out.keep k1 fun _ => hb0
  have HT1 := Lib.hid hTb1
  have hN1 := without_length H who
  have hN2 := without_length L who
  clear hwo t1 o1 o2 k1 sep e1 e2 hTb1 HOL
  generalize hnn : H.length = n at *
  generalize hmm : L.length = m at *
  go_wp2_with fail
  refine HWO.out.mono ?_
  rintro e w2 ⟨vH2, rfl, o3, ob3, g3⟩
  have hob : vH2.ownBlock = vH1.ownBlock := by rw [E1.out]; exact ob3
  have hg3 : w1.grownBy w2 vH1.ownBlock := by rw [E1.out]; exact g3
  have t2 : Two w2 b off zn vH1 vL1 := Two.grown T1.out hg3 (two_ne T1.out O1.out)
  have o4 : Own w2 w.heap.size eC 78 vL1 L := own_keep O2.out fun g hg => hg3.block g (own_blk O2.out hg).2.1 (fun e => SEP.out g e.symm hg)
  have k2 : Keep (fun i _ => i ≠ b ∧ i < w.heap.size) w w2 := (K1.out.mono fun _ _ _ hi => hi.1).grown hg3 fun g o hg ho hi => by
    have := (own_blk O1.out hg).1
    omega
  obtain ⟨A3, c3, e3, _, _, _, _⟩ := own_lst o3
  have q0 := t2.c0
  have f0 := t2.frozen off
  rw [E1.out] at q0
  -- behind the first store
  have t5 : Two (w2.setCell ⟨b, off, none⟩ vH2) b off zn vH2 vL1 := Two.set0 t2 _
  have o5 := Two.store t2 o3 (by decide) off vH2
  have o6 := Two.store t2 o4 (by decide) off vH2
  have k5 : Keep (fun i _ => i ≠ b ∧ i < w.heap.size) w (w2.setCell ⟨b, off, none⟩ vH2) := k2.setCell (fun _ _ h => h.1 rfl) _
  have hTb2 : Tab (w2.setCell ⟨b, off, none⟩ vH2) := HT.out.keep k5 fun _ => ⟨hb0, HT.out.lt⟩
  have hwo2 := without_ who o6 (by omega)
  have p1 := t5.c1
  rw [E2.out] at hwo2 p1
  generalize hz : (withoutP H who).length = z1 at *
  have HWO2 := Lib.hid hwo2
  have T5 := Lib.hid t5
  have O5 := Lib.hid o5
  have O6 := Lib.hid o6
  have K5 := Lib.hid k5
  have HT2 := Lib.hid hTb2
  have OB := Lib.hid hob
  clear hwo2 t5 o5 o6 k5 hTb2 hob hg3 t2 o4 k2 o3 ob3 g3 HWO p0
  subst e3
  go_wp2_with fail
  generalize w2.setCell ⟨b, off, none⟩ (.slice A3 z1 c3) = w3 at *
  refine HWO2.out.mono ?_
  rintro e w4 ⟨vL4, rfl, o7, ob7, g7⟩
  have hg7 : w3.grownBy w4 vL1.ownBlock := by rw [E2.out]; exact g7
  have t7 : Two w4 b off zn (.slice A3 z1 c3) vL1 := Two.grown T5.out hg7 (two_ne T5.out O6.out)
  have o8 : Own w4 w.heap.size eC 78 (.slice A3 z1 c3) (withoutP H who) := own_keep O5.out fun g hg => hg7.block g (own_blk O5.out hg).2.1 (fun e => SEP.out g (by rw [← OB.out]; exact hg) e.symm)
  have k7 : Keep (fun i _ => i ≠ b ∧ i < w.heap.size) w w4 := K5.out.grown hg7 fun g o hg ho hi => by
    have := (own_blk O6.out hg).1
    omega
  have hobL : vL4.ownBlock = vL1.ownBlock := by rw [E2.out]; exact ob7
  obtain ⟨A4, c4, e4, _, _, _, _⟩ := own_lst o7
  have r1 := t7.c1
  have f1 := t7.frozen (off + 1)
  rw [E2.out] at r1
  have t8 : Two (w4.setCell ⟨b, off + 1, none⟩ vL4) b off zn (.slice A3 z1 c3) vL4 := Two.set1 t7 _
  have o9 := Two.store t7 o7 (by decide) (off + 1) vL4
  have o10 := Two.store t7 o8 (by decide) (off + 1) vL4
  have k8 : Keep (fun i _ => i ≠ b ∧ i < w.heap.size) w (w4.setCell ⟨b, off + 1, none⟩ vL4) := k7.setCell (fun _ _ h => h.1 rfl) _
  obtain ⟨q, hline, hneq, hltq⟩ := line_of_own (vH := .slice A3 z1 c3) o9 t8.lt (fun g hg hg' => SEP.out g (by rw [← OB.out]; exact hg) (by rw [← hobL]; exact hg')) (two_ne t8 o10)
  have hds : DS w b off zn w.heap.size (withoutP H who) (withoutP L who) [] (.slice none 0 0) (.slice A3 z1 c3) vL4 q (w4.setCell ⟨b, off + 1, none⟩ vL4) :=
    ⟨t8, o10, hline, hneq, hltq, own_nil _ _, k8, hbs, k8.size⟩
  have HDS := Lib.hid hds
  have hz2 : (withoutP L who).length ≤ m := hN2
  generalize hzz : (withoutP L who).length = z2 at *
  subst e4
  clear o7 ob7 g7 hg7 t7 o8 k7 hobL t8 o9 o10 k8 hline hds HWO2 T5 O5 O6 K5 HT2 OB SEP K1 O1 O2 T1 HT1 q0 f0 p1
  go_wp2_with fail
  generalize w4.setCell ⟨b, off + 1, none⟩ (.slice A4 z2 c4) = w5 at *
  go_loopg [5, 6] z2 (fun k gv _ wr => DropR w b off zn w.heap.size (withoutP H who) (withoutP L who) k gv wr)
  case atStart =>
    exact ⟨withoutP H who, withoutP L who, [], _, _, q, hzz, by simp, HDS.out, by rw [hz, hzz]; omega, by rw [hzz]; show 0 + z2 ≤ _; omega, without_modes MH.out, without_modes ML.out⟩
  case round =>
    obtain ⟨H', L', done, vH', vL', q', hlen, hdr, d, hbn, hbd, hmH, hmL⟩ := hrel
    obtain ⟨AL, cL, eL, lL, hlc, hcm, hnil⟩ := d.line
    obtain ⟨AH, cH, eH, lH, _, _, _⟩ := own_lst d.own
    have p1 := d.two.c1
    have p0 := d.two.c0
    have g1 := d.two.frozen (off + 1)
    rw [eL] at p1
    have HDR := Lib.hid hdr
    have D := Lib.hid d
    have hTr : Tab wr := HT.out.keep d.keep fun _ => ⟨hb0, HT.out.lt⟩
    have HTR := Lib.hid hTr
    have HMH := Lib.hid hmH
    have HML := Lib.hid hmL
    have HBN := Lib.hid hbn
    have HBD := Lib.hid hbd
    have HEL := Lib.hid eL
    rcases L' with _ | ⟨x, L2⟩
    · clear hdr d lL lH eH hTr hmH hmL eL
      simp only [List.length_nil] at hlen p1
      subst hlen
      have HG := Lib.hid D.out.got
      have HE := Lib.hid HDR.out
      have hres : drainP (withoutP H who) (withoutP L who) = (done, (H', [])) := by rw [HE.out]; simp [drainP]
      have HRES := Lib.hid hres
      clear hres
      go_wp2_with fail
      go_ret
      exact ⟨u5, rfl, by rw [HRES.out]; exact HG.out, by rw [HRES.out]; exact D.out.lock, D.out.keep.mono fun i o ho hi => ⟨hi, lt_of_some ho⟩⟩
    · have hx := hmL x (by simp)
      obtain ⟨g, o, rfl, hgl, d1, d2⟩ := lL.atC (j := 0) (by simp)
      have hfi := fits_lock d.two eH lH (by omega) hmH x hx.2 hTr
      simp only [List.getElem_cons_zero, Nat.zero_mul, Nat.add_zero] at d1 d2
      obtain ⟨x1, x2⟩ := x
      unfold valC at hfi
      simp only at *
      generalize hfv : fitsP H' (x1, x2) = fv at *
      have HFV := Lib.hid hfv
      have HFI := Lib.hid hfi
      have hl0 : 0 < L2.length + 1 := by omega
      have hl1 : ((L2.length : Int) + 1 : Int) > 0 := by omega
      obtain ⟨A', hsl, hl', hA'⟩ := tail_claims lL rfl hlc (q := 1) (m := L2.length) (by simp) (by simp)
      have hline' : Line wr (.slice A' L2.length (cL - 1)) L2 q' := ⟨A', cL - 1, rfl, hl', by simp at hlc; omega, by omega, fun e => by cases hA' e⟩
      have HL' := Lib.hid hline'
      simp only [List.length_cons] at *
      clear hdr d lL lH eH hTr hmL eL hfi hfv hl' hline' hnil hmH p0
      have hsl1 : ∀ W, (Instr.slice 58 (.slice (some ⟨g, o, none⟩) (L2.length + 1) cL) (some (.int .i64 1)) none none).run Tryd.prog W = .ok (.slice A' L2.length (cL - 1)) W := hsl
      clear hsl
      generalize hk2 : L2.length = k2 at *
      subst hlen
      go_wp2_with fail
      refine HFI.out.mono ?_
      rintro e w6 ⟨rfl, hb6⟩
      have D6 := Lib.hid (D.out.below hb6)
      have l6 := HL'.out.kept (w' := w6) fun _ => hb6.block q' D.out.lt
      have m1 := (cell_of_heap (hb6.block g hgl) o).trans d1
      have m2 := (cell_of_heap (hb6.block g hgl) (o + 1)).trans d2
      have p6 := (cell_of_heap (hb6.block b D.out.two.lt) (off + 1)).trans p1
      cases fv
      · have hres : drainP (withoutP H who) (withoutP L who) = (done, (H', (x1, x2) :: L2)) := by rw [HDR.out, drain_stop HFV.out]; simp
        have HRES := Lib.hid hres
        clear hres hb6 l6 m1 m2 p6 d1 d2
        go_wp2_with fail
        go_ret
        exact ⟨u5, rfl, by rw [HRES.out]; exact D6.out.got, by rw [HRES.out]; exact D6.out.lock, D6.out.keep.mono fun i o ho hi => ⟨hi, lt_of_some ho⟩⟩
      · have hal := alloc_below w6 (.cells #[.int .i64 x1, .int .i64 (x2 : Int)] 78)
        have D7 := D6.out.below hal
        have l7 := l6.kept (w' := w6.alloc (.cells #[.int .i64 x1, .int .i64 (x2 : Int)] 78)) fun _ => hal.block q' D6.out.lt
        have D8 := D7.tail l7
        have p7 := (cell_of_heap (hal.block b D6.out.two.lt) (off + 1)).trans p6
        have f7 := D7.two.frozen (off + 1)
        have hbn6 : b ≠ w6.heap.size := Nat.ne_of_lt D6.out.two.lt
        have hgn6 : w6.heap.size ≠ b := hbn6.symm
        have n1 : ((w6.alloc (.cells #[.int .i64 x1, .int .i64 (x2 : Int)] 78)).setCell ⟨b, off + 1, none⟩ (.slice A' k2 (cL - 1))).cell? ⟨w6.heap.size, 0, none⟩ = some (.int .i64 x1) := (cell_of_heap (Below.heap_setCell _ ⟨b, off + 1, none⟩ _ _ hgn6) 0).trans ((Blk.new w6 _ _).cell 0)
        have n2 : ((w6.alloc (.cells #[.int .i64 x1, .int .i64 (x2 : Int)] 78)).setCell ⟨b, off + 1, none⟩ (.slice A' k2 (cL - 1))).cell? ⟨w6.heap.size, 1, none⟩ = some (.int .i64 (x2 : Int)) := (cell_of_heap (Below.heap_setCell _ ⟨b, off + 1, none⟩ _ _ hgn6) 1).trans ((Blk.new w6 _ _).cell 1)
        have hlt8 : w6.heap.size < ((w6.alloc (.cells #[.int .i64 x1, .int .i64 (x2 : Int)] 78)).setCell ⟨b, off + 1, none⟩ (.slice A' k2 (cL - 1))).heap.size := by simp [World.setCell]
        have hgr := grant_ D8.two D8.own D8.sz (by have := HBN.out; omega) (x1, x2)
        unfold valC at hgr
        simp only at hgr
        have HGR := Lib.hid hgr
        have HD8 := Lib.hid D8
        have H6 := Lib.hid (fun g0 (hg0 : vH'.ownBlock = some g0) => (own_blk D6.out.own hg0).2.1)
        clear hgr D7 l7 D8 hal l6 hb6 d1 d2 p1
        go_wp2_with fail
        generalize (w6.alloc (.cells #[.int .i64 x1, .int .i64 (x2 : Int)] 78)).setCell ⟨b, off + 1, none⟩ (.slice A' k2 (cL - 1)) = w7 at *
        refine HGR.out.mono ?_
        rintro e w8 ⟨rfl, hgd⟩
        have hgd0 := hgd
        obtain ⟨vH9, D9⟩ := HD8.out.granted hgd
        obtain ⟨_, _, _, _, hk8⟩ := hgd0
        have hb8 : w8.heap[w6.heap.size]? = w7.heap[w6.heap.size]? := by
          rw [Array.getElem?_eq_getElem hlt8]
          exact hk8.block _ _ (Array.getElem?_eq_getElem hlt8) ⟨hgn6, fun e => by have := H6.out _ e; omega⟩
        have s1 := (cell_of_heap hb8 0).trans n1
        have hal9 := alloc_below w8 (.cells #[.int .i64 x1] 3)
        have D10 := D9.below hal9
        have hone : Lst (w8.alloc (.cells #[.int .i64 x1] 3)) (fun i => w8.heap.size ≤ i) eI (some ⟨w8.heap.size, 0, none⟩) [x1] := fun _ =>
          ⟨_, 0, rfl, Nat.le_refl _, by simp, fun j u hu => by rw [(Blk.new w8 3 _).cell, Nat.zero_add]; simpa [cellsE, eI] using hu⟩
        obtain ⟨v11, w11, hap, ho11, hg11, _⟩ := append_own tyI D10.got hone rfl 1 (by have := HBD.out; show done.length + 1 ≤ 1000000; omega) D10.sz
        have D11 := D10.grown ho11 hg11
        have HD11 := Lib.hid D11
        have HAP := Lib.hid hap
        clear hgd hk8 hb8 hal9 D9 D10 hone hap ho11 hg11 D11 n1 n2
        go_wp2_with (at_builtin; refine wpList_append_run rfl (.tmp 62) (.tmp 65) 35 35 rfl _ _ rfl rfl HAP.out ?_)
        go_roundg k2
        case measure => omega
        case rel =>
          exact ⟨grantP H' (x1, x2), L2, done ++ [x1], vH9, _, q', hk2, by rw [HDR.out, drain_go HFV.out]; simp, HD11.out, by have := HBN.out; have := grant_length H' (x1, x2); omega, by have := HBD.out; simp; omega, grant_modes HMH.out (HML.out _ (by simp)), fun c hc => HML.out c (by simp [hc])⟩
end Go.Proofs.YtnjhhndggfjjdaaDoor
