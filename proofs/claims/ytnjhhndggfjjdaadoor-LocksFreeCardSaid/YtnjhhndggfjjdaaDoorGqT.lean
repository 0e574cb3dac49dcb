/- Somebody is put into the line: package grant's waitingHolders and wait. -/
import Derived.Test.YtnjhhndggfjjdaaDoorGqN
import Derived.Deep.RegionWith
set_option maxRecDepth 4000
namespace Go.Proofs.YtnjhhndggfjjdaaDoor
open Go.RowKit
def Front (w : World) (H L : List Cl) (k : Nat) (i : Value) (wr : World) : Prop := ∃ j, j + k = L.length ∧ i = .int .i64 (j : Int) ∧ (∀ q (_ : q < j) (hl : q < L.length), hasP H (L[q]).1 = true) ∧ Below w.heap.size w wr
theorem front_at {H L : List Cl} {j : Nat} (hj : j < L.length) (hb : ∀ q (_ : q < j) (hl : q < L.length), hasP H (L[q]).1 = true) (h : hasP H (L[j]).1 = false) : frontP H L = j := by
  unfold frontP
  exact (List.findIdx_eq hj).2 ⟨by simp [h], fun q hq => by simp [hb q hq (by omega)]⟩
theorem front_all {H L : List Cl} (hb : ∀ q (hl : q < L.length), hasP H (L[q]).1 = true) : frontP H L = L.length := by
  unfold frontP
  rw [List.findIdx_eq_length]
  intro x hx
  obtain ⟨j, hj, rfl⟩ := List.getElem_of_mem hx
  simp [hb j hj]
theorem has_place (H : List Cl) (who : Int) : (hasP H who = false ∧ idxI (isW who) H = -1) ∨ (hasP H who = true ∧ ∃ q : Nat, idxI (isW who) H = (q : Int)) := by
  rcases idx_cases (isW who) H with ⟨h1, h2⟩ | ⟨_, h1, h2, _⟩
  · exact .inl ⟨h2, h1⟩
  · exact .inr ⟨h2, _, h1⟩
set_option maxHeartbeats 2000000 in
theorem waiting_ {w : World} {b off : Nat} {zn : Zn} {vH vL : Value} {H L : List Cl} (h2 : Two w b off zn vH vL) (hH : At w vH H) (hL : At w vL L) (hn : H.length ≤ 100000) (hm : L.length ≤ 100000) :
    Calls Tryd.prog 59 #[.pointer (some ⟨b, off, none⟩)] w fun e w' => e = .returned (.int .i64 (frontP H L : Int)) ∧ Below w.heap.size w w' := by
  obtain ⟨A1, c1, rfl, l1, _, _, _⟩ := hH
  obtain ⟨A2, c2, rfl, l2, _, _, _⟩ := hL
  have b1 := h2.c1
  have hbs := h2.lt
  have H2 := Lib.hid h2
  have L1 := Lib.hid l1
  have L2 := Lib.hid l2
  clear h2 l1 l2
  generalize hnn : H.length = n at *
  generalize hmm : L.length = m at *
  have HN := Lib.hid hnn
  have HM := Lib.hid hmm
  clear hnn hmm
  go_enter Tryd.func59, Tryd.ntmps59
  go_wp2_with fail
  go_loopg [3, 10] m (fun k _ i wr => Front w H L k i wr)
  case atStart => exact ⟨0, by rw [HM.out]; omega, rfl, fun q hq => absurd hq (Nat.not_lt_zero q), Below.refl _ _⟩
  case round =>
    obtain ⟨j, hj, rfl, h1, hb⟩ := hrel
    have HJ := Lib.hid hj
    have H1 := Lib.hid h1
    have HB := Lib.hid hb
    clear hj h1 hb
    by_cases hlt : j < m
    · have hx : j < L.length := by rw [HM.out]; exact hlt
      obtain ⟨g, o, rfl, hgl, d1, d2⟩ := (L2.out.below HB.out).atC hx
      have hT := H2.out.below HB.out hbs
      have p0 := hT.c0
      have hbr := hT.lt
      have hbn : b ≠ wr.heap.size := Nat.ne_of_lt hbr
      have hpl := fun W (hb : Below wr.heap.size wr W) => place_ (w := W) (c := c1) ((L1.out.below HB.out).below hb) HN.out (by omega) (L[j]).1
      have hcase := has_place H (L[j]).1
      have hat : hasP H (L[j]).1 = false → frontP H L = j := front_at hx (fun q hq hl => H1.out q hq hl)
      have hon : hasP H (L[j]).1 = true → ∀ q (_ : q < j + 1) (hl : q < L.length), hasP H (L[q]).1 = true := fun h q hq hl => by
        rcases Nat.lt_or_ge q j with h5 | h5
        · exact H1.out q h5 hl
        · obtain rfl : q = j := by omega
          exact h
      have HON := Lib.hid hon
      have HAT := Lib.hid hat
      have HP := Lib.hid hpl
      clear hon hat hpl hT
      generalize hasP H (L[j]).1 = hh at *
      generalize idxI (isW (L[j]).1) H = z at *
      generalize (L[j]).1 = x1 at *
      generalize (L[j]).2 = x2 at *
      go_wp2_with fail
      have hal := alloc_below wr (.cells #[.int .i64 x1, .int .i64 (x2 : Int)] 78)
      have e0 : (wr.alloc (.cells #[.int .i64 x1, .int .i64 (x2 : Int)] 78)).cell? ⟨wr.heap.size, 0, none⟩ = some (.int .i64 x1) := (Blk.new wr _ _).cell 0
      have p0' : (wr.alloc (.cells #[.int .i64 x1, .int .i64 (x2 : Int)] 78)).cell? ⟨b, off, none⟩ = some (.slice A1 n c1) := (cell_of_heap (hal.block b hbr) off).trans p0
      have HAL := Lib.hid hal
      clear hal
      generalize wr.alloc (.cells #[.int .i64 x1, .int .i64 (x2 : Int)] 78) = wA at *
      refine wp_region_still_tail 6 (by kernel_rfl) (by kernel_rfl) ?_
      simp only [List.take_succ_cons, List.take_zero, List.drop_succ_cons, List.drop_zero]
      repeat still_step
      refine wpStill_nil ?_
      go_wp2_with fail
      refine (HP.out _ HAL.out.drew).mono ?_
      rintro e w1 ⟨rfl, hb1⟩
      have HB1 := Lib.hid (below_drew_on HAL.out hb1 HAL.out.size)
      clear hb1
      rcases hcase with ⟨rfl, rfl⟩ | ⟨rfl, q, rfl⟩
      · go_wp2_with fail
        go_ret
        exact ⟨by rw [HAT.out (by simp)]; rfl, HB.out.trans (HB1.out.mono HB.out.size)⟩
      · go_wp2_with fail
        go_roundg (m - (j + 1))
        case measure => have := HJ.out; have := HM.out; omega
        case rel => exact ⟨j + 1, by have := HM.out; omega, by go_num, HON.out (by simp), HB.out.trans (HB1.out.mono HB.out.size)⟩
    · have he : j = m := by have := HJ.out; have := HM.out; omega
      subst he
      have hf : frontP H L = j := by
        rw [front_all fun q hl => H1.out q (by have := HM.out; omega) hl]; exact HM.out
      have HF := Lib.hid hf
      have p1 := (H2.out.below HB.out hbs).c1
      clear hf
      go_wp2_with fail
      go_ret
      exact ⟨by rw [HF.out]; rfl, HB.out⟩
/-- what a change of a lock leaves: its two lists, somewhere; all blocks but the lock's own, and those from base on, as they were -/
def Lock (w : World) (b off : Nat) (zn : Zn) (s : Lk) : Prop := ∃ vH vL, Two w b off zn vH vL ∧ At w vH s.1 ∧ At w vL s.2
theorem spot_le (H L : List Cl) (who : Int) : spotP H L who ≤ L.length := by
  unfold spotP frontP
  split
  · exact List.findIdx_le_length
  · exact Nat.le_refl _
/-- a claim into the line of a lock whose lists are its own -/
theorem put_line {w : World} {b base off : Nat} {zn : Zn} {vH vL : Value} {H L : List Cl} (h2 : Two w b off zn vH vL) (hbb : b < base) (hbase : base ≤ w.heap.size) (hH : Own w base eC 78 vH H) (hL : Own w base eC 78 vL L) (hsep : ∀ g, vH.ownBlock = some g → vL.ownBlock ≠ some g) (hm : L.length ≤ 100000) (x : Cl) {k : Nat} (hk : k ≤ L.length) :
    Calls Tryd.prog 60 #[vL, .int .i64 (k : Int), .slice (some ⟨w.heap.size, 0, none⟩) 1 1] (w.alloc (.cells #[.int .i64 x.1, .int .i64 (x.2 : Int)] 78)).drew fun e w' =>
      ∃ A n c, e = .returned (.slice A n c) ∧ w'.cell? ⟨b, off + 1, none⟩ = some vL ∧ w'.frozen? ⟨b, off + 1, none⟩ = false ∧ (Lock (w'.setCell ⟨b, off + 1, none⟩ (.slice A n c)) b off zn (H, insP L k x) ∧ Keep (fun i _ => i ≠ b ∧ i < base) w (w'.setCell ⟨b, off + 1, none⟩ (.slice A n c))) := by
  have hal := alloc_below w (.cells #[.int .i64 x.1, .int .i64 (x.2 : Int)] 78)
  have hne : vL.ownBlock ≠ some w.heap.size := fun e => by have := (own_blk hL e).2.1; omega
  have ow : Own (w.alloc (.cells #[.int .i64 x.1, .int .i64 (x.2 : Int)] 78)).drew base eC 78 vL L := own_keep hL fun g hg => hal.block g (own_blk hL hg).2.1
  refine (insert_ (vb := w.heap.size) (x := x) ow (Nat.le_trans hbase hal.size) hm hk (Blk.new w _ _) hne).mono ?_
  rintro e w' ⟨v', rfl, ho', hg'⟩
  have hkeep : ∀ g, g < w.heap.size → vL.ownBlock ≠ some g → w'.heap[g]? = w.heap[g]? := fun g hg hne => (hg'.block g (Nat.lt_of_lt_of_le hg hal.size) (fun e => hne e.symm)).trans (hal.block g hg)
  have t' : Two w' b off zn vH vL := h2.same (hkeep b h2.lt (two_ne h2 hL))
  have oh' : Own w' base eC 78 vH H := own_keep hH fun g hg => hkeep g (own_blk hH hg).2.1 (hsep g hg)
  obtain ⟨A, c, rfl, _, _, _, _⟩ := own_lst ho'
  refine ⟨A, _, c, rfl, t'.c1, t'.frozen (off + 1), ⟨vH, _, Two.set1 t' _, At.own (own_keep oh' fun g hg => ?_), At.own (own_keep ho' fun g hg => ?_)⟩, ?_⟩
  · have hgb : g ≠ b := fun e => by subst e; exact two_ne t' oh' hg
    exact Below.heap_setCell w' ⟨b, off + 1, none⟩ _ g hgb
  · have hgb : g ≠ b := fun e => by subst e; exact two_ne t' ho' hg
    exact Below.heap_setCell w' ⟨b, off + 1, none⟩ _ g hgb
  · refine Keep.setCell ?_ (fun _ _ h => h.1 rfl) _
    refine ⟨hg'.os.trans hal.os, hg'.tape.trans hal.tape, hg'.output.trans hal.output, Nat.le_trans hal.size hg'.size, fun i o ho hi => ?_⟩
    rw [hkeep i (lt_of_some ho) (fun e => by have := (own_blk hL e).1; omega)]
    exact ho
set_option maxHeartbeats 4000000 in
theorem wait_ {w : World} {b base off : Nat} {zn : Zn} {vH vL : Value} {H L : List Cl} (h2 : Two w b off zn vH vL) (hbb : b < base) (hbase : base ≤ w.heap.size) (hH : Own w base eC 78 vH H) (hL : Own w base eC 78 vL L) (hsep : ∀ g, vH.ownBlock = some g → vL.ownBlock ≠ some g)
    (hn : H.length ≤ 100000) (hm : L.length ≤ 100000) (x : Cl) :
    Calls Tryd.prog 41 #[.pointer (some ⟨b, off, none⟩), valC x] w fun e w' => e = .returned (.tuple #[]) ∧ Lock w' b off zn (H, waitP H L x) ∧ Keep (fun i _ => i ≠ b ∧ i < base) w w' := by
  have hal := alloc_below w (.cells #[.int .i64 x.1, .int .i64 (x.2 : Int)] 78)
  have hbs := h2.lt
  have e0 : (w.alloc (.cells #[.int .i64 x.1, .int .i64 (x.2 : Int)] 78)).cell? ⟨w.heap.size, 0, none⟩ = some (.int .i64 x.1) := (Blk.new w _ _).cell 0
  have e1 : (w.alloc (.cells #[.int .i64 x.1, .int .i64 (x.2 : Int)] 78)).cell? ⟨w.heap.size, 1, none⟩ = some (.int .i64 (x.2 : Int)) := (Blk.new w _ _).cell 1
  have t1 := Two.below h2 hal hbs
  have p0 := t1.c0
  have p1 := t1.c1
  have o1 := own_keep (W' := w.alloc (.cells #[.int .i64 x.1, .int .i64 (x.2 : Int)] 78)) hH fun g hg => hal.block g (own_blk hH hg).2.1
  have o2 := own_keep (W' := w.alloc (.cells #[.int .i64 x.1, .int .i64 (x.2 : Int)] 78)) hL fun g hg => hal.block g (own_blk hL hg).2.1
  obtain ⟨A1, c1, eH, l1, _, _, _⟩ := own_lst o1
  obtain ⟨A2, c2, eL, l2, _, _, _⟩ := own_lst o2
  have hcase := has_place H x.1
  have hwt : ∀ spot, spot = spotP H L x.1 → insP L spot x = waitP H L x := fun spot e => by rw [e]; rfl
  have hs1 : hasP H x.1 = true → spotP H L x.1 = frontP H L := fun h => by unfold spotP; rw [h]; rfl
  have hs2 : hasP H x.1 = false → spotP H L x.1 = L.length := fun h => by unfold spotP; rw [h]; rfl
  have hsl := spot_le H L x.1
  have hpl := fun W (hb : Below (w.alloc (.cells #[.int .i64 x.1, .int .i64 (x.2 : Int)] 78)).heap.size _ W) => place_ (w := W) (c := c1) (l1.below hb) rfl (by omega) x.1
  have hsz : (w.alloc (.cells #[.int .i64 x.1, .int .i64 (x.2 : Int)] 78)).heap.size = w.heap.size + 1 := by simp
  obtain ⟨x1, x2⟩ := x
  unfold valC
  simp only at *
  have HP := Lib.hid hpl
  have HAL := Lib.hid hal
  have T1 := Lib.hid t1
  have O1 := Lib.hid o1
  have O2 := Lib.hid o2
  have HE1 := Lib.hid eH
  have HE2 := Lib.hid eL
  rw [eH] at p0
  rw [eL] at p1
  have HS1 := Lib.hid hs1
  have HS2 := Lib.hid hs2
  have HW := Lib.hid hwt
  have HSL := Lib.hid hsl
  have HSEP := Lib.hid hsep
  have HN0 := Lib.hid hn
  have HM0 := Lib.hid hm
  clear hpl hal t1 o1 o2 hs1 hs2 hwt hsl hsep hH hL l1 l2 h2 hn hm
  generalize hnn : H.length = n at *
  generalize hmm : L.length = m at *
  generalize hasP H x1 = hh at *
  generalize idxI (isW x1) H = z at *
  go_enter Tryd.func41, Tryd.ntmps41
  go_wp2_with fail
  generalize w.alloc (.cells #[.int .i64 x1, .int .i64 (x2 : Int)] 78) = wA at *
  refine wp_region_still_tail 6 (by kernel_rfl) (by kernel_rfl) ?_
  simp only [List.take_succ_cons, List.take_zero, List.drop_succ_cons, List.drop_zero]
  repeat still_step
  refine wpStill_nil ?_
  go_wp2_with fail
  refine (HP.out _ (Below.refl _ _).drew).mono ?_
  rintro e w1 ⟨rfl, hb1⟩
  have hbA : b < wA.heap.size := T1.out.lt
  have HB1 := Lib.hid (below_drew_on (Below.refl _ wA) hb1 (Nat.le_refl _))
  have T2 := Lib.hid (T1.out.below HB1.out hbA)
  have O3 := Lib.hid (own_keep O1.out fun g hg => HB1.out.block g (own_blk O1.out hg).2.1)
  have O4 := Lib.hid (own_keep O2.out fun g hg => HB1.out.block g (own_blk O2.out hg).2.1)
  have q0 := T2.out.c0
  have q1 := T2.out.c1
  have d0 : w1.cell? ⟨w.heap.size, 0, none⟩ = some (.int .i64 x1) := (cell_of_heap (HB1.out.block _ (by omega)) 0).trans e0
  have d1 : w1.cell? ⟨w.heap.size, 1, none⟩ = some (.int .i64 (x2 : Int)) := (cell_of_heap (HB1.out.block _ (by omega)) 1).trans e1
  rw [HE1.out] at q0
  rw [HE2.out] at q1
  clear hb1 e0 e1 p0 p1
  rcases hcase with ⟨rfl, rfl⟩ | ⟨rfl, q, rfl⟩
  · have Tw1 := T2
    have OHw1 := O3
    have OLw1 := O4
    have HBw1 := HB1
    have HS := Lib.hid (HS2.out (by simp))
    have hww1 : base ≤ w1.heap.size := Nat.le_trans hbase (Nat.le_trans HAL.out.size HBw1.out.size)
    have pA : (w1.alloc (.cells #[.int .i64 x1, .int .i64 (x2 : Int)] 78)).drew.cell? ⟨b, off + 1, none⟩ = some (.slice A2 m c2) := (cell_of_heap ((alloc_below w1 _).block b Tw1.out.lt) (off + 1)).trans q1
    have hins := put_line (w := w1) Tw1.out hbb hww1 OHw1.out OLw1.out HSEP.out (by rw [hmm]; exact HM0.out) (x1, x2) (k := m) (by rw [hmm]; exact Nat.le_refl _)
    have HIN := Lib.hid hins
    clear hins
    rw [HE2.out] at HIN
    simp only at HIN
    go_wp2_with fail
    go_region_with (go_at_call 60; refine HIN.out.mono ?_; rintro e w3 ⟨A3, n3, c3, rfl, g1, g2, g3⟩; have G3 := Lib.hid g3; clear g3)
    all_goals
      go_end0
      refine ⟨rfl, ?_, ?_⟩
      · rw [← HW.out _ (HS.out.symm)]
        exact G3.out.1
      · exact (Keep.of_below HAL.out).mono (fun _ _ _ h => h) |>.trans ((Keep.of_below HBw1.out).trans G3.out.2)
  · have hwh := waiting_ (b := b) (vH := vH) (vL := vL) T2.out (At.own O3.out) (At.own O4.out) (by rw [hnn]; exact HN0.out) (by rw [hmm]; exact HM0.out)
    have HS := Lib.hid (HS1.out (by simp))
    have hfl : frontP H L ≤ m := by rw [← HS.out]; exact HSL.out
    have HWH := Lib.hid hwh
    clear hwh
    generalize frontP H L = k at *
    go_wp2_with fail
    refine HWH.out.mono ?_
    rintro e w2 ⟨rfl, hb2⟩
    have HBw2 := Lib.hid (HB1.out.trans (hb2.mono HB1.out.size))
    have Tw2 := Lib.hid (T1.out.below HBw2.out hbA)
    have OHw2 := Lib.hid (own_keep O1.out fun g hg => HBw2.out.block g (own_blk O1.out hg).2.1)
    have OLw2 := Lib.hid (own_keep O2.out fun g hg => HBw2.out.block g (own_blk O2.out hg).2.1)
    have r0 := (cell_of_heap (hb2.block b T2.out.lt) off).trans q0
    have r1 := (cell_of_heap (hb2.block b T2.out.lt) (off + 1)).trans q1
    have s0 := (cell_of_heap (hb2.block w.heap.size (block_of_cell d0)) 0).trans d0
    have s1 := (cell_of_heap (hb2.block w.heap.size (block_of_cell d0)) 1).trans d1
    clear q0 q1 d0 d1 hb2
    have hww2 : base ≤ w2.heap.size := Nat.le_trans hbase (Nat.le_trans HAL.out.size HBw2.out.size)
    have pA : (w2.alloc (.cells #[.int .i64 x1, .int .i64 (x2 : Int)] 78)).drew.cell? ⟨b, off + 1, none⟩ = some (.slice A2 m c2) := (cell_of_heap ((alloc_below w2 _).block b Tw2.out.lt) (off + 1)).trans r1
    have hins := put_line (w := w2) Tw2.out hbb hww2 OHw2.out OLw2.out HSEP.out (by rw [hmm]; exact HM0.out) (x1, x2) (k := k) (by rw [hmm]; exact hfl)
    have HIN := Lib.hid hins
    clear hins
    rw [HE2.out] at HIN
    simp only at HIN
    go_wp2_with fail
    go_region_with (go_at_call 60; refine HIN.out.mono ?_; rintro e w3 ⟨A3, n3, c3, rfl, g1, g2, g3⟩; have G3 := Lib.hid g3; clear g3)
    all_goals
      go_end0
      refine ⟨rfl, ?_, ?_⟩
      · rw [← HW.out _ (HS.out.symm)]
        exact G3.out.1
      · exact (Keep.of_below HAL.out).mono (fun _ _ _ h => h) |>.trans ((Keep.of_below HBw2.out).trans G3.out.2)
end Go.Proofs.YtnjhhndggfjjdaaDoor
