/- Somebody is put into the line: package grant's waitingHolders and wait. Package grant's Ask. -/
import Derived.Test.YtnjhhndggfjjdaaGreatDoorJ05
import Derived.Deep.RegionWith
set_option maxRecDepth 4000
namespace Go.Proofs.YtnjhhndggfjjdaaGreatDoor
open Go.RowKit
def Front (w : World) (H L : List Cl) (k : Nat) (i : Value) (wr : World) : Prop := ∃ j, j + k = L.length ∧ i = .int .i64 (j : Int) ∧ (∀ q (_ : q < j) (hl : q < L.length), hasP H (L[q]).1 = true) ∧ Below w.heap.size w wr
theorem front_at {H L : List Cl} {j : Nat} (hj : j < L.length) (hb : ∀ q (_ : q < j) (hl : q < L.length), hasP H (L[q]).1 = true) (h : hasP H (L[j]).1 = false) : frontP H L = j := by
  unfold frontP
  exact (List.findIdx_eq hj).2 ⟨by simp [h], fun q hq => by simp [hb q hq (by omega)]⟩
theorem front_all {H L : List Cl} (hb : ∀ q (hl : q < L.length), hasP H (L[q]).1 = true) : frontP H L = L.length := by
  unfold frontP
  rw [List.findIdx_eq_length]
  intro x hx
  obtain ⟨j, hj, rfl⟩ := List.getElem_of_mem hx
  simp [hb j hj]
theorem has_place (H : List Cl) (who : Int) : (hasP H who = false ∧ idxI (isW who) H = -1) ∨ (hasP H who = true ∧ ∃ q : Nat, idxI (isW who) H = (q : Int)) := by
  rcases idx_cases (isW who) H with ⟨h1, h2⟩ | ⟨_, h1, h2, _⟩
  · exact .inl ⟨h2, h1⟩
  · exact .inr ⟨h2, _, h1⟩
set_option maxHeartbeats 2000000 in
theorem waiting_ {w : World} {b off : Nat} {zn : Zn} {vH vL : Value} {H L : List Cl} (h2 : Two w b off zn vH vL) (hH : At w vH H) (hL : At w vL L) (hn : H.length ≤ 100000) (hm : L.length ≤ 100000) :
    Calls Tryz.prog 79 #[.pointer (some ⟨b, off, none⟩)] w fun e w' => e = .returned (.int .i64 (frontP H L : Int)) ∧ Below w.heap.size w w' := by
  obtain ⟨A1, c1, rfl, l1, _, _, _⟩ := hH
  obtain ⟨A2, c2, rfl, l2, _, _, _⟩ := hL
  have b1 := h2.c1
  have hbs := h2.lt
  have H2 := Lib.hid h2
  have L1 := Lib.hid l1
  have L2 := Lib.hid l2
  clear h2 l1 l2
  generalize hnn : H.length = n at *
  generalize hmm : L.length = m at *
  have HN := Lib.hid hnn
  have HM := Lib.hid hmm
  clear hnn hmm
  go_enter Tryz.func79, Tryz.ntmps79
  go_wp2_with fail
  go_loopg [3, 10] m (fun k _ i wr => Front w H L k i wr)
  case atStart => exact ⟨0, by rw [HM.out]; omega, rfl, fun q hq => absurd hq (Nat.not_lt_zero q), Below.refl _ _⟩
  case round =>
    obtain ⟨j, hj, rfl, h1, hb⟩ := hrel
    have HJ := Lib.hid hj
    have H1 := Lib.hid h1
    have HB := Lib.hid hb
    clear hj h1 hb
    by_cases hlt : j < m
    · have hx : j < L.length := by rw [HM.out]; exact hlt
      obtain ⟨g, o, rfl, hgl, d1, d2⟩ := (L2.out.below HB.out).atC hx
      have hT := H2.out.below HB.out hbs
      have p0 := hT.c0
      have hbr := hT.lt
      have hbn : b ≠ wr.heap.size := Nat.ne_of_lt hbr
      have hpl := fun W (hb : Below wr.heap.size wr W) => place_ (w := W) (c := c1) ((L1.out.below HB.out).below hb) HN.out (by omega) (L[j]).1
      have hcase := has_place H (L[j]).1
      have hat : hasP H (L[j]).1 = false → frontP H L = j := front_at hx (fun q hq hl => H1.out q hq hl)
      have hon : hasP H (L[j]).1 = true → ∀ q (_ : q < j + 1) (hl : q < L.length), hasP H (L[q]).1 = true := fun h q hq hl => by
        rcases Nat.lt_or_ge q j with h5 | h5
        · exact H1.out q h5 hl
        · obtain rfl : q = j := by omega
          exact h
      have HON := Lib.hid hon
      have HAT := Lib.hid hat
      have HP := Lib.hid hpl
      clear hon hat hpl hT
      generalize hasP H (L[j]).1 = hh at *
      generalize idxI (isW (L[j]).1) H = z at *
      generalize (L[j]).1 = x1 at *
      generalize (L[j]).2 = x2 at *
      go_wp2_with fail
      have hal := alloc_below wr (.cells #[.int .i64 x1, .int .i64 (x2 : Int)] 94)
      have e0 : (wr.alloc (.cells #[.int .i64 x1, .int .i64 (x2 : Int)] 94)).cell? ⟨wr.heap.size, 0, none⟩ = some (.int .i64 x1) := (Blk.new wr _ _).cell 0
      have p0' : (wr.alloc (.cells #[.int .i64 x1, .int .i64 (x2 : Int)] 94)).cell? ⟨b, off, none⟩ = some (.slice A1 n c1) := (cell_of_heap (hal.block b hbr) off).trans p0
      have HAL := Lib.hid hal
      clear hal
      generalize wr.alloc (.cells #[.int .i64 x1, .int .i64 (x2 : Int)] 94) = wA at *
      refine wp_region_still_tail 6 (by kernel_rfl) (by kernel_rfl) ?_
      simp only [List.take_succ_cons, List.take_zero, List.drop_succ_cons, List.drop_zero]
      repeat still_step
      refine wpStill_nil ?_
      go_wp2_with fail
      refine (HP.out _ HAL.out.drew).mono ?_
      rintro e w1 ⟨rfl, hb1⟩
      have HB1 := Lib.hid (below_drew_on HAL.out hb1 HAL.out.size)
      clear hb1
      rcases hcase with ⟨rfl, rfl⟩ | ⟨rfl, q, rfl⟩
      · go_wp2_with fail
        go_ret
        exact ⟨by rw [HAT.out (by simp)]; rfl, HB.out.trans (HB1.out.mono HB.out.size)⟩
      · go_wp2_with fail
        go_roundg (m - (j + 1))
        case measure => have := HJ.out; have := HM.out; omega
        case rel => exact ⟨j + 1, by have := HM.out; omega, by go_num, HON.out (by simp), HB.out.trans (HB1.out.mono HB.out.size)⟩
    · have he : j = m := by have := HJ.out; have := HM.out; omega
      subst he
      have hf : frontP H L = j := by
        rw [front_all fun q hl => H1.out q (by have := HM.out; omega) hl]; exact HM.out
      have HF := Lib.hid hf
      have p1 := (H2.out.below HB.out hbs).c1
      clear hf
      go_wp2_with fail
      go_ret
      exact ⟨by rw [HF.out]; rfl, HB.out⟩
/-- what a change of a lock leaves: its two lists, somewhere; all blocks but the lock's own, and those from base on, as they were -/
def Lock (w : World) (b off : Nat) (zn : Zn) (s : Lk) : Prop := ∃ vH vL, Two w b off zn vH vL ∧ At w vH s.1 ∧ At w vL s.2
theorem spot_le (H L : List Cl) (who : Int) : spotP H L who ≤ L.length := by
  unfold spotP frontP
  split
  · exact List.findIdx_le_length
  · exact Nat.le_refl _
/-- a claim into the line of a lock whose lists are its own -/
theorem put_line {w : World} {b base off : Nat} {zn : Zn} {vH vL : Value} {H L : List Cl} (h2 : Two w b off zn vH vL) (hbb : b < base) (hbase : base ≤ w.heap.size) (hH : Own w base eC 94 vH H) (hL : Own w base eC 94 vL L) (hsep : ∀ g, vH.ownBlock = some g → vL.ownBlock ≠ some g) (hm : L.length ≤ 100000) (x : Cl) {k : Nat} (hk : k ≤ L.length) :
    Calls Tryz.prog 80 #[vL, .int .i64 (k : Int), .slice (some ⟨w.heap.size, 0, none⟩) 1 1] (w.alloc (.cells #[.int .i64 x.1, .int .i64 (x.2 : Int)] 94)).drew fun e w' =>
      ∃ A n c, e = .returned (.slice A n c) ∧ w'.cell? ⟨b, off + 1, none⟩ = some vL ∧ w'.frozen? ⟨b, off + 1, none⟩ = false ∧ (Lock (w'.setCell ⟨b, off + 1, none⟩ (.slice A n c)) b off zn (H, insP L k x) ∧ Keep (fun i _ => i ≠ b ∧ i < base) w (w'.setCell ⟨b, off + 1, none⟩ (.slice A n c))) := by
  have hal := alloc_below w (.cells #[.int .i64 x.1, .int .i64 (x.2 : Int)] 94)
  have hne : vL.ownBlock ≠ some w.heap.size := fun e => by have := (own_blk hL e).2.1; omega
  have ow : Own (w.alloc (.cells #[.int .i64 x.1, .int .i64 (x.2 : Int)] 94)).drew base eC 94 vL L := own_keep hL fun g hg => hal.block g (own_blk hL hg).2.1
  refine (insert_ (vb := w.heap.size) (x := x) ow (Nat.le_trans hbase hal.size) hm hk (Blk.new w _ _) hne).mono ?_
  rintro e w' ⟨v', rfl, ho', hg'⟩
  have hkeep : ∀ g, g < w.heap.size → vL.ownBlock ≠ some g → w'.heap[g]? = w.heap[g]? := fun g hg hne => (hg'.block g (Nat.lt_of_lt_of_le hg hal.size) (fun e => hne e.symm)).trans (hal.block g hg)
  have t' : Two w' b off zn vH vL := h2.same (hkeep b h2.lt (two_ne h2 hL))
  have oh' : Own w' base eC 94 vH H := own_keep hH fun g hg => hkeep g (own_blk hH hg).2.1 (hsep g hg)
  obtain ⟨A, c, rfl, _, _, _, _⟩ := own_lst ho'
  refine ⟨A, _, c, rfl, t'.c1, t'.frozen (off + 1), ⟨vH, _, Two.set1 t' _, At.own (own_keep oh' fun g hg => ?_), At.own (own_keep ho' fun g hg => ?_)⟩, ?_⟩
  · have hgb : g ≠ b := fun e => by subst e; exact two_ne t' oh' hg
    exact Below.heap_setCell w' ⟨b, off + 1, none⟩ _ g hgb
  · have hgb : g ≠ b := fun e => by subst e; exact two_ne t' ho' hg
    exact Below.heap_setCell w' ⟨b, off + 1, none⟩ _ g hgb
  · refine Keep.setCell ?_ (fun _ _ h => h.1 rfl) _
    refine ⟨hg'.os.trans hal.os, hg'.tape.trans hal.tape, hg'.output.trans hal.output, Nat.le_trans hal.size hg'.size, fun i o ho hi => ?_⟩
    rw [hkeep i (lt_of_some ho) (fun e => by have := (own_blk hL e).1; omega)]
    exact ho
set_option maxHeartbeats 4000000 in
theorem wait_ {w : World} {b base off : Nat} {zn : Zn} {vH vL : Value} {H L : List Cl} (h2 : Two w b off zn vH vL) (hbb : b < base) (hbase : base ≤ w.heap.size) (hH : Own w base eC 94 vH H) (hL : Own w base eC 94 vL L) (hsep : ∀ g, vH.ownBlock = some g → vL.ownBlock ≠ some g)
    (hn : H.length ≤ 100000) (hm : L.length ≤ 100000) (x : Cl) :
    Calls Tryz.prog 55 #[.pointer (some ⟨b, off, none⟩), valC x] w fun e w' => e = .returned (.tuple #[]) ∧ Lock w' b off zn (H, waitP H L x) ∧ Keep (fun i _ => i ≠ b ∧ i < base) w w' := by
  have hal := alloc_below w (.cells #[.int .i64 x.1, .int .i64 (x.2 : Int)] 94)
  have hbs := h2.lt
  have e0 : (w.alloc (.cells #[.int .i64 x.1, .int .i64 (x.2 : Int)] 94)).cell? ⟨w.heap.size, 0, none⟩ = some (.int .i64 x.1) := (Blk.new w _ _).cell 0
  have e1 : (w.alloc (.cells #[.int .i64 x.1, .int .i64 (x.2 : Int)] 94)).cell? ⟨w.heap.size, 1, none⟩ = some (.int .i64 (x.2 : Int)) := (Blk.new w _ _).cell 1
  have t1 := Two.below h2 hal hbs
  have p0 := t1.c0
  have p1 := t1.c1
  have o1 := own_keep (W' := w.alloc (.cells #[.int .i64 x.1, .int .i64 (x.2 : Int)] 94)) hH fun g hg => hal.block g (own_blk hH hg).2.1
  have o2 := own_keep (W' := w.alloc (.cells #[.int .i64 x.1, .int .i64 (x.2 : Int)] 94)) hL fun g hg => hal.block g (own_blk hL hg).2.1
  obtain ⟨A1, c1, eH, l1, _, _, _⟩ := own_lst o1
  obtain ⟨A2, c2, eL, l2, _, _, _⟩ := own_lst o2
  have hcase := has_place H x.1
  have hwt : ∀ spot, spot = spotP H L x.1 → insP L spot x = waitP H L x := fun spot e => by rw [e]; rfl
  have hs1 : hasP H x.1 = true → spotP H L x.1 = frontP H L := fun h => by unfold spotP; rw [h]; rfl
  have hs2 : hasP H x.1 = false → spotP H L x.1 = L.length := fun h => by unfold spotP; rw [h]; rfl
  have hsl := spot_le H L x.1
  have hpl := fun W (hb : Below (w.alloc (.cells #[.int .i64 x.1, .int .i64 (x.2 : Int)] 94)).heap.size _ W) => place_ (w := W) (c := c1) (l1.below hb) rfl (by omega) x.1
  have hsz : (w.alloc (.cells #[.int .i64 x.1, .int .i64 (x.2 : Int)] 94)).heap.size = w.heap.size + 1 := by simp
  obtain ⟨x1, x2⟩ := x
  unfold valC
  simp only at *
  have HP := Lib.hid hpl
  have HAL := Lib.hid hal
  have T1 := Lib.hid t1
  have O1 := Lib.hid o1
  have O2 := Lib.hid o2
  have HE1 := Lib.hid eH
  have HE2 := Lib.hid eL
  rw [eH] at p0
  rw [eL] at p1
  have HS1 := Lib.hid hs1
  have HS2 := Lib.hid hs2
  have HW := Lib.hid hwt
  have HSL := Lib.hid hsl
  have HSEP := Lib.hid hsep
  have HN0 := Lib.hid hn
  have HM0 := Lib.hid hm
  clear hpl hal t1 o1 o2 hs1 hs2 hwt hsl hsep hH hL l1 l2 h2 hn hm
  generalize hnn : H.length = n at *
  generalize hmm : L.length = m at *
  generalize hasP H x1 = hh at *
  generalize idxI (isW x1) H = z at *
  go_enter Tryz.func55, Tryz.ntmps55
  go_wp2_with fail
  generalize w.alloc (.cells #[.int .i64 x1, .int .i64 (x2 : Int)] 94) = wA at *
  refine wp_region_still_tail 6 (by kernel_rfl) (by kernel_rfl) ?_
  simp only [List.take_succ_cons, List.take_zero, List.drop_succ_cons, List.drop_zero]
  repeat still_step
  refine wpStill_nil ?_
  go_wp2_with fail
  refine (HP.out _ (Below.refl _ _).drew).mono ?_
  rintro e w1 ⟨rfl, hb1⟩
  have hbA : b < wA.heap.size := T1.out.lt
  have HB1 := Lib.hid (below_drew_on (Below.refl _ wA) hb1 (Nat.le_refl _))
  have T2 := Lib.hid (T1.out.below HB1.out hbA)
  have O3 := Lib.hid (own_keep O1.out fun g hg => HB1.out.block g (own_blk O1.out hg).2.1)
  have O4 := Lib.hid (own_keep O2.out fun g hg => HB1.out.block g (own_blk O2.out hg).2.1)
  have q0 := T2.out.c0
  have q1 := T2.out.c1
  have d0 : w1.cell? ⟨w.heap.size, 0, none⟩ = some (.int .i64 x1) := (cell_of_heap (HB1.out.block _ (by omega)) 0).trans e0
  have d1 : w1.cell? ⟨w.heap.size, 1, none⟩ = some (.int .i64 (x2 : Int)) := (cell_of_heap (HB1.out.block _ (by omega)) 1).trans e1
  rw [HE1.out] at q0
  rw [HE2.out] at q1
  clear hb1 e0 e1 p0 p1
  rcases hcase with ⟨rfl, rfl⟩ | ⟨rfl, q, rfl⟩
  · have Tw1 := T2
    have OHw1 := O3
    have OLw1 := O4
    have HBw1 := HB1
    have HS := Lib.hid (HS2.out (by simp))
    have hww1 : base ≤ w1.heap.size := Nat.le_trans hbase (Nat.le_trans HAL.out.size HBw1.out.size)
    have pA : (w1.alloc (.cells #[.int .i64 x1, .int .i64 (x2 : Int)] 94)).drew.cell? ⟨b, off + 1, none⟩ = some (.slice A2 m c2) := (cell_of_heap ((alloc_below w1 _).block b Tw1.out.lt) (off + 1)).trans q1
    have hins := put_line (w := w1) Tw1.out hbb hww1 OHw1.out OLw1.out HSEP.out (by rw [hmm]; exact HM0.out) (x1, x2) (k := m) (by rw [hmm]; exact Nat.le_refl _)
    have HIN := Lib.hid hins
    clear hins
    rw [HE2.out] at HIN
    simp only at HIN
    go_wp2_with fail
    go_region_with (go_at_call 80; refine HIN.out.mono ?_; rintro e w3 ⟨A3, n3, c3, rfl, g1, g2, g3⟩; have G3 := Lib.hid g3; clear g3)
    all_goals
      go_end0
      refine ⟨rfl, ?_, ?_⟩
      · rw [← HW.out _ (HS.out.symm)]
        exact G3.out.1
      · exact (Keep.of_below HAL.out).mono (fun _ _ _ h => h) |>.trans ((Keep.of_below HBw1.out).trans G3.out.2)
  · have hwh := waiting_ (b := b) (vH := vH) (vL := vL) T2.out (At.own O3.out) (At.own O4.out) (by rw [hnn]; exact HN0.out) (by rw [hmm]; exact HM0.out)
    have HS := Lib.hid (HS1.out (by simp))
    have hfl : frontP H L ≤ m := by rw [← HS.out]; exact HSL.out
    have HWH := Lib.hid hwh
    clear hwh
    generalize frontP H L = k at *
    go_wp2_with fail
    refine HWH.out.mono ?_
    rintro e w2 ⟨rfl, hb2⟩
    have HBw2 := Lib.hid (HB1.out.trans (hb2.mono HB1.out.size))
    have Tw2 := Lib.hid (T1.out.below HBw2.out hbA)
    have OHw2 := Lib.hid (own_keep O1.out fun g hg => HBw2.out.block g (own_blk O1.out hg).2.1)
    have OLw2 := Lib.hid (own_keep O2.out fun g hg => HBw2.out.block g (own_blk O2.out hg).2.1)
    have r0 := (cell_of_heap (hb2.block b T2.out.lt) off).trans q0
    have r1 := (cell_of_heap (hb2.block b T2.out.lt) (off + 1)).trans q1
    have s0 := (cell_of_heap (hb2.block w.heap.size (block_of_cell d0)) 0).trans d0
    have s1 := (cell_of_heap (hb2.block w.heap.size (block_of_cell d0)) 1).trans d1
    clear q0 q1 d0 d1 hb2
    have hww2 : base ≤ w2.heap.size := Nat.le_trans hbase (Nat.le_trans HAL.out.size HBw2.out.size)
    have pA : (w2.alloc (.cells #[.int .i64 x1, .int .i64 (x2 : Int)] 94)).drew.cell? ⟨b, off + 1, none⟩ = some (.slice A2 m c2) := (cell_of_heap ((alloc_below w2 _).block b Tw2.out.lt) (off + 1)).trans r1
    have hins := put_line (w := w2) Tw2.out hbb hww2 OHw2.out OLw2.out HSEP.out (by rw [hmm]; exact HM0.out) (x1, x2) (k := k) (by rw [hmm]; exact hfl)
    have HIN := Lib.hid hins
    clear hins
    rw [HE2.out] at HIN
    simp only at HIN
    go_wp2_with fail
    go_region_with (go_at_call 80; refine HIN.out.mono ?_; rintro e w3 ⟨A3, n3, c3, rfl, g1, g2, g3⟩; have G3 := Lib.hid g3; clear g3)
    all_goals
      go_end0
      refine ⟨rfl, ?_, ?_⟩
      · rw [← HW.out _ (HS.out.symm)]
        exact G3.out.1
      · exact (Keep.of_below HAL.out).mono (fun _ _ _ h => h) |>.trans ((Keep.of_below HBw2.out).trans G3.out.2)
end Go.Proofs.YtnjhhndggfjjdaaGreatDoor
namespace Go.Proofs.YtnjhhndggfjjdaaGreatDoor
open Go.RowKit
theorem Tab.keep {w w' : World} {Q : Nat → Obj → Prop} (h : Tab w) (k : Keep Q w w') (hb : ∀ o, Q 0 o) : Tab w' := by
  have e : w'.heap[0]? = w.heap[0]? := by
    rw [Array.getElem?_eq_getElem h.lt]
    exact k.block _ _ (Array.getElem?_eq_getElem h.lt) (hb _)
  exact fun p hp => ⟨(cell_of_heap e _).trans (h p hp).1, (cell_of_heap e _).trans (h p hp).2⟩
theorem Lock.below {w w' : World} {b off : Nat} {zn : Zn} {s : Lk} (h : Lock w b off zn s) (k : Below w.heap.size w w') : Lock w' b off zn s := by
  obtain ⟨vH, vL, h2, h1, h3⟩ := h
  exact ⟨vH, vL, h2.below k h2.lt, h1.below k, h3.below k⟩
theorem granted_lock {w w' : World} {b base off : Nat} {zn : Zn} {vH vL : Value} {H L : List Cl} (h : Granted w b off zn vH vL base H w') (hbb : b < base) {H0 : List Cl} (ho : Own w base eC 94 vH H0) (h2 : Two w b off zn vH vL) (hL : Own w base eC 94 vL L) (hsep : ∀ g, vH.ownBlock = some g → vL.ownBlock ≠ some g) :
    Lock w' b off zn (H, L) ∧ Keep (fun i _ => i ≠ b ∧ i < base) w w' := by
  obtain ⟨vH', t, o, _, k⟩ := h
  refine ⟨⟨vH', vL, t, At.own o, ?_⟩, k.mono fun i ob _ hi => ⟨hi.1, fun e => ?_⟩⟩
  · refine At.own (own_keep hL fun g hg => ?_)
    obtain ⟨_, hlt, cur, hc⟩ := own_blk hL hg
    rw [hc]
    exact k.block g _ hc ⟨fun e => by subst e; exact two_ne h2 hL hg, fun e => hsep g e hg⟩
  · have := (own_blk ho e).1
    omega
/-- nobody is there, or somebody is, in this mode -/
theorem cov_zero {q : Nat} (hq : q < 6) : covB 0 q = decide (q = 0) := by
  have : ∀ q : Fin 6, covB 0 q = decide (q.1 = 0) := by decide
  exact this ⟨q, hq⟩
def AskPost (w : World) (b off : Nat) (zn : Zn) (s : Lk) (who : Int) (q : Nat) (e : Ending) (w' : World) : Prop := e = .returned (.bool (askP s who q).1) ∧ Lock w' b off zn (askP s who q).2 ∧ Keep (fun i _ => i ≠ b) w w'
theorem ask_none {s : Lk} {who : Int} {q : Nat} (h : q = 0) : askP s who q = (true, s) := by unfold askP; rw [if_pos h]
theorem ask_waits {s : Lk} {who : Int} {q : Nat} (h : q ≠ 0) (h2 : modeP s.2 who ≠ 0) : askP s who q = (false, s) := by unfold askP; rw [if_neg h, if_pos h2]
theorem ask_has {s : Lk} {who : Int} {q : Nat} (h : q ≠ 0) (h2 : modeP s.2 who = 0) (h3 : covB (modeP s.1 who) q = true) : askP s who q = (true, s) := by unfold askP; rw [if_neg h, if_neg (by simp [h2]), if_pos h3]
theorem ask_granted {s : Lk} {who : Int} {q : Nat} (h : q ≠ 0) (h2 : modeP s.2 who = 0) (h3 : covB (modeP s.1 who) q = false) (h4 : modeP s.1 who ≠ 0 ∨ s.2 = []) (h5 : fitsP s.1 (who, joinN (modeP s.1 who) q) = true) :
    askP s who q = (true, (grantP s.1 (who, joinN (modeP s.1 who) q), s.2)) := by
  unfold askP
  rw [if_neg h, if_neg (by simp [h2]), if_neg (by simp [h3]), if_pos ⟨h4, h5⟩]
theorem ask_wait {s : Lk} {who : Int} {q : Nat} (h : q ≠ 0) (h2 : modeP s.2 who = 0) (h3 : covB (modeP s.1 who) q = false) (h4 : ¬ ((modeP s.1 who ≠ 0 ∨ s.2 = []) ∧ fitsP s.1 (who, joinN (modeP s.1 who) q) = true)) :
    askP s who q = (false, (s.1, waitP s.1 s.2 (who, joinN (modeP s.1 who) q))) := by
  unfold askP
  rw [if_neg h, if_neg (by simp [h2]), if_neg (by simp [h3]), if_neg h4]
theorem keep_base {w w2 w5 w6 : World} {b : Nat} (h : Below w.heap.size w w2) (k : Keep (fun i _ => i ≠ b) w2 w5) (k2 : Keep (fun i _ => i ≠ b ∧ i < w2.heap.size) w5 w6) : Keep (fun i _ => i ≠ b) w w6 := by
  have h1 : Keep (fun i _ => i ≠ b ∧ i < w2.heap.size) w w5 := ((Keep.of_below h).trans k).mono fun _ _ _ hi => hi.1
  exact (h1.trans k2).mono fun i o ho hi => ⟨hi, Nat.lt_of_lt_of_le (lt_of_some ho) h.size⟩
set_option maxHeartbeats 2000000 in
theorem ask_ {w : World} {b off : Nat} {zn : Zn} {s : Lk} (h : Lock w b off zn s) (hok : Ok s) (hn : s.1.length ≤ 10000) (hm : s.2.length ≤ 10000) (hT : Tab w) (hb0 : 0 ≠ b) (who mode : Int) :
    Calls Tryz.prog 26 #[.pointer (some ⟨b, off, none⟩), .int .i64 who, .int .i64 mode] w (AskPost w b off zn s who (mdN mode)) := by
  obtain ⟨H, L⟩ := s
  have hq := mdN_lt mode
  have hc0 := covers_ 0 mode w hT
  rw [show mdN 0 = 0 by decide, cov_zero hq] at hc0
  have HLK := Lib.hid h
  obtain ⟨vH, vL, h2, aH, aL⟩ := h
  have b1 := h2.c1
  have b0 := h2.c0
  have hbs := h2.lt
  have hol := fun W (hb : Below w.heap.size w W) => own_lists (w := W) (h2.below hb hbs) (aH.below hb) (aL.below hb) (by simp only at hn ⊢; omega) (by simp only at hm ⊢; omega)
  obtain ⟨AH, cH, eH, lH, _, _, _⟩ := aH
  obtain ⟨AL, cL, eL, lL, _, _, _⟩ := aL
  simp only at hn hm eH eL lH lL hol
  rw [eH] at b0
  rw [eL] at b1
  have hmL := mode_of (c := cL) lL rfl (by omega) who
  have hmH := fun W (hb : Below w.heap.size w W) => mode_of (w := W) (c := cH) (lH.below hb) rfl (by omega) who
  have hhlt := mode_lt hok.mH who
  have hcv := fun W (hb : Below w.heap.size w W) => covers_ (modeP H who : Int) mode W (hT.below hb)
  have hjn := fun W (hb : Tab W) => join_ (modeP H who : Int) mode W hb
  rw [mdN_of hhlt] at hcv hjn
  have hjlt := joinN_lt hhlt hq
  have a1 : mdN mode = 0 → askP (H, L) who (mdN mode) = (true, (H, L)) := ask_none (s := (H, L))
  have a2 : mdN mode ≠ 0 → modeP L who ≠ 0 → askP (H, L) who (mdN mode) = (false, (H, L)) := ask_waits (s := (H, L))
  have a3 : mdN mode ≠ 0 → modeP L who = 0 → covB (modeP H who) (mdN mode) = true → askP (H, L) who (mdN mode) = (true, (H, L)) := ask_has (s := (H, L))
  have a4 : mdN mode ≠ 0 → modeP L who = 0 → covB (modeP H who) (mdN mode) = false → (modeP H who ≠ 0 ∨ L = []) → fitsP H (who, joinN (modeP H who) (mdN mode)) = true → askP (H, L) who (mdN mode) = (true, (grantP H (who, joinN (modeP H who) (mdN mode)), L)) := ask_granted (s := (H, L))
  have a5 : mdN mode ≠ 0 → modeP L who = 0 → covB (modeP H who) (mdN mode) = false → ¬ ((modeP H who ≠ 0 ∨ L = []) ∧ fitsP H (who, joinN (modeP H who) (mdN mode)) = true) → askP (H, L) who (mdN mode) = (false, (H, waitP H L (who, joinN (modeP H who) (mdN mode)))) := ask_wait (s := (H, L))
  unfold AskPost
  generalize askP (H, L) who (mdN mode) = RES at *
  generalize hcb : covB (modeP H who) (mdN mode) = cb at *
  generalize hjj : joinN (modeP H who) (mdN mode) = jn at *
  generalize hqq : mdN mode = q at *
  generalize modeP H who = has at *
  generalize modeP L who = ml at *
  have A1 := Lib.hid a1
  have A2 := Lib.hid a2
  have A3 := Lib.hid a3
  have A4 := Lib.hid a4
  have A5 := Lib.hid a5
  have HC := Lib.hid hc0
  have HM := Lib.hid hmL
  have HMH := Lib.hid hmH
  have HCV := Lib.hid hcv
  have HJN := Lib.hid hjn
  have HOL := Lib.hid hol
  have H2 := Lib.hid h2
  have HT := Lib.hid hT
  have HOKH := Lib.hid hok.mH
  have HN0 := Lib.hid hn
  have HM0 := Lib.hid hm
  simp only at HOKH
  clear hc0 hok hT hmL hmH hcv lH lL eH eL h2 hcb hjj hqq a1 a2 a3 a4 a5 hjn hol hn hm
  generalize hmm : L.length = m at *
  generalize hnn : H.length = n at *
  have HMM := Lib.hid hmm
  have HNN := Lib.hid hnn
  clear hmm hnn
  go_enter Tryz.func26, Tryz.ntmps26
  go_wp2_with fail
  refine HC.out.mono ?_
  rintro e w' ⟨rfl, rfl⟩
  by_cases hq0 : q = 0
  · have e : decide (q = 0) = true := by simp [hq0]
    rw [e]
    have hr := A1.out hq0
    subst hr
    go_wp2_with fail
    go_ret
    exact ⟨rfl, HLK.out, Keep.refl _⟩
  have e : decide (q = 0) = false := by simp [hq0]
  rw [e]
  have B2 := Lib.hid (A2.out hq0)
  have B3 := Lib.hid (A3.out hq0)
  have B4 := Lib.hid (A4.out hq0)
  have B5 := Lib.hid (A5.out hq0)
  clear A1 A2 A3 A4 A5 e HC
  go_wp2_with fail
  refine HM.out.mono ?_
  rintro e w1 ⟨rfl, hb1⟩
  have HB1 := Lib.hid hb1
  by_cases hl0 : ml ≠ 0
  · have hr := B2.out hl0
    subst hr
    have hne : ¬ ((ml : Int) = 0) := by omega
    clear hb1
    go_wp2_with fail
    go_ret
    exact ⟨rfl, HLK.out.below HB1.out, Keep.of_below HB1.out⟩
  obtain rfl : ml = 0 := by omega
  have C3 := Lib.hid (B3.out rfl)
  have C4 := Lib.hid (B4.out rfl)
  have C5 := Lib.hid (B5.out rfl)
  clear B2 B3 B4 B5 HM
  have p0 := (cell_of_heap (hb1.block b hbs) off).trans b0
  have p1 := (cell_of_heap (hb1.block b hbs) (off + 1)).trans b1
  clear hb1
  go_wp2_with fail
  refine (HMH.out _ HB1.out).mono ?_
  rintro e w2 ⟨rfl, hb2⟩
  have HB2 := Lib.hid (HB1.out.trans (hb2.mono HB1.out.size))
  clear hb2 p0 p1
  go_wp2_with fail
  refine (HCV.out _ HB2.out).mono ?_
  rintro e w3 ⟨rfl, rfl⟩
  cases cb
  rotate_left
  · have hr := C3.out rfl
    subst hr
    go_wp2_with fail
    go_ret
    exact ⟨rfl, HLK.out.below HB2.out, Keep.of_below HB2.out⟩
  have D4 := Lib.hid (C4.out rfl)
  have D5 := Lib.hid (C5.out rfl)
  clear C3 C4 C5 HCV
  go_wp2_with fail
  refine (HOL.out _ HB2.out).mono ?_
  rintro e w3 ⟨rfl, vH3, vL3, t3, o3, o4, sep, k3⟩
  have hbw2 : b < w2.heap.size := Nat.lt_of_lt_of_le hbs HB2.out.size
  have hsz : (w3.alloc (.cells #[.int .i64 who, .int .i64 (jn : Int)] 94)).heap.size = w3.heap.size + 1 := by simp
  have hal := alloc_below w3 (.cells #[.int .i64 who, .int .i64 (jn : Int)] 94)
  have hT3 : Tab w3 := (HT.out.below HB2.out).keep k3 fun _ => hb0
  have t4 := Two.below t3 hal t3.lt
  have o3' := own_keep (W' := w3.alloc (.cells #[.int .i64 who, .int .i64 (jn : Int)] 94)) o3 fun g hg => hal.block g (own_blk o3 hg).2.1
  have o4' := own_keep (W' := w3.alloc (.cells #[.int .i64 who, .int .i64 (jn : Int)] 94)) o4 fun g hg => hal.block g (own_blk o4 hg).2.1
  have k4 : Keep (fun i _ => i ≠ b) w2 (w3.alloc (.cells #[.int .i64 who, .int .i64 (jn : Int)] 94)) := k3.trans (Keep.of_below hal)
  have c0 : (w3.alloc (.cells #[.int .i64 who, .int .i64 (jn : Int)] 94)).cell? ⟨w3.heap.size, 0, none⟩ = some (.int .i64 who) := (Blk.new w3 _ _).cell 0
  have c1 : (w3.alloc (.cells #[.int .i64 who, .int .i64 (jn : Int)] 94)).cell? ⟨w3.heap.size, 1, none⟩ = some (.int .i64 (jn : Int)) := (Blk.new w3 _ _).cell 1
  obtain ⟨A4, c4, e4, _, _, _, _⟩ := own_lst o4'
  have p1 := t4.c1
  rw [e4, HMM.out] at p1
  obtain ⟨A5, c5, e5, l5, _, _, _⟩ := own_lst o3'
  have hfi := fits_lock t4 e5 l5 (by rw [HNN.out]; have := HN0.out; omega) HOKH.out (who, jn) hjlt (hT3.below hal)
  unfold valC at hfi
  have hw4 : w2.heap.size ≤ (w3.alloc (.cells #[.int .i64 who, .int .i64 (jn : Int)] 94)).heap.size := Nat.le_trans k3.size hal.size
  generalize hfv : fitsP H (who, jn) = fv at *
  have HFV := Lib.hid hfv
  have HFI := Lib.hid hfi
  have T3 := Lib.hid hT3
  have T4 := Lib.hid t4
  have O3 := Lib.hid o3'
  have O4 := Lib.hid o4'
  have K4 := Lib.hid k4
  have SEP := Lib.hid sep
  have hLE : L = [] → m = 0 := fun e => by rw [← HMM.out, e]; rfl
  have hLE2 : m = 0 → L = [] := fun e => List.eq_nil_of_length_eq_zero (by rw [HMM.out]; exact e)
  clear hal hT3 t4 o3' o4' k4 sep e4 e5 l5 hfi t3 o3 o4 k3 hfv b0 b1 HMH HOL H2
  go_wp2_with fail
  refine (HJN.out _ T3.out).mono ?_
  rintro e w' ⟨rfl, rfl⟩
  by_cases hh0 : has = 0
  · subst hh0
    by_cases hm0 : m = 0
    · subst hm0
      go_wp2_with fail
      refine HFI.out.mono ?_
      rintro e w5 ⟨rfl, hb5⟩
      have HB5 := Lib.hid hb5
      have d0 := (cell_of_heap (hb5.block w3.heap.size (by rw [hsz]; omega)) 0).trans c0
      have d1 := (cell_of_heap (hb5.block w3.heap.size (by rw [hsz]; omega)) 1).trans c1
      clear hb5 c0 c1
      have T5 := Lib.hid (Two.below T4.out HB5.out T4.out.lt)
      have O5 := Lib.hid (own_keep O3.out fun g hg => HB5.out.block g (own_blk O3.out hg).2.1)
      have P5 := Lib.hid (own_keep O4.out fun g hg => HB5.out.block g (own_blk O4.out hg).2.1)
      have hw5 := Nat.le_trans hw4 HB5.out.size
      cases fv
      · have hg := wait_ (base := w2.heap.size) T5.out hbw2 hw5 O5.out P5.out SEP.out (by rw [HNN.out]; have := HN0.out; omega) (by rw [HMM.out]; have := HM0.out; omega) (who, jn)
        unfold valC at hg
        have HGR := Lib.hid hg
        clear hg
        go_wp2_with fail
        refine HGR.out.mono ?_
        rintro e w6 ⟨rfl, hlk, hk6⟩
        have HLK6 := Lib.hid hlk
        have HK6 := Lib.hid hk6
        clear hlk hk6
        go_wp2_with fail
        go_ret
        rw [D5.out (fun h => by cases h.2)]
        exact ⟨rfl, HLK6.out, keep_base HB2.out (K4.out.trans (Keep.of_below HB5.out)) HK6.out⟩
      · have hg := grant_ (base := w2.heap.size) T5.out O5.out hw5 (by rw [HNN.out]; have := HN0.out; omega) (who, jn)
        unfold valC at hg
        have HGR := Lib.hid hg
        clear hg
        go_wp2_with fail
        refine HGR.out.mono ?_
        rintro e w6 ⟨rfl, hgr⟩
        have hfin := granted_lock hgr hbw2 O5.out T5.out P5.out SEP.out
        have HFIN := Lib.hid hfin
        clear hgr hfin
        go_wp2_with fail
        go_ret
        rw [D4.out (.inr (hLE2 (by simp))) (by simp)]
        exact ⟨rfl, HFIN.out.1, keep_base HB2.out (K4.out.trans (Keep.of_below HB5.out)) HFIN.out.2⟩
    · have hmn : ¬ ((m : Int) = 0) := by omega
      have HB5 := Lib.hid (Below.refl (w3.alloc (.cells #[.int .i64 who, .int .i64 (jn : Int)] 94)).heap.size (w3.alloc (.cells #[.int .i64 who, .int .i64 (jn : Int)] 94)))
      have T5 := Lib.hid (Two.below T4.out HB5.out T4.out.lt)
      have O5 := Lib.hid (own_keep O3.out fun g hg => HB5.out.block g (own_blk O3.out hg).2.1)
      have P5 := Lib.hid (own_keep O4.out fun g hg => HB5.out.block g (own_blk O4.out hg).2.1)
      have hw5 := Nat.le_trans hw4 HB5.out.size
      have hg := wait_ (base := w2.heap.size) T5.out hbw2 hw5 O5.out P5.out SEP.out (by rw [HNN.out]; have := HN0.out; omega) (by rw [HMM.out]; have := HM0.out; omega) (who, jn)
      unfold valC at hg
      have HGR := Lib.hid hg
      clear hg
      go_wp2_with fail
      refine HGR.out.mono ?_
      rintro e w6 ⟨rfl, hlk, hk6⟩
      have HLK6 := Lib.hid hlk
      have HK6 := Lib.hid hk6
      clear hlk hk6
      go_wp2_with fail
      go_ret
      rw [D5.out (fun h => hm0 (hLE (h.1.resolve_left (fun h => h rfl))))]
      exact ⟨rfl, HLK6.out, keep_base HB2.out (K4.out.trans (Keep.of_below HB5.out)) HK6.out⟩
  · have hhn : ¬ ((has : Int) = 0) := by omega
    go_wp2_with fail
    refine HFI.out.mono ?_
    rintro e w5 ⟨rfl, hb5⟩
    have HB5 := Lib.hid hb5
    have d0 := (cell_of_heap (hb5.block w3.heap.size (by rw [hsz]; omega)) 0).trans c0
    have d1 := (cell_of_heap (hb5.block w3.heap.size (by rw [hsz]; omega)) 1).trans c1
    clear hb5 c0 c1
    have T5 := Lib.hid (Two.below T4.out HB5.out T4.out.lt)
    have O5 := Lib.hid (own_keep O3.out fun g hg => HB5.out.block g (own_blk O3.out hg).2.1)
    have P5 := Lib.hid (own_keep O4.out fun g hg => HB5.out.block g (own_blk O4.out hg).2.1)
    have hw5 := Nat.le_trans hw4 HB5.out.size
    cases fv
    · have hg := wait_ (base := w2.heap.size) T5.out hbw2 hw5 O5.out P5.out SEP.out (by rw [HNN.out]; have := HN0.out; omega) (by rw [HMM.out]; have := HM0.out; omega) (who, jn)
      unfold valC at hg
      have HGR := Lib.hid hg
      clear hg
      go_wp2_with fail
      refine HGR.out.mono ?_
      rintro e w6 ⟨rfl, hlk, hk6⟩
      have HLK6 := Lib.hid hlk
      have HK6 := Lib.hid hk6
      clear hlk hk6
      go_wp2_with fail
      go_ret
      rw [D5.out (fun h => by cases h.2)]
      exact ⟨rfl, HLK6.out, keep_base HB2.out (K4.out.trans (Keep.of_below HB5.out)) HK6.out⟩
    · have hg := grant_ (base := w2.heap.size) T5.out O5.out hw5 (by rw [HNN.out]; have := HN0.out; omega) (who, jn)
      unfold valC at hg
      have HGR := Lib.hid hg
      clear hg
      go_wp2_with fail
      refine HGR.out.mono ?_
      rintro e w6 ⟨rfl, hgr⟩
      have hfin := granted_lock hgr hbw2 O5.out T5.out P5.out SEP.out
      have HFIN := Lib.hid hfin
      clear hgr hfin
      go_wp2_with fail
      go_ret
      rw [D4.out (.inl hh0) (by simp)]
      exact ⟨rfl, HFIN.out.1, keep_base HB2.out (K4.out.trans (Keep.of_below HB5.out)) HFIN.out.2⟩
end Go.Proofs.YtnjhhndggfjjdaaGreatDoor
