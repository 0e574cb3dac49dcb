/- . . -/
import Derived.Test.YtjfoflbaoceemaaGreatJ44
import Derived.Test.YtjfoflbaoceemaaGreatJ43
set_option maxRecDepth 4000
namespace Go.Proofs.YtjfoflbaoceemaaGreat
open Go.RowKit
structure StJ (w : World) (g : Nat) (cs : Array Value) (bs : List UInt8) (wk : World) : Prop where
  bel : Below w.heap.size w wk
  box : Blk wk w.heap.size 54 cs
  wr : WriterAt wk g bs
  lt : w.heap.size < g
theorem StJ.next {w wk w' : World} {g : Nat} {cs : Array Value} {bs bs' : List UInt8} (h : StJ w g cs bs wk) (hw : WriterAt w' g bs') (hk : Keep (But g) wk w') : StJ w g cs bs' w' :=
  ⟨h.bel.trans (hk.below (B := w.heap.size) h.bel.size fun i _ hi => by have := h.lt; simp only [But]; omega), h.box.keep hk (by have := h.lt; simp only [But]; omega), hw, h.lt⟩
def BtsRel (w : World) (pre : List UInt8) (l : List Ob) (k : Nat) (v i : Value) (wr : World) : Prop :=
  ∃ j, j + k = l.length ∧ i = .int .i64 (j : Int) ∧ OwnBy wr w.heap.size v (pre ++ obsB (l.take j)) ∧ Below w.heap.size w wr
structure ObZ (o : Ob) : Prop where
  name : o.name.size ≤ 9000
  rows : ∀ r ∈ o.rows, r.1.size ≤ 9000 ∧ r.2.size ≤ 9000
  msgs : ∀ m ∈ o.msgs, m.corr.size ≤ 9000 ∧ m.body.size ≤ 9000
  dead : ∀ m ∈ o.dead, m.corr.size ≤ 9000 ∧ m.body.size ≤ 9000
theorem OkD.z {next : Int} {l : List Ob} {o : Ob} (h : OkD next l o) : ObZ o := by
  obtain ⟨h1, h2, h3, h4⟩ := h.sizes
  exact ⟨by omega, fun r hr => by have := h2 r hr; omega, fun m hm => by have := h3 m hm; omega, fun m hm => by have := h4 m hm; omega⟩
theorem obB_len (o : Ob) : (obB o).length = (headB o).length + (cntM o.msgs).length + (cntM o.dead).length := by rw [obB_parts, List.length_append, List.length_append]
theorem cntM_len (l : List Mg) : (cntM l).length = 8 + (msgsB l).length := by unfold cntM; rw [List.length_append, encInt_len]
theorem obs_at_le {l : List Ob} {j : Nat} (h : j < l.length) : (obsB (l.take j)).length + (obB l[j]).length ≤ (obsB l).length := by
  have h1 := pre_le obB l (j + 1)
  rw [flat_take obB h, List.length_append] at h1
  exact h1
set_option maxHeartbeats 8000000 in
theorem bytes_n : BytesN := by
  intro w K s xs h hs hf _ next hby
  obtain ⟨A, n, c⟩ := s
  have hln : n = xs.length := h.row.len
  have hol : (obsOf xs).length = n := by rw [hln]; simp [obsOf]
  have hnm : n ≤ maxLen := Nat.le_trans h.row.cap h.row.max
  unfold maxLen at hnm
  have HB0 := ShutM.mk (alloc_below w (.cells #[.int .i64 next, .slice A n c] 54))
  have HX0 := ShutM.mk (Blk.new w 54 #[.int .i64 next, .slice A n c])
  have HH := ShutM.mk h
  have HSH := ShutM.mk hs
  have HF := ShutM.mk hf
  have HBY := ShutM.mk hby
  have HLN := ShutM.mk hln
  have HOL := ShutM.mk hol
  clear h hs hf hby hln hol
  obtain ⟨L, hL⟩ : ∃ L, imgS next (obsOf xs) = L := ⟨_, rfl⟩
  rw [hL]
  have HL := ShutM.mk hL
  clear hL
  go_enter Tryz.func75, Tryz.ntmps75
  go_wp2_with fail
  refine (right_o (HH.out.below HB0.out) HSH.out HF.out next).mono ?_
  rintro e w1 ⟨rfl, hb1⟩
  have HB1 := ShutM.mk (HB0.out.trans (hb1.mono HB0.out.size))
  have hx1 := HX0.out.below hb1 HX0.out.lt
  have d0 := hx1.cell 0
  have d1 := hx1.cell 1
  simp only [List.getElem?_toArray, List.getElem?_cons_zero, List.getElem?_cons_succ] at d0 d1
  have HX1 := ShutM.mk hx1
  clear hb1 hx1 HB0 HX0
  cases hz : rightS ⟨next, obsOf xs⟩
  · have hl0 : L = [] := by rw [← HL.out]; unfold imgS; rw [hz]; rfl
    subst hl0
    clear hz
    go_wp2_with fail
    go_ret
    exact ⟨⟨_, rfl, ⟨rfl, .inl ⟨rfl, rfl⟩⟩⟩, HB1.out⟩
  have hrd := right_iff.1 hz
  have hl0 : L = imageB next (obsOf xs) := by rw [← HL.out]; unfold imgS; rw [hz]; rfl
  have hbig := HBY.out hrd
  have hle : (obsB (obsOf xs)).length + 16 ≤ 500000 := by
    unfold imageB at hbig
    simp only [List.length_append, encInt_len] at hbig
    omega
  have hZ : ∀ x ∈ xs, ObZ x.o := fun x hx => by
    obtain ⟨i, hi, e⟩ := List.getElem_of_mem (List.mem_map_of_mem (f := Oc.o) hx)
    have := (hrd.ok i hi).z
    rw [e] at this
    exact this
  have HLE := ShutM.mk hle
  have HZ := ShutM.mk hZ
  have HIM : ShutM (L = (encInt next ++ encInt (n : Int)) ++ obsB (obsOf xs)) := ⟨by rw [hl0]; unfold imageB; rw [HOL.out]⟩
  have hj0 : StJ w w1.heap.size #[.int .i64 next, .slice A n c] [] (w1.alloc (.cells #[.pointer none, .int .i64 0] 151)) :=
    ⟨HB1.out.trans ((alloc_below w1 _).mono HB1.out.size), HX1.out.alloc _, writer_new w1, HX1.out.lt⟩
  have HJ0 := ShutM.mk hj0
  have e0 := hj0.box.cell 0
  simp only [List.getElem?_toArray, List.getElem?_cons_zero] at e0
  clear hz hrd hbig hle hZ hj0 HL HBY HX1 hl0
  go_wp2_with fail
  refine (wInt _ _ _ next HJ0.out.wr (by simp)).mono ?_
  rintro e w2 ⟨rfl, hw2, hk2⟩
  rw [List.nil_append] at hw2
  have HJ2 := ShutM.mk (HJ0.out.next hw2 hk2)
  have e1 := HJ2.out.box.cell 1
  simp only [List.getElem?_toArray, List.getElem?_cons_zero, List.getElem?_cons_succ] at e1
  clear hw2 hk2 HJ0 d0 d1 e0
  go_wp2_with fail
  refine (wInt _ _ _ (n : Int) HJ2.out.wr (by rw [encInt_len]; omega)).mono ?_
  rintro e w3 ⟨rfl, hw3, hk3⟩
  have HJ3 := ShutM.mk (HJ2.out.next hw3 hk3)
  clear hw3 hk3 HJ2 e1
  go_wp2_with fail
  refine (wBytes _ _ _ HJ3.out.wr (by simp [encInt_len])).mono ?_
  rintro e w4 ⟨rfl, hb4, hB4⟩
  obtain ⟨q3, hq3⟩ : ∃ q, (encInt next ++ encInt (n : Int)).length = q := ⟨_, rfl⟩
  have ho : OwnBy w4 w.heap.size (.slice (some ⟨w3.heap.size, 0, none⟩) q3 q3) (encInt next ++ encInt (n : Int)) := by
    rw [← hq3]
    exact ownBy_blk (base := w.heap.size) hb4 HJ3.out.bel.size (by rw [List.length_append, encInt_len, encInt_len]; unfold maxLen; omega)
  rw [hq3]
  have HPL : ShutM ((encInt next ++ encInt (n : Int)).length = 16) := ⟨by rw [List.length_append, encInt_len, encInt_len]⟩
  have hbx := HJ3.out.box.below hB4 HJ3.out.box.lt
  have e1 := hbx.cell 1
  simp only [List.getElem?_toArray, List.getElem?_cons_zero, List.getElem?_cons_succ] at e1
  have HO := ShutM.mk ho
  have HB4 := ShutM.mk (HJ3.out.bel.trans (hB4.mono HJ3.out.bel.size))
  clear hb4 hB4 ho hbx HJ3 hq3
  go_wp2_with fail
  clear e1
  generalize encInt next ++ encInt (n : Int) = pre at *
  generalize w3.heap.size = g3 at *
  go_loopg [4, 21] n (fun k v i wr => BtsRel w pre (obsOf xs) k v i wr)
  case atStart => exact ⟨0, by rw [HOL.out]; omega, rfl, by have := HO.out; rw [List.take_zero]; simpa [obsB] using this, HB4.out⟩
  case round =>
    obtain ⟨j, hj, rfl, ho, hb⟩ := hrel
    have HJ := ShutM.mk hj
    have HO5 := ShutM.mk ho
    have HB5 := ShutM.mk hb
    clear hj ho hb HO HB4
    by_cases hlt : j < n
    · have hx : j < xs.length := by have := HLN.out; omega
      have hx2 : j < (obsOf xs).length := by have := HOL.out; omega
      have hxe : (obsOf xs)[j] = xs[j].o := by simp [obsOf]
      have hmem := List.getElem_mem hx
      have hsz := HZ.out _ hmem
      have hsh := HSH.out _ hmem
      have hoc := HH.out.all _ hmem
      have hy : pre ++ obsB ((obsOf xs).take (j + 1)) = (((pre ++ obsB ((obsOf xs).take j)) ++ headB xs[j].o) ++ cntM xs[j].o.msgs) ++ cntM xs[j].o.dead := by
        unfold obsB
        rw [flat_take obB hx2, hxe, obB_parts]
        simp only [List.append_assoc]
      have hyl : (pre ++ obsB ((obsOf xs).take j)).length + (headB xs[j].o).length + (cntM xs[j].o.msgs).length + (cntM xs[j].o.dead).length ≤ 500100 := by
        have h1 := obs_at_le hx2
        rw [hxe, obB_len] at h1
        have h2 := HLE.out
        have h3 := HPL.out
        rw [List.length_append]; omega
      obtain ⟨b, o, rfl, hbs, c0, c1, c2, c3, c4, c5⟩ := (HH.out.row.lst.below HB5.out).atO hx
      generalize xs[j] = x at *
      generalize hy2 : pre ++ obsB ((obsOf xs).take (j + 1)) = y2 at *
      generalize pre ++ obsB ((obsOf xs).take j) = y1 at *
      have HBT := ShutM.mk (BtJ.first (T := 77) (cs := x.cells) HO5.out HB5.out)
      have HOC := ShutM.mk hoc
      have HY : ShutM (pre ++ obsB ((obsOf xs).take (j + 1)) = ((y1 ++ headB x.o) ++ cntM x.o.msgs) ++ cntM x.o.dead) := ⟨hy2.trans hy⟩
      have HYL := ShutM.mk hyl
      have HSZ := ShutM.mk hsz
      have HSO := ShutM.mk hsh
      clear hx hx2 hxe hmem hsz hsh hoc hy hy2 hyl
      obtain ⟨ob, ⟨rA, rn, rc⟩, ⟨mA, mn, mc⟩, ⟨dA, dn, dc⟩⟩ := x
      simp only [Oc.cells] at c0 c1 c2 c3 c4 c5 HBT
      have hih : ∀ W : World, Below w.heap.size w W → Calls Tryz.prog 137 #[.agg #[.string ob.name, .int .i64 ob.kind, .int .i64 ob.limit, .slice rA rn rc, .slice mA mn mc, .slice dA dn dc]] W fun e w' => ∃ g, e = .returned (.slice (some ⟨g, 0, none⟩) (headB ob).length (headB ob).length) ∧ Blk w' g 5 (cellsB (headB ob)).toArray ∧ Below W.heap.size W w' := fun W k =>
        ihead_ (x := ⟨ob, ⟨rA, rn, rc⟩, ⟨mA, mn, mc⟩, ⟨dA, dn, dc⟩⟩) (HOC.out.rows.below k) HSO.out.1 (by have := HYL.out; show (headB ob).length ≤ 600000; simp only at this; omega) HSZ.out.name HSZ.out.rows
      have him : ∀ W : World, Below w.heap.size w W → Calls Tryz.prog 138 #[.slice mA mn mc] W fun x w' => ∃ v, x = .returned v ∧ OwnBy w' W.heap.size v (cntM ob.msgs) ∧ Below W.heap.size W w' := fun W k =>
        imsgs_ (HOC.out.msgs.below k).lst HOC.out.msgs.len.symm (by have h1 := HOC.out.msgs.len; have h2 := HSO.out.2.1; simp only at h1 h2; omega) HSZ.out.msgs (by have h1 := HYL.out; have h2 := cntM_len ob.msgs; simp only at h1 h2 ⊢; omega)
      have hid : ∀ W : World, Below w.heap.size w W → Calls Tryz.prog 138 #[.slice dA dn dc] W fun x w' => ∃ v, x = .returned v ∧ OwnBy w' W.heap.size v (cntM ob.dead) ∧ Below W.heap.size W w' := fun W k =>
        imsgs_ (HOC.out.dead.below k).lst HOC.out.dead.len.symm (by have h1 := HOC.out.dead.len; have h2 := HSO.out.2.2; simp only at h1 h2; omega) HSZ.out.dead (by have h1 := HYL.out; have h2 := cntM_len ob.dead; simp only at h1 h2 ⊢; omega)
      have HIH := ShutM.mk hih
      have HIMM := ShutM.mk him
      have HIMD := ShutM.mk hid
      have hyl3 := HYL.out
      simp only at hyl3
      have HYL3 := ShutM.mk hyl3
      clear hih him hid hyl3
      go_wp2_with fail
      refine (HIH.out _ HBT.out.bel).mono ?_
      rintro e w6 ⟨g6, rfl, hx6, hb6⟩
      obtain ⟨A7, n7, c7, w7, hap7, hbt7⟩ := HBT.out.app hb6 (blk_rb hx6 hx6.lt) (headB ob).length (by have := HYL3.out; omega)
      have HBT7 := ShutM.mk hbt7
      have d4 := HBT7.out.box.cell 4
      simp only [List.getElem?_toArray, List.getElem?_cons_zero, List.getElem?_cons_succ] at d4
      clear hx6 hb6 hbt7 HBT HO5 HB5 c0 c1 c2 c3 c4 c5
      go_wp2_with (at_builtin; refine wpList_append_run rfl (.tmp 25) (.tmp 27) 42 42 rfl _ _ rfl rfl hap7 ?_)
      refine (HIMM.out _ HBT7.out.bel).mono ?_
      rintro e w8 ⟨v8, rfl, ho8, hb8⟩
      obtain ⟨A8, c8, rfl, hr8, -, -, -⟩ := ownBy_slice ho8
      obtain ⟨A9, n9, c9, w9, hap9, hbt9⟩ := HBT7.out.app hb8 hr8 c8 (by have := HYL3.out; rw [List.length_append]; omega)
      have HBT9 := ShutM.mk hbt9
      have d5 := HBT9.out.box.cell 5
      simp only [List.getElem?_toArray, List.getElem?_cons_zero, List.getElem?_cons_succ] at d5
      clear ho8 hb8 hr8 hbt9 HBT7 d4 hap7
      go_wp2_with (at_builtin; refine wpList_append_run rfl (.tmp 29) (.tmp 32) 42 42 rfl _ _ rfl rfl hap9 ?_)
      refine (HIMD.out _ HBT9.out.bel).mono ?_
      rintro e w10 ⟨v10, rfl, ho10, hb10⟩
      obtain ⟨A10, c10, rfl, hr10, -, -, -⟩ := ownBy_slice ho10
      obtain ⟨A11, n11, c11, w11, hap11, hbt11⟩ := HBT9.out.app hb10 hr10 c10 (by have := HYL3.out; rw [List.length_append, List.length_append]; omega)
      have HBT11 := ShutM.mk hbt11
      clear ho10 hb10 hr10 hbt11 HBT9 d5 hap9
      go_wp2_with (at_builtin; refine wpList_append_run rfl (.tmp 34) (.tmp 37) 42 42 rfl _ _ rfl rfl hap11 ?_)
      go_roundg (n - (j + 1))
      case measure => have := HJ.out; have := HOL.out; omega
      case rel => exact ⟨j + 1, by have := HOL.out; omega, by go_num, by rw [HY.out]; exact HBT11.out.own, HBT11.out.bel⟩
    · have he : j = (obsOf xs).length := by have := HJ.out; have := HOL.out; omega
      have h5 := HO5.out
      rw [he, List.take_length, ← HIM.out] at h5
      obtain ⟨Az, cz, rfl, -⟩ := ownBy_slice h5
      have HRZ := ShutM.mk h5
      clear he h5 HO5
      go_wp2
      go_ret
      exact ⟨⟨_, rfl, HRZ.out⟩, HB5.out⟩
end Go.Proofs.YtjfoflbaoceemaaGreat
namespace Go.Proofs.YtjfoflbaoceemaaGreat
open Go.RowKit
structure RdJ (w : World) (G g : Nat) (low : Bool) (r : Rd) (wk : World) : Prop where
  bel : Below w.heap.size w wk
  res : Blk wk w.heap.size 54 #[.int .i64 0, .slice none 0 0]
  rx : RX wk G g g low r
  lt : w.heap.size < g
section
variable {w wk w' : World} {G g : Nat} {low low2 : Bool} {r r2 : Rd}
theorem RdJ.call (h : RdJ w G g low r wk) (k : Keep (But2 g G) wk w') (hx : RX w' G g g low2 r2) : RdJ w G g low2 r2 w' :=
  ⟨h.bel.trans (k.below (B := w.heap.size) h.bel.size fun i _ hi => by have := h.lt; have := hx.lt; exact ⟨by omega, by omega⟩), h.res.keep k (by have := h.lt; have := hx.lt; exact ⟨by omega, by omega⟩), hx, h.lt⟩
theorem RdJ.step (h : RdJ w G g low r wk) (k : Below wk.heap.size wk w') : RdJ w G g low r w' :=
  ⟨h.bel.trans (k.mono h.bel.size), h.res.below k h.res.lt, h.rx.below k, h.lt⟩
end
theorem rd_dead {r : Rd} (h : r.bad = true) : r.done = false := by rw [Rd.done, h]; rfl
theorem low_open {low : Bool} {r2 r : Rd} (h : Sim low r2 r) (hl : low = true) : r.done = false := by
  rcases h with ⟨h, _⟩ | ⟨h, _⟩
  · rw [hl] at h; cases h
  · exact rd_dead h
theorem end_open {low : Bool} {r2 r : Rd} (h : Sim low r2 r) (hd : r2.done = false) : r.done = false := by
  rcases h with ⟨_, h⟩ | ⟨h, _⟩
  · rw [← h]; exact hd
  · exact rd_dead h
theorem end_done {r2 r : Rd} (h : Sim false r2 r) (hd : r2.done = true) : r.done = true := by
  rcases h with ⟨_, h⟩ | ⟨_, h | h⟩
  · rw [← h]; exact hd
  · cases h
  · rw [rd_dead h] at hd; cases hd
theorem not_bad {r : Rd} (h : r.done = true) : r.bad = false := by
  cases e : r.bad
  · rfl
  · rw [rd_dead e] at h; cases h
theorem no_end {α : Type} {x : Option α} {d b : Bool} {p : α} (h : x = if (d && b) = true then some p else none) (hd : d = false) : x = none := by rw [h, hd]; rfl
theorem no_right {α : Type} {x : Option α} {d b : Bool} {p : α} (h : x = if (d && b) = true then some p else none) (hb : b = false) : x = none := by rw [h, hb, Bool.and_false]; rfl
theorem yes_end {α : Type} {x : Option α} {d b : Bool} {p : α} (h : x = if (d && b) = true then some p else none) (hd : d = true) (hb : b = true) : x = some p := by rw [h, hd, hb]; rfl
set_option maxHeartbeats 8000000 in
theorem read_n : ReadN := by
  intro w B n c A bs hrb hB hn hfit hA hnc hcm
  have k1 := alloc_below w (.cells #[.int .i64 0, .slice none 0 0] 54)
  have hrb1 : RB (w.alloc (.cells #[.int .i64 0, .slice none 0 0] 54)) (w.alloc (.cells #[.int .i64 0, .slice none 0 0] 54)).heap.size A n bs := (hrb.below (k1.mono hB)).more (Nat.le_trans hB k1.size)
  have HR1 := ShutL2.mk hrb1
  have K1 := ShutL2.mk k1
  have HX1 := ShutL2.mk (Blk.new w 54 #[.int .i64 0, .slice none 0 0])
  have HFIT := ShutL2.mk hfit
  have HLN := ShutL2.mk hrb.1
  have hsz1 : (w.alloc (.cells #[.int .i64 0, .slice none 0 0] 54)).heap.size = w.heap.size + 1 := by simp
  have HSZ1 := ShutL2.mk hsz1
  clear hrb hB hfit k1 hrb1 hsz1
  go_enter Tryz.func69, Tryz.ntmps69
  go_wp2_with fail
  refine (newReader _ A n c bs HR1.out (by omega) hA).mono ?_
  rintro e w2 ⟨g, rfl, hg2, hr2, hb2⟩
  have hj2 : RdJ w w2.heap.size g false ⟨bs, false⟩ (w2.alloc (.cells #[.pointer (some ⟨g, 0, none⟩), .bool false] 184)) := by
    have ha := alloc_below w2 (.cells #[.pointer (some ⟨g, 0, none⟩), .bool false] 184)
    have hs := HSZ1.out
    have hbel : Below w.heap.size w w2 := K1.out.trans (hb2.mono K1.out.size)
    exact ⟨hbel.trans (ha.mono hbel.size), (HX1.out.below hb2 HX1.out.lt).below ha (Nat.lt_of_lt_of_le HX1.out.lt hb2.size), ⟨Blk.new w2 184 _, hr2.belowR ha, hr2.lt, by have := HLN.out; show bs.length ≤ 500000; omega⟩, by omega⟩
  have HJ2 := ShutL2.mk hj2
  obtain ⟨c0, -, -⟩ := hj2.rx.cells
  clear hg2 hr2 hb2 hj2 HR1 K1 HX1 HSZ1 hA
  go_wp2_with fail
  generalize w2.alloc (.cells #[.pointer (some ⟨g, 0, none⟩), .bool false] 184) = w3 at *
  generalize w2.heap.size = G at *
  refine (rdInt _ _ _ _ HJ2.out.rx.rd).mono ?_
  rintro e w4 ⟨rfl, hr4, hk4⟩
  have HJ4 := ShutL2.mk (HJ2.out.call (hk4.but2 (G := G)) (HJ2.out.rx.read hr4 hk4 (got_int _).le))
  clear hr4 hk4 c0 HJ2
  go_wp2_with fail
  refine (list_o object_ok HJ4.out.rx (Sim.refl _)).mono ?_
  rintro e w5 ⟨⟨sa, sn, sc⟩, ys, lw, r2, rfl, hsl, hmm, hx5, hs5, hv5, hk5, -⟩
  have HJ5 := ShutL2.mk (HJ4.out.call hk5 hx5)
  have hlo : w.heap.size < w4.heap.size := HJ4.out.res.lt
  have hoa : ObsAt w5 (fun i => w.heap.size < i) ⟨sa, sn, sc⟩ ys := ⟨hsl.more fun i _ hi => by omega, fun x hx => (hmm x hx).more fun i _ hi => by omega⟩
  have HOA := ShutL2.mk hoa
  have hsim : Sim lw r2 (objsR ⟨bs, false⟩) := hs5
  have hval : (objsR ⟨bs, false⟩).bad = false → obsOf ys = objsV ⟨bs, false⟩ := hv5
  have HSIM := ShutL2.mk hsim
  have HVAL := ShutL2.mk hval
  have hri : readI bs = if ((objsR ⟨bs, false⟩).done && rightS ⟨(⟨bs, false⟩ : Rd).int.1, objsV ⟨bs, false⟩⟩) = true then some ((⟨bs, false⟩ : Rd).int.1, objsV ⟨bs, false⟩) else none := rfl
  have HRI := ShutL2.mk hri
  clear hsl hmm hx5 hs5 hv5 hk5 hlo hoa hsim hval hri HJ4
  generalize (⟨bs, false⟩ : Rd).int.1 = next at *
  generalize objsR ⟨bs, false⟩ = ro at *
  generalize objsV ⟨bs, false⟩ = ov at *
  have HX6 := ShutL2.mk (Blk.new w5 54 #[.int .i64 next, .slice sa sn sc])
  have K6 := ShutL2.mk (alloc_below w5 (.cells #[.int .i64 next, .slice sa sn sc] 54))
  have HJ6 := ShutL2.mk (HJ5.out.step K6.out)
  obtain ⟨c0, c1, -⟩ := HJ6.out.rx.cells
  clear HJ5
  go_upto_region 3 with fail
  generalize w5.alloc (.cells #[.int .i64 next, .slice sa sn sc] 54) = w6 at *
  obtain ⟨d0, d1⟩ := blk_two HX6.out
  cases lw
  rotate_left
  · have HNO := ShutL2.mk (no_end HRI.out (low_open HSIM.out rfl))
    clear HRI HSIM HVAL HFIT HOA HX6 K6
    have hres := HJ6.out.res
    have f0 := hres.frozen 0
    have f1 := hres.frozen 1
    obtain ⟨q0, q1⟩ := blk_two hres
    have hb2 := blk_store2 hres (.int .i64 0) (.slice none 0 0)
    obtain ⟨t0, t1⟩ := blk_two hb2
    have HD := ShutL2.mk (HJ6.out.bel.trans (below_two (Below.refl w.heap.size _) (Nat.le_refl _) (.int .i64 0) (.slice none 0 0)))
    clear hres hb2
    go_wp2_with fail
    refine bodyPost_ret (v := .tuple #[.agg #[.int .i64 0, .slice none 0 0], .int .i64 11]) (by simp [results, Tryz.results69, go_sem, t0, t1]) rfl ?_
    exact ⟨⟨0, ⟨none, 0, 0⟩, [], 11, rfl, ⟨SlK.none_ _ _ _, fun x hx => absurd hx (by simp)⟩, fun _ => rfl, fun q hq => by rw [HNO.out] at hq; cases hq⟩, HD.out⟩
  go_wp2_with fail
  refine (rdDone _ _ _ _ HJ6.out.rx.rd).mono ?_
  rintro e w7 ⟨rfl, rfl⟩
  cases hd : r2.done
  · have HNO := ShutL2.mk (no_end HRI.out (end_open HSIM.out hd))
    clear HRI HSIM HVAL HFIT HOA HX6 K6 hd
    have hres := HJ6.out.res
    have f0 := hres.frozen 0
    have f1 := hres.frozen 1
    obtain ⟨q0, q1⟩ := blk_two hres
    have hb2 := blk_store2 hres (.int .i64 0) (.slice none 0 0)
    obtain ⟨t0, t1⟩ := blk_two hb2
    have HD := ShutL2.mk (HJ6.out.bel.trans (below_two (Below.refl w.heap.size _) (Nat.le_refl _) (.int .i64 0) (.slice none 0 0)))
    clear hres hb2
    go_wp2_with fail
    refine bodyPost_ret (v := .tuple #[.agg #[.int .i64 0, .slice none 0 0], .int .i64 11]) (by simp [results, Tryz.results69, go_sem, t0, t1]) rfl ?_
    exact ⟨⟨0, ⟨none, 0, 0⟩, [], 11, rfl, ⟨SlK.none_ _ _ _, fun x hx => absurd hx (by simp)⟩, fun _ => rfl, fun q hq => by rw [HNO.out] at hq; cases hq⟩, HD.out⟩
  have hrd := end_done HSIM.out hd
  have hov := HVAL.out (not_bad hrd)
  have hft := HFIT.out hrd
  rw [← hov] at hft
  have hft2 : ∀ x ∈ ys, x.o.short 450 ∧ x.o.fits := fun x hx => hft x.o (List.mem_map_of_mem hx)
  have HFT := ShutL2.mk hft2
  have hri := HRI.out
  rw [← hov] at hri
  have HRI2 := ShutL2.mk hri
  have HRD := ShutL2.mk hrd
  have HOA6 := ShutL2.mk ((HOA.out.below K6.out))
  have HOV := ShutL2.mk hov
  clear hrd hov hft hft2 hri HRI HSIM HVAL HFIT hd HOA
  go_wp2_with fail
  refine (right_o HOA6.out (fun x hx => (HFT.out x hx).1) (fun x hx => (HFT.out x hx).2) next).mono ?_
  rintro e w8 ⟨rfl, hb8⟩
  have HJ8 := ShutL2.mk (HJ6.out.step hb8)
  have HX8 := ShutL2.mk (HX6.out.below hb8 HX6.out.lt)
  have HOA8 := ShutL2.mk (HOA6.out.below hb8)
  have HRI3 := ShutL2.mk HRI2.out
  generalize hrs : rightS ⟨next, obsOf ys⟩ = rs at *
  clear hb8 HJ6 HX6 HOA6 HRI2 hrs c0 c1 d0 d1 HFT K6
  cases rs
  · have HNO := ShutL2.mk (no_right HRI3.out rfl)
    clear HRI3 HOA8 HX8 HOV
    have hres := HJ8.out.res
    have f0 := hres.frozen 0
    have f1 := hres.frozen 1
    obtain ⟨q0, q1⟩ := blk_two hres
    have hb2 := blk_store2 hres (.int .i64 0) (.slice none 0 0)
    obtain ⟨t0, t1⟩ := blk_two hb2
    have HD := ShutL2.mk (HJ8.out.bel.trans (below_two (Below.refl w.heap.size _) (Nat.le_refl _) (.int .i64 0) (.slice none 0 0)))
    clear hres hb2
    go_wp2_with fail
    refine bodyPost_ret (v := .tuple #[.agg #[.int .i64 0, .slice none 0 0], .int .i64 11]) (by simp [results, Tryz.results69, go_sem, t0, t1]) rfl ?_
    exact ⟨⟨0, ⟨none, 0, 0⟩, [], 11, rfl, ⟨SlK.none_ _ _ _, fun x hx => absurd hx (by simp)⟩, fun _ => rfl, fun q hq => by rw [HNO.out] at hq; cases hq⟩, HD.out⟩
  · have HYES := ShutL2.mk (yes_end HRI3.out HRD.out rfl)
    obtain ⟨e0, e1⟩ := blk_two HX8.out
    have hres := HJ8.out.res
    have f0 := hres.frozen 0
    have f1 := hres.frozen 1
    obtain ⟨q0, q1⟩ := blk_two hres
    have hb2 := blk_store2 hres (.int .i64 next) (.slice sa sn sc)
    obtain ⟨t0, t1⟩ := blk_two hb2
    have hkk : Keep (fun i _ => w.heap.size < i) w8 (put2 w8 w.heap.size (.int .i64 next) (.slice sa sn sc)) := ((Keep.refl w8).setCell (fun o _ h => by simp at h) _).setCell (fun o _ h => by simp at h) _
    have HD := ShutL2.mk (HJ8.out.bel.trans (below_two (Below.refl w.heap.size _) (Nat.le_refl _) (.int .i64 next) (.slice sa sn sc)))
    have hoz : ObsAt (put2 w8 w.heap.size (.int .i64 next) (.slice sa sn sc)) (fun i => w.heap.size ≤ i) ⟨sa, sn, sc⟩ ys := ⟨(HOA8.out.row.keep hkk fun i o _ hi => hi).more fun _ _ hi => Nat.le_of_lt hi, fun x hx => ((HOA8.out.all x hx).keep hkk fun i o _ hi => hi).more fun _ _ hi => Nat.le_of_lt hi⟩
    have HOZ := ShutL2.mk hoz
    clear hres hb2 hkk hoz HOA8 HX8
    go_wp2_with fail
    refine bodyPost_ret (v := .tuple #[.agg #[.int .i64 next, .slice sa sn sc], .int .i64 0]) (by simp [results, Tryz.results69, go_sem, t0, t1]) rfl ?_
    exact ⟨⟨next, ⟨sa, sn, sc⟩, ys, 0, rfl, HOZ.out, (fun h => by rw [HYES.out] at h; cases h), fun q hq => by rw [HYES.out] at hq; cases hq; exact ⟨rfl, rfl, rfl⟩⟩, HD.out⟩
end Go.Proofs.YtjfoflbaoceemaaGreat
