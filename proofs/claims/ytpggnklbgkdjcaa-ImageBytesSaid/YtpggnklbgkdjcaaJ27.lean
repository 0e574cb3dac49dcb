/- States as bytes: package image's msgs, head, Bytes. States as bytes: package image's Bytes. -/
import Derived.Test.YtpggnklbgkdjcaaJ26
import Derived.Test.YtpggnklbgkdjcaaJ15
import Derived.Deep.LoopGhost
set_option maxRecDepth 4000
namespace Go.Proofs.Ytpggnklbgkdjcaa
open Go.RowKit
structure ShutM (p : Prop) : Prop where out : p
/-- what of an object stands ahead of its messages -/
def headB (o : Ob) : List UInt8 := encText o.name.data.toList ++ encInt o.kind ++ encInt o.limit ++ encInt (o.rows.length : Int) ++ rowsB o.rows
def cntM (l : List Mg) : List UInt8 := encInt (l.length : Int) ++ msgsB l
theorem obB_parts (o : Ob) : obB o = (headB o ++ cntM o.msgs) ++ cntM o.dead := by unfold obB headB cntM; simp only [List.append_assoc]
/-- a box, and a row of bytes of the call's own that grows -/
structure BtJ (w : World) (T : TypeId) (b : Nat) (cs : Array Value) (v : Value) (bs : List UInt8) (wk : World) : Prop where
  own : OwnBy wk w.heap.size v bs
  bel : Below w.heap.size w wk
  box : Blk wk b T cs
  ne : v.ownBlock ≠ some b
section
variable {w wk w1 : World} {T : TypeId} {b n c : Nat} {cs : Array Value} {v : Value} {ys xs : List UInt8} {A : Option Addr}
theorem BtJ.first (ho : OwnBy wk w.heap.size v ys) (hb : Below w.heap.size w wk) : BtJ w T wk.heap.size cs v ys (wk.alloc (.cells cs T)) :=
  ⟨ownBy_below ho (alloc_below wk _), hb.trans ((alloc_below wk _).mono hb.size), Blk.new wk T cs, fun e => by have := (ownBy_lt ho e).2; omega⟩
theorem BtJ.step (h : BtJ w T b cs v ys wk) (k : Below wk.heap.size wk w1) : BtJ w T b cs v ys w1 := ⟨ownBy_below h.own k, h.bel.trans (k.mono h.bel.size), h.box.below k h.box.lt, h.ne⟩
theorem BtJ.app (h : BtJ w T b cs v ys wk) (k : Below wk.heap.size wk w1) (hx : RB w1 w1.heap.size A n xs) (c : Nat) (hl : ys.length + xs.length ≤ 1000000) :
    ∃ A' n' c' W, (Builtin.append_ #[27, 27] 27 #[v, .slice A n c]).run Try.prog w1 = .ok (.slice A' n' c') W ∧ BtJ w T b cs (.slice A' n' c') (ys ++ xs) W := by
  have h1 := h.step k
  have hn := hx.1
  subst hn
  obtain ⟨v', W, hap, ho', hg, hor⟩ := append_rb h1.own hx c hl h1.bel.size
  rw [← List.length_append] at ho'
  obtain ⟨A', c', rfl, _⟩ := own_rb ho'
  refine ⟨A', _, c', W, hap, ho', h1.bel.grown hg h1.bel.size fun g hg => (ownBy_lt h1.own hg).1, (hg.block b h1.box.lt fun e => h1.ne e.symm).trans h1.box, ?_⟩
  rcases hor with e | e
  · rw [e]; exact h1.ne
  · rw [e]
    intro e2
    injection e2 with e2
    have := h1.box.lt
    omega
end
def MsRel (w : World) (l : List Mg) (k : Nat) (v i : Value) (wr : World) : Prop :=
  ∃ j, j + k = l.length ∧ i = .int .i64 (j : Int) ∧ OwnBy wr w.heap.size v (encInt (l.length : Int) ++ msgsB (l.take j)) ∧ Below w.heap.size w wr
set_option maxHeartbeats 2000000 in
theorem imsgs_ {w : World} {K : Nat → Prop} {A : Option Addr} {n c : Nat} {l : List Mg} (h : Lst w K eM A l) (hl : l.length = n) (hn : n ≤ 450) (hs : ∀ m ∈ l, m.corr.size ≤ 9000 ∧ m.body.size ≤ 9000) (hby : (msgsB l).length ≤ 600000) :
    Calls Try.prog 18 #[.slice A n c] w fun x w' => ∃ v, x = .returned v ∧ OwnBy w' w.heap.size v (cntM l) ∧ Below w.heap.size w w' := by
  have H := ShutM.mk h
  have HL := ShutM.mk hl
  have HS : ShutM (∀ m ∈ l, m.corr.size ≤ 9000 ∧ m.body.size ≤ 9000) := ⟨hs⟩
  have HBY := ShutM.mk hby
  have H0 := ShutM.mk (writer_new w)
  have HB0 := ShutM.mk (alloc_below w (.cells #[.pointer none, .int .i64 0] 42))
  clear h hl hs hby
  go_enter Try.func18, Try.ntmps18
  go_wp2_with fail
  refine (wInt _ _ _ (n : Int) H0.out (by simp)).mono ?_
  rintro e w1 ⟨rfl, hw1, hk1⟩
  have HB1 := ShutM.mk (HB0.out.trans (hk1.below (B := w.heap.size) HB0.out.size fun i _ hi => by simp only [But]; omega))
  have HW1 := ShutM.mk hw1
  clear hw1 hk1 H0 HB0
  go_wp2_with fail
  refine (wBytes _ _ _ HW1.out (by simp [encInt_len])).mono ?_
  rintro e w2 ⟨rfl, hb2, hB2⟩
  rw [List.nil_append] at hb2 ⊢
  have ho := ownBy_blk (base := w.heap.size) hb2 HB1.out.size (by rw [encInt_len]; unfold maxLen; omega)
  have HO := ShutM.mk ho
  have HB2 := ShutM.mk (HB1.out.trans (hB2.mono HB1.out.size))
  clear hb2 hB2 ho HB1 HW1
  go_wp2_with fail
  generalize w1.heap.size = g1 at *
  generalize (encInt (n : Int)).length = q1 at *
  go_loopg [4, 13] n (fun k v i wr => MsRel w l k v i wr)
  case atStart => exact ⟨0, by rw [HL.out]; omega, rfl, by have := HO.out; rw [HL.out, List.take_zero]; simpa [msgsB] using this, HB2.out⟩
  case round =>
    obtain ⟨j, hj, rfl, ho, hb⟩ := hrel
    have HJ := ShutM.mk hj
    have HO3 := ShutM.mk ho
    have HB3 := ShutM.mk hb
    clear hj ho hb HO HB2
    by_cases hlt : j < n
    · have hx : j < l.length := by rw [HL.out]; exact hlt
      have hsh := HS.out l[j] (List.getElem_mem hx)
      have hy : encInt (l.length : Int) ++ msgsB (l.take (j + 1)) = (encInt (l.length : Int) ++ msgsB (l.take j)) ++ l[j].bytes := by
        unfold msgsB
        rw [flat_take Mg.bytes hx, List.append_assoc]
      have hyl : (encInt (l.length : Int) ++ msgsB (l.take (j + 1))).length ≤ 600008 := by
        have h1 : (msgsB (l.take (j + 1))).length ≤ (msgsB l).length := pre_le Mg.bytes l (j + 1)
        have h2 := HBY.out
        rw [List.length_append, encInt_len]; omega
      obtain ⟨b, o, rfl, hbs, c0, c1, c2, c3, c4, c5⟩ := (H.out.below HB3.out).atM hx
      generalize l[j] = m at *
      generalize hy2 : encInt (l.length : Int) ++ msgsB (l.take (j + 1)) = y2 at *
      generalize encInt (l.length : Int) ++ msgsB (l.take j) = y1 at *
      have hyl2 : y1.length + m.bytes.length ≤ 600008 := by
        rw [hy, List.length_append] at hyl; exact hyl
      have hbt := BtJ.first (T := 55) (cs := m.cells) HO3.out HB3.out
      have hmb := mbytes_ m hsh.1 hsh.2
      generalize m.bytes = mb at *
      have HBT := ShutM.mk hbt
      have HMB := ShutM.mk hmb
      have HY : ShutM (encInt (l.length : Int) ++ msgsB (l.take (j + 1)) = y1 ++ mb) := ⟨hy2.trans hy⟩
      have HYL := ShutM.mk hyl2
      clear hbt hsh hmb hy hy2 hyl hyl2 hx
      obtain ⟨i, p, r, cl, cr, bd⟩ := m
      simp only at c0 c1 c2 c3 c4 c5
      go_wp2_with fail
      refine (HMB.out _).mono ?_
      rintro e w5 ⟨g5, rfl, hx5, hg5, hb5⟩
      obtain ⟨A6, n6, c6', w6, hap6, hbt6⟩ := HBT.out.app hb5 (blk_rb hx5 hx5.lt) mb.length (by have := HYL.out; omega)
      have HBT6 := ShutM.mk hbt6
      clear hx5 hg5 hb5 hbt6 HBT HMB HO3 HB3 c0 c1 c2 c3 c4 c5
      go_wp2_with (at_builtin; refine wpList_append_run rfl (.tmp 17) (.tmp 19) 27 27 rfl _ _ rfl rfl hap6 ?_)
      go_roundg (n - (j + 1))
      case measure => have := HJ.out; have := HL.out; omega
      case rel => exact ⟨j + 1, by have := HL.out; omega, by go_num, by rw [HY.out]; exact HBT6.out.own, HBT6.out.bel⟩
    · have he : j = l.length := by have := HJ.out; have := HL.out; omega
      have HE := ShutM.mk he
      clear he
      go_wp2
      go_ret
      exact ⟨_, rfl, by have := HO3.out; rwa [HE.out, List.take_length] at this, HB3.out⟩
/-- an object's box, and a writer behind it -/
structure HdJ (w : World) (cs : Array Value) (bs : List UInt8) (wk : World) : Prop where
  bel : Below w.heap.size w wk
  box : Blk wk w.heap.size 39 cs
  wr : WriterAt wk (w.heap.size + 1) bs
section
variable {w wk w' : World} {cs : Array Value} {bs bs' : List UInt8}
theorem HdJ.first (w : World) (cs : Array Value) : HdJ w cs [] ((w.alloc (.cells cs 39)).alloc (.cells #[.pointer none, .int .i64 0] 42)) := by
  have h1 := alloc_below w (.cells cs 39)
  refine ⟨h1.alloc h1.size _, (Blk.new w 39 cs).alloc _, ?_⟩
  have := writer_new (w.alloc (.cells cs 39))
  rw [show (w.alloc (.cells cs 39)).heap.size = w.heap.size + 1 by simp] at this
  exact this
theorem HdJ.next (h : HdJ w cs bs wk) (hw : WriterAt w' (w.heap.size + 1) bs') (hk : Keep (But (w.heap.size + 1)) wk w') : HdJ w cs bs' w' :=
  ⟨h.bel.trans (hk.below (B := w.heap.size) h.bel.size fun i _ hi => by simp only [But]; omega), h.box.keep hk (by simp only [But]; omega), hw⟩
theorem HdJ.step (h : HdJ w cs bs wk) (k : Below wk.heap.size wk w') : HdJ w cs bs w' :=
  ⟨h.bel.trans (k.mono h.bel.size), h.box.below k h.box.lt, writer_below h.wr k⟩
theorem HdJ.wlt (h : HdJ w cs bs wk) : w.heap.size + 1 < wk.heap.size := by
  obtain ⟨_, _, hb, _⟩ := h.wr
  exact hb.lt
end
def HdRel (w : World) (cs : Array Value) (pre : List UInt8) (l : List Rw) (k : Nat) (i : Value) (wr : World) : Prop :=
  ∃ j, j + k = l.length ∧ i = .int .i64 (j : Int) ∧ HdJ w cs (pre ++ rowsB (l.take j)) wr
theorem blk_two {w : World} {g : Nat} {T : TypeId} {a b : Value} (h : Blk w g T #[a, b]) : w.cell? ⟨g, 0, none⟩ = some a ∧ w.cell? ⟨g, 1, none⟩ = some b := ⟨h.cell 0, h.cell 1⟩
set_option maxHeartbeats 2000000 in
theorem ihead_ {w : World} {K : Nat → Prop} {x : Oc} (h : SlK w K eR x.r x.o.rows) (hn : x.o.rows.length ≤ 450) (hby : (headB x.o).length ≤ 600000) (hz : x.o.name.size ≤ 9000) (hs : ∀ r ∈ x.o.rows, r.1.size ≤ 9000 ∧ r.2.size ≤ 9000) :
    Calls Try.prog 17 #[x.val] w fun e w' => ∃ g, e = .returned (.slice (some ⟨g, 0, none⟩) (headB x.o).length (headB x.o).length) ∧ Blk w' g 5 (cellsB (headB x.o)).toArray ∧ Below w.heap.size w w' := by
  obtain ⟨⟨nm, kd, lm, rows, msgs, dead⟩, ⟨rA, rn, rc⟩, ⟨mA, mn, mc⟩, ⟨dA, dn, dc⟩⟩ := x
  obtain ⟨z, hz0⟩ : ∃ z, headB ⟨nm, kd, lm, rows, msgs, dead⟩ = z := ⟨_, rfl⟩
  have hln := h.len
  have hlst := h.lst
  simp only at hln hlst hn hz hs hby
  rw [hz0] at hby
  simp only
  rw [hz0]
  have hzz : z = encText nm.data.toList ++ encInt kd ++ encInt lm ++ encInt (rows.length : Int) ++ rowsB rows := by rw [← hz0]; rfl
  subst hln
  have H := ShutM.mk hlst
  have HS : ShutM (∀ r ∈ rows, r.1.size ≤ 9000 ∧ r.2.size ≤ 9000) := ⟨hs⟩
  have HBY := ShutM.mk hby
  have HZ := ShutM.mk hzz
  have hnm := text_le nm
  have hpre : (encText nm.data.toList ++ encInt kd ++ encInt lm ++ encInt (rows.length : Int)).length ≤ 9100 := by simp only [List.length_append, encInt_len]; omega
  have HNM := ShutM.mk hnm
  have HPRE := ShutM.mk hpre
  have H0 := ShutM.mk (HdJ.first w #[.string nm, .int .i64 kd, .int .i64 lm, .slice rA rows.length rc, .slice mA mn mc, .slice dA dn dc])
  have q := H0.out.box.cell 0
  simp only [List.getElem?_toArray, List.getElem?_cons_zero] at q
  clear h hlst hs hby hz0 hzz hnm hpre
  go_enter Try.func17, Try.ntmps17
  go_wp2_with fail
  refine (wText _ _ _ nm H0.out.wr (by simp) (by omega)).mono ?_
  rintro e w1 ⟨rfl, hw1, hk1⟩
  rw [List.nil_append] at hw1
  have H1 := ShutM.mk (H0.out.next hw1 hk1)
  have q1 := H1.out.box.cell 1
  simp only [List.getElem?_toArray, List.getElem?_cons_zero, List.getElem?_cons_succ] at q1
  clear hw1 hk1 H0 q
  go_wp2_with fail
  refine (wInt _ _ _ kd H1.out.wr (by have := HNM.out; omega)).mono ?_
  rintro e w2 ⟨rfl, hw2, hk2⟩
  have H2 := ShutM.mk (H1.out.next hw2 hk2)
  have q2 := H2.out.box.cell 2
  simp only [List.getElem?_toArray, List.getElem?_cons_zero, List.getElem?_cons_succ] at q2
  clear hw2 hk2 H1 q1
  go_wp2_with fail
  refine (wInt _ _ _ lm H2.out.wr (by have := HNM.out; rw [List.length_append, encInt_len]; omega)).mono ?_
  rintro e w3 ⟨rfl, hw3, hk3⟩
  have H3 := ShutM.mk (H2.out.next hw3 hk3)
  have q3 := H3.out.box.cell 3
  simp only [List.getElem?_toArray, List.getElem?_cons_zero, List.getElem?_cons_succ] at q3
  clear hw3 hk3 H2 q2
  go_wp2_with fail
  refine (wInt _ _ _ (rows.length : Int) H3.out.wr (by have := HNM.out; rw [List.length_append, List.length_append, encInt_len, encInt_len]; omega)).mono ?_
  rintro e w4 ⟨rfl, hw4, hk4⟩
  have H4 := ShutM.mk (H3.out.next hw4 hk4)
  have q4 := H4.out.box.cell 3
  simp only [List.getElem?_toArray, List.getElem?_cons_zero, List.getElem?_cons_succ] at q4
  clear hw4 hk4 H3 q3 HNM
  generalize encText nm.data.toList ++ encInt kd ++ encInt lm ++ encInt (rows.length : Int) = pre at *
  go_wp2_with fail
  obtain ⟨n, hnn⟩ : ∃ n, rows.length = n := ⟨_, rfl⟩
  rw [hnn] at hn H4 q4 ⊢
  have HL := ShutM.mk hnn
  clear hnn
  go_loopg [22] n (fun k i wr => HdRel w #[.string nm, .int .i64 kd, .int .i64 lm, .slice rA n rc, .slice mA mn mc, .slice dA dn dc] pre rows k i wr)
  case atStart => exact ⟨0, by rw [HL.out]; omega, rfl, by have := H4.out; simpa [rowsB] using this⟩
  case round =>
    obtain ⟨j, hj, rfl, ho⟩ := hrel
    have HJ := ShutM.mk hj
    have HO := ShutM.mk ho
    clear hj ho H4
    by_cases hlt : j < n
    · have hx : j < rows.length := by rw [HL.out]; exact hlt
      have hsh := HS.out rows[j] (List.getElem_mem hx)
      have hy : pre ++ rowsB (rows.take (j + 1)) = ((pre ++ rowsB (rows.take j)) ++ encText (rows[j]).1.data.toList) ++ encText (rows[j]).2.data.toList := by
        unfold rowsB
        rw [flat_take rowB hx]
        unfold rowB
        simp only [List.append_assoc]
      have hyl : (pre ++ rowsB (rows.take j)).length ≤ 620000 := by
        have h1 : (rowsB (rows.take j)).length ≤ (rowsB rows).length := pre_le rowB rows j
        have h2 := HBY.out
        rw [HZ.out, List.length_append] at h2
        have h3 := HPRE.out
        rw [List.length_append]; omega
      obtain ⟨b, o, rfl, hbs, c0, c1⟩ := (H.out.below HO.out.bel).atR hx
      generalize rows[j] = r at *
      obtain ⟨r0, r1⟩ := r
      simp only at c0 c1 hsh hy
      generalize hy2 : pre ++ rowsB (rows.take (j + 1)) = y2 at *
      generalize pre ++ rowsB (rows.take j) = y1 at *
      have ht1 := text_le r0
      have HBX := ShutM.mk (Blk.new wr 52 #[.string r0, .string r1])
      have HAL := ShutM.mk (HO.out.step (alloc_below wr (.cells #[.string r0, .string r1] 52)))
      have HLT := ShutM.mk HO.out.wlt
      have HY : ShutM (pre ++ rowsB (rows.take (j + 1)) = (y1 ++ encText r0.data.toList) ++ encText r1.data.toList) := ⟨hy2.trans hy⟩
      have HYL := ShutM.mk hyl
      have HSH := ShutM.mk hsh
      have HT := ShutM.mk ht1
      clear hsh hy hy2 hyl hx ht1 HO
      go_wp2_with fail
      refine (wText _ _ _ r0 HAL.out.wr (by have := HYL.out; omega) (by have := HSH.out; omega)).mono ?_
      rintro e w5 ⟨rfl, hw5, hk5⟩
      have H5 := ShutM.mk (HAL.out.next hw5 hk5)
      have hx5 := HBX.out.keep hk5 (by have := HLT.out; simp only [But]; omega)
      obtain ⟨d0, d1⟩ := blk_two hx5
      clear hw5 hk5 hx5 HAL HBX HLT c0 c1
      go_wp2_with fail
      refine (wText _ _ _ r1 H5.out.wr (by have := HYL.out; have := HT.out; have := HSH.out; rw [List.length_append]; omega) (by have := HSH.out; omega)).mono ?_
      rintro e w6 ⟨rfl, hw6, hk6⟩
      have H6 := ShutM.mk (H5.out.next hw6 hk6)
      clear hw6 hk6 H5 d0 d1
      go_wp2_with fail
      go_roundg (n - (j + 1))
      case measure => have := HJ.out; have := HL.out; omega
      case rel => exact ⟨j + 1, by have := HL.out; omega, by go_num, by rw [HY.out]; exact H6.out⟩
    · have he : j = rows.length := by have := HJ.out; have := HL.out; omega
      have h7 := HO.out
      rw [he, List.take_length, ← HZ.out] at h7
      have H7 := ShutM.mk h7
      clear h7 he HO
      go_wp2_with fail
      refine (wBytes _ _ _ H7.out.wr (by have := HBY.out; omega)).mono ?_
      rintro e w8 ⟨rfl, hb8, hB8⟩
      have HB8 := ShutM.mk hb8
      have HE := ShutM.mk (H7.out.bel.trans (hB8.mono H7.out.bel.size))
      clear hb8 hB8 H7
      go_wp2_with fail
      go_ret
      exact ⟨_, rfl, HB8.out, HE.out⟩
end Go.Proofs.Ytpggnklbgkdjcaa
namespace Go.Proofs.Ytpggnklbgkdjcaa
open Go.RowKit
/-- a state's box, and a writer behind it -/
structure StJ (w : World) (g : Nat) (cs : Array Value) (bs : List UInt8) (wk : World) : Prop where
  bel : Below w.heap.size w wk
  box : Blk wk w.heap.size 24 cs
  wr : WriterAt wk g bs
  lt : w.heap.size < g
theorem StJ.next {w wk w' : World} {g : Nat} {cs : Array Value} {bs bs' : List UInt8} (h : StJ w g cs bs wk) (hw : WriterAt w' g bs') (hk : Keep (But g) wk w') : StJ w g cs bs' w' :=
  ⟨h.bel.trans (hk.below (B := w.heap.size) h.bel.size fun i _ hi => by have := h.lt; simp only [But]; omega), h.box.keep hk (by have := h.lt; simp only [But]; omega), hw, h.lt⟩
def BtsRel (w : World) (pre : List UInt8) (l : List Ob) (k : Nat) (v i : Value) (wr : World) : Prop :=
  ∃ j, j + k = l.length ∧ i = .int .i64 (j : Int) ∧ OwnBy wr w.heap.size v (pre ++ obsB (l.take j)) ∧ Below w.heap.size w wr
/-- what of an object's sizes the writing wants -/
structure ObZ (o : Ob) : Prop where
  name : o.name.size ≤ 9000
  rows : ∀ r ∈ o.rows, r.1.size ≤ 9000 ∧ r.2.size ≤ 9000
  msgs : ∀ m ∈ o.msgs, m.corr.size ≤ 9000 ∧ m.body.size ≤ 9000
  dead : ∀ m ∈ o.dead, m.corr.size ≤ 9000 ∧ m.body.size ≤ 9000
theorem OkD.z {next : Int} {l : List Ob} {o : Ob} (h : OkD next l o) : ObZ o := by
  obtain ⟨h1, h2, h3, h4⟩ := h.sizes
  exact ⟨by omega, fun r hr => by have := h2 r hr; omega, fun m hm => by have := h3 m hm; omega, fun m hm => by have := h4 m hm; omega⟩
theorem obB_len (o : Ob) : (obB o).length = (headB o).length + (cntM o.msgs).length + (cntM o.dead).length := by rw [obB_parts, List.length_append, List.length_append]
theorem cntM_len (l : List Mg) : (cntM l).length = 8 + (msgsB l).length := by unfold cntM; rw [List.length_append, encInt_len]
theorem obs_at_le {l : List Ob} {j : Nat} (h : j < l.length) : (obsB (l.take j)).length + (obB l[j]).length ≤ (obsB l).length := by
  have h1 := pre_le obB l (j + 1)
  rw [flat_take obB h, List.length_append] at h1
  exact h1
set_option maxHeartbeats 8000000 in
theorem bytes_ok : BytesOk := by
  intro w K s xs h hs hf _ next hby
  obtain ⟨A, n, c⟩ := s
  have hln : n = xs.length := h.row.len
  have hol : (obsOf xs).length = n := by rw [hln]; simp [obsOf]
  have hnm : n ≤ maxLen := Nat.le_trans h.row.cap h.row.max
  unfold maxLen at hnm
  have HB0 := ShutM.mk (alloc_below w (.cells #[.int .i64 next, .slice A n c] 24))
  have HX0 := ShutM.mk (Blk.new w 24 #[.int .i64 next, .slice A n c])
  have HH := ShutM.mk h
  have HSH := ShutM.mk hs
  have HF := ShutM.mk hf
  have HBY := ShutM.mk hby
  have HLN := ShutM.mk hln
  have HOL := ShutM.mk hol
  clear h hs hf hby hln hol
  obtain ⟨L, hL⟩ : ∃ L, imgS next (obsOf xs) = L := ⟨_, rfl⟩
  rw [hL]
  have HL := ShutM.mk hL
  clear hL
  go_enter Try.func7, Try.ntmps7
  go_wp2_with fail
  refine (right_o (HH.out.below HB0.out) HSH.out HF.out next).mono ?_
  rintro e w1 ⟨rfl, hb1⟩
  have HB1 := ShutM.mk (HB0.out.trans (hb1.mono HB0.out.size))
  have hx1 := HX0.out.below hb1 HX0.out.lt
  have d0 := hx1.cell 0
  have d1 := hx1.cell 1
  simp only [List.getElem?_toArray, List.getElem?_cons_zero, List.getElem?_cons_succ] at d0 d1
  have HX1 := ShutM.mk hx1
  clear hb1 hx1 HB0 HX0
  cases hz : rightS ⟨next, obsOf xs⟩
  · have hl0 : L = [] := by rw [← HL.out]; unfold imgS; rw [hz]; rfl
    subst hl0
    clear hz
    go_wp2_with fail
    go_ret
    exact ⟨⟨none, 0, rfl, RB.nil_ _, Nat.le_refl _, by unfold maxLen; omega⟩, HB1.out⟩
  have hrd := right_iff.1 hz
  have hl0 : L = imageB next (obsOf xs) := by rw [← HL.out]; unfold imgS; rw [hz]; rfl
  have hbig := HBY.out hrd
  have hle : (obsB (obsOf xs)).length + 16 ≤ 500000 := by
    unfold imageB at hbig
    simp only [List.length_append, encInt_len] at hbig
    omega
  have hZ : ∀ x ∈ xs, ObZ x.o := fun x hx => by
    obtain ⟨i, hi, e⟩ := List.getElem_of_mem (List.mem_map_of_mem (f := Oc.o) hx)
    have := (hrd.ok i hi).z
    rw [e] at this
    exact this
  have HLE := ShutM.mk hle
  have HZ := ShutM.mk hZ
  have HIM : ShutM (L = (encInt next ++ encInt (n : Int)) ++ obsB (obsOf xs)) := ⟨by rw [hl0]; unfold imageB; rw [HOL.out]⟩
  have hj0 : StJ w w1.heap.size #[.int .i64 next, .slice A n c] [] (w1.alloc (.cells #[.pointer none, .int .i64 0] 42)) :=
    ⟨HB1.out.trans ((alloc_below w1 _).mono HB1.out.size), HX1.out.alloc _, writer_new w1, HX1.out.lt⟩
  have HJ0 := ShutM.mk hj0
  have e0 := hj0.box.cell 0
  simp only [List.getElem?_toArray, List.getElem?_cons_zero] at e0
  clear hz hrd hbig hle hZ hj0 HL HBY HX1 hl0
  go_wp2_with fail
  refine (wInt _ _ _ next HJ0.out.wr (by simp)).mono ?_
  rintro e w2 ⟨rfl, hw2, hk2⟩
  rw [List.nil_append] at hw2
  have HJ2 := ShutM.mk (HJ0.out.next hw2 hk2)
  have e1 := HJ2.out.box.cell 1
  simp only [List.getElem?_toArray, List.getElem?_cons_zero, List.getElem?_cons_succ] at e1
  clear hw2 hk2 HJ0 d0 d1 e0
  go_wp2_with fail
  refine (wInt _ _ _ (n : Int) HJ2.out.wr (by rw [encInt_len]; omega)).mono ?_
  rintro e w3 ⟨rfl, hw3, hk3⟩
  have HJ3 := ShutM.mk (HJ2.out.next hw3 hk3)
  clear hw3 hk3 HJ2 e1
  go_wp2_with fail
  refine (wBytes _ _ _ HJ3.out.wr (by simp [encInt_len])).mono ?_
  rintro e w4 ⟨rfl, hb4, hB4⟩
  obtain ⟨q3, hq3⟩ : ∃ q, (encInt next ++ encInt (n : Int)).length = q := ⟨_, rfl⟩
  have ho : OwnBy w4 w.heap.size (.slice (some ⟨w3.heap.size, 0, none⟩) q3 q3) (encInt next ++ encInt (n : Int)) := by
    rw [← hq3]
    exact ownBy_blk (base := w.heap.size) hb4 HJ3.out.bel.size (by rw [List.length_append, encInt_len, encInt_len]; unfold maxLen; omega)
  rw [hq3]
  have HPL : ShutM ((encInt next ++ encInt (n : Int)).length = 16) := ⟨by rw [List.length_append, encInt_len, encInt_len]⟩
  have hbx := HJ3.out.box.below hB4 HJ3.out.box.lt
  have e1 := hbx.cell 1
  simp only [List.getElem?_toArray, List.getElem?_cons_zero, List.getElem?_cons_succ] at e1
  have HO := ShutM.mk ho
  have HB4 := ShutM.mk (HJ3.out.bel.trans (hB4.mono HJ3.out.bel.size))
  clear hb4 hB4 ho hbx HJ3 hq3
  go_wp2_with fail
  clear e1
  generalize encInt next ++ encInt (n : Int) = pre at *
  generalize w3.heap.size = g3 at *
  go_loopg [4, 21] n (fun k v i wr => BtsRel w pre (obsOf xs) k v i wr)
  case atStart => exact ⟨0, by rw [HOL.out]; omega, rfl, by have := HO.out; rw [List.take_zero]; simpa [obsB] using this, HB4.out⟩
  case round =>
    obtain ⟨j, hj, rfl, ho, hb⟩ := hrel
    have HJ := ShutM.mk hj
    have HO5 := ShutM.mk ho
    have HB5 := ShutM.mk hb
    clear hj ho hb HO HB4
    by_cases hlt : j < n
    · have hx : j < xs.length := by have := HLN.out; omega
      have hx2 : j < (obsOf xs).length := by have := HOL.out; omega
      have hxe : (obsOf xs)[j] = xs[j].o := by simp [obsOf]
      have hmem := List.getElem_mem hx
      have hsz := HZ.out _ hmem
      have hsh := HSH.out _ hmem
      have hoc := HH.out.all _ hmem
      have hy : pre ++ obsB ((obsOf xs).take (j + 1)) = (((pre ++ obsB ((obsOf xs).take j)) ++ headB xs[j].o) ++ cntM xs[j].o.msgs) ++ cntM xs[j].o.dead := by
        unfold obsB
        rw [flat_take obB hx2, hxe, obB_parts]
        simp only [List.append_assoc]
      have hyl : (pre ++ obsB ((obsOf xs).take j)).length + (headB xs[j].o).length + (cntM xs[j].o.msgs).length + (cntM xs[j].o.dead).length ≤ 500100 := by
        have h1 := obs_at_le hx2
        rw [hxe, obB_len] at h1
        have h2 := HLE.out
        have h3 := HPL.out
        rw [List.length_append]; omega
      obtain ⟨b, o, rfl, hbs, c0, c1, c2, c3, c4, c5⟩ := (HH.out.row.lst.below HB5.out).atO hx
      generalize xs[j] = x at *
      generalize hy2 : pre ++ obsB ((obsOf xs).take (j + 1)) = y2 at *
      generalize pre ++ obsB ((obsOf xs).take j) = y1 at *
      have HBT := ShutM.mk (BtJ.first (T := 39) (cs := x.cells) HO5.out HB5.out)
      have HOC := ShutM.mk hoc
      have HY : ShutM (pre ++ obsB ((obsOf xs).take (j + 1)) = ((y1 ++ headB x.o) ++ cntM x.o.msgs) ++ cntM x.o.dead) := ⟨hy2.trans hy⟩
      have HYL := ShutM.mk hyl
      have HSZ := ShutM.mk hsz
      have HSO := ShutM.mk hsh
      clear hx hx2 hxe hmem hsz hsh hoc hy hy2 hyl
      obtain ⟨ob, ⟨rA, rn, rc⟩, ⟨mA, mn, mc⟩, ⟨dA, dn, dc⟩⟩ := x
      simp only [Oc.cells] at c0 c1 c2 c3 c4 c5 HBT
      have hih : ∀ W : World, Below w.heap.size w W → Calls Try.prog 17 #[.agg #[.string ob.name, .int .i64 ob.kind, .int .i64 ob.limit, .slice rA rn rc, .slice mA mn mc, .slice dA dn dc]] W fun e w' => ∃ g, e = .returned (.slice (some ⟨g, 0, none⟩) (headB ob).length (headB ob).length) ∧ Blk w' g 5 (cellsB (headB ob)).toArray ∧ Below W.heap.size W w' := fun W k =>
        ihead_ (x := ⟨ob, ⟨rA, rn, rc⟩, ⟨mA, mn, mc⟩, ⟨dA, dn, dc⟩⟩) (HOC.out.rows.below k) HSO.out.1 (by have := HYL.out; show (headB ob).length ≤ 600000; simp only at this; omega) HSZ.out.name HSZ.out.rows
      have him : ∀ W : World, Below w.heap.size w W → Calls Try.prog 18 #[.slice mA mn mc] W fun x w' => ∃ v, x = .returned v ∧ OwnBy w' W.heap.size v (cntM ob.msgs) ∧ Below W.heap.size W w' := fun W k =>
        imsgs_ (HOC.out.msgs.below k).lst HOC.out.msgs.len.symm (by have h1 := HOC.out.msgs.len; have h2 := HSO.out.2.1; simp only at h1 h2; omega) HSZ.out.msgs (by have h1 := HYL.out; have h2 := cntM_len ob.msgs; simp only at h1 h2 ⊢; omega)
      have hid : ∀ W : World, Below w.heap.size w W → Calls Try.prog 18 #[.slice dA dn dc] W fun x w' => ∃ v, x = .returned v ∧ OwnBy w' W.heap.size v (cntM ob.dead) ∧ Below W.heap.size W w' := fun W k =>
        imsgs_ (HOC.out.dead.below k).lst HOC.out.dead.len.symm (by have h1 := HOC.out.dead.len; have h2 := HSO.out.2.2; simp only at h1 h2; omega) HSZ.out.dead (by have h1 := HYL.out; have h2 := cntM_len ob.dead; simp only at h1 h2 ⊢; omega)
      have HIH := ShutM.mk hih
      have HIMM := ShutM.mk him
      have HIMD := ShutM.mk hid
      have hyl3 := HYL.out
      simp only at hyl3
      have HYL3 := ShutM.mk hyl3
      clear hih him hid hyl3
      go_wp2_with fail
      refine (HIH.out _ HBT.out.bel).mono ?_
      rintro e w6 ⟨g6, rfl, hx6, hb6⟩
      obtain ⟨A7, n7, c7, w7, hap7, hbt7⟩ := HBT.out.app hb6 (blk_rb hx6 hx6.lt) (headB ob).length (by have := HYL3.out; omega)
      have HBT7 := ShutM.mk hbt7
      have d4 := HBT7.out.box.cell 4
      simp only [List.getElem?_toArray, List.getElem?_cons_zero, List.getElem?_cons_succ] at d4
      clear hx6 hb6 hbt7 HBT HO5 HB5 c0 c1 c2 c3 c4 c5
      go_wp2_with (at_builtin; refine wpList_append_run rfl (.tmp 25) (.tmp 27) 27 27 rfl _ _ rfl rfl hap7 ?_)
      refine (HIMM.out _ HBT7.out.bel).mono ?_
      rintro e w8 ⟨v8, rfl, ho8, hb8⟩
      obtain ⟨A8, c8, rfl, hr8, -, -, -⟩ := ownBy_slice ho8
      obtain ⟨A9, n9, c9, w9, hap9, hbt9⟩ := HBT7.out.app hb8 hr8 c8 (by have := HYL3.out; rw [List.length_append]; omega)
      have HBT9 := ShutM.mk hbt9
      have d5 := HBT9.out.box.cell 5
      simp only [List.getElem?_toArray, List.getElem?_cons_zero, List.getElem?_cons_succ] at d5
      clear ho8 hb8 hr8 hbt9 HBT7 d4 hap7
      go_wp2_with (at_builtin; refine wpList_append_run rfl (.tmp 29) (.tmp 32) 27 27 rfl _ _ rfl rfl hap9 ?_)
      refine (HIMD.out _ HBT9.out.bel).mono ?_
      rintro e w10 ⟨v10, rfl, ho10, hb10⟩
      obtain ⟨A10, c10, rfl, hr10, -, -, -⟩ := ownBy_slice ho10
      obtain ⟨A11, n11, c11, w11, hap11, hbt11⟩ := HBT9.out.app hb10 hr10 c10 (by have := HYL3.out; rw [List.length_append, List.length_append]; omega)
      have HBT11 := ShutM.mk hbt11
      clear ho10 hb10 hr10 hbt11 HBT9 d5 hap9
      go_wp2_with (at_builtin; refine wpList_append_run rfl (.tmp 34) (.tmp 37) 27 27 rfl _ _ rfl rfl hap11 ?_)
      go_roundg (n - (j + 1))
      case measure => have := HJ.out; have := HOL.out; omega
      case rel => exact ⟨j + 1, by have := HOL.out; omega, by go_num, by rw [HY.out]; exact HBT11.out.own, HBT11.out.bel⟩
    · have he : j = (obsOf xs).length := by have := HJ.out; have := HOL.out; omega
      have h5 := HO5.out
      rw [he, List.take_length, ← HIM.out] at h5
      obtain ⟨Az, cz, rfl, hrz, hcz, hmz, _⟩ := ownBy_slice h5
      have HRZ := ShutM.mk hrz
      have HCZ := ShutM.mk hcz
      have HMZ := ShutM.mk hmz
      clear he h5 hrz hcz hmz HO5
      go_wp2
      go_ret
      exact ⟨⟨Az, cz, rfl, HRZ.out, HCZ.out, HMZ.out⟩, HB5.out⟩
end Go.Proofs.Ytpggnklbgkdjcaa
