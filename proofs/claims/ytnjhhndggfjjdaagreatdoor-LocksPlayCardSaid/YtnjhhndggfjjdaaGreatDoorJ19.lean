/- Package locks' Free: what it carries from lock to lock. Package locks' Free, walked. Plain facts: what all locks are at any time stays so, whatever is asked and whoever is taken out. The document's table: what Ask and Free want of it, plain. -/
import Derived.Test.YtnjhhndggfjjdaaGreatDoorJ18
import Derived.Test.YtnjhhndggfjjdaaGreatDoorJ17
import Derived.Deep.RegionHeld3
set_option maxRecDepth 4000
namespace Go.Proofs.YtnjhhndggfjjdaaGreatDoor
open Go.RowKit
theorem Lock.kept {w w' : World} {b off : Nat} {zn : Zn} {s : Lk} {Q : Nat → Obj → Prop} (h : Lock w b off zn s) (k : Keep Q w w') (hb : w'.heap[b]? = w.heap[b]?) (hq : ∀ i cur, w.heap[i]? = some (.cells cur 94 (0, 0)) → Q i (.cells cur 94 (0, 0))) : Lock w' b off zn s := by
  obtain ⟨vH, vL, t, aH, aL⟩ := h
  exact ⟨vH, vL, t.same hb, aH.kept k hq, aL.kept k hq⟩
/-- a lock in a block of its own: its five cells, and what it has -/
structure Box (w : World) (q : Nat) (m : Nm) (r : Re) (l : Lk) : Prop where
  blk : Blk w q 66 #[r.1.val, r.2.1.val, .int .i64 m.1, .string m.2.1, .string m.2.2]
  row : RowOk w r (m, l)
theorem Box.lock {w : World} {q : Nat} {m : Nm} {r : Re} {l : Lk} (h : Box w q m r l) : Lock w q 0 ⟨66, #[r.1.val, r.2.1.val, .int .i64 m.1, .string m.2.1, .string m.2.2]⟩ l :=
  ⟨_, _, two_of_cells (off := 0) h.blk (by decide) (h.blk.cell 0) (h.blk.cell 1), h.row.held, h.row.line⟩
theorem Box.of_lock {w : World} {q : Nat} {m : Nm} {v1 v2 : Value} {l : Lk} (h : Lock w q 0 ⟨66, #[v1, v2, .int .i64 m.1, .string m.2.1, .string m.2.2]⟩ l) : ∃ r, Box w q m r l := by
  obtain ⟨vH, vL, t, aH, aL⟩ := h
  have hb := t.blk
  obtain ⟨A1, c1, e1, l1, p1⟩ := aH
  obtain ⟨A2, c2, e2, l2, p2⟩ := aL
  subst e1 e2
  exact ⟨((A1, l.1.length, c1), (A2, l.2.length, c2), m), hb, rfl, ⟨A1, c1, rfl, l1, p1⟩, ⟨A2, c2, rfl, l2, p2⟩⟩
theorem Box.below {w w' : World} {q : Nat} {m : Nm} {r : Re} {l : Lk} (h : Box w q m r l) (k : Below w.heap.size w w') : Box w' q m r l := ⟨h.blk.below k h.blk.lt, h.row.below k⟩
theorem Box.kept {w w' : World} {q : Nat} {m : Nm} {r : Re} {l : Lk} {Q : Nat → Obj → Prop} (h : Box w q m r l) (k : Keep Q w w') (hq : ∀ i cur, w.heap[i]? = some (.cells cur 94 (0, 0)) → Q i (.cells cur 94 (0, 0))) (h1 : ∀ o, Q q o) : Box w' q m r l := ⟨h.blk.keep k (h1 _), h.row.kept k hq⟩
/-- while somebody is taken out: whom it was granted, which locks are left -/
structure FS (w : World) (b : Nat) (A : Option Addr) (c n : Nat) (G : List Int) (SL : TS) (gv lv : Value) (rl : List Re) (k : Nat) (wr : World) : Prop where
  tab : Blk wr b 53 #[.int .i64 (k : Int), .slice A n c]
  keep : Keep (fun i _ => i ≠ b) w wr
  got : Own wr w.heap.size eI 3 gv G
  own : Own wr w.heap.size eL 66 lv rl
  rows : RowsOk wr rl SL
section
variable {w : World} {b : Nat} {A : Option Addr} {c n : Nat} {G : List Int} {SL : TS} {gv lv : Value} {rl : List Re} {k : Nat} {wr w' : World}
theorem FS.below (h : FS w b A c n G SL gv lv rl k wr) (kb : Below wr.heap.size wr w') : FS w b A c n G SL gv lv rl k w' :=
  ⟨h.tab.below kb h.tab.lt, h.keep.trans (Keep.of_below kb), own_belowE h.got kb, own_belowE h.own kb, h.rows.below kb⟩
theorem FS.grant (h : FS w b A c n G SL gv lv rl k wr) {gv' : Value} {G' : List Int} (ho : Own w' w.heap.size eI 3 gv' G') (hg : wr.grownBy w' gv.ownBlock) : FS w b A c n G' SL gv' lv rl k w' := by
  have far : ∀ i, i < wr.heap.size → gv.ownBlock ≠ some i → w'.heap[i]? = wr.heap[i]? := fun i hi hne => hg.block i hi (fun e => hne e.symm)
  refine ⟨(far b h.tab.lt (tab_ne h.tab h.got (by decide))).trans h.tab, h.keep.grown hg fun g o hgg ho2 _ => ?_, ho, own_keep h.own fun g hgg => far g (own_blk h.own hgg).2.1 (fun e => own_ne h.got h.own (by decide) e hgg), h.rows.kept ((Keep.refl wr).grown hg (K := fun i _ => gv.ownBlock ≠ some i) fun g o hgg _ hn => hn hgg) fun i cur hc e => ?_⟩
  · have := (own_blk h.got hgg).1
    have := lt_of_some ho2
    omega
  · obtain ⟨_, _, cur', hc'⟩ := own_blk h.got e
    rw [hc] at hc'
    injection hc' with hc'
    injection hc' with _ hc'
    cases hc'
theorem FS.count (h : FS w b A c n G SL gv lv rl k wr) (k' : Nat) : FS w b A c n G SL gv lv rl k' (wr.setCell ⟨b, 0, none⟩ (.int .i64 (k' : Int))) := by
  have far : ∀ i, i ≠ b → (wr.setCell ⟨b, 0, none⟩ (.int .i64 (k' : Int))).heap[i]? = wr.heap[i]? := fun i hi => Below.heap_setCell wr ⟨b, 0, none⟩ _ i hi
  refine ⟨by simpa using h.tab.set_ 0 (.int .i64 (k' : Int)), h.keep.setCell (fun _ _ h => h rfl) _, own_keep h.got fun g hg => far g (fun e => by subst e; exact tab_ne h.tab h.got (by decide) hg), own_keep h.own fun g hg => far g (fun e => by subst e; exact tab_ne h.tab h.own (by decide) hg), rows_store h.tab h.rows 0 _⟩
theorem FS.put (h : FS w b A c n G SL gv lv rl k wr) {lv' : Value} {r : Re} {e : Ent} (hr : RowOk w' r e) (ho : Own w' w.heap.size eL 66 lv' (rl ++ [r])) (hg : wr.grownBy w' lv.ownBlock) : FS w b A c n G (SL ++ [e]) gv lv' (rl ++ [r]) k w' := by
  have far : ∀ i, i < wr.heap.size → lv.ownBlock ≠ some i → w'.heap[i]? = wr.heap[i]? := fun i hi hne => hg.block i hi (fun e => hne e.symm)
  have hrk : RowsOk w' rl SL := h.rows.kept ((Keep.refl wr).grown hg (K := fun i _ => lv.ownBlock ≠ some i) fun g o hgg _ hn => hn hgg) fun i cur hc e => by
    obtain ⟨_, _, cur', hc'⟩ := own_blk h.own e
    rw [hc] at hc'
    injection hc' with hc'
    injection hc' with _ hc'
    cases hc'
  refine ⟨(far b h.tab.lt (tab_ne h.tab h.own (by decide))).trans h.tab, h.keep.grown hg fun g o hgg ho2 _ => ?_, own_keep h.got fun g hgg => far g (own_blk h.got hgg).2.1 (fun e => own_ne h.got h.own (by decide) hgg e), ho, ?_⟩
  · have := (own_blk h.own hgg).1
    have := lt_of_some ho2
    omega
  · have := rows_insert hrk (k := rl.length) (Nat.le_refl _) hr
    rw [List.take_length, List.drop_length, hrk.1, List.take_length, List.drop_length] at this
    exact this
theorem FS.start {rs : List Re} {s : TS} (h : LT0 w b (k : Int) A c rs s) : FS w b A c s.length [] [] (.slice none 0 0) (.slice none 0 0) [] k w :=
  ⟨h.blk, Keep.refl _, own_nil _ _, own_nil _ _, rfl, fun j hj => absurd hj (by simp)⟩
/-- the rows that stood there still stand -/
theorem FS.elder {k' : Nat} (h : FS w b A c n G SL gv lv rl k wr) {rs : List Re} {s : TS} (h0 : LT0 w b (k' : Int) A c rs s) : Lst wr (IsL wr) eL A rs ∧ RowsOk wr rs s :=
  ⟨lst_kept h0.lst h.keep fun i cur hi => ne_of_types h0.blk hi (by decide), h0.rows.kept h.keep fun i cur hi => ne_of_types h0.blk hi (by decide)⟩
/-- the locks left become the table's -/
theorem FS.done (h : FS w b A c n G SL gv lv rl k wr) : ∃ A' c', lv = .slice A' SL.length c' ∧ Blk wr b 53 #[.int .i64 (k : Int), .slice A n c] ∧ LT (wr.setCell ⟨b, 1, none⟩ lv) b (k : Int) SL ∧ Own (wr.setCell ⟨b, 1, none⟩ lv) w.heap.size eI 3 gv G ∧ Keep (fun i _ => i ≠ b) w (wr.setCell ⟨b, 1, none⟩ lv) := by
  have far : ∀ i, i ≠ b → (wr.setCell ⟨b, 1, none⟩ lv).heap[i]? = wr.heap[i]? := fun i hi => Below.heap_setCell wr ⟨b, 1, none⟩ _ i hi
  have ho2 := own_keep h.own fun g hg => far g (fun e => by subst e; exact tab_ne h.tab h.own (by decide) hg)
  obtain ⟨A', c', e, hl, h1, h2, h3⟩ := own_lst ho2
  have hn : rl.length = SL.length := h.rows.1
  refine ⟨A', c', by rw [e, hn], h.tab, ⟨A', c', rl, ?_, hl.more fun i _ hi => (own_blk ho2 hi.2).2.2, rows_store h.tab h.rows 1 _, by rw [← hn]; exact h1, h2, h3⟩, own_keep h.got fun g hg => far g (fun e => by subst e; exact tab_ne h.tab h.got (by decide) hg), h.keep.setCell (fun _ _ h => h rfl) _⟩
  have := h.tab.set_ 1 lv
  rw [← hn, ← e]
  simpa using this
end
end Go.Proofs.YtnjhhndggfjjdaaGreatDoor
namespace Go.Proofs.YtnjhhndggfjjdaaGreatDoor
open Go.RowKit
def FrR (w : World) (b : Nat) (A : Option Addr) (c : Nat) (s : TS) (who : Int) (k : Nat) (gv lv i : Value) (wr : World) : Prop :=
  ∃ j G SL rl, j + k = s.length ∧ i = .int .i64 (j : Int) ∧ FS w b A c s.length G SL gv lv rl (countP SL + countP (s.drop j)) wr ∧ freeN s who = (G ++ (freeN (s.drop j) who).1, SL ++ (freeN (s.drop j) who).2) ∧ G.length ≤ j * 1000 ∧ SL.length ≤ j ∧ countP SL + countP (s.drop j) ≤ countP s
theorem count_cons (e : Ent) (s : TS) : countP (e :: s) = (holdsP e.2).length + countP s := by unfold countP; simp
theorem count_snoc (e : Ent) (s : TS) : countP (s ++ [e]) = countP s + (holdsP e.2).length := by unfold countP; simp
theorem free_out {s : TS} {who : Int} {j : Nat} (hj : j < s.length) (h : hereP s[j].2 who = false) : freeN (s.drop j) who = ((freeN (s.drop (j + 1)) who).1, s[j] :: (freeN (s.drop (j + 1)) who).2) := by
  rw [List.drop_eq_getElem_cons hj, freeN, if_neg (by simp [h])]
theorem free_in {s : TS} {who : Int} {j : Nat} (hj : j < s.length) (h : hereP s[j].2 who = true) : freeN (s.drop j) who = ((dropP s[j].2 who).1 ++ (freeN (s.drop (j + 1)) who).1, if (holdsP (dropP s[j].2 who).2).length = 0 then (freeN (s.drop (j + 1)) who).2 else (s[j].1, (dropP s[j].2 who).2) :: (freeN (s.drop (j + 1)) who).2) := by
  rw [List.drop_eq_getElem_cons hj, freeN, if_pos h]
theorem blk_own_ne {α : Type} {E : Enc α} {T T' : TypeId} {w : World} {q base : Nat} {cs : Array Value} {v : Value} {l : List α} (h : Blk w q T cs) (ho : Own w base E T' v l) (ht : T ≠ T') : v.ownBlock ≠ some q := fun e => by
  obtain ⟨_, _, cur, hc⟩ := own_blk ho e
  have := h.symm.trans hc
  injection this with this
  injection this with _ this
  exact ht this
theorem claim_own_ne {α : Type} {E : Enc α} {T' : TypeId} {w : World} {base i : Nat} {cur : Array Value} {v : Value} {l : List α} (ho : Own w base E T' v l) (ht : 94 ≠ T') (hc : w.heap[i]? = some (.cells cur 94 (0, 0))) : v.ownBlock ≠ some i := blk_own_ne (q := i) (cs := cur) hc ho ht
theorem append_lock {W : World} {base : Nat} {v : Value} {l : List Re} (ho : Own W base eL 66 v l) (hb : base ≤ W.heap.size) (hn : l.length ≤ 100000) (a1 : Option Addr) (a2 a3 : Nat) (c1 : Option Addr) (c2 c3 : Nat) (m : Nm) :
    ∃ v' W', (Builtin.append_ #[51, 51] 51 #[v, .slice (some ⟨W.heap.size, 0, none⟩) 1 1]).run Tryz.prog (W.alloc (.cells #[.slice a1 a2 a3, .slice c1 c2 c3, .int .i64 m.1, .string m.2.1, .string m.2.2] 66)) = .ok v' W' ∧
      Own W' base eL 66 v' (l ++ [((a1, a2, a3), (c1, c2, c3), m)]) ∧ (W.alloc (.cells #[.slice a1 a2 a3, .slice c1 c2 c3, .int .i64 m.1, .string m.2.1, .string m.2.2] 66)).grownBy W' v.ownBlock := by
  have hal := alloc_below W (.cells #[.slice a1 a2 a3, .slice c1 c2 c3, .int .i64 m.1, .string m.2.1, .string m.2.2] 66)
  have hone : Lst (W.alloc (.cells #[.slice a1 a2 a3, .slice c1 c2 c3, .int .i64 m.1, .string m.2.1, .string m.2.2] 66)) (fun i => W.heap.size ≤ i) eL (some ⟨W.heap.size, 0, none⟩) [((a1, a2, a3), (c1, c2, c3), m)] := fun _ =>
    ⟨_, 0, rfl, Nat.le_refl _, by simp, fun j u hu => by rw [(Blk.new W 66 _).cell, Nat.zero_add]; simpa [cellsE, eL, Sl.val] using hu⟩
  obtain ⟨v', W', hap, ho', hg', _⟩ := append_own tyL (own_belowE ho hal) hone rfl 1 (by show l.length + 1 ≤ _; omega) (Nat.le_trans hb hal.size)
  exact ⟨v', W', hap, ho', hg'⟩
set_option maxHeartbeats 8000000 in
theorem tfree_ {w : World} {b : Nat} {s : TS} (h : LT w b (countP s : Int) s) (hg : TGood s) (hT : Tab w) (hb0 : 0 ≠ b) (hc : countP s ≤ 10000) (hs5 : s.length ≤ 500) (hl5 : ∀ e ∈ s, e.2.1.length ≤ 1000 ∧ e.2.2.length ≤ 1000) (who : Int) :
    Calls Tryz.prog 10 #[.pointer (some ⟨b, 0, none⟩), .int .i64 who] w fun e w' => ∃ v, e = .returned v ∧ Own w' w.heap.size eI 3 v (freeN s who).1 ∧ LT w' b (countP (freeN s who).2 : Int) (freeN s who).2 ∧ Keep (fun i _ => i ≠ b) w w' := by
  obtain ⟨A, c, rs, h⟩ := h
  have p1 := h.blk.cell 1
  have hbw := h.lt
  have hmx := h.max
  have hle := h.le
  unfold maxLen at hmx
  have H := Lib.hid h
  have HG := Lib.hid hg
  have HT := Lib.hid hT
  have HL5 := Lib.hid hl5
  clear h hg hT hl5
  obtain ⟨m, hm⟩ : ∃ m, s.length = m := ⟨_, rfl⟩
  have hrl : rs.length = m := H.out.rows.1.trans hm
  rw [hm] at p1 hle hs5
  have HM := Lib.hid hm
  have HRL := Lib.hid hrl
  clear hm hrl
  have hst : FrR w b A c s who m (.slice none 0 0) (.slice none 0 0) (.int .i64 0) w := ⟨0, [], [], [], by rw [HM.out]; omega, rfl, by simpa [countP] using FS.start H.out, by simp, Nat.zero_le _, Nat.le_refl _, by simp [countP]⟩
  have HST := Lib.hid hst
  clear hst
  go_enter Tryz.func10, Tryz.ntmps10
  go_wp2_with fail
  go_loopg [5, 6, 18] m (fun k gv lv i wr => FrR w b A c s who k gv lv i wr)
  case atStart => exact HST.out
  case round =>
    obtain ⟨j, G, SL, rl, hj, rfl, hfs, hfr, hgl, hsl, hcl⟩ := hrel
    have HJ := Lib.hid hj
    have HFS := Lib.hid hfs
    have HFR := Lib.hid hfr
    clear hj hfs hfr
    by_cases hlt : j < m
    · have hx : j < rs.length := by rw [HRL.out]; exact hlt
      have hs : j < s.length := by rw [HM.out]; exact hlt
      obtain ⟨hel, her⟩ := HFS.out.elder H.out
      have hrow := her.2 j hx hs
      obtain ⟨g2, o2, rfl, _, hg2, d0, d1, d2, d3, d4⟩ := hel.atL hx
      have hmem := List.getElem_mem hs
      have hok := HG.out.ok _ hmem
      have hsm := HG.out.small _ hmem
      have hl1 := HL5.out _ hmem
      have hnm : rs[j].2.2 = s[j].1 := hrow.name
      obtain ⟨e1, e2, he⟩ : ∃ e1 e2, s[j] = (e1, e2) := ⟨_, _, rfl⟩
      have hout := free_out (who := who) hs
      have hin := free_in (who := who) hs
      have hcd : countP (s.drop j) = (holdsP e2).length + countP (s.drop (j + 1)) := by rw [List.drop_eq_getElem_cons hs, count_cons, he]
      rw [he] at hok hsm hl1 hrow hnm hout hin
      simp only at hok hsm hl1 hnm hout hin
      have hbx : Box (wr.alloc (.cells #[rs[j].1.val, rs[j].2.1.val, .int .i64 e1.1, .string e1.2.1, .string e1.2.2] 66)) wr.heap.size e1 rs[j] e2 := ⟨Blk.new wr _ _, hrow.below (alloc_below wr _)⟩
      rw [hnm] at d2 d3 d4
      have HBX := Lib.hid hbx
      have HAL := Lib.hid (alloc_below wr (.cells #[rs[j].1.val, rs[j].2.1.val, .int .i64 e1.1, .string e1.2.1, .string e1.2.2] 66))
      have HOK := Lib.hid hok
      have HOUT := Lib.hid hout
      have HIN := Lib.hid hin
      have HCD := Lib.hid hcd
      have HE := Lib.hid he
      generalize hX : rs[j] = X at *
      clear hbx hok hout hin hcd he hrow hmem hel her hnm hX
      obtain ⟨⟨a1, a2, a3⟩, ⟨c1, c2, c3⟩, y⟩ := X
      obtain ⟨t1, t2, t3⟩ := e1
      unfold Sl.val at *
      simp only at *
      go_wp2_with fail
      generalize wr.alloc (.cells #[.slice a1 a2 a3, .slice c1 c2 c3, .int .i64 t1, .string t2, .string t3] 66) = wA at *
      have hho := lholdof_ HBX.out.lock hsm.1 hsm.2 who
      rw [find_here] at hho
      have HHO := Lib.hid hho
      clear hho
      obtain ⟨x0, x1, x2, hx⟩ : ∃ x0 x1 x2 : Int, valH ((findH (holdsP e2) who).getD (0, 0, 0)) = .agg #[.int .i64 x0, .int .i64 x1, .int .i64 x2] := ⟨_, _, _, rfl⟩
      rw [hx] at HHO
      clear hx
      obtain ⟨hh, hhh⟩ : ∃ hh, hereP e2 who = hh := ⟨_, rfl⟩
      rw [hhh] at HHO HOUT HIN
      have HH := Lib.hid hhh
      clear hhh
      refine HHO.out.mono ?_
      rintro e w1 ⟨rfl, hb1⟩
      have hal1 := alloc_below w1 (.cells #[.int .i64 x0, .int .i64 x1, .int .i64 x2] 56)
      have HB2 := Lib.hid ((HAL.out.trans (hb1.mono HAL.out.size)).trans (hal1.mono (HAL.out.trans (hb1.mono HAL.out.size)).size))
      have HBX2 := Lib.hid ((HBX.out.below hb1).below hal1)
      clear hb1 hal1 HHO HBX HAL
      cases hh
      · have hout := HOUT.out (by simp)
        have HBXv := HBX2.out.blk
        have q0 : _ = some (Value.slice a1 a2 a3) := HBXv.cell 0
        have q1 : _ = some (Value.slice c1 c2 c3) := HBXv.cell 1
        have q2 := HBXv.cell 2
        have q3 := HBXv.cell 3
        have q4 := HBXv.cell 4
        have hF2 := HFS.out.below HB2.out
        obtain ⟨v', W', hap, ho', hg'⟩ := append_lock hF2.own hF2.keep.size (by rw [hF2.rows.1]; omega) a1 a2 a3 c1 c2 c3 (t1, t2, t3)
        have hal3 := alloc_below (w1.alloc (.cells #[.int .i64 x0, .int .i64 x1, .int .i64 x2] 56)) (.cells #[.slice a1 a2 a3, .slice c1 c2 c3, .int .i64 t1, .string t2, .string t3] 66)
        have hF3 := hF2.below hal3
        have hrw : RowOk W' ((a1, a2, a3), (c1, c2, c3), (t1, t2, t3)) ((t1, t2, t3), e2) := by
          have h1 := (HBX2.out.below hal3).row.kept ((Keep.refl _).grown hg' (K := fun i _ => u6.ownBlock ≠ some i) fun g o hgg _ hn => hn hgg) (fun i cur hc => claim_own_ne hF3.own (by decide) hc)
          exact ⟨rfl, h1.held, h1.line⟩
        have hF4 := hF3.put hrw ho' hg'
        rw [show (w1.alloc (.cells #[.int .i64 x0, .int .i64 x1, .int .i64 x2] 56)).heap.size = w1.heap.size + 1 by simp] at hap
        have HF4 := Lib.hid hF4
        have HAP := Lib.hid hap
        have HOUT2 := Lib.hid hout
        clear HBXv hF2 ho' hg' hal3 hF3 hrw hF4 hap hout d0 d1 d2 d3 d4
        go_wp2_with (at_builtin; refine wpList_append_run rfl (.tmp 41) (.tmp 43) 51 51 rfl _ _ rfl rfl HAP.out ?_)
        go_roundg (m - (j + 1))
        case measure => have := HJ.out; have := HM.out; omega
        case rel =>
          refine ⟨j + 1, G, SL ++ [((t1, t2, t3), e2)], rl ++ [((a1, a2, a3), (c1, c2, c3), (t1, t2, t3))], by have := HM.out; omega, by go_num, ?_, ?_, by omega, by simp; omega, by rw [count_snoc]; have := HCD.out; simp only; omega⟩
          · have e : countP SL + countP (s.drop j) = countP (SL ++ [((t1, t2, t3), e2)]) + countP (s.drop (j + 1)) := by rw [count_snoc, HCD.out]; simp only; omega
            rw [← e]
            exact HF4.out
          · rw [HFR.out, HOUT2.out]
            simp
      · have hin := HIN.out (by simp)
        have HBXv := HBX2.out
        have hgm : 0 ≠ wr.heap.size := by have := HT.out.lt; have := HFS.out.keep.size; omega
        have hT2 : Tab (w1.alloc (.cells #[.int .i64 x0, .int .i64 x1, .int .i64 x2] 56)) := (HT.out.keep HFS.out.keep fun _ => hb0).keep (Keep.of_below HB2.out (K := fun _ _ => True)) fun _ => trivial
        have hdr := drop_ HBXv.lock HOK.out hsm.1 hsm.2 hT2 hgm who
        have HDR := Lib.hid hdr
        have HIN2 := Lib.hid hin
        clear hdr hin HBXv hT2 d0 d1 d2 d3 d4
        go_wp2_with fail
        generalize w1.alloc (.cells #[.int .i64 x0, .int .i64 x1, .int .i64 x2] 56) = w2 at *
        refine HDR.out.mono ?_
        rintro e w3 ⟨v3, rfl, ho3, hl3, hk3⟩
        have hb3 : Below wr.heap.size wr w3 := HB2.out.trans (hk3.below HB2.out.size fun i _ hi => by omega)
        obtain ⟨r3, hbx3⟩ := Box.of_lock (m := (t1, t2, t3)) hl3
        have hF3 := HFS.out.below hb3
        obtain ⟨A3, n3, e3, hl3', hn3, _, _⟩ := own_lst ho3
        have hdl := (drop_length (s := e2) who).2.2
        obtain ⟨v4, w4, hap, ho4, hg4, _⟩ := append_own tyI hF3.got (hl3'.more (K' := fun _ => True) fun _ _ _ => trivial) rfl n3 (by omega) hF3.keep.size
        have hF4 := hF3.grant ho4 hg4
        have hbx4 := hbx3.kept ((Keep.refl _).grown hg4 (K := fun i _ => u5.ownBlock ≠ some i) fun g o hgg _ hn => hn hgg) (fun i cur hc => claim_own_ne hF3.got (by decide) hc) (fun _ => blk_own_ne hbx3.blk hF3.got (by decide))
        have hdc := drop_count HOK.out HH.out
        have hok4 := ok_drop HOK.out who
        have hle4 := (drop_length (s := e2) who)
        subst e3
        have HAP := Lib.hid hap
        have HF4 := Lib.hid hF4
        have HBX4 := Lib.hid hbx4
        have HDC := Lib.hid hdc
        have hcn4 : countP SL + countP (s.drop j) ≤ 20000 := by omega
        obtain ⟨k', hk'⟩ : ∃ k', countP SL + countP (s.drop j) = k' + 1 := ⟨countP SL + countP (s.drop j) - 1, by have := HCD.out; have := HDC.out; omega⟩
        have hlv := leave_ HF4.out.tab (by omega) (by omega) (m := (k' : Int)) (by omega)
        have HLV := Lib.hid hlv
        have HK' := Lib.hid hk'
        have hF5 := hF4.count k'
        have hbx5 := hbx4.kept ((Keep.refl w4).setCell (K := fun i _ => i ≠ b) (p := ⟨b, 0, none⟩) (fun _ _ h => h rfl) (.int .i64 (k' : Int))) (fun i cur hc => ne_of_types hF4.tab hc (by decide)) (fun _ => ne_of_types (g := b) hF4.tab hbx4.blk (by decide))
        obtain ⟨l2, hl2⟩ : ∃ l2, (dropP e2 who).2 = l2 := ⟨_, rfl⟩
        obtain ⟨xs, hxs⟩ : ∃ xs, (dropP e2 who).1 = xs := ⟨_, rfl⟩
        rw [hl2] at hbx5 hok4
        have hhl := holds_ hbx5.lock (by rw [← hl2]; omega) (by rw [← hl2]; omega)
        have HHL := Lib.hid hhl
        have HF5 := Lib.hid hF5
        have HBX5 := Lib.hid hbx5
        have HL2 := Lib.hid hl2
        have HXS := Lib.hid hxs
        clear ho3 hl3 hk3 hb3 hbx3 hF3 hl3' hap ho4 hg4 hF4 hbx4 hdc hok4 hlv hk' hF5 hbx5 hl2 hxs hhl
        go_wp2_with (at_builtin; refine wpList_append_run rfl (.tmp 28) (.tmp 31) 39 39 rfl _ _ rfl rfl HAP.out ?_)
        refine HLV.out.mono ?_
        rintro e w5 ⟨rfl, hw5⟩
        rw [← hw5] at HHL HF5 HBX5
        clear hw5
        go_wp2_with fail
        refine HHL.out.mono ?_
        rintro e w6 ⟨v6, rfl, ho6, hb6⟩
        obtain ⟨A6, c6, rfl, _, hn6, hc6, _⟩ := own_lst ho6
        have hF6 := HF5.out.below hb6
        have hbx6 := HBX5.out.below hb6
        clear ho6 hb6
        have hkk : countP SL + countP (s.drop j) = k' + 1 := HK'.out
        have hdc := HDC.out
        rw [HL2.out] at hdc
        have hcdj := HCD.out
        have hin2 := HIN2.out
        rw [HL2.out, HXS.out] at hin2
        have hxl : xs.length ≤ 1000 := by rw [← HXS.out]; omega
        by_cases hz : (holdsP l2).length = 0
        · have hz1 : ((holdsP l2).length : Int) = 0 := by omega
          have hfin : FrR w b (some ⟨g2, o2, none⟩) c s who (m - (j + 1)) v4 u6 (.int .i64 ((j : Int) + 1)) w6 := by
            refine ⟨j + 1, G ++ xs, SL, rl, by have := HM.out; omega, by go_num, ?_, ?_, by simp; omega, by omega, by omega⟩
            · have e : countP SL + countP (s.drop (j + 1)) = k' := by omega
              rw [e, ← HXS.out]
              exact hF6
            · rw [HFR.out, hin2, if_pos hz]
              simp
          have HFIN := Lib.hid hfin
          clear hfin hF6 hbx6 hkk hdc hcdj hin2
          go_wp2_with fail
          go_roundg (m - (j + 1))
          case measure => have := HJ.out; have := HM.out; omega
          case rel => exact HFIN.out
        · have hz1 : ¬ ((holdsP l2).length : Int) = 0 := by omega
          obtain ⟨⟨y1, y2, y3⟩, ⟨z1, z2, z3⟩, yy⟩ := r3
          have q0 : _ = some (Value.slice y1 y2 y3) := hbx6.blk.cell 0
          have q1 : _ = some (Value.slice z1 z2 z3) := hbx6.blk.cell 1
          have q2 := hbx6.blk.cell 2
          have q3 := hbx6.blk.cell 3
          have q4 := hbx6.blk.cell 4
          obtain ⟨v', W', hap, ho', hg'⟩ := append_lock hF6.own hF6.keep.size (by rw [hF6.rows.1]; omega) y1 y2 y3 z1 z2 z3 (t1, t2, t3)
          have hal3 := alloc_below w6 (.cells #[.slice y1 y2 y3, .slice z1 z2 z3, .int .i64 t1, .string t2, .string t3] 66)
          have hF7 := hF6.below hal3
          have hrw : RowOk W' ((y1, y2, y3), (z1, z2, z3), (t1, t2, t3)) ((t1, t2, t3), l2) := by
            have h1 := (hbx6.below hal3).row.kept ((Keep.refl _).grown hg' (K := fun i _ => u6.ownBlock ≠ some i) fun g o hgg _ hn => hn hgg) (fun i cur hc => claim_own_ne hF7.own (by decide) hc)
            exact ⟨rfl, h1.held, h1.line⟩
          have hF8 := hF7.put hrw ho' hg'
          have hfin : FrR w b (some ⟨g2, o2, none⟩) c s who (m - (j + 1)) v4 v' (.int .i64 ((j : Int) + 1)) W' := by
            refine ⟨j + 1, G ++ xs, SL ++ [((t1, t2, t3), l2)], rl ++ [((y1, y2, y3), (z1, z2, z3), (t1, t2, t3))], by have := HM.out; omega, by go_num, ?_, ?_, by simp; omega, by simp; omega, by rw [count_snoc]; simp only; omega⟩
            · have e : countP (SL ++ [((t1, t2, t3), l2)]) + countP (s.drop (j + 1)) = k' := by rw [count_snoc]; simp only; omega
              rw [e, ← HXS.out]
              exact hF8
            · rw [HFR.out, hin2, if_neg hz]
              simp
          have HFIN := Lib.hid hfin
          have HAP2 := Lib.hid hap
          clear hap ho' hg' hal3 hF7 hrw hF8 hfin hF6 hbx6 hkk hdc hcdj hin2
          go_wp2_with (at_builtin; refine wpList_append_run rfl (.tmp 41) (.tmp 43) 51 51 rfl _ _ rfl rfl HAP2.out ?_)
          go_roundg (m - (j + 1))
          case measure => have := HJ.out; have := HM.out; omega
          case rel => exact HFIN.out
    · obtain rfl : j = m := by have := HJ.out; have := HM.out; omega
      have hdr : s.drop j = [] := List.drop_eq_nil_of_le (by rw [HM.out]; exact Nat.le_refl _)
      have hfr := HFR.out
      have hfs := HFS.out
      rw [hdr] at hfr hfs
      have e0 : countP SL + countP [] = countP SL := by simp [countP]
      rw [e0] at hfs
      simp only [freeN, List.append_nil] at hfr
      obtain ⟨A', c', e1, htb, hlt', hgo, hkp⟩ := hfs.done
      subst e1
      have p2 := htb.cell 1
      have f2 := htb.frozen 1
      have HFR2 := Lib.hid hfr
      have HLT := Lib.hid hlt'
      have HGO := Lib.hid hgo
      have HKP := Lib.hid hkp
      clear hfr hfs e0 htb hlt' hgo hkp hdr
      go_wp2_with fail
      go_ret
      exact ⟨_, rfl, by rw [HFR2.out]; exact HGO.out, by rw [HFR2.out]; exact HLT.out, HKP.out⟩
end Go.Proofs.YtnjhhndggfjjdaaGreatDoor
namespace Go.Proofs.YtnjhhndggfjjdaaGreatDoor
open Go
/-- what all locks are at any time -/
structure TInv (s : TS) : Prop where
  rise : s.Pairwise fun a b => cmpN a.1 b.1 < 0
  norm : ∀ e ∈ s, knownP e.1 = some e.1
  ok : ∀ e ∈ s, Ok e.2
  fit : ∀ e ∈ s, Fit e.2
  some : ∀ e ∈ s, (holdsP e.2).length ≠ 0
  one : s.Pairwise fun a b => ∀ x, ¬ (hasP a.2.2 x = true ∧ hasP b.2.2 x = true)
theorem TInv.nil : TInv [] := ⟨List.Pairwise.nil, by simp, by simp, by simp, by simp, List.Pairwise.nil⟩
theorem known_idem {n m : Nm} (h : knownP n = some m) : knownP m = some m := by
  obtain ⟨d, o, r⟩ := n
  unfold knownP at h
  simp only at h
  split at h
  · injection h with h
    subst h
    rfl
  · split at h
    · injection h with h
      subst h
      rfl
    · split at h
      · injection h with h
        subst h
        rename_i h1 h2 h3
        unfold knownP
        simp only
        rw [if_neg h1, if_neg h2, if_pos h3]
      · cases h
/-- all locks around that one of a name -/
theorem put_split {s : TS} (h : s.Pairwise fun a b => cmpN a.1 b.1 < 0) (m : Nm) : ∃ pre mid post : TS, s = pre ++ mid ++ post ∧ (∀ l, putN s m l = pre ++ (m, l) :: post) ∧ (∀ e ∈ pre, cmpN e.1 m < 0) ∧ (∀ e ∈ post, cmpN m e.1 < 0) ∧ ((mid = [] ∧ atN s m = false ∧ lockN s m = ([], [])) ∨ (mid = [(m, lockN s m)] ∧ atN s m = true)) := by
  have hb : ∀ e ∈ s.take (spotN s m), cmpN e.1 m < 0 := fun e he => by
    obtain ⟨i, hi, rfl⟩ := List.getElem_of_mem he
    rw [List.length_take] at hi
    have := List.not_of_lt_findIdx (p := fun e : Ent => !decide (cmpN e.1 m < 0)) (xs := s) (i := i) (by unfold spotN at hi; omega)
    rw [List.getElem_take]
    simpa using this
  cases hat : atN s m
  · refine ⟨s.take (spotN s m), [], s.drop (spotN s m), by simp, fun l => by unfold putN; rw [hat]; rfl, hb, fun e he => ?_, .inl ⟨rfl, rfl, lock_not hat⟩⟩
    obtain ⟨i, hi, rfl⟩ := List.getElem_of_mem he
    rw [List.length_drop] at hi
    have hlt : spotN s m < s.length := by omega
    have h1 : ¬ cmpN (s[spotN s m]).1 m < 0 := by
      have hx : (!decide (cmpN (s[spotN s m]).1 m < 0)) = true := List.findIdx_getElem (p := fun e : Ent => !decide (cmpN e.1 m < 0)) (xs := s) (w := hlt)
      simpa using hx
    have h2 : cmpN (s[spotN s m]).1 m ≠ 0 := by
      unfold atN at hat
      rw [List.getElem?_eq_getElem hlt] at hat
      simpa using hat
    have h3 : cmpN m (s[spotN s m]).1 < 0 := by rw [cmpN_turn]; omega
    rw [List.getElem_drop]
    rcases Nat.eq_zero_or_pos i with h0 | h0
    · subst h0
      simpa using h3
    · exact cmpN_lt_trans h3 (rise_at h hlt (by omega) (by omega))
  · have hlt := at_lt hat
    have hsp : s = s.take (spotN s m) ++ [(m, lockN s m)] ++ s.drop (spotN s m + 1) := by
      conv => lhs; rw [← List.take_append_drop (spotN s m) s, List.drop_eq_getElem_cons hlt]
      rw [List.append_assoc, List.singleton_append]
      congr 2
      exact Prod.ext (at_name hat) (lock_at hat).symm
    refine ⟨s.take (spotN s m), [(m, lockN s m)], s.drop (spotN s m + 1), hsp, fun l => ?_, hb, fun e he => ?_, .inr ⟨rfl, rfl⟩⟩
    · unfold putN
      rw [hat, if_pos rfl, List.set_eq_take_append_cons_drop, if_pos hlt]
    · obtain ⟨i, hi, rfl⟩ := List.getElem_of_mem he
      rw [List.length_drop] at hi
      rw [List.getElem_drop]
      have := rise_at h hlt (show spotN s m + 1 + i < s.length by omega) (by omega)
      rwa [at_name hat] at this
theorem lock_mem {s : TS} {m : Nm} (h : atN s m = true) : (m, lockN s m) ∈ s := by
  have : (m, lockN s m) = s[spotN s m]'(at_lt h) := Prod.ext (at_name h).symm (lock_at h)
  rw [this]
  exact List.getElem_mem _
theorem count_append (a b : TS) : countP (a ++ b) = countP a + countP b := by unfold countP; simp
theorem count_zero : countP [] = 0 := rfl
theorem md_ne {mode : Int} (h : mode ≠ 0) : mdN mode ≠ 0 := by
  unfold mdN
  split
  · omega
  · omega
theorem wait_none {s : TS} {who : Int} (h : waitN s who = none) : ∀ e ∈ s, hasP e.2.2 who = false := fun e he => by
  unfold waitN at h
  rw [Option.map_eq_none_iff, List.find?_eq_none] at h
  simpa using h e he
theorem lock_inv {s : TS} (h : TInv s) (m : Nm) : Ok (lockN s m) ∧ Fit (lockN s m) := by
  obtain ⟨pre, mid, post, e, _, _, _, hm⟩ := put_split h.rise m
  rcases hm with ⟨_, _, h2⟩ | ⟨_, h1⟩
  · rw [h2]; exact ⟨ok_none, fit_none⟩
  · exact ⟨h.ok _ (lock_mem h1), h.fit _ (lock_mem h1)⟩
theorem lock_line {s : TS} (h : TInv s) {who : Int} (hw : waitN s who = none) (m : Nm) : hasP (lockN s m).2 who = false := by
  obtain ⟨pre, mid, post, e, _, _, _, hm⟩ := put_split h.rise m
  rcases hm with ⟨_, _, h2⟩ | ⟨_, h1⟩
  · rw [h2]; rfl
  · exact wait_none hw (m, lockN s m) (lock_mem h1)
theorem count_put {s : TS} (h : TInv s) {who : Int} {m : Nm} {mode : Int} (hm0 : mode ≠ 0) (hw : waitN s who = none) :
    countP (putN s m (askP (lockN s m) who (mdN mode)).2) = countP s + (if hereP (lockN s m) who = true then 0 else 1) := by
  have hl := lock_line h hw m
  have hc := ask_count (lock_inv h m).1 (md_ne hm0) (mdN_lt mode) hl
  obtain ⟨pre, mid, post, e, hp, _, _, hm⟩ := put_split h.rise m
  rw [hp, count_append, count_cons]
  simp only
  rw [hc]
  have e1 : countP s = countP pre + (holdsP (lockN s m)).length + countP post := by
    conv => lhs; rw [e]
    rw [count_append, count_append]
    rcases hm with ⟨h1, _, h2⟩ | ⟨h1, _⟩
    · rw [h1, h2]; rfl
    · rw [h1, count_cons, count_zero]
      simp only
      omega
  rw [e1]
  omega
theorem inv_put {s : TS} (h : TInv s) {m : Nm} (hk : knownP m = some m) {l : Lk} (ok : Ok l) (fit : Fit l) (hs : (holdsP l).length ≠ 0) (h1 : ∀ x, hasP l.2 x = true → ∀ e ∈ s, e.1 ≠ m → hasP e.2.2 x = false) : TInv (putN s m l) := by
  obtain ⟨pre, mid, post, e, hp, hb, ha, _⟩ := put_split h.rise m
  have hpre : ∀ x ∈ pre, x ∈ s := fun x hx => by rw [e]; simp [hx]
  have hpost : ∀ x ∈ post, x ∈ s := fun x hx => by rw [e]; simp [hx]
  have hmem : ∀ x ∈ pre ++ (m, l) :: post, x = (m, l) ∨ x ∈ s := fun x hx => by
    simp only [List.mem_append, List.mem_cons] at hx
    rcases hx with hx | hx | hx
    · exact .inr (hpre x hx)
    · exact .inl hx
    · exact .inr (hpost x hx)
  have nepre : ∀ x ∈ pre, x.1 ≠ m := fun x hx he => by
    have := hb x hx
    rw [he, (cmpN_eq m m).2 rfl] at this
    omega
  have nepost : ∀ x ∈ post, x.1 ≠ m := fun x hx he => by
    have := ha x hx
    rw [he, (cmpN_eq m m).2 rfl] at this
    omega
  have hr := h.rise
  have ho := h.one
  rw [e, List.append_assoc, List.pairwise_append, List.pairwise_append] at hr ho
  rw [hp]
  refine ⟨?_, fun x hx => ?_, fun x hx => ?_, fun x hx => ?_, fun x hx => ?_, ?_⟩
  · rw [List.pairwise_append, List.pairwise_cons]
    refine ⟨hr.1, ⟨fun x hx => ha x hx, hr.2.1.2.1⟩, fun x hx y hy => ?_⟩
    rcases List.mem_cons.1 hy with rfl | hy
    · exact hb x hx
    · exact hr.2.2 x hx y (by simp [hy])
  · rcases hmem x hx with rfl | h2
    · exact hk
    · exact h.norm x h2
  · rcases hmem x hx with rfl | h2
    · exact ok
    · exact h.ok x h2
  · rcases hmem x hx with rfl | h2
    · exact fit
    · exact h.fit x h2
  · rcases hmem x hx with rfl | h2
    · exact hs
    · exact h.some x h2
  · rw [List.pairwise_append, List.pairwise_cons]
    refine ⟨ho.1, ⟨fun y hy x ⟨p1, p2⟩ => ?_, ho.2.1.2.1⟩, fun y hy z hz x ⟨p1, p2⟩ => ?_⟩
    · rw [h1 x p1 y (hpost y hy) (nepost y hy)] at p2; cases p2
    · rcases List.mem_cons.1 hz with rfl | hz
      · rw [h1 x p2 y (hpre y hy) (nepre y hy)] at p1; cases p1
      · exact ho.2.2 y hy z (by simp [hz]) x ⟨p1, p2⟩
/-- two locks of one name are one -/
theorem name_one {s : TS} (h : TInv s) {a b : Ent} (ha : a ∈ s) (hb : b ∈ s) (he : a.1 = b.1) : a = b := by
  obtain ⟨i, hi, rfl⟩ := List.getElem_of_mem ha
  obtain ⟨j, hj, rfl⟩ := List.getElem_of_mem hb
  rcases Nat.lt_trichotomy i j with h1 | h1 | h1
  · have := rise_at h.rise hi hj h1
    rw [he, (cmpN_eq _ _).2 rfl] at this
    omega
  · subst h1; rfl
  · have := rise_at h.rise hj hi h1
    rw [he, (cmpN_eq _ _).2 rfl] at this
    omega
theorem inv_ask {s : TS} (h : TInv s) (who : Int) (n : Nm) (mode : Int) : TInv (askN s who n mode).2 := by
  rcases hk : knownP n with _ | m
  · rw [ask_unknown hk]; exact h
  rcases hw : waitN s who with _ | t
  rotate_left
  · rw [ask_state hk (by rw [hw]; rfl)]; exact h
  have hw2 : (waitN s who).isSome = false := by rw [hw]; rfl
  by_cases hm0 : mode = 0
  · rw [ask_nothing hk hw2 hm0]; exact h
  by_cases hf : hereP (lockN s m) who = false ∧ 200 ≤ countP s
  · rw [ask_full hk hw2 hm0 hf.1 hf.2]; exact h
  have hor : hereP (lockN s m) who = true ∨ countP s < 200 := by
    cases hh : hereP (lockN s m) who
    · exact .inr (Nat.lt_of_not_le fun h5 => hf ⟨hh, h5⟩)
    · exact .inl rfl
  rw [ask_asks hk hw2 hm0 hor]
  simp only
  obtain ⟨okl, fitl⟩ := lock_inv h m
  have hl := lock_line h hw m
  have ok2 := ok_ask okl who (mdN_lt mode)
  refine inv_put h (known_idem hk) ok2 (fit_ask okl fitl who (mdN_lt mode)) ?_ fun x hx e he hne => ?_
  · have : who ∈ whosP (askP (lockN s m) who (mdN mode)).2 := by
      rw [whos_mem ok2, ask_whos okl (md_ne hm0) (mdN_lt mode) hl]
      exact .inl rfl
    rw [← whos_length]
    intro h0
    rw [List.eq_nil_of_length_eq_zero h0] at this
    cases this
  · rcases ask_line hx with rfl | hx
    · exact wait_none hw e he
    · cases hh : hasP e.2.2 x
      · rfl
      · exfalso
        obtain ⟨pre, mid, post, es, _, _, _, hm⟩ := put_split h.rise m
        rcases hm with ⟨_, _, h2⟩ | ⟨_, h1⟩
        · rw [h2] at hx; cases hx
        · have hmem : (m, lockN s m) ∈ s := lock_mem h1
          obtain ⟨i, hi, hie⟩ := List.getElem_of_mem he
          obtain ⟨j, hj, hje⟩ := List.getElem_of_mem hmem
          have hij : i ≠ j := fun e2 => by
            subst e2
            rw [hie] at hje
            exact hne (by rw [hje])
          have hpo := List.pairwise_iff_getElem.1 h.one
          rcases Nat.lt_or_ge i j with h3 | h3
          · have := hpo i j hi hj h3 x
            rw [hie, hje] at this
            exact this ⟨hh, hx⟩
          · have := hpo j i hj hi (by omega) x
            rw [hie, hje] at this
            exact this ⟨hx, hh⟩
theorem count_ask {s : TS} (h : TInv s) (who : Int) (n : Nm) (mode : Int) : countP (askN s who n mode).2 ≤ countP s + 1 := by
  rcases hk : knownP n with _ | m
  · rw [ask_unknown hk]; simp
  rcases hw : waitN s who with _ | t
  rotate_left
  · rw [ask_state hk (by rw [hw]; rfl)]; simp
  have hw2 : (waitN s who).isSome = false := by rw [hw]; rfl
  by_cases hm0 : mode = 0
  · rw [ask_nothing hk hw2 hm0]; simp
  by_cases hf : hereP (lockN s m) who = false ∧ 200 ≤ countP s
  · rw [ask_full hk hw2 hm0 hf.1 hf.2]; simp
  have hor : hereP (lockN s m) who = true ∨ countP s < 200 := by
    cases hh : hereP (lockN s m) who
    · exact .inr (Nat.lt_of_not_le fun h5 => hf ⟨hh, h5⟩)
    · exact .inl rfl
  rw [ask_asks hk hw2 hm0 hor]
  simp only
  rw [count_put h hm0 hw]
  split <;> omega
/-- somebody taken out of one lock -/
def dropE (who : Int) (e : Ent) : Ent := (e.1, if hereP e.2 who = true then (dropP e.2 who).2 else e.2)
theorem free_filter : ∀ {s : TS} (who : Int), (∀ e ∈ s, (holdsP e.2).length ≠ 0) → (freeN s who).2 = (s.map (dropE who)).filter fun e => (holdsP e.2).length != 0
  | [], _, _ => rfl
  | e :: s, who, h => by
    have ih := free_filter (s := s) who fun x hx => h x (by simp [hx])
    have h0 := h e (by simp)
    cases hh : hereP e.2 who
    · rw [freeN, if_neg (by simp [hh])]
      simp only [List.map_cons]
      have : dropE who e = e := by unfold dropE; rw [if_neg (by simp [hh])]
      rw [this, List.filter_cons_of_pos (by simpa using h0), ih]
    · rw [freeN, if_pos hh]
      simp only [List.map_cons]
      have he : dropE who e = (e.1, (dropP e.2 who).2) := by unfold dropE; rw [if_pos hh]
      rw [he]
      by_cases hz : (holdsP (dropP e.2 who).2).length = 0
      · rw [if_pos hz, List.filter_cons_of_neg (by simpa using hz), ih]
      · rw [if_neg hz, List.filter_cons_of_pos (by simpa using hz), ih]
theorem drope_line {who x : Int} {e : Ent} (h : hasP (dropE who e).2.2 x = true) : hasP e.2.2 x = true := by
  unfold dropE at h
  simp only at h
  split at h
  · exact drop_line h
  · exact h
theorem inv_free {s : TS} (h : TInv s) (who : Int) : TInv (freeN s who).2 := by
  rw [free_filter who h.some]
  have hmem : ∀ e ∈ (s.map (dropE who)).filter fun e => (holdsP e.2).length != 0, ∃ e0 ∈ s, e = dropE who e0 := fun e he => by
    obtain ⟨e0, h0, rfl⟩ := List.mem_map.1 (List.mem_filter.1 he).1
    exact ⟨e0, h0, rfl⟩
  refine ⟨?_, fun e he => ?_, fun e he => ?_, fun e he => ?_, fun e he => ?_, ?_⟩
  · exact (List.pairwise_map.2 h.rise).filter _
  · obtain ⟨e0, h0, rfl⟩ := hmem e he
    exact h.norm e0 h0
  · obtain ⟨e0, h0, rfl⟩ := hmem e he
    unfold dropE
    simp only
    split
    · exact ok_drop (h.ok e0 h0) who
    · exact h.ok e0 h0
  · obtain ⟨e0, h0, rfl⟩ := hmem e he
    unfold dropE
    simp only
    split
    · exact fit_drop (h.ok e0 h0) (h.fit e0 h0) who
    · exact h.fit e0 h0
  · simpa using (List.mem_filter.1 he).2
  · refine (List.pairwise_map.2 (h.one.imp fun {a b} hab x hx => ?_)).filter _
    exact hab x ⟨drope_line hx.1, drope_line hx.2⟩
/-- who is taken out has to do with no lock -/
theorem free_whos {s : TS} (h : TInv s) (who x : Int) {e : Ent} (he : e ∈ (freeN s who).2) (hx : hereP e.2 x = true) : x ≠ who ∧ ∃ e0 ∈ s, hereP e0.2 x = true := by
  rw [free_filter who h.some] at he
  obtain ⟨e0, h0, rfl⟩ := List.mem_map.1 (List.mem_filter.1 he).1
  have ok := h.ok e0 h0
  unfold dropE at hx
  simp only at hx
  split at hx
  · rw [here_mem, whos_mem (ok_drop ok who), drop_whos] at hx
    refine ⟨hx.1, e0, h0, ?_⟩
    rw [here_mem, whos_mem ok]
    exact hx.2
  · rename_i hn
    refine ⟨fun e => ?_, e0, h0, hx⟩
    subst e
    exact hn hx
theorem count_lock {s : TS} {e : Ent} (he : e ∈ s) : (holdsP e.2).length ≤ countP s := by
  obtain ⟨i, hi, rfl⟩ := List.getElem_of_mem he
  have := congrArg countP (List.take_append_drop i s)
  rw [count_append, List.drop_eq_getElem_cons hi, count_cons] at this
  omega
theorem sub_length : ∀ {l m : List Int}, l.Nodup → (∀ x ∈ l, x ∈ m) → l.length ≤ m.length
  | [], _, _, _ => Nat.zero_le _
  | x :: l, m, hn, h => by
    have hx := h x (by simp)
    have hn := List.nodup_cons.1 hn
    have ih := sub_length (l := l) (m := m.erase x) hn.2 fun y hy => (List.mem_erase_of_ne (fun e => hn.1 (by rw [← e]; exact hy))).2 (h y (by simp [hy]))
    have h1 := List.length_erase_of_mem hx
    have h2 := List.length_pos_of_mem hx
    rw [List.length_cons]
    omega
theorem lock_small {s : Lk} (ok : Ok s) : s.1.length ≤ (holdsP s).length ∧ s.2.length ≤ (holdsP s).length := by
  rw [← whos_length]
  constructor
  · have := sub_length ok.ndH (m := whosP s) fun x hx => (whos_mem ok x).2 (.inl (has_mem.2 hx))
    simpa using this
  · have := sub_length ok.ndL (m := whosP s) fun x hx => (whos_mem ok x).2 (.inr (has_mem.2 hx))
    simpa using this
theorem length_count {s : TS} (h : ∀ e ∈ s, (holdsP e.2).length ≠ 0) : s.length ≤ countP s := by
  induction s with
  | nil => simp
  | cons e r ih =>
    rw [count_cons, List.length_cons]
    have := h e (by simp)
    have := ih fun x hx => h x (by simp [hx])
    omega
theorem TInv.small {s : TS} (h : TInv s) {e : Ent} (he : e ∈ s) : e.2.1.length ≤ countP s ∧ e.2.2.length ≤ countP s := by
  have h1 := lock_small (h.ok e he)
  have h2 := count_lock he
  omega
theorem TInv.good {s : TS} (h : TInv s) (hc : countP s ≤ 10000) : TGood s :=
  ⟨h.rise, h.ok, h.fit, fun e he => by have := h.small he; omega, by have := length_count h.some; omega⟩
end Go.Proofs.YtnjhhndggfjjdaaGreatDoor
namespace Go.Proofs.YtnjhhndggfjjdaaGreatDoor
open Go.RowKit
theorem wait_ent (rs : List Rw) (who : Int) : waitN (rs.map Rw.ent) who = nmWait rs who := by
  unfold waitN nmWait
  rw [List.find?_map, Option.map_map]
  rfl
theorem small_of {rs : List Rw} {s : TS} (e : rs.map Rw.ent = s) (hi : TInv s) (hc : countP s ≤ 1000) : SmallR rs := by
  subst e
  refine ⟨fun r hr => hi.ok _ (List.mem_map.2 ⟨r, hr, rfl⟩), fun r hr => ?_, by rw [← cntR_ent]; omega, ?_⟩
  · have h1 : r.l.1.length ≤ countP (rs.map Rw.ent) ∧ r.l.2.length ≤ countP (rs.map Rw.ent) := hi.small (List.mem_map.2 ⟨r, hr, rfl⟩)
    omega
  · have := length_count hi.some
    rw [List.length_map] at this
    omega
theorem spot_pres {s : TS} (hr : s.Pairwise fun a b => cmpN a.1 b.1 < 0) {m : Nm} {j : Nat} (hj : j < s.length) (h : s[j].1 = m) : spotN s m = j ∧ atN s m = true ∧ lockN s m = s[j].2 := by
  have hs : spotN s m = j := (List.findIdx_eq hj).2 ⟨by rw [h, (cmpN_eq m m).2 rfl]; rfl, fun i hi => by
    have := List.pairwise_iff_getElem.1 hr i j (by omega) hj hi
    rw [h] at this
    simpa using this⟩
  refine ⟨hs, ?_, ?_⟩
  · unfold atN
    rw [hs, List.getElem?_eq_getElem hj]
    simp [(cmpN_eq s[j].1 m).2 h]
  · unfold lockN
    rw [hs, List.getElem?_eq_getElem hj]
    simp [(cmpN_eq s[j].1 m).2 h]
theorem spot_abs {s : TS} {m : Nm} (h : ∀ e ∈ s, e.1 ≠ m) : atN s m = false ∧ lockN s m = ([], []) := by
  unfold atN lockN
  rcases hq : s[spotN s m]? with _ | e
  · exact ⟨rfl, rfl⟩
  · have h1 : cmpN e.1 m ≠ 0 := fun h2 => h e (List.mem_of_getElem? hq) ((cmpN_eq _ _).1 h2)
    exact ⟨by simpa using h1, by simp [h1]⟩
theorem here_held {s : TS} (hi : TInv s) {who : Int} (hw : waitN s who = none) (m : Nm) : hereP (lockN s m) who = hasP (lockN s m).1 who := by
  have hl := lock_line hi hw m
  have ok := (lock_inv hi m).1
  rw [Bool.eq_iff_iff, here_mem, whos_mem ok, hl]
  simp
end Go.Proofs.YtnjhhndggfjjdaaGreatDoor
