/- Package locks' Free: what it carries from lock to lock. -/
import Derived.Test.YtnjhhndggfjjdaaDoorLkA
import Derived.Test.YtnjhhndggfjjdaaDoorLkN
set_option maxRecDepth 4000
namespace Go.Proofs.YtnjhhndggfjjdaaDoor
open Go.RowKit
theorem Lock.kept {w w' : World} {b off : Nat} {zn : Zn} {s : Lk} {Q : Nat → Obj → Prop} (h : Lock w b off zn s) (k : Keep Q w w') (hb : w'.heap[b]? = w.heap[b]?) (hq : ∀ i cur, w.heap[i]? = some (.cells cur 78 (0, 0)) → Q i (.cells cur 78 (0, 0))) : Lock w' b off zn s := by
  obtain ⟨vH, vL, t, aH, aL⟩ := h
  exact ⟨vH, vL, t.same hb, aH.kept k hq, aL.kept k hq⟩
/-- a lock in a block of its own: its five cells, and what it has -/
structure Box (w : World) (q : Nat) (m : Nm) (r : Re) (l : Lk) : Prop where
  blk : Blk w q 62 #[r.1.val, r.2.1.val, .int .i64 m.1, .string m.2.1, .string m.2.2]
  row : RowOk w r (m, l)
theorem Box.lock {w : World} {q : Nat} {m : Nm} {r : Re} {l : Lk} (h : Box w q m r l) : Lock w q 0 ⟨62, #[r.1.val, r.2.1.val, .int .i64 m.1, .string m.2.1, .string m.2.2]⟩ l :=
  ⟨_, _, two_of_cells (off := 0) h.blk (by decide) (h.blk.cell 0) (h.blk.cell 1), h.row.held, h.row.line⟩
theorem Box.of_lock {w : World} {q : Nat} {m : Nm} {v1 v2 : Value} {l : Lk} (h : Lock w q 0 ⟨62, #[v1, v2, .int .i64 m.1, .string m.2.1, .string m.2.2]⟩ l) : ∃ r, Box w q m r l := by
  obtain ⟨vH, vL, t, aH, aL⟩ := h
  have hb := t.blk
  obtain ⟨A1, c1, e1, l1, p1⟩ := aH
  obtain ⟨A2, c2, e2, l2, p2⟩ := aL
  subst e1 e2
  exact ⟨((A1, l.1.length, c1), (A2, l.2.length, c2), m), hb, rfl, ⟨A1, c1, rfl, l1, p1⟩, ⟨A2, c2, rfl, l2, p2⟩⟩
theorem Box.below {w w' : World} {q : Nat} {m : Nm} {r : Re} {l : Lk} (h : Box w q m r l) (k : Below w.heap.size w w') : Box w' q m r l := ⟨h.blk.below k h.blk.lt, h.row.below k⟩
theorem Box.kept {w w' : World} {q : Nat} {m : Nm} {r : Re} {l : Lk} {Q : Nat → Obj → Prop} (h : Box w q m r l) (k : Keep Q w w') (hq : ∀ i cur, w.heap[i]? = some (.cells cur 78 (0, 0)) → Q i (.cells cur 78 (0, 0))) (h1 : ∀ o, Q q o) : Box w' q m r l := ⟨h.blk.keep k (h1 _), h.row.kept k hq⟩
/-- while somebody is taken out: whom it was granted, which locks are left -/
structure FS (w : World) (b : Nat) (A : Option Addr) (c n : Nat) (G : List Int) (SL : TS) (gv lv : Value) (rl : List Re) (k : Nat) (wr : World) : Prop where
  tab : Blk wr b 50 #[.int .i64 (k : Int), .slice A n c]
  keep : Keep (fun i _ => i ≠ b) w wr
  got : Own wr w.heap.size eI 3 gv G
  own : Own wr w.heap.size eL 62 lv rl
  rows : RowsOk wr rl SL
section
variable {w : World} {b : Nat} {A : Option Addr} {c n : Nat} {G : List Int} {SL : TS} {gv lv : Value} {rl : List Re} {k : Nat} {wr w' : World}
theorem FS.below (h : FS w b A c n G SL gv lv rl k wr) (kb : Below wr.heap.size wr w') : FS w b A c n G SL gv lv rl k w' :=
  ⟨h.tab.below kb h.tab.lt, h.keep.trans (Keep.of_below kb), own_belowE h.got kb, own_belowE h.own kb, h.rows.below kb⟩
theorem FS.grant (h : FS w b A c n G SL gv lv rl k wr) {gv' : Value} {G' : List Int} (ho : Own w' w.heap.size eI 3 gv' G') (hg : wr.grownBy w' gv.ownBlock) : FS w b A c n G' SL gv' lv rl k w' := by
  have far : ∀ i, i < wr.heap.size → gv.ownBlock ≠ some i → w'.heap[i]? = wr.heap[i]? := fun i hi hne => hg.block i hi (fun e => hne e.symm)
  refine ⟨(far b h.tab.lt (tab_ne h.tab h.got (by decide))).trans h.tab, h.keep.grown hg fun g o hgg ho2 _ => ?_, ho, own_keep h.own fun g hgg => far g (own_blk h.own hgg).2.1 (fun e => own_ne h.got h.own (by decide) e hgg), h.rows.kept ((Keep.refl wr).grown hg (K := fun i _ => gv.ownBlock ≠ some i) fun g o hgg _ hn => hn hgg) fun i cur hc e => ?_⟩
  · have := (own_blk h.got hgg).1
    have := lt_of_some ho2
    omega
  · obtain ⟨_, _, cur', hc'⟩ := own_blk h.got e
    rw [hc] at hc'
    injection hc' with hc'
    injection hc' with _ hc'
    cases hc'
theorem FS.count (h : FS w b A c n G SL gv lv rl k wr) (k' : Nat) : FS w b A c n G SL gv lv rl k' (wr.setCell ⟨b, 0, none⟩ (.int .i64 (k' : Int))) := by
  have far : ∀ i, i ≠ b → (wr.setCell ⟨b, 0, none⟩ (.int .i64 (k' : Int))).heap[i]? = wr.heap[i]? := fun i hi => Below.heap_setCell wr ⟨b, 0, none⟩ _ i hi
  refine ⟨by simpa using h.tab.set_ 0 (.int .i64 (k' : Int)), h.keep.setCell (fun _ _ h => h rfl) _, own_keep h.got fun g hg => far g (fun e => by subst e; exact tab_ne h.tab h.got (by decide) hg), own_keep h.own fun g hg => far g (fun e => by subst e; exact tab_ne h.tab h.own (by decide) hg), rows_store h.tab h.rows 0 _⟩
theorem FS.put (h : FS w b A c n G SL gv lv rl k wr) {lv' : Value} {r : Re} {e : Ent} (hr : RowOk w' r e) (ho : Own w' w.heap.size eL 62 lv' (rl ++ [r])) (hg : wr.grownBy w' lv.ownBlock) : FS w b A c n G (SL ++ [e]) gv lv' (rl ++ [r]) k w' := by
  have far : ∀ i, i < wr.heap.size → lv.ownBlock ≠ some i → w'.heap[i]? = wr.heap[i]? := fun i hi hne => hg.block i hi (fun e => hne e.symm)
  have hrk : RowsOk w' rl SL := h.rows.kept ((Keep.refl wr).grown hg (K := fun i _ => lv.ownBlock ≠ some i) fun g o hgg _ hn => hn hgg) fun i cur hc e => by
    obtain ⟨_, _, cur', hc'⟩ := own_blk h.own e
    rw [hc] at hc'
    injection hc' with hc'
    injection hc' with _ hc'
    cases hc'
  refine ⟨(far b h.tab.lt (tab_ne h.tab h.own (by decide))).trans h.tab, h.keep.grown hg fun g o hgg ho2 _ => ?_, own_keep h.got fun g hgg => far g (own_blk h.got hgg).2.1 (fun e => own_ne h.got h.own (by decide) hgg e), ho, ?_⟩
  · have := (own_blk h.own hgg).1
    have := lt_of_some ho2
    omega
  · have := rows_insert hrk (k := rl.length) (Nat.le_refl _) hr
    rw [List.take_length, List.drop_length, hrk.1, List.take_length, List.drop_length] at this
    exact this
theorem FS.start {rs : List Re} {s : TS} (h : LT0 w b (k : Int) A c rs s) : FS w b A c s.length [] [] (.slice none 0 0) (.slice none 0 0) [] k w :=
  ⟨h.blk, Keep.refl _, own_nil _ _, own_nil _ _, rfl, fun j hj => absurd hj (by simp)⟩
/-- the rows that stood there still stand -/
theorem FS.elder {k' : Nat} (h : FS w b A c n G SL gv lv rl k wr) {rs : List Re} {s : TS} (h0 : LT0 w b (k' : Int) A c rs s) : Lst wr (IsL wr) eL A rs ∧ RowsOk wr rs s :=
  ⟨lst_kept h0.lst h.keep fun i cur hi => ne_of_types h0.blk hi (by decide), h0.rows.kept h.keep fun i cur hi => ne_of_types h0.blk hi (by decide)⟩
/-- the locks left become the table's -/
theorem FS.done (h : FS w b A c n G SL gv lv rl k wr) : ∃ A' c', lv = .slice A' SL.length c' ∧ Blk wr b 50 #[.int .i64 (k : Int), .slice A n c] ∧ LT (wr.setCell ⟨b, 1, none⟩ lv) b (k : Int) SL ∧ Own (wr.setCell ⟨b, 1, none⟩ lv) w.heap.size eI 3 gv G ∧ Keep (fun i _ => i ≠ b) w (wr.setCell ⟨b, 1, none⟩ lv) := by
  have far : ∀ i, i ≠ b → (wr.setCell ⟨b, 1, none⟩ lv).heap[i]? = wr.heap[i]? := fun i hi => Below.heap_setCell wr ⟨b, 1, none⟩ _ i hi
  have ho2 := own_keep h.own fun g hg => far g (fun e => by subst e; exact tab_ne h.tab h.own (by decide) hg)
  obtain ⟨A', c', e, hl, h1, h2, h3⟩ := own_lst ho2
  have hn : rl.length = SL.length := h.rows.1
  refine ⟨A', c', by rw [e, hn], h.tab, ⟨A', c', rl, ?_, hl.more fun i _ hi => (own_blk ho2 hi.2).2.2, rows_store h.tab h.rows 1 _, by rw [← hn]; exact h1, h2, h3⟩, own_keep h.got fun g hg => far g (fun e => by subst e; exact tab_ne h.tab h.got (by decide) hg), h.keep.setCell (fun _ _ h => h rfl) _⟩
  have := h.tab.set_ 1 lv
  rw [← hn, ← e]
  simpa using this
end
end Go.Proofs.YtnjhhndggfjjdaaDoor
