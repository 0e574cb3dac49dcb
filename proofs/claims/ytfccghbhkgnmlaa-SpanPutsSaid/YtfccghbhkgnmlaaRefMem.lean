/- Words for the memory of the document's own disk. -/
import Derived.Test.YtfccghbhkgnmlaaHi
namespace Go.Proofs.Ytfccghbhkgnmlaa
open Go.RowKit
theorem info32 : (Try.prog.info? 22).map (fun i => (i.zero, i.size, i.bytes)) = some (some (.slice none 0 0), 1, 24) := by kernel_rfl
theorem info58 : (Try.prog.info? 53).map (fun i => (i.zero, i.size, i.bytes)) = some (some (.agg #[.int .i64 0, .slice none 0 0]), 2, 32) := by kernel_rfl
/-- all blocks but those of O that hold no bytes -/
abbrev OutB (O : Nat → Prop) : Nat → Obj → Prop := fun i o => O i → ∃ cs, o = .cells cs 5 (0, 0)
theorem Keep.outB {O : Nat → Prop} {w w' : World} (h : Keep (OutB O) w w') : Keep (Out O) w w' := h.mono fun _ _ _ hi ho => absurd ho hi
/-- a slice of 64 bytes of the disk's own -/
def Row64 (w : World) (O : Nat → Prop) (v : Value) (x : Sec) : Prop := w.ownsRow 0 5 1 v 64 (cellsB x) ∧ ∀ k, v.ownBlock = some k → O k
section
variable {w w' : World} {O O' : Nat → Prop} {v : Value} {x : Sec}
theorem Row64.keep (h : Row64 w O v x) {K : Nat → Obj → Prop} (k : Keep K w w') (hk : ∀ i cs, O i → K i (.cells cs 5 (0, 0))) : Row64 w' O v x := by
  obtain ⟨⟨h1, h2⟩, h3⟩ := h
  refine ⟨⟨h1, ?_⟩, h3⟩
  rcases h2 with hn | ⟨g, cap, cur, rfl, hb, hg, r⟩
  · exact .inl hn
  · exact .inr ⟨g, cap, cur, rfl, hb, k.block g _ hg (hk g cur (h3 g rfl)), r⟩
theorem Row64.keepB (h : Row64 w O v x) (k : Keep (OutB O) w w') : Row64 w' O v x := h.keep k fun _ cs _ _ => ⟨cs, rfl⟩
theorem Row64.keep_ne {g T : Nat} {cs : Array Value} (h : Row64 w O v x) (k : Keep (fun i _ => i ≠ g) w w') (hg : Blk w g T cs) (hT : 5 ≠ T := by decide) : Row64 w' O v x := by
  refine ⟨ownsRow_keep h.1 k fun i _ hi => ?_, h.2⟩
  rcases h.1.2 with ⟨rfl, _⟩ | ⟨b, cap, cur, rfl, _, hb, _⟩
  · cases hi
  · simp [Value.ownBlock] at hi
    subst hi
    exact ne_of_types hg hb hT
theorem Row64.more (h : Row64 w O v x) (hO : ∀ i, O i → O' i) : Row64 w O' v x := ⟨h.1, fun k hk => hO k (h.2 k hk)⟩
theorem Row64.len (h : Row64 w O v x) : x.length = 64 := by have := h.1.1; rw [cellsB_length] at this; omega
theorem Row64.slice (h : Row64 w O v x) : ∃ b c, v = .slice (some ⟨b, 0, none⟩) 64 c ∧ O b ∧ 64 ≤ c ∧ c ≤ maxLen ∧ b < w.heap.size ∧ ∀ j u, (cellsB x)[j]? = some u → w.cell? ⟨b, j, none⟩ = some u := by
  rcases h.1.2 with ⟨_, h0⟩ | ⟨g, cap, cur, rfl, _, hg, h1, h2, _⟩
  · omega
  · refine ⟨g, cap, rfl, h.2 g rfl, h1, h2, lt_of_some hg, fun j u hu => ?_⟩
    have := h.1.cells (g := g) rfl j u hu
    rw [Addr.add_mid, Nat.zero_add] at this
    exact this
end
def cellL (p : Nat × Value) : List Value := [.int .i64 (p.1 : Int), p.2]
def cellsL (l : List (Nat × Value)) : List Value := (l.map cellL).flatten
/-- the document's disk at block g; t: its sure sectors -/
structure RefM (w : World) (g : Nat) (O : Nat → Prop) (vs vl : Value) (rs : List Value) (ls : List (Nat × Value)) (t : List Sec) (s : St) : Prop where
  head : Blk w g 36 #[vs, vl, .int .i64 (s.left : Int), .bool s.ends, .int .i64 (s.count : Int)]
  own_s : w.ownsRow 0 22 1 vs rs.length rs
  own_l : w.ownsRow 0 53 2 vl ls.length (cellsL ls)
  lr : rs.length = t.length
  rows : ∀ (i : Nat) v x, rs[i]? = some v → t[i]? = some x → Row64 w O v x
  ll : ls.length = s.l.length
  wrs : ∀ (i : Nat) p x, ls[i]? = some p → s.l[i]? = some x → p.1 = x.1 ∧ Row64 w O p.2 x.2
  og : O g
  os : ∀ k, vs.ownBlock = some k → O k
  ol : ∀ k, vl.ownBlock = some k → O k
  ok : s.ok
def RefAt (w : World) (g : Nat) (O : Nat → Prop) (s : St) : Prop := ∃ vs vl rs ls, RefM w g O vs vl rs ls s.sure s
section
variable {w w' : World} {g : Nat} {O O' : Nat → Prop} {vs vl : Value} {rs : List Value} {ls : List (Nat × Value)} {t : List Sec} {s : St}
theorem RefM.keep {K : Nat → Obj → Prop} (h : RefM w g O vs vl rs ls t s) (k : Keep K w w') (hk : ∀ i o, O i → K i o) : RefM w' g O vs vl rs ls t s :=
  ⟨h.head.keep k (hk _ _ h.og), ownsRow_keep h.own_s k (fun i o hi => hk i o (h.os i hi)), ownsRow_keep h.own_l k (fun i o hi => hk i o (h.ol i hi)), h.lr,
    fun i v x h1 h2 => (h.rows i v x h1 h2).keep k fun i _ hi => hk i _ hi, h.ll, fun i p x h1 h2 => ⟨(h.wrs i p x h1 h2).1, (h.wrs i p x h1 h2).2.keep k fun i _ hi => hk i _ hi⟩, h.og, h.os, h.ol, h.ok⟩
theorem RefM.more (h : RefM w g O vs vl rs ls t s) (hO : ∀ i, O i → O' i) : RefM w g O' vs vl rs ls t s :=
  ⟨h.head, h.own_s, h.own_l, h.lr, fun i v x h1 h2 => (h.rows i v x h1 h2).more hO, h.ll, fun i p x h1 h2 => ⟨(h.wrs i p x h1 h2).1, (h.wrs i p x h1 h2).2.more hO⟩, hO _ h.og, fun k hk => hO _ (h.os k hk), fun k hk => hO _ (h.ol k hk), h.ok⟩
theorem RefAt.keep {K : Nat → Obj → Prop} (h : RefAt w g O s) (k : Keep K w w') (hk : ∀ i o, O i → K i o) : RefAt w' g O s := by
  obtain ⟨vs, vl, rs, ls, h⟩ := h
  exact ⟨vs, vl, rs, ls, h.keep k hk⟩
theorem RefAt.below (h : RefAt w g O s) (k : Below w.heap.size w w') : RefAt w' g O s := h.keep (K := fun _ _ => True) (Keep.of_below k) fun _ _ _ => trivial
theorem RefAt.more (h : RefAt w g O s) (hO : ∀ i, O i → O' i) : RefAt w g O' s := by
  obtain ⟨vs, vl, rs, ls, h⟩ := h
  exact ⟨vs, vl, rs, ls, h.more hO⟩
theorem RefAt.drew (h : RefAt w g O s) : RefAt w.drew g O s := h.keep (K := fun _ _ => True) ((Keep.refl w).drew) fun _ _ _ => trivial
theorem own_lt' {e size n : Nat} {v : Value} {xs : List Value} (h : w.ownsRow 0 e size v n xs) : ∀ k, v.ownBlock = some k → k < w.heap.size := fun k hk => (h.lt k hk).2
theorem Row64.cut {v : Value} {x : Sec} (h : Row64 w O v x) : Row64 w (fun i => O i ∧ i < w.heap.size) v x := ⟨h.1, fun k hk => ⟨h.2 k hk, own_lt' h.1 k hk⟩⟩
theorem RefAt.cut (h : RefAt w g O s) : RefAt w g (fun i => O i ∧ i < w.heap.size) s := by
  obtain ⟨vs, vl, rs, ls, h⟩ := h
  exact ⟨vs, vl, rs, ls, ⟨h.head, h.own_s, h.own_l, h.lr, fun i v x h1 h2 => (h.rows i v x h1 h2).cut, h.ll, fun i p x h1 h2 => ⟨(h.wrs i p x h1 h2).1, (h.wrs i p x h1 h2).2.cut⟩, ⟨h.og, h.head.lt⟩, fun k hk => ⟨h.os k hk, own_lt' h.own_s k hk⟩, fun k hk => ⟨h.ol k hk, own_lt' h.own_l k hk⟩, h.ok⟩⟩
theorem own_slice {e size n : Nat} {v : Value} {xs : List Value} (h : w.ownsRow 0 e size v n xs) : ∃ A c, v = .slice A n c ∧ n ≤ c ∧ c ≤ maxLen := by
  rcases h.2 with ⟨rfl, h0⟩ | ⟨g, cap, cur, rfl, _, _, h1, h2, _⟩
  · exact ⟨none, 0, by rw [h0], by omega, by unfold maxLen; omega⟩
  · exact ⟨_, cap, rfl, h1, h2⟩
theorem own_ne' {e size n T i : Nat} {v : Value} {xs : List Value} {cs : Array Value} (h : w.ownsRow 0 e size v n xs) (hi : Blk w i T cs) (hT : e ≠ T) : ∀ k, v.ownBlock = some k → k ≠ i := by
  intro k hk
  rcases h.2 with ⟨rfl, _⟩ | ⟨g, cap, cur, rfl, _, hg, _⟩
  · cases hk
  · simp [Value.ownBlock] at hk
    subst hk
    exact ne_of_types hi hg hT
/-- one cell of a row of one's own -/
theorem own_cell {e n : Nat} {A : Option Addr} {c : Nat} {xs : List Value} (h : w.ownsRow 0 e 1 (.slice A n c) n xs) {i : Nat} {u : Value} (hi : xs[i]? = some u) : ∃ b, A = some ⟨b, 0, none⟩ ∧ w.cell? ⟨b, i, none⟩ = some u ∧ w.frozen? ⟨b, i, none⟩ = false ∧ b < w.heap.size := by
  have hl := (List.getElem?_eq_some_iff.1 hi).1
  rcases h.2 with ⟨_, h0⟩ | ⟨g, cap, cur, hv, _, hg, _⟩
  · have := h.1; omega
  · injection hv with hv1 _ hv3
    have := h.cells (g := g) (by rw [hv1]; rfl) i u hi
    rw [Addr.add_mid, Nat.zero_add] at this
    exact ⟨g, hv1, this, frozen_of_row w g i cur e hg, lt_of_some hg⟩
/-- one cell of a row of one's own is set -/
theorem own_set {e n : Nat} {b c : Nat} {xs : List Value} (h : w.ownsRow 0 e 1 (.slice (some ⟨b, 0, none⟩) n c) n xs) (i : Nat) (u : Value) : (w.setCell ⟨b, i, none⟩ u).ownsRow 0 e 1 (.slice (some ⟨b, 0, none⟩) n c) n (xs.set i u) := by
  rcases h.2 with ⟨hv, _⟩ | ⟨g, cap, cur, hv, _, hg, h1, h2, h3, h4⟩
  · cases hv
  · injection hv with hv1 _ hv3
    injection hv1 with hv1
    injection hv1 with hv1
    subst hv1 hv3
    refine ⟨by simpa using h.1, .inr ⟨b, c, cur.setIfInBounds i u, rfl, Nat.zero_le _, Blk.set_ (w := w) hg i u, h1, h2, by simpa using h3, ?_⟩⟩
    rw [Array.toList_setIfInBounds, List.take_set, h4]
end
theorem cellsL_get {ls : List (Nat × Value)} {j : Nat} {p : Nat × Value} (h : ls[j]? = some p) : (cellsL ls)[j * 2]? = some (.int .i64 (p.1 : Int)) ∧ (cellsL ls)[j * 2 + 1]? = some p.2 := by
  have hx : (ls.map cellL)[j]? = some (cellL p) := by simp [h]
  obtain ⟨e, hl, _, _⟩ := flat_split (c := 2) (ls := ls.map cellL) (fun x hx => by obtain ⟨y, _, rfl⟩ := List.mem_map.1 hx; rfl) hx
  rw [cellsL, e, List.append_assoc]
  refine ⟨?_, ?_⟩
  · rw [List.getElem?_append_right (by omega), hl, Nat.sub_self]; rfl
  · rw [List.getElem?_append_right (by omega), hl, Nat.add_sub_cancel_left]; rfl
theorem own_block {w : World} {e size n : Nat} {A : Option Addr} {c : Nat} {xs : List Value} (h : w.ownsRow 0 e size (.slice A n c) n xs) (hn : 0 < n) : ∃ b cur, A = some ⟨b, 0, none⟩ ∧ Blk w b e cur ∧ ∀ j u, xs[j]? = some u → w.cell? ⟨b, j, none⟩ = some u := by
  rcases h.2 with ⟨_, h0⟩ | ⟨g, cap, cur, hv, _, hg, _⟩
  · omega
  · injection hv with hv1 _ hv3
    refine ⟨g, cur, hv1, hg, fun j u hu => ?_⟩
    have := h.cells (g := g) (by rw [hv1]; rfl) j u hu
    rw [Addr.add_mid, Nat.zero_add] at this
    exact this
end Go.Proofs.Ytfccghbhkgnmlaa
