/- Words for memory: a block known whole; what a call leaves alone; rows of equal parts; a disk. -/
import Derived.Test.YteilbaabnhogbaaPure
import Derived.Below
import Derived.Laws.OwnMore
import Derived.Deep.Draws
import Derived.Laws.Rows
import Derived.Laws.AppendOwn
import Derived.Deep.MidRow
namespace Go.Proofs.Yteilbaabnhogbaa
open Go.RowKit

abbrev u8 (b : UInt8) : Value := .int .u8 (b.toNat : Int)
def cellsB (l : List UInt8) : List Value := l.map u8
theorem cellsB_length (l : List UInt8) : (cellsB l).length = l.length := by simp [cellsB]
theorem cellsB_append (l m : List UInt8) : cellsB (l ++ m) = cellsB l ++ cellsB m := by simp [cellsB]
theorem cellsB_get (l : List UInt8) (j : Nat) : (cellsB l)[j]? = l[j]?.map u8 := by simp [cellsB]
theorem cellsB_one (l : List UInt8) : ∀ v ∈ cellsB l, v.oneCell' = true := by
  intro v hv
  obtain ⟨b, _, rfl⟩ := List.mem_map.1 hv
  rfl

/-- all blocks for which K says so are as they were; nothing else than blocks has turned -/
structure Keep (K : Nat → Obj → Prop) (w w' : World) : Prop where
  os : w'.os = w.os
  tape : w'.tape = w.tape
  output : w'.output = w.output
  size : w.heap.size ≤ w'.heap.size
  block : ∀ i o, w.heap[i]? = some o → K i o → w'.heap[i]? = some o

section
variable {K K' : Nat → Obj → Prop} {w w1 w2 : World}
theorem Keep.refl (w : World) : Keep K w w := ⟨rfl, rfl, rfl, Nat.le_refl _, fun _ _ h _ => h⟩
theorem Keep.trans (h : Keep K w w1) (k : Keep K w1 w2) : Keep K w w2 :=
  ⟨k.os.trans h.os, k.tape.trans h.tape, k.output.trans h.output, Nat.le_trans h.size k.size, fun i o ho hk => k.block i o (h.block i o ho hk) hk⟩
theorem Keep.mono (h : Keep K w w1) (hk : ∀ i o, w.heap[i]? = some o → K' i o → K i o) : Keep K' w w1 := ⟨h.os, h.tape, h.output, h.size, fun i o ho hi => h.block i o ho (hk i o ho hi)⟩
theorem lt_of_some {w : World} {i : Nat} {o : Obj} (h : w.heap[i]? = some o) : i < w.heap.size := by
  rcases Nat.lt_or_ge i w.heap.size with hlt | hge
  · exact hlt
  · rw [Array.getElem?_eq_none hge] at h; cases h
theorem Keep.of_below (h : Below w.heap.size w w1) : Keep K w w1 := ⟨h.os, h.tape, h.output, h.size, fun i _ ho _ => (h.block i (lt_of_some ho)).trans ho⟩
theorem Keep.below {B : Nat} (h : Keep K w w1) (hB : B ≤ w.heap.size) (hk : ∀ i o, i < B → K i o) : Below B w w1 :=
  ⟨h.os, h.tape, h.output, h.size, fun i hi => by
    have hlt : i < w.heap.size := by omega
    rw [Array.getElem?_eq_getElem hlt]
    exact h.block i _ (Array.getElem?_eq_getElem hlt) (hk i _ hi)⟩
theorem Keep.alloc (h : Keep K w w1) (o : Obj) : Keep K w (w1.alloc o) :=
  ⟨h.os, h.tape, h.output, Nat.le_trans h.size (by simp), fun i o' ho hk => by
    have := h.block i o' ho hk
    exact (Below.heap_alloc w1 o i (lt_of_some this)).trans this⟩
theorem Keep.drewN (h : Keep K w w1) (n : Nat) : Keep K w (w1.drewN n) := ⟨h.os, h.tape, h.output, h.size, h.block⟩
theorem Keep.drew (h : Keep K w w1) : Keep K w w1.drew := ⟨h.os, h.tape, h.output, h.size, h.block⟩
theorem Keep.setCell (h : Keep K w w1) {p : Addr} (hp : ∀ o, w.heap[p.block]? = some o → ¬ K p.block o) (v : Value) : Keep K w (w1.setCell p v) :=
  ⟨h.os, h.tape, h.output, by simpa [World.setCell] using h.size, fun i o ho hk =>
    (Below.heap_setCell w1 p v i (fun e => by subst e; exact hp o ho hk)).trans (h.block i o ho hk)⟩
theorem heap_setCells_far (b : Nat) : ∀ (vs : List Value) (o : Nat) (w : World) (i : Nat), i ≠ b → (w.setCells b o vs).heap[i]? = w.heap[i]?
  | [], _, _, _, _ => rfl
  | v :: r, o, w, i, h => by
    rw [World.setCells, heap_setCells_far b r (o + 1) _ i h]
    exact Below.heap_setCell w ⟨b, o, none⟩ v i h
theorem setCells_plain (b : Nat) : ∀ (vs : List Value) (o : Nat) (w : World), (w.setCells b o vs).os = w.os ∧ (w.setCells b o vs).tape = w.tape ∧ (w.setCells b o vs).output = w.output ∧ (w.setCells b o vs).heap.size = w.heap.size
  | [], _, _ => ⟨rfl, rfl, rfl, rfl⟩
  | v :: r, o, w => by
    rw [World.setCells]
    have := setCells_plain b r (o + 1) (w.setCell ⟨b, o, none⟩ v)
    simpa [World.setCell] using this
theorem Keep.setCells (h : Keep K w w1) {b : Nat} (hp : ∀ o, w.heap[b]? = some o → ¬ K b o) (o : Nat) (vs : List Value) : Keep K w (w1.setCells b o vs) := by
  obtain ⟨h1, h2, h3, h4⟩ := setCells_plain b vs o w1
  exact ⟨h1.trans h.os, h2.trans h.tape, h3.trans h.output, by rw [h4]; exact h.size, fun i ob ho hk =>
    (heap_setCells_far b vs o w1 i (fun e => by subst e; exact hp ob ho hk)).trans (h.block i ob ho hk)⟩
theorem Keep.grown {row : Option Nat} (h : Keep K w w1) (hg : w1.grownBy w2 row) (hr : ∀ g o, row = some g → w.heap[g]? = some o → ¬ K g o) : Keep K w w2 :=
  ⟨hg.os.trans h.os, hg.tape.trans h.tape, hg.output.trans h.output, Nat.le_trans h.size hg.size, fun i o ho hk =>
    (hg.block i (lt_of_some (h.block i o ho hk)) (fun e => hr i o e.symm ho hk)).trans (h.block i o ho hk)⟩
end

/-- block g is just these cells, none of them frozen -/
def Blk (w : World) (g : Nat) (t : TypeId) (cs : Array Value) : Prop := w.heap[g]? = some (.cells cs t (0, 0))
section
variable {w w' : World} {g : Nat} {t : TypeId} {cs : Array Value}
theorem Blk.lt (h : Blk w g t cs) : g < w.heap.size := lt_of_some h
theorem Blk.cell (h : Blk w g t cs) (i : Nat) : w.cell? ⟨g, i, none⟩ = cs[i]? := cell_of_row w g i cs t (0, 0) h
theorem Blk.frozen (h : Blk w g t cs) (i : Nat) : w.frozen? ⟨g, i, none⟩ = false := by
  unfold Blk at h
  simp [World.frozen?, h]
theorem Blk.new (w : World) (t : TypeId) (cs : Array Value) : Blk (w.alloc (.cells cs t)) w.heap.size t cs := heap_alloc_new w _
theorem Blk.alloc (h : Blk w g t cs) (o : Obj) : Blk (w.alloc o) g t cs := (Below.heap_alloc w o g h.lt).trans h
theorem Blk.set_ (h : Blk w g t cs) (i : Nat) (u : Value) : Blk (w.setCell ⟨g, i, none⟩ u) g t (cs.setIfInBounds i u) := by
  unfold Blk at h ⊢
  simp [World.setCell, Array.getElem?_modify, h]
theorem Blk.far (h : Blk w g t cs) {p : Addr} (hp : g ≠ p.block) (u : Value) : Blk (w.setCell p u) g t cs := (Below.heap_setCell w p u g hp).trans h
theorem Blk.fars (h : Blk w g t cs) {b : Nat} (hp : g ≠ b) (o : Nat) (vs : List Value) : Blk (w.setCells b o vs) g t cs := (heap_setCells_far b vs o w g hp).trans h
theorem Blk.keep {K : Nat → Obj → Prop} (h : Blk w g t cs) (k : Keep K w w') (hk : K g (.cells cs t (0, 0))) : Blk w' g t cs := k.block g _ h hk
theorem Blk.below {B : Nat} (h : Blk w g t cs) (k : Below B w w') (hk : g < B) : Blk w' g t cs := (k.block g hk).trans h
theorem Blk.drew (h : Blk w g t cs) : Blk w.drew g t cs := h
end
theorem ne_of_types {w : World} {g i : Nat} {t u : TypeId} {cs ds : Array Value} (h : Blk w g t cs) (k : w.heap[i]? = some (.cells ds u (0, 0))) (hne : u ≠ t) : i ≠ g := by
  rintro rfl
  unfold Blk at h
  rw [h] at k
  injection k with k
  injection k with _ k
  exact hne k.symm
theorem blk_setCells {g : Nat} {t : TypeId} : ∀ (vs pre old post : List Value) (w : World), old.length = vs.length → Blk w g t (pre ++ old ++ post).toArray →
    Blk (w.setCells g pre.length vs) g t (pre ++ vs ++ post).toArray
  | [], pre, old, post, w, hl, h => by
    obtain rfl : old = [] := List.eq_nil_of_length_eq_zero hl
    exact h
  | v :: r, pre, old, post, w, hl, h => by
    match old, hl with
    | x :: o, hl =>
      have h1 := h.set_ pre.length v
      have e : (pre ++ x :: o ++ post).toArray.setIfInBounds pre.length v = ((pre ++ [v]) ++ o ++ post).toArray := by simp
      rw [e] at h1
      have h2 := blk_setCells r (pre ++ [v]) o post _ (by simpa using hl) h1
      have e2 : (pre ++ [v]).length = pre.length + 1 := by simp
      rw [e2] at h2
      have e3 : pre ++ [v] ++ r ++ post = pre ++ v :: r ++ post := by simp
      rw [e3] at h2
      exact h2

/-! rows of equal parts -/
theorem flat_length {α : Type} {c : Nat} : ∀ {ls : List (List α)}, (∀ x ∈ ls, x.length = c) → ls.flatten.length = ls.length * c
  | [], _ => by simp
  | x :: r, h => by
    rw [List.flatten_cons, List.length_append, flat_length (ls := r) fun y hy => h y (by simp [hy]), h x (by simp), List.length_cons, Nat.add_mul, Nat.one_mul, Nat.add_comm]
theorem flat_split {α : Type} {c : Nat} {ls : List (List α)} (h : ∀ x ∈ ls, x.length = c) {i : Nat} {x : List α} (hx : ls[i]? = some x) :
    ls.flatten = (ls.take i).flatten ++ x ++ (ls.drop (i + 1)).flatten ∧ (ls.take i).flatten.length = i * c ∧ x.length = c ∧
      ∀ y, (ls.set i y).flatten = (ls.take i).flatten ++ y ++ (ls.drop (i + 1)).flatten := by
  obtain ⟨hi, rfl⟩ := List.getElem?_eq_some_iff.1 hx
  have e : ls = ls.take i ++ ls[i] :: ls.drop (i + 1) := by rw [← List.drop_eq_getElem_cons hi, List.take_append_drop]
  refine ⟨?_, ?_, h _ (List.getElem_mem hi), fun y => ?_⟩
  · conv => lhs; rw [e]
    simp only [List.flatten_append, List.flatten_cons, List.append_assoc]
  · rw [flat_length fun y hy => h y (List.mem_of_mem_take hy), List.length_take, Nat.min_eq_left (by omega)]
  · rw [List.set_eq_take_append_cons_drop, if_pos hi]
    simp
section
variable {w : World} {g : Nat} {t : TypeId} {ls : List (List Value)} {rest : List Value} {c i : Nat} {x : List Value}
theorem part_range (hb : Blk w g t (ls.flatten ++ rest).toArray) (h : ∀ x ∈ ls, x.length = c) (hx : ls[i]? = some x) : w.rangeAt g (i * c) x := by
  obtain ⟨e, hl, hc, _⟩ := flat_split h hx
  intro j v hv
  rw [hb.cell, List.getElem?_toArray, e, List.append_assoc, List.append_assoc, List.getElem?_append_right (by omega), hl, Nat.add_sub_cancel_left, List.getElem?_append_left (List.getElem?_eq_some_iff.1 hv).1]
  exact hv
theorem part_there (hb : Blk w g t (ls.flatten ++ rest).toArray) (h : ∀ x ∈ ls, x.length = c) (hx : ls[i]? = some x) : w.there g (i * c) c := by
  have hr := part_range hb h hx
  have hc := (flat_split h hx).2.2.1
  exact fun j hj => ⟨hr.isSome j (by omega), hb.frozen _⟩
theorem part_set (hb : Blk w g t (ls.flatten ++ rest).toArray) (h : ∀ x ∈ ls, x.length = c) (hi : i < ls.length) {y : List Value} (hy : y.length = c) :
    Blk (w.setCells g (i * c) y) g t ((ls.set i y).flatten ++ rest).toArray := by
  obtain ⟨e, hl, hc, hs⟩ := flat_split h (List.getElem?_eq_getElem hi)
  rw [hs, ← hl, List.append_assoc]
  refine blk_setCells y _ _ _ w (hc.trans hy.symm) ?_
  rw [← List.append_assoc, ← e]; exact hb
/-- the part behind the first cell of such a part -/
theorem range_tail {b o : Nat} {v : Value} {r : List Value} (h : w.rangeAt b o (v :: r)) : w.rangeAt b (o + 1) r := fun j u hu => by
  have := h (j + 1) u (by simpa using hu)
  rwa [show o + (j + 1) = o + 1 + j by omega] at this
theorem there_tail {b o n : Nat} (h : w.there b o (n + 1)) : w.there b (o + 1) n := fun j hj => by
  have := h (j + 1) (by omega)
  rwa [show o + (j + 1) = o + 1 + j by omega] at this
theorem part_set_tail (hb : Blk w g t (ls.flatten ++ rest).toArray) (h : ∀ x ∈ ls, x.length = c) {v : Value} {r : List Value} (hx : ls[i]? = some (v :: r)) {y : List Value} (hy : y.length + 1 = c) :
    Blk (w.setCells g (i * c + 1) y) g t ((ls.set i (v :: y)).flatten ++ rest).toArray := by
  obtain ⟨e, hl, hc, hs⟩ := flat_split h hx
  rw [hs, ← hl, List.append_assoc]
  have := blk_setCells (g := g) (t := t) y ((ls.take i).flatten ++ [v]) r ((ls.drop (i + 1)).flatten ++ rest) w (by simp at hc; omega) (by
    rw [e] at hb; simpa using hb)
  simpa using this
end

/-! a disk -/
def cellU (x : Wr) : List Value := .int .i64 (x.1 : Int) :: cellsB x.2
def thereL (s : List Sec) : List (List Value) := s.map cellsB
def unsL (l : List Wr) : List (List Value) := l.map cellU
theorem thereL_each {s : List Sec} (h : secs s) : ∀ x ∈ thereL s, x.length = 64 := fun x hx => by
  obtain ⟨y, hy, rfl⟩ := List.mem_map.1 hx
  rw [cellsB_length]; exact h y hy
theorem unsL_each {n : Nat} {l : List Wr} (h : wrs n l) : ∀ x ∈ unsL l, x.length = 65 := fun x hx => by
  obtain ⟨y, hy, rfl⟩ := List.mem_map.1 hx
  simp [cellU, cellsB_length, (h y hy).2]
theorem unsL_one {l : List Wr} : ∀ v ∈ (unsL l).flatten, v.oneCell' = true := fun v hv => by
  obtain ⟨x, hx, hv⟩ := List.mem_flatten.1 hv
  obtain ⟨y, _, rfl⟩ := List.mem_map.1 hx
  rcases List.mem_cons.1 hv with rfl | hv
  · rfl
  · exact cellsB_one _ v hv
/-- the disk at block g: its blocks are among O; t: what is there, u: what stands by the writes that are not sure -/
structure DiskM (w : World) (g : Nat) (O : Nat → Prop) (gt : Nat) (v : Value) (t : List Sec) (u : List Wr) (s : St) : Prop where
  head : Blk w g 42 #[.slice (some ⟨gt, 0, none⟩) s.n s.n, v, .int .i64 (s.count : Int), .bool s.ends, .int .i64 (s.left : Int)]
  there : Blk w gt 50 (thereL t).flatten.toArray
  uns : w.ownsRow 0 52 65 v u.length (unsL u).flatten
  og : O g
  ot : O gt
  ou : ∀ k, v.ownBlock = some k → O k
  ok : s.ok
/-- these bytes lie from o on in block b, which is none of O, or one of bytes -/
def Src (w : World) (O : Nat → Prop) (b o : Nat) (xs : List UInt8) : Prop := b < w.heap.size ∧ (¬ O b ∨ ∃ cs, Blk w b 5 cs) ∧ ∀ j u, (cellsB xs)[j]? = some u → w.cell? ⟨b, o + j, none⟩ = some u
theorem Src.of_blk {w : World} {O : Nat → Prop} {b : Nat} {xs : List UInt8} (h : Blk w b 5 (cellsB xs).toArray) : Src w O b 0 xs :=
  ⟨h.lt, .inr ⟨_, h⟩, fun j u hu => by rw [h.cell, Nat.zero_add, List.getElem?_toArray]; exact hu⟩
theorem Src.ne {w : World} {O : Nat → Prop} {b o i T : Nat} {xs : List UInt8} {cs : Array Value} (h : Src w O b o xs) (hi : Blk w i T cs) (hO : O i) (hT : 5 ≠ T) : b ≠ i := by
  rcases h.2.1 with hn | ⟨ds, hd⟩
  · rintro rfl; exact hn hO
  · exact ne_of_types hi hd hT
def DiskAt (w : World) (g : Nat) (O : Nat → Prop) (s : St) : Prop := ∃ gt v, DiskM w g O gt v s.now (olds s.sure s.l) s
/-- all blocks but those of O -/
abbrev Out (O : Nat → Prop) : Nat → Obj → Prop := fun i _ => ¬ O i
section
variable {w w' : World} {g : Nat} {O O' : Nat → Prop} {gt : Nat} {v : Value} {t : List Sec} {u : List Wr} {s : St}
theorem ownsRow_keep {K : Nat → Obj → Prop} {e size n : Nat} {xs : List Value} (h : w.ownsRow 0 e size v n xs) (k : Keep K w w') (hk : ∀ i o, v.ownBlock = some i → K i o) : w'.ownsRow 0 e size v n xs := by
  refine ⟨h.1, ?_⟩
  rcases h.2 with hn | ⟨g, cap, cur, rfl, hb, hg, r⟩
  · exact .inl hn
  · exact .inr ⟨g, cap, cur, rfl, hb, k.block g _ hg (hk g _ rfl), r⟩
theorem DiskM.keep {K : Nat → Obj → Prop} (h : DiskM w g O gt v t u s) (k : Keep K w w') (hk : ∀ i o, O i → K i o) : DiskM w' g O gt v t u s :=
  ⟨h.head.keep k (hk _ _ h.og), h.there.keep k (hk _ _ h.ot), ownsRow_keep h.uns k (fun i o hi => hk i o (h.ou i hi)), h.og, h.ot, h.ou, h.ok⟩
theorem DiskAt.keep {K : Nat → Obj → Prop} (h : DiskAt w g O s) (k : Keep K w w') (hk : ∀ i o, O i → K i o) : DiskAt w' g O s := by
  obtain ⟨gt, v, h⟩ := h
  exact ⟨gt, v, h.keep k hk⟩
theorem DiskAt.below (h : DiskAt w g O s) (k : Below w.heap.size w w') : DiskAt w' g O s := h.keep (K := fun _ _ => True) (Keep.of_below k) fun _ _ _ => trivial
theorem DiskM.more (h : DiskM w g O gt v t u s) (hO : ∀ i, O i → O' i) : DiskM w g O' gt v t u s := ⟨h.head, h.there, h.uns, hO _ h.og, hO _ h.ot, fun k hk => hO _ (h.ou k hk), h.ok⟩
theorem DiskAt.more (h : DiskAt w g O s) (hO : ∀ i, O i → O' i) : DiskAt w g O' s := by
  obtain ⟨gt, v, h⟩ := h
  exact ⟨gt, v, h.more hO⟩
theorem own_lt (h : w.ownsRow 0 52 65 v u.length (unsL u).flatten) : ∀ k, v.ownBlock = some k → k < w.heap.size := fun k hk => (h.lt k hk).2
theorem DiskAt.cut (h : DiskAt w g O s) : DiskAt w g (fun i => O i ∧ i < w.heap.size) s := by
  obtain ⟨gt, v, h⟩ := h
  exact ⟨gt, v, ⟨h.head, h.there, h.uns, ⟨h.og, h.head.lt⟩, ⟨h.ot, h.there.lt⟩, fun k hk => ⟨h.ou k hk, own_lt h.uns k hk⟩, h.ok⟩⟩
theorem DiskM.slice (h : DiskM w g O gt v t u s) : ∃ A c, v = .slice A u.length c := by
  rcases h.uns.2 with ⟨rfl, h0⟩ | ⟨g, cap, cur, rfl, _⟩
  · exact ⟨none, 0, by rw [h0]⟩
  · exact ⟨_, cap, rfl⟩
theorem DiskM.head_ne_there (h : DiskM w g O gt v t u s) : g ≠ gt := ne_of_types h.there h.head (by decide)
theorem own_ne {T : TypeId} {i : Nat} {cs : Array Value} (h : w.ownsRow 0 52 65 v u.length (unsL u).flatten) (hi : Blk w i T cs) (hT : T ≠ 52) : ∀ k, v.ownBlock = some k → k ≠ i := by
  intro k hk
  rcases h.2 with ⟨rfl, _⟩ | ⟨g, cap, cur, rfl, _, hg, _⟩
  · cases hk
  · simp [Value.ownBlock] at hk
    subst hk
    exact ne_of_types hi hg (fun e => hT e.symm)
end
end Go.Proofs.Yteilbaabnhogbaa
