/- Words for memory: a block known whole; what a call leaves alone. -/
import Derived.Below
import Derived.Laws.OwnMore
import Derived.Deep.Draws
import Derived.Laws.Rows
import Derived.Laws.AppendOwn
import Derived.Deep.MidRow
set_option maxRecDepth 4000
namespace Go.Proofs.Ytlapicjbnheioaa
open Go.RowKit
/-- all blocks for which K says so are as they were; nothing else than blocks has turned -/
structure Keep (K : Nat → Obj → Prop) (w w' : World) : Prop where
  os : w'.os = w.os
  tape : w'.tape = w.tape
  output : w'.output = w.output
  size : w.heap.size ≤ w'.heap.size
  block : ∀ i o, w.heap[i]? = some o → K i o → w'.heap[i]? = some o

section
variable {K K' : Nat → Obj → Prop} {w w1 w2 : World}
theorem Keep.refl (w : World) : Keep K w w := ⟨rfl, rfl, rfl, Nat.le_refl _, fun _ _ h _ => h⟩
theorem Keep.trans (h : Keep K w w1) (k : Keep K w1 w2) : Keep K w w2 :=
  ⟨k.os.trans h.os, k.tape.trans h.tape, k.output.trans h.output, Nat.le_trans h.size k.size, fun i o ho hk => k.block i o (h.block i o ho hk) hk⟩
theorem Keep.mono (h : Keep K w w1) (hk : ∀ i o, w.heap[i]? = some o → K' i o → K i o) : Keep K' w w1 := ⟨h.os, h.tape, h.output, h.size, fun i o ho hi => h.block i o ho (hk i o ho hi)⟩
theorem lt_of_some {w : World} {i : Nat} {o : Obj} (h : w.heap[i]? = some o) : i < w.heap.size := by
  rcases Nat.lt_or_ge i w.heap.size with hlt | hge
  · exact hlt
  · rw [Array.getElem?_eq_none hge] at h; cases h
theorem Keep.of_below (h : Below w.heap.size w w1) : Keep K w w1 := ⟨h.os, h.tape, h.output, h.size, fun i _ ho _ => (h.block i (lt_of_some ho)).trans ho⟩
theorem Keep.below {B : Nat} (h : Keep K w w1) (hB : B ≤ w.heap.size) (hk : ∀ i o, i < B → K i o) : Below B w w1 :=
  ⟨h.os, h.tape, h.output, h.size, fun i hi => by
    have hlt : i < w.heap.size := by omega
    rw [Array.getElem?_eq_getElem hlt]
    exact h.block i _ (Array.getElem?_eq_getElem hlt) (hk i _ hi)⟩
theorem Keep.alloc (h : Keep K w w1) (o : Obj) : Keep K w (w1.alloc o) :=
  ⟨h.os, h.tape, h.output, Nat.le_trans h.size (by simp), fun i o' ho hk => by
    have := h.block i o' ho hk
    exact (Below.heap_alloc w1 o i (lt_of_some this)).trans this⟩
theorem Keep.drewN (h : Keep K w w1) (n : Nat) : Keep K w (w1.drewN n) := ⟨h.os, h.tape, h.output, h.size, h.block⟩
theorem Keep.drew (h : Keep K w w1) : Keep K w w1.drew := ⟨h.os, h.tape, h.output, h.size, h.block⟩
theorem Keep.setCell (h : Keep K w w1) {p : Addr} (hp : ∀ o, w.heap[p.block]? = some o → ¬ K p.block o) (v : Value) : Keep K w (w1.setCell p v) :=
  ⟨h.os, h.tape, h.output, by simpa [World.setCell] using h.size, fun i o ho hk =>
    (Below.heap_setCell w1 p v i (fun e => by subst e; exact hp o ho hk)).trans (h.block i o ho hk)⟩
theorem heap_setCells_far (b : Nat) : ∀ (vs : List Value) (o : Nat) (w : World) (i : Nat), i ≠ b → (w.setCells b o vs).heap[i]? = w.heap[i]?
  | [], _, _, _, _ => rfl
  | v :: r, o, w, i, h => by
    rw [World.setCells, heap_setCells_far b r (o + 1) _ i h]
    exact Below.heap_setCell w ⟨b, o, none⟩ v i h
theorem setCells_plain (b : Nat) : ∀ (vs : List Value) (o : Nat) (w : World), (w.setCells b o vs).os = w.os ∧ (w.setCells b o vs).tape = w.tape ∧ (w.setCells b o vs).output = w.output ∧ (w.setCells b o vs).heap.size = w.heap.size
  | [], _, _ => ⟨rfl, rfl, rfl, rfl⟩
  | v :: r, o, w => by
    rw [World.setCells]
    have := setCells_plain b r (o + 1) (w.setCell ⟨b, o, none⟩ v)
    simpa [World.setCell] using this
theorem Keep.setCells (h : Keep K w w1) {b : Nat} (hp : ∀ o, w.heap[b]? = some o → ¬ K b o) (o : Nat) (vs : List Value) : Keep K w (w1.setCells b o vs) := by
  obtain ⟨h1, h2, h3, h4⟩ := setCells_plain b vs o w1
  exact ⟨h1.trans h.os, h2.trans h.tape, h3.trans h.output, by rw [h4]; exact h.size, fun i ob ho hk =>
    (heap_setCells_far b vs o w1 i (fun e => by subst e; exact hp ob ho hk)).trans (h.block i ob ho hk)⟩
theorem Keep.grown {row : Option Nat} (h : Keep K w w1) (hg : w1.grownBy w2 row) (hr : ∀ g o, row = some g → w.heap[g]? = some o → ¬ K g o) : Keep K w w2 :=
  ⟨hg.os.trans h.os, hg.tape.trans h.tape, hg.output.trans h.output, Nat.le_trans h.size hg.size, fun i o ho hk =>
    (hg.block i (lt_of_some (h.block i o ho hk)) (fun e => hr i o e.symm ho hk)).trans (h.block i o ho hk)⟩
end

/-- block g is just these cells, none of them frozen -/
def Blk (w : World) (g : Nat) (t : TypeId) (cs : Array Value) : Prop := w.heap[g]? = some (.cells cs t (0, 0))
section
variable {w w' : World} {g : Nat} {t : TypeId} {cs : Array Value}
theorem Blk.lt (h : Blk w g t cs) : g < w.heap.size := lt_of_some h
theorem Blk.cell (h : Blk w g t cs) (i : Nat) : w.cell? ⟨g, i, none⟩ = cs[i]? := cell_of_row w g i cs t (0, 0) h
theorem Blk.frozen (h : Blk w g t cs) (i : Nat) : w.frozen? ⟨g, i, none⟩ = false := by
  unfold Blk at h
  simp [World.frozen?, h]
theorem Blk.new (w : World) (t : TypeId) (cs : Array Value) : Blk (w.alloc (.cells cs t)) w.heap.size t cs := heap_alloc_new w _
theorem Blk.alloc (h : Blk w g t cs) (o : Obj) : Blk (w.alloc o) g t cs := (Below.heap_alloc w o g h.lt).trans h
theorem Blk.set_ (h : Blk w g t cs) (i : Nat) (u : Value) : Blk (w.setCell ⟨g, i, none⟩ u) g t (cs.setIfInBounds i u) := by
  unfold Blk at h ⊢
  simp [World.setCell, Array.getElem?_modify, h]
theorem Blk.far (h : Blk w g t cs) {p : Addr} (hp : g ≠ p.block) (u : Value) : Blk (w.setCell p u) g t cs := (Below.heap_setCell w p u g hp).trans h
theorem Blk.fars (h : Blk w g t cs) {b : Nat} (hp : g ≠ b) (o : Nat) (vs : List Value) : Blk (w.setCells b o vs) g t cs := (heap_setCells_far b vs o w g hp).trans h
theorem Blk.keep {K : Nat → Obj → Prop} (h : Blk w g t cs) (k : Keep K w w') (hk : K g (.cells cs t (0, 0))) : Blk w' g t cs := k.block g _ h hk
theorem Blk.below {B : Nat} (h : Blk w g t cs) (k : Below B w w') (hk : g < B) : Blk w' g t cs := (k.block g hk).trans h
theorem Blk.drew (h : Blk w g t cs) : Blk w.drew g t cs := h
end
theorem ne_of_types {w : World} {g i : Nat} {t u : TypeId} {cs ds : Array Value} (h : Blk w g t cs) (k : w.heap[i]? = some (.cells ds u (0, 0))) (hne : u ≠ t) : i ≠ g := by
  rintro rfl
  unfold Blk at h
  rw [h] at k
  injection k with k
  injection k with _ k
  exact hne k.symm
theorem blk_setCells {g : Nat} {t : TypeId} : ∀ (vs pre old post : List Value) (w : World), old.length = vs.length → Blk w g t (pre ++ old ++ post).toArray →
    Blk (w.setCells g pre.length vs) g t (pre ++ vs ++ post).toArray
  | [], pre, old, post, w, hl, h => by
    obtain rfl : old = [] := List.eq_nil_of_length_eq_zero hl
    exact h
  | v :: r, pre, old, post, w, hl, h => by
    match old, hl with
    | x :: o, hl =>
      have h1 := h.set_ pre.length v
      have e : (pre ++ x :: o ++ post).toArray.setIfInBounds pre.length v = ((pre ++ [v]) ++ o ++ post).toArray := by simp
      rw [e] at h1
      have h2 := blk_setCells r (pre ++ [v]) o post _ (by simpa using hl) h1
      have e2 : (pre ++ [v]).length = pre.length + 1 := by simp
      rw [e2] at h2
      have e3 : pre ++ [v] ++ r ++ post = pre ++ v :: r ++ post := by simp
      rw [e3] at h2
      exact h2

theorem block_of_cell {w : World} {a : Addr} {v : Value} (h : w.cell? a = some v) : a.block < w.heap.size := by
  rcases Nat.lt_or_ge a.block w.heap.size with hlt | hge
  · exact hlt
  · simp [World.cell?, Array.getElem?_eq_none hge] at h
theorem cell_of_heap {w w' : World} {b : Nat} (h : w'.heap[b]? = w.heap[b]?) (o : Nat) : w'.cell? ⟨b, o, none⟩ = w.cell? ⟨b, o, none⟩ := World.cell?_of_block (a := ⟨b, o, none⟩) h
theorem add_none (b o j : Nat) : (⟨b, o, none⟩ : Addr).add j = ⟨b, o + j, none⟩ := by
  unfold Addr.add; split
  · simp [*]
  · rfl
theorem below_drewN {B : Nat} {a w : World} (h : Below B a w) (n : Nat) : Below B a (w.drewN n) := ⟨h.os, h.tape, h.output, h.size, h.block⟩
theorem alloc_below (w : World) (o : Obj) : Below w.heap.size w (w.alloc o) := (Below.refl _ _).alloc (Nat.le_refl _) _
end Go.Proofs.Ytlapicjbnheioaa
