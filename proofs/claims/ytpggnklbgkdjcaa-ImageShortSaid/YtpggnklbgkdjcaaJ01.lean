/- Words for memory: a block known whole; what a call leaves alone. One operation of a plain region, by an equation. Words for memory: rows of structs of whatever cells that lie somewhere; append of such rows behind a row of the call's own. Plain facts on the order of lists of bytes and of numbers; nothing of the program is named here. -/
import Derived.Below
import Derived.Laws.OwnMore
import Derived.Deep.Draws
import Derived.Laws.Rows
import Derived.Laws.AppendOwn
import Derived.Deep.MidRow
import Derived.WalkKit
import Derived.WalkSpells
import Derived.Test.YtpggnklbgkdjcaaProg
import Derived.ProofKit
import Derived.Lib.Hide
import Derived.Maps.AppendAt
import Derived.Deep.RegionLaw
import Derived.StillTailTactics
import Derived.Deep.LoopGhost
import GoSem.Op.String
set_option maxRecDepth 4000
namespace Go.Proofs.Ytpggnklbgkdjcaa
open Go.RowKit
/-- all blocks for which K says so are as they were; nothing else than blocks has turned -/
structure Keep (K : Nat → Obj → Prop) (w w' : World) : Prop where
  os : w'.os = w.os
  tape : w'.tape = w.tape
  output : w'.output = w.output
  size : w.heap.size ≤ w'.heap.size
  block : ∀ i o, w.heap[i]? = some o → K i o → w'.heap[i]? = some o

section
variable {K K' : Nat → Obj → Prop} {w w1 w2 : World}
theorem Keep.refl (w : World) : Keep K w w := ⟨rfl, rfl, rfl, Nat.le_refl _, fun _ _ h _ => h⟩
theorem Keep.trans (h : Keep K w w1) (k : Keep K w1 w2) : Keep K w w2 :=
  ⟨k.os.trans h.os, k.tape.trans h.tape, k.output.trans h.output, Nat.le_trans h.size k.size, fun i o ho hk => k.block i o (h.block i o ho hk) hk⟩
theorem Keep.mono (h : Keep K w w1) (hk : ∀ i o, w.heap[i]? = some o → K' i o → K i o) : Keep K' w w1 := ⟨h.os, h.tape, h.output, h.size, fun i o ho hi => h.block i o ho (hk i o ho hi)⟩
theorem lt_of_some {w : World} {i : Nat} {o : Obj} (h : w.heap[i]? = some o) : i < w.heap.size := by
  rcases Nat.lt_or_ge i w.heap.size with hlt | hge
  · exact hlt
  · rw [Array.getElem?_eq_none hge] at h; cases h
theorem Keep.of_below (h : Below w.heap.size w w1) : Keep K w w1 := ⟨h.os, h.tape, h.output, h.size, fun i _ ho _ => (h.block i (lt_of_some ho)).trans ho⟩
theorem Keep.below {B : Nat} (h : Keep K w w1) (hB : B ≤ w.heap.size) (hk : ∀ i o, i < B → K i o) : Below B w w1 :=
  ⟨h.os, h.tape, h.output, h.size, fun i hi => by
    have hlt : i < w.heap.size := by omega
    rw [Array.getElem?_eq_getElem hlt]
    exact h.block i _ (Array.getElem?_eq_getElem hlt) (hk i _ hi)⟩
theorem Keep.alloc (h : Keep K w w1) (o : Obj) : Keep K w (w1.alloc o) :=
  ⟨h.os, h.tape, h.output, Nat.le_trans h.size (by simp), fun i o' ho hk => by
    have := h.block i o' ho hk
    exact (Below.heap_alloc w1 o i (lt_of_some this)).trans this⟩
theorem Keep.drewN (h : Keep K w w1) (n : Nat) : Keep K w (w1.drewN n) := ⟨h.os, h.tape, h.output, h.size, h.block⟩
theorem Keep.drew (h : Keep K w w1) : Keep K w w1.drew := ⟨h.os, h.tape, h.output, h.size, h.block⟩
theorem Keep.setCell (h : Keep K w w1) {p : Addr} (hp : ∀ o, w.heap[p.block]? = some o → ¬ K p.block o) (v : Value) : Keep K w (w1.setCell p v) :=
  ⟨h.os, h.tape, h.output, by simpa [World.setCell] using h.size, fun i o ho hk =>
    (Below.heap_setCell w1 p v i (fun e => by subst e; exact hp o ho hk)).trans (h.block i o ho hk)⟩
theorem heap_setCells_far (b : Nat) : ∀ (vs : List Value) (o : Nat) (w : World) (i : Nat), i ≠ b → (w.setCells b o vs).heap[i]? = w.heap[i]?
  | [], _, _, _, _ => rfl
  | v :: r, o, w, i, h => by
    rw [World.setCells, heap_setCells_far b r (o + 1) _ i h]
    exact Below.heap_setCell w ⟨b, o, none⟩ v i h
theorem setCells_plain (b : Nat) : ∀ (vs : List Value) (o : Nat) (w : World), (w.setCells b o vs).os = w.os ∧ (w.setCells b o vs).tape = w.tape ∧ (w.setCells b o vs).output = w.output ∧ (w.setCells b o vs).heap.size = w.heap.size
  | [], _, _ => ⟨rfl, rfl, rfl, rfl⟩
  | v :: r, o, w => by
    rw [World.setCells]
    have := setCells_plain b r (o + 1) (w.setCell ⟨b, o, none⟩ v)
    simpa [World.setCell] using this
theorem Keep.setCells (h : Keep K w w1) {b : Nat} (hp : ∀ o, w.heap[b]? = some o → ¬ K b o) (o : Nat) (vs : List Value) : Keep K w (w1.setCells b o vs) := by
  obtain ⟨h1, h2, h3, h4⟩ := setCells_plain b vs o w1
  exact ⟨h1.trans h.os, h2.trans h.tape, h3.trans h.output, by rw [h4]; exact h.size, fun i ob ho hk =>
    (heap_setCells_far b vs o w1 i (fun e => by subst e; exact hp ob ho hk)).trans (h.block i ob ho hk)⟩
theorem Keep.grown {row : Option Nat} (h : Keep K w w1) (hg : w1.grownBy w2 row) (hr : ∀ g o, row = some g → w.heap[g]? = some o → ¬ K g o) : Keep K w w2 :=
  ⟨hg.os.trans h.os, hg.tape.trans h.tape, hg.output.trans h.output, Nat.le_trans h.size hg.size, fun i o ho hk =>
    (hg.block i (lt_of_some (h.block i o ho hk)) (fun e => hr i o e.symm ho hk)).trans (h.block i o ho hk)⟩
end

/-- block g is just these cells, none of them frozen -/
def Blk (w : World) (g : Nat) (t : TypeId) (cs : Array Value) : Prop := w.heap[g]? = some (.cells cs t (0, 0))
section
variable {w w' : World} {g : Nat} {t : TypeId} {cs : Array Value}
theorem Blk.lt (h : Blk w g t cs) : g < w.heap.size := lt_of_some h
theorem Blk.cell (h : Blk w g t cs) (i : Nat) : w.cell? ⟨g, i, none⟩ = cs[i]? := cell_of_row w g i cs t (0, 0) h
theorem Blk.frozen (h : Blk w g t cs) (i : Nat) : w.frozen? ⟨g, i, none⟩ = false := by
  unfold Blk at h
  simp [World.frozen?, h]
theorem Blk.new (w : World) (t : TypeId) (cs : Array Value) : Blk (w.alloc (.cells cs t)) w.heap.size t cs := heap_alloc_new w _
theorem Blk.alloc (h : Blk w g t cs) (o : Obj) : Blk (w.alloc o) g t cs := (Below.heap_alloc w o g h.lt).trans h
theorem Blk.set_ (h : Blk w g t cs) (i : Nat) (u : Value) : Blk (w.setCell ⟨g, i, none⟩ u) g t (cs.setIfInBounds i u) := by
  unfold Blk at h ⊢
  simp [World.setCell, Array.getElem?_modify, h]
theorem Blk.far (h : Blk w g t cs) {p : Addr} (hp : g ≠ p.block) (u : Value) : Blk (w.setCell p u) g t cs := (Below.heap_setCell w p u g hp).trans h
theorem Blk.fars (h : Blk w g t cs) {b : Nat} (hp : g ≠ b) (o : Nat) (vs : List Value) : Blk (w.setCells b o vs) g t cs := (heap_setCells_far b vs o w g hp).trans h
theorem Blk.keep {K : Nat → Obj → Prop} (h : Blk w g t cs) (k : Keep K w w') (hk : K g (.cells cs t (0, 0))) : Blk w' g t cs := k.block g _ h hk
theorem Blk.below {B : Nat} (h : Blk w g t cs) (k : Below B w w') (hk : g < B) : Blk w' g t cs := (k.block g hk).trans h
theorem Blk.drew (h : Blk w g t cs) : Blk w.drew g t cs := h
end
theorem ne_of_types {w : World} {g i : Nat} {t u : TypeId} {cs ds : Array Value} (h : Blk w g t cs) (k : w.heap[i]? = some (.cells ds u (0, 0))) (hne : u ≠ t) : i ≠ g := by
  rintro rfl
  unfold Blk at h
  rw [h] at k
  injection k with k
  injection k with _ k
  exact hne k.symm
theorem blk_setCells {g : Nat} {t : TypeId} : ∀ (vs pre old post : List Value) (w : World), old.length = vs.length → Blk w g t (pre ++ old ++ post).toArray →
    Blk (w.setCells g pre.length vs) g t (pre ++ vs ++ post).toArray
  | [], pre, old, post, w, hl, h => by
    obtain rfl : old = [] := List.eq_nil_of_length_eq_zero hl
    exact h
  | v :: r, pre, old, post, w, hl, h => by
    match old, hl with
    | x :: o, hl =>
      have h1 := h.set_ pre.length v
      have e : (pre ++ x :: o ++ post).toArray.setIfInBounds pre.length v = ((pre ++ [v]) ++ o ++ post).toArray := by simp
      rw [e] at h1
      have h2 := blk_setCells r (pre ++ [v]) o post _ (by simpa using hl) h1
      have e2 : (pre ++ [v]).length = pre.length + 1 := by simp
      rw [e2] at h2
      have e3 : pre ++ [v] ++ r ++ post = pre ++ v :: r ++ post := by simp
      rw [e3] at h2
      exact h2

theorem block_of_cell {w : World} {a : Addr} {v : Value} (h : w.cell? a = some v) : a.block < w.heap.size := by
  rcases Nat.lt_or_ge a.block w.heap.size with hlt | hge
  · exact hlt
  · simp [World.cell?, Array.getElem?_eq_none hge] at h
theorem cell_of_heap {w w' : World} {b : Nat} (h : w'.heap[b]? = w.heap[b]?) (o : Nat) : w'.cell? ⟨b, o, none⟩ = w.cell? ⟨b, o, none⟩ := World.cell?_of_block (a := ⟨b, o, none⟩) h
theorem add_none (b o j : Nat) : (⟨b, o, none⟩ : Addr).add j = ⟨b, o + j, none⟩ := by
  unfold Addr.add; split
  · simp [*]
  · rfl
theorem below_drewN {B : Nat} {a w : World} (h : Below B a w) (n : Nat) : Below B a (w.drewN n) := ⟨h.os, h.tape, h.output, h.size, h.block⟩
theorem alloc_below (w : World) (o : Obj) : Below w.heap.size w (w.alloc o) := (Below.refl _ _).alloc (Nat.le_refl _) _
end Go.Proofs.Ytpggnklbgkdjcaa
namespace Go.Proofs.Ytpggnklbgkdjcaa
open Go.RowKit
theorem wpList_append_run {P : Program} {w : World} {ops : Array Oper} {rest : List Oper} {o : Oper} {a : Act} {Q : Exit → Act → World → Prop} (hgd : o.guard = none) (s x : Operand) (t t' : TypeId)
    (ho : o.op = .call { callee := .builtin .append, args := #[s, x], argTypes := #[t, t'] }) (v u : Value) (hs : a.eval s = v) (hx : a.eval x = u) {v' : Value} {w' : World}
    (hr : (Builtin.append_ #[t, t'] o.type #[v, u]).run P w = .ok v' w') (h : wpList P ops Q rest (a.put o.dst v') w') : wpList P ops Q (o :: rest) a w := by
  refine wpList_plain hgd fun K hK => ?_
  unfold Oper.wp execOp
  simp only [ho, resolve, invoke, builtin, Sem.run_bind, Sem.run_pure, Result.andThen_ok, List.map_toArray, List.map_cons, List.map_nil, hs, hx, hr]
  exact hK _ _ h
theorem wpList_append_run_g {P : Program} {w : World} {ops : Array Oper} {rest : List Oper} {o : Oper} {a : Act} {Q : Exit → Act → World → Prop} (hw : Region.wanted o (yielded ops a.tmps) = true) (s x : Operand) (t t' : TypeId)
    (ho : o.op = .call { callee := .builtin .append, args := #[s, x], argTypes := #[t, t'] }) (v u : Value) (hs : a.eval s = v) (hx : a.eval x = u) {v' : Value} {w' : World}
    (hr : (Builtin.append_ #[t, t'] o.type #[v, u]).run P w = .ok v' w') (h : wpList P ops Q rest (a.put o.dst v') w') : wpList P ops Q (o :: rest) a w := by
  refine wpList_step fun K hK => ?_
  simp only [hw, if_true]
  unfold Oper.wp execOp
  simp only [ho, resolve, invoke, builtin, Sem.run_bind, Sem.run_pure, Result.andThen_ok, List.map_toArray, List.map_cons, List.map_nil, hs, hx, hr]
  exact hK _ _ h
end Go.Proofs.Ytpggnklbgkdjcaa
namespace Go.Proofs.Ytpggnklbgkdjcaa
open Go.RowKit
/-- how an element lies: so many cells -/
structure Enc (α : Type) where
  enc : α → List Value
  k : Nat
  pos : 0 < k
  len : ∀ x, (enc x).length = k
  one : ∀ x, ∀ v ∈ enc x, v.oneCell' = true
def eI : Enc Int := ⟨fun c => [.int .i64 c], 1, by omega, fun _ => rfl, fun _ v hv => by simp at hv; subst hv; rfl⟩
section
variable {α : Type}
def cellsE (E : Enc α) : List α → List Value
  | [] => []
  | x :: l => E.enc x ++ cellsE E l
theorem cellsE_length (E : Enc α) (l : List α) : (cellsE E l).length = l.length * E.k := by
  induction l with
  | nil => simp [cellsE]
  | cons x r ih => rw [cellsE, List.length_append, E.len, ih, List.length_cons, Nat.add_mul]; omega
theorem cellsE_append (E : Enc α) (l m : List α) : cellsE E (l ++ m) = cellsE E l ++ cellsE E m := by
  induction l with
  | nil => rfl
  | cons x r ih => simp [cellsE, ih]
theorem cellsE_one (E : Enc α) (l : List α) : ∀ v ∈ cellsE E l, v.oneCell' = true := by
  induction l with
  | nil => intro v hv; cases hv
  | cons x r ih =>
    intro v hv
    rcases List.mem_append.1 hv with hv | hv
    · exact E.one x v hv
    · exact ih v hv
theorem cellsE_at (E : Enc α) {l : List α} {j : Nat} (h : j < l.length) {i : Nat} {v : Value} (hi : (E.enc l[j])[i]? = some v) : (cellsE E l)[j * E.k + i]? = some v := by
  have hik : i < E.k := by rw [← E.len l[j]]; exact (List.getElem?_eq_some_iff.1 hi).1
  induction l generalizing j with
  | nil => simp at h
  | cons x r ih =>
    cases j with
    | zero => rw [Nat.zero_mul, Nat.zero_add, cellsE, List.getElem?_append_left (by rw [E.len]; exact hik)]; exact hi
    | succ j =>
      rw [cellsE, List.getElem?_append_right (by rw [E.len, Nat.add_mul]; omega), E.len, Nat.add_mul, Nat.one_mul, show j * E.k + E.k + i - E.k = j * E.k + i by omega]
      exact ih (by simpa using h) (by simpa using hi)
theorem cellsE_take (E : Enc α) (l : List α) (k : Nat) : cellsE E (l.take k) = (cellsE E l).take (k * E.k) := by
  induction l generalizing k with
  | nil => simp [cellsE]
  | cons x r ih =>
    cases k with
    | zero => simp [cellsE]
    | succ k =>
      rw [List.take_succ_cons, cellsE, cellsE, ih, List.take_append, E.len, List.take_of_length_le (l := E.enc x) (by rw [E.len, Nat.add_mul]; omega), Nat.add_mul, Nat.one_mul, Nat.add_sub_cancel]
theorem cellsE_drop (E : Enc α) (l : List α) (k : Nat) : cellsE E (l.drop k) = (cellsE E l).drop (k * E.k) := by
  induction l generalizing k with
  | nil => simp [cellsE]
  | cons x r ih =>
    cases k with
    | zero => simp
    | succ k =>
      rw [List.drop_succ_cons, cellsE, ih, List.drop_append, E.len, List.drop_of_length_le (l := E.enc x) (by rw [E.len, Nat.add_mul]; omega), Nat.add_mul, Nat.one_mul, Nat.add_sub_cancel, List.nil_append]

/-- the slice of address A holds these rows, in a block of which K says so -/
def Lst (w : World) (K : Nat → Prop) (E : Enc α) (A : Option Addr) (l : List α) : Prop :=
  0 < l.length → ∃ b o, A = some ⟨b, o, none⟩ ∧ K b ∧ b < w.heap.size ∧ ∀ j u, (cellsE E l)[j]? = some u → w.cell? ⟨b, o + j, none⟩ = some u
variable {w w' : World} {K K' : Nat → Prop} {E : Enc α} {A : Option Addr} {l : List α}
theorem Lst.nil (w : World) (K : Nat → Prop) (E : Enc α) (A : Option Addr) : Lst w K E A ([] : List α) := fun h => absurd h (by simp)
theorem Lst.keep (h : Lst w K E A l) {Q : Nat → Obj → Prop} (k : Keep Q w w') (hq : ∀ i o, w.heap[i]? = some o → K i → Q i o) : Lst w' K E A l := fun h0 => by
  obtain ⟨b, o, e, hk, hb, hc⟩ := h h0
  have hbl : w'.heap[b]? = w.heap[b]? := by
    rw [Array.getElem?_eq_getElem hb]
    exact k.block b _ (Array.getElem?_eq_getElem hb) (hq b _ (Array.getElem?_eq_getElem hb) hk)
  exact ⟨b, o, e, hk, Nat.lt_of_lt_of_le hb k.size, fun j x hx => (cell_of_heap hbl _).trans (hc j x hx)⟩
theorem Lst.below (h : Lst w K E A l) (k : Below w.heap.size w w') : Lst w' K E A l := fun h0 => by
  obtain ⟨b, o, e, hk, hb, hc⟩ := h h0
  exact ⟨b, o, e, hk, Nat.lt_of_lt_of_le hb k.size, fun j x hx => (cell_of_heap (k.block b hb) _).trans (hc j x hx)⟩
theorem Lst.more (h : Lst w K E A l) (hk : ∀ i, i < w.heap.size → K i → K' i) : Lst w K' E A l := fun h0 => by
  obtain ⟨b, o, e, hb, hl, hc⟩ := h h0
  exact ⟨b, o, e, hk b hl hb, hl, hc⟩
theorem Lst.lt (h : Lst w K E A l) : Lst w (fun i => i < w.heap.size) E A l := h.more fun _ hi _ => hi
theorem Lst.take (h : Lst w K E A l) (k : Nat) : Lst w K E A (l.take k) := fun h0 => by
  obtain ⟨b, o, e, hk, hb, hc⟩ := h (by rw [List.length_take] at h0; omega)
  refine ⟨b, o, e, hk, hb, fun j x hx => hc j x ?_⟩
  rw [cellsE_take, List.getElem?_take] at hx
  split at hx
  · exact hx
  · cases hx
theorem Lst.drop (h : Lst w K E A l) {k c : Nat} (hc : l.length ≤ c) : Lst w K E (if c = k then A else A.map (·.add (k * E.k))) (l.drop k) := fun h0 => by
  rw [List.length_drop] at h0
  obtain ⟨b, o, e, hk, hb, hcell⟩ := h (by omega)
  rw [if_neg (by omega), e]
  refine ⟨b, o + k * E.k, ?_, hk, hb, fun j x hx => ?_⟩
  · rw [Option.map_some, add_none]
  · rw [Nat.add_assoc]
    exact hcell _ x (by rw [← hx, cellsE_drop, List.getElem?_drop])
/-- the cells of the j-th row -/
theorem Lst.at_ (h : Lst w K E A l) {j : Nat} (hj : j < l.length) :
    ∃ b o, A = some ⟨b, o, none⟩ ∧ b < w.heap.size ∧ ∀ i v, (E.enc l[j])[i]? = some v → w.cell? ⟨b, o + j * E.k + i, none⟩ = some v := by
  obtain ⟨b, o, e, _, hl, hc⟩ := h (by omega)
  exact ⟨b, o, e, hl, fun i v hi => by rw [Nat.add_assoc]; exact hc _ _ (cellsE_at E hj hi)⟩
theorem Lst.none_ (h : Lst w K E none l) : l = [] := by
  rcases Nat.eq_zero_or_pos l.length with h0 | h0
  · exact List.eq_nil_of_length_eq_zero h0
  · obtain ⟨_, _, h, _⟩ := h h0
    cases h
end
theorem Lst.atI {w : World} {K : Nat → Prop} {A : Option Addr} {l : List Int} (h : Lst w K eI A l) {j : Nat} (hj : j < l.length) :
    ∃ b o, A = some ⟨b, o, none⟩ ∧ b < w.heap.size ∧ w.cell? ⟨b, o + j, none⟩ = some (.int .i64 l[j]) := by
  obtain ⟨b, o, e, hl, hc⟩ := h.at_ hj
  have := hc 0 _ rfl
  exact ⟨b, o, e, hl, by rw [show o + j = o + j * eI.k + 0 by simp [eI]]; exact this⟩

/-- the type of the elements, and of a slice of them -/
structure RowTy {α : Type} (E : Enc α) (T S : TypeId) : Prop where
  und : Try.prog.underlying S = some (.slice T)
  info : ∃ z b, (Try.prog.info? T).map (fun i => (i.zero, i.size, i.bytes)) = some (some z, E.k, b) ∧ z.cells.size = E.k ∧ b ≤ 4096
/-- a row of the call's own -/
def Own {α : Type} (w : World) (base : Nat) (E : Enc α) (T : TypeId) (v : Value) (l : List α) : Prop := w.ownsRow base T E.k v l.length (cellsE E l)
section
variable {α : Type} {E : Enc α} {T S : TypeId}
/-- rows behind rows of the call's own -/
theorem append_own (t : RowTy E T S) {W : World} {base : Nat} {v : Value} {ys : List α} (hown : Own W base E T v ys) {K : Nat → Prop} {A : Option Addr} {m : Nat} {xs : List α} (hr : Lst W K E A xs) (hm : xs.length = m) (c : Nat)
    (hb : ys.length + m ≤ 1000000) (hbase : base ≤ W.heap.size) : ∃ v' W', (Builtin.append_ #[S, S] S #[v, .slice A m c]).run Try.prog W = .ok v' W' ∧ Own W' base E T v' (ys ++ xs) ∧ W.grownBy W' v.ownBlock ∧
      (v'.ownBlock = v.ownBlock ∨ v'.ownBlock = some W.heap.size) := by
  obtain ⟨z, bb, hi0, hzc, hbb⟩ := t.info
  obtain ⟨i0, hi, hz0, hz1, hz2⟩ := info_parts hi0
  subst hm
  rcases A with _ | a
  · have hx : xs = [] := hr.none_
    subst hx
    refine ⟨v, W, ?_, by simpa using hown, World.grownBy.refl W _, .inl rfl⟩
    rcases hown.2 with ⟨rfl, h0⟩ | ⟨g, cap, cur, rfl, _, _, hnc, _⟩
    · simp [Builtin.append_, run_underlying t.und, sizeOf, typeInfo, hi, Builtin.lenOf, Builtin.firstCells]
    · simp [Builtin.append_, run_underlying t.und, sizeOf, typeInfo, hi, Builtin.lenOf, Builtin.firstCells, hnc, storeCells]
  · have hcells : ∀ j u, (cellsE E xs)[j]? = some u → W.cell? (a.add j) = some u := by
      intro j u hu
      have hj := (List.getElem?_eq_some_iff.1 hu).1
      rw [cellsE_length] at hj
      have hx : 0 < xs.length := by
        rcases Nat.eq_zero_or_pos xs.length with h0 | h0
        · rw [h0] at hj; omega
        · exact h0
      obtain ⟨b, o, h, _, _, hcell⟩ := hr hx
      injection h with h
      subst h
      rw [add_none]
      exact hcell j u hu
    have hbytes : (ys.length + xs.length) * bb ≤ 140737488355328 := Nat.le_trans (Nat.mul_le_mul hb hbb) (by omega)
    obtain ⟨v', w', hrun, h2, h3, _, h5⟩ := run_append_own_at (P := Try.prog) W base S S T i0 z E.k bb t.und hi hz0 hz1 hz2 hzc E.pos v ys.length (cellsE E ys) hown a xs.length c (cellsE E xs) (cellsE_length E xs) hcells (cellsE_one E _) (by unfold maxLen; omega) hbytes hbase
    exact ⟨v', w', hrun, by unfold Own; rw [cellsE_append, List.length_append]; exact h2, h3, h5⟩
theorem own_lst {W : World} {base : Nat} {v : Value} {ys : List α} (hown : Own W base E T v ys) : ∃ A c, v = .slice A ys.length c ∧ Lst W (fun i => base ≤ i ∧ v.ownBlock = some i) E A ys ∧ ys.length ≤ c ∧ c ≤ maxLen ∧ (A = none → c = 0) := by
  rcases hown.2 with ⟨rfl, h0⟩ | ⟨g, cap, cur, rfl, hb, hh, hnc, hcm, hcs, htk⟩
  · exact ⟨none, 0, by rw [h0], fun h => absurd h (by omega), by omega, by unfold maxLen; omega, fun _ => rfl⟩
  · refine ⟨_, cap, rfl, fun _ => ⟨g, 0, rfl, ⟨hb, rfl⟩, lt_of_some hh, fun j x hx => ?_⟩, hnc, hcm, fun h => by cases h⟩
    rw [show W.cell? ⟨g, 0 + j, none⟩ = cur[0 + j]? from cell_of_row W g _ cur T (0, 0) hh, Nat.zero_add]
    have hj := (List.getElem?_eq_some_iff.1 hx).1
    rw [cellsE_length] at hj
    rw [← htk, List.getElem?_take_of_lt (by omega)] at hx
    simpa using hx
theorem own_nil (W : World) (base : Nat) : Own W base E T (.slice none 0 0) ([] : List α) := World.ownsRow_nil W base T E.k
theorem own_empty (W : World) (base : Nat) (hb : base ≤ W.heap.size) : Own (W.alloc (.cells #[] T)) base E T (.slice (some ⟨W.heap.size, 0, none⟩) 0 0) ([] : List α) :=
  ⟨by simp [cellsE], .inr ⟨W.heap.size, 0, #[], rfl, hb, Blk.new W T #[], Nat.le_refl _, by unfold maxLen; omega, by simp, by simp [cellsE]⟩⟩
theorem own_keep {W W' : World} {base : Nat} {v : Value} {ys : List α} (h : Own W base E T v ys) (hk : ∀ g, v.ownBlock = some g → W'.heap[g]? = W.heap[g]?) : Own W' base E T v ys := by
  refine ⟨h.1, ?_⟩
  rcases h.2 with h0 | ⟨g, cap, cur, rfl, hb, hh, hr⟩
  · exact .inl h0
  · exact .inr ⟨g, cap, cur, rfl, hb, (hk g rfl).trans hh, hr⟩
theorem own_base {W : World} {base base' : Nat} {v : Value} {ys : List α} (h : Own W base E T v ys) (hb : base' ≤ base) : Own W base' E T v ys := by
  refine ⟨h.1, ?_⟩
  rcases h.2 with h0 | ⟨g, cap, cur, rfl, hb', hr⟩
  · exact .inl h0
  · exact .inr ⟨g, cap, cur, rfl, Nat.le_trans hb hb', hr⟩
theorem own_blk {W : World} {base g : Nat} {v : Value} {ys : List α} (h : Own W base E T v ys) (hg : v.ownBlock = some g) : base ≤ g ∧ g < W.heap.size ∧ ∃ cur, W.heap[g]? = some (.cells cur T (0, 0)) := by
  rcases h.2 with ⟨rfl, _⟩ | ⟨g', cap, cur, rfl, hb, hh, hr⟩
  · cases hg
  · simp only [Value.ownBlock, Option.some.injEq] at hg
    subst hg
    exact ⟨hb, lt_of_some hh, _, hh⟩
end
/-- an append whose run is known, as one step of a region that draws -/
theorem step_append_at {P : Program} {ops : Array Oper} {o : Oper} {a : Act} {w : World} {K : Act → World → Prop} {Q : Exit → Act → World → Prop} {E : Prop} (hg : o.guard = none) (s x : Operand) (t t' : TypeId)
    (hop : o.op = .call { callee := .builtin .append, args := #[s, x], argTypes := #[t, t'] }) (v u : Value) (hs : a.eval s = v) (hx : a.eval x = u) {v' : Value} {w' : World}
    (hr : (Builtin.append_ #[t, t'] o.type #[v, u]).run P w = .ok v' w') (hK : K (a.put o.dst v') w') : if Region.wanted o (yielded ops a.tmps) = true then Oper.wp P o a w K Q else E := by
  have hw : Region.wanted o (yielded ops a.tmps) = true := by simp [Region.wanted, hg]
  rw [if_pos hw]
  unfold Oper.wp execOp
  simp only [hop, resolve, invoke, builtin, Sem.run_bind, Sem.run_pure, Result.andThen_ok, List.map_toArray, List.map_cons, List.map_nil, hs, hx, hr]
  exact hK
theorem keep_grown {w w1 w2 : World} {K : Nat → Obj → Prop} {v : Value} (h : Keep K w w1) (hg : w1.grownBy w2 v.ownBlock) (hr : ∀ g o, v.ownBlock = some g → w.heap[g]? = some o → ¬ K g o) : Keep K w w2 :=
  h.grown hg fun g o e ho => hr g o e ho
theorem below_drew_on {B : Nat} {w wA w1 : World} (h : Below B w wA) (k : Below wA.drew.heap.size wA.drew w1) (hB : B ≤ wA.heap.size) : Below B w w1 :=
  ⟨k.os.trans h.os, k.tape.trans h.tape, k.output.trans h.output, Nat.le_trans h.size k.size, fun i hi => (k.block i (Nat.lt_of_lt_of_le hi hB)).trans (h.block i hi)⟩
theorem step_append_own {α : Type} {E : Enc α} {T S : TypeId} (t : RowTy E T S) {ops : Array Oper} {o : Oper} {a : Act} {w : World} {Kc : Act → World → Prop} {Q : Exit → Act → World → Prop} {F : Prop} (hg : o.guard = none) (s x : Operand)
    (hop : o.op = .call { callee := .builtin .append, args := #[s, x], argTypes := #[S, S] }) (hty : o.type = S) {base : Nat} {v : Value} {ys : List α} (hown : Own w base E T v ys) (hs : a.eval s = v) {K : Nat → Prop} {A : Option Addr} {m : Nat} {xs : List α} {c : Nat} (hr : Lst w K E A xs) (hm : xs.length = m)
    (hb : ys.length + m ≤ 1000000) (hbase : base ≤ w.heap.size) (hK : ∀ v' w', Own w' base E T v' (ys ++ xs) → w.grownBy w' v.ownBlock → Kc (a.put o.dst v') w') (hx : a.eval x = .slice A m c := by rfl) : if Region.wanted o (yielded ops a.tmps) = true then Oper.wp Try.prog o a w Kc Q else F := by
  obtain ⟨v', W', hap, ho, hg2, _⟩ := append_own t hown hr hm c hb hbase
  exact step_append_at hg s x S S hop v _ hs hx (by rw [hty]; exact hap) (hK _ _ ho hg2)
theorem own_belowE {α : Type} {E : Enc α} {T : TypeId} {w w' : World} {base : Nat} {v : Value} {l : List α} (h : Own w base E T v l) (k : Below w.heap.size w w') : Own w' base E T v l :=
  own_keep h fun g hg => k.block g (own_blk h hg).2.1
theorem grown_own {α : Type} {E : Enc α} {T : TypeId} {W W' : World} {base : Nat} {v : Value} {l : List α} (ho : Own W base E T v l) (hg : W.grownBy W' v.ownBlock) (hb : base ≤ W.heap.size) : Below base W W' :=
  (Below.refl _ _).grown hg hb (fun _ hg => (own_blk ho hg).1)
end Go.Proofs.Ytpggnklbgkdjcaa
namespace Go.Proofs.Ytpggnklbgkdjcaa
open Go

/-- -1, 0, 1: by number -/
def cmpI (a b : Int) : Int := if a < b then -1 else if b < a then 1 else 0
/-- -1, 0, 1: byte by byte, a beginning ahead of what is longer -/
def cmpL : List UInt8 → List UInt8 → Int
  | [], [] => 0
  | [], _ :: _ => -1
  | _ :: _, [] => 1
  | a :: x, b :: y => if a < b then -1 else if b < a then 1 else cmpL x y
def cmpS (a b : ByteArray) : Int := cmpL a.toList b.toList
def inS (k f t : ByteArray) : Bool := decide (0 ≤ cmpS k f) && (t.toList == [] || decide (cmpS k t < 0))
def cmpM (p i q j : Int) : Int := if cmpI p q = 0 then cmpI i j else cmpI p q

theorem u8_lt_iff (a b : UInt8) : a < b ↔ a.toNat < b.toNat := UInt8.lt_iff_toNat_lt
theorem u8_eq_iff (a b : UInt8) : a = b ↔ a.toNat = b.toNat := ⟨fun h => by rw [h], fun h => UInt8.toNat_inj.1 h⟩

theorem cmpL_range (x y : List UInt8) : cmpL x y = -1 ∨ cmpL x y = 0 ∨ cmpL x y = 1 := by
  induction x generalizing y with
  | nil => cases y <;> simp [cmpL]
  | cons a x ih =>
    cases y with
    | nil => simp [cmpL]
    | cons b y =>
      have := ih y
      simp only [cmpL]
      split
      · simp
      · split <;> simp_all

theorem cmpL_less (x y : List UInt8) : Op.bytesLess x y = decide (cmpL x y = -1) := by
  induction x generalizing y with
  | nil => cases y <;> simp [cmpL, Op.bytesLess]
  | cons a x ih =>
    cases y with
    | nil => simp [cmpL, Op.bytesLess]
    | cons b y =>
      have := ih y
      simp only [cmpL, Op.bytesLess, this]
      by_cases h : a < b
      · simp [h]
      · by_cases h2 : b < a
        · have : a ≠ b := by intro e; subst e; exact h h2
          simp [h, h2, this]
        · have : a = b := by rw [u8_lt_iff] at h h2; rw [u8_eq_iff]; omega
          simp [this]

theorem cmpL_eq (x y : List UInt8) : cmpL x y = 0 ↔ x = y := by
  induction x generalizing y with
  | nil => cases y <;> simp [cmpL]
  | cons a x ih =>
    cases y with
    | nil => simp [cmpL]
    | cons b y =>
      have := ih y
      simp only [cmpL]
      by_cases h : a < b
      · have : a ≠ b := by intro e; subst e; rw [u8_lt_iff] at h; omega
        simp [h, this]
      · by_cases h2 : b < a
        · have : a ≠ b := by intro e; subst e; exact h h2
          simp [h, h2, this]
        · have : a = b := by rw [u8_lt_iff] at h h2; rw [u8_eq_iff]; omega
          simp [this, ih y]

theorem cmpL_turn (x y : List UInt8) : cmpL y x = - cmpL x y := by
  induction x generalizing y with
  | nil => cases y <;> simp [cmpL]
  | cons a x ih =>
    cases y with
    | nil => simp [cmpL]
    | cons b y =>
      have := ih y
      simp only [cmpL, this]
      by_cases h : a < b
      · have : ¬ b < a := by rw [u8_lt_iff] at *; omega
        simp [h, this]
      · by_cases h2 : b < a <;> simp [h, h2]

theorem cmpL_le_trans (x y z : List UInt8) (h1 : cmpL x y ≤ 0) (h2 : cmpL y z ≤ 0) : cmpL x z ≤ 0 := by
  induction x generalizing y z with
  | nil => cases z <;> simp [cmpL]
  | cons a x ih =>
    cases y with
    | nil => simp [cmpL] at h1
    | cons b y =>
      cases z with
      | nil => simp [cmpL] at h2
      | cons c z =>
        simp only [cmpL] at *
        have e1 : ¬ b < a := by intro h; have : ¬ a < b := by rw [u8_lt_iff] at *; omega
                                simp [h, this] at h1
        have e2 : ¬ c < b := by intro h; have : ¬ b < c := by rw [u8_lt_iff] at *; omega
                                simp [h, this] at h2
        by_cases h : a < c
        · simp [h]
        · have hc : ¬ c < a := by rw [u8_lt_iff] at *; omega
          have h3 : ¬ a < b := by rw [u8_lt_iff] at *; omega
          have h4 : ¬ b < c := by rw [u8_lt_iff] at *; omega
          simp only [e1, h3, if_false] at h1
          simp only [e2, h4, if_false] at h2
          simp only [h, hc, if_false]
          exact ih y z h1 h2

/-- behind x and ahead of x with a byte 0 stands nothing -/
theorem cmpL_next (x y : List UInt8) : cmpL y (x ++ [0]) < 0 ↔ cmpL y x ≤ 0 := by
  induction x generalizing y with
  | nil =>
    cases y with
    | nil => simp [cmpL]
    | cons b y =>
      have : ¬ b < 0 := by rw [u8_lt_iff]; simp
      by_cases h : (0 : UInt8) < b
      · simp [cmpL, this, h]
      · cases y <;> simp [cmpL, this, h]
  | cons a x ih =>
    cases y with
    | nil => simp [cmpL]
    | cons b y =>
      simp only [List.cons_append, cmpL]
      by_cases h : b < a
      · simp [h]
      · by_cases h2 : a < b
        · simp [h, h2]
        · simp only [h, h2, if_false]; exact ih y

theorem cmpI_range (a b : Int) : cmpI a b = -1 ∨ cmpI a b = 0 ∨ cmpI a b = 1 := by unfold cmpI; repeat' split
                                                                                   all_goals simp
theorem cmpI_eq (a b : Int) : cmpI a b = 0 ↔ a = b := by unfold cmpI; repeat' split
                                                         all_goals omega
theorem cmpM_range (p i q j : Int) : -1 ≤ cmpM p i q j ∧ cmpM p i q j ≤ 1 := by
  have := cmpI_range p q; have := cmpI_range i j; unfold cmpM; split <;> omega
theorem cmpM_turn (p i q j : Int) : cmpM q j p i = - cmpM p i q j := by
  unfold cmpM cmpI; repeat' split
  all_goals omega
theorem cmpM_eq (p i q j : Int) : cmpM p i q j = 0 ↔ p = q ∧ i = j := by
  unfold cmpM cmpI; repeat' split
  all_goals omega
theorem cmpM_le (p i q j : Int) : cmpM p i q j ≤ 0 ↔ p < q ∨ p = q ∧ i ≤ j := by
  unfold cmpM cmpI; repeat' split
  all_goals omega
theorem cmpM_trans (p i q j r k : Int) (h1 : cmpM p i q j ≤ 0) (h2 : cmpM q j r k ≤ 0) : cmpM p i r k ≤ 0 := by
  rw [cmpM_le] at *; omega
theorem cmpM_trans' (p i q j r k : Int) (h1 : 0 ≤ cmpM p i q j) (h2 : 0 ≤ cmpM q j r k) : 0 ≤ cmpM p i r k := by
  have e1 := cmpM_turn p i q j; have e2 := cmpM_turn q j r k; have e3 := cmpM_turn p i r k
  have := cmpM_trans r k q j p i (by omega) (by omega)
  omega
theorem cmpS_turn (a b : ByteArray) : cmpS b a = - cmpS a b := cmpL_turn _ _
theorem cmpS_range (a b : ByteArray) : -1 ≤ cmpS a b ∧ cmpS a b ≤ 1 := by have := cmpL_range a.toList b.toList; unfold cmpS; omega
theorem cmpS_eq (a b : ByteArray) : cmpS a b = 0 ↔ a.toList = b.toList := cmpL_eq _ _
theorem cmpS_trans (a b c : ByteArray) (h1 : cmpS a b ≤ 0) (h2 : cmpS b c ≤ 0) : cmpS a c ≤ 0 := cmpL_le_trans _ _ _ h1 h2
theorem cmpS_trans' (a b c : ByteArray) (h1 : 0 ≤ cmpS a b) (h2 : 0 ≤ cmpS b c) : 0 ≤ cmpS a c := by
  have e1 := cmpS_turn a b; have e2 := cmpS_turn b c; have e3 := cmpS_turn a c
  have := cmpS_trans c b a (by omega) (by omega)
  omega
end Go.Proofs.Ytpggnklbgkdjcaa
