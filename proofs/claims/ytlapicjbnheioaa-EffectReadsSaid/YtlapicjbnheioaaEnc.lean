/- Words for memory: rows of structs of whatever cells that lie somewhere; append of such rows behind a row of the call's own. -/
import Derived.Test.YtlapicjbnheioaaProg
import Derived.Test.YtlapicjbnheioaaKeep
import Derived.Test.YtlapicjbnheioaaStep
import Derived.WalkKit
import Derived.ProofKit
import Derived.Lib.Hide
import Derived.WalkSpells
import Derived.Maps.AppendAt
import Derived.Deep.RegionLaw
import Derived.StillTailTactics
import Derived.Deep.LoopGhost
set_option maxRecDepth 4000
namespace Go.Proofs.Ytlapicjbnheioaa
open Go.RowKit
/-- how an element lies: so many cells -/
structure Enc (α : Type) where
  enc : α → List Value
  k : Nat
  pos : 0 < k
  len : ∀ x, (enc x).length = k
  one : ∀ x, ∀ v ∈ enc x, v.oneCell' = true
def eI : Enc Int := ⟨fun c => [.int .i64 c], 1, by omega, fun _ => rfl, fun _ v hv => by simp at hv; subst hv; rfl⟩
section
variable {α : Type}
def cellsE (E : Enc α) : List α → List Value
  | [] => []
  | x :: l => E.enc x ++ cellsE E l
theorem cellsE_length (E : Enc α) (l : List α) : (cellsE E l).length = l.length * E.k := by
  induction l with
  | nil => simp [cellsE]
  | cons x r ih => rw [cellsE, List.length_append, E.len, ih, List.length_cons, Nat.add_mul]; omega
theorem cellsE_append (E : Enc α) (l m : List α) : cellsE E (l ++ m) = cellsE E l ++ cellsE E m := by
  induction l with
  | nil => rfl
  | cons x r ih => simp [cellsE, ih]
theorem cellsE_one (E : Enc α) (l : List α) : ∀ v ∈ cellsE E l, v.oneCell' = true := by
  induction l with
  | nil => intro v hv; cases hv
  | cons x r ih =>
    intro v hv
    rcases List.mem_append.1 hv with hv | hv
    · exact E.one x v hv
    · exact ih v hv
theorem cellsE_at (E : Enc α) {l : List α} {j : Nat} (h : j < l.length) {i : Nat} {v : Value} (hi : (E.enc l[j])[i]? = some v) : (cellsE E l)[j * E.k + i]? = some v := by
  have hik : i < E.k := by rw [← E.len l[j]]; exact (List.getElem?_eq_some_iff.1 hi).1
  induction l generalizing j with
  | nil => simp at h
  | cons x r ih =>
    cases j with
    | zero => rw [Nat.zero_mul, Nat.zero_add, cellsE, List.getElem?_append_left (by rw [E.len]; exact hik)]; exact hi
    | succ j =>
      rw [cellsE, List.getElem?_append_right (by rw [E.len, Nat.add_mul]; omega), E.len, Nat.add_mul, Nat.one_mul, show j * E.k + E.k + i - E.k = j * E.k + i by omega]
      exact ih (by simpa using h) (by simpa using hi)
theorem cellsE_take (E : Enc α) (l : List α) (k : Nat) : cellsE E (l.take k) = (cellsE E l).take (k * E.k) := by
  induction l generalizing k with
  | nil => simp [cellsE]
  | cons x r ih =>
    cases k with
    | zero => simp [cellsE]
    | succ k =>
      rw [List.take_succ_cons, cellsE, cellsE, ih, List.take_append, E.len, List.take_of_length_le (l := E.enc x) (by rw [E.len, Nat.add_mul]; omega), Nat.add_mul, Nat.one_mul, Nat.add_sub_cancel]
theorem cellsE_drop (E : Enc α) (l : List α) (k : Nat) : cellsE E (l.drop k) = (cellsE E l).drop (k * E.k) := by
  induction l generalizing k with
  | nil => simp [cellsE]
  | cons x r ih =>
    cases k with
    | zero => simp
    | succ k =>
      rw [List.drop_succ_cons, cellsE, ih, List.drop_append, E.len, List.drop_of_length_le (l := E.enc x) (by rw [E.len, Nat.add_mul]; omega), Nat.add_mul, Nat.one_mul, Nat.add_sub_cancel, List.nil_append]

/-- the slice of address A holds these rows, in a block of which K says so -/
def Lst (w : World) (K : Nat → Prop) (E : Enc α) (A : Option Addr) (l : List α) : Prop :=
  0 < l.length → ∃ b o, A = some ⟨b, o, none⟩ ∧ K b ∧ b < w.heap.size ∧ ∀ j u, (cellsE E l)[j]? = some u → w.cell? ⟨b, o + j, none⟩ = some u
variable {w w' : World} {K K' : Nat → Prop} {E : Enc α} {A : Option Addr} {l : List α}
theorem Lst.nil (w : World) (K : Nat → Prop) (E : Enc α) (A : Option Addr) : Lst w K E A ([] : List α) := fun h => absurd h (by simp)
theorem Lst.keep (h : Lst w K E A l) {Q : Nat → Obj → Prop} (k : Keep Q w w') (hq : ∀ i o, w.heap[i]? = some o → K i → Q i o) : Lst w' K E A l := fun h0 => by
  obtain ⟨b, o, e, hk, hb, hc⟩ := h h0
  have hbl : w'.heap[b]? = w.heap[b]? := by
    rw [Array.getElem?_eq_getElem hb]
    exact k.block b _ (Array.getElem?_eq_getElem hb) (hq b _ (Array.getElem?_eq_getElem hb) hk)
  exact ⟨b, o, e, hk, Nat.lt_of_lt_of_le hb k.size, fun j x hx => (cell_of_heap hbl _).trans (hc j x hx)⟩
theorem Lst.below (h : Lst w K E A l) (k : Below w.heap.size w w') : Lst w' K E A l := fun h0 => by
  obtain ⟨b, o, e, hk, hb, hc⟩ := h h0
  exact ⟨b, o, e, hk, Nat.lt_of_lt_of_le hb k.size, fun j x hx => (cell_of_heap (k.block b hb) _).trans (hc j x hx)⟩
theorem Lst.more (h : Lst w K E A l) (hk : ∀ i, i < w.heap.size → K i → K' i) : Lst w K' E A l := fun h0 => by
  obtain ⟨b, o, e, hb, hl, hc⟩ := h h0
  exact ⟨b, o, e, hk b hl hb, hl, hc⟩
theorem Lst.lt (h : Lst w K E A l) : Lst w (fun i => i < w.heap.size) E A l := h.more fun _ hi _ => hi
theorem Lst.take (h : Lst w K E A l) (k : Nat) : Lst w K E A (l.take k) := fun h0 => by
  obtain ⟨b, o, e, hk, hb, hc⟩ := h (by rw [List.length_take] at h0; omega)
  refine ⟨b, o, e, hk, hb, fun j x hx => hc j x ?_⟩
  rw [cellsE_take, List.getElem?_take] at hx
  split at hx
  · exact hx
  · cases hx
theorem Lst.drop (h : Lst w K E A l) {k c : Nat} (hc : l.length ≤ c) : Lst w K E (if c = k then A else A.map (·.add (k * E.k))) (l.drop k) := fun h0 => by
  rw [List.length_drop] at h0
  obtain ⟨b, o, e, hk, hb, hcell⟩ := h (by omega)
  rw [if_neg (by omega), e]
  refine ⟨b, o + k * E.k, ?_, hk, hb, fun j x hx => ?_⟩
  · rw [Option.map_some, add_none]
  · rw [Nat.add_assoc]
    exact hcell _ x (by rw [← hx, cellsE_drop, List.getElem?_drop])
/-- the cells of the j-th row -/
theorem Lst.at_ (h : Lst w K E A l) {j : Nat} (hj : j < l.length) :
    ∃ b o, A = some ⟨b, o, none⟩ ∧ b < w.heap.size ∧ ∀ i v, (E.enc l[j])[i]? = some v → w.cell? ⟨b, o + j * E.k + i, none⟩ = some v := by
  obtain ⟨b, o, e, _, hl, hc⟩ := h (by omega)
  exact ⟨b, o, e, hl, fun i v hi => by rw [Nat.add_assoc]; exact hc _ _ (cellsE_at E hj hi)⟩
theorem Lst.none_ (h : Lst w K E none l) : l = [] := by
  rcases Nat.eq_zero_or_pos l.length with h0 | h0
  · exact List.eq_nil_of_length_eq_zero h0
  · obtain ⟨_, _, h, _⟩ := h h0
    cases h
end
theorem Lst.atI {w : World} {K : Nat → Prop} {A : Option Addr} {l : List Int} (h : Lst w K eI A l) {j : Nat} (hj : j < l.length) :
    ∃ b o, A = some ⟨b, o, none⟩ ∧ b < w.heap.size ∧ w.cell? ⟨b, o + j, none⟩ = some (.int .i64 l[j]) := by
  obtain ⟨b, o, e, hl, hc⟩ := h.at_ hj
  have := hc 0 _ rfl
  exact ⟨b, o, e, hl, by rw [show o + j = o + j * eI.k + 0 by simp [eI]]; exact this⟩

/-- the type of the elements, and of a slice of them -/
structure RowTy {α : Type} (E : Enc α) (T S : TypeId) : Prop where
  und : Try.prog.underlying S = some (.slice T)
  info : ∃ z b, (Try.prog.info? T).map (fun i => (i.zero, i.size, i.bytes)) = some (some z, E.k, b) ∧ z.cells.size = E.k ∧ b ≤ 4096
/-- a row of the call's own -/
def Own {α : Type} (w : World) (base : Nat) (E : Enc α) (T : TypeId) (v : Value) (l : List α) : Prop := w.ownsRow base T E.k v l.length (cellsE E l)
section
variable {α : Type} {E : Enc α} {T S : TypeId}
/-- rows behind rows of the call's own -/
theorem append_own (t : RowTy E T S) {W : World} {base : Nat} {v : Value} {ys : List α} (hown : Own W base E T v ys) {K : Nat → Prop} {A : Option Addr} {m : Nat} {xs : List α} (hr : Lst W K E A xs) (hm : xs.length = m) (c : Nat)
    (hb : ys.length + m ≤ 1000000) (hbase : base ≤ W.heap.size) : ∃ v' W', (Builtin.append_ #[S, S] S #[v, .slice A m c]).run Try.prog W = .ok v' W' ∧ Own W' base E T v' (ys ++ xs) ∧ W.grownBy W' v.ownBlock ∧
      (v'.ownBlock = v.ownBlock ∨ v'.ownBlock = some W.heap.size) := by
  obtain ⟨z, bb, hi0, hzc, hbb⟩ := t.info
  obtain ⟨i0, hi, hz0, hz1, hz2⟩ := info_parts hi0
  subst hm
  rcases A with _ | a
  · have hx : xs = [] := hr.none_
    subst hx
    refine ⟨v, W, ?_, by simpa using hown, World.grownBy.refl W _, .inl rfl⟩
    rcases hown.2 with ⟨rfl, h0⟩ | ⟨g, cap, cur, rfl, _, _, hnc, _⟩
    · simp [Builtin.append_, run_underlying t.und, sizeOf, typeInfo, hi, Builtin.lenOf, Builtin.firstCells]
    · simp [Builtin.append_, run_underlying t.und, sizeOf, typeInfo, hi, Builtin.lenOf, Builtin.firstCells, hnc, storeCells]
  · have hcells : ∀ j u, (cellsE E xs)[j]? = some u → W.cell? (a.add j) = some u := by
      intro j u hu
      have hj := (List.getElem?_eq_some_iff.1 hu).1
      rw [cellsE_length] at hj
      have hx : 0 < xs.length := by
        rcases Nat.eq_zero_or_pos xs.length with h0 | h0
        · rw [h0] at hj; omega
        · exact h0
      obtain ⟨b, o, h, _, _, hcell⟩ := hr hx
      injection h with h
      subst h
      rw [add_none]
      exact hcell j u hu
    have hbytes : (ys.length + xs.length) * bb ≤ 140737488355328 := Nat.le_trans (Nat.mul_le_mul hb hbb) (by omega)
    obtain ⟨v', w', hrun, h2, h3, _, h5⟩ := run_append_own_at (P := Try.prog) W base S S T i0 z E.k bb t.und hi hz0 hz1 hz2 hzc E.pos v ys.length (cellsE E ys) hown a xs.length c (cellsE E xs) (cellsE_length E xs) hcells (cellsE_one E _) (by unfold maxLen; omega) hbytes hbase
    exact ⟨v', w', hrun, by unfold Own; rw [cellsE_append, List.length_append]; exact h2, h3, h5⟩
theorem own_lst {W : World} {base : Nat} {v : Value} {ys : List α} (hown : Own W base E T v ys) : ∃ A c, v = .slice A ys.length c ∧ Lst W (fun i => base ≤ i ∧ v.ownBlock = some i) E A ys ∧ ys.length ≤ c ∧ c ≤ maxLen ∧ (A = none → c = 0) := by
  rcases hown.2 with ⟨rfl, h0⟩ | ⟨g, cap, cur, rfl, hb, hh, hnc, hcm, hcs, htk⟩
  · exact ⟨none, 0, by rw [h0], fun h => absurd h (by omega), by omega, by unfold maxLen; omega, fun _ => rfl⟩
  · refine ⟨_, cap, rfl, fun _ => ⟨g, 0, rfl, ⟨hb, rfl⟩, lt_of_some hh, fun j x hx => ?_⟩, hnc, hcm, fun h => by cases h⟩
    rw [show W.cell? ⟨g, 0 + j, none⟩ = cur[0 + j]? from cell_of_row W g _ cur T (0, 0) hh, Nat.zero_add]
    have hj := (List.getElem?_eq_some_iff.1 hx).1
    rw [cellsE_length] at hj
    rw [← htk, List.getElem?_take_of_lt (by omega)] at hx
    simpa using hx
theorem own_nil (W : World) (base : Nat) : Own W base E T (.slice none 0 0) ([] : List α) := World.ownsRow_nil W base T E.k
theorem own_empty (W : World) (base : Nat) (hb : base ≤ W.heap.size) : Own (W.alloc (.cells #[] T)) base E T (.slice (some ⟨W.heap.size, 0, none⟩) 0 0) ([] : List α) :=
  ⟨by simp [cellsE], .inr ⟨W.heap.size, 0, #[], rfl, hb, Blk.new W T #[], Nat.le_refl _, by unfold maxLen; omega, by simp, by simp [cellsE]⟩⟩
theorem own_keep {W W' : World} {base : Nat} {v : Value} {ys : List α} (h : Own W base E T v ys) (hk : ∀ g, v.ownBlock = some g → W'.heap[g]? = W.heap[g]?) : Own W' base E T v ys := by
  refine ⟨h.1, ?_⟩
  rcases h.2 with h0 | ⟨g, cap, cur, rfl, hb, hh, hr⟩
  · exact .inl h0
  · exact .inr ⟨g, cap, cur, rfl, hb, (hk g rfl).trans hh, hr⟩
theorem own_base {W : World} {base base' : Nat} {v : Value} {ys : List α} (h : Own W base E T v ys) (hb : base' ≤ base) : Own W base' E T v ys := by
  refine ⟨h.1, ?_⟩
  rcases h.2 with h0 | ⟨g, cap, cur, rfl, hb', hr⟩
  · exact .inl h0
  · exact .inr ⟨g, cap, cur, rfl, Nat.le_trans hb hb', hr⟩
theorem own_blk {W : World} {base g : Nat} {v : Value} {ys : List α} (h : Own W base E T v ys) (hg : v.ownBlock = some g) : base ≤ g ∧ g < W.heap.size ∧ ∃ cur, W.heap[g]? = some (.cells cur T (0, 0)) := by
  rcases h.2 with ⟨rfl, _⟩ | ⟨g', cap, cur, rfl, hb, hh, hr⟩
  · cases hg
  · simp only [Value.ownBlock, Option.some.injEq] at hg
    subst hg
    exact ⟨hb, lt_of_some hh, _, hh⟩
end
/-- an append whose run is known, as one step of a region that draws -/
theorem step_append_at {P : Program} {ops : Array Oper} {o : Oper} {a : Act} {w : World} {K : Act → World → Prop} {Q : Exit → Act → World → Prop} {E : Prop} (hg : o.guard = none) (s x : Operand) (t t' : TypeId)
    (hop : o.op = .call { callee := .builtin .append, args := #[s, x], argTypes := #[t, t'] }) (v u : Value) (hs : a.eval s = v) (hx : a.eval x = u) {v' : Value} {w' : World}
    (hr : (Builtin.append_ #[t, t'] o.type #[v, u]).run P w = .ok v' w') (hK : K (a.put o.dst v') w') : if Region.wanted o (yielded ops a.tmps) = true then Oper.wp P o a w K Q else E := by
  have hw : Region.wanted o (yielded ops a.tmps) = true := by simp [Region.wanted, hg]
  rw [if_pos hw]
  unfold Oper.wp execOp
  simp only [hop, resolve, invoke, builtin, Sem.run_bind, Sem.run_pure, Result.andThen_ok, List.map_toArray, List.map_cons, List.map_nil, hs, hx, hr]
  exact hK
theorem keep_grown {w w1 w2 : World} {K : Nat → Obj → Prop} {v : Value} (h : Keep K w w1) (hg : w1.grownBy w2 v.ownBlock) (hr : ∀ g o, v.ownBlock = some g → w.heap[g]? = some o → ¬ K g o) : Keep K w w2 :=
  h.grown hg fun g o e ho => hr g o e ho
theorem below_drew_on {B : Nat} {w wA w1 : World} (h : Below B w wA) (k : Below wA.drew.heap.size wA.drew w1) (hB : B ≤ wA.heap.size) : Below B w w1 :=
  ⟨k.os.trans h.os, k.tape.trans h.tape, k.output.trans h.output, Nat.le_trans h.size k.size, fun i hi => (k.block i (Nat.lt_of_lt_of_le hi hB)).trans (h.block i hi)⟩
theorem step_append_own {α : Type} {E : Enc α} {T S : TypeId} (t : RowTy E T S) {ops : Array Oper} {o : Oper} {a : Act} {w : World} {Kc : Act → World → Prop} {Q : Exit → Act → World → Prop} {F : Prop} (hg : o.guard = none) (s x : Operand)
    (hop : o.op = .call { callee := .builtin .append, args := #[s, x], argTypes := #[S, S] }) (hty : o.type = S) {base : Nat} {v : Value} {ys : List α} (hown : Own w base E T v ys) (hs : a.eval s = v) {K : Nat → Prop} {A : Option Addr} {m : Nat} {xs : List α} {c : Nat} (hr : Lst w K E A xs) (hm : xs.length = m)
    (hb : ys.length + m ≤ 1000000) (hbase : base ≤ w.heap.size) (hK : ∀ v' w', Own w' base E T v' (ys ++ xs) → w.grownBy w' v.ownBlock → Kc (a.put o.dst v') w') (hx : a.eval x = .slice A m c := by rfl) : if Region.wanted o (yielded ops a.tmps) = true then Oper.wp Try.prog o a w Kc Q else F := by
  obtain ⟨v', W', hap, ho, hg2, _⟩ := append_own t hown hr hm c hb hbase
  exact step_append_at hg s x S S hop v _ hs hx (by rw [hty]; exact hap) (hK _ _ ho hg2)
theorem own_belowE {α : Type} {E : Enc α} {T : TypeId} {w w' : World} {base : Nat} {v : Value} {l : List α} (h : Own w base E T v l) (k : Below w.heap.size w w') : Own w' base E T v l :=
  own_keep h fun g hg => k.block g (own_blk h hg).2.1
theorem grown_own {α : Type} {E : Enc α} {T : TypeId} {W W' : World} {base : Nat} {v : Value} {l : List α} (ho : Own W base E T v l) (hg : W.grownBy W' v.ownBlock) (hb : base ≤ W.heap.size) : Below base W W' :=
  (Below.refl _ _).grown hg hb (fun _ hg => (own_blk ho hg).1)
end Go.Proofs.Ytlapicjbnheioaa
