/- Rows of slices, copied and made longer; an append in a region whose guard holds. -/
import Derived.Test.YtmpkgnmijnjddaaLogZ
namespace Go.Proofs.Ytmpkgnmijnjddaa
open Go.RowKit
theorem wpList_append_run_g {P : Program} {w : World} {ops : Array Oper} {rest : List Oper} {o : Oper} {a : Act} {Q : Exit → Act → World → Prop} (hw : Region.wanted o (yielded ops a.tmps) = true) (s x : Operand) (t t' : TypeId)
    (ho : o.op = .call { callee := .builtin .append, args := #[s, x], argTypes := #[t, t'] }) (v u : Value) (hs : a.eval s = v) (hx : a.eval x = u) {v' : Value} {w' : World}
    (hr : (Builtin.append_ #[t, t'] o.type #[v, u]).run P w = .ok v' w') (h : wpList P ops Q rest (a.put o.dst v') w') : wpList P ops Q (o :: rest) a w := by
  refine wpList_step fun K hK => ?_
  simp only [hw, if_true]
  unfold Oper.wp execOp
  simp only [ho, resolve, invoke, builtin, Sem.run_bind, Sem.run_pure, Result.andThen_ok, List.map_toArray, List.map_cons, List.map_nil, hs, hx, hr]
  exact hK _ _ h
theorem rows_one {w : World} {v : Value} {n : Nat} {vs : List Value} {ls : List (List UInt8)} {K : Nat → Prop} (_h : w.ownsRow 0 30 1 v n vs) (hh : Holds w K vs ls) : ∀ u ∈ vs, u.oneCell' = true := fun u hu => by
  obtain ⟨i, hi, rfl⟩ := List.mem_iff_getElem.1 hu
  obtain ⟨xs, hx⟩ := at_of_lt ls i (by have := hh.1; omega)
  obtain ⟨A, c, e, _⟩ := hh.2 i xs hx
  rw [List.getElem?_eq_getElem hi] at e
  rw [Option.some.inj e]; rfl
/-- a row of slices, in new memory -/
theorem rows_copy {w : World} {v : Value} {n : Nat} {vs : List Value} {ls : List (List UInt8)} {K : Nat → Prop} (h : w.ownsRow 0 30 1 v n vs) (hh : Holds w K vs ls) (hn : n ≤ 100000) :
    ∃ A c A' c' W', v = .slice A n c ∧ (Builtin.append_ #[37, 37] 37 #[.slice none 0 0, .slice A n c]).run Try.prog w = .ok (.slice A' n c') W' ∧ W'.ownsRow 0 30 1 (.slice A' n c') n vs ∧ Below w.heap.size w W' ∧ ∀ k, (Value.slice A' n c').ownBlock = some k → w.heap.size ≤ k := by
  obtain ⟨i0, hi, hz0, hz1, hz2⟩ := info_parts info30
  have hone := rows_one h hh
  rcases h.2 with ⟨rfl, rfl⟩ | ⟨q, cap, cur, rfl, _, hq, hc, hcm, hcs, ht⟩
  · have hv : vs = [] := List.eq_nil_of_length_eq_zero (by have := h.1; omega)
    subst hv
    refine ⟨none, 0, none, 0, w, rfl, ?_, h, Below.refl _ _, fun k hk => by cases hk⟩
    simp [Builtin.append_, run_underlying Try.underlying37, sizeOf, typeInfo, hi, Builtin.lenOf, Builtin.firstCells]
  · obtain ⟨v', W', hrun, h2, h3, _, _⟩ := run_append_own_at (P := Try.prog) w w.heap.size 37 37 30 i0 _ 1 24 Try.underlying37 hi hz0 hz1 hz2 rfl (by omega) (.slice none 0 0) 0 [] (World.ownsRow_nil w w.heap.size _ 1) ⟨q, 0, none⟩ n cap vs h.1 (fun j u hu => by
      have := h.cells (g := q) rfl
      exact this j u hu) hone (by unfold maxLen; omega) (by omega) (Nat.le_refl _)
    rw [Nat.zero_add, List.nil_append] at h2
    have hv : (∃ A' c', v' = .slice A' n c') ∧ W'.ownsRow 0 30 1 v' n vs ∧ ∀ k, v'.ownBlock = some k → w.heap.size ≤ k := by
      rcases h2.2 with ⟨rfl, rfl⟩ | ⟨q, cap, cur, rfl, hq, r⟩
      · exact ⟨⟨none, 0, rfl⟩, ⟨h2.1, .inl ⟨rfl, rfl⟩⟩, fun k hk => by cases hk⟩
      · refine ⟨⟨_, cap, rfl⟩, ⟨h2.1, .inr ⟨q, cap, cur, rfl, Nat.zero_le _, r⟩⟩, fun k hk => ?_⟩
        simp [Value.ownBlock] at hk
        omega
    obtain ⟨⟨A', c', rfl⟩, h4, h5⟩ := hv
    exact ⟨_, cap, A', c', W', rfl, hrun, h4, (Below.refl _ _).grown h3 (Nat.le_refl _) (fun k hk => by simp [Value.ownBlock] at hk), h5⟩
/-- a row of slices, made longer: what is read of it -/
theorem own_blk {w : World} {v : Value} {n : Nat} {vs : List Value} (h : w.ownsRow 0 30 1 v n vs) {q : Nat} (hq : v.ownBlock = some q) : ∃ cs, Blk w q 30 cs := by
  rcases h.2 with ⟨rfl, _⟩ | ⟨q', cap, cur, rfl, _, hb, _⟩
  · cases hq
  · simp [Value.ownBlock] at hq
    subst hq
    exact ⟨cur, hb⟩
end Go.Proofs.Ytmpkgnmijnjddaa
