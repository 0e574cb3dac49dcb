/- What an elder record is made of: a head by the document's writer, bytes 0 behind it, all of it twice. -/
import Derived.Test.YtmpkgnmijnjddaaLogV
import Derived.Test.YtmpkgnmijnjddaaBRefWrites
import Derived.Lib.AppendZerosOnto
namespace Go.Proofs.Ytmpkgnmijnjddaa
open Go.RowKit
theorem exec_append2 {P : Program} {o : Oper} {a : Act} {s x : Operand} {t t' : TypeId} {w w' : World} {v u r : Value} (ho : o.op = .call { callee := .builtin .append, args := #[s, x], argTypes := #[t, t'] }) (hs : a.eval s = v) (hx : a.eval x = u)
    (hr : (Builtin.append_ #[t, t'] o.type #[v, u]).run P w = .ok r w') : (execOp a.eval o).run P w = .ok (.value r) w' := by
  unfold execOp
  simp only [ho, resolve, invoke, builtin, Sem.run_bind, Sem.run_pure, Result.andThen_ok, List.map_toArray, List.map_cons, List.map_nil, hs, hx, hr]
theorem zeroCells_u8 (m : Nat) : (Builtin.zeroCells (Value.int IntKind.u8 0).cells m).toList = cellsB (zeros m) := by
  apply List.ext_getElem
  · have h1 : (Value.int IntKind.u8 0).cells.size = 1 := rfl
    simp [cellsB_length, zeros_length, size_zeroCells, h1]
  · intro i h1 h2
    simp [Builtin.zeroCells, Value.cells, cellsB, zeros, Nat.mod_one]
/-- bytes 0 behind a row of the call's own -/
theorem append_zeros {W : World} {base n : Nat} {v : Value} {ys : List UInt8} (hown : W.ownsRow base 5 1 v n (cellsB ys)) (m : Nat) (hn : 0 < n) (hm : 0 < m) (hb : n + m ≤ 100000) (hbase : base ≤ W.heap.size) :
    ∃ A' c' W', (Builtin.append_ #[30, 3] 30 #[v, .int .i64 (m : Int)]).run Try.prog W = .ok (.slice A' (n + m) c') W' ∧ W'.ownsRow base 5 1 (.slice A' (n + m) c') (n + m) (cellsB (ys ++ zeros m)) ∧ W.grownBy W' v.ownBlock := by
  obtain ⟨i0, hi, hz0, hz1, hz2⟩ := info_parts info5
  have hyl : (cellsB ys).length = n := by have := hown.1; omega
  rcases hown.2 with ⟨_, h0⟩ | ⟨q, cap, cur, rfl, hbq, hq, hnc, hcm, hcs, ht⟩
  · omega
  · rcases Nat.lt_or_ge cap (n + m) with hroom | hroom
    · have hold := run_firstCells_some (P := Try.prog) W.drew i0.size n ⟨q, 0, none⟩ n cap (cellsB ys) (by rw [hz1]; omega) (by simpa using hown.cells (g := q) rfl)
      have hr := Lib.run_append_grow_zeros (P := Try.prog) W 30 3 30 5 i0 _ .i64 .i64 Try.underlying30 Try.underlying3 hi hz0 (some ⟨q, 0, none⟩) n cap (cellsB ys) hold m hm (by rw [hz1]; omega) hroom (by omega) (by rw [hz2]; omega) (by rw [hz2]; exact growslice_fits hroom (by omega))
      have hge := grownCap_ge W (n + m) cap 5
      have hcm2 := grownCap_le_maxLen W (n + m) cap 5 (by unfold maxLen; omega)
      refine ⟨_, _, _, hr, ⟨by rw [cellsB_length, List.length_append, zeros_length]; rw [cellsB_length] at hyl; omega, .inr ⟨W.heap.size, _, _, rfl, hbase, heap_alloc_new W.drew _, hge, hcm2, ?_, ?_⟩⟩, ⟨rfl, rfl, rfl, by simp, fun k hk _ => heap_alloc_old W.drew _ hk⟩⟩
      · have hz1' : (Value.int IntKind.u8 0).cells.size = 1 := rfl
        simp only [Array.size_append, List.size_toArray, size_zeroCells, hz1', hyl]
        omega
      · have e : (Builtin.zeroCells (Value.int IntKind.u8 0).cells m) = (cellsB (zeros m)).toArray := by apply Array.ext'; rw [zeroCells_u8]
        rw [e]
        simp only [Array.toList_append, List.append_assoc]
        rw [cellsB_append, ← List.append_assoc]
        have hl : (cellsB ys ++ cellsB (zeros m)).length = (n + m) * 1 := by rw [List.length_append, hyl, cellsB_length, zeros_length]; omega
        rw [← hl]
        exact List.take_left
    · have hw : IntKind.i64.wrap (m : Int) = m := by rw [IntKind.wrap_i64]; omega
      have hneg : ¬ ((m : Int) < 0) := by omega
      have hns : ¬ (m * i0.size = 0) := by rw [hz1]; omega
      have h48i : ¬ (281474976710656 < (m : Int) * (i0.bytes : Int)) := by rw [hz2]; omega
      have hcs' : cur.size = cap := by simpa using hcs
      have hB : Blk W q 5 cur := hq
      have hst := run_storeCells_cells (P := Try.prog) q (0 + n * i0.size) (cellsB (zeros m)) 0 W (by
        intro j hj
        rw [cellsB_length, zeros_length] at hj
        rw [hB.cell, hz1, Array.getElem?_eq_getElem (by omega)]; rfl) (by
        intro j hj
        rw [hB.frozen]) (cellsB_one _)
      have hpure : (Builtin.append_ #[30, 3] 30 #[.slice (some ⟨q, 0, none⟩) n cap, .int .i64 (m : Int)]).run Try.prog W = .ok (.slice (some ⟨q, 0, none⟩) (n + m) cap) (W.setCells q n (cellsB (zeros m))) := by
        have hst' : (storeCells ⟨q, n * i0.size, none⟩ (cellsB (zeros m))).run Try.prog W = .ok () (W.setCells q n (cellsB (zeros m))) := by
          have := hst
          simp only [hz1, Nat.mul_one, Nat.zero_add, Nat.add_zero] at this ⊢
          exact this
        simp [Builtin.append_, run_underlying Try.underlying30, run_underlying Try.underlying3, sizeOf, typeInfo, zeroValue, hi, hz0, asInt, asIntOf, hw, hneg, hns, h48i, hroom, Addr.add_lit, zeroCells_u8, hst']
      have hlen : (cellsB ys ++ cellsB (zeros m)).length = (n + m) * 1 := by rw [List.length_append, hyl, cellsB_length, zeros_length]; omega
      have hrow : Blk (W.setCells q n (cellsB (zeros m))) q 5 (cellsB ys ++ cellsB (zeros m) ++ cur.toList.drop (n + m)).toArray := by
        have := blk_setCells (g := q) (t := 5) (cellsB (zeros m)) (cellsB ys) ((cur.toList.drop n).take m) (cur.toList.drop (n + m)) W (by rw [cellsB_length, zeros_length, List.length_take, List.length_drop, Array.length_toList]; omega) (by
          have e : cellsB ys ++ (cur.toList.drop n).take m ++ cur.toList.drop (n + m) = cur.toList := by
            have h1 : cur.toList.take n = cellsB ys := by simpa using ht
            rw [← h1, List.append_assoc, show cur.toList.drop (n + m) = (cur.toList.drop n).drop m by rw [List.drop_drop], List.take_append_drop, List.take_append_drop]
          rw [e]; exact hB)
        rwa [hyl] at this
      refine ⟨_, _, _, hpure, ⟨by rw [cellsB_append]; exact hlen, .inr ⟨q, cap, _, rfl, hbq, hrow, hroom, hcm, ?_, ?_⟩⟩, ?_⟩
      · simp only [List.size_toArray, List.length_append, List.length_drop, Array.length_toList, cellsB_length, zeros_length]
        rw [cellsB_length] at hyl
        omega
      · rw [cellsB_append, ← hlen]
        exact List.take_left
      · obtain ⟨p1, p2, p3, p4⟩ := setCells_plain q (cellsB (zeros m)) n W
        exact ⟨p1, p2, p3, by omega, fun k _ hne => heap_setCells_far q _ n W k (fun e => hne (by simp [Value.ownBlock, e]))⟩
/-- a head by the document's writer, bytes 0 behind it -/
theorem ref_zeros {w : World} {N g : Nat} {ys : List UInt8} (h : VAt w N g ys) (hy : ys.length = 29) : ∃ A c A' c' W', w.cell? ⟨g, 0, none⟩ = some (.slice A 29 c) ∧ (Builtin.append_ #[30, 3] 30 #[.slice A 29 c, .int .i64 35]).run Try.prog w.drew = .ok (.slice A' 64 c') W' ∧
    W'.cell? ⟨g, 0, none⟩ = some (.slice A 29 c) ∧ W'.ownsRow N 5 1 (.slice A' 64 c') 64 (cellsB (ys ++ zeros 35)) ∧ Keep (fun i _ => i < N) w W' ∧ 29 ≤ c := by
  obtain ⟨v, hb, ho, hN⟩ := h
  rw [hy] at ho
  have hlt := hb.lt
  obtain ⟨A, c, rfl, _, hc, _⟩ := own_rb ho
  have ho' : w.drew.ownsRow N 5 1 (.slice A 29 c) 29 (cellsB ys) := ho
  obtain ⟨A', c', W', hrun, ho2, hg⟩ := append_zeros ho' 35 (by omega) (by omega) (by omega) (by show N ≤ w.heap.size; omega)
  have hgne : some g ≠ (Value.slice A 29 c).ownBlock := by
    rcases ho.2 with ⟨h, _⟩ | ⟨q, cap, cur, e, _, hh, _⟩
    · cases h
    · rw [e]
      intro e2
      simp only [Value.ownBlock, Option.some.injEq] at e2
      exact ne_of_types hb hh (by decide) e2.symm
  have hbW : Blk W' g 32 #[.slice A 29 c] := (hg.block g hlt hgne).trans hb
  refine ⟨A, c, A', c', W', by rw [hb.cell]; rfl, hrun, by rw [hbW.cell]; rfl, ho2, ?_, hc⟩
  refine ((Keep.refl w).drew).grown hg (fun q o hq hwo hK => ?_)
  rcases ho.2 with ⟨h, _⟩ | ⟨q', cap, cur, e, hNq, hh, _⟩
  · cases h
  · rw [e] at hq
    simp only [Value.ownBlock, Option.some.injEq] at hq
    omega
/-- bytes twice, in new memory -/
theorem twice {w : World} {N n : Nat} {A : Option Addr} {c : Nat} {b : List UInt8} (ho : w.ownsRow N 5 1 (.slice A n c) n (cellsB b)) {n2 : Nat} (hn : b.length = n) (hm : n ≤ 1000) (hn2 : n + n = n2) :
    ∃ A1 c1 W1 A2 c2 W2, (Builtin.append_ #[30, 30] 30 #[.slice none 0 0, .slice A n c]).run Try.prog w = .ok (.slice A1 n c1) W1 ∧ (Builtin.append_ #[30, 30] 30 #[.slice A1 n c1, .slice A n c]).run Try.prog W1 = .ok (.slice A2 n2 c2) W2 ∧
      Has W2 (fun i => w.heap.size ≤ i ∧ Ty5 W2 i) A2 (b ++ b) ∧ n2 ≤ c2 ∧ (A2 = none → c2 = 0) ∧ Below w.heap.size w W2 := by
  subst hn2
  obtain ⟨A0, c0, e, hr, _, _⟩ := own_rb ho
  cases e
  obtain ⟨v1, W1, hrun1, ho1, hg1, _⟩ := append_rb (n := 0) (ys := []) (World.ownsRow_nil w w.heap.size 5 1) hr c (by omega) (Nat.le_refl _)
  rw [List.nil_append, Nat.zero_add] at ho1
  obtain ⟨A1, c1, rfl, _, _, _⟩ := own_rb ho1
  have hb1 : Below w.heap.size w W1 := (Below.refl _ _).grown hg1 (Nat.le_refl _) (fun k hk => by simp [Value.ownBlock] at hk)
  obtain ⟨v2, W2, hrun2, ho2, hg2, _⟩ := append_rb ho1 (hr.below hb1) c (by omega) hb1.size
  obtain ⟨A2, c2, rfl, hh, h1, _, h3⟩ := own_has ho2
  refine ⟨A1, c1, W1, A2, c2, W2, hrun1, hrun2, hh, h1, h3, hb1.grown hg2 hb1.size fun k hk => ?_⟩
  rcases ho1.2 with ⟨h, _⟩ | ⟨q, cap, cur, e, hq, _⟩
  · cases h; simp [Value.ownBlock] at hk
  · rw [e] at hk
    simp only [Value.ownBlock, Option.some.injEq] at hk
    omega
end Go.Proofs.Ytmpkgnmijnjddaa
