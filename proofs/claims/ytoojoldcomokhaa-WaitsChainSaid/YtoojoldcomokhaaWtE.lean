/- Edges in memory: some more behind those of the call's own; one cut out. -/
import Derived.Test.YtoojoldcomokhaaWtL
set_option maxRecDepth 4000
namespace Go.Proofs.Ytoojoldcomokhaa
open Go.RowKit
theorem elemE : Try.prog.elem 22 = 30 := by simp [Program.elem, Try.underlying22]
theorem sizeE : ∀ w, (Go.sizeOf 30).run Try.prog w = .ok 2 w := Try.sizeOf30
/-- some edges more behind a row of the call's own -/
theorem append_edges {w W : World} {base : Nat} {v : Value} {l : List (Int × Int)} (ho : Own W base eE 30 v l) (hb : base ≤ W.heap.size) (hn : l.length ≤ 100000) (k : Below base w W) (es : List (Int × Int)) {m : Nat} (hm : es.length = m) (hm1 : m ≤ 10) {cs : Array Value} (hc : cs = (cellsE eE es).toArray) :
    ∃ v' W', (Builtin.append_ #[22, 22] 22 #[v, .slice (some ⟨W.heap.size, 0, none⟩) m m]).run Try.prog (W.alloc (.cells cs 30)) = .ok v' W' ∧ Own W' base eE 30 v' (l ++ es) ∧ Below base w W' := by
  have hal := alloc_below W (.cells cs 30)
  have ho2 := own_keep (W' := W.alloc (.cells cs 30)) ho fun g hg => hal.block g (own_blk ho hg).2.1
  obtain ⟨v', W', hap, ho', hg', _⟩ := append_own tyE ho2 (lst_new W es hc) hm m (by omega) (Nat.le_trans hb hal.size)
  exact ⟨v', W', hap, ho', (k.trans (hal.mono hb)).grown hg' (Nat.le_trans hb hal.size) (fun g hg => (own_blk ho2 hg).1)⟩
/-- the head of a slice, with no room behind it -/
theorem head_full (A : Option Addr) (l c q : Nat) (h : q ≤ c) (W : World) : (Instr.slice 22 (.slice A l c) none (some (.int .i64 (q : Int))) (some (.int .i64 (q : Int)))).run Try.prog W = .ok (.slice A q q) W := by
  rw [run_slice_hm W 22 _ _ _ (by rw [elemE]; exact Try.underlying22) .i64 .i64 _ _ (by omega) (by omega) (by omega), elemE, sizeE]
  simp [Result.andThen, sliced]
  cases A <;> simp [Addr.add]
theorem tail_edges {w : World} {K : Nat → Prop} {A : Option Addr} {l : List (Int × Int)} {n c : Nat} (h : Lst w K eE A l) (hl : l.length = n) (hc : n ≤ c) {q m : Nat} (hq : q ≤ n) (hm : n - q = m) :
    ∃ A', (∀ W, (Instr.slice 22 (.slice A n c) (some (.int .i64 (q : Int))) none none).run Try.prog W = .ok (.slice A' m (c - q)) W) ∧ Lst w K eE A' (l.drop q) := by
  subst hl hm
  refine ⟨_, fun W => ?_, h.drop (k := q) hc⟩
  rw [run_slice_l W 22 _ _ _ (by rw [elemE]; exact Try.underlying22) .i64 _ (by omega) (by omega), elemE, sizeE]
  rfl
/-- edges behind a slice with no room behind it: in a row of their own, where there are some -/
theorem append_full {W : World} {K K' : Nat → Prop} {a : Addr} {A' : Option Addr} {l1 l2 : List (Int × Int)} {q m c : Nat} (h1 : Lst W K eE (some a) l1) (hq : l1.length = q) (h2 : Lst W K' eE A' l2) (hm : l2.length = m) (hmax : q + m ≤ 100000) :
    ∃ B c' W', (Builtin.append_ #[22, 22] 22 #[.slice (some a) q q, .slice A' m c]).run Try.prog W = .ok (.slice B (q + m) c') W' ∧ Lst W' (fun _ => True) eE B (l1 ++ l2) ∧ Below W.heap.size W W' := by
  obtain ⟨i0, hi, hz0, hz1, hz2⟩ := info_parts (show (Try.prog.info? 30).map (fun i => (i.zero, i.size, i.bytes)) = some (some (.agg #[.int .i64 0, .int .i64 0]), 2, 16) by kernel_rfl)
  subst hq hm
  rcases Nat.eq_zero_or_pos l2.length with h0 | h0
  · have hl2 : l2 = [] := List.eq_nil_of_length_eq_zero h0
    subst hl2
    refine ⟨some a, l1.length, W, ?_, by rw [List.append_nil]; exact h1.more fun _ _ _ => trivial, Below.refl _ _⟩
    rcases A' with _ | a'
    · simp [Builtin.append_, run_underlying Try.underlying22, Go.sizeOf, typeInfo, hi, Builtin.lenOf, Builtin.firstCells, storeCells]
    · simp [Builtin.append_, run_underlying Try.underlying22, Go.sizeOf, typeInfo, hi, Builtin.lenOf, Builtin.firstCells, storeCells, loadCells, loadCellsFrom]
  · have cellsA : ∀ {a : Addr} {l : List (Int × Int)} {K : Nat → Prop}, Lst W K eE (some a) l → ∀ j u, (cellsE eE l)[j]? = some u → W.cell? (a.add j) = some u := fun {a l K} h j u hu => by
      have hj := (List.getElem?_eq_some_iff.1 hu).1
      rw [cellsE_length] at hj
      have hx : 0 < l.length := by
        rcases Nat.eq_zero_or_pos l.length with h0 | h0
        · rw [h0] at hj; omega
        · exact h0
      obtain ⟨b, o, e, _, _, hcell⟩ := h hx
      injection e with e
      subst e
      rw [add_none]
      exact hcell j u hu
    obtain ⟨b', o', rfl, _⟩ := h2 h0
    have hr := run_append_grow (P := Try.prog) W 22 22 30 i0 (.agg #[.int .i64 0, .int .i64 0]) Try.underlying22 hi hz0 a l1.length l1.length (cellsE eE l1) (by rw [cellsE_length, hz1]; rfl) (cellsA h1) ⟨b', o', none⟩ l2.length c (cellsE eE l2) (by rw [cellsE_length, hz1]; rfl) (cellsA h2) (by omega) (by omega)
      (growslice_fits (by omega) (by rw [hz2]; omega))
    refine ⟨_, _, _, hr, fun _ => ⟨_, 0, rfl, trivial, by simp, fun j u hu => ?_⟩, (Below.refl W.heap.size W).drew.alloc (Nat.le_refl _) _⟩
    rw [cellsE_append] at hu
    have hj := (List.getElem?_eq_some_iff.1 hu).1
    rw [Nat.zero_add, show (⟨W.heap.size, j, none⟩ : Addr) = ⟨W.drew.heap.size, j, none⟩ from rfl, (Blk.new W.drew 30 _).cell, Array.getElem?_append_left (by simpa using hj)]
    simpa using hu
end Go.Proofs.Ytoojoldcomokhaa
