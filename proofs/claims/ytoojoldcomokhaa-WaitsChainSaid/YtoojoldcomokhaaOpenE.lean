/- What the reading of a slice of edges, and of a slice of numbers, gives. -/
import Derived.Test.YtoojoldcomokhaaHeld
import Derived.Test.YtoojoldcomokhaaWtA
import Derived.Deep.Slices
import Derived.ChangeArms
set_option maxRecDepth 4000
namespace Go.Proofs.Ytoojoldcomokhaa
open Go.ChangeShapes Go.WideShapes Go.ChangeAt Go.RowKit Go.Deep
section
variable {H : Type} {enc : TypeId × Value → H} {w : World} {base b0 : Nat} {spare : Nat → Bool} {held : Bool} {r : Go.Reach} {v : Value} {d : DataW H} {p : List MemPlace}
theorem cells_edge : Try.prog.cellsOf 30 = 2 := by kernel_rfl
theorem cells_int : Try.prog.cellsOf 3 = 1 := by kernel_rfl
theorem trod_edge {fuel : Nat} {cs : List Value} {x : DataW H × List MemPlace} (hl : cs.length = 2) (h : DataW.trod enc Try.prog w base spare held fuel 30 cs = some x) :
    ∃ s : Int × Int, cs = [.int .i64 s.1, .int .i64 s.2] ∧ Wf s.1 ∧ Wf s.2 := by
  obtain ⟨ys, n', _, _, _, hys, hg⟩ := DataW.trod_array Try.underlying30 h
  match cs, hl with
  | [c0, c1], _ =>
    have y0 : ys[0]? = some (ys[0]'(by rw [hys]; decide)) := List.getElem?_eq_getElem _
    have y1 : ys[1]? = some (ys[1]'(by rw [hys]; decide)) := List.getElem?_eq_getElem _
    obtain ⟨z0, e0, _, f0⟩ := DataW.trod_int Try.underlying3 ((hg 0 (by decide)).trans y0)
    obtain ⟨z1, e1, _, f1⟩ := DataW.trod_int Try.underlying3 ((hg 1 (by decide)).trans y1)
    simp [cells_int] at e0 e1
    exact ⟨(z0, z1), by rw [e0, e1], f0, f1⟩
theorem open_edges (hv : Value.okWide Try.prog w r b0 22 v) (h : DataW.Trod enc Try.prog w base spare held 22 v d p) :
    ∃ A n c xs, v = .slice A n c ∧ xs.length = n ∧ Lst w (fun _ => True) eE A xs ∧ ∀ e ∈ xs, Wf e.1 ∧ Wf e.2 := by
  obtain ⟨a1, len, cap, rfl⟩ := okWide_slice Try.underlying22 hv
  obtain ⟨fuel, hf⟩ := h
  rcases open_slice Try.underlying22 hf with ⟨hcs, _⟩ | ⟨a, len', cap', m, n, D, Pl, hcs, _, hl, hm, hmm, _, hx⟩
  · simp [Value.cells] at hcs
    obtain ⟨rfl, rfl, rfl⟩ := hcs
    exact ⟨none, 0, 0, [], rfl, rfl, Lst.nil _ _ _ _, fun _ h => (by cases h)⟩
  · simp [Value.cells] at hcs
    obtain ⟨rfl, rfl, rfl⟩ := hcs
    have hlm : len ≤ m := by rw [hmm]; split <;> omega
    have key : ∀ i, ∃ s : Int × Int, i < len → (w.cell? (a.add (i * 2)) = some (.int .i64 s.1) ∧ w.cell? (a.add (i * 2 + 1)) = some (.int .i64 s.2) ∧ Wf s.1 ∧ Wf s.2) := fun i => by
      by_cases hi : i < len
      · obtain ⟨cs, h1, h2⟩ := hx i (by omega)
        rw [cells_edge] at h1
        obtain ⟨_, hlen, hat⟩ := World.cells?_some h1
        obtain ⟨s, e, f0, f1⟩ := trod_edge hlen h2
        subst e
        have a0 := hat 0 (by omega)
        have a1 := hat 1 (by omega)
        rw [Go.Deep.add_add] at a0 a1
        exact ⟨s, fun _ => ⟨by rw [Nat.add_zero] at a0; exact a0, a1, f0, f1⟩⟩
      · exact ⟨(0, 0), fun h => absurd h hi⟩
    obtain ⟨f, hfun⟩ := Classical.axiomOfChoice key
    refine ⟨some a, len, cap, (List.range len).map f, rfl, by simp, fun h0 => ?_, fun e he => ?_⟩
    · obtain ⟨ab, ao, spot⟩ := a
      have hl0 : 0 < len := by simpa using h0
      have hc0 := (hfun 0 hl0).1
      have hspot : spot = none := by simpa [Addr.add] using World.cell?_spot hc0
      subst hspot
      have hbl : ab < w.heap.size := by simpa [Addr.add] using block_of_cell hc0
      refine ⟨ab, ao, rfl, trivial, hbl, fun z u hz => ?_⟩
      have hzl := (List.getElem?_eq_some_iff.1 hz).1
      rw [cellsE_length] at hzl
      have hk : eE.k = 2 := rfl
      have hlen : ((List.range len).map f).length = len := by simp
      rw [hlen, hk] at hzl
      have hj : z / 2 < len := by omega
      have hj2 : z / 2 < ((List.range len).map f).length := by rw [hlen]; exact hj
      have hfj : ((List.range len).map f)[z / 2] = f (z / 2) := by simp
      obtain ⟨q0, q1, _⟩ := hfun (z / 2) hj
      rw [add_none] at q0 q1
      have hr : z % 2 = 0 ∨ z % 2 = 1 := by omega
      rcases hr with hr | hr
      · have hc := cellsE_at eE hj2 (i := 0) (v := .int .i64 (f (z / 2)).1) (by rw [hfj]; rfl)
        rw [hk, Nat.add_zero, show z / 2 * 2 = z by omega, hz] at hc
        injection hc with hc
        rw [hc, ← q0]
        congr 2; omega
      · have hc := cellsE_at eE hj2 (i := 1) (v := .int .i64 (f (z / 2)).2) (by rw [hfj]; rfl)
        rw [hk, show z / 2 * 2 + 1 = z by omega, hz] at hc
        injection hc with hc
        rw [hc, ← q1]
        congr 2; omega
    · obtain ⟨i, hi, rfl⟩ := List.mem_map.1 he
      exact (hfun i (List.mem_range.1 hi)).2.2
/-- a slice of numbers as an argument -/
theorem open_nums_lst (hv : Value.okWide Try.prog w r b0 27 v) (h : DataW.Trod enc Try.prog w base spare held 27 v d p) :
    ∃ A n c zs, v = .slice A n c ∧ zs.length = n ∧ Lst w (fun _ => True) eI A zs := by
  obtain ⟨a1, len, cap, rfl⟩ := okWide_slice Try.underlying27 hv
  obtain ⟨fuel, hf⟩ := h
  rcases open_slice1 Try.underlying27 cells_int hf with ⟨hcs, _⟩ | ⟨a, len', cap', m, n, V, D, Pl, hcs, _, hl, hm, hmm, _, hx⟩
  · simp [Value.cells] at hcs
    obtain ⟨rfl, rfl, rfl⟩ := hcs
    exact ⟨none, 0, 0, [], rfl, rfl, Lst.nil _ _ _ _⟩
  · simp [Value.cells] at hcs
    obtain ⟨rfl, rfl, rfl⟩ := hcs
    have hlm : len ≤ m := by rw [hmm]; split <;> omega
    have key : ∀ i, ∃ x : Int, i < len → w.cell? (a.add i) = some (.int .i64 x) := fun i => by
      by_cases hi : i < len
      · obtain ⟨h1, h2⟩ := hx i (by omega)
        obtain ⟨z, hz, _, _⟩ := DataW.trod_int Try.underlying3 h2
        simp only [List.cons.injEq, and_true] at hz
        exact ⟨z, fun _ => by rw [h1, hz]⟩
      · exact ⟨0, fun h => absurd h hi⟩
    obtain ⟨f, hfun⟩ := Classical.axiomOfChoice key
    refine ⟨some a, len, cap, (List.range len).map f, rfl, by simp, fun h0 => ?_⟩
    obtain ⟨ab, ao, spot⟩ := a
    have hl0 : 0 < len := by simpa using h0
    have hc0 := hfun 0 hl0
    have hspot : spot = none := by simpa [Addr.add] using World.cell?_spot hc0
    subst hspot
    have hbl : ab < w.heap.size := by simpa [Addr.add] using block_of_cell hc0
    refine ⟨ab, ao, rfl, trivial, hbl, fun j u hj => ?_⟩
    have hjl := (List.getElem?_eq_some_iff.1 hj).1
    rw [cellsE_length] at hjl
    have hjl2 : j < len := by simpa [eI] using hjl
    have hq := hfun j hjl2
    rw [Addr.add_mid] at hq
    have hc := cellsE_at eI (l := (List.range len).map f) (j := j) (by simpa using hjl2) (i := 0) (v := .int .i64 (f j)) (by simp [eI])
    have hk : eI.k = 1 := rfl
    rw [hk, Nat.mul_one, Nat.add_zero, hj] at hc
    injection hc with hc
    rw [hc, hq]
end
end Go.Proofs.Ytoojoldcomokhaa
