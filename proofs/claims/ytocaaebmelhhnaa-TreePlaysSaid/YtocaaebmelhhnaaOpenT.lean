/- What the reading of a slice of calls on a tree gives. -/
import Derived.Test.YtocaaebmelhhnaaOpenR
import Derived.Test.YtocaaebmelhhnaaTPlays
set_option maxRecDepth 4000
namespace Go.Proofs.Ytocaaebmelhhnaa
open Go.ChangeShapes Go.WideShapes Go.ChangeAt Go.RowKit Go.Deep
section
variable {H : Type} {enc : TypeId × Value → H} {w : World} {base b0 : Nat} {spare : Nat → Bool} {held : Bool} {r : Reach} {v : Value} {d : DataW H} {p : List MemPlace}
theorem cells_act : Try.prog.cellsOf 35 = 3 := by kernel_rfl
theorem cells_int : Try.prog.cellsOf 3 = 1 := by kernel_rfl
theorem trod_act {fuel : Nat} {cs : List Value} {x : DataW H × List MemPlace} (hl : cs.length = 3) (h : DataW.trod enc Try.prog w base spare held fuel 35 cs = some x) :
    ∃ s : Ac, cs = [.int .i64 s.1, .string s.2.1, .string s.2.2] ∧ s.2.1.size ≤ maxLen := by
  obtain ⟨ys, n', _, _, _, hys, hg⟩ := DataW.trod_struct Try.underlying35 h
  match cs, hl with
  | [c0, c1, c2], _ =>
    have y0 : ys[0]? = some (ys[0]'(by rw [hys]; decide)) := List.getElem?_eq_getElem _
    have y1 : ys[1]? = some (ys[1]'(by rw [hys]; decide)) := List.getElem?_eq_getElem _
    obtain ⟨z0, e0, _, _⟩ := DataW.trod_int Try.underlying3 ((hg 0 _ rfl).trans y0)
    have hr := (hg 1 _ rfl).trans y1
    have hcut : (List.drop 1 [c0, c1, c2]).take (Try.prog.cellsOf 29) = [c1, c2] := by rw [cells_row]; rfl
    obtain ⟨s, e, wf, _⟩ := trod_row (congrArg List.length hcut) hr
    have e' : [c1, c2] = [.string s.1, .string s.2] := hcut.symm.trans e
    simp [cells_int] at e0
    cases e'
    exact ⟨(z0, s), by rw [e0], wf⟩
theorem open_acts (hv : Value.okWide Try.prog w r b0 23 v) (h : DataW.Trod enc Try.prog w base spare held 23 v d p) :
    ∃ A n c xs, v = .slice A n c ∧ Acs w A xs ∧ xs.length = n ∧ ∀ s ∈ xs, s.2.1.size ≤ maxLen := by
  obtain ⟨a1, len, cap, rfl⟩ := okWide_slice Try.underlying23 hv
  obtain ⟨fuel, hf⟩ := h
  rcases open_slice Try.underlying23 hf with ⟨hcs, _⟩ | ⟨a, len', cap', m, n, D, Pl, hcs, _, hl, hm, hmm, _, hx⟩
  · simp [Value.cells] at hcs
    obtain ⟨rfl, rfl, rfl⟩ := hcs
    exact ⟨none, 0, 0, [], rfl, fun h => absurd h (by simp), rfl, fun s hs => by cases hs⟩
  · simp [Value.cells] at hcs
    obtain ⟨rfl, rfl, rfl⟩ := hcs
    have hlm : len ≤ m := by rw [hmm]; split <;> omega
    have key : ∀ i, ∃ s : Ac, i < len → (w.cell? (a.add (i * 3)) = some (.int .i64 s.1) ∧ w.cell? (a.add (i * 3 + 1)) = some (.string s.2.1) ∧ w.cell? (a.add (i * 3 + 2)) = some (.string s.2.2)) ∧ s.2.1.size ≤ maxLen := fun i => by
      by_cases hi : i < len
      · obtain ⟨cs, h1, h2⟩ := hx i (by omega)
        rw [cells_act] at h1
        obtain ⟨_, hlen, hat⟩ := World.cells?_some h1
        obtain ⟨s, e, wf⟩ := trod_act hlen h2
        subst e
        have a0 := hat 0 (by omega)
        have a1 := hat 1 (by omega)
        have a2 := hat 2 (by omega)
        rw [Go.Deep.add_add] at a0 a1 a2
        exact ⟨s, fun _ => ⟨⟨by rw [Nat.add_zero] at a0; exact a0, a1, a2⟩, wf⟩⟩
      · exact ⟨(0, ⟨#[]⟩, ⟨#[]⟩), fun h => absurd h hi⟩
    obtain ⟨f, hfun⟩ := Classical.axiomOfChoice key
    refine ⟨some a, len, cap, (List.range len).map f, rfl, fun h0 => ?_, by simp, fun s hs => ?_⟩
    · obtain ⟨ab, ao, spot⟩ := a
      have hl0 : 0 < len := by simpa using h0
      have hc0 := (hfun 0 hl0).1.1
      have hspot : spot = none := by simpa [Addr.add] using World.cell?_spot hc0
      subst hspot
      have hbl : ab < w.heap.size := by simpa [Addr.add] using block_of_cell hc0
      refine ⟨ab, ao, rfl, hbl, fun j hj => ?_⟩
      have hj2 : j < len := by simpa using hj
      have hfj : ((List.range len).map f)[j] = f j := by simp
      obtain ⟨⟨k0, k1, k2⟩, _⟩ := hfun j hj2
      rw [add_none] at k0 k1 k2
      rw [hfj]
      exact ⟨k0, by rw [Nat.add_assoc]; exact k1, by rw [Nat.add_assoc]; exact k2⟩
    · obtain ⟨i, hi, rfl⟩ := List.mem_map.1 hs
      exact (hfun i (by simpa using hi)).2
end
end Go.Proofs.Ytocaaebmelhhnaa
