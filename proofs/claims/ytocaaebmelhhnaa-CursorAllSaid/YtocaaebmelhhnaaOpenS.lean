/- What the reading of a slice of rows of keys and values gives, where no text that is read is longer than the form's own reach. -/
import Derived.Test.YtocaaebmelhhnaaOpenR
import Derived.SizedLaws
set_option maxRecDepth 4000
namespace Go.Proofs.Ytocaaebmelhhnaa
open Go.ChangeShapes Go.WideShapes Go.ChangeAt Go.RowKit Go.Deep
theorem weightsAll_mem {H : Type} {P : Program} {e : TypeId} {d : DataW H} {n : Nat} (hn : n ∈ d.weights P e) : ∀ {l : List (DataW H)}, d ∈ l → n ∈ DataW.weightsAll P e l
  | x :: r, h => by
    rw [DataW.weightsAll, List.mem_append]
    rcases List.mem_cons.1 h with rfl | h
    · exact .inl hn
    · exact .inr (weightsAll_mem hn h)
section
variable {H : Type} {enc : TypeId × Value → H} {w : World} {base b0 : Nat} {spare : Nat → Bool} {held : Bool} {r : Reach} {v : Value} {d : DataW H} {p : List MemPlace}
theorem trod_row_sized {fuel : Nat} {cs : List Value} {x : DataW H × List MemPlace} (hl : cs.length = 2) (h : DataW.trod enc Try.prog w base spare held fuel 29 cs = some x) :
    ∃ s : Rw, cs = [.string s.1, .string s.2] ∧ s.1.size ∈ x.1.weights Try.prog 29 := by
  obtain ⟨ys, n', _, rfl, _, hys, hg⟩ := DataW.trod_struct Try.underlying29 h
  match cs, hl, ys, hys with
  | [c0, c1], _, [y0, y1], _ =>
    obtain ⟨z0, e0, f0, _⟩ := DataW.trod_string Try.underlying9 ((hg 0 _ rfl).trans (show [y0, y1][0]? = some y0 from rfl))
    obtain ⟨z1, e1, f1, _⟩ := DataW.trod_string Try.underlying9 ((hg 1 _ rfl).trans (show [y0, y1][1]? = some y1 from rfl))
    simp [cells_string] at e0 e1
    subst f0
    refine ⟨(z0, z1), by rw [e0, e1], ?_⟩
    simp only [DataW.weights, Try.underlying29]
    show z0.size ∈ DataW.weightsEach Try.prog (9 :: [9]) (DataW.lit (Lit.string z0.data.toList) :: [y1.1])
    simp only [DataW.weightsEach, DataW.weights, List.mem_append, List.mem_singleton, Array.length_toList]
    exact .inl rfl
theorem open_rows_sized (hv : Value.okWide Try.prog w r b0 22 v) (h : DataW.Trod enc Try.prog w base spare held 22 v d p) (hz : ∀ n ∈ d.weights Try.prog 22, n ≤ reachBytes) :
    ∃ A n c xs, v = .slice A n c ∧ Rws w (fun i => i < w.heap.size) A xs ∧ xs.length = n ∧ ∀ s ∈ xs, s.1.size < maxLen := by
  obtain ⟨A, n, c, xs, rfl, h1, h2, _⟩ := open_rows hv h
  refine ⟨A, n, c, xs, rfl, h1, h2, fun s hs => ?_⟩
  obtain ⟨fuel, hf⟩ := h
  obtain ⟨j, hj, rfl⟩ := List.getElem_of_mem hs
  rcases open_slice Try.underlying22 hf with ⟨hcs, _⟩ | ⟨a, len', cap', m, n', D, Pl, hcs, _, hle, hm, hmm, hx, hat⟩
  · simp [Value.cells] at hcs
    obtain ⟨rfl, rfl, rfl⟩ := hcs
    omega
  · simp [Value.cells] at hcs
    obtain ⟨rfl, rfl, rfl⟩ := hcs
    have hlm : n ≤ m := by rw [hmm]; split <;> omega
    obtain ⟨cs, k1, k2⟩ := hat j (by omega)
    rw [cells_row] at k1
    obtain ⟨_, hlen, hcell⟩ := World.cells?_some k1
    obtain ⟨s, e, wf⟩ := trod_row_sized hlen k2
    have hd := congrArg Prod.fst hx
    simp only at hd wf
    have a0 := hcell 0 (by omega)
    rw [Go.Deep.add_add] at a0
    subst e
    obtain ⟨b, o, e2, c1, _⟩ := h1.at_ hj
    cases e2
    rw [add_none, Nat.add_zero, c1] at a0
    have e3 : xs[j].1 = s.1 := by simpa using a0
    have hmem : D j ∈ (List.range n).map D := List.mem_map.2 ⟨j, List.mem_range.2 (by omega), rfl⟩
    have hin : s.1.size ∈ d.weights Try.prog 22 := by
      rw [hd]
      simp only [DataW.weights, Try.underlying22]
      exact List.mem_cons_of_mem _ (List.mem_append_left _ (weightsAll_mem wf hmem))
    have h3 := hz _ hin
    rw [e3]
    have := reachBytes_lt
    unfold maxLen
    omega
end
end Go.Proofs.Ytocaaebmelhhnaa
