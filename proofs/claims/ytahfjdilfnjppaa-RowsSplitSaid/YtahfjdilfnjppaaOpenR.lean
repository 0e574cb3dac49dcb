/- What the reading of a slice of rows of keys and values, and of one such row, gives. -/
import Derived.Test.YtahfjdilfnjppaaOpenW
import Derived.Test.YtahfjdilfnjppaaRowM
import Derived.Deep.Slices
import Derived.ChangeArms
set_option maxRecDepth 4000
namespace Go.Proofs.Ytahfjdilfnjppaa
open Go.ChangeShapes Go.WideShapes Go.ChangeAt Go.RowKit Go.Deep
section
variable {H : Type} {enc : TypeId × Value → H} {w : World} {base b0 : Nat} {spare : Nat → Bool} {held : Bool} {r : Reach} {v : Value} {d : DataW H} {p : List MemPlace}
theorem open_row (hv : Value.okWide Try.prog w r b0 31 v) (h : DataW.Trod enc Try.prog w base spare held 31 v d p) :
    ∃ s : Rw, v = .agg #[.string s.1, .string s.2] ∧ s.1.size ≤ maxLen ∧ s.2.size ≤ maxLen := by
  obtain ⟨cs, rfl, hsz⟩ := okWide_struct Try.underlying31 hv
  have hsz' : cs.toList.length = 2 := by rw [Array.length_toList, hsz]; kernel_rfl
  obtain ⟨fuel, hf⟩ := h
  obtain ⟨s, e, h1, h2⟩ := trod_row (by simpa [Value.cells] using hsz') hf
  refine ⟨s, ?_, h1, h2⟩
  simp [Value.cells] at e
  obtain rfl : cs = #[.string s.1, .string s.2] := Array.ext' e
  rfl
theorem open_rows (hv : Value.okWide Try.prog w r b0 22 v) (h : DataW.Trod enc Try.prog w base spare held 22 v d p) :
    ∃ A n c xs, v = .slice A n c ∧ Rws w (fun i => i < w.heap.size) A xs ∧ xs.length = n ∧ n ≤ c ∧ c ≤ maxLen ∧ (A = none → c = 0) ∧ ∀ s ∈ xs, s.1.size ≤ maxLen ∧ s.2.size ≤ maxLen := by
  obtain ⟨a1, len, cap, rfl⟩ := okWide_slice Try.underlying22 hv
  obtain ⟨fuel, hf⟩ := h
  rcases open_slice Try.underlying22 hf with ⟨hcs, _⟩ | ⟨a, len', cap', m, n, D, Pl, hcs, _, hl, hm, hmm, _, hx⟩
  · simp [Value.cells] at hcs
    obtain ⟨rfl, rfl, rfl⟩ := hcs
    exact ⟨none, 0, 0, [], rfl, Rws.nil _ _ _, rfl, Nat.le_refl _, by unfold maxLen; omega, fun _ => rfl, fun s hs => by cases hs⟩
  · simp [Value.cells] at hcs
    obtain ⟨rfl, rfl, rfl⟩ := hcs
    have hlm : len ≤ m := by rw [hmm]; split <;> omega
    have key : ∀ i, ∃ s : Rw, i < len → (w.cell? (a.add (i * 2)) = some (.string s.1) ∧ w.cell? (a.add (i * 2 + 1)) = some (.string s.2)) ∧ s.1.size ≤ maxLen ∧ s.2.size ≤ maxLen := fun i => by
      by_cases hi : i < len
      · obtain ⟨cs, h1, h2⟩ := hx i (by omega)
        rw [cells_row] at h1
        obtain ⟨_, hlen, hat⟩ := World.cells?_some h1
        obtain ⟨s, e, wf⟩ := trod_row hlen h2
        subst e
        have a0 := hat 0 (by omega)
        have a1 := hat 1 (by omega)
        rw [Go.Deep.add_add] at a0 a1
        exact ⟨s, fun _ => ⟨⟨by rw [Nat.add_zero] at a0; exact a0, a1⟩, wf⟩⟩
      · exact ⟨(⟨#[]⟩, ⟨#[]⟩), fun h => absurd h hi⟩
    obtain ⟨f, hfun⟩ := Classical.axiomOfChoice key
    refine ⟨some a, len, cap, (List.range len).map f, rfl, fun h0 => ?_, by simp, hl, hm, fun h => (by cases h), fun s hs => ?_⟩
    · obtain ⟨ab, ao, spot⟩ := a
      have hl0 : 0 < len := by simpa using h0
      have hc0 := (hfun 0 hl0).1.1
      have hspot : spot = none := by simpa [Addr.add] using World.cell?_spot hc0
      subst hspot
      have hbl : ab < w.heap.size := by simpa [Addr.add] using block_of_cell hc0
      refine ⟨ab, ao, rfl, hbl, hbl, fun j x hjx => ?_⟩
      have hj := (List.getElem?_eq_some_iff.1 hjx).1
      rw [cellsR_length, List.length_map, List.length_range] at hj
      have hij : j / 2 < len := by omega
      obtain ⟨k1, k2⟩ := cellsR_key (l := (List.range len).map f) (j := j / 2) (by simpa using hij)
      obtain ⟨⟨q1, q2⟩, _⟩ := hfun (j / 2) hij
      rw [add_none] at q1 q2
      rcases Nat.mod_two_eq_zero_or_one j with h2 | h2
      · rw [show j / 2 * 2 = j by omega] at k1 q1
        rw [k1] at hjx
        rw [q1, ← hjx]
        simp
      · rw [show j / 2 * 2 + 1 = j by omega] at k2 q2
        rw [k2] at hjx
        rw [q2, ← hjx]
        simp
    · obtain ⟨i, hi, rfl⟩ := List.mem_map.1 hs
      exact (hfun i (by simpa using hi)).2
end
end Go.Proofs.Ytahfjdilfnjppaa
