/- What the reading of a slice of numbers gives, their ranges with it. -/
import Derived.Test.YtmpkgnmijnjddaaOpens
import Derived.Test.YtmpkgnmijnjddaaLogP
namespace Go.Proofs.Ytmpkgnmijnjddaa
open Go.ChangeShapes Go.WideShapes Go.ChangeAt Go.RowKit Go.Deep
section
variable {H : Type} {enc : TypeId × Value → H} {w : World} {base b0 : Nat} {spare : Nat → Bool} {held : Bool} {r : Reach} {v : Value} {d : DataW H} {p : List MemPlace}
theorem open_numsR (hv : Value.okWide Try.prog w r b0 22 v) (h : DataW.Trod enc Try.prog w base spare held 22 v d p) :
    ∃ A n c zs, v = .slice A n c ∧ Ints w A n zs ∧ (∀ z ∈ zs, i64r z) ∧ n ≤ c ∧ c ≤ maxLen := by
  obtain ⟨a1, len, cap, rfl⟩ := okWide_slice Try.underlying22 hv
  obtain ⟨fuel, hf⟩ := h
  rcases open_slice1 Try.underlying22 cells3 hf with ⟨hcs, _⟩ | ⟨a, len', cap', m, n, V, D, Pl, hcs, _, hl, hm, hmm, _, hx⟩
  · simp [Value.cells] at hcs
    obtain ⟨rfl, rfl, rfl⟩ := hcs
    exact ⟨none, 0, 0, [], rfl, ⟨rfl, fun h => absurd h (by omega)⟩, (fun z hz => by cases hz), Nat.le_refl _, by unfold maxLen; omega⟩
  · simp [Value.cells] at hcs
    obtain ⟨rfl, rfl, rfl⟩ := hcs
    have hlm : len ≤ m := by rw [hmm]; split <;> omega
    have key : ∀ i, ∃ x : Int, i64r x ∧ (i < len → w.cell? (a.add i) = some (.int .i64 x)) := fun i => by
      by_cases hi : i < len
      · obtain ⟨h1, h2⟩ := hx i (by omega)
        obtain ⟨z, hz, _, hwf⟩ := DataW.trod_int Try.underlying3 h2
        simp only [List.cons.injEq, and_true] at hz
        exact ⟨z, ⟨wf_lo hwf, wf_hi hwf⟩, fun _ => by rw [h1, hz]⟩
      · exact ⟨0, ⟨by omega, by omega⟩, fun h => absurd h hi⟩
    obtain ⟨f, hfun⟩ := Classical.axiomOfChoice key
    refine ⟨some a, len, cap, (List.range len).map f, rfl, ⟨by simp, fun h0 => ?_⟩, (fun z hz => by
      obtain ⟨i, _, rfl⟩ := List.mem_map.1 hz
      exact (hfun i).1), hl, hm⟩
    obtain ⟨ab, ao, spot⟩ := a
    have hc0 := (hfun 0).2 h0
    have hspot : spot = none := by simpa [Addr.add] using World.cell?_spot hc0
    subst hspot
    have hbl : ab < w.heap.size := by simpa [Addr.add] using block_of_cell hc0
    refine ⟨ab, ao, rfl, hbl, fun j x hjx => ?_⟩
    have hj : j < len := by have := (List.getElem?_eq_some_iff.1 hjx).1; simpa using this
    have := (hfun j).2 hj
    rw [Addr.add_mid] at this
    rw [this]
    simp [hj] at hjx
    rw [hjx]
end
end Go.Proofs.Ytmpkgnmijnjddaa
