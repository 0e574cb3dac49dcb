/- What the reading of a slice of bytes gives. -/
import Derived.Test.YtfccghbhkgnmlaaHeld
import Derived.Test.YtfccghbhkgnmlaaSpanM
import Derived.Deep.Slices
import Derived.ChangeArms
namespace Go.Proofs.Ytfccghbhkgnmlaa
open Go.ChangeShapes Go.WideShapes Go.ChangeAt Go.RowKit Go.Deep

theorem block_of_cell {w : World} {a : Addr} {v : Value} (h : w.cell? a = some v) : a.block < w.heap.size := by
  rcases Nat.lt_or_ge a.block w.heap.size with hlt | hge
  · exact hlt
  · simp [World.cell?, Array.getElem?_eq_none hge] at h
theorem cells5 : Try.prog.cellsOf 5 = 1 := by kernel_rfl
section
variable {H : Type} {enc : TypeId × Value → H} {w : World} {base b0 : Nat} {spare : Nat → Bool} {held : Bool} {r : Reach} {v : Value} {d : DataW H} {p : List MemPlace}
theorem open_bytes (hv : Value.okWide Try.prog w r b0 22 v) (h : DataW.Trod enc Try.prog w base spare held 22 v d p) :
    ∃ A c xs, v = .slice A xs.length c ∧ Has w (fun i => i < w.heap.size) A xs ∧ xs.length ≤ c ∧ c ≤ maxLen ∧ (A = none → c = 0) := by
  obtain ⟨a1, len, cap, rfl⟩ := okWide_slice Try.underlying22 hv
  obtain ⟨fuel, hf⟩ := h
  rcases open_slice1 Try.underlying22 cells5 hf with ⟨hcs, _⟩ | ⟨a, len', cap', m, n, V, D, Pl, hcs, _, hl, hm, hmm, _, hx⟩
  · simp [Value.cells] at hcs
    obtain ⟨rfl, rfl, rfl⟩ := hcs
    exact ⟨none, 0, [], rfl, Has.nil _ _ _, Nat.le_refl _, by unfold maxLen; omega, fun _ => rfl⟩
  · simp [Value.cells] at hcs
    obtain ⟨rfl, rfl, rfl⟩ := hcs
    have hlm : len ≤ m := by rw [hmm]; split <;> omega
    have key : ∀ i, ∃ x : UInt8, i < len → w.cell? (a.add i) = some (u8 x) := fun i => by
      by_cases hi : i < len
      · obtain ⟨h1, h2⟩ := hx i (by omega)
        obtain ⟨z, hz, _, hwf⟩ := DataW.trod_int Try.underlying5 h2
        simp only [List.cons.injEq, and_true] at hz
        simp [Lit.wf, IntKind.min, IntKind.max, IntKind.signed, IntKind.bits] at hwf
        refine ⟨UInt8.ofNat z.toNat, fun _ => ?_⟩
        rw [h1, hz]
        have : ((UInt8.ofNat z.toNat).toNat : Int) = z := by simp; omega
        unfold u8
        rw [this]
      · exact ⟨0, fun h => absurd h hi⟩
    obtain ⟨f, hfun⟩ := Classical.axiomOfChoice key
    refine ⟨some a, cap, (List.range len).map f, by simp, fun h0 => ?_, by simpa using hl, hm, fun h => by cases h⟩
    obtain ⟨ab, ao, spot⟩ := a
    have hc0 := hfun 0 (by simpa using h0)
    have hspot : spot = none := by simpa [Addr.add] using World.cell?_spot hc0
    subst hspot
    have hlt : ab < w.heap.size := by simpa [Addr.add] using block_of_cell hc0
    refine ⟨ab, ao, rfl, hlt, hlt, fun j u hju => ?_⟩
    have hj : j < len := by have := (List.getElem?_eq_some_iff.1 hju).1; simpa [cellsB] using this
    have := hfun j hj
    rw [Addr.add_mid] at this
    rw [this]
    simp [cellsB, hj] at hju
    rw [hju]
end
end Go.Proofs.Ytfccghbhkgnmlaa
