/- What the reading of a slice of bytes gives. -/
import Derived.Test.YtlapicjbnheioaaOpenG
import Derived.Test.YtlapicjbnheioaaMsM
import Derived.Test.YtlapicjbnheioaaBMem
import Derived.Deep.Slices
import Derived.ChangeArms
set_option maxRecDepth 4000
namespace Go.Proofs.Ytlapicjbnheioaa
open Go.ChangeShapes Go.WideShapes Go.ChangeAt Go.RowKit Go.Deep
section
variable {H : Type} {enc : TypeId × Value → H} {w : World} {base b0 : Nat} {spare : Nat → Bool} {held : Bool} {r : Reach} {v : Value} {d : DataW H} {p : List MemPlace}
theorem cells_byte : Try.prog.cellsOf 5 = 1 := by kernel_rfl
theorem open_bytes (hv : Value.okWide Try.prog w r b0 30 v) (h : DataW.Trod enc Try.prog w base spare held 30 v d p) :
    ∃ A n c xs, v = .slice A n c ∧ RB w w.heap.size A n xs ∧ n ≤ c ∧ c ≤ maxLen ∧ (A = none → c = 0) := by
  obtain ⟨a1, len, cap, rfl⟩ := okWide_slice Try.underlying30 hv
  obtain ⟨fuel, hf⟩ := h
  rcases open_slice1 Try.underlying30 cells_byte hf with ⟨hcs, _⟩ | ⟨a, len', cap', m, n, V, D, Pl, hcs, _, hl, hm, hmm, _, hx⟩
  · simp [Value.cells] at hcs
    obtain ⟨rfl, rfl, rfl⟩ := hcs
    exact ⟨none, 0, 0, [], rfl, RB.nil_ none, Nat.le_refl _, by unfold maxLen; omega, fun _ => rfl⟩
  · simp [Value.cells] at hcs
    obtain ⟨rfl, rfl, rfl⟩ := hcs
    have hlm : len ≤ m := by rw [hmm]; split <;> omega
    have key : ∀ i, ∃ x : UInt8, i < len → w.cell? (a.add i) = some (u8 x) := fun i => by
      by_cases hi : i < len
      · obtain ⟨h1, h2⟩ := hx i (by omega)
        obtain ⟨z, hz, _, hwf⟩ := DataW.trod_int Try.underlying5 h2
        simp only [List.cons.injEq, and_true] at hz
        simp [Lit.wf, IntKind.min, IntKind.max, IntKind.signed, IntKind.bits] at hwf
        refine ⟨UInt8.ofNat z.toNat, fun _ => ?_⟩
        rw [h1, hz]
        have : ((UInt8.ofNat z.toNat).toNat : Int) = z := by simp; omega
        unfold u8
        rw [this]
      · exact ⟨0, fun h => absurd h hi⟩
    obtain ⟨f, hfun⟩ := Classical.axiomOfChoice key
    refine ⟨some a, len, cap, (List.range len).map f, rfl, ⟨by simp, fun h0 => ?_⟩, hl, hm, fun h => by cases h⟩
    obtain ⟨ab, ao, spot⟩ := a
    have hc0 := hfun 0 h0
    have hspot : spot = none := by simpa [Addr.add] using World.cell?_spot hc0
    subst hspot
    refine ⟨ab, ao, rfl, by simpa [Addr.add] using block_of_cell hc0, fun j x hjx => ?_⟩
    have hj : j < len := by have := (List.getElem?_eq_some_iff.1 hjx).1; simpa using this
    have := hfun j hj
    rw [add_none] at this
    rw [this]
    simp [hj] at hjx
    rw [hjx]
end
end Go.Proofs.Ytlapicjbnheioaa
