/- What the reading of a message, and of a slice of bytes, gives. -/
import Derived.Test.YtppmpgggjokgdaaHeld
import Derived.Test.YtppmpgggjokgdaaMsM
import Derived.Test.YtppmpgggjokgdaaBMem
import Derived.Deep.Slices
import Derived.ChangeArms
set_option maxRecDepth 4000
namespace Go.Proofs.Ytppmpgggjokgdaa
open Go.ChangeShapes Go.WideShapes Go.ChangeAt Go.RowKit Go.Deep
section
variable {H : Type} {enc : TypeId × Value → H} {w : World} {base b0 : Nat} {spare : Nat → Bool} {held : Bool} {r : Reach} {v : Value} {d : DataW H} {p : List MemPlace}
theorem trod_msg {fuel : Nat} {cs : List Value} {x : DataW H × List MemPlace} (hl : cs.length = 6) (h : DataW.trod enc Try.prog w base spare held fuel 23 cs = some x) :
    ∃ m : Mg, cs = m.cells.toList ∧ m.fits ∧ m.corr.size ≤ maxLen ∧ m.body.size ≤ maxLen := by
  obtain ⟨ys, n', _, _, _, hys, hg⟩ := DataW.trod_struct Try.underlying23 h
  have k3 : Try.prog.cellsOf 3 = 1 := by kernel_rfl
  have k9 : Try.prog.cellsOf 9 = 1 := by kernel_rfl
  have k4 : Try.prog.cellsOf 4 = 1 := by kernel_rfl
  match cs, hl with
  | [c0, c1, c2, c3, c4, c5], _ =>
    have y0 : ys[0]? = some (ys[0]'(by rw [hys]; decide)) := List.getElem?_eq_getElem _
    have y1 : ys[1]? = some (ys[1]'(by rw [hys]; decide)) := List.getElem?_eq_getElem _
    have y2 : ys[2]? = some (ys[2]'(by rw [hys]; decide)) := List.getElem?_eq_getElem _
    have y3 : ys[3]? = some (ys[3]'(by rw [hys]; decide)) := List.getElem?_eq_getElem _
    have y4 : ys[4]? = some (ys[4]'(by rw [hys]; decide)) := List.getElem?_eq_getElem _
    have y5 : ys[5]? = some (ys[5]'(by rw [hys]; decide)) := List.getElem?_eq_getElem _
    obtain ⟨z0, e0, _, wf0⟩ := DataW.trod_int Try.underlying3 ((hg 0 _ rfl).trans y0)
    obtain ⟨z1, e1, _, wf1⟩ := DataW.trod_int Try.underlying3 ((hg 1 _ rfl).trans y1)
    obtain ⟨z2, e2, _, wf2⟩ := DataW.trod_int Try.underlying3 ((hg 2 _ rfl).trans y2)
    obtain ⟨z3, e3, _⟩ := DataW.trod_bool Try.underlying4 ((hg 3 _ rfl).trans y3)
    obtain ⟨z4, e4, _, wf4⟩ := DataW.trod_string Try.underlying9 ((hg 4 _ rfl).trans y4)
    obtain ⟨z5, e5, _, wf5⟩ := DataW.trod_string Try.underlying9 ((hg 5 _ rfl).trans y5)
    simp [k3, k4, k9] at e0 e1 e2 e3 e4 e5
    exact ⟨⟨z0, z1, z2, z3, z4, z5⟩, by rw [e0, e1, e2, e3, e4, e5], ⟨⟨wf_lo wf0, wf_hi wf0⟩, ⟨wf_lo wf1, wf_hi wf1⟩, ⟨wf_lo wf2, wf_hi wf2⟩⟩, wf4, wf5⟩
theorem open_msg (hv : Value.okWide Try.prog w r b0 23 v) (h : DataW.Trod enc Try.prog w base spare held 23 v d p) :
    ∃ m : Mg, v = m.val ∧ m.fits ∧ m.corr.size ≤ maxLen ∧ m.body.size ≤ maxLen := by
  obtain ⟨cs, rfl, hsz⟩ := okWide_struct Try.underlying23 hv
  have hsz' : cs.toList.length = 6 := by rw [Array.length_toList, hsz]; kernel_rfl
  obtain ⟨fuel, hf⟩ := h
  obtain ⟨m, e, h1, h2⟩ := trod_msg (by simpa [Value.cells] using hsz') hf
  refine ⟨m, ?_, h1, h2⟩
  simp only [Value.cells] at e
  obtain rfl : cs = m.cells := Array.ext' e
  rfl
theorem cells_byte : Try.prog.cellsOf 5 = 1 := by kernel_rfl
theorem open_bytes (hv : Value.okWide Try.prog w r b0 28 v) (h : DataW.Trod enc Try.prog w base spare held 28 v d p) :
    ∃ A n c xs, v = .slice A n c ∧ RB w w.heap.size A n xs ∧ n ≤ c ∧ c ≤ maxLen ∧ (A = none → c = 0) := by
  obtain ⟨a1, len, cap, rfl⟩ := okWide_slice Try.underlying28 hv
  obtain ⟨fuel, hf⟩ := h
  rcases open_slice1 Try.underlying28 cells_byte hf with ⟨hcs, _⟩ | ⟨a, len', cap', m, n, V, D, Pl, hcs, _, hl, hm, hmm, _, hx⟩
  · simp [Value.cells] at hcs
    obtain ⟨rfl, rfl, rfl⟩ := hcs
    exact ⟨none, 0, 0, [], rfl, RB.nil_ none, Nat.le_refl _, by unfold maxLen; omega, fun _ => rfl⟩
  · simp [Value.cells] at hcs
    obtain ⟨rfl, rfl, rfl⟩ := hcs
    have hlm : len ≤ m := by rw [hmm]; split <;> omega
    have key : ∀ i, ∃ x : UInt8, i < len → w.cell? (a.add i) = some (u8 x) := fun i => by
      by_cases hi : i < len
      · obtain ⟨h1, h2⟩ := hx i (by omega)
        obtain ⟨z, hz, _, hwf⟩ := DataW.trod_int Try.underlying5 h2
        simp only [List.cons.injEq, and_true] at hz
        simp [Lit.wf, IntKind.min, IntKind.max, IntKind.signed, IntKind.bits] at hwf
        refine ⟨UInt8.ofNat z.toNat, fun _ => ?_⟩
        rw [h1, hz]
        have : ((UInt8.ofNat z.toNat).toNat : Int) = z := by simp; omega
        unfold u8
        rw [this]
      · exact ⟨0, fun h => absurd h hi⟩
    obtain ⟨f, hfun⟩ := Classical.axiomOfChoice key
    refine ⟨some a, len, cap, (List.range len).map f, rfl, ⟨by simp, fun h0 => ?_⟩, hl, hm, fun h => by cases h⟩
    obtain ⟨ab, ao, spot⟩ := a
    have hc0 := hfun 0 h0
    have hspot : spot = none := by simpa [Addr.add] using World.cell?_spot hc0
    subst hspot
    refine ⟨ab, ao, rfl, by simpa [Addr.add] using block_of_cell hc0, fun j x hjx => ?_⟩
    have hj : j < len := by have := (List.getElem?_eq_some_iff.1 hjx).1; simpa using this
    have := hfun j hj
    rw [add_none] at this
    rw [this]
    simp [hj] at hjx
    rw [hjx]
end
end Go.Proofs.Ytppmpgggjokgdaa
