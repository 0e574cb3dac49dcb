/- What the reading of a message gives. -/
import Derived.Test.YtlapicjbnheioaaHeld
import Derived.Test.YtlapicjbnheioaaMg
import Derived.Deep.Slices
import Derived.ChangeArms
set_option maxRecDepth 4000
namespace Go.Proofs.Ytlapicjbnheioaa
open Go.ChangeShapes Go.WideShapes Go.ChangeAt Go.RowKit Go.Deep
section
variable {H : Type} {enc : TypeId × Value → H} {w : World} {base b0 : Nat} {spare : Nat → Bool} {held : Bool} {r : Reach} {v : Value} {d : DataW H} {p : List MemPlace}
theorem trod_msg {fuel : Nat} {cs : List Value} {x : DataW H × List MemPlace} (hl : cs.length = 6) (h : DataW.trod enc Try.prog w base spare held fuel 27 cs = some x) :
    ∃ m : Mg, cs = m.cells.toList ∧ m.fits ∧ m.corr.size ≤ maxLen ∧ m.body.size ≤ maxLen := by
  obtain ⟨ys, n', _, _, _, hys, hg⟩ := DataW.trod_struct Try.underlying27 h
  have k3 : Try.prog.cellsOf 3 = 1 := by kernel_rfl
  have k9 : Try.prog.cellsOf 9 = 1 := by kernel_rfl
  have k4 : Try.prog.cellsOf 4 = 1 := by kernel_rfl
  match cs, hl with
  | [c0, c1, c2, c3, c4, c5], _ =>
    have y0 : ys[0]? = some (ys[0]'(by rw [hys]; decide)) := List.getElem?_eq_getElem _
    have y1 : ys[1]? = some (ys[1]'(by rw [hys]; decide)) := List.getElem?_eq_getElem _
    have y2 : ys[2]? = some (ys[2]'(by rw [hys]; decide)) := List.getElem?_eq_getElem _
    have y3 : ys[3]? = some (ys[3]'(by rw [hys]; decide)) := List.getElem?_eq_getElem _
    have y4 : ys[4]? = some (ys[4]'(by rw [hys]; decide)) := List.getElem?_eq_getElem _
    have y5 : ys[5]? = some (ys[5]'(by rw [hys]; decide)) := List.getElem?_eq_getElem _
    obtain ⟨z0, e0, _, wf0⟩ := DataW.trod_int Try.underlying3 ((hg 0 _ rfl).trans y0)
    obtain ⟨z1, e1, _, wf1⟩ := DataW.trod_int Try.underlying3 ((hg 1 _ rfl).trans y1)
    obtain ⟨z2, e2, _, wf2⟩ := DataW.trod_int Try.underlying3 ((hg 2 _ rfl).trans y2)
    obtain ⟨z3, e3, _⟩ := DataW.trod_bool Try.underlying4 ((hg 3 _ rfl).trans y3)
    obtain ⟨z4, e4, _, wf4⟩ := DataW.trod_string Try.underlying9 ((hg 4 _ rfl).trans y4)
    obtain ⟨z5, e5, _, wf5⟩ := DataW.trod_string Try.underlying9 ((hg 5 _ rfl).trans y5)
    simp [k3, k4, k9] at e0 e1 e2 e3 e4 e5
    exact ⟨⟨z0, z1, z2, z3, z4, z5⟩, by rw [e0, e1, e2, e3, e4, e5], ⟨⟨wf_lo wf0, wf_hi wf0⟩, ⟨wf_lo wf1, wf_hi wf1⟩, ⟨wf_lo wf2, wf_hi wf2⟩⟩, wf4, wf5⟩
theorem open_msg (hv : Value.okWide Try.prog w r b0 27 v) (h : DataW.Trod enc Try.prog w base spare held 27 v d p) :
    ∃ m : Mg, v = m.val ∧ m.fits ∧ m.corr.size ≤ maxLen ∧ m.body.size ≤ maxLen := by
  obtain ⟨cs, rfl, hsz⟩ := okWide_struct Try.underlying27 hv
  have hsz' : cs.toList.length = 6 := by rw [Array.length_toList, hsz]; kernel_rfl
  obtain ⟨fuel, hf⟩ := h
  obtain ⟨m, e, h1, h2⟩ := trod_msg (by simpa [Value.cells] using hsz') hf
  refine ⟨m, ?_, h1, h2⟩
  simp only [Value.cells] at e
  obtain rfl : cs = m.cells := Array.ext' e
  rfl
end
end Go.Proofs.Ytlapicjbnheioaa
