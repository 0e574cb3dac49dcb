/- What the reading of a row of a key and a value gives. -/
import Derived.Test.YtahfjdilfnjppaaHeld
import Derived.Test.YtahfjdilfnjppaaRowP
import Derived.Deep.Slices
import Derived.ChangeArms
set_option maxRecDepth 4000
namespace Go.Proofs.Ytahfjdilfnjppaa
open Go.ChangeShapes Go.WideShapes Go.ChangeAt Go.RowKit Go.Deep
section
variable {H : Type} {enc : TypeId × Value → H} {w : World} {base b0 : Nat} {spare : Nat → Bool} {held : Bool} {r : Reach} {v : Value} {d : DataW H} {p : List MemPlace}
theorem cells_row : Try.prog.cellsOf 31 = 2 := by kernel_rfl
theorem cells_string : Try.prog.cellsOf 9 = 1 := by kernel_rfl
theorem trod_row {fuel : Nat} {cs : List Value} {x : DataW H × List MemPlace} (hl : cs.length = 2) (h : DataW.trod enc Try.prog w base spare held fuel 31 cs = some x) :
    ∃ s : Rw, cs = [.string s.1, .string s.2] ∧ s.1.size ≤ maxLen ∧ s.2.size ≤ maxLen := by
  obtain ⟨ys, n', _, _, _, hys, hg⟩ := DataW.trod_struct Try.underlying31 h
  match cs, hl with
  | [c0, c1], _ =>
    have y0 : ys[0]? = some (ys[0]'(by rw [hys]; decide)) := List.getElem?_eq_getElem _
    have y1 : ys[1]? = some (ys[1]'(by rw [hys]; decide)) := List.getElem?_eq_getElem _
    obtain ⟨z0, e0, _, wf0⟩ := DataW.trod_string Try.underlying9 ((hg 0 _ rfl).trans y0)
    obtain ⟨z1, e1, _, wf1⟩ := DataW.trod_string Try.underlying9 ((hg 1 _ rfl).trans y1)
    simp [cells_string] at e0 e1
    exact ⟨(z0, z1), by rw [e0, e1], wf0, wf1⟩
end
end Go.Proofs.Ytahfjdilfnjppaa
