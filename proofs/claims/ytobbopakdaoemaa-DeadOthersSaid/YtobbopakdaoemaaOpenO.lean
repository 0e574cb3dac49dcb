/- What the reading of an object gives. -/
import Derived.Test.YtobbopakdaoemaaOpenX
import Derived.Test.YtobbopakdaoemaaOpenG
import Derived.Test.YtobbopakdaoemaaOpenW
set_option maxRecDepth 4000
namespace Go.Proofs.Ytobbopakdaoemaa
open Go.ChangeShapes Go.WideShapes Go.ChangeAt Go.RowKit Go.Deep
section
variable {H : Type} {enc : TypeId × Value → H} {w : World} {base b0 : Nat} {spare : Nat → Bool} {held : Bool} {r : Reach} {v : Value} {d : DataW H} {p : List MemPlace}
theorem trod_rows {fuel : Nat} {cs : List Value} {x : DataW H × List MemPlace} (h : DataW.trod enc Try.prog w base spare held fuel 22 cs = some x) : ∃ v l, cs = [v] ∧ Sl w eR v l ∧ ∀ s ∈ l, s.1.size ≤ maxLen ∧ s.2.size ≤ maxLen :=
  trod_sl eR Try.underlying22 (by kernel_rfl) (fun s : Rw => s.1.size ≤ maxLen ∧ s.2.size ≤ maxLen) (⟨#[]⟩, ⟨#[]⟩) (fun _ _ _ hl h => trod_row hl h) h
theorem trod_msgs {fuel : Nat} {cs : List Value} {x : DataW H × List MemPlace} (h : DataW.trod enc Try.prog w base spare held fuel 23 cs = some x) : ∃ v l, cs = [v] ∧ Sl w eM v l ∧ ∀ m ∈ l, m.fits ∧ m.corr.size ≤ maxLen ∧ m.body.size ≤ maxLen :=
  trod_sl eM Try.underlying23 (by kernel_rfl) (fun m : Mg => m.fits ∧ m.corr.size ≤ maxLen ∧ m.body.size ≤ maxLen) Mg.zero (fun _ _ _ hl h => trod_msg hl h) h
theorem trod_obj {fuel : Nat} {cs : List Value} {x : DataW H × List MemPlace} (hl : cs.length = 6) (h : DataW.trod enc Try.prog w base spare held fuel 25 cs = some x) :
    ∃ (o : Ob) (r m d : Value), cs = (o.cells r m d).toList ∧ ObAt w o r m d ∧ o.fits := by
  obtain ⟨ys, n', _, _, _, hys, hg⟩ := DataW.trod_struct Try.underlying25 h
  have k3 : Try.prog.cellsOf 3 = 1 := by kernel_rfl
  have k9 : Try.prog.cellsOf 9 = 1 := by kernel_rfl
  have kr : Try.prog.cellsOf 22 = 1 := by kernel_rfl
  have km : Try.prog.cellsOf 23 = 1 := by kernel_rfl
  match cs, hl with
  | [c0, c1, c2, c3, c4, c5], _ =>
    have y0 : ys[0]? = some (ys[0]'(by rw [hys]; decide)) := List.getElem?_eq_getElem _
    have y1 : ys[1]? = some (ys[1]'(by rw [hys]; decide)) := List.getElem?_eq_getElem _
    have y2 : ys[2]? = some (ys[2]'(by rw [hys]; decide)) := List.getElem?_eq_getElem _
    have y3 : ys[3]? = some (ys[3]'(by rw [hys]; decide)) := List.getElem?_eq_getElem _
    have y4 : ys[4]? = some (ys[4]'(by rw [hys]; decide)) := List.getElem?_eq_getElem _
    have y5 : ys[5]? = some (ys[5]'(by rw [hys]; decide)) := List.getElem?_eq_getElem _
    obtain ⟨z0, e0, _, wf0⟩ := DataW.trod_string Try.underlying9 ((hg 0 _ rfl).trans y0)
    obtain ⟨z1, e1, _, wf1⟩ := DataW.trod_int Try.underlying3 ((hg 1 _ rfl).trans y1)
    obtain ⟨z2, e2, _, wf2⟩ := DataW.trod_int Try.underlying3 ((hg 2 _ rfl).trans y2)
    obtain ⟨v3, l3, e3, h3, _⟩ := trod_rows ((hg 3 _ rfl).trans y3)
    obtain ⟨v4, l4, e4, h4, f4⟩ := trod_msgs ((hg 4 _ rfl).trans y4)
    obtain ⟨v5, l5, e5, h5, f5⟩ := trod_msgs ((hg 5 _ rfl).trans y5)
    simp [k3, k9, kr, km] at e0 e1 e2 e3 e4 e5
    exact ⟨⟨z0, z1, z2, l3, l4, l5⟩, v3, v4, v5, by rw [e0, e1, e2, e3, e4, e5], ⟨h3, h4, h5⟩, fun m hm => (f4 m hm).1, fun m hm => (f5 m hm).1⟩
theorem open_obj (hv : Value.okWide Try.prog w r b0 25 v) (h : DataW.Trod enc Try.prog w base spare held 25 v d p) :
    ∃ (o : Ob) (r m d : Value), v = o.val r m d ∧ ObAt w o r m d ∧ o.fits := by
  obtain ⟨cs, rfl, hsz⟩ := okWide_struct Try.underlying25 hv
  have hsz' : cs.toList.length = 6 := by rw [Array.length_toList, hsz]; kernel_rfl
  obtain ⟨fuel, hf⟩ := h
  obtain ⟨o, r, m, d, e, h1, h2⟩ := trod_obj (by simpa [Value.cells] using hsz') hf
  refine ⟨o, r, m, d, ?_, h1, h2⟩
  simp only [Value.cells] at e
  obtain rfl : cs = o.cells r m d := Array.ext' e
  rfl
end
end Go.Proofs.Ytobbopakdaoemaa
