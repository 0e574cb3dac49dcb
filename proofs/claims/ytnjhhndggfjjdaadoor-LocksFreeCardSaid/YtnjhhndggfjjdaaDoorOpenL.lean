/- What the reading of a slice of calls of a table of locks gives. -/
import Derived.Test.YtnjhhndggfjjdaaDoorHeld
import Derived.Test.YtnjhhndggfjjdaaDoorNmP
import Derived.Test.YtnjhhndggfjjdaaDoorEnc
import Derived.Deep.Slices
import Derived.ChangeArms
set_option maxRecDepth 4000
namespace Go.Proofs.YtnjhhndggfjjdaaDoor
open Go.ChangeShapes Go.WideShapes Go.ChangeAt Go.RowKit Go.Deep
/-- a call: way, who, mode, name -/
abbrev Ac6 := Int × Int × Int × Nm
def eA : Enc Ac6 := ⟨fun c => [.int .i64 c.1, .int .i64 c.2.1, .int .i64 c.2.2.1, .int .i64 c.2.2.2.1, .string c.2.2.2.2.1, .string c.2.2.2.2.2], 6, by omega, fun _ => rfl, fun _ v hv => by simp at hv; rcases hv with rfl | rfl | rfl | rfl | rfl | rfl <;> rfl⟩
theorem Lst.atA {w : World} {K : Nat → Prop} {A : Option Addr} {l : List Ac6} (h : Lst w K eA A l) {j : Nat} (hj : j < l.length) :
    ∃ b o, A = some ⟨b, o, none⟩ ∧ b < w.heap.size ∧ w.cell? ⟨b, o + j * 6, none⟩ = some (.int .i64 l[j].1) ∧ w.cell? ⟨b, o + j * 6 + 1, none⟩ = some (.int .i64 l[j].2.1) ∧ w.cell? ⟨b, o + j * 6 + 2, none⟩ = some (.int .i64 l[j].2.2.1) ∧
      w.cell? ⟨b, o + j * 6 + 3, none⟩ = some (.int .i64 l[j].2.2.2.1) ∧ w.cell? ⟨b, o + j * 6 + 4, none⟩ = some (.string l[j].2.2.2.2.1) ∧ w.cell? ⟨b, o + j * 6 + 5, none⟩ = some (.string l[j].2.2.2.2.2) := by
  obtain ⟨b, o, e, hl, hc⟩ := h.at_ hj
  exact ⟨b, o, e, hl, hc 0 _ rfl, hc 1 _ rfl, hc 2 _ rfl, hc 3 _ rfl, hc 4 _ rfl, hc 5 _ rfl⟩
/-- the handed slice of address A and length n holds these calls -/
def Acts (w : World) (A : Option Addr) (n : Nat) (xs : List Ac6) : Prop := xs.length = n ∧ Lst w (fun _ => True) eA A xs
theorem Acts.below {w w' : World} {A : Option Addr} {n : Nat} {xs : List Ac6} (h : Acts w A n xs) (k : Below w.heap.size w w') : Acts w' A n xs := ⟨h.1, h.2.below k⟩
section
variable {H : Type} {enc : TypeId × Value → H} {w : World} {base b0 : Nat} {spare : Nat → Bool} {held : Bool} {r : Reach} {v : Value} {d : DataW H} {p : List MemPlace}
theorem cells_act6 : Tryd.prog.cellsOf 34 = 6 := by kernel_rfl
theorem cells_int6 : Tryd.prog.cellsOf 3 = 1 := by kernel_rfl
theorem cells_str6 : Tryd.prog.cellsOf 9 = 1 := by kernel_rfl
theorem cells_name6 : Tryd.prog.cellsOf 28 = 3 := by kernel_rfl
theorem trod_name {fuel : Nat} {cs : List Value} {x : DataW H × List MemPlace} (hl : cs.length = 3) (h : DataW.trod enc Tryd.prog w base spare held fuel 28 cs = some x) :
    ∃ s : Nm, cs = [.int .i64 s.1, .string s.2.1, .string s.2.2] := by
  obtain ⟨ys, n', _, _, _, hys, hg⟩ := DataW.trod_struct Tryd.underlying28 h
  match cs, hl with
  | [c0, c1, c2], _ =>
    have y0 : ys[0]? = some (ys[0]'(by rw [hys]; decide)) := List.getElem?_eq_getElem _
    have y1 : ys[1]? = some (ys[1]'(by rw [hys]; decide)) := List.getElem?_eq_getElem _
    have y2 : ys[2]? = some (ys[2]'(by rw [hys]; decide)) := List.getElem?_eq_getElem _
    obtain ⟨z0, e0, _, _⟩ := DataW.trod_int Tryd.underlying3 ((hg 0 _ rfl).trans y0)
    obtain ⟨z1, e1, _, _⟩ := DataW.trod_string Tryd.underlying9 ((hg 1 _ rfl).trans y1)
    obtain ⟨z2, e2, _, _⟩ := DataW.trod_string Tryd.underlying9 ((hg 2 _ rfl).trans y2)
    simp [cells_int6, cells_str6] at e0 e1 e2
    exact ⟨(z0, z1, z2), by rw [e0, e1, e2]⟩
theorem trod_act6 {fuel : Nat} {cs : List Value} {x : DataW H × List MemPlace} (hl : cs.length = 6) (h : DataW.trod enc Tryd.prog w base spare held fuel 34 cs = some x) :
    ∃ s : Ac6, cs = [.int .i64 s.1, .int .i64 s.2.1, .int .i64 s.2.2.1, .int .i64 s.2.2.2.1, .string s.2.2.2.2.1, .string s.2.2.2.2.2] := by
  obtain ⟨ys, n', _, _, _, hys, hg⟩ := DataW.trod_struct Tryd.underlying34 h
  match cs, hl with
  | [c0, c1, c2, c3, c4, c5], _ =>
    have y0 : ys[0]? = some (ys[0]'(by rw [hys]; decide)) := List.getElem?_eq_getElem _
    have y1 : ys[1]? = some (ys[1]'(by rw [hys]; decide)) := List.getElem?_eq_getElem _
    have y2 : ys[2]? = some (ys[2]'(by rw [hys]; decide)) := List.getElem?_eq_getElem _
    have y3 : ys[3]? = some (ys[3]'(by rw [hys]; decide)) := List.getElem?_eq_getElem _
    obtain ⟨z0, e0, _, _⟩ := DataW.trod_int Tryd.underlying3 ((hg 0 _ rfl).trans y0)
    obtain ⟨z1, e1, _, _⟩ := DataW.trod_int Tryd.underlying3 ((hg 1 _ rfl).trans y1)
    obtain ⟨z2, e2, _, _⟩ := DataW.trod_int Tryd.underlying3 ((hg 2 _ rfl).trans y2)
    simp [cells_int6] at e0 e1 e2
    have h3 := (hg 3 _ rfl).trans y3
    simp [cells_name6] at h3
    obtain ⟨s, e3⟩ := trod_name rfl h3
    simp only [List.cons.injEq, and_true] at e3
    obtain ⟨rfl, rfl, rfl⟩ := e3
    exact ⟨(z0, z1, z2, s), by rw [e0, e1, e2]⟩
theorem open_acts13 (hv : Value.okWide Tryd.prog w r b0 32 v) (h : DataW.Trod enc Tryd.prog w base spare held 32 v d p) :
    ∃ A n c xs, v = .slice A n c ∧ Acts w A n xs := by
  obtain ⟨a1, len, cap, rfl⟩ := okWide_slice Tryd.underlying32 hv
  obtain ⟨fuel, hf⟩ := h
  rcases open_slice Tryd.underlying32 hf with ⟨hcs, _⟩ | ⟨a, len', cap', m, n, D, Pl, hcs, _, hl, hm, hmm, _, hx⟩
  · simp [Value.cells] at hcs
    obtain ⟨rfl, rfl, rfl⟩ := hcs
    exact ⟨none, 0, 0, [], rfl, rfl, Lst.nil _ _ _ _⟩
  · simp [Value.cells] at hcs
    obtain ⟨rfl, rfl, rfl⟩ := hcs
    have hlm : len ≤ m := by rw [hmm]; split <;> omega
    have key : ∀ i, ∃ s : Ac6, i < len → ∀ (j : Nat) (u : Value), (eA.enc s)[j]? = some u → w.cell? (a.add (i * 6 + j)) = some u := fun i => by
      by_cases hi : i < len
      · obtain ⟨cs, h1, h2⟩ := hx i (by omega)
        rw [cells_act6] at h1
        obtain ⟨_, hlen, hat⟩ := World.cells?_some h1
        obtain ⟨s, e⟩ := trod_act6 hlen h2
        subst e
        refine ⟨s, fun _ j u hu => ?_⟩
        have hj : j < 6 := (List.getElem?_eq_some_iff.1 hu).1
        have a0 := hat j (by simpa using hj)
        rw [Go.Deep.add_add] at a0
        rw [a0]
        exact hu
      · exact ⟨(0, 0, 0, 0, ⟨#[]⟩, ⟨#[]⟩), fun h => absurd h hi⟩
    obtain ⟨f, hfun⟩ := Classical.axiomOfChoice key
    refine ⟨some a, len, cap, (List.range len).map f, rfl, by simp, fun h0 => ?_⟩
    obtain ⟨ab, ao, spot⟩ := a
    have hl0 : 0 < len := by simpa using h0
    have hc0 := hfun 0 hl0 0 _ rfl
    have hspot : spot = none := by simpa [Addr.add] using World.cell?_spot hc0
    subst hspot
    have hbl : ab < w.heap.size := by simpa [Addr.add] using block_of_cell hc0
    refine ⟨ab, ao, rfl, trivial, hbl, fun z u hz => ?_⟩
    have hzl := (List.getElem?_eq_some_iff.1 hz).1
    rw [cellsE_length] at hzl
    have hk : eA.k = 6 := rfl
    have hlen : ((List.range len).map f).length = len := by simp
    rw [hlen, hk] at hzl
    have hj : z / 6 < len := by omega
    have hj2 : z / 6 < ((List.range len).map f).length := by rw [hlen]; exact hj
    have hfj : ((List.range len).map f)[z / 6] = f (z / 6) := by simp
    have hm6 : z % 6 < (eA.enc (f (z / 6))).length := by show z % 6 < 6; omega
    have hc := cellsE_at eA hj2 (i := z % 6) (v := (eA.enc (f (z / 6)))[z % 6]) (by rw [hfj]; exact List.getElem?_eq_getElem hm6)
    rw [hk, show z / 6 * 6 + z % 6 = z by omega, hz] at hc
    injection hc with hc
    have hq := hfun (z / 6) hj (z % 6) _ (List.getElem?_eq_getElem hm6)
    rw [add_none] at hq
    rw [hc, ← hq]
    congr 2; omega
end
end Go.Proofs.YtnjhhndggfjjdaaDoor
