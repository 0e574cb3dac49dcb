/- What the reading of a slice of calls of a lock gives. -/
import Derived.Test.YtillbjaejdkfdaaDoorHeld
import Derived.Test.YtillbjaejdkfdaaDoorGrR
import Derived.Deep.Slices
import Derived.ChangeArms
set_option maxRecDepth 4000
namespace Go.Proofs.YtillbjaejdkfdaaDoor
open Go.ChangeShapes Go.WideShapes Go.ChangeAt Go.RowKit Go.Deep
abbrev Ac3 := Int × Int × Int
def eA : Enc Ac3 := ⟨fun c => [.int .i64 c.1, .int .i64 c.2.1, .int .i64 c.2.2], 3, by omega, fun _ => rfl, fun _ v hv => by simp at hv; rcases hv with rfl | rfl | rfl <;> rfl⟩
theorem Lst.atA {w : World} {K : Nat → Prop} {A : Option Addr} {l : List Ac3} (h : Lst w K eA A l) {j : Nat} (hj : j < l.length) :
    ∃ b o, A = some ⟨b, o, none⟩ ∧ b < w.heap.size ∧ w.cell? ⟨b, o + j * 3, none⟩ = some (.int .i64 l[j].1) ∧ w.cell? ⟨b, o + j * 3 + 1, none⟩ = some (.int .i64 l[j].2.1) ∧ w.cell? ⟨b, o + j * 3 + 2, none⟩ = some (.int .i64 l[j].2.2) := by
  obtain ⟨b, o, e, hl, hc⟩ := h.at_ hj
  exact ⟨b, o, e, hl, hc 0 _ rfl, hc 1 _ rfl, hc 2 _ rfl⟩
/-- the handed slice of address A and length n holds these calls -/
def Acts (w : World) (A : Option Addr) (n : Nat) (xs : List Ac3) : Prop := xs.length = n ∧ Lst w (fun _ => True) eA A xs
theorem Acts.below {w w' : World} {A : Option Addr} {n : Nat} {xs : List Ac3} (h : Acts w A n xs) (k : Below w.heap.size w w') : Acts w' A n xs := ⟨h.1, h.2.below k⟩
section
variable {H : Type} {enc : TypeId × Value → H} {w : World} {base b0 : Nat} {spare : Nat → Bool} {held : Bool} {r : Reach} {v : Value} {d : DataW H} {p : List MemPlace}
theorem cells_act3 : Tryd.prog.cellsOf 33 = 3 := by kernel_rfl
theorem cells_int3 : Tryd.prog.cellsOf 3 = 1 := by kernel_rfl
theorem trod_act3 {fuel : Nat} {cs : List Value} {x : DataW H × List MemPlace} (hl : cs.length = 3) (h : DataW.trod enc Tryd.prog w base spare held fuel 33 cs = some x) :
    ∃ s : Ac3, cs = [.int .i64 s.1, .int .i64 s.2.1, .int .i64 s.2.2] := by
  obtain ⟨ys, n', _, _, _, hys, hg⟩ := DataW.trod_struct Tryd.underlying33 h
  match cs, hl with
  | [c0, c1, c2], _ =>
    have y0 : ys[0]? = some (ys[0]'(by rw [hys]; decide)) := List.getElem?_eq_getElem _
    have y1 : ys[1]? = some (ys[1]'(by rw [hys]; decide)) := List.getElem?_eq_getElem _
    have y2 : ys[2]? = some (ys[2]'(by rw [hys]; decide)) := List.getElem?_eq_getElem _
    obtain ⟨z0, e0, _, _⟩ := DataW.trod_int Tryd.underlying3 ((hg 0 _ rfl).trans y0)
    obtain ⟨z1, e1, _, _⟩ := DataW.trod_int Tryd.underlying3 ((hg 1 _ rfl).trans y1)
    obtain ⟨z2, e2, _, _⟩ := DataW.trod_int Tryd.underlying3 ((hg 2 _ rfl).trans y2)
    simp [cells_int3] at e0 e1 e2
    exact ⟨(z0, z1, z2), by rw [e0, e1, e2]⟩
theorem open_acts3 (hv : Value.okWide Tryd.prog w r b0 22 v) (h : DataW.Trod enc Tryd.prog w base spare held 22 v d p) :
    ∃ A n c xs, v = .slice A n c ∧ Acts w A n xs := by
  obtain ⟨a1, len, cap, rfl⟩ := okWide_slice Tryd.underlying22 hv
  obtain ⟨fuel, hf⟩ := h
  rcases open_slice Tryd.underlying22 hf with ⟨hcs, _⟩ | ⟨a, len', cap', m, n, D, Pl, hcs, _, hl, hm, hmm, _, hx⟩
  · simp [Value.cells] at hcs
    obtain ⟨rfl, rfl, rfl⟩ := hcs
    exact ⟨none, 0, 0, [], rfl, rfl, Lst.nil _ _ _ _⟩
  · simp [Value.cells] at hcs
    obtain ⟨rfl, rfl, rfl⟩ := hcs
    have hlm : len ≤ m := by rw [hmm]; split <;> omega
    have key : ∀ i, ∃ s : Ac3, i < len → (w.cell? (a.add (i * 3)) = some (.int .i64 s.1) ∧ w.cell? (a.add (i * 3 + 1)) = some (.int .i64 s.2.1) ∧ w.cell? (a.add (i * 3 + 2)) = some (.int .i64 s.2.2)) := fun i => by
      by_cases hi : i < len
      · obtain ⟨cs, h1, h2⟩ := hx i (by omega)
        rw [cells_act3] at h1
        obtain ⟨_, hlen, hat⟩ := World.cells?_some h1
        obtain ⟨s, e⟩ := trod_act3 hlen h2
        subst e
        have a0 := hat 0 (by omega)
        have a1 := hat 1 (by omega)
        have a2 := hat 2 (by omega)
        rw [Go.Deep.add_add] at a0 a1 a2
        exact ⟨s, fun _ => ⟨by rw [Nat.add_zero] at a0; exact a0, a1, a2⟩⟩
      · exact ⟨(0, 0, 0), fun h => absurd h hi⟩
    obtain ⟨f, hfun⟩ := Classical.axiomOfChoice key
    refine ⟨some a, len, cap, (List.range len).map f, rfl, by simp, fun h0 => ?_⟩
    obtain ⟨ab, ao, spot⟩ := a
    have hl0 : 0 < len := by simpa using h0
    have hc0 := (hfun 0 hl0).1
    have hspot : spot = none := by simpa [Addr.add] using World.cell?_spot hc0
    subst hspot
    have hbl : ab < w.heap.size := by simpa [Addr.add] using block_of_cell hc0
    refine ⟨ab, ao, rfl, trivial, hbl, fun z u hz => ?_⟩
    have hzl := (List.getElem?_eq_some_iff.1 hz).1
    rw [cellsE_length] at hzl
    have hk : eA.k = 3 := rfl
    have hlen : ((List.range len).map f).length = len := by simp
    rw [hlen, hk] at hzl
    have hj : z / 3 < len := by omega
    have hj2 : z / 3 < ((List.range len).map f).length := by rw [hlen]; exact hj
    have hfj : ((List.range len).map f)[z / 3] = f (z / 3) := by simp
    have hzz : z = z / 3 * 3 + z % 3 := by omega
    obtain ⟨q0, q1, q2⟩ := hfun (z / 3) hj
    rw [add_none] at q0 q1 q2
    have hr : z % 3 = 0 ∨ z % 3 = 1 ∨ z % 3 = 2 := by omega
    rcases hr with hr | hr | hr
    · have hc := cellsE_at eA hj2 (i := 0) (v := .int .i64 (f (z / 3)).1) (by rw [hfj]; rfl)
      rw [hk, Nat.add_zero, show z / 3 * 3 = z by omega, hz] at hc
      injection hc with hc
      rw [hc, ← q0]
      congr 2; omega
    · have hc := cellsE_at eA hj2 (i := 1) (v := .int .i64 (f (z / 3)).2.1) (by rw [hfj]; rfl)
      rw [hk, show z / 3 * 3 + 1 = z by omega, hz] at hc
      injection hc with hc
      rw [hc, ← q1]
      congr 2; omega
    · have hc := cellsE_at eA hj2 (i := 2) (v := .int .i64 (f (z / 3)).2.2) (by rw [hfj]; rfl)
      rw [hk, show z / 3 * 3 + 2 = z by omega, hz] at hc
      injection hc with hc
      rw [hc, ← q2]
      congr 2; omega
end
end Go.Proofs.YtillbjaejdkfdaaDoor
