/- What the reading of a slice of truths gives. -/
import Derived.Test.YtobbopakdaoemaaHeld
import Derived.Test.YtobbopakdaoemaaEnc
import Derived.Deep.Slices
import Derived.ChangeArms
set_option maxRecDepth 4000
namespace Go.Proofs.Ytobbopakdaoemaa
open Go.ChangeShapes Go.WideShapes Go.ChangeAt Go.RowKit Go.Deep
def eB : Enc Bool := ⟨fun c => [.bool c], 1, by omega, fun _ => rfl, fun _ v hv => by simp at hv; subst hv; rfl⟩
theorem Lst.atB {w : World} {K : Nat → Prop} {A : Option Addr} {l : List Bool} (h : Lst w K eB A l) {j : Nat} (hj : j < l.length) :
    ∃ b o, A = some ⟨b, o, none⟩ ∧ K b ∧ b < w.heap.size ∧ w.cell? ⟨b, o + j, none⟩ = some (.bool l[j]) := by
  obtain ⟨b, o, e, hk, hl, hc⟩ := h (by omega)
  refine ⟨b, o, e, hk, hl, ?_⟩
  have := cellsE_at eB hj (i := 0) (v := .bool l[j]) rfl
  rw [show eB.k = 1 from rfl, Nat.mul_one, Nat.add_zero] at this
  exact hc j _ this
/-- the handed slice of address A and length n holds these truths -/
def Bools (w : World) (A : Option Addr) (n : Nat) (xs : List Bool) : Prop := xs.length = n ∧ Lst w (fun _ => True) eB A xs
theorem Bools.below {w w' : World} {A : Option Addr} {n : Nat} {xs : List Bool} (h : Bools w A n xs) (k : Below w.heap.size w w') : Bools w' A n xs := ⟨h.1, h.2.below k⟩
section
variable {H : Type} {enc : TypeId × Value → H} {w : World} {base b0 : Nat} {spare : Nat → Bool} {held : Bool} {r : Reach} {v : Value} {d : DataW H} {p : List MemPlace}
theorem cells_bool3 : Try.prog.cellsOf 4 = 1 := by kernel_rfl
theorem open_bools (hv : Value.okWide Try.prog w r b0 32 v) (h : DataW.Trod enc Try.prog w base spare held 32 v d p) :
    ∃ A n c xs, v = .slice A n c ∧ Bools w A n xs := by
  obtain ⟨a1, len, cap, rfl⟩ := okWide_slice Try.underlying32 hv
  obtain ⟨fuel, hf⟩ := h
  rcases open_slice Try.underlying32 hf with ⟨hcs, _⟩ | ⟨a, len', cap', m, n, D, Pl, hcs, _, hl, hm, hmm, _, hx⟩
  · simp [Value.cells] at hcs
    obtain ⟨rfl, rfl, rfl⟩ := hcs
    exact ⟨none, 0, 0, [], rfl, rfl, Lst.nil _ _ _ _⟩
  · simp [Value.cells] at hcs
    obtain ⟨rfl, rfl, rfl⟩ := hcs
    have hlm : len ≤ m := by rw [hmm]; split <;> omega
    have key : ∀ i, ∃ s : Bool, i < len → w.cell? (a.add i) = some (.bool s) := fun i => by
      by_cases hi : i < len
      · obtain ⟨cs, h1, h2⟩ := hx i (by omega)
        rw [cells_bool3] at h1
        obtain ⟨_, hlen, hat⟩ := World.cells?_some h1
        obtain ⟨s, e, _⟩ := DataW.trod_bool Try.underlying4 h2
        subst e
        have a0 := hat 0 (by omega)
        rw [Go.Deep.add_add, Nat.add_zero, Nat.mul_one] at a0
        exact ⟨s, fun _ => a0⟩
      · exact ⟨false, fun h => absurd h hi⟩
    obtain ⟨f, hfun⟩ := Classical.axiomOfChoice key
    refine ⟨some a, len, cap, (List.range len).map f, rfl, by simp, fun h0 => ?_⟩
    obtain ⟨ab, ao, spot⟩ := a
    have hl0 : 0 < len := by simpa using h0
    have hc0 := hfun 0 hl0
    have hspot : spot = none := by simpa [Addr.add] using World.cell?_spot hc0
    subst hspot
    have hbl : ab < w.heap.size := by simpa [Addr.add] using block_of_cell hc0
    refine ⟨ab, ao, rfl, trivial, hbl, fun z u hz => ?_⟩
    have hzl := (List.getElem?_eq_some_iff.1 hz).1
    rw [cellsE_length, show eB.k = 1 from rfl, Nat.mul_one] at hzl
    have hj : z < len := by simpa using hzl
    have hfj : ((List.range len).map f)[z] = f z := by simp
    have hc := cellsE_at eB hzl (i := 0) (v := .bool (f z)) (by rw [hfj]; rfl)
    rw [show eB.k = 1 from rfl, Nat.mul_one, Nat.add_zero, hz] at hc
    injection hc with hc
    rw [hc, ← hfun z hj, add_none]
end
end Go.Proofs.Ytobbopakdaoemaa
