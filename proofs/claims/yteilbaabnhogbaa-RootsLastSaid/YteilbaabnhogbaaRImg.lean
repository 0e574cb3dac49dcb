/- The images of the laws of stage 6, and the rounds that write them. -/
import Derived.Test.YteilbaabnhogbaaRootT
import Derived.Test.YteilbaabnhogbaaOpens
namespace Go.Proofs.Yteilbaabnhogbaa
open Go.RowKit
theorem Ints.at_ {w w' : World} {A : Option Addr} {n : Nat} {zs : List Int} (h : Ints w A n zs) (k : Below w.heap.size w w') {j : Nat} (hj : j < n) : ∃ b o z, A = some ⟨b, o, none⟩ ∧ zs[j]? = some z ∧ w'.cell? ⟨b, o + j, none⟩ = some (.int .i64 z) := by
  obtain ⟨b, o, e, _, hc⟩ := (h.below k).2 (by omega)
  obtain ⟨z, hz⟩ := at_of_lt zs j (by rw [h.1]; exact hj)
  exact ⟨b, o, z, e, hz, hc j z hz⟩
theorem Has.strn {w : World} {K : Nat → Prop} {A : Option Addr} {xs : List UInt8} {n : Nat} (h : Has w K A xs) (hn : xs.length = n) (c : Nat) : (convert 31 9 (.slice A n c)).run Try.prog w = .ok (.string ⟨xs.toArray⟩) w := by
  subst hn; exact h.str c
/-- the image of the j-th epoch -/
def imgOf (zs : List Int) : Nat → List UInt8
  | 0 => []
  | j + 1 => textB (bits .and .i64 (zs.getD j 0) 511) (j + 1)
theorem cutT_and (z : Int) : cutT (bits .and .i64 z 511) ≤ 511 := by
  obtain ⟨m, hm, e⟩ := and511 z
  rw [e]; unfold cutT; omega
theorem imgOf_len (zs : List Int) : ∀ j, (imgOf zs j).length ≤ 511
  | 0 => Nat.zero_le _
  | j + 1 => by rw [imgOf, textB_len]; exact cutT_and _
theorem imgOf_next {zs : List Int} {j : Nat} {z : Int} (h : zs[j]? = some z) : imgOf zs (j + 1) = textB (bits .and .i64 z 511) (j + 1) := by
  rw [imgOf, List.getD_eq_getElem?_getD, h]; rfl
def LRel (w : World) (gd n : Nat) (zs : List Int) (p : Pl) (k : Nat) (i : Value) (wr : World) : Prop :=
  ∃ (j : Nat) (R : Nat → Prop) (s : St), j + k = n ∧ i = .int .i64 (j : Int) ∧ DiskR wr gd R s ∧ Calm p (9 * j) s ∧ Sits p s j (imgOf zs j) ∧ (∀ i, i < w.heap.size → R i) ∧ Below w.heap.size w wr
end Go.Proofs.Yteilbaabnhogbaa
