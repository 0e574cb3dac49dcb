/- The two sets of words for rows of keys and values are one. -/
import Derived.Test.YtahfjdilfnjppaaRwK
import Derived.Test.YtahfjdilfnjppaaRowM
set_option maxRecDepth 4000
namespace Go.Proofs.Ytahfjdilfnjppaa
open Go.RowKit
theorem cellsR_E (l : List Rw) : cellsR l = cellsE eR l := by
  induction l with
  | nil => rfl
  | cons x r ih => rw [cellsR, cellsE, ih]; rfl
section
variable {w : World} {K : Nat → Prop} {A : Option Addr} {l : List Rw}
theorem Rws.lst (h : Rws w K A l) : Lst w K eR A l := fun h0 => by
  obtain ⟨b, o, e, hk, hl, hc⟩ := h h0
  exact ⟨b, o, e, hk, hl, fun j u hu => hc j u (by rw [cellsR_E]; exact hu)⟩
theorem Lst.rws (h : Lst w K eR A l) : Rws w K A l := fun h0 => by
  obtain ⟨b, o, e, hk, hl, hc⟩ := h h0
  exact ⟨b, o, e, hk, hl, fun j u hu => hc j u (by rw [← cellsR_E]; exact hu)⟩
end
end Go.Proofs.Ytahfjdilfnjppaa
