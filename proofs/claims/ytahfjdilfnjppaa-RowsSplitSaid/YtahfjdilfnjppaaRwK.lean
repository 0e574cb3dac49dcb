/- Rows of keys and values that lie somewhere, by text ..Enc. -/
import Derived.Test.YtahfjdilfnjppaaEnc
import Derived.Test.YtahfjdilfnjppaaRowP
set_option maxRecDepth 4000
namespace Go.Proofs.Ytahfjdilfnjppaa
open Go.RowKit
def eR : Enc Rw := ⟨fun r => [.string r.1, .string r.2], 2, by omega, fun _ => rfl, fun _ v hv => by simp at hv; rcases hv with rfl | rfl <;> rfl⟩
theorem Lst.atR {w : World} {K : Nat → Prop} {A : Option Addr} {l : List Rw} (h : Lst w K eR A l) {j : Nat} (hj : j < l.length) :
    ∃ b o, A = some ⟨b, o, none⟩ ∧ b < w.heap.size ∧ w.cell? ⟨b, o + j * 2, none⟩ = some (.string l[j].1) ∧ w.cell? ⟨b, o + j * 2 + 1, none⟩ = some (.string l[j].2) := by
  obtain ⟨b, o, e, hl, hc⟩ := h.at_ hj
  exact ⟨b, o, e, hl, hc 0 _ rfl, hc 1 _ rfl⟩
theorem tyR : RowTy eR 31 22 := ⟨Try.underlying22, .agg #[.string ⟨#[]⟩, .string ⟨#[]⟩], 32, by kernel_rfl, rfl, by omega⟩
abbrev OwnR (w : World) (base : Nat) (v : Value) (l : List Rw) : Prop := Own w base eR 31 v l
end Go.Proofs.Ytahfjdilfnjppaa
