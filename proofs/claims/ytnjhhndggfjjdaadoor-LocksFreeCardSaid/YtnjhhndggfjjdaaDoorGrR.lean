/- Rows of claims and of holds that lie somewhere: text ..Enc's words at the two. -/
import Derived.Test.YtnjhhndggfjjdaaDoorEnc
import Derived.Test.YtnjhhndggfjjdaaDoorGrP
set_option maxRecDepth 4000
namespace Go.Proofs.YtnjhhndggfjjdaaDoor
open Go.RowKit
def eC : Enc Cl := ⟨fun c => [.int .i64 c.1, .int .i64 (c.2 : Int)], 2, by omega, fun _ => rfl, fun _ v hv => by simp at hv; rcases hv with rfl | rfl <;> rfl⟩
def eH : Enc Ho := ⟨fun c => [.int .i64 c.1, .int .i64 (c.2.1 : Int), .int .i64 (c.2.2 : Int)], 3, by omega, fun _ => rfl, fun _ v hv => by simp at hv; rcases hv with rfl | rfl | rfl <;> rfl⟩
theorem Lst.atC {w : World} {K : Nat → Prop} {A : Option Addr} {l : List Cl} (h : Lst w K eC A l) {j : Nat} (hj : j < l.length) :
    ∃ b o, A = some ⟨b, o, none⟩ ∧ b < w.heap.size ∧ w.cell? ⟨b, o + j * 2, none⟩ = some (.int .i64 l[j].1) ∧ w.cell? ⟨b, o + j * 2 + 1, none⟩ = some (.int .i64 (l[j].2 : Int)) := by
  obtain ⟨b, o, e, hl, hc⟩ := h.at_ hj
  exact ⟨b, o, e, hl, hc 0 _ rfl, hc 1 _ rfl⟩
theorem Lst.atH {w : World} {K : Nat → Prop} {A : Option Addr} {l : List Ho} (h : Lst w K eH A l) {j : Nat} (hj : j < l.length) :
    ∃ b o, A = some ⟨b, o, none⟩ ∧ b < w.heap.size ∧ w.cell? ⟨b, o + j * 3, none⟩ = some (.int .i64 l[j].1) ∧ w.cell? ⟨b, o + j * 3 + 1, none⟩ = some (.int .i64 (l[j].2.1 : Int)) ∧ w.cell? ⟨b, o + j * 3 + 2, none⟩ = some (.int .i64 (l[j].2.2 : Int)) := by
  obtain ⟨b, o, e, hl, hc⟩ := h.at_ hj
  exact ⟨b, o, e, hl, hc 0 _ rfl, hc 1 _ rfl, hc 2 _ rfl⟩
theorem tyC : RowTy eC 78 58 := ⟨Tryd.underlying58, .agg #[.int .i64 0, .int .i64 0], 16, by kernel_rfl, rfl, by omega⟩
theorem tyH : RowTy eH 53 64 := ⟨Tryd.underlying64, .agg #[.int .i64 0, .int .i64 0, .int .i64 0], 24, by kernel_rfl, rfl, by omega⟩
end Go.Proofs.YtnjhhndggfjjdaaDoor
