/- Rows of changes that lie somewhere: text ..Enc's words at them. -/
import Derived.Test.YtlapicjbnheioaaEnc
import Derived.Test.YtlapicjbnheioaaEf
set_option maxRecDepth 4000
namespace Go.Proofs.Ytlapicjbnheioaa
open Go.RowKit
def eE : Enc Ef := ⟨fun e => [.int .i64 e.kind, .string e.obj, .string e.key, .string e.val, .int .i64 e.n, .int .i64 e.limit, .bool e.tried, .int .i64 e.msg.id, .int .i64 e.msg.pri, .int .i64 e.msg.retry, .bool e.msg.claimed, .string e.msg.corr, .string e.msg.body], 13, by omega, fun _ => rfl,
  fun _ v hv => by simp at hv; rcases hv with rfl | rfl | rfl | rfl | rfl | rfl | rfl | rfl | rfl | rfl | rfl | rfl | rfl <;> rfl⟩
theorem tyE : RowTy eE 29 22 := ⟨Try.underlying22, Ef.zero.val_, 144, by kernel_rfl, rfl, by omega⟩
abbrev OwnE (w : World) (base : Nat) (v : Value) (l : List Ef) : Prop := Own w base eE 29 v l
/-- thirteen cells from here on hold this change -/
abbrev Cells13 (b o : Nat) (e : Ef) (w : World) : Prop :=
  w.cell? ⟨b, o, none⟩ = some (.int .i64 e.kind) ∧ w.cell? ⟨b, o + 1, none⟩ = some (.string e.obj) ∧ w.cell? ⟨b, o + 2, none⟩ = some (.string e.key) ∧ w.cell? ⟨b, o + 3, none⟩ = some (.string e.val) ∧ w.cell? ⟨b, o + 4, none⟩ = some (.int .i64 e.n) ∧
  w.cell? ⟨b, o + 5, none⟩ = some (.int .i64 e.limit) ∧ w.cell? ⟨b, o + 6, none⟩ = some (.bool e.tried) ∧ w.cell? ⟨b, o + 7, none⟩ = some (.int .i64 e.msg.id) ∧ w.cell? ⟨b, o + 8, none⟩ = some (.int .i64 e.msg.pri) ∧ w.cell? ⟨b, o + 9, none⟩ = some (.int .i64 e.msg.retry) ∧
  w.cell? ⟨b, o + 10, none⟩ = some (.bool e.msg.claimed) ∧ w.cell? ⟨b, o + 11, none⟩ = some (.string e.msg.corr) ∧ w.cell? ⟨b, o + 12, none⟩ = some (.string e.msg.body)
theorem Lst.atE {w : World} {K : Nat → Prop} {A : Option Addr} {l : List Ef} (h : Lst w K eE A l) {j : Nat} (hj : j < l.length) :
    ∃ b o, A = some ⟨b, o, none⟩ ∧ b < w.heap.size ∧ Cells13 b (o + j * 13) l[j] w := by
  obtain ⟨b, o, e, hl, hc⟩ := h.at_ hj
  exact ⟨b, o, e, hl, hc 0 _ rfl, hc 1 _ rfl, hc 2 _ rfl, hc 3 _ rfl, hc 4 _ rfl, hc 5 _ rfl, hc 6 _ rfl, hc 7 _ rfl, hc 8 _ rfl, hc 9 _ rfl, hc 10 _ rfl, hc 11 _ rfl, hc 12 _ rfl⟩
theorem Lst.atEs {w : World} {K : Nat → Prop} {b o : Nat} {l : List Ef} (h : Lst w K eE (some ⟨b, o, none⟩) l) {j : Nat} (hj : j < l.length) : b < w.heap.size ∧ Cells13 b (o + j * 13) l[j] w := by
  obtain ⟨b', o', e, hl, hc⟩ := h.atE hj
  injection e with e
  injection e with e1 e2
  subst e1 e2
  exact ⟨hl, hc⟩
/-- a block of its own holds this change -/
abbrev Thir (g : Nat) (e : Ef) (w : World) : Prop :=
  w.cell? ⟨g, 0, none⟩ = some (.int .i64 e.kind) ∧ w.cell? ⟨g, 1, none⟩ = some (.string e.obj) ∧ w.cell? ⟨g, 2, none⟩ = some (.string e.key) ∧ w.cell? ⟨g, 3, none⟩ = some (.string e.val) ∧ w.cell? ⟨g, 4, none⟩ = some (.int .i64 e.n) ∧
  w.cell? ⟨g, 5, none⟩ = some (.int .i64 e.limit) ∧ w.cell? ⟨g, 6, none⟩ = some (.bool e.tried) ∧ w.cell? ⟨g, 7, none⟩ = some (.int .i64 e.msg.id) ∧ w.cell? ⟨g, 8, none⟩ = some (.int .i64 e.msg.pri) ∧ w.cell? ⟨g, 9, none⟩ = some (.int .i64 e.msg.retry) ∧
  w.cell? ⟨g, 10, none⟩ = some (.bool e.msg.claimed) ∧ w.cell? ⟨g, 11, none⟩ = some (.string e.msg.corr) ∧ w.cell? ⟨g, 12, none⟩ = some (.string e.msg.body)
theorem thir_of {w : World} {g : Nat} {e : Ef} (h : Blk w g 29 e.cells) : Thir g e w := ⟨h.cell 0, h.cell 1, h.cell 2, h.cell 3, h.cell 4, h.cell 5, h.cell 6, h.cell 7, h.cell 8, h.cell 9, h.cell 10, h.cell 11, h.cell 12⟩
end Go.Proofs.Ytlapicjbnheioaa
