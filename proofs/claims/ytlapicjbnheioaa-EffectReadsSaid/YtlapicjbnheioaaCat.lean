/- What is handed to the library's Concat: rows of whatever structs that lie somewhere, side by side. -/
import Derived.Test.YtlapicjbnheioaaEnc
set_option maxRecDepth 4000
namespace Go.Proofs.Ytlapicjbnheioaa
open Go.RowKit
section
variable {α : Type} {E : Enc α} {T : TypeId}
/-- a part of what Concat is handed -/
def PartE (E : Enc α) (w : World) (p : Value × List α) : Prop := ∃ A c K, p.1 = .slice A p.2.length c ∧ Lst w K E A p.2
theorem PartE.below {w w' : World} {p : Value × List α} (h : PartE E w p) (k : Below w.heap.size w w') : PartE E w' p := by
  obtain ⟨A, c, K, e, hr⟩ := h
  exact ⟨A, c, K, e, hr.below k⟩
def flatE : List (Value × List α) → List α
  | [] => []
  | p :: r => p.2 ++ flatE r
theorem flatE_append (l m : List (Value × List α)) : flatE (l ++ m) = flatE l ++ flatE m := by
  induction l with
  | nil => rfl
  | cons x r ih => simp [flatE, ih]
theorem flatE_succ {l : List (Value × List α)} {j : Nat} (h : j < l.length) : flatE (l.take (j + 1)) = flatE (l.take j) ++ l[j].2 := by
  rw [List.take_succ_eq_append_getElem h, flatE_append]
  simp [flatE]
theorem flatE_le (l : List (Value × List α)) (j : Nat) : (flatE (l.take j)).length ≤ (flatE l).length := by
  conv => rhs; rw [← List.take_append_drop j l, flatE_append, List.length_append]
  omega
def SumE (ps : List (Value × List α)) (k : Nat) (sz i : Value) : Prop := ∃ j, j + k = ps.length ∧ sz = .int .i64 ((flatE (ps.take j)).length : Int) ∧ i = .int .i64 (j : Int)
def CatE (E : Enc α) (T : TypeId) (w : World) (ps : List (Value × List α)) (k : Nat) (v i : Value) (wr : World) : Prop :=
  ∃ j, j + k = ps.length ∧ i = .int .i64 (j : Int) ∧ Own wr w.heap.size E T v (flatE (ps.take j)) ∧ Below w.heap.size w wr
/-- these values lie from o on in block b -/
def ValE (w : World) (b o : Nat) (ps : List (Value × List α)) : Prop := b < w.heap.size ∧ ∀ j (h : j < ps.length), w.cell? ⟨b, o + j, none⟩ = some ps[j].1
theorem ValE.below {w w' : World} {b o : Nat} {ps : List (Value × List α)} (h : ValE w b o ps) (k : Below w.heap.size w w') : ValE w' b o ps :=
  ⟨Nat.lt_of_lt_of_le h.1 k.size, fun j hj => (cell_of_heap (k.block b h.1) _).trans (h.2 j hj)⟩
theorem blk_cellsE {w : World} {g : Nat} {t : TypeId} {cs : Array Value} (h : Blk w g t cs) {ps : List (Value × List α)} (hp : cs.toList = ps.map (·.1)) : ValE w g 0 ps :=
  ⟨h.lt, fun j hj => by
    rw [h.cell, Nat.zero_add, ← Array.getElem?_toList, hp, List.getElem?_map, List.getElem?_eq_getElem hj]; rfl⟩
/-- one struct in a block of its own -/
theorem one_lst (E : Enc α) (w : World) (T : TypeId) (x : α) {cs : Array Value} (h : cs.toList = E.enc x) : Lst (w.alloc (.cells cs T)) (fun i => w.heap.size ≤ i) E (some ⟨w.heap.size, 0, none⟩) [x] := fun _ =>
  ⟨_, 0, rfl, Nat.le_refl _, by simp, fun j u hu => by
    rw [(Blk.new w T _).cell, Nat.zero_add, ← Array.getElem?_toList, h]
    simpa [cellsE] using hu⟩
end
end Go.Proofs.Ytlapicjbnheioaa
