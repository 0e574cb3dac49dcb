/- All blocks from a number on; bytes read as a string; a row of bools; one operation of a plain region. -/
import Derived.Test.YteilbaabnhogbaaWriteMem
import Derived.Laws.IdiomStrings
import Derived.Deep.LoopGhost
namespace Go.Proofs.Yteilbaabnhogbaa
open Go.RowKit
/-- all blocks from B on -/
abbrev Hi (B : Nat) : Nat → Prop := fun i => B ≤ i
/-- all blocks from B on but b -/
abbrev HiBut (B b : Nat) : Nat → Prop := fun i => B ≤ i ∧ i ≠ b
theorem keep_hi {B : Nat} {w w' : World} (h : Keep (Out (Hi B)) w w') (hB : B ≤ w.heap.size) : Below B w w' := h.below hB fun i _ hi => by simp only [Out, Hi]; omega
theorem below_of_keep {B : Nat} {w w' : World} (h : Keep (fun i _ => i < B) w w') (hB : B ≤ w.heap.size) : Below B w w' := h.below hB fun _ _ hi => hi
theorem keep_lo {B : Nat} {O : Nat → Prop} {w w' : World} (h : Keep (Out O) w w') (hO : ∀ i, O i → B ≤ i) : Keep (fun i _ => i < B) w w' := h.mono fun i _ _ hi ho => by have := hO i ho; omega
theorem alloc_below (w : World) (o : Obj) : Below w.heap.size w (w.alloc o) := (Below.refl _ _).alloc (Nat.le_refl _) _
theorem convert_blk {w : World} {g : Nat} {xs : List UInt8} {n : Nat} (h : Blk w g 5 (cellsB xs).toArray) (hn : xs.length = n) (c : Nat) : (convert 31 9 (.slice (some ⟨g, 0, none⟩) n c)).run Try.prog w = .ok (.string ⟨xs.toArray⟩) w := by
  subst hn
  exact run_convert_bytes_back w 31 9 5 ⟨g, 0, none⟩ c xs Try.underlying31 Try.underlying5 Try.underlying9 (fun j hj => by
    rw [Addr.add_mid, h.cell, Nat.zero_add, List.getElem?_toArray, cellsB_get, List.getElem?_eq_getElem hj]; rfl)
theorem convert_none (w : World) : (convert 31 9 (.slice none 0 0)).run Try.prog w = .ok (.string ⟨#[]⟩) w := by
  rw [run_convert_bytes_string w 31 9 5 none 0 0 Try.underlying31 Try.underlying5 Try.underlying9]; rfl
/-- the slice of address A and length n holds these bools, in a block of which K says so -/
def Bools (w : World) (K : Nat → Prop) (A : Option Addr) (n : Nat) (ks : List Bool) : Prop :=
  ks.length = n ∧ (0 < n → ∃ b o, A = some ⟨b, o, none⟩ ∧ K b ∧ b < w.heap.size ∧ ∀ j x, ks[j]? = some x → w.cell? ⟨b, o + j, none⟩ = some (.bool x))
theorem Bools.keep {w w' : World} {K : Nat → Prop} {A : Option Addr} {n : Nat} {ks : List Bool} (h : Bools w K A n ks) (k : Keep (fun i _ => K i) w w') : Bools w' K A n ks :=
  ⟨h.1, fun hn => by
    obtain ⟨b, o, e, hk, hb, hc⟩ := h.2 hn
    have hbl : w'.heap[b]? = w.heap[b]? := by
      rw [Array.getElem?_eq_getElem hb]
      exact k.block b _ (Array.getElem?_eq_getElem hb) hk
    exact ⟨b, o, e, hk, Nat.lt_of_lt_of_le hb k.size, fun j x hx => (cell_of_heap hbl _).trans (hc j x hx)⟩⟩
theorem Bools.more {w : World} {K K' : Nat → Prop} {A : Option Addr} {n : Nat} {ks : List Bool} (h : Bools w K A n ks) (hk : ∀ i, i < w.heap.size → K i → K' i) : Bools w K' A n ks :=
  ⟨h.1, fun hn => by
    obtain ⟨b, o, e, hb, hl, hc⟩ := h.2 hn
    exact ⟨b, o, e, hk b hl hb, hl, hc⟩⟩
theorem Bools.nil_ (w : World) (K : Nat → Prop) (A : Option Addr) : Bools w K A 0 [] := ⟨rfl, fun h => absurd h (by omega)⟩
/-- does the i-th stay? -/
def stays (ks : List Bool) (i : Nat) : Bool := ks.getD i false
theorem wpList_value {P : Program} {w : World} {ops : Array Oper} {rest : List Oper} {o : Oper} {a : Act} {Q : Exit → Act → World → Prop} (hgd : o.guard = none) {v : Value} {w' : World}
    (hr : (execOp a.eval o).run P w = .ok (.value v) w') (h : wpList P ops Q rest (a.put o.dst v) w') : wpList P ops Q (o :: rest) a w := by
  refine wpList_plain hgd fun K hK => ?_
  unfold Oper.wp
  rw [hr]
  exact hK _ _ h
theorem wpList_skip {P : Program} {w : World} {ops : Array Oper} {rest : List Oper} {o : Oper} {a : Act} {Q : Exit → Act → World → Prop} (hgd : o.guard = none) {w' : World}
    (hr : (execOp a.eval o).run P w = .ok .skip w') (h : wpList P ops Q rest (a.put o.dst undef) w') : wpList P ops Q (o :: rest) a w := by
  refine wpList_plain hgd fun K hK => ?_
  unfold Oper.wp
  rw [hr]
  exact hK _ _ h
theorem DiskAt.drew {w : World} {g : Nat} {O : Nat → Prop} {s : St} (h : DiskAt w g O s) : DiskAt w.drew g O s := h.keep (K := fun _ _ => True) ((Keep.refl w).drew) fun _ _ _ => trivial
end Go.Proofs.Yteilbaabnhogbaa
