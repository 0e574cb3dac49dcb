/- Bytes that lie somewhere; what lies in memory when bytes are copied into a sector. -/
import Derived.Test.YteilbaabnhogbaaSpanN
namespace Go.Proofs.Yteilbaabnhogbaa
open Go.RowKit
/-- the slice of address A holds these bytes, in a block of which K says so -/
def Has (w : World) (K : Nat → Prop) (A : Option Addr) (xs : List UInt8) : Prop :=
  0 < xs.length → ∃ b o, A = some ⟨b, o, none⟩ ∧ K b ∧ b < w.heap.size ∧ ∀ j u, (cellsB xs)[j]? = some u → w.cell? ⟨b, o + j, none⟩ = some u
section
variable {w w' : World} {K K' : Nat → Prop} {A : Option Addr} {xs : List UInt8}
theorem Has.keep (h : Has w K A xs) (k : Keep (fun i _ => K i) w w') : Has w' K A xs := fun hn => by
  obtain ⟨b, o, e, hk, hb, hc⟩ := h hn
  have hbl : w'.heap[b]? = w.heap[b]? := by
    rw [Array.getElem?_eq_getElem hb]
    exact k.block b _ (Array.getElem?_eq_getElem hb) hk
  exact ⟨b, o, e, hk, Nat.lt_of_lt_of_le hb k.size, fun j u hu => (cell_of_heap hbl _).trans (hc j u hu)⟩
theorem Has.below (h : Has w K A xs) (k : Below w.heap.size w w') : Has w' K A xs := h.keep (Keep.of_below k)
theorem Has.more (h : Has w K A xs) (hk : ∀ i, i < w.heap.size → K i → K' i) : Has w K' A xs := fun hn => by
  obtain ⟨b, o, e, hb, hl, hc⟩ := h hn
  exact ⟨b, o, e, hk b hl hb, hl, hc⟩
theorem Has.nil (w : World) (K : Nat → Prop) (A : Option Addr) : Has w K A [] := fun h => absurd h (by simp)
theorem Has.of_blk {b T : Nat} (h : Blk w b T (cellsB xs).toArray) (hk : K b) : Has w K (some ⟨b, 0, none⟩) xs := fun _ =>
  ⟨b, 0, rfl, hk, h.lt, fun j u hu => by rw [h.cell, Nat.zero_add, List.getElem?_toArray]; exact hu⟩
theorem Has.drew (h : Has w K A xs) : Has w.drew K A xs := h
/-- read as a string -/
theorem Has.str (h : Has w K A xs) (c : Nat) : (convert 31 9 (.slice A xs.length c)).run Try.prog w = .ok (.string ⟨xs.toArray⟩) w := by
  cases A with
  | none =>
    have h0 : xs = [] := by
      cases xs with
      | nil => rfl
      | cons x r => obtain ⟨b, o, e, _⟩ := h (by simp); cases e
    subst h0
    rw [run_convert_bytes_string w 31 9 5 none _ c Try.underlying31 Try.underlying5 Try.underlying9]; rfl
  | some a =>
    refine run_convert_bytes_back w 31 9 5 a c xs Try.underlying31 Try.underlying5 Try.underlying9 (fun j hj => ?_)
    obtain ⟨b, o, e, _, _, hc⟩ := h (by omega)
    injection e with e
    subst e
    rw [Addr.add_mid]
    exact hc j _ (by rw [cellsB_get, List.getElem?_eq_getElem hj]; rfl)
end
theorem info64 : (Try.prog.info? 49).map (fun i => (i.zero, i.size, i.bytes)) = some (some (.agg (Array.replicate 64 (.int .u8 0))), 64, 64) := by kernel_rfl
/-- as many bytes as fit are copied -/
theorem copy_some {W : World} {b o n dc m c : Nat} {a : Addr} {xs ys : List UInt8} (hx : xs.length = m) (hr : ∀ j u, (cellsB xs)[j]? = some u → W.cell? (a.add j) = some u) (ht : W.there b o n) (hy : xs.take n = ys) :
    (Builtin.copy_ #[31, 31] 3 #[.slice (some ⟨b, o, none⟩) n dc, .slice (some a) m c]).run Try.prog W = .ok (.int .i64 (ys.length : Int)) (W.setCells b o (cellsB ys)) := by
  have hl : ys.length = min n m := by rw [← hy, List.length_take, hx]
  have := run_copy_cells (P := Try.prog) W 31 31 3 5 b o n dc a m c (cellsB ys) Try.underlying31 size5 (by rw [cellsB_length, hl]; exact Nat.min_comm _ _) (fun j u hu => hr j u (by
      rw [← hy, cellsB_get] at hu
      rw [cellsB_get]
      rw [List.getElem?_take] at hu
      split at hu
      · exact hu
      · cases hu))
    (fun j hj => (ht j (by rw [cellsB_length] at hj; omega)).1) (fun j hj => (ht j (by rw [cellsB_length] at hj; omega)).2) (cellsB_one ys)
  rw [this, cellsB_length]; rfl
/-- a new sector, and what is copied into it -/
theorem sector_copy {w : World} {A : Option Addr} {K : Nat → Prop} {c i : Nat} {xs : List UInt8} (h : Has w K A xs) (hi : i * 64 < xs.length) :
    ∃ b o W2, A = some ⟨b, o, none⟩ ∧
      (Builtin.copy_ #[31, 31] 3 #[.slice (some ⟨w.heap.size, 0, none⟩) 64 64, .slice (some ⟨b, o + i * 64, none⟩) (xs.length - i * 64) (c - i * 64)]).run Try.prog (w.alloc (.cells (cellsB (zeros 64)).toArray 49)).drew = .ok (.int .i64 (((xs.drop (i * 64)).take 64).length : Int)) W2 ∧
      Blk W2 w.heap.size 49 (cellsB (chunk xs i)).toArray ∧ Below w.heap.size w W2 ∧ W2.heap.size = w.heap.size + 1 := by
  obtain ⟨b, o, rfl, _, hbl, hc⟩ := h (by omega)
  have hb := Blk.new w 49 (cellsB (zeros 64)).toArray
  have ht := blk_there hb
  rw [cellsB_length, zeros_length] at ht
  have hbel : Below w.heap.size w (w.alloc (.cells (cellsB (zeros 64)).toArray 49)).drew := ((Below.refl _ _).alloc (Nat.le_refl _) _).drew
  have hcopy := copy_some (W := (w.alloc (.cells (cellsB (zeros 64)).toArray 49)).drew) (b := w.heap.size) (o := 0) (n := 64) (dc := 64) (m := xs.length - i * 64) (c := c - i * 64) (a := ⟨b, o + i * 64, none⟩) (xs := xs.drop (i * 64)) (ys := (xs.drop (i * 64)).take 64) (by simp) (fun j u hu => by
    rw [Addr.add_mid, Nat.add_assoc]
    refine (cell_of_heap (hbel.block b hbl) _).trans (hc _ u ?_)
    rw [cellsB_get] at hu ⊢
    rwa [List.getElem?_drop] at hu) ht rfl
  refine ⟨b, o, _, rfl, hcopy, ?_, ?_, ?_⟩
  · have h64 : ((xs.drop (i * 64)).take 64).length ≤ 64 := by simp; omega
    have e : cellsB (zeros 64) = [] ++ cellsB (zeros ((xs.drop (i * 64)).take 64).length) ++ cellsB (zeros (64 - (xs.drop (i * 64)).length)) := by
      rw [List.nil_append, ← cellsB_append]
      congr 1
      unfold zeros
      rw [List.replicate_append_replicate]
      congr 1
      simp; omega
    have := blk_setCells (g := w.heap.size) (t := 49) (cellsB ((xs.drop (i * 64)).take 64)) [] (cellsB (zeros ((xs.drop (i * 64)).take 64).length)) (cellsB (zeros (64 - (xs.drop (i * 64)).length))) ((w.alloc (.cells (cellsB (zeros 64)).toArray 49)).drew) (by rw [cellsB_length, cellsB_length, zeros_length]) (by rw [← e]; exact hb)
    rw [List.nil_append, ← cellsB_append] at this
    exact this
  · exact below_setCells (Nat.le_refl _) _ _ _ hbel
  · rw [(setCells_plain _ _ _ _).2.2.2]; simp [World.drew]
end Go.Proofs.Yteilbaabnhogbaa
