/- What From answers, and that a loop over it meets a tree's rows from a key on. -/
import Derived.Test.YtocaaebmelhhnaaFromT
set_option maxRecDepth 4000
namespace Go.Proofs.Ytocaaebmelhhnaa
open Go.RowKit
theorem from_ (w : World) (b : Nat) (k : ByteArray) :
    Calls Try.prog 27 #[.pointer (some ⟨b, 0, none⟩), .string k] w fun e w' => e = .returned (.func (.func 33) #[] #[.pointer (some ⟨w.heap.size, 0, none⟩), .pointer (some ⟨w.heap.size + 1, 0, none⟩)]) ∧ (w.alloc (.cells #[.pointer (some ⟨b, 0, none⟩)] 25)).alloc (.cells #[.string k] 9) = w' := by
  go_enter Try.func27, Try.ntmps27
  go_wp2_with fail
  go_ret
  exact ⟨rfl, rfl⟩
/-- a loop over a tree's rows from a key on -/
def Seq (n n₀ : Nat) (B1 B2 : Nat) (xs : List Rw) (w : World) : Prop :=
  SeqStopsK Fence.wide n Try.prog 33 #[.pointer (some ⟨B1, 0, none⟩), .pointer (some ⟨B2, 0, none⟩)] (fun x : Rw => #[.agg #[.string x.1, .string x.2]]) (Below n₀) (fun ys => ys = xs) (fun pre => pre <+: xs) xs.length w
theorem from_stops {w : World} {K : Nat → Prop} {b B1 B2 n₀ : Nat} {T : Te} (a : TeAt w K b T) (ok : OkTe T) (hK : ∀ i, i < w.heap.size → K i → i < n₀) (h0 : n₀ ≤ w.heap.size) {k : ByteArray}
    (c1 : w.cell? ⟨B1, 0, none⟩ = some (.pointer (some ⟨b, 0, none⟩))) (c2 : w.cell? ⟨B2, 0, none⟩ = some (.string k)) (n : Nat) : Seq n n₀ B1 B2 (fromTe T k) w := fun l J Jx W hW hJ _ hY hj => by
  have a2 : TeAt w (fun i => K i ∧ i < n₀) b T := a.more (fun i hi hk => ⟨hk, hK i hi hk⟩) (fun h => a.not h.1)
  have R : Rounds l n₀ (fromTe T k) J Jx := ⟨fun pre A B h hg => hJ pre A B none h hg (fun r e => by cases e), fun m pre x W1 h1 h2 => YieldAt.anyDepth m (hY pre x W1 h1 (by have := h2.length_le; simp at this; omega))⟩
  exact callsIn_wide.2 (iter_ R (a2.below hW) ok (fun i _ hk => hk.2) (Nat.le_trans h0 hW.size) (List.prefix_refl _) ((cell_of_heap (hW.block _ (block_of_cell c1)) _).trans c1) ((cell_of_heap (hW.block _ (block_of_cell c2)) _).trans c2) hj)
/-- the same, where all rows are as P says: what a round is handed is so -/
def SeqP (P : Rw → Prop) (n n₀ : Nat) (B1 B2 : Nat) (xs : List Rw) (w : World) : Prop :=
  SeqStopsK Fence.wide n Try.prog 33 #[.pointer (some ⟨B1, 0, none⟩), .pointer (some ⟨B2, 0, none⟩)] (fun x : { x : Rw // P x } => #[.agg #[.string x.1.1, .string x.1.2]]) (Below n₀) (fun ys => ys.map (·.1) = xs) (fun pre => pre.map (·.1) <+: xs) xs.length w
theorem from_stopsP {P : Rw → Prop} {w : World} {K : Nat → Prop} {b B1 B2 n₀ : Nat} {T : Te} (a : TeAt w K b T) (ok : OkTe T) (hK : ∀ i, i < w.heap.size → K i → i < n₀) (h0 : n₀ ≤ w.heap.size) {k : ByteArray} (hP : ∀ x ∈ fromTe T k, P x)
    (c1 : w.cell? ⟨B1, 0, none⟩ = some (.pointer (some ⟨b, 0, none⟩))) (c2 : w.cell? ⟨B2, 0, none⟩ = some (.string k)) (n : Nat) : SeqP P n n₀ B1 B2 (fromTe T k) w := fun l J Jx W hW hJ _ hY hj => by
  have a2 : TeAt w (fun i => K i ∧ i < n₀) b T := a.more (fun i hi hk => ⟨hk, hK i hi hk⟩) (fun h => a.not h.1)
  have R : Rounds l n₀ (fromTe T k) (fun pre W => ∃ p : List { x : Rw // P x }, p.map (·.1) = pre ∧ J p W) (fun pre W => ∃ p : List { x : Rw // P x }, p.map (·.1) = pre ∧ Jx p W) := by
    refine ⟨fun pre A B ⟨p, e, h⟩ hg => ⟨p, e, hJ p A B none h hg (fun r e => by cases e)⟩, fun m pre x W1 ⟨p, e, h1⟩ h2 => ?_⟩
    have hx : P x := hP x (h2.subset (by simp))
    subst e
    refine YieldAt.anyDepth m (YieldAt.mono (hY p ⟨x, hx⟩ W1 h1 (by have := h2.length_le; simp at this; omega)) ?_)
    rintro e W' (⟨rfl, h3, h4⟩ | ⟨rfl, h3⟩)
    · exact .inl ⟨rfl, ⟨_, by simp, h3⟩, h4⟩
    · exact .inr ⟨rfl, ⟨_, by simp, h3⟩⟩
  have hc := callsIn_wide (n := n).2 (iter_ R (a2.below hW) ok (fun i _ hk => hk.2) (Nat.le_trans h0 hW.size) (List.prefix_refl _) ((cell_of_heap (hW.block _ (block_of_cell c1)) _).trans c1) ((cell_of_heap (hW.block _ (block_of_cell c2)) _).trans c2) ⟨[], rfl, hj⟩)
  refine hc.mono ?_
  rintro e W' ⟨hv, ⟨ys, rfl, p, e2, h3⟩ | ⟨pre, h4, p, rfl, h3⟩⟩
  · exact ⟨hv, .inl ⟨p, e2, h3⟩⟩
  · exact ⟨hv, .inr ⟨p, h4, h3⟩⟩
end Go.Proofs.Ytocaaebmelhhnaa
