/- A slice of bytes, copied. -/
import Derived.Test.YtlapicjbnheioaaBNews
set_option maxRecDepth 4000
namespace Go.Proofs.Ytlapicjbnheioaa
open Go.RowKit
/-- a slice of bytes, copied: append to a nil one -/
theorem copy_nil {w : World} {B n c : Nat} {A : Option Addr} {xs : List UInt8} (h : RB w B A n xs) (hn : n ≤ 1000000) :
    ∃ A' c' W', (Builtin.append_ #[30, 30] 30 #[.slice none 0 0, .slice A n c]).run Try.prog w = .ok (.slice A' n c') W' ∧ RB W' W'.heap.size A' n xs ∧ (A' = none → c' = 0) ∧ Below w.heap.size w W' := by
  obtain ⟨v, W, hrun, ho, hg, _⟩ := append_rb (W := w) (base := w.heap.size) (v := .slice none 0 0) (n := 0) (ys := []) ⟨rfl, .inl ⟨rfl, rfl⟩⟩ h c (by omega) (Nat.le_refl _)
  rw [List.nil_append, Nat.zero_add] at ho
  obtain ⟨A', c', rfl, hr, _, _⟩ := own_rb ho
  refine ⟨A', c', W, hrun, hr, fun e => ?_, (Below.refl _ _).grown hg (Nat.le_refl _) fun k hk => by simp [Value.ownBlock] at hk⟩
  rcases ho.2 with ⟨e1, _⟩ | ⟨q, cap, cur, e1, _⟩
  · injection e1
  · injection e1 with e1; rw [e] at e1; cases e1
end Go.Proofs.Ytlapicjbnheioaa
