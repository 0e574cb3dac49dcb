/- What the document's own writer does. -/
import Derived.Test.YtlapicjbnheioaaBReads
namespace Go.Proofs.Ytlapicjbnheioaa
open Go.RowKit
theorem blk_rb {w : World} {g B : Nat} {xs : List UInt8} (h : Blk w g 5 (cellsB xs).toArray) (hB : g < B) : RB w B (some ⟨g, 0, none⟩) xs.length xs :=
  ⟨rfl, fun _ => ⟨g, 0, rfl, hB, fun j x hx => by rw [h.cell]; simp [cellsB, hx]⟩⟩
/-- all blocks below N -/
abbrev Lo (N : Nat) : Nat → Obj → Prop := fun i _ => i < N
/-- blocks below N, and blocks that hold neither bytes nor the document's writer -/
def Rf (N : Nat) : Nat → Obj → Prop := fun i o => i < N ∨ ∃ cs t, o = .cells cs t (0, 0) ∧ t ≠ 5 ∧ t ≠ 58
/-- the document's writer at block g: bs was written -/
def VAt (w : World) (N g : Nat) (bs : List UInt8) : Prop :=
  ∃ v, Blk w g 58 #[v] ∧ w.ownsRow N 5 1 v bs.length (cellsB bs) ∧ N ≤ g
/-- bytes behind a row, as one run; what is behind it -/
theorem ref_append {w : World} {N g : Nat} {bs : List UInt8} {v : Value} (hb : Blk w g 58 #[v]) (ho : w.ownsRow N 5 1 v bs.length (cellsB bs)) (hN : N ≤ g) {W : World} (hW : Below w.heap.size w W) {B : Nat} {A : Option Addr} {xs : List UInt8}
    (hr : RB W B A xs.length xs) (c : Nat) (hlen : bs.length + xs.length ≤ 1000000) :
    ∃ A' n' c' W', (Builtin.append_ #[30, 30] 30 #[v, .slice A xs.length c]).run Try.prog W = .ok (.slice A' n' c') W' ∧ W'.cell? ⟨g, 0, none⟩ = some v ∧ W'.frozen? ⟨g, 0, none⟩ = false ∧
      VAt (W'.setCell ⟨g, 0, none⟩ (.slice A' n' c')) N g (bs ++ xs) ∧ Keep (Rf N) w (W'.setCell ⟨g, 0, none⟩ (.slice A' n' c')) := by
  have hNw : N ≤ w.heap.size := by have := hb.lt; omega
  have how : W.ownsRow N 5 1 v bs.length (cellsB bs) := by
    refine ⟨ho.1, ?_⟩
    rcases ho.2 with h | ⟨q, cap, cur, h1, h2, h3, h4⟩
    · exact .inl h
    · exact .inr ⟨q, cap, cur, h1, h2, (hW.block q (lt_of_some h3)).trans h3, h4⟩
  obtain ⟨v', W', hrun, ho', hg, hat⟩ := append_rb how hr c hlen (Nat.le_trans hNw hW.size)
  obtain ⟨A', c', rfl, _, _, _⟩ := own_rb ho'
  have hbW : Blk W g 58 #[v] := hb.below hW hb.lt
  have hgne : some g ≠ v.ownBlock := by
    rcases ho.2 with ⟨rfl, _⟩ | ⟨q, cap, cur, rfl, _, hh, _⟩
    · simp [Value.ownBlock]
    · intro e
      simp only [Value.ownBlock, Option.some.injEq] at e
      exact ne_of_types hb hh (by decide) e.symm
  have hbW' : Blk W' g 58 #[v] := (hg.block g hbW.lt hgne).trans hbW
  have k1 : Keep (Rf N) w W' := by
    refine (Keep.of_below hW).grown hg (fun q o hq hwo hK => ?_)
    rcases ho.2 with ⟨rfl, _⟩ | ⟨q', cap, cur, rfl, hNq, hh, _⟩
    · simp [Value.ownBlock] at hq
    · simp only [Value.ownBlock, Option.some.injEq] at hq
      subst hq
      rw [hh] at hwo
      injection hwo with hwo
      rcases hK with hK | ⟨cs, t, rfl, h5, _⟩
      · omega
      · injection hwo with _ h; exact h5 h.symm
  have k2 : Keep (Rf N) w (W'.setCell ⟨g, 0, none⟩ (.slice A' (bs.length + xs.length) c')) := by
    refine k1.setCell (fun o ho2 hK => ?_) _
    rw [show w.heap[(⟨g, 0, none⟩ : Addr).block]? = some (.cells #[v] 58 (0, 0)) from hb] at ho2
    injection ho2 with ho2
    rcases hK with hK | ⟨cs, t, rfl, _, h31⟩
    · exact absurd hK (by show ¬ g < N; omega)
    · injection ho2 with _ h; exact h31 h.symm
  refine ⟨A', _, c', W', hrun, by rw [hbW'.cell]; rfl, hbW'.frozen 0, ⟨_, by simpa using hbW'.set_ 0 (.slice A' (bs.length + xs.length) c'), ?_, hN⟩, k2⟩
  rw [List.length_append]
  refine ⟨ho'.1, ?_⟩
  rcases ho'.2 with h | ⟨q, cap, cur, h1, h2, h3, h4⟩
  · exact .inl h
  · exact .inr ⟨q, cap, cur, h1, h2, (Below.heap_setCell W' ⟨g, 0, none⟩ _ q (ne_of_types hbW' h3 (by decide))).trans h3, h4⟩
theorem rb_new (w : World) (xs : List UInt8) : RB (w.alloc (.cells (cellsB xs).toArray 5)) (w.heap.size + 1) (some ⟨w.heap.size, 0, none⟩) xs.length xs := blk_rb (Blk.new w 5 _) (by omega)
end Go.Proofs.Ytlapicjbnheioaa
