/- Six cells stored one after the other. -/
import Derived.Test.YtlapicjbnheioaaKeep
set_option maxRecDepth 4000
namespace Go.Proofs.Ytlapicjbnheioaa
open Go.RowKit
theorem below_six {B : Nat} {w w1 : World} (h : Below B w w1) {g : Nat} (hg : B ≤ g) (a b c d e f : Value) : Below B w ((((((w1.setCell ⟨g, 0, none⟩ a).setCell ⟨g, 1, none⟩ b).setCell ⟨g, 2, none⟩ c).setCell ⟨g, 3, none⟩ d).setCell ⟨g, 4, none⟩ e).setCell ⟨g, 5, none⟩ f) :=
  (((((h.setCell hg a).setCell hg b).setCell hg c).setCell hg d).setCell hg e).setCell hg f
/-- all other blocks are as they were -/
theorem keep_six (w : World) (g : Nat) (a b c d e f : Value) : Keep (fun i _ => i ≠ g) w ((((((w.setCell ⟨g, 0, none⟩ a).setCell ⟨g, 1, none⟩ b).setCell ⟨g, 2, none⟩ c).setCell ⟨g, 3, none⟩ d).setCell ⟨g, 4, none⟩ e).setCell ⟨g, 5, none⟩ f) := by
  have hp : ∀ o : Obj, w.heap[g]? = some o → ¬ (g ≠ g) := fun _ _ h => h rfl
  exact ((((((Keep.refl w).setCell (p := ⟨g, 0, none⟩) hp a).setCell (p := ⟨g, 1, none⟩) hp b).setCell (p := ⟨g, 2, none⟩) hp c).setCell (p := ⟨g, 3, none⟩) hp d).setCell (p := ⟨g, 4, none⟩) hp e).setCell (p := ⟨g, 5, none⟩) hp f
/-- six cells stored, in a block known whole -/
theorem blk_store6 {w : World} {g : Nat} {T : TypeId} {a b c d e f a' b' c' d' e' f' : Value} (h : Blk w g T #[a, b, c, d, e, f]) :
    Blk ((((((w.setCell ⟨g, 0, none⟩ a').setCell ⟨g, 1, none⟩ b').setCell ⟨g, 2, none⟩ c').setCell ⟨g, 3, none⟩ d').setCell ⟨g, 4, none⟩ e').setCell ⟨g, 5, none⟩ f') g T #[a', b', c', d', e', f'] := by
  have := (((((h.set_ 0 a').set_ 1 b').set_ 2 c').set_ 3 d').set_ 4 e').set_ 5 f'
  simpa using this
end Go.Proofs.Ytlapicjbnheioaa
