/- Two blocks made one behind the other, and what is stored into them: an object that is turned, and its result. -/
import Derived.Test.YtobbopakdaoemaaSl
import Derived.Test.YtobbopakdaoemaaSix
import Derived.Test.YtobbopakdaoemaaSet
import Derived.RegionTactic
import Derived.Deep.QuietTactic
import Derived.BigQuiet
set_option maxRecDepth 4000
namespace Go.Proofs.Ytobbopakdaoemaa
open Go.RowKit
/-- two blocks, the first one and the next one, behind all that was there -/
structure TwoB (w : World) (T : TypeId) (cs zs : Array Value) (W : World) : Prop where
  below : Below w.heap.size w W
  obj : Blk W w.heap.size T cs
  res : Blk W (w.heap.size + 1) T zs
theorem TwoB.new (w : World) (T : TypeId) (cs zs : Array Value) : TwoB w T cs zs ((w.alloc (.cells cs T)).alloc (.cells zs T)) := by
  have h1 := alloc_below w (.cells cs T)
  have := Blk.new (w.alloc (.cells cs T)) T zs
  rw [show (w.alloc (.cells cs T)).heap.size = w.heap.size + 1 by simp] at this
  exact ⟨h1.alloc h1.size _, (Blk.new w _ cs).alloc _, this⟩
section
variable {w W W' : World} {T : TypeId} {cs zs : Array Value}
theorem TwoB.step (h : TwoB w T cs zs W) (k : Below W.heap.size W W') : TwoB w T cs zs W' := ⟨h.below.trans (k.mono h.below.size), h.obj.below k h.obj.lt, h.res.below k h.res.lt⟩
theorem TwoB.store (h : TwoB w T cs zs W) (i : Nat) (v : Value) : TwoB w T (cs.setIfInBounds i v) zs (W.setCell ⟨w.heap.size, i, none⟩ v) :=
  ⟨h.below.setCell (Nat.le_refl _) v, h.obj.set_ i v, h.res.far (by simp) v⟩
theorem TwoB.own {α : Type} {E : Enc α} {V : TypeId} {base : Nat} {v : Value} {l : List α} (ho : Own W base E V v l) (hb : w.heap.size < base) (i : Nat) (u : Value) : Own (W.setCell ⟨w.heap.size, i, none⟩ u) base E V v l :=
  own_far ho (own_out ho hb) u
theorem TwoB.size (h : TwoB w T cs zs W) : w.heap.size + 2 ≤ W.heap.size := h.res.lt
end
/-- six cells stored into the second one -/
theorem TwoB.last {w W : World} {T : TypeId} {cs : Array Value} {z0 z1 z2 z3 z4 z5 : Value} (h : TwoB w T cs #[z0, z1, z2, z3, z4, z5] W) (a b c d e f : Value) :
    Below w.heap.size w ((((((W.setCell ⟨w.heap.size + 1, 0, none⟩ a).setCell ⟨w.heap.size + 1, 1, none⟩ b).setCell ⟨w.heap.size + 1, 2, none⟩ c).setCell ⟨w.heap.size + 1, 3, none⟩ d).setCell ⟨w.heap.size + 1, 4, none⟩ e).setCell ⟨w.heap.size + 1, 5, none⟩ f) ∧
    Blk ((((((W.setCell ⟨w.heap.size + 1, 0, none⟩ a).setCell ⟨w.heap.size + 1, 1, none⟩ b).setCell ⟨w.heap.size + 1, 2, none⟩ c).setCell ⟨w.heap.size + 1, 3, none⟩ d).setCell ⟨w.heap.size + 1, 4, none⟩ e).setCell ⟨w.heap.size + 1, 5, none⟩ f) (w.heap.size + 1) T #[a, b, c, d, e, f] :=
  ⟨below_six h.below (by omega) a b c d e f, blk_store6 h.res⟩
theorem own_six {w W : World} {α : Type} {E : Enc α} {V : TypeId} {v : Value} {l : List α} (ho : Own W (w.heap.size + 2) E V v l) (a b c d e f : Value) :
    Own ((((((W.setCell ⟨w.heap.size + 1, 0, none⟩ a).setCell ⟨w.heap.size + 1, 1, none⟩ b).setCell ⟨w.heap.size + 1, 2, none⟩ c).setCell ⟨w.heap.size + 1, 3, none⟩ d).setCell ⟨w.heap.size + 1, 4, none⟩ e).setCell ⟨w.heap.size + 1, 5, none⟩ f) w.heap.size E V v l := by
  have hb := own_out ho (b := w.heap.size + 1) (by omega)
  exact own_base (own_keep ho fun g hg => by
    have hne : g ≠ w.heap.size + 1 := fun e => hb (by rw [hg, e])
    obtain ⟨ob, hob⟩ : ∃ ob, W.heap[g]? = some ob := ⟨_, (own_blk ho hg).2.2.choose_spec⟩
    rw [hob]
    exact (keep_six W (w.heap.size + 1) a b c d e f).block g ob hob hne) (by omega)
/-- what was made behind a row of one's own is not its block -/
theorem own_apart {α β : Type} {E1 : Enc α} {E2 : Enc β} {T1 T2 : TypeId} {W1 W2 : World} {b1 b2 : Nat} {v1 v2 : Value} {l1 : List α} {l2 : List β} (h1 : Own W1 b1 E1 T1 v1 l1) (h2 : Own W2 b2 E2 T2 v2 l2) (hb : W1.heap.size ≤ b2) :
    ∀ g, v1.ownBlock = some g → v2.ownBlock ≠ some g := fun g hg e => by
  have a := (own_blk h1 hg).2.1
  have b := (own_blk h2 e).1
  omega
end Go.Proofs.Ytobbopakdaoemaa
