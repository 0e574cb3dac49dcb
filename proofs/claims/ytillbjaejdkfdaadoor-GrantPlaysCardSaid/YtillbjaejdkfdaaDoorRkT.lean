/- Words for the document's Drop: a row of numbers beside the lock; the lock while Drop goes on. -/
import Derived.Test.YtillbjaejdkfdaaDoorRkR
import Derived.Test.YtillbjaejdkfdaaDoorGrE
set_option maxRecDepth 4000
namespace Go.Proofs.YtillbjaejdkfdaaDoor
open Go.RowKit
section
variable {w W W' : World} {base base' b : Nat} {s : Lk} {vH vL gv : Value} {done : List Int}
theorem int_far (h : RTwo W b vH vL) (ho : Own W base' eI 3 gv done) {g : Nat} (hg : gv.ownBlock = some g) : ∃ cur, W.heap[g]? = some (.cells cur 3 (0, 0)) ∧ g ≠ b ∧ NoH (.cells cur 3 (0, 0)) := by
  obtain ⟨_, _, cur, hc⟩ := own_blk ho hg
  exact ⟨cur, hc, ne_of_types (g := b) h hc (by decide), fun cur' e => by injection e with _ e; cases e⟩
theorem own_rkeep (h : RTwo W b vH vL) (ho : Own W base' eI 3 gv done) (k : RKeep base b W W') : Own W' base' eI 3 gv done :=
  own_keep ho fun g hg => by
    obtain ⟨cur, hc, h1, h2⟩ := int_far h ho hg
    rw [hc]
    exact k.block g _ hc ⟨h1, .inr h2⟩
/-- a number more behind the row of numbers -/
theorem rk_int (h : RK base b s vH vL W) (ho : Own W w.heap.size eI 3 gv done) (hn : done.length ≤ 100000) (k : RKeep base b w W) (x : Int) :
    ∃ v' W', (Builtin.append_ #[36, 36] 36 #[gv, .slice (some ⟨W.heap.size, 0, none⟩) 1 1]).run Tryd.prog (W.alloc (.cells #[.int .i64 x] 3)) = .ok v' W' ∧
      Own W' w.heap.size eI 3 v' (done ++ [x]) ∧ RK base b s vH vL W' ∧ RKeep base b w W' := by
  have hal := alloc_below W (.cells #[.int .i64 x] 3)
  have h2 := h.below hal
  have ho2 := own_belowE ho hal
  obtain ⟨v', W', hap, ho', hg', _⟩ := append_own tyI ho2 (int_one W x) rfl 1 (by show done.length + 1 ≤ _; omega) (Nat.le_trans k.size hal.size)
  have far : ∀ g, gv.ownBlock = some g → g ≠ b := fun g hg => by
    obtain ⟨_, _, h3, _⟩ := int_far h2.two ho2 hg
    exact h3
  refine ⟨v', W', hap, ho', ⟨(hg'.block b h2.two.lt (fun e => far b e.symm rfl)).trans h2.two, own_keep h2.oH fun g hg => ?_, own_keep h2.oL fun g hg => ?_, h.sep⟩, (k.trans (Keep.of_below hal)).mono (fun _ _ _ hi => hi) |>.grown hg' fun g o hg ho3 _ => ?_⟩
  · refine hg'.block g (own_blk h2.oH hg).2.1 (fun e => ?_)
    exact own_ne h2.oH ho2 (by decide) hg e.symm
  · refine hg'.block g (own_blk h2.oL hg).2.1 (fun e => ?_)
    exact own_ne h2.oL ho2 (by decide) hg e.symm
  · have h3 := (own_blk ho2 hg).1
    have h4 := lt_of_some ho3
    omega
end
end Go.Proofs.YtillbjaejdkfdaaDoor
