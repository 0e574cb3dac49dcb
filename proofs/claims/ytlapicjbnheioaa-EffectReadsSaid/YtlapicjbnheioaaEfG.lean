/- May a change be: package effect's Right. -/
import Derived.Test.YtlapicjbnheioaaEfB
import Derived.Test.YtlapicjbnheioaaEfF
import Derived.Test.YtlapicjbnheioaaEfQ
import Derived.Deep.RegionHeld3
import Derived.Deep.RegionWith
set_option maxRecDepth 4000
namespace Go.Proofs.Ytlapicjbnheioaa
open Go.RowKit
attribute [local go_sem ↓] eqf_cells
/-- one that has boxed its change, in each world -/
structure LBE (w : World) (e : Ef) (wk : World) : Prop where
  bel : Below w.heap.size w wk
  box : Blk wk w.heap.size 29 e.cells
section
variable {w wk w' : World} {e : Ef}
theorem LBE.first (w : World) (e : Ef) : LBE w e (w.alloc (.cells e.cells 29)) := ⟨alloc_below w _, Blk.new _ _ _⟩
theorem LBE.next (h : LBE w e wk) (k : Below wk.heap.size wk w') : LBE w e w' := ⟨h.bel.trans (k.mono h.bel.size), h.box.below k h.box.lt⟩
theorem LBE.drew (h : LBE w e wk) : LBE w e wk.drew := ⟨h.bel.drew, h.box.drew⟩
end
set_option maxHeartbeats 1000000 in
theorem rightE_ (e : Ef) (w : World) : Calls Try.prog 8 #[e.val_] w fun x w' => x = .returned (.bool e.right) ∧ Below w.heap.size w w' := by
  have HF := Lib.hid (fits_ e)
  have HB := Lib.hid (bare_ e)
  have H0 := Lib.hid (LBE.first w e)
  have hR : e.right = (e.good && e.same e.bare) := rfl
  rw [hR]
  clear hR
  generalize e.bare = f at *
  generalize e.good = g at *
  obtain ⟨k, o, ky, v, n, l, t, ⟨i, p, r, cl, c, b⟩⟩ := e
  have hS0 : Thir w.heap.size ⟨k, o, ky, v, n, l, t, ⟨i, p, r, cl, c, b⟩⟩ (w.alloc (.cells (Ef.cells ⟨k, o, ky, v, n, l, t, ⟨i, p, r, cl, c, b⟩⟩) 29)).drew := thir_of H0.out.drew.box
  have H0d := Lib.hid H0.out.drew
  cases g
  · go_enter Try.func8, Try.ntmps8
    go_wp2_with fail
    go_region_with (go_at_call 16; refine (HF.out _).mono ?_; rintro e w1 ⟨rfl, hb1⟩; have H1 := Lib.hid (H0d.out.next hb1); clear hb1)
    all_goals
      go_wp2_with fail
      go_ret
      exact ⟨rfl, H1.out.bel⟩
  · go_enter Try.func8, Try.ntmps8
    go_wp2_with fail
    go_region_held3 (fun W : World => Thir w.heap.size ⟨k, o, ky, v, n, l, t, ⟨i, p, r, cl, c, b⟩⟩ W)
      (first | exact hS0 | exact hS1 | exact hS2)
      (first | (go_at_call 16; refine (HF.out _).mono ?_; rintro e w1 ⟨rfl, hb1⟩; have H1 := Lib.hid (H0d.out.next hb1); have hS1 : Thir w.heap.size ⟨k, o, ky, v, n, l, t, ⟨i, p, r, cl, c, b⟩⟩ w1 := thir_of H1.out.box; clear hb1) | (go_at_call 17; refine (HB.out _).mono ?_; rintro e w2 ⟨rfl, hb2⟩; have H2 := Lib.hid (H1.out.next hb2); have hS2 : Thir w.heap.size ⟨k, o, ky, v, n, l, t, ⟨i, p, r, cl, c, b⟩⟩ w2 := thir_of H2.out.box; clear hb2) | (refine step_value rfl (exec_eqlE rfl (e := ⟨k, o, ky, v, n, l, t, ⟨i, p, r, cl, c, b⟩⟩) (f := f) rfl rfl _) ?_))
    go_wp2_with fail
    go_ret
    exact ⟨rfl, H2.out.bel⟩
end Go.Proofs.Ytlapicjbnheioaa
