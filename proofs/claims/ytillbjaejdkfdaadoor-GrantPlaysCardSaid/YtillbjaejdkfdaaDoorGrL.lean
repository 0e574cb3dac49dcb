/- A new lock, and the document's example. -/
import Derived.Test.YtillbjaejdkfdaaDoorGrQ
import Derived.Test.YtillbjaejdkfdaaDoorGrX
set_option maxRecDepth 4000
namespace Go.Proofs.YtillbjaejdkfdaaDoor
open Go.RowKit
theorem uniqI_one (x : Int) : uniqI [x] = [x] := rising_eq (uniqI_spec [x]).1 (by simp) fun y => (uniqI_spec [x]).2 y
/-- a new lock: nobody's -/
theorem lock_new (w : World) : Lock (w.alloc (.cells #[.slice none 0 0, .slice none 0 0] 27)) w.heap.size ([], []) :=
  ⟨_, _, Blk.new w _ _, ⟨none, 0, rfl, Lst.nil _ _ _ _, Nat.le_refl _, by unfold maxLen; omega, fun _ => rfl⟩, ⟨none, 0, rfl, Lst.nil _ _ _ _, Nat.le_refl _, by unfold maxLen; omega, fun _ => rfl⟩⟩
theorem Lock.lt {w : World} {b : Nat} {s : Lk} (h : Lock w b s) : b < w.heap.size := by
  obtain ⟨_, _, h2, _⟩ := h
  exact h2.lt
theorem Lock.keep {w w' : World} {b b' : Nat} {s : Lk} (h : Lock w b s) (hne : b ≠ b') (k : Keep (fun i _ => i ≠ b') w w') (hc : ∀ i, IsC w i → i ≠ b') : Lock w' b s := by
  obtain ⟨vH, vL, h2, h3, h4⟩ := h
  exact ⟨vH, vL, Blk.keep h2 k hne, h3.kept k fun i cur hi => hc i ⟨cur, hi⟩, h4.kept k fun i cur hi => hc i ⟨cur, hi⟩⟩
theorem Lock.ne {w : World} {b : Nat} {s : Lk} (h : Lock w b s) : ∀ i, IsC w i → i ≠ b := by
  obtain ⟨_, _, h2, _⟩ := h
  exact fun i hi => isC_ne h2 hi
/-- what a call of a lock whose block is new leaves: all that was there -/
theorem below_of_keep {w w1 w2 : World} {b B : Nat} (h : Below B w w1) (k : Keep (fun i _ => i ≠ b) w1 w2) (hb : B ≤ b) (hB : B ≤ w1.heap.size) : Below B w w2 :=
  h.trans (k.below hB fun i _ hi => by omega)
set_option maxHeartbeats 1000000 in
theorem galive_ (w : World) (hT : Tab w) : Calls Tryd.prog 8 #[] w fun e w' => e = .returned (.bool true) ∧ Below w.heap.size w w' := by
  have hal := alloc_below w (.cells #[.slice none 0 0, .slice none 0 0] 27)
  have hl0 := lock_new w
  have hb0 : 0 ≠ w.heap.size := by have := hT.lt; omega
  have hb0' := hb0
  have HT := Lib.hid hT
  have HL0 := Lib.hid hl0
  have HAL := Lib.hid hal
  have HB0 := Lib.hid hb0'
  clear hT hl0 hal hb0 hb0'
  go_enter Tryd.func8, Tryd.ntmps8
  go_wp2_with fail
  generalize w.alloc (.cells #[.slice none 0 0, .slice none 0 0] 27) = w1 at *
  refine (ask_ HL0.out ok_none (by simp) (by simp) (HT.out.below HAL.out) HB0.out 1 5).mono ?_
  rintro e w2 ⟨he, hl2, hk2⟩
  have e1 : askP ([], []) 1 (mdN 5) = (true, ([(1, 5)], [])) := by decide
  rw [e1] at he hl2
  subst he
  have hT2 : Tab w2 := (HT.out.below HAL.out).keep hk2 fun _ => HB0.out
  have hB2 := below_of_keep HAL.out hk2 (Nat.le_refl _) HAL.out.size
  have HL2 := Lib.hid hl2
  have HT2 := Lib.hid hT2
  have HB2 := Lib.hid hB2
  clear hl2 hT2 hB2 hk2
  simp only at HL2
  go_wp2_with fail
  have ok1 : Ok ([(1, 5)], []) := by have := ok_ask ok_none 1 (q := 5) (by omega); rw [show askP ([], []) 1 5 = (true, ([(1, 5)], [])) by decide] at this; exact this
  refine (ask_ HL2.out ok1 (by simp) (by simp) HT2.out HB0.out 2 3).mono ?_
  rintro e w3 ⟨he, hl3, hk3⟩
  have e2 : askP ([(1, 5)], []) 2 (mdN 3) = (false, ([(1, 5)], [(2, 3)])) := by decide
  rw [e2] at he hl3
  subst he
  have hT3 : Tab w3 := HT2.out.keep hk3 fun _ => HB0.out
  have hB3 := below_of_keep HB2.out hk3 (Nat.le_refl _) HB2.out.size
  have HL3 := Lib.hid hl3
  have HT3 := Lib.hid hT3
  have HB3 := Lib.hid hB3
  clear hl3 hT3 hB3 hk3
  simp only at HL3
  go_wp2_with fail
  have ok2 : Ok ([(1, 5)], [(2, 3)]) := by have := ok_ask ok1 2 (q := 3) (by omega); rw [show askP ([(1, 5)], []) 2 3 = (false, ([(1, 5)], [(2, 3)])) by decide] at this; exact this
  refine (waits_ HL3.out ok2 (by simp) (by simp) HT3.out 2).mono ?_
  rintro e w4 ⟨v, rfl, ho, hb4⟩
  have e3 : waitsP ([(1, 5)], [(2, 3)]) 2 = [1] := by
    rw [waits_hit (x := (2, 3)) (by decide) (by decide)]
    rw [show rawP ([(1, 5)], [(2, 3)]) (2, 3) (List.findIdx (isW 2) [(2, 3)]) = [1] by decide]
    exact uniqI_one 1
  rw [e3] at ho
  obtain ⟨A, c, rfl, hl, _, _, _⟩ := own_lst ho
  obtain ⟨g, o, rfl, hg, d0⟩ := hl.atI (j := 0) (by simp)
  simp only [List.getElem_cons_zero, Nat.add_zero] at d0
  have HB4 := Lib.hid (HB3.out.trans (hb4.mono HB3.out.size))
  clear ho hl hb4
  simp only [List.length_singleton]
  go_wp2_with fail
  go_ret
  exact ⟨rfl, HB4.out⟩
end Go.Proofs.YtillbjaejdkfdaaDoor
