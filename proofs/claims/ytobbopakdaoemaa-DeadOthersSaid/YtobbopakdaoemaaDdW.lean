/- Where a message is: package dead's Where, and the document's. -/
import Derived.Test.YtobbopakdaoemaaSl
import Derived.Test.YtobbopakdaoemaaFdM
import Derived.Test.YtobbopakdaoemaaSmM
set_option maxRecDepth 4000
namespace Go.Proofs.Ytobbopakdaoemaa
open Go.RowKit
theorem geO {z : Int} {b : Bool} (h : decide (0 ≤ z) = b) : (b = true → 0 ≤ z) ∧ (b = false → z < 0) := by
  subst h
  simp
theorem retW {a b : Int} (h : a = b) : Ending.returned (.int .i64 a) = .returned (.int .i64 b) := by rw [h]
set_option maxHeartbeats 1000000 in
theorem where_ {w : World} {o : Ob} {r m d : Value} (h : ObAt w o r m d) (hn : o.short 100000) (id : Int) :
    Calls Try.prog 10 #[o.val r m d, .int .i64 id] w fun e w' => e = .returned (.int .i64 (whereO o id)) ∧ Below w.heap.size w w' := by
  obtain ⟨s, k, l, rs, ms, ds⟩ := o
  obtain ⟨⟨A1, c1, rfl, l1, k1, x1, n1⟩, ⟨A2, c2, rfl, l2, k2, x2, n2⟩, ⟨A3, c3, rfl, l3, k3, x3, n3⟩⟩ := h
  obtain ⟨s1, s2, s3⟩ := hn
  simp only at l1 l2 l3 k1 k2 k3 s1 s2 s3
  simp only [Ob.val, Ob.cells]
  have hb0 := alloc_below w (.cells #[.string s, .int .i64 k, .int .i64 l, .slice A1 rs.length c1, .slice A2 ms.length c2, .slice A3 ds.length c3] 25)
  have hB0 := Blk.new w 25 #[.string s, .int .i64 k, .int .i64 l, .slice A1 rs.length c1, .slice A2 ms.length c2, .slice A3 ds.length c3]
  have hf2 := fun W (hb : Below w.heap.size w W) => find_m (c := c2) (l2.below hb) rfl (by omega) id
  have hf3 := fun W (hb : Below w.heap.size w W) => find_m (c := c3) (l3.below hb) rfl (by omega) id
  have hi2 := geO (idx_nonneg (isM id) ms)
  have hi3 := geO (idx_nonneg (isM id) ds)
  have hw : whereO ⟨s, k, l, rs, ms, ds⟩ id = if ms.any (isM id) = true then 1 else if ds.any (isM id) = true then 2 else 0 := rfl
  generalize whereO ⟨s, k, l, rs, ms, ds⟩ id = z at *
  generalize ms.any (isM id) = y2 at *
  generalize ds.any (isM id) = y3 at *
  generalize idxI (isM id) ms = i2 at *
  generalize idxI (isM id) ds = i3 at *
  generalize rs.length = m1 at *
  generalize ms.length = m2 at *
  generalize ds.length = m3 at *
  have HB0 := Lib.hid hb0
  have HX0 := Lib.hid hB0
  have F2 := Lib.hid hf2
  have F3 := Lib.hid hf3
  have I2 := Lib.hid hi2
  have I3 := Lib.hid hi3
  have HW := Lib.hid hw
  clear hb0 hB0 hf2 hf3 hi2 hi3 hw l1 l2 l3
  go_enter Try.func10, Try.ntmps10
  go_wp2_with fail
  refine (F2.out _ HB0.out).mono ?_
  rintro e w1 ⟨rfl, hb1⟩
  have hb1' := HB0.out.trans (hb1.mono HB0.out.size)
  have d5 := (HX0.out.below hb1 HX0.out.lt).cell 5
  have HB1 := Lib.hid hb1'
  clear hb1 hb1'
  cases y2
  · have g2 : decide (0 ≤ i2) = false := decide_eq_false (by have := I2.out.2 rfl; omega)
    go_wp2_with fail
    refine (F3.out _ HB1.out).mono ?_
    rintro e w2 ⟨rfl, hb2⟩
    have HB2 := Lib.hid (HB1.out.trans (hb2.mono HB1.out.size))
    clear hb2
    cases y3
    · have g3 : decide (0 ≤ i3) = false := decide_eq_false (by have := I3.out.2 rfl; omega)
      go_wp2_with fail
      go_ret
      exact ⟨retW (by rw [HW.out]; rfl), HB2.out⟩
    · have g3 : decide (0 ≤ i3) = true := decide_eq_true (by have := I3.out.1 rfl; omega)
      go_wp2_with fail
      go_ret
      exact ⟨retW (by rw [HW.out]; rfl), HB2.out⟩
  · have g2 : decide (0 ≤ i2) = true := decide_eq_true (by have := I2.out.1 rfl; omega)
    go_wp2_with fail
    go_ret
    exact ⟨retW (by rw [HW.out]; rfl), HB1.out⟩
set_option maxHeartbeats 1000000 in
theorem rwhere_ {w : World} {o : Ob} {r m d : Value} (h : ObAt w o r m d) (hn : o.short 100000) (id : Int) :
    Calls Try.prog 11 #[o.val r m d, .int .i64 id] w fun e w' => e = .returned (.int .i64 (whereO o id)) ∧ Below w.heap.size w w' := by
  obtain ⟨s, k, l, rs, ms, ds⟩ := o
  obtain ⟨⟨A1, c1, rfl, l1, k1, x1, n1⟩, ⟨A2, c2, rfl, l2, k2, x2, n2⟩, ⟨A3, c3, rfl, l3, k3, x3, n3⟩⟩ := h
  obtain ⟨s1, s2, s3⟩ := hn
  simp only at l1 l2 l3 k1 k2 k3 s1 s2 s3
  simp only [Ob.val, Ob.cells]
  have hb0 := alloc_below w (.cells #[.string s, .int .i64 k, .int .i64 l, .slice A1 rs.length c1, .slice A2 ms.length c2, .slice A3 ds.length c3] 25)
  have hf2 := rfind_m (c := c2) (l2.below hb0) rfl (by omega) id
  have hf3 := rfind_m (c := c3) (l3.below hb0) rfl (by omega) id
  have hi2 := geO (idx_nonneg (isM id) ms)
  have hi3 := geO (idx_nonneg (isM id) ds)
  have hw : whereO ⟨s, k, l, rs, ms, ds⟩ id = if ms.any (isM id) = true then 1 else if ds.any (isM id) = true then 2 else 0 := rfl
  generalize whereO ⟨s, k, l, rs, ms, ds⟩ id = z at *
  generalize ms.any (isM id) = y2 at *
  generalize ds.any (isM id) = y3 at *
  generalize idxI (isM id) ms = i2 at *
  generalize idxI (isM id) ds = i3 at *
  generalize rs.length = m1 at *
  generalize ms.length = m2 at *
  generalize ds.length = m3 at *
  have HB0 := Lib.hid hb0
  have F2 := Lib.hid hf2
  have F3 := Lib.hid hf3
  have I2 := Lib.hid hi2
  have I3 := Lib.hid hi3
  have HW := Lib.hid hw
  clear hb0 hf2 hf3 hi2 hi3 hw l1 l2 l3
  go_enter Try.func11, Try.ntmps11
  go_wp2_with fail
  refine F2.out.mono ?_
  rintro e w1 ⟨rfl, rfl⟩
  cases y2
  · have g2 : decide (0 ≤ i2) = false := decide_eq_false (by have := I2.out.2 rfl; omega)
    go_wp2_with fail
    refine F3.out.mono ?_
    rintro e w2 ⟨rfl, rfl⟩
    cases y3
    · have g3 : decide (0 ≤ i3) = false := decide_eq_false (by have := I3.out.2 rfl; omega)
      go_wp2_with fail
      go_ret
      exact ⟨retW (by rw [HW.out]; rfl), HB0.out⟩
    · have g3 : decide (0 ≤ i3) = true := decide_eq_true (by have := I3.out.1 rfl; omega)
      go_wp2_with fail
      go_ret
      exact ⟨retW (by rw [HW.out]; rfl), HB0.out⟩
  · have g2 : decide (0 ≤ i2) = true := decide_eq_true (by have := I2.out.1 rfl; omega)
    go_wp2_with fail
    go_ret
    exact ⟨retW (by rw [HW.out]; rfl), HB0.out⟩
end Go.Proofs.Ytobbopakdaoemaa
