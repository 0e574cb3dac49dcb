/- Are two objects one, the document asks: of two that are. -/
import Derived.Test.YtobbopakdaoemaaTwoB
import Derived.Test.YtobbopakdaoemaaSmM
set_option maxRecDepth 4000
namespace Go.Proofs.Ytobbopakdaoemaa
open Go.RowKit
set_option maxHeartbeats 1000000 in
theorem same_obj {w : World} {o : Ob} {r m d r2 m2 d2 : Value} (h : ObAt w o r m d) (h2 : ObAt w o r2 m2 d2) (hn : o.short 100001) :
    Calls Try.prog 9 #[o.val r m d, o.val r2 m2 d2] w fun e w' => e = .returned (.bool true) ∧ Below w.heap.size w w' := by
  obtain ⟨s, k, l, rs, ms, ds⟩ := o
  obtain ⟨⟨A1, c1, rfl, l1, k1, x1, n1⟩, ⟨A2, c2, rfl, l2, k2, x2, n2⟩, ⟨A3, c3, rfl, l3, k3, x3, n3⟩⟩ := h
  obtain ⟨⟨B1, b1, rfl, p1, y1, z1, q1⟩, ⟨B2, b2, rfl, p2, y2, z2, q2⟩, ⟨B3, b3, rfl, p3, y3, z3, q3⟩⟩ := h2
  obtain ⟨s1, s2, s3⟩ := hn
  simp only at l1 l2 l3 p1 p2 p3 s1 s2 s3
  simp only [Ob.val, Ob.cells]
  have hT0 := TwoB.new w 25 #[.string s, .int .i64 k, .int .i64 l, .slice A1 rs.length c1, .slice A2 ms.length c2, .slice A3 ds.length c3] #[.string s, .int .i64 k, .int .i64 l, .slice B1 rs.length b1, .slice B2 ms.length b2, .slice B3 ds.length b3]
  have hf1 := same_rows_e (c := c1) (c2 := b1) (l1.below hT0.below) (p1.below hT0.below) rfl (by omega)
  have hf2 := fun W (hb : Below w.heap.size w W) => same_msgs (c := c2) (c2 := b2) (l2.below hb) (p2.below hb) rfl (by omega)
  have hf3 := fun W (hb : Below w.heap.size w W) => same_msgs (c := c3) (c2 := b3) (l3.below hb) (p3.below hb) rfl (by omega)
  have HT0 := Lib.hid hT0
  have F1 := Lib.hid hf1
  have F2 := Lib.hid hf2
  have F3 := Lib.hid hf3
  clear hT0 hf1 hf2 hf3 l1 l2 l3 p1 p2 p3 k1 k2 k3 n1 n2 n3 q1 q2 q3 y1 y2 y3
  generalize rs.length = m1 at *
  generalize ms.length = m2 at *
  generalize ds.length = m3 at *
  go_enter Try.func9, Try.ntmps9
  go_wp2_with fail
  refine F1.out.mono ?_
  rintro e w1 ⟨rfl, hb1⟩
  have hT1 := HT0.out.step hb1
  have a4 := hT1.obj.cell 4
  have e4 := hT1.res.cell 4
  have HT1 := Lib.hid hT1
  clear hb1 hT1 HT0 F1
  go_wp2_with fail
  refine (F2.out _ HT1.out.below).mono ?_
  rintro e w2 ⟨rfl, hb2⟩
  have hT2 := HT1.out.step hb2
  have a5 := hT2.obj.cell 5
  have e5 := hT2.res.cell 5
  have HT2 := Lib.hid hT2
  clear hb2 hT2 HT1 F2 a4 e4
  go_wp2_with fail
  refine (F3.out _ HT2.out.below).mono ?_
  rintro e w3 ⟨rfl, hb3⟩
  have HT3 := Lib.hid (HT2.out.step hb3)
  clear hb3 HT2 F3 a5 e5
  go_wp2_with fail
  go_ret
  exact ⟨rfl, HT3.out.below⟩
end Go.Proofs.Ytobbopakdaoemaa
