/- Package dead: copied. -/
import Derived.Test.YtobbopakdaoemaaTwoB
import Derived.RegionTactic
import Derived.Deep.QuietTactic
import Derived.BigQuiet
set_option maxRecDepth 4000
namespace Go.Proofs.Ytobbopakdaoemaa
open Go.RowKit
set_option maxHeartbeats 1000000 in
theorem copied_ {w : World} {o : Ob} {r m d : Value} (h : ObAt w o r m d) (hn : o.short 100000) :
    Calls Try.prog 13 #[o.val r m d] w fun e w' => ∃ r' m' d', e = .returned (o.val r' m' d') ∧ ObOwn w' w.heap.size o r' m' d' ∧ Below w.heap.size w w' := by
  obtain ⟨s, k, l, rs, ms, ds⟩ := o
  obtain ⟨⟨A1, c1, rfl, l1, k1, x1, n1⟩, ⟨A2, c2, rfl, l2, k2, x2, n2⟩, ⟨A3, c3, rfl, l3, k3, x3, n3⟩⟩ := h
  obtain ⟨s1, s2, s3⟩ := hn
  simp only at l1 l2 l3 k1 k2 k3 s1 s2 s3
  simp only [Ob.val, Ob.cells]
  have hT0 := TwoB.new w 25 #[.string s, .int .i64 k, .int .i64 l, .slice A1 rs.length c1, .slice A2 ms.length c2, .slice A3 ds.length c3] #[.string ⟨#[]⟩, .int .i64 0, .int .i64 0, .slice none 0 0, .slice none 0 0, .slice none 0 0]
  have hcl := clone_r (c := c1) (l1.below hT0.below) rfl s1 n1
  have HT0 := Lib.hid hT0
  have HCL := Lib.hid hcl
  have L2 := Lib.hid l2
  have L3 := Lib.hid l3
  clear hT0 hcl l1 l2 l3
  generalize hm1 : rs.length = m1 at *
  generalize hm2 : ms.length = m2 at *
  generalize hm3 : ds.length = m3 at *
  have HM1 := Lib.hid hm1
  have HM2 := Lib.hid hm2
  have HM3 := Lib.hid hm3
  clear hm1 hm2 hm3
  go_enter Try.func13, Try.ntmps13
  go_wp2_with fail
  refine HCL.out.mono ?_
  rintro e w1 ⟨v1, rfl, ho1, hb1⟩
  have hT1 := HT0.out.step hb1
  obtain ⟨B1, b1, rfl⟩ := own_shape ho1 HM1.out
  have q3 := hT1.obj.cell 3
  have f3 := hT1.obj.frozen 3
  have q4 := hT1.obj.cell 4
  have ho1' := own_base (base' := w.heap.size + 2) ho1 HT0.out.size
  have hT1' := hT1.store 3 (.slice B1 m1 b1)
  have ho1'' := TwoB.own (w := w) ho1' (by omega) 3 (.slice B1 m1 b1)
  have hcl2 := clone_m (c := c2) (L2.out.below hT1'.below) HM2.out s2 n2
  have HO1 := Lib.hid ho1''
  have HT1 := Lib.hid hT1'
  have HCL2 := Lib.hid hcl2
  clear ho1 hb1 hT1 ho1' hT1' ho1'' hcl2 HCL HT0
  go_wp2_with fail
  refine HCL2.out.mono ?_
  rintro e w2 ⟨v2, rfl, ho2, hb2⟩
  have hT2 := HT1.out.step hb2
  obtain ⟨B2, b2, rfl⟩ := own_shape ho2 HM2.out
  have p4 := hT2.obj.cell 4
  have g4 := hT2.obj.frozen 4
  have p5 := hT2.obj.cell 5
  have hA12 := own_apart HO1.out ho2 (Nat.le_refl _)
  have ho2' := own_base (base' := w.heap.size + 2) ho2 HT1.out.size
  have hT2' := hT2.store 4 (.slice B2 m2 b2)
  have ho2'' := TwoB.own (w := w) ho2' (by omega) 4 (.slice B2 m2 b2)
  have ho1'' := TwoB.own (w := w) (own_belowE HO1.out hb2) (by omega) 4 (.slice B2 m2 b2)
  have hcl3 := clone_m (c := c3) (L3.out.below hT2'.below) HM3.out s3 n3
  have A12 := Lib.hid hA12
  have HO2 := Lib.hid ho2''
  have HP1 := Lib.hid ho1''
  have HT2 := Lib.hid hT2'
  have HCL3 := Lib.hid hcl3
  clear ho2 hb2 hT2 ho2' hT2' ho2'' ho1'' hcl3 HCL2 HT1 HO1 hA12 q3 f3 q4
  go_wp2_with fail
  refine HCL3.out.mono ?_
  rintro e w3 ⟨v3, rfl, ho3, hb3⟩
  have hT3 := HT2.out.step hb3
  obtain ⟨B3, b3, rfl⟩ := own_shape ho3 HM3.out
  have p5' := hT3.obj.cell 5
  have g5 := hT3.obj.frozen 5
  have hA13 := own_apart HP1.out ho3 (Nat.le_refl _)
  have hA23 := own_apart HO2.out ho3 (Nat.le_refl _)
  have ho3' := own_base (base' := w.heap.size + 2) ho3 HT2.out.size
  have hT3' := hT3.store 5 (.slice B3 m3 b3)
  have ho3'' := TwoB.own (w := w) ho3' (by omega) 5 (.slice B3 m3 b3)
  have ho2'' := TwoB.own (w := w) (own_belowE HO2.out hb3) (by omega) 5 (.slice B3 m3 b3)
  have ho1'' := TwoB.own (w := w) (own_belowE HP1.out hb3) (by omega) 5 (.slice B3 m3 b3)
  have o0 := hT3'.obj.cell 0
  have o1 := hT3'.obj.cell 1
  have o2 := hT3'.obj.cell 2
  have o3 := hT3'.obj.cell 3
  have o4 := hT3'.obj.cell 4
  have o5 := hT3'.obj.cell 5
  have r0 := hT3'.res.cell 0
  have r1 := hT3'.res.cell 1
  have r2 := hT3'.res.cell 2
  have r3 := hT3'.res.cell 3
  have r4 := hT3'.res.cell 4
  have r5 := hT3'.res.cell 5
  have e0 := hT3'.res.frozen 0
  have e1 := hT3'.res.frozen 1
  have e2 := hT3'.res.frozen 2
  have e3 := hT3'.res.frozen 3
  have e4 := hT3'.res.frozen 4
  have e5 := hT3'.res.frozen 5
  obtain ⟨hend, hres⟩ := hT3'.last (.string s) (.int .i64 k) (.int .i64 l) (.slice B1 m1 b1) (.slice B2 m2 b2) (.slice B3 m3 b3)
  have hobj : ObOwn _ w.heap.size ⟨s, k, l, rs, ms, ds⟩ (.slice B1 m1 b1) (.slice B2 m2 b2) (.slice B3 m3 b3) :=
    ⟨own_six ho1'' (.string s) (.int .i64 k) (.int .i64 l) (.slice B1 m1 b1) (.slice B2 m2 b2) (.slice B3 m3 b3), own_six ho2'' _ _ _ _ _ _, own_six ho3'' _ _ _ _ _ _, fun g hg => ⟨A12.out g hg, hA13 g hg⟩, hA23⟩
  have HOBJ := Lib.hid hobj
  have HEND := Lib.hid hend
  have t0 := hres.cell 0
  have t1 := hres.cell 1
  have t2 := hres.cell 2
  have t3 := hres.cell 3
  have t4 := hres.cell 4
  have t5 := hres.cell 5
  clear ho3 hb3 hT3 ho3' hT3' ho3'' ho2'' ho1'' HCL3 HT2 HO2 HP1 hA13 hA23 A12 hobj hend hres p4 g4 p5
  simp only [Array.setIfInBounds, List.getElem?_toArray, List.getElem?_cons_zero, List.getElem?_cons_succ] at o0 o1 o2 o3 o4 o5 r0 r1 r2 r3 r4 r5 t0 t1 t2 t3 t4 t5
  go_wp2_with fail
  refine bodyPost_ret (v := .agg #[.string s, .int .i64 k, .int .i64 l, .slice B1 m1 b1, .slice B2 m2 b2, .slice B3 m3 b3]) (by simp [results, Try.results13, go_sem, t0, t1, t2, t3, t4, t5]) rfl ?_
  exact ⟨_, _, _, rfl, HOBJ.out, HEND.out⟩
end Go.Proofs.Ytobbopakdaoemaa
