/- The document's copy of an object. -/
import Derived.Test.YtobbopakdaoemaaTwoB
set_option maxRecDepth 4000
namespace Go.Proofs.Ytobbopakdaoemaa
open Go.RowKit
/-- a fact that the walk must not look through -/
structure ShutO (p : Prop) : Prop where out : p
theorem below_nil {w w' : World} (h : w.grownBy w' none) : Below w.heap.size w w' := ⟨h.os, h.tape, h.output, h.size, fun i hi => h.block i hi (by simp)⟩
/-- rows copied behind nothing -/
theorem copy_nil {α : Type} {E : Enc α} {T S : TypeId} (t : RowTy E T S) {W : World} {K : Nat → Prop} {A : Option Addr} {m c : Nat} {xs : List α} (hr : Lst W K E A xs) (hm : xs.length = m) (hs : m ≤ 100000) :
    ∃ A' c' W', (Builtin.append_ #[S, S] S #[.slice none 0 0, .slice A m c]).run Try.prog W = .ok (.slice A' m c') W' ∧ Own W' W.heap.size E T (.slice A' m c') xs ∧ Below W.heap.size W W' := by
  obtain ⟨v, W', hap, ho, hg, _⟩ := append_own t (own_nil W W.heap.size) hr hm c (by simp only [List.length_nil]; omega) (Nat.le_refl _)
  rw [List.nil_append] at ho
  obtain ⟨A', c', rfl⟩ := own_shape ho hm
  exact ⟨A', c', W', hap, ho, below_nil hg⟩
set_option maxHeartbeats 1000000 in
theorem rcopy_ {w : World} {o : Ob} {r m d : Value} (h : ObAt w o r m d) (hn : o.short 100000) :
    Calls Try.prog 17 #[o.val r m d] w fun e w' => ∃ r' m' d', e = .returned (o.val r' m' d') ∧ ObOwn w' w.heap.size o r' m' d' ∧ Below w.heap.size w w' := by
  obtain ⟨s, k, l, rs, ms, ds⟩ := o
  obtain ⟨⟨A1, c1, rfl, l1, k1, x1, n1⟩, ⟨A2, c2, rfl, l2, k2, x2, n2⟩, ⟨A3, c3, rfl, l3, k3, x3, n3⟩⟩ := h
  obtain ⟨s1, s2, s3⟩ := hn
  simp only at l1 l2 l3 k1 k2 k3 s1 s2 s3
  simp only [Ob.val, Ob.cells]
  have hT0 := TwoB.new w 25 #[.string s, .int .i64 k, .int .i64 l, .slice A1 rs.length c1, .slice A2 ms.length c2, .slice A3 ds.length c3] #[.string ⟨#[]⟩, .int .i64 0, .int .i64 0, .slice none 0 0, .slice none 0 0, .slice none 0 0]
  obtain ⟨B1, b1, w1, hap1, ho1, hb1⟩ := copy_nil tyR (c := c1) (l1.below hT0.below) rfl s1
  have hT1 := hT0.step hb1
  have q3 := hT1.obj.cell 3
  have f3 := hT1.obj.frozen 3
  have q4 := hT1.obj.cell 4
  have hT1' := hT1.store 3 (.slice B1 rs.length b1)
  have ho1' := TwoB.own (w := w) ho1 (by have := hT0.size; omega) 3 (.slice B1 rs.length b1)
  obtain ⟨B2, b2, w2, hap2, ho2, hb2⟩ := copy_nil tyM (c := c2) (l2.below hT1'.below) rfl s2
  have hT2 := hT1'.step hb2
  have p4 := hT2.obj.cell 4
  have g4 := hT2.obj.frozen 4
  have p5 := hT2.obj.cell 5
  have hA12 := own_apart ho1' ho2 (Nat.le_refl _)
  have hT2' := hT2.store 4 (.slice B2 ms.length b2)
  have ho2' := TwoB.own (w := w) ho2 (by have := hT1'.size; omega) 4 (.slice B2 ms.length b2)
  have ho1'' := TwoB.own (w := w) (own_belowE ho1' hb2) (by have := hT0.size; omega) 4 (.slice B2 ms.length b2)
  obtain ⟨B3, b3, w3, hap3, ho3, hb3⟩ := copy_nil tyM (c := c3) (l3.below hT2'.below) rfl s3
  have hT3 := hT2'.step hb3
  have p5' := hT3.obj.cell 5
  have g5 := hT3.obj.frozen 5
  have hA13 := own_apart ho1'' ho3 (Nat.le_refl _)
  have hA23 := own_apart ho2' ho3 (Nat.le_refl _)
  have hT3' := hT3.store 5 (.slice B3 ds.length b3)
  have hP3 := own_base (base' := w.heap.size + 2) (TwoB.own (w := w) ho3 (by have := hT2'.size; omega) 5 (.slice B3 ds.length b3)) hT2'.size
  have hP2 := own_base (base' := w.heap.size + 2) (TwoB.own (w := w) (own_belowE ho2' hb3) (by have := hT1'.size; omega) 5 (.slice B3 ds.length b3)) hT1'.size
  have hP1 := own_base (base' := w.heap.size + 2) (TwoB.own (w := w) (own_belowE ho1'' hb3) (by have := hT0.size; omega) 5 (.slice B3 ds.length b3)) hT0.size
  have o0 := hT3'.obj.cell 0
  have o1 := hT3'.obj.cell 1
  have o2 := hT3'.obj.cell 2
  have o3 := hT3'.obj.cell 3
  have o4 := hT3'.obj.cell 4
  have o5 := hT3'.obj.cell 5
  have r0 := hT3'.res.cell 0
  have r1 := hT3'.res.cell 1
  have r2 := hT3'.res.cell 2
  have r3 := hT3'.res.cell 3
  have r4 := hT3'.res.cell 4
  have r5 := hT3'.res.cell 5
  have e0 := hT3'.res.frozen 0
  have e1 := hT3'.res.frozen 1
  have e2 := hT3'.res.frozen 2
  have e3 := hT3'.res.frozen 3
  have e4 := hT3'.res.frozen 4
  have e5 := hT3'.res.frozen 5
  obtain ⟨hend, hres⟩ := hT3'.last (.string s) (.int .i64 k) (.int .i64 l) (.slice B1 rs.length b1) (.slice B2 ms.length b2) (.slice B3 ds.length b3)
  have hobj : ObOwn _ w.heap.size ⟨s, k, l, rs, ms, ds⟩ (.slice B1 rs.length b1) (.slice B2 ms.length b2) (.slice B3 ds.length b3) :=
    ⟨own_six hP1 (.string s) (.int .i64 k) (.int .i64 l) (.slice B1 rs.length b1) (.slice B2 ms.length b2) (.slice B3 ds.length b3), own_six hP2 _ _ _ _ _ _, own_six hP3 _ _ _ _ _ _, fun g hg => ⟨hA12 g hg, hA13 g hg⟩, hA23⟩
  have HOBJ := ShutO.mk hobj
  have HEND := ShutO.mk hend
  have AP1 := ShutO.mk hap1
  have AP2 := ShutO.mk hap2
  have AP3 := ShutO.mk hap3
  have t0 := hres.cell 0
  have t1 := hres.cell 1
  have t2 := hres.cell 2
  have t3 := hres.cell 3
  have t4 := hres.cell 4
  have t5 := hres.cell 5
  clear hap1 hap2 hap3 ho1 ho2 ho3 hb1 hb2 hb3 hT0 hT1 hT2 hT3 hT1' hT2' hT3' ho1' ho2' ho1'' hP1 hP2 hP3 hA12 hA13 hA23 hobj hend hres l1 l2 l3
  generalize rs.length = m1 at *
  generalize ms.length = m2 at *
  generalize ds.length = m3 at *
  simp only [Array.setIfInBounds, List.getElem?_toArray, List.getElem?_cons_zero, List.getElem?_cons_succ] at q3 q4 p4 p5 p5' o0 o1 o2 o3 o4 o5 r0 r1 r2 r3 r4 r5 t0 t1 t2 t3 t4 t5
  go_enter Try.func17, Try.ntmps17
  go_wp2_with (first
    | (at_builtin; refine wpList_append_run rfl (.const (.slice none 0 0)) (.tmp 4) 22 22 rfl _ _ rfl rfl AP1.out ?_)
    | (at_builtin; refine wpList_append_run rfl (.const (.slice none 0 0)) (.tmp 8) 23 23 rfl _ _ rfl rfl AP2.out ?_)
    | (at_builtin; refine wpList_append_run rfl (.const (.slice none 0 0)) (.tmp 12) 23 23 rfl _ _ rfl rfl AP3.out ?_))
  refine bodyPost_ret (v := .agg #[.string s, .int .i64 k, .int .i64 l, .slice B1 m1 b1, .slice B2 m2 b2, .slice B3 m3 b3]) (by simp [results, Try.results17, go_sem, t0, t1, t2, t3, t4, t5]) rfl ?_
  exact ⟨_, _, _, rfl, HOBJ.out, HEND.out⟩
end Go.Proofs.Ytobbopakdaoemaa
