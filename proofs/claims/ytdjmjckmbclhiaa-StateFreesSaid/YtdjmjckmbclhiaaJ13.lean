/- Six cells stored one after the other. Two blocks made one behind the other, and what is stored into them: an object that is turned, and its result. Package dead: copied. Words for a call that turns an object of its own: where it lies, beside its result; a message of a row of one's own stored whole. What a call of Free leaves. One row less in a row of the call's own, in its own memory: what stands behind is moved ahead, and the last place is cleared. The library's Delete of one message, in a row of the call's own. Messages tried once more: the program's Tried, and the document's. -/
import Derived.Test.YtdjmjckmbclhiaaJ01
import Derived.Test.YtdjmjckmbclhiaaJ03
import Derived.RegionTactic
import Derived.Deep.QuietTactic
import Derived.BigQuiet
import Derived.Test.YtdjmjckmbclhiaaJ07
import Derived.Test.YtdjmjckmbclhiaaJ02
import Derived.Lib.SliceRun
import Derived.Deep.RegionLaw
import Derived.Shelf.RegionOpenPlain
import Derived.Test.YtdjmjckmbclhiaaProg
import Derived.WalkKit
import Derived.ProofKit
import Derived.Lib.Hide
set_option maxRecDepth 4000
namespace Go.Proofs.Ytdjmjckmbclhiaa
open Go.RowKit
theorem below_six {B : Nat} {w w1 : World} (h : Below B w w1) {g : Nat} (hg : B ≤ g) (a b c d e f : Value) : Below B w ((((((w1.setCell ⟨g, 0, none⟩ a).setCell ⟨g, 1, none⟩ b).setCell ⟨g, 2, none⟩ c).setCell ⟨g, 3, none⟩ d).setCell ⟨g, 4, none⟩ e).setCell ⟨g, 5, none⟩ f) :=
  (((((h.setCell hg a).setCell hg b).setCell hg c).setCell hg d).setCell hg e).setCell hg f
/-- all other blocks are as they were -/
theorem keep_six (w : World) (g : Nat) (a b c d e f : Value) : Keep (fun i _ => i ≠ g) w ((((((w.setCell ⟨g, 0, none⟩ a).setCell ⟨g, 1, none⟩ b).setCell ⟨g, 2, none⟩ c).setCell ⟨g, 3, none⟩ d).setCell ⟨g, 4, none⟩ e).setCell ⟨g, 5, none⟩ f) := by
  have hp : ∀ o : Obj, w.heap[g]? = some o → ¬ (g ≠ g) := fun _ _ h => h rfl
  exact ((((((Keep.refl w).setCell (p := ⟨g, 0, none⟩) hp a).setCell (p := ⟨g, 1, none⟩) hp b).setCell (p := ⟨g, 2, none⟩) hp c).setCell (p := ⟨g, 3, none⟩) hp d).setCell (p := ⟨g, 4, none⟩) hp e).setCell (p := ⟨g, 5, none⟩) hp f
/-- six cells stored, in a block known whole -/
theorem blk_store6 {w : World} {g : Nat} {T : TypeId} {a b c d e f a' b' c' d' e' f' : Value} (h : Blk w g T #[a, b, c, d, e, f]) :
    Blk ((((((w.setCell ⟨g, 0, none⟩ a').setCell ⟨g, 1, none⟩ b').setCell ⟨g, 2, none⟩ c').setCell ⟨g, 3, none⟩ d').setCell ⟨g, 4, none⟩ e').setCell ⟨g, 5, none⟩ f') g T #[a', b', c', d', e', f'] := by
  have := (((((h.set_ 0 a').set_ 1 b').set_ 2 c').set_ 3 d').set_ 4 e').set_ 5 f'
  simpa using this
end Go.Proofs.Ytdjmjckmbclhiaa
namespace Go.Proofs.Ytdjmjckmbclhiaa
open Go.RowKit
/-- two blocks, the first one and the next one, behind all that was there -/
structure TwoB (w : World) (T : TypeId) (cs zs : Array Value) (W : World) : Prop where
  below : Below w.heap.size w W
  obj : Blk W w.heap.size T cs
  res : Blk W (w.heap.size + 1) T zs
theorem TwoB.new (w : World) (T : TypeId) (cs zs : Array Value) : TwoB w T cs zs ((w.alloc (.cells cs T)).alloc (.cells zs T)) := by
  have h1 := alloc_below w (.cells cs T)
  have := Blk.new (w.alloc (.cells cs T)) T zs
  rw [show (w.alloc (.cells cs T)).heap.size = w.heap.size + 1 by simp] at this
  exact ⟨h1.alloc h1.size _, (Blk.new w _ cs).alloc _, this⟩
section
variable {w W W' : World} {T : TypeId} {cs zs : Array Value}
theorem TwoB.step (h : TwoB w T cs zs W) (k : Below W.heap.size W W') : TwoB w T cs zs W' := ⟨h.below.trans (k.mono h.below.size), h.obj.below k h.obj.lt, h.res.below k h.res.lt⟩
theorem TwoB.store (h : TwoB w T cs zs W) (i : Nat) (v : Value) : TwoB w T (cs.setIfInBounds i v) zs (W.setCell ⟨w.heap.size, i, none⟩ v) :=
  ⟨h.below.setCell (Nat.le_refl _) v, h.obj.set_ i v, h.res.far (by simp) v⟩
theorem TwoB.own {α : Type} {E : Enc α} {V : TypeId} {base : Nat} {v : Value} {l : List α} (ho : Own W base E V v l) (hb : w.heap.size < base) (i : Nat) (u : Value) : Own (W.setCell ⟨w.heap.size, i, none⟩ u) base E V v l :=
  own_far ho (own_out ho hb) u
theorem TwoB.size (h : TwoB w T cs zs W) : w.heap.size + 2 ≤ W.heap.size := h.res.lt
end
/-- six cells stored into the second one -/
theorem TwoB.last {w W : World} {T : TypeId} {cs : Array Value} {z0 z1 z2 z3 z4 z5 : Value} (h : TwoB w T cs #[z0, z1, z2, z3, z4, z5] W) (a b c d e f : Value) :
    Below w.heap.size w ((((((W.setCell ⟨w.heap.size + 1, 0, none⟩ a).setCell ⟨w.heap.size + 1, 1, none⟩ b).setCell ⟨w.heap.size + 1, 2, none⟩ c).setCell ⟨w.heap.size + 1, 3, none⟩ d).setCell ⟨w.heap.size + 1, 4, none⟩ e).setCell ⟨w.heap.size + 1, 5, none⟩ f) ∧
    Blk ((((((W.setCell ⟨w.heap.size + 1, 0, none⟩ a).setCell ⟨w.heap.size + 1, 1, none⟩ b).setCell ⟨w.heap.size + 1, 2, none⟩ c).setCell ⟨w.heap.size + 1, 3, none⟩ d).setCell ⟨w.heap.size + 1, 4, none⟩ e).setCell ⟨w.heap.size + 1, 5, none⟩ f) (w.heap.size + 1) T #[a, b, c, d, e, f] :=
  ⟨below_six h.below (by omega) a b c d e f, blk_store6 h.res⟩
theorem own_six {w W : World} {α : Type} {E : Enc α} {V : TypeId} {v : Value} {l : List α} (ho : Own W (w.heap.size + 2) E V v l) (a b c d e f : Value) :
    Own ((((((W.setCell ⟨w.heap.size + 1, 0, none⟩ a).setCell ⟨w.heap.size + 1, 1, none⟩ b).setCell ⟨w.heap.size + 1, 2, none⟩ c).setCell ⟨w.heap.size + 1, 3, none⟩ d).setCell ⟨w.heap.size + 1, 4, none⟩ e).setCell ⟨w.heap.size + 1, 5, none⟩ f) w.heap.size E V v l := by
  have hb := own_out ho (b := w.heap.size + 1) (by omega)
  exact own_base (own_keep ho fun g hg => by
    have hne : g ≠ w.heap.size + 1 := fun e => hb (by rw [hg, e])
    obtain ⟨ob, hob⟩ : ∃ ob, W.heap[g]? = some ob := ⟨_, (own_blk ho hg).2.2.choose_spec⟩
    rw [hob]
    exact (keep_six W (w.heap.size + 1) a b c d e f).block g ob hob hne) (by omega)
/-- what was made behind a row of one's own is not its block -/
theorem own_apart {α β : Type} {E1 : Enc α} {E2 : Enc β} {T1 T2 : TypeId} {W1 W2 : World} {b1 b2 : Nat} {v1 v2 : Value} {l1 : List α} {l2 : List β} (h1 : Own W1 b1 E1 T1 v1 l1) (h2 : Own W2 b2 E2 T2 v2 l2) (hb : W1.heap.size ≤ b2) :
    ∀ g, v1.ownBlock = some g → v2.ownBlock ≠ some g := fun g hg e => by
  have a := (own_blk h1 hg).2.1
  have b := (own_blk h2 e).1
  omega
end Go.Proofs.Ytdjmjckmbclhiaa
namespace Go.Proofs.Ytdjmjckmbclhiaa
open Go.RowKit
set_option maxHeartbeats 1000000 in
theorem copied_ {w : World} {o : Ob} {r m d : Value} (h : ObAt w o r m d) (hn : o.short 100000) :
    Calls Try.prog 92 #[o.val r m d] w fun e w' => ∃ r' m' d', e = .returned (o.val r' m' d') ∧ ObOwn w' w.heap.size o r' m' d' ∧ Below w.heap.size w w' := by
  obtain ⟨s, k, l, rs, ms, ds⟩ := o
  obtain ⟨⟨A1, c1, rfl, l1, k1, x1, n1⟩, ⟨A2, c2, rfl, l2, k2, x2, n2⟩, ⟨A3, c3, rfl, l3, k3, x3, n3⟩⟩ := h
  obtain ⟨s1, s2, s3⟩ := hn
  simp only at l1 l2 l3 k1 k2 k3 s1 s2 s3
  simp only [Ob.val, Ob.cells]
  have hT0 := TwoB.new w 36 #[.string s, .int .i64 k, .int .i64 l, .slice A1 rs.length c1, .slice A2 ms.length c2, .slice A3 ds.length c3] #[.string ⟨#[]⟩, .int .i64 0, .int .i64 0, .slice none 0 0, .slice none 0 0, .slice none 0 0]
  have hcl := clone_r (c := c1) (l1.below hT0.below) rfl s1 n1
  have HT0 := Lib.hid hT0
  have HCL := Lib.hid hcl
  have L2 := Lib.hid l2
  have L3 := Lib.hid l3
  clear hT0 hcl l1 l2 l3
  generalize hm1 : rs.length = m1 at *
  generalize hm2 : ms.length = m2 at *
  generalize hm3 : ds.length = m3 at *
  have HM1 := Lib.hid hm1
  have HM2 := Lib.hid hm2
  have HM3 := Lib.hid hm3
  clear hm1 hm2 hm3
  go_enter Try.func92, Try.ntmps92
  go_wp2_with fail
  refine HCL.out.mono ?_
  rintro e w1 ⟨v1, rfl, ho1, hb1⟩
  have hT1 := HT0.out.step hb1
  obtain ⟨B1, b1, rfl⟩ := own_shape ho1 HM1.out
  have q3 := hT1.obj.cell 3
  have f3 := hT1.obj.frozen 3
  have q4 := hT1.obj.cell 4
  have ho1' := own_base (base' := w.heap.size + 2) ho1 HT0.out.size
  have hT1' := hT1.store 3 (.slice B1 m1 b1)
  have ho1'' := TwoB.own (w := w) ho1' (by omega) 3 (.slice B1 m1 b1)
  have hcl2 := clone_m (c := c2) (L2.out.below hT1'.below) HM2.out s2 n2
  have HO1 := Lib.hid ho1''
  have HT1 := Lib.hid hT1'
  have HCL2 := Lib.hid hcl2
  clear ho1 hb1 hT1 ho1' hT1' ho1'' hcl2 HCL HT0
  go_wp2_with fail
  refine HCL2.out.mono ?_
  rintro e w2 ⟨v2, rfl, ho2, hb2⟩
  have hT2 := HT1.out.step hb2
  obtain ⟨B2, b2, rfl⟩ := own_shape ho2 HM2.out
  have p4 := hT2.obj.cell 4
  have g4 := hT2.obj.frozen 4
  have p5 := hT2.obj.cell 5
  have hA12 := own_apart HO1.out ho2 (Nat.le_refl _)
  have ho2' := own_base (base' := w.heap.size + 2) ho2 HT1.out.size
  have hT2' := hT2.store 4 (.slice B2 m2 b2)
  have ho2'' := TwoB.own (w := w) ho2' (by omega) 4 (.slice B2 m2 b2)
  have ho1'' := TwoB.own (w := w) (own_belowE HO1.out hb2) (by omega) 4 (.slice B2 m2 b2)
  have hcl3 := clone_m (c := c3) (L3.out.below hT2'.below) HM3.out s3 n3
  have A12 := Lib.hid hA12
  have HO2 := Lib.hid ho2''
  have HP1 := Lib.hid ho1''
  have HT2 := Lib.hid hT2'
  have HCL3 := Lib.hid hcl3
  clear ho2 hb2 hT2 ho2' hT2' ho2'' ho1'' hcl3 HCL2 HT1 HO1 hA12 q3 f3 q4
  go_wp2_with fail
  refine HCL3.out.mono ?_
  rintro e w3 ⟨v3, rfl, ho3, hb3⟩
  have hT3 := HT2.out.step hb3
  obtain ⟨B3, b3, rfl⟩ := own_shape ho3 HM3.out
  have p5' := hT3.obj.cell 5
  have g5 := hT3.obj.frozen 5
  have hA13 := own_apart HP1.out ho3 (Nat.le_refl _)
  have hA23 := own_apart HO2.out ho3 (Nat.le_refl _)
  have ho3' := own_base (base' := w.heap.size + 2) ho3 HT2.out.size
  have hT3' := hT3.store 5 (.slice B3 m3 b3)
  have ho3'' := TwoB.own (w := w) ho3' (by omega) 5 (.slice B3 m3 b3)
  have ho2'' := TwoB.own (w := w) (own_belowE HO2.out hb3) (by omega) 5 (.slice B3 m3 b3)
  have ho1'' := TwoB.own (w := w) (own_belowE HP1.out hb3) (by omega) 5 (.slice B3 m3 b3)
  have o0 := hT3'.obj.cell 0
  have o1 := hT3'.obj.cell 1
  have o2 := hT3'.obj.cell 2
  have o3 := hT3'.obj.cell 3
  have o4 := hT3'.obj.cell 4
  have o5 := hT3'.obj.cell 5
  have r0 := hT3'.res.cell 0
  have r1 := hT3'.res.cell 1
  have r2 := hT3'.res.cell 2
  have r3 := hT3'.res.cell 3
  have r4 := hT3'.res.cell 4
  have r5 := hT3'.res.cell 5
  have e0 := hT3'.res.frozen 0
  have e1 := hT3'.res.frozen 1
  have e2 := hT3'.res.frozen 2
  have e3 := hT3'.res.frozen 3
  have e4 := hT3'.res.frozen 4
  have e5 := hT3'.res.frozen 5
  obtain ⟨hend, hres⟩ := hT3'.last (.string s) (.int .i64 k) (.int .i64 l) (.slice B1 m1 b1) (.slice B2 m2 b2) (.slice B3 m3 b3)
  have hobj : ObOwn _ w.heap.size ⟨s, k, l, rs, ms, ds⟩ (.slice B1 m1 b1) (.slice B2 m2 b2) (.slice B3 m3 b3) :=
    ⟨own_six ho1'' (.string s) (.int .i64 k) (.int .i64 l) (.slice B1 m1 b1) (.slice B2 m2 b2) (.slice B3 m3 b3), own_six ho2'' _ _ _ _ _ _, own_six ho3'' _ _ _ _ _ _, fun g hg => ⟨A12.out g hg, hA13 g hg⟩, hA23⟩
  have HOBJ := Lib.hid hobj
  have HEND := Lib.hid hend
  have t0 := hres.cell 0
  have t1 := hres.cell 1
  have t2 := hres.cell 2
  have t3 := hres.cell 3
  have t4 := hres.cell 4
  have t5 := hres.cell 5
  clear ho3 hb3 hT3 ho3' hT3' ho3'' ho2'' ho1'' HCL3 HT2 HO2 HP1 hA13 hA23 A12 hobj hend hres p4 g4 p5
  simp only [Array.setIfInBounds, List.getElem?_toArray, List.getElem?_cons_zero, List.getElem?_cons_succ] at o0 o1 o2 o3 o4 o5 r0 r1 r2 r3 r4 r5 t0 t1 t2 t3 t4 t5
  go_wp2_with fail
  refine bodyPost_ret (v := .agg #[.string s, .int .i64 k, .int .i64 l, .slice B1 m1 b1, .slice B2 m2 b2, .slice B3 m3 b3]) (by simp [results, Try.results92, go_sem, t0, t1, t2, t3, t4, t5]) rfl ?_
  exact ⟨_, _, _, rfl, HOBJ.out, HEND.out⟩
end Go.Proofs.Ytdjmjckmbclhiaa
namespace Go.Proofs.Ytdjmjckmbclhiaa
open Go.RowKit
/-- a message stored over another one -/
theorem own_set6 {W : World} {base g n c : Nat} {ys : List Mg} (h : OwnM W base (.slice (some ⟨g, 0, none⟩) n c) ys) {q : Nat} (hq : q < ys.length) (x : Mg) :
    OwnM ((((((W.setCell ⟨g, q * 6, none⟩ (.int .i64 x.id)).setCell ⟨g, q * 6 + 1, none⟩ (.int .i64 x.pri)).setCell ⟨g, q * 6 + 2, none⟩ (.int .i64 x.retry)).setCell ⟨g, q * 6 + 3, none⟩ (.bool x.claimed)).setCell ⟨g, q * 6 + 4, none⟩ (.string x.corr)).setCell ⟨g, q * 6 + 5, none⟩ (.string x.body)) base (.slice (some ⟨g, 0, none⟩) n c) (ys.set q x) := by
  obtain ⟨y0, y1, y2, y3, y4, y5, hy⟩ : ∃ a b c d e f, ys[q] = (⟨a, b, c, d, e, f⟩ : Mg) := ⟨_, _, _, _, _, _, rfl⟩
  obtain ⟨x0, x1, x2, x3, x4, x5⟩ := x
  have hk : eM.k = 6 := rfl
  have s0 := own_set1 h hq ⟨x0, y1, y2, y3, y4, y5⟩ (i := 0) (u := .int .i64 x0) (by rw [hk]; omega) (by rw [hy]; rfl)
  have s1 := own_set1 s0 (q := q) (by rw [List.length_set]; exact hq) ⟨x0, x1, y2, y3, y4, y5⟩ (i := 1) (u := .int .i64 x1) (by rw [hk]; omega) (by rw [List.getElem_set_self]; rfl)
  have s2 := own_set1 s1 (q := q) (by rw [List.length_set, List.length_set]; exact hq) ⟨x0, x1, x2, y3, y4, y5⟩ (i := 2) (u := .int .i64 x2) (by rw [hk]; omega) (by rw [List.getElem_set_self]; rfl)
  have s3 := own_set1 s2 (q := q) (by rw [List.length_set, List.length_set, List.length_set]; exact hq) ⟨x0, x1, x2, x3, y4, y5⟩ (i := 3) (u := .bool x3) (by rw [hk]; omega) (by rw [List.getElem_set_self]; rfl)
  have s4 := own_set1 s3 (q := q) (by rw [List.length_set, List.length_set, List.length_set, List.length_set]; exact hq) ⟨x0, x1, x2, x3, x4, y5⟩ (i := 4) (u := .string x4) (by rw [hk]; omega) (by rw [List.getElem_set_self]; rfl)
  have s5 := own_set1 s4 (q := q) (by rw [List.length_set, List.length_set, List.length_set, List.length_set, List.length_set]; exact hq) ⟨x0, x1, x2, x3, x4, x5⟩ (i := 5) (u := .string x5) (by rw [hk]; omega) (by rw [List.getElem_set_self]; rfl)
  simp only [List.set_set, hk, Nat.add_zero] at s5
  exact s5
/-- an object of the call's own at block O, its argument's block and its result's, and its rows -/
structure FrS (w : World) (a : Array Value) (O : Nat) (o : Ob) (r m d : Value) (W : World) : Prop where
  below : Below w.heap.size w W
  arg : Blk W w.heap.size 36 a
  res : Blk W (w.heap.size + 1) 36 #[.string ⟨#[]⟩, .int .i64 0, .int .i64 0, .slice none 0 0, .slice none 0 0, .slice none 0 0]
  obj : Blk W O 36 (o.cells r m d)
  out : w.heap.size + 2 ≤ O
  own : ObOwn W (w.heap.size + 2) o r m d
  n1 : r.ownBlock ≠ some O
  n2 : m.ownBlock ≠ some O
  n3 : d.ownBlock ≠ some O
section
variable {w W W' : World} {a : Array Value} {O : Nat} {o : Ob} {r m d : Value}
theorem FrS.step (h : FrS w a O o r m d W) (k : Below W.heap.size W W') : FrS w a O o r m d W' :=
  ⟨h.below.trans (k.mono h.below.size), h.arg.below k h.arg.lt, h.res.below k h.res.lt, h.obj.below k h.obj.lt, h.out, h.own.below k, h.n1, h.n2, h.n3⟩
theorem FrS.new {w w0 w1 : World} {o : Ob} {r m d : Value} {cs : Array Value} (hT : TwoB w 36 cs #[.string ⟨#[]⟩, .int .i64 0, .int .i64 0, .slice none 0 0, .slice none 0 0, .slice none 0 0] w0) (ho : ObOwn w1 w0.heap.size o r m d) (hb : Below w0.heap.size w0 w1) :
    FrS w cs w1.heap.size o r m d (w1.alloc (.cells (o.cells r m d) 36)) := by
  have h1 := hT.step hb
  have h2 := h1.step (alloc_below w1 (.cells (o.cells r m d) 36))
  have lt : ∀ {v : Value}, (∀ g, v.ownBlock = some g → g < w1.heap.size) → v.ownBlock ≠ some w1.heap.size := fun h e => Nat.lt_irrefl _ (h _ e)
  exact ⟨h2.below, h2.obj, h2.res, Blk.new w1 _ _, h1.size, (ho.below (alloc_below w1 _)).base hT.size, lt fun g e => (own_blk ho.rows e).2.1, lt fun g e => (own_blk ho.msgs e).2.1, lt fun g e => (own_blk ho.dead e).2.1⟩
/-- what its own messages' block alone turns -/
theorem FrS.turn (h : FrS w a O o r m d W) {g : Nat} (hm : m.ownBlock = some g) (k : Keep (fun i _ => i ≠ g) W W') {ms : List Mg} (hms : OwnM W' (w.heap.size + 2) m ms) : FrS w a O { o with msgs := ms } r m d W' := by
  obtain ⟨hg1, hg2, _⟩ := own_blk h.own.msgs hm
  have hO : O ≠ g := fun e => h.n2 (by rw [hm, e])
  refine ⟨h.below.trans (k.below h.below.size fun i _ hi e => ?_), h.arg.keep k (by omega), h.res.keep k (by omega), h.obj.keep k hO, h.out, ⟨?_, hms, ?_, h.own.a1, h.own.a2⟩, h.n1, h.n2, h.n3⟩
  · omega
  · exact own_keep h.own.rows fun i hi => by
      obtain ⟨ob, hob⟩ : ∃ ob, W.heap[i]? = some ob := ⟨_, (own_blk h.own.rows hi).2.2.choose_spec⟩
      rw [hob]
      exact k.block i ob hob fun e => (h.own.a1 i hi).1 (by rw [hm, e])
  · exact own_keep h.own.dead fun i hi => by
      obtain ⟨ob, hob⟩ : ∃ ob, W.heap[i]? = some ob := ⟨_, (own_blk h.own.dead hi).2.2.choose_spec⟩
      rw [hob]
      exact k.block i ob hob fun e => h.own.a2 g hm (by rw [hi, e])
/-- its own messages' block turned, and their slice stored anew -/
theorem FrS.recut (h : FrS w a O o r m d W) {g : Nat} (hm : m.ownBlock = some g) (k : Keep (fun i _ => i ≠ g) W W') {m' : Value} (hm' : m'.ownBlock = m.ownBlock) {ms : List Mg} (hms : OwnM W' (w.heap.size + 2) m' ms) :
    Blk W' O 36 (o.cells r m d) ∧ FrS w a O { o with msgs := ms } r m' d (W'.setCell ⟨O, 4, none⟩ m') := by
  obtain ⟨hg1, hg2, _⟩ := own_blk h.own.msgs hm
  have hO : O ≠ g := fun e => h.n2 (by rw [hm, e])
  have h4 := h.out
  have hob := h.obj.keep k hO
  refine ⟨hob, (h.below.trans (k.below h.below.size fun i _ hi e => ?_)).setCell (by show w.heap.size ≤ O; omega) _, (h.arg.keep k (by omega)).far (by show w.heap.size ≠ O; omega) _, (h.res.keep k (by omega)).far (by show w.heap.size + 1 ≠ O; omega) _, ?_, h.out, ⟨own_far ?_ h.n1 _, own_far hms (by rw [hm']; exact h.n2) _, own_far ?_ h.n3 _, ?_, ?_⟩, h.n1, by rw [hm']; exact h.n2, h.n3⟩
  · omega
  · have := hob.set_ 4 m'
    simpa [Ob.cells] using this
  · exact own_keep h.own.rows fun i hi => by
      obtain ⟨ob, hob⟩ : ∃ ob, W.heap[i]? = some ob := ⟨_, (own_blk h.own.rows hi).2.2.choose_spec⟩
      rw [hob]
      exact k.block i ob hob fun e => (h.own.a1 i hi).1 (by rw [hm, e])
  · exact own_keep h.own.dead fun i hi => by
      obtain ⟨ob, hob⟩ : ∃ ob, W.heap[i]? = some ob := ⟨_, (own_blk h.own.dead hi).2.2.choose_spec⟩
      rw [hob]
      exact k.block i ob hob fun e => h.own.a2 g hm (by rw [hi, e])
  · rw [hm']; exact h.own.a1
  · rw [hm']; exact h.own.a2
/-- its messages' slice stored anew, a row that was made behind -/
theorem FrS.mnew (h : FrS w a O o r m d W) (k : Below W.heap.size W W') {m' : Value} {ms : List Mg} (hms : OwnM W' W.heap.size m' ms) :
    Blk W' O 36 (o.cells r m d) ∧ FrS w a O { o with msgs := ms } r m' d (W'.setCell ⟨O, 4, none⟩ m') := by
  have h4 := h.out
  have hs := h.step k
  have hl := h.obj.lt
  have hn : ∀ i, i < W.heap.size → m'.ownBlock ≠ some i := fun i hi => own_out hms hi
  refine ⟨hs.obj, hs.below.setCell (by show w.heap.size ≤ O; omega) _, hs.arg.far (by show w.heap.size ≠ O; omega) _, hs.res.far (by show w.heap.size + 1 ≠ O; omega) _, ?_, h.out, ⟨own_far hs.own.rows h.n1 _, own_far (own_base hms (by have := h.res.lt; omega)) (hn O hl) _, own_far hs.own.dead h.n3 _, ?_, ?_⟩, h.n1, hn O hl, h.n3⟩
  · have := hs.obj.set_ 4 m'
    simpa [Ob.cells] using this
  · exact fun g hg => ⟨hn g (own_blk h.own.rows hg).2.1, (h.own.a1 g hg).2⟩
  · exact fun g hg e => hn g (own_blk h.own.dead e).2.1 hg
/-- those set aside: one more, and their slice stored anew -/
theorem FrS.dead (h : FrS w a O o r m d W) {d' : Value} {ds : List Mg} (hg : W.grownBy W' d.ownBlock) (hd : OwnM W' (w.heap.size + 2) d' ds) (hb : d'.ownBlock = d.ownBlock ∨ ∃ N, d'.ownBlock = some N ∧ W.heap.size ≤ N) :
    Blk W' O 36 (o.cells r m d) ∧ FrS w a O { o with dead := ds } r m d' (W'.setCell ⟨O, 5, none⟩ d') := by
  have h4 := h.out
  have hOl := h.obj.lt
  have kO : ∀ i, i < W.heap.size → d.ownBlock ≠ some i → W'.heap[i]? = W.heap[i]? := fun i hi hne => hg.block i hi fun e => hne e.symm
  have nO : d'.ownBlock ≠ some O := by
    rcases hb with e | ⟨N, e, hN⟩
    · rw [e]; exact h.n3
    · rw [e]; intro e; injection e with e; omega
  have hlr : ∀ g, r.ownBlock = some g → d'.ownBlock ≠ some g := fun g hg' => by
    rcases hb with e | ⟨N, e, hN⟩
    · rw [e]; exact (h.own.a1 g hg').2
    · rw [e]; intro e; injection e with e
      have := (own_blk h.own.rows hg').2.1
      omega
  have hlm : ∀ g, m.ownBlock = some g → d'.ownBlock ≠ some g := fun g hg' => by
    rcases hb with e | ⟨N, e, hN⟩
    · rw [e]; exact h.own.a2 g hg'
    · rw [e]; intro e; injection e with e
      have := (own_blk h.own.msgs hg').2.1
      omega
  have hbel : Below w.heap.size w W' := h.below.grown hg h.below.size fun g e => by
    have := (own_blk h.own.dead e).1
    omega
  have hR : Blk W' (w.heap.size + 1) 36 #[.string ⟨#[]⟩, .int .i64 0, .int .i64 0, .slice none 0 0, .slice none 0 0, .slice none 0 0] := (kO _ h.res.lt (own_out h.own.dead (by omega))).trans h.res
  have hA : Blk W' w.heap.size 36 a := (kO _ h.arg.lt (own_out h.own.dead (by omega))).trans h.arg
  have hOb : Blk W' O 36 (o.cells r m d) := (kO _ hOl h.n3).trans h.obj
  refine ⟨hOb, hbel.setCell (by show w.heap.size ≤ O; omega) _, hA.far (by show w.heap.size ≠ O; omega) _, hR.far (by show w.heap.size + 1 ≠ O; omega) _, ?_, h.out, ⟨own_far ?_ h.n1 _, own_far ?_ h.n2 _, own_far hd nO _, fun g hg' => ⟨(h.own.a1 g hg').1, hlr g hg'⟩, hlm⟩, h.n1, h.n2, nO⟩
  · have := hOb.set_ 5 d'
    simpa [Ob.cells] using this
  · exact own_keep h.own.rows fun i hi => kO i (own_blk h.own.rows hi).2.1 (h.own.a1 i hi).2
  · exact own_keep h.own.msgs fun i hi => kO i (own_blk h.own.msgs hi).2.1 (h.own.a2 i hi)
/-- the result: six cells stored -/
theorem FrS.last (h : FrS w a O o r m d W) : Below w.heap.size w ((((((W.setCell ⟨w.heap.size + 1, 0, none⟩ (.string o.name)).setCell ⟨w.heap.size + 1, 1, none⟩ (.int .i64 o.kind)).setCell ⟨w.heap.size + 1, 2, none⟩ (.int .i64 o.limit)).setCell ⟨w.heap.size + 1, 3, none⟩ r).setCell ⟨w.heap.size + 1, 4, none⟩ m).setCell ⟨w.heap.size + 1, 5, none⟩ d) ∧
    Blk ((((((W.setCell ⟨w.heap.size + 1, 0, none⟩ (.string o.name)).setCell ⟨w.heap.size + 1, 1, none⟩ (.int .i64 o.kind)).setCell ⟨w.heap.size + 1, 2, none⟩ (.int .i64 o.limit)).setCell ⟨w.heap.size + 1, 3, none⟩ r).setCell ⟨w.heap.size + 1, 4, none⟩ m).setCell ⟨w.heap.size + 1, 5, none⟩ d) (w.heap.size + 1) 36 (o.cells r m d) ∧
    ObOwn ((((((W.setCell ⟨w.heap.size + 1, 0, none⟩ (.string o.name)).setCell ⟨w.heap.size + 1, 1, none⟩ (.int .i64 o.kind)).setCell ⟨w.heap.size + 1, 2, none⟩ (.int .i64 o.limit)).setCell ⟨w.heap.size + 1, 3, none⟩ r).setCell ⟨w.heap.size + 1, 4, none⟩ m).setCell ⟨w.heap.size + 1, 5, none⟩ d) w.heap.size o r m d :=
  ⟨below_six h.below (by omega) _ _ _ _ _ _, blk_store6 h.res, own_six h.own.rows _ _ _ _ _ _, own_six h.own.msgs _ _ _ _ _ _, own_six h.own.dead _ _ _ _ _ _, h.own.a1, h.own.a2⟩
end
end Go.Proofs.Ytdjmjckmbclhiaa
namespace Go.Proofs.Ytdjmjckmbclhiaa
open Go.RowKit
/-- a fact that the walk must not look through -/
structure ShutF (p : Prop) : Prop where out : p
/-- what a call of Free leaves -/
def Freed (w : World) (o : Ob) (id : Int) (tried : Bool) (e : Ending) (w' : World) : Prop :=
  ∃ r' m' d', e = .returned (.tuple #[(freeO o id tried).val r' m' d', .bool (freeOk o id)]) ∧ ObOwn w' w.heap.size (freeO o id tried) r' m' d' ∧ Below w.heap.size w w'
/-- the same, of a known object -/
def Back (w : World) (o : Ob) (b : Bool) (e : Ending) (w' : World) : Prop := ∃ r' m' d', e = .returned (.tuple #[o.val r' m' d', .bool b]) ∧ ObOwn w' w.heap.size o r' m' d' ∧ Below w.heap.size w w'
theorem Freed.as {w : World} {o o' : Ob} {id : Int} {tried b : Bool} (h : freeO o id tried = o' ∧ freeOk o id = b) : ∀ e w', Freed w o id tried e w' → Back w o' b e w' := by
  obtain ⟨h1, h2⟩ := h
  subst h1 h2
  exact fun _ _ h => h
theorem FrS.freed {w W : World} {a : Array Value} {O : Nat} {o o' : Ob} {r m d : Value} (h : FrS w a O o' r m d W) {id : Int} {tried b : Bool} (hf : freeOk o id = b ∧ freeO o id tried = o') :
    Freed w o id tried (.returned (.tuple #[.agg #[.string o'.name, .int .i64 o'.kind, .int .i64 o'.limit, r, m, d], .bool b])) ((((((W.setCell ⟨w.heap.size + 1, 0, none⟩ (.string o'.name)).setCell ⟨w.heap.size + 1, 1, none⟩ (.int .i64 o'.kind)).setCell ⟨w.heap.size + 1, 2, none⟩ (.int .i64 o'.limit)).setCell ⟨w.heap.size + 1, 3, none⟩ r).setCell ⟨w.heap.size + 1, 4, none⟩ m).setCell ⟨w.heap.size + 1, 5, none⟩ d) := by
  obtain ⟨h1, h2⟩ := hf
  subst h1 h2
  obtain ⟨k1, _, k3⟩ := h.last
  exact ⟨r, m, d, rfl, k3, k1⟩
/-- a block that was made ahead of a call -/
theorem blk_behind {w w3 : World} {T : TypeId} {cs : Array Value} (hb : Below (w.alloc (.cells cs T)).drew.heap.size (w.alloc (.cells cs T)).drew w3) : Blk w3 w.heap.size T cs := (Blk.new w T cs).drew.below hb (by simp)
theorem keep_six_at (w : World) (g i : Nat) (a b c d e f : Value) : Keep (fun j _ => j ≠ g) w ((((((w.setCell ⟨g, i, none⟩ a).setCell ⟨g, i + 1, none⟩ b).setCell ⟨g, i + 2, none⟩ c).setCell ⟨g, i + 3, none⟩ d).setCell ⟨g, i + 4, none⟩ e).setCell ⟨g, i + 5, none⟩ f) := by
  have hp : ∀ o : Obj, w.heap[g]? = some o → ¬ (g ≠ g) := fun _ _ h => h rfl
  exact ((((((Keep.refl w).setCell (p := ⟨g, i, none⟩) hp a).setCell (p := ⟨g, i + 1, none⟩) hp b).setCell (p := ⟨g, i + 2, none⟩) hp c).setCell (p := ⟨g, i + 3, none⟩) hp d).setCell (p := ⟨g, i + 4, none⟩) hp e).setCell (p := ⟨g, i + 5, none⟩) hp f
/-- one message more behind a row of one's own, as its slice -/
theorem append_m {W : World} {base n : Nat} {v : Value} {l : List Mg} (ho : OwnM W base v l) (hn : l.length = n) (hn2 : n ≤ 100000) (hb : base ≤ W.heap.size) (x : Mg) :
    ∃ A c W', (Builtin.append_ #[34, 34] 34 #[v, .slice (some ⟨W.heap.size, 0, none⟩) 1 1]).run Try.prog (W.alloc (.cells x.cells 38)) = .ok (.slice A (n + 1) c) W' ∧ OwnM W' base (.slice A (n + 1) c) (l ++ [x]) ∧ (W.alloc (.cells x.cells 38)).grownBy W' v.ownBlock ∧
      ((Value.slice A (n + 1) c).ownBlock = v.ownBlock ∨ ∃ N, (Value.slice A (n + 1) c).ownBlock = some N ∧ (W.alloc (.cells x.cells 38)).heap.size ≤ N) := by
  have hal := alloc_below W (.cells x.cells 38)
  have hone := one_lst eM W 38 x (cs := x.cells) rfl
  obtain ⟨v', W', hap, ho', hg, hv⟩ := append_own tyM (own_belowE ho hal) hone rfl 1 (by show l.length + 1 ≤ _; omega) (Nat.le_trans hb hal.size)
  obtain ⟨A, c, rfl⟩ := own_shape ho' (n := n + 1) (by rw [List.length_append, hn]; rfl)
  refine ⟨A, c, W', hap, ho', hg, ?_⟩
  rcases hv with h | h
  · exact .inl h
  · exact .inr ⟨_, h, Nat.le_refl _⟩
/-- one message of a row of one's own: where it lies -/
theorem own_at {W : World} {base n c q : Nat} {A : Option Addr} {ys : List Mg} (hq : q < ys.length) (h : OwnM W base (.slice A n c) ys) :
    ∃ g, A = some ⟨g, 0, none⟩ ∧ base ≤ g ∧ W.cell? ⟨g, q * 6, none⟩ = some (.int .i64 ys[q].id) ∧ W.cell? ⟨g, q * 6 + 1, none⟩ = some (.int .i64 ys[q].pri) ∧ W.cell? ⟨g, q * 6 + 2, none⟩ = some (.int .i64 ys[q].retry) ∧
      W.cell? ⟨g, q * 6 + 3, none⟩ = some (.bool ys[q].claimed) ∧ W.cell? ⟨g, q * 6 + 4, none⟩ = some (.string ys[q].corr) ∧ W.cell? ⟨g, q * 6 + 5, none⟩ = some (.string ys[q].body) ∧ ∀ j, W.frozen? ⟨g, j, none⟩ = false := by
  obtain ⟨g, cur, rfl, hg, hb, hc⟩ := own_slot h (by omega)
  refine ⟨g, rfl, hg, ?_, ?_, ?_, ?_, ?_, ?_, fun j => hb.frozen j⟩
  · exact hc _ _ (cellsE_at eM hq (i := 0) rfl)
  · exact hc _ _ (cellsE_at eM hq (i := 1) rfl)
  · exact hc _ _ (cellsE_at eM hq (i := 2) rfl)
  · exact hc _ _ (cellsE_at eM hq (i := 3) rfl)
  · exact hc _ _ (cellsE_at eM hq (i := 4) rfl)
  · exact hc _ _ (cellsE_at eM hq (i := 5) rfl)
end Go.Proofs.Ytdjmjckmbclhiaa
namespace Go.Proofs.Ytdjmjckmbclhiaa
open Go.RowKit
section
variable {α : Type} {E : Enc α} {T : TypeId}
/-- the block behind the move, and behind the clearing -/
theorem own_delete {W : World} {base g n c : Nat} {ys : List α} (h : Own W base E T (.slice (some ⟨g, 0, none⟩) n c) ys) {q : Nat} (hq : q < ys.length) (zs : List Value) (hz : zs.length = E.k) :
    n = ys.length ∧ n ≤ c ∧ c ≤ maxLen ∧ ∃ cur cur1 : Array Value, Blk W g T cur ∧ cur.size = c * E.k ∧ Blk (W.setCells g (q * E.k) (cellsE E (ys.drop (q + 1)))) g T cur1 ∧ cur1.size = c * E.k ∧
      Own ((W.setCells g (q * E.k) (cellsE E (ys.drop (q + 1)))).setCells g ((n - 1) * E.k) zs) base E T (.slice (some ⟨g, 0, none⟩) (n - 1) c) (ys.eraseIdx q) := by
  rcases h.2 with ⟨e, _⟩ | ⟨g', cap, cur, e, hb, hh, hnc, hcm, hcs, htk⟩
  · cases e
  · injection e with e1 e2 e3
    injection e1 with e1
    injection e1 with e1 _ _
    subst e1 e2 e3
    have hk := E.pos
    have hce : cellsE E ys = cellsE E (ys.take q) ++ (E.enc ys[q] ++ cellsE E (ys.drop (q + 1))) := by
      conv => lhs; rw [← List.take_append_drop q ys, List.drop_eq_getElem_cons hq, cellsE_append, cellsE]
    have hpl : (cellsE E (ys.take q)).length = q * E.k := by rw [cellsE_length, List.length_take, Nat.min_eq_left (by omega)]
    have hdl : (cellsE E (ys.drop (q + 1))).length = (ys.length - (q + 1)) * E.k := by rw [cellsE_length, List.length_drop]
    have hlen : (E.enc ys[q]).length = E.k := E.len _
    obtain ⟨mid, hmid⟩ : ∃ mid, mid = E.enc ys[q] ++ cellsE E (ys.drop (q + 1)) := ⟨_, rfl⟩
    have hml : mid.length = E.k + (ys.length - (q + 1)) * E.k := by rw [hmid, List.length_append, hlen, hdl]
    obtain ⟨rest, hrest⟩ : ∃ rest, rest = cur.toList.drop (ys.length * E.k) := ⟨_, rfl⟩
    have hcur : cur.toList = cellsE E (ys.take q) ++ mid ++ rest := by
      conv => lhs; rw [← List.take_append_drop (ys.length * E.k) cur.toList, htk, hce]
      rw [hmid, hrest]
    obtain ⟨news, hnews⟩ : ∃ news, news = cellsE E (ys.drop (q + 1)) := ⟨_, rfl⟩
    rw [← hnews]
    rw [← hnews] at hdl
    have hb0 : Blk W g T (cellsE E (ys.take q) ++ mid.take news.length ++ (mid.drop news.length ++ rest)).toArray := by
      have : cellsE E (ys.take q) ++ mid.take news.length ++ (mid.drop news.length ++ rest) = cellsE E (ys.take q) ++ mid ++ rest := by
        rw [List.append_assoc, ← List.append_assoc (mid.take _), List.take_append_drop, List.append_assoc]
      rw [this, ← hcur]
      exact hh
    have hb1 := blk_setCells news _ (mid.take news.length) _ W (by rw [List.length_take]; omega) hb0
    rw [hpl] at hb1
    have hb1' : Blk (W.setCells g (q * E.k) news) g T ((cellsE E (ys.take q) ++ news) ++ mid.drop news.length ++ rest).toArray := by
      have : (cellsE E (ys.take q) ++ news) ++ mid.drop news.length ++ rest = cellsE E (ys.take q) ++ news ++ (mid.drop news.length ++ rest) := by simp only [List.append_assoc]
      rw [this]
      exact hb1
    have hb2 := blk_setCells zs _ (mid.drop news.length) _ _ (by rw [List.length_drop, hml, hdl]; omega) hb1'
    have hqk : (cellsE E (ys.take q) ++ news).length = (ys.length - 1) * E.k := by
      rw [List.length_append, hpl, hdl, ← Nat.add_mul]
      congr 1
      omega
    rw [hqk] at hb2
    have hsz := congrArg List.length hcur
    simp only [Array.length_toList, List.length_append, hpl, hml] at hsz
    have hdm : (mid.drop news.length).length = E.k := by rw [List.length_drop, hml, hdl]; omega
    refine ⟨rfl, hnc, hcm, cur, _, hh, hcs, hb1, ?_, ?_⟩
    · simp only [List.size_toArray, List.length_append]
      rw [hpl, hdm]
      omega
    · have hel : (ys.eraseIdx q).length = ys.length - 1 := List.length_eraseIdx_of_lt hq
      have hec : cellsE E (ys.eraseIdx q) = cellsE E (ys.take q) ++ news := by rw [List.eraseIdx_eq_take_drop_succ, cellsE_append, hnews]
      refine ⟨by rw [cellsE_length], .inr ⟨g, c, _, by rw [hel], hb, hb2, by rw [hel]; omega, hcm, ?_, ?_⟩⟩
      · simp only [List.size_toArray, List.length_append, hpl, hdl, hz]
        omega
      · rw [hel, hec, List.toList_toArray, ← hqk, List.append_assoc, List.take_left]
end
end Go.Proofs.Ytdjmjckmbclhiaa
namespace Go.Proofs.Ytdjmjckmbclhiaa
open Go.RowKit
/-- a fact that the walk must not look through -/
structure ShutD (p : Prop) : Prop where out : p
/-- what clear stores over one message -/
def zcM : List Value := [.int .i64 0, .int .i64 0, .int .i64 0, .bool false, .string ⟨#[]⟩, .string ⟨#[]⟩]
theorem zc_at (w : World) (ty : TypeId) (b o c : Nat) (hc : ∀ j, j < 6 → (w.cell? ⟨b, o + j, none⟩).isSome = true) (hf : ∀ j, j < 6 → w.frozen? ⟨b, o + j, none⟩ = false) :
    (Builtin.clear_ #[34] ty #[.slice (some ⟨b, o, none⟩) 1 c]).run Try.prog w = .ok (.tuple #[]) (w.setCells b o zcM) := by
  have hst := run_storeCells_cells (P := Try.prog) b o zcM 0 w (by simpa [zcM] using hc) (by simpa [zcM] using hf) (by intro v hv; simp [zcM] at hv; rcases hv with rfl | rfl | rfl <;> rfl)
  simp only [Nat.add_zero] at hst
  have hz : (Builtin.zeroCells (Value.agg #[.int .i64 0, .int .i64 0, .int .i64 0, .bool false, .string ⟨#[]⟩, .string ⟨#[]⟩]).cells 1).toList = zcM := by kernel_rfl
  rw [← hz] at hst ⊢
  simp [Builtin.clear_, run_underlying Try.underlying34, Try.zeroValue38, hst]
theorem grown_setCells {w w1 : World} {g : Nat} (h : w.grownBy w1 (some g)) (o : Nat) (vs : List Value) : w.grownBy (w1.setCells g o vs) (some g) := by
  obtain ⟨h1, h2, h3, h4⟩ := setCells_plain g vs o w1
  exact ⟨h1.trans h.os, h2.trans h.tape, h3.trans h.output, by rw [h4]; exact h.size, fun i hi hne => (heap_setCells_far g vs o w1 i (fun e => hne (by rw [e]))).trans (h.block i hi hne)⟩
set_option maxHeartbeats 4000000 in
theorem delete_m {w : World} {base : Nat} {v : Value} {l : List Mg} {q : Nat} (ho : OwnM w base v l) (hq : q < l.length) (hn : l.length ≤ 100000) :
    Calls Try.prog 94 #[v, .int .i64 (q : Int), .int .i64 ((q : Int) + 1)] w fun e w' => ∃ v', e = .returned v' ∧ OwnM w' base v' (l.eraseIdx q) ∧ v'.ownBlock = v.ownBlock ∧ w.grownBy w' v.ownBlock := by
  obtain ⟨A, c, rfl⟩ := own_shape ho rfl
  obtain ⟨g, _, rfl, _⟩ := own_slot ho (by omega)
  have hod : OwnM w.drew base (.slice (some ⟨g, 0, none⟩) l.length c) l := ho
  obtain ⟨_, hlc, hcm, cur, cur1, hB, hBs, hB1, hB1s, hO1⟩ := own_delete hod hq zcM rfl
  obtain ⟨A0, c0, e0, hlst, _⟩ := own_lst hod
  injection e0 with eA _ ec
  subst eA ec
  obtain ⟨A', hsl, hL, hno⟩ := tail_m hlst rfl hlc (show q + 1 ≤ l.length by omega) rfl
  obtain ⟨a', rfl⟩ : ∃ a, A' = some a := by
    rcases A' with _ | a
    · cases hno rfl
    · exact ⟨a, rfl⟩
  have hsl' : ∀ W, (Instr.slice 34 (.slice (some ⟨g, 0, none⟩) l.length c) (some (.int .i64 ((q : Int) + 1))) none none).run Try.prog W = .ok (.slice (some a') (l.length - (q + 1)) (c - (q + 1))) W := hsl
  have hsrc : ∀ t u, (cellsE eM (l.drop (q + 1)))[t]? = some u → w.drew.cell? (a'.add t) = some u := fun t u hu => by
    have h0 : 0 < (l.drop (q + 1)).length := by
      rcases Nat.eq_zero_or_pos (l.drop (q + 1)).length with h0 | h0
      · rw [List.eq_nil_of_length_eq_zero h0] at hu
        simp [cellsE] at hu
      · exact h0
    obtain ⟨b, o, e, _, _, hc⟩ := hL h0
    injection e with e
    subst e
    rw [add_none]
    exact hc t u hu
  have hnl : (cellsE eM (l.drop (q + 1))).length = (l.length - (q + 1)) * 6 := by rw [cellsE_length, List.length_drop]; rfl
  have hk6 : eM.k = 6 := rfl
  rw [hk6] at hBs hB1 hB1s hO1
  have hone := cellsE_one eM (l.drop (q + 1))
  have hspare : ∀ t, t < (cellsE eM (l.drop (q + 1))).length → (w.drew.cell? ⟨g, 0 + q * 6 + t, none⟩).isSome = true ∧ w.drew.frozen? ⟨g, 0 + q * 6 + t, none⟩ = false := fun t ht => by
    rw [hnl] at ht
    refine ⟨?_, hB.frozen _⟩
    rw [hB.cell, Array.getElem?_eq_getElem (by rw [hBs]; omega)]
    rfl
  have hW1e : w.drew.setCells g (0 + q * 6) (cellsE eM (l.drop (q + 1))) = w.drew.setCells g (q * 6) (cellsE eM (l.drop (q + 1))) := by rw [Nat.zero_add]
  have hg1 : w.grownBy (w.drew.setCells g (q * 6) (cellsE eM (l.drop (q + 1)))) (some g) := grown_setCells (w := w) (w1 := w.drew) ⟨rfl, rfl, rfl, Nat.le_refl _, fun _ _ _ => rfl⟩ _ _
  have hcl : ∀ ty, (Builtin.clear_ #[34] ty #[.slice (some ⟨g, (l.length - 1) * 6, none⟩) 1 (c - (l.length - 1))]).run Try.prog (w.drew.setCells g (q * 6) (cellsE eM (l.drop (q + 1)))) = .ok (.tuple #[]) ((w.drew.setCells g (q * 6) (cellsE eM (l.drop (q + 1)))).setCells g ((l.length - 1) * 6) zcM) := fun ty =>
    zc_at _ ty g ((l.length - 1) * 6) _ (fun j hj => by rw [hB1.cell, Array.getElem?_eq_getElem (by rw [hB1s]; omega)]; rfl) (fun j _ => hB1.frozen _)
  have hg2 := grown_setCells hg1 ((l.length - 1) * 6) zcM
  obtain ⟨i0, hi0, hz0, hz1, hz2⟩ := info_parts infoM
  generalize cellsE eM (l.drop (q + 1)) = news at *
  generalize hW1 : w.drew.setCells g (q * 6) news = W1 at *
  have HE := ShutD.mk hW1e
  have S1 := ShutD.mk hnl
  have S2 := ShutD.mk hsrc
  have S3 := ShutD.mk hone
  have S4 := ShutD.mk hspare
  have HO1 := ShutD.mk hO1
  have HG2 := ShutD.mk hg2
  have HCL := ShutD.mk hcl
  have mixed : Try.prog.follows .mixedOrders = true := by kernel_rfl
  clear ho hod hB hB1 hBs hB1s hO1 hlst hsl hL hno hsrc hnl hk6 hone hspare hW1e hg1 hcl hg2 hW1
  generalize l.length = n at *
  have hp : n - 1 = q + (n - (q + 1)) := by omega
  have hone : 1 = n - (q + (n - (q + 1))) := by omega
  have hcl := HCL.out
  rw [hp] at hcl HO1 HG2
  rw [show (Value.slice (some ⟨g, (q + (n - (q + 1))) * 6, none⟩) 1 (c - (q + (n - (q + 1))))) = .slice (some ⟨g, (q + (n - (q + 1))) * 6, none⟩) (n - (q + (n - (q + 1)))) (c - (q + (n - (q + 1)))) by rw [← hone]] at hcl
  clear HCL hp hone
  have hqc : q ≤ c := by omega
  have hqc1 : q + 1 ≤ c := by omega
  go_enter Try.func94, Try.ntmps94
  go_wp2_with fail
  go_region_law_o (refine step_append_room rfl (.tmp 22) (.tmp 25) 34 rfl 38 i0 6 Try.underlying34 hi0 hz1 g 0 q c (by simp [Act.eval, Act.put]) a' (n - (q + 1)) (c - (q + 1)) news (by simp [Act.eval, Act.put]) S1.out S2.out S3.out (by omega) S4.out ?_; rw [HE.out])
  go_wp2
  go_ret
  exact ⟨_, rfl, HO1.out, rfl, HG2.out⟩
end Go.Proofs.Ytdjmjckmbclhiaa
namespace Go.Proofs.Ytdjmjckmbclhiaa
open Go.RowKit
/-- a struct and a truth as results: the struct's block, and what is there besides -/
theorem two_new (w : World) (x : Mg) : Below w.heap.size w (((w.alloc (.cells x.cells 38)).alloc (.cells x.cells 38)).drew) ∧ Blk (((w.alloc (.cells x.cells 38)).alloc (.cells x.cells 38)).drew) (w.heap.size + 1) 38 x.cells := by
  have h1 := alloc_below w (.cells x.cells 38)
  refine ⟨((h1.alloc h1.size _).drew), ?_⟩
  have := Blk.new (w.alloc (.cells x.cells 38)) 38 x.cells
  rw [show (w.alloc (.cells x.cells 38)).heap.size = w.heap.size + 1 by simp] at this
  exact this.drew
set_option maxHeartbeats 1000000 in
theorem tried_ (m : Mg) (hm : m.fits) (limit : Int) (w : World) : Calls Try.prog 93 #[m.val, .int .i64 limit] w fun e w' => e = .returned (.tuple #[m.tried.val, .bool (triedB m.retry limit)]) ∧ Below w.heap.size w w' := by
  obtain ⟨i, p, r, cl, c, b⟩ := m
  have h5 : -9223372036854775808 ≤ r := hm.2.2.1
  clear hm
  rcases Int.lt_or_le 999 r with h | h
  · have E : Hid (more1 r = 1000) := by
      have e : more1 r = 1000 := by unfold more1; rw [if_neg (by omega)]
      exact e
    obtain ⟨h1, h2⟩ := two_new w ⟨i, p, 1000, false, c, b⟩
    have H1 := Lib.hid h1
    have q0 := h2.cell 0
    have q1 := h2.cell 1
    have q2 := h2.cell 2
    have q3 := h2.cell 3
    have q4 := h2.cell 4
    have q5 := h2.cell 5
    clear h1 h2
    simp only [Mg.cells, List.getElem?_toArray, List.getElem?_cons_zero, List.getElem?_cons_succ] at H1 q0 q1 q2 q3 q4 q5
    go_enter Try.func93, Try.ntmps93
    go_wp2_with fail
    go_region
    go_wp2_with fail
    refine bodyPost_ret (v := .tuple #[.agg #[.int .i64 i, .int .i64 p, .int .i64 (1000), .bool false, .string c, .string b], .bool (decide (limit ≤ 1000))]) (by simp [results, Try.results93, go_sem]) rfl ?_
    exact ⟨by simp only [Mg.tried, Mg.val, Mg.cells, triedB, E.out], H1.out⟩
  · have E : Hid (more1 r = r + 1) := by
      have e : more1 r = r + 1 := by unfold more1; rw [if_pos (by omega)]
      exact e
    obtain ⟨h1, h2⟩ := two_new w ⟨i, p, r + 1, false, c, b⟩
    have H1 := Lib.hid h1
    have q0 := h2.cell 0
    have q1 := h2.cell 1
    have q2 := h2.cell 2
    have q3 := h2.cell 3
    have q4 := h2.cell 4
    have q5 := h2.cell 5
    clear h1 h2
    simp only [Mg.cells, List.getElem?_toArray, List.getElem?_cons_zero, List.getElem?_cons_succ] at H1 q0 q1 q2 q3 q4 q5
    go_enter Try.func93, Try.ntmps93
    go_wp2_with fail
    go_region
    go_wp2_with fail
    refine bodyPost_ret (v := .tuple #[.agg #[.int .i64 i, .int .i64 p, .int .i64 (r + 1), .bool false, .string c, .string b], .bool (decide (limit ≤ r + 1))]) (by simp [results, Try.results93, go_sem]) rfl ?_
    exact ⟨by simp only [Mg.tried, Mg.val, Mg.cells, triedB, E.out], H1.out⟩
set_option maxHeartbeats 1000000 in
theorem rtried_ (m : Mg) (hm : m.fits) (limit : Int) (w : World) : Calls Try.prog 12 #[m.val, .int .i64 limit] w fun e w' => e = .returned (.tuple #[m.tried.val, .bool (triedB m.retry limit)]) ∧ Below w.heap.size w w' := by
  obtain ⟨i, p, r, cl, c, b⟩ := m
  have h5 : -9223372036854775808 ≤ r := hm.2.2.1
  clear hm
  rcases Int.lt_or_le 999 r with h | h
  · have E : Hid (more1 r = 1000) := by
      have e : more1 r = 1000 := by unfold more1; rw [if_neg (by omega)]
      exact e
    obtain ⟨h1, h2⟩ := two_new w ⟨i, p, 1000, false, c, b⟩
    have H1 := Lib.hid h1
    have q0 := h2.cell 0
    have q1 := h2.cell 1
    have q2 := h2.cell 2
    have q3 := h2.cell 3
    have q4 := h2.cell 4
    have q5 := h2.cell 5
    clear h1 h2
    simp only [Mg.cells, List.getElem?_toArray, List.getElem?_cons_zero, List.getElem?_cons_succ] at H1 q0 q1 q2 q3 q4 q5
    go_enter Try.func12, Try.ntmps12
    go_wp2_with fail
    go_region
    go_wp2_with fail
    refine bodyPost_ret (v := .tuple #[.agg #[.int .i64 i, .int .i64 p, .int .i64 (1000), .bool false, .string c, .string b], .bool (decide (limit ≤ 1000))]) (by simp [results, Try.results12, go_sem]) rfl ?_
    exact ⟨by simp only [Mg.tried, Mg.val, Mg.cells, triedB, E.out], H1.out⟩
  · have E : Hid (more1 r = r + 1) := by
      have e : more1 r = r + 1 := by unfold more1; rw [if_pos (by omega)]
      exact e
    obtain ⟨h1, h2⟩ := two_new w ⟨i, p, r + 1, false, c, b⟩
    have H1 := Lib.hid h1
    have q0 := h2.cell 0
    have q1 := h2.cell 1
    have q2 := h2.cell 2
    have q3 := h2.cell 3
    have q4 := h2.cell 4
    have q5 := h2.cell 5
    clear h1 h2
    simp only [Mg.cells, List.getElem?_toArray, List.getElem?_cons_zero, List.getElem?_cons_succ] at H1 q0 q1 q2 q3 q4 q5
    go_enter Try.func12, Try.ntmps12
    go_wp2_with fail
    go_region
    go_wp2_with fail
    refine bodyPost_ret (v := .tuple #[.agg #[.int .i64 i, .int .i64 p, .int .i64 (r + 1), .bool false, .string c, .string b], .bool (decide (limit ≤ r + 1))]) (by simp [results, Try.results12, go_sem]) rfl ?_
    exact ⟨by simp only [Mg.tried, Mg.val, Mg.cells, triedB, E.out], H1.out⟩
end Go.Proofs.Ytdjmjckmbclhiaa
