/- DeadFrees, walked. -/
import Derived.Test.YtobbopakdaoemaaDdL
import Derived.Test.YtobbopakdaoemaaRFr
import Derived.Test.YtobbopakdaoemaaSmO
import Derived.Deep.RegionHeld3
import Derived.Deep.DeepCutAuto
set_option maxRecDepth 4000
namespace Go.Proofs.Ytobbopakdaoemaa
open Go.RowKit
theorem short_of {o : Ob} {n1 n2 n3 : Nat} (h1 : o.rows.length = n1) (h2 : o.msgs.length = n2) (h3 : o.dead.length = n3) (k1 : ¬ 40 < n1) (k2 : ¬ 40 < n2) (k3 : ¬ 40 < n3) : o.short 100000 := ⟨by omega, by omega, by omega⟩
theorem free_short {o : Ob} (id : Int) (tried : Bool) (h : o.short 100000) : (freeO o id tried).short 100001 := by
  obtain ⟨h1, h2, h3⟩ := h
  unfold freeO
  split
  · split
    · exact ⟨by omega, by omega, by omega⟩
    · split
      · exact ⟨by show o.rows.length ≤ _; omega, by show (List.set _ _ _).length ≤ _; rw [List.length_set]; omega, by show o.dead.length ≤ _; omega⟩
      · split
        · refine ⟨by show o.rows.length ≤ _; omega, ?_, by show (o.dead ++ _).length ≤ _; rw [List.length_append]; simp; omega⟩
          show (List.eraseIdx _ _).length ≤ _
          rw [List.length_eraseIdx]
          split <;> omega
        · exact ⟨by show o.rows.length ≤ _; omega, by show (List.set _ _ _).length ≤ _; rw [List.length_set]; omega, by show o.dead.length ≤ _; omega⟩
  · exact ⟨by omega, by omega, by omega⟩
set_option maxHeartbeats 2000000 in
theorem deadFrees {w : World} {o : Ob} {r m d : Value} (h : ObAt w o r m d) (hf : o.fits) (id : Int) (tried : Bool) :
    Calls Try.prog 3 #[o.val r m d, .int .i64 id, .bool tried] w fun e w' => e = .returned (.bool true) ∧ Below w.heap.size w w' := by
  have hsh := fun n1 n2 n3 (h1 : o.rows.length = n1) (h2 : o.msgs.length = n2) (h3 : o.dead.length = n3) => short_of (o := o) h1 h2 h3
  have hfr := fun W (hb : Below w.heap.size w W) (hn : o.short 100000) => (free_ (h.below hb) hn hf id tried).mono (Freed.as ⟨rfl, rfl⟩)
  have hrf := fun W (hb : Below w.heap.size w W) (hn : o.short 100000) => (rfree_ (h.below hb) hn hf id tried).mono (Freed.as ⟨rfl, rfl⟩)
  have hwh := fun W (hb : Below w.heap.size w W) (hn : o.short 100000) => where_ (h.below hb) hn id
  have hrw := fun W (hb : Below w.heap.size w W) (hn : o.short 100000) => rwhere_ (h.below hb) hn id
  have hfs := free_short (o := o) id tried
  obtain ⟨⟨A1, c1, rfl, x1⟩, ⟨A2, c2, rfl, x2⟩, ⟨A3, c3, rfl, x3⟩⟩ := h
  generalize freeO o id tried = o' at *
  generalize freeOk o id = okb at *
  generalize whereO o id = z at *
  have hb0 := alloc_below w (.cells (o.cells (.slice A1 o.rows.length c1) (.slice A2 o.msgs.length c2) (.slice A3 o.dead.length c3)) 25)
  have hB0 := Blk.new w 25 (o.cells (.slice A1 o.rows.length c1) (.slice A2 o.msgs.length c2) (.slice A3 o.dead.length c3))
  obtain ⟨s, k, l, rs, ms, ds⟩ := o
  simp only [Ob.val, Ob.cells] at hb0 hB0 hfr hrf hwh hrw hsh ⊢
  generalize hm1 : rs.length = m1 at *
  generalize hm2 : ms.length = m2 at *
  generalize hm3 : ds.length = m3 at *
  have HSH := Lib.hid (hsh m1 m2 m3 rfl rfl rfl)
  have HB0 := Lib.hid hb0
  have HX0 := Lib.hid hB0
  have HFR := Lib.hid hfr
  have HRF := Lib.hid hrf
  have HWH := Lib.hid hwh
  have HRW := Lib.hid hrw
  have HFS := Lib.hid hfs
  clear hb0 hB0 hfr hrf hwh hrw hfs hsh hf x1 x2 x3 hm1 hm2 hm3
  go_enter Try.func3, Try.ntmps3
  go_wp2_with fail
  refine (alive16_ _).mono ?_
  rintro e w1 ⟨rfl, hb1⟩
  have hx1 := HX0.out.below hb1 HX0.out.lt
  have HB1 := Lib.hid (HB0.out.trans (hb1.mono HB0.out.size))
  have d0 := hx1.cell 0
  have d1 := hx1.cell 1
  have d2 := hx1.cell 2
  have d3 := hx1.cell 3
  have d4 := hx1.cell 4
  have d5 := hx1.cell 5
  have HX1 := Lib.hid hx1
  clear hb1 hx1 HX0 HB0
  simp only [List.getElem?_toArray, List.getElem?_cons_zero, List.getElem?_cons_succ] at d0 d1 d2 d3 d4 d5
  by_cases g1 : 40 < m2
  · have e1 : decide (40 < m2) = true := decide_eq_true g1
    have ie1 : decide ((40 : Int) < (m2 : Int)) = true := decide_eq_true (by omega)
    go_wp2_with fail
    go_ret
    exact ⟨rfl, HB1.out⟩
  by_cases g2 : 40 < m3
  · have e1 : decide (40 < m2) = false := decide_eq_false g1
    have ie1 : decide ((40 : Int) < (m2 : Int)) = false := decide_eq_false (by omega)
    have e2 : decide (40 < m3) = true := decide_eq_true g2
    have ie2 : decide ((40 : Int) < (m3 : Int)) = true := decide_eq_true (by omega)
    go_wp2_with fail
    go_ret
    exact ⟨rfl, HB1.out⟩
  by_cases g3 : 40 < m1
  · have e1 : decide (40 < m2) = false := decide_eq_false g1
    have ie1 : decide ((40 : Int) < (m2 : Int)) = false := decide_eq_false (by omega)
    have e2 : decide (40 < m3) = false := decide_eq_false g2
    have ie2 : decide ((40 : Int) < (m3 : Int)) = false := decide_eq_false (by omega)
    have e3 : decide (40 < m1) = true := decide_eq_true g3
    have ie3 : decide ((40 : Int) < (m1 : Int)) = true := decide_eq_true (by omega)
    go_wp2_with fail
    go_ret
    exact ⟨rfl, HB1.out⟩
  have hn := HSH.out g3 g1 g2
  have HN := Lib.hid hn
  have e1 : decide (40 < m2) = false := decide_eq_false g1
  have ie1 : decide ((40 : Int) < (m2 : Int)) = false := decide_eq_false (by omega)
  have e2 : decide (40 < m3) = false := decide_eq_false g2
  have ie2 : decide ((40 : Int) < (m3 : Int)) = false := decide_eq_false (by omega)
  have e3 : decide (40 < m1) = false := decide_eq_false g3
  have ie3 : decide ((40 : Int) < (m1 : Int)) = false := decide_eq_false (by omega)
  clear hn HSH g1 g2 g3
  go_wp2_with fail
  refine (HFR.out _ HB1.out HN.out).mono ?_
  rintro e w2 ⟨r2, q2, p2, rfl, ho2, hb2⟩
  obtain ⟨os, ok, ol, ors, oms, ods⟩ := o'
  obtain ⟨B1, b1, rfl⟩ := own_shape ho2.rows rfl
  obtain ⟨B2, b2, rfl⟩ := own_shape ho2.msgs rfl
  obtain ⟨B3, b3, rfl⟩ := own_shape ho2.dead rfl
  have hal := alloc_below w2 (.cells (Ob.cells ⟨os, ok, ol, ors, oms, ods⟩ (.slice B1 ors.length b1) (.slice B2 oms.length b2) (.slice B3 ods.length b3)) 25)
  have hx2 := (HX1.out.below hb2 HX1.out.lt).alloc (.cells (Ob.cells ⟨os, ok, ol, ors, oms, ods⟩ (.slice B1 ors.length b1) (.slice B2 oms.length b2) (.slice B3 ods.length b3)) 25)
  have ha2 := Blk.new w2 25 (Ob.cells ⟨os, ok, ol, ors, oms, ods⟩ (.slice B1 ors.length b1) (.slice B2 oms.length b2) (.slice B3 ods.length b3))
  have hb2' := HB1.out.trans (((hb2.trans (hal.mono hb2.size))).mono HB1.out.size)
  have hat2 := ho2.at_.below hal
  have HX2 := Lib.hid hx2
  have HA2 := Lib.hid ha2
  have HB2 := Lib.hid hb2'
  have HAT2 := Lib.hid hat2
  have u0 := hx2.cell 0
  have u1 := hx2.cell 1
  have u2 := hx2.cell 2
  have u3 := hx2.cell 3
  have u4 := hx2.cell 4
  have u5 := hx2.cell 5
  clear hal hx2 ha2 hb2 hb2' ho2 hat2 HFR HX1 HB1 d0 d1 d2 d3 d4 d5
  simp only [Ob.val, Ob.cells, List.getElem?_toArray, List.getElem?_cons_zero, List.getElem?_cons_succ] at u0 u1 u2 u3 u4 u5 HX2 HA2 HB2 HAT2 ⊢
  generalize hn1 : ors.length = n1 at *
  generalize hn2 : oms.length = n2 at *
  generalize hn3 : ods.length = n3 at *
  have HN1 := Lib.hid hn1
  have HN2 := Lib.hid hn2
  have HN3 := Lib.hid hn3
  clear hn1 hn2 hn3
  go_wp2_with fail
  refine (HRF.out _ HB2.out HN.out).mono ?_
  rintro e w3 ⟨r3, q3, p3, rfl, ho3, hb3⟩
  obtain ⟨D1, d1, rfl⟩ := own_shape ho3.rows HN1.out
  obtain ⟨D2, d2, rfl⟩ := own_shape ho3.msgs HN2.out
  obtain ⟨D3, d3, rfl⟩ := own_shape ho3.dead HN3.out
  have hal := alloc_below w3 (.cells (Ob.cells ⟨os, ok, ol, ors, oms, ods⟩ (.slice D1 n1 d1) (.slice D2 n2 d2) (.slice D3 n3 d3)) 25)
  have hx3 := (HX2.out.below hb3 HX2.out.lt).alloc (.cells (Ob.cells ⟨os, ok, ol, ors, oms, ods⟩ (.slice D1 n1 d1) (.slice D2 n2 d2) (.slice D3 n3 d3)) 25)
  have ha3 := (HA2.out.below hb3 HA2.out.lt).alloc (.cells (Ob.cells ⟨os, ok, ol, ors, oms, ods⟩ (.slice D1 n1 d1) (.slice D2 n2 d2) (.slice D3 n3 d3)) 25)
  have hc3 := Blk.new w3 25 (Ob.cells ⟨os, ok, ol, ors, oms, ods⟩ (.slice D1 n1 d1) (.slice D2 n2 d2) (.slice D3 n3 d3))
  have hb3' := HB2.out.trans (((hb3.trans (hal.mono hb3.size))).mono HB2.out.size)
  have hat3 := ho3.at_.below hal
  have hat2 := (HAT2.out.below hb3).below hal
  clear hal HX2 HA2 HB2 HAT2 HRF ho3 hb3 u0 u1 u2 u3 u4 u5
  simp only [Ob.val, Ob.cells] at hx3 ha3 hc3 hb3' hat3 hat2 ⊢
  have HX3 := Lib.hid hx3
  have HA3 := Lib.hid ha3
  have HC3 := Lib.hid hc3
  have HB3 := Lib.hid hb3'
  have HAT3 := Lib.hid hat3
  have HAT2 := Lib.hid hat2
  clear hx3 ha3 hc3 hb3' hat3 hat2
  go_upto_region 6 with fail
  generalize w3.alloc (.cells #[.string os, .int .i64 ok, .int .i64 ol, .slice D1 n1 d1, .slice D2 n2 d2, .slice D3 n3 d3] 25) = w4 at *
  have hso := fun W (hb : Below w4.heap.size w4 W) => same_obj (HAT2.out.below hb) (HAT3.out.below hb) (HFS.out HN.out)
  have hw1 := fun W (hb : Below w4.heap.size w4 W) => HWH.out W (HB3.out.trans (hb.mono HB3.out.size)) HN.out
  have hw2 := fun W (hb : Below w4.heap.size w4 W) => HRW.out W (HB3.out.trans (hb.mono HB3.out.size)) HN.out
  have HSO := ShutF.mk hso
  have HW1 := ShutF.mk hw1
  have HW2 := ShutF.mk hw2
  clear hso hw1 hw2
  simp only [Ob.val, Ob.cells] at HSO
  have hsb : ∀ W, Below w4.heap.size w4 W → (fun W : World => W.cell? ⟨w.heap.size, 0, none⟩ = some (.string s) ∧ W.cell? ⟨w.heap.size, 1, none⟩ = some (.int .i64 k) ∧ W.cell? ⟨w.heap.size, 2, none⟩ = some (.int .i64 l) ∧ W.cell? ⟨w.heap.size, 3, none⟩ = some (.slice A1 m1 c1) ∧ W.cell? ⟨w.heap.size, 4, none⟩ = some (.slice A2 m2 c2) ∧ W.cell? ⟨w.heap.size, 5, none⟩ = some (.slice A3 m3 c3) ∧ W.cell? ⟨w2.heap.size, 0, none⟩ = some (.string os) ∧ W.cell? ⟨w2.heap.size, 1, none⟩ = some (.int .i64 ok) ∧ W.cell? ⟨w2.heap.size, 2, none⟩ = some (.int .i64 ol) ∧ W.cell? ⟨w2.heap.size, 3, none⟩ = some (.slice B1 n1 b1) ∧ W.cell? ⟨w2.heap.size, 4, none⟩ = some (.slice B2 n2 b2) ∧ W.cell? ⟨w2.heap.size, 5, none⟩ = some (.slice B3 n3 b3) ∧ W.cell? ⟨w3.heap.size, 0, none⟩ = some (.string os) ∧ W.cell? ⟨w3.heap.size, 1, none⟩ = some (.int .i64 ok) ∧ W.cell? ⟨w3.heap.size, 2, none⟩ = some (.int .i64 ol) ∧ W.cell? ⟨w3.heap.size, 3, none⟩ = some (.slice D1 n1 d1) ∧ W.cell? ⟨w3.heap.size, 4, none⟩ = some (.slice D2 n2 d2) ∧ W.cell? ⟨w3.heap.size, 5, none⟩ = some (.slice D3 n3 d3)) W := fun W hb => by
    have h1 := HX3.out.below hb HX3.out.lt
    have h2 := HA3.out.below hb HA3.out.lt
    have h3 := HC3.out.below hb HC3.out.lt
    exact ⟨h1.cell 0, h1.cell 1, h1.cell 2, h1.cell 3, h1.cell 4, h1.cell 5, h2.cell 0, h2.cell 1, h2.cell 2, h2.cell 3, h2.cell 4, h2.cell 5, h3.cell 0, h3.cell 1, h3.cell 2, h3.cell 3, h3.cell 4, h3.cell 5⟩
  have HSB := ShutF.mk hsb
  have HB4 := Lib.hid (Below.refl w4.heap.size w4).drew
  have hS4 : ShutF ((fun W : World => W.cell? ⟨w.heap.size, 0, none⟩ = some (.string s) ∧ W.cell? ⟨w.heap.size, 1, none⟩ = some (.int .i64 k) ∧ W.cell? ⟨w.heap.size, 2, none⟩ = some (.int .i64 l) ∧ W.cell? ⟨w.heap.size, 3, none⟩ = some (.slice A1 m1 c1) ∧ W.cell? ⟨w.heap.size, 4, none⟩ = some (.slice A2 m2 c2) ∧ W.cell? ⟨w.heap.size, 5, none⟩ = some (.slice A3 m3 c3) ∧ W.cell? ⟨w2.heap.size, 0, none⟩ = some (.string os) ∧ W.cell? ⟨w2.heap.size, 1, none⟩ = some (.int .i64 ok) ∧ W.cell? ⟨w2.heap.size, 2, none⟩ = some (.int .i64 ol) ∧ W.cell? ⟨w2.heap.size, 3, none⟩ = some (.slice B1 n1 b1) ∧ W.cell? ⟨w2.heap.size, 4, none⟩ = some (.slice B2 n2 b2) ∧ W.cell? ⟨w2.heap.size, 5, none⟩ = some (.slice B3 n3 b3) ∧ W.cell? ⟨w3.heap.size, 0, none⟩ = some (.string os) ∧ W.cell? ⟨w3.heap.size, 1, none⟩ = some (.int .i64 ok) ∧ W.cell? ⟨w3.heap.size, 2, none⟩ = some (.int .i64 ol) ∧ W.cell? ⟨w3.heap.size, 3, none⟩ = some (.slice D1 n1 d1) ∧ W.cell? ⟨w3.heap.size, 4, none⟩ = some (.slice D2 n2 d2) ∧ W.cell? ⟨w3.heap.size, 5, none⟩ = some (.slice D3 n3 d3)) w4.drew) := ⟨hsb _ HB4.out⟩
  clear hsb HX3 HA3 HC3 HAT2 HAT3 HWH HRW HFS HN
  go_region_held3 (fun W : World => W.cell? ⟨w.heap.size, 0, none⟩ = some (.string s) ∧ W.cell? ⟨w.heap.size, 1, none⟩ = some (.int .i64 k) ∧ W.cell? ⟨w.heap.size, 2, none⟩ = some (.int .i64 l) ∧ W.cell? ⟨w.heap.size, 3, none⟩ = some (.slice A1 m1 c1) ∧ W.cell? ⟨w.heap.size, 4, none⟩ = some (.slice A2 m2 c2) ∧ W.cell? ⟨w.heap.size, 5, none⟩ = some (.slice A3 m3 c3) ∧ W.cell? ⟨w2.heap.size, 0, none⟩ = some (.string os) ∧ W.cell? ⟨w2.heap.size, 1, none⟩ = some (.int .i64 ok) ∧ W.cell? ⟨w2.heap.size, 2, none⟩ = some (.int .i64 ol) ∧ W.cell? ⟨w2.heap.size, 3, none⟩ = some (.slice B1 n1 b1) ∧ W.cell? ⟨w2.heap.size, 4, none⟩ = some (.slice B2 n2 b2) ∧ W.cell? ⟨w2.heap.size, 5, none⟩ = some (.slice B3 n3 b3) ∧ W.cell? ⟨w3.heap.size, 0, none⟩ = some (.string os) ∧ W.cell? ⟨w3.heap.size, 1, none⟩ = some (.int .i64 ok) ∧ W.cell? ⟨w3.heap.size, 2, none⟩ = some (.int .i64 ol) ∧ W.cell? ⟨w3.heap.size, 3, none⟩ = some (.slice D1 n1 d1) ∧ W.cell? ⟨w3.heap.size, 4, none⟩ = some (.slice D2 n2 d2) ∧ W.cell? ⟨w3.heap.size, 5, none⟩ = some (.slice D3 n3 d3))
    (first | with_reducible exact hS4.out | with_reducible exact hS5.out | with_reducible exact hS6.out | with_reducible exact hS7.out)
    (first | (go_at_call 9; refine (HSO.out _ HB4.out).mono ?_; rintro e w5 ⟨rfl, hb⟩; have HB5 := Lib.hid (HB4.out.trans (hb.mono HB4.out.size)); have hS5 : ShutF ((fun W : World => W.cell? ⟨w.heap.size, 0, none⟩ = some (.string s) ∧ W.cell? ⟨w.heap.size, 1, none⟩ = some (.int .i64 k) ∧ W.cell? ⟨w.heap.size, 2, none⟩ = some (.int .i64 l) ∧ W.cell? ⟨w.heap.size, 3, none⟩ = some (.slice A1 m1 c1) ∧ W.cell? ⟨w.heap.size, 4, none⟩ = some (.slice A2 m2 c2) ∧ W.cell? ⟨w.heap.size, 5, none⟩ = some (.slice A3 m3 c3) ∧ W.cell? ⟨w2.heap.size, 0, none⟩ = some (.string os) ∧ W.cell? ⟨w2.heap.size, 1, none⟩ = some (.int .i64 ok) ∧ W.cell? ⟨w2.heap.size, 2, none⟩ = some (.int .i64 ol) ∧ W.cell? ⟨w2.heap.size, 3, none⟩ = some (.slice B1 n1 b1) ∧ W.cell? ⟨w2.heap.size, 4, none⟩ = some (.slice B2 n2 b2) ∧ W.cell? ⟨w2.heap.size, 5, none⟩ = some (.slice B3 n3 b3) ∧ W.cell? ⟨w3.heap.size, 0, none⟩ = some (.string os) ∧ W.cell? ⟨w3.heap.size, 1, none⟩ = some (.int .i64 ok) ∧ W.cell? ⟨w3.heap.size, 2, none⟩ = some (.int .i64 ol) ∧ W.cell? ⟨w3.heap.size, 3, none⟩ = some (.slice D1 n1 d1) ∧ W.cell? ⟨w3.heap.size, 4, none⟩ = some (.slice D2 n2 d2) ∧ W.cell? ⟨w3.heap.size, 5, none⟩ = some (.slice D3 n3 d3)) w5) := ⟨HSB.out _ HB5.out⟩; clear hb) | (go_at_call 10; refine (HW1.out _ HB5.out).mono ?_; rintro e w6 ⟨rfl, hb⟩; have HB6 := Lib.hid (HB5.out.trans (hb.mono HB5.out.size)); have hS6 : ShutF ((fun W : World => W.cell? ⟨w.heap.size, 0, none⟩ = some (.string s) ∧ W.cell? ⟨w.heap.size, 1, none⟩ = some (.int .i64 k) ∧ W.cell? ⟨w.heap.size, 2, none⟩ = some (.int .i64 l) ∧ W.cell? ⟨w.heap.size, 3, none⟩ = some (.slice A1 m1 c1) ∧ W.cell? ⟨w.heap.size, 4, none⟩ = some (.slice A2 m2 c2) ∧ W.cell? ⟨w.heap.size, 5, none⟩ = some (.slice A3 m3 c3) ∧ W.cell? ⟨w2.heap.size, 0, none⟩ = some (.string os) ∧ W.cell? ⟨w2.heap.size, 1, none⟩ = some (.int .i64 ok) ∧ W.cell? ⟨w2.heap.size, 2, none⟩ = some (.int .i64 ol) ∧ W.cell? ⟨w2.heap.size, 3, none⟩ = some (.slice B1 n1 b1) ∧ W.cell? ⟨w2.heap.size, 4, none⟩ = some (.slice B2 n2 b2) ∧ W.cell? ⟨w2.heap.size, 5, none⟩ = some (.slice B3 n3 b3) ∧ W.cell? ⟨w3.heap.size, 0, none⟩ = some (.string os) ∧ W.cell? ⟨w3.heap.size, 1, none⟩ = some (.int .i64 ok) ∧ W.cell? ⟨w3.heap.size, 2, none⟩ = some (.int .i64 ol) ∧ W.cell? ⟨w3.heap.size, 3, none⟩ = some (.slice D1 n1 d1) ∧ W.cell? ⟨w3.heap.size, 4, none⟩ = some (.slice D2 n2 d2) ∧ W.cell? ⟨w3.heap.size, 5, none⟩ = some (.slice D3 n3 d3)) w6) := ⟨HSB.out _ HB6.out⟩; clear hb) | (go_at_call 11; refine (HW2.out _ HB6.out).mono ?_; rintro e w7 ⟨rfl, hb⟩; have HB7 := Lib.hid (HB6.out.trans (hb.mono HB6.out.size)); have hS7 : ShutF ((fun W : World => W.cell? ⟨w.heap.size, 0, none⟩ = some (.string s) ∧ W.cell? ⟨w.heap.size, 1, none⟩ = some (.int .i64 k) ∧ W.cell? ⟨w.heap.size, 2, none⟩ = some (.int .i64 l) ∧ W.cell? ⟨w.heap.size, 3, none⟩ = some (.slice A1 m1 c1) ∧ W.cell? ⟨w.heap.size, 4, none⟩ = some (.slice A2 m2 c2) ∧ W.cell? ⟨w.heap.size, 5, none⟩ = some (.slice A3 m3 c3) ∧ W.cell? ⟨w2.heap.size, 0, none⟩ = some (.string os) ∧ W.cell? ⟨w2.heap.size, 1, none⟩ = some (.int .i64 ok) ∧ W.cell? ⟨w2.heap.size, 2, none⟩ = some (.int .i64 ol) ∧ W.cell? ⟨w2.heap.size, 3, none⟩ = some (.slice B1 n1 b1) ∧ W.cell? ⟨w2.heap.size, 4, none⟩ = some (.slice B2 n2 b2) ∧ W.cell? ⟨w2.heap.size, 5, none⟩ = some (.slice B3 n3 b3) ∧ W.cell? ⟨w3.heap.size, 0, none⟩ = some (.string os) ∧ W.cell? ⟨w3.heap.size, 1, none⟩ = some (.int .i64 ok) ∧ W.cell? ⟨w3.heap.size, 2, none⟩ = some (.int .i64 ol) ∧ W.cell? ⟨w3.heap.size, 3, none⟩ = some (.slice D1 n1 d1) ∧ W.cell? ⟨w3.heap.size, 4, none⟩ = some (.slice D2 n2 d2) ∧ W.cell? ⟨w3.heap.size, 5, none⟩ = some (.slice D3 n3 d3)) w7) := ⟨HSB.out _ HB7.out⟩; clear hb))
  go_wp2_with fail
  go_ret
  exact ⟨rfl, HB3.out.trans (HB7.out.mono HB3.out.size)⟩
end Go.Proofs.Ytobbopakdaoemaa
