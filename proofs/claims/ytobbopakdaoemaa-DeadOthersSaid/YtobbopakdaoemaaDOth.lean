/- DeadOthers, walked. -/
import Derived.Test.YtobbopakdaoemaaDdL
import Derived.Test.YtobbopakdaoemaaSmO
import Derived.Test.YtobbopakdaoemaaOthP
import Derived.Deep.RegionHeld3
import Derived.Deep.DeepCutAuto
import Derived.Laws.StructEq
import Derived.BigQuiet
set_option maxRecDepth 4000
namespace Go.Proofs.Ytobbopakdaoemaa
open Go.RowKit
theorem short_of2 {o : Ob} {n1 n2 n3 : Nat} (h1 : o.rows.length = n1) (h2 : o.msgs.length = n2) (h3 : o.dead.length = n3) (k1 : ¬ 40 < n1) (k2 : ¬ 40 < n2) (k3 : ¬ 40 < n3) : o.short 100000 := ⟨by omega, by omega, by omega⟩
theorem short_more {o : Ob} (h : o.short 100000) : o.short 100001 := ⟨by have := h.1; omega, by have := h.2.1; omega, by have := h.2.2; omega⟩
/-- the messages, one by one -/
def OthR (w4 : World) (n q : Nat) (e : Bool) (mz : Nat) (k i : Value) (wr : World) : Prop := ∃ j, j + mz = n ∧ i = .int .i64 (j : Int) ∧ k = .int .i64 (kO q e j : Int) ∧ Below w4.heap.size w4 wr
/-- those set aside, one by one -/
def DedR (w4 : World) (n : Nat) (mz : Nat) (i : Value) (wr : World) : Prop := ∃ j, j + mz = n ∧ i = .int .i64 (j : Int) ∧ Below w4.heap.size w4 wr
set_option maxHeartbeats 4000000 in
theorem deadOthers {w : World} {o : Ob} {r m d : Value} (h : ObAt w o r m d) (hf : o.fits) (id : Int) (tried : Bool) :
    Calls Try.prog 5 #[o.val r m d, .int .i64 id, .bool tried] w fun e w' => e = .returned (.bool true) ∧ Below w.heap.size w w' := by
  have hsh := fun n1 n2 n3 (h1 : o.rows.length = n1) (h2 : o.msgs.length = n2) (h3 : o.dead.length = n3) => short_of2 (o := o) h1 h2 h3
  have hfr := fun W (hb : Below w.heap.size w W) (hn : o.short 100000) => (free_ (h.below hb) hn hf id tried).mono (Freed.as ⟨rfl, rfl⟩)
  have hso := fun W (hb : Below w.heap.size w W) (hn : o.short 100000) {r2 q2 p2 : Value} (h2 : ObAt W o r2 q2 p2) => same_obj h2 (h.below hb) (short_more hn)
  have hno := free_not (o := o) (id := id) (tried := tried)
  have hot := free_oth (o := o) (id := id) tried
  obtain ⟨⟨A1, c1, rfl, x1⟩, ⟨A2, c2, rfl, l2, x2⟩, ⟨A3, c3, rfl, l3, x3⟩⟩ := h
  have hri := fun W (hb : Below w.heap.size w W) (hn : o.msgs.length ≤ 10000) => rrises_m (c := c2) (l2.below hb) rfl hn
  generalize freeO o id tried = o' at *
  generalize freeOk o id = okb at *
  have hb0 := alloc_below w (.cells (o.cells (.slice A1 o.rows.length c1) (.slice A2 o.msgs.length c2) (.slice A3 o.dead.length c3)) 25)
  have hB0 := Blk.new w 25 (o.cells (.slice A1 o.rows.length c1) (.slice A2 o.msgs.length c2) (.slice A3 o.dead.length c3))
  obtain ⟨s, k, l, rs, ms, ds⟩ := o
  simp only [Ob.val, Ob.cells] at hb0 hB0 hfr hso hri hsh hot ⊢
  generalize hm1 : rs.length = m1 at *
  generalize hm2 : ms.length = m2 at *
  generalize hm3 : ds.length = m3 at *
  have HSH := Lib.hid (hsh m1 m2 m3 rfl rfl rfl)
  have HB0 := Lib.hid hb0
  have HX0 := Lib.hid hB0
  have HFR := Lib.hid hfr
  have HSO := ShutU.mk @hso
  have HNO := Lib.hid hno
  have HOT := ShutU.mk hot
  have HRI := Lib.hid hri
  have L2 := Lib.hid l2
  have L3 := Lib.hid l3
  have HM2 := Lib.hid hm2
  have HM3 := Lib.hid hm3
  obtain ⟨rb, hrb⟩ : ∃ b, risesD ms = b := ⟨_, rfl⟩
  rw [hrb] at HRI
  have HRB := Lib.hid hrb
  clear hb0 hB0 hfr hso hno hot hri hsh hf x1 x2 x3 l2 l3 hm1 hm2 hm3 hrb
  go_enter Try.func5, Try.ntmps5
  go_wp2_with fail
  refine (alive16_ _).mono ?_
  rintro e w1 ⟨rfl, hb1⟩
  have hx1 := HX0.out.below hb1 HX0.out.lt
  have HB1 := Lib.hid (HB0.out.trans (hb1.mono HB0.out.size))
  have d0 := hx1.cell 0
  have d1 := hx1.cell 1
  have d2 := hx1.cell 2
  have d3 := hx1.cell 3
  have d4 := hx1.cell 4
  have d5 := hx1.cell 5
  have HX1 := Lib.hid hx1
  clear hb1 hx1 HX0 HB0
  simp only [List.getElem?_toArray, List.getElem?_cons_zero, List.getElem?_cons_succ] at d0 d1 d2 d3 d4 d5
  by_cases g1 : 40 < m2
  · have e1 : decide (40 < m2) = true := decide_eq_true g1
    have ie1 : decide ((40 : Int) < (m2 : Int)) = true := decide_eq_true (by omega)
    go_wp2_with fail
    go_ret
    exact ⟨rfl, HB1.out⟩
  by_cases g2 : 40 < m3
  · have e1 : decide (40 < m2) = false := decide_eq_false g1
    have ie1 : decide ((40 : Int) < (m2 : Int)) = false := decide_eq_false (by omega)
    have e2 : decide (40 < m3) = true := decide_eq_true g2
    have ie2 : decide ((40 : Int) < (m3 : Int)) = true := decide_eq_true (by omega)
    go_wp2_with fail
    go_ret
    exact ⟨rfl, HB1.out⟩
  by_cases g3 : 40 < m1
  · have e1 : decide (40 < m2) = false := decide_eq_false g1
    have ie1 : decide ((40 : Int) < (m2 : Int)) = false := decide_eq_false (by omega)
    have e2 : decide (40 < m3) = false := decide_eq_false g2
    have ie2 : decide ((40 : Int) < (m3 : Int)) = false := decide_eq_false (by omega)
    have e3 : decide (40 < m1) = true := decide_eq_true g3
    have ie3 : decide ((40 : Int) < (m1 : Int)) = true := decide_eq_true (by omega)
    go_wp2_with fail
    go_ret
    exact ⟨rfl, HB1.out⟩
  have hn := HSH.out g3 g1 g2
  have HN := Lib.hid hn
  have e1 : decide (40 < m2) = false := decide_eq_false g1
  have ie1 : decide ((40 : Int) < (m2 : Int)) = false := decide_eq_false (by omega)
  have e2 : decide (40 < m3) = false := decide_eq_false g2
  have ie2 : decide ((40 : Int) < (m3 : Int)) = false := decide_eq_false (by omega)
  have e3 : decide (40 < m1) = false := decide_eq_false g3
  have ie3 : decide ((40 : Int) < (m1 : Int)) = false := decide_eq_false (by omega)
  have HM40 := Lib.hid (show m2 ≤ 40 ∧ m3 ≤ 40 by omega)
  clear hn HSH g1 g2 g3
  go_wp2_with fail
  refine (HRI.out _ HB1.out (by have := HM40.out; omega)).mono ?_
  rintro e w2 ⟨rfl, hb2⟩
  have hx2 := HX1.out.below hb2 HX1.out.lt
  have HB2 := Lib.hid (HB1.out.trans (hb2.mono HB1.out.size))
  have HX2 := Lib.hid hx2
  have u0 := hx2.cell 0
  have u1 := hx2.cell 1
  have u2 := hx2.cell 2
  have u3 := hx2.cell 3
  have u4 := hx2.cell 4
  have u5 := hx2.cell 5
  clear hx2 hb2 HX1 HB1 HRI d0 d1 d2 d3 d4 d5
  simp only [List.getElem?_toArray, List.getElem?_cons_zero, List.getElem?_cons_succ] at u0 u1 u2 u3 u4 u5
  cases rb
  · go_wp2_with fail
    go_ret
    exact ⟨rfl, HB2.out⟩
  go_wp2_with fail
  refine (HFR.out _ HB2.out HN.out).mono ?_
  rintro e w3 ⟨r2, q2, p2, rfl, ho2, hb3⟩
  obtain ⟨os, ok, ol, ors, oms, ods⟩ := o'
  obtain ⟨D1, d1, rfl⟩ := own_shape ho2.rows rfl
  obtain ⟨D2, d2, rfl⟩ := own_shape ho2.msgs rfl
  obtain ⟨D3, d3, rfl⟩ := own_shape ho2.dead rfl
  have hal := alloc_below w3 (.cells (Ob.cells ⟨os, ok, ol, ors, oms, ods⟩ (.slice D1 ors.length d1) (.slice D2 oms.length d2) (.slice D3 ods.length d3)) 25)
  have hx3 := (HX2.out.below hb3 HX2.out.lt).alloc (.cells (Ob.cells ⟨os, ok, ol, ors, oms, ods⟩ (.slice D1 ors.length d1) (.slice D2 oms.length d2) (.slice D3 ods.length d3)) 25)
  have ha3 := Blk.new w3 25 (Ob.cells ⟨os, ok, ol, ors, oms, ods⟩ (.slice D1 ors.length d1) (.slice D2 oms.length d2) (.slice D3 ods.length d3))
  have hb3' := HB2.out.trans (((hb3.trans (hal.mono hb3.size))).mono HB2.out.size)
  have hat3 := ho2.at_.below hal
  have hl2 := (own_lst2 (ho2.below hal).msgs)
  have hl3 := (own_lst2 (ho2.below hal).dead)
  clear hal ho2 hb3 HFR HX2 HB2 u0 u1 u2 u3 u4 u5
  simp only [Ob.val, Ob.cells] at hx3 ha3 hb3' hat3 hl2 hl3 ⊢
  generalize hn1 : ors.length = n1 at *
  generalize hn2 : oms.length = n2 at *
  generalize hn3 : ods.length = n3 at *
  have HN2 := Lib.hid hn2
  have HN3 := Lib.hid hn3
  have HX3 := Lib.hid hx3
  have HA3 := Lib.hid ha3
  have HB3 := Lib.hid hb3'
  have HAT3 := ShutU.mk hat3
  have K2 := Lib.hid hl2
  have K3 := Lib.hid hl3
  clear hx3 ha3 hb3' hat3 hl2 hl3 hn1 hn2 hn3
  go_upto_region 5 with fail
  generalize w3.alloc (.cells #[.string os, .int .i64 ok, .int .i64 ol, .slice D1 n1 d1, .slice D2 n2 d2, .slice D3 n3 d3] 25) = w4 at *
  cases okb
  · have ho' := HNO.out rfl
    have u0 := HX3.out.cell 0
    have u1 := HX3.out.cell 1
    have u2 := HX3.out.cell 2
    have u3 := HX3.out.cell 3
    have u4 := HX3.out.cell 4
    have u5 := HX3.out.cell 5
    have v0 := HA3.out.cell 0
    have v1 := HA3.out.cell 1
    have v2 := HA3.out.cell 2
    have v3 := HA3.out.cell 3
    have v4 := HA3.out.cell 4
    have v5 := HA3.out.cell 5
    have hat := HAT3.out
    have hcall := HSO.out w4 HB3.out HN.out (ho' ▸ hat)
    injection ho' with e1' e2' e3' e4' e5' e6'
    subst e1' e2' e3'
    have HC := ShutU.mk hcall
    clear hcall hat e4' e5' e6' HSO HOT HRB HAT3
    simp only [List.getElem?_toArray, List.getElem?_cons_zero, List.getElem?_cons_succ] at u0 u1 u2 u3 u4 u5 v0 v1 v2 v3 v4 v5
    go_wp2_with fail
    refine HC.out.mono ?_
    rintro e w5 ⟨rfl, hb5⟩
    have HB5 := Lib.hid (HB3.out.trans (hb5.mono HB3.out.size))
    clear hb5
    go_wp2_with fail
    go_ret
    exact ⟨rfl, HB5.out⟩
  · obtain ⟨q, e, ext, hoth, hded, hex⟩ := HOT.out rfl HRB.out
    simp only at hoth hded
    have hlq : q < m2 := by have := hoth.lt; have := HM2.out; omega
    have hnx : n2 + e.toNat = m2 := by have := hoth.len; have := HM2.out; have := HN2.out; omega
    have hn3 : n3 = m3 + e.toNat := by rw [← HN3.out, hded, List.length_append, hex, HM3.out]
    have hend : kO q e m2 = n2 := by have := hoth.end_; rwa [HM2.out, HN2.out] at this
    have hex1 : e.toNat ≤ 1 := by cases e <;> decide
    have HOTH := ShutU.mk hoth
    have HDED := ShutU.mk hded
    have HNX := Lib.hid hnx
    have HN3E := Lib.hid hn3
    have HEND := Lib.hid hend
    have HEX := Lib.hid hex1
    have HLQ := Lib.hid hlq
    clear hoth hded hnx hn3 hend hex hex1 hlq HSO HOT HRB HAT3 HNO
    go_wp2_with fail
    go_loopg [10, 11] m2 (fun mz k i wr => OthR w4 m2 q e mz k i wr)
    case atStart => exact ⟨0, by omega, rfl, by show _ = Value.int .i64 _; unfold kO; rw [if_neg (by omega)]; rfl, Below.refl _ _⟩
    case round =>
      obtain ⟨j, hj, rfl, rfl, hb⟩ := hrel
      have HJ := Lib.hid hj
      have HB := Lib.hid hb
      have b4 := (HX3.out.below hb HX3.out.lt).cell 4
      have x4 := (HA3.out.below hb HA3.out.lt).cell 4
      simp only [List.getElem?_toArray, List.getElem?_cons_zero, List.getElem?_cons_succ] at b4 x4
      clear hj hb
      by_cases hlt : j < m2
      · have hjx : j < ms.length := by have := HM2.out; omega
        have hji : decide ((j : Int) < (m2 : Int)) = true := decide_eq_true (by omega)
        have hjn : decide (j < m2) = true := decide_eq_true hlt
        have hm40 := HM40.out
        by_cases hjq : j = q
        · obtain ⟨b, oo, rfl, hbl, c0, c1', c2', c3', c4, c5⟩ := ((L2.out.below HB3.out).below HB.out).atM hjx
          have hidq : ms[j].id = id := by subst hjq; exact HOTH.out.at_
          rw [hidq] at c0
          subst hjq
          clear hbl c1' c2' c3' c4 c5 hidq
          cases e
          · obtain ⟨y, hy, hyid⟩ := HOTH.out.self rfl
            obtain ⟨hyl, rfl⟩ := List.getElem?_eq_some_iff.1 hy
            have hjn2 : j < n2 := by have := HN2.out; omega
            obtain ⟨g, og, rfl, hgl, y0, y1, y2, y3, y4, y5⟩ := (K2.out.below HB.out).atM hyl
            rw [hyid] at y0
            have hk1 : decide ((j : Int) < (n2 : Int)) = true := decide_eq_true (by omega)
            have hk2 : decide (j < n2) = true := decide_eq_true hjn2
            have h1 : ((kO j false (j + 1) : Nat) : Int) = (j : Int) + 1 := by rw [(kO_self j).1, (kO_self j).2.2]; rfl
            have H1 := Lib.hid h1
            rw [(kO_self j).2.2]
            clear hgl y1 y2 y3 y4 y5 hy hyid h1 hyl
            go_wp2_with fail
            go_roundg (m2 - (j + 1))
            case measure => have := HJ.out; omega
            case rel => exact ⟨j + 1, by have := HJ.out; omega, by go_num, by rw [H1.out], HB.out⟩
          · have h1 : kO j true (j + 1) = j := by rw [(kO_self j).2.1, (kO_self j).2.2]
            have H1 := Lib.hid h1
            rw [(kO_self j).2.2]
            clear h1
            by_cases hjn2 : j < n2
            · have hyl : j < oms.length := by have := HN2.out; omega
              have hyid := HOTH.out.next rfl _ (List.getElem?_eq_getElem hyl)
              obtain ⟨g, og, rfl, hgl, y0, y1, y2, y3, y4, y5⟩ := (K2.out.below HB.out).atM hyl
              have hne : (oms[j].id == id) = false := by simpa using hyid
              generalize oms[j].id = yid at *
              have hk1 : decide ((j : Int) < (n2 : Int)) = true := decide_eq_true (by omega)
              have hk2 : decide (j < n2) = true := decide_eq_true hjn2
              clear hgl y1 y2 y3 y4 y5 hyid hyl
              go_wp2_with fail
              go_roundg (m2 - (j + 1))
              case measure => have := HJ.out; omega
              case rel => exact ⟨j + 1, by have := HJ.out; omega, by go_num, by rw [H1.out], HB.out⟩
            · have hk1 : decide ((j : Int) < (n2 : Int)) = false := decide_eq_false (by omega)
              have hk2 : decide (j < n2) = false := decide_eq_false hjn2
              go_wp2_with fail
              go_roundg (m2 - (j + 1))
              case measure => have := HJ.out; omega
              case rel => exact ⟨j + 1, by have := HJ.out; omega, by go_num, by rw [H1.out], HB.out⟩
        · obtain ⟨hid, hget⟩ := HOTH.out.other j hjx hjq
          have hin := HOTH.out.in_ hjx hjq
          have hst := kO_step (e := e) hjq
          generalize kO q e j = k' at *
          have hge := (List.getElem?_eq_some_iff.1 hget).2
          have hkn : k' < n2 := by have := HN2.out; omega
          obtain ⟨b, oo, rfl, hbl, c0, c1', c2', c3', c4, c5⟩ := ((L2.out.below HB3.out).below HB.out).atM hjx
          obtain ⟨g, og, rfl, hgl, y0, y1, y2, y3, y4, y5⟩ := (K2.out.below HB.out).atM hin
          rw [hge] at y0 y1 y2 y3 y4 y5
          have hne : (ms[j].id == id) = false := by simpa using hid
          obtain ⟨x, hx⟩ : ∃ x, ms[j] = x := ⟨_, rfl⟩
          rw [hx] at c0 c1' c2' c3' c4 c5 y0 y1 y2 y3 y4 y5 hne
          obtain ⟨x0, x1, x2, x3, x5, x6⟩ := x
          simp only at c0 c1' c2' c3' c4 c5 y0 y1 y2 y3 y4 y5 hne
          have hk1 : decide ((n2 : Int) ≤ (k' : Int)) = false := decide_eq_false (by omega)
          have hk2 : decide (n2 ≤ k') = false := decide_eq_false (by omega)
          have hk3 : (k' : Int) < (n2 : Int) := by omega
          have hk4 : n2 ≤ 40 := by have := HNX.out; omega
          have HST := Lib.hid hst
          clear hid hget hin hst hge hbl hgl hx hjx
          go_wp2_with fail
          go_quiet (fail)
          go_wp2_with fail
          go_roundg (m2 - (j + 1))
          case measure => have := HJ.out; omega
          case rel => exact ⟨j + 1, by have := HJ.out; omega, by go_num, by rw [← HST.out]; go_num, below_drewN HB.out _⟩
      · have hjm : j = m2 := by have := HJ.out; omega
        have hji : decide ((j : Int) < (m2 : Int)) = false := decide_eq_false (by omega)
        have hjn : decide (j < m2) = false := decide_eq_false hlt
        have hkk : kO q e j = n2 := by rw [hjm]; exact HEND.out
        rw [hkk]
        clear hjm hkk
        go_wp2_with fail
        go_loopg [12] m3 (fun mz i wr => DedR w4 m3 mz i wr)
        case atStart => exact ⟨0, by omega, rfl, HB.out⟩
        case round =>
          clear HB
          obtain ⟨p, hp, rfl, hb⟩ := hrel
          have HJ2 := Lib.hid hp
          have HB := Lib.hid hb
          have b4' := (HX3.out.below hb HX3.out.lt).cell 4
          have x4' := (HA3.out.below hb HA3.out.lt).cell 4
          have b5 := (HX3.out.below hb HX3.out.lt).cell 5
          have x5 := (HA3.out.below hb HA3.out.lt).cell 5
          simp only [List.getElem?_toArray, List.getElem?_cons_zero, List.getElem?_cons_succ] at b4' x4' b5 x5
          clear hp hb
          have hm40 := HM40.out
          by_cases hlp : p < m3
          · have hpx : p < ds.length := by have := HM3.out; omega
            have hpy : p < ods.length := by have := HN3.out; have := HN3E.out; omega
            have hpi : decide ((p : Int) < (m3 : Int)) = true := decide_eq_true (by omega)
            have hpn : decide (p < m3) = true := decide_eq_true hlp
            have hpn3 : p < n3 := by have := HN3E.out; omega
            have hge : ods[p] = ds[p] := by
              have h1 : ods[p]? = (ds ++ ext)[p]? := by rw [HDED.out]
              rw [List.getElem?_append_left hpx, List.getElem?_eq_getElem hpx, List.getElem?_eq_getElem hpy] at h1
              injection h1
            obtain ⟨b, oo, rfl, hbl, c0, c1', c2', c3', c4, c5⟩ := ((L3.out.below HB3.out).below HB.out).atM hpx
            obtain ⟨g, og, rfl, hgl, y0, y1, y2, y3, y4, y5⟩ := (K3.out.below HB.out).atM hpy
            rw [hge] at y0 y1 y2 y3 y4 y5
            obtain ⟨x, hx⟩ : ∃ x, ds[p] = x := ⟨_, rfl⟩
            rw [hx] at c0 c1' c2' c3' c4 c5 y0 y1 y2 y3 y4 y5
            obtain ⟨x0, x1, x2, x3, x5', x6⟩ := x
            simp only at c0 c1' c2' c3' c4 c5 y0 y1 y2 y3 y4 y5
            have hk1 : decide ((n3 : Int) ≤ (p : Int)) = false := decide_eq_false (by omega)
            have hk2 : decide (n3 ≤ p) = false := decide_eq_false (by omega)
            have hk3 : (p : Int) < (n3 : Int) := by omega
            clear hge hbl hgl hx hpx hpy
            go_wp2_with fail
            go_quiet (fail)
            go_wp2_with fail
            go_roundg (m3 - (p + 1))
            case measure => have := HJ2.out; omega
            case rel => exact ⟨p + 1, by have := HJ2.out; omega, by go_num, below_drewN HB.out _⟩
          · have hpi : decide ((p : Int) < (m3 : Int)) = false := decide_eq_false (by omega)
            have hpn : decide (p < m3) = false := decide_eq_false hlp
            have hw1 : IntKind.i64.wrap ((n2 : Int) + (n3 : Int)) = (n2 : Int) + (n3 : Int) := by rw [IntKind.wrap_i64]; have := HNX.out; have := HN3E.out; have := HEX.out; omega
            have hw2 : IntKind.i64.wrap ((m2 : Int) + (m3 : Int)) = (m2 : Int) + (m3 : Int) := by rw [IntKind.wrap_i64]; omega
            have heq : (((n2 : Int) + (n3 : Int)) == ((m2 : Int) + (m3 : Int))) = true := by rw [beq_iff_eq]; have := HNX.out; have := HN3E.out; omega
            go_wp2_with fail
            go_ret
            exact ⟨rfl, HB3.out.trans (HB.out.mono HB3.out.size)⟩
end Go.Proofs.Ytobbopakdaoemaa
