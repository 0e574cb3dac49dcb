/- For whom each one waits, over all locks: package locks' Edges. -/
import Derived.Test.YtnjhhndggfjjdaaDoorLkG
import Derived.Test.YtnjhhndggfjjdaaDoorEdS
set_option maxRecDepth 4000
namespace Go.Proofs.YtnjhhndggfjjdaaDoor
open Go.RowKit
/-- no row of edges -/
def NoE (o : Obj) : Prop := ∀ cur, o ≠ .cells cur 41 (0, 0)
abbrev EK (w w' : World) : Prop := Keep (fun _ o => NoE o) w w'
theorem noE {cur : Array Value} {T : TypeId} (h : T ≠ 41) : NoE (.cells cur T (0, 0)) := fun cur' e => by injection e with _ e; exact h e
theorem own_ek {α : Type} {E : Enc α} {T : TypeId} {w w' : World} {base : Nat} {v : Value} {l : List α} (h : Own w base E T v l) (k : EK w w') (ht : T ≠ 41) : Own w' base E T v l :=
  own_keep h fun g hg => by
    obtain ⟨_, _, cur, hc⟩ := own_blk h hg
    rw [hc]
    exact k.block g _ hc (noE ht)
theorem blk_ek {w w' : World} {g : Nat} {T : TypeId} {cs : Array Value} (h : Blk w g T cs) (k : EK w w') (ht : T ≠ 41) : Blk w' g T cs := k.block g _ h (noE ht)
theorem Box.ek {w w' : World} {q : Nat} {m : Nm} {r : Re} {l : Lk} (h : Box w q m r l) (k : EK w w') : Box w' q m r l := ⟨blk_ek h.blk k (by decide), h.row.kept k fun _ _ _ => noE (by decide)⟩
theorem EK.of_below {w w' : World} (h : Below w.heap.size w w') : EK w w' := Keep.of_below h
/-- an edge more -/
theorem append_edge {W : World} {base : Nat} {v : Value} {l : List (Int × Int)} (ho : Own W base eE 41 v l) (hb : base ≤ W.heap.size) (hn : l.length ≤ 100000) (a b : Int) :
    ∃ v' W', (Builtin.append_ #[39, 39] 39 #[v, .slice (some ⟨W.heap.size, 0, none⟩) 1 1]).run Tryd.prog (W.alloc (.cells #[.int .i64 a, .int .i64 b] 41)) = .ok v' W' ∧
      Own W' base eE 41 v' (l ++ [(a, b)]) ∧ Below base W W' ∧ EK W W' := by
  have hal := alloc_below W (.cells #[.int .i64 a, .int .i64 b] 41)
  have hone : Lst (W.alloc (.cells #[.int .i64 a, .int .i64 b] 41)) (fun i => W.heap.size ≤ i) eE (some ⟨W.heap.size, 0, none⟩) [(a, b)] := fun _ =>
    ⟨_, 0, rfl, Nat.le_refl _, by simp, fun j u hu => by rw [(Blk.new W 41 _).cell, Nat.zero_add]; simpa [cellsE, eE, Go.Proofs.YtnjhhndggfjjdaaDoor.encE] using hu⟩
  have ho2 := own_belowE ho hal
  obtain ⟨v', W', hap, ho', hg', _⟩ := append_own tyE ho2 hone rfl 1 (by show l.length + 1 ≤ _; omega) (Nat.le_trans hb hal.size)
  refine ⟨v', W', hap, ho', (hal.mono hb).grown hg' (Nat.le_trans hb hal.size) (fun g hg => (own_blk ho2 hg).1), (Keep.of_below hal).grown hg' fun g o hg hgo hk => ?_⟩
  obtain ⟨_, _, cur, hc⟩ := own_blk ho hg
  rw [hc] at hgo
  injection hgo with hgo
  exact hk cur hgo.symm
/-- what one lock tells -/
def rawL (l : Lk) : List (Int × Int) := (holdsP l).flatMap fun h => (waitsP l h.1).map fun o => (h.1, o)
theorem rawE_snoc {s : TS} {j : Nat} (hj : j < s.length) : rawE (s.take (j + 1)) = rawE (s.take j) ++ rawL s[j].2 := by
  rw [List.take_succ_eq_append_getElem hj]
  unfold rawE rawL
  simp only [List.flatMap_append, List.flatMap_cons, List.flatMap_nil, List.append_nil]
theorem rawE_le {s : TS} (j : Nat) : (rawE (s.take j)).length ≤ (rawE s).length := by
  conv => rhs; rw [← List.take_append_drop j s]
  unfold rawE
  rw [List.flatMap_append, List.length_append]
  omega
def EoR (w : World) (s : TS) (k : Nat) (v i : Value) (wr : World) : Prop := ∃ j, j + k = s.length ∧ i = .int .i64 (j : Int) ∧ Own wr w.heap.size eE 41 v (rawE (s.take j)) ∧ Below w.heap.size w wr
def EmR (w w2 : World) (P : List (Int × Int)) (l : Lk) (L : List Ho) (k : Nat) (v i : Value) (wr : World) : Prop := ∃ q, q + k = L.length ∧ i = .int .i64 (q : Int) ∧ Own wr w.heap.size eE 41 v (P ++ (L.take q).flatMap fun h => (waitsP l h.1).map fun o => (h.1, o)) ∧ Below w.heap.size w wr ∧ EK w2 wr
def EiR (w w4 : World) (P : List (Int × Int)) (x : Int) (L : List Int) (k : Nat) (v i : Value) (wr : World) : Prop := ∃ p, p + k = L.length ∧ i = .int .i64 (p : Int) ∧ Own wr w.heap.size eE 41 v (P ++ (L.take p).map fun o => (x, o)) ∧ Below w.heap.size w wr ∧ EK w4 wr
set_option maxHeartbeats 8000000 in
theorem tedges_ {w : World} {b : Nat} {n : Int} {s : TS} (h : LT w b n s) (hg : TGood s) (hT : Tab w) (hr : (rawE s).length ≤ 100000) :
    Calls Tryd.prog 14 #[.pointer (some ⟨b, 0, none⟩)] w fun e w' => ∃ v, e = .returned v ∧ Own w' w.heap.size eE 41 v (sortedE (rawE s)) ∧ Below w.heap.size w w' := by
  obtain ⟨A, c, rs, h⟩ := h
  have p1 := h.blk.cell 1
  have hbw := h.lt
  have hmx := h.max
  have hle := h.le
  unfold maxLen at hmx
  have H := Lib.hid h
  have HG := Lib.hid hg
  have HT := Lib.hid hT
  have HR := Lib.hid hr
  clear h hg hT hr
  obtain ⟨m, hm⟩ : ∃ m, s.length = m := ⟨_, rfl⟩
  have hrl : rs.length = m := H.out.rows.1.trans hm
  rw [hm] at p1 hle
  have HM := Lib.hid hm
  have HRL := Lib.hid hrl
  clear hm hrl
  go_enter Tryd.func14, Tryd.ntmps14
  go_wp2_with fail
  go_loopg [3, 17] m (fun k v i wr => EoR w s k v i wr)
  case atStart => exact ⟨0, by rw [HM.out]; omega, rfl, own_nil _ _, Below.refl _ _⟩
  case round =>
    obtain ⟨j, hj, rfl, ho, hb⟩ := hrel
    have HJ := Lib.hid hj
    have HO := Lib.hid ho
    have HB := Lib.hid hb
    clear hj ho hb
    by_cases hlt : j < m
    · have hx : j < rs.length := by rw [HRL.out]; exact hlt
      have hs : j < s.length := by rw [HM.out]; exact hlt
      have hrow := (H.out.rows.below HB.out).2 j hx hs
      obtain ⟨g2, o2, rfl, _, hg2, d0, d1, d2, d3, d4⟩ := (lst_below H.out.lst HB.out).atL hx
      have hmem := List.getElem_mem hs
      have hok := HG.out.ok _ hmem
      have hsm := HG.out.small _ hmem
      have hnm : rs[j].2.2 = s[j].1 := hrow.name
      obtain ⟨e1, e2, he⟩ : ∃ e1 e2, s[j] = (e1, e2) := ⟨_, _, rfl⟩
      have hsn := rawE_snoc hs
      have hlj := rawE_le (s := s) (j + 1)
      rw [hsn] at hlj
      rw [he] at hok hsm hrow hnm hsn hlj
      simp only at hok hsm hnm hsn hlj
      have hbx : Box (wr.alloc (.cells #[rs[j].1.val, rs[j].2.1.val, .int .i64 e1.1, .string e1.2.1, .string e1.2.2] 62)) wr.heap.size e1 rs[j] e2 := ⟨Blk.new wr _ _, hrow.below (alloc_below wr _)⟩
      rw [hnm] at d2 d3 d4
      have HBX := Lib.hid hbx
      have HAL := Lib.hid (alloc_below wr (.cells #[rs[j].1.val, rs[j].2.1.val, .int .i64 e1.1, .string e1.2.1, .string e1.2.2] 62))
      have HOK := Lib.hid hok
      have HSN := Lib.hid hsn
      have hlj2 : (rawE (s.take j) ++ rawL e2).length ≤ 100000 := Nat.le_trans hlj HR.out
      have HLJ := Lib.hid hlj2
      generalize hX : rs[j] = X at *
      clear hbx hok hsn he hrow hmem hnm hX hlj hlj2
      obtain ⟨⟨a1, a2, a3⟩, ⟨c1, c2, c3⟩, y⟩ := X
      obtain ⟨t1, t2, t3⟩ := e1
      unfold Sl.val at *
      simp only at *
      go_wp2_with fail
      generalize wr.alloc (.cells #[.slice a1 a2 a3, .slice c1 c2 c3, .int .i64 t1, .string t2, .string t3] 62) = wA at *
      refine (holds_ HBX.out.lock hsm.1 hsm.2).mono ?_
      rintro e w2 ⟨v2, rfl, ho2, hb2⟩
      obtain ⟨A2, n2, e2', hl2, hn2, hc2, _⟩ := own_lst ho2
      subst e2'
      unfold maxLen at hc2
      have hb02 : Below w.heap.size w w2 := HB.out.trans ((HAL.out.trans (hb2.mono HAL.out.size)).mono HB.out.size)
      have HB2 := Lib.hid hb02
      have HO2 := Lib.hid (own_belowE HO.out (HAL.out.trans (hb2.mono HAL.out.size)))
      have HBX2 := Lib.hid (HBX.out.below hb2)
      have HHO := Lib.hid ho2
      have HT2 := Lib.hid (HT.out.below hb02)
      have hpl : ∀ q, ((rawE (s.take j)) ++ ((holdsP e2).take q).flatMap fun h => (waitsP e2 h.1).map fun o => (h.1, o)).length ≤ 100000 := fun q => by
        refine Nat.le_trans ?_ HLJ.out
        rw [List.length_append, List.length_append]
        have : rawL e2 = ((holdsP e2).take q).flatMap (fun h => (waitsP e2 h.1).map fun o => (h.1, o)) ++ ((holdsP e2).drop q).flatMap (fun h => (waitsP e2 h.1).map fun o => (h.1, o)) := by
          rw [← List.flatMap_append, List.take_append_drop]; rfl
        rw [this, List.length_append]
        omega
      have HPL := Lib.hid hpl
      have hraw : rawL e2 = (holdsP e2).flatMap fun h => (waitsP e2 h.1).map fun o => (h.1, o) := rfl
      have HRAW := Lib.hid hraw
      clear hl2 hb2 hb02 hpl hraw HO HBX HAL HLJ
      generalize hP : rawE (s.take j) = P at *
      generalize hL : holdsP e2 = L at *
      obtain ⟨z, hz⟩ : ∃ z, L.length = z := ⟨_, rfl⟩
      rw [hz] at hn2 HHO
      rw [hz]
      have HZ := Lib.hid hz
      clear hP hL hz
      have hgbw : wr.heap.size < w2.heap.size := HBX2.out.blk.lt
      generalize wr.heap.size = gb at *
      go_wp2_with fail
      go_loopg [3, 24] z (fun k v i wr => EmR w w2 P e2 L k v i wr)
      case atStart => exact ⟨0, by rw [HZ.out]; omega, rfl, by simpa using HO2.out, HB2.out, Keep.refl _⟩
      case round =>
        obtain ⟨q, hq, rfl, hoq, hbq, hkq⟩ := hrel
        have HQ := Lib.hid hq
        have HOQ := Lib.hid hoq
        have HBQ := Lib.hid hbq
        have HKQ := Lib.hid hkq
        clear hq hoq hbq hkq
        by_cases hltq : q < z
        · have hxq : q < L.length := by rw [HZ.out]; exact hltq
          have hoq2 := own_ek HHO.out HKQ.out (by decide)
          obtain ⟨A3, n3, e3, hl3, _, _, _⟩ := own_lst hoq2
          injection e3 with e3 e7 e4
          subst e3 e4
          clear e7
          obtain ⟨g3, o3, rfl, hg3, f0, f1, f2⟩ := hl3.atH hxq
          have hnxq : (L.take (q + 1)).flatMap (fun h => (waitsP e2 h.1).map fun o => (h.1, o)) = (L.take q).flatMap (fun h => (waitsP e2 h.1).map fun o => (h.1, o)) ++ (waitsP e2 L[q].1).map fun o => (L[q].1, o) := by
            rw [List.take_succ_eq_append_getElem hxq]
            simp only [List.flatMap_append, List.flatMap_cons, List.flatMap_nil, List.append_nil]
          have hplq := HPL.out (q + 1)
          rw [hnxq] at hplq
          rw [← List.append_assoc] at hplq
          have hnxq2 : P ++ (L.take (q + 1)).flatMap (fun h => (waitsP e2 h.1).map fun o => (h.1, o)) = (P ++ (L.take q).flatMap fun h => (waitsP e2 h.1).map fun o => (h.1, o)) ++ (waitsP e2 L[q].1).map fun o => (L[q].1, o) := by rw [hnxq, List.append_assoc]
          have HNXQ := Lib.hid hnxq2
          have hplq2 : (P ++ (L.take q).flatMap fun h => (waitsP e2 h.1).map fun o => (h.1, o)).length + (waitsP e2 L[q].1).length ≤ 100000 := by
            rw [List.length_append, List.length_map] at hplq
            exact hplq
          have HPLQ := Lib.hid hplq2
          have hbxq := HBX2.out.ek HKQ.out
          have hTq := HT.out.below HBQ.out
          clear hoq2 hl3 hnxq hnxq2 hplq hplq2
          generalize L[q].1 = x0 at *
          generalize (L[q].2.1 : Int) = x1 at *
          generalize (L[q].2.2 : Int) = x2 at *
          have halq := alloc_below wr (.cells #[.int .i64 x0, .int .i64 x1, .int .i64 x2] 53)
          have hbq2 := hbxq.below halq
          have hwt := waits_ hbq2.lock HOK.out hsm.1 hsm.2 (hTq.below halq) x0
          have hhb := Blk.new wr 53 #[.int .i64 x0, .int .i64 x1, .int .i64 x2]
          have HHB := Lib.hid hhb
          have HWT := Lib.hid hwt
          have HALQ := Lib.hid halq
          have HBQ2 := Lib.hid hbq2
          have hgn : gb ≠ wr.heap.size := Nat.ne_of_lt hbxq.blk.lt
          clear halq hbq2 hwt hhb hTq hbxq
          go_wp2_with fail
          generalize wr.alloc (.cells #[.int .i64 x0, .int .i64 x1, .int .i64 x2] 53) = wC at *
          refine HWT.out.mono ?_
          rintro e w4 ⟨v4, rfl, ho4, hb4⟩
          obtain ⟨A4, n4, e4, _, hn4, hc4, _⟩ := own_lst ho4
          subst e4
          unfold maxLen at hc4
          have hb14 : Below wr.heap.size wr w4 := HALQ.out.trans (hb4.mono HALQ.out.size)
          have HB4 := Lib.hid (HBQ.out.trans (hb14.mono HBQ.out.size))
          have HK4 := Lib.hid (HKQ.out.trans (Keep.of_below hb14))
          have HO4 := Lib.hid (own_belowE HOQ.out hb14)
          have HHB4 := Lib.hid (HHB.out.below hb4 HHB.out.lt)
          have HWO := Lib.hid ho4
          clear ho4 hb4 hb14 HOQ HHB HALQ HBQ2 HWT f0 f1 f2
          generalize waitsP e2 x0 = LW at *
          generalize (P ++ (L.take q).flatMap fun h => (waitsP e2 h.1).map fun o => (h.1, o)) = P2 at *
          obtain ⟨z4, hz4⟩ : ∃ z4, LW.length = z4 := ⟨_, rfl⟩
          rw [hz4] at hn4 HWO
          rw [hz4]
          have HZ4 := Lib.hid hz4
          have hgh : wr.heap.size < w4.heap.size := HHB4.out.lt
          clear hz4
          generalize wr.heap.size = gh at *
          go_wp2_with fail
          go_loopg [3, 33] z4 (fun k v i wr => EiR w w4 P2 x0 LW k v i wr)
          case atStart => exact ⟨0, by rw [HZ4.out]; omega, rfl, by simpa using HO4.out, HB4.out, Keep.refl _⟩
          case round =>
            obtain ⟨p, hp, rfl, hop, hbp, hkp⟩ := hrel
            have HP := Lib.hid hp
            have HOP := Lib.hid hop
            have HBP := Lib.hid hbp
            have HKP := Lib.hid hkp
            clear hp hop hbp hkp
            by_cases hltp : p < z4
            · have hxp : p < LW.length := by rw [HZ4.out]; exact hltp
              have hwo2 := own_ek HWO.out HKP.out (by decide)
              obtain ⟨A5, n5, e5, hl5, _, _, _⟩ := own_lst hwo2
              injection e5 with e5 e7 e6
              subst e5 e6
              clear e7
              obtain ⟨g5, o5, rfl, hg5, y0⟩ := hl5.atI hxp
              have hhb5 := blk_ek HHB4.out HKP.out (by decide)
              have k0 := hhb5.cell 0
              have hnp : (LW.take (p + 1)).map (fun o => (x0, o)) = (LW.take p).map (fun o => (x0, o)) ++ [(x0, LW[p])] := by
                rw [List.take_succ_eq_append_getElem hxp, List.map_append]; rfl
              have hlp : (P2 ++ (LW.take p).map fun o => (x0, o)).length ≤ 100000 := by
                have := HPLQ.out
                rw [List.length_append, List.length_map, List.length_take]
                omega
              obtain ⟨v6, w6, hap, ho6, hb6, hk6⟩ := append_edge HOP.out HBP.out.size hlp x0 LW[p]
              rw [List.append_assoc, ← hnp] at ho6
              generalize LW[p] = yy at *
              have HO6 := Lib.hid ho6
              have HB6 := Lib.hid (HBP.out.trans hb6)
              have HK6 := Lib.hid (HKP.out.trans hk6)
              have HAP := Lib.hid hap
              clear hap ho6 hb6 hk6 hhb5 hl5 hwo2 hnp hlp
              go_wp2_with (at_builtin; refine wpList_append_run rfl (.tmp 37) (.tmp 42) 39 39 rfl _ _ rfl rfl HAP.out ?_)
              go_roundg (z4 - (p + 1))
              case measure => have := HP.out; have := HZ4.out; omega
              case rel => exact ⟨p + 1, by have := HZ4.out; omega, by go_num, HO6.out, HB6.out, HK6.out⟩
            · obtain rfl : p = z4 := by have := HP.out; have := HZ4.out; omega
              have hall : LW.take p = LW := List.take_of_length_le (by rw [HZ4.out]; exact Nat.le_refl _)
              have hop := HOP.out
              rw [hall] at hop
              have HOP2 := Lib.hid hop
              clear hop hall
              have hnq := HNXQ.out
              have HFQ : Hid (EmR w w2 P e2 L (z - (q + 1)) u3 (.int .i64 ((q : Int) + 1)) wr) := ⟨q + 1, by have := HZ.out; omega, by go_num, by rw [hnq]; exact HOP2.out, HBP.out, HK4.out.trans HKP.out⟩
              clear hnq
              go_wp2_with fail
              go_roundg (z - (q + 1))
              case measure => have := HQ.out; have := HZ.out; omega
              case rel => exact HFQ.out
        · obtain rfl : q = z := by have := HQ.out; have := HZ.out; omega
          have hall : L.take q = L := List.take_of_length_le (by rw [HZ.out]; exact Nat.le_refl _)
          have hoq := HOQ.out
          rw [hall, ← HRAW.out] at hoq
          have HFQ : Hid (EoR w s (m - (j + 1)) u3 (.int .i64 ((j : Int) + 1)) wr) := ⟨j + 1, by have := HM.out; omega, by go_num, by rw [HSN.out]; exact hoq, HBQ.out⟩
          clear hoq hall
          go_wp2_with fail
          go_roundg (m - (j + 1))
          case measure => have := HJ.out; have := HM.out; omega
          case rel => exact HFQ.out
    · obtain rfl : j = m := by have := HJ.out; have := HM.out; omega
      have hall : s.take j = s := List.take_of_length_le (by rw [HM.out]; exact Nat.le_refl _)
      have ho := HO.out
      rw [hall] at ho
      obtain ⟨R, hR⟩ : ∃ R, rawE s = R := ⟨_, rfl⟩
      rw [hR] at ho
      have HRR := Lib.hid hR
      obtain ⟨A3, n3, e3, _, hn3, hc3, _⟩ := own_lst ho
      subst e3
      rcases R with _ | ⟨r0, R⟩
      · have HO3 := Lib.hid ho
        have hsn := fun W fv => sort_edges_none A3 n3 fv W
        have HSN := Lib.hid hsn
        have hemp : sortedE [] = [] := List.mergeSort_nil
        have HE := Lib.hid hemp
        clear ho hall hR hsn hemp HO
        simp only [List.length_nil] at *
        go_wp2_with fail
        refine (HSN.out _ _).mono ?_
        rintro e w' ⟨rfl, hw⟩
        have HW := Lib.hid hw
        clear hw
        go_wp2_with fail
        go_ret
        exact ⟨_, rfl, by rw [HRR.out, HE.out, HW.out]; exact HO3.out, by rw [HW.out]; exact HB.out⟩
      · generalize hRL : r0 :: R = RR at *
        have hpos : 0 < RR.length := by rw [← hRL]; simp
        rcases ho.2 with ⟨_, h0⟩ | ⟨g, cap', cur, e1, _⟩
        · omega
        obtain rfl : A3 = some ⟨g, 0, none⟩ := by injection e1
        obtain rfl : n3 = cap' := by injection e1
        have hh := own_holdsE ho
        have hsr := sort_edges cmpE swoE g 0 n3 RR.toArray wr (cmpLaysE g 0 _ wr) hh.1 hh.2 (by have := HR.out; rw [hR] at this; simp; omega) totE
        have hon := fun n os => own_sortedE ho n os
        have hsl := sortedE_length RR
        rw [List.size_toArray] at hsr
        have HSR := Lib.hid hsr
        have HON := Lib.hid hon
        have HSL := Lib.hid hsl
        clear ho hall hR hsr hon hsl hh hRL e1 HO
        obtain ⟨y, hy⟩ : ∃ y, RR.length = y := ⟨_, rfl⟩
        rw [hy] at HSR HON hn3 hpos
        rw [hy]
        clear hy
        go_wp2_with fail
        refine HSR.out.mono ?_
        rintro e w4 ⟨rfl, n4, os4, hw4⟩
        have h4 := HON.out n4 os4
        have hw5 : w4 = sortWorldK encE 2 wr g 0 n4 (sortedE RR).toArray os4 := hw4
        rw [← hw5] at h4
        have H4 := Lib.hid h4
        clear h4 hw4 hw5
        go_wp2_with fail
        go_ret
        exact ⟨_, rfl, by rw [HRR.out]; exact H4.out.1, HB.out.trans H4.out.2⟩
end Go.Proofs.YtnjhhndggfjjdaaDoor
