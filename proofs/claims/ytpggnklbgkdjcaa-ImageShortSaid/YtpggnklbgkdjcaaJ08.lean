/- Package state: may it be an object (rightObject; tools/r19_robj.py writes it)?. Package state: are these messages' numbers new, and below the next one (ids.fresh). -/
import Derived.Test.YtpggnklbgkdjcaaJ04
import Derived.Test.YtpggnklbgkdjcaaJ05
import Derived.Test.YtpggnklbgkdjcaaJ07
import Derived.Test.YtpggnklbgkdjcaaJ03
set_option maxRecDepth 4000
namespace Go.Proofs.Ytpggnklbgkdjcaa
open Go.RowKit
/-- may an object be made so? -/
def mkEf (n : ByteArray) (k l : Int) : Ef := ⟨1, n, ⟨#[]⟩, ⟨#[]⟩, k, l, false, Mg.zero⟩
theorem mk_right (n : ByteArray) (k l : Int) : (mkEf n k l).right = (nameB n && kindB k l) := by
  have e1 : (mkEf n k l).bare = mkEf n k l := by simp [Ef.bare, mkEf]
  have e2 : (mkEf n k l).good = (nameB n && kindB k l) := by simp [Ef.good, mkEf]
  rw [Ef.right, e1, e2, same_self, Bool.and_true]
theorem enters_rr : ∀ args w, (callFunc 62 args).run Try.prog w = .ok (.enter 62 args) w := enters_of Try.func62 (by kernel_rfl) rfl
theorem enters_mr : ∀ args w, (callFunc 65 args).run Try.prog w = .ok (.enter 65 args) w := enters_of Try.func65 (by kernel_rfl) rfl
theorem enters_uc : ∀ args w, (callFunc 66 args).run Try.prog w = .ok (.enter 66 args) w := enters_of Try.func66 (by kernel_rfl) rfl
theorem unclaimed_ (w : World) (m : Mg) : Calls Try.prog 66 #[m.val] w fun e w' => e = .returned (.bool (freeM m)) ∧ Below w.heap.size w w' := by
  obtain ⟨x0, x1, x2, x3, x4, x5⟩ := m
  have HB := Lib.hid (alloc_below w (.cells #[.int .i64 x0, .int .i64 x1, .int .i64 x2, .bool x3, .string x4, .string x5] 55))
  go_enter Try.func66, Try.ntmps66
  go_wp2
  go_ret
  exact ⟨rfl, HB.out⟩
theorem retX {a b : Bool} (h : a = b) : Ending.returned (.bool a) = .returned (.bool b) := by rw [h]
/-- a fact that the walk must not look through -/
structure ShutI (p : Prop) : Prop where out : p
theorem sum_zero (m d : Nat) : ((m : Int) + (d : Int) == 0) = decide (m + d = 0) := by
  by_cases h : m + d = 0
  · rw [decide_eq_true h]
    have : (m : Int) + (d : Int) = 0 := by omega
    simp [this]
  · rw [decide_eq_false h]
    have : ¬ (m : Int) + (d : Int) = 0 := by omega
    simpa using this
set_option maxHeartbeats 4000000 in
theorem right_object {w : World} {o : Ob} {r m d : Value} (h : ObAt w o r m d) (hn : o.short 10000) (hw : ∀ x ∈ o.msgs, Wf x.id) :
    Calls Try.prog 37 #[o.val r m d] w fun e w' => e = .returned (.bool o.right) ∧ Below w.heap.size w w' := by
  obtain ⟨s, k, l, rs, ms, ds⟩ := o
  obtain ⟨⟨A1, c1, rfl, l1, k1, x1, n1⟩, ⟨A2, c2, rfl, l2, k2, x2, n2⟩, ⟨A3, c3, rfl, l3, k3, x3, n3⟩⟩ := h
  obtain ⟨s1, s2, s3⟩ := hn
  simp only at l1 l2 l3 k1 k2 k3 s1 s2 s3 hw
  simp only [Ob.val, Ob.cells]
  have hb0 := alloc_below w (.cells #[.string s, .int .i64 k, .int .i64 l, .slice A1 rs.length c1, .slice A2 ms.length c2, .slice A3 ds.length c3] 39)
  have hX0 := Blk.new w 39 #[.string s, .int .i64 k, .int .i64 l, .slice A1 rs.length c1, .slice A2 ms.length c2, .slice A3 ds.length c3]
  have hR : (⟨s, k, l, rs, ms, ds⟩ : Ob).right = ((nameB s && kindB k l) && (if k = 1 then risesR rs && (rs.all rightR && decide (ms.length + ds.length = 0)) else decide (rs.length = 0) && (risesM ms && (ms.all Mg.right && (ds.all Mg.right && ds.all freeM))))) := rfl
  have he := fun W => rightE_ (mkEf s k l) W
  rw [mk_right] at he
  have f1 := fun W (hb : Below w.heap.size w W) => rises_n (c := c1) ((l1.below hb).rws) rfl (by omega)
  have f2 := fun W (hb : Below w.heap.size w W) => all_r (c := c1) (l1.below hb) rfl (by omega) enters_rr (fun W x => right_row x W)
  have g1 := fun W (hb : Below w.heap.size w W) => rises_m (c := c2) (l2.below hb) rfl s2 hw
  have g2 := fun W (hb : Below w.heap.size w W) => all_m (c := c2) (l2.below hb) rfl (by omega) enters_mr (fun W x => right_ x W)
  have g3 := fun W (hb : Below w.heap.size w W) => all_m (c := c3) (l3.below hb) rfl (by omega) enters_mr (fun W x => right_ x W)
  have g4 := fun W (hb : Below w.heap.size w W) => all_m (c := c3) (l3.below hb) rfl (by omega) enters_uc unclaimed_
  rw [hR]
  generalize (nameB s && kindB k l) = y0 at *
  generalize risesR rs = y1 at *
  generalize rs.all rightR = y2 at *
  generalize risesM ms = y3 at *
  generalize ms.all Mg.right = y4 at *
  generalize ds.all Mg.right = y5 at *
  generalize ds.all freeM = y6 at *
  generalize rs.length = m1 at *
  generalize ms.length = m2 at *
  generalize ds.length = m3 at *
  obtain ⟨z, hz⟩ : ∃ z, (y0 && (if k = 1 then y1 && (y2 && decide (m2 + m3 = 0)) else decide (m1 = 0) && (y3 && (y4 && (y5 && y6))))) = z := ⟨_, rfl⟩
  rw [hz]
  have HZ := ShutI.mk hz
  have HE := ShutI.mk he
  have F1 := ShutI.mk f1
  have F2 := ShutI.mk f2
  have G1 := ShutI.mk g1
  have G2 := ShutI.mk g2
  have G3 := ShutI.mk g3
  have G4 := ShutI.mk g4
  have HB0 := ShutI.mk hb0
  have HX0 := ShutI.mk hX0
  clear hb0 hX0 hR he f1 f2 g1 g2 g3 g4 hw l1 l2 l3 hz
  simp only [mkEf, Ef.val_, Ef.cells, Mg.zero] at HE
  have hws : IntKind.i64.wrap ((m2 : Int) + (m3 : Int)) = (m2 : Int) + (m3 : Int) := by rw [IntKind.wrap_i64]; omega
  cases y0
  · have hzf : false = z := by rw [← HZ.out]; rfl
    subst hzf
    go_enter Try.func37, Try.ntmps37
    go_wp2_with fail
    refine (HE.out _).mono ?_
    rintro e w1 ⟨rfl, hb1⟩
    have HB1 := ShutI.mk (HB0.out.trans (hb1.mono HB0.out.size))
    have hx1 := HX0.out.below hb1 HX0.out.lt
    have d1 := hx1.cell 1
    have d3 := hx1.cell 3
    have d4 := hx1.cell 4
    have d5 := hx1.cell 5
    have HX1 := ShutI.mk hx1
    simp only [List.getElem?_toArray, List.getElem?_cons_zero, List.getElem?_cons_succ] at d1 d3 d4 d5
    clear hb1 hx1 HE
    go_wp2_with fail
    go_ret
    exact ⟨retX (rfl), HB1.out⟩
  by_cases hk : k = 1
  · subst hk
    have hz1 : (y1 && (y2 && decide (m2 + m3 = 0))) = z := by rw [← HZ.out, if_pos rfl]; rfl
    have HZ1 := ShutI.mk hz1
    clear hz1 HZ G1 G2 G3 G4
    go_enter Try.func37, Try.ntmps37
    go_wp2_with fail
    refine (HE.out _).mono ?_
    rintro e w1 ⟨rfl, hb1⟩
    have HB1 := ShutI.mk (HB0.out.trans (hb1.mono HB0.out.size))
    have hx1 := HX0.out.below hb1 HX0.out.lt
    have d1 := hx1.cell 1
    have d3 := hx1.cell 3
    have d4 := hx1.cell 4
    have d5 := hx1.cell 5
    have HX1 := ShutI.mk hx1
    simp only [List.getElem?_toArray, List.getElem?_cons_zero, List.getElem?_cons_succ] at d1 d3 d4 d5
    clear hb1 hx1 HE
    go_wp2_with fail
    refine (F1.out _ HB1.out).mono ?_
    rintro e2 w2 ⟨rfl, hb2⟩
    have HB2 := ShutI.mk (HB1.out.trans (hb2.mono HB1.out.size))
    have hx2 := HX1.out.below hb2 HX1.out.lt
    have p23 := hx2.cell 3
    have p24 := hx2.cell 4
    have p25 := hx2.cell 5
    have HX2 := ShutI.mk hx2
    simp only [List.getElem?_toArray, List.getElem?_cons_zero, List.getElem?_cons_succ] at p23 p24 p25
    clear hb2 hx2 F1
    cases y1
    · have hzf : false = z := by rw [← HZ1.out]; rfl
      subst hzf
      go_wp2_with fail
      go_ret
      exact ⟨retX (rfl), HB2.out⟩
    go_wp2_with fail
    refine (F2.out _ HB2.out).mono ?_
    rintro e3 w3 ⟨rfl, hb3⟩
    have HB3 := ShutI.mk (HB2.out.trans (hb3.mono HB2.out.size))
    have hx3 := HX2.out.below hb3 HX2.out.lt
    have p33 := hx3.cell 3
    have p34 := hx3.cell 4
    have p35 := hx3.cell 5
    have HX3 := ShutI.mk hx3
    simp only [List.getElem?_toArray, List.getElem?_cons_zero, List.getElem?_cons_succ] at p33 p34 p35
    clear hb3 hx3 F2
    cases y2
    · have hzf : false = z := by rw [← HZ1.out]; rfl
      subst hzf
      go_wp2_with fail
      go_ret
      exact ⟨retX (rfl), HB3.out⟩
    have hzl : ((m2 : Int) + (m3 : Int) == 0) = z := by rw [← HZ1.out, sum_zero]; rfl
    have HZL := ShutI.mk hzl
    clear hzl
    go_wp2_with fail
    go_ret
    exact ⟨retX HZL.out, HB3.out⟩
  · have hkb : (k == 1) = false := by simpa using hk
    have hz1 : (decide (m1 = 0) && (y3 && (y4 && (y5 && y6)))) = z := by rw [← HZ.out, if_neg hk]; rfl
    have HZ1 := ShutI.mk hz1
    clear hz1 HZ F1 F2
    by_cases hm : m1 = 0
    · subst hm
      go_enter Try.func37, Try.ntmps37
      go_wp2_with fail
      refine (HE.out _).mono ?_
      rintro e w1 ⟨rfl, hb1⟩
      have HB1 := ShutI.mk (HB0.out.trans (hb1.mono HB0.out.size))
      have hx1 := HX0.out.below hb1 HX0.out.lt
      have d1 := hx1.cell 1
      have d3 := hx1.cell 3
      have d4 := hx1.cell 4
      have d5 := hx1.cell 5
      have HX1 := ShutI.mk hx1
      simp only [List.getElem?_toArray, List.getElem?_cons_zero, List.getElem?_cons_succ] at d1 d3 d4 d5
      clear hb1 hx1 HE
      go_wp2_with fail
      refine (G1.out _ HB1.out).mono ?_
      rintro e2 w2 ⟨rfl, hb2⟩
      have HB2 := ShutI.mk (HB1.out.trans (hb2.mono HB1.out.size))
      have hx2 := HX1.out.below hb2 HX1.out.lt
      have p23 := hx2.cell 3
      have p24 := hx2.cell 4
      have p25 := hx2.cell 5
      have HX2 := ShutI.mk hx2
      simp only [List.getElem?_toArray, List.getElem?_cons_zero, List.getElem?_cons_succ] at p23 p24 p25
      clear hb2 hx2 G1
      cases y3
      · have hzf : false = z := by rw [← HZ1.out]; rfl
        subst hzf
        go_wp2_with fail
        go_ret
        exact ⟨retX (rfl), HB2.out⟩
      go_wp2_with fail
      refine (G2.out _ HB2.out).mono ?_
      rintro e3 w3 ⟨rfl, hb3⟩
      have HB3 := ShutI.mk (HB2.out.trans (hb3.mono HB2.out.size))
      have hx3 := HX2.out.below hb3 HX2.out.lt
      have p33 := hx3.cell 3
      have p34 := hx3.cell 4
      have p35 := hx3.cell 5
      have HX3 := ShutI.mk hx3
      simp only [List.getElem?_toArray, List.getElem?_cons_zero, List.getElem?_cons_succ] at p33 p34 p35
      clear hb3 hx3 G2
      cases y4
      · have hzf : false = z := by rw [← HZ1.out]; rfl
        subst hzf
        go_wp2_with fail
        go_ret
        exact ⟨retX (rfl), HB3.out⟩
      go_wp2_with fail
      refine (G3.out _ HB3.out).mono ?_
      rintro e4 w4 ⟨rfl, hb4⟩
      have HB4 := ShutI.mk (HB3.out.trans (hb4.mono HB3.out.size))
      have hx4 := HX3.out.below hb4 HX3.out.lt
      have p43 := hx4.cell 3
      have p44 := hx4.cell 4
      have p45 := hx4.cell 5
      have HX4 := ShutI.mk hx4
      simp only [List.getElem?_toArray, List.getElem?_cons_zero, List.getElem?_cons_succ] at p43 p44 p45
      clear hb4 hx4 G3
      cases y5
      · have hzf : false = z := by rw [← HZ1.out]; rfl
        subst hzf
        go_wp2_with fail
        go_ret
        exact ⟨retX (rfl), HB4.out⟩
      go_wp2_with fail
      refine (G4.out _ HB4.out).mono ?_
      rintro e5 w5 ⟨rfl, hb5⟩
      have HB5 := ShutI.mk (HB4.out.trans (hb5.mono HB4.out.size))
      have hx5 := HX4.out.below hb5 HX4.out.lt
      have p53 := hx5.cell 3
      have p54 := hx5.cell 4
      have p55 := hx5.cell 5
      have HX5 := ShutI.mk hx5
      simp only [List.getElem?_toArray, List.getElem?_cons_zero, List.getElem?_cons_succ] at p53 p54 p55
      clear hb5 hx5 G4
      have hzl : y6 = z := by rw [← HZ1.out]; rfl
      subst hzl
      go_wp2_with fail
      go_ret
      exact ⟨retX (rfl), HB5.out⟩
    · have hmb : ((m1 : Int) == 0) = false := by
        have : ¬ (m1 : Int) = 0 := by omega
        simpa using this
      have hzf : false = z := by rw [← HZ1.out, decide_eq_false hm]; rfl
      subst hzf
      go_enter Try.func37, Try.ntmps37
      go_wp2_with fail
      refine (HE.out _).mono ?_
      rintro e w1 ⟨rfl, hb1⟩
      have HB1 := ShutI.mk (HB0.out.trans (hb1.mono HB0.out.size))
      have hx1 := HX0.out.below hb1 HX0.out.lt
      have d1 := hx1.cell 1
      have d3 := hx1.cell 3
      have d4 := hx1.cell 4
      have d5 := hx1.cell 5
      have HX1 := ShutI.mk hx1
      simp only [List.getElem?_toArray, List.getElem?_cons_zero, List.getElem?_cons_succ] at d1 d3 d4 d5
      clear hb1 hx1 HE
      go_wp2_with fail
      go_ret
      exact ⟨retX (rfl), HB1.out⟩
end Go.Proofs.Ytpggnklbgkdjcaa
namespace Go.Proofs.Ytpggnklbgkdjcaa
open Go.RowKit Go.Maps Go.MapKept Go.ChangeShapes
open Go.WideElems (Fit)
open Go.RowKit
section
variable {w : World} {b : Nat} {ms : List Int} {x : Int}
theorem Met.putI (h : Met w b ms) (hx : Wf x) (hl : ms.length ≤ 100000) : ∃ w', (Instr.mapUpdate 74 (.map (some b)) (.int .i64 x) (.agg #[])).run Try.prog w = .ok () w' ∧ Met w' b (ms ++ [x]) ∧ w.grownBy w' (some b) := by
  obtain ⟨w', h1, h2, h3⟩ := World.ownsMap.update h lawI Try.underlying74 (by unfold maxLen; omega) (keyI hx) (val := .agg #[]) (unitElem_mk (H := Unit))
  refine ⟨w', h1, ?_, h3⟩
  unfold Met
  rw [List.map_append, List.length_append]
  show w'.ownsMap _ _ _ _ _ (setOf _ (_ ++ [Lit.int .i64 x]))
  rw [setOf_snoc]
  exact h2
theorem Met.lookI (h : Met w b ms) (hx : Wf x) : (Instr.lookup 74 (.map (some b)) (.int .i64 x) true).run Try.prog w = .ok (.tuple #[.agg #[], .bool (decide (x ∈ ms))]) w := by
  obtain ⟨v, ps, h1, h2⟩ := World.ownsMap.look_ok h lawI Try.underlying74 (zeroU w) (zd := .agg []) (zp := []) unitElem_mk (keyI hx)
  obtain ⟨rfl, _⟩ := unitElem_inv h2
  rw [h1, met_has]
end
theorem fresh_all {ms : List Int} {l : List Mg} {nx : Int} {j : Nat} (h : ∀ i, i < j → freshAt ms l nx i = true) (hj : l.length ≤ j) : freshB ms l nx = true := by
  unfold freshB
  rw [List.all_eq_true]
  exact fun i hi => h i (by have := List.mem_range.1 hi; omega)
theorem fresh_not {ms : List Int} {l : List Mg} {nx : Int} {j : Nat} (h : freshAt ms l nx j = false) (hj : j < l.length) : freshB ms l nx = false := by
  unfold freshB
  rw [List.all_eq_false]
  exact ⟨j, List.mem_range.2 hj, by simp [h]⟩
def FreshR (w : World) (b : Nat) (ms : List Int) (l : List Mg) (nx : Int) (k : Nat) (i : Value) (wr : World) : Prop :=
  ∃ j, j + k = l.length ∧ i = .int .i64 (j : Int) ∧ (∀ q, q < j → freshAt ms l nx q = true) ∧ Met wr b (ms ++ idsL (l.take j)) ∧ Keep (fun i _ => i ≠ b) w wr
theorem idsL_succ {l : List Mg} {j : Nat} (h : j < l.length) : idsL (l.take (j + 1)) = idsL (l.take j) ++ [l[j].id] := ids_succ h
theorem idsL_len (l : List Mg) (j : Nat) : (idsL (l.take j)).length ≤ l.length := ids_len j
/-- what is known behind it -/
def Fresh (w : World) (b : Nat) (ms : List Int) (l : List Mg) (nx : Int) (e : Ending) (w' : World) : Prop :=
  e = .returned (.bool (freshB ms l nx)) ∧ (freshB ms l nx = true → Met w' b (ms ++ idsL l)) ∧ Keep (fun i _ => i ≠ b) w w'
structure ShutQ5 (p : Prop) : Prop where out : p
set_option maxHeartbeats 2000000 in
theorem fresh_ {w : World} {K : Nat → Prop} {A : Option Addr} {n c b : Nat} {l : List Mg} {ms : List Int} (hm : Met w b ms) (h : Lst w (fun i => K i ∧ i ≠ b) eM A l) (hl : l.length = n) (hn : n ≤ 20000) (hms : ms.length ≤ 20000) (hw : ∀ m ∈ l, Wf m.id) (nx : Int) :
    Calls Try.prog 38 #[.map (some b), .slice A n c, .int .i64 nx] w (Fresh w b ms l nx) := by
  have H := Lib.hid h
  have HL := Lib.hid hl
  have HW := Lib.hid hw
  have HM0 := Lib.hid hm
  clear h hl hw hm
  go_enter Try.func38, Try.ntmps38
  go_wp2_with fail
  go_loopg [13] n (fun k i wr => FreshR w b ms l nx k i wr)
  case atStart => exact ⟨0, by rw [HL.out]; omega, rfl, fun q hq => absurd hq (Nat.not_lt_zero q), by simpa [idsL] using HM0.out, Keep.refl w⟩
  case round =>
    obtain ⟨j, hj, rfl, hu, hm, hb⟩ := hrel
    have HJ := Lib.hid hj
    have HU := Lib.hid hu
    have HM := Lib.hid hm
    have HB := Lib.hid hb
    have hblt := hm.lt
    clear hj hu hm hb
    by_cases hlt : j < n
    · have hx : j < l.length := by rw [HL.out]; exact hlt
      obtain ⟨b', o, rfl, hb, c0, c1, c2, c3, c4, c5⟩ := (H.out.keep HB.out fun i _ _ hi => hi.2).atM hx
      have hwx := HW.out _ (List.getElem_mem hx)
      have hup : freshAt ms l nx j = (!decide (l[j].id ∈ ms ++ idsL (l.take j)) && decide (l[j].id < nx)) := by
        unfold freshAt; rw [List.getElem?_eq_getElem hx]
      have hids := idsL_succ hx
      obtain ⟨x, hxx⟩ : ∃ x, l[j] = x := ⟨_, rfl⟩
      rw [hxx] at c0 c1 c2 c3 c4 c5 hwx hup hids
      obtain ⟨x0, x1, x2, x3, x4, x5⟩ := x
      simp only at c0 c1 c2 c3 c4 c5 hwx hup hids
      have HUP := Lib.hid hup
      have HIDS := Lib.hid hids
      have k1 := alloc_below wr (.cells #[.int .i64 x0, .int .i64 x1, .int .i64 x2, .bool x3, .string x4, .string x5] 55)
      have hlk := (HM.out.below k1).lookI hwx
      clear hup hids hxx
      have k2 := k1.alloc k1.size (.cells #[] 105)
      have K2 := Lib.hid k2
      by_cases hin : x0 ∈ ms ++ idsL (l.take j)
      · rw [decide_eq_true hin] at hlk
        have hr := fresh_not (by rw [HUP.out, decide_eq_true hin]; rfl) hx
        have HR := ShutQ5.mk hr
        have HBW := Lib.hid (HB.out.trans (Keep.of_below k2))
        clear HUP HIDS hin hr k1 k2 HM HU HJ H HL HW K2
        go_wp2_with fail
        go_ret
        exact ⟨by rw [HR.out]; rfl, (fun h => by rw [HR.out] at h; cases h), HBW.out⟩
      · rw [decide_eq_false hin] at hlk
        have hup2 : freshAt ms l nx j = decide (x0 < nx) := by rw [HUP.out, decide_eq_false hin]; rfl
        have HUP2 := Lib.hid hup2
        by_cases hge : nx ≤ x0
        · have hr := fresh_not (by rw [HUP2.out, decide_eq_false (by omega)]) hx
          have HR := ShutQ5.mk hr
          have HBW := Lib.hid (HB.out.trans (Keep.of_below k2))
          have hg : decide (nx ≤ x0) = true := decide_eq_true hge
          clear HUP HIDS hin hr k1 k2 HM HU HJ H HL HW K2 HUP2 hup2
          go_wp2_with fail
          go_ret
          exact ⟨by rw [HR.out]; rfl, (fun h => by rw [HR.out] at h; cases h), HBW.out⟩
        · have hput : ∀ W, Below wr.heap.size wr W → ∃ w', (Instr.mapUpdate 74 (.map (some b)) (.int .i64 x0) (.agg #[])).run Try.prog W = .ok () w' ∧ Met w' b (ms ++ idsL (l.take (j + 1))) ∧ Keep (fun i _ => i ≠ b) w w' := fun W hW => by
            obtain ⟨w', h1, h2, h3⟩ := (HM.out.below hW).putI hwx (by have := idsL_len l j; have := HL.out; rw [List.length_append]; omega)
            refine ⟨w', h1, by rw [HIDS.out, ← List.append_assoc]; exact h2, (HB.out.trans (Keep.of_below hW)).grown h3 fun g o hg _ hne => ?_⟩
            injection hg with hg
            omega
          have hnext : ∀ q, q < j + 1 → freshAt ms l nx q = true := fun q hq => by
            rcases Nat.lt_or_ge q j with h5 | h5
            · exact HU.out q h5
            · obtain rfl : q = j := by omega
              rw [HUP2.out]; exact decide_eq_true (by omega)
          have HN := Lib.hid hnext
          obtain ⟨W3, hup3, hm3, hb3⟩ := hput _ k2
          have HM3 := Lib.hid hm3
          have HB3 := Lib.hid hb3
          have hg : decide (nx ≤ x0) = false := decide_eq_false hge
          clear HUP HIDS hin k1 k2 HM HU HW K2 HUP2 hup2 hput hnext hm3 hb3 H
          go_wp2_with fail
          go_roundg (n - (j + 1))
          case measure => have := HJ.out; have := HL.out; omega
          case rel => exact ⟨j + 1, by have := HL.out; omega, by go_num, HN.out, HM3.out, HB3.out⟩
    · have he : l.length ≤ j := by have := HL.out; omega
      have e1 := fresh_all HU.out he
      have e2 : l.take j = l := List.take_of_length_le he
      have hm2 := HM.out
      rw [e2] at hm2
      have E1 := ShutQ5.mk e1
      have HM2 := Lib.hid hm2
      clear e1 he e2 hm2
      go_wp2_with fail
      go_ret
      exact ⟨by rw [E1.out]; rfl, fun _ => HM2.out, HB.out⟩
end Go.Proofs.Ytpggnklbgkdjcaa
