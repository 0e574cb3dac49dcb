/- The document's Drop, walked. -/
import Derived.Test.YtnjhhndggfjjdaaGreatDoorJ20
import Derived.Deep.RegionHeld3
set_option maxRecDepth 4000
namespace Go.Proofs.YtnjhhndggfjjdaaGreatDoor
open Go.RowKit
/-- the lock and what has been granted, while Drop goes on -/
structure RD (w : World) (base : Nat) (X : Nat → Prop) (b : Nat) (H L : List Cl) (done : List Int) (gv vH vL : Value) (wr : World) : Prop where
  rk : RK base X b (H, L) vH vL wr
  got : Own wr w.heap.size eI 3 gv done
  keep : RKeep base X b w wr
section
variable {w wr w' : World} {base b : Nat} {X : Nat → Prop} {H L : List Cl} {done : List Int} {gv vH vL : Value}
theorem RD.below (d : RD w base X b H L done gv vH vL wr) (k : Below wr.heap.size wr w') : RD w base X b H L done gv vH vL w' :=
  ⟨d.rk.below k, own_belowE d.got k, (d.keep.trans (Keep.of_below k)).mono fun _ _ _ hi => hi⟩
theorem RD.turn (d : RD w base X b H L done gv vH vL wr) {H2 L2 : List Cl} {vH2 vL2 : Value} (h : RK base X b (H2, L2) vH2 vL2 w') (k : RKeep base X b wr w') : RD w base X b H2 L2 done gv vH2 vL2 w' :=
  ⟨h, own_rkeep d.rk.two d.got k, (d.keep.trans k).mono fun _ _ _ hi => hi⟩
end
def RDrop (w : World) (base : Nat) (X : Nat → Prop) (b : Nat) (H0 L0 : List Cl) (m : Nat) (gv : Value) (wr : World) : Prop :=
  ∃ (H L : List Cl) (done : List Int) (vH vL : Value), L.length = m ∧ drainP H0 L0 = (done ++ (drainP H L).1, (drainP H L).2) ∧ RD w base X b H L done gv vH vL wr ∧ H.length + L.length ≤ 30000 ∧ done.length + L.length ≤ 30000 ∧ (∀ c ∈ H, 0 < c.2 ∧ c.2 < 6) ∧ (∀ c ∈ L, 0 < c.2 ∧ c.2 < 6)
set_option maxHeartbeats 2000000 in
theorem rdrop_ {w : World} {base b : Nat} {X : Nat → Prop} {s : Lk} (h : RLk base X b s w) (hbase : base ≤ w.heap.size) (hok : Ok s) (hn : s.1.length ≤ 10000) (hm : s.2.length ≤ 10000) (who : Int) :
    Calls Tryz.prog 37 #[.pointer (some ⟨b, 0, none⟩), .int .i64 who] w fun e w' => ∃ v, e = .returned v ∧ Own w' w.heap.size eI 3 v (dropP s who).1 ∧ RLk base X b (dropP s who).2 w' ∧ RKeep base X b w w' := by
  obtain ⟨H, L⟩ := s
  obtain ⟨vH, vL, hk⟩ := h
  have hbs := hk.two.lt
  have MH := Lib.hid hok.mH
  have ML := Lib.hid hok.mL
  simp only at hn hm MH ML
  unfold dropP
  simp only
  obtain ⟨AH, cH, eH1, lH, _, _, _⟩ := own_lst hk.oH
  simp only [List.length_map] at eH1 lH
  subst eH1
  have b0 := hk.two.c0
  have hwo := rwithout_ (c := cH) (n := H.length) lH (by simp only [List.length_map]) (by omega) who
  simp only [withoutH_hd] at hwo
  have HWO := Lib.hid hwo
  have HK := Lib.hid hk
  have HBASE := Lib.hid hbase
  clear hwo lH hk hok hbase
  go_enter Tryz.func37, Tryz.ntmps37
  go_wp2_with fail
  refine HWO.out.mono ?_
  rintro e w1 ⟨v1, rfl, o1, hb1⟩
  have h3 := rk_held HK.out hb1 o1 HBASE.out
  obtain ⟨A1, n1, c1, e1⟩ := own_form o1
  subst e1
  have t1 := (HK.out.below hb1).two
  have q0 := t1.c0
  have f0 := Blk.frozen t1 0
  obtain ⟨AL, cL, eL1, lL, _, _, _⟩ := own_lst h3.1.oL
  simp only [List.length_map] at eL1 lL
  subst eL1
  have p1 := h3.1.two.c1
  have hwo2 := rwithout_ (c := cL) (n := L.length) lL (by simp only [List.length_map]) (by omega) who
  simp only [withoutH_ln] at hwo2
  have HWO2 := Lib.hid hwo2
  have H3 := Lib.hid h3
  clear hwo2 h3 lL t1 hb1 o1 HWO b0
  go_wp2_with fail
  generalize w1.setCell ⟨b, 0, none⟩ (.slice A1 n1 c1) = w3 at *
  refine HWO2.out.mono ?_
  rintro e w4 ⟨v4, rfl, o4, hb4⟩
  have h5 := rk_line H3.out.1 hb4 o4 (Nat.le_trans HBASE.out H3.out.2.size)
  obtain ⟨A4, n4, c4, e4⟩ := own_form o4
  subst e4
  have t4 := (H3.out.1.below hb4).two
  have q1 := t4.c1
  have f1 := Blk.frozen t4 1
  have hrd : RD w base X b (withoutP H who) (withoutP L who) [] (.slice none 0 0) (.slice A1 n1 c1) (.slice A4 n4 c4) (w4.setCell ⟨b, 1, none⟩ (.slice A4 n4 c4)) :=
    ⟨h5.1, own_nil _ _, (H3.out.2.trans (Keep.of_below hb4)).setCell (fun _ _ hi => hi.1 rfl) _⟩
  have HRD := Lib.hid hrd
  have hN1 := without_length H who
  have hN2 := without_length L who
  generalize hzz : (withoutP L who).length = z2 at *
  clear hrd h5 t4 hb4 o4 HWO2 p1 q0 f0
  go_wp2_with fail
  generalize w4.setCell ⟨b, 1, none⟩ (.slice A4 n4 c4) = w5 at *
  go_loopg [5, 6, 7] z2 (fun k gv _ _ wr => RDrop w base X b (withoutP H who) (withoutP L who) k gv wr)
  case atStart =>
    exact ⟨withoutP H who, withoutP L who, [], _, _, hzz, by simp, HRD.out, by rw [hzz]; omega, by rw [hzz]; show 0 + z2 ≤ _; omega, without_modes MH.out, without_modes ML.out⟩
  case round =>
    clear q1 f1 HRD
    obtain ⟨H', L', done, vH', vL', hlen, hdr, d, hbn, hbd, hmH, hmL⟩ := hrel
    obtain ⟨AH', cH', eH2, lH, gH, _, _⟩ := own_lst d.rk.oH
    obtain ⟨AL', cL', eL2, lL, gL, _, _⟩ := own_lst d.rk.oL
    simp only [List.length_map] at eH2 eL2 lH lL gH gL
    subst eH2 eL2
    have p0 := d.rk.two.c0
    have p1 := d.rk.two.c1
    have HDR := Lib.hid hdr
    have D := Lib.hid d
    have HMH := Lib.hid hmH
    have HML := Lib.hid hmL
    have HBN := Lib.hid hbn
    have HBD := Lib.hid hbd
    rcases L' with _ | ⟨x, L2⟩
    · have hres : drainP (withoutP H who) (withoutP L who) = (done, (H', [])) := by rw [hdr]; simp [drainP]
      have HRES := Lib.hid hres
      clear hdr d lL lH hmH hmL hres hbn hbd
      simp only [List.length_nil] at hlen p1
      subst hlen
      go_wp2_with fail
      go_quiet (fail)
      go_wp2_with fail
      go_ret
      have D2 := D.out.below (below_drewN (Below.refl _ wr) nq)
      exact ⟨u5, rfl, by rw [HRES.out]; exact D2.got, by rw [HRES.out]; exact ⟨_, _, D2.rk⟩, D2.keep⟩
    · have hx := hmL x (by simp)
      obtain ⟨gY, oY, eY, hgY, d1, d2, d3⟩ := Lst.atLn (j := 0) lL (by simp)
      subst eY
      simp only [List.getElem_cons_zero, Nat.zero_mul, Nat.add_zero] at d1 d2 d3
      obtain ⟨x1, x2⟩ := x
      have hfi := fun W (hb : Below wr.heap.size wr W) => rfits_ (w := W) (c := cH') (n := H'.length) ((D.out.rk.below hb).two) (lH.below hb) rfl (by omega) HMH.out (x1, x2) hx.2
      simp only at d1 d2 d3 hx
      obtain ⟨A', hsl, hl', _⟩ := tail_holds lL (n := L2.length + 1) (by simp) (by simpa using gL) (q := 1) (m := L2.length) (by omega) (by omega)
      have hsl1 : ∀ W, (Instr.slice 71 (.slice (some ⟨gY, oY, none⟩) (L2.length + 1) cL') (some (.int .i64 1)) none none).run Tryz.prog W = .ok (.slice A' L2.length (cL' - 1)) W := hsl
      have hl2 : Lst wr (fun i => i < wr.heap.size) eH A' (L2.map lnA) := hl'.lt
      generalize hfv : fitsP H' (x1, x2) = fv at *
      have HFV := Lib.hid hfv
      have HFI := Lib.hid hfi
      have HLT := Lib.hid hl2
      have HLH := Lib.hid lH
      simp only [List.length_cons] at *
      clear hdr d lL lH hmH hmL hbn hbd hfi hfv hsl hl' hl2
      have hS0 : (fun W : World => W.cell? ⟨b, 1, none⟩ = some (.slice (some ⟨gY, oY, none⟩) (L2.length + 1) cL') ∧ W.cell? ⟨gY, oY, none⟩ = some (.int .i64 x1) ∧ W.cell? ⟨gY, oY + 2, none⟩ = some (.int .i64 (x2 : Int))) wr.drew := ⟨p1, d1, d3⟩
      have hbr : b < wr.heap.size := D.out.rk.two.lt
      generalize hk2 : L2.length = k2 at *
      subst hlen
      have hgt : ((k2 : Int) + 1 : Int) > 0 := by omega
      go_wp2_with fail
      go_region_held3 (fun W : World => W.cell? ⟨b, 1, none⟩ = some (.slice (some ⟨gY, oY, none⟩) (k2 + 1) cL') ∧ W.cell? ⟨gY, oY, none⟩ = some (.int .i64 x1) ∧ W.cell? ⟨gY, oY + 2, none⟩ = some (.int .i64 (x2 : Int)))
        (first | exact hS0 | exact hS1)
        (first | (go_at_call 59; refine (HFI.out _ (Below.refl _ _).drew).mono ?_; rintro e w6 ⟨rfl, hb6⟩; have HB6 := Lib.hid hb6; have hS1 : (fun W : World => W.cell? ⟨b, 1, none⟩ = some (.slice (some ⟨gY, oY, none⟩) (k2 + 1) cL') ∧ W.cell? ⟨gY, oY, none⟩ = some (.int .i64 x1) ∧ W.cell? ⟨gY, oY + 2, none⟩ = some (.int .i64 (x2 : Int))) w6 := ⟨(cell_of_heap (hb6.block b hbr) _).trans hS0.1, (cell_of_heap (hb6.block gY hgY) _).trans hS0.2.1, (cell_of_heap (hb6.block gY hgY) _).trans hS0.2.2⟩; clear hb6))
      have hS1b := hS1.1
      have hb6 := (Below.refl wr.heap.size wr).drew.trans HB6.out
      have D6 := D.out.below hb6
      have e1 := (cell_of_heap (hb6.block gY hgY) _).trans d1
      have e2 := (cell_of_heap (hb6.block gY hgY) _).trans d2
      have e3 := (cell_of_heap (hb6.block gY hgY) _).trans d3
      have hgY6 : gY < w6.heap.size := Nat.lt_of_lt_of_le hgY hb6.size
      have hl6 := HLT.out.below hb6
      have HLH6 := Lib.hid (HLH.out.below hb6)
      have D6H := Lib.hid D6
      clear hS0 hS1 d1 d2 d3 p0 p1 HFI HB6 D HLT HLH
      cases fv
      · have hres : drainP (withoutP H who) (withoutP L who) = (done, (H', (x1, x2) :: L2)) := by rw [HDR.out, drain_stop HFV.out]; simp
        have HRES := Lib.hid hres
        clear hres hb6 D6 e1 e2 e3 hl6
        go_wp2_with fail
        go_ret
        exact ⟨u5, rfl, by rw [HRES.out]; exact D6H.out.got, by rw [HRES.out]; exact ⟨_, _, D6H.out.rk⟩, D6H.out.keep⟩
      · have hal := alloc_below w6 (.cells #[.int .i64 x1, .int .i64 0, .int .i64 (x2 : Int)] 56)
        have hblk := Blk.new w6 56 #[.int .i64 x1, .int .i64 0, .int .i64 (x2 : Int)]
        have D7 := D6.below hal
        have q1 := D7.rk.two.c1
        obtain ⟨v7, w7, hap, o7, hb7⟩ := append_firstH (n := k2) (c := cL' - 1) (hl6.below hal) (by rw [List.length_map]; exact hk2) (by have := HBN.out; omega)
        obtain ⟨A7, n7, c7, e7⟩ := own_form o7
        subst e7
        have hrk := rk_line D7.rk hb7 o7 (Nat.le_trans (Nat.le_trans HBASE.out D7.keep.size) (Nat.le_refl _))
        have t7 := (D7.rk.below hb7).two
        have q7 := t7.c1
        have f7 := Blk.frozen t7 1
        have hbn6 : b ≠ w6.heap.size := Nat.ne_of_lt D6.rk.two.lt
        have hgn6 : w6.heap.size ≠ b := hbn6.symm
        have hgYn : gY ≠ w6.heap.size := Nat.ne_of_lt hgY6
        have hbx : w6.heap.size < (w6.alloc (.cells #[.int .i64 x1, .int .i64 0, .int .i64 (x2 : Int)] 56)).heap.size := by simp
        have hblk7 : Blk (w7.setCell ⟨b, 1, none⟩ (.slice A7 n7 c7)) w6.heap.size 56 #[.int .i64 x1, .int .i64 0, .int .i64 (x2 : Int)] := Blk.far (Blk.below hblk hb7 hbx) (p := ⟨b, 1, none⟩) hgn6 _
        have D8 := D7.turn hrk.1 hrk.2
        have hlh8 : Lst (w7.setCell ⟨b, 1, none⟩ (.slice A7 n7 c7)) (fun i => base ≤ i) eH AH' (H'.map hdA) := by
          obtain ⟨A0, c0, e0, l0, _⟩ := own_lst D8.rk.oH
          injection e0 with e01 _ e03
          subst e01
          exact l0.more fun _ _ h => h.1
        have hne6 : ∀ g, (Value.slice AH' H'.length cH').ownBlock = some g → g ≠ w6.heap.size := fun g hg => Nat.ne_of_lt (own_blk D6.rk.oH hg).2.1
        have NE6 := Lib.hid hne6
        have HAP := Lib.hid hap
        have D8H := Lib.hid D8
        have HBX := Lib.hid hblk7
        have HLH8 := Lib.hid hlh8
        clear hal hblk hne6 D7 hap o7 hb7 hrk t7 hbx hblk7 D8 hlh8 hb6 D6 D6H hl6 HLH6
        go_wp2_with (at_builtin; refine wpList_append_run rfl (.const (.slice none 0 0)) (.tmp 61) 71 71 rfl _ _ rfl rfl HAP.out ?_)
        generalize w7.setCell ⟨b, 1, none⟩ (.slice A7 n7 c7) = wB at *
        generalize w6.heap.size = bx at *
        have HX := Lib.hid hx
        have hbB : b < wB.heap.size := D8H.out.rk.two.lt
        have hbx : bx < wB.heap.size := HBX.out.lt
        have p8 := D8H.out.rk.two.c0
        have x8 : wB.cell? ⟨bx, 0, none⟩ = some (.int .i64 x1) := HBX.out.cell 0
        have hfh := fun W (hb : Below wB.heap.size wB W) => rfind_ (w := W) (c := cH') (n := H'.length) (HLH8.out.below hb) (by simp only [List.length_map]) (by have := HBN.out; omega) x1
        simp only [idx_hd] at hfh
        generalize hn0 : H'.length = n0 at *
        have HN0 := Lib.hid hn0
        have hT0 : (fun W : World => W.cell? ⟨b, 0, none⟩ = some (.slice AH' n0 cH') ∧ W.cell? ⟨bx, 0, none⟩ = some (.int .i64 x1)) wB.drew := ⟨p8, x8⟩
        clear e1 e2 e3 q1 q7 f7 hS1b HAP hn0 hx p8 x8
        rcases idx_cases (isW x1) H' with ⟨e0, hno⟩ | ⟨hk, e0, hyes, hkw⟩
        · simp only [e0] at hfh
          clear e0
          have HFH := Lib.hid hfh
          clear hfh
          go_wp2_with fail
          go_region_held3 (fun W : World => W.cell? ⟨b, 0, none⟩ = some (.slice AH' n0 cH') ∧ W.cell? ⟨bx, 0, none⟩ = some (.int .i64 x1))
            (first | exact hT0 | exact hT1)
            (first | (go_at_call 30; refine (HFH.out _ (Below.refl _ _).drew).mono ?_; rintro e w8 ⟨rfl, hb8⟩; have HB8 := Lib.hid hb8; have hT1 : (fun W : World => W.cell? ⟨b, 0, none⟩ = some (.slice AH' n0 cH') ∧ W.cell? ⟨bx, 0, none⟩ = some (.int .i64 x1)) w8 := ⟨(cell_of_heap (hb8.block b hbB) _).trans hT0.1, (cell_of_heap (hb8.block bx hbx) _).trans hT0.2⟩; clear hb8))
          have hb8 := (Below.refl wB.heap.size wB).drew.trans HB8.out
          have D9 := Lib.hid (D8H.out.below hb8)
          have HBX9 := Lib.hid (Blk.below HBX.out hb8 hbx)
          have hbn9 : b < w8.heap.size := Nat.lt_of_lt_of_le hbB hb8.size
          have hbx9 : bx < w8.heap.size := Nat.lt_of_lt_of_le hbx hb8.size
          have r0 := hT1.1
          have x9 := hT1.2
          have y9 : w8.cell? ⟨bx, 2, none⟩ = some (.int .i64 (x2 : Int)) := HBX9.out.cell 2
          have hgp : grantP H' (x1, x2) = H' ++ [(x1, x2)] := by
            unfold grantP
            rw [show hasP H' (x1, x2).1 = false from hno]
            rfl
          have HGP := Lib.hid hgp
          have D9d := D9.out.below (Below.refl _ _).drew
          obtain ⟨v3, W3, hap3, t3, hrk3, hkp3, hfar3⟩ := rk_append D9d.rk (Nat.le_trans HBASE.out D9d.keep.size) (by have := HBN.out; have := HN0.out; omega) (x1, x2)
          have dC := D9d.turn hrk3 hkp3
          obtain ⟨A3, n3, c3, e3⟩ := own_form hrk3.oH
          subst e3
          have q3 := t3.c0
          have f3 := Blk.frozen t3 0
          have pA : (w8.alloc (.cells #[.int .i64 x1, .int .i64 (x2 : Int), .int .i64 0] 56)).drew.cell? ⟨b, 0, none⟩ = some (.slice AH' n0 cH') := (cell_of_heap ((alloc_below w8 (.cells #[.int .i64 x1, .int .i64 (x2 : Int), .int .i64 0] 56)).block b hbn9) 0).trans r0
          have bC : Blk (W3.setCell ⟨b, 0, none⟩ (.slice A3 n3 c3)) bx 56 #[.int .i64 x1, .int .i64 0, .int .i64 (x2 : Int)] := (hfar3 bx hbx9 (fun e => NE6.out bx e rfl) hgn6).trans HBX9.out
          rw [← hgp] at dC
          have DC := Lib.hid dC
          have HBXC := Lib.hid bC
          have HAP3 := Lib.hid hap3
          clear hgp D9d hap3 t3 hrk3 hkp3 hfar3 dC bC hno HFH HLH8 hb8 HB8 hT0 hT1
          go_wp2_with fail
          go_region_law (refine step_append_at rfl (.tmp 87) (.tmp 93) 71 71 rfl _ _ rfl rfl HAP3.out ?_)
          all_goals
            generalize W3.setCell ⟨b, 0, none⟩ (.slice A3 n3 c3) = wC at *
            have q11 : wC.cell? ⟨bx, 0, none⟩ = some (.int .i64 x1) := HBXC.out.cell 0
            obtain ⟨v10, w10, hap10, o10, hrk10, hk10⟩ := rk_int DC.out.rk DC.out.got (by have := HBD.out; omega) DC.out.keep x1
            have HAP10 := Lib.hid hap10
            have hd10 : RD w base X b (grantP H' (x1, x2)) L2 (done ++ [x1]) v10 (.slice A3 n3 c3) (.slice A7 n7 c7) w10 := ⟨hrk10, o10, hk10⟩
            have HD10 := Lib.hid hd10
            clear hap10 o10 hrk10 hk10 hd10
            go_wp2_with (at_builtin; refine wpList_append_run rfl (.tmp 97) (.tmp 100) 39 39 rfl _ _ rfl rfl HAP10.out ?_)
            go_roundg k2
            case measure => omega
            case rel =>
              have hgl := grant_length H' (x1, x2)
              have hn00 := HN0.out
              have hb30 := HBN.out
              have hb31 := HBD.out
              refine ⟨_, L2, done ++ [x1], _, _, hk2, ?_, HD10.out, by omega, by rw [List.length_append]; simp only [List.length_cons, List.length_nil]; omega, grant_modes HMH.out HX.out, fun c hc => HML.out c (by simp [hc])⟩
              rw [HDR.out, drain_go HFV.out]
              simp
        · simp only [e0] at hfh
          clear e0
          have HFH := Lib.hid hfh
          clear hfh
          go_wp2_with fail
          go_region_held3 (fun W : World => W.cell? ⟨b, 0, none⟩ = some (.slice AH' n0 cH') ∧ W.cell? ⟨bx, 0, none⟩ = some (.int .i64 x1))
            (first | exact hT0 | exact hT1)
            (first | (go_at_call 30; refine (HFH.out _ (Below.refl _ _).drew).mono ?_; rintro e w8 ⟨rfl, hb8⟩; have HB8 := Lib.hid hb8; have hT1 : (fun W : World => W.cell? ⟨b, 0, none⟩ = some (.slice AH' n0 cH') ∧ W.cell? ⟨bx, 0, none⟩ = some (.int .i64 x1)) w8 := ⟨(cell_of_heap (hb8.block b hbB) _).trans hT0.1, (cell_of_heap (hb8.block bx hbx) _).trans hT0.2⟩; clear hb8))
          have hb8 := (Below.refl wB.heap.size wB).drew.trans HB8.out
          have D9 := Lib.hid (D8H.out.below hb8)
          have HBX9 := Lib.hid (Blk.below HBX.out hb8 hbx)
          have hbn9 : b < w8.heap.size := Nat.lt_of_lt_of_le hbB hb8.size
          have hbx9 : bx < w8.heap.size := Nat.lt_of_lt_of_le hbx hb8.size
          have r0 := hT1.1
          have x9 := hT1.2
          have y9 : w8.cell? ⟨bx, 2, none⟩ = some (.int .i64 (x2 : Int)) := HBX9.out.cell 2
          have hgp : grantP H' (x1, x2) = H'.set (H'.findIdx (isW x1)) (x1, x2) := by
            unfold grantP
            rw [show hasP H' (x1, x2).1 = true from hyes]
            rfl
          have hkw2 : (H'[H'.findIdx (isW x1)]?).map (·.1) = some x1 := by
            rw [List.getElem?_eq_getElem hk, Option.map_some]
            have : (H'[H'.findIdx (isW x1)]).1 = x1 := by simpa [isW] using hkw
            rw [this]
          clear hkw
          generalize H'.findIdx (isW x1) = kk at *
          have hkm : kk < (H'.map hdA).length := by rw [List.length_map]; exact hk
          obtain ⟨g, cur, eA, hgb, hbg, hcg⟩ := own_slot D9.out.rk.oH (Nat.lt_of_le_of_lt (Nat.zero_le kk) hkm)
          subst eA
          have m1 := hcg (kk * 3 + 1) _ (cellsE_at eH hkm (i := 1) rfl)
          have fg := Blk.frozen hbg (kk * 3 + 1)
          have hset := rk_set D9.out.rk hk (x1, x2) hkw2
          have dC := (D9.out.turn hset.1 hset.2).below (Below.refl _ _).drew
          have bC : Blk (w8.setCell ⟨g, kk * 3 + 1, none⟩ (.int .i64 (x2 : Int))).drew bx 56 #[.int .i64 x1, .int .i64 0, .int .i64 (x2 : Int)] := Blk.far HBX9.out (p := ⟨g, kk * 3 + 1, none⟩) (fun e => NE6.out g rfl e.symm) _
          rw [← hgp] at dC
          have hkn : kk < n0 := by rw [← HN0.out]; exact hk
          have DC := Lib.hid dC
          have HBXC := Lib.hid bC
          have hgx : g ≠ bx := NE6.out g rfl
          clear hgp hkw2 hgb hbg hcg hset dC bC hyes HFH HLH8 hb8 HB8 hT0 hT1
          generalize (List.map hdA H')[kk].2.1 = zz at *
          clear hkm hk
          go_wp2_with fail
          go_region
          generalize (w8.setCell ⟨g, kk * 3 + 1, none⟩ (.int .i64 (x2 : Int))).drew = wC at *
          have q11 : wC.cell? ⟨bx, 0, none⟩ = some (.int .i64 x1) := HBXC.out.cell 0
          obtain ⟨v10, w10, hap10, o10, hrk10, hk10⟩ := rk_int DC.out.rk DC.out.got (by have := HBD.out; omega) DC.out.keep x1
          have HAP10 := Lib.hid hap10
          have hd10 : RD w base X b (grantP H' (x1, x2)) L2 (done ++ [x1]) v10 (.slice (some ⟨g, 0, none⟩) n0 cH') (.slice A7 n7 c7) w10 := ⟨hrk10, o10, hk10⟩
          have HD10 := Lib.hid hd10
          clear hap10 o10 hrk10 hk10 hd10
          go_wp2_with (at_builtin; refine wpList_append_run rfl (.tmp 97) (.tmp 100) 39 39 rfl _ _ rfl rfl HAP10.out ?_)
          go_roundg k2
          case measure => omega
          case rel =>
            have hgl := grant_length H' (x1, x2)
            have hn00 := HN0.out
            have hb30 := HBN.out
            have hb31 := HBD.out
            refine ⟨_, L2, done ++ [x1], _, _, hk2, ?_, HD10.out, by omega, by rw [List.length_append]; simp only [List.length_cons, List.length_nil]; omega, grant_modes HMH.out HX.out, fun c hc => HML.out c (by simp [hc])⟩
            rw [HDR.out, drain_go HFV.out]
            simp
end Go.Proofs.YtnjhhndggfjjdaaGreatDoor
