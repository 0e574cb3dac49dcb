/- What RootsLast answers. -/
import Derived.Test.YteilbaabnhogbaaRImg
namespace Go.Proofs.Yteilbaabnhogbaa
open Go.RowKit
set_option maxRecDepth 100000 in
set_option maxHeartbeats 4000000 in
theorem rootsLast (A : Option Addr) (n c : Nat) (zs : List Int) (elder : Int) (w : World) (hz : Ints w A n zs) (hn : n ≤ 9223372036854775807) :
    Calls Try.prog 4 #[.slice A n c, .int .i64 elder] w fun e w' => e = .returned (.bool true) ∧ Below w.heap.size w w' := by
  by_cases h : 2 ≤ n ∧ n ≤ 20 ∧ 1 ≤ elder ∧ elder < (n : Int) - 1
  · obtain ⟨h2, h20, he1, hel⟩ := h
    obtain ⟨el, rfl⟩ := Int.eq_ofNat_of_zero_le (show 0 ≤ elder by omega)
    have HZ := Lib.hid hz
    clear hz
    go_enter Try.func4, Try.ntmps4
    go_wp2_with fail
    refine (alive w).mono ?_
    rintro e w1 ⟨rfl, hb1⟩
    have HB1 := Lib.hid hb1
    clear hb1
    go_wp2_with fail
    refine (rneed_ 8 _).mono ?_
    rintro e w' ⟨rfl, rfl⟩
    rw [show 2 + 2 * cutR 8 = 18 from rfl]
    go_wp2_with fail
    refine (new_ _ 21).mono ?_
    rintro e w2 ⟨rfl, hd2, hb2, hz2⟩
    rw [show cutN 21 = 21 from rfl] at hd2
    have HD2 := Lib.hid (diskR_new hd2 hb2)
    have HB2 := Lib.hid (HB1.out.trans (hb2.mono HB1.out.size))
    have HR1 := Lib.hid (fun i (hi : i < w.heap.size) => Nat.lt_of_lt_of_le hi HB1.out.size)
    have HC2 := Shut.mk (calm_new (p := ⟨3, 8⟩) (n := 21) (by decide) (by decide) (by decide) (by decide) 0)
    clear hd2 hb2 hz2
    go_wp2_with fail
    go_loopg [8] n (fun k i wr => LRel w (w1.heap.size + 1) n zs ⟨3, 8⟩ k i wr)
    case atStart => exact ⟨0, _, _, by omega, rfl, HD2.out, HC2.out.1, HC2.out.2, HR1.out, HB2.out⟩
    case round =>
      obtain ⟨j, R, s, hj, rfl, hd, hc, hs, hR, hb⟩ := hrel
      have HJ := Lib.hid hj
      have HD := Lib.hid hd
      have HC := Shut.mk hc
      have HS := Shut.mk hs
      have HR := Lib.hid hR
      have HB := Lib.hid hb
      have hj20 : j ≤ 20 := by omega
      have hjn : j ≤ n := by omega
      clear hj hd hc hs hR hb
      by_cases hlt : j < n
      · obtain ⟨b, o, z, rfl, hzj, hcell⟩ := HZ.out.at_ HB.out hlt
        have him := imgOf_next hzj
        obtain ⟨s1, e1, e2, e3, e4⟩ := calm_next (b' := imgOf zs (j + 1)) HC.out HS.out (by omega) (by have := imgOf_len zs (j + 1); simp only; omega)
        have HIM := Shut.mk him
        have HLY := Shut.mk e1
        have HC1 := Shut.mk e2
        have HS1 := Shut.mk e3
        have HRD := Shut.mk e4
        have HLM := Lib.hid HC.out.lim
        have HON : Hid ((⟨3, 8⟩ : Pl).root (j + 1) < s.n) := by
          have h1 := HC.out.on.n
          simp only at h1
          have h2 : (⟨3, 8⟩ : Pl).root (j + 1) < 5 := by unfold Pl.root; simp only; omega
          exact Nat.lt_of_lt_of_le h2 (by omega)
        have hil := imgOf_len zs (j + 1)
        clear hzj him e1 e2 e3 e4
        go_wp2_with fail
        rw [show (j : Int) + 1 = ((j + 1 : Nat) : Int) by omega]
        refine (text_ _ (j + 1) (by omega) wr).mono ?_
        rintro e w4 ⟨rfl, hh4, hb4⟩
        rw [← HIM.out] at hh4
        have htl : (imgOf zs (j + 1)).length = cutT (bits .and .i64 z 511) := by rw [HIM.out, textB_len]
        have HTL := Lib.hid htl
        have hct := cutT_and z
        have HD4 := Lib.hid (HD.out.grow hb4)
        have HA4 := Lib.hid (Has.of_blk (K := fun i => R i ∨ wr.heap.size ≤ i ∧ i < w4.heap.size) hh4 (.inr ⟨Nat.le_refl _, hh4.lt⟩))
        have HB4 := Lib.hid (HB.out.trans (hb4.mono HB.out.size))
        have HR4 := Lib.hid (fun i (hi : i < w.heap.size) => (Or.inl (HR.out i hi) : R i ∨ wr.heap.size ≤ i ∧ i < w4.heap.size))
        generalize htb : imgOf zs (j + 1) = tb at *
        have HTB := Shut.mk htb
        generalize cutT (bits .and .i64 z 511) = tl at *
        clear hh4 hb4 HIM htl htb
        go_wp2_with fail
        rw [show (j : Int) + 1 = ((j + 1 : Nat) : Int) by omega]
        refine (write_of HD4.out (lim_mono HLM.out (by omega)) 3 8 (by omega) HA4.out HTL.out (Nat.le_refl _) (by rw [show cutR 8 = 8 from rfl]; omega) (j + 1) (by omega) (by omega) HON.out).mono ?_
        rw [show cutR 8 = 8 from rfl, HLY.out]
        rintro e w5 ⟨rfl, hd5, hk5⟩
        have HD5 := Lib.hid hd5
        have HA5 := Lib.hid (HA4.out.keep hk5)
        have HB5 := Lib.hid (HB4.out.trans (hk5.below HB4.out.size fun i _ hi => HR4.out i hi))
        clear hd5 hk5
        go_wp2_with (go_at_call 8; refine (num_ _ _).mono ?_; rintro e w' ⟨rfl, rfl⟩)
        refine (rread_ HD5.out 3 8 (by omega)).mono ?_
        rw [show cutR 8 = 8 from rfl]
        intro e w6 h6
        obtain ⟨A6, c6, rfl, hh6, hb6⟩ := rdP_some h6 HRD.out
        have HD6 := Lib.hid (HD5.out.below hb6)
        have HB6 := Lib.hid (HB5.out.trans (hb6.mono HB5.out.size))
        have hst1 := hh6.str c6
        have hst2 := (HA5.out.below hb6).strn HTL.out tl
        rw [HTL.out] at hst1 ⊢
        clear h6 hh6 hb6
        go_wp2_with fail
        go_roundg (n - (j + 1))
        case measure => have := HJ.out; omega
        case rel => exact ⟨j + 1, _, s1, by omega, by go_num, HD6.out, by have := HC1.out; rw [show 9 * (j + 1) = 9 * j + 9 by omega]; exact this, by rw [HTB.out]; exact HS1.out, HR4.out, HB6.out⟩
      · have hjn : j = n := by omega
        subst hjn
        have h1 := and1 el
        have h2 := and1 j
        by_cases hpar : el % 2 = j % 2
        · have hpi : (el : Int) % 2 = (j : Int) % 2 := by omega
          go_wp2_with fail
          go_ret
          exact ⟨rfl, HB.out⟩
        · have hpi : ¬ (el : Int) % 2 = (j : Int) % 2 := by omega
          obtain ⟨q, hq⟩ : ∃ q, j = q + 1 := ⟨j - 1, by omega⟩
          obtain ⟨b, o, z, rfl, hzj, hcell⟩ := HZ.out.at_ HB.out (show q < j by omega)
          have hbl : b < w.heap.size := by
            obtain ⟨b', o', hbo, hbl, _⟩ := HZ.out.2 (by omega)
            cases hbo
            exact hbl
          have him : imgOf zs j = textB (bits .and .i64 z 511) j := by rw [hq]; exact imgOf_next hzj
          obtain ⟨s1, e1, e2, e3⟩ := calm_elder (e := el) (b' := textB 5 77) HC.out HS.out (by omega) (by have := imgOf_len zs j; simp only; omega) (by rw [textB_len, show cutT 5 = 5 from rfl]; decide) (by omega) hpar
          have HIM := Shut.mk him
          have HQ1 : Hid (IntKind.i64.wrap ((j : Int) - 1) = (q : Int)) := by rw [IntWalk.i64_in _ (by omega)]; show (j : Int) - 1 = q; omega
          have hqj : (q : Int) < (j : Int) := by omega
          clear hq
          have HLY := Shut.mk e1
          have HRD := Shut.mk e3
          have HLM := Lib.hid HC.out.lim
          have HON : Hid ((⟨3, 8⟩ : Pl).root el < s.n) := by
            have h1 := HC.out.on.n
            simp only at h1
            have h2 : (⟨3, 8⟩ : Pl).root el < 5 := by unfold Pl.root; simp only; omega
            exact Nat.lt_of_lt_of_le h2 (by omega)
          clear hzj him e1 e2 e3 hpar
          go_wp2_with fail
          refine (text_ 5 77 (by omega) wr).mono ?_
          rintro e w4 ⟨rfl, hh4, hb4⟩
          rw [show cutT 5 = 5 from rfl]
          have HD4 := Lib.hid (HD.out.grow hb4)
          have HA4 := Lib.hid (Has.of_blk (K := fun i => R i ∨ wr.heap.size ≤ i ∧ i < w4.heap.size) hh4 (.inr ⟨Nat.le_refl _, hh4.lt⟩))
          have HB4 := Lib.hid (HB.out.trans (hb4.mono HB.out.size))
          have HR4 := Lib.hid (fun i (hi : i < w.heap.size) => (Or.inl (HR.out i hi) : R i ∨ wr.heap.size ≤ i ∧ i < w4.heap.size))
          clear hh4 hb4
          go_wp2_with fail
          refine (write_of HD4.out (lim_mono HLM.out (by omega)) 3 8 (by omega) HA4.out (by rw [textB_len]; rfl) (Nat.le_refl _) (by rw [show cutR 8 = 8 from rfl]; omega) el (by omega) (by omega) HON.out).mono ?_
          rw [show cutR 8 = 8 from rfl, HLY.out]
          rintro e w5 ⟨rfl, hd5, hk5⟩
          rw [show errno true = Value.int .i64 0 from rfl]
          have HD5 := Lib.hid hd5
          have HB5 := Lib.hid (HB4.out.trans (hk5.below HB4.out.size fun i _ hi => HR4.out i hi))
          clear hd5 hk5
          go_wp2_with fail
          refine (rread_ HD5.out 3 8 (by omega)).mono ?_
          rw [show cutR 8 = 8 from rfl]
          intro e w6 h6
          obtain ⟨A6, c6, rfl, hh6, hb6⟩ := rdP_some h6 HRD.out
          have HB6 := Lib.hid (HB5.out.trans (hb6.mono HB5.out.size))
          have HH6 := Lib.hid hh6
          have htl : (imgOf zs j).length = cutT (bits .and .i64 z 511) := by rw [HIM.out, textB_len]
          have HTL := Lib.hid htl
          have hcell6 := (HB6.out.cell (p := ⟨b, o + q, none⟩) hbl).trans ((HB.out.cell (p := ⟨b, o + q, none⟩) hbl).symm.trans hcell)
          have HCE := Lib.hid hcell6
          have HBL := Lib.hid (Nat.lt_of_lt_of_le hbl HB6.out.size)
          have HU8 : Hid (IntKind.u8.wrap (j : Int) = (j : Int)) := by rw [IntKind.wrap_u8]; show (j : Int) % 256 = j; omega
          have HTX := Lib.hid (fun w => text_ (bits .and .i64 z 511) j (by omega) w)
          rw [← HIM.out] at HTX
          rw [htl]
          generalize cutT (bits .and .i64 z 511) = tl at *
          generalize imgOf zs j = tb at *
          clear h6 hh6 hb6 htl hcell hcell6 hbl h1 h2 hpi HIM
          go_wp2_with fail
          refine wp_region_noPanic ?_
          refine wp_region_held_drew (S := fun W => Below w6.heap.size w6 W) (by kernel_rfl) ((Below.refl _ _).drew) (fun _ => ?_)
          refine wpAnyH_take (i := 0) (oi := { dst := some 104, op := Op.move (Operand.tmp 13), type := 29, pos := "law.go:138", after := #[], guard := none }) (v := .int .i64 0) rfl (by kernel_rfl) (by kernel_rfl) (by kernel_rfl) (fun _ _ _ h => h) (Or.inl ⟨by rfl, ?_⟩) ((Below.refl _ _).drew) ?_
          · intro W hSw; clear hSw; go_simp
          try simp only [Act.put, List.setIfInBounds_toArray, List.set_cons_zero, List.set_cons_succ]
          refine wpAnyH_1 (i := 1) (by kernel_rfl) (wpOp_call (o := { dst := some 105, op := Op.call { callee := Callee.value (Operand.func 8), args := #[Operand.tmp 104], argTypes := #[29] }, type := 3, pos := "law.go:138", after := #[{ on := 0, ground := Ground.data }], guard := none }) (f := 8) rfl (by rfl) (by go_simp) ((num_ 0 _).mono ?_))
          rintro e w7 ⟨rfl, rfl⟩
          refine ⟨_, rfl, ((Below.refl _ _).drew), ?_⟩
          try simp only [Act.put, List.setIfInBounds_toArray, List.set_cons_zero, List.set_cons_succ]
          refine wpAnyH_take (i := 2) (oi := { dst := some 106, op := Op.binOp BinOp.eql 3 (Operand.tmp 105) (Operand.const (Value.int IntKind.i64 0)) 3, type := 4, pos := "law.go:138", after := #[{ on := 1, ground := Ground.data }], guard := none }) (v := .bool true) rfl (by kernel_rfl) (by kernel_rfl) (by kernel_rfl) (fun _ _ _ h => h) (Or.inl ⟨by rfl, ?_⟩) ((Below.refl _ _).drew) ?_
          · intro W hSw; clear hSw; go_simp
          try simp only [Act.put, List.setIfInBounds_toArray, List.set_cons_zero, List.set_cons_succ]
          refine wpAnyH_take (i := 3) (oi := { dst := some 107, op := Op.move (Operand.tmp 106), type := 4, pos := "law.go:138", after := #[{ on := 2, ground := Ground.data }, { on := 1, ground := Ground.chain }], guard := none }) (v := .bool true) rfl (by kernel_rfl) (by kernel_rfl) (by kernel_rfl) (fun _ _ _ h => h) (Or.inl ⟨by rfl, ?_⟩) ((Below.refl _ _).drew) ?_
          · intro W hSw; clear hSw; go_simp
          try simp only [Act.put, List.setIfInBounds_toArray, List.set_cons_zero, List.set_cons_succ]
          refine wpAnyH_take (i := 4) (oi := { dst := some 108, op := Op.move (Operand.tmp 16), type := 4, pos := "law.go:138", after := #[{ on := 3, ground := Ground.guard }], guard := some (3, true) }) (v := .bool true) rfl (by kernel_rfl) (by kernel_rfl) (by kernel_rfl) (fun _ _ _ h => h) (Or.inl ⟨by rfl, ?_⟩) ((Below.refl _ _).drew) ?_
          · intro W hSw; clear hSw; go_simp
          try simp only [Act.put, List.setIfInBounds_toArray, List.set_cons_zero, List.set_cons_succ]
          refine wpAnyH_take (i := 5) (oi := { dst := some 109, op := Op.pick (Operand.tmp 107) (Operand.tmp 108) (Operand.const (Value.bool false)), type := 4, pos := "law.go:138", after := #[{ on := 3, ground := Ground.data }, { on := 4, ground := Ground.data }], guard := none }) (v := .bool true) rfl (by kernel_rfl) (by kernel_rfl) (by kernel_rfl) (fun _ _ _ h => h) (Or.inl ⟨by rfl, ?_⟩) ((Below.refl _ _).drew) ?_
          · intro W hSw; clear hSw; go_simp
          try simp only [Act.put, List.setIfInBounds_toArray, List.set_cons_zero, List.set_cons_succ]
          refine wpAnyH_take (i := 6) (oi := { dst := some 110, op := Op.move (Operand.tmp 109), type := 4, pos := "law.go:138", after := #[{ on := 5, ground := Ground.data }, { on := 3, ground := Ground.chain }], guard := none }) (v := .bool true) rfl (by kernel_rfl) (by kernel_rfl) (by kernel_rfl) (fun _ _ _ h => h) (Or.inl ⟨by rfl, ?_⟩) ((Below.refl _ _).drew) ?_
          · intro W hSw; clear hSw; go_simp
          try simp only [Act.put, List.setIfInBounds_toArray, List.set_cons_zero, List.set_cons_succ]
          refine wpAnyH_take (i := 7) (oi := { dst := some 111, op := Op.move (Operand.tmp 14), type := 3, pos := "law.go:138", after := #[{ on := 6, ground := Ground.guard }], guard := some (6, true) }) (v := .int .i64 (j : Int)) rfl (by kernel_rfl) (by kernel_rfl) (by kernel_rfl) (fun _ _ _ h => h) (Or.inl ⟨by rfl, ?_⟩) ((Below.refl _ _).drew) ?_
          · intro W hSw; clear hSw; go_simp
          try simp only [Act.put, List.setIfInBounds_toArray, List.set_cons_zero, List.set_cons_succ]
          refine wpAnyH_take (i := 8) (oi := { dst := some 112, op := Op.move (Operand.tmp 7), type := 3, pos := "law.go:138", after := #[{ on := 6, ground := Ground.guard }], guard := some (6, true) }) (v := .int .i64 (j : Int)) rfl (by kernel_rfl) (by kernel_rfl) (by kernel_rfl) (fun _ _ _ h => h) (Or.inl ⟨by rfl, ?_⟩) ((Below.refl _ _).drew) ?_
          · intro W hSw; clear hSw; go_simp
          try simp only [Act.put, List.setIfInBounds_toArray, List.set_cons_zero, List.set_cons_succ]
          refine wpAnyH_take (i := 9) (oi := { dst := some 113, op := Op.binOp BinOp.eql 3 (Operand.tmp 111) (Operand.tmp 112) 3, type := 4, pos := "law.go:138", after := #[{ on := 7, ground := Ground.data }, { on := 8, ground := Ground.data }, { on := 6, ground := Ground.guard }], guard := some (6, true) }) (v := .bool true) rfl (by kernel_rfl) (by kernel_rfl) (by kernel_rfl) (fun _ _ _ h => h) (Or.inl ⟨by rfl, ?_⟩) ((Below.refl _ _).drew) ?_
          · intro W hSw; clear hSw; go_simp
          try simp only [Act.put, List.setIfInBounds_toArray, List.set_cons_zero, List.set_cons_succ]
          refine wpAnyH_take (i := 10) (oi := { dst := some 114, op := Op.pick (Operand.tmp 110) (Operand.tmp 113) (Operand.const (Value.bool false)), type := 4, pos := "law.go:138", after := #[{ on := 6, ground := Ground.data }, { on := 9, ground := Ground.data }], guard := none }) (v := .bool true) rfl (by kernel_rfl) (by kernel_rfl) (by kernel_rfl) (fun _ _ _ h => h) (Or.inl ⟨by rfl, ?_⟩) ((Below.refl _ _).drew) ?_
          · intro W hSw; clear hSw; go_simp
          try simp only [Act.put, List.setIfInBounds_toArray, List.set_cons_zero, List.set_cons_succ]
          refine wpAnyH_take (i := 11) (oi := { dst := some 115, op := Op.move (Operand.tmp 114), type := 4, pos := "law.go:138", after := #[{ on := 10, ground := Ground.data }, { on := 6, ground := Ground.chain }], guard := none }) (v := .bool true) rfl (by kernel_rfl) (by kernel_rfl) (by kernel_rfl) (fun _ _ _ h => h) (Or.inl ⟨by rfl, ?_⟩) ((Below.refl _ _).drew) ?_
          · intro W hSw; clear hSw; go_simp
          try simp only [Act.put, List.setIfInBounds_toArray, List.set_cons_zero, List.set_cons_succ]
          refine wpAnyH_take (i := 12) (oi := { dst := some 116, op := Op.move (Operand.tmp 15), type := 31, pos := "law.go:138", after := #[{ on := 11, ground := Ground.guard }], guard := some (11, true) }) (v := .slice A6 tl c6) rfl (by kernel_rfl) (by kernel_rfl) (by kernel_rfl) (fun _ _ _ h => h) (Or.inl ⟨by rfl, ?_⟩) ((Below.refl _ _).drew) ?_
          · intro W hSw; clear hSw; go_simp
          try simp only [Act.put, List.setIfInBounds_toArray, List.set_cons_zero, List.set_cons_succ]
          refine wpAnyH_take (i := 13) (oi := { dst := some 117, op := Op.convert 31 9 (Operand.tmp 116), type := 9, pos := "law.go:138", after := #[{ on := 12, ground := Ground.data }, { on := 11, ground := Ground.guard }], guard := some (11, true) }) (v := .string ⟨tb.toArray⟩) rfl (by kernel_rfl) (by kernel_rfl) (by kernel_rfl) (fun _ _ _ h => h) (Or.inl ⟨by rfl, ?_⟩) ((Below.refl _ _).drew) ?_
          · intro W hSw; exact exec_value rfl ((HH6.out.below hSw).strn HTL.out c6)
          try simp only [Act.put, List.setIfInBounds_toArray, List.set_cons_zero, List.set_cons_succ]
          refine wpAnyH_take (i := 14) (oi := { dst := some 118, op := Op.move (Operand.tmp 0), type := 22, pos := "law.go:138", after := #[{ on := 11, ground := Ground.guard }], guard := some (11, true) }) (v := .slice (some ⟨b, o, none⟩) j c) rfl (by kernel_rfl) (by kernel_rfl) (by kernel_rfl) (fun _ _ _ h => h) (Or.inl ⟨by rfl, ?_⟩) ((Below.refl _ _).drew) ?_
          · intro W hSw; clear hSw; go_simp
          try simp only [Act.put, List.setIfInBounds_toArray, List.set_cons_zero, List.set_cons_succ]
          refine wpAnyH_take (i := 15) (oi := { dst := some 119, op := Op.move (Operand.tmp 7), type := 3, pos := "law.go:138", after := #[{ on := 11, ground := Ground.guard }], guard := some (11, true) }) (v := .int .i64 (j : Int)) rfl (by kernel_rfl) (by kernel_rfl) (by kernel_rfl) (fun _ _ _ h => h) (Or.inl ⟨by rfl, ?_⟩) ((Below.refl _ _).drew) ?_
          · intro W hSw; clear hSw; go_simp
          try simp only [Act.put, List.setIfInBounds_toArray, List.set_cons_zero, List.set_cons_succ]
          refine wpAnyH_take (i := 16) (oi := { dst := some 120, op := Op.binOp BinOp.sub 3 (Operand.tmp 119) (Operand.const (Value.int IntKind.i64 1)) 3, type := 3, pos := "law.go:138", after := #[{ on := 15, ground := Ground.data }, { on := 11, ground := Ground.guard }], guard := some (11, true) }) (v := .int .i64 (q : Int)) rfl (by kernel_rfl) (by kernel_rfl) (by kernel_rfl) (fun _ _ _ h => h) (Or.inl ⟨by rfl, ?_⟩) ((Below.refl _ _).drew) ?_
          · intro W hSw; clear hSw; go_simp; exact HQ1.out
          try simp only [Act.put, List.setIfInBounds_toArray, List.set_cons_zero, List.set_cons_succ]
          refine wpAnyH_take (i := 17) (oi := { dst := some 121, op := Op.indexAddr 22 (Operand.tmp 118) (Operand.tmp 120), type := 0, pos := "law.go:138", after := #[{ on := 14, ground := Ground.data }, { on := 16, ground := Ground.data }, { on := 11, ground := Ground.guard }], guard := some (11, true) }) (v := .pointer (some ⟨b, o + q, none⟩)) rfl (by kernel_rfl) (by kernel_rfl) (by kernel_rfl) (fun _ _ _ h => h) (Or.inl ⟨by rfl, ?_⟩) ((Below.refl _ _).drew) ?_
          · intro W hSw; clear hSw; go_simp
          try simp only [Act.put, List.setIfInBounds_toArray, List.set_cons_zero, List.set_cons_succ]
          refine wpAnyH_take (i := 18) (oi := { dst := some 122, op := Op.load 3 (Operand.tmp 121), type := 3, pos := "law.go:138", after := #[{ on := 17, ground := Ground.data }, { on := 11, ground := Ground.guard }], guard := some (11, true) }) (v := .int .i64 z) rfl (by kernel_rfl) (by kernel_rfl) (by kernel_rfl) (fun _ _ _ h => h) (Or.inl ⟨by rfl, ?_⟩) ((Below.refl _ _).drew) ?_
          · intro W hSw; have hc := (hSw.cell (p := ⟨b, o + q, none⟩) HBL.out).trans HCE.out; clear hSw; go_simp
          try simp only [Act.put, List.setIfInBounds_toArray, List.set_cons_zero, List.set_cons_succ]
          refine wpAnyH_take (i := 19) (oi := { dst := some 123, op := Op.binOp BinOp.and 3 (Operand.tmp 122) (Operand.const (Value.int IntKind.i64 511)) 3, type := 3, pos := "law.go:138", after := #[{ on := 18, ground := Ground.data }, { on := 11, ground := Ground.guard }], guard := some (11, true) }) (v := .int .i64 (bits .and .i64 z 511)) rfl (by kernel_rfl) (by kernel_rfl) (by kernel_rfl) (fun _ _ _ h => h) (Or.inl ⟨by rfl, ?_⟩) ((Below.refl _ _).drew) ?_
          · intro W hSw; clear hSw; go_simp
          try simp only [Act.put, List.setIfInBounds_toArray, List.set_cons_zero, List.set_cons_succ]
          refine wpAnyH_take (i := 20) (oi := { dst := some 124, op := Op.move (Operand.tmp 7), type := 3, pos := "law.go:138", after := #[{ on := 11, ground := Ground.guard }], guard := some (11, true) }) (v := .int .i64 (j : Int)) rfl (by kernel_rfl) (by kernel_rfl) (by kernel_rfl) (fun _ _ _ h => h) (Or.inl ⟨by rfl, ?_⟩) ((Below.refl _ _).drew) ?_
          · intro W hSw; clear hSw; go_simp
          try simp only [Act.put, List.setIfInBounds_toArray, List.set_cons_zero, List.set_cons_succ]
          refine wpAnyH_take (i := 21) (oi := { dst := some 125, op := Op.convert 3 5 (Operand.tmp 124), type := 5, pos := "law.go:138", after := #[{ on := 20, ground := Ground.data }, { on := 11, ground := Ground.guard }], guard := some (11, true) }) (v := .int .u8 (j : Int)) rfl (by kernel_rfl) (by kernel_rfl) (by kernel_rfl) (fun _ _ _ h => h) (Or.inl ⟨by rfl, ?_⟩) ((Below.refl _ _).drew) ?_
          · intro W hSw; clear hSw; go_simp; exact HU8.out
          try simp only [Act.put, List.setIfInBounds_toArray, List.set_cons_zero, List.set_cons_succ]
          refine wpAnyH_1 (i := 22) (by kernel_rfl) (wpOp_call (o := { dst := some 126, op := Op.call { callee := Callee.value (Operand.func 10), args := #[Operand.tmp 123, Operand.tmp 125], argTypes := #[3, 5] }, type := 31, pos := "law.go:138", after := #[{ on := 19, ground := Ground.data }, { on := 21, ground := Ground.data }, { on := 11, ground := Ground.chain }, { on := 11, ground := Ground.guard }], guard := some (11, true) }) (f := 10) rfl (by rfl) (by go_simp) ((HTX.out _).mono ?_))
          rintro e w7 ⟨rfl, hh7, hb7⟩
          have HH7 := Lib.hid (Has.of_blk (K := fun _ => True) hh7 trivial)
          have HB7 := Lib.hid ((Below.refl w6.heap.size w6).drew.trans hb7)
          clear hh7 hb7
          refine ⟨_, rfl, HB7.out, ?_⟩
          try simp only [Act.put, List.setIfInBounds_toArray, List.set_cons_zero, List.set_cons_succ]
          refine wpAnyH_more (S' := fun W => Below w7.heap.size w7 W) (fun W h => HB7.out.trans (h.mono HB7.out.size)) _ _ _ _ ?_
          refine wpAnyH_take (i := 23) (oi := { dst := some 127, op := Op.convert 31 9 (Operand.tmp 126), type := 9, pos := "law.go:138", after := #[{ on := 22, ground := Ground.data }, { on := 11, ground := Ground.guard }], guard := some (11, true) }) (v := .string ⟨tb.toArray⟩) rfl (by kernel_rfl) (by kernel_rfl) (by kernel_rfl) (fun _ _ _ h => h) (Or.inl ⟨by rfl, ?_⟩) (Below.refl _ _) ?_
          · intro W hSw; exact exec_value rfl ((HH7.out.below hSw).strn HTL.out tl)
          try simp only [Act.put, List.setIfInBounds_toArray, List.set_cons_zero, List.set_cons_succ]
          refine wpAnyH_take (i := 24) (oi := { dst := some 128, op := Op.binOp BinOp.eql 9 (Operand.tmp 117) (Operand.tmp 127) 9, type := 4, pos := "law.go:138", after := #[{ on := 13, ground := Ground.data }, { on := 23, ground := Ground.data }, { on := 11, ground := Ground.guard }], guard := some (11, true) }) (v := .bool true) rfl (by kernel_rfl) (by kernel_rfl) (by kernel_rfl) (fun _ _ _ h => h) (Or.inl ⟨by rfl, ?_⟩) (Below.refl _ _) ?_
          · intro W hSw; clear hSw; go_simp
          try simp only [Act.put, List.setIfInBounds_toArray, List.set_cons_zero, List.set_cons_succ]
          refine wpAnyH_take (i := 25) (oi := { dst := some 129, op := Op.pick (Operand.tmp 115) (Operand.tmp 128) (Operand.const (Value.bool false)), type := 4, pos := "law.go:138", after := #[{ on := 11, ground := Ground.data }, { on := 24, ground := Ground.data }], guard := none }) (v := .bool true) rfl (by kernel_rfl) (by kernel_rfl) (by kernel_rfl) (fun _ _ _ h => h) (Or.inl ⟨by rfl, ?_⟩) (Below.refl _ _) ?_
          · intro W hSw; clear hSw; go_simp
          try simp only [Act.put, List.setIfInBounds_toArray, List.set_cons_zero, List.set_cons_succ]
          refine wpAnyH_take (i := 26) (oi := { dst := some 4, op := Op.assign (Operand.tmp 129), type := 4, pos := "law.go:138", after := #[{ on := 25, ground := Ground.data }, { on := 22, ground := Ground.chain }, { on := 0, ground := Ground.phase }, { on := 1, ground := Ground.phase }, { on := 2, ground := Ground.phase }, { on := 3, ground := Ground.phase }, { on := 4, ground := Ground.phase }, { on := 5, ground := Ground.phase }, { on := 6, ground := Ground.phase }, { on := 7, ground := Ground.phase }, { on := 8, ground := Ground.phase }, { on := 9, ground := Ground.phase }, { on := 10, ground := Ground.phase }, { on := 11, ground := Ground.phase }, { on := 12, ground := Ground.phase }, { on := 13, ground := Ground.phase }, { on := 14, ground := Ground.phase }, { on := 15, ground := Ground.phase }, { on := 16, ground := Ground.phase }, { on := 17, ground := Ground.phase }, { on := 18, ground := Ground.phase }, { on := 19, ground := Ground.phase }, { on := 20, ground := Ground.phase }, { on := 21, ground := Ground.phase }, { on := 22, ground := Ground.phase }, { on := 23, ground := Ground.phase }, { on := 24, ground := Ground.phase }, { on := 25, ground := Ground.phase }], guard := none }) (v := .bool true) rfl (by kernel_rfl) (by kernel_rfl) (by kernel_rfl) (fun _ _ _ h => h) (Or.inl ⟨by rfl, ?_⟩) (Below.refl _ _) ?_
          · intro W hSw; clear hSw; go_simp
          try simp only [Act.put, List.setIfInBounds_toArray, List.set_cons_zero, List.set_cons_succ]
          refine wpAnyH_done (by kernel_rfl) ?_ _
          refine NoPanic.normal ?_
          go_wp2_with fail
          go_ret
          exact ⟨rfl, HB6.out.trans (HB7.out.mono HB6.out.size)⟩
  · go_enter Try.func4, Try.ntmps4
    go_wp2_with fail
    refine (alive w).mono ?_
    rintro e w1 ⟨rfl, hb⟩
    have HB := Lib.hid hb
    clear hb
    go_wp2_with fail
    all_goals first | (go_ret; exact ⟨rfl, HB.out⟩) | (exfalso; omega)
end Go.Proofs.Yteilbaabnhogbaa
