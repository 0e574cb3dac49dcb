/- What RootsTurn answers. -/
import Derived.Test.YteilbaabnhogbaaRImg
namespace Go.Proofs.Yteilbaabnhogbaa
open Go.RowKit
set_option maxRecDepth 100000 in
set_option maxHeartbeats 4000000 in
theorem rootsTurn (A : Option Addr) (n c : Nat) (zs : List Int) (left : Int) (A3 : Option Addr) (n3 c3 : Nat) (ks : List Bool) (w : World) (hz : Ints w A n zs) (h3 : Bools w (fun i => i < w.heap.size) A3 n3 ks) (hn : n ≤ 9223372036854775807) (hn3 : n3 ≤ 9223372036854775807) (ml : left ≤ 9223372036854775807) :
    Calls Try.prog 3 #[.slice A n c, .int .i64 left, .slice A3 n3 c3] w fun e w' => e = .returned (.bool true) ∧ Below w.heap.size w w' := by
  by_cases h : 1 ≤ n ∧ n ≤ 10 ∧ 0 ≤ left ∧ n3 ≤ 100
  · obtain ⟨h2, h10, hl0, hn100⟩ := h
    obtain ⟨q, hq⟩ : ∃ q, n = q + 1 := ⟨n - 1, by omega⟩
    have HQ := Lib.hid hq
    have hqn : (n : Int) - 1 = (q : Int) := by omega
    have hqn2 : q < n := by omega
    have hq10 : q ≤ 9 := by omega
    have HZ := Lib.hid hz
    have HZ3 := Lib.hid h3
    clear hz h3 hq
    go_enter Try.func3, Try.ntmps3
    go_wp2_with fail
    refine (alive w).mono ?_
    rintro e w1 ⟨rfl, hb1⟩
    have HB1 := Lib.hid hb1
    clear hb1
    go_wp2_with fail
    refine (rneed_ 8 _).mono ?_
    rintro e w' ⟨rfl, rfl⟩
    rw [show 2 + 2 * cutR 8 = 18 from rfl]
    go_wp2_with fail
    refine (new_ _ 18).mono ?_
    rintro e w2 ⟨rfl, hd2, hb2, hz2⟩
    rw [show cutN 18 = 18 from rfl] at hd2
    have HD2 := Lib.hid (diskR_new hd2 hb2)
    have HB2 := Lib.hid (HB1.out.trans (hb2.mono HB1.out.size))
    have HR1 := Lib.hid (fun i (hi : i < w.heap.size) => Nat.lt_of_lt_of_le hi HB1.out.size)
    have HC2 := Shut.mk (calm_new (p := ⟨0, 8⟩) (n := 18) (by decide) (by decide) (by decide) (by decide) 0)
    clear hd2 hb2 hz2
    go_wp2_with fail
    go_loopg [10] q (fun k i wr => LRel w (w1.heap.size + 1) q zs ⟨0, 8⟩ k i wr)
    case atStart => exact ⟨0, _, _, by omega, rfl, HD2.out, HC2.out.1, HC2.out.2, HR1.out, HB2.out⟩
    case round =>
      obtain ⟨j, R, s, hj, rfl, hd, hc, hs, hR, hb⟩ := hrel
      have HJ := Lib.hid hj
      have HD := Lib.hid hd
      have HC := Shut.mk hc
      have HS := Shut.mk hs
      have HR := Lib.hid hR
      have HB := Lib.hid hb
      have hj10 : j ≤ 10 := by omega
      have hjn : j ≤ q := by omega
      clear hj hd hc hs hR hb
      by_cases hlt : j < q
      · obtain ⟨b, o, z, rfl, hzj, hcell⟩ := HZ.out.at_ HB.out (show j < n by omega)
        have him := imgOf_next hzj
        obtain ⟨s1, e1, e2, e3, e4⟩ := calm_next (b' := imgOf zs (j + 1)) HC.out HS.out (by omega) (by have := imgOf_len zs (j + 1); simp only; omega)
        have HIM := Shut.mk him
        have HLY := Shut.mk e1
        have HC1 := Shut.mk e2
        have HS1 := Shut.mk e3
        have HRD := Shut.mk e4
        have HLM := Lib.hid HC.out.lim
        have HON : Hid ((⟨0, 8⟩ : Pl).root (j + 1) < s.n) := by
          have h1 := HC.out.on.n
          simp only at h1
          have h2 : (⟨0, 8⟩ : Pl).root (j + 1) < 2 := by unfold Pl.root; simp only; omega
          exact Nat.lt_of_lt_of_le h2 (by omega)
        have hil := imgOf_len zs (j + 1)
        clear hzj him e1 e2 e3 e4
        go_wp2_with fail
        rw [show (j : Int) + 1 = ((j + 1 : Nat) : Int) by omega]
        refine (text_ _ (j + 1) (by omega) wr).mono ?_
        rintro e w4 ⟨rfl, hh4, hb4⟩
        rw [← HIM.out] at hh4
        have htl : (imgOf zs (j + 1)).length = cutT (bits .and .i64 z 511) := by rw [HIM.out, textB_len]
        have HTL := Lib.hid htl
        have hct := cutT_and z
        have HD4 := Lib.hid (HD.out.grow hb4)
        have HA4 := Lib.hid (Has.of_blk (K := fun i => R i ∨ wr.heap.size ≤ i ∧ i < w4.heap.size) hh4 (.inr ⟨Nat.le_refl _, hh4.lt⟩))
        have HB4 := Lib.hid (HB.out.trans (hb4.mono HB.out.size))
        have HR4 := Lib.hid (fun i (hi : i < w.heap.size) => (Or.inl (HR.out i hi) : R i ∨ wr.heap.size ≤ i ∧ i < w4.heap.size))
        generalize htb : imgOf zs (j + 1) = tb at *
        have HTB := Shut.mk htb
        generalize cutT (bits .and .i64 z 511) = tl at *
        clear hh4 hb4 HIM htl htb
        go_wp2_with fail
        rw [show (j : Int) + 1 = ((j + 1 : Nat) : Int) by omega]
        refine (write_of HD4.out (lim_mono HLM.out (by omega)) 0 8 (by omega) HA4.out HTL.out (Nat.le_refl _) (by rw [show cutR 8 = 8 from rfl]; omega) (j + 1) (by omega) (by omega) HON.out).mono ?_
        rw [show cutR 8 = 8 from rfl, HLY.out]
        rintro e w5 ⟨rfl, hd5, hk5⟩
        have HD5 := Lib.hid hd5
        have HB5 := Lib.hid (HB4.out.trans (hk5.below HB4.out.size fun i _ hi => HR4.out i hi))
        clear hd5 hk5
        go_wp2_with (go_at_call 8; refine (num_ _ _).mono ?_; rintro e w' ⟨rfl, rfl⟩)
        go_roundg (q - (j + 1))
        case measure => have := HJ.out; omega
        case rel => exact ⟨j + 1, _, s1, by omega, by go_num, HD5.out, by have := HC1.out; rw [show 9 * (j + 1) = 9 * j + 9 by omega]; exact this, by rw [HTB.out]; exact HS1.out, HR4.out, HB5.out⟩
      · have hjq : j = q := by omega
        subst hjq
        go_wp2_with fail
        have hz1 : 1 ≤ n := by omega
        obtain ⟨b, o, z, rfl, hzj, hcell⟩ := HZ.out.at_ HB.out (show j < n by omega)
        have hbl : b < w.heap.size := by
          obtain ⟨b', o', hbo, hbl, _⟩ := HZ.out.2 (by omega)
          cases hbo
          exact hbl
        have him : imgOf zs n = textB (bits .and .i64 z 511) n := by rw [HQ.out]; exact imgOf_next hzj
        obtain ⟨s1, b1, e1, e2, e3⟩ := turn_read (b' := imgOf zs (j + 1)) HC.out HS.out (by omega) (by have := imgOf_len zs j; simp only; omega) (by have := imgOf_len zs (j + 1); simp only; omega) left.toNat (by omega)
        rw [← HQ.out] at e1 e3
        have HIM := Shut.mk him
        have HLY := Shut.mk e1
        have HL1 := Lib.hid (lim_mono (k := 900000) e2 (by simp only; omega))
        have HTR := Shut.mk e3
        have HLM : Hid ((s.brk left.toNat).lim 400000) := ⟨Nat.le_trans HC.out.lim.1 (by omega), Nat.le_trans HC.out.lim.2.1 (by omega), by show left.toNat ≤ _; omega⟩
        have HON : Hid ((⟨0, 8⟩ : Pl).root n < (s.brk left.toNat).n) := by
          have h1 := HC.out.on.n
          simp only at h1
          have h2 : (⟨0, 8⟩ : Pl).root n < 2 := by unfold Pl.root; simp only; omega
          exact Nat.lt_of_lt_of_le h2 (by rw [St.n_brk]; omega)
        have HQ1 : Hid (IntKind.i64.wrap ((n : Int) - 1) = (j : Int)) := by rw [IntWalk.i64_in _ (by omega)]; exact hqn
        have HU8 : Hid (IntKind.u8.wrap (n : Int) = (n : Int)) := by rw [IntKind.wrap_u8]; show (n : Int) % 256 = n; omega
        have hjn2 : (j : Int) < (n : Int) := by omega
        clear e1 e2 e3 him
        refine (d_break HD.out (by simp [St.broken, HC.out.ends]) left).mono ?_
        rintro e w3 ⟨rfl, hd3, hk3⟩
        have HD3 := Lib.hid hd3
        have HB3 := Lib.hid (HB.out.trans (hk3.below HB.out.size fun i _ hi => HR.out i hi))
        have HCE0 := Lib.hid ((HB.out.cell (p := ⟨b, o + j, none⟩) hbl).symm.trans hcell)
        have hcell3 := (HB3.out.cell (p := ⟨b, o + j, none⟩) hbl).trans HCE0.out
        clear hd3 hk3 hcell
        go_wp2_with fail
        refine (text_ _ n (by omega) w3).mono ?_
        rintro e w4 ⟨rfl, hh4, hb4⟩
        rw [← HIM.out] at hh4
        have htl : (imgOf zs n).length = cutT (bits .and .i64 z 511) := by rw [HIM.out, textB_len]
        have HTL := Lib.hid htl
        have hct := cutT_and z
        have HD4 := Lib.hid (HD3.out.grow hb4)
        have HA4 := Lib.hid (Has.of_blk (K := fun i => R i ∨ w3.heap.size ≤ i ∧ i < w4.heap.size) hh4 (.inr ⟨Nat.le_refl _, hh4.lt⟩))
        have HB4 := Lib.hid (HB3.out.trans (hb4.mono HB3.out.size))
        have HR4 := Lib.hid (fun i (hi : i < w.heap.size) => (Or.inl (HR.out i hi) : R i ∨ w3.heap.size ≤ i ∧ i < w4.heap.size))
        have HTX := Lib.hid (fun w => text_ (bits .and .i64 z 511) n (by omega) w)
        rw [← HIM.out] at HTX
        generalize htb : imgOf zs n = tb at *
        generalize cutT (bits .and .i64 z 511) = tl at *
        clear hh4 hb4 htl htb hcell3
        go_wp2_with fail
        refine (write_of HD4.out HLM.out 0 8 (by omega) HA4.out HTL.out (Nat.le_refl _) (by rw [show cutR 8 = 8 from rfl]; omega) n (by omega) (by omega) HON.out).mono ?_
        rw [show cutR 8 = 8 from rfl, HLY.out]
        rintro e w5 ⟨rfl, hd5, hk5⟩
        have HD5 := Lib.hid hd5
        have HB5 := Lib.hid (HB4.out.trans (hk5.below HB4.out.size fun i _ hi => HR4.out i hi))
        clear hd5 hk5
        go_wp2_with fail
        refine (d_crash HD5.out HL1.out ((HZ3.out.keep (Keep.of_below HB5.out)).more fun i _ hi => HR4.out i hi) hn3).mono ?_
        rintro e w7 ⟨rfl, hd7, hk7⟩
        have HD7 := Lib.hid hd7
        have HB7 := Lib.hid (HB5.out.trans (hk7.below HB5.out.size fun i _ hi => HR4.out i hi))
        clear hd7 hk7
        go_wp2_with fail
        refine (rread_ HD7.out 0 8 (by omega)).mono ?_
        rw [show cutR 8 = 8 from rfl]
        intro e w6 h6
        rcases HTR.out (stays ks) with hr | ⟨rfl, ⟨hj0, hr⟩ | ⟨hj1, hr⟩⟩
        · obtain ⟨A6, c6, rfl, hh6, hb6⟩ := rdP_some h6 hr
          have HB6 := Lib.hid (HB7.out.trans (hb6.mono HB7.out.size))
          have HH6 := Lib.hid hh6
          have HCE := Lib.hid ((HB6.out.cell (p := ⟨b, o + j, none⟩) hbl).trans HCE0.out)
          have HBL := Lib.hid (Nat.lt_of_lt_of_le hbl HB6.out.size)
          rw [HTL.out]
          clear h6 hr hh6 hb6 hqn
          go_wp2_with fail
          refine wp_region_noPanic ?_
          refine wp_region_held_drew (S := fun W => Below w6.heap.size w6 W) (by kernel_rfl) ((Below.refl _ _).drew) (fun _ => ?_)
          refine wpAnyH_take (i := 0) (oi := { dst := some 87, op := Op.move (Operand.tmp 14), type := 4, pos := "law.go:102", after := #[], guard := none }) (v := .bool true) rfl (by kernel_rfl) (by kernel_rfl) (by kernel_rfl) (fun _ _ _ h => h) (Or.inl ⟨by rfl, ?_⟩) ((Below.refl _ _).drew) ?_
          · intro W hSw; clear hSw; go_simp
          try simp only [Act.put, List.setIfInBounds_toArray, List.set_cons_zero, List.set_cons_succ]
          refine wpAnyH_take (i := 1) (oi := { dst := some 88, op := Op.move (Operand.tmp 87), type := 4, pos := "law.go:102", after := #[{ on := 0, ground := Ground.data }], guard := none }) (v := .bool true) rfl (by kernel_rfl) (by kernel_rfl) (by kernel_rfl) (fun _ _ _ h => h) (Or.inl ⟨by rfl, ?_⟩) ((Below.refl _ _).drew) ?_
          · intro W hSw; clear hSw; go_simp
          try simp only [Act.put, List.setIfInBounds_toArray, List.set_cons_zero, List.set_cons_succ]
          refine wpAnyH_take (i := 2) (oi := { dst := some 89, op := Op.move (Operand.tmp 12), type := 3, pos := "law.go:102", after := #[{ on := 1, ground := Ground.guard }], guard := some (1, true) }) (v := .int .i64 (n : Int)) rfl (by kernel_rfl) (by kernel_rfl) (by kernel_rfl) (fun _ _ _ h => h) (Or.inl ⟨by rfl, ?_⟩) ((Below.refl _ _).drew) ?_
          · intro W hSw; clear hSw; go_simp
          try simp only [Act.put, List.setIfInBounds_toArray, List.set_cons_zero, List.set_cons_succ]
          refine wpAnyH_take (i := 3) (oi := { dst := some 90, op := Op.move (Operand.tmp 9), type := 3, pos := "law.go:102", after := #[{ on := 1, ground := Ground.guard }], guard := some (1, true) }) (v := .int .i64 (n : Int)) rfl (by kernel_rfl) (by kernel_rfl) (by kernel_rfl) (fun _ _ _ h => h) (Or.inl ⟨by rfl, ?_⟩) ((Below.refl _ _).drew) ?_
          · intro W hSw; clear hSw; go_simp
          try simp only [Act.put, List.setIfInBounds_toArray, List.set_cons_zero, List.set_cons_succ]
          refine wpAnyH_take (i := 4) (oi := { dst := some 91, op := Op.binOp BinOp.eql 3 (Operand.tmp 89) (Operand.tmp 90) 3, type := 4, pos := "law.go:102", after := #[{ on := 2, ground := Ground.data }, { on := 3, ground := Ground.data }, { on := 1, ground := Ground.guard }], guard := some (1, true) }) (v := .bool true) rfl (by kernel_rfl) (by kernel_rfl) (by kernel_rfl) (fun _ _ _ h => h) (Or.inl ⟨by rfl, ?_⟩) ((Below.refl _ _).drew) ?_
          · intro W hSw; clear hSw; go_simp
          try simp only [Act.put, List.setIfInBounds_toArray, List.set_cons_zero, List.set_cons_succ]
          refine wpAnyH_take (i := 5) (oi := { dst := some 92, op := Op.pick (Operand.tmp 88) (Operand.tmp 91) (Operand.const (Value.bool false)), type := 4, pos := "law.go:102", after := #[{ on := 1, ground := Ground.data }, { on := 4, ground := Ground.data }], guard := none }) (v := .bool true) rfl (by kernel_rfl) (by kernel_rfl) (by kernel_rfl) (fun _ _ _ h => h) (Or.inl ⟨by rfl, ?_⟩) ((Below.refl _ _).drew) ?_
          · intro W hSw; clear hSw; go_simp
          try simp only [Act.put, List.setIfInBounds_toArray, List.set_cons_zero, List.set_cons_succ]
          refine wpAnyH_take (i := 6) (oi := { dst := some 93, op := Op.move (Operand.tmp 92), type := 4, pos := "law.go:102", after := #[{ on := 5, ground := Ground.data }, { on := 1, ground := Ground.chain }], guard := none }) (v := .bool true) rfl (by kernel_rfl) (by kernel_rfl) (by kernel_rfl) (fun _ _ _ h => h) (Or.inl ⟨by rfl, ?_⟩) ((Below.refl _ _).drew) ?_
          · intro W hSw; clear hSw; go_simp
          try simp only [Act.put, List.setIfInBounds_toArray, List.set_cons_zero, List.set_cons_succ]
          refine wpAnyH_take (i := 7) (oi := { dst := some 94, op := Op.move (Operand.tmp 13), type := 31, pos := "law.go:102", after := #[{ on := 6, ground := Ground.guard }], guard := some (6, true) }) (v := .slice A6 tl c6) rfl (by kernel_rfl) (by kernel_rfl) (by kernel_rfl) (fun _ _ _ h => h) (Or.inl ⟨by rfl, ?_⟩) ((Below.refl _ _).drew) ?_
          · intro W hSw; clear hSw; go_simp
          try simp only [Act.put, List.setIfInBounds_toArray, List.set_cons_zero, List.set_cons_succ]
          refine wpAnyH_take (i := 8) (oi := { dst := some 95, op := Op.convert 31 9 (Operand.tmp 94), type := 9, pos := "law.go:102", after := #[{ on := 7, ground := Ground.data }, { on := 6, ground := Ground.guard }], guard := some (6, true) }) (v := .string ⟨tb.toArray⟩) rfl (by kernel_rfl) (by kernel_rfl) (by kernel_rfl) (fun _ _ _ h => h) (Or.inl ⟨by rfl, ?_⟩) ((Below.refl _ _).drew) ?_
          · intro W hSw; exact exec_value rfl ((HH6.out.below hSw).strn HTL.out c6)
          try simp only [Act.put, List.setIfInBounds_toArray, List.set_cons_zero, List.set_cons_succ]
          refine wpAnyH_take (i := 9) (oi := { dst := some 96, op := Op.move (Operand.tmp 0), type := 22, pos := "law.go:102", after := #[{ on := 6, ground := Ground.guard }], guard := some (6, true) }) (v := .slice (some ⟨b, o, none⟩) n c) rfl (by kernel_rfl) (by kernel_rfl) (by kernel_rfl) (fun _ _ _ h => h) (Or.inl ⟨by rfl, ?_⟩) ((Below.refl _ _).drew) ?_
          · intro W hSw; clear hSw; go_simp
          try simp only [Act.put, List.setIfInBounds_toArray, List.set_cons_zero, List.set_cons_succ]
          refine wpAnyH_take (i := 10) (oi := { dst := some 97, op := Op.move (Operand.tmp 9), type := 3, pos := "law.go:102", after := #[{ on := 6, ground := Ground.guard }], guard := some (6, true) }) (v := .int .i64 (n : Int)) rfl (by kernel_rfl) (by kernel_rfl) (by kernel_rfl) (fun _ _ _ h => h) (Or.inl ⟨by rfl, ?_⟩) ((Below.refl _ _).drew) ?_
          · intro W hSw; clear hSw; go_simp
          try simp only [Act.put, List.setIfInBounds_toArray, List.set_cons_zero, List.set_cons_succ]
          refine wpAnyH_take (i := 11) (oi := { dst := some 98, op := Op.binOp BinOp.sub 3 (Operand.tmp 97) (Operand.const (Value.int IntKind.i64 1)) 3, type := 3, pos := "law.go:102", after := #[{ on := 10, ground := Ground.data }, { on := 6, ground := Ground.guard }], guard := some (6, true) }) (v := .int .i64 (j : Int)) rfl (by kernel_rfl) (by kernel_rfl) (by kernel_rfl) (fun _ _ _ h => h) (Or.inl ⟨by rfl, ?_⟩) ((Below.refl _ _).drew) ?_
          · intro W hSw; clear hSw; go_simp; exact HQ1.out
          try simp only [Act.put, List.setIfInBounds_toArray, List.set_cons_zero, List.set_cons_succ]
          refine wpAnyH_take (i := 12) (oi := { dst := some 99, op := Op.indexAddr 22 (Operand.tmp 96) (Operand.tmp 98), type := 0, pos := "law.go:102", after := #[{ on := 9, ground := Ground.data }, { on := 11, ground := Ground.data }, { on := 6, ground := Ground.guard }], guard := some (6, true) }) (v := .pointer (some ⟨b, o + j, none⟩)) rfl (by kernel_rfl) (by kernel_rfl) (by kernel_rfl) (fun _ _ _ h => h) (Or.inl ⟨by rfl, ?_⟩) ((Below.refl _ _).drew) ?_
          · intro W hSw; clear hSw; go_simp
          try simp only [Act.put, List.setIfInBounds_toArray, List.set_cons_zero, List.set_cons_succ]
          refine wpAnyH_take (i := 13) (oi := { dst := some 100, op := Op.load 3 (Operand.tmp 99), type := 3, pos := "law.go:102", after := #[{ on := 12, ground := Ground.data }, { on := 6, ground := Ground.guard }], guard := some (6, true) }) (v := .int .i64 z) rfl (by kernel_rfl) (by kernel_rfl) (by kernel_rfl) (fun _ _ _ h => h) (Or.inl ⟨by rfl, ?_⟩) ((Below.refl _ _).drew) ?_
          · intro W hSw; have hc := (hSw.cell (p := ⟨b, o + j, none⟩) HBL.out).trans HCE.out; clear hSw; go_simp
          try simp only [Act.put, List.setIfInBounds_toArray, List.set_cons_zero, List.set_cons_succ]
          refine wpAnyH_take (i := 14) (oi := { dst := some 101, op := Op.binOp BinOp.and 3 (Operand.tmp 100) (Operand.const (Value.int IntKind.i64 511)) 3, type := 3, pos := "law.go:102", after := #[{ on := 13, ground := Ground.data }, { on := 6, ground := Ground.guard }], guard := some (6, true) }) (v := .int .i64 (bits .and .i64 z 511)) rfl (by kernel_rfl) (by kernel_rfl) (by kernel_rfl) (fun _ _ _ h => h) (Or.inl ⟨by rfl, ?_⟩) ((Below.refl _ _).drew) ?_
          · intro W hSw; clear hSw; go_simp
          try simp only [Act.put, List.setIfInBounds_toArray, List.set_cons_zero, List.set_cons_succ]
          refine wpAnyH_take (i := 15) (oi := { dst := some 102, op := Op.move (Operand.tmp 9), type := 3, pos := "law.go:102", after := #[{ on := 6, ground := Ground.guard }], guard := some (6, true) }) (v := .int .i64 (n : Int)) rfl (by kernel_rfl) (by kernel_rfl) (by kernel_rfl) (fun _ _ _ h => h) (Or.inl ⟨by rfl, ?_⟩) ((Below.refl _ _).drew) ?_
          · intro W hSw; clear hSw; go_simp
          try simp only [Act.put, List.setIfInBounds_toArray, List.set_cons_zero, List.set_cons_succ]
          refine wpAnyH_take (i := 16) (oi := { dst := some 103, op := Op.convert 3 5 (Operand.tmp 102), type := 5, pos := "law.go:102", after := #[{ on := 15, ground := Ground.data }, { on := 6, ground := Ground.guard }], guard := some (6, true) }) (v := .int .u8 (n : Int)) rfl (by kernel_rfl) (by kernel_rfl) (by kernel_rfl) (fun _ _ _ h => h) (Or.inl ⟨by rfl, ?_⟩) ((Below.refl _ _).drew) ?_
          · intro W hSw; clear hSw; go_simp; exact HU8.out
          try simp only [Act.put, List.setIfInBounds_toArray, List.set_cons_zero, List.set_cons_succ]
          refine wpAnyH_1 (i := 17) (by kernel_rfl) (wpOp_call (o := { dst := some 104, op := Op.call { callee := Callee.value (Operand.func 10), args := #[Operand.tmp 101, Operand.tmp 103], argTypes := #[3, 5] }, type := 31, pos := "law.go:102", after := #[{ on := 14, ground := Ground.data }, { on := 16, ground := Ground.data }, { on := 6, ground := Ground.chain }, { on := 6, ground := Ground.guard }], guard := some (6, true) }) (f := 10) rfl (by rfl) (by go_simp) ((HTX.out _).mono ?_))
          rintro e w8 ⟨rfl, hh8, hb8⟩
          have HH8 := Lib.hid (Has.of_blk (K := fun _ => True) hh8 trivial)
          have HB8 := Lib.hid ((Below.refl w6.heap.size w6).drew.trans hb8)
          clear hh8 hb8
          refine ⟨_, rfl, HB8.out, ?_⟩
          try simp only [Act.put, List.setIfInBounds_toArray, List.set_cons_zero, List.set_cons_succ]
          refine wpAnyH_more (S' := fun W => Below w8.heap.size w8 W) (fun W h => HB8.out.trans (h.mono HB8.out.size)) _ _ _ _ ?_
          refine wpAnyH_take (i := 18) (oi := { dst := some 105, op := Op.convert 31 9 (Operand.tmp 104), type := 9, pos := "law.go:102", after := #[{ on := 17, ground := Ground.data }, { on := 6, ground := Ground.guard }], guard := some (6, true) }) (v := .string ⟨tb.toArray⟩) rfl (by kernel_rfl) (by kernel_rfl) (by kernel_rfl) (fun _ _ _ h => h) (Or.inl ⟨by rfl, ?_⟩) (Below.refl _ _) ?_
          · intro W hSw; exact exec_value rfl ((HH8.out.below hSw).strn HTL.out tl)
          try simp only [Act.put, List.setIfInBounds_toArray, List.set_cons_zero, List.set_cons_succ]
          refine wpAnyH_take (i := 19) (oi := { dst := some 106, op := Op.binOp BinOp.eql 9 (Operand.tmp 95) (Operand.tmp 105) 9, type := 4, pos := "law.go:102", after := #[{ on := 8, ground := Ground.data }, { on := 18, ground := Ground.data }, { on := 6, ground := Ground.guard }], guard := some (6, true) }) (v := .bool true) rfl (by kernel_rfl) (by kernel_rfl) (by kernel_rfl) (fun _ _ _ h => h) (Or.inl ⟨by rfl, ?_⟩) (Below.refl _ _) ?_
          · intro W hSw; clear hSw; go_simp
          try simp only [Act.put, List.setIfInBounds_toArray, List.set_cons_zero, List.set_cons_succ]
          refine wpAnyH_take (i := 20) (oi := { dst := some 107, op := Op.pick (Operand.tmp 93) (Operand.tmp 106) (Operand.const (Value.bool false)), type := 4, pos := "law.go:102", after := #[{ on := 6, ground := Ground.data }, { on := 19, ground := Ground.data }], guard := none }) (v := .bool true) rfl (by kernel_rfl) (by kernel_rfl) (by kernel_rfl) (fun _ _ _ h => h) (Or.inl ⟨by rfl, ?_⟩) (Below.refl _ _) ?_
          · intro W hSw; clear hSw; go_simp
          try simp only [Act.put, List.setIfInBounds_toArray, List.set_cons_zero, List.set_cons_succ]
          refine wpAnyH_done (by kernel_rfl) ?_ _
          refine NoPanic.normal ?_
          go_wp2_with fail
          go_ret
          exact ⟨rfl, HB6.out.trans (HB8.out.mono HB6.out.size)⟩
        · obtain ⟨rfl, hb6⟩ := rdP_none h6 hr
          have HB6 := Lib.hid (HB7.out.trans (hb6.mono HB7.out.size))
          have hn1 : (n : Int) = 1 := by omega
          clear h6 hr hb6
          go_wp2_with fail
          refine wp_region_noPanic ?_
          refine wp_region_held_drew (S := fun W => Below w6.heap.size w6 W) (by kernel_rfl) ((Below.refl _ _).drew) (fun _ => ?_)
          refine wpAnyH_take (i := 0) (oi := { dst := some 87, op := Op.move (Operand.tmp 14), type := 4, pos := "law.go:102", after := #[], guard := none }) (v := .bool false) rfl (by kernel_rfl) (by kernel_rfl) (by kernel_rfl) (fun _ _ _ h => h) (Or.inl ⟨by rfl, ?_⟩) ((Below.refl _ _).drew) ?_
          · intro W hSw; clear hSw; go_simp
          try simp only [Act.put, List.setIfInBounds_toArray, List.set_cons_zero, List.set_cons_succ]
          refine wpAnyH_take (i := 1) (oi := { dst := some 88, op := Op.move (Operand.tmp 87), type := 4, pos := "law.go:102", after := #[{ on := 0, ground := Ground.data }], guard := none }) (v := .bool false) rfl (by kernel_rfl) (by kernel_rfl) (by kernel_rfl) (fun _ _ _ h => h) (Or.inl ⟨by rfl, ?_⟩) ((Below.refl _ _).drew) ?_
          · intro W hSw; clear hSw; go_simp
          try simp only [Act.put, List.setIfInBounds_toArray, List.set_cons_zero, List.set_cons_succ]
          refine wpAnyH_take (i := 2) (oi := { dst := some 89, op := Op.move (Operand.tmp 12), type := 3, pos := "law.go:102", after := #[{ on := 1, ground := Ground.guard }], guard := some (1, true) }) (v := undef) rfl (by kernel_rfl) (by kernel_rfl) (by kernel_rfl) (fun _ _ _ h => h) (Or.inr ⟨by rfl, rfl⟩) ((Below.refl _ _).drew) ?_
          try simp only [Act.put, List.setIfInBounds_toArray, List.set_cons_zero, List.set_cons_succ]
          refine wpAnyH_take (i := 3) (oi := { dst := some 90, op := Op.move (Operand.tmp 9), type := 3, pos := "law.go:102", after := #[{ on := 1, ground := Ground.guard }], guard := some (1, true) }) (v := undef) rfl (by kernel_rfl) (by kernel_rfl) (by kernel_rfl) (fun _ _ _ h => h) (Or.inr ⟨by rfl, rfl⟩) ((Below.refl _ _).drew) ?_
          try simp only [Act.put, List.setIfInBounds_toArray, List.set_cons_zero, List.set_cons_succ]
          refine wpAnyH_take (i := 4) (oi := { dst := some 91, op := Op.binOp BinOp.eql 3 (Operand.tmp 89) (Operand.tmp 90) 3, type := 4, pos := "law.go:102", after := #[{ on := 2, ground := Ground.data }, { on := 3, ground := Ground.data }, { on := 1, ground := Ground.guard }], guard := some (1, true) }) (v := undef) rfl (by kernel_rfl) (by kernel_rfl) (by kernel_rfl) (fun _ _ _ h => h) (Or.inr ⟨by rfl, rfl⟩) ((Below.refl _ _).drew) ?_
          try simp only [Act.put, List.setIfInBounds_toArray, List.set_cons_zero, List.set_cons_succ]
          refine wpAnyH_take (i := 5) (oi := { dst := some 92, op := Op.pick (Operand.tmp 88) (Operand.tmp 91) (Operand.const (Value.bool false)), type := 4, pos := "law.go:102", after := #[{ on := 1, ground := Ground.data }, { on := 4, ground := Ground.data }], guard := none }) (v := .bool false) rfl (by kernel_rfl) (by kernel_rfl) (by kernel_rfl) (fun _ _ _ h => h) (Or.inl ⟨by rfl, ?_⟩) ((Below.refl _ _).drew) ?_
          · intro W hSw; clear hSw; go_simp
          try simp only [Act.put, List.setIfInBounds_toArray, List.set_cons_zero, List.set_cons_succ]
          refine wpAnyH_take (i := 6) (oi := { dst := some 93, op := Op.move (Operand.tmp 92), type := 4, pos := "law.go:102", after := #[{ on := 5, ground := Ground.data }, { on := 1, ground := Ground.chain }], guard := none }) (v := .bool false) rfl (by kernel_rfl) (by kernel_rfl) (by kernel_rfl) (fun _ _ _ h => h) (Or.inl ⟨by rfl, ?_⟩) ((Below.refl _ _).drew) ?_
          · intro W hSw; clear hSw; go_simp
          try simp only [Act.put, List.setIfInBounds_toArray, List.set_cons_zero, List.set_cons_succ]
          refine wpAnyH_take (i := 7) (oi := { dst := some 94, op := Op.move (Operand.tmp 13), type := 31, pos := "law.go:102", after := #[{ on := 6, ground := Ground.guard }], guard := some (6, true) }) (v := undef) rfl (by kernel_rfl) (by kernel_rfl) (by kernel_rfl) (fun _ _ _ h => h) (Or.inr ⟨by rfl, rfl⟩) ((Below.refl _ _).drew) ?_
          try simp only [Act.put, List.setIfInBounds_toArray, List.set_cons_zero, List.set_cons_succ]
          refine wpAnyH_take (i := 8) (oi := { dst := some 95, op := Op.convert 31 9 (Operand.tmp 94), type := 9, pos := "law.go:102", after := #[{ on := 7, ground := Ground.data }, { on := 6, ground := Ground.guard }], guard := some (6, true) }) (v := undef) rfl (by kernel_rfl) (by kernel_rfl) (by kernel_rfl) (fun _ _ _ h => h) (Or.inr ⟨by rfl, rfl⟩) ((Below.refl _ _).drew) ?_
          try simp only [Act.put, List.setIfInBounds_toArray, List.set_cons_zero, List.set_cons_succ]
          refine wpAnyH_take (i := 9) (oi := { dst := some 96, op := Op.move (Operand.tmp 0), type := 22, pos := "law.go:102", after := #[{ on := 6, ground := Ground.guard }], guard := some (6, true) }) (v := undef) rfl (by kernel_rfl) (by kernel_rfl) (by kernel_rfl) (fun _ _ _ h => h) (Or.inr ⟨by rfl, rfl⟩) ((Below.refl _ _).drew) ?_
          try simp only [Act.put, List.setIfInBounds_toArray, List.set_cons_zero, List.set_cons_succ]
          refine wpAnyH_take (i := 10) (oi := { dst := some 97, op := Op.move (Operand.tmp 9), type := 3, pos := "law.go:102", after := #[{ on := 6, ground := Ground.guard }], guard := some (6, true) }) (v := undef) rfl (by kernel_rfl) (by kernel_rfl) (by kernel_rfl) (fun _ _ _ h => h) (Or.inr ⟨by rfl, rfl⟩) ((Below.refl _ _).drew) ?_
          try simp only [Act.put, List.setIfInBounds_toArray, List.set_cons_zero, List.set_cons_succ]
          refine wpAnyH_take (i := 11) (oi := { dst := some 98, op := Op.binOp BinOp.sub 3 (Operand.tmp 97) (Operand.const (Value.int IntKind.i64 1)) 3, type := 3, pos := "law.go:102", after := #[{ on := 10, ground := Ground.data }, { on := 6, ground := Ground.guard }], guard := some (6, true) }) (v := undef) rfl (by kernel_rfl) (by kernel_rfl) (by kernel_rfl) (fun _ _ _ h => h) (Or.inr ⟨by rfl, rfl⟩) ((Below.refl _ _).drew) ?_
          try simp only [Act.put, List.setIfInBounds_toArray, List.set_cons_zero, List.set_cons_succ]
          refine wpAnyH_take (i := 12) (oi := { dst := some 99, op := Op.indexAddr 22 (Operand.tmp 96) (Operand.tmp 98), type := 0, pos := "law.go:102", after := #[{ on := 9, ground := Ground.data }, { on := 11, ground := Ground.data }, { on := 6, ground := Ground.guard }], guard := some (6, true) }) (v := undef) rfl (by kernel_rfl) (by kernel_rfl) (by kernel_rfl) (fun _ _ _ h => h) (Or.inr ⟨by rfl, rfl⟩) ((Below.refl _ _).drew) ?_
          try simp only [Act.put, List.setIfInBounds_toArray, List.set_cons_zero, List.set_cons_succ]
          refine wpAnyH_take (i := 13) (oi := { dst := some 100, op := Op.load 3 (Operand.tmp 99), type := 3, pos := "law.go:102", after := #[{ on := 12, ground := Ground.data }, { on := 6, ground := Ground.guard }], guard := some (6, true) }) (v := undef) rfl (by kernel_rfl) (by kernel_rfl) (by kernel_rfl) (fun _ _ _ h => h) (Or.inr ⟨by rfl, rfl⟩) ((Below.refl _ _).drew) ?_
          try simp only [Act.put, List.setIfInBounds_toArray, List.set_cons_zero, List.set_cons_succ]
          refine wpAnyH_take (i := 14) (oi := { dst := some 101, op := Op.binOp BinOp.and 3 (Operand.tmp 100) (Operand.const (Value.int IntKind.i64 511)) 3, type := 3, pos := "law.go:102", after := #[{ on := 13, ground := Ground.data }, { on := 6, ground := Ground.guard }], guard := some (6, true) }) (v := undef) rfl (by kernel_rfl) (by kernel_rfl) (by kernel_rfl) (fun _ _ _ h => h) (Or.inr ⟨by rfl, rfl⟩) ((Below.refl _ _).drew) ?_
          try simp only [Act.put, List.setIfInBounds_toArray, List.set_cons_zero, List.set_cons_succ]
          refine wpAnyH_take (i := 15) (oi := { dst := some 102, op := Op.move (Operand.tmp 9), type := 3, pos := "law.go:102", after := #[{ on := 6, ground := Ground.guard }], guard := some (6, true) }) (v := undef) rfl (by kernel_rfl) (by kernel_rfl) (by kernel_rfl) (fun _ _ _ h => h) (Or.inr ⟨by rfl, rfl⟩) ((Below.refl _ _).drew) ?_
          try simp only [Act.put, List.setIfInBounds_toArray, List.set_cons_zero, List.set_cons_succ]
          refine wpAnyH_take (i := 16) (oi := { dst := some 103, op := Op.convert 3 5 (Operand.tmp 102), type := 5, pos := "law.go:102", after := #[{ on := 15, ground := Ground.data }, { on := 6, ground := Ground.guard }], guard := some (6, true) }) (v := undef) rfl (by kernel_rfl) (by kernel_rfl) (by kernel_rfl) (fun _ _ _ h => h) (Or.inr ⟨by rfl, rfl⟩) ((Below.refl _ _).drew) ?_
          try simp only [Act.put, List.setIfInBounds_toArray, List.set_cons_zero, List.set_cons_succ]
          refine wpAnyH_take (i := 17) (oi := { dst := some 104, op := Op.call { callee := Callee.value (Operand.func 10), args := #[Operand.tmp 101, Operand.tmp 103], argTypes := #[3, 5] }, type := 31, pos := "law.go:102", after := #[{ on := 14, ground := Ground.data }, { on := 16, ground := Ground.data }, { on := 6, ground := Ground.chain }, { on := 6, ground := Ground.guard }], guard := some (6, true) }) (v := undef) rfl (by kernel_rfl) (by kernel_rfl) (by kernel_rfl) (fun _ _ _ h => h) (Or.inr ⟨by rfl, rfl⟩) ((Below.refl _ _).drew) ?_
          try simp only [Act.put, List.setIfInBounds_toArray, List.set_cons_zero, List.set_cons_succ]
          refine wpAnyH_take (i := 18) (oi := { dst := some 105, op := Op.convert 31 9 (Operand.tmp 104), type := 9, pos := "law.go:102", after := #[{ on := 17, ground := Ground.data }, { on := 6, ground := Ground.guard }], guard := some (6, true) }) (v := undef) rfl (by kernel_rfl) (by kernel_rfl) (by kernel_rfl) (fun _ _ _ h => h) (Or.inr ⟨by rfl, rfl⟩) ((Below.refl _ _).drew) ?_
          try simp only [Act.put, List.setIfInBounds_toArray, List.set_cons_zero, List.set_cons_succ]
          refine wpAnyH_take (i := 19) (oi := { dst := some 106, op := Op.binOp BinOp.eql 9 (Operand.tmp 95) (Operand.tmp 105) 9, type := 4, pos := "law.go:102", after := #[{ on := 8, ground := Ground.data }, { on := 18, ground := Ground.data }, { on := 6, ground := Ground.guard }], guard := some (6, true) }) (v := undef) rfl (by kernel_rfl) (by kernel_rfl) (by kernel_rfl) (fun _ _ _ h => h) (Or.inr ⟨by rfl, rfl⟩) ((Below.refl _ _).drew) ?_
          try simp only [Act.put, List.setIfInBounds_toArray, List.set_cons_zero, List.set_cons_succ]
          refine wpAnyH_take (i := 20) (oi := { dst := some 107, op := Op.pick (Operand.tmp 93) (Operand.tmp 106) (Operand.const (Value.bool false)), type := 4, pos := "law.go:102", after := #[{ on := 6, ground := Ground.data }, { on := 19, ground := Ground.data }], guard := none }) (v := .bool false) rfl (by kernel_rfl) (by kernel_rfl) (by kernel_rfl) (fun _ _ _ h => h) (Or.inl ⟨by rfl, ?_⟩) ((Below.refl _ _).drew) ?_
          · intro W hSw; clear hSw; go_simp
          try simp only [Act.put, List.setIfInBounds_toArray, List.set_cons_zero, List.set_cons_succ]
          refine wpAnyH_done (by kernel_rfl) ?_ _
          refine NoPanic.normal ?_
          rw [show errno false = Value.int .i64 12 from rfl]
          go_wp2_with (go_at_call 8; refine (num_ _ _).mono ?_; rintro e w' ⟨rfl, rfl⟩)
          go_ret
          exact ⟨rfl, HB6.out.drew⟩
        · obtain ⟨A6, c6, rfl, hh6, hb6⟩ := rdP_some h6 hr
          have HB6 := Lib.hid (HB7.out.trans (hb6.mono HB7.out.size))
          have HH6 := Lib.hid hh6
          obtain ⟨r, hrj⟩ : ∃ r, j = r + 1 := ⟨j - 1, by omega⟩
          obtain ⟨b', o', z2, hbo, hzr, hcr⟩ := HZ.out.at_ HB.out (show r < n by omega)
          cases hbo
          have him : imgOf zs j = textB (bits .and .i64 z2 511) j := by rw [hrj]; exact imgOf_next hzr
          have HTY := Lib.hid (fun w => text_ (bits .and .i64 z2 511) j (by omega) w)
          rw [← him] at HTY
          have htl2 : (imgOf zs j).length = cutT (bits .and .i64 z2 511) := by rw [him, textB_len]
          have HTL2 := Lib.hid htl2
          have HCE := Lib.hid ((HB6.out.cell (p := ⟨b, o + r, none⟩) hbl).trans ((HB.out.cell (p := ⟨b, o + r, none⟩) hbl).symm.trans hcr))
          have HBL := Lib.hid (Nat.lt_of_lt_of_le hbl HB6.out.size)
          have HQ2 : Hid (IntKind.i64.wrap ((n : Int) - 2) = (r : Int)) := by rw [IntWalk.i64_in _ (by omega)]; show (n : Int) - 2 = r; omega
          have HU2 : Hid (IntKind.u8.wrap (j : Int) = (j : Int)) := by rw [IntKind.wrap_u8]; show (j : Int) % 256 = j; omega
          have hn1 : ¬ (n : Int) = 1 := by omega
          have hjn3 : ¬ (j : Int) = (n : Int) := by omega
          have hrn : (r : Int) < (n : Int) := by omega
          rw [htl2]
          generalize imgOf zs j = tb at *
          generalize cutT (bits .and .i64 z2 511) = tl at *
          clear h6 hr hh6 hb6 hrj him htl2 hcr hqn
          go_wp2_with fail
          refine wp_region_noPanic ?_
          refine wp_region_held_drew (S := fun W => Below w6.heap.size w6 W) (by kernel_rfl) ((Below.refl _ _).drew) (fun _ => ?_)
          refine wpAnyH_take (i := 0) (oi := { dst := some 87, op := Op.move (Operand.tmp 14), type := 4, pos := "law.go:102", after := #[], guard := none }) (v := .bool true) rfl (by kernel_rfl) (by kernel_rfl) (by kernel_rfl) (fun _ _ _ h => h) (Or.inl ⟨by rfl, ?_⟩) ((Below.refl _ _).drew) ?_
          · intro W hSw; clear hSw; go_simp
          try simp only [Act.put, List.setIfInBounds_toArray, List.set_cons_zero, List.set_cons_succ]
          refine wpAnyH_take (i := 1) (oi := { dst := some 88, op := Op.move (Operand.tmp 87), type := 4, pos := "law.go:102", after := #[{ on := 0, ground := Ground.data }], guard := none }) (v := .bool true) rfl (by kernel_rfl) (by kernel_rfl) (by kernel_rfl) (fun _ _ _ h => h) (Or.inl ⟨by rfl, ?_⟩) ((Below.refl _ _).drew) ?_
          · intro W hSw; clear hSw; go_simp
          try simp only [Act.put, List.setIfInBounds_toArray, List.set_cons_zero, List.set_cons_succ]
          refine wpAnyH_take (i := 2) (oi := { dst := some 89, op := Op.move (Operand.tmp 12), type := 3, pos := "law.go:102", after := #[{ on := 1, ground := Ground.guard }], guard := some (1, true) }) (v := .int .i64 (j : Int)) rfl (by kernel_rfl) (by kernel_rfl) (by kernel_rfl) (fun _ _ _ h => h) (Or.inl ⟨by rfl, ?_⟩) ((Below.refl _ _).drew) ?_
          · intro W hSw; clear hSw; go_simp
          try simp only [Act.put, List.setIfInBounds_toArray, List.set_cons_zero, List.set_cons_succ]
          refine wpAnyH_take (i := 3) (oi := { dst := some 90, op := Op.move (Operand.tmp 9), type := 3, pos := "law.go:102", after := #[{ on := 1, ground := Ground.guard }], guard := some (1, true) }) (v := .int .i64 (n : Int)) rfl (by kernel_rfl) (by kernel_rfl) (by kernel_rfl) (fun _ _ _ h => h) (Or.inl ⟨by rfl, ?_⟩) ((Below.refl _ _).drew) ?_
          · intro W hSw; clear hSw; go_simp
          try simp only [Act.put, List.setIfInBounds_toArray, List.set_cons_zero, List.set_cons_succ]
          refine wpAnyH_take (i := 4) (oi := { dst := some 91, op := Op.binOp BinOp.eql 3 (Operand.tmp 89) (Operand.tmp 90) 3, type := 4, pos := "law.go:102", after := #[{ on := 2, ground := Ground.data }, { on := 3, ground := Ground.data }, { on := 1, ground := Ground.guard }], guard := some (1, true) }) (v := .bool false) rfl (by kernel_rfl) (by kernel_rfl) (by kernel_rfl) (fun _ _ _ h => h) (Or.inl ⟨by rfl, ?_⟩) ((Below.refl _ _).drew) ?_
          · intro W hSw; clear hSw; go_simp
          try simp only [Act.put, List.setIfInBounds_toArray, List.set_cons_zero, List.set_cons_succ]
          refine wpAnyH_take (i := 5) (oi := { dst := some 92, op := Op.pick (Operand.tmp 88) (Operand.tmp 91) (Operand.const (Value.bool false)), type := 4, pos := "law.go:102", after := #[{ on := 1, ground := Ground.data }, { on := 4, ground := Ground.data }], guard := none }) (v := .bool false) rfl (by kernel_rfl) (by kernel_rfl) (by kernel_rfl) (fun _ _ _ h => h) (Or.inl ⟨by rfl, ?_⟩) ((Below.refl _ _).drew) ?_
          · intro W hSw; clear hSw; go_simp
          try simp only [Act.put, List.setIfInBounds_toArray, List.set_cons_zero, List.set_cons_succ]
          refine wpAnyH_take (i := 6) (oi := { dst := some 93, op := Op.move (Operand.tmp 92), type := 4, pos := "law.go:102", after := #[{ on := 5, ground := Ground.data }, { on := 1, ground := Ground.chain }], guard := none }) (v := .bool false) rfl (by kernel_rfl) (by kernel_rfl) (by kernel_rfl) (fun _ _ _ h => h) (Or.inl ⟨by rfl, ?_⟩) ((Below.refl _ _).drew) ?_
          · intro W hSw; clear hSw; go_simp
          try simp only [Act.put, List.setIfInBounds_toArray, List.set_cons_zero, List.set_cons_succ]
          refine wpAnyH_take (i := 7) (oi := { dst := some 94, op := Op.move (Operand.tmp 13), type := 31, pos := "law.go:102", after := #[{ on := 6, ground := Ground.guard }], guard := some (6, true) }) (v := undef) rfl (by kernel_rfl) (by kernel_rfl) (by kernel_rfl) (fun _ _ _ h => h) (Or.inr ⟨by rfl, rfl⟩) ((Below.refl _ _).drew) ?_
          try simp only [Act.put, List.setIfInBounds_toArray, List.set_cons_zero, List.set_cons_succ]
          refine wpAnyH_take (i := 8) (oi := { dst := some 95, op := Op.convert 31 9 (Operand.tmp 94), type := 9, pos := "law.go:102", after := #[{ on := 7, ground := Ground.data }, { on := 6, ground := Ground.guard }], guard := some (6, true) }) (v := undef) rfl (by kernel_rfl) (by kernel_rfl) (by kernel_rfl) (fun _ _ _ h => h) (Or.inr ⟨by rfl, rfl⟩) ((Below.refl _ _).drew) ?_
          try simp only [Act.put, List.setIfInBounds_toArray, List.set_cons_zero, List.set_cons_succ]
          refine wpAnyH_take (i := 9) (oi := { dst := some 96, op := Op.move (Operand.tmp 0), type := 22, pos := "law.go:102", after := #[{ on := 6, ground := Ground.guard }], guard := some (6, true) }) (v := undef) rfl (by kernel_rfl) (by kernel_rfl) (by kernel_rfl) (fun _ _ _ h => h) (Or.inr ⟨by rfl, rfl⟩) ((Below.refl _ _).drew) ?_
          try simp only [Act.put, List.setIfInBounds_toArray, List.set_cons_zero, List.set_cons_succ]
          refine wpAnyH_take (i := 10) (oi := { dst := some 97, op := Op.move (Operand.tmp 9), type := 3, pos := "law.go:102", after := #[{ on := 6, ground := Ground.guard }], guard := some (6, true) }) (v := undef) rfl (by kernel_rfl) (by kernel_rfl) (by kernel_rfl) (fun _ _ _ h => h) (Or.inr ⟨by rfl, rfl⟩) ((Below.refl _ _).drew) ?_
          try simp only [Act.put, List.setIfInBounds_toArray, List.set_cons_zero, List.set_cons_succ]
          refine wpAnyH_take (i := 11) (oi := { dst := some 98, op := Op.binOp BinOp.sub 3 (Operand.tmp 97) (Operand.const (Value.int IntKind.i64 1)) 3, type := 3, pos := "law.go:102", after := #[{ on := 10, ground := Ground.data }, { on := 6, ground := Ground.guard }], guard := some (6, true) }) (v := undef) rfl (by kernel_rfl) (by kernel_rfl) (by kernel_rfl) (fun _ _ _ h => h) (Or.inr ⟨by rfl, rfl⟩) ((Below.refl _ _).drew) ?_
          try simp only [Act.put, List.setIfInBounds_toArray, List.set_cons_zero, List.set_cons_succ]
          refine wpAnyH_take (i := 12) (oi := { dst := some 99, op := Op.indexAddr 22 (Operand.tmp 96) (Operand.tmp 98), type := 0, pos := "law.go:102", after := #[{ on := 9, ground := Ground.data }, { on := 11, ground := Ground.data }, { on := 6, ground := Ground.guard }], guard := some (6, true) }) (v := undef) rfl (by kernel_rfl) (by kernel_rfl) (by kernel_rfl) (fun _ _ _ h => h) (Or.inr ⟨by rfl, rfl⟩) ((Below.refl _ _).drew) ?_
          try simp only [Act.put, List.setIfInBounds_toArray, List.set_cons_zero, List.set_cons_succ]
          refine wpAnyH_take (i := 13) (oi := { dst := some 100, op := Op.load 3 (Operand.tmp 99), type := 3, pos := "law.go:102", after := #[{ on := 12, ground := Ground.data }, { on := 6, ground := Ground.guard }], guard := some (6, true) }) (v := undef) rfl (by kernel_rfl) (by kernel_rfl) (by kernel_rfl) (fun _ _ _ h => h) (Or.inr ⟨by rfl, rfl⟩) ((Below.refl _ _).drew) ?_
          try simp only [Act.put, List.setIfInBounds_toArray, List.set_cons_zero, List.set_cons_succ]
          refine wpAnyH_take (i := 14) (oi := { dst := some 101, op := Op.binOp BinOp.and 3 (Operand.tmp 100) (Operand.const (Value.int IntKind.i64 511)) 3, type := 3, pos := "law.go:102", after := #[{ on := 13, ground := Ground.data }, { on := 6, ground := Ground.guard }], guard := some (6, true) }) (v := undef) rfl (by kernel_rfl) (by kernel_rfl) (by kernel_rfl) (fun _ _ _ h => h) (Or.inr ⟨by rfl, rfl⟩) ((Below.refl _ _).drew) ?_
          try simp only [Act.put, List.setIfInBounds_toArray, List.set_cons_zero, List.set_cons_succ]
          refine wpAnyH_take (i := 15) (oi := { dst := some 102, op := Op.move (Operand.tmp 9), type := 3, pos := "law.go:102", after := #[{ on := 6, ground := Ground.guard }], guard := some (6, true) }) (v := undef) rfl (by kernel_rfl) (by kernel_rfl) (by kernel_rfl) (fun _ _ _ h => h) (Or.inr ⟨by rfl, rfl⟩) ((Below.refl _ _).drew) ?_
          try simp only [Act.put, List.setIfInBounds_toArray, List.set_cons_zero, List.set_cons_succ]
          refine wpAnyH_take (i := 16) (oi := { dst := some 103, op := Op.convert 3 5 (Operand.tmp 102), type := 5, pos := "law.go:102", after := #[{ on := 15, ground := Ground.data }, { on := 6, ground := Ground.guard }], guard := some (6, true) }) (v := undef) rfl (by kernel_rfl) (by kernel_rfl) (by kernel_rfl) (fun _ _ _ h => h) (Or.inr ⟨by rfl, rfl⟩) ((Below.refl _ _).drew) ?_
          try simp only [Act.put, List.setIfInBounds_toArray, List.set_cons_zero, List.set_cons_succ]
          refine wpAnyH_take (i := 17) (oi := { dst := some 104, op := Op.call { callee := Callee.value (Operand.func 10), args := #[Operand.tmp 101, Operand.tmp 103], argTypes := #[3, 5] }, type := 31, pos := "law.go:102", after := #[{ on := 14, ground := Ground.data }, { on := 16, ground := Ground.data }, { on := 6, ground := Ground.chain }, { on := 6, ground := Ground.guard }], guard := some (6, true) }) (v := undef) rfl (by kernel_rfl) (by kernel_rfl) (by kernel_rfl) (fun _ _ _ h => h) (Or.inr ⟨by rfl, rfl⟩) ((Below.refl _ _).drew) ?_
          try simp only [Act.put, List.setIfInBounds_toArray, List.set_cons_zero, List.set_cons_succ]
          refine wpAnyH_take (i := 18) (oi := { dst := some 105, op := Op.convert 31 9 (Operand.tmp 104), type := 9, pos := "law.go:102", after := #[{ on := 17, ground := Ground.data }, { on := 6, ground := Ground.guard }], guard := some (6, true) }) (v := undef) rfl (by kernel_rfl) (by kernel_rfl) (by kernel_rfl) (fun _ _ _ h => h) (Or.inr ⟨by rfl, rfl⟩) ((Below.refl _ _).drew) ?_
          try simp only [Act.put, List.setIfInBounds_toArray, List.set_cons_zero, List.set_cons_succ]
          refine wpAnyH_take (i := 19) (oi := { dst := some 106, op := Op.binOp BinOp.eql 9 (Operand.tmp 95) (Operand.tmp 105) 9, type := 4, pos := "law.go:102", after := #[{ on := 8, ground := Ground.data }, { on := 18, ground := Ground.data }, { on := 6, ground := Ground.guard }], guard := some (6, true) }) (v := undef) rfl (by kernel_rfl) (by kernel_rfl) (by kernel_rfl) (fun _ _ _ h => h) (Or.inr ⟨by rfl, rfl⟩) ((Below.refl _ _).drew) ?_
          try simp only [Act.put, List.setIfInBounds_toArray, List.set_cons_zero, List.set_cons_succ]
          refine wpAnyH_take (i := 20) (oi := { dst := some 107, op := Op.pick (Operand.tmp 93) (Operand.tmp 106) (Operand.const (Value.bool false)), type := 4, pos := "law.go:102", after := #[{ on := 6, ground := Ground.data }, { on := 19, ground := Ground.data }], guard := none }) (v := .bool false) rfl (by kernel_rfl) (by kernel_rfl) (by kernel_rfl) (fun _ _ _ h => h) (Or.inl ⟨by rfl, ?_⟩) ((Below.refl _ _).drew) ?_
          · intro W hSw; clear hSw; go_simp
          try simp only [Act.put, List.setIfInBounds_toArray, List.set_cons_zero, List.set_cons_succ]
          refine wpAnyH_done (by kernel_rfl) ?_ _
          refine NoPanic.normal ?_
          rw [show errno false = Value.int .i64 12 from rfl]
          go_wp2_with (go_at_call 8; refine (num_ _ _).mono ?_; rintro e w' ⟨rfl, rfl⟩)
          refine wp_region_noPanic ?_
          refine wp_region_held_drew (S := fun W => Below w6.heap.size w6 W) (by kernel_rfl) ((Below.refl _ _).drew.drew) (fun _ => ?_)
          refine wpAnyH_take (i := 0) (oi := { dst := some 119, op := Op.move (Operand.tmp 14), type := 4, pos := "law.go:111", after := #[], guard := none }) (v := .bool true) rfl (by kernel_rfl) (by kernel_rfl) (by kernel_rfl) (fun _ _ _ h => h) (Or.inl ⟨by rfl, ?_⟩) ((Below.refl _ _).drew.drew) ?_
          · intro W hSw; clear hSw; go_simp
          try simp only [Act.put, List.setIfInBounds_toArray, List.set_cons_zero, List.set_cons_succ]
          refine wpAnyH_take (i := 1) (oi := { dst := some 120, op := Op.move (Operand.tmp 119), type := 4, pos := "law.go:111", after := #[{ on := 0, ground := Ground.data }], guard := none }) (v := .bool true) rfl (by kernel_rfl) (by kernel_rfl) (by kernel_rfl) (fun _ _ _ h => h) (Or.inl ⟨by rfl, ?_⟩) ((Below.refl _ _).drew.drew) ?_
          · intro W hSw; clear hSw; go_simp
          try simp only [Act.put, List.setIfInBounds_toArray, List.set_cons_zero, List.set_cons_succ]
          refine wpAnyH_take (i := 2) (oi := { dst := some 121, op := Op.move (Operand.tmp 12), type := 3, pos := "law.go:111", after := #[{ on := 1, ground := Ground.guard }], guard := some (1, true) }) (v := .int .i64 (j : Int)) rfl (by kernel_rfl) (by kernel_rfl) (by kernel_rfl) (fun _ _ _ h => h) (Or.inl ⟨by rfl, ?_⟩) ((Below.refl _ _).drew.drew) ?_
          · intro W hSw; clear hSw; go_simp
          try simp only [Act.put, List.setIfInBounds_toArray, List.set_cons_zero, List.set_cons_succ]
          refine wpAnyH_take (i := 3) (oi := { dst := some 122, op := Op.move (Operand.tmp 9), type := 3, pos := "law.go:111", after := #[{ on := 1, ground := Ground.guard }], guard := some (1, true) }) (v := .int .i64 (n : Int)) rfl (by kernel_rfl) (by kernel_rfl) (by kernel_rfl) (fun _ _ _ h => h) (Or.inl ⟨by rfl, ?_⟩) ((Below.refl _ _).drew.drew) ?_
          · intro W hSw; clear hSw; go_simp
          try simp only [Act.put, List.setIfInBounds_toArray, List.set_cons_zero, List.set_cons_succ]
          refine wpAnyH_take (i := 4) (oi := { dst := some 123, op := Op.binOp BinOp.sub 3 (Operand.tmp 122) (Operand.const (Value.int IntKind.i64 1)) 3, type := 3, pos := "law.go:111", after := #[{ on := 3, ground := Ground.data }, { on := 1, ground := Ground.guard }], guard := some (1, true) }) (v := .int .i64 (j : Int)) rfl (by kernel_rfl) (by kernel_rfl) (by kernel_rfl) (fun _ _ _ h => h) (Or.inl ⟨by rfl, ?_⟩) ((Below.refl _ _).drew.drew) ?_
          · intro W hSw; clear hSw; go_simp; exact HQ1.out
          try simp only [Act.put, List.setIfInBounds_toArray, List.set_cons_zero, List.set_cons_succ]
          refine wpAnyH_take (i := 5) (oi := { dst := some 124, op := Op.binOp BinOp.eql 3 (Operand.tmp 121) (Operand.tmp 123) 3, type := 4, pos := "law.go:111", after := #[{ on := 2, ground := Ground.data }, { on := 4, ground := Ground.data }, { on := 1, ground := Ground.guard }], guard := some (1, true) }) (v := .bool true) rfl (by kernel_rfl) (by kernel_rfl) (by kernel_rfl) (fun _ _ _ h => h) (Or.inl ⟨by rfl, ?_⟩) ((Below.refl _ _).drew.drew) ?_
          · intro W hSw; clear hSw; go_simp
          try simp only [Act.put, List.setIfInBounds_toArray, List.set_cons_zero, List.set_cons_succ]
          refine wpAnyH_take (i := 6) (oi := { dst := some 125, op := Op.pick (Operand.tmp 120) (Operand.tmp 124) (Operand.const (Value.bool false)), type := 4, pos := "law.go:111", after := #[{ on := 1, ground := Ground.data }, { on := 5, ground := Ground.data }], guard := none }) (v := .bool true) rfl (by kernel_rfl) (by kernel_rfl) (by kernel_rfl) (fun _ _ _ h => h) (Or.inl ⟨by rfl, ?_⟩) ((Below.refl _ _).drew.drew) ?_
          · intro W hSw; clear hSw; go_simp
          try simp only [Act.put, List.setIfInBounds_toArray, List.set_cons_zero, List.set_cons_succ]
          refine wpAnyH_take (i := 7) (oi := { dst := some 126, op := Op.move (Operand.tmp 125), type := 4, pos := "law.go:111", after := #[{ on := 6, ground := Ground.data }, { on := 1, ground := Ground.chain }], guard := none }) (v := .bool true) rfl (by kernel_rfl) (by kernel_rfl) (by kernel_rfl) (fun _ _ _ h => h) (Or.inl ⟨by rfl, ?_⟩) ((Below.refl _ _).drew.drew) ?_
          · intro W hSw; clear hSw; go_simp
          try simp only [Act.put, List.setIfInBounds_toArray, List.set_cons_zero, List.set_cons_succ]
          refine wpAnyH_take (i := 8) (oi := { dst := some 127, op := Op.move (Operand.tmp 13), type := 31, pos := "law.go:111", after := #[{ on := 7, ground := Ground.guard }], guard := some (7, true) }) (v := .slice A6 tl c6) rfl (by kernel_rfl) (by kernel_rfl) (by kernel_rfl) (fun _ _ _ h => h) (Or.inl ⟨by rfl, ?_⟩) ((Below.refl _ _).drew.drew) ?_
          · intro W hSw; clear hSw; go_simp
          try simp only [Act.put, List.setIfInBounds_toArray, List.set_cons_zero, List.set_cons_succ]
          refine wpAnyH_take (i := 9) (oi := { dst := some 128, op := Op.convert 31 9 (Operand.tmp 127), type := 9, pos := "law.go:111", after := #[{ on := 8, ground := Ground.data }, { on := 7, ground := Ground.guard }], guard := some (7, true) }) (v := .string ⟨tb.toArray⟩) rfl (by kernel_rfl) (by kernel_rfl) (by kernel_rfl) (fun _ _ _ h => h) (Or.inl ⟨by rfl, ?_⟩) ((Below.refl _ _).drew.drew) ?_
          · intro W hSw; exact exec_value rfl ((HH6.out.below hSw).strn HTL2.out c6)
          try simp only [Act.put, List.setIfInBounds_toArray, List.set_cons_zero, List.set_cons_succ]
          refine wpAnyH_take (i := 10) (oi := { dst := some 129, op := Op.move (Operand.tmp 0), type := 22, pos := "law.go:111", after := #[{ on := 7, ground := Ground.guard }], guard := some (7, true) }) (v := .slice (some ⟨b, o, none⟩) n c) rfl (by kernel_rfl) (by kernel_rfl) (by kernel_rfl) (fun _ _ _ h => h) (Or.inl ⟨by rfl, ?_⟩) ((Below.refl _ _).drew.drew) ?_
          · intro W hSw; clear hSw; go_simp
          try simp only [Act.put, List.setIfInBounds_toArray, List.set_cons_zero, List.set_cons_succ]
          refine wpAnyH_take (i := 11) (oi := { dst := some 130, op := Op.move (Operand.tmp 9), type := 3, pos := "law.go:111", after := #[{ on := 7, ground := Ground.guard }], guard := some (7, true) }) (v := .int .i64 (n : Int)) rfl (by kernel_rfl) (by kernel_rfl) (by kernel_rfl) (fun _ _ _ h => h) (Or.inl ⟨by rfl, ?_⟩) ((Below.refl _ _).drew.drew) ?_
          · intro W hSw; clear hSw; go_simp
          try simp only [Act.put, List.setIfInBounds_toArray, List.set_cons_zero, List.set_cons_succ]
          refine wpAnyH_take (i := 12) (oi := { dst := some 131, op := Op.binOp BinOp.sub 3 (Operand.tmp 130) (Operand.const (Value.int IntKind.i64 2)) 3, type := 3, pos := "law.go:111", after := #[{ on := 11, ground := Ground.data }, { on := 7, ground := Ground.guard }], guard := some (7, true) }) (v := .int .i64 (r : Int)) rfl (by kernel_rfl) (by kernel_rfl) (by kernel_rfl) (fun _ _ _ h => h) (Or.inl ⟨by rfl, ?_⟩) ((Below.refl _ _).drew.drew) ?_
          · intro W hSw; clear hSw; go_simp; exact HQ2.out
          try simp only [Act.put, List.setIfInBounds_toArray, List.set_cons_zero, List.set_cons_succ]
          refine wpAnyH_take (i := 13) (oi := { dst := some 132, op := Op.indexAddr 22 (Operand.tmp 129) (Operand.tmp 131), type := 0, pos := "law.go:111", after := #[{ on := 10, ground := Ground.data }, { on := 12, ground := Ground.data }, { on := 7, ground := Ground.guard }], guard := some (7, true) }) (v := .pointer (some ⟨b, o + r, none⟩)) rfl (by kernel_rfl) (by kernel_rfl) (by kernel_rfl) (fun _ _ _ h => h) (Or.inl ⟨by rfl, ?_⟩) ((Below.refl _ _).drew.drew) ?_
          · intro W hSw; clear hSw; go_simp
          try simp only [Act.put, List.setIfInBounds_toArray, List.set_cons_zero, List.set_cons_succ]
          refine wpAnyH_take (i := 14) (oi := { dst := some 133, op := Op.load 3 (Operand.tmp 132), type := 3, pos := "law.go:111", after := #[{ on := 13, ground := Ground.data }, { on := 7, ground := Ground.guard }], guard := some (7, true) }) (v := .int .i64 z2) rfl (by kernel_rfl) (by kernel_rfl) (by kernel_rfl) (fun _ _ _ h => h) (Or.inl ⟨by rfl, ?_⟩) ((Below.refl _ _).drew.drew) ?_
          · intro W hSw; have hc := (hSw.cell (p := ⟨b, o + r, none⟩) HBL.out).trans HCE.out; clear hSw; go_simp
          try simp only [Act.put, List.setIfInBounds_toArray, List.set_cons_zero, List.set_cons_succ]
          refine wpAnyH_take (i := 15) (oi := { dst := some 134, op := Op.binOp BinOp.and 3 (Operand.tmp 133) (Operand.const (Value.int IntKind.i64 511)) 3, type := 3, pos := "law.go:111", after := #[{ on := 14, ground := Ground.data }, { on := 7, ground := Ground.guard }], guard := some (7, true) }) (v := .int .i64 (bits .and .i64 z2 511)) rfl (by kernel_rfl) (by kernel_rfl) (by kernel_rfl) (fun _ _ _ h => h) (Or.inl ⟨by rfl, ?_⟩) ((Below.refl _ _).drew.drew) ?_
          · intro W hSw; clear hSw; go_simp
          try simp only [Act.put, List.setIfInBounds_toArray, List.set_cons_zero, List.set_cons_succ]
          refine wpAnyH_take (i := 16) (oi := { dst := some 135, op := Op.move (Operand.tmp 9), type := 3, pos := "law.go:111", after := #[{ on := 7, ground := Ground.guard }], guard := some (7, true) }) (v := .int .i64 (n : Int)) rfl (by kernel_rfl) (by kernel_rfl) (by kernel_rfl) (fun _ _ _ h => h) (Or.inl ⟨by rfl, ?_⟩) ((Below.refl _ _).drew.drew) ?_
          · intro W hSw; clear hSw; go_simp
          try simp only [Act.put, List.setIfInBounds_toArray, List.set_cons_zero, List.set_cons_succ]
          refine wpAnyH_take (i := 17) (oi := { dst := some 136, op := Op.binOp BinOp.sub 3 (Operand.tmp 135) (Operand.const (Value.int IntKind.i64 1)) 3, type := 3, pos := "law.go:111", after := #[{ on := 16, ground := Ground.data }, { on := 7, ground := Ground.guard }], guard := some (7, true) }) (v := .int .i64 (j : Int)) rfl (by kernel_rfl) (by kernel_rfl) (by kernel_rfl) (fun _ _ _ h => h) (Or.inl ⟨by rfl, ?_⟩) ((Below.refl _ _).drew.drew) ?_
          · intro W hSw; clear hSw; go_simp; exact HQ1.out
          try simp only [Act.put, List.setIfInBounds_toArray, List.set_cons_zero, List.set_cons_succ]
          refine wpAnyH_take (i := 18) (oi := { dst := some 137, op := Op.convert 3 5 (Operand.tmp 136), type := 5, pos := "law.go:111", after := #[{ on := 17, ground := Ground.data }, { on := 7, ground := Ground.guard }], guard := some (7, true) }) (v := .int .u8 (j : Int)) rfl (by kernel_rfl) (by kernel_rfl) (by kernel_rfl) (fun _ _ _ h => h) (Or.inl ⟨by rfl, ?_⟩) ((Below.refl _ _).drew.drew) ?_
          · intro W hSw; clear hSw; go_simp; exact HU2.out
          try simp only [Act.put, List.setIfInBounds_toArray, List.set_cons_zero, List.set_cons_succ]
          refine wpAnyH_1 (i := 19) (by kernel_rfl) (wpOp_call (o := { dst := some 138, op := Op.call { callee := Callee.value (Operand.func 10), args := #[Operand.tmp 134, Operand.tmp 137], argTypes := #[3, 5] }, type := 31, pos := "law.go:111", after := #[{ on := 15, ground := Ground.data }, { on := 18, ground := Ground.data }, { on := 7, ground := Ground.chain }, { on := 7, ground := Ground.guard }], guard := some (7, true) }) (f := 10) rfl (by rfl) (by go_simp) ((HTY.out _).mono ?_))
          rintro e w8 ⟨rfl, hh8, hb8⟩
          have HH8 := Lib.hid (Has.of_blk (K := fun _ => True) hh8 trivial)
          have HB8 := Lib.hid ((Below.refl w6.heap.size w6).drew.drew.trans hb8)
          clear hh8 hb8
          refine ⟨_, rfl, HB8.out, ?_⟩
          try simp only [Act.put, List.setIfInBounds_toArray, List.set_cons_zero, List.set_cons_succ]
          refine wpAnyH_more (S' := fun W => Below w8.heap.size w8 W) (fun W h => HB8.out.trans (h.mono HB8.out.size)) _ _ _ _ ?_
          refine wpAnyH_take (i := 20) (oi := { dst := some 139, op := Op.convert 31 9 (Operand.tmp 138), type := 9, pos := "law.go:111", after := #[{ on := 19, ground := Ground.data }, { on := 7, ground := Ground.guard }], guard := some (7, true) }) (v := .string ⟨tb.toArray⟩) rfl (by kernel_rfl) (by kernel_rfl) (by kernel_rfl) (fun _ _ _ h => h) (Or.inl ⟨by rfl, ?_⟩) (Below.refl _ _) ?_
          · intro W hSw; exact exec_value rfl ((HH8.out.below hSw).strn HTL2.out tl)
          try simp only [Act.put, List.setIfInBounds_toArray, List.set_cons_zero, List.set_cons_succ]
          refine wpAnyH_take (i := 21) (oi := { dst := some 140, op := Op.binOp BinOp.eql 9 (Operand.tmp 128) (Operand.tmp 139) 9, type := 4, pos := "law.go:111", after := #[{ on := 9, ground := Ground.data }, { on := 20, ground := Ground.data }, { on := 7, ground := Ground.guard }], guard := some (7, true) }) (v := .bool true) rfl (by kernel_rfl) (by kernel_rfl) (by kernel_rfl) (fun _ _ _ h => h) (Or.inl ⟨by rfl, ?_⟩) (Below.refl _ _) ?_
          · intro W hSw; clear hSw; go_simp
          try simp only [Act.put, List.setIfInBounds_toArray, List.set_cons_zero, List.set_cons_succ]
          refine wpAnyH_take (i := 22) (oi := { dst := some 141, op := Op.pick (Operand.tmp 126) (Operand.tmp 140) (Operand.const (Value.bool false)), type := 4, pos := "law.go:111", after := #[{ on := 7, ground := Ground.data }, { on := 21, ground := Ground.data }], guard := none }) (v := .bool true) rfl (by kernel_rfl) (by kernel_rfl) (by kernel_rfl) (fun _ _ _ h => h) (Or.inl ⟨by rfl, ?_⟩) (Below.refl _ _) ?_
          · intro W hSw; clear hSw; go_simp
          try simp only [Act.put, List.setIfInBounds_toArray, List.set_cons_zero, List.set_cons_succ]
          refine wpAnyH_take (i := 23) (oi := { dst := some 6, op := Op.assign (Operand.tmp 141), type := 4, pos := "law.go:111", after := #[{ on := 22, ground := Ground.data }, { on := 19, ground := Ground.chain }, { on := 0, ground := Ground.phase }, { on := 1, ground := Ground.phase }, { on := 2, ground := Ground.phase }, { on := 3, ground := Ground.phase }, { on := 4, ground := Ground.phase }, { on := 5, ground := Ground.phase }, { on := 6, ground := Ground.phase }, { on := 7, ground := Ground.phase }, { on := 8, ground := Ground.phase }, { on := 9, ground := Ground.phase }, { on := 10, ground := Ground.phase }, { on := 11, ground := Ground.phase }, { on := 12, ground := Ground.phase }, { on := 13, ground := Ground.phase }, { on := 14, ground := Ground.phase }, { on := 15, ground := Ground.phase }, { on := 16, ground := Ground.phase }, { on := 17, ground := Ground.phase }, { on := 18, ground := Ground.phase }, { on := 19, ground := Ground.phase }, { on := 20, ground := Ground.phase }, { on := 21, ground := Ground.phase }, { on := 22, ground := Ground.phase }], guard := none }) (v := .bool true) rfl (by kernel_rfl) (by kernel_rfl) (by kernel_rfl) (fun _ _ _ h => h) (Or.inl ⟨by rfl, ?_⟩) (Below.refl _ _) ?_
          · intro W hSw; clear hSw; go_simp
          try simp only [Act.put, List.setIfInBounds_toArray, List.set_cons_zero, List.set_cons_succ]
          refine wpAnyH_done (by kernel_rfl) ?_ _
          refine NoPanic.normal ?_
          go_wp2_with fail
          go_ret
          exact ⟨rfl, HB6.out.trans (HB8.out.mono HB6.out.size)⟩
  · go_enter Try.func3, Try.ntmps3
    go_wp2_with fail
    refine (alive w).mono ?_
    rintro e w1 ⟨rfl, hb⟩
    have HB := Lib.hid hb
    clear hb
    go_wp2_with fail
    all_goals first | (go_ret; exact ⟨rfl, HB.out⟩) | (exfalso; omega)
end Go.Proofs.Yteilbaabnhogbaa
