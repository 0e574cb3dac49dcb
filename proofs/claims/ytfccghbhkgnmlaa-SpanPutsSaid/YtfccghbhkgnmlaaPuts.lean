/- What SpanPuts answers. -/
import Derived.Test.YtfccghbhkgnmlaaPutsP
import Derived.Test.YtfccghbhkgnmlaaOrderH
import Derived.Deep.LoopGhost
import Derived.Deep.DeepCutAuto
namespace Go.Proofs.Ytfccghbhkgnmlaa
open Go.RowKit
def PRel (W : World) (m k : Nat) (i : Value) (wr : World) : Prop := ∃ j, j + k = m ∧ i = .int .i64 (j : Int) ∧ Below W.heap.size W wr
def PCut (w3 : World) (B gd gr m : Nat) (wx : World) : Prop :=
  ∃ s : St, Two wx B gd gr s s ∧ s.ok ∧ s.n = m ∧ s.l.length = 0 ∧ s.count = 0 ∧ s.left ≤ 40 ∧ Keep (fun i _ => i < B) w3 wx
theorem cutI_small {n : Int} (h : 0 ≤ n ∧ n < 40) : cutI n 0 1073741824 = n := by
  unfold cutI; rw [if_neg (by omega), if_neg (by omega)]
set_option maxRecDepth 100000 in
set_option maxHeartbeats 1000000 in
theorem spanPuts (n at_ : Int) (A : Option Addr) (c : Nat) (xs : List UInt8) (fr size left : Int) (w : World) (hx : Has w (fun i => i < w.heap.size) A xs) (hA : A = none → c = 0) (hs1 : -9223372036854775808 ≤ size) (hs2 : size ≤ 9223372036854775807) :
    Calls Try.prog 3 #[.int .i64 n, .int .i64 at_, .slice A xs.length c, .int .i64 fr, .int .i64 size, .int .i64 left] w fun e w' => e = .returned (.bool true) ∧ Below w.heap.size w w' := by
  by_cases h : 0 ≤ n ∧ n ≤ 60 ∧ xs.length ≤ 2000
  · obtain ⟨h0, h1, h2⟩ := h
    obtain ⟨m, rfl⟩ := Int.eq_ofNat_of_zero_le h0
    have HX := Lib.hid hx
    have HA := Lib.hid hA
    obtain ⟨len, hlen⟩ : ∃ l, xs.length = l := ⟨_, rfl⟩
    have HLEN := Lib.hid hlen
    rw [hlen] at h2 ⊢
    clear hx hlen hA
    go_enter Try.func3, Try.ntmps3
    go_wp2_with fail
    refine (alive w).mono ?_
    rintro e w1 ⟨rfl, hb1⟩
    have HB1 := Lib.hid hb1
    clear hb1
    go_wp2_with fail
    refine (new_ _ _).mono ?_
    rintro e w2 ⟨rfl, hd2, hb2, hz2⟩
    have hcut : cutN (m : Int) = m := by unfold cutN; omega
    rw [hcut] at hd2
    have HD2 := Lib.hid hd2
    have HB2 := Lib.hid hb2
    clear hd2 hb2 hz2
    go_wp2_with fail
    refine (rnew_ _ _).mono ?_
    rintro e w3 ⟨rfl, hr3, hb3, hz3⟩
    rw [hcut] at hr3
    have HTW := Lib.hid (two_new HD2.out HB1.out.size hr3 hb3 HB2.out.size)
    have HB3 := Lib.hid ((HB1.out.trans (HB2.out.mono HB1.out.size)).trans (hb3.mono (Nat.le_trans HB1.out.size HB2.out.size)))
    have HM4 := Lib.hid (show m ≤ 4096 by omega)
    clear hr3 hb3 hz3 hcut
    generalize w1.heap.size + 1 = gd at *
    generalize w2.heap.size = gr at *
    obtain ⟨b, hb⟩ : ∃ b, b = decide (0 ≤ left ∧ left < 40) := ⟨_, rfl⟩
    have HBB := Lib.hid hb
    clear hb
    go_upto_region 8 with fail
    go_cut [45] (fun v wx => v = .bool b ∧ wx = w3)
    case first =>
      have hb := HBB.out
      by_cases hl : 0 ≤ left ∧ left < 40
      · rw [decide_eq_true hl] at hb
        subst hb
        obtain ⟨hl0, hl1⟩ := hl
        go_wp2_with fail
        go_meet
        exact ⟨rfl, rfl⟩
      · rw [decide_eq_false hl] at hb
        subst hb
        by_cases hl0 : 0 ≤ left
        · have hl1 : ¬ left < 40 := by omega
          go_wp2_with fail
          go_meet
          exact ⟨rfl, rfl⟩
        · go_wp2_with fail
          go_meet
          exact ⟨rfl, rfl⟩
    case rest =>
    obtain ⟨rfl, rfl⟩ := hcut
    go_upto_if 45 with fail
    go_cut [14] (fun v wx => v = ptr gd ∧ PCut wc w.heap.size gd gr m wx)
    case first =>
      cases b
      · go_wp2_with fail
        go_meet
        exact ⟨rfl, St.new m, HTW.out, St.ok.new HM4.out, by rw [St.n_new], rfl, rfl, by simp [St.new], Keep.refl _⟩
      · have hb := of_decide_eq_true HBB.out.symm
        have HCI := Lib.hid (cutI_small hb)
        obtain ⟨hb0, hb1⟩ := hb
        go_wp2_with fail
        refine (two_break HTW.out rfl left).mono ?_
        rintro e w4 ⟨rfl, ht4, hk4⟩
        go_wp2_with fail
        refine (two_rbreak ht4 rfl left).mono ?_
        rintro e w5 ⟨rfl, ht5, hk5⟩
        rw [HCI.out] at ht5
        have HT5 := Lib.hid ht5
        have HK5 := Lib.hid (hk4.trans hk5)
        clear ht4 hk4 ht5 hk5
        go_wp2_with fail
        go_meet
        exact ⟨rfl, (St.new m).brk left.toNat, HT5.out, (St.ok.new HM4.out).brk _, by simp [St.brk, St.n, St.new], rfl, rfl, by simp [St.brk]; omega, HK5.out⟩
    case rest =>
      obtain ⟨rfl, s, ht, hok, hn, hl, hc, hle, hk⟩ := hcut
      have HBW := Lib.hid (HB3.out.trans (hk.below HB3.out.size fun i _ hi => hi))
      have HXW := Lib.hid (HX.out.below HBW.out)
      have HT := Lib.hid ht
      clear ht hk HTW HB3 HBB HX
      obtain ⟨s1, rb, hp⟩ : ∃ s1 rb, s.put at_ xs = (s1, rb) := ⟨_, _, rfl⟩
      have hpk := put_keep hok at_ xs
      rw [hp, HLEN.out, hn, hl, hc] at hpk
      have hnd : need len ≤ 32 := by unfold need; omega
      obtain ⟨hok1, hn1, hl1, hc1, hle1⟩ := hpk
      simp only at hok1 hn1 hl1 hc1 hle1
      have hl0 : s.l.length ≤ 500000 := by omega
      have hc0 : s.count ≤ 500000 := by omega
      have hle0 : s.left ≤ 9223372036854775807 := by omega
      have hl2 : s1.l.length ≤ 1000000 := by omega
      have HPU := Lib.hid hp
      have HN1 := Lib.hid hn1
      obtain ⟨A2, c2, W2, hap, hh2, hb2, hcc2⟩ := fresh_any (w := wc.drew) (c := c) HXW.out HLEN.out (by omega) HA.out
      have HAP := Lib.hid hap
      have HH2 := Lib.hid hh2
      have HB2' := Lib.hid hb2
      have hBz : w.heap.size ≤ wc.heap.size := HBW.out.size
      clear hok hn hl hc hle hp hok1 hn1 hl1 hc1 hle1 hap hh2 hb2 HA
      generalize need len = nl at *
      go_wp2_with fail
      refine wp_region_noPanic ?_
      refine wp_region_held_drew (S := fun W => Keep (fun i _ => i < w.heap.size) wc W) (by kernel_rfl) ((Keep.refl wc).drew) (fun _ => ?_)
      refine wpAnyH_take (i := 0) (oi := { dst := some 52, op := Op.move (Operand.tmp 2), type := 22, pos := "law.go:32", after := #[], guard := none }) (v := .slice A len c) rfl (by kernel_rfl) (by kernel_rfl) (by kernel_rfl) (fun _ _ _ h => h) (Or.inl ⟨by rfl, ?_⟩) ((Keep.refl wc).drew) ?_
      · intro W hSw; clear hSw; go_simp
      try simp only [Act.put, List.setIfInBounds_toArray, List.set_cons_zero, List.set_cons_succ]
      refine wpAnyH_take (i := 1) (oi := { dst := some 53, op := Op.call { callee := Callee.builtin Builtin.len, args := #[Operand.tmp 52], argTypes := #[22] }, type := 3, pos := "law.go:32", after := #[{ on := 0, ground := Ground.data }], guard := none }) (v := .int .i64 (len : Int)) rfl (by kernel_rfl) (by kernel_rfl) (by kernel_rfl) (fun _ _ _ h => h) (Or.inl ⟨by rfl, ?_⟩) ((Keep.refl wc).drew) ?_
      · intro W hSw; clear hSw; go_simp
      try simp only [Act.put, List.setIfInBounds_toArray, List.set_cons_zero, List.set_cons_succ]
      refine wpAnyH_take (i := 3) (oi := { dst := some 55, op := Op.move (Operand.tmp 2), type := 22, pos := "law.go:32", after := #[], guard := none }) (v := .slice A len c) rfl (by kernel_rfl) (by kernel_rfl) (by kernel_rfl) (fun _ _ _ h => h) (Or.inl ⟨by rfl, ?_⟩) ((Keep.refl wc).drew) ?_
      · intro W hSw; clear hSw; go_simp
      try simp only [Act.put, List.setIfInBounds_toArray, List.set_cons_zero, List.set_cons_succ]
      refine wpAnyH_take (i := 4) (oi := { dst := some 56, op := Op.call { callee := Callee.builtin Builtin.len, args := #[Operand.tmp 55], argTypes := #[22] }, type := 3, pos := "law.go:32", after := #[{ on := 3, ground := Ground.data }], guard := none }) (v := .int .i64 (len : Int)) rfl (by kernel_rfl) (by kernel_rfl) (by kernel_rfl) (fun _ _ _ h => h) (Or.inl ⟨by rfl, ?_⟩) ((Keep.refl wc).drew) ?_
      · intro W hSw; clear hSw; go_simp
      try simp only [Act.put, List.setIfInBounds_toArray, List.set_cons_zero, List.set_cons_succ]
      refine wpAnyH_1 (i := 2) (by kernel_rfl) (wpOp_call (o := { dst := some 54, op := Op.call { callee := Callee.value (Operand.func 11), args := #[Operand.tmp 53], argTypes := #[3] }, type := 3, pos := "law.go:32", after := #[{ on := 1, ground := Ground.data }], guard := none }) (f := 11) rfl (by rfl) (by go_simp) ((need_of (n := (len : Int)) (m := len) (Int.toNat_natCast len) (by omega) _).mono ?_))
      rintro e w4 ⟨rfl, rfl⟩
      refine ⟨_, rfl, ((Keep.refl wc).drew), ?_⟩
      try simp only [Act.put, List.setIfInBounds_toArray, List.set_cons_zero, List.set_cons_succ]
      refine wpAnyH_1 (i := 5) (by kernel_rfl) (wpOp_call (o := { dst := some 57, op := Op.call { callee := Callee.value (Operand.func 12), args := #[Operand.tmp 56], argTypes := #[3] }, type := 3, pos := "law.go:32", after := #[{ on := 4, ground := Ground.data }, { on := 2, ground := Ground.chain }], guard := none }) (f := 12) rfl (by rfl) (by go_simp) ((rneed_of (n := (len : Int)) (m := len) (Int.toNat_natCast len) (by omega) _).mono ?_))
      rintro e w4 ⟨rfl, rfl⟩
      refine ⟨_, rfl, ((Keep.refl wc).drew), ?_⟩
      try simp only [Act.put, List.setIfInBounds_toArray, List.set_cons_zero, List.set_cons_succ]
      refine wpAnyH_take (i := 6) (oi := { dst := some 58, op := Op.binOp BinOp.neq 3 (Operand.tmp 54) (Operand.tmp 57) 3, type := 4, pos := "law.go:32", after := #[{ on := 2, ground := Ground.data }, { on := 5, ground := Ground.data }], guard := none }) (v := .bool false) rfl (by kernel_rfl) (by kernel_rfl) (by kernel_rfl) (fun _ _ _ h => h) (Or.inl ⟨by rfl, ?_⟩) ((Keep.refl wc).drew) ?_
      · intro W hSw; clear hSw; go_simp
      try simp only [Act.put, List.setIfInBounds_toArray, List.set_cons_zero, List.set_cons_succ]
      refine wpAnyH_take (i := 7) (oi := { dst := some 59, op := Op.move (Operand.tmp 58), type := 4, pos := "law.go:32", after := #[{ on := 6, ground := Ground.data }, { on := 5, ground := Ground.chain }], guard := none }) (v := .bool false) rfl (by kernel_rfl) (by kernel_rfl) (by kernel_rfl) (fun _ _ _ h => h) (Or.inl ⟨by rfl, ?_⟩) ((Keep.refl wc).drew) ?_
      · intro W hSw; clear hSw; go_simp
      try simp only [Act.put, List.setIfInBounds_toArray, List.set_cons_zero, List.set_cons_succ]
      refine wpAnyH_take (i := 8) (oi := { dst := some 60, op := Op.move (Operand.tmp 4), type := 3, pos := "law.go:32", after := #[{ on := 7, ground := Ground.guard }], guard := some (7, false) }) (v := .int .i64 size) rfl (by kernel_rfl) (by kernel_rfl) (by kernel_rfl) (fun _ _ _ h => h) (Or.inl ⟨by rfl, ?_⟩) ((Keep.refl wc).drew) ?_
      · intro W hSw; clear hSw; go_simp
      try simp only [Act.put, List.setIfInBounds_toArray, List.set_cons_zero, List.set_cons_succ]
      refine wpAnyH_take (i := 10) (oi := { dst := some 62, op := Op.move (Operand.tmp 4), type := 3, pos := "law.go:32", after := #[{ on := 7, ground := Ground.guard }], guard := some (7, false) }) (v := .int .i64 size) rfl (by kernel_rfl) (by kernel_rfl) (by kernel_rfl) (fun _ _ _ h => h) (Or.inl ⟨by rfl, ?_⟩) ((Keep.refl wc).drew) ?_
      · intro W hSw; clear hSw; go_simp
      try simp only [Act.put, List.setIfInBounds_toArray, List.set_cons_zero, List.set_cons_succ]
      refine wpAnyH_1 (i := 9) (by kernel_rfl) (wpOp_call (o := { dst := some 61, op := Op.call { callee := Callee.value (Operand.func 11), args := #[Operand.tmp 60], argTypes := #[3] }, type := 3, pos := "law.go:32", after := #[{ on := 8, ground := Ground.data }, { on := 7, ground := Ground.chain }, { on := 7, ground := Ground.guard }], guard := some (7, false) }) (f := 11) rfl (by rfl) (by go_simp) ((need_of (n := size) (m := size.toNat) rfl hs2 _).mono ?_))
      rintro e w4 ⟨rfl, rfl⟩
      refine ⟨_, rfl, ((Keep.refl wc).drew), ?_⟩
      try simp only [Act.put, List.setIfInBounds_toArray, List.set_cons_zero, List.set_cons_succ]
      refine wpAnyH_1 (i := 11) (by kernel_rfl) (wpOp_call (o := { dst := some 63, op := Op.call { callee := Callee.value (Operand.func 12), args := #[Operand.tmp 62], argTypes := #[3] }, type := 3, pos := "law.go:32", after := #[{ on := 10, ground := Ground.data }, { on := 9, ground := Ground.chain }, { on := 7, ground := Ground.guard }], guard := some (7, false) }) (f := 12) rfl (by rfl) (by go_simp) ((rneed_of (n := size) (m := size.toNat) rfl hs2 _).mono ?_))
      rintro e w4 ⟨rfl, rfl⟩
      refine ⟨_, rfl, ((Keep.refl wc).drew), ?_⟩
      try simp only [Act.put, List.setIfInBounds_toArray, List.set_cons_zero, List.set_cons_succ]
      refine wpAnyH_take (i := 12) (oi := { dst := some 64, op := Op.binOp BinOp.neq 3 (Operand.tmp 61) (Operand.tmp 63) 3, type := 4, pos := "law.go:32", after := #[{ on := 9, ground := Ground.data }, { on := 11, ground := Ground.data }, { on := 7, ground := Ground.guard }], guard := some (7, false) }) (v := .bool false) rfl (by kernel_rfl) (by kernel_rfl) (by kernel_rfl) (fun _ _ _ h => h) (Or.inl ⟨by rfl, ?_⟩) ((Keep.refl wc).drew) ?_
      · intro W hSw; clear hSw; go_simp
      try simp only [Act.put, List.setIfInBounds_toArray, List.set_cons_zero, List.set_cons_succ]
      refine wpAnyH_take (i := 13) (oi := { dst := some 65, op := Op.pick (Operand.tmp 59) (Operand.const (Value.bool true)) (Operand.tmp 64), type := 4, pos := "law.go:32", after := #[{ on := 7, ground := Ground.data }, { on := 12, ground := Ground.data }], guard := none }) (v := .bool false) rfl (by kernel_rfl) (by kernel_rfl) (by kernel_rfl) (fun _ _ _ h => h) (Or.inl ⟨by rfl, ?_⟩) ((Keep.refl wc).drew) ?_
      · intro W hSw; clear hSw; go_simp
      try simp only [Act.put, List.setIfInBounds_toArray, List.set_cons_zero, List.set_cons_succ]
      refine wpAnyH_take (i := 14) (oi := { dst := some 66, op := Op.move (Operand.tmp 65), type := 4, pos := "law.go:32", after := #[{ on := 13, ground := Ground.data }, { on := 11, ground := Ground.chain }], guard := none }) (v := .bool false) rfl (by kernel_rfl) (by kernel_rfl) (by kernel_rfl) (fun _ _ _ h => h) (Or.inl ⟨by rfl, ?_⟩) ((Keep.refl wc).drew) ?_
      · intro W hSw; clear hSw; go_simp
      try simp only [Act.put, List.setIfInBounds_toArray, List.set_cons_zero, List.set_cons_succ]
      refine wpAnyH_take (i := 15) (oi := { dst := some 67, op := Op.move (Operand.tmp 14), type := 24, pos := "law.go:32", after := #[{ on := 14, ground := Ground.guard }], guard := some (14, false) }) (v := ptr gd) rfl (by kernel_rfl) (by kernel_rfl) (by kernel_rfl) (fun _ _ _ h => h) (Or.inl ⟨by rfl, ?_⟩) ((Keep.refl wc).drew) ?_
      · intro W hSw; clear hSw; go_simp
      try simp only [Act.put, List.setIfInBounds_toArray, List.set_cons_zero, List.set_cons_succ]
      refine wpAnyH_take (i := 16) (oi := { dst := some 68, op := Op.move (Operand.tmp 1), type := 3, pos := "law.go:32", after := #[{ on := 14, ground := Ground.guard }], guard := some (14, false) }) (v := .int .i64 at_) rfl (by kernel_rfl) (by kernel_rfl) (by kernel_rfl) (fun _ _ _ h => h) (Or.inl ⟨by rfl, ?_⟩) ((Keep.refl wc).drew) ?_
      · intro W hSw; clear hSw; go_simp
      try simp only [Act.put, List.setIfInBounds_toArray, List.set_cons_zero, List.set_cons_succ]
      refine wpAnyH_take (i := 17) (oi := { dst := some 69, op := Op.move (Operand.tmp 2), type := 22, pos := "law.go:32", after := #[{ on := 14, ground := Ground.guard }], guard := some (14, false) }) (v := .slice A len c) rfl (by kernel_rfl) (by kernel_rfl) (by kernel_rfl) (fun _ _ _ h => h) (Or.inl ⟨by rfl, ?_⟩) ((Keep.refl wc).drew) ?_
      · intro W hSw; clear hSw; go_simp
      try simp only [Act.put, List.setIfInBounds_toArray, List.set_cons_zero, List.set_cons_succ]
      refine wpAnyH_take (i := 20) (oi := { dst := some 72, op := Op.move (Operand.tmp 15), type := 26, pos := "law.go:32", after := #[{ on := 14, ground := Ground.guard }], guard := some (14, false) }) (v := ptr gr) rfl (by kernel_rfl) (by kernel_rfl) (by kernel_rfl) (fun _ _ _ h => h) (Or.inl ⟨by rfl, ?_⟩) ((Keep.refl wc).drew) ?_
      · intro W hSw; clear hSw; go_simp
      try simp only [Act.put, List.setIfInBounds_toArray, List.set_cons_zero, List.set_cons_succ]
      refine wpAnyH_take (i := 21) (oi := { dst := some 73, op := Op.move (Operand.tmp 1), type := 3, pos := "law.go:32", after := #[{ on := 14, ground := Ground.guard }], guard := some (14, false) }) (v := .int .i64 at_) rfl (by kernel_rfl) (by kernel_rfl) (by kernel_rfl) (fun _ _ _ h => h) (Or.inl ⟨by rfl, ?_⟩) ((Keep.refl wc).drew) ?_
      · intro W hSw; clear hSw; go_simp
      try simp only [Act.put, List.setIfInBounds_toArray, List.set_cons_zero, List.set_cons_succ]
      refine wpAnyH_take (i := 22) (oi := { dst := some 74, op := Op.move (Operand.tmp 2), type := 22, pos := "law.go:32", after := #[{ on := 14, ground := Ground.guard }], guard := some (14, false) }) (v := .slice A len c) rfl (by kernel_rfl) (by kernel_rfl) (by kernel_rfl) (fun _ _ _ h => h) (Or.inl ⟨by rfl, ?_⟩) ((Keep.refl wc).drew) ?_
      · intro W hSw; clear hSw; go_simp
      try simp only [Act.put, List.setIfInBounds_toArray, List.set_cons_zero, List.set_cons_succ]
      refine wpAnyH_1 (i := 18) (by kernel_rfl) (wpOp_value (o := { dst := some 70, op := Op.call { callee := Callee.builtin Builtin.append, args := #[Operand.const (Value.slice none 0 0), Operand.tmp 69], argTypes := #[22, 22] }, type := 22, pos := "law.go:32", after := #[{ on := 17, ground := Ground.data }, { on := 14, ground := Ground.chain }, { on := 14, ground := Ground.guard }], guard := some (14, false) }) (v := .slice A2 len c2) (w' := W2) rfl (by rfl) (exec_append rfl rfl rfl HAP.out) ?_)
      refine ⟨((Keep.refl (K := (fun i _ => i < w.heap.size)) wc).drew.trans (Keep.of_below HB2'.out)), ?_⟩
      try simp only [Act.put, List.setIfInBounds_toArray, List.set_cons_zero, List.set_cons_succ]
      refine wpAnyH_1 (i := 19) (by kernel_rfl) (wpOp_call (o := { dst := some 71, op := Op.call { callee := Callee.value (Operand.func 13), args := #[Operand.tmp 67, Operand.tmp 68, Operand.tmp 70], argTypes := #[24, 3, 22] }, type := 4, pos := "law.go:32", after := #[{ on := 15, ground := Ground.data }, { on := 16, ground := Ground.data }, { on := 18, ground := Ground.data }, { on := 18, ground := Ground.chain }, { on := 14, ground := Ground.guard }], guard := some (14, false) }) (f := 13) rfl (by rfl) (by go_simp) ((two_put HPU.out HLEN.out HT.out.drew HB2'.out hBz (HH2.out.more fun i _ hi => .inr hi) hcc2 hl0 hc0 hle0 (by omega)).mono ?_))
      rintro e w5 ⟨rfl, ht5, hk5⟩
      have HT5 := Lib.hid ht5
      have HK5 := Lib.hid (((Keep.refl (K := (fun i _ => i < w.heap.size)) wc).drew.trans (Keep.of_below HB2'.out)).trans hk5)
      have HX5 := Lib.hid (HXW.out.keep (K := fun i => i < w.heap.size) HK5.out)
      have hB5 : w.heap.size ≤ w5.heap.size := Nat.le_trans hBz HK5.out.size
      clear ht5 hk5
      refine ⟨_, rfl, HK5.out, ?_⟩
      try simp only [Act.put, List.setIfInBounds_toArray, List.set_cons_zero, List.set_cons_succ]
      refine wpAnyH_1 (i := 23) (by kernel_rfl) (wpOp_call (o := { dst := some 75, op := Op.call { callee := Callee.value (Operand.func 14), args := #[Operand.tmp 72, Operand.tmp 73, Operand.tmp 74], argTypes := #[26, 3, 22] }, type := 4, pos := "law.go:32", after := #[{ on := 20, ground := Ground.data }, { on := 21, ground := Ground.data }, { on := 22, ground := Ground.data }, { on := 19, ground := Ground.chain }, { on := 14, ground := Ground.guard }], guard := some (14, false) }) (f := 14) rfl (by rfl) (by go_simp) ((two_rput (c := c) HPU.out HLEN.out HT5.out hB5 HX5.out hl0 hc0 hle0 (by omega)).mono ?_))
      rintro e w6 ⟨rfl, ht6, hk6⟩
      have HT6 := Lib.hid ht6
      have HK6 := Lib.hid (HK5.out.trans hk6)
      have HCO := Lib.hid (two_count ht6).2
      have HLT := Lib.hid (two_count ht6).1
      clear ht6 hk6
      refine ⟨_, rfl, HK6.out, ?_⟩
      try simp only [Act.put, List.setIfInBounds_toArray, List.set_cons_zero, List.set_cons_succ]
      refine wpAnyH_more (S' := fun W => Below w6.heap.size w6 W) (fun W h => HK6.out.trans (Keep.of_below h)) _ _ _ _ ?_
      refine wpAnyH_take (i := 24) (oi := { dst := some 76, op := Op.binOp BinOp.neq 4 (Operand.tmp 71) (Operand.tmp 75) 4, type := 4, pos := "law.go:32", after := #[{ on := 19, ground := Ground.data }, { on := 23, ground := Ground.data }, { on := 14, ground := Ground.guard }], guard := some (14, false) }) (v := .bool false) rfl (by kernel_rfl) (by kernel_rfl) (by kernel_rfl) (fun _ _ _ h => h) (Or.inl ⟨by rfl, ?_⟩) (Below.refl _ _) ?_
      · intro W hSw; clear hSw; go_simp
      try simp only [Act.put, List.setIfInBounds_toArray, List.set_cons_zero, List.set_cons_succ]
      refine wpAnyH_take (i := 25) (oi := { dst := some 77, op := Op.pick (Operand.tmp 66) (Operand.const (Value.bool true)) (Operand.tmp 76), type := 4, pos := "law.go:32", after := #[{ on := 14, ground := Ground.data }, { on := 24, ground := Ground.data }], guard := none }) (v := .bool false) rfl (by kernel_rfl) (by kernel_rfl) (by kernel_rfl) (fun _ _ _ h => h) (Or.inl ⟨by rfl, ?_⟩) (Below.refl _ _) ?_
      · intro W hSw; clear hSw; go_simp
      try simp only [Act.put, List.setIfInBounds_toArray, List.set_cons_zero, List.set_cons_succ]
      refine wpAnyH_take (i := 26) (oi := { dst := some 78, op := Op.move (Operand.tmp 77), type := 4, pos := "law.go:32", after := #[{ on := 25, ground := Ground.data }, { on := 23, ground := Ground.chain }], guard := none }) (v := .bool false) rfl (by kernel_rfl) (by kernel_rfl) (by kernel_rfl) (fun _ _ _ h => h) (Or.inl ⟨by rfl, ?_⟩) (Below.refl _ _) ?_
      · intro W hSw; clear hSw; go_simp
      try simp only [Act.put, List.setIfInBounds_toArray, List.set_cons_zero, List.set_cons_succ]
      refine wpAnyH_take (i := 27) (oi := { dst := some 79, op := Op.move (Operand.tmp 14), type := 24, pos := "law.go:32", after := #[{ on := 26, ground := Ground.guard }], guard := some (26, false) }) (v := ptr gd) rfl (by kernel_rfl) (by kernel_rfl) (by kernel_rfl) (fun _ _ _ h => h) (Or.inl ⟨by rfl, ?_⟩) (Below.refl _ _) ?_
      · intro W hSw; clear hSw; go_simp
      try simp only [Act.put, List.setIfInBounds_toArray, List.set_cons_zero, List.set_cons_succ]
      refine wpAnyH_take (i := 29) (oi := { dst := some 81, op := Op.move (Operand.tmp 15), type := 26, pos := "law.go:32", after := #[{ on := 26, ground := Ground.guard }], guard := some (26, false) }) (v := ptr gr) rfl (by kernel_rfl) (by kernel_rfl) (by kernel_rfl) (fun _ _ _ h => h) (Or.inl ⟨by rfl, ?_⟩) (Below.refl _ _) ?_
      · intro W hSw; clear hSw; go_simp
      try simp only [Act.put, List.setIfInBounds_toArray, List.set_cons_zero, List.set_cons_succ]
      refine wpAnyH_take (i := 30) (oi := { dst := some 82, op := Op.nilCheck (Operand.tmp 81), type := 0, pos := "law.go:32", after := #[{ on := 29, ground := Ground.data }, { on := 26, ground := Ground.guard }], guard := some (26, false) }) (v := ptr gr) rfl (by kernel_rfl) (by kernel_rfl) (by kernel_rfl) (fun _ _ _ h => h) (Or.inl ⟨by rfl, ?_⟩) (Below.refl _ _) ?_
      · intro W hSw; clear hSw; go_simp
      try simp only [Act.put, List.setIfInBounds_toArray, List.set_cons_zero, List.set_cons_succ]
      refine wpAnyH_take (i := 31) (oi := { dst := some 83, op := Op.fieldAddr 36 (Operand.tmp 82) 4, type := 0, pos := "law.go:32", after := #[{ on := 30, ground := Ground.data }, { on := 26, ground := Ground.guard }], guard := some (26, false) }) (v := .pointer (some ⟨gr, 4, none⟩)) rfl (by kernel_rfl) (by kernel_rfl) (by kernel_rfl) (fun _ _ _ h => h) (Or.inl ⟨by rfl, ?_⟩) (Below.refl _ _) ?_
      · intro W hSw; clear hSw; go_simp
      try simp only [Act.put, List.setIfInBounds_toArray, List.set_cons_zero, List.set_cons_succ]
      refine wpAnyH_take (i := 32) (oi := { dst := some 84, op := Op.load 3 (Operand.tmp 83), type := 3, pos := "law.go:32", after := #[{ on := 31, ground := Ground.data }, { on := 26, ground := Ground.guard }], guard := some (26, false) }) (v := .int .i64 (s1.count : Int)) rfl (by kernel_rfl) (by kernel_rfl) (by kernel_rfl) (fun _ _ _ h => h) (Or.inl ⟨by rfl, ?_⟩) (Below.refl _ _) ?_
      · intro W hSw; have hcW := (cell_of_heap (hSw.block gr HLT.out) 4).trans HCO.out; clear hSw; go_simp
      try simp only [Act.put, List.setIfInBounds_toArray, List.set_cons_zero, List.set_cons_succ]
      refine wpAnyH_1 (i := 28) (by kernel_rfl) (wpOp_call (o := { dst := some 80, op := Op.call { callee := Callee.value (Operand.func 15), args := #[Operand.tmp 79], argTypes := #[24] }, type := 3, pos := "law.go:32", after := #[{ on := 27, ground := Ground.data }, { on := 26, ground := Ground.chain }, { on := 26, ground := Ground.guard }], guard := some (26, false) }) (f := 15) rfl (by rfl) (by go_simp) ((two_writes HT6.out).mono ?_))
      rintro e w4 ⟨rfl, rfl⟩
      refine ⟨_, rfl, (Below.refl _ _), ?_⟩
      try simp only [Act.put, List.setIfInBounds_toArray, List.set_cons_zero, List.set_cons_succ]
      refine wpAnyH_take (i := 33) (oi := { dst := some 85, op := Op.binOp BinOp.neq 3 (Operand.tmp 80) (Operand.tmp 84) 3, type := 4, pos := "law.go:32", after := #[{ on := 28, ground := Ground.data }, { on := 32, ground := Ground.data }, { on := 26, ground := Ground.guard }], guard := some (26, false) }) (v := .bool false) rfl (by kernel_rfl) (by kernel_rfl) (by kernel_rfl) (fun _ _ _ h => h) (Or.inl ⟨by rfl, ?_⟩) (Below.refl _ _) ?_
      · intro W hSw; clear hSw; go_simp
      try simp only [Act.put, List.setIfInBounds_toArray, List.set_cons_zero, List.set_cons_succ]
      refine wpAnyH_take (i := 34) (oi := { dst := some 86, op := Op.pick (Operand.tmp 78) (Operand.const (Value.bool true)) (Operand.tmp 85), type := 4, pos := "law.go:32", after := #[{ on := 26, ground := Ground.data }, { on := 33, ground := Ground.data }], guard := none }) (v := .bool false) rfl (by kernel_rfl) (by kernel_rfl) (by kernel_rfl) (fun _ _ _ h => h) (Or.inl ⟨by rfl, ?_⟩) (Below.refl _ _) ?_
      · intro W hSw; clear hSw; go_simp
      try simp only [Act.put, List.setIfInBounds_toArray, List.set_cons_zero, List.set_cons_succ]
      refine wpAnyH_done (by kernel_rfl) ?_ _
      refine NoPanic.normal ?_
      have HBW6 := Lib.hid (HBW.out.trans (HK6.out.below hBz fun i _ hi => hi))
      clear HXW HAP HH2 HB2' HX5 HT5 HK5 HK6 HCO HLT HT
      go_wp2_with fail
      go_loopg [16] m (fun k i wr => PRel w6 m k i wr)
      case atStart => exact ⟨0, by omega, rfl, Below.refl _ _⟩
      case round =>
        obtain ⟨j, hj, rfl, hbl⟩ := hrel
        have HJ := Lib.hid hj
        have HBL := Lib.hid hbl
        have HTR := Lib.hid (HT6.out.below hbl)
        clear hj hbl
        by_cases hlt : j < m
        · obtain ⟨x, hxx⟩ : ∃ x, s1.now.getD j [] = x := ⟨_, rfl⟩
          have HXX := Lib.hid hxx
          have hjn : j < s1.n := by rw [HN1.out]; exact hlt
          clear hxx
          go_wp2_with fail
          refine wp_region_noPanic ?_
          refine wp_region_held_drew (S := fun W => Below wr.heap.size wr W) (by kernel_rfl) ((Below.refl _ _).drew) (fun _ => ?_)
          refine wpAnyH_take (i := 0) (oi := { dst := some 92, op := Op.move (Operand.tmp 14), type := 24, pos := "law.go:36", after := #[], guard := none }) (v := ptr gd) rfl (by kernel_rfl) (by kernel_rfl) (by kernel_rfl) (fun _ _ _ h => h) (Or.inl ⟨by rfl, ?_⟩) ((Below.refl _ _).drew) ?_
          · intro W hSw; clear hSw; go_simp
          try simp only [Act.put, List.setIfInBounds_toArray, List.set_cons_zero, List.set_cons_succ]
          refine wpAnyH_take (i := 1) (oi := { dst := some 93, op := Op.move (Operand.tmp 16), type := 3, pos := "law.go:36", after := #[], guard := none }) (v := .int .i64 (j : Int)) rfl (by kernel_rfl) (by kernel_rfl) (by kernel_rfl) (fun _ _ _ h => h) (Or.inl ⟨by rfl, ?_⟩) ((Below.refl _ _).drew) ?_
          · intro W hSw; clear hSw; go_simp
          try simp only [Act.put, List.setIfInBounds_toArray, List.set_cons_zero, List.set_cons_succ]
          refine wpAnyH_take (i := 4) (oi := { dst := some 96, op := Op.move (Operand.tmp 15), type := 26, pos := "law.go:36", after := #[], guard := none }) (v := ptr gr) rfl (by kernel_rfl) (by kernel_rfl) (by kernel_rfl) (fun _ _ _ h => h) (Or.inl ⟨by rfl, ?_⟩) ((Below.refl _ _).drew) ?_
          · intro W hSw; clear hSw; go_simp
          try simp only [Act.put, List.setIfInBounds_toArray, List.set_cons_zero, List.set_cons_succ]
          refine wpAnyH_take (i := 5) (oi := { dst := some 97, op := Op.move (Operand.tmp 16), type := 3, pos := "law.go:36", after := #[], guard := none }) (v := .int .i64 (j : Int)) rfl (by kernel_rfl) (by kernel_rfl) (by kernel_rfl) (fun _ _ _ h => h) (Or.inl ⟨by rfl, ?_⟩) ((Below.refl _ _).drew) ?_
          · intro W hSw; clear hSw; go_simp
          try simp only [Act.put, List.setIfInBounds_toArray, List.set_cons_zero, List.set_cons_succ]
          refine wpAnyH_1 (i := 2) (by kernel_rfl) (wpOp_call (o := { dst := some 94, op := Op.call { callee := Callee.value (Operand.func 16), args := #[Operand.tmp 92, Operand.tmp 93], argTypes := #[24, 3] }, type := 22, pos := "law.go:36", after := #[{ on := 0, ground := Ground.data }, { on := 1, ground := Ground.data }], guard := none }) (f := 16) rfl (by rfl) (by go_simp) ((two_read HXX.out HTR.out.drew hjn).mono ?_))
          rintro e w7 ⟨A7, c7, rfl, hl7, hh7, hb7⟩
          have HH7 := Lib.hid hh7
          have HBA := Lib.hid ((Below.refl wr.heap.size wr).drew.trans hb7)
          have HT7 := Lib.hid (HTR.out.drew.below hb7)
          have HL7 := Lib.hid hl7
          clear hh7 hb7 hl7
          refine ⟨_, rfl, HBA.out, ?_⟩
          try simp only [Act.put, List.setIfInBounds_toArray, List.set_cons_zero, List.set_cons_succ]
          refine wpAnyH_more (S' := fun W => Below w7.heap.size w7 W) (fun W h => HBA.out.trans (h.mono HBA.out.size)) _ _ _ _ ?_
          refine wpAnyH_take (i := 3) (oi := { dst := some 95, op := Op.convert 22 9 (Operand.tmp 94), type := 9, pos := "law.go:36", after := #[{ on := 2, ground := Ground.data }], guard := none }) (v := .string ⟨x.toArray⟩) rfl (by kernel_rfl) (by kernel_rfl) (by kernel_rfl) (fun _ _ _ h => h) (Or.inl ⟨by rfl, ?_⟩) (Below.refl _ _) ?_
          · intro W hSw; exact exec_value rfl ((HH7.out.below hSw).strn HL7.out c7)
          try simp only [Act.put, List.setIfInBounds_toArray, List.set_cons_zero, List.set_cons_succ]
          refine wpAnyH_1 (i := 6) (by kernel_rfl) (wpOp_call (o := { dst := some 98, op := Op.call { callee := Callee.value (Operand.func 17), args := #[Operand.tmp 96, Operand.tmp 97], argTypes := #[26, 3] }, type := 22, pos := "law.go:36", after := #[{ on := 4, ground := Ground.data }, { on := 5, ground := Ground.data }, { on := 2, ground := Ground.chain }], guard := none }) (f := 17) rfl (by rfl) (by go_simp) ((two_rread HXX.out HT7.out hjn hl2).mono ?_))
          rintro e w8 ⟨A8, c8, rfl, hl8, hh8, hb8⟩
          have HH8 := Lib.hid hh8
          have HB8 := Lib.hid hb8
          have HT8 := Lib.hid (HT7.out.below hb8)
          have HL8 := Lib.hid hl8
          clear hh8 hb8 hl8
          refine ⟨_, rfl, HB8.out, ?_⟩
          try simp only [Act.put, List.setIfInBounds_toArray, List.set_cons_zero, List.set_cons_succ]
          refine wpAnyH_more (S' := fun W => Below w8.heap.size w8 W) (fun W h => HB8.out.trans (h.mono HB8.out.size)) _ _ _ _ ?_
          refine wpAnyH_take (i := 7) (oi := { dst := some 99, op := Op.convert 22 9 (Operand.tmp 98), type := 9, pos := "law.go:36", after := #[{ on := 6, ground := Ground.data }], guard := none }) (v := .string ⟨x.toArray⟩) rfl (by kernel_rfl) (by kernel_rfl) (by kernel_rfl) (fun _ _ _ h => h) (Or.inl ⟨by rfl, ?_⟩) (Below.refl _ _) ?_
          · intro W hSw; exact exec_value rfl ((HH8.out.below hSw).strn HL8.out c8)
          try simp only [Act.put, List.setIfInBounds_toArray, List.set_cons_zero, List.set_cons_succ]
          refine wpAnyH_take (i := 8) (oi := { dst := some 100, op := Op.binOp BinOp.neq 9 (Operand.tmp 95) (Operand.tmp 99) 9, type := 4, pos := "law.go:36", after := #[{ on := 3, ground := Ground.data }, { on := 7, ground := Ground.data }], guard := none }) (v := .bool false) rfl (by kernel_rfl) (by kernel_rfl) (by kernel_rfl) (fun _ _ _ h => h) (Or.inl ⟨by rfl, ?_⟩) (Below.refl _ _) ?_
          · intro W hSw; clear hSw; go_simp
          try simp only [Act.put, List.setIfInBounds_toArray, List.set_cons_zero, List.set_cons_succ]
          refine wpAnyH_done (by kernel_rfl) ?_ _
          refine NoPanic.normal ?_
          go_wp2
          go_roundg (m - (j + 1))
          case measure => have := HJ.out; omega
          case rel => exact ⟨j + 1, by omega, by go_num, (HBL.out.trans ((HBA.out.trans (HB8.out.mono HBA.out.size)).mono HBL.out.size))⟩
        · obtain ⟨g1, hg1⟩ : ∃ g, s1.get fr size = g := ⟨_, rfl⟩
          obtain ⟨g2, hg2⟩ : ∃ g, s1.get at_ (len : Int) = g := ⟨_, rfl⟩
          obtain ⟨l1, hl1⟩ : ∃ l, g1.length = l := ⟨_, rfl⟩
          obtain ⟨l2, hl2'⟩ : ∃ l, g2.length = l := ⟨_, rfl⟩
          have HG1 := Lib.hid hg1
          have HG2 := Lib.hid hg2
          have HL1 := Lib.hid hl1
          have HL2 := Lib.hid hl2'
          clear hg1 hg2 hl1 hl2'
          go_wp2_with fail
          refine wp_region_noPanic ?_
          refine wp_region_held_drew (S := fun W => Below wr.heap.size wr W) (by kernel_rfl) ((Below.refl _ _).drew) (fun _ => ?_)
          refine wpAnyH_take (i := 0) (oi := { dst := some 101, op := Op.move (Operand.tmp 14), type := 24, pos := "law.go:40", after := #[], guard := none }) (v := ptr gd) rfl (by kernel_rfl) (by kernel_rfl) (by kernel_rfl) (fun _ _ _ h => h) (Or.inl ⟨by rfl, ?_⟩) ((Below.refl _ _).drew) ?_
          · intro W hSw; clear hSw; go_simp
          try simp only [Act.put, List.setIfInBounds_toArray, List.set_cons_zero, List.set_cons_succ]
          refine wpAnyH_take (i := 1) (oi := { dst := some 102, op := Op.move (Operand.tmp 3), type := 3, pos := "law.go:40", after := #[], guard := none }) (v := .int .i64 fr) rfl (by kernel_rfl) (by kernel_rfl) (by kernel_rfl) (fun _ _ _ h => h) (Or.inl ⟨by rfl, ?_⟩) ((Below.refl _ _).drew) ?_
          · intro W hSw; clear hSw; go_simp
          try simp only [Act.put, List.setIfInBounds_toArray, List.set_cons_zero, List.set_cons_succ]
          refine wpAnyH_take (i := 2) (oi := { dst := some 103, op := Op.move (Operand.tmp 4), type := 3, pos := "law.go:40", after := #[], guard := none }) (v := .int .i64 size) rfl (by kernel_rfl) (by kernel_rfl) (by kernel_rfl) (fun _ _ _ h => h) (Or.inl ⟨by rfl, ?_⟩) ((Below.refl _ _).drew) ?_
          · intro W hSw; clear hSw; go_simp
          try simp only [Act.put, List.setIfInBounds_toArray, List.set_cons_zero, List.set_cons_succ]
          refine wpAnyH_take (i := 5) (oi := { dst := some 106, op := Op.move (Operand.tmp 15), type := 26, pos := "law.go:40", after := #[], guard := none }) (v := ptr gr) rfl (by kernel_rfl) (by kernel_rfl) (by kernel_rfl) (fun _ _ _ h => h) (Or.inl ⟨by rfl, ?_⟩) ((Below.refl _ _).drew) ?_
          · intro W hSw; clear hSw; go_simp
          try simp only [Act.put, List.setIfInBounds_toArray, List.set_cons_zero, List.set_cons_succ]
          refine wpAnyH_take (i := 6) (oi := { dst := some 107, op := Op.move (Operand.tmp 3), type := 3, pos := "law.go:40", after := #[], guard := none }) (v := .int .i64 fr) rfl (by kernel_rfl) (by kernel_rfl) (by kernel_rfl) (fun _ _ _ h => h) (Or.inl ⟨by rfl, ?_⟩) ((Below.refl _ _).drew) ?_
          · intro W hSw; clear hSw; go_simp
          try simp only [Act.put, List.setIfInBounds_toArray, List.set_cons_zero, List.set_cons_succ]
          refine wpAnyH_take (i := 7) (oi := { dst := some 108, op := Op.move (Operand.tmp 4), type := 3, pos := "law.go:40", after := #[], guard := none }) (v := .int .i64 size) rfl (by kernel_rfl) (by kernel_rfl) (by kernel_rfl) (fun _ _ _ h => h) (Or.inl ⟨by rfl, ?_⟩) ((Below.refl _ _).drew) ?_
          · intro W hSw; clear hSw; go_simp
          try simp only [Act.put, List.setIfInBounds_toArray, List.set_cons_zero, List.set_cons_succ]
          refine wpAnyH_1 (i := 3) (by kernel_rfl) (wpOp_call (o := { dst := some 104, op := Op.call { callee := Callee.value (Operand.func 18), args := #[Operand.tmp 101, Operand.tmp 102, Operand.tmp 103], argTypes := #[24, 3, 3] }, type := 22, pos := "law.go:40", after := #[{ on := 0, ground := Ground.data }, { on := 1, ground := Ground.data }, { on := 2, ground := Ground.data }], guard := none }) (f := 18) rfl (by rfl) (by go_simp) ((two_get HG1.out HL1.out HTR.out.drew hs1 hs2).mono ?_))
          rintro e w7 ⟨A7, c7, rfl, hh7, hb7⟩
          have HH7 := Lib.hid hh7
          have HBA := Lib.hid ((Below.refl wr.heap.size wr).drew.trans hb7)
          have HT7 := Lib.hid (HTR.out.drew.below hb7)
          clear hh7 hb7
          refine ⟨_, rfl, HBA.out, ?_⟩
          try simp only [Act.put, List.setIfInBounds_toArray, List.set_cons_zero, List.set_cons_succ]
          refine wpAnyH_more (S' := fun W => Below w7.heap.size w7 W) (fun W h => HBA.out.trans (h.mono HBA.out.size)) _ _ _ _ ?_
          refine wpAnyH_take (i := 4) (oi := { dst := some 105, op := Op.convert 22 9 (Operand.tmp 104), type := 9, pos := "law.go:40", after := #[{ on := 3, ground := Ground.data }], guard := none }) (v := .string ⟨g1.toArray⟩) rfl (by kernel_rfl) (by kernel_rfl) (by kernel_rfl) (fun _ _ _ h => h) (Or.inl ⟨by rfl, ?_⟩) (Below.refl _ _) ?_
          · intro W hSw; exact exec_value rfl ((HH7.out.below hSw).strn HL1.out c7)
          try simp only [Act.put, List.setIfInBounds_toArray, List.set_cons_zero, List.set_cons_succ]
          refine wpAnyH_1 (i := 8) (by kernel_rfl) (wpOp_call (o := { dst := some 109, op := Op.call { callee := Callee.value (Operand.func 19), args := #[Operand.tmp 106, Operand.tmp 107, Operand.tmp 108], argTypes := #[26, 3, 3] }, type := 22, pos := "law.go:40", after := #[{ on := 5, ground := Ground.data }, { on := 6, ground := Ground.data }, { on := 7, ground := Ground.data }, { on := 3, ground := Ground.chain }], guard := none }) (f := 19) rfl (by rfl) (by go_simp) ((two_rget HG1.out HL1.out HT7.out hl2).mono ?_))
          rintro e w8 ⟨A8, c8, rfl, hh8, hb8⟩
          have HH8 := Lib.hid hh8
          have HB8 := Lib.hid hb8
          have HT8 := Lib.hid (HT7.out.below hb8)
          clear hh8 hb8
          refine ⟨_, rfl, HB8.out, ?_⟩
          try simp only [Act.put, List.setIfInBounds_toArray, List.set_cons_zero, List.set_cons_succ]
          refine wpAnyH_more (S' := fun W => Below w8.heap.size w8 W) (fun W h => HB8.out.trans (h.mono HB8.out.size)) _ _ _ _ ?_
          refine wpAnyH_take (i := 9) (oi := { dst := some 110, op := Op.convert 22 9 (Operand.tmp 109), type := 9, pos := "law.go:40", after := #[{ on := 8, ground := Ground.data }], guard := none }) (v := .string ⟨g1.toArray⟩) rfl (by kernel_rfl) (by kernel_rfl) (by kernel_rfl) (fun _ _ _ h => h) (Or.inl ⟨by rfl, ?_⟩) (Below.refl _ _) ?_
          · intro W hSw; exact exec_value rfl ((HH8.out.below hSw).strn HL1.out c8)
          try simp only [Act.put, List.setIfInBounds_toArray, List.set_cons_zero, List.set_cons_succ]
          refine wpAnyH_take (i := 10) (oi := { dst := some 111, op := Op.binOp BinOp.eql 9 (Operand.tmp 105) (Operand.tmp 110) 9, type := 4, pos := "law.go:40", after := #[{ on := 4, ground := Ground.data }, { on := 9, ground := Ground.data }], guard := none }) (v := .bool true) rfl (by kernel_rfl) (by kernel_rfl) (by kernel_rfl) (fun _ _ _ h => h) (Or.inl ⟨by rfl, ?_⟩) (Below.refl _ _) ?_
          · intro W hSw; clear hSw; go_simp
          try simp only [Act.put, List.setIfInBounds_toArray, List.set_cons_zero, List.set_cons_succ]
          refine wpAnyH_take (i := 11) (oi := { dst := some 112, op := Op.move (Operand.tmp 111), type := 4, pos := "law.go:40", after := #[{ on := 10, ground := Ground.data }, { on := 8, ground := Ground.chain }], guard := none }) (v := .bool true) rfl (by kernel_rfl) (by kernel_rfl) (by kernel_rfl) (fun _ _ _ h => h) (Or.inl ⟨by rfl, ?_⟩) (Below.refl _ _) ?_
          · intro W hSw; clear hSw; go_simp
          try simp only [Act.put, List.setIfInBounds_toArray, List.set_cons_zero, List.set_cons_succ]
          refine wpAnyH_take (i := 12) (oi := { dst := some 113, op := Op.move (Operand.tmp 14), type := 24, pos := "law.go:40", after := #[{ on := 11, ground := Ground.guard }], guard := some (11, true) }) (v := ptr gd) rfl (by kernel_rfl) (by kernel_rfl) (by kernel_rfl) (fun _ _ _ h => h) (Or.inl ⟨by rfl, ?_⟩) (Below.refl _ _) ?_
          · intro W hSw; clear hSw; go_simp
          try simp only [Act.put, List.setIfInBounds_toArray, List.set_cons_zero, List.set_cons_succ]
          refine wpAnyH_take (i := 13) (oi := { dst := some 114, op := Op.move (Operand.tmp 1), type := 3, pos := "law.go:40", after := #[{ on := 11, ground := Ground.guard }], guard := some (11, true) }) (v := .int .i64 at_) rfl (by kernel_rfl) (by kernel_rfl) (by kernel_rfl) (fun _ _ _ h => h) (Or.inl ⟨by rfl, ?_⟩) (Below.refl _ _) ?_
          · intro W hSw; clear hSw; go_simp
          try simp only [Act.put, List.setIfInBounds_toArray, List.set_cons_zero, List.set_cons_succ]
          refine wpAnyH_take (i := 14) (oi := { dst := some 115, op := Op.move (Operand.tmp 2), type := 22, pos := "law.go:40", after := #[{ on := 11, ground := Ground.guard }], guard := some (11, true) }) (v := .slice A len c) rfl (by kernel_rfl) (by kernel_rfl) (by kernel_rfl) (fun _ _ _ h => h) (Or.inl ⟨by rfl, ?_⟩) (Below.refl _ _) ?_
          · intro W hSw; clear hSw; go_simp
          try simp only [Act.put, List.setIfInBounds_toArray, List.set_cons_zero, List.set_cons_succ]
          refine wpAnyH_take (i := 15) (oi := { dst := some 116, op := Op.call { callee := Callee.builtin Builtin.len, args := #[Operand.tmp 115], argTypes := #[22] }, type := 3, pos := "law.go:40", after := #[{ on := 14, ground := Ground.data }, { on := 11, ground := Ground.guard }], guard := some (11, true) }) (v := .int .i64 (len : Int)) rfl (by kernel_rfl) (by kernel_rfl) (by kernel_rfl) (fun _ _ _ h => h) (Or.inl ⟨by rfl, ?_⟩) (Below.refl _ _) ?_
          · intro W hSw; clear hSw; go_simp
          try simp only [Act.put, List.setIfInBounds_toArray, List.set_cons_zero, List.set_cons_succ]
          refine wpAnyH_take (i := 18) (oi := { dst := some 119, op := Op.move (Operand.tmp 15), type := 26, pos := "law.go:40", after := #[{ on := 11, ground := Ground.guard }], guard := some (11, true) }) (v := ptr gr) rfl (by kernel_rfl) (by kernel_rfl) (by kernel_rfl) (fun _ _ _ h => h) (Or.inl ⟨by rfl, ?_⟩) (Below.refl _ _) ?_
          · intro W hSw; clear hSw; go_simp
          try simp only [Act.put, List.setIfInBounds_toArray, List.set_cons_zero, List.set_cons_succ]
          refine wpAnyH_take (i := 19) (oi := { dst := some 120, op := Op.move (Operand.tmp 1), type := 3, pos := "law.go:40", after := #[{ on := 11, ground := Ground.guard }], guard := some (11, true) }) (v := .int .i64 at_) rfl (by kernel_rfl) (by kernel_rfl) (by kernel_rfl) (fun _ _ _ h => h) (Or.inl ⟨by rfl, ?_⟩) (Below.refl _ _) ?_
          · intro W hSw; clear hSw; go_simp
          try simp only [Act.put, List.setIfInBounds_toArray, List.set_cons_zero, List.set_cons_succ]
          refine wpAnyH_take (i := 20) (oi := { dst := some 121, op := Op.move (Operand.tmp 2), type := 22, pos := "law.go:40", after := #[{ on := 11, ground := Ground.guard }], guard := some (11, true) }) (v := .slice A len c) rfl (by kernel_rfl) (by kernel_rfl) (by kernel_rfl) (fun _ _ _ h => h) (Or.inl ⟨by rfl, ?_⟩) (Below.refl _ _) ?_
          · intro W hSw; clear hSw; go_simp
          try simp only [Act.put, List.setIfInBounds_toArray, List.set_cons_zero, List.set_cons_succ]
          refine wpAnyH_take (i := 21) (oi := { dst := some 122, op := Op.call { callee := Callee.builtin Builtin.len, args := #[Operand.tmp 121], argTypes := #[22] }, type := 3, pos := "law.go:40", after := #[{ on := 20, ground := Ground.data }, { on := 11, ground := Ground.guard }], guard := some (11, true) }) (v := .int .i64 (len : Int)) rfl (by kernel_rfl) (by kernel_rfl) (by kernel_rfl) (fun _ _ _ h => h) (Or.inl ⟨by rfl, ?_⟩) (Below.refl _ _) ?_
          · intro W hSw; clear hSw; go_simp
          try simp only [Act.put, List.setIfInBounds_toArray, List.set_cons_zero, List.set_cons_succ]
          refine wpAnyH_1 (i := 16) (by kernel_rfl) (wpOp_call (o := { dst := some 117, op := Op.call { callee := Callee.value (Operand.func 18), args := #[Operand.tmp 113, Operand.tmp 114, Operand.tmp 116], argTypes := #[24, 3, 3] }, type := 22, pos := "law.go:40", after := #[{ on := 12, ground := Ground.data }, { on := 13, ground := Ground.data }, { on := 15, ground := Ground.data }, { on := 11, ground := Ground.chain }, { on := 11, ground := Ground.guard }], guard := some (11, true) }) (f := 18) rfl (by rfl) (by go_simp) ((two_get HG2.out HL2.out HT8.out (by omega) (by omega)).mono ?_))
          rintro e w9 ⟨A9, c9, rfl, hh9, hb9⟩
          have HH9 := Lib.hid hh9
          have HB9 := Lib.hid hb9
          have HT9 := Lib.hid (HT8.out.below hb9)
          clear hh9 hb9
          refine ⟨_, rfl, HB9.out, ?_⟩
          try simp only [Act.put, List.setIfInBounds_toArray, List.set_cons_zero, List.set_cons_succ]
          refine wpAnyH_more (S' := fun W => Below w9.heap.size w9 W) (fun W h => HB9.out.trans (h.mono HB9.out.size)) _ _ _ _ ?_
          refine wpAnyH_take (i := 17) (oi := { dst := some 118, op := Op.convert 22 9 (Operand.tmp 117), type := 9, pos := "law.go:40", after := #[{ on := 16, ground := Ground.data }, { on := 11, ground := Ground.guard }], guard := some (11, true) }) (v := .string ⟨g2.toArray⟩) rfl (by kernel_rfl) (by kernel_rfl) (by kernel_rfl) (fun _ _ _ h => h) (Or.inl ⟨by rfl, ?_⟩) (Below.refl _ _) ?_
          · intro W hSw; exact exec_value rfl ((HH9.out.below hSw).strn HL2.out c9)
          try simp only [Act.put, List.setIfInBounds_toArray, List.set_cons_zero, List.set_cons_succ]
          refine wpAnyH_1 (i := 22) (by kernel_rfl) (wpOp_call (o := { dst := some 123, op := Op.call { callee := Callee.value (Operand.func 19), args := #[Operand.tmp 119, Operand.tmp 120, Operand.tmp 122], argTypes := #[26, 3, 3] }, type := 22, pos := "law.go:40", after := #[{ on := 18, ground := Ground.data }, { on := 19, ground := Ground.data }, { on := 21, ground := Ground.data }, { on := 16, ground := Ground.chain }, { on := 11, ground := Ground.guard }], guard := some (11, true) }) (f := 19) rfl (by rfl) (by go_simp) ((two_rget HG2.out HL2.out HT9.out hl2).mono ?_))
          rintro e w10 ⟨A10, c10, rfl, hh10, hb10⟩
          have HH10 := Lib.hid hh10
          have HB10 := Lib.hid hb10
          have HT10 := Lib.hid (HT9.out.below hb10)
          clear hh10 hb10
          refine ⟨_, rfl, HB10.out, ?_⟩
          try simp only [Act.put, List.setIfInBounds_toArray, List.set_cons_zero, List.set_cons_succ]
          refine wpAnyH_more (S' := fun W => Below w10.heap.size w10 W) (fun W h => HB10.out.trans (h.mono HB10.out.size)) _ _ _ _ ?_
          refine wpAnyH_take (i := 23) (oi := { dst := some 124, op := Op.convert 22 9 (Operand.tmp 123), type := 9, pos := "law.go:40", after := #[{ on := 22, ground := Ground.data }, { on := 11, ground := Ground.guard }], guard := some (11, true) }) (v := .string ⟨g2.toArray⟩) rfl (by kernel_rfl) (by kernel_rfl) (by kernel_rfl) (fun _ _ _ h => h) (Or.inl ⟨by rfl, ?_⟩) (Below.refl _ _) ?_
          · intro W hSw; exact exec_value rfl ((HH10.out.below hSw).strn HL2.out c10)
          try simp only [Act.put, List.setIfInBounds_toArray, List.set_cons_zero, List.set_cons_succ]
          refine wpAnyH_take (i := 24) (oi := { dst := some 125, op := Op.binOp BinOp.eql 9 (Operand.tmp 118) (Operand.tmp 124) 9, type := 4, pos := "law.go:40", after := #[{ on := 17, ground := Ground.data }, { on := 23, ground := Ground.data }, { on := 11, ground := Ground.guard }], guard := some (11, true) }) (v := .bool true) rfl (by kernel_rfl) (by kernel_rfl) (by kernel_rfl) (fun _ _ _ h => h) (Or.inl ⟨by rfl, ?_⟩) (Below.refl _ _) ?_
          · intro W hSw; clear hSw; go_simp
          try simp only [Act.put, List.setIfInBounds_toArray, List.set_cons_zero, List.set_cons_succ]
          refine wpAnyH_take (i := 25) (oi := { dst := some 126, op := Op.pick (Operand.tmp 112) (Operand.tmp 125) (Operand.const (Value.bool false)), type := 4, pos := "law.go:40", after := #[{ on := 11, ground := Ground.data }, { on := 24, ground := Ground.data }], guard := none }) (v := .bool true) rfl (by kernel_rfl) (by kernel_rfl) (by kernel_rfl) (fun _ _ _ h => h) (Or.inl ⟨by rfl, ?_⟩) (Below.refl _ _) ?_
          · intro W hSw; clear hSw; go_simp
          try simp only [Act.put, List.setIfInBounds_toArray, List.set_cons_zero, List.set_cons_succ]
          refine wpAnyH_take (i := 26) (oi := { dst := some 12, op := Op.assign (Operand.tmp 126), type := 4, pos := "law.go:40", after := #[{ on := 25, ground := Ground.data }, { on := 22, ground := Ground.chain }, { on := 0, ground := Ground.phase }, { on := 1, ground := Ground.phase }, { on := 2, ground := Ground.phase }, { on := 3, ground := Ground.phase }, { on := 4, ground := Ground.phase }, { on := 5, ground := Ground.phase }, { on := 6, ground := Ground.phase }, { on := 7, ground := Ground.phase }, { on := 8, ground := Ground.phase }, { on := 9, ground := Ground.phase }, { on := 10, ground := Ground.phase }, { on := 11, ground := Ground.phase }, { on := 12, ground := Ground.phase }, { on := 13, ground := Ground.phase }, { on := 14, ground := Ground.phase }, { on := 15, ground := Ground.phase }, { on := 16, ground := Ground.phase }, { on := 17, ground := Ground.phase }, { on := 18, ground := Ground.phase }, { on := 19, ground := Ground.phase }, { on := 20, ground := Ground.phase }, { on := 21, ground := Ground.phase }, { on := 22, ground := Ground.phase }, { on := 23, ground := Ground.phase }, { on := 24, ground := Ground.phase }, { on := 25, ground := Ground.phase }], guard := none }) (v := .bool true) rfl (by kernel_rfl) (by kernel_rfl) (by kernel_rfl) (fun _ _ _ h => h) (Or.inl ⟨by rfl, ?_⟩) (Below.refl _ _) ?_
          · intro W hSw; clear hSw; go_simp
          try simp only [Act.put, List.setIfInBounds_toArray, List.set_cons_zero, List.set_cons_succ]
          refine wpAnyH_done (by kernel_rfl) ?_ _
          refine NoPanic.normal ?_
          have HE := Lib.hid (HBW6.out.trans ((HBL.out.trans ((HBA.out.trans ((HB8.out.trans ((HB9.out.trans (HB10.out.mono HB9.out.size)).mono HB8.out.size)).mono HBA.out.size)).mono HBL.out.size)).mono HBW6.out.size))
          go_wp2
          go_ret
          exact ⟨rfl, HE.out⟩
  · go_enter Try.func3, Try.ntmps3
    go_wp2_with fail
    refine (alive w).mono ?_
    rintro e w1 ⟨rfl, hb⟩
    have HB := Lib.hid hb
    clear hb
    go_wp2_with fail
    all_goals first | (go_ret; exact ⟨rfl, HB.out⟩) | (exfalso; omega)
end Go.Proofs.Ytfccghbhkgnmlaa
