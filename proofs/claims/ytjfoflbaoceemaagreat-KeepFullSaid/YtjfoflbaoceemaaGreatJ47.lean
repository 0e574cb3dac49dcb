/- . -/
import Derived.Test.YtjfoflbaoceemaaGreatJ40
import Derived.Test.YtjfoflbaoceemaaGreatJ08
import Derived.Deep.RegionWith
import Derived.Deep.RegionHeld3
import Derived.Deep.DeepCutAuto
set_option maxRecDepth 4000
namespace Go.Proofs.YtjfoflbaoceemaaGreat
open Go.RowKit
section
variable {w : World} {gd : Nat} {R : Nat → Prop} {d d1 : Dk} {v : Bool}
theorem clK_none {e : Nat} (h : (opK d e).ls.length = 0) : clK d e = (d, true) := by
  unfold clK
  rw [List.length_eq_zero_iff.1 h]
  rfl
theorem clK_some {e : Nat} (h : (opK d e).ls.length ≠ 0) : clK d e = d.tryW 194 (zeros 64) := by
  unfold clK
  cases hl : (opK d e).ls with
  | nil => rw [hl] at h; exact absurd rfl h
  | cons b r => rfl
set_option maxHeartbeats 2000000 in
theorem cleared_ (h : DiskR w gd R d) (hn : 354 ≤ d.n) (hl : d.lim 800000) (e : Nat) (hc : clK d e = (d1, v)) : Calls Tryz.prog 73 #[ptr gd, .int .i64 (e : Int)] w (DTurn w gd R d1 (.bool v)) := by
  obtain ⟨n, hn1⟩ : ∃ n, (opK d e).ls.length = n := ⟨_, rfl⟩
  have HN := ShutK.mk hn1
  have HC := ShutK.mk hc
  have HO := ShutK.mk (openLog_ (h.below (Below.refl _ _).drew) hn e)
  have HLIM := ShutK.mk hl
  have hmk : ∀ W : World, (Instr.makeSlice 42 (.int .i64 64) (.int .i64 64)).run Tryz.prog W = .ok (.slice (some ⟨W.heap.size, 0, none⟩) 64 64) (W.alloc (.cells (cellsB (zeros 64)).toArray 5)) := fun W => made5 64 (by omega) W
  clear hn1 hc hl h
  go_enter Tryz.func73, Tryz.ntmps73
  go_upto_region 1 with fail
  rcases Nat.eq_zero_or_pos n with hz | hz
  · subst hz
    refine wp_region_noPanic ?_
    refine wp_region_held_drew (S := fun _ : World => True) (by kernel_rfl) trivial (fun _ => ?_)
    refine wpAnyH_take (i := 0) (oi := { dst := some 5, op := Op.move (Operand.tmp 0), type := 24, pos := "disk.go:84", after := #[], guard := none }) (v := ptr gd) rfl (by kernel_rfl) (by kernel_rfl) (by kernel_rfl) (fun _ _ _ h => h) (Or.inl ⟨by rfl, ?_⟩) trivial ?_
    · intro W hSw; clear hSw; go_simp
    try simp only [Act.put, zA1, zA2, zA3]
    refine wpAnyH_take (i := 1) (oi := { dst := some 6, op := Op.move (Operand.tmp 1), type := 3, pos := "disk.go:84", after := #[], guard := none }) (v := .int .i64 (e : Int)) rfl (by kernel_rfl) (by kernel_rfl) (by kernel_rfl) (fun _ _ _ h => h) (Or.inl ⟨by rfl, ?_⟩) trivial ?_
    · intro W hSw; clear hSw; go_simp
    try simp only [Act.put, zA1, zA2, zA3]
    refine wpAnyH_1 (i := 2) (by kernel_rfl) (wpOp_call (o := { dst := some 7, op := Op.call { callee := Callee.value (Operand.func 70), args := #[Operand.tmp 5, Operand.tmp 6], argTypes := #[24, 3] }, type := 91, pos := "disk.go:84", after := #[{ on := 0, ground := Ground.data }, { on := 1, ground := Ground.data }], guard := none }) (f := 70) rfl (by rfl) (by go_simp) ((HO.out).mono ?_))
    rintro e w2 ⟨g2, P2, rfl, hp2, hl2, hk2⟩
    have HL2 := ShutK.mk hl2
    have HP2 := ShutK.mk hp2
    have HK2 := ShutK.mk hk2
    clear hp2 hl2 hk2
    refine ⟨_, rfl, trivial, ?_⟩
    try simp only [Act.put, zA1, zA2, zA3]
    refine wpAnyH_1 (i := 3) (by kernel_rfl) (wpOp_call (o := { dst := some 8, op := Op.call { callee := Callee.value (Operand.func 71), args := #[Operand.tmp 7], argTypes := #[91] }, type := 84, pos := "disk.go:84", after := #[{ on := 2, ground := Ground.data }, { on := 2, ground := Ground.chain }], guard := none }) (f := 71) rfl (by rfl) (by go_simp) ((records_ HL2.out).mono ?_))
    rintro e w3 ⟨v3, rfl, hl3, hb3⟩
    obtain ⟨A3, c3', rfl⟩ := hl3.slice
    rw [HN.out]
    have HB3 := ShutK.mk hb3
    clear hl3 hb3
    refine ⟨_, rfl, trivial, ?_⟩
    try simp only [Act.put, zA1, zA2, zA3]
    refine wpAnyH_take (i := 4) (oi := { dst := some 9, op := Op.call { callee := Callee.builtin Builtin.len, args := #[Operand.tmp 8], argTypes := #[84] }, type := 3, pos := "disk.go:84", after := #[{ on := 3, ground := Ground.data }], guard := none }) (v := .int .i64 0) rfl (by kernel_rfl) (by kernel_rfl) (by kernel_rfl) (fun _ _ _ h => h) (Or.inl ⟨by rfl, ?_⟩) trivial ?_
    · intro W hSw; clear hSw; go_simp
    try simp only [Act.put, zA1, zA2, zA3]
    refine wpAnyH_take (i := 5) (oi := { dst := some 10, op := Op.binOp BinOp.eql 3 (Operand.tmp 9) (Operand.const (Value.int IntKind.i64 0)) 3, type := 4, pos := "disk.go:84", after := #[{ on := 4, ground := Ground.data }], guard := none }) (v := .bool true) rfl (by kernel_rfl) (by kernel_rfl) (by kernel_rfl) (fun _ _ _ h => h) (Or.inl ⟨by rfl, ?_⟩) trivial ?_
    · intro W hSw; clear hSw; go_simp
    try simp only [Act.put, zA1, zA2, zA3]
    refine wpAnyH_take (i := 6) (oi := { dst := some 11, op := Op.move (Operand.tmp 10), type := 4, pos := "disk.go:84", after := #[{ on := 5, ground := Ground.data }, { on := 3, ground := Ground.chain }], guard := none }) (v := .bool true) rfl (by kernel_rfl) (by kernel_rfl) (by kernel_rfl) (fun _ _ _ h => h) (Or.inl ⟨by rfl, ?_⟩) trivial ?_
    · intro W hSw; clear hSw; go_simp
    try simp only [Act.put, zA1, zA2, zA3]
    refine wpAnyH_take (i := 7) (oi := { dst := some 12, op := Op.move (Operand.tmp 0), type := 24, pos := "disk.go:84", after := #[{ on := 6, ground := Ground.guard }], guard := some (6, false) }) (v := undef) rfl (by kernel_rfl) (by kernel_rfl) (by kernel_rfl) (fun _ _ _ h => h) (Or.inr ⟨by rfl, rfl⟩) trivial ?_
    try simp only [Act.put, zA1, zA2, zA3]
    refine wpAnyH_take (i := 8) (oi := { dst := some 13, op := Op.call { callee := Callee.value (Operand.func 38), args := #[], argTypes := #[] }, type := 3, pos := "disk.go:84", after := #[{ on := 6, ground := Ground.chain }, { on := 6, ground := Ground.guard }], guard := some (6, false) }) (v := undef) rfl (by kernel_rfl) (by kernel_rfl) (by kernel_rfl) (fun _ _ _ h => h) (Or.inr ⟨by rfl, rfl⟩) trivial ?_
    try simp only [Act.put, zA1, zA2, zA3]
    refine wpAnyH_take (i := 9) (oi := { dst := some 14, op := Op.makeSlice 42 (Operand.const (Value.int IntKind.i64 64)) (Operand.const (Value.int IntKind.i64 64)), type := 42, pos := "disk.go:84", after := #[{ on := 6, ground := Ground.guard }], guard := some (6, false) }) (v := undef) rfl (by kernel_rfl) (by kernel_rfl) (by kernel_rfl) (fun _ _ _ h => h) (Or.inr ⟨by rfl, rfl⟩) trivial ?_
    try simp only [Act.put, zA1, zA2, zA3]
    refine wpAnyH_take (i := 10) (oi := { dst := some 15, op := Op.call { callee := Callee.value (Operand.func 33), args := #[Operand.tmp 12, Operand.tmp 13, Operand.tmp 14], argTypes := #[24, 3, 42] }, type := 4, pos := "disk.go:84", after := #[{ on := 7, ground := Ground.data }, { on := 8, ground := Ground.data }, { on := 9, ground := Ground.data }, { on := 8, ground := Ground.chain }, { on := 6, ground := Ground.guard }], guard := some (6, false) }) (v := undef) rfl (by kernel_rfl) (by kernel_rfl) (by kernel_rfl) (fun _ _ _ h => h) (Or.inr ⟨by rfl, rfl⟩) trivial ?_
    try simp only [Act.put, zA1, zA2, zA3]
    refine wpAnyH_take (i := 11) (oi := { dst := some 16, op := Op.pick (Operand.tmp 11) (Operand.const (Value.bool true)) (Operand.tmp 15), type := 4, pos := "disk.go:84", after := #[{ on := 6, ground := Ground.data }, { on := 10, ground := Ground.data }], guard := none }) (v := .bool true) rfl (by kernel_rfl) (by kernel_rfl) (by kernel_rfl) (fun _ _ _ h => h) (Or.inl ⟨by rfl, ?_⟩) trivial ?_
    · intro W hSw; clear hSw; go_simp
    try simp only [Act.put, zA1, zA2, zA3]
    refine wpAnyH_take (i := 12) (oi := { dst := some 4, op := Op.assign (Operand.tmp 16), type := 4, pos := "disk.go:84", after := #[{ on := 11, ground := Ground.data }, { on := 10, ground := Ground.chain }, { on := 0, ground := Ground.phase }, { on := 1, ground := Ground.phase }, { on := 2, ground := Ground.phase }, { on := 3, ground := Ground.phase }, { on := 4, ground := Ground.phase }, { on := 5, ground := Ground.phase }, { on := 6, ground := Ground.phase }, { on := 7, ground := Ground.phase }, { on := 8, ground := Ground.phase }, { on := 9, ground := Ground.phase }, { on := 10, ground := Ground.phase }, { on := 11, ground := Ground.phase }], guard := none }) (v := .bool true) rfl (by kernel_rfl) (by kernel_rfl) (by kernel_rfl) (fun _ _ _ h => h) (Or.inl ⟨by rfl, ?_⟩) trivial ?_
    · intro W hSw; clear hSw; go_simp
    try simp only [Act.put, zA1, zA2, zA3]
    refine wpAnyH_done (by kernel_rfl) ?_ _
    refine NoPanic.normal ?_
    go_wp2_with fail
    go_ret
    have e1 := clK_none HN.out
    rw [HC.out] at e1
    obtain ⟨rfl, rfl⟩ := Prod.mk.inj e1
    exact ⟨rfl, (HL2.out.diskR.keep HP2.out).below HB3.out, ((Keep.refl w).drew).trans (HK2.out.trans (Keep.of_below HB3.out))⟩
  · have htw : d.tryW 194 (zeros 64) = (d1, v) := by rw [← HC.out, clK_some (by rw [HN.out]; omega)]
    have HTW := ShutK.mk htw
    have t1 : ((n : Int) == 0) = false := by simp; omega
    have t2 : (n == 0) = false := by simp; omega
    clear htw hz HC
    go_region_held3 (fun _ : World => True)
      (first | trivial)
      (first | (go_at_call 33; refine (d_write (i := 194) (x := zeros 64) (HD3.out.below (alloc_below _ _)) (lim_mono HLIM.out (by omega)) (by omega) (zeros_length 64) (by first | exact Blk.new _ _ _) HTW.out).mono ?_; rintro x w5 ⟨rfl, hd5, hk5⟩; have HD5 := ShutK.mk hd5; have HK5 := ShutK.mk ((HK3.out.trans (Keep.of_below (K := fun i _ => R i) (alloc_below _ _))).trans hk5); clear hd5 hk5) | (go_at_call 38; refine (logAt_ _).mono ?_; rintro x w4 ⟨rfl, rfl⟩) | (go_at_call 71; refine (records_ HL2.out).mono ?_; rintro x w3 ⟨v3, rfl, hl3, hb3⟩; obtain ⟨A3, c3', rfl⟩ := hl3.slice; rw [HN.out]; have HD3 := ShutK.mk ((HL2.out.diskR.keep HP2.out).below hb3); have HK3 := ShutK.mk (HK2.out.trans (Keep.of_below (K := fun i _ => R i) hb3)); clear hl3 hb3) | (go_at_call 70; refine HO.out.mono ?_; rintro x w2 ⟨g2, P2, rfl, hp2, hl2, hk2⟩; have HL2 := ShutK.mk hl2; have HP2 := ShutK.mk hp2; have HK2 := ShutK.mk hk2; clear hp2 hl2 hk2))
    · go_wp2_with fail
      go_ret
      exact ⟨rfl, HD5.out, ((Keep.refl w).drew).trans HK5.out⟩
    · go_wp2_with fail
      go_ret
      exact ⟨rfl, HD5.out, ((Keep.refl w).drew).trans HK5.out⟩
end
end Go.Proofs.YtjfoflbaoceemaaGreat
