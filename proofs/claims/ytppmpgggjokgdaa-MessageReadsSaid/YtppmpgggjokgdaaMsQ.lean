/- MessageReads, walked. -/
import Derived.Test.YtppmpgggjokgdaaMsB
set_option maxRecDepth 4000
namespace Go.Proofs.Ytppmpgggjokgdaa
open Go.RowKit
/-- two readers far from each other: what the one does the other doesn't feel -/
structure QF (w : World) (gp bp gd bd : Nat) (r s : Rd) (wk : World) : Prop where
  bel : Below w.heap.size w wk
  rp : ReaderAt 55 wk gp bp r
  rd : ReaderAt 57 wk gd bd s
  lp : w.heap.size ≤ gp
  pd : gp < gd
  bd_ : bd ≤ w.heap.size
section
variable {w wk w' : World} {gp bp gd bd : Nat} {r s r' : Rd}
theorem QF.next (h : QF w gp bp gd bd r s wk) (k : Below wk.heap.size wk w') : QF w gp bp gd bd r s w' :=
  ⟨h.bel.trans (k.mono h.bel.size), h.rp.belowR k, h.rd.belowR k, h.lp, h.pd, h.bd_⟩
theorem QF.left (h : QF w gp bp gd bd r s wk) (hr : ReaderAt 55 w' gp bp r') (k : Keep (But gp) wk w') : QF w gp bp gd bd r' s w' :=
  ⟨h.bel.trans (k.below h.bel.size fun i _ hi => by have := h.lp; simp only [But]; omega), hr, h.rd.keep k (fun i _ hi => by have := h.lp; have := h.pd; have := h.bd_; simp only [But]; omega), h.lp, h.pd, h.bd_⟩
theorem QF.right (h : QF w gp bp gd bd r s wk) (hr : ReaderAt 57 w' gd bd r') (k : Keep (But gd) wk w') : QF w gp bp gd bd r r' w' := by
  refine ⟨h.bel.trans (k.below h.bel.size fun i _ hi => by have := h.lp; have := h.pd; simp only [But]; omega), h.rp.keep k (fun i _ hi => ?_), hr, h.lp, h.pd, h.bd_⟩
  obtain ⟨_, _, _, _, _, _, _, hB⟩ := h.rp
  have := h.pd
  simp only [But]
  omega
end
/-- a slice of bytes, copied: append to a nil one -/
theorem copy_nil {w : World} {B n c : Nat} {A : Option Addr} {xs : List UInt8} (h : RB w B A n xs) (hn : n ≤ 1000000) :
    ∃ A' c' W', (Builtin.append_ #[28, 28] 28 #[.slice none 0 0, .slice A n c]).run Try.prog w = .ok (.slice A' n c') W' ∧ RB W' W'.heap.size A' n xs ∧ (A' = none → c' = 0) ∧ Below w.heap.size w W' := by
  obtain ⟨v, W, hrun, ho, hg, _⟩ := append_rb (W := w) (base := w.heap.size) (v := .slice none 0 0) (n := 0) (ys := []) ⟨rfl, .inl ⟨rfl, rfl⟩⟩ h c (by omega) (Nat.le_refl _)
  rw [List.nil_append, Nat.zero_add] at ho
  obtain ⟨A', c', rfl, hr, _, _⟩ := own_rb ho
  refine ⟨A', c', W, hrun, hr, fun e => ?_, (Below.refl _ _).grown hg (Nat.le_refl _) fun k hk => by simp [Value.ownBlock] at hk⟩
  rcases ho.2 with ⟨e1, _⟩ | ⟨q, cap, cur, e1, _⟩
  · injection e1
  · injection e1 with e1; rw [e] at e1; cases e1
set_option maxHeartbeats 2000000 in
theorem messageReads (A : Option Addr) (n c : Nat) (xs : List UInt8) (w : World) (h : RB w w.heap.size A n xs) (hc : n ≤ c) (hm : c ≤ maxLen) :
    Calls Try.prog 4 #[.slice A n c] w fun e w' => e = .returned (.bool true) ∧ Below w.heap.size w w' := by
  by_cases hn : 1000 < (n : Int)
  · clear h
    go_enter Try.func4, Try.ntmps4
    go_wp2_with fail
    refine (alive_ _).mono ?_
    rintro e w1 ⟨rfl, hb1⟩
    have HB1 := Lib.hid hb1
    clear hb1
    go_wp2_with fail
    go_ret
    exact ⟨rfl, HB1.out⟩
  have hn' : n ≤ 1000 := by omega
  have HC := Lib.hid hc
  have HM := Lib.hid hm
  have H := Lib.hid h
  clear h hc hm
  go_enter Try.func4, Try.ntmps4
  go_wp2_with fail
  refine (alive_ _).mono ?_
  rintro e w1 ⟨rfl, hb1⟩
  have HB1 := Lib.hid hb1
  have H1 := Lib.hid (H.out.below hb1)
  clear hb1 H
  obtain ⟨A2, c2, w2, hap, hr2, ha2, hb2⟩ := copy_nil (c := c) H1.out (by omega)
  have HR2 := Lib.hid hr2
  have HA2 := Lib.hid ha2
  have HB2 := Lib.hid (HB1.out.trans (hb2.mono HB1.out.size))
  have H2 := Lib.hid (H1.out.below (hb2.mono HB1.out.size))
  clear hr2 ha2 hb2 HB1 H1
  go_wp2_with (at_builtin; refine wpList_append_run rfl (.const (.slice none 0 0)) (.tmp 17) 28 28 rfl _ _ rfl rfl hap ?_)
  refine (newReader w2 A2 n c2 xs HR2.out (by omega) HA2.out).mono ?_
  rintro e w3 ⟨g3, rfl, hg3, hr3, hb3⟩
  have HR3 := Lib.hid hr3
  have HB3 := Lib.hid (HB2.out.trans (hb3.mono HB2.out.size))
  have H3 := Lib.hid (H2.out.below (hb3.mono HB2.out.size))
  have hlp : w.heap.size ≤ g3 := Nat.le_trans HB2.out.size hg3
  clear hr3 hb3 HB2 H2 HR2 HA2 hap hg3
  go_wp2_with fail
  refine (rNew w3 A n c w.heap.size xs H3.out HB3.out.size HC.out HM.out).mono ?_
  rintro e w4 ⟨rfl, hr4, hb4⟩
  have HQ4 : Hid (QF w g3 g3 w3.heap.size w.heap.size ⟨xs, false⟩ ⟨xs, false⟩ w4) :=
    ⟨HB3.out.trans (hb4.mono HB3.out.size), HR3.out.belowR hb4, hr4, hlp, HR3.out.lt, Nat.le_refl _⟩
  clear hr4 hb4 HR3 HB3 H3
  generalize w3.heap.size = g4 at *
  generalize (⟨xs, false⟩ : Rd) = r at *
  go_wp2_with fail
  refine (readM_ HQ4.out.rp).mono ?_
  rintro e w5 ⟨rfl, hr5, hk5⟩
  have HQ5 := Lib.hid (HQ4.out.left hr5 hk5)
  clear hr5 hk5 HQ4
  generalize hmsg : r.msg = m
  have HMSG := Lib.hid hmsg
  clear hmsg
  obtain ⟨i, p, y, cl, cr, bd⟩ := m
  have HX5 := Lib.hid (Blk.new w5 23 #[.int .i64 i, .int .i64 p, .int .i64 y, .bool cl, .string cr, .string bd])
  have HQ6 := Lib.hid (HQ5.out.next (alloc_below w5 (.cells #[.int .i64 i, .int .i64 p, .int .i64 y, .bool cl, .string cr, .string bd] 23)))
  have hlt5 : g4 < w5.heap.size := HQ5.out.rd.lt
  go_wp2_with fail
  have hg5 : w5.heap.size < (w5.alloc (.cells #[.int .i64 i, .int .i64 p, .int .i64 y, .bool cl, .string cr, .string bd] 23)).heap.size := HX5.out.lt
  have hw5 : w.heap.size ≤ w5.heap.size := HQ5.out.bel.size
  generalize w5.alloc (.cells #[.int .i64 i, .int .i64 p, .int .i64 y, .bool cl, .string cr, .string bd] 23) = wA at *
  clear HQ5
  refine (getM_ HQ6.out.rd).mono ?_
  rintro e w6 ⟨rfl, hr6, hk6⟩
  rw [HMSG.out]
  have HQ7 := Lib.hid (HQ6.out.right hr6 hk6)
  have HX7 := Lib.hid (HX5.out.keep hk6 (by simp only [But]; omega))
  clear hr6 hk6 HQ6 HX5 HMSG
  have hx8 := HX7.out.alloc (.cells #[.int .i64 i, .int .i64 p, .int .i64 y, .bool cl, .string cr, .string bd] 23)
  have HQ8 := Lib.hid (HQ7.out.next (alloc_below w6 (.cells #[.int .i64 i, .int .i64 p, .int .i64 y, .bool cl, .string cr, .string bd] 23)))
  have q0 := hx8.cell 0
  have q1 := hx8.cell 1
  have q2 := hx8.cell 2
  have q3 := hx8.cell 3
  have q4 := hx8.cell 4
  have q5 := hx8.cell 5
  have hne : w5.heap.size ≠ w6.heap.size := by have := HX7.out.lt; omega
  clear hx8 HQ7
  go_wp2_with fail
  generalize w6.alloc (.cells #[.int .i64 i, .int .i64 p, .int .i64 y, .bool cl, .string cr, .string bd] 23) = wB at *
  clear q0 q1 q2 q3 q4 q5 hne HX7
  generalize r.msgR = r6 at *
  refine (rdDone _ _ _ _ HQ8.out.rp).mono ?_
  rintro e w7 ⟨rfl, rfl⟩
  go_wp2_with fail
  refine (rDone _ _ _ _ HQ8.out.rd).mono ?_
  rintro e w8 ⟨rfl, rfl⟩
  generalize r6.done = d6
  have hd6 : (d6 != d6) = false := by simp
  go_wp2_with fail
  refine (rdInt _ _ _ _ HQ8.out.rp).mono ?_
  rintro e w9 ⟨rfl, hr9, hk9⟩
  have HQ9 := Lib.hid (HQ8.out.left hr9 hk9)
  clear hr9 hk9 HQ8
  go_wp2_with fail
  refine (rInt _ _ _ _ HQ9.out.rd).mono ?_
  rintro e w10 ⟨rfl, hr10, hk10⟩
  have HQ10 := Lib.hid (HQ9.out.right hr10 hk10)
  clear hr10 hk10 HQ9
  generalize r6.int.1 = x at *
  generalize r6.int.2 = r7 at *
  go_wp2_with fail
  refine (rdDone _ _ _ _ HQ10.out.rp).mono ?_
  rintro e w11 ⟨rfl, rfl⟩
  go_wp2_with fail
  refine (rDone _ _ _ _ HQ10.out.rd).mono ?_
  rintro e w12 ⟨rfl, rfl⟩
  generalize r7.done = d7
  go_wp2_with fail
  go_ret
  exact ⟨retM (by simp), HQ10.out.bel⟩
end Go.Proofs.Ytppmpgggjokgdaa
