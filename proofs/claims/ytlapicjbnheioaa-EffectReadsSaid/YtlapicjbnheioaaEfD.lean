/- Changes read of bytes: package effect's Read. -/
import Derived.Test.YtlapicjbnheioaaEfN
import Derived.Test.YtlapicjbnheioaaEfG
import Derived.Test.YtlapicjbnheioaaCat
import Derived.Deep.LoopGhost
set_option maxRecDepth 4000
namespace Go.Proofs.Ytlapicjbnheioaa
open Go.RowKit
theorem append_one {W : World} {base : Nat} {v : Value} {ys : List Ef} (ho : OwnE W base v ys) (hb : base ≤ W.heap.size) (hl : ys.length ≤ 100000) (e : Ef) :
    ∃ A n c W', (Builtin.append_ #[22, 22] 22 #[v, .slice (some ⟨W.heap.size, 0, none⟩) 1 1]).run Try.prog (W.alloc (.cells e.cells 29)) = .ok (.slice A n c) W' ∧ OwnE W' base (.slice A n c) (ys ++ [e]) ∧ Below base W W' := by
  have ha := alloc_below W (.cells e.cells 29)
  have hone := one_lst eE W 29 e (cs := e.cells) rfl
  have ho2 := own_belowE ho ha
  have hbl : Below base W (W.alloc (.cells e.cells 29)) := ha.mono hb
  generalize W.alloc (.cells e.cells 29) = W2 at *
  obtain ⟨v', W', hap, ho', hg, _⟩ := append_own tyE ho2 hone rfl 1 (by show ys.length + 1 ≤ _; omega) (Nat.le_trans hb hbl.size)
  obtain ⟨A, c, rfl, _⟩ := own_lst ho'
  exact ⟨A, _, c, W', hap, ho', hbl.grown hg (Nat.le_trans hb hbl.size) fun g hg => (own_blk ho2 hg).1⟩
/-- a reader below a row of the call's own that grows -/
structure RdRow (T : TypeId) (w : World) (g B b0 : Nat) (r : Rd) (v : Value) (l : List Ef) (wk : World) : Prop where
  bel : Below w.heap.size w wk
  rd : ReaderAt T wk g B r
  own : OwnE wk b0 v l
  gb : g < b0
  b0s : b0 ≤ wk.heap.size
  wg : w.heap.size ≤ g
section
variable {T : TypeId} {w wk w' : World} {g B b0 : Nat} {r r' : Rd} {v v' : Value} {l l' : List Ef}
theorem RdRow.read (h : RdRow T w g B b0 r v l wk) (hr : ReaderAt T w' g B r') (k : Keep (But g) wk w') : RdRow T w g B b0 r' v l w' :=
  ⟨h.bel.trans (k.below h.bel.size fun i _ hi => by have := h.wg; simp only [But]; omega), hr, own_keep h.own fun q hq => by
    obtain ⟨hb, _, cur, hcur⟩ := own_blk h.own hq
    have hne : q ≠ g := by have := h.gb; omega
    rw [hcur]
    exact k.block q _ hcur hne, h.gb, Nat.le_trans h.b0s k.size, h.wg⟩
theorem RdRow.next (h : RdRow T w g B b0 r v l wk) (k : Below wk.heap.size wk w') : RdRow T w g B b0 r v l w' :=
  ⟨h.bel.trans (k.mono h.bel.size), h.rd.belowR k, own_belowE h.own k, h.gb, Nat.le_trans h.b0s k.size, h.wg⟩
theorem RdRow.grow (h : RdRow T w g B b0 r v l wk) (ho : OwnE w' b0 v' l') (k : Below b0 wk w') : RdRow T w g B b0 r v' l' w' := by
  obtain ⟨A, n, c, hb, h1, h2, hr, hB⟩ := h.rd
  have hg := h.gb
  have hw : w.heap.size ≤ b0 := Nat.le_trans h.wg (Nat.le_of_lt hg)
  exact ⟨h.bel.trans (k.mono hw), ⟨A, n, c, hb.below k hg, h1, h2, hr.below (k.mono (by omega)), hB⟩, ho, hg, Nat.le_trans h.b0s k.size, h.wg⟩
end
theorem retT {v : Value} {a b : Int} (h : b = a) : Ending.returned (.tuple #[v, .int .i64 a]) = .returned (.tuple #[v, .int .i64 b]) := by rw [h]
theorem in_no {c : Int} (h : ¬ (0 ≤ c ∧ c ≤ 10000)) : (decide (0 ≤ c) && decide (c ≤ 10000)) = false := by
  rw [← Bool.decide_and]; exact decide_eq_false h
def ReadRel (w : World) (g b0 : Nat) (r : Rd) (N k : Nat) (v i : Value) (wr : World) : Prop :=
  ∃ j, j + k = N ∧ i = .int .i64 (j : Int) ∧ RdRow 79 w g g b0 (r.efs j).2 v (r.efs j).1 wr ∧ (r.efs j).1.all Ef.right = true
set_option maxHeartbeats 2000000 in
theorem readE_ (w : World) (A : Option Addr) (n c : Nat) (xs : List UInt8) (h : RB w w.heap.size A n xs) (hn : n ≤ 1000000) (hA : A = none → c = 0) :
    Calls Try.prog 12 #[.slice A n c] w fun e w' => ∃ v, e = .returned (.tuple #[v, .int .i64 (readN xs)]) ∧ OwnE w' w.heap.size v (readL xs) ∧ Below w.heap.size w w' := by
  obtain ⟨cn, r1, hc⟩ := pair_ex (⟨xs, false⟩ : Rd).int
  have h1 : (⟨xs, false⟩ : Rd).int.1 = cn := by rw [hc]
  have h2 : (⟨xs, false⟩ : Rd).int.2 = r1 := by rw [hc]
  have hNW : ∀ i, i < cn.toNat → (r1.efs i).2.efV.right = false → readsE xs = none := fun i hi hw => reads_none_wrong (by rw [h1]; exact hi) (by rw [h2]; exact hw)
  have hOut : ¬ (0 ≤ cn ∧ cn ≤ 10000) → readsE xs = none := fun hx => reads_none_out (by rw [h1]; exact hx)
  have hEnd : 0 ≤ cn → cn ≤ 10000 → readsE xs = if ((r1.efs cn.toNat).1.all Ef.right && (r1.efs cn.toNat).2.done) = true then some (r1.efs cn.toNat).1 else none := fun a b => by
    have := reads_end (xs := xs) (by rw [h1]; exact a) (by rw [h1]; exact b)
    rw [h1, h2] at this
    exact this
  have HNW := Lib.hid hNW
  have HOUT := Lib.hid hOut
  have HEND := Lib.hid hEnd
  have HC := Lib.hid hc
  clear h1 h2 hNW hOut hEnd hc
  go_enter Try.func12, Try.ntmps12
  go_wp2_with fail
  refine (newReader w A n c xs h hn hA).mono ?_
  rintro e w1 ⟨g, rfl, hg1, hr1, hb1⟩
  have HR1 := Lib.hid hr1
  have HB1 := Lib.hid hb1
  clear hr1 hb1 h hA hn
  go_wp2_with fail
  refine (rdInt _ _ _ _ HR1.out).mono ?_
  rintro e w2 ⟨rfl, hr2, hk2⟩
  rw [HC.out] at hr2 ⊢
  have H2 : Hid (RdRow 79 w g g w2.heap.size r1 (.slice none 0 0) [] w2) :=
    ⟨HB1.out.trans (hk2.below HB1.out.size fun i _ hi => by simp only [But]; omega), hr2, own_nil _ _, hr2.lt, Nat.le_refl _, hg1⟩
  clear hr2 hk2 HC HR1 HB1
  go_wp2_with fail
  refine (withinE cn 0 10000 _).mono ?_
  rintro e w3 ⟨rfl, rfl⟩
  by_cases hin : 0 ≤ cn ∧ cn ≤ 10000
  rotate_left
  · have hb : (decide (0 ≤ cn) && decide (cn ≤ 10000)) = false := in_no hin
    have he := readL_none (HOUT.out hin)
    have HE := Lib.hid he
    rw [hb]
    clear hb he hin
    go_wp2_with fail
    go_ret2
    exact ⟨_, retT HE.out.2, by rw [HE.out.1]; exact own_nil _ _, H2.out.bel⟩
  obtain ⟨hc0, hc1⟩ := hin
  have hb : (decide (0 ≤ cn) && decide (cn ≤ 10000)) = true := by rw [decide_eq_true hc0, decide_eq_true hc1]; rfl
  rw [hb]
  clear hb HOUT
  obtain ⟨N, rfl⟩ := Int.eq_ofNat_of_zero_le hc0
  rw [Int.toNat_natCast] at HNW HEND
  have hN : N ≤ 10000 := by omega
  generalize w2.heap.size = b0 at *
  go_wp2_with fail
  go_loopg [6, 16] N (fun k v i wr => ReadRel w g b0 r1 N k v i wr)
  case atStart => exact ⟨0, by omega, rfl, H2.out, rfl⟩
  case round =>
    obtain ⟨j, hj, rfl, hrow, hall⟩ := hrel
    have HJ := Lib.hid hj
    have HR := Lib.hid hrow
    have HA := Lib.hid hall
    clear hj hrow hall H2
    by_cases hlt : j < N
    · have hst : r1.efs (j + 1) = ((r1.efs j).1 ++ [(r1.efs j).2.efV], (r1.efs j).2.efR) := rfl
      have hlen := efs_len r1 j
      have hnw := HNW.out j hlt
      have hst1 : (r1.efs (j + 1)).1 = (r1.efs j).1 ++ [(r1.efs j).2.efV] := rfl
      have hst2 : (r1.efs (j + 1)).2 = (r1.efs j).2.efR := rfl
      generalize hl : (r1.efs j).1 = l at *
      generalize hr : (r1.efs j).2 = r at *
      have hnx := fun (w : World) (g B : Nat) (h : ReaderAt 79 w g B r) => nextE h
      generalize r.efV = e at *
      generalize r.efR = r' at *
      have HNX := Lib.hid hnx
      have HRI := Lib.hid (rightE_ e)
      have HST1 := Lib.hid hst1
      have HST2 := Lib.hid hst2
      have HNWJ := Lib.hid hnw
      have HLEN := Lib.hid hlen
      generalize hz : e.right = z at *
      have HZ := Lib.hid hz
      clear hst hst1 hst2 hnx hnw hl hr hlen hz
      obtain ⟨k, o, ky, v, n', l', t, ⟨i, p, y, cl, cr, bd⟩⟩ := e
      go_wp2_with fail
      refine (HNX.out _ _ _ HR.out.rd).mono ?_
      rintro e w4 ⟨rfl, hr4, hk4⟩
      have HR4 := Lib.hid (HR.out.read hr4 hk4)
      have HX4 := Lib.hid (Blk.new w4 29 (Ef.cells ⟨k, o, ky, v, n', l', t, ⟨i, p, y, cl, cr, bd⟩⟩))
      have HAL := Lib.hid (alloc_below w4 (.cells (Ef.cells ⟨k, o, ky, v, n', l', t, ⟨i, p, y, cl, cr, bd⟩⟩) 29))
      clear hr4 hk4 HR HNX
      go_wp2_with fail
      refine (HRI.out _).mono ?_
      rintro e w5 ⟨rfl, hb5⟩
      have HR5 := Lib.hid ((HR4.out.next HAL.out).next hb5)
      have hx5 := HX4.out.below hb5 HX4.out.lt
      clear hb5 HR4 HX4 HAL HRI
      cases z
      · have he := readL_none (HNWJ.out rfl)
        have HE := Lib.hid he
        clear he hx5
        go_wp2_with fail
        go_ret2
        exact ⟨_, retT HE.out.2, by rw [HE.out.1]; exact own_nil _ _, HR5.out.bel⟩
      obtain ⟨q0, q1, q2, q3, q4, q5, q6, q7, q8, q9, q10, q11, q12⟩ := thir_of hx5
      simp only at q0 q1 q2 q3 q4 q5 q6 q7 q8 q9 q10 q11 q12
      obtain ⟨A6, n6, c6, w6, hap, ho6, hb6⟩ := append_one HR5.out.own HR5.out.b0s (by have := HLEN.out; omega) ⟨k, o, ky, v, n', l', t, ⟨i, p, y, cl, cr, bd⟩⟩
      have HR6 := Lib.hid (HR5.out.grow ho6 hb6)
      clear hx5 ho6 hb6 HR5
      go_wp2_with (at_builtin; refine wpList_append_run rfl (.tmp 23) (.tmp 25) 22 22 rfl _ _ rfl rfl hap ?_)
      go_roundg (N - (j + 1))
      case measure => have := HJ.out; omega
      case rel => exact ⟨j + 1, by omega, by go_num, by rw [HST1.out, HST2.out]; exact HR6.out, by rw [HST1.out, List.all_append, HA.out]; simp [HZ.out]⟩
    · obtain rfl : j = N := by have := HJ.out; omega
      have hend := HEND.out (by omega) (by omega)
      rw [HA.out, Bool.true_and] at hend
      generalize (r1.efs j).1 = l at *
      generalize (r1.efs j).2 = r at *
      have HE := Lib.hid hend
      clear hend
      go_wp2_with fail
      refine (rdDone _ _ _ _ HR.out.rd).mono ?_
      rintro e w6 ⟨rfl, rfl⟩
      generalize r.done = d at *
      cases d
      · have he := readL_none (xs := xs) (by rw [HE.out]; rfl)
        have HE2 := Lib.hid he
        clear he
        go_wp2_with fail
        go_ret2
        exact ⟨_, retT HE2.out.2, by rw [HE2.out.1]; exact own_nil _ _, HR.out.bel⟩
      · have he := readL_some (xs := xs) (l := l) (by rw [HE.out]; rfl)
        have HE2 := Lib.hid he
        clear he
        go_wp2_with fail
        go_ret2
        exact ⟨_, retT HE2.out.2, by rw [HE2.out.1]; exact own_base HR.out.own (Nat.le_trans HR.out.wg (Nat.le_of_lt HR.out.gb)), HR.out.bel⟩
end Go.Proofs.Ytlapicjbnheioaa
