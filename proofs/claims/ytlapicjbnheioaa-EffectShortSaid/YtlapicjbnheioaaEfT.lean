/- Changes read of bytes: the document's ReadEffects. -/
import Derived.Test.YtlapicjbnheioaaEfD
import Derived.Test.YtlapicjbnheioaaEfR
set_option maxRecDepth 4000
namespace Go.Proofs.Ytlapicjbnheioaa
open Go.RowKit
def RReadRel (w : World) (g B b0 : Nat) (r : Rd) (N k : Nat) (v ok i : Value) (wr : World) : Prop :=
  ∃ j, j + k = N ∧ ok = .bool ((r.efs j).1.all Ef.right) ∧ i = .int .i64 (j : Int) ∧ RdRow 84 w g B b0 (r.efs j).2 v (r.efs j).1 wr
set_option maxHeartbeats 4000000 in
theorem rreadE_ (w : World) (A : Option Addr) (n c B : Nat) (xs : List UInt8) (h : RB w B A n xs) (hB : B ≤ w.heap.size) (hnc : n ≤ c) (hcm : c ≤ maxLen) :
    Calls Try.prog 15 #[.slice A n c] w fun e w' => ∃ v, e = .returned (.tuple #[v, .int .i64 (readN xs)]) ∧ OwnE w' w.heap.size v (readL xs) ∧ Below w.heap.size w w' := by
  obtain ⟨cn, r1, hc⟩ := pair_ex (⟨xs, false⟩ : Rd).int
  have h1 : (⟨xs, false⟩ : Rd).int.1 = cn := by rw [hc]
  have h2 : (⟨xs, false⟩ : Rd).int.2 = r1 := by rw [hc]
  have hNB : ∀ i, i ≤ cn.toNat → (r1.efs i).2.bad = true → readsE xs = none := fun i hi hw => reads_none_bad (by rw [h1]; exact hi) (by rw [h2]; exact hw)
  have hOut : ¬ (0 ≤ cn ∧ cn ≤ 10000) → readsE xs = none := fun hx => reads_none_out (by rw [h1]; exact hx)
  have hEnd : 0 ≤ cn → cn ≤ 10000 → readsE xs = if ((r1.efs cn.toNat).1.all Ef.right && (r1.efs cn.toNat).2.done) = true then some (r1.efs cn.toNat).1 else none := fun a b => by
    have := reads_end (xs := xs) (by rw [h1]; exact a) (by rw [h1]; exact b)
    rw [h1, h2] at this
    exact this
  have HNB := Lib.hid hNB
  have HOUT := Lib.hid hOut
  have HEND := Lib.hid hEnd
  have HC := Lib.hid hc
  clear h1 h2 hNB hOut hEnd hc
  go_enter Try.func15, Try.ntmps15
  go_wp2_with fail
  refine (rNew w A n c B xs h hB hnc hcm).mono ?_
  rintro e w1 ⟨rfl, hr1, hb1⟩
  have HR1 := Lib.hid hr1
  have HB1 := Lib.hid hb1
  clear hr1 hb1 h hB hnc hcm
  go_wp2_with fail
  refine (rInt _ _ _ _ HR1.out).mono ?_
  rintro e w2 ⟨rfl, hr2, hk2⟩
  rw [HC.out] at hr2 ⊢
  have H2 : Hid (RdRow 84 w w.heap.size B w2.heap.size r1 (.slice none 0 0) [] w2) :=
    ⟨HB1.out.trans (hk2.below HB1.out.size fun i _ hi => by simp only [But]; omega), hr2, own_nil _ _, hr2.lt, Nat.le_refl _, Nat.le_refl _⟩
  clear hr2 hk2 HC HR1 HB1
  by_cases hlo : cn < 0
  · have he := readL_none (HOUT.out (by omega))
    have HE := Lib.hid he
    clear he
    go_wp2_with fail
    go_ret2
    exact ⟨_, retT HE.out.2, by rw [HE.out.1]; exact own_nil _ _, H2.out.bel⟩
  by_cases hhi : 10000 < cn
  · have he := readL_none (HOUT.out (by omega))
    have HE := Lib.hid he
    clear he
    go_wp2_with fail
    go_ret2
    exact ⟨_, retT HE.out.2, by rw [HE.out.1]; exact own_nil _ _, H2.out.bel⟩
  clear HOUT
  obtain ⟨N, rfl⟩ := Int.eq_ofNat_of_zero_le (show 0 ≤ cn by omega)
  rw [Int.toNat_natCast] at HNB HEND
  have hN : N ≤ 10000 := by omega
  clear hlo hhi
  generalize w2.heap.size = b0 at *
  generalize hg0 : w.heap.size = g0 at H2
  have HG0 := Lib.hid hg0
  clear hg0
  go_wp2_with fail
  go_loopg [6, 7, 8] N (fun k v ok i wr => RReadRel w g0 B b0 r1 N k v ok i wr)
  case atStart => exact ⟨0, by omega, rfl, rfl, H2.out⟩
  case round =>
    obtain ⟨j, hj, rfl, rfl, hrow⟩ := hrel
    have HJ := Lib.hid hj
    have HR := Lib.hid hrow
    clear hj hrow H2
    by_cases hlt : j < N
    · have hnb := HNB.out j (by omega)
      have hlen := efs_len r1 j
      have hst1 : (r1.efs (j + 1)).1 = (r1.efs j).1 ++ [(r1.efs j).2.efV] := rfl
      have hst2 : (r1.efs (j + 1)).2 = (r1.efs j).2.efR := rfl
      have hall : (r1.efs (j + 1)).1.all Ef.right = ((r1.efs j).1.all Ef.right && (r1.efs j).2.efV.right) := by rw [hst1, List.all_append]; simp
      generalize (r1.efs j).1.all Ef.right = ok at *
      generalize (r1.efs j).1 = l at *
      generalize (r1.efs j).2 = r at *
      have HNBJ := Lib.hid hnb
      have HLEN := Lib.hid hlen
      have HALL := Lib.hid hall
      have HST1 := Lib.hid hst1
      have HST2 := Lib.hid hst2
      clear hnb hlen hall hst1 hst2
      go_wp2_with fail
      refine (rBad _ _ _ _ HR.out.rd).mono ?_
      rintro e w3 ⟨rfl, rfl⟩
      cases hbad : r.bad
      rotate_left
      · have he := readL_none (HNBJ.out hbad)
        have hdn : r.done = false := by rw [Rd.done, hbad]; rfl
        have HE := Lib.hid he
        have HDN := Lib.hid hdn
        clear he hdn hbad
        go_wp2_with fail
        refine (rDone _ _ _ _ HR.out.rd).mono ?_
        rintro e w4 ⟨rfl, rfl⟩
        rw [HDN.out]
        go_wp2_with fail
        go_ret2
        exact ⟨_, retT HE.out.2, by rw [HE.out.1]; exact own_nil _ _, HR.out.bel⟩
      clear hbad HNBJ
      obtain ⟨k, r2, e1⟩ := pair_ex r.int
      obtain ⟨o, r3, e2⟩ := pair_ex r2.text
      obtain ⟨ky, r4, e3⟩ := pair_ex r3.text
      obtain ⟨v, r5, e4⟩ := pair_ex r4.text
      obtain ⟨n', r6, e5⟩ := pair_ex r5.int
      obtain ⟨l', r7, e6⟩ := pair_ex r6.int
      obtain ⟨t, r8, e7⟩ := pair_ex r7.flag
      obtain ⟨hR, hV⟩ := ef_of e1 e2 e3 e4 e5 e6 e7
      rw [hR] at HST2
      rw [hV] at HST1 HALL
      have hrm := fun (w : World) (g B : Nat) (h : ReaderAt 84 w g B r8) => getM_ h
      clear hR hV
      generalize r8.msgR = r9 at *
      generalize r8.msg = m at *
      obtain ⟨i, p, y, cl, cr, bd⟩ := m
      have HRM := Lib.hid hrm
      have HRI := Lib.hid (rrightE_ ⟨k, ⟨o.toArray⟩, ⟨ky.toArray⟩, ⟨v.toArray⟩, n', l', t, ⟨i, p, y, cl, cr, bd⟩⟩)
      generalize Ef.right ⟨k, ⟨o.toArray⟩, ⟨ky.toArray⟩, ⟨v.toArray⟩, n', l', t, ⟨i, p, y, cl, cr, bd⟩⟩ = z at *
      have E1 := Lib.hid e1
      have E2 := Lib.hid e2
      have E3 := Lib.hid e3
      have E4 := Lib.hid e4
      have E5 := Lib.hid e5
      have E6 := Lib.hid e6
      have E7 := Lib.hid e7
      clear hrm e1 e2 e3 e4 e5 e6 e7
      have HR0 := HR
      go_wp2_with fail
      refine (rInt _ _ _ _ HR0.out.rd).mono ?_
      rintro e wa1 ⟨rfl, hr1, hk1⟩
      rw [E1.out] at hr1 ⊢
      have HR1 := Lib.hid (HR0.out.read hr1 hk1)
      clear hr1 hk1 HR0 E1
      go_wp2_with fail
      refine (rText _ _ _ _ HR1.out.rd).mono ?_
      rintro e wa2 ⟨rfl, hr2, hk2⟩
      rw [E2.out] at hr2 ⊢
      have HR2 := Lib.hid (HR1.out.read hr2 hk2)
      clear hr2 hk2 HR1 E2
      go_wp2_with fail
      refine (rText _ _ _ _ HR2.out.rd).mono ?_
      rintro e wa3 ⟨rfl, hr3, hk3⟩
      rw [E3.out] at hr3 ⊢
      have HR3 := Lib.hid (HR2.out.read hr3 hk3)
      clear hr3 hk3 HR2 E3
      go_wp2_with fail
      refine (rText _ _ _ _ HR3.out.rd).mono ?_
      rintro e wa4 ⟨rfl, hr4, hk4⟩
      rw [E4.out] at hr4 ⊢
      have HR4 := Lib.hid (HR3.out.read hr4 hk4)
      clear hr4 hk4 HR3 E4
      go_wp2_with fail
      refine (rInt _ _ _ _ HR4.out.rd).mono ?_
      rintro e wa5 ⟨rfl, hr5, hk5⟩
      rw [E5.out] at hr5 ⊢
      have HR5 := Lib.hid (HR4.out.read hr5 hk5)
      clear hr5 hk5 HR4 E5
      go_wp2_with fail
      refine (rInt _ _ _ _ HR5.out.rd).mono ?_
      rintro e wa6 ⟨rfl, hr6, hk6⟩
      rw [E6.out] at hr6 ⊢
      have HR6 := Lib.hid (HR5.out.read hr6 hk6)
      clear hr6 hk6 HR5 E6
      go_wp2_with fail
      refine (rFlag _ _ _ _ HR6.out.rd).mono ?_
      rintro e wa7 ⟨rfl, hr7, hk7⟩
      rw [E7.out] at hr7 ⊢
      have HR7 := Lib.hid (HR6.out.read hr7 hk7)
      clear hr7 hk7 HR6 E7
      go_wp2_with fail
      refine (HRM.out _ _ _ HR7.out.rd).mono ?_
      rintro e wb ⟨rfl, hr8, hk8⟩
      have HR8 := Lib.hid (HR7.out.read hr8 hk8)
      have HX8 := Lib.hid (Blk.new wb 29 (Ef.cells ⟨k, ⟨o.toArray⟩, ⟨ky.toArray⟩, ⟨v.toArray⟩, n', l', t, ⟨i, p, y, cl, cr, bd⟩⟩))
      have HAL := Lib.hid (alloc_below wb (.cells (Ef.cells ⟨k, ⟨o.toArray⟩, ⟨ky.toArray⟩, ⟨v.toArray⟩, n', l', t, ⟨i, p, y, cl, cr, bd⟩⟩) 29))
      clear hr8 hk8 HR7 HRM HR
      cases ok
      · obtain ⟨A6, n6, c6, w6, hap, ho6, hb6⟩ := append_one (HR8.out.next HAL.out).own (HR8.out.next HAL.out).b0s (by have := HLEN.out; omega) ⟨k, ⟨o.toArray⟩, ⟨ky.toArray⟩, ⟨v.toArray⟩, n', l', t, ⟨i, p, y, cl, cr, bd⟩⟩
        have HR6 := Lib.hid ((HR8.out.next HAL.out).grow ho6 hb6)
        rw [show (wb.alloc (.cells (Ef.cells ⟨k, ⟨o.toArray⟩, ⟨ky.toArray⟩, ⟨v.toArray⟩, n', l', t, ⟨i, p, y, cl, cr, bd⟩⟩) 29)).heap.size = wb.heap.size + 1 by simp] at hap
        simp only [Ef.cells] at hap
        clear ho6 hb6 HR8 HX8 HAL HRI
        go_wp2_with (at_builtin; refine wpList_append_run rfl (.tmp 52) (.tmp 54) 22 22 rfl _ _ rfl rfl hap ?_)
        go_roundg (N - (j + 1))
        case measure => have := HJ.out; omega
        case rel => exact ⟨j + 1, by omega, by rw [HALL.out]; rfl, by go_num, by rw [HST1.out, HST2.out]; exact HR6.out⟩
      · go_wp2_with fail
        refine (HRI.out _).mono ?_
        rintro e wc ⟨rfl, hb5⟩
        have HR5 := Lib.hid ((HR8.out.next HAL.out).next hb5)
        have hx5 := HX8.out.below hb5 HX8.out.lt
        obtain ⟨q0, q1, q2, q3, q4, q5, q6, q7, q8, q9, q10, q11, q12⟩ := thir_of hx5
        simp only at q0 q1 q2 q3 q4 q5 q6 q7 q8 q9 q10 q11 q12
        obtain ⟨A6, n6, c6, w6, hap, ho6, hb6⟩ := append_one HR5.out.own HR5.out.b0s (by have := HLEN.out; omega) ⟨k, ⟨o.toArray⟩, ⟨ky.toArray⟩, ⟨v.toArray⟩, n', l', t, ⟨i, p, y, cl, cr, bd⟩⟩
        have HR6 := Lib.hid (HR5.out.grow ho6 hb6)
        clear hx5 hb5 ho6 hb6 HR5 HR8 HX8 HAL HRI
        go_wp2_with (at_builtin; refine wpList_append_run rfl (.tmp 52) (.tmp 54) 22 22 rfl _ _ rfl rfl hap ?_)
        go_roundg (N - (j + 1))
        case measure => have := HJ.out; omega
        case rel => exact ⟨j + 1, by omega, by rw [HALL.out, Bool.true_and], by go_num, by rw [HST1.out, HST2.out]; exact HR6.out⟩
    · obtain rfl : j = N := by have := HJ.out; omega
      have hend := HEND.out (by omega) (by omega)
      generalize (r1.efs j).1.all Ef.right = ok at *
      generalize (r1.efs j).1 = l at *
      generalize (r1.efs j).2 = r at *
      have HE := Lib.hid hend
      clear hend
      go_wp2_with fail
      refine (rDone _ _ _ _ HR.out.rd).mono ?_
      rintro e w6 ⟨rfl, rfl⟩
      generalize r.done = d at *
      cases d
      · have he := readL_none (xs := xs) (by rw [HE.out, Bool.and_false]; rfl)
        have HE2 := Lib.hid he
        clear he
        go_wp2_with fail
        go_ret2
        exact ⟨_, retT HE2.out.2, by rw [HE2.out.1]; exact own_nil _ _, HR.out.bel⟩
      cases ok
      · have he := readL_none (xs := xs) (by rw [HE.out]; rfl)
        have HE2 := Lib.hid he
        clear he
        go_wp2_with fail
        go_ret2
        exact ⟨_, retT HE2.out.2, by rw [HE2.out.1]; exact own_nil _ _, HR.out.bel⟩
      · have he := readL_some (xs := xs) (l := l) (by rw [HE.out]; rfl)
        have HE2 := Lib.hid he
        clear he
        go_wp2_with fail
        go_ret2
        exact ⟨_, retT HE2.out.2, by rw [HE2.out.1]; exact own_base HR.out.own (Nat.le_trans HR.out.wg (Nat.le_of_lt HR.out.gb)), HR.out.bel⟩
end Go.Proofs.Ytlapicjbnheioaa
