/- Are two lists of changes one; are texts too long; the example of the document, and a change: what 'alive' answers. -/
import Derived.Test.YtlapicjbnheioaaEfD
import Derived.Test.YtlapicjbnheioaaEfX
set_option maxRecDepth 4000
namespace Go.Proofs.Ytlapicjbnheioaa
open Go.RowKit
attribute [local go_sem ↓] eqf_cells
theorem num_ (e : Int) (w : World) : Calls Try.prog 13 #[.int .i64 e] w fun x w' => x = .returned (.int .i64 e) ∧ w = w' := by
  go_enter Try.func13, Try.ntmps13
  go_wp2
  go_ret
  exact ⟨rfl, rfl⟩
def SameERel (w : World) (n : Nat) (k : Nat) (i : Value) (wr : World) : Prop := ∃ j, j + k = n ∧ i = .int .i64 (j : Int) ∧ Below w.heap.size w wr
set_option maxHeartbeats 1000000 in
/-- of two lists that are one -/
theorem same_efs {w : World} {K K2 : Nat → Prop} {A A2 : Option Addr} {n c c2 : Nat} {xs : List Ef} (h : Lst w K eE A xs) (h2 : Lst w K2 eE A2 xs) (hn : xs.length = n) (hm : n ≤ 1000000) :
    Calls Try.prog 14 #[.slice A n c, .slice A2 n c2] w fun e w' => e = .returned (.bool true) ∧ Below w.heap.size w w' := by
  have H := Lib.hid h
  have H2 := Lib.hid h2
  have HN := Lib.hid hn
  clear h h2 hn
  go_enter Try.func14, Try.ntmps14
  go_wp2
  go_loopg [5] n (fun k i wr => SameERel w n k i wr)
  case atStart => exact ⟨0, by omega, rfl, Below.refl _ _⟩
  case round =>
    obtain ⟨j, hj, rfl, hb⟩ := hrel
    have HB := Lib.hid hb
    have HJ := Lib.hid hj
    clear hb hj
    by_cases hlt : j < n
    · have hx : j < xs.length := by rw [HN.out]; exact hlt
      obtain ⟨b, o, rfl, _, c0, c1, c2, c3, c4, c5, c6, c7, c8, c9, c10, c11, c12⟩ := (H.out.below HB.out).atE hx
      obtain ⟨b2, o2, rfl, _, d0, d1, d2, d3, d4, d5, d6, d7, d8, d9, d10, d11, d12⟩ := (H2.out.below HB.out).atE hx
      have hss := same_self xs[j]
      generalize xs[j] = e at *
      obtain ⟨k, o', ky, v', n', l, t, ⟨i, p, r, cl, cr, bd⟩⟩ := e
      simp only at c0 c1 c2 c3 c4 c5 c6 c7 c8 c9 c10 c11 c12 d0 d1 d2 d3 d4 d5 d6 d7 d8 d9 d10 d11 d12
      clear hx
      go_wp2
      go_region
      go_wp2
      go_roundg (n - (j + 1))
      case measure => have := HJ.out; have := HN.out; omega
      case rel => exact ⟨j + 1, by omega, by go_num, HB.out.drew⟩
    · go_wp2
      go_ret
      exact ⟨rfl, HB.out⟩
/-- how long its texts are together -/
def Ef.sum (e : Ef) : Nat := e.obj.size + e.key.size + e.val.size + e.msg.corr.size + e.msg.body.size
/-- its texts are no longer than the form's own reach -/
def Ef.can (e : Ef) : Prop := e.obj.size ≤ 140737488355328 ∧ e.key.size ≤ 140737488355328 ∧ e.val.size ≤ 140737488355328 ∧ e.msg.corr.size ≤ 140737488355328 ∧ e.msg.body.size ≤ 140737488355328
def longE (l : List Ef) : Bool := l.any (fun e => decide (1000 < e.sum)) || decide (60 < l.length)
theorem long_no {l : List Ef} (h : longE l = false) : l.length ≤ 60 ∧ ∀ e ∈ l, e.sum ≤ 1000 := by
  simp only [longE, Bool.or_eq_false_iff, List.any_eq_false, decide_eq_true_eq, decide_eq_false_iff_not] at h
  exact ⟨by omega, fun e he => by have := h.1 e he; omega⟩
theorem short_of {e : Ef} (h : e.sum ≤ 1000) : e.short := by
  unfold Ef.sum at h
  exact ⟨by omega, by omega, by omega, by omega, by omega⟩
theorem bytes_1060 {l : List Ef} (h : ∀ e ∈ l, e.sum ≤ 1000) : (bytesAll l).length ≤ l.length * 1060 := by
  induction l with
  | nil => simp [bytesAll]
  | cons e r ih =>
    have h1 := ih fun x hx => h x (by simp [hx])
    have h0 := h e (by simp)
    have h2 := ebytes_len e (short_of h0)
    unfold Ef.sum at h0
    have h3 : bytesAll (e :: r) = e.bytes ++ bytesAll r := by simp [bytesAll]
    rw [h3, List.length_append, List.length_cons, Nat.add_mul]
    omega
def LongRel (w : World) (l : List Ef) (k : Nat) (i : Value) (wr : World) : Prop := ∃ j, j + k = l.length ∧ i = .int .i64 (j : Int) ∧ ((l.take j).any fun e => decide (1000 < e.sum)) = false ∧ Below w.heap.size w wr
theorem any_take {l : List Ef} {j : Nat} (h : j < l.length) : ((l.take (j + 1)).any fun e => decide (1000 < e.sum)) = (((l.take j).any fun e => decide (1000 < e.sum)) || decide (1000 < l[j].sum)) := by
  rw [List.take_succ_eq_append_getElem h, List.any_append]; simp
theorem any_hit {l : List Ef} {j : Nat} (h : j < l.length) (hl : 1000 < l[j].sum) : longE l = true := by
  have : (l.any fun e => decide (1000 < e.sum)) = true := List.any_eq_true.2 ⟨l[j], List.getElem_mem h, by simpa using hl⟩
  rw [longE, this]; rfl
set_option maxHeartbeats 2000000 in
theorem long_ {w : World} {K : Nat → Prop} {A : Option Addr} {n c : Nat} {l : List Ef} (h : Lst w K eE A l) (hl : l.length = n) (hn : n ≤ maxLen) (hs : ∀ e ∈ l, e.can) :
    Calls Try.prog 7 #[.slice A n c] w fun e w' => e = .returned (.bool (longE l)) ∧ Below w.heap.size w w' := by
  have H := Lib.hid h
  have HL := Lib.hid hl
  have HS : Hid (∀ e ∈ l, e.can) := hs
  unfold maxLen at hn
  clear h hl hs
  go_enter Try.func7, Try.ntmps7
  go_wp2
  go_loopg [3] n (fun k i wr => LongRel w l k i wr)
  case atStart => exact ⟨0, by rw [HL.out]; omega, rfl, rfl, Below.refl _ _⟩
  case round =>
    obtain ⟨j, hj, rfl, hany, hb⟩ := hrel
    have HJ := Lib.hid hj
    have HB := Lib.hid hb
    have HA := Lib.hid hany
    clear hj hb hany
    by_cases hlt : j < n
    · have hx : j < l.length := by rw [HL.out]; exact hlt
      have hst := any_take hx
      have hhit := any_hit hx
      rw [HA.out, Bool.false_or] at hst
      obtain ⟨m1, m2, m3, m4, m5⟩ := HS.out l[j] (List.getElem_mem hx)
      obtain ⟨b, o, rfl, _, c0, c1, c2, c3, c4, c5, c6, c7, c8, c9, c10, c11, c12⟩ := (H.out.below HB.out).atE hx
      generalize l[j] = e at *
      obtain ⟨k, o', ky, v', n', lm, t, ⟨i, p, r, cl, cr, bd⟩⟩ := e
      simp only [Ef.sum] at c0 c1 c2 c3 c4 c5 c6 c7 c8 c9 c10 c11 c12 m1 m2 m3 m4 m5 hst hhit
      have HST := Lib.hid hst
      have HHIT := Lib.hid hhit
      clear hx hst hhit c0 c4 c5 c6 c7 c8 c9 c10
      by_cases hbig : 1000 < o'.size + ky.size + v'.size + cr.size + bd.size
      · go_wp2
        go_quiet (fail)
        go_wp2
        go_ret
        exact ⟨retM (HHIT.out hbig).symm, below_drewN HB.out _⟩
      · go_wp2
        go_quiet (fail)
        go_wp2
        go_roundg (n - (j + 1))
        case measure => have := HJ.out; have := HL.out; omega
        case rel => exact ⟨j + 1, by have := HJ.out; have := HL.out; omega, by go_num, HST.out.trans (decide_eq_false hbig), below_drewN HB.out _⟩
    · have he : j = l.length := by have := HJ.out; have := HL.out; omega
      have hlong : longE l = decide (60 < l.length) := by
        have := HA.out
        rw [he, List.take_length] at this
        rw [longE, this, Bool.false_or]
      have hd : decide (60 < l.length) = decide (60 < (n : Int)) := by rw [HL.out]; exact decide_eq_decide.2 (by omega)
      have HE := Lib.hid (hlong.trans hd)
      clear he hlong hd
      go_wp2
      go_ret
      exact ⟨retM HE.out.symm, HB.out⟩
theorem ownBy_slice {w : World} {base : Nat} {v : Value} {bs : List UInt8} (h : OwnBy w base v bs) : ∃ A c, v = .slice A bs.length c ∧ RB w w.heap.size A bs.length bs ∧ bs.length ≤ c ∧ c ≤ maxLen ∧ (A = none → c = 0) := by
  obtain ⟨A, c, rfl, h1, h2, h3⟩ := own_rb h
  refine ⟨A, c, rfl, h1, h2, h3, fun e => ?_⟩
  subst e
  rcases h.2 with ⟨e, _⟩ | ⟨g, cap, cur, e, _⟩
  · injection e
  · injection e with e; cases e
/-- the change of the example -/
def nextFive : Ef := ⟨8, ⟨#[]⟩, ⟨#[]⟩, ⟨#[]⟩, 5, 0, false, Mg.zero⟩
theorem five_right : nextFive.right = true := by
  have e1 : nextFive.bare = nextFive := by simp [Ef.bare, nextFive]
  have e2 : nextFive.good = true := by simp [Ef.good, nextFive, idB]
  rw [Ef.right, e1, e2, same_self]; rfl
theorem five_short : ∀ e ∈ [nextFive], e.short := fun e he => by
  rw [List.mem_singleton] at he
  subst he
  exact ⟨by decide, by decide, by decide, by decide, by decide⟩
theorem five_fits : ∀ e ∈ [nextFive], e.fits := fun e he => by
  rw [List.mem_singleton] at he
  subst he
  exact ⟨⟨by decide, by decide⟩, ⟨by decide, by decide⟩, ⟨by decide, by decide⟩, ⟨by decide, by decide⟩, ⟨by decide, by decide⟩, ⟨by decide, by decide⟩⟩
theorem five_back : readL (bytesE [nextFive]) = [nextFive] ∧ readN (bytesE [nextFive]) = 0 := by
  refine readL_some ?_
  rw [reads_back _ five_fits five_short (by decide), if_pos]
  simp [five_right]
theorem five_len : (bytesAll [nextFive]).length ≤ 800000 := by
  have h := bytesAll_le _ five_short
  have h2 : [nextFive].length = 1 := rfl
  omega
theorem none_read : readL [] = [] ∧ readN [] = 11 := readL_none (by
  have h1 : (⟨[], false⟩ : Rd).int = (0, ⟨[], true⟩) := by
    unfold Rd.int
    rw [take_short [] 8 (by decide)]
    rfl
  unfold readsE
  simp only [h1]
  rfl)
set_option maxHeartbeats 1000000 in
theorem alive_ (w : World) : Calls Try.prog 6 #[] w fun e w' => e = .returned (.bool true) ∧ Below w.heap.size w w' := by
  go_enter Try.func6, Try.ntmps6
  go_wp2_with fail
  refine (readE_ w none 0 0 [] (RB.nil_ none) (by omega) (fun _ => rfl)).mono ?_
  rintro e w1 ⟨v1, rfl, ho1, hb1⟩
  rw [none_read.2]
  have HB1 := Lib.hid hb1
  have HL2 := Lib.hid (one_lst eE w1 29 nextFive (cs := nextFive.cells) rfl)
  have HB2 := Lib.hid (hb1.alloc hb1.size (.cells nextFive.cells 29))
  clear ho1 hb1
  go_wp2_with fail
  refine (bytesE_ HL2.out rfl (by decide) five_short five_len).mono ?_
  rintro e w3 ⟨v3, rfl, ho3, hb3⟩
  obtain ⟨A3, c3, rfl, hr3, _, _, ha3⟩ := ownBy_slice ho3
  have hlen : (bytesE [nextFive]).length ≤ 1000000 := by
    have h1 := five_len
    rw [bytesE, List.length_append, encInt_len]; omega
  have HR3 := Lib.hid hr3
  have HA3 := Lib.hid ha3
  have HLEN := Lib.hid hlen
  have HB3 := Lib.hid (HB2.out.trans (hb3.mono HB2.out.size))
  clear ho3 hb3 hr3 ha3 hlen HB1 HL2 HB2
  go_wp2_with fail
  refine (readE_ w3 A3 _ c3 _ HR3.out HLEN.out HA3.out).mono ?_
  rintro e w4 ⟨v4, rfl, ho4, hb4⟩
  rw [five_back.2]
  rw [five_back.1] at ho4
  obtain ⟨A4, c4, rfl, hl4, _, _, _⟩ := own_lst ho4
  obtain ⟨b, o, rfl, _, q0, q1, q2, q3, q4, _⟩ := hl4.atE (j := 0) (by decide)
  have HB4 := Lib.hid (HB3.out.trans (hb4.mono HB3.out.size))
  simp only [nextFive, List.getElem_cons_zero, Nat.zero_mul, Nat.add_zero] at q4
  clear ho4 hb4 hl4 HR3 HA3 HLEN HB3 q0 q1 q2 q3
  go_wp2_with fail
  refine (num_ 11 _).mono ?_
  rintro e w5 ⟨rfl, rfl⟩
  go_wp2_with fail
  refine (num_ 0 _).mono ?_
  rintro e w6 ⟨rfl, rfl⟩
  go_wp2_with fail
  go_ret
  exact ⟨rfl, HB4.out⟩
end Go.Proofs.Ytlapicjbnheioaa
