/- Changes as bytes: package effect's Bytes. -/
import Derived.Test.YtlapicjbnheioaaEfW
import Derived.Test.YtlapicjbnheioaaBNews
set_option maxRecDepth 4000
namespace Go.Proofs.Ytlapicjbnheioaa
open Go.RowKit
/-- a row of bytes of the call's own -/
abbrev OwnBy (w : World) (base : Nat) (v : Value) (bs : List UInt8) : Prop := w.ownsRow base 5 1 v bs.length (cellsB bs)
theorem ownBy_lt {w : World} {base g : Nat} {v : Value} {bs : List UInt8} (h : OwnBy w base v bs) (hg : v.ownBlock = some g) : base ≤ g ∧ g < w.heap.size := by
  rcases h.2 with ⟨rfl, _⟩ | ⟨g', cap, cur, rfl, hb, hh, _⟩
  · cases hg
  · simp only [Value.ownBlock, Option.some.injEq] at hg
    subst hg
    exact ⟨hb, lt_of_some hh⟩
theorem ownBy_below {w w' : World} {base : Nat} {v : Value} {bs : List UInt8} (h : OwnBy w base v bs) (k : Below w.heap.size w w') : OwnBy w' base v bs := by
  refine ⟨h.1, ?_⟩
  rcases h.2 with h0 | ⟨g, cap, cur, e, hb, hh, hr⟩
  · exact .inl h0
  · exact .inr ⟨g, cap, cur, e, hb, (k.block g (lt_of_some hh)).trans hh, hr⟩
theorem ownBy_blk {w : World} {base g : Nat} {bs : List UInt8} (h : Blk w g 5 (cellsB bs).toArray) (hb : base ≤ g) (hm : bs.length ≤ maxLen) : OwnBy w base (.slice (some ⟨g, 0, none⟩) bs.length bs.length) bs := by
  refine ⟨by rw [cellsB_length, Nat.mul_one], .inr ⟨g, bs.length, (cellsB bs).toArray, rfl, hb, h, Nat.le_refl _, hm, ?_, ?_⟩⟩
  · simp [cellsB]
  · rw [List.take_of_length_le (by simp [cellsB])]
/-- bytes of a block of their own behind a row of the call's own -/
theorem append_by {w w1 : World} {base : Nat} {v : Value} {ys xs : List UInt8} {g : Nat} (ho : OwnBy w base v ys) (hb : base ≤ w.heap.size) (k : Below w.heap.size w w1) (hx : Blk w1 g 5 (cellsB xs).toArray) (hl : ys.length + xs.length ≤ 1000000) :
    ∃ A n c W, (Builtin.append_ #[30, 30] 30 #[v, .slice (some ⟨g, 0, none⟩) xs.length xs.length]).run Try.prog w1 = .ok (.slice A n c) W ∧ OwnBy W base (.slice A n c) (ys ++ xs) ∧ Below base w W ∧
      (∀ i, w.heap.size ≤ i → i < w1.heap.size → W.heap[i]? = w1.heap[i]?) := by
  have ho1 := ownBy_below ho k
  obtain ⟨v', W, hap, ho', hg, _⟩ := append_rb ho1 (blk_rb hx hx.lt) xs.length hl (Nat.le_trans hb k.size)
  rw [← List.length_append] at ho'
  obtain ⟨A, c, rfl, _⟩ := own_rb ho'
  refine ⟨A, _, c, W, hap, ho', (k.mono hb).grown hg (Nat.le_trans hb k.size) fun g hg => (ownBy_lt ho1 hg).1, fun i h1 h2 => ?_⟩
  refine hg.block i h2 fun e => ?_
  have := (ownBy_lt ho e.symm).2
  omega
def BytesRel (w : World) (xs : List Ef) (k : Nat) (v i : Value) (wr : World) : Prop :=
  ∃ j, j + k = xs.length ∧ i = .int .i64 (j : Int) ∧ OwnBy wr w.heap.size v (encInt (xs.length : Int) ++ bytesAll (xs.take j)) ∧ Below w.heap.size w wr
theorem all_take_le (xs : List Ef) (j : Nat) : (bytesAll (xs.take j)).length ≤ (bytesAll xs).length := by
  have e : bytesAll xs = bytesAll (xs.take j) ++ bytesAll (xs.drop j) := by
    unfold bytesAll
    rw [← List.flatMap_append, List.take_append_drop]
  rw [e, List.length_append]; omega
set_option maxHeartbeats 1000000 in
theorem bytesE_ {w : World} {K : Nat → Prop} {A : Option Addr} {n c : Nat} {xs : List Ef} (h : Lst w K eE A xs) (hl : xs.length = n) (hn : n ≤ 10000) (hs : ∀ e ∈ xs, e.short) (hby : (bytesAll xs).length ≤ 800000) :
    Calls Try.prog 10 #[.slice A n c] w fun x w' => ∃ v, x = .returned v ∧ OwnBy w' w.heap.size v (bytesE xs) ∧ Below w.heap.size w w' := by
  have H := Lib.hid h
  have HL := Lib.hid hl
  have HS : Hid (∀ e ∈ xs, e.short) := hs
  have HBY := Lib.hid hby
  have H0 := Lib.hid (writer_new w)
  have HB0 := Lib.hid (alloc_below w (.cells #[.pointer none, .int .i64 0] 51))
  clear h hl hs hby
  go_enter Try.func10, Try.ntmps10
  go_wp2_with fail
  refine (wInt _ _ _ (n : Int) H0.out (by simp)).mono ?_
  rintro e w1 ⟨rfl, hw1, hk1⟩
  have HB1 := Lib.hid (HB0.out.trans (hk1.below (B := w.heap.size) HB0.out.size fun i _ hi => by simp only [But]; omega))
  have HW1 := Lib.hid hw1
  clear hw1 hk1 H0 HB0
  go_wp2_with fail
  refine (wBytes _ _ _ HW1.out (by simp [encInt_len])).mono ?_
  rintro e w2 ⟨rfl, hb2, hB2⟩
  rw [List.nil_append] at hb2 ⊢
  have ho := ownBy_blk (base := w.heap.size) hb2 HB1.out.size (by rw [encInt_len]; unfold maxLen; omega)
  have HO := Lib.hid ho
  have HB2 := Lib.hid (HB1.out.trans (hB2.mono HB1.out.size))
  clear hb2 hB2 ho HB1 HW1
  go_wp2_with fail
  generalize w1.heap.size = g1 at *
  generalize (encInt (n : Int)).length = q1 at *
  go_loopg [4, 13] n (fun k v i wr => BytesRel w xs k v i wr)
  case atStart => exact ⟨0, by rw [HL.out]; omega, rfl, by have := HO.out; rw [HL.out, List.take_zero]; simpa [bytesAll] using this, HB2.out⟩
  case round =>
    obtain ⟨j, hj, rfl, ho, hb⟩ := hrel
    have HJ := Lib.hid hj
    have HO3 := Lib.hid ho
    have HB3 := Lib.hid hb
    clear hj ho hb HO HB2
    by_cases hlt : j < n
    · have hx : j < xs.length := by rw [HL.out]; exact hlt
      have hsh := HS.out xs[j] (List.getElem_mem hx)
      have hy : encInt (xs.length : Int) ++ bytesAll (xs.take (j + 1)) = ((encInt (xs.length : Int) ++ bytesAll (xs.take j)) ++ xs[j].head []) ++ xs[j].msg.bytes := by
        rw [bytesAll_take hx, Ef.bytes]; simp only [List.append_assoc]
      have hyl : (encInt (xs.length : Int) ++ bytesAll (xs.take (j + 1))).length ≤ 800008 := by
        have h1 := all_take_le xs (j + 1)
        have h2 := HBY.out
        rw [List.length_append, encInt_len]; omega
      obtain ⟨b, o, rfl, hbs, c0, c1, c2, c3, c4, c5, c6, c7, c8, c9, c10, c11, c12⟩ := (H.out.below HB3.out).atE hx
      generalize xs[j] = e at *
      generalize hy2 : encInt (xs.length : Int) ++ bytesAll (xs.take (j + 1)) = y2 at *
      generalize encInt (xs.length : Int) ++ bytesAll (xs.take j) = y1 at *
      have hyl2 : y1.length + (e.head []).length + e.msg.bytes.length ≤ 800008 := by
        rw [hy, List.length_append, List.length_append] at hyl; exact hyl
      have hbx := Blk.new wr 29 e.cells
      have hal := alloc_below wr (.cells e.cells 29)
      have hfl := fields_ e hsh
      have hmb := mbytes_ e.msg hsh.2.2.2.1 hsh.2.2.2.2
      generalize e.head [] = hd at *
      generalize e.msg.bytes = mb at *
      have HBX := Lib.hid hbx
      have HAL := Lib.hid hal
      have HFL := Lib.hid hfl
      have HMB := Lib.hid hmb
      have HY : Hid (encInt (xs.length : Int) ++ bytesAll (xs.take (j + 1)) = (y1 ++ hd) ++ mb) := hy2.trans hy
      have HYL := Lib.hid hyl2
      clear hbx hal hsh hfl hmb hy hy2 hyl hyl2 hx
      obtain ⟨k, o', ky, v', n', l, t, ⟨i, p, r, cl, cr, bd⟩⟩ := e
      simp only at c0 c1 c2 c3 c4 c5 c6 c7 c8 c9 c10 c11 c12
      go_wp2_with fail
      refine (HFL.out _).mono ?_
      rintro e w3 ⟨g3, rfl, hx3, hg3, hb3⟩
      obtain ⟨A4, n4, c4', w4, hap, ho4, hb4, hk4⟩ := append_by HO3.out HB3.out.size (HAL.out.trans (hb3.mono HAL.out.size)) hx3 (by have := HYL.out; omega)
      have hx4 : Blk w4 wr.heap.size 29 (Ef.cells ⟨k, o', ky, v', n', l, t, ⟨i, p, r, cl, cr, bd⟩⟩) := (hk4 _ (Nat.le_refl _) (Nat.lt_of_lt_of_le HBX.out.lt hb3.size)).trans (HBX.out.below hb3 HBX.out.lt)
      obtain ⟨q0, q1, q2, q3, q4, q5, q6, q7, q8, q9, q10, q11, q12⟩ := thir_of hx4
      simp only at q7 q8 q9 q10 q11 q12
      have HO4 := Lib.hid ho4
      have HB4 := Lib.hid (HB3.out.trans hb4)
      clear hx3 hg3 hb3 ho4 hb4 hk4 hx4 HBX HAL HFL HO3 HB3 q0 q1 q2 q3 q4 q5 q6 c0 c1 c2 c3 c4 c5 c6 c7 c8 c9 c10 c11 c12
      go_wp2_with (at_builtin; refine wpList_append_run rfl (.tmp 17) (.tmp 19) 30 30 rfl _ _ rfl rfl hap ?_)
      refine (HMB.out _).mono ?_
      rintro e w5 ⟨g5, rfl, hx5, hg5, hb5⟩
      obtain ⟨A6, n6, c6', w6, hap6, ho6, hb6, hk6⟩ := append_by HO4.out HB4.out.size hb5 hx5 (by have := HYL.out; rw [List.length_append]; omega)
      have HO6 := Lib.hid ho6
      have HB6 := Lib.hid (HB4.out.trans hb6)
      clear hx5 hg5 hb5 ho6 hb6 hk6 hap HO4 HB4 HMB q7 q8 q9 q10 q11 q12
      go_wp2_with (at_builtin; refine wpList_append_run rfl (.tmp 21) (.tmp 24) 30 30 rfl _ _ rfl rfl hap6 ?_)
      go_roundg (n - (j + 1))
      case measure => have := HJ.out; have := HL.out; omega
      case rel => exact ⟨j + 1, by have := HL.out; omega, by go_num, by rw [HY.out]; exact HO6.out, HB6.out⟩
    · have he : j = xs.length := by have := HJ.out; have := HL.out; omega
      have HE := Lib.hid he
      clear he
      go_wp2
      go_ret
      exact ⟨_, rfl, by have := HO3.out; rwa [HE.out, List.take_length] at this, HB3.out⟩
end Go.Proofs.Ytlapicjbnheioaa
