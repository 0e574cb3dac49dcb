/- Changes as bytes: the document's EffectBytes. -/
import Derived.Test.YtlapicjbnheioaaMsW
import Derived.Test.YtlapicjbnheioaaEfW
set_option maxRecDepth 4000
namespace Go.Proofs.Ytlapicjbnheioaa
open Go.RowKit
/-- a boxed change, and the document's writer beside it -/
structure VE (w : World) (N g : Nat) (e : Ef) (bs : List UInt8) (wk : World) : Prop where
  keep : Keep (Rf N) w wk
  box : Blk wk w.heap.size 29 e.cells
  wr : VAt wk N g bs
section
variable {w wk w' : World} {N g : Nat} {e : Ef} {bs bs' : List UInt8}
theorem VE.first (h : VAt w N g bs) (e : Ef) : VE w N g e bs (w.alloc (.cells e.cells 29)) :=
  ⟨Keep.of_below (alloc_below w _), Blk.new w _ _, h.below (alloc_below w _)⟩
theorem VE.next (h : VE w N g e bs wk) (hw : VAt w' N g bs') (hk : Keep (Rf N) wk w') : VE w N g e bs' w' :=
  ⟨h.keep.trans hk, h.box.keep hk (.inr ⟨_, _, rfl, by decide, by decide⟩), hw⟩
end
def VBytesRel (w : World) (g : Nat) (xs : List Ef) (k : Nat) (i : Value) (wr : World) : Prop :=
  ∃ j, j + k = xs.length ∧ i = .int .i64 (j : Int) ∧ VAt wr w.heap.size g (encInt (xs.length : Int) ++ bytesAll (xs.take j)) ∧ Below w.heap.size w wr
theorem keep_rf {w wa wb : World} (h : Below w.heap.size w wa) (k : Keep (Rf w.heap.size) wa wb) : Below w.heap.size w wb :=
  h.trans (k.below (B := w.heap.size) h.size fun _ _ hi => .inl hi)
theorem all_take_leV (xs : List Ef) (j : Nat) : (bytesAll (xs.take j)).length ≤ (bytesAll xs).length := by
  have e : bytesAll xs = bytesAll (xs.take j) ++ bytesAll (xs.drop j) := by
    unfold bytesAll
    rw [← List.flatMap_append, List.take_append_drop]
  rw [e, List.length_append]; omega
set_option maxHeartbeats 1000000 in
theorem vbytesE_ {w : World} {K : Nat → Prop} {A : Option Addr} {n c : Nat} {xs : List Ef} (h : Lst w K eE A xs) (hl : xs.length = n) (hn : n ≤ 10000) (hs : ∀ e ∈ xs, e.short) (hby : (bytesAll xs).length ≤ 700000) :
    Calls Try.prog 11 #[.slice A n c] w
      fun x w' => ∃ A c, x = .returned (.slice A (bytesE xs).length c) ∧ RB w' w'.heap.size A (bytesE xs).length (bytesE xs) ∧ (bytesE xs).length ≤ c ∧ c ≤ maxLen ∧ Below w.heap.size w w' := by
  have H := Lib.hid h
  have HL := Lib.hid hl
  have HS : Hid (∀ e ∈ xs, e.short) := hs
  have HBY := Lib.hid hby
  have H0 := Lib.hid (vat_new w w.heap.size (Nat.le_refl _))
  have HB0 := Lib.hid (alloc_below w (.cells #[.slice none 0 0] 58))
  clear h hl hs hby
  go_enter Try.func11, Try.ntmps11
  go_wp2_with fail
  refine (vInt _ _ _ _ (n : Int) H0.out (by simp)).mono ?_
  rintro e w1 ⟨rfl, hw1, hk1⟩
  have HB1 := Lib.hid (keep_rf HB0.out hk1)
  rw [List.nil_append] at hw1
  have HW1 := Lib.hid hw1
  clear hw1 hk1 H0 HB0
  go_wp2_with fail
  go_loopg [4] n (fun k i wr => VBytesRel w w.heap.size xs k i wr)
  case atStart => exact ⟨0, by rw [HL.out]; omega, rfl, by have := HW1.out; rw [HL.out, List.take_zero]; simpa [bytesAll] using this, HB1.out⟩
  case round =>
    obtain ⟨j, hj, rfl, hv, hb⟩ := hrel
    have HJ := Lib.hid hj
    have HV := Lib.hid hv
    have HB3 := Lib.hid hb
    clear hj hv hb HW1 HB1
    by_cases hlt : j < n
    · have hx : j < xs.length := by rw [HL.out]; exact hlt
      have hsh := HS.out xs[j] (List.getElem_mem hx)
      have hy : encInt (xs.length : Int) ++ bytesAll (xs.take (j + 1)) = xs[j].msg.onto (xs[j].head (encInt (xs.length : Int) ++ bytesAll (xs.take j))) := by
        rw [onto_head, bytesAll_take hx, List.append_assoc]
      have hyl : (encInt (xs.length : Int) ++ bytesAll (xs.take j)).length ≤ 700008 := by
        have h1 := all_take_leV xs j
        have h2 := HBY.out
        rw [List.length_append, encInt_len]; omega
      have hhl := head_len xs[j] (encInt (xs.length : Int) ++ bytesAll (xs.take j)) hsh
      obtain ⟨b, o, rfl, hbs, c0, c1, c2, c3, c4, c5, c6, c7, c8, c9, c10, c11, c12⟩ := (H.out.below HB3.out).atE hx
      generalize xs[j] = e at *
      generalize hy2 : encInt (xs.length : Int) ++ bytesAll (xs.take (j + 1)) = y2 at *
      generalize encInt (xs.length : Int) ++ bytesAll (xs.take j) = y1 at *
      have HH := Lib.hid (VE.first HV.out e)
      obtain ⟨s1, s2, s3, s4, s5⟩ := hsh
      have HY : Hid (encInt (xs.length : Int) ++ bytesAll (xs.take (j + 1)) = e.msg.onto (e.head y1)) := hy2.trans hy
      have HYL := Lib.hid hyl
      have HHL := Lib.hid hhl
      clear hy hy2 hyl hhl hx HV
      obtain ⟨k, o', ky, v', n', l, t, m⟩ := e
      have HPM := Lib.hid (putMsg_ m s4 s5)
      obtain ⟨i, p, r, cl, cr, bd⟩ := m
      simp only at c0 c1 c2 c3 c4 c5 c6 c7 c8 c9 c10 c11 c12 s1 s2 s3
      have HL1 := Lib.hid (text_len o' s1)
      have HL2 := Lib.hid (text_len ky s2)
      have HL3 := Lib.hid (text_len v' s3)
      clear s4 s5
      simp only [Ef.head] at HY HHL
      go_wp2_with fail
      simp only [Ef.cells] at HH
      refine (vInt _ _ _ _ k HH.out.wr (by have := HYL.out; omega)).mono ?_
      rintro e w1 ⟨rfl, hw1, hk1⟩
      have H1 := Lib.hid (HH.out.next hw1 hk1)
      have q0 := H1.out.box.cell 1
      clear hw1 hk1 HH c0 c1 c2 c3 c4 c5 c6 c7 c8 c9 c10 c11 c12
      go_wp2_with fail
      refine (vText _ _ _ _ o' H1.out.wr (by have := HYL.out; rw [List.length_append, encInt_len]; omega) (by omega)).mono ?_
      rintro e w2 ⟨rfl, hw2, hk2⟩
      have H2 := Lib.hid (H1.out.next hw2 hk2)
      have q0 := H2.out.box.cell 2
      clear hw2 hk2 H1
      go_wp2_with fail
      refine (vText _ _ _ _ ky H2.out.wr (by have := HYL.out; have := HL1.out; simp [encInt_len]; omega) (by omega)).mono ?_
      rintro e w3 ⟨rfl, hw3, hk3⟩
      have H3 := Lib.hid (H2.out.next hw3 hk3)
      have q0 := H3.out.box.cell 3
      clear hw3 hk3 H2
      go_wp2_with fail
      refine (vText _ _ _ _ v' H3.out.wr (by have := HYL.out; have := HL1.out; have := HL2.out; simp [encInt_len]; omega) (by omega)).mono ?_
      rintro e w4 ⟨rfl, hw4, hk4⟩
      have H4 := Lib.hid (H3.out.next hw4 hk4)
      have q0 := H4.out.box.cell 4
      clear hw4 hk4 H3
      go_wp2_with fail
      refine (vInt _ _ _ _ n' H4.out.wr (by have := HYL.out; have := HL1.out; have := HL2.out; have := HL3.out; simp [encInt_len]; omega)).mono ?_
      rintro e w5 ⟨rfl, hw5, hk5⟩
      have H5 := Lib.hid (H4.out.next hw5 hk5)
      have q0 := H5.out.box.cell 5
      clear hw5 hk5 H4
      go_wp2_with fail
      refine (vInt _ _ _ _ l H5.out.wr (by have := HYL.out; have := HL1.out; have := HL2.out; have := HL3.out; simp [encInt_len]; omega)).mono ?_
      rintro e w6 ⟨rfl, hw6, hk6⟩
      have H6 := Lib.hid (H5.out.next hw6 hk6)
      have q0 := H6.out.box.cell 6
      clear hw6 hk6 H5
      go_wp2_with fail
      refine (vFlag _ _ _ _ t H6.out.wr (by have := HYL.out; have := HL1.out; have := HL2.out; have := HL3.out; simp [encInt_len]; omega)).mono ?_
      rintro e w7 ⟨rfl, hw7, hk7⟩
      have H7 := Lib.hid (H6.out.next hw7 hk7)
      have q0 := H7.out.box.cell 7
      have q1 := H7.out.box.cell 8
      have q2 := H7.out.box.cell 9
      have q3 := H7.out.box.cell 10
      have q4 := H7.out.box.cell 11
      have q5 := H7.out.box.cell 12
      clear hw7 hk7 H6
      go_wp2_with fail
      refine (HPM.out _ (by have := HYL.out; rw [HHL.out]; omega) _ _ _ H7.out.wr).mono ?_
      rintro e w8 ⟨rfl, hv8, hk8⟩
      have HV8 := Lib.hid hv8
      have HB8 := Lib.hid (keep_rf HB3.out (H7.out.keep.trans hk8))
      clear hv8 hk8 H7 HB3 HPM q0 q1 q2 q3 q4 q5
      go_wp2_with fail
      go_roundg (n - (j + 1))
      case measure => have := HJ.out; have := HL.out; omega
      case rel => exact ⟨j + 1, by have := HL.out; omega, by go_num, by rw [HY.out]; exact HV8.out, HB8.out⟩
    · have he : j = xs.length := by have := HJ.out; have := HL.out; omega
      have HE := Lib.hid he
      clear he
      obtain ⟨v, hb1, ho1, _⟩ := HV.out
      obtain ⟨A', n', rfl, hr, hc1, hc2⟩ := own_rb ho1
      rw [HE.out, List.take_length] at hr hc1
      have q0 := hb1.cell 0
      have f0 := hb1.frozen 0
      have HR := Lib.hid hr
      have HC1 := Lib.hid hc1
      have HC2 := Lib.hid hc2
      have hz : (encInt (xs.length : Int) ++ bytesAll (xs.take j)).length = (bytesE xs).length := by rw [HE.out, List.take_length]; rfl
      rw [hz] at q0
      clear hb1 ho1 hr hc1 hc2 hz HV
      go_wp2
      go_ret
      exact ⟨A', n', rfl, HR.out, HC1.out, HC2.out, HB3.out⟩
end Go.Proofs.Ytlapicjbnheioaa
