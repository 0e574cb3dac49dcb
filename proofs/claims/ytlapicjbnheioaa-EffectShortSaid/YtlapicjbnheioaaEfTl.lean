/- EffectTells, walked. -/
import Derived.Test.YtlapicjbnheioaaEfL
import Derived.Test.YtlapicjbnheioaaEfT
import Derived.Test.YtlapicjbnheioaaEfV
import Derived.Test.YtlapicjbnheioaaOpenE
import Derived.Deep.RegionHeld3
set_option maxRecDepth 4000
namespace Go.Proofs.Ytlapicjbnheioaa
open Go.RowKit
def TellRel (w : World) (l : List Ef) (k : Nat) (ok i : Value) (wr : World) : Prop := ∃ j, j + k = l.length ∧ ok = .bool ((l.take j).all Ef.right) ∧ i = .int .i64 (j : Int) ∧ Below w.heap.size w wr
theorem all_take {l : List Ef} {j : Nat} (h : j < l.length) : (l.take (j + 1)).all Ef.right = ((l.take j).all Ef.right && l[j].right) := by
  rw [List.take_succ_eq_append_getElem h, List.all_append]; simp
theorem can_of {e : Ef} (h : e.reach) : e.can := by
  have h47 : reachBytes ≤ 140737488355328 := by decide
  obtain ⟨h1, h2, h3, h4, h5⟩ := h
  exact ⟨by omega, by omega, by omega, by omega, by omega⟩
/-- what is read of what was written; shut, for the walk would reckon it -/
structure BackT (z : List UInt8) (l : List Ef) (rt : Bool) : Prop where
  out : readsE z = if rt = true then some l else none
set_option maxHeartbeats 4000000 in
theorem effectTells {w : World} {A : Option Addr} {n c : Nat} {l : List Ef} (h : Lst w (fun i => i < w.heap.size) eE A l) (hl : l.length = n) (hcm : c ≤ maxLen) (hnc : n ≤ c) (hs : ∀ e ∈ l, e.fits ∧ e.reach) :
    Calls Try.prog 3 #[.slice A n c] w fun e w' => e = .returned (.bool true) ∧ Below w.heap.size w w' := by
  have H := Lib.hid h
  have HL := Lib.hid hl
  have hnm : n ≤ maxLen := Nat.le_trans hnc hcm
  have hcan : ∀ e ∈ l, e.can := fun e he => can_of (hs e he).2
  have HCAN := Lib.hid hcan
  have HNM := Lib.hid hnm
  have HF : Hid (∀ e ∈ l, e.fits) := fun e he => (hs e he).1
  clear h hl hcm hnc hs hcan hnm
  go_enter Try.func3, Try.ntmps3
  go_wp2_with fail
  refine (alive_ _).mono ?_
  rintro e w1 ⟨rfl, hb1⟩
  have HB1 := Lib.hid hb1
  clear hb1
  go_wp2_with fail
  refine (long_ (H.out.below HB1.out) HL.out HNM.out HCAN.out).mono ?_
  rintro e w2 ⟨rfl, hb2⟩
  have HB2 := Lib.hid (HB1.out.trans (hb2.mono HB1.out.size))
  clear hb2 HB1
  cases hlong : longE l
  rotate_left
  · clear hlong
    go_wp2_with fail
    go_ret
    exact ⟨rfl, HB2.out⟩
  obtain ⟨hn60, hsum⟩ := long_no hlong
  have HSUM := Lib.hid hsum
  have HN60 := Lib.hid hn60
  have hn : n ≤ 60 := by have := HL.out; omega
  clear hlong hsum hn60 HCAN HNM
  go_wp2_with fail
  go_loopg [4, 5] n (fun k ok i wr => TellRel w l k ok i wr)
  case atStart => exact ⟨0, by rw [HL.out]; omega, rfl, rfl, HB2.out⟩
  case round =>
    obtain ⟨j, hj, rfl, rfl, hb⟩ := hrel
    have HJ := Lib.hid hj
    have HB := Lib.hid hb
    clear hj hb HB2
    by_cases hlt : j < n
    · have hx : j < l.length := by rw [HL.out]; exact hlt
      have hst := all_take hx
      obtain ⟨b, o, rfl, hbs, c0, c1, c2, c3, c4, c5, c6, c7, c8, c9, c10, c11, c12⟩ := (H.out.below HB.out).atE hx
      have HLJ := Lib.hid (H.out.below HB.out)
      have hr1 := rightE_ l[j]
      have hr2 := rrightE_ l[j]
      have hat : ∀ W, Below wr.heap.size wr W → b < W.heap.size ∧ Cells13 b (o + j * 13) l[j] W := fun W hW => (HLJ.out.below hW).atEs hx
      generalize (l.take j).all Ef.right = ok at *
      generalize l[j].right = z at *
      generalize l[j] = e at *
      have HST := Lib.hid hst
      have HR1 := Lib.hid hr1
      have HR2 := Lib.hid hr2
      have HAT := Lib.hid hat
      have hzz : (z != z) = false := by simp
      clear hst hr1 hr2 hat hx HLJ
      obtain ⟨k, o', ky, v', n', lm, t, ⟨i, p, r, cl, cr, bd⟩⟩ := e
      simp only at c0 c1 c2 c3 c4 c5 c6 c7 c8 c9 c10 c11 c12
      go_wp2_with fail
      refine (HR1.out _).mono ?_
      rintro e w3 ⟨rfl, hb3⟩
      have HB3 := Lib.hid (HB.out.trans (hb3.mono HB.out.size))
      obtain ⟨hb3s, d0, d1, d2, d3, d4, d5, d6, d7, d8, d9, d10, d11, d12⟩ := HAT.out _ hb3
      simp only at d0 d1 d2 d3 d4 d5 d6 d7 d8 d9 d10 d11 d12
      clear hb3 c0 c1 c2 c3 c4 c5 c6 c7 c8 c9 c10 c11 c12 HAT HR1 HB
      go_wp2_with fail
      refine (HR2.out _).mono ?_
      rintro e w4 ⟨rfl, hb4⟩
      have HB4 := Lib.hid (HB3.out.trans (hb4.mono HB3.out.size))
      clear hb4 d0 d1 d2 d3 d4 d5 d6 d7 d8 d9 d10 d11 d12 HB3 HR2
      cases ok
      · go_wp2_with fail
        go_roundg (n - (j + 1))
        case measure => have := HJ.out; have := HL.out; omega
        case rel => exact ⟨j + 1, by have := HJ.out; have := HL.out; omega, by rw [HST.out]; rfl, by go_num, HB4.out⟩
      · go_wp2_with fail
        go_roundg (n - (j + 1))
        case measure => have := HJ.out; have := HL.out; omega
        case rel => exact ⟨j + 1, by have := HJ.out; have := HL.out; omega, by rw [HST.out, Bool.true_and], by go_num, HB4.out⟩
    · have he : j = l.length := by have := HJ.out; have := HL.out; omega
      have hsh : ∀ e ∈ l, e.short := fun e he => short_of (HSUM.out e he)
      have hby := bytes_1060 HSUM.out
      have hrb := reads_back l HF.out hsh (by have := HN60.out; omega)
      have hlt : (l.take j).all Ef.right = l.all Ef.right := by rw [he, List.take_length]
      rw [hlt]
      generalize l.all Ef.right = rt at *
      have hby2 : (bytesAll l).length ≤ 63600 := by have := HN60.out; omega
      have HSH := Lib.hid hsh
      have HBY := Lib.hid hby2
      have HRB : BackT (bytesE l) l rt := ⟨hrb⟩
      clear he hlt hsh hby hby2 hrb HSUM
      go_wp2_with fail
      refine (bytesE_ (H.out.below HB.out) HL.out (by omega) HSH.out (by have := HBY.out; omega)).mono ?_
      rintro e w5 ⟨v5, rfl, ho5, hb5⟩
      obtain ⟨A5, c5, rfl, hr5, _, _, ha5⟩ := ownBy_slice ho5
      have hlz : (bytesE l).length ≤ 64000 := by have := HBY.out; rw [bytesE, List.length_append, encInt_len]; omega
      have HB5 := Lib.hid (HB.out.trans (hb5.mono HB.out.size))
      have hve := fun W hW => vbytesE_ (w := W) (c := c) ((H.out.below HB5.out).below hW) HL.out (by omega) HSH.out (by have := HBY.out; omega)
      generalize bytesE l = z at *
      have hcv : (convert 30 9 (.slice A5 z.length c5)).run Try.prog w5.drew = .ok (.string ⟨z.toArray⟩) w5.drew := convert_row z w5.drew A5 w5.heap.size z.length c5 (hr5.same fun _ _ _ => rfl)
      have HR5 := Lib.hid hr5
      have HA5 := Lib.hid ha5
      have HVE := Lib.hid hve
      have HLZ := Lib.hid hlz
      clear ho5 hb5 hr5 ha5 hve hlz HB
      go_wp2_with fail
      go_region_with (go_at_call 11; refine (HVE.out _ ((Below.refl w5.heap.size w5).drew)).mono ?_; rintro e w6 ⟨A6, c6, rfl, hr6, _, _, hb6⟩; have hcv6 := convert_row z w6 A6 w6.heap.size z.length c6 hr6; have hcv7 := convert_row z w6 A5 w5.heap.size z.length c5 (HR5.out.below ((Below.refl w5.heap.size w5).drew.trans hb6)); have HB6 := Lib.hid ((Below.refl w5.heap.size w5).drew.trans hb6); clear hb6 hr6)
      all_goals
        have HB7 := Lib.hid (HB5.out.trans (HB6.out.mono HB5.out.size))
        have HR7 := Lib.hid ((HR5.out.below HB6.out).more HB6.out.size)
        clear hcv hcv6 hcv7 HVE HB6 HR5 HSH HBY
        go_wp2_with fail
        refine (readE_ w6 A5 _ c5 z HR7.out (by have := HLZ.out; omega) HA5.out).mono ?_
        rintro e w8 ⟨v8, rfl, ho8, hb8⟩
        obtain ⟨A8, c8, rfl, hl8, _, _, _⟩ := own_lst ho8
        have HB8 := Lib.hid (HB7.out.trans (hb8.mono HB7.out.size))
        clear ho8 hb8 HR7 HA5 HLZ
        cases rt
        · obtain ⟨k1, k2⟩ := readL_none (xs := z) (by rw [HRB.out]; rfl)
          rw [k1, k2]
          clear k1 k2 hl8 HRB
          go_wp2_with fail
          refine (num_ 11 _).mono ?_
          rintro e w9 ⟨rfl, rfl⟩
          go_wp2_with fail
          go_ret
          exact ⟨rfl, HB8.out⟩
        · obtain ⟨k1, k2⟩ := readL_some (xs := z) (l := l) (by rw [HRB.out]; rfl)
          rw [k1] at hl8
          rw [k1, k2, HL.out]
          have HL8 := Lib.hid hl8
          clear k1 k2 hl8 HRB
          go_wp2_with fail
          refine (num_ 0 _).mono ?_
          rintro e w9 ⟨rfl, rfl⟩
          go_wp2_with fail
          refine (same_efs HL8.out (H.out.below HB8.out) HL.out (by omega)).mono ?_
          rintro e w9 ⟨rfl, hb9⟩
          have HB9 := Lib.hid (HB8.out.trans (hb9.mono HB8.out.size))
          clear hb9
          go_wp2_with fail
          go_ret
          exact ⟨rfl, HB9.out⟩
end Go.Proofs.Ytlapicjbnheioaa
