/- EffectShort, walked. -/
import Derived.Test.YtlapicjbnheioaaEfTl
import Derived.Test.YtlapicjbnheioaaCpN
set_option maxRecDepth 4000
namespace Go.Proofs.Ytlapicjbnheioaa
open Go.RowKit
/-- bytes copied: a row of the call's own -/
theorem copy_own {w : World} {B n c : Nat} {A : Option Addr} {xs : List UInt8} (h : RB w B A n xs) (hn : n ≤ 900000) :
    ∃ A' n' c' W', (Builtin.append_ #[30, 30] 30 #[.slice none 0 0, .slice A n c]).run Try.prog w = .ok (.slice A' n' c') W' ∧ OwnBy W' w.heap.size (.slice A' n' c') xs ∧ Below w.heap.size w W' := by
  obtain ⟨v, W, hrun, ho, hg, _⟩ := append_rb (W := w) (base := w.heap.size) (v := .slice none 0 0) (n := 0) (ys := []) ⟨rfl, .inl ⟨rfl, rfl⟩⟩ h c (by omega) (Nat.le_refl _)
  rw [List.nil_append, Nat.zero_add] at ho
  obtain ⟨A', c', rfl, hr, _, _⟩ := own_rb ho
  have hl := hr.1
  subst hl
  exact ⟨A', _, c', W, hrun, ho, (Below.refl _ _).grown hg (Nat.le_refl _) fun k hk => by simp [Value.ownBlock] at hk⟩
/-- a byte behind a row of the call's own -/
theorem append_zero {w : World} {base : Nat} {v : Value} {ys : List UInt8} (ho : OwnBy w base v ys) (hb : base ≤ w.heap.size) (hl : ys.length ≤ 900000) :
    ∃ A n c W, (Builtin.append_ #[30, 30] 30 #[v, .slice (some ⟨w.heap.size, 0, none⟩) 1 1]).run Try.prog (w.alloc (.cells #[.int .u8 0] 5)) = .ok (.slice A n c) W ∧ OwnBy W base (.slice A n c) (ys ++ [0]) ∧ Below base w W := by
  have hx : Blk (w.alloc (.cells #[.int .u8 0] 5)) w.heap.size 5 (cellsB [0]).toArray := Blk.new w 5 #[.int .u8 0]
  obtain ⟨A, n, c, W, h1, h2, h3, _⟩ := append_by ho hb (alloc_below w (.cells #[.int .u8 0] 5)) hx (by simp; omega)
  exact ⟨A, n, c, W, h1, h2, h3⟩
def ShortRel (w : World) (n : Nat) (k : Nat) (i : Value) (wr : World) : Prop := ∃ j, j + k = n ∧ i = .int .i64 (j : Int) ∧ Below w.heap.size w wr
/-- none is read of it; shut, for the walk would reckon it -/
structure Eleven (z : List UInt8) : Prop where
  out : readN z = 11
/-- what is read of a beginning, and of what was written with more behind; shut, for the walk would reckon it -/
structure NoneT (z : List UInt8) : Prop where
  cut : ∀ k, k < z.length → Eleven (z.take k)
  more : Eleven (z ++ [0])
set_option maxHeartbeats 4000000 in
theorem effectShort {w : World} {A : Option Addr} {n c : Nat} {l : List Ef} (h : Lst w (fun i => i < w.heap.size) eE A l) (hl : l.length = n) (hcm : c ≤ maxLen) (hnc : n ≤ c) (hs : ∀ e ∈ l, e.fits ∧ e.reach) (cut : Int) (hcut : (Lit.int .i64 cut).wf = true) :
    Calls Try.prog 5 #[.slice A n c, .int .i64 cut] w fun e w' => e = .returned (.bool true) ∧ Below w.heap.size w w' := by
  have hhi := wf_hi hcut
  have H := Lib.hid h
  have HL := Lib.hid hl
  have hnm : n ≤ maxLen := Nat.le_trans hnc hcm
  have hcan : ∀ e ∈ l, e.can := fun e he => can_of (hs e he).2
  have HCAN := Lib.hid hcan
  have HNM := Lib.hid hnm
  have HF : Hid (∀ e ∈ l, e.fits) := fun e he => (hs e he).1
  clear h hl hcm hnc hs hcan hnm hcut
  go_enter Try.func5, Try.ntmps5
  go_wp2_with fail
  refine (alive_ _).mono ?_
  rintro e w1 ⟨rfl, hb1⟩
  have HB1 := Lib.hid hb1
  clear hb1
  go_wp2_with fail
  refine (long_ (H.out.below HB1.out) HL.out HNM.out HCAN.out).mono ?_
  rintro e w2 ⟨rfl, hb2⟩
  have HB2 := Lib.hid (HB1.out.trans (hb2.mono HB1.out.size))
  clear hb2 HB1
  cases hlong : longE l
  rotate_left
  · clear hlong
    go_wp2_with fail
    go_ret
    exact ⟨rfl, HB2.out⟩
  obtain ⟨hn60, hsum⟩ := long_no hlong
  have HSUM := Lib.hid hsum
  have HN60 := Lib.hid hn60
  have hn : n ≤ 60 := by have := HL.out; omega
  clear hlong hsum hn60 HCAN HNM
  by_cases hneg : cut < 0
  · go_wp2_with fail
    go_ret
    exact ⟨rfl, HB2.out⟩
  obtain ⟨q, rfl⟩ := Int.eq_ofNat_of_zero_le (show 0 ≤ cut by omega)
  clear hneg
  go_wp2_with fail
  go_loopg [6] n (fun k i wr => ShortRel w n k i wr)
  case atStart => exact ⟨0, by omega, rfl, HB2.out⟩
  case round =>
    obtain ⟨j, hj, rfl, hb⟩ := hrel
    have HJ := Lib.hid hj
    have HB := Lib.hid hb
    clear hj hb HB2
    by_cases hlt : j < n
    · have hx : j < l.length := by rw [HL.out]; exact hlt
      obtain ⟨b, o, rfl, hbs, c0, c1, c2, c3, c4, c5, c6, c7, c8, c9, c10, c11, c12⟩ := (H.out.below HB.out).atE hx
      have hr2 := rrightE_ l[j]
      generalize l[j].right = z at *
      generalize l[j] = e at *
      have HR2 := Lib.hid hr2
      clear hr2 hx
      obtain ⟨k, o', ky, v', n', lm, t, ⟨i, p, r, cl, cr, bd⟩⟩ := e
      simp only at c0 c1 c2 c3 c4 c5 c6 c7 c8 c9 c10 c11 c12
      go_wp2_with fail
      refine (HR2.out _).mono ?_
      rintro e w4 ⟨rfl, hb4⟩
      have HB4 := Lib.hid (HB.out.trans (hb4.mono HB.out.size))
      clear hb4 c0 c1 c2 c3 c4 c5 c6 c7 c8 c9 c10 c11 c12 HB HR2
      cases z
      · go_wp2_with fail
        go_ret
        exact ⟨rfl, HB4.out⟩
      · go_wp2_with fail
        go_roundg (n - (j + 1))
        case measure => have := HJ.out; omega
        case rel => exact ⟨j + 1, by omega, by go_num, HB4.out⟩
    · have hsh : ∀ e ∈ l, e.short := fun e he => short_of (HSUM.out e he)
      have hby := bytes_1060 HSUM.out
      have hn1 : l.length ≤ 10000 := by have := HN60.out; omega
      have hno : NoneT (bytesE l) := ⟨fun k hk => ⟨(readL_none (reads_short l HF.out hsh hn1 k hk)).2⟩, ⟨(readL_none (reads_more l HF.out hsh hn1 0)).2⟩⟩
      have hby2 : (bytesAll l).length ≤ 63600 := by have := HN60.out; omega
      have HSH := Lib.hid hsh
      have HBY := Lib.hid hby2
      clear hsh hby hby2 hn1 HSUM HF
      go_wp2_with fail
      refine (bytesE_ (H.out.below HB.out) HL.out (by omega) HSH.out (by have := HBY.out; omega)).mono ?_
      rintro e w5 ⟨v5, rfl, ho5, hb5⟩
      obtain ⟨A5, c5, rfl, hr5, hc5, hm5, ha5⟩ := ownBy_slice ho5
      have hlz : (bytesE l).length ≤ 64000 := by have := HBY.out; rw [bytesE, List.length_append, encInt_len]; omega
      have hlp : 8 ≤ (bytesE l).length := by rw [bytesE, List.length_append, encInt_len]; omega
      have HB5 := Lib.hid (HB.out.trans (hb5.mono HB.out.size))
      generalize bytesE l = z at *
      generalize hm : z.length = m at *
      have hk : q % m < m := Nat.mod_lt _ (by omega)
      have hcutk := hno.cut (q % m) (by rw [hm]; exact hk)
      have hqm : ((q : Int)).tmod (m : Int) = ((q % m : Nat) : Int) := rfl
      generalize q % m = k at *
      have hh := headRun A5 m c5 k (by omega)
      have HR5 := Lib.hid hr5
      have HA5 := Lib.hid ha5
      clear ho5 hb5 hr5 ha5 HB HSH HBY
      go_wp2_with fail
      refine (readE_ w5 A5 k c5 (z.take k) (HR5.out.take (by omega)) (by omega) HA5.out).mono ?_
      rintro e w6 ⟨v6, rfl, ho6, hb6⟩
      rw [hcutk.out]
      obtain ⟨A6, c6, rfl, hl6, _, _, _⟩ := own_lst ho6
      have HB6 := Lib.hid (HB5.out.trans (hb6.mono HB5.out.size))
      have HR6 := Lib.hid (HR5.out.below hb6)
      obtain ⟨A7, n7, c7, w7, hap7, ho7, hb7⟩ := copy_own (c := c5) HR6.out (by omega)
      have HB7 := Lib.hid (HB6.out.trans (hb7.mono HB6.out.size))
      obtain ⟨A8, n8, c8, w8, hap8, ho8, hb8⟩ := append_zero ho7 hb7.size (by omega)
      have HB8 := Lib.hid (HB6.out.trans (hb7.trans hb8 |>.mono HB6.out.size))
      obtain ⟨A9, c9, e9, hr9, _, _, ha9⟩ := ownBy_slice ho8
      injection e9 with e1 e2 e3
      subst e1 e2 e3
      have hl9 : (z ++ [(0 : UInt8)]).length ≤ 1000000 := by rw [List.length_append, hm]; simp; omega
      generalize (z ++ [(0 : UInt8)]).length = n9 at *
      have HR9 := Lib.hid hr9
      have HA9 := Lib.hid ha9
      have HL9 := Lib.hid hl9
      clear ho6 hb6 hl6 ho7 hb7 ho8 hb8 hr9 ha9 hl9 HR5 HA5 HB5 HR6 HB7 hh hcutk
      go_wp2_with (first | (at_builtin; refine wpList_append_run rfl (.const (.slice none 0 0)) (.tmp 52) 30 30 rfl _ _ rfl rfl hap7 ?_) | (at_builtin; refine wpList_append_run rfl (.tmp 53) (.tmp 54) 30 30 rfl _ _ rfl rfl hap8 ?_))
      refine (readE_ w8 _ _ _ _ HR9.out HL9.out HA9.out).mono ?_
      rintro e w9 ⟨v9, rfl, ho9, hb9⟩
      rw [hno.more.out]
      have HB9 := Lib.hid (HB8.out.trans (hb9.mono HB8.out.size))
      clear ho9 hb9 HR9 HL9 HA9 hap7 hap8 HB8
      go_wp2_with fail
      refine (num_ 11 _).mono ?_
      rintro e w10 ⟨rfl, rfl⟩
      go_wp2_with fail
      refine (num_ 11 _).mono ?_
      rintro e w11 ⟨rfl, rfl⟩
      go_wp2_with fail
      go_ret
      exact ⟨rfl, HB9.out⟩
end Go.Proofs.Ytlapicjbnheioaa
