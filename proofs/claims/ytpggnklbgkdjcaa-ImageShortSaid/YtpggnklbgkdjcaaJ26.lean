/- The laws of package image, over what its two calls answer (BytesOk, ReadOk: to be paid by the package's own texts). -/
import Derived.Test.YtpggnklbgkdjcaaJ14
import Derived.Test.YtpggnklbgkdjcaaJ23
import Derived.Test.YtpggnklbgkdjcaaJ24
import Derived.Test.YtpggnklbgkdjcaaJ25
import Derived.Test.YtpggnklbgkdjcaaJ20
import Derived.Deep.RegionWith
import Derived.Deep.RegionHeld3
import Derived.Deep.DeepCutAuto
set_option maxRecDepth 4000
namespace Go.Proofs.Ytpggnklbgkdjcaa
open Go.RowKit
/-- Bytes answers what the document says of any state whose lists are short enough -/
def BytesOk : Prop := ∀ (w : World) (K : Nat → Prop) (s : Sv) (xs : List Oc), ObsAt w K s xs → (∀ x ∈ xs, x.o.short 450) → (∀ x ∈ xs, x.o.fits) → (∀ x ∈ xs, ∀ r ∈ x.o.rows, r.1.size ≤ maxLen) → ∀ next : Int, (RightD next (obsOf xs) → (imageB next (obsOf xs)).length ≤ 500000) →
  Calls Try.prog 7 #[.agg #[.int .i64 next, .slice s.a s.n s.c]] w fun e w' => ImgP (imgS next (obsOf xs)) e w' ∧ Below w.heap.size w w'
/-- the state that was read, or why there is none -/
def ReadP (p : Option (Int × List Ob)) (e : Ending) (w' : World) : Prop :=
  ∃ (next : Int) (s : Sv) (xs : List Oc) (no : Int), e = .returned (.tuple #[.agg #[.int .i64 next, .slice s.a s.n s.c], .int .i64 no]) ∧ ObsAt w' (fun _ => True) s xs ∧ (p = none → no = 11) ∧ (∀ q, p = some q → no = 0 ∧ next = q.1 ∧ obsOf xs = q.2)
/-- Read answers what these bytes tell -/
def ReadOk : Prop := ∀ (w : World) (B n c : Nat) (A : Option Addr) (bs : List UInt8), RB w B A n bs → B ≤ w.heap.size → n ≤ 500000 → ((objsR ⟨bs, false⟩).done = true → ∀ o ∈ objsV ⟨bs, false⟩, o.short 450 ∧ o.fits) → (A = none → c = 0) → n ≤ c → c ≤ maxLen →
  Calls Try.prog 10 #[.slice A n c] w fun e w' => ReadP (readI bs) e w' ∧ Below w.heap.size w w'
theorem num_i (n : Int) (w : World) : Calls Try.prog 11 #[.int .i64 n] w fun e w' => e = .returned (.int .i64 n) ∧ w = w' := by
  go_enter Try.func11, Try.ntmps11
  go_wp2
  go_ret
  exact ⟨rfl, rfl⟩
theorem nil_bad : (objsR ⟨[], false⟩).bad = true := by
  unfold objsR
  exact ob_law.cnt.sticky _ rfl
theorem readI_nil : readI [] = none := readI_bad nil_bad
theorem right_none4 : RightD 4 [] := ⟨by omega, by omega, by simp, fun i h => absurd h (Nat.not_lt_zero _), fun i h => absurd h (Nat.not_lt_zero _)⟩
theorem imgok_none : ImgOk 4 [] := ⟨right_none4, fun o ho => (by cases ho), fun o ho => (by cases ho)⟩
theorem img_none : imgS 4 [] = imageB 4 [] := by unfold imgS; rw [if_pos right_none4.right]
structure ShutL (p : Prop) : Prop where out : p
set_option maxHeartbeats 4000000 in
theorem alive_i (HB : BytesOk) (HR : ReadOk) (w : World) : Calls Try.prog 5 #[] w fun e w' => e = .returned (.bool true) ∧ Below w.heap.size w w' := by
  have h0 := HR w w.heap.size 0 0 none [] (RB.nil_ _) (Nat.le_refl _) (by omega) (fun h => by rw [Rd.done, nil_bad] at h; cases h) (fun _ => rfl) (Nat.le_refl _) (by unfold maxLen; omega)
  rw [readI_nil] at h0
  have H0 := ShutL.mk h0
  have HBY := ShutL.mk HB
  have HRD := ShutL.mk HR
  clear h0 HB HR
  go_enter Try.func5, Try.ntmps5
  go_wp2_with fail
  refine H0.out.mono ?_
  rintro e w1 ⟨⟨nx, ⟨A1, n1, c1⟩, xs1, no, rfl, hat, h11, _⟩, hb1⟩
  obtain rfl := h11 rfl
  have k1 := alloc_below w1 (.cells #[.int .i64 nx, .slice A1 n1 c1] 24)
  have HB1 := ShutL.mk (hb1.trans (k1.mono hb1.size))
  clear hat h11 hb1 k1 H0
  go_wp2_with fail
  generalize w1.alloc (.cells #[.int .i64 nx, .slice A1 n1 c1] 24) = w2 at *
  have hbyt := HBY.out w2 (fun _ => True) ⟨none, 0, 0⟩ [] ⟨SlK.none_ _ _ _, fun x hx => by cases hx⟩ (fun x hx => by cases hx) (fun x hx => by cases hx) (fun x hx => by cases hx) 4 (fun _ => by simp [imageB, obsB, encInt_len])
  rw [show obsOf ([] : List Oc) = [] from rfl, img_none] at hbyt
  refine hbyt.mono ?_
  rintro e w3 ⟨⟨A3, c3, rfl, hr3, hc3, hm3⟩, hb3⟩
  have HB3 := ShutL.mk (HB1.out.trans (hb3.mono HB1.out.size))
  have hbk := imgok_none.back
  have hfr := imgok_none.front []
  rw [List.append_nil] at hfr
  have hln : (imageB 4 []).length ≤ 500000 := by simp [imageB, obsB, encInt_len]
  have hlp : 0 < (imageB 4 []).length := by simp [imageB, obsB, encInt_len]
  have hrd := HRD.out w3 w3.heap.size (imageB 4 []).length c3 A3 (imageB 4 []) hr3 (Nat.le_refl _) hln (fun _ o ho => by rw [hfr.2.1] at ho; cases ho) (fun hA => by obtain ⟨b, o, e, _⟩ := hr3.2 hlp; rw [hA] at e; cases e) hc3 hm3
  rw [hbk] at hrd
  have HRD3 := ShutL.mk hrd
  clear hbyt hb3 hr3 hc3 hm3 hbk hfr hrd hln HB1 HBY HRD
  generalize (imageB 4 []).length = m at *
  go_wp2_with fail
  refine HRD3.out.mono ?_
  rintro e w4 ⟨⟨nx4, ⟨A4, n4, c4⟩, xs4, no4, rfl, hat4, _, h4⟩, hb4⟩
  obtain ⟨rfl, rfl, hob⟩ := h4 _ rfl
  have hn4 : n4 = 0 := by
    have h1 := hat4.row.len
    have h2 := congrArg List.length hob
    simp only [obsOf, List.length_map, List.length_nil] at h2
    exact h1.trans h2
  subst hn4
  have k4 := alloc_below w4 (.cells #[.int .i64 4, .slice A4 0 c4] 24)
  have HB4 := ShutL.mk ((HB3.out.trans (hb4.mono HB3.out.size)).trans (k4.mono (Nat.le_trans HB3.out.size hb4.size)))
  have hbl := Blk.new w4 24 #[.int .i64 4, .slice A4 0 c4]
  have d0 := hbl.cell 0
  have d1 := hbl.cell 1
  simp only [List.getElem?_toArray, List.getElem?_cons_zero, List.getElem?_cons_succ] at d0 d1
  clear hat4 hob h4 hb4 k4 hbl HRD3 HB3
  go_wp2_with (go_at_call 11; refine (num_i _ _).mono ?_; rintro e w5 ⟨rfl, rfl⟩)
  go_ret
  exact ⟨rfl, HB4.out⟩
set_option maxHeartbeats 8000000 in
theorem imageBytes (HB : BytesOk) (HR : ReadOk) {w : World} {K : Nat → Prop} {s : Sv} {xs : List Oc} (h : ObsAt w K s xs) (hz : ∀ x ∈ xs, OcSz w x) (next : Int) :
    Calls Try.prog 3 #[.agg #[.int .i64 next, .slice s.a s.n s.c]] w fun e w' => e = .returned (.bool true) ∧ Below w.heap.size w w' := by
  have hreach : ∀ o ∈ obsOf xs, o.short 140737488351232 := fun o ho => by
    obtain ⟨x, hx, rfl⟩ := List.mem_map.1 ho
    obtain ⟨a, b, c⟩ := (hz x hx).sz
    unfold reachBytes at a b c
    exact ⟨by omega, by omega, by omega⟩
  have hal := alive_i HB HR
  have HAL := ShutL.mk hal
  have HBY := ShutL.mk HB
  have HRD := ShutL.mk HR
  obtain ⟨A, n, c⟩ := s
  have HB0 := ShutL.mk (alloc_below w (.cells #[.int .i64 next, .slice A n c] 24))
  have HX0 := ShutL.mk (Blk.new w 24 #[.int .i64 next, .slice A n c])
  have HH := ShutL.mk h
  have HZ := ShutL.mk hz
  have HRE := ShutL.mk hreach
  clear h hz hreach hal HB HR
  go_enter Try.func3, Try.ntmps3
  go_wp2_with fail
  refine (HAL.out _).mono ?_
  rintro e w1 ⟨rfl, hb1⟩
  have HB1 := ShutL.mk (HB0.out.trans (hb1.mono HB0.out.size))
  have HX1 := ShutL.mk (HX0.out.below hb1 HX0.out.lt)
  have d0 := HX1.out.cell 0
  have d1 := HX1.out.cell 1
  simp only [List.getElem?_toArray, List.getElem?_cons_zero, List.getElem?_cons_succ] at d0 d1
  clear hb1 HB0 HX0
  go_wp2_with fail
  refine (few_ (HH.out.below HB1.out) HRE.out next).mono ?_
  rintro e w2 ⟨⟨b, rfl, hfew⟩, hb2⟩
  have HB2 := ShutL.mk (HB1.out.trans (hb2.mono HB1.out.size))
  have HX2 := ShutL.mk (HX1.out.below hb2 HX1.out.lt)
  clear hb2 HB1 HX1 d0 d1
  cases b
  · clear hfew
    go_wp2_with fail
    go_ret
    exact ⟨rfl, HB2.out⟩
  have hfw := hfew (by first | rfl | trivial)
  have HFW := ShutL.mk hfw
  clear hfew hfw
  have d0 := HX2.out.cell 0
  have d1 := HX2.out.cell 1
  simp only [List.getElem?_toArray, List.getElem?_cons_zero, List.getElem?_cons_succ] at d0 d1
  have hsh : ∀ x ∈ xs, x.o.short 450 := fun x hx => by
    obtain ⟨a, b, c⟩ := HFW.out.short _ (List.mem_map_of_mem hx)
    exact ⟨by omega, by omega, by omega⟩
  have HSH := ShutL.mk hsh
  have hkey : ∀ x ∈ xs, ∀ r ∈ x.o.rows, r.1.size ≤ maxLen := fun x hx => (HZ.out x hx).inn.keys
  have hfit : ∀ x ∈ xs, x.o.fits := fun x hx => (HZ.out x hx).inn.fits
  have hsmall : RightD next (obsOf xs) → (imageB next (obsOf xs)).length ≤ 40016 := fun k => Nat.le_trans (image_le _ _) (sizeD_few k HFW.out)
  have hby : ∀ W, Below w.heap.size w W → Calls Try.prog 7 #[.agg #[.int .i64 next, .slice A n c]] W fun e w' => ImgP (imgS next (obsOf xs)) e w' ∧ Below W.heap.size W w' := fun W k =>
    HBY.out W K ⟨A, n, c⟩ xs (HH.out.below k) hsh hfit hkey next fun r => by have := hsmall r; omega
  have hvi : ∀ W, Below w.heap.size w W → Calls Try.prog 8 #[.agg #[.int .i64 next, .slice A n c]] W fun e w' => ImgP (imgS next (obsOf xs)) e w' ∧ Below W.heap.size W w' := fun W k =>
    vimage_ (s := ⟨A, n, c⟩) (HH.out.below k) hsh hkey next fun r => by have := hsmall r; omega
  have hrs : ∀ W, Below w.heap.size w W → Calls Try.prog 9 #[.agg #[.int .i64 next, .slice A n c]] W fun e w' => RightP next (obsOf xs) e ∧ Below W.heap.size W w' := fun W k =>
    rstate_ (s := ⟨A, n, c⟩) (HH.out.below k) hsh hkey next
  have hzl : (imgS next (obsOf xs)).length ≤ 40016 := by
    unfold imgS
    split
    · rename_i hr
      exact hsmall (right_of hr)
    · exact Nat.zero_le _
  have himg : RightD next (obsOf xs) → ImgOk next (obsOf xs) ∧ imgS next (obsOf xs) = imageB next (obsOf xs) ∧ sizeD (obsOf xs) ≤ 40016 ∧ (imgS next (obsOf xs)).length ≤ sizeD (obsOf xs) := fun k => by
    have e : imgS next (obsOf xs) = imageB next (obsOf xs) := by unfold imgS; rw [if_pos k.right]
    refine ⟨⟨k, fun o ho => ?_, fun o ho => ?_⟩, e, sizeD_few k HFW.out, by rw [e]; exact image_le _ _⟩
    · obtain ⟨x, hx, rfl⟩ := List.mem_map.1 ho
      exact hfit x hx
    · obtain ⟨a, b, c⟩ := HFW.out.short o ho
      exact ⟨by omega, by omega, by omega⟩
  have hno : ¬ RightD next (obsOf xs) → (imgS next (obsOf xs)).length = 0 := fun k => by
    unfold imgS
    rw [if_neg fun r => k (right_of r)]
    rfl
  have HBV := ShutL.mk hby
  have HVI := ShutL.mk hvi
  have HRS := ShutL.mk hrs
  have HZL := ShutL.mk hzl
  have HIMG := ShutL.mk himg
  have HNO := ShutL.mk hno
  clear hsh hkey hfit hsmall hby hvi hrs hzl himg hno HBY
  generalize imgS next (obsOf xs) = z at *
  go_wp2_with fail
  refine (HBV.out _ HB2.out).mono ?_
  rintro e w3 ⟨⟨A5, c5, rfl, hr5, hc5, hm5⟩, hb3⟩
  have HB3 := ShutL.mk (HB2.out.trans (hb3.mono HB2.out.size))
  have HX3 := ShutL.mk (HX2.out.below hb3 HX2.out.lt)
  clear hb3 HB2 HX2 d0 d1 HBV
  have d0 := HX3.out.cell 0
  have d1 := HX3.out.cell 1
  simp only [List.getElem?_toArray, List.getElem?_cons_zero, List.getElem?_cons_succ] at d0 d1
  have hcv : (convert 27 9 (.slice A5 z.length c5)).run Try.prog w3.drew = .ok (.string ⟨z.toArray⟩) w3.drew := convert_row z w3.drew A5 w3.heap.size z.length c5 (hr5.same fun _ _ _ => rfl)
  have HR5 := ShutL.mk hr5
  have HC5 := ShutL.mk hc5
  have HM5 := ShutL.mk hm5
  clear hr5 hc5 hm5
  go_upto_region 5 with fail
  go_cut [23] (fun v wx => v = .bool false ∧ Below w3.heap.size w3 wx)
  case first =>
    have e0 : w3.drew.cell? ⟨w.heap.size, 0, none⟩ = some (.int .i64 next) := d0
    have e1 : w3.drew.cell? ⟨w.heap.size, 1, none⟩ = some (.slice A n c) := d1
    go_region_with (go_at_call 8; refine (HVI.out _ HB3.out.drew).mono ?_; rintro e w6 ⟨⟨A6, c6, rfl, hr6, _, _⟩, hb6⟩; have hcv6 := convert_row z w6 A6 w6.heap.size z.length c6 hr6; have hcv7 := convert_row z w6 A5 w3.heap.size z.length c5 (HR5.out.below ((Below.refl w3.heap.size w3).drew.trans hb6)); have HB6 := ShutL.mk ((Below.refl w3.heap.size w3).drew.trans hb6); clear hb6 hr6)
    all_goals (go_wp2_with fail; go_meet; exact ⟨rfl, HB6.out⟩)
  case rest =>
    obtain ⟨rfl, hb6⟩ := hcut
    have HB6 := ShutL.mk (HB3.out.trans (hb6.mono HB3.out.size))
    have HX6 := ShutL.mk (HX3.out.below hb6 HX3.out.lt)
    have HR6 := ShutL.mk (HR5.out.below hb6)
    have hle6 : w3.heap.size ≤ wc.heap.size := hb6.size
    clear hb6 hcv d0 d1 HB3 HX3 HVI HR5
    have d0 := HX6.out.cell 0
    have d1 := HX6.out.cell 1
    simp only [List.getElem?_toArray, List.getElem?_cons_zero, List.getElem?_cons_succ] at d0 d1
    go_wp2_with fail
    refine (HRS.out _ HB6.out).mono ?_
    rintro e w7 ⟨⟨b, rfl, hiff⟩, hb7⟩
    have HB7 := ShutL.mk (HB6.out.trans (hb7.mono HB6.out.size))
    have HX7 := ShutL.mk (HX6.out.below hb7 HX6.out.lt)
    have HR7 := ShutL.mk (HR6.out.below (hb7.mono hle6))
    have hle7 : w3.heap.size ≤ w7.heap.size := Nat.le_trans hle6 hb7.size
    clear hb7 d0 d1 HB6 HX6 HR6 hle6 HRS
    cases b
    · have hl0 := HNO.out fun k => by have := hiff.2 k; simp at this
      clear hiff
      rw [hl0]
      go_wp2_with fail
      go_ret
      exact ⟨rfl, HB7.out⟩
    · obtain ⟨hok, hze, hsd, hls⟩ := HIMG.out (hiff.1 (by first | rfl | trivial))
      have hbk := hok.back
      have hfr := hok.front []
      rw [List.append_nil] at hfr
      rw [← hze] at hbk hfr
      have hlp : 0 < z.length := by rw [hze]; simp only [imageB, List.length_append, encInt_len]; omega
      have hrd := HRD.out w7 w3.heap.size z.length c5 A5 z HR7.out hle7 (by have := HZL.out; omega) (fun _ o ho => by
        rw [hfr.2.1] at ho
        refine ⟨?_, hok.fits o ho⟩
        obtain ⟨x, hx, rfl⟩ := List.mem_map.1 ho
        exact HSH.out x hx) (fun hA => by obtain ⟨b, o, e, _⟩ := HR7.out.2 hlp; rw [hA] at e; cases e) HC5.out HM5.out
      rw [hbk] at hrd
      have HRD7 := ShutL.mk hrd
      have HSD := ShutL.mk hsd
      have HLS := ShutL.mk hls
      have d0 := HX7.out.cell 0
      have d1 := HX7.out.cell 1
      simp only [List.getElem?_toArray, List.getElem?_cons_zero, List.getElem?_cons_succ] at d0 d1
      clear hiff hok hze hsd hls hbk hfr hlp hrd HRD HR7 HIMG HNO HZL
      generalize z.length = m at *
      go_wp2_with fail
      refine HRD7.out.mono ?_
      rintro e w8 ⟨⟨nx, ⟨A8, n8, c8⟩, ys, no, rfl, hat, _, h8⟩, hb8⟩
      obtain ⟨rfl, rfl, hob⟩ := h8 _ rfl
      have k8 := alloc_below w8 (.cells #[.int .i64 nx, .slice A8 n8 c8] 24)
      have HB8 := ShutL.mk ((HB7.out.trans (hb8.mono HB7.out.size)).trans (k8.mono (Nat.le_trans HB7.out.size hb8.size)))
      have HX8 := ShutL.mk ((HX7.out.below hb8 HX7.out.lt).alloc (.cells #[.int .i64 nx, .slice A8 n8 c8] 24))
      have HY8 := ShutL.mk (Blk.new w8 24 #[.int .i64 nx, .slice A8 n8 c8])
      have HAT := ShutL.mk (hat.below k8)
      have HOB := ShutL.mk (show obsOf ys = obsOf xs from hob)
      have hxlt := (HX7.out.below hb8 HX7.out.lt).lt
      clear hat h8 hob hb8 k8 d0 d1 HB7 HX7 HRD7
      go_upto_region 10 with fail
      generalize w8.alloc (.cells #[.int .i64 nx, .slice A8 n8 c8] 24) = w9 at *
      have hys : ∀ x ∈ ys, x.o.short 100001 := fun x hx => by
        have hm : x.o ∈ obsOf ys := List.mem_map_of_mem hx
        rw [HOB.out] at hm
        obtain ⟨a, b, c⟩ := HFW.out.short _ hm
        exact ⟨by omega, by omega, by omega⟩
      have hyl : ys.length ≤ 1000000 := by
        have h1 := congrArg List.length HOB.out
        have h2 := HFW.out.len
        simp only [obsOf, List.length_map] at h1 h2
        omega
      have hsame : Calls Try.prog 12 #[.agg #[.int .i64 nx, .slice A8 n8 c8], .agg #[.int .i64 nx, .slice A n c]] w9 fun e w' => e = .returned (.bool true) ∧ Below w9.heap.size w9 w' := same_state (s := ⟨A8, n8, c8⟩) (s2 := ⟨A, n, c⟩) HAT.out (HH.out.below HB8.out) HOB.out hys hyl nx
      have hsize : ∀ W, Below w9.heap.size w9 W → Calls Try.prog 13 #[.agg #[.int .i64 nx, .slice A n c]] W fun e w' => e = .returned (.int .i64 ((sizeD (obsOf xs) : Nat) : Int)) ∧ Below W.heap.size W w' := fun W k => vsize_ (s := ⟨A, n, c⟩) (HH.out.below (HB8.out.trans (k.mono HB8.out.size))) nx (by have := HSD.out; omega)
      have hls := HLS.out
      generalize sizeD (obsOf xs) = Z at *
      have hle : (m : Int) ≤ (Z : Int) := by omega
      have hleg : decide ((m : Int) ≤ (Z : Int)) = true := decide_eq_true hle
      have hlen : decide (m ≤ Z) = true := decide_eq_true hls
      have HSA := ShutL.mk hsame
      have HSI := ShutL.mk hsize
      have d0 := HX8.out.cell 0
      have d1 := HX8.out.cell 1
      have p0 := HY8.out.cell 0
      have p1 := HY8.out.cell 1
      simp only [List.getElem?_toArray, List.getElem?_cons_zero, List.getElem?_cons_succ] at d0 d1 p0 p1
      clear hys hyl hsame hsize hls HAT HOB HSD HLS HFW HSH HZ HRE
      go_wp2_with (go_at_call 11; refine (num_i _ _).mono ?_; rintro e w5 ⟨rfl, rfl⟩)
      refine HSA.out.mono ?_
      rintro e w10 ⟨rfl, hb10⟩
      have HB10 := ShutL.mk hb10
      have e0 := (HX8.out.below hb10 HX8.out.lt).cell 0
      have e1 := (HX8.out.below hb10 HX8.out.lt).cell 1
      simp only [List.getElem?_toArray, List.getElem?_cons_zero, List.getElem?_cons_succ] at e0 e1
      clear hb10 d0 d1 p0 p1 HSA
      go_wp2_with fail
      refine (HSI.out _ HB10.out).mono ?_
      rintro e w11 ⟨rfl, hb11⟩
      have HB11 := ShutL.mk (HB8.out.trans ((HB10.out.trans (hb11.mono HB10.out.size)).mono HB8.out.size))
      clear hb11 e0 e1 HSI HB10 HB8 HX8 HY8
      go_wp2_with fail
      go_ret
      exact ⟨rfl, HB11.out⟩
set_option maxHeartbeats 8000000 in
theorem imageShort (HB : BytesOk) (HR : ReadOk) {w : World} {K : Nat → Prop} {s : Sv} {xs : List Oc} (h : ObsAt w K s xs) (hz : ∀ x ∈ xs, OcSz w x) (next cut : Int) (hcut : (Lit.int .i64 cut).wf = true) :
    Calls Try.prog 4 #[.agg #[.int .i64 next, .slice s.a s.n s.c], .int .i64 cut] w fun e w' => e = .returned (.bool true) ∧ Below w.heap.size w w' := by
  have hhi := wf_hi hcut
  have hreach : ∀ o ∈ obsOf xs, o.short 140737488351232 := fun o ho => by
    obtain ⟨x, hx, rfl⟩ := List.mem_map.1 ho
    obtain ⟨a, b, c⟩ := (hz x hx).sz
    unfold reachBytes at a b c
    exact ⟨by omega, by omega, by omega⟩
  have hal := alive_i HB HR
  have HAL := ShutL.mk hal
  have HBY := ShutL.mk HB
  have HRD := ShutL.mk HR
  obtain ⟨A, n, c⟩ := s
  have HB0 := ShutL.mk (alloc_below w (.cells #[.int .i64 next, .slice A n c] 24))
  have HX0 := ShutL.mk (Blk.new w 24 #[.int .i64 next, .slice A n c])
  have HH := ShutL.mk h
  have HZ := ShutL.mk hz
  have HRE := ShutL.mk hreach
  clear h hz hreach hal HB HR hcut
  go_enter Try.func4, Try.ntmps4
  go_wp2_with fail
  refine (HAL.out _).mono ?_
  rintro e w1 ⟨rfl, hb1⟩
  have HB1 := ShutL.mk (HB0.out.trans (hb1.mono HB0.out.size))
  have HX1 := ShutL.mk (HX0.out.below hb1 HX0.out.lt)
  have d0 := HX1.out.cell 0
  have d1 := HX1.out.cell 1
  simp only [List.getElem?_toArray, List.getElem?_cons_zero, List.getElem?_cons_succ] at d0 d1
  clear hb1 HB0 HX0
  go_wp2_with fail
  refine (few_ (HH.out.below HB1.out) HRE.out next).mono ?_
  rintro e w2 ⟨⟨b, rfl, hfew⟩, hb2⟩
  have HB2 := ShutL.mk (HB1.out.trans (hb2.mono HB1.out.size))
  have HX2 := ShutL.mk (HX1.out.below hb2 HX1.out.lt)
  clear hb2 HB1 HX1 d0 d1
  cases b
  · clear hfew
    go_wp2_with fail
    go_ret
    exact ⟨rfl, HB2.out⟩
  have hfw := hfew (by first | rfl | trivial)
  have HFW := ShutL.mk hfw
  clear hfew hfw
  have d0 := HX2.out.cell 0
  have d1 := HX2.out.cell 1
  simp only [List.getElem?_toArray, List.getElem?_cons_zero, List.getElem?_cons_succ] at d0 d1
  have hsh : ∀ x ∈ xs, x.o.short 450 := fun x hx => by
    obtain ⟨a, b, c⟩ := HFW.out.short _ (List.mem_map_of_mem hx)
    exact ⟨by omega, by omega, by omega⟩
  have hkey : ∀ x ∈ xs, ∀ r ∈ x.o.rows, r.1.size ≤ maxLen := fun x hx => (HZ.out x hx).inn.keys
  have hfit : ∀ x ∈ xs, x.o.fits := fun x hx => (HZ.out x hx).inn.fits
  go_wp2_with fail
  refine (rstate_ (s := ⟨A, n, c⟩) (HH.out.below HB2.out) hsh hkey next).mono ?_
  rintro e w3 ⟨⟨b, rfl, hiff⟩, hb3⟩
  have HB3 := ShutL.mk (HB2.out.trans (hb3.mono HB2.out.size))
  have HX3 := ShutL.mk (HX2.out.below hb3 HX2.out.lt)
  clear hb3 HB2 HX2 d0 d1
  cases b
  · clear hiff
    go_wp2_with fail
    go_ret
    exact ⟨rfl, HB3.out⟩
  have hright := hiff.1 (by first | rfl | trivial)
  have himg : imgS next (obsOf xs) = imageB next (obsOf xs) := by unfold imgS; rw [if_pos hright.right]
  have hle : (imageB next (obsOf xs)).length ≤ 40016 := Nat.le_trans (image_le _ _) (sizeD_few hright HFW.out)
  have hok : ImgOk next (obsOf xs) := ⟨hright, fun o ho => by
    obtain ⟨x, hx, rfl⟩ := List.mem_map.1 ho
    exact hfit x hx, fun o ho => by
    obtain ⟨a, b, c⟩ := HFW.out.short o ho
    exact ⟨by omega, by omega, by omega⟩⟩
  have hlp : 16 ≤ (imageB next (obsOf xs)).length := by simp only [imageB, List.length_append, encInt_len]; omega
  have hby : ∀ W, Below w.heap.size w W → Calls Try.prog 7 #[.agg #[.int .i64 next, .slice A n c]] W fun e w' => ImgP (imageB next (obsOf xs)) e w' ∧ Below W.heap.size W w' := fun W k => by
    have := HBY.out W K ⟨A, n, c⟩ xs (HH.out.below k) hsh hfit hkey next fun r => by omega
    rw [himg] at this
    exact this
  have hopen : ∀ k, k < (imageB next (obsOf xs)).length → (objsR ⟨(imageB next (obsOf xs)).take k, false⟩).done = false := fun k hk => hok.cutO k hk
  have hopen2 : (objsR ⟨imageB next (obsOf xs) ++ [0], false⟩).done = false := hok.moreO 0
  have hr1 : ∀ k, k < (imageB next (obsOf xs)).length → readI ((imageB next (obsOf xs)).take k) = none := fun k hk => hok.cut k hk
  have hr2 : readI (imageB next (obsOf xs) ++ [0]) = none := hok.more 0
  have HBV := ShutL.mk hby
  have HO1 := ShutL.mk hopen
  have HO2 := ShutL.mk hopen2
  have HR1 := ShutL.mk hr1
  have HR2 := ShutL.mk hr2
  clear hiff hright himg hok hby hopen hopen2 hr1 hr2 hsh hkey hfit HBY HFW HZ HRE
  generalize imageB next (obsOf xs) = z at *
  have d0 := HX3.out.cell 0
  have d1 := HX3.out.cell 1
  simp only [List.getElem?_toArray, List.getElem?_cons_zero, List.getElem?_cons_succ] at d0 d1
  by_cases hneg : cut < 0
  · go_wp2_with fail
    go_ret
    exact ⟨rfl, HB3.out⟩
  obtain ⟨q, rfl⟩ := Int.eq_ofNat_of_zero_le (show 0 ≤ cut by omega)
  clear hneg
  go_wp2_with fail
  refine (HBV.out _ HB3.out).mono ?_
  rintro e w5 ⟨⟨A5, c5, rfl, hr5, hc5, hm5⟩, hb5⟩
  have HB5 := ShutL.mk (HB3.out.trans (hb5.mono HB3.out.size))
  have hA5 : A5 = none → c5 = 0 := fun hA => by obtain ⟨b, o, e, _⟩ := hr5.2 (by omega); rw [hA] at e; cases e
  obtain ⟨m, hm⟩ : ∃ m, z.length = m := ⟨_, rfl⟩
  rw [hm] at hr5 hc5 hle hlp ⊢
  have hk : q % m < m := Nat.mod_lt _ (by omega)
  have hqm : ((q : Int)).tmod (m : Int) = ((q % m : Nat) : Int) := rfl
  have hread1 := HRD.out w5 w5.heap.size (q % m) c5 A5 (z.take (q % m)) (hr5.take (by omega)) (Nat.le_refl _) (by omega) (fun hd => by rw [HO1.out _ (by omega)] at hd; cases hd) hA5 (by omega) hm5
  rw [HR1.out _ (by omega)] at hread1
  generalize q % m = k at *
  have hh := headRun A5 m c5 k (by omega)
  have HR5 := ShutL.mk hr5
  have HC5 := ShutL.mk hc5
  have HM5 := ShutL.mk hm5
  have HD1 := ShutL.mk hread1
  have hnz : ¬ (m : Int) = 0 := by omega
  have hnz2 : ¬ m = 0 := by omega
  clear hb5 hr5 hc5 hm5 hread1 hA5 HB3 HX3 HBV HR1 HO1 d0 d1
  go_wp2_with fail
  refine HD1.out.mono ?_
  rintro e w6 ⟨⟨nx6, ⟨A6, n6, c6⟩, xs6, no6, rfl, _, h11, _⟩, hb6⟩
  obtain rfl := h11 rfl
  have k6 := alloc_below w6 (.cells #[.int .i64 nx6, .slice A6 n6 c6] 24)
  have HB6 := ShutL.mk ((HB5.out.trans (hb6.mono HB5.out.size)).trans (k6.mono (Nat.le_trans HB5.out.size hb6.size)))
  have HR6 := ShutL.mk ((HR5.out.below hb6).below (k6.mono hb6.size))
  have hle6 : w5.heap.size ≤ (w6.alloc (.cells #[.int .i64 nx6, .slice A6 n6 c6] 24)).heap.size := Nat.le_trans hb6.size k6.size
  clear h11 hb6 k6 HB5 HR5 HD1 hh hqm
  go_upto_region 8 with fail
  generalize w6.alloc (.cells #[.int .i64 nx6, .slice A6 n6 c6] 24) = w7 at *
  obtain ⟨A7, n7, c7, w8, hap7, ho7, hb7⟩ := copy_own (c := c5) (HR6.out.more hle6) (by omega)
  have HB7 := ShutL.mk (HB6.out.trans (hb7.mono HB6.out.size))
  obtain ⟨A8, n8, c8, w9, hap8, ho8, hb8⟩ := append_zero ho7 hb7.size (by omega)
  have HB8 := ShutL.mk (HB6.out.trans ((hb7.trans hb8).mono HB6.out.size))
  obtain ⟨A9, c9, e9, hr9, hc9, hm9, ha9⟩ := ownBy_slice ho8
  injection e9 with e1 e2 e3
  subst e1 e2 e3
  have hl9 : (z ++ [(0 : UInt8)]).length ≤ 500000 := by rw [List.length_append, hm]; simp; omega
  have hread2 := HRD.out w9 w9.heap.size _ _ _ (z ++ [0]) hr9 (Nat.le_refl _) hl9 (fun hd => by rw [HO2.out] at hd; cases hd) ha9 hc9 hm9
  rw [HR2.out] at hread2
  have HD2 := ShutL.mk hread2
  generalize (z ++ [(0 : UInt8)]).length = n9 at *
  clear hread2 ho7 hb7 ho8 hb8 hr9 hc9 hm9 ha9 hl9 HR6 HB7 HB6 HRD HR2 HO2 hle6
  go_wp2_with (first | (at_builtin; refine wpList_append_run rfl (.const (.slice none 0 0)) (.tmp 45) 27 27 rfl _ _ rfl rfl hap7 ?_) | (at_builtin; refine wpList_append_run rfl (.tmp 46) (.tmp 47) 27 27 rfl _ _ rfl rfl hap8 ?_))
  refine HD2.out.mono ?_
  rintro e w10 ⟨⟨nx10, ⟨A10, n10, c10⟩, xs10, no10, rfl, _, h11, _⟩, hb10⟩
  obtain rfl := h11 rfl
  have k10 := alloc_below w10 (.cells #[.int .i64 nx10, .slice A10 n10 c10] 24)
  have HB10 := ShutL.mk ((HB8.out.trans (hb10.mono HB8.out.size)).trans (k10.mono (Nat.le_trans HB8.out.size hb10.size)))
  clear h11 hb10 k10 HB8 HD2 hap7 hap8
  go_wp2_with (go_at_call 11; refine (num_i _ _).mono ?_; rintro e w11 ⟨rfl, rfl⟩)
  go_ret
  exact ⟨rfl, HB10.out⟩
end Go.Proofs.Ytpggnklbgkdjcaa
