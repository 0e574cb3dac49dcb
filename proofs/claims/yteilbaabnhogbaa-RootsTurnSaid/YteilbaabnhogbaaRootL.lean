/- What lay and Write do: an image put on the disk, sure ahead of its root. -/
import Derived.Test.YteilbaabnhogbaaRootF
namespace Go.Proofs.Yteilbaabnhogbaa
open Go.RowKit
def WrP (w : World) (gd : Nat) (R : Nat → Prop) (v : Bool → Value) (r : St × Bool) (e : Ending) (w' : World) : Prop := e = .returned (v r.2) ∧ DiskR w' gd R r.1 ∧ Keep (fun i _ => R i) w w'
theorem wrP_done {w w1 w2 : World} {gd : Nat} {R R' : Nat → Prop} {v : Bool → Value} {r : St × Bool} {s1 : St} {b1 : Bool} (hr : r = (s1, b1)) (hd : DiskR w2 gd R' s1) (hb : Below w.heap.size w w1) (hk : Keep (fun i _ => R' i) w1 w2) (hR : ∀ i, R i → R' i ∧ i < w.heap.size) : WrP w gd R v r (.returned (v b1)) w2 := by
  subst hr
  exact ⟨rfl, hd.keep fun i hi => (hR i hi).1, (Keep.of_below (K := fun i _ => R i) hb |>.trans (hk.mono fun i _ _ hi => (hR i hi).1))⟩
set_option maxRecDepth 100000 in
set_option maxHeartbeats 1000000 in
theorem rlay_ {w : World} {gd : Nat} {R : Nat → Prop} {s : St} (h : DiskR w gd R s) (hl : s.lim 400000) (a ar : Nat) (ha : a ≤ 1048576) (har : ar ≤ 1000) {A : Option Addr} {n c : Nat} {b : List UInt8} (hb : Has w R A b) (hn : b.length = n) (hc : n ≤ c) (hx : n ≤ 262144)
    (e : Nat) (he : e ≤ 9223372036854775807) (hrn : (⟨a, ar⟩ : Pl).root e < s.n) :
    Calls Try.prog 17 #[.agg #[.int .i64 (a : Int), .int .i64 (ar : Int)], ptr gd, .int .i64 (e : Int), .slice A n c] w (WrP w gd R .bool ((⟨a, ar⟩ : Pl).lay s e b)) := by
  obtain ⟨s1, b1, hp1⟩ : ∃ s1 b1, s.put ((⟨a, ar⟩ : Pl).image e : Nat) b = (s1, b1) := ⟨_, _, rfl⟩
  obtain ⟨hl1, hn1, hok1⟩ := put_lim hl h.ok hp1
  have hnd : need b.length ≤ 4096 := by unfold need; omega
  have hri := root_lt ⟨a, ar⟩ e
  have him := fun w => image_ a ar e ha har w
  have hro := fun w => root_ a ar e ha w
  have hrb := fun w => rootBytes_ (e := (e : Int)) (n := (n : Int)) ⟨by omega, by omega⟩ ⟨by omega, by omega⟩ w
  have hbox := alloc_below w (.cells #[.int .i64 (a : Int), .int .i64 (ar : Int)] 44)
  have HX0 := Lib.hid (Blk.new w 44 #[.int .i64 (a : Int), .int .i64 (ar : Int)])
  have HB0 := Lib.hid hbox
  have HH := Lib.hid h
  have HB := Lib.hid hb
  have HN := Lib.hid hn
  have HC := Lib.hid hc
  have HX := Lib.hid hx
  have HLIM := Lib.hid (lim_mono (k := 500000) hl (by omega))
  have HP1 := Lib.hid hp1
  have HL1 := Lib.hid (lim_mono (k := 900000) hl1 (by omega))
  have hhi := h.hi
  have HHI := Lib.hid hhi
  have HRN : Hid ((⟨a, ar⟩ : Pl).root e < s1.n) := by rw [hn1]; exact hrn
  have HIM := Lib.hid him
  have HRO := Lib.hid hro
  have HRB := Lib.hid hrb
  clear h hb hn hc hl hl1 hn1 hok1 him hro hrb hbox hhi hp1 hrn hri hnd
  go_enter Try.func17, Try.ntmps17
  go_wp2_with fail
  refine (HIM.out _).mono ?_
  rintro r w1 ⟨rfl, hb1⟩
  have HB1 := Lib.hid (HB0.out.trans (hb1.mono HB0.out.size))
  have HX1 := Lib.hid (HX0.out.below hb1 HX0.out.lt)
  have HD1 := Lib.hid (HH.out.grow HB1.out)
  have HS1 := Lib.hid ((HB.out.below HB1.out).more (K' := fun i => R i ∨ w.heap.size ≤ i ∧ i < w1.heap.size) fun _ _ hi => .inl hi)
  have HRR := Lib.hid (fun i (hi : R i) => (And.intro (.inl hi) (HHI.out i hi) : (R i ∨ w.heap.size ≤ i ∧ i < w1.heap.size) ∧ i < w.heap.size))
  clear hb1
  go_wp2_with fail
  refine (d_put HD1.out HLIM.out HS1.out HN.out HC.out HX.out HP1.out).mono ?_
  rintro r w2 ⟨rfl, hd2, hk2⟩
  have HD2 := Lib.hid hd2
  have HK2 := Lib.hid hk2
  have HX2 := Lib.hid (HX1.out.keep hk2 (.inr ⟨Nat.le_refl _, HX1.out.lt⟩))
  clear hd2 hk2
  cases b1
  · go_wp2_with fail
    go_ret
    exact wrP_done (rlay_1 HP1.out) HD2.out HB1.out HK2.out HRR.out
  · obtain ⟨s2, b2, hp2⟩ : ∃ s2 b2, s1.tryS = (s2, b2) := ⟨_, _, rfl⟩
    have HP2 := Lib.hid hp2
    have HL2 := Lib.hid (tryS_lim HL1.out hp2)
    clear hp2
    go_wp2_with fail
    refine (d_sync HD2.out HP2.out).mono ?_
    rintro r w3 ⟨rfl, hd3, hk3⟩
    have HD3 := Lib.hid hd3
    have HK3 := Lib.hid (HK2.out.trans hk3)
    have HX3 := Lib.hid (HX2.out.keep hk3 (.inr ⟨Nat.le_refl _, HX1.out.lt⟩))
    clear hd3 hk3
    cases b2
    · go_wp2_with fail
      go_ret
      exact wrP_done (rlay_2 HP1.out HP2.out) HD3.out HB1.out HK3.out HRR.out
    · have k0 : w3.cell? ⟨w.heap.size, 0, none⟩ = some (.int .i64 (a : Int)) := by rw [HX3.out.cell]; rfl
      have k1 : w3.cell? ⟨w.heap.size, 1, none⟩ = some (.int .i64 (ar : Int)) := by rw [HX3.out.cell]; rfl
      go_wp2_with fail
      refine (HRO.out _).mono ?_
      rintro r w4 ⟨rfl, hb4⟩
      have HD4 := Lib.hid (HD3.out.below hb4)
      have HK4 := Lib.hid (HK3.out.trans (Keep.of_below hb4))
      clear hb4
      go_wp2_with fail
      refine (HRB.out _).mono ?_
      rintro r w5 ⟨b5, rfl, _, hh5, hb5⟩
      have HD5 := Lib.hid (HD4.out.below hb5)
      have HK5 := Lib.hid (HK4.out.trans (Keep.of_below hb5))
      have HH5 := Lib.hid hh5
      obtain ⟨s3, b3, hp3⟩ : ∃ s3 b3, s2.tryW ((⟨a, ar⟩ : Pl).root e) (rootB e n) = (s3, b3) := ⟨_, _, rfl⟩
      have HP3 := Lib.hid hp3
      have HL3 := Lib.hid (lim_mono (k := 900000) HL2.out.1 (by omega))
      have HP3' : Hid (s2.tryW ((⟨a, ar⟩ : Pl).root e) (rootB e b.length) = (s3, b3)) := by rw [HN.out]; exact hp3
      have HRN2 : Hid ((⟨a, ar⟩ : Pl).root e < s2.n) := by rw [HL2.out.2]; exact HRN.out
      clear hb5 hh5 hp3 k0 k1
      go_wp2_with fail
      refine (d_write HD5.out HL3.out HRN2.out (rootB_length _ _) HH5.out HP3.out).mono ?_
      rintro r w6 ⟨rfl, hd6, hk6⟩
      have HD6 := Lib.hid hd6
      have HK6 := Lib.hid (HK5.out.trans hk6)
      clear hd6 hk6
      cases b3
      · go_wp2_with fail
        go_ret
        exact wrP_done (rlay_3 HP1.out HP2.out HP3'.out) HD6.out HB1.out HK6.out HRR.out
      · obtain ⟨s4, b4, hp4⟩ : ∃ s4 b4, s3.tryS = (s4, b4) := ⟨_, _, rfl⟩
        have HP4 := Lib.hid hp4
        clear hp4
        go_wp2_with fail
        refine (d_sync HD6.out HP4.out).mono ?_
        rintro r w7 ⟨rfl, hd7, hk7⟩
        have HD7 := Lib.hid hd7
        have HK7 := Lib.hid (HK6.out.trans hk7)
        clear hd7 hk7
        cases b4
        · go_wp2_with fail
          go_ret
          exact wrP_done (rlay_4 HP1.out HP2.out HP3'.out HP4.out) HD7.out HB1.out HK7.out HRR.out
        · go_wp2_with fail
          go_ret
          exact wrP_done (rlay_4 HP1.out HP2.out HP3'.out HP4.out) HD7.out HB1.out HK7.out HRR.out
def errno (b : Bool) : Value := .int .i64 (if b then 0 else 12)
/-- an epoch, and an image that fits -/
theorem write_of {w : World} {gd : Nat} {R : Nat → Prop} {s : St} (h : DiskR w gd R s) (hl : s.lim 400000) (a : Nat) (area : Int) (ha : a ≤ 1048576) {A : Option Addr} {n c : Nat} {b : List UInt8} (hb : Has w R A b) (hn : b.length = n) (hc : n ≤ c) (hf : n ≤ cutR area * 64)
    (e : Nat) (he1 : 1 ≤ e) (he : e ≤ 9223372036854775807) (hrn : (⟨a, cutR area⟩ : Pl).root e < s.n) :
    Calls Try.prog 9 #[ptr gd, .int .i64 (a : Int), .int .i64 area, .int .i64 (e : Int), .slice A n c] w (WrP w gd R errno ((⟨a, cutR area⟩ : Pl).lay s e b)) := by
  have hcr := (cutR_range area).2
  have hx : n ≤ 262144 := by omega
  have hnp := fun w => newPlaces_ a ha area w
  have hft : (⟨a, cutR area⟩ : Pl).fits (n : Int) = true := pl_fits_iff.2 ⟨by omega, by simp only; omega⟩
  obtain ⟨ar, har⟩ : ∃ ar, cutR area = ar := ⟨_, rfl⟩
  rw [har] at hcr hrn hnp hft ⊢
  have hfi := fun w => fits_ a ar hcr (n : Int) w
  rw [hft] at hfi
  have HH := Lib.hid h
  have HB := Lib.hid hb
  have HN := Lib.hid hn
  have HC := Lib.hid hc
  have HX := Lib.hid hx
  have HLIM := Lib.hid hl
  have hhi := h.hi
  have HHI := Lib.hid hhi
  have HRN := Lib.hid hrn
  have HNP := Lib.hid hnp
  have HFI := Lib.hid hfi
  clear h hb hn hc hl hnp hfi hrn hft hf har hhi
  go_enter Try.func9, Try.ntmps9
  go_wp2_with fail
  refine (HNP.out _).mono ?_
  rintro r w1 ⟨rfl, hb1⟩
  have HB1 := Lib.hid (hb1.alloc hb1.size (.cells #[.int .i64 (a : Int), .int .i64 (ar : Int)] 44))
  have HX1 := Lib.hid (Blk.new w1 44 #[.int .i64 (a : Int), .int .i64 (ar : Int)])
  clear hb1
  go_wp2_with fail
  refine (HFI.out _).mono ?_
  rintro r w2 ⟨rfl, hb2⟩
  have HB2 := Lib.hid (HB1.out.trans (hb2.mono HB1.out.size))
  have HX2 := Lib.hid (HX1.out.below hb2 HX1.out.lt)
  have HD2 := Lib.hid (HH.out.grow HB2.out)
  have HS2 := Lib.hid ((HB.out.below HB2.out).more (K' := fun i => R i ∨ w.heap.size ≤ i ∧ i < w2.heap.size) fun _ _ hi => .inl hi)
  have HRR := Lib.hid (fun i (hi : R i) => (And.intro (.inl hi) (HHI.out i hi) : (R i ∨ w.heap.size ≤ i ∧ i < w2.heap.size) ∧ i < w.heap.size))
  have k0 : w2.cell? ⟨w1.heap.size, 0, none⟩ = some (.int .i64 (a : Int)) := by rw [HX2.out.cell]; rfl
  have k1 : w2.cell? ⟨w1.heap.size, 1, none⟩ = some (.int .i64 (ar : Int)) := by rw [HX2.out.cell]; rfl
  clear hb2
  go_wp2_with fail
  refine (rlay_ HD2.out HLIM.out a ar ha hcr HS2.out HN.out HC.out HX.out e he HRN.out).mono ?_
  rintro r w3 ⟨rfl, hd3, hk3⟩
  obtain ⟨s1, b1, hp⟩ : ∃ s1 b1, (⟨a, ar⟩ : Pl).lay s e b = (s1, b1) := ⟨_, _, rfl⟩
  rw [hp] at hd3 ⊢
  have HP := Lib.hid hp
  have HD3 := Lib.hid hd3
  have HK3 := Lib.hid hk3
  clear hp hd3 hk3 k0 k1
  cases b1
  · go_wp2_with fail
    go_ret
    exact wrP_done (v := errno) HP.out HD3.out HB2.out HK3.out HRR.out
  · go_wp2_with fail
    go_ret
    exact wrP_done (v := errno) HP.out HD3.out HB2.out HK3.out HRR.out
end Go.Proofs.Yteilbaabnhogbaa
