/- WaitsTell: which ring anybody is in, and who is its victim. -/
import Derived.Test.YtoojoldcomokhaaWtL
import Derived.Test.YtoojoldcomokhaaSameI
set_option maxRecDepth 4000
namespace Go.Proofs.Ytoojoldcomokhaa
open Go.RowKit
set_option maxHeartbeats 2000000 in
theorem waitsTell {w : World} {K : Nat → Prop} {A : Option Addr} {l : List (Int × Int)} {n c : Nat} (hl : Lst w K eE A l) (hn : l.length = n) (hw : ∀ e ∈ l, Wf e.1 ∧ Wf e.2) {who : Int} (hwho : Wf who) :
    Calls Try.prog 3 #[.slice A n c, .int .i64 who] w fun e w' => e = .returned (.bool true) ∧ Below w.heap.size w w' := by
  have HL := Lib.hid hl
  have HN := Lib.hid hn
  have HW := Lib.hid hw
  have HO := Lib.hid hwho
  clear hl hn hw hwho
  go_enter Try.func3, Try.ntmps3
  go_wp2_with fail
  refine (alive w).mono ?_
  rintro e w1 ⟨rfl, hb1⟩
  have HB1 := Lib.hid hb1
  clear hb1
  by_cases hmax : 60 < n
  · have h1 : (60 : Int) < (n : Int) := by omega
    go_wp2_with fail
    go_ret
    exact ⟨rfl, HB1.out⟩
  · have hmx : n ≤ 60 := by omega
    have h1 : ¬ ((60 : Int) < (n : Int)) := by omega
    have hlst := HL.out.below HB1.out
    obtain ⟨v', w2, hap, ho2, hg2, _⟩ := append_own tyE (own_nil (E := eE) (T := 30) w1 w1.heap.size) hlst HN.out c (by show 0 + n ≤ _; omega) (Nat.le_refl _)
    rw [List.nil_append] at ho2
    have hb2 : Below w1.heap.size w1 w2 := (Below.refl _ _).grown hg2 (Nat.le_refl _) fun g hg => by simp [Value.ownBlock] at hg
    obtain ⟨A2, c2, rfl, hl2, _⟩ := own_lst ho2
    rw [HN.out] at hl2
    have HAP := Lib.hid hap
    have HL2 := Lib.hid hl2
    have HLX := Lib.hid (hlst.below hb2)
    have HB2 := Lib.hid (HB1.out.trans (hb2.mono HB1.out.size))
    rw [HN.out] at HAP
    clear hlst hap ho2 hg2 hb2 hl2 hmax
    go_wp2_with (at_builtin; refine wpList_append_run rfl (.const (.slice none 0 0)) (.tmp 20) 22 22 rfl _ _ rfl rfl HAP.out ?_)
    refine (victim_ HL2.out HN.out (by omega) HW.out HO.out).mono ?_
    rintro e w3 ⟨r, hr, rfl, hb⟩
    have HR := Lib.hid hr
    have HB3 := Lib.hid (HB2.out.trans (hb.mono HB2.out.size))
    have HL3 := Lib.hid (HL2.out.below hb)
    have HX3 := Lib.hid (HLX.out.below hb)
    clear hr hb HL2 HLX
    go_wp2_with fail
    refine (rvictim_ HX3.out HN.out (by omega) who).mono ?_
    rintro e w4 ⟨r2, hr, rfl, hb⟩
    obtain rfl := hr.unique HR.out
    have HB4 := Lib.hid (HB3.out.trans (hb.mono HB3.out.size))
    have HL4 := Lib.hid (HL3.out.below hb)
    have HX4 := Lib.hid (HX3.out.below hb)
    clear hr hb HL3 HX3
    go_wp2_with fail
    refine (ring_ HL4.out HN.out (by omega) HW.out HO.out).mono ?_
    rintro e w5 ⟨v5, r3, rfl, ho5, hr, hb⟩
    obtain rfl := hr.unique HR.out
    have hrl : r3.length ≤ 60 := by have := hr.short; rw [HN.out] at this; omega
    have HB5 := Lib.hid (HB4.out.trans (hb.mono HB4.out.size))
    have HX5 := Lib.hid (HX4.out.below hb)
    have HO5 := Lib.hid ho5
    clear hr hb HL4 HX4 ho5
    go_wp2_with fail
    refine (rring_ HX5.out HN.out (by omega) who).mono ?_
    rintro e w6 ⟨v6, r4, rfl, ho6, hr, hb⟩
    obtain rfl := hr.unique HR.out
    have HB6 := Lib.hid (HB5.out.trans (hb.mono HB5.out.size))
    obtain ⟨A5, c5, rfl, hl5, _⟩ := own_lst (own_belowE HO5.out hb)
    obtain ⟨A6, c6, rfl, hl6, _⟩ := own_lst ho6
    have HL5 := Lib.hid hl5
    have HL6 := Lib.hid hl6
    clear hr hb HX5 ho6 hl5 hl6 HO5
    go_wp2_with fail
    refine (same_ints HL5.out rfl HL6.out rfl (by omega) (by omega)).mono ?_
    rintro e w7 ⟨rfl, hb⟩
    have HB7 := Lib.hid (HB6.out.trans (hb.mono HB6.out.size))
    have ht : decide (r4 = r4) = true := by simp
    rw [ht]
    clear hb ht
    go_wp2_with fail
    go_ret
    exact ⟨rfl, HB7.out⟩
end Go.Proofs.Ytoojoldcomokhaa
