/- EffectReads, walked. -/
import Derived.Test.YtlapicjbnheioaaEfL
import Derived.Test.YtlapicjbnheioaaEfT
import Derived.Test.YtlapicjbnheioaaCpN
set_option maxRecDepth 4000
namespace Go.Proofs.Ytlapicjbnheioaa
open Go.RowKit
theorem opt_len {r : Rd} {k m : Nat} (hk : k ≤ m) (b : Bool) : ((if b = true then some (r.efs k).1 else none).getD []).length ≤ m := by
  cases b
  · exact Nat.zero_le _
  · have hl := efs_len r k
    show (r.efs k).1.length ≤ m
    rw [hl]; exact hk
theorem readL_out (xs : List UInt8) (h : ¬ (0 ≤ (⟨xs, false⟩ : Rd).int.1 ∧ (⟨xs, false⟩ : Rd).int.1 ≤ 10000)) : readL xs = [] := (readL_none (reads_none_out h)).1
theorem readL_in (xs : List UInt8) (h0 : 0 ≤ (⟨xs, false⟩ : Rd).int.1) (h1 : (⟨xs, false⟩ : Rd).int.1 ≤ 10000) : (readL xs).length ≤ 10000 := by
  rw [readL, reads_end h0 h1]
  refine opt_len ?_ _
  generalize (⟨xs, false⟩ : Rd).int.1 = q at *
  omega
theorem readL_len (xs : List UInt8) : (readL xs).length ≤ 10000 := by
  rcases Classical.em (0 ≤ (⟨xs, false⟩ : Rd).int.1 ∧ (⟨xs, false⟩ : Rd).int.1 ≤ 10000) with h | h
  · exact readL_in xs h.1 h.2
  · have h2 := readL_out xs h
    have h3 : (readL xs).length = 0 := by rw [h2]; rfl
    omega
set_option maxHeartbeats 2000000 in
theorem effectReads (A : Option Addr) (n c : Nat) (xs : List UInt8) (w : World) (h : RB w w.heap.size A n xs) (hc : n ≤ c) (hm : c ≤ maxLen) :
    Calls Try.prog 4 #[.slice A n c] w fun e w' => e = .returned (.bool true) ∧ Below w.heap.size w w' := by
  by_cases hn : 3000 < (n : Int)
  · clear h
    go_enter Try.func4, Try.ntmps4
    go_wp2_with fail
    refine (alive_ _).mono ?_
    rintro e w1 ⟨rfl, hb1⟩
    have HB1 := Lib.hid hb1
    clear hb1
    go_wp2_with fail
    go_ret
    exact ⟨rfl, HB1.out⟩
  have hn' : n ≤ 3000 := by omega
  have HC := Lib.hid hc
  have HM := Lib.hid hm
  have H := Lib.hid h
  clear h hc hm
  go_enter Try.func4, Try.ntmps4
  go_wp2_with fail
  refine (alive_ _).mono ?_
  rintro e w1 ⟨rfl, hb1⟩
  have HB1 := Lib.hid hb1
  have H1 := Lib.hid (H.out.below hb1)
  clear hb1 H
  obtain ⟨A2, c2, w2, hap, hr2, ha2, hb2⟩ := copy_nil (c := c) H1.out (by omega)
  have HR2 := Lib.hid hr2
  have HA2 := Lib.hid ha2
  have HB2 := Lib.hid (HB1.out.trans (hb2.mono HB1.out.size))
  have H2 := Lib.hid (H1.out.below (hb2.mono HB1.out.size))
  clear hr2 ha2 hb2 HB1 H1
  go_wp2_with (at_builtin; refine wpList_append_run rfl (.const (.slice none 0 0)) (.tmp 18) 30 30 rfl _ _ rfl rfl hap ?_)
  refine (readE_ w2 A2 n c2 xs HR2.out (by omega) HA2.out).mono ?_
  rintro e w3 ⟨v3, rfl, ho3, hb3⟩
  have HO3 := Lib.hid ho3
  have HB3 := Lib.hid (HB2.out.trans (hb3.mono HB2.out.size))
  have H3 := Lib.hid (H2.out.below (hb3.mono HB2.out.size))
  clear ho3 hb3 HB2 H2 HR2 HA2 hap
  go_wp2_with fail
  refine (rreadE_ w3 A n c w.heap.size xs H3.out HB3.out.size HC.out HM.out).mono ?_
  rintro e w4 ⟨v4, rfl, ho4, hb4⟩
  obtain ⟨A3, c3, rfl, hl3, _, _, _⟩ := own_lst (own_belowE HO3.out hb4)
  obtain ⟨A4, c4, rfl, hl4, _, _, _⟩ := own_lst ho4
  have HB4 := Lib.hid (HB3.out.trans (hb4.mono HB3.out.size))
  have HL3 := Lib.hid hl3
  have HL4 := Lib.hid hl4
  have hlen := readL_len xs
  generalize readL xs = l at *
  generalize readN xs = q at *
  have HLEN := Lib.hid hlen
  clear ho4 hb4 hl3 hl4 hlen HO3 HB3 H3
  go_wp2_with fail
  refine (same_efs HL3.out HL4.out rfl (by have := HLEN.out; omega)).mono ?_
  rintro e w5 ⟨rfl, hb5⟩
  have HB5 := Lib.hid (HB4.out.trans (hb5.mono HB4.out.size))
  clear hb5 HB4 HL3 HL4
  go_wp2_with fail
  refine (num_ q _).mono ?_
  rintro e w6 ⟨rfl, rfl⟩
  go_wp2_with fail
  go_ret
  exact ⟨retM (by simp), HB5.out⟩
end Go.Proofs.Ytlapicjbnheioaa
