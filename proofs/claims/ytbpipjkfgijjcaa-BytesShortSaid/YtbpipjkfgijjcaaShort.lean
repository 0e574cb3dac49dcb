/- The law on beginnings of what was written, walked. -/
import Derived.Test.YtbpipjkfgijjcaaAlive
namespace Go.Proofs.Ytbpipjkfgijjcaa
open Go.RowKit
theorem whole_reads (n : Int) (s : List UInt8) (ok : Bool) (h1 : -9223372036854775808 ≤ n) (h2 : n ≤ 9223372036854775807) :
    (⟨encInt n ++ (encText s ++ encFlag ok), false⟩ : Rd).int = (n, ⟨encText s ++ encFlag ok, false⟩) ∧ (⟨encText s ++ encFlag ok, false⟩ : Rd).text = (s.take 65535, ⟨encFlag ok, false⟩) ∧
      (⟨encFlag ok, false⟩ : Rd).flag = (ok, ⟨[], false⟩) :=
  ⟨int_front n _ h1 h2, text_front s _, by have := flag_front ok []; rw [List.append_nil] at this; exact this⟩
set_option maxRecDepth 100000 in
set_option maxHeartbeats 2000000 in
theorem bytesShort (n : Int) (s : ByteArray) (ok : Bool) (cut : Int) (hn1 : -9223372036854775808 ≤ n) (hn2 : n ≤ 9223372036854775807) (hs : s.size ≤ 9223372036854775807) (w : World) :
    Calls Try.prog 6 #[.int .i64 n, .string s, .bool ok, .int .i64 cut] w fun e w' => e = .returned (.bool true) ∧ Below w.heap.size w w' := by
  by_cases hout : 300 < s.size ∨ cut < 0
  · by_cases h : 300 < s.size
    · go_enter Try.func6, Try.ntmps6
      go_wp2_with (go_at_call 7; refine (alive _).mono ?_; rintro e w' ⟨rfl, hb⟩)
      go_ret
      exact ⟨rfl, hb⟩
    · have h' : cut < 0 := by omega
      go_enter Try.func6, Try.ntmps6
      go_wp2_with (go_at_call 7; refine (alive _).mono ?_; rintro e w' ⟨rfl, hb⟩)
      go_ret
      exact ⟨rfl, hb⟩
  · obtain ⟨m, rfl⟩ := Int.eq_ofNat_of_zero_le (show 0 ≤ cut by omega)
    have hs3 : s.size ≤ 300 := by omega
    clear hout hs
    have HN1 := Lib.hid hn1
    have HN2 := Lib.hid hn2
    clear hn1 hn2
    go_enter Try.func6, Try.ntmps6
    go_wp2_with fail
    refine (alive _).mono ?_
    rintro e w1 ⟨rfl, hb⟩
    have K1 := Lib.hid (Keep.of_below (K := Lo w.heap.size) hb)
    clear hb
    go_wp2_with fail
    have W2 := Lib.hid (writer_new w1)
    have K2 := Lib.hid (K1.out.trans (Keep.of_below (K := Lo w.heap.size) (alloc_below w1 (.cells #[.pointer none, .int .i64 0] 27))))
    have hs1 : w.heap.size ≤ w1.heap.size := K1.out.size
    clear K1
    refine (wInt _ _ [] n W2.out (by simp)).mono ?_
    rintro e w3 ⟨rfl, hw3, hk3⟩
    have W3 := Lib.hid hw3
    have K3 := Lib.hid (K2.out.trans (hk3.lo hs1))
    clear hw3 hk3 W2 K2
    have hlen : (encText s.data.toList).length = 2 + s.size := by
      rw [encText_len, List.take_of_length_le (by simp; omega)]; simp
    have HL := Lib.hid hlen
    clear hlen
    go_wp2_with fail
    refine (wText w3 _ _ s W3.out (by simp [encInt_len]) (by omega)).mono ?_
    rintro e w4 ⟨rfl, hw4, hk4⟩
    have W4 := Lib.hid hw4
    have K4 := Lib.hid (K3.out.trans (hk4.lo hs1))
    clear hw4 hk4 W3 K3
    go_wp2_with fail
    refine (wFlag w4 _ _ ok W4.out (by simp [encInt_len, HL.out]; omega)).mono ?_
    rintro e w5 ⟨rfl, hw5, hk5⟩
    have W5 := Lib.hid hw5
    have K5 := Lib.hid (K4.out.trans (hk5.lo hs1))
    clear hw5 hk5 W4 K4
    have hbs : [] ++ encInt n ++ encText s.data.toList ++ encFlag ok = encInt n ++ (encText s.data.toList ++ encFlag ok) := by simp
    have hbl : ([] ++ encInt n ++ encText s.data.toList ++ encFlag ok).length = 11 + s.size := by simp [encInt_len, HL.out, encFlag_len]; omega
    have HBL := Lib.hid hbl
    have HBS := Lib.hid hbs
    clear hbl hbs
    go_wp2_with fail
    refine (wBytes w5 _ _ W5.out (by rw [HBL.out]; omega)).mono ?_
    rintro e w6 ⟨rfl, hb6, hB6⟩
    have K6 := Lib.hid (K5.out.trans (Keep.of_below hB6))
    have B6 := Lib.hid hb6
    rw [HBL.out]
    clear hb6 hB6 K5 W5
    have hm0 : (0 : Int) ≤ (m : Int) % (11 + (s.size : Int)) := Int.emod_nonneg _ (by omega)
    have hm1 : (m : Int) % (11 + (s.size : Int)) ≤ 11 + (s.size : Int) := by have := Int.emod_lt_of_pos (m : Int) (show (0 : Int) < 11 + (s.size : Int) by omega); omega
    have hk : m % (11 + s.size) < 11 + s.size := Nat.mod_lt _ (by omega)
    go_wp2_with fail
    clear hm0 hm1
    generalize m % (11 + s.size) = k at *
    have hrb := (blk_rb B6.out B6.out.lt).take (k := k) (by rw [HBL.out]; omega)
    rw [HBS.out] at hrb
    have RB6 := Lib.hid hrb
    clear hrb
    refine (newReader w6 _ _ _ _ RB6.out (by omega) (fun h => by cases h)).mono ?_
    rintro e w7 ⟨g, rfl, hg, hr, hb7⟩
    have K7 := Lib.hid (K6.out.trans (Keep.of_below hb7))
    have hg0 : w.heap.size ≤ g := by have := K6.out.size; omega
    have hgB : w5.heap.size ≠ g := by have := B6.out.lt; omega
    have R7 := Lib.hid hr
    have B7 := Lib.hid (B6.out.below hb7 B6.out.lt)
    clear hb7 K6 hr RB6 B6
    have ED := Lib.hid (short_bad n s.data.toList ok k (by simpa using hs3) (by rw [← HBS.out, HBL.out]; exact hk))
    go_wp2_with fail
    refine (rdInt _ _ _ _ R7.out).mono ?_
    rintro e w8 ⟨rfl, hr8, hk8⟩
    have R8 := Lib.hid hr8
    have K8 := Lib.hid (K7.out.trans (hk8.lo hg0))
    have B8 := Lib.hid (B7.out.keep hk8 hgB)
    clear hr8 hk8 K7 R7 B7
    generalize (⟨(encInt n ++ (encText s.data.toList ++ encFlag ok)).take k, false⟩ : Rd) = r0 at *
    go_wp2_with fail
    refine (rdText _ _ _ _ R8.out).mono ?_
    rintro e w9 ⟨rfl, hr9, hk9⟩
    have R9 := Lib.hid hr9
    have K9 := Lib.hid (K8.out.trans (hk9.lo hg0))
    have B9 := Lib.hid (B8.out.keep hk9 hgB)
    clear hr9 hk9 K8 R8 B8
    go_wp2_with fail
    refine (rdFlag _ _ _ _ R9.out).mono ?_
    rintro e wa ⟨rfl, hra, hka⟩
    have Ra := Lib.hid hra
    have Ka := Lib.hid (K9.out.trans (hka.lo hg0))
    have Ba := Lib.hid (B9.out.keep hka hgB)
    clear hra hka K9 R9 B9
    go_wp2_with fail
    refine (rdDone_at Ra.out ED.out).mono ?_
    rintro e wb ⟨rfl, rfl⟩
    clear Ra ED
    go_wp2_with fail
    refine (newReader_of Ba.out (by rw [HBL.out]; omega) (by rw [HBL.out])).mono ?_
    rintro e wc ⟨g2, rfl, hg2, hrc, hbc⟩
    have Kc := Lib.hid (Ka.out.trans (Keep.of_below hbc))
    have hgc : w.heap.size ≤ g2 := by have := Ka.out.size; omega
    have hrc' := hrc
    rw [HBS.out] at hrc'
    have Rc := Lib.hid hrc'
    clear hbc Ka hrc hrc' Ba
    obtain ⟨e1, e2, e3⟩ := whole_reads n s.data.toList ok HN1.out HN2.out
    have E1 := Lib.hid e1
    have E2 := Lib.hid e2
    have E3 := Lib.hid e3
    clear e1 e2 e3 HBL HBS HN1 HN2 HL
    go_wp2_with fail
    refine (rdInt_at Rc.out E1.out).mono ?_
    rintro e wd ⟨rfl, hrd, hkd⟩
    have Rd' := Lib.hid hrd
    have Kd := Lib.hid (Kc.out.trans (hkd.lo hgc))
    clear hrd hkd Kc Rc
    go_wp2_with fail
    refine (rdText_at Rd'.out E2.out).mono ?_
    rintro e we ⟨rfl, hre, hke⟩
    have Re := Lib.hid hre
    have Ke := Lib.hid (Kd.out.trans (hke.lo hgc))
    clear hre hke Kd Rd'
    go_wp2_with fail
    refine (rdFlag_at Re.out E3.out).mono ?_
    rintro e wf ⟨rfl, hrf, hkf⟩
    have Rf := Lib.hid hrf
    have Kf := Lib.hid (Ke.out.trans (hkf.lo hgc))
    clear hrf hkf Ke Re E1 E2 E3
    go_wp2_with fail
    refine (rdDone_at Rf.out done_end).mono ?_
    rintro e wg ⟨rfl, rfl⟩
    go_wp2_with fail
    refine (rdFlag_at Rf.out flag_end).mono ?_
    rintro e wh ⟨rfl, hrh, hkh⟩
    have Rh := Lib.hid hrh
    have Kh := Lib.hid (Kf.out.trans (hkh.lo hgc))
    clear hrh hkh Kf Rf
    go_wp2_with fail
    refine (rdDone_at Rh.out (done_bad _)).mono ?_
    rintro e wi ⟨rfl, rfl⟩
    go_wp2_with fail
    refine (rdInt_at Rh.out (int_bad _)).mono ?_
    rintro e wj ⟨rfl, hrj, hkj⟩
    have Rj := Lib.hid hrj
    have Kj := Lib.hid (Kh.out.trans (hkj.lo hgc))
    clear hrj hkj Kh Rh
    go_wp2_with fail
    refine (rdText_at Rj.out (text_bad _)).mono ?_
    rintro e wk ⟨rfl, hrk, hkk⟩
    have Kk := Lib.hid (Kj.out.trans (hkk.lo hgc))
    clear hrk hkk Kj Rj
    go_wp2
    go_ret
    exact ⟨rfl, Kk.out.end⟩
end Go.Proofs.Ytbpipjkfgijjcaa
