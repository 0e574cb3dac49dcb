/- The law on texts that are too long, walked. -/
import Derived.Test.YtbpipjkfgijjcaaAlive
namespace Go.Proofs.Ytbpipjkfgijjcaa
open Go.RowKit
theorem zeros (m : Nat) (hm : m ≤ 1000000) : ∃ zs : List UInt8, zs.length = m ∧ ∀ W, (Instr.makeSlice 29 (.int .i64 (m : Int)) (.int .i64 (m : Int))).run Try.prog W =
    .ok (.slice (some ⟨W.heap.size, 0, none⟩) m m) (W.alloc (.cells (cellsB zs).toArray 5)) := ⟨List.replicate m 0, by simp, fun W => made5 m hm W⟩
set_option maxHeartbeats 1000000 in
theorem bytesLong (n : Int) (w : World) : Calls Try.prog 5 #[.int .i64 n] w fun e w' => e = .returned (.bool true) ∧ Below w.heap.size w w' := by
  by_cases hout : n < 0 ∨ 70000 < n
  · rcases hout with h | h
    · go_enter Try.func5, Try.ntmps5
      go_wp2_with (go_at_call 7; refine (alive _).mono ?_; rintro e w' ⟨rfl, hb⟩)
      go_ret
      exact ⟨rfl, hb⟩
    · have h' : ¬ n < 0 := by omega
      go_enter Try.func5, Try.ntmps5
      go_wp2_with (go_at_call 7; refine (alive _).mono ?_; rintro e w' ⟨rfl, hb⟩)
      go_ret
      exact ⟨rfl, hb⟩
  · obtain ⟨m, rfl⟩ := Int.eq_ofNat_of_zero_le (show 0 ≤ n by omega)
    have hm : m ≤ 70000 := by omega
    clear hout
    obtain ⟨zs, hz, hmk⟩ := zeros m (by omega)
    have HZ := Lib.hid hz
    clear hz
    go_enter Try.func5, Try.ntmps5
    go_wp2_with fail
    refine (alive _).mono ?_
    rintro e w1 ⟨rfl, hb⟩
    have K1 := Lib.hid (Keep.of_below (K := Lo w.heap.size) hb)
    clear hb
    have hcv := convert_row zs ((w1.alloc (.cells #[.pointer none, .int .i64 0] 27)).alloc (.cells (cellsB zs).toArray 5)) (some ⟨w1.heap.size + 1, 0, none⟩) (w1.heap.size + 2) m m
      (by have := blk_rb (Blk.new (w1.alloc (.cells #[.pointer none, .int .i64 0] 27)) 5 (cellsB zs).toArray) (B := w1.heap.size + 2) (by simp); rw [HZ.out] at this; simpa using this)
    go_wp2_with fail
    clear hcv hmk
    have W2 := Lib.hid (writer_below (writer_new w1) (alloc_below _ (.cells (cellsB zs).toArray 5)))
    have K2 := Lib.hid (K1.out.trans ((Keep.of_below (K := Lo w.heap.size) (alloc_below w1 (.cells #[.pointer none, .int .i64 0] 27))).trans (Keep.of_below (alloc_below _ (.cells (cellsB zs).toArray 5)))))
    have hs1 : w.heap.size ≤ w1.heap.size := K1.out.size
    clear K1
    refine (wText _ _ [] ⟨zs.toArray⟩ W2.out (by simp) (by show zs.length ≤ _; rw [HZ.out]; omega)).mono ?_
    rintro e w3 ⟨rfl, hw3, hk3⟩
    have W3 := Lib.hid hw3
    have K3 := Lib.hid (K2.out.trans (hk3.lo hs1))
    clear hw3 hk3 W2 K2
    have hlen : (encText zs).length ≤ 70002 := by
      rw [encText_len, List.length_take, HZ.out]; omega
    go_wp2_with fail
    refine (wInt w3 _ _ 7 W3.out (by simp; omega)).mono ?_
    rintro e w4 ⟨rfl, hw4, hk4⟩
    have W4 := Lib.hid hw4
    have K4 := Lib.hid (K3.out.trans (hk4.lo hs1))
    clear hw4 hk4 W3 K3
    go_wp2_with fail
    refine (wBytes w4 _ _ W4.out (by simp [encInt_len]; omega)).mono ?_
    rintro e w5 ⟨rfl, hb5, hB5⟩
    have K5 := Lib.hid (K4.out.trans (Keep.of_below hB5))
    have B5 := Lib.hid hb5
    clear hb5 hB5 K4 W4
    go_wp2_with fail
    refine (newReader_of B5.out (by simp [encInt_len]; omega) (by simp)).mono ?_
    rintro e w6 ⟨g, rfl, hg, hr, hb6⟩
    have K6 := Lib.hid (K5.out.trans (Keep.of_below hb6))
    have hg0 : w.heap.size ≤ g := by have := K5.out.size; omega
    have R6 := Lib.hid hr
    clear hb6 K5 hr B5
    have e1 : (⟨[] ++ encText zs ++ encInt 7, false⟩ : Rd).text = (zs.take 65535, ⟨encInt 7, false⟩) := text_front zs (encInt 7)
    have e2 : (⟨encInt 7, false⟩ : Rd).int = (7, ⟨[], false⟩) := by
      have := int_front 7 [] (by omega) (by omega)
      rw [List.append_nil] at this
      exact this
    have E1 := Lib.hid e1
    have E2 := Lib.hid e2
    have hq : (ByteArray.mk (zs.take 65535).toArray).size = min 65535 m := by
      show (zs.take 65535).length = _
      rw [List.length_take, HZ.out]
    clear e1 e2
    rcases Nat.lt_or_ge 65535 m with hbig | hsmall
    · have hq1 : (ByteArray.mk (zs.take 65535).toArray).size = 65535 := by omega
      have HQ := Lib.hid hq1
      clear hq hq1
      go_wp2_with fail
      refine (rdText_at R6.out E1.out).mono ?_
      rintro e w7 ⟨rfl, hr7, hk7⟩
      have R7 := Lib.hid hr7
      have K7 := Lib.hid (K6.out.trans (hk7.lo hg0))
      clear hr7 hk7 K6 R6
      have hq2 := HQ.out
      generalize (ByteArray.mk (zs.take 65535).toArray) = S at *
      have hq3 : ((S.size : Int) == 65535) = true := by rw [hq2]; rfl
      clear hq2
      go_wp2_with fail
      refine (rdInt_at R7.out E2.out).mono ?_
      rintro e w8 ⟨rfl, hr8, hk8⟩
      have R8 := Lib.hid hr8
      have K8 := Lib.hid (K7.out.trans (hk8.lo hg0))
      clear hr8 hk8 K7 R7
      go_wp2_with fail
      refine (rdDone_at R8.out done_end).mono ?_
      rintro e w9 ⟨rfl, rfl⟩
      go_wp2
      go_ret
      exact ⟨rfl, K8.out.end⟩
    · have hq1 : (ByteArray.mk (zs.take 65535).toArray).size = m := by omega
      have HQ := Lib.hid hq1
      clear hq hq1
      go_wp2_with fail
      refine (rdText_at R6.out E1.out).mono ?_
      rintro e w7 ⟨rfl, hr7, hk7⟩
      have R7 := Lib.hid hr7
      have K7 := Lib.hid (K6.out.trans (hk7.lo hg0))
      clear hr7 hk7 K6 R6
      have hq2 := HQ.out
      generalize (ByteArray.mk (zs.take 65535).toArray) = S at *
      have hq3 : ((S.size : Int) == (m : Int)) = true := by simp [hq2]
      clear hq2
      go_wp2_with fail
      refine (rdInt_at R7.out E2.out).mono ?_
      rintro e w8 ⟨rfl, hr8, hk8⟩
      have R8 := Lib.hid hr8
      have K8 := Lib.hid (K7.out.trans (hk8.lo hg0))
      clear hr8 hk8 K7 R7
      go_wp2_with fail
      refine (rdDone_at R8.out done_end).mono ?_
      rintro e w9 ⟨rfl, rfl⟩
      go_wp2
      go_ret
      exact ⟨rfl, K8.out.end⟩
end Go.Proofs.Ytbpipjkfgijjcaa
