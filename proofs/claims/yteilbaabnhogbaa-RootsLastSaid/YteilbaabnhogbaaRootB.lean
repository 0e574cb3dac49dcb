/- What a root is, and what a sector tells: rootBytes, told. -/
import Derived.Test.YteilbaabnhogbaaRootM
import Derived.Test.YteilbaabnhogbaaDskE
namespace Go.Proofs.Yteilbaabnhogbaa
open Go.RowKit
theorem told_ {w : World} {K : Nat → Prop} {A : Option Addr} {n c : Nat} {xs : List UInt8} (h : Has w K A xs) (hl : xs.length = n) (hn : n ≤ 1000000) (hA : A = none → c = 0) :
    Calls Try.prog 30 #[.slice A n c] w fun e w' => e = .returned (.tuple #[.int .i64 (toldE xs), .int .i64 (toldN xs)]) ∧ Below w.heap.size w w' := by
  have hr := has_rb h hl
  clear h
  go_enter Try.func30, Try.ntmps30
  go_wp2_with fail
  refine (newReader w A n c xs hr hn hA).mono ?_
  rintro e w1 ⟨q, rfl, hq, hR1, hb1⟩
  have HR1 := Lib.hid hR1
  have HB1 := Lib.hid hb1
  clear hR1 hb1 hr
  go_wp2_with fail
  refine (rdText w1 q q _ HR1.out).mono ?_
  rintro e w2 ⟨rfl, hR2, hk2⟩
  have HR2 := Lib.hid hR2
  have HB2 := Lib.hid (but_below HB1.out hk2 hq)
  clear hR2 hk2
  go_wp2_with fail
  refine (rdInt w2 q q _ HR2.out).mono ?_
  rintro e w3 ⟨rfl, hR3, hk3⟩
  have HR3 := Lib.hid hR3
  have HB3 := Lib.hid (but_below HB2.out hk3 hq)
  clear hR3 hk3
  go_wp2_with fail
  refine (rdInt w3 q q _ HR3.out).mono ?_
  rintro e w4 ⟨rfl, _, hk4⟩
  have HB4 := Lib.hid (but_below HB3.out hk4 hq)
  clear hk4
  go_wp2
  go_ret2
  exact ⟨rfl, HB4.out⟩
theorem root_blk {W : World} {b : Nat} {ys : List UInt8} (h : Blk W b 5 (cellsB (zeros 64)).toArray) (hy : ys.length = 22) : Blk (W.setCells b 0 (cellsB ys)) b 5 (cellsB (ys ++ zeros 42)).toArray := by
  have := blk_setCells (g := b) (t := 5) (cellsB ys) [] (cellsB (zeros 22)) (cellsB (zeros 42)) W (by rw [cellsB_length, cellsB_length, zeros_length, hy]) (by
    rw [List.nil_append, ← cellsB_append]
    have e : zeros 22 ++ zeros 42 = zeros 64 := by unfold zeros; rw [List.replicate_append_replicate]
    rw [e]; exact h)
  rw [List.nil_append, ← cellsB_append] at this
  exact this
theorem rootBytes_ {e n : Int} (he : i64r e) (hn : i64r n) (w : World) :
    Calls Try.prog 28 #[.int .i64 e, .int .i64 n] w fun r w' => ∃ b, r = .returned (.slice (some ⟨b, 0, none⟩) 64 64) ∧ w.heap.size ≤ b ∧ Blk w' b 5 (cellsB (rootB e n)).toArray ∧ Below w.heap.size w w' := by
  have hmk := fun W => make64 W
  have hw0 : WriterAt (w.alloc (.cells #[.pointer none, .int .i64 0] 66)) w.heap.size [] := ⟨[], .pointer none, Blk.new w _ _, rfl, rfl⟩
  have HW0 := Lib.hid hw0
  have HB0 := Lib.hid (alloc_below w (.cells #[.pointer none, .int .i64 0] 66))
  clear hw0
  obtain ⟨hn1, hn2⟩ := hn
  obtain ⟨he1, he2⟩ := he
  go_enter Try.func28, Try.ntmps28
  go_wp2_with fail
  refine (wText _ _ _ ⟨#[114, 111, 111, 116]⟩ HW0.out (by simp) (by decide)).mono ?_
  rintro r w1 ⟨rfl, hw1, hk1⟩
  have HW1 := Lib.hid hw1
  have HB1 := Lib.hid (but_below HB0.out hk1 (Nat.le_refl _))
  clear hw1 hk1
  go_wp2_with fail
  refine (wInt _ _ _ e HW1.out (by decide)).mono ?_
  rintro r w2 ⟨rfl, hw2, hk2⟩
  have HW2 := Lib.hid hw2
  have HB2 := Lib.hid (but_below HB1.out hk2 (Nat.le_refl _))
  clear hw2 hk2
  go_wp2_with fail
  refine (wInt _ _ _ n HW2.out (by simp [encText_len, encInt_len])).mono ?_
  rintro r w4 ⟨rfl, hw4, hk4⟩
  have HW4 := Lib.hid hw4
  have HB4 := Lib.hid (but_below HB2.out hk4 (Nat.le_refl _))
  have HS4 := Lib.hid (Blk.new w4 5 (cellsB (zeros 64)).toArray)
  clear hw4 hk4
  go_wp2_with fail
  refine (wBytes _ _ _ (writer_below HW4.out (alloc_below w4 (.cells (cellsB (zeros 64)).toArray 5))) (by simp [encText_len, encInt_len])).mono ?_
  rintro r w5 ⟨rfl, hb5, hbel5⟩
  have hq : ([] ++ encText (ByteArray.mk #[114, 111, 111, 116]).data.toList ++ encInt e ++ encInt n).length = 22 := by simp [encText_len, encInt_len]
  have hz : [] ++ encText (ByteArray.mk #[114, 111, 111, 116]).data.toList ++ encInt e ++ encInt n ++ zeros 42 = rootB e n := by rw [List.nil_append]; exact rootB_written _ _
  generalize [] ++ encText (ByteArray.mk #[114, 111, 111, 116]).data.toList ++ encInt e ++ encInt n = ys at *
  have HE := Lib.hid hz
  have HQ := Lib.hid hq
  have hs5 := HS4.out.below hbel5 (by simp)
  have ht := blk_there hs5
  rw [cellsB_length, zeros_length] at ht
  have hcp := copy_some (W := w5) (b := w4.heap.size) (o := 0) (n := 64) (dc := 64) (m := ys.length) (c := ys.length) (a := ⟨(w4.alloc (.cells (cellsB (zeros 64)).toArray 5)).heap.size, 0, none⟩) (xs := ys) (ys := ys) rfl (fun j u hu => by rw [Addr.add_mid, hb5.cell, Nat.zero_add, List.getElem?_toArray]; exact hu) ht (List.take_of_length_le (by omega))
  simp only [World.size_alloc] at hcp
  have HS5 := Lib.hid hs5
  have HB5 := Lib.hid ((HB4.out.alloc HB4.out.size (.cells (cellsB (zeros 64)).toArray 5)).trans (hbel5.mono (by simp; exact Nat.le_succ_of_le HB4.out.size)))
  have HZ := Lib.hid HB4.out.size
  clear hz hq hs5 ht hb5 hbel5
  go_wp2
  go_ret
  exact ⟨w4.heap.size, rfl, HZ.out, by rw [← HE.out]; exact root_blk HS5.out HQ.out, below_setCells HZ.out _ _ _ HB5.out⟩
end Go.Proofs.Yteilbaabnhogbaa
