/- Changes as bytes: package effect's fields and Bytes. -/
import Derived.Test.YtlapicjbnheioaaMsW
import Derived.Test.YtlapicjbnheioaaEfE
import Derived.Test.YtlapicjbnheioaaEfP
import Derived.Deep.LoopGhost
set_option maxRecDepth 4000
namespace Go.Proofs.Ytlapicjbnheioaa
open Go.RowKit
/-- a boxed change, and a writer behind it -/
structure WE (w : World) (e : Ef) (bs : List UInt8) (wk : World) : Prop where
  lo : Keep (Lo w.heap.size) w wk
  box : Blk wk w.heap.size 29 e.cells
  wr : WriterAt wk (w.heap.size + 1) bs
section
variable {w wk w' : World} {e : Ef} {bs bs' : List UInt8}
theorem WE.first (w : World) (e : Ef) : WE w e [] ((w.alloc (.cells e.cells 29)).alloc (.cells #[.pointer none, .int .i64 0] 51)) := by
  have h1 := alloc_below w (.cells e.cells 29)
  refine ⟨Keep.of_below (h1.alloc h1.size _), (Blk.new w 29 e.cells).alloc _, ?_⟩
  have := writer_new (w.alloc (.cells e.cells 29))
  rw [show (w.alloc (.cells e.cells 29)).heap.size = w.heap.size + 1 by simp] at this
  exact this
theorem WE.next (h : WE w e bs wk) (hw : WriterAt w' (w.heap.size + 1) bs') (hk : Keep (But (w.heap.size + 1)) wk w') : WE w e bs' w' :=
  ⟨h.lo.trans (hk.lo (by omega)), h.box.keep hk (by simp only [But]; omega), hw⟩
end
theorem text_len (s : ByteArray) (hs : s.size ≤ 9000) : (encText s.data.toList).length ≤ 9002 := by
  have h1 := List.length_take_le' 65535 s.data.toList
  have h2 : s.data.toList.length = s.size := rfl
  rw [encText_len]
  omega
set_option maxHeartbeats 1000000 in
theorem fields_ (e : Ef) (hs : e.short) (w : World) : Calls Try.prog 24 #[e.val_] w
    fun x w' => ∃ g, x = .returned (.slice (some ⟨g, 0, none⟩) (e.head []).length (e.head []).length) ∧ Blk w' g 5 (cellsB (e.head [])).toArray ∧ w.heap.size ≤ g ∧ Below w.heap.size w w' := by
  obtain ⟨z, hz⟩ : ∃ z, e.head [] = z := ⟨_, rfl⟩
  have HM := Lib.hid (WE.first w e)
  have HZ := Lib.hid hz
  have hl := head_len e [] hs
  rw [hz]
  clear hz
  obtain ⟨s1, s2, s3, _, _⟩ := hs
  have hlz : z.length ≤ 40000 := by
    have h1 : e.head [] = z := HZ.out
    have h2 : ([] : List UInt8).length = 0 := rfl
    rw [h1] at hl
    omega
  have HLZ := Lib.hid hlz
  clear hl hlz
  simp only [Ef.head] at HZ
  obtain ⟨k, o, ky, v, n, l, t, m⟩ := e
  simp only at s1 s2 s3 HZ
  have HL1 := Lib.hid (text_len o s1)
  have HL2 := Lib.hid (text_len ky s2)
  have HL3 := Lib.hid (text_len v s3)
  go_enter Try.func24, Try.ntmps24
  go_wp2_with fail
  simp only [Ef.cells] at HM
  refine (wInt _ _ _ k HM.out.wr (by simp)).mono ?_
  rintro e w1 ⟨rfl, hw1, hk1⟩
  have H1 := Lib.hid (HM.out.next hw1 hk1)
  have q0 := H1.out.box.cell 1
  clear hw1 hk1 HM
  go_wp2_with fail
  refine (wText _ _ _ o H1.out.wr (by simp [encInt_len]) (by omega)).mono ?_
  rintro e w2 ⟨rfl, hw2, hk2⟩
  have H2 := Lib.hid (H1.out.next hw2 hk2)
  have q0 := H2.out.box.cell 2
  clear hw2 hk2 H1
  go_wp2_with fail
  refine (wText _ _ _ ky H2.out.wr (by have := HL1.out; simp [encInt_len]; omega) (by omega)).mono ?_
  rintro e w3 ⟨rfl, hw3, hk3⟩
  have H3 := Lib.hid (H2.out.next hw3 hk3)
  have q0 := H3.out.box.cell 3
  clear hw3 hk3 H2
  go_wp2_with fail
  refine (wText _ _ _ v H3.out.wr (by have := HL1.out; have := HL2.out; simp [encInt_len]; omega) (by omega)).mono ?_
  rintro e w4 ⟨rfl, hw4, hk4⟩
  have H4 := Lib.hid (H3.out.next hw4 hk4)
  have q0 := H4.out.box.cell 4
  clear hw4 hk4 H3
  go_wp2_with fail
  refine (wInt _ _ _ n H4.out.wr (by have := HL1.out; have := HL2.out; have := HL3.out; simp [encInt_len]; omega)).mono ?_
  rintro e w5 ⟨rfl, hw5, hk5⟩
  have H5 := Lib.hid (H4.out.next hw5 hk5)
  have q0 := H5.out.box.cell 5
  clear hw5 hk5 H4
  go_wp2_with fail
  refine (wInt _ _ _ l H5.out.wr (by have := HL1.out; have := HL2.out; have := HL3.out; simp [encInt_len]; omega)).mono ?_
  rintro e w6 ⟨rfl, hw6, hk6⟩
  have H6 := Lib.hid (H5.out.next hw6 hk6)
  have q0 := H6.out.box.cell 6
  clear hw6 hk6 H5
  go_wp2_with fail
  refine (wFlag _ _ _ t H6.out.wr (by have := HL1.out; have := HL2.out; have := HL3.out; simp [encInt_len]; omega)).mono ?_
  rintro e w7 ⟨rfl, hw7, hk7⟩
  have H7 := Lib.hid (H6.out.next hw7 hk7)
  clear hw7 hk7 H6 q0
  go_wp2_with fail
  rw [List.nil_append] at H7 HZ
  rw [HZ.out] at H7
  refine (wBytes _ _ _ H7.out.wr (by have := HLZ.out; omega)).mono ?_
  rintro e w8 ⟨rfl, hb8, hB8⟩
  have HB8 := Lib.hid hb8
  have HS := Lib.hid H7.out.lo.size
  have HE := Lib.hid ((H7.out.lo.trans (Keep.of_below hB8)).end_)
  clear hb8 hB8 H7
  go_wp2_with fail
  go_ret
  exact ⟨w7.heap.size, rfl, HB8.out, HS.out, HE.out⟩
end Go.Proofs.Ytlapicjbnheioaa
