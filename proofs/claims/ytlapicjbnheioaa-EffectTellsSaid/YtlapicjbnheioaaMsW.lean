/- Messages as bytes: Bytes, the program's and the document's. -/
import Derived.Test.YtlapicjbnheioaaMsM
import Derived.Test.YtlapicjbnheioaaBFlag
import Derived.Test.YtlapicjbnheioaaBVFlag
import Derived.Test.YtlapicjbnheioaaBRefWrites
set_option maxRecDepth 4000
namespace Go.Proofs.Ytlapicjbnheioaa
open Go.RowKit
theorem writer_new (w : World) : WriterAt (w.alloc (.cells #[.pointer none, .int .i64 0] 51)) w.heap.size [] := ⟨[], .pointer none, Blk.new w 51 _, rfl, rfl⟩
theorem Keep.lo {N g : Nat} {a b : World} (h : Keep (But g) a b) (hN : N ≤ g) : Keep (Lo N) a b := h.mono fun i _ _ hi => by simp only [But, Lo] at *; omega
theorem Keep.end_ {a b : World} (h : Keep (Lo a.heap.size) a b) : Below a.heap.size a b := h.below (Nat.le_refl _) fun _ _ hi => hi
/-- a boxed message, and a writer behind it -/
structure WM (w : World) (m : Mg) (bs : List UInt8) (wk : World) : Prop where
  lo : Keep (Lo w.heap.size) w wk
  box : Blk wk w.heap.size 27 m.cells
  wr : WriterAt wk (w.heap.size + 1) bs
section
variable {w wk w' : World} {m : Mg} {bs bs' : List UInt8}
theorem WM.first (w : World) (m : Mg) : WM w m [] ((w.alloc (.cells m.cells 27)).alloc (.cells #[.pointer none, .int .i64 0] 51)) := by
  have h1 := alloc_below w (.cells m.cells 27)
  refine ⟨Keep.of_below (h1.alloc h1.size _), (Blk.new w 27 m.cells).alloc _, ?_⟩
  have := writer_new (w.alloc (.cells m.cells 27))
  rw [show (w.alloc (.cells m.cells 27)).heap.size = w.heap.size + 1 by simp] at this
  exact this
theorem WM.next (h : WM w m bs wk) (hw : WriterAt w' (w.heap.size + 1) bs') (hk : Keep (But (w.heap.size + 1)) wk w') : WM w m bs' w' :=
  ⟨h.lo.trans (hk.lo (by omega)), h.box.keep hk (by simp only [But]; omega), hw⟩
end
set_option maxHeartbeats 1000000 in
theorem mbytes_ (m : Mg) (hc : m.corr.size ≤ 9000) (hb : m.body.size ≤ 9000) (w : World) : Calls Try.prog 25 #[m.val] w
    fun e w' => ∃ g, e = .returned (.slice (some ⟨g, 0, none⟩) m.bytes.length m.bytes.length) ∧ Blk w' g 5 (cellsB m.bytes).toArray ∧ w.heap.size ≤ g ∧ Below w.heap.size w w' := by
  obtain ⟨z, hz⟩ : ∃ z, m.bytes = z := ⟨_, rfl⟩
  have HM := Lib.hid (WM.first w m)
  have HZ := Lib.hid hz
  have hl := m.onto_len [] hc hb
  rw [hz]
  clear hz
  have hlz : z.length ≤ 20000 := by
    have h1 : m.onto [] = z := HZ.out
    have h2 : ([] : List UInt8).length = 0 := rfl
    rw [h1] at hl
    omega
  have HLZ := Lib.hid hlz
  clear hl hlz
  simp only [Mg.bytes, Mg.onto] at HZ
  obtain ⟨i, p, r, cl, c, b⟩ := m
  simp only at hc hb HZ
  have hlc : (encText c.data.toList).length ≤ 9002 := by
    have h1 := List.length_take_le' 65535 c.data.toList
    have h2 : c.data.toList.length = c.size := rfl
    rw [encText_len]
    omega
  have HLC := Lib.hid hlc
  clear hlc
  go_enter Try.func25, Try.ntmps25
  go_wp2_with fail
  simp only [Mg.cells] at HM
  refine (wInt _ _ _ i HM.out.wr (by simp)).mono ?_
  rintro e w1 ⟨rfl, hw1, hk1⟩
  have H1 := Lib.hid (HM.out.next hw1 hk1)
  have q0 := H1.out.box.cell 1
  clear hw1 hk1 HM
  go_wp2_with fail
  refine (wInt _ _ _ p H1.out.wr (by simp [encInt_len])).mono ?_
  rintro e w2 ⟨rfl, hw2, hk2⟩
  have H2 := Lib.hid (H1.out.next hw2 hk2)
  have q0 := H2.out.box.cell 2
  clear hw2 hk2 H1
  go_wp2_with fail
  refine (wInt _ _ _ r H2.out.wr (by simp [encInt_len])).mono ?_
  rintro e w3 ⟨rfl, hw3, hk3⟩
  have H3 := Lib.hid (H2.out.next hw3 hk3)
  have q0 := H3.out.box.cell 3
  clear hw3 hk3 H2
  go_wp2_with fail
  refine (wFlag _ _ _ cl H3.out.wr (by simp [encInt_len])).mono ?_
  rintro e w4 ⟨rfl, hw4, hk4⟩
  have H4 := Lib.hid (H3.out.next hw4 hk4)
  have q0 := H4.out.box.cell 4
  clear hw4 hk4 H3
  go_wp2_with fail
  refine (wText _ _ _ c H4.out.wr (by simp [encInt_len, encFlag_len]) (by omega)).mono ?_
  rintro e w5 ⟨rfl, hw5, hk5⟩
  have H5 := Lib.hid (H4.out.next hw5 hk5)
  have q0 := H5.out.box.cell 5
  clear hw5 hk5 H4
  go_wp2_with fail
  refine (wText _ _ _ b H5.out.wr (by have := HLC.out; simp [encInt_len, encFlag_len]; omega) (by omega)).mono ?_
  rintro e w6 ⟨rfl, hw6, hk6⟩
  have H6 := Lib.hid (H5.out.next hw6 hk6)
  clear hw6 hk6 H5 q0
  go_wp2_with fail
  rw [HZ.out] at H6
  refine (wBytes _ _ _ H6.out.wr (by have := HLZ.out; omega)).mono ?_
  rintro e w7 ⟨rfl, hb7, hB7⟩
  have HB7 := Lib.hid hb7
  have HS := Lib.hid H6.out.lo.size
  have HE := Lib.hid ((H6.out.lo.trans (Keep.of_below hB7)).end_)
  clear hb7 hB7 H6
  go_wp2_with fail
  go_ret
  exact ⟨w6.heap.size, rfl, HB7.out, HS.out, HE.out⟩
/-- the document's writer, a new one; beside what else is done -/
theorem vat_new (w : World) (N : Nat) (hN : N ≤ w.heap.size) : VAt (w.alloc (.cells #[.slice none 0 0] 58)) N w.heap.size [] :=
  ⟨.slice none 0 0, Blk.new w 58 _, ⟨rfl, .inl ⟨rfl, rfl⟩⟩, hN⟩
theorem VAt.below {w w' : World} {N g : Nat} {bs : List UInt8} (h : VAt w N g bs) (k : Below w.heap.size w w') : VAt w' N g bs := by
  obtain ⟨v, hb, ho, hN⟩ := h
  refine ⟨v, hb.below k hb.lt, ⟨ho.1, ?_⟩, hN⟩
  rcases ho.2 with h | ⟨q, cap, cur, h1, h2, h3, h4⟩
  · exact .inl h
  · exact .inr ⟨q, cap, cur, h1, h2, (k.block q (lt_of_some h3)).trans h3, h4⟩
/-- a boxed message, and the document's writer beside it -/
structure VM (w : World) (N g : Nat) (m : Mg) (bs : List UInt8) (wk : World) : Prop where
  keep : Keep (Rf N) w wk
  box : Blk wk w.heap.size 27 m.cells
  wr : VAt wk N g bs
section
variable {w wk w' : World} {N g : Nat} {m : Mg} {bs bs' : List UInt8}
theorem VM.first (h : VAt w N g bs) (m : Mg) : VM w N g m bs (w.alloc (.cells m.cells 27)) :=
  ⟨Keep.of_below (alloc_below w _), Blk.new w _ _, h.below (alloc_below w _)⟩
theorem VM.next (h : VM w N g m bs wk) (hw : VAt w' N g bs') (hk : Keep (Rf N) wk w') : VM w N g m bs' w' :=
  ⟨h.keep.trans hk, h.box.keep hk (.inr ⟨_, _, rfl, by decide, by decide⟩), hw⟩
end
set_option maxHeartbeats 1000000 in
theorem putMsg_ (m : Mg) (hc : m.corr.size ≤ 9000) (hb : m.body.size ≤ 9000) (bs : List UInt8) (hbs : bs.length ≤ 800000) (w : World) (N g : Nat) (h : VAt w N g bs) : Calls Try.prog 29 #[.pointer (some ⟨g, 0, none⟩), m.val] w
    fun e w' => e = .returned (.tuple #[]) ∧ VAt w' N g (m.onto bs) ∧ Keep (Rf N) w w' := by
  obtain ⟨z, hz⟩ : ∃ z, m.onto bs = z := ⟨_, rfl⟩
  have HM := Lib.hid (VM.first h m)
  have HZ := Lib.hid hz
  rw [hz]
  clear hz h
  simp only [Mg.onto] at HZ
  obtain ⟨i, p, r, cl, c, b⟩ := m
  simp only at hc hb HZ
  have hlc : (encText c.data.toList).length ≤ 9002 := by
    have h1 := List.length_take_le' 65535 c.data.toList
    have h2 : c.data.toList.length = c.size := rfl
    rw [encText_len]
    omega
  have HLC := Lib.hid hlc
  clear hlc
  go_enter Try.func29, Try.ntmps29
  go_wp2_with fail
  simp only [Mg.cells] at HM
  refine (vInt _ _ _ _ i HM.out.wr (by omega)).mono ?_
  rintro e w1 ⟨rfl, hw1, hk1⟩
  have H1 := Lib.hid (HM.out.next hw1 hk1)
  have q0 := H1.out.box.cell 1
  clear hw1 hk1 HM
  go_wp2_with fail
  refine (vInt _ _ _ _ p H1.out.wr (by simp [encInt_len]; omega)).mono ?_
  rintro e w2 ⟨rfl, hw2, hk2⟩
  have H2 := Lib.hid (H1.out.next hw2 hk2)
  have q0 := H2.out.box.cell 2
  clear hw2 hk2 H1
  go_wp2_with fail
  refine (vInt _ _ _ _ r H2.out.wr (by simp [encInt_len]; omega)).mono ?_
  rintro e w3 ⟨rfl, hw3, hk3⟩
  have H3 := Lib.hid (H2.out.next hw3 hk3)
  have q0 := H3.out.box.cell 3
  clear hw3 hk3 H2
  go_wp2_with fail
  refine (vFlag _ _ _ _ cl H3.out.wr (by simp [encInt_len]; omega)).mono ?_
  rintro e w4 ⟨rfl, hw4, hk4⟩
  have H4 := Lib.hid (H3.out.next hw4 hk4)
  have q0 := H4.out.box.cell 4
  clear hw4 hk4 H3
  go_wp2_with fail
  refine (vText _ _ _ _ c H4.out.wr (by simp [encInt_len, encFlag_len]; omega) (by omega)).mono ?_
  rintro e w5 ⟨rfl, hw5, hk5⟩
  have H5 := Lib.hid (H4.out.next hw5 hk5)
  have q0 := H5.out.box.cell 5
  clear hw5 hk5 H4
  go_wp2_with fail
  refine (vText _ _ _ _ b H5.out.wr (by have := HLC.out; simp [encInt_len, encFlag_len]; omega) (by omega)).mono ?_
  rintro e w6 ⟨rfl, hw6, hk6⟩
  have H6 := Lib.hid (H5.out.next hw6 hk6)
  clear hw6 hk6 H5 q0
  rw [HZ.out] at H6
  go_wp2_with fail
  go_end0
  exact ⟨rfl, H6.out.wr, H6.out.keep⟩
end Go.Proofs.Ytlapicjbnheioaa
