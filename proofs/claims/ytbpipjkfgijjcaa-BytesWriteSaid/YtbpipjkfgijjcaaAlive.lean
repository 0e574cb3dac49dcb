/- The example of the document: what 'alive' answers. -/
import Derived.Test.YtbpipjkfgijjcaaReads
namespace Go.Proofs.Ytbpipjkfgijjcaa
open Go.RowKit
theorem writer_new (w : World) : WriterAt (w.alloc (.cells #[.pointer none, .int .i64 0] 27)) w.heap.size [] := ⟨[], .pointer none, Blk.new w 27 _, rfl, rfl⟩
theorem blk_rb {w : World} {g B : Nat} {xs : List UInt8} (h : Blk w g 5 (cellsB xs).toArray) (hB : g < B) : RB w B (some ⟨g, 0, none⟩) xs.length xs :=
  ⟨rfl, fun _ => ⟨g, 0, rfl, hB, fun j x hx => by rw [h.cell]; simp [cellsB, hx]⟩⟩
/-- all blocks below N -/
abbrev Lo (N : Nat) : Nat → Obj → Prop := fun i _ => i < N
theorem Keep.lo {N g : Nat} {a b : World} (h : Keep (But g) a b) (hN : N ≤ g) : Keep (Lo N) a b := h.mono fun i _ hi => by simp only [But, Lo] at *; omega
theorem Keep.end {a b : World} (h : Keep (Lo a.heap.size) a b) : Below a.heap.size a b := h.below (Nat.le_refl _) fun _ _ hi => hi
theorem alloc_below (w : World) (o : Obj) : Below w.heap.size w (w.alloc o) := (Below.refl _ _).alloc (Nat.le_refl _) _
theorem rdInt_at {w : World} {g B : Nat} {r r' : Rd} {v : Int} (h : ReaderAt 55 w g B r) (e : r.int = (v, r')) :
    Calls Try.prog 16 #[.pointer (some ⟨g, 0, none⟩)] w fun x w' => x = .returned (.int .i64 v) ∧ ReaderAt 55 w' g B r' ∧ Keep (But g) w w' :=
  (rdInt w g B r h).mono fun _ _ ⟨h1, h2, h3⟩ => ⟨by rw [h1, e], by rw [e] at h2; exact h2, h3⟩
theorem rdText_at {w : World} {g B : Nat} {r r' : Rd} {v : List UInt8} (h : ReaderAt 55 w g B r) (e : r.text = (v, r')) :
    Calls Try.prog 17 #[.pointer (some ⟨g, 0, none⟩)] w fun x w' => x = .returned (.string ⟨v.toArray⟩) ∧ ReaderAt 55 w' g B r' ∧ Keep (But g) w w' :=
  (rdText w g B r h).mono fun _ _ ⟨h1, h2, h3⟩ => ⟨by rw [h1, e], by rw [e] at h2; exact h2, h3⟩
theorem rdFlag_at {w : World} {g B : Nat} {r r' : Rd} {v : Bool} (h : ReaderAt 55 w g B r) (e : r.flag = (v, r')) :
    Calls Try.prog 18 #[.pointer (some ⟨g, 0, none⟩)] w fun x w' => x = .returned (.bool v) ∧ ReaderAt 55 w' g B r' ∧ Keep (But g) w w' :=
  (rdFlag w g B r h).mono fun _ _ ⟨h1, h2, h3⟩ => ⟨by rw [h1, e], by rw [e] at h2; exact h2, h3⟩
theorem rdDone_at {w : World} {g B : Nat} {r : Rd} {v : Bool} (h : ReaderAt 55 w g B r) (e : r.done = v) :
    Calls Try.prog 19 #[.pointer (some ⟨g, 0, none⟩)] w fun x w' => x = .returned (.bool v) ∧ w = w' :=
  (rdDone w g B r h).mono fun _ _ ⟨h1, h2⟩ => ⟨by rw [h1, e], h2⟩
/-- one writer's bytes, read: its slice, as a new reader takes it -/
theorem newReader_of {w : World} {g l : Nat} {xs : List UInt8} (h : Blk w g 5 (cellsB xs).toArray) (hn : xs.length ≤ 1000000) (hl : xs.length = l) :
    Calls Try.prog 15 #[.slice (some ⟨g, 0, none⟩) l l] w (NewP w xs) := by
  subst hl
  exact newReader w _ _ _ _ (blk_rb h h.lt) hn (fun h => by cases h)
set_option maxHeartbeats 400000 in
theorem alive (w : World) : Calls Try.prog 7 #[] w fun e w' => e = .returned (.bool true) ∧ Below w.heap.size w w' := by
  go_enter Try.func7, Try.ntmps7
  go_wp2_with fail
  refine (wBytes _ _ [] (writer_new w) (by simp)).mono ?_
  rintro e w1 ⟨rfl, -, hb1⟩
  have W1 := Lib.hid (writer_below (writer_new w) hb1)
  have K1 := Lib.hid ((Keep.of_below (K := Lo w.heap.size) (alloc_below w _)).trans (Keep.of_below hb1))
  clear hb1
  go_wp2_with fail
  refine (wInt w1 _ [] 5 W1.out (by simp)).mono ?_
  rintro e w2 ⟨rfl, hw2, hk2⟩
  have W2 := Lib.hid hw2
  have K2 := Lib.hid (K1.out.trans (hk2.lo (Nat.le_refl _)))
  clear hw2 hk2 W1 K1
  go_wp2_with fail
  refine (wBytes w2 _ _ W2.out (by simp [encInt_len])).mono ?_
  rintro e w3 ⟨rfl, hb3, hB3⟩
  have K3 := Lib.hid (K2.out.trans (Keep.of_below hB3))
  have B3 := Lib.hid hb3
  clear hb3 hB3 K2
  go_wp2_with fail
  refine (newReader_of B3.out (by simp [encInt_len]) (by simp)).mono ?_
  rintro e w4 ⟨g, rfl, hg, hr, hb4⟩
  have K4 := Lib.hid (K3.out.trans (Keep.of_below hb4))
  have hg0 : w.heap.size ≤ g := by have := K3.out.size; omega
  have R4 := Lib.hid hr
  clear hb4 K3 hr B3
  have e1 : (⟨[] ++ encInt 5, false⟩ : Rd).int = (5, ⟨[], false⟩) := by
    have := int_front 5 [] (by omega) (by omega)
    rw [List.append_nil] at this
    exact this
  have E1 := Lib.hid e1
  clear e1
  go_wp2_with fail
  refine (rdInt_at R4.out E1.out).mono ?_
  rintro e w5 ⟨rfl, hr5, hk5⟩
  have R5 := Lib.hid hr5
  have K5 := Lib.hid (K4.out.trans (hk5.lo hg0))
  clear hr5 hk5 K4 R4
  go_wp2_with fail
  refine (rdDone_at R5.out done_end).mono ?_
  rintro e w6 ⟨rfl, rfl⟩
  go_wp2
  go_ret
  exact ⟨rfl, K5.out.end⟩
end Go.Proofs.Ytbpipjkfgijjcaa
