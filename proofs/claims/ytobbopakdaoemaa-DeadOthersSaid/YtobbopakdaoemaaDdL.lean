/- The example of the document: a queue of one message, given back. -/
import Derived.Test.YtobbopakdaoemaaDdF
import Derived.Test.YtobbopakdaoemaaDdW
set_option maxRecDepth 4000
namespace Go.Proofs.Ytobbopakdaoemaa
open Go.RowKit
def ob4 : Ob := ⟨⟨#[]⟩, 0, 1, [], [⟨4, 0, 0, true, ⟨#[]⟩, ⟨#[]⟩⟩], []⟩
def ob4d : Ob := ⟨⟨#[]⟩, 0, 1, [], [], [⟨4, 0, 1, false, ⟨#[]⟩, ⟨#[]⟩⟩]⟩
def ob0 : Ob := ⟨⟨#[]⟩, 0, 0, [], [], []⟩
theorem ob4_free : freeO ob4 4 true = ob4d ∧ freeOk ob4 4 = true := ⟨rfl, rfl⟩
theorem ob0_at (w : World) : ObAt w ob0 (.slice none 0 0) (.slice none 0 0) (.slice none 0 0) := ⟨Sl.nil _ _, Sl.nil _ _, Sl.nil _ _⟩
set_option maxHeartbeats 1000000 in
theorem alive16_ (w : World) : Calls Try.prog 6 #[] w fun e w' => e = .returned (.bool true) ∧ Below w.heap.size w w' := by
  have hal := alloc_below w (.cells #[.int .i64 4, .int .i64 0, .int .i64 0, .bool true, .string ⟨#[]⟩, .string ⟨#[]⟩] 34)
  have hone := one_lst eM w 34 ⟨4, 0, 0, true, ⟨#[]⟩, ⟨#[]⟩⟩ (cs := #[.int .i64 4, .int .i64 0, .int .i64 0, .bool true, .string ⟨#[]⟩, .string ⟨#[]⟩]) rfl
  have hat : ObAt (w.alloc (.cells #[.int .i64 4, .int .i64 0, .int .i64 0, .bool true, .string ⟨#[]⟩, .string ⟨#[]⟩] 34)) ob4 (.slice none 0 0) (.slice (some ⟨w.heap.size, 0, none⟩) 1 1) (.slice none 0 0) :=
    ⟨Sl.nil _ _, ⟨_, 1, rfl, hone.more fun _ _ _ => trivial, Nat.le_refl _, by unfold maxLen; omega, fun h => by cases h⟩, Sl.nil _ _⟩
  have hfr := free_ hat ⟨by decide, by decide, by decide⟩ ⟨by intro m hm; simp [ob4] at hm; subst hm; exact ⟨⟨by decide, by decide⟩, ⟨by decide, by decide⟩, ⟨by decide, by decide⟩⟩, by intro m hm; cases hm⟩ 4 true
  have hwh := fun W => where_ (ob0_at W) ⟨by decide, by decide, by decide⟩ 1
  rw [show whereO ob0 1 = 0 from rfl] at hwh
  have hfr := hfr.mono (Freed.as ob4_free)
  have HAL := Lib.hid hal
  have HFR := Lib.hid hfr
  have HWH := Lib.hid hwh
  clear hal hone hat hfr hwh
  simp only [ob4, ob0, Ob.val, Ob.cells] at HFR HWH
  go_enter Try.func6, Try.ntmps6
  go_wp2_with fail
  refine HFR.out.mono ?_
  rintro e w1 ⟨r', m', d', rfl, ho, hb1⟩
  have hw2 := fun W (hb : Below (w1.alloc (.cells (ob4d.cells r' m' d') 25)).heap.size (w1.alloc (.cells (ob4d.cells r' m' d') 25)) W) => where_ ((ho.at_.below (alloc_below w1 (.cells (ob4d.cells r' m' d') 25))).below hb) ⟨by decide, by decide, by decide⟩ 4
  rw [show whereO ob4d 4 = 2 from rfl] at hw2
  obtain ⟨B1, b1, rfl⟩ := own_shape ho.rows (n := 0) rfl
  obtain ⟨B2, b2, rfl⟩ := own_shape ho.msgs (n := 0) rfl
  obtain ⟨B3, b3, rfl⟩ := own_shape ho.dead (n := 1) rfl
  have hb2 := (HAL.out.trans (hb1.mono HAL.out.size)).alloc (Nat.le_trans HAL.out.size hb1.size) (.cells (ob4d.cells (.slice B1 0 b1) (.slice B2 0 b2) (.slice B3 1 b3)) 25)
  have hx := Blk.new w1 25 (ob4d.cells (.slice B1 0 b1) (.slice B2 0 b2) (.slice B3 1 b3))
  have HW2 := Lib.hid hw2
  have HB2 := Lib.hid hb2
  have HX := Lib.hid hx
  clear hw2 ho hb1 hb2 hx HFR HAL
  simp only [ob4d, Ob.val, Ob.cells] at HW2 HB2 HX ⊢
  go_wp2_with fail
  refine (HWH.out _).mono ?_
  rintro e w2 ⟨rfl, hb⟩
  have hx2 := HX.out.below hb HX.out.lt
  have d0 := hx2.cell 0
  have d1 := hx2.cell 1
  have d2 := hx2.cell 2
  have d3 := hx2.cell 3
  have d4 := hx2.cell 4
  have d5 := hx2.cell 5
  have HH := Lib.hid hb
  clear hx2 hb HWH
  simp only [List.getElem?_toArray, List.getElem?_cons_zero, List.getElem?_cons_succ] at d0 d1 d2 d3 d4 d5
  go_wp2_with fail
  refine (HW2.out _ HH.out).mono ?_
  rintro e w3 ⟨rfl, hb⟩
  have HB3 := Lib.hid (HB2.out.trans ((HH.out.trans (hb.mono HH.out.size)).mono HB2.out.size))
  clear hb
  go_wp2_with fail
  go_ret
  exact ⟨rfl, HB3.out⟩
end Go.Proofs.Ytobbopakdaoemaa
