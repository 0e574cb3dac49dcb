/- The document's example of a cursor. -/
import Derived.Test.YtocaaebmelhhnaaCurP
import Derived.Laws.StructEq
set_option maxRecDepth 4000
namespace Go.Proofs.Ytocaaebmelhhnaa
open Go.RowKit
theorem next_none {w w' : World} {b bt : Nat} {k : ByteArray} {e : Ending} (a : Cur w b bt k) (h : NextX w b bt k [] e w') : e = .returned (.tuple #[.agg #[.string ⟨#[]⟩, .string ⟨#[]⟩], .bool false]) ∧ Below w.heap.size w w' := by
  obtain ⟨h1, h2, h3⟩ := h
  refine ⟨h2, h1.os, h1.tape, h1.output, h1.size, fun i hi => ?_⟩
  by_cases hb : i = b
  · subst hb
    exact (show w'.heap[i]? = _ from h3).trans (show w.heap[i]? = _ from a).symm
  · rw [Array.getElem?_eq_getElem hi]
    exact h1.block i _ (Array.getElem?_eq_getElem hi) hb
theorem put_one (x : Rw) : [x].foldl putR [] = [x] := rfl
set_option maxHeartbeats 2000000 in
theorem alive9_ (w : World) : Calls Try.prog 22 #[] w fun e w' => e = .returned (.bool true) ∧ Below w.heap.size w w' := by
  have hnw := new_tree (Rws.nil w (fun _ => True) none) rfl (Nat.zero_le _) (c := 0)
  have HNW := Lib.hid hnw
  clear hnw
  go_enter Try.func22, Try.ntmps22
  go_wp2_with fail
  refine HNW.out.mono ?_
  rintro e w1 ⟨rfl, ht1, hb1⟩
  have ht1 : Tree w1 (fun i => i ≠ w.heap.size) w.heap.size [] := ht1
  have HT1 := Lib.hid ht1
  have HB1 := Lib.hid hb1
  clear ht1 hb1
  go_wp2_with fail
  refine (cur_new _ _).mono ?_
  rintro e w2 ⟨rfl, hc2, hb2⟩
  have HT2 := Lib.hid (HT1.out.below hb2)
  have HC2 := Lib.hid hc2
  have HB2 := Lib.hid (HB1.out.trans (hb2.mono HB1.out.size))
  clear hc2 hb2
  go_wp2_with fail
  have hal := alloc_below w2 (.cells #[.string ⟨#[97]⟩, .string ⟨#[]⟩] 29)
  have hr1 := rws_one w2 (⟨#[97]⟩, ⟨#[]⟩)
  have hnt := new_tree hr1 (n := 1) (c := 1) rfl (by omega)
  have HT3 := Lib.hid (HT2.out.below hal)
  have HC3 := Lib.hid (Blk.below HC2.out hal (Blk.lt HC2.out))
  have HB3 := Lib.hid (HB2.out.trans (hal.mono HB2.out.size))
  have HNT := Lib.hid hnt
  clear hal hr1 hnt
  generalize w2.alloc (.cells #[.string ⟨#[97]⟩, .string ⟨#[]⟩] 29) = w3 at *
  refine HNT.out.mono ?_
  rintro e w4 ⟨rfl, ht4, hb4⟩
  have HT4 := Lib.hid (HT3.out.below hb4)
  have HU4 : Hid (Tree w4 (fun i => i ≠ w3.heap.size) w3.heap.size [(⟨#[97]⟩, ⟨#[]⟩)]) := ht4
  have HC4 := Lib.hid (Blk.below HC3.out hb4 (Blk.lt HC3.out))
  have HB4 := Lib.hid (HB3.out.trans (hb4.mono HB3.out.size))
  clear ht4 hb4
  go_wp2_with fail
  refine (cur_new _ _).mono ?_
  rintro e w5 ⟨rfl, hc5, hb5⟩
  have HT5 := Lib.hid (HT4.out.below hb5)
  have HU5 := Lib.hid (HU4.out.below hb5)
  have HC5 := Lib.hid (Blk.below HC4.out hb5 (Blk.lt HC4.out))
  have HD5 := Lib.hid hc5
  have HB5 := Lib.hid (HB4.out.trans (hb5.mono HB4.out.size))
  clear hc5 hb5
  go_wp2_with fail
  refine (cur_next HC5.out HT5.out (fun r hr => by cases hr)).mono ?_
  rintro e w6 h6
  obtain ⟨rfl, hb6⟩ := next_none HC5.out h6
  have HU6 := Lib.hid (HU5.out.below hb6)
  have HD6 := Lib.hid (Blk.below HD5.out hb6 (Blk.lt HD5.out))
  have HB6 := Lib.hid (HB5.out.trans (hb6.mono HB5.out.size))
  clear h6 hb6
  go_wp2_with fail
  have hal := alloc_below w6 (.cells #[.string ⟨#[]⟩, .string ⟨#[]⟩] 29)
  have HU7 := Lib.hid (HU6.out.below hal)
  have HD7 := Lib.hid (Blk.below HD6.out hal (Blk.lt HD6.out))
  have HB7 := Lib.hid (HB6.out.trans (hal.mono HB6.out.size))
  clear hal
  generalize w6.alloc (.cells #[.string ⟨#[]⟩, .string ⟨#[]⟩] 29) = w7 at *
  have hnx := cur_next HD7.out HU7.out (fun r hr => by rw [List.mem_singleton] at hr; subst hr; decide)
  rw [from_first] at hnx
  have HNX := Lib.hid hnx
  have hlt : w.heap.size ≤ w4.heap.size := HB4.out.size
  clear hnx
  refine HNX.out.mono ?_
  rintro e w8 ⟨hk8, rfl, _⟩
  have HB8 := Lib.hid (HB7.out.trans (hk8.below HB7.out.size fun i _ hi => by omega))
  clear hk8
  go_wp2_with fail
  have hal := alloc_below w8 (.cells #[.string ⟨#[97]⟩, .string ⟨#[]⟩] 29)
  have hb9 := Blk.new w8 29 #[.string ⟨#[97]⟩, .string ⟨#[]⟩]
  have HB9 := Lib.hid (HB8.out.trans (hal.mono HB8.out.size))
  have q0 := hb9.cell 0
  simp only [List.getElem?_toArray, List.getElem?_cons_zero] at q0
  clear hal hb9
  go_wp2_with fail
  go_ret
  exact ⟨rfl, HB9.out⟩
end Go.Proofs.Ytocaaebmelhhnaa
