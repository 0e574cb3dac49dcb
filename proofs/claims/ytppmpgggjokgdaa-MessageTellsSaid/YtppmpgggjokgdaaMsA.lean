/- The example of the document, and a message: what 'alive' answers. -/
import Derived.Test.YtppmpgggjokgdaaMsM
set_option maxRecDepth 4000
namespace Go.Proofs.Ytppmpgggjokgdaa
open Go.RowKit
theorem tried_one (w : World) : Calls Try.prog 8 #[.agg #[.int .i64 1, .int .i64 0, .int .i64 0, .bool true, .string ⟨#[]⟩, .string ⟨#[]⟩], .int .i64 1] w
    fun e w' => e = .returned (.tuple #[.agg #[.int .i64 1, .int .i64 0, .int .i64 1, .bool false, .string ⟨#[]⟩, .string ⟨#[]⟩], .bool true]) ∧ Below w.heap.size w w' :=
  (tried_ ⟨1, 0, 0, true, ⟨#[]⟩, ⟨#[]⟩⟩ ⟨⟨by decide, by decide⟩, ⟨by decide, by decide⟩, ⟨by decide, by decide⟩⟩ 1 w).mono fun _ _ ⟨h1, h2⟩ => ⟨h1, h2⟩
theorem right_zero (w : World) : Calls Try.prog 10 #[.agg #[.int .i64 0, .int .i64 0, .int .i64 0, .bool false, .string ⟨#[]⟩, .string ⟨#[]⟩]] w fun e w' => e = .returned (.bool false) ∧ Below w.heap.size w w' :=
  (right_ Mg.zero w).mono fun _ _ ⟨h1, h2⟩ => ⟨h1, h2⟩
theorem right_one (w : World) : Calls Try.prog 10 #[.agg #[.int .i64 1, .int .i64 0, .int .i64 0, .bool false, .string ⟨#[]⟩, .string ⟨#[]⟩]] w fun e w' => e = .returned (.bool true) ∧ Below w.heap.size w w' :=
  (right_ ⟨1, 0, 0, false, ⟨#[]⟩, ⟨#[]⟩⟩ w).mono fun _ _ ⟨h1, h2⟩ => ⟨h1, h2⟩
set_option maxHeartbeats 1000000 in
theorem alive_ (w : World) : Calls Try.prog 7 #[] w fun e w' => e = .returned (.bool true) ∧ Below w.heap.size w w' := by
  go_enter Try.func7, Try.ntmps7
  go_wp2_with fail
  refine (tried_one _).mono ?_
  rintro e w1 ⟨rfl, hb1⟩
  have HB1 := Lib.hid (hb1.alloc hb1.size (.cells #[.int .i64 1, .int .i64 0, .int .i64 1, .bool false, .string ⟨#[]⟩, .string ⟨#[]⟩] 23))
  have HX1 := Lib.hid (Blk.new w1 23 #[.int .i64 1, .int .i64 0, .int .i64 1, .bool false, .string ⟨#[]⟩, .string ⟨#[]⟩])
  clear hb1
  go_wp2_with fail
  refine (right_zero _).mono ?_
  rintro e w2 ⟨rfl, hb2⟩
  have HX2 := Lib.hid (HX1.out.below hb2 HX1.out.lt)
  have HB2 := Lib.hid (HB1.out.trans (hb2.mono HB1.out.size))
  clear hb2 HB1 HX1
  go_wp2_with fail
  refine (right_one _).mono ?_
  rintro e w3 ⟨rfl, hb3⟩
  have hx3 := HX2.out.below hb3 HX2.out.lt
  have q0 := hx3.cell 2
  have q1 := hx3.cell 3
  have HB3 := Lib.hid (HB2.out.trans (hb3.mono HB2.out.size))
  clear hb3 HB2 HX2 hx3
  go_wp2_with fail
  go_ret
  exact ⟨rfl, HB3.out⟩
end Go.Proofs.Ytppmpgggjokgdaa
