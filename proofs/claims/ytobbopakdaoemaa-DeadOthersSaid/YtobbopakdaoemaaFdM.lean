/- Package queue: Find. -/
import Derived.Test.YtobbopakdaoemaaIxM
set_option maxRecDepth 4000
namespace Go.Proofs.Ytobbopakdaoemaa
open Go.RowKit
theorem pred_find (id : Int) (B : Nat) (w : World) (hB : B < w.heap.size) (hc : w.cell? ⟨B, 0, none⟩ = some (.int .i64 id)) (l : List Mg) : PredM 26 #[.pointer (some ⟨B, 0, none⟩)] (isM id) l w := fun W x _ hb => by
  have hc' : W.cell? ⟨B, 0, none⟩ = some (.int .i64 id) := (hb.cell (p := ⟨B, 0, none⟩) hB).trans hc
  have hBW : B < W.heap.size := Nat.lt_of_lt_of_le hB hb.size
  have hne : B ≠ W.heap.size := by omega
  obtain ⟨x0, x1, x2, x3, x4, x5⟩ := x
  have hnew := hb.alloc hb.size (.cells #[.int .i64 x0, .int .i64 x1, .int .i64 x2, .bool x3, .string x4, .string x5] 34)
  have HN := Lib.hid hnew
  clear hc hb hnew
  show Calls Try.prog 26 #[.agg #[.int .i64 x0, .int .i64 x1, .int .i64 x2, .bool x3, .string x4, .string x5], .pointer (some ⟨B, 0, none⟩)] W _
  go_enter Try.func26, Try.ntmps26
  go_wp2
  all_goals (go_ret; exact ⟨rfl, HN.out⟩)
theorem enters_find : ∀ args w, (callFunc 26 args).run Try.prog w = .ok (.enter 26 args) w := enters_of Try.func26 (by kernel_rfl) rfl
theorem find_m {w : World} {K : Nat → Prop} {A : Option Addr} {n c : Nat} {l : List Mg} (h : Lst w K eM A l) (hl : l.length = n) (hn : n ≤ 1000000) (id : Int) :
    Calls Try.prog 14 #[.slice A n c, .int .i64 id] w fun e w' => e = .returned (.int .i64 (idxI (isM id) l)) ∧ Below w.heap.size w w' := by
  have hi := index_m (c := c) (h.below (alloc_below w (.cells #[.int .i64 id] 3))) hl hn enters_find (pred_find id w.heap.size _ (by simp) (by simp) l)
  generalize idxI (isM id) l = z at *
  have HI := Lib.hid hi
  clear hi h hl
  go_enter Try.func14, Try.ntmps14
  go_wp2_with (go_at_call 25; refine HI.out.mono ?_; rintro e w' ⟨rfl, hb'⟩)
  go_ret
  exact ⟨rfl, (alloc_below w _).trans (hb'.mono (by simp))⟩
end Go.Proofs.Ytobbopakdaoemaa
