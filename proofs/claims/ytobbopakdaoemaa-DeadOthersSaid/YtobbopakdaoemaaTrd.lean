/- Messages tried once more: the program's Tried, and the document's. -/
import Derived.Test.YtobbopakdaoemaaTrdP
import Derived.Test.YtobbopakdaoemaaProg
import Derived.Test.YtobbopakdaoemaaKeep
import Derived.WalkKit
import Derived.ProofKit
import Derived.Lib.Hide
import Derived.RegionTactic
import Derived.Deep.QuietTactic
import Derived.BigQuiet
set_option maxRecDepth 4000
namespace Go.Proofs.Ytobbopakdaoemaa
open Go.RowKit
/-- a struct and a truth as results: the struct's block, and what is there besides -/
theorem two_new (w : World) (x : Mg) : Below w.heap.size w (((w.alloc (.cells x.cells 34)).alloc (.cells x.cells 34)).drew) ∧ Blk (((w.alloc (.cells x.cells 34)).alloc (.cells x.cells 34)).drew) (w.heap.size + 1) 34 x.cells := by
  have h1 := alloc_below w (.cells x.cells 34)
  refine ⟨((h1.alloc h1.size _).drew), ?_⟩
  have := Blk.new (w.alloc (.cells x.cells 34)) 34 x.cells
  rw [show (w.alloc (.cells x.cells 34)).heap.size = w.heap.size + 1 by simp] at this
  exact this.drew
set_option maxHeartbeats 1000000 in
theorem tried_ (m : Mg) (hm : m.fits) (limit : Int) (w : World) : Calls Try.prog 15 #[m.val, .int .i64 limit] w fun e w' => e = .returned (.tuple #[m.tried.val, .bool (triedB m.retry limit)]) ∧ Below w.heap.size w w' := by
  obtain ⟨i, p, r, cl, c, b⟩ := m
  have h5 : -9223372036854775808 ≤ r := hm.2.2.1
  clear hm
  rcases Int.lt_or_le 999 r with h | h
  · have E : Hid (more1 r = 1000) := by
      have e : more1 r = 1000 := by unfold more1; rw [if_neg (by omega)]
      exact e
    obtain ⟨h1, h2⟩ := two_new w ⟨i, p, 1000, false, c, b⟩
    have H1 := Lib.hid h1
    have q0 := h2.cell 0
    have q1 := h2.cell 1
    have q2 := h2.cell 2
    have q3 := h2.cell 3
    have q4 := h2.cell 4
    have q5 := h2.cell 5
    clear h1 h2
    simp only [Mg.cells, List.getElem?_toArray, List.getElem?_cons_zero, List.getElem?_cons_succ] at H1 q0 q1 q2 q3 q4 q5
    go_enter Try.func15, Try.ntmps15
    go_wp2_with fail
    go_region
    go_wp2_with fail
    refine bodyPost_ret (v := .tuple #[.agg #[.int .i64 i, .int .i64 p, .int .i64 (1000), .bool false, .string c, .string b], .bool (decide (limit ≤ 1000))]) (by simp [results, Try.results15, go_sem]) rfl ?_
    exact ⟨by simp only [Mg.tried, Mg.val, Mg.cells, triedB, E.out], H1.out⟩
  · have E : Hid (more1 r = r + 1) := by
      have e : more1 r = r + 1 := by unfold more1; rw [if_pos (by omega)]
      exact e
    obtain ⟨h1, h2⟩ := two_new w ⟨i, p, r + 1, false, c, b⟩
    have H1 := Lib.hid h1
    have q0 := h2.cell 0
    have q1 := h2.cell 1
    have q2 := h2.cell 2
    have q3 := h2.cell 3
    have q4 := h2.cell 4
    have q5 := h2.cell 5
    clear h1 h2
    simp only [Mg.cells, List.getElem?_toArray, List.getElem?_cons_zero, List.getElem?_cons_succ] at H1 q0 q1 q2 q3 q4 q5
    go_enter Try.func15, Try.ntmps15
    go_wp2_with fail
    go_region
    go_wp2_with fail
    refine bodyPost_ret (v := .tuple #[.agg #[.int .i64 i, .int .i64 p, .int .i64 (r + 1), .bool false, .string c, .string b], .bool (decide (limit ≤ r + 1))]) (by simp [results, Try.results15, go_sem]) rfl ?_
    exact ⟨by simp only [Mg.tried, Mg.val, Mg.cells, triedB, E.out], H1.out⟩
set_option maxHeartbeats 1000000 in
theorem rtried_ (m : Mg) (hm : m.fits) (limit : Int) (w : World) : Calls Try.prog 19 #[m.val, .int .i64 limit] w fun e w' => e = .returned (.tuple #[m.tried.val, .bool (triedB m.retry limit)]) ∧ Below w.heap.size w w' := by
  obtain ⟨i, p, r, cl, c, b⟩ := m
  have h5 : -9223372036854775808 ≤ r := hm.2.2.1
  clear hm
  rcases Int.lt_or_le 999 r with h | h
  · have E : Hid (more1 r = 1000) := by
      have e : more1 r = 1000 := by unfold more1; rw [if_neg (by omega)]
      exact e
    obtain ⟨h1, h2⟩ := two_new w ⟨i, p, 1000, false, c, b⟩
    have H1 := Lib.hid h1
    have q0 := h2.cell 0
    have q1 := h2.cell 1
    have q2 := h2.cell 2
    have q3 := h2.cell 3
    have q4 := h2.cell 4
    have q5 := h2.cell 5
    clear h1 h2
    simp only [Mg.cells, List.getElem?_toArray, List.getElem?_cons_zero, List.getElem?_cons_succ] at H1 q0 q1 q2 q3 q4 q5
    go_enter Try.func19, Try.ntmps19
    go_wp2_with fail
    go_region
    go_wp2_with fail
    refine bodyPost_ret (v := .tuple #[.agg #[.int .i64 i, .int .i64 p, .int .i64 (1000), .bool false, .string c, .string b], .bool (decide (limit ≤ 1000))]) (by simp [results, Try.results19, go_sem]) rfl ?_
    exact ⟨by simp only [Mg.tried, Mg.val, Mg.cells, triedB, E.out], H1.out⟩
  · have E : Hid (more1 r = r + 1) := by
      have e : more1 r = r + 1 := by unfold more1; rw [if_pos (by omega)]
      exact e
    obtain ⟨h1, h2⟩ := two_new w ⟨i, p, r + 1, false, c, b⟩
    have H1 := Lib.hid h1
    have q0 := h2.cell 0
    have q1 := h2.cell 1
    have q2 := h2.cell 2
    have q3 := h2.cell 3
    have q4 := h2.cell 4
    have q5 := h2.cell 5
    clear h1 h2
    simp only [Mg.cells, List.getElem?_toArray, List.getElem?_cons_zero, List.getElem?_cons_succ] at H1 q0 q1 q2 q3 q4 q5
    go_enter Try.func19, Try.ntmps19
    go_wp2_with fail
    go_region
    go_wp2_with fail
    refine bodyPost_ret (v := .tuple #[.agg #[.int .i64 i, .int .i64 p, .int .i64 (r + 1), .bool false, .string c, .string b], .bool (decide (limit ≤ r + 1))]) (by simp [results, Try.results19, go_sem]) rfl ?_
    exact ⟨by simp only [Mg.tried, Mg.val, Mg.cells, triedB, E.out], H1.out⟩
end Go.Proofs.Ytobbopakdaoemaa
