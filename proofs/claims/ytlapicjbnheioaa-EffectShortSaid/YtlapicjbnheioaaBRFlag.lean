/- What a reader's Flag and Done answer. -/
import Derived.Test.YtlapicjbnheioaaBReads
namespace Go.Proofs.Ytlapicjbnheioaa
open Go.RowKit
theorem reader_cell {T : TypeId} {w : World} {g B : Nat} {r : Rd} (h : ReaderAt T w g B r) : w.cell? ⟨g, 1, none⟩ = some (.bool r.bad) ∧ w.frozen? ⟨g, 1, none⟩ = false := by
  obtain ⟨A, m, c, hb, _⟩ := h
  exact ⟨by rw [hb.cell]; rfl, hb.frozen 1⟩
theorem beq1 (n : Nat) : ((n : Int) == 1) = decide (n = 1) := by rw [Bool.eq_iff_iff]; simp; omega
theorem beq0 (n : Nat) : ((n : Int) == 0) = decide (n = 0) := by rw [Bool.eq_iff_iff]; simp
theorem retB {a b : Bool} (h : a = b) : Ending.returned (.bool a) = .returned (.bool b) := by rw [h]
set_option maxHeartbeats 400000 in
theorem rdFlag (w : World) (g B : Nat) (r : Rd) (h : ReaderAt 79 w g B r) : Calls Try.prog 53 #[.pointer (some ⟨g, 0, none⟩)] w (FlagP 79 w g B r) := by
  go_enter Try.func53, Try.ntmps53
  go_wp2_with fail
  refine (take_ w g B r _ h (by omega) (by omega)).mono ?_
  rintro e w1 ⟨A, m, c, rfl, hr, hR, hK⟩
  have h2 := taken_le r (Int.toNat 1)
  generalize hT : r.take (Int.toNat 1) = p at *
  obtain ⟨xs, r1⟩ := p
  have hle : m ≤ 1 := by
    have h1 := hr.1
    simp at h1 h2
    omega
  have HT := Lib.hid (flag_of hT)
  have HR := Lib.hid hr
  have HR2 := Lib.hid hR
  have HK := Lib.hid hK
  obtain ⟨c1, f1⟩ := reader_cell hR
  clear hr hR hK h hT h2
  go_wp2_with fail
  refine (join_ _ _ _ _ _ _ HR.out (by omega)).mono ?_
  rintro e w2 ⟨rfl, rfl⟩
  by_cases h1 : 1 < joinN xs
  · go_wp2
    go_ret
    obtain ⟨k1, k2⟩ := reader_set1 (l := r1.rest) (b := r1.bad) HR2.out
    exact ⟨retB (by rw [HT.out]; exact beq1 _), by rw [HT.out, if_pos h1]; exact k1, HK.out.trans k2⟩
  · go_wp2
    go_ret
    exact ⟨retB (by rw [HT.out]; exact beq1 _), by rw [HT.out, if_neg h1]; exact HR2.out, HK.out⟩
theorem rdDone (w : World) (g B : Nat) (r : Rd) (h : ReaderAt 79 w g B r) : Calls Try.prog 34 #[.pointer (some ⟨g, 0, none⟩)] w fun e w' => e = .returned (.bool r.done) ∧ w = w' := by
  obtain ⟨rest, bad⟩ := r
  obtain ⟨A, m, c, hb, h1, h2, hr, hB⟩ := h
  have c0 := hb.cell 0
  have c1 := hb.cell 1
  simp at c0 c1
  have hm := hr.1
  simp only at hm
  have e : (⟨rest, bad⟩ : Rd).done = (!bad && decide (m = 0)) := by simp [Rd.done, hm]
  have E := Lib.hid e
  unfold maxLen at h2
  clear hb hr hm e
  cases bad
  · go_enter Try.func34, Try.ntmps34
    go_wp2
    go_ret
    exact ⟨retB (by rw [E.out]; simp [beq0]), rfl⟩
  · go_enter Try.func34, Try.ntmps34
    go_wp2
    go_ret
    exact ⟨retB (by rw [E.out]; simp), rfl⟩
end Go.Proofs.Ytlapicjbnheioaa

