/- Messages: Right and Tried, the program's and the document's. -/
import Derived.Test.YtlapicjbnheioaaMsP
import Derived.Test.YtlapicjbnheioaaProg
import Derived.Test.YtlapicjbnheioaaKeep
import Derived.WalkKit
import Derived.ProofKit
import Derived.Lib.Hide
import Derived.RegionTactic
import Derived.Deep.QuietTactic
import Derived.BigQuiet
set_option maxRecDepth 4000
namespace Go.Proofs.Ytlapicjbnheioaa
open Go.RowKit
theorem retM {a b : Bool} (h : a = b) : Ending.returned (.bool a) = .returned (.bool b) := by rw [h]
theorem within_ (n a b : Int) (w : World) : Calls Try.prog 56 #[.int .i64 n, .int .i64 a, .int .i64 b] w fun e w' => e = .returned (.bool (decide (a ≤ n) && decide (n ≤ b))) ∧ w = w' := by
  by_cases h1 : a ≤ n
  · have E : Hid ((decide (a ≤ n) && decide (n ≤ b)) = decide (n ≤ b)) := by
      have e : decide (a ≤ n) = true := decide_eq_true h1
      show _ = _
      rw [e, Bool.true_and]
    go_enter Try.func56, Try.ntmps56
    go_wp2
    go_ret
    exact ⟨retM E.out.symm, rfl⟩
  · have E : Hid ((decide (a ≤ n) && decide (n ≤ b)) = false) := by
      have e : decide (a ≤ n) = false := decide_eq_false h1
      show _ = _
      rw [e, Bool.false_and]
    go_enter Try.func56, Try.ntmps56
    go_wp2
    go_ret
    exact ⟨retM E.out.symm, rfl⟩
theorem inId (i : Int) (w : World) : Calls Try.prog 56 #[.int .i64 i, .int .i64 1, .int .i64 1099511627776] w fun e w' => e = .returned (.bool (idB i)) ∧ w = w' := within_ i 1 1099511627776 w
theorem inPri (i : Int) (w : World) : Calls Try.prog 56 #[.int .i64 i, .int .i64 (-1000), .int .i64 1000] w fun e w' => e = .returned (.bool (priB i)) ∧ w = w' := within_ i (-1000) 1000 w
theorem inRetry (i : Int) (w : World) : Calls Try.prog 56 #[.int .i64 i, .int .i64 0, .int .i64 1000] w fun e w' => e = .returned (.bool (retryB i)) ∧ w = w' := within_ i 0 1000 w
set_option maxHeartbeats 1000000 in
theorem right_ (m : Mg) (w : World) : Calls Try.prog 44 #[m.val] w fun e w' => e = .returned (.bool m.right) ∧ Below w.heap.size w w' := by
  obtain ⟨i, p, r, cl, c, b⟩ := m
  have HAL := Lib.hid (alloc_below w (.cells #[.int .i64 i, .int .i64 p, .int .i64 r, .bool cl, .string c, .string b] 27))
  simp only [Mg.right]
  have HI := Lib.hid (inId i)
  have HP := Lib.hid (inPri p)
  have HR := Lib.hid (inRetry r)
  have HC : Hid (corrB c = decide ((c.size : Int) ≤ 40)) := rfl
  have HB : Hid (bodyB b = decide ((b.size : Int) ≤ 100)) := rfl
  generalize idB i = b1 at *
  generalize priB p = b2 at *
  generalize retryB r = b3 at *
  generalize corrB c = b4 at *
  generalize bodyB b = b5 at *
  go_enter Try.func44, Try.ntmps44
  go_wp2_with fail
  refine (HI.out _).mono ?_
  rintro e w1 ⟨rfl, rfl⟩
  cases b1
  · go_wp2_with fail
    go_ret
    exact ⟨retM (by simp), HAL.out⟩
  go_wp2_with fail
  refine (HP.out _).mono ?_
  rintro e w2 ⟨rfl, rfl⟩
  cases b2
  · go_wp2_with fail
    go_ret
    exact ⟨retM (by simp), HAL.out⟩
  go_wp2_with fail
  refine (HR.out _).mono ?_
  rintro e w3 ⟨rfl, rfl⟩
  cases b3
  · go_wp2_with fail
    go_ret
    exact ⟨retM (by simp), HAL.out⟩
  by_cases h4 : (c.size : Int) ≤ 40
  · have E4 : Hid (b4 = true) := by have := HC.out; rw [decide_eq_true h4] at this; exact this
    go_wp2_with fail
    go_ret
    exact ⟨retM (by rw [E4.out, HB.out]; simp), HAL.out⟩
  · have E4 : Hid (b4 = false) := by have := HC.out; rw [decide_eq_false h4] at this; exact this
    go_wp2_with fail
    go_ret
    exact ⟨retM (by rw [E4.out]; simp), HAL.out⟩
set_option maxHeartbeats 1000000 in
theorem rright_ (m : Mg) (w : World) : Calls Try.prog 21 #[m.val] w fun e w' => e = .returned (.bool m.right) ∧ Below w.heap.size w w' := by
  obtain ⟨i, p, r, cl, c, b⟩ := m
  have HAL := Lib.hid (alloc_below w (.cells #[.int .i64 i, .int .i64 p, .int .i64 r, .bool cl, .string c, .string b] 27))
  obtain ⟨z, hz⟩ : ∃ z, Mg.right ⟨i, p, r, cl, c, b⟩ = z := ⟨_, rfl⟩
  have hz' : (idB i && priB p && retryB r && corrB c && bodyB b) = z := hz
  have HZ := Lib.hid hz'
  rw [hz]
  clear hz hz'
  simp only [idB, priB, retryB, corrB, bodyB] at HZ
  by_cases h0 : 1 ≤ i
  rotate_left
  · have EZ : Hid (z = false) := by
      have h := HZ.out
      rw [decide_eq_false h0] at h
      simp only [Bool.false_and] at h
      exact h.symm
    clear HZ
    go_enter Try.func21, Try.ntmps21
    go_wp2_with fail
    go_ret
    exact ⟨retM EZ.out.symm, HAL.out⟩
  by_cases h1 : i ≤ 1099511627776
  rotate_left
  · have EZ : Hid (z = false) := by
      have h := HZ.out
      rw [decide_eq_false h1] at h
      simp only [Bool.false_and, Bool.and_false] at h
      exact h.symm
    clear HZ
    go_enter Try.func21, Try.ntmps21
    go_wp2_with fail
    go_ret
    exact ⟨retM EZ.out.symm, HAL.out⟩
  by_cases h2 : -1000 ≤ p
  rotate_left
  · have EZ : Hid (z = false) := by
      have h := HZ.out
      rw [decide_eq_false h2] at h
      simp only [Bool.false_and, Bool.and_false] at h
      exact h.symm
    clear HZ
    go_enter Try.func21, Try.ntmps21
    go_wp2_with fail
    go_ret
    exact ⟨retM EZ.out.symm, HAL.out⟩
  by_cases h3 : p ≤ 1000
  rotate_left
  · have EZ : Hid (z = false) := by
      have h := HZ.out
      rw [decide_eq_false h3] at h
      simp only [Bool.false_and, Bool.and_false] at h
      exact h.symm
    clear HZ
    go_enter Try.func21, Try.ntmps21
    go_wp2_with fail
    go_ret
    exact ⟨retM EZ.out.symm, HAL.out⟩
  by_cases h4 : 0 ≤ r
  rotate_left
  · have EZ : Hid (z = false) := by
      have h := HZ.out
      rw [decide_eq_false h4] at h
      simp only [Bool.false_and, Bool.and_false] at h
      exact h.symm
    clear HZ
    go_enter Try.func21, Try.ntmps21
    go_wp2_with fail
    go_ret
    exact ⟨retM EZ.out.symm, HAL.out⟩
  by_cases h5 : r ≤ 1000
  rotate_left
  · have EZ : Hid (z = false) := by
      have h := HZ.out
      rw [decide_eq_false h5] at h
      simp only [Bool.false_and, Bool.and_false] at h
      exact h.symm
    clear HZ
    go_enter Try.func21, Try.ntmps21
    go_wp2_with fail
    go_ret
    exact ⟨retM EZ.out.symm, HAL.out⟩
  by_cases h6 : (c.size : Int) ≤ 40
  rotate_left
  · have EZ : Hid (z = false) := by
      have h := HZ.out
      rw [decide_eq_false h6] at h
      simp only [Bool.false_and, Bool.and_false] at h
      exact h.symm
    clear HZ
    go_enter Try.func21, Try.ntmps21
    go_wp2_with fail
    go_ret
    exact ⟨retM EZ.out.symm, HAL.out⟩
  have EZ : Hid (decide ((b.size : Int) ≤ 100) = z) := by
    have h := HZ.out
    rw [decide_eq_true h0, decide_eq_true h1, decide_eq_true h2, decide_eq_true h3, decide_eq_true h4, decide_eq_true h5, decide_eq_true h6] at h
    have h2 : decide ((b.size : Int) ≤ 100) = z := by simpa using h
    exact h2
  clear HZ
  go_enter Try.func21, Try.ntmps21
  go_wp2_with fail
  go_ret
  exact ⟨retM EZ.out, HAL.out⟩
end Go.Proofs.Ytlapicjbnheioaa
