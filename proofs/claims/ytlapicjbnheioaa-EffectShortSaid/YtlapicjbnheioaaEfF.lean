/- Are the fields that a change has by its kind within their bounds: package effect's within, fitsLimit, fits. -/
import Derived.Test.YtlapicjbnheioaaEfE
import Derived.Test.YtlapicjbnheioaaEfP
import Derived.Test.YtlapicjbnheioaaMsM
import Derived.Test.YtlapicjbnheioaaRwR
import Derived.ProofKit
import Derived.RegionTactic
import Derived.Deep.QuietTactic
import Derived.BigQuiet
set_option maxRecDepth 4000
namespace Go.Proofs.Ytlapicjbnheioaa
open Go.RowKit
theorem withinE (n a b : Int) (w : World) : Calls Try.prog 32 #[.int .i64 n, .int .i64 a, .int .i64 b] w fun e w' => e = .returned (.bool (decide (a ≤ n) && decide (n ≤ b))) ∧ w = w' := by
  by_cases h1 : a ≤ n
  · have E : Hid ((decide (a ≤ n) && decide (n ≤ b)) = decide (n ≤ b)) := by
      have e : decide (a ≤ n) = true := decide_eq_true h1
      show _ = _
      rw [e, Bool.true_and]
    go_enter Try.func32, Try.ntmps32
    go_wp2
    go_ret
    exact ⟨retM E.out.symm, rfl⟩
  · have E : Hid ((decide (a ≤ n) && decide (n ≤ b)) = false) := by
      have e : decide (a ≤ n) = false := decide_eq_false h1
      show _ = _
      rw [e, Bool.false_and]
    go_enter Try.func32, Try.ntmps32
    go_wp2
    go_ret
    exact ⟨retM E.out.symm, rfl⟩
theorem inName (o : ByteArray) (w : World) : Calls Try.prog 32 #[.int .i64 (o.size : Int), .int .i64 1, .int .i64 16] w fun e w' => e = .returned (.bool (nameB o)) ∧ w = w' := withinE (o.size : Int) 1 16 w
theorem inKey (o : ByteArray) (w : World) : Calls Try.prog 32 #[.int .i64 (o.size : Int), .int .i64 1, .int .i64 40] w fun e w' => e = .returned (.bool (keyB o)) ∧ w = w' := withinE (o.size : Int) 1 40 w
theorem inIdE (i : Int) (w : World) : Calls Try.prog 32 #[.int .i64 i, .int .i64 1, .int .i64 1099511627776] w fun e w' => e = .returned (.bool (idB i)) ∧ w = w' := withinE i 1 1099511627776 w
theorem fitsLimit_ (k l : Int) (w : World) : Calls Try.prog 42 #[.int .i64 k, .int .i64 l] w fun e w' => e = .returned (.bool (kindB k l)) ∧ w = w' := by
  by_cases h1 : k = 1
  · subst h1
    have E : Hid (kindB 1 l = (l == 0)) := by
      have e : kindB 1 l = (l == 0) := by simp only [kindB, if_true]; rw [Bool.eq_iff_iff]; simp
      exact e
    go_enter Try.func42, Try.ntmps42
    go_wp2
    go_ret
    exact ⟨retM E.out.symm, rfl⟩
  by_cases h2 : k = 2
  · subst h2
    have E : Hid (kindB 2 l = (decide (1 ≤ l) && decide (l ≤ 1000))) := by
      have e : kindB 2 l = (decide (1 ≤ l) && decide (l ≤ 1000)) := by simp [kindB]
      exact e
    go_enter Try.func42, Try.ntmps42
    go_wp2_with fail
    refine (withinE l 1 1000 _).mono ?_
    rintro e w1 ⟨rfl, rfl⟩
    go_wp2_with fail
    go_ret
    exact ⟨retM E.out.symm, rfl⟩
  have E : Hid (kindB k l = false) := by
    have e : kindB k l = false := by simp [kindB, h1, h2]
    exact e
  go_enter Try.func42, Try.ntmps42
  go_wp2
  go_ret
  exact ⟨retM E.out.symm, rfl⟩
theorem rightR_parts (k v : ByteArray) : rightR (k, v) = (keyB k && bodyB v) := by
  have e1 : decide (1 ≤ (k.size : Int)) = decide (1 ≤ k.size) := decide_eq_decide.2 (by omega)
  have e2 : decide ((k.size : Int) ≤ 40) = decide (k.size ≤ 40) := decide_eq_decide.2 (by omega)
  have e3 : decide ((v.size : Int) ≤ 100) = decide (v.size ≤ 100) := decide_eq_decide.2 (by omega)
  unfold rightR keyB bodyB
  rw [e1, e2, e3]
theorem rightRow_ (k v : ByteArray) (w : World) : Calls Try.prog 43 #[.agg #[.string k, .string v]] w fun e w' => e = .returned (.bool (keyB k && bodyB v)) ∧ Below w.heap.size w w' := by
  rw [← rightR_parts]
  exact right_row (k, v) w
set_option maxHeartbeats 1000000 in
theorem fits_ (e : Ef) (w : World) : Calls Try.prog 16 #[e.val_] w fun x w' => x = .returned (.bool e.good) ∧ Below w.heap.size w w' := by
  obtain ⟨k, o, ky, v, n, l, t, m⟩ := e
  have HAL := Lib.hid (alloc_below w (.cells (Ef.cells ⟨k, o, ky, v, n, l, t, m⟩) 29))
  have HN := Lib.hid (inName o)
  obtain ⟨nb, hnb⟩ : ∃ b, nameB o = b := ⟨_, rfl⟩
  by_cases h1 : k = 1
  · subst h1
    have E : Hid (Ef.good ⟨1, o, ky, v, n, l, t, m⟩ = (nb && kindB n l)) := by
      have e : Ef.good ⟨1, o, ky, v, n, l, t, m⟩ = (nb && kindB n l) := by simp [Ef.good, hnb]
      exact e
    rw [E.out]
    rw [hnb] at HN
    clear E hnb
    simp only [Ef.cells] at HAL
    go_enter Try.func16, Try.ntmps16
    go_wp2_with fail
    refine (HN.out _).mono ?_
    rintro e w1 ⟨rfl, rfl⟩
    cases nb
    · go_wp2_with fail
      go_ret
      exact ⟨retM (by simp), HAL.out⟩
    go_wp2_with fail
    refine (fitsLimit_ n l _).mono ?_
    rintro e w2 ⟨rfl, rfl⟩
    go_wp2_with fail
    go_ret
    exact ⟨retM (by simp), HAL.out⟩
  by_cases h2 : k = 2
  · subst h2
    have E : Hid (Ef.good ⟨2, o, ky, v, n, l, t, m⟩ = (nb && (keyB ky && bodyB v))) := by
      have e : Ef.good ⟨2, o, ky, v, n, l, t, m⟩ = (nb && (keyB ky && bodyB v)) := by simp [Ef.good, hnb]
      exact e
    rw [E.out]
    rw [hnb] at HN
    clear E hnb
    simp only [Ef.cells] at HAL
    go_enter Try.func16, Try.ntmps16
    go_wp2_with fail
    refine (HN.out _).mono ?_
    rintro e w1 ⟨rfl, rfl⟩
    cases nb
    · go_wp2_with fail
      go_ret
      exact ⟨retM (by simp), HAL.out⟩
    go_wp2_with fail
    refine (rightRow_ ky v _).mono ?_
    rintro e w2 ⟨rfl, hb2⟩
    have HE := Lib.hid (HAL.out.trans (hb2.mono HAL.out.size))
    clear hb2
    go_wp2_with fail
    go_ret
    exact ⟨retM (by simp), HE.out⟩
  by_cases h3 : k = 3
  · subst h3
    have E : Hid (Ef.good ⟨3, o, ky, v, n, l, t, m⟩ = (nb && keyB ky)) := by
      have e : Ef.good ⟨3, o, ky, v, n, l, t, m⟩ = (nb && keyB ky) := by simp [Ef.good, hnb]
      exact e
    rw [E.out]
    rw [hnb] at HN
    clear E hnb
    simp only [Ef.cells] at HAL
    go_enter Try.func16, Try.ntmps16
    go_wp2_with fail
    refine (HN.out _).mono ?_
    rintro e w1 ⟨rfl, rfl⟩
    cases nb
    · go_wp2_with fail
      go_ret
      exact ⟨retM (by simp), HAL.out⟩
    go_wp2_with fail
    refine (inKey ky _).mono ?_
    rintro e w2 ⟨rfl, rfl⟩
    go_wp2_with fail
    go_ret
    exact ⟨retM (by simp), HAL.out⟩
  by_cases h4 : k = 4
  · subst h4
    have E : Hid (Ef.good ⟨4, o, ky, v, n, l, t, m⟩ = (nb && m.right)) := by
      have e : Ef.good ⟨4, o, ky, v, n, l, t, m⟩ = (nb && m.right) := by simp [Ef.good, hnb]
      exact e
    rw [E.out]
    rw [hnb] at HN
    clear E hnb
    obtain ⟨i, p, r, cl, c, b⟩ := m
    simp only [Ef.cells] at HAL
    go_enter Try.func16, Try.ntmps16
    go_wp2_with fail
    refine (HN.out _).mono ?_
    rintro e w1 ⟨rfl, rfl⟩
    cases nb
    · go_wp2_with fail
      go_ret
      exact ⟨retM (by simp), HAL.out⟩
    go_wp2_with fail
    refine (right_ ⟨i, p, r, cl, c, b⟩ _).mono ?_
    rintro e w2 ⟨rfl, hb2⟩
    have HE := Lib.hid (HAL.out.trans (hb2.mono HAL.out.size))
    clear hb2
    go_wp2_with fail
    go_ret
    exact ⟨retM (by simp), HE.out⟩
  by_cases h5 : k = 5
  · subst h5
    have E : Hid (Ef.good ⟨5, o, ky, v, n, l, t, m⟩ = (nb && idB n)) := by
      have e : Ef.good ⟨5, o, ky, v, n, l, t, m⟩ = (nb && idB n) := by simp [Ef.good, hnb]
      exact e
    rw [E.out]
    rw [hnb] at HN
    clear E hnb
    simp only [Ef.cells] at HAL
    go_enter Try.func16, Try.ntmps16
    go_wp2_with fail
    refine (HN.out _).mono ?_
    rintro e w1 ⟨rfl, rfl⟩
    cases nb
    · go_wp2_with fail
      go_ret
      exact ⟨retM (by simp), HAL.out⟩
    go_wp2_with fail
    refine (inIdE n _).mono ?_
    rintro e w2 ⟨rfl, rfl⟩
    go_wp2_with fail
    go_ret
    exact ⟨retM (by simp), HAL.out⟩
  by_cases h6 : k = 6
  · subst h6
    have E : Hid (Ef.good ⟨6, o, ky, v, n, l, t, m⟩ = (nb && idB n)) := by
      have e : Ef.good ⟨6, o, ky, v, n, l, t, m⟩ = (nb && idB n) := by simp [Ef.good, hnb]
      exact e
    rw [E.out]
    rw [hnb] at HN
    clear E hnb
    simp only [Ef.cells] at HAL
    go_enter Try.func16, Try.ntmps16
    go_wp2_with fail
    refine (HN.out _).mono ?_
    rintro e w1 ⟨rfl, rfl⟩
    cases nb
    · go_wp2_with fail
      go_ret
      exact ⟨retM (by simp), HAL.out⟩
    go_wp2_with fail
    refine (inIdE n _).mono ?_
    rintro e w2 ⟨rfl, rfl⟩
    go_wp2_with fail
    go_ret
    exact ⟨retM (by simp), HAL.out⟩
  by_cases h7 : k = 7
  · subst h7
    have E : Hid (Ef.good ⟨7, o, ky, v, n, l, t, m⟩ = (nb && idB n)) := by
      have e : Ef.good ⟨7, o, ky, v, n, l, t, m⟩ = (nb && idB n) := by simp [Ef.good, hnb]
      exact e
    rw [E.out]
    rw [hnb] at HN
    clear E hnb
    simp only [Ef.cells] at HAL
    go_enter Try.func16, Try.ntmps16
    go_wp2_with fail
    refine (HN.out _).mono ?_
    rintro e w1 ⟨rfl, rfl⟩
    cases nb
    · go_wp2_with fail
      go_ret
      exact ⟨retM (by simp), HAL.out⟩
    go_wp2_with fail
    refine (inIdE n _).mono ?_
    rintro e w2 ⟨rfl, rfl⟩
    go_wp2_with fail
    go_ret
    exact ⟨retM (by simp), HAL.out⟩
  by_cases h8 : k = 8
  · subst h8
    have E : Hid (Ef.good ⟨8, o, ky, v, n, l, t, m⟩ = idB n) := by
      have e : Ef.good ⟨8, o, ky, v, n, l, t, m⟩ = idB n := by simp [Ef.good]
      exact e
    rw [E.out]
    clear E hnb HN
    simp only [Ef.cells] at HAL
    go_enter Try.func16, Try.ntmps16
    go_wp2_with fail
    refine (inIdE n _).mono ?_
    rintro e w2 ⟨rfl, rfl⟩
    go_wp2_with fail
    go_ret
    exact ⟨rfl, HAL.out⟩
  have E : Hid (Ef.good ⟨k, o, ky, v, n, l, t, m⟩ = false) := by
    have e : Ef.good ⟨k, o, ky, v, n, l, t, m⟩ = false := by simp [Ef.good, h1, h2, h3, h4, h5, h6, h7, h8]
    exact e
  rw [E.out]
  rw [hnb] at HN
  clear E hnb
  simp only [Ef.cells] at HAL
  go_enter Try.func16, Try.ntmps16
  go_wp2_with fail
  refine (HN.out _).mono ?_
  rintro e w1 ⟨rfl, rfl⟩
  cases nb
  · go_wp2_with fail
    go_ret
    exact ⟨rfl, HAL.out⟩
  go_wp2_with fail
  go_ret
  exact ⟨rfl, HAL.out⟩
end Go.Proofs.Ytlapicjbnheioaa
