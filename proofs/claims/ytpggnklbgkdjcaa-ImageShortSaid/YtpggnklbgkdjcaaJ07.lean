/- Messages: Right and Tried, the program's and the document's. Are the fields that a change has by its kind within their bounds: package effect's within, fitsLimit, fits. Are two changes one: what '==' of them answers. May a change be: package effect's Right. -/
import Derived.Test.YtpggnklbgkdjcaaJ03
import Derived.Test.YtpggnklbgkdjcaaProg
import Derived.Test.YtpggnklbgkdjcaaJ01
import Derived.WalkKit
import Derived.ProofKit
import Derived.Lib.Hide
import Derived.RegionTactic
import Derived.Deep.QuietTactic
import Derived.BigQuiet
import Derived.Test.YtpggnklbgkdjcaaJ05
import Derived.Laws.StructEq
import Derived.Test.YtpggnklbgkdjcaaJ06
import Derived.Deep.RegionHeld3
import Derived.Deep.RegionWith
set_option maxRecDepth 4000
namespace Go.Proofs.Ytpggnklbgkdjcaa
open Go.RowKit
theorem retM {a b : Bool} (h : a = b) : Ending.returned (.bool a) = .returned (.bool b) := by rw [h]
theorem within_ (n a b : Int) (w : World) : Calls Try.prog 77 #[.int .i64 n, .int .i64 a, .int .i64 b] w fun e w' => e = .returned (.bool (decide (a ≤ n) && decide (n ≤ b))) ∧ w = w' := by
  by_cases h1 : a ≤ n
  · have E : Hid ((decide (a ≤ n) && decide (n ≤ b)) = decide (n ≤ b)) := by
      have e : decide (a ≤ n) = true := decide_eq_true h1
      show _ = _
      rw [e, Bool.true_and]
    go_enter Try.func77, Try.ntmps77
    go_wp2
    go_ret
    exact ⟨retM E.out.symm, rfl⟩
  · have E : Hid ((decide (a ≤ n) && decide (n ≤ b)) = false) := by
      have e : decide (a ≤ n) = false := decide_eq_false h1
      show _ = _
      rw [e, Bool.false_and]
    go_enter Try.func77, Try.ntmps77
    go_wp2
    go_ret
    exact ⟨retM E.out.symm, rfl⟩
theorem inId (i : Int) (w : World) : Calls Try.prog 77 #[.int .i64 i, .int .i64 1, .int .i64 1099511627776] w fun e w' => e = .returned (.bool (idB i)) ∧ w = w' := within_ i 1 1099511627776 w
theorem inPri (i : Int) (w : World) : Calls Try.prog 77 #[.int .i64 i, .int .i64 (-1000), .int .i64 1000] w fun e w' => e = .returned (.bool (priB i)) ∧ w = w' := within_ i (-1000) 1000 w
theorem inRetry (i : Int) (w : World) : Calls Try.prog 77 #[.int .i64 i, .int .i64 0, .int .i64 1000] w fun e w' => e = .returned (.bool (retryB i)) ∧ w = w' := within_ i 0 1000 w
set_option maxHeartbeats 1000000 in
theorem right_ (m : Mg) (w : World) : Calls Try.prog 65 #[m.val] w fun e w' => e = .returned (.bool m.right) ∧ Below w.heap.size w w' := by
  obtain ⟨i, p, r, cl, c, b⟩ := m
  have HAL := Lib.hid (alloc_below w (.cells #[.int .i64 i, .int .i64 p, .int .i64 r, .bool cl, .string c, .string b] 55))
  simp only [Mg.right]
  have HI := Lib.hid (inId i)
  have HP := Lib.hid (inPri p)
  have HR := Lib.hid (inRetry r)
  have HC : Hid (corrB c = decide ((c.size : Int) ≤ 40)) := rfl
  have HB : Hid (bodyB b = decide ((b.size : Int) ≤ 100)) := rfl
  generalize idB i = b1 at *
  generalize priB p = b2 at *
  generalize retryB r = b3 at *
  generalize corrB c = b4 at *
  generalize bodyB b = b5 at *
  go_enter Try.func65, Try.ntmps65
  go_wp2_with fail
  refine (HI.out _).mono ?_
  rintro e w1 ⟨rfl, rfl⟩
  cases b1
  · go_wp2_with fail
    go_ret
    exact ⟨retM (by simp), HAL.out⟩
  go_wp2_with fail
  refine (HP.out _).mono ?_
  rintro e w2 ⟨rfl, rfl⟩
  cases b2
  · go_wp2_with fail
    go_ret
    exact ⟨retM (by simp), HAL.out⟩
  go_wp2_with fail
  refine (HR.out _).mono ?_
  rintro e w3 ⟨rfl, rfl⟩
  cases b3
  · go_wp2_with fail
    go_ret
    exact ⟨retM (by simp), HAL.out⟩
  by_cases h4 : (c.size : Int) ≤ 40
  · have E4 : Hid (b4 = true) := by have := HC.out; rw [decide_eq_true h4] at this; exact this
    go_wp2_with fail
    go_ret
    exact ⟨retM (by rw [E4.out, HB.out]; simp), HAL.out⟩
  · have E4 : Hid (b4 = false) := by have := HC.out; rw [decide_eq_false h4] at this; exact this
    go_wp2_with fail
    go_ret
    exact ⟨retM (by rw [E4.out]; simp), HAL.out⟩
set_option maxHeartbeats 1000000 in
theorem rright_ (m : Mg) (w : World) : Calls Try.prog 46 #[m.val] w fun e w' => e = .returned (.bool m.right) ∧ Below w.heap.size w w' := by
  obtain ⟨i, p, r, cl, c, b⟩ := m
  have HAL := Lib.hid (alloc_below w (.cells #[.int .i64 i, .int .i64 p, .int .i64 r, .bool cl, .string c, .string b] 55))
  obtain ⟨z, hz⟩ : ∃ z, Mg.right ⟨i, p, r, cl, c, b⟩ = z := ⟨_, rfl⟩
  have hz' : (idB i && priB p && retryB r && corrB c && bodyB b) = z := hz
  have HZ := Lib.hid hz'
  rw [hz]
  clear hz hz'
  simp only [idB, priB, retryB, corrB, bodyB] at HZ
  by_cases h0 : 1 ≤ i
  rotate_left
  · have EZ : Hid (z = false) := by
      have h := HZ.out
      rw [decide_eq_false h0] at h
      simp only [Bool.false_and] at h
      exact h.symm
    clear HZ
    go_enter Try.func46, Try.ntmps46
    go_wp2_with fail
    go_ret
    exact ⟨retM EZ.out.symm, HAL.out⟩
  by_cases h1 : i ≤ 1099511627776
  rotate_left
  · have EZ : Hid (z = false) := by
      have h := HZ.out
      rw [decide_eq_false h1] at h
      simp only [Bool.false_and, Bool.and_false] at h
      exact h.symm
    clear HZ
    go_enter Try.func46, Try.ntmps46
    go_wp2_with fail
    go_ret
    exact ⟨retM EZ.out.symm, HAL.out⟩
  by_cases h2 : -1000 ≤ p
  rotate_left
  · have EZ : Hid (z = false) := by
      have h := HZ.out
      rw [decide_eq_false h2] at h
      simp only [Bool.false_and, Bool.and_false] at h
      exact h.symm
    clear HZ
    go_enter Try.func46, Try.ntmps46
    go_wp2_with fail
    go_ret
    exact ⟨retM EZ.out.symm, HAL.out⟩
  by_cases h3 : p ≤ 1000
  rotate_left
  · have EZ : Hid (z = false) := by
      have h := HZ.out
      rw [decide_eq_false h3] at h
      simp only [Bool.false_and, Bool.and_false] at h
      exact h.symm
    clear HZ
    go_enter Try.func46, Try.ntmps46
    go_wp2_with fail
    go_ret
    exact ⟨retM EZ.out.symm, HAL.out⟩
  by_cases h4 : 0 ≤ r
  rotate_left
  · have EZ : Hid (z = false) := by
      have h := HZ.out
      rw [decide_eq_false h4] at h
      simp only [Bool.false_and, Bool.and_false] at h
      exact h.symm
    clear HZ
    go_enter Try.func46, Try.ntmps46
    go_wp2_with fail
    go_ret
    exact ⟨retM EZ.out.symm, HAL.out⟩
  by_cases h5 : r ≤ 1000
  rotate_left
  · have EZ : Hid (z = false) := by
      have h := HZ.out
      rw [decide_eq_false h5] at h
      simp only [Bool.false_and, Bool.and_false] at h
      exact h.symm
    clear HZ
    go_enter Try.func46, Try.ntmps46
    go_wp2_with fail
    go_ret
    exact ⟨retM EZ.out.symm, HAL.out⟩
  by_cases h6 : (c.size : Int) ≤ 40
  rotate_left
  · have EZ : Hid (z = false) := by
      have h := HZ.out
      rw [decide_eq_false h6] at h
      simp only [Bool.false_and, Bool.and_false] at h
      exact h.symm
    clear HZ
    go_enter Try.func46, Try.ntmps46
    go_wp2_with fail
    go_ret
    exact ⟨retM EZ.out.symm, HAL.out⟩
  have EZ : Hid (decide ((b.size : Int) ≤ 100) = z) := by
    have h := HZ.out
    rw [decide_eq_true h0, decide_eq_true h1, decide_eq_true h2, decide_eq_true h3, decide_eq_true h4, decide_eq_true h5, decide_eq_true h6] at h
    have h2 : decide ((b.size : Int) ≤ 100) = z := by simpa using h
    exact h2
  clear HZ
  go_enter Try.func46, Try.ntmps46
  go_wp2_with fail
  go_ret
  exact ⟨retM EZ.out, HAL.out⟩
end Go.Proofs.Ytpggnklbgkdjcaa
namespace Go.Proofs.Ytpggnklbgkdjcaa
open Go.RowKit
theorem withinE (n a b : Int) (w : World) : Calls Try.prog 79 #[.int .i64 n, .int .i64 a, .int .i64 b] w fun e w' => e = .returned (.bool (decide (a ≤ n) && decide (n ≤ b))) ∧ w = w' := by
  by_cases h1 : a ≤ n
  · have E : Hid ((decide (a ≤ n) && decide (n ≤ b)) = decide (n ≤ b)) := by
      have e : decide (a ≤ n) = true := decide_eq_true h1
      show _ = _
      rw [e, Bool.true_and]
    go_enter Try.func79, Try.ntmps79
    go_wp2
    go_ret
    exact ⟨retM E.out.symm, rfl⟩
  · have E : Hid ((decide (a ≤ n) && decide (n ≤ b)) = false) := by
      have e : decide (a ≤ n) = false := decide_eq_false h1
      show _ = _
      rw [e, Bool.false_and]
    go_enter Try.func79, Try.ntmps79
    go_wp2
    go_ret
    exact ⟨retM E.out.symm, rfl⟩
theorem inName (o : ByteArray) (w : World) : Calls Try.prog 79 #[.int .i64 (o.size : Int), .int .i64 1, .int .i64 16] w fun e w' => e = .returned (.bool (nameB o)) ∧ w = w' := withinE (o.size : Int) 1 16 w
theorem inKey (o : ByteArray) (w : World) : Calls Try.prog 79 #[.int .i64 (o.size : Int), .int .i64 1, .int .i64 40] w fun e w' => e = .returned (.bool (keyLB o)) ∧ w = w' := withinE (o.size : Int) 1 40 w
theorem inIdE (i : Int) (w : World) : Calls Try.prog 79 #[.int .i64 i, .int .i64 1, .int .i64 1099511627776] w fun e w' => e = .returned (.bool (idB i)) ∧ w = w' := withinE i 1 1099511627776 w
theorem fitsLimit_ (k l : Int) (w : World) : Calls Try.prog 80 #[.int .i64 k, .int .i64 l] w fun e w' => e = .returned (.bool (kindB k l)) ∧ w = w' := by
  by_cases h1 : k = 1
  · subst h1
    have E : Hid (kindB 1 l = (l == 0)) := by
      have e : kindB 1 l = (l == 0) := by simp only [kindB, if_true]; rw [Bool.eq_iff_iff]; simp
      exact e
    go_enter Try.func80, Try.ntmps80
    go_wp2
    go_ret
    exact ⟨retM E.out.symm, rfl⟩
  by_cases h2 : k = 2
  · subst h2
    have E : Hid (kindB 2 l = (decide (1 ≤ l) && decide (l ≤ 1000))) := by
      have e : kindB 2 l = (decide (1 ≤ l) && decide (l ≤ 1000)) := by simp [kindB]
      exact e
    go_enter Try.func80, Try.ntmps80
    go_wp2_with fail
    refine (withinE l 1 1000 _).mono ?_
    rintro e w1 ⟨rfl, rfl⟩
    go_wp2_with fail
    go_ret
    exact ⟨retM E.out.symm, rfl⟩
  have E : Hid (kindB k l = false) := by
    have e : kindB k l = false := by simp [kindB, h1, h2]
    exact e
  go_enter Try.func80, Try.ntmps80
  go_wp2
  go_ret
  exact ⟨retM E.out.symm, rfl⟩
theorem rightR_parts (k v : ByteArray) : rightR (k, v) = (keyLB k && bodyB v) := by
  have e1 : decide (1 ≤ (k.size : Int)) = decide (1 ≤ k.size) := decide_eq_decide.2 (by omega)
  have e2 : decide ((k.size : Int) ≤ 40) = decide (k.size ≤ 40) := decide_eq_decide.2 (by omega)
  have e3 : decide ((v.size : Int) ≤ 100) = decide (v.size ≤ 100) := decide_eq_decide.2 (by omega)
  unfold rightR keyLB bodyB
  rw [e1, e2, e3]
theorem rightRow_ (k v : ByteArray) (w : World) : Calls Try.prog 62 #[.agg #[.string k, .string v]] w fun e w' => e = .returned (.bool (keyLB k && bodyB v)) ∧ Below w.heap.size w w' := by
  rw [← rightR_parts]
  exact right_row (k, v) w
set_option maxHeartbeats 1000000 in
theorem efits_ (e : Ef) (w : World) : Calls Try.prog 70 #[e.val_] w fun x w' => x = .returned (.bool e.good) ∧ Below w.heap.size w w' := by
  obtain ⟨k, o, ky, v, n, l, t, m⟩ := e
  have HAL := Lib.hid (alloc_below w (.cells (Ef.cells ⟨k, o, ky, v, n, l, t, m⟩) 102))
  have HN := Lib.hid (inName o)
  obtain ⟨nb, hnb⟩ : ∃ b, nameB o = b := ⟨_, rfl⟩
  by_cases h1 : k = 1
  · subst h1
    have E : Hid (Ef.good ⟨1, o, ky, v, n, l, t, m⟩ = (nb && kindB n l)) := by
      have e : Ef.good ⟨1, o, ky, v, n, l, t, m⟩ = (nb && kindB n l) := by simp [Ef.good, hnb]
      exact e
    rw [E.out]
    rw [hnb] at HN
    clear E hnb
    simp only [Ef.cells] at HAL
    go_enter Try.func70, Try.ntmps70
    go_wp2_with fail
    refine (HN.out _).mono ?_
    rintro e w1 ⟨rfl, rfl⟩
    cases nb
    · go_wp2_with fail
      go_ret
      exact ⟨retM (by simp), HAL.out⟩
    go_wp2_with fail
    refine (fitsLimit_ n l _).mono ?_
    rintro e w2 ⟨rfl, rfl⟩
    go_wp2_with fail
    go_ret
    exact ⟨retM (by simp), HAL.out⟩
  by_cases h2 : k = 2
  · subst h2
    have E : Hid (Ef.good ⟨2, o, ky, v, n, l, t, m⟩ = (nb && (keyLB ky && bodyB v))) := by
      have e : Ef.good ⟨2, o, ky, v, n, l, t, m⟩ = (nb && (keyLB ky && bodyB v)) := by simp [Ef.good, hnb]
      exact e
    rw [E.out]
    rw [hnb] at HN
    clear E hnb
    simp only [Ef.cells] at HAL
    go_enter Try.func70, Try.ntmps70
    go_wp2_with fail
    refine (HN.out _).mono ?_
    rintro e w1 ⟨rfl, rfl⟩
    cases nb
    · go_wp2_with fail
      go_ret
      exact ⟨retM (by simp), HAL.out⟩
    go_wp2_with fail
    refine (rightRow_ ky v _).mono ?_
    rintro e w2 ⟨rfl, hb2⟩
    have HE := Lib.hid (HAL.out.trans (hb2.mono HAL.out.size))
    clear hb2
    go_wp2_with fail
    go_ret
    exact ⟨retM (by simp), HE.out⟩
  by_cases h3 : k = 3
  · subst h3
    have E : Hid (Ef.good ⟨3, o, ky, v, n, l, t, m⟩ = (nb && keyLB ky)) := by
      have e : Ef.good ⟨3, o, ky, v, n, l, t, m⟩ = (nb && keyLB ky) := by simp [Ef.good, hnb]
      exact e
    rw [E.out]
    rw [hnb] at HN
    clear E hnb
    simp only [Ef.cells] at HAL
    go_enter Try.func70, Try.ntmps70
    go_wp2_with fail
    refine (HN.out _).mono ?_
    rintro e w1 ⟨rfl, rfl⟩
    cases nb
    · go_wp2_with fail
      go_ret
      exact ⟨retM (by simp), HAL.out⟩
    go_wp2_with fail
    refine (inKey ky _).mono ?_
    rintro e w2 ⟨rfl, rfl⟩
    go_wp2_with fail
    go_ret
    exact ⟨retM (by simp), HAL.out⟩
  by_cases h4 : k = 4
  · subst h4
    have E : Hid (Ef.good ⟨4, o, ky, v, n, l, t, m⟩ = (nb && m.right)) := by
      have e : Ef.good ⟨4, o, ky, v, n, l, t, m⟩ = (nb && m.right) := by simp [Ef.good, hnb]
      exact e
    rw [E.out]
    rw [hnb] at HN
    clear E hnb
    obtain ⟨i, p, r, cl, c, b⟩ := m
    simp only [Ef.cells] at HAL
    go_enter Try.func70, Try.ntmps70
    go_wp2_with fail
    refine (HN.out _).mono ?_
    rintro e w1 ⟨rfl, rfl⟩
    cases nb
    · go_wp2_with fail
      go_ret
      exact ⟨retM (by simp), HAL.out⟩
    go_wp2_with fail
    refine (right_ ⟨i, p, r, cl, c, b⟩ _).mono ?_
    rintro e w2 ⟨rfl, hb2⟩
    have HE := Lib.hid (HAL.out.trans (hb2.mono HAL.out.size))
    clear hb2
    go_wp2_with fail
    go_ret
    exact ⟨retM (by simp), HE.out⟩
  by_cases h5 : k = 5
  · subst h5
    have E : Hid (Ef.good ⟨5, o, ky, v, n, l, t, m⟩ = (nb && idB n)) := by
      have e : Ef.good ⟨5, o, ky, v, n, l, t, m⟩ = (nb && idB n) := by simp [Ef.good, hnb]
      exact e
    rw [E.out]
    rw [hnb] at HN
    clear E hnb
    simp only [Ef.cells] at HAL
    go_enter Try.func70, Try.ntmps70
    go_wp2_with fail
    refine (HN.out _).mono ?_
    rintro e w1 ⟨rfl, rfl⟩
    cases nb
    · go_wp2_with fail
      go_ret
      exact ⟨retM (by simp), HAL.out⟩
    go_wp2_with fail
    refine (inIdE n _).mono ?_
    rintro e w2 ⟨rfl, rfl⟩
    go_wp2_with fail
    go_ret
    exact ⟨retM (by simp), HAL.out⟩
  by_cases h6 : k = 6
  · subst h6
    have E : Hid (Ef.good ⟨6, o, ky, v, n, l, t, m⟩ = (nb && idB n)) := by
      have e : Ef.good ⟨6, o, ky, v, n, l, t, m⟩ = (nb && idB n) := by simp [Ef.good, hnb]
      exact e
    rw [E.out]
    rw [hnb] at HN
    clear E hnb
    simp only [Ef.cells] at HAL
    go_enter Try.func70, Try.ntmps70
    go_wp2_with fail
    refine (HN.out _).mono ?_
    rintro e w1 ⟨rfl, rfl⟩
    cases nb
    · go_wp2_with fail
      go_ret
      exact ⟨retM (by simp), HAL.out⟩
    go_wp2_with fail
    refine (inIdE n _).mono ?_
    rintro e w2 ⟨rfl, rfl⟩
    go_wp2_with fail
    go_ret
    exact ⟨retM (by simp), HAL.out⟩
  by_cases h7 : k = 7
  · subst h7
    have E : Hid (Ef.good ⟨7, o, ky, v, n, l, t, m⟩ = (nb && idB n)) := by
      have e : Ef.good ⟨7, o, ky, v, n, l, t, m⟩ = (nb && idB n) := by simp [Ef.good, hnb]
      exact e
    rw [E.out]
    rw [hnb] at HN
    clear E hnb
    simp only [Ef.cells] at HAL
    go_enter Try.func70, Try.ntmps70
    go_wp2_with fail
    refine (HN.out _).mono ?_
    rintro e w1 ⟨rfl, rfl⟩
    cases nb
    · go_wp2_with fail
      go_ret
      exact ⟨retM (by simp), HAL.out⟩
    go_wp2_with fail
    refine (inIdE n _).mono ?_
    rintro e w2 ⟨rfl, rfl⟩
    go_wp2_with fail
    go_ret
    exact ⟨retM (by simp), HAL.out⟩
  by_cases h8 : k = 8
  · subst h8
    have E : Hid (Ef.good ⟨8, o, ky, v, n, l, t, m⟩ = idB n) := by
      have e : Ef.good ⟨8, o, ky, v, n, l, t, m⟩ = idB n := by simp [Ef.good]
      exact e
    rw [E.out]
    clear E hnb HN
    simp only [Ef.cells] at HAL
    go_enter Try.func70, Try.ntmps70
    go_wp2_with fail
    refine (inIdE n _).mono ?_
    rintro e w2 ⟨rfl, rfl⟩
    go_wp2_with fail
    go_ret
    exact ⟨rfl, HAL.out⟩
  have E : Hid (Ef.good ⟨k, o, ky, v, n, l, t, m⟩ = false) := by
    have e : Ef.good ⟨k, o, ky, v, n, l, t, m⟩ = false := by simp [Ef.good, h1, h2, h3, h4, h5, h6, h7, h8]
    exact e
  rw [E.out]
  rw [hnb] at HN
  clear E hnb
  simp only [Ef.cells] at HAL
  go_enter Try.func70, Try.ntmps70
  go_wp2_with fail
  refine (HN.out _).mono ?_
  rintro e w1 ⟨rfl, rfl⟩
  cases nb
  · go_wp2_with fail
    go_ret
    exact ⟨rfl, HAL.out⟩
  go_wp2_with fail
  go_ret
  exact ⟨rfl, HAL.out⟩
end Go.Proofs.Ytpggnklbgkdjcaa
namespace Go.Proofs.Ytpggnklbgkdjcaa
open Go.RowKit
theorem eqf_ef (e f : Ef) (W : World) : (Op.equalIn 10000 102 e.val_ f.val_).run Try.prog W = .ok (e.same f) W := by
  obtain ⟨k, o, ky, v, n, l, t, ⟨i, p, r, cl, c, b⟩⟩ := e
  obtain ⟨k', o', ky', v', n', l', t', ⟨i', p', r', cl', c', b'⟩⟩ := f
  simp only [Ef.same, Mg.same]
  generalize h1 : (k == k') = b1
  generalize h2 : (o.toList == o'.toList) = b2
  generalize h3 : (ky.toList == ky'.toList) = b3
  generalize h4 : (v.toList == v'.toList) = b4
  generalize h5 : (n == n') = b5
  generalize h6 : (l == l') = b6
  generalize h7 : (t == t') = b7
  generalize h8 : (i == i') = b8
  generalize h9 : (p == p') = b9
  generalize h10 : (r == r') = b10
  generalize h11 : (cl == cl') = b11
  generalize h12 : (c.toList == c'.toList) = b12
  generalize h13 : (b.toList == b'.toList) = b13
  cases b1
  · simp [go_sem, h1]
  cases b2
  · simp [go_sem, h1, h2]
  cases b3
  · simp [go_sem, h1, h2, h3]
  cases b4
  · simp [go_sem, h1, h2, h3, h4]
  cases b5
  · simp [go_sem, h1, h2, h3, h4, h5]
  cases b6
  · simp [go_sem, h1, h2, h3, h4, h5, h6]
  cases b7
  · simp [go_sem, h1, h2, h3, h4, h5, h6, h7]
  cases b8
  · simp [go_sem, h1, h2, h3, h4, h5, h6, h7, h8]
  cases b9
  · simp [go_sem, h1, h2, h3, h4, h5, h6, h7, h8, h9]
  cases b10
  · simp [go_sem, h1, h2, h3, h4, h5, h6, h7, h8, h9, h10]
  cases b11
  · simp [go_sem, h1, h2, h3, h4, h5, h6, h7, h8, h9, h10, h11]
  cases b12
  · simp [go_sem, h1, h2, h3, h4, h5, h6, h7, h8, h9, h10, h11, h12]
  cases b13
  · simp [go_sem, h1, h2, h3, h4, h5, h6, h7, h8, h9, h10, h11, h12, h13]
  simp [go_sem, h1, h2, h3, h4, h5, h6, h7, h8, h9, h10, h11, h12, h13]
/-- '==' of two changes -/
theorem exec_eqlE {o : Oper} {a : Act} {x y : Operand} {t : TypeId} (ho : o.op = .binOp .eql 102 x y t) {e f : Ef} (hx : a.eval x = e.val_) (hy : a.eval y = f.val_) (W : World) : (execOp a.eval o).run Try.prog W = .ok (.value (.bool (e.same f))) W := by
  have h : (binOp .eql 102 e.val_ f.val_).run Try.prog W = .ok (.bool (e.same f)) W := by
    rw [run_eql_struct, eqf_ef]; rfl
  have hg : (eqGuard .eql 102 x y e.val_ f.val_).run Try.prog W = .ok () W := run_eqGuard_agg W .eql _ x y _ _ (by kernel_rfl)
  unfold execOp
  simp only [ho, hx, hy, Sem.run_bind, hg, h, Result.andThen_ok, Sem.run_pure]
theorem exec_neqE {o : Oper} {a : Act} {x y : Operand} {t : TypeId} (ho : o.op = .binOp .neq 102 x y t) {e f : Ef} (hx : a.eval x = e.val_) (hy : a.eval y = f.val_) (W : World) : (execOp a.eval o).run Try.prog W = .ok (.value (.bool (!e.same f))) W := by
  have h : (binOp .neq 102 e.val_ f.val_).run Try.prog W = .ok (.bool (!e.same f)) W := by
    rw [run_neq_struct, eqf_ef]; rfl
  have hg : (eqGuard .neq 102 x y e.val_ f.val_).run Try.prog W = .ok () W := run_eqGuard_agg W .neq _ x y _ _ (by kernel_rfl)
  unfold execOp
  simp only [ho, hx, hy, Sem.run_bind, hg, h, Result.andThen_ok, Sem.run_pure]
/-- one operation that gives a value, by an equation, as a step of a region that draws -/
theorem step_value {P : Program} {ops : Array Oper} {o : Oper} {a : Act} {w w' : World} {K : Act → World → Prop} {Q : Exit → Act → World → Prop} {E : Prop} (hw : Region.wanted o (yielded ops a.tmps) = true) {v : Value}
    (hr : (execOp a.eval o).run P w = .ok (.value v) w') (hK : K (a.put o.dst v) w') : if Region.wanted o (yielded ops a.tmps) = true then Oper.wp P o a w K Q else E := by
  rw [if_pos hw]
  unfold Oper.wp
  rw [hr]
  exact hK
/-- the same, cell by cell: for a walk that comes to it -/
theorem eqf_cells (k n l i p r k' n' l' i' p' r' : Int) (o ky v c b o' ky' v' c' b' : ByteArray) (t cl t' cl' : Bool) (W : World) :
    (Op.equalIn 10000 102 (.agg #[.int .i64 k, .string o, .string ky, .string v, .int .i64 n, .int .i64 l, .bool t, .int .i64 i, .int .i64 p, .int .i64 r, .bool cl, .string c, .string b])
      (.agg #[.int .i64 k', .string o', .string ky', .string v', .int .i64 n', .int .i64 l', .bool t', .int .i64 i', .int .i64 p', .int .i64 r', .bool cl', .string c', .string b'])).run Try.prog W =
      .ok (Ef.same ⟨k, o, ky, v, n, l, t, ⟨i, p, r, cl, c, b⟩⟩ ⟨k', o', ky', v', n', l', t', ⟨i', p', r', cl', c', b'⟩⟩) W := eqf_ef ⟨k, o, ky, v, n, l, t, ⟨i, p, r, cl, c, b⟩⟩ ⟨k', o', ky', v', n', l', t', ⟨i', p', r', cl', c', b'⟩⟩ W
theorem same_self (e : Ef) : e.same e = true := by simp [Ef.same, Mg.same]
end Go.Proofs.Ytpggnklbgkdjcaa
namespace Go.Proofs.Ytpggnklbgkdjcaa
open Go.RowKit
attribute [local go_sem ↓] eqf_cells
/-- one that has boxed its change, in each world -/
structure LBE (w : World) (e : Ef) (wk : World) : Prop where
  bel : Below w.heap.size w wk
  box : Blk wk w.heap.size 102 e.cells
section
variable {w wk w' : World} {e : Ef}
theorem LBE.first (w : World) (e : Ef) : LBE w e (w.alloc (.cells e.cells 102)) := ⟨alloc_below w _, Blk.new _ _ _⟩
theorem LBE.next (h : LBE w e wk) (k : Below wk.heap.size wk w') : LBE w e w' := ⟨h.bel.trans (k.mono h.bel.size), h.box.below k h.box.lt⟩
theorem LBE.drew (h : LBE w e wk) : LBE w e wk.drew := ⟨h.bel.drew, h.box.drew⟩
end
set_option maxHeartbeats 1000000 in
theorem rightE_ (e : Ef) (w : World) : Calls Try.prog 59 #[e.val_] w fun x w' => x = .returned (.bool e.right) ∧ Below w.heap.size w w' := by
  have HF := Lib.hid (efits_ e)
  have HB := Lib.hid (bare_ e)
  have H0 := Lib.hid (LBE.first w e)
  have hR : e.right = (e.good && e.same e.bare) := rfl
  rw [hR]
  clear hR
  generalize e.bare = f at *
  generalize e.good = g at *
  obtain ⟨k, o, ky, v, n, l, t, ⟨i, p, r, cl, c, b⟩⟩ := e
  have hS0 : Thir w.heap.size ⟨k, o, ky, v, n, l, t, ⟨i, p, r, cl, c, b⟩⟩ (w.alloc (.cells (Ef.cells ⟨k, o, ky, v, n, l, t, ⟨i, p, r, cl, c, b⟩⟩) 102)).drew := thir_of H0.out.drew.box
  have H0d := Lib.hid H0.out.drew
  cases g
  · go_enter Try.func59, Try.ntmps59
    go_wp2_with fail
    go_region_with (go_at_call 70; refine (HF.out _).mono ?_; rintro e w1 ⟨rfl, hb1⟩; have H1 := Lib.hid (H0d.out.next hb1); clear hb1)
    all_goals
      go_wp2_with fail
      go_ret
      exact ⟨rfl, H1.out.bel⟩
  · go_enter Try.func59, Try.ntmps59
    go_wp2_with fail
    go_region_held3 (fun W : World => Thir w.heap.size ⟨k, o, ky, v, n, l, t, ⟨i, p, r, cl, c, b⟩⟩ W)
      (first | exact hS0 | exact hS1 | exact hS2)
      (first | (go_at_call 70; refine (HF.out _).mono ?_; rintro e w1 ⟨rfl, hb1⟩; have H1 := Lib.hid (H0d.out.next hb1); have hS1 : Thir w.heap.size ⟨k, o, ky, v, n, l, t, ⟨i, p, r, cl, c, b⟩⟩ w1 := thir_of H1.out.box; clear hb1) | (go_at_call 71; refine (HB.out _).mono ?_; rintro e w2 ⟨rfl, hb2⟩; have H2 := Lib.hid (H1.out.next hb2); have hS2 : Thir w.heap.size ⟨k, o, ky, v, n, l, t, ⟨i, p, r, cl, c, b⟩⟩ w2 := thir_of H2.out.box; clear hb2) | (refine step_value rfl (exec_eqlE rfl (e := ⟨k, o, ky, v, n, l, t, ⟨i, p, r, cl, c, b⟩⟩) (f := f) rfl rfl _) ?_))
    go_wp2_with fail
    go_ret
    exact ⟨rfl, H2.out.bel⟩
end Go.Proofs.Ytpggnklbgkdjcaa
