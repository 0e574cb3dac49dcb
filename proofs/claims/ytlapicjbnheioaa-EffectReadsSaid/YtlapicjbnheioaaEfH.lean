/- The document's words on changes: name, kind, RightRow. -/
import Derived.Test.YtlapicjbnheioaaEfG
set_option maxRecDepth 4000
namespace Go.Proofs.Ytlapicjbnheioaa
open Go.RowKit
theorem mg_ext {m k : Mg} (h1 : m.id = k.id) (h2 : m.pri = k.pri) (h3 : m.retry = k.retry) (h4 : m.claimed = k.claimed) (h5 : m.corr = k.corr) (h6 : m.body = k.body) : m = k := by
  obtain ⟨a1, a2, a3, a4, a5, a6⟩ := m
  obtain ⟨b1, b2, b3, b4, b5, b6⟩ := k
  simp only at h1 h2 h3 h4 h5 h6
  rw [h1, h2, h3, h4, h5, h6]
theorem bytes_same {a b : ByteArray} (h : a.toList = b.toList) : a = b := by
  rw [ByteArray.toList_eq, ByteArray.toList_eq] at h
  obtain ⟨⟨x⟩⟩ := a
  obtain ⟨⟨y⟩⟩ := b
  simp at h
  rw [h]
theorem msame_eq {m k : Mg} (h : m.same k = true) : m = k := by
  simp only [Mg.same, Bool.and_eq_true, beq_iff_eq] at h
  obtain ⟨h1, h2, h3, h4, h5, h6⟩ := h
  exact mg_ext h1 h2 h3 h4 (bytes_same h5) (bytes_same h6)
theorem same_eq {e f : Ef} (h : e.same f = true) : e = f := by
  simp only [Ef.same, Bool.and_eq_true, beq_iff_eq] at h
  obtain ⟨h1, h2, h3, h4, h5, h6, h7, h8⟩ := h
  have m2 := bytes_same h2
  have m3 := bytes_same h3
  have m4 := bytes_same h4
  have m8 := msame_eq h8
  obtain ⟨a1, a2, a3, a4, a5, a6, a7, a8⟩ := e
  obtain ⟨b1, b2, b3, b4, b5, b6, b7, b8⟩ := f
  simp only at h1 m2 m3 m4 h5 h6 h7 m8
  rw [h1, m2, m3, m4, h5, h6, h7, m8]
theorem same_comm (e f : Ef) : e.same f = f.same e := by
  cases h : e.same f
  · cases k : f.same e
    · rfl
    · rw [same_eq k, same_self] at h; cases h
  · rw [same_eq h, same_self]
theorem name_ (o : ByteArray) (w : World) : Calls Try.prog 18 #[.string o] w fun e w' => e = .returned (.bool (nameB o)) ∧ w = w' := by
  by_cases h1 : 1 ≤ (o.size : Int)
  · have E : Hid (nameB o = decide ((o.size : Int) ≤ 16)) := by
      have e : nameB o = decide ((o.size : Int) ≤ 16) := by unfold nameB; rw [decide_eq_true h1, Bool.true_and]
      exact e
    go_enter Try.func18, Try.ntmps18
    go_wp2
    go_ret
    exact ⟨retM E.out.symm, rfl⟩
  · have E : Hid (nameB o = false) := by
      have e : nameB o = false := by unfold nameB; rw [decide_eq_false h1, Bool.false_and]
      exact e
    go_enter Try.func18, Try.ntmps18
    go_wp2
    go_ret
    exact ⟨retM E.out.symm, rfl⟩
theorem rkind_ (k l : Int) (w : World) : Calls Try.prog 19 #[.int .i64 k, .int .i64 l] w fun e w' => e = .returned (.bool (kindB k l)) ∧ w = w' := by
  by_cases h1 : k = 1
  · subst h1
    by_cases h2 : l = 0
    · subst h2
      have E : Hid (kindB 1 0 = true) := rfl
      go_enter Try.func19, Try.ntmps19
      go_wp2
      go_ret
      exact ⟨retM E.out.symm, rfl⟩
    · have E : Hid (kindB 1 l = false) := by
        have e : kindB 1 l = false := by simp [kindB, h2]
        exact e
      have h3 : (l == 0) = false := by simpa using h2
      go_enter Try.func19, Try.ntmps19
      go_wp2
      go_ret
      exact ⟨retM E.out.symm, rfl⟩
  by_cases h2 : k = 2
  · subst h2
    by_cases h3 : 1 ≤ l
    · have E : Hid (kindB 2 l = decide (l ≤ 1000)) := by
        have e : kindB 2 l = decide (l ≤ 1000) := by simp [kindB, h3]
        exact e
      go_enter Try.func19, Try.ntmps19
      go_wp2
      go_ret
      exact ⟨retM E.out.symm, rfl⟩
    · have E : Hid (kindB 2 l = false) := by
        have e : kindB 2 l = false := by simp [kindB, h3]
        exact e
      go_enter Try.func19, Try.ntmps19
      go_wp2
      go_ret
      exact ⟨retM E.out.symm, rfl⟩
  have E : Hid (kindB k l = false) := by
    have e : kindB k l = false := by simp [kindB, h1, h2]
    exact e
  have k1 : (k == 1) = false := by simpa using h1
  have k2 : (k == 2) = false := by simpa using h2
  go_enter Try.func19, Try.ntmps19
  go_wp2
  go_ret
  exact ⟨retM E.out.symm, rfl⟩
theorem rrow_ (k v : ByteArray) (w : World) : Calls Try.prog 20 #[.agg #[.string k, .string v]] w fun e w' => e = .returned (.bool (keyB k && bodyB v)) ∧ Below w.heap.size w w' := by
  have HAL := Lib.hid (alloc_below w (.cells #[.string k, .string v] 47))
  by_cases h1 : 1 ≤ (k.size : Int)
  rotate_left
  · have E : Hid ((keyB k && bodyB v) = false) := by
      have e : (keyB k && bodyB v) = false := by unfold keyB; rw [decide_eq_false h1]; simp
      exact e
    go_enter Try.func20, Try.ntmps20
    go_wp2
    go_ret
    exact ⟨retM E.out.symm, HAL.out⟩
  by_cases h2 : (k.size : Int) ≤ 40
  rotate_left
  · have E : Hid ((keyB k && bodyB v) = false) := by
      have e : (keyB k && bodyB v) = false := by unfold keyB; rw [decide_eq_false h2]; simp
      exact e
    go_enter Try.func20, Try.ntmps20
    go_wp2
    go_ret
    exact ⟨retM E.out.symm, HAL.out⟩
  have E : Hid ((keyB k && bodyB v) = decide ((v.size : Int) ≤ 100)) := by
    have e : (keyB k && bodyB v) = decide ((v.size : Int) ≤ 100) := by unfold keyB bodyB; rw [decide_eq_true h1, decide_eq_true h2]; simp
    exact e
  go_enter Try.func20, Try.ntmps20
  go_wp2
  go_ret
  exact ⟨retM E.out.symm, HAL.out⟩
end Go.Proofs.Ytlapicjbnheioaa
