/- Plain facts on names of what is locked; nothing of the program is named here. -/
import Derived.Test.YtnjhhndggfjjdaaDoorCmpP
import Derived.Laws.StructEq
set_option maxRecDepth 4000
namespace Go.Proofs.YtnjhhndggfjjdaaDoor
open Go
theorem bytes_eq {a b : ByteArray} (h : a.toList = b.toList) : a = b := by
  rw [ByteArray.toList_eq, ByteArray.toList_eq] at h
  obtain ⟨⟨x⟩⟩ := a
  obtain ⟨⟨y⟩⟩ := b
  simp at h
  rw [h]
/-- how deep, of which object, which row -/
abbrev Nm := Int × ByteArray × ByteArray
def noB : ByteArray := ⟨#[]⟩
/-- a name without what is not looked at -/
def knownP (n : Nm) : Option Nm := if n.1 = 0 then some (0, noB, noB) else if n.1 = 1 then some (1, n.2.1, noB) else if n.1 = 2 then some n else none
def cmpN (a b : Nm) : Int := if cmpI a.1 b.1 ≠ 0 then cmpI a.1 b.1 else if cmpS a.2.1 b.2.1 ≠ 0 then cmpS a.2.1 b.2.1 else cmpS a.2.2 b.2.2
theorem cmpI_turn (a b : Int) : cmpI b a = - cmpI a b := by unfold cmpI; repeat' split
                                                            all_goals omega
theorem cmpN_eq (a b : Nm) : cmpN a b = 0 ↔ a = b := by
  obtain ⟨a1, a2, a3⟩ := a
  obtain ⟨b1, b2, b3⟩ := b
  unfold cmpN
  simp only
  constructor
  · intro h
    by_cases h1 : cmpI a1 b1 = 0
    · rw [if_neg (by simpa using h1)] at h
      by_cases h2 : cmpS a2 b2 = 0
      · rw [if_neg (by simpa using h2)] at h
        rw [cmpI_eq] at h1
        rw [cmpS_eq] at h2 h
        rw [h1, bytes_eq h2, bytes_eq h]
      · rw [if_pos h2] at h
        exact absurd h h2
    · rw [if_pos h1] at h
      exact absurd h h1
  · intro h
    injection h with h1 h
    injection h with h2 h3
    subst h1 h2 h3
    simp [(cmpI_eq a1 a1).2 rfl, (cmpS_eq a2 a2).2 rfl, (cmpS_eq a3 a3).2 rfl]
theorem cmpN_turn (a b : Nm) : cmpN b a = - cmpN a b := by
  unfold cmpN
  rw [cmpI_turn a.1 b.1, cmpS_turn a.2.1 b.2.1, cmpS_turn a.2.2 b.2.2]
  by_cases h1 : cmpI a.1 b.1 = 0
  · by_cases h2 : cmpS a.2.1 b.2.1 = 0
    · simp [h1, h2]
    · simp [h1, h2]
  · simp [h1]
theorem cmpN_trans {a b c : Nm} (h1 : cmpN a b ≤ 0) (h2 : cmpN b c ≤ 0) : cmpN a c ≤ 0 := by
  unfold cmpN at *
  have i1 := cmpI_range a.1 b.1
  have i2 := cmpI_range b.1 c.1
  have e1 := cmpI_eq a.1 b.1
  have e2 := cmpI_eq b.1 c.1
  by_cases h3 : cmpI a.1 b.1 = 0
  · rw [if_neg (by simpa using h3)] at h1
    rw [e1.1 h3]
    by_cases h4 : cmpI b.1 c.1 = 0
    · rw [if_neg (by simpa using h4)] at h2 ⊢
      by_cases h5 : cmpS a.2.1 b.2.1 = 0
      · rw [if_neg (by simpa using h5)] at h1
        rw [bytes_eq ((cmpS_eq _ _).1 h5)]
        by_cases h6 : cmpS b.2.1 c.2.1 = 0
        · rw [if_neg (by simpa using h6)] at h2 ⊢
          exact cmpS_trans _ _ _ h1 h2
        · rw [if_pos h6] at h2 ⊢
          exact h2
      · rw [if_pos h5] at h1
        by_cases h6 : cmpS b.2.1 c.2.1 = 0
        · rw [← bytes_eq ((cmpS_eq _ _).1 h6), if_pos h5]
          exact h1
        · rw [if_pos h6] at h2
          have h7 := cmpS_trans _ _ _ h1 h2
          by_cases h8 : cmpS a.2.1 c.2.1 = 0
          · have h9 := bytes_eq ((cmpS_eq _ _).1 h8)
            rw [← h9, cmpS_turn] at h2
            omega
          · rw [if_pos h8]; exact h7
    · rw [if_pos h4] at h2 ⊢
      exact h2
  · rw [if_pos h3] at h1
    have h5 : a.1 < b.1 := by
      unfold cmpI at h1 h3
      split at h1 <;> (try split at h1) <;> simp_all
      all_goals omega
    have h6 : b.1 ≤ c.1 := by
      by_cases h4 : cmpI b.1 c.1 = 0
      · rw [e2.1 h4]; exact Int.le_refl _
      · rw [if_pos h4] at h2
        unfold cmpI at h2 h4
        split at h2 <;> (try split at h2) <;> simp_all
        all_goals omega
    have h7 : cmpI a.1 c.1 = -1 := by unfold cmpI; rw [if_pos (by omega)]
    rw [h7, if_pos (by omega)]
    omega
end Go.Proofs.YtnjhhndggfjjdaaDoor
