/- Plain facts on the place of the first of which something holds. -/
import Init
set_option maxRecDepth 4000
namespace Go.Proofs.Ytobbopakdaoemaa
/-- the place of the first of which p holds; -1 -/
def idxI {α : Type} (p : α → Bool) (l : List α) : Int := if l.findIdx p < l.length then (l.findIdx p : Int) else -1
theorem findIdx_le {α : Type} (p : α → Bool) (l : List α) : l.findIdx p ≤ l.length := List.findIdx_le_length
theorem idx_hit {α : Type} {p : α → Bool} {l : List α} {k : Nat} (h : k < l.length) (hk : p l[k] = true) (hb : ∀ j (hj : j < k), p (l[j]'(by omega)) = false) : idxI p l = (k : Int) := by
  have : l.findIdx p = k := (List.findIdx_eq h).2 ⟨hk, hb⟩
  unfold idxI
  rw [this, if_pos h]
theorem idx_miss {α : Type} {p : α → Bool} {l : List α} (hb : ∀ j (hj : j < l.length), p l[j] = false) : idxI p l = -1 := by
  have : l.findIdx p = l.length := List.findIdx_eq_length.2 fun x hx => by
    obtain ⟨j, hj, rfl⟩ := List.getElem_of_mem hx
    exact hb j hj
  unfold idxI
  rw [this, if_neg (Nat.lt_irrefl _)]
theorem idx_cases {α : Type} (p : α → Bool) (l : List α) : (idxI p l = -1 ∧ l.any p = false) ∨ ∃ h : l.findIdx p < l.length, idxI p l = (l.findIdx p : Int) ∧ l.any p = true ∧ p (l[l.findIdx p]) = true := by
  by_cases h : l.findIdx p < l.length
  · right
    refine ⟨h, by unfold idxI; rw [if_pos h], ?_, List.findIdx_getElem⟩
    rw [List.any_eq_true]
    exact ⟨_, List.getElem_mem h, List.findIdx_getElem⟩
  · left
    have e : l.findIdx p = l.length := by have := findIdx_le p l; omega
    refine ⟨by unfold idxI; rw [if_neg h], ?_⟩
    rw [List.any_eq_false]
    intro x hx
    rw [List.findIdx_eq_length.1 e x hx]
    simp
theorem idx_nonneg {α : Type} (p : α → Bool) (l : List α) : decide (0 ≤ idxI p l) = l.any p := by
  rcases idx_cases p l with ⟨h1, h2⟩ | ⟨h, h1, h2, _⟩
  · rw [h1, h2]; rfl
  · rw [h1, h2]; simp
theorem idx_neg {α : Type} (p : α → Bool) (l : List α) : decide (idxI p l < 0) = !l.any p := by
  rcases idx_cases p l with ⟨h1, h2⟩ | ⟨h, h1, h2, _⟩
  · rw [h1, h2]; rfl
  · rw [h1, h2]; simp
theorem find_of_idx {α : Type} {p : α → Bool} : ∀ {l : List α} (h : l.findIdx p < l.length), l.find? p = some l[l.findIdx p]
  | x :: l, h => by
    by_cases hx : p x = true
    · simp [List.findIdx_cons, hx]
    · have hx : p x = false := by simpa using hx
      simp only [List.findIdx_cons, hx, cond_false, List.length_cons] at h
      have := find_of_idx (l := l) (p := p) (by omega)
      simp [List.findIdx_cons, hx, this]
end Go.Proofs.Ytobbopakdaoemaa
