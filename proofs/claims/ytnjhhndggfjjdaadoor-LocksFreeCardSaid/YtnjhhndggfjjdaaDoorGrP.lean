/- Plain facts on one lock: two lists of who and mode; nothing of the program is named here. -/
import Derived.Test.YtnjhhndggfjjdaaDoorModP
set_option maxRecDepth 4000
namespace Go.Proofs.YtnjhhndggfjjdaaDoor
open Go
abbrev Cl := Int × Nat
/-- holders, and the line -/
abbrev Lk := List Cl × List Cl
/-- the place of the first of which p holds; -1 -/
def idxI {α : Type} (p : α → Bool) (l : List α) : Int := if l.findIdx p < l.length then (l.findIdx p : Int) else -1
def isW (who : Int) (c : Cl) : Bool := c.1 == who
def hasP (l : List Cl) (who : Int) : Bool := l.any (isW who)
def modeP (l : List Cl) (who : Int) : Nat := ((l.find? (isW who)).map (·.2)).getD 0
def inwayP (c x : Cl) : Bool := c.1 != x.1 && !fitB c.2 x.2
def fitsP (H : List Cl) (x : Cl) : Bool := !(H.any fun c => inwayP c x)
def grantP (H : List Cl) (x : Cl) : List Cl := if hasP H x.1 then H.set (H.findIdx (isW x.1)) x else H ++ [x]
def frontP (H L : List Cl) : Nat := L.findIdx fun c => !hasP H c.1
def spotP (H L : List Cl) (who : Int) : Nat := if hasP H who then frontP H L else L.length
def waitP (H L : List Cl) (x : Cl) : List Cl := L.take (spotP H L x.1) ++ x :: L.drop (spotP H L x.1)
def askP (s : Lk) (who : Int) (m : Nat) : Bool × Lk :=
  if m = 0 then (true, s) else
  if modeP s.2 who ≠ 0 then (false, s) else
  if covB (modeP s.1 who) m then (true, s) else
  if (modeP s.1 who ≠ 0 ∨ s.2 = []) ∧ fitsP s.1 (who, joinN (modeP s.1 who) m) = true then (true, (grantP s.1 (who, joinN (modeP s.1 who) m), s.2))
  else (false, (s.1, waitP s.1 s.2 (who, joinN (modeP s.1 who) m)))
def withoutP (l : List Cl) (who : Int) : List Cl := l.filter fun c => !isW who c
def drainP (H : List Cl) : List Cl → List Int × Lk
  | [] => ([], (H, []))
  | x :: L => if fitsP H x then (x.1 :: (drainP (grantP H x) L).1, (drainP (grantP H x) L).2) else ([], (H, x :: L))
def dropP (s : Lk) (who : Int) : List Int × Lk := drainP (withoutP s.1 who) (withoutP s.2 who)
/-- who, mode, wants -/
abbrev Ho := Int × Nat × Nat
def holdsA (L : List Cl) (c : Cl) : Ho := (c.1, c.2, modeP L c.1)
def holdsB (c : Cl) : Ho := (c.1, 0, c.2)
def holdsP (s : Lk) : List Ho := s.1.map (holdsA s.2) ++ (s.2.filter fun c => modeP s.1 c.1 == 0).map holdsB
def rawP (s : Lk) (x : Cl) (k : Nat) : List Int := (s.1.filter fun c => inwayP c x).map (·.1) ++ (s.2.take k).map (·.1)

-- the place
theorem findIdx_le {α : Type} (p : α → Bool) (l : List α) : l.findIdx p ≤ l.length := List.findIdx_le_length
theorem idx_hit {α : Type} {p : α → Bool} {l : List α} {k : Nat} (h : k < l.length) (hk : p l[k] = true) (hb : ∀ j (hj : j < k), p (l[j]'(by omega)) = false) : idxI p l = (k : Int) := by
  have : l.findIdx p = k := (List.findIdx_eq h).2 ⟨hk, hb⟩
  unfold idxI
  rw [this, if_pos h]
theorem idx_miss {α : Type} {p : α → Bool} {l : List α} (hb : ∀ j (hj : j < l.length), p l[j] = false) : idxI p l = -1 := by
  have : l.findIdx p = l.length := List.findIdx_eq_length.2 fun x hx => by
    obtain ⟨j, hj, rfl⟩ := List.getElem_of_mem hx
    exact hb j hj
  unfold idxI
  rw [this, if_neg (Nat.lt_irrefl _)]
theorem idx_cases {α : Type} (p : α → Bool) (l : List α) : (idxI p l = -1 ∧ l.any p = false) ∨ ∃ h : l.findIdx p < l.length, idxI p l = (l.findIdx p : Int) ∧ l.any p = true ∧ p (l[l.findIdx p]) = true := by
  by_cases h : l.findIdx p < l.length
  · right
    refine ⟨h, by unfold idxI; rw [if_pos h], ?_, List.findIdx_getElem⟩
    rw [List.any_eq_true]
    exact ⟨_, List.getElem_mem h, List.findIdx_getElem⟩
  · left
    have e : l.findIdx p = l.length := by have := findIdx_le p l; omega
    refine ⟨by unfold idxI; rw [if_neg h], ?_⟩
    rw [List.any_eq_false]
    intro x hx
    rw [List.findIdx_eq_length.1 e x hx]
    simp
theorem idx_nonneg {α : Type} (p : α → Bool) (l : List α) : decide (0 ≤ idxI p l) = l.any p := by
  rcases idx_cases p l with ⟨h1, h2⟩ | ⟨h, h1, h2, _⟩
  · rw [h1, h2]; rfl
  · rw [h1, h2]; simp
theorem idx_neg {α : Type} (p : α → Bool) (l : List α) : decide (idxI p l < 0) = !l.any p := by
  rcases idx_cases p l with ⟨h1, h2⟩ | ⟨h, h1, h2, _⟩
  · rw [h1, h2]; rfl
  · rw [h1, h2]; simp
theorem find_of_idx {α : Type} {p : α → Bool} : ∀ {l : List α} (h : l.findIdx p < l.length), l.find? p = some l[l.findIdx p]
  | x :: l, h => by
    by_cases hx : p x = true
    · simp [List.findIdx_cons, hx]
    · have hx : p x = false := by simpa using hx
      simp only [List.findIdx_cons, hx, cond_false, List.length_cons] at h
      have := find_of_idx (l := l) (p := p) (by omega)
      simp [List.findIdx_cons, hx, this]
theorem mode_of_idx {l : List Cl} {who : Int} (h : l.findIdx (isW who) < l.length) : modeP l who = (l[l.findIdx (isW who)]).2 := by
  unfold modeP
  rw [find_of_idx h]
  rfl
theorem mode_of_miss {l : List Cl} {who : Int} (h : l.any (isW who) = false) : modeP l who = 0 := by
  unfold modeP
  rw [List.find?_eq_none.2 (fun x hx => by simpa using List.any_eq_false.1 h x hx)]
  rfl
/-- what a lock is at any time: nobody twice in either list, every mode a mode and not none -/
structure Ok (s : Lk) : Prop where
  ndH : (s.1.map (·.1)).Nodup
  ndL : (s.2.map (·.1)).Nodup
  mH : ∀ c ∈ s.1, 0 < c.2 ∧ c.2 < 6
  mL : ∀ c ∈ s.2, 0 < c.2 ∧ c.2 < 6
theorem mode_lt {l : List Cl} (h : ∀ c ∈ l, 0 < c.2 ∧ c.2 < 6) (who : Int) : modeP l who < 6 := by
  rcases idx_cases (isW who) l with ⟨_, h2⟩ | ⟨h0, _, _, _⟩
  · rw [mode_of_miss h2]; omega
  · rw [mode_of_idx h0]; exact (h _ (List.getElem_mem h0)).2
theorem mode_ne {l : List Cl} (h : ∀ c ∈ l, 0 < c.2 ∧ c.2 < 6) (who : Int) : (modeP l who != 0) = hasP l who := by
  unfold hasP
  rcases idx_cases (isW who) l with ⟨_, h2⟩ | ⟨h0, _, h2, _⟩
  · rw [mode_of_miss h2, h2]; rfl
  · rw [mode_of_idx h0, h2]
    have := (h _ (List.getElem_mem h0)).1
    simp
    omega
theorem mode_zero {l : List Cl} (h : ∀ c ∈ l, 0 < c.2 ∧ c.2 < 6) (who : Int) : (modeP l who == 0) = !hasP l who := by
  rw [← mode_ne h who]
  cases h : modeP l who == 0 <;> simp_all
end Go.Proofs.YtnjhhndggfjjdaaDoor
