/- Plain facts on rows of keys and values: where a key stands, what rows are with one put, and one cut; nothing of the program is named here. -/
import Derived.Test.YtlapicjbnheioaaCmpP
set_option maxRecDepth 4000
namespace Go.Proofs.Ytlapicjbnheioaa
open Go

/-- a key and its value -/
abbrev Rw := ByteArray × ByteArray
/-- the first place whose key is not ahead of k -/
def findR : List Rw → ByteArray → Nat
  | [], _ => 0
  | x :: r, k => if 0 ≤ cmpS x.1 k then 0 else findR r k + 1
/-- is its key k? -/
def foundR : List Rw → ByteArray → Bool
  | [], _ => false
  | x :: r, k => if 0 ≤ cmpS x.1 k then decide (cmpS x.1 k = 0) else foundR r k
/-- the first place behind what putR puts -/
def behR (l : List Rw) (k : ByteArray) : Nat := if foundR l k then findR l k + 1 else findR l k
def putR (l : List Rw) (r : Rw) : List Rw := l.take (findR l r.1) ++ r :: l.drop (behR l r.1)
def cutRw (l : List Rw) (k : ByteArray) : List Rw := if foundR l k then l.take (findR l k) ++ l.drop (findR l k + 1) else l
def risesR : List Rw → Bool
  | [] => true
  | [_] => true
  | x :: y :: r => decide (cmpS x.1 y.1 < 0) && risesR (y :: r)

theorem findR_le (l : List Rw) (k : ByteArray) : findR l k ≤ l.length := by
  induction l with
  | nil => simp [findR]
  | cons x r ih => rw [findR]; split <;> simp; omega
theorem foundR_lt {l : List Rw} {k : ByteArray} (h : foundR l k = true) : findR l k < l.length := by
  induction l with
  | nil => simp [foundR] at h
  | cons x r ih =>
    rw [foundR] at h
    rw [findR]
    split
    · simp
    · rename_i hn
      rw [if_neg hn] at h
      have := ih h
      simp; omega
theorem behR_le (l : List Rw) (k : ByteArray) : behR l k ≤ l.length := by
  unfold behR
  split
  · rename_i h; exact foundR_lt h
  · exact findR_le l k
/-- on from place j, all ahead of which were ahead of k -/
theorem find_at {l : List Rw} {k : ByteArray} {j : Nat} (h : j < l.length) (hn : 0 ≤ cmpS l[j].1 k) : findR (l.drop j) k = 0 ∧ foundR (l.drop j) k = decide (cmpS l[j].1 k = 0) := by
  rw [List.drop_eq_getElem_cons h, findR, foundR, if_pos hn, if_pos hn]
  exact ⟨rfl, rfl⟩
theorem find_on {l : List Rw} {k : ByteArray} {j : Nat} (h : j < l.length) (hn : ¬ 0 ≤ cmpS l[j].1 k) : findR (l.drop j) k = findR (l.drop (j + 1)) k + 1 ∧ foundR (l.drop j) k = foundR (l.drop (j + 1)) k := by
  rw [List.drop_eq_getElem_cons h, findR, foundR, if_neg hn, if_neg hn]
  exact ⟨rfl, rfl⟩
theorem rises_at {l : List Rw} {j : Nat} (h : j + 1 < l.length) (hj : risesR l = risesR (l.drop j)) :
    (cmpS l[j].1 l[j + 1].1 < 0 → risesR l = risesR (l.drop (j + 1))) ∧ (¬ cmpS l[j].1 l[j + 1].1 < 0 → risesR l = false) := by
  rw [hj, List.drop_eq_getElem_cons (show j < l.length by omega), List.drop_eq_getElem_cons h, risesR]
  constructor
  · intro hc; rw [decide_eq_true hc]; rfl
  · intro hc; rw [decide_eq_false hc]; rfl
theorem rises_end {l : List Rw} {j : Nat} (h : ¬ j + 1 < l.length) (hj : risesR l = risesR (l.drop j)) : risesR l = true := by
  rw [hj]
  match hd : l.drop j, show (l.drop j).length ≤ 1 by rw [List.length_drop]; omega with
  | [], _ => rfl
  | [_], _ => rfl

/-- what was put is found where it was put -/
theorem find_put (l : List Rw) (r : Rw) : findR (putR l r) r.1 = findR l r.1 ∧ foundR (putR l r) r.1 = true := by
  have hz : cmpS r.1 r.1 = 0 := (cmpS_eq _ _).2 rfl
  have key : ∀ (l : List Rw) (t : List Rw), findR (l.take (findR l r.1) ++ r :: t) r.1 = findR l r.1 ∧ foundR (l.take (findR l r.1) ++ r :: t) r.1 = true := by
    intro l t
    induction l with
    | nil => simp [findR, foundR, hz]
    | cons x q ih =>
      by_cases h : 0 ≤ cmpS x.1 r.1
      · simp [findR, foundR, h, hz]
      · simp only [findR, if_neg h, List.take_succ_cons, List.cons_append, foundR]
        exact ⟨by rw [ih.1], ih.2⟩
  exact key l _
theorem take_put (l : List Rw) (r : Rw) : (putR l r).take (findR l r.1) = l.take (findR l r.1) := by
  unfold putR
  rw [List.take_append_of_le_length (by rw [List.length_take]; have := findR_le l r.1; omega), List.take_of_length_le (by rw [List.length_take]; omega)]
theorem drop_put (l : List Rw) (r : Rw) : (putR l r).drop (findR l r.1 + 1) = l.drop (behR l r.1) := by
  unfold putR
  have hl : (l.take (findR l r.1)).length = findR l r.1 := by rw [List.length_take]; have := findR_le l r.1; omega
  rw [List.drop_append, List.drop_of_length_le (by omega), hl]
  simp
theorem put_twice (l : List Rw) (r : Rw) : putR (putR l r) r = putR l r := by
  obtain ⟨h1, h2⟩ := find_put l r
  have hb : behR (putR l r) r.1 = findR l r.1 + 1 := by rw [behR, h2, h1]; rfl
  rw [putR, h1, hb, take_put, drop_put]
  rfl
theorem put_len (l : List Rw) (r : Rw) : (putR l r).length = if foundR l r.1 then l.length else l.length + 1 := by
  have h1 := findR_le l r.1
  have h2 := behR_le l r.1
  unfold putR
  rw [List.length_append, List.length_cons, List.length_take, List.length_drop]
  unfold behR at *
  by_cases h : foundR l r.1
  · have := foundR_lt h
    rw [if_pos h] at *
    rw [if_pos h] at *
    omega
  · rw [if_neg h] at *
    rw [if_neg h] at *
    omega
theorem cut_put (l : List Rw) (r : Rw) : cutRw (putR l r) r.1 = l.take (findR l r.1) ++ l.drop (behR l r.1) := by
  obtain ⟨h1, h2⟩ := find_put l r
  rw [cutRw, h2, h1, take_put, drop_put]
  rfl
theorem cut_put_new {l : List Rw} {r : Rw} (h : foundR l r.1 = false) : cutRw (putR l r) r.1 = l := by
  rw [cut_put, behR, h]
  exact List.take_append_drop _ _
theorem cut_put_len {l : List Rw} {r : Rw} (h : foundR l r.1 = true) : (cutRw (putR l r) r.1).length + 1 = l.length := by
  have h1 := foundR_lt h
  rw [cut_put, behR, h, List.length_append, List.length_take, List.length_drop]
  simp only [if_true]
  omega
theorem cut_len (l : List Rw) (k : ByteArray) : (cutRw l k).length = if foundR l k then l.length - 1 else l.length := by
  unfold cutRw
  by_cases h : foundR l k
  · have := foundR_lt h
    rw [if_pos h, if_pos h, List.length_append, List.length_take, List.length_drop]
    omega
  · rw [if_neg h, if_neg h]
theorem cut_at {l : List Rw} {k : ByteArray} (h : foundR l k = true) : cutRw l k = l.take (findR l k) ++ l.drop (findR l k + 1) := by rw [cutRw, if_pos h]
theorem put_beh (l : List Rw) (r : Rw) : putR l r = l.take (findR l r.1) ++ [r] ++ l.drop (behR l r.1) := by rw [putR, List.append_assoc]; rfl
end Go.Proofs.Ytlapicjbnheioaa
