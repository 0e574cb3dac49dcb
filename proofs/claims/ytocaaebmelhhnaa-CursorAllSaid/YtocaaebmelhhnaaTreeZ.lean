/- Plain facts on a tree of rows: it has the rows that a list has which is put into, and cut, as the document says; nothing of the program is named here. -/
import Derived.Test.YtocaaebmelhhnaaTreeQ
set_option maxRecDepth 4000
namespace Go.Proofs.Ytocaaebmelhhnaa
open Go
/-- rows that rise: each is ahead of all behind it -/
def Up (l : List Rw) : Prop := l.Pairwise fun x y => cmpS x.1 y.1 < 0
theorem cmpS_lt_trans {a b c : ByteArray} (h1 : cmpS a b < 0) (h2 : cmpS b c < 0) : cmpS a c < 0 := by
  have h3 := cmpS_trans a b c (by omega) (by omega)
  rcases Int.lt_or_eq_of_le h3 with h | h
  · exact h
  · have e := (cmpS_eq a c).1 h
    have e2 : cmpS b c = - cmpS a b := by
      have := cmpS_turn a b
      have e4 : cmpS b c = cmpS b a := by unfold cmpS; rw [e]
      omega
    omega
theorem cmpS_le_lt {a b c : ByteArray} (h1 : cmpS a b ≤ 0) (h2 : cmpS b c < 0) : cmpS a c < 0 := by
  rcases Int.lt_or_eq_of_le h1 with h | h
  · exact cmpS_lt_trans h h2
  · have e := (cmpS_eq a b).1 h
    have : cmpS a c = cmpS b c := by unfold cmpS; rw [e]
    omega
theorem cmpS_lt_le {a b c : ByteArray} (h1 : cmpS a b < 0) (h2 : cmpS b c ≤ 0) : cmpS a c < 0 := by
  rcases Int.lt_or_eq_of_le h2 with h | h
  · exact cmpS_lt_trans h1 h
  · have e := (cmpS_eq b c).1 h
    have : cmpS a c = cmpS a b := by unfold cmpS; rw [e]
    omega
/-- ahead of a key: rows that all are -/
theorem find_ahead {a m : List Rw} {k : ByteArray} (ha : ∀ x ∈ a, cmpS x.1 k < 0) : findR (a ++ m) k = a.length + findR m k ∧ foundR (a ++ m) k = foundR m k := by
  induction a with
  | nil => simp
  | cons x r ih =>
    have hx := ha x (List.mem_cons_self ..)
    have := ih fun y hy => ha y (List.mem_cons_of_mem _ hy)
    rw [List.cons_append, findR, foundR, if_neg (by omega), if_neg (by omega), this.1, this.2, List.length_cons]
    exact ⟨by omega, rfl⟩
/-- behind a key: rows whose first one is -/
theorem find_behind {m b : List Rw} {k : ByteArray} (hb : ∀ x ∈ b, 0 < cmpS x.1 k) : findR (m ++ b) k = findR m k ∧ foundR (m ++ b) k = foundR m k := by
  induction m with
  | nil =>
    cases b with
    | nil => exact ⟨rfl, rfl⟩
    | cons x r =>
      have hx := hb x (List.mem_cons_self ..)
      refine ⟨?_, ?_⟩
      · show (if 0 ≤ cmpS x.1 k then 0 else findR r k + 1) = 0
        rw [if_pos (by omega)]
      · show (if 0 ≤ cmpS x.1 k then decide (cmpS x.1 k = 0) else foundR r k) = false
        rw [if_pos (by omega)]
        exact decide_eq_false (by omega)
  | cons x r ih =>
    rw [List.cons_append, findR, foundR, ih.1, ih.2, findR, foundR]
    exact ⟨rfl, rfl⟩
theorem find_mid {a m b : List Rw} {k : ByteArray} (ha : ∀ x ∈ a, cmpS x.1 k < 0) (hb : ∀ x ∈ b, 0 < cmpS x.1 k) : findR (a ++ m ++ b) k = a.length + findR m k ∧ foundR (a ++ m ++ b) k = foundR m k := by
  rw [List.append_assoc]
  obtain ⟨h1, h2⟩ := find_ahead (m := m ++ b) ha
  obtain ⟨h3, h4⟩ := find_behind (m := m) hb
  exact ⟨by rw [h1, h3], by rw [h2, h4]⟩
theorem take_mid {α : Type} (a m b : List α) {q : Nat} (hq : q ≤ m.length) : (a ++ m ++ b).take (a.length + q) = a ++ m.take q := by
  rw [List.append_assoc, List.take_append, List.take_of_length_le (by omega), show a.length + q - a.length = q by omega, List.take_append_of_le_length hq]
theorem drop_mid {α : Type} (a m b : List α) {q : Nat} (hq : q ≤ m.length) : (a ++ m ++ b).drop (a.length + q) = m.drop q ++ b := by
  rw [List.append_assoc, List.drop_append, List.drop_eq_nil_of_le (by omega), List.nil_append, show a.length + q - a.length = q by omega, List.drop_append_of_le_length hq]
theorem put_mid {a m b : List Rw} {r : Rw} (ha : ∀ x ∈ a, cmpS x.1 r.1 < 0) (hb : ∀ x ∈ b, 0 < cmpS x.1 r.1) : putR (a ++ m ++ b) r = a ++ putR m r ++ b := by
  obtain ⟨h1, h2⟩ := find_mid (m := m) ha hb
  have h3 : behR (a ++ m ++ b) r.1 = a.length + behR m r.1 := by
    unfold behR; rw [h1, h2]; split <;> omega
  rw [putR, h1, h3, take_mid a m b (findR_le m r.1), drop_mid a m b (behR_le m r.1), putR]
  simp
theorem cut_mid {a m b : List Rw} {k : ByteArray} (ha : ∀ x ∈ a, cmpS x.1 k < 0) (hb : ∀ x ∈ b, 0 < cmpS x.1 k) : cutRw (a ++ m ++ b) k = a ++ cutRw m k ++ b := by
  obtain ⟨h1, h2⟩ := find_mid (m := m) ha hb
  unfold cutRw
  rw [h1, h2]
  by_cases hf : foundR m k = true
  · have hlt := foundR_lt hf
    rw [if_pos hf, if_pos hf, take_mid a m b (findR_le m k), Nat.add_assoc, drop_mid a m b (by omega)]
    simp
  · rw [if_neg hf, if_neg hf]
theorem Up.parts {a m b : List Rw} (h : Up (a ++ m ++ b)) : Up a ∧ Up m ∧ Up b ∧ (∀ x ∈ a, ∀ y ∈ m, cmpS x.1 y.1 < 0) ∧ (∀ x ∈ m, ∀ y ∈ b, cmpS x.1 y.1 < 0) := by
  unfold Up at *
  rw [List.pairwise_append, List.pairwise_append] at h
  obtain ⟨⟨h1, h2, h3⟩, h4, h5⟩ := h
  exact ⟨h1, h2, h4, h3, fun x hx y hy => h5 x (List.mem_append_right _ hx) y hy⟩
/-- where a key stands: what is ahead of it, and what is behind -/
theorem take_find (l : List Rw) (k : ByteArray) : ∀ x ∈ l.take (findR l k), cmpS x.1 k < 0 := by
  induction l with
  | nil => intro x hx; simp at hx
  | cons y r ih =>
    rw [findR]
    split
    · intro x hx; simp at hx
    · rename_i hn
      intro x hx
      rw [List.take_succ_cons] at hx
      rcases List.mem_cons.1 hx with rfl | hx
      · omega
      · exact ih x hx
theorem Up.tail {x : Rw} {r : List Rw} (h : Up (x :: r)) : Up r := (List.pairwise_cons.1 h).2
theorem Up.head {x : Rw} {r : List Rw} (h : Up (x :: r)) : ∀ y ∈ r, cmpS x.1 y.1 < 0 := (List.pairwise_cons.1 h).1
theorem turn_lt {a b : ByteArray} (h : cmpS a b < 0) : 0 < cmpS b a := by have := cmpS_turn a b; omega
theorem turn_gt {a b : ByteArray} (h : 0 < cmpS a b) : cmpS b a < 0 := by have := cmpS_turn a b; omega
theorem drop_find {l : List Rw} (h : Up l) (k : ByteArray) : ∀ x ∈ l.drop (behR l k), 0 < cmpS x.1 k := by
  induction l with
  | nil => intro x hx; simp at hx
  | cons y r ih =>
    have hh := h.head
    by_cases hp : 0 ≤ cmpS y.1 k
    · have hf : findR (y :: r) k = 0 := by rw [findR, if_pos hp]
      by_cases hz : cmpS y.1 k = 0
      · have hb : behR (y :: r) k = 1 := by unfold behR; rw [hf, foundR, if_pos hp, if_pos (decide_eq_true hz)]
        rw [hb]
        intro x hx
        have h1 := hh x (by simpa using hx)
        have e := cmpS_le_lt (a := k) (b := y.1) (c := x.1) (by have := cmpS_turn y.1 k; omega) h1
        exact turn_lt e
      · have hb : behR (y :: r) k = 0 := by unfold behR; rw [hf, foundR, if_pos hp, if_neg (by simp [hz])]
        rw [hb]
        intro x hx
        rcases List.mem_cons.1 hx with rfl | hx
        · omega
        · exact turn_lt (cmpS_lt_trans (turn_gt (by omega)) (hh x hx))
    · have hb : behR (y :: r) k = behR r k + 1 := by
        unfold behR; rw [findR, foundR, if_neg hp, if_neg hp]; split <;> rfl
      rw [hb, List.drop_succ_cons]
      exact ih h.tail
theorem Up.take {l : List Rw} (h : Up l) (q : Nat) : Up (l.take q) := List.Pairwise.sublist (List.take_sublist q l) h
theorem Up.drop {l : List Rw} (h : Up l) (q : Nat) : Up (l.drop q) := List.Pairwise.sublist (List.drop_sublist q l) h
theorem Up.put {l : List Rw} (h : Up l) (r : Rw) : Up (putR l r) := by
  have h1 := take_find l r.1
  have h2 := drop_find h r.1
  unfold putR Up
  rw [List.pairwise_append, List.pairwise_cons]
  refine ⟨h.take _, ⟨fun y hy => turn_gt (h2 y hy), h.drop _⟩, fun x hx y hy => ?_⟩
  rcases List.mem_cons.1 hy with rfl | hy
  · exact h1 x hx
  · exact cmpS_lt_trans (h1 x hx) (turn_gt (h2 y hy))
theorem cut_sub (l : List Rw) (k : ByteArray) : (cutRw l k).Sublist l := by
  unfold cutRw
  split
  · conv => rhs; rw [← List.take_append_drop (findR l k) l]
    exact List.Sublist.append (List.Sublist.refl _) (List.drop_sublist_drop_left l (by omega))
  · exact List.Sublist.refl _
theorem Up.cut {l : List Rw} (h : Up l) (k : ByteArray) : Up (cutRw l k) := List.Pairwise.sublist (cut_sub l k) h
theorem up_rises : ∀ {l : List Rw}, Up l → risesR l = true
  | [], _ => rfl
  | [_], _ => rfl
  | x :: y :: r, h => by
    rw [risesR, decide_eq_true (h.head y (List.mem_cons_self ..)), up_rises h.tail]; rfl
/-- a key is found where a row has it -/
theorem found_mem {l : List Rw} {k : ByteArray} (h : foundR l k = true) : ∃ x ∈ l, cmpS x.1 k = 0 := by
  induction l with
  | nil => cases h
  | cons y r ih =>
    rw [foundR] at h
    split at h
    · exact ⟨y, List.mem_cons_self .., of_decide_eq_true h⟩
    · obtain ⟨x, hx, hz⟩ := ih h
      exact ⟨x, List.mem_cons_of_mem _ hx, hz⟩
theorem mem_found {l : List Rw} {k : ByteArray} (h : Up l) {x : Rw} (hx : x ∈ l) (hz : cmpS x.1 k = 0) : foundR l k = true := by
  induction l with
  | nil => cases hx
  | cons y r ih =>
    rw [foundR]
    rcases List.mem_cons.1 hx with rfl | hx
    · rw [if_pos (by omega)]; exact decide_eq_true hz
    · have h1 := cmpS_lt_le (h.head x hx) (show cmpS x.1 k ≤ 0 by omega)
      rw [if_neg (by omega)]
      exact ih h.tail hx
theorem found_iff {l : List Rw} (h : Up l) (k : ByteArray) : foundR l k = true ↔ ∃ x ∈ l, cmpS x.1 k = 0 := ⟨found_mem, fun ⟨_, hx, hz⟩ => mem_found h hx hz⟩
/-- the rows of a list: ahead of a key, of that key, behind it -/
theorem split_find (l : List Rw) (k : ByteArray) : l = l.take (findR l k) ++ (l.take (behR l k)).drop (findR l k) ++ l.drop (behR l k) := by
  have hb : findR l k ≤ behR l k := by unfold behR; split <;> omega
  conv => lhs; rw [← List.take_append_drop (behR l k) l]
  congr 1
  conv => lhs; rw [← List.take_append_drop (findR l k) (l.take (behR l k)), List.take_take, Nat.min_eq_left hb]
theorem found_at {l : List Rw} {k : ByteArray} (h : foundR l k = true) : ∃ x, l[findR l k]? = some x ∧ cmpS x.1 k = 0 := by
  induction l with
  | nil => cases h
  | cons y r ih =>
    rw [foundR] at h
    rw [findR]
    split at h
    · rename_i hp; rw [if_pos hp]; exact ⟨y, rfl, of_decide_eq_true h⟩
    · rename_i hp; rw [if_neg hp]; exact ih h
theorem mid_find {l : List Rw} (k : ByteArray) : ∀ x ∈ (l.take (behR l k)).drop (findR l k), cmpS x.1 k = 0 := by
  intro x hx
  unfold behR at hx
  split at hx
  · rename_i hf
    obtain ⟨y, hy, hz⟩ := found_at hf
    rw [take_at hy, List.drop_append_of_le_length (by rw [List.length_take]; have := foundR_lt hf; omega), List.drop_eq_nil_of_le (by rw [List.length_take]; omega)] at hx
    simp at hx
    rw [hx]; exact hz
  · rw [List.drop_eq_nil_of_le (by rw [List.length_take]; omega)] at hx
    cases hx
theorem mem_split {l : List Rw} (h : Up l) (k : ByteArray) (x : Rw) : (x ∈ l.take (findR l k) ∨ x ∈ l.drop (behR l k)) ↔ (x ∈ l ∧ cmpS x.1 k ≠ 0) := by
  constructor
  · rintro (hx | hx)
    · exact ⟨List.mem_of_mem_take hx, by have := take_find l k x hx; omega⟩
    · exact ⟨List.mem_of_mem_drop hx, by have := drop_find h k x hx; omega⟩
  · rintro ⟨hx, hz⟩
    rw [split_find l k] at hx
    rcases List.mem_append.1 hx with hx | hx
    · rcases List.mem_append.1 hx with hx | hx
      · exact .inl hx
      · exact absurd (mid_find k x hx) hz
    · exact .inr hx
theorem mem_put {l : List Rw} (h : Up l) (r x : Rw) : x ∈ putR l r ↔ x = r ∨ (x ∈ l ∧ cmpS x.1 r.1 ≠ 0) := by
  rw [← mem_split h r.1 x]
  unfold putR
  rw [List.mem_append, List.mem_cons]
  constructor
  · rintro (h | h | h)
    · exact .inr (.inl h)
    · exact .inl h
    · exact .inr (.inr h)
  · rintro (h | h | h)
    · exact .inr (.inl h)
    · exact .inl h
    · exact .inr (.inr h)
theorem mem_cut {l : List Rw} (h : Up l) (k : ByteArray) (x : Rw) : x ∈ cutRw l k ↔ (x ∈ l ∧ cmpS x.1 k ≠ 0) := by
  rw [← mem_split h k x]
  by_cases hf : foundR l k = true
  · have hb : behR l k = findR l k + 1 := by unfold behR; rw [if_pos hf]
    unfold cutRw
    rw [if_pos hf, hb, List.mem_append]
  · have hb : behR l k = findR l k := by unfold behR; rw [if_neg hf]
    unfold cutRw
    rw [if_neg hf, hb, ← List.mem_append, List.take_append_drop]
/-- two lists that rise and have the same rows are one -/
theorem up_ext : ∀ {l m : List Rw}, Up l → Up m → (∀ x, x ∈ l ↔ x ∈ m) → l = m
  | [], [], _, _, _ => rfl
  | [], y :: _, _, _, h => absurd ((h y).2 (List.mem_cons_self ..)) (by simp)
  | x :: _, [], _, _, h => absurd ((h x).1 (List.mem_cons_self ..)) (by simp)
  | x :: r, y :: s, hl, hm, h => by
    have hxy : x = y := by
      rcases List.mem_cons.1 ((h x).1 (List.mem_cons_self ..)) with e | hx
      · exact e
      · rcases List.mem_cons.1 ((h y).2 (List.mem_cons_self ..)) with e | hy
        · exact e.symm
        · have h1 := hm.head x hx
          have h2 := hl.head y hy
          have := cmpS_turn x.1 y.1
          omega
    subst hxy
    congr 1
    refine up_ext hl.tail hm.tail fun z => ?_
    have hz := h z
    rw [List.mem_cons, List.mem_cons] at hz
    constructor
    · intro hzr
      rcases hz.1 (.inr hzr) with e | e
      · subst e
        have := hl.head z hzr
        have := (cmpS_eq z.1 z.1).2 rfl
        omega
      · exact e
    · intro hzs
      rcases hz.2 (.inr hzs) with e | e
      · subst e
        have := hm.head z hzs
        have := (cmpS_eq z.1 z.1).2 rfl
        omega
      · exact e
end Go.Proofs.Ytocaaebmelhhnaa
