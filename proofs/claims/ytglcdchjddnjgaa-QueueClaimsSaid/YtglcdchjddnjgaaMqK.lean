/- Plain facts on messages that are claimed: which is the least that nobody has, of all and of those of one Corr. -/
import Derived.Test.YtglcdchjddnjgaaMqP
set_option maxRecDepth 4000
namespace Go.Proofs.Ytglcdchjddnjgaa
def abcI (z : Int) : ByteArray := if z = 0 then ⟨#[97]⟩ else if z = 1 then ⟨#[98]⟩ else ⟨#[99]⟩
theorem abc_same {a b : Int} (ha : 0 ≤ a ∧ a < 3) (hb : 0 ≤ b ∧ b < 3) : ((abcI a).toList == (abcI b).toList) = (a == b) := by
  have h1 : a = 0 ∨ a = 1 ∨ a = 2 := by omega
  have h2 : b = 0 ∨ b = 1 ∨ b = 2 := by omega
  rcases h1 with rfl | rfl | rfl <;> rcases h2 with rfl | rfl | rfl <;> decide +kernel
/-- the j-th message, claimed or not -/
def msgJ (cl : Nat → Bool) (j : Nat) : Mg := ⟨(j : Int) + 1, 0, 0, cl j, abcI ((j : Int) % 3), ⟨#[]⟩⟩
def rowQ (n : Nat) (cl : Nat → Bool) : List Mg := (List.range n).map (msgJ cl)
/-- those from k on are done -/
def doneQ (cls : List Bool) (k j : Nat) : Bool := decide (k ≤ j) && cls.getD j false
theorem rowQ_len (n : Nat) (cl : Nat → Bool) : (rowQ n cl).length = n := by simp [rowQ]
theorem rowQ_get {n : Nat} {cl : Nat → Bool} {j : Nat} (h : j < (rowQ n cl).length) : (rowQ n cl)[j] = msgJ cl j := by simp [rowQ]
theorem rowQ_succ (n : Nat) (cl : Nat → Bool) : rowQ (n + 1) cl = rowQ n cl ++ [msgJ cl n] := by simp [rowQ, List.range_succ]
theorem rowQ_congr {n : Nat} {a b : Nat → Bool} (h : ∀ j, j < n → a j = b j) : rowQ n a = rowQ n b := by
  unfold rowQ
  apply List.map_congr_left
  intro j hj
  unfold msgJ
  rw [h j (List.mem_range.1 hj)]
theorem rowQ_find {n : Nat} {cl : Nat → Bool} {i : Nat} (h : i < n) : (rowQ n cl).findIdx (isM ((i : Int) + 1)) = i := by
  rw [List.findIdx_eq (by rw [rowQ_len]; exact h)]
  refine ⟨by rw [rowQ_get]; simp [isM, msgJ], fun j hj => ?_⟩
  rw [rowQ_get]
  simp [isM, msgJ]
  omega
theorem rowQ_set {n : Nat} {cl : Nat → Bool} {i : Nat} (h : i < n) (on : Bool) : canM (rowQ n cl) ((i : Int) + 1) on = !(cl i == on) ∧ claimM (rowQ n cl) ((i : Int) + 1) on = rowQ n (fun j => if j = i then on else cl j) := by
  have hlt : i < (rowQ n cl).length := by rw [rowQ_len]; exact h
  constructor
  · unfold canM
    rw [rowQ_find h, List.getElem?_eq_getElem hlt, rowQ_get]; rfl
  · unfold claimM
    rw [rowQ_find h]
    apply List.ext_getElem?
    intro j
    rw [List.getElem?_modify]
    by_cases hj : j < n
    · rw [List.getElem?_eq_getElem (by rw [rowQ_len]; exact hj), List.getElem?_eq_getElem (by rw [rowQ_len]; exact hj), rowQ_get, rowQ_get]
      by_cases e : i = j
      · subst e; simp [msgJ]
      · have : ¬ j = i := fun h => e h.symm
        simp [msgJ, e, this]
    · rw [List.getElem?_eq_none (by rw [rowQ_len]; omega), List.getElem?_eq_none (by rw [rowQ_len]; omega)]; rfl
theorem done_next {cls : List Bool} {i : Nat} (b : Bool) (h : cls.getD i false = b) : ∀ j, doneQ cls i j = if j = i then b else doneQ cls (i + 1) j := fun j => by
  unfold doneQ
  by_cases e : j = i
  · subst e; simp [← h]
  · rw [if_neg e]
    have : decide (i ≤ j) = decide (i + 1 ≤ j) := decide_eq_decide.2 (by omega)
    rw [this]
theorem done_self (cls : List Bool) (i : Nat) : doneQ cls (i + 1) i = false := by
  unfold doneQ
  rw [decide_eq_false (by omega)]; rfl
/-- the first of which p holds, from i on -/
def fromI (p : Nat → Bool) (n i : Nat) : Int := match (List.range' i (n - i)).find? p with
  | some j => (j : Int)
  | none => -1
theorem from_end (p : Nat → Bool) (n : Nat) : fromI p n n = -1 := by simp [fromI]
theorem from_step {p : Nat → Bool} {n i : Nat} (h : i < n) : fromI p n i = if p i then (i : Int) else fromI p n (i + 1) := by
  unfold fromI
  obtain ⟨m, hm⟩ : ∃ m, n - i = m + 1 := ⟨n - i - 1, by omega⟩
  rw [hm, List.range'_succ, List.find?_cons, show n - (i + 1) = m by omega]
  cases p i <;> rfl
theorem idx_from {q : Mg → Bool} {p : Nat → Bool} {n : Nat} {cl : Nat → Bool} (h : ∀ j, j < n → q (msgJ cl j) = p j) : idxI q (rowQ n cl) = fromI p n 0 := by
  unfold fromI
  rw [Nat.sub_zero, ← List.range_eq_range']
  cases hf : (List.range n).find? p with
  | none =>
    refine idx_miss fun j hj => ?_
    rw [rowQ_get]
    rw [rowQ_len] at hj
    rw [h j hj]
    have := List.find?_eq_none.1 hf j (List.mem_range.2 hj)
    simpa using this
  | some j =>
    obtain ⟨h1, h2, h3⟩ := List.find?_range_eq_some.1 hf
    have hj := List.mem_range.1 h2
    have hlt : j < (rowQ n cl).length := by rw [rowQ_len]; exact hj
    refine idx_hit hlt (by rw [rowQ_get, h j hj]; exact h1) fun i hi => ?_
    rw [rowQ_get, h i (by omega)]
    have := h3 i hi
    simpa using this
theorem first_free {n : Nat} {cl : Nat → Bool} (h : 0 < n) (hc : cl 0 = false) : idxI freeM (rowQ n cl) = 0 :=
  idx_hit (k := 0) (by rw [rowQ_len]; exact h) (by rw [rowQ_get]; simp [freeM, msgJ, hc]) fun j hj => absurd hj (Nat.not_lt_zero j)
end Go.Proofs.Ytglcdchjddnjgaa
