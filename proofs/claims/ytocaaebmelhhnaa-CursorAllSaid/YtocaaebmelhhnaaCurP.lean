/- Plain facts on a row of keys: what stands from the key behind one on; nothing of the program is named here. -/
import Derived.Test.YtocaaebmelhhnaaCurN
import Derived.Lib.Strings
set_option maxRecDepth 4000
namespace Go.Proofs.Ytocaaebmelhhnaa
open Go
theorem toList_next (a : ByteArray) : (nextK a).toList = a.toList ++ [0] := by
  unfold nextK
  rw [Lib.toList_data, Lib.toList_data, ByteArray.data_append]; simp
theorem cmpS_next (y a : ByteArray) : cmpS y (nextK a) < 0 ↔ cmpS y a ≤ 0 := by
  unfold cmpS; rw [toList_next]; exact cmpL_next _ _
theorem find_split {a b : List Rw} {k : ByteArray} (ha : ∀ x ∈ a, cmpS x.1 k < 0) (hb : ∀ x ∈ b, 0 ≤ cmpS x.1 k) : findR (a ++ b) k = a.length := by
  induction a with
  | nil =>
    cases b with
    | nil => rfl
    | cons y r => rw [List.nil_append, findR, if_pos (hb y (List.mem_cons_self ..))]; rfl
  | cons x r ih =>
    have h := ha x (List.mem_cons_self ..)
    rw [List.cons_append, findR, if_neg (by omega), ih (fun y hy => ha y (List.mem_cons_of_mem _ hy))]; rfl
/-- behind the j-th row -/
theorem from_next {l : List Rw} (h : Up l) {j : Nat} (hj : j < l.length) : fromR l (nextK l[j].1) = l.drop (j + 1) := by
  have e : l = l.take (j + 1) ++ l.drop (j + 1) := (List.take_append_drop _ _).symm
  have hf : findR l (nextK l[j].1) = j + 1 := by
    have hlen : (l.take (j + 1)).length = j + 1 := by rw [List.length_take]; omega
    refine Eq.trans (congrArg (fun m => findR m (nextK l[j].1)) e) (Eq.trans (find_split ?_ ?_) hlen)
    · intro x hx
      rw [cmpS_next]
      rw [List.take_succ_eq_append_getElem hj] at hx
      rcases List.mem_append.1 hx with hx | hx
      · have h2 := h
        rw [← List.take_append_drop j l, List.drop_eq_getElem_cons hj] at h2
        have := (List.pairwise_append.1 h2).2.2 x hx l[j] (List.mem_cons_self ..)
        omega
      · rw [List.mem_singleton] at hx
        subst hx
        rw [(cmpS_eq _ _).2 rfl]; omega
    · intro x hx
      have h2 := h.drop j
      rw [List.drop_eq_getElem_cons hj] at h2
      have h3 := turn_lt (h2.head x hx)
      rcases Int.lt_or_le (cmpS x.1 (nextK l[j].1)) 0 with h4 | h4
      · rw [cmpS_next] at h4; omega
      · exact h4
  rw [fromR, hf]
theorem from_first (l : List Rw) : fromR l ⟨#[]⟩ = l := by rw [fromR, find_empty]; rfl
theorem from_cons {l : List Rw} {k : ByteArray} {j : Nat} (hj : j < l.length) (h : fromR l k = l.drop j) : fromR l k = l[j] :: l.drop (j + 1) := by rw [h, List.drop_eq_getElem_cons hj]
theorem from_none {l : List Rw} {k : ByteArray} {j : Nat} (hj : l.length ≤ j) (h : fromR l k = l.drop j) : fromR l k = [] := by rw [h, List.drop_eq_nil_of_le hj]
end Go.Proofs.Ytocaaebmelhhnaa
