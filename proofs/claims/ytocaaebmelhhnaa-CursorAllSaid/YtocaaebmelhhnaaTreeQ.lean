/- Plain facts on a tree of rows: how many rows there are behind Put and Cut, and which; nothing of the program is named here. -/
import Derived.Test.YtocaaebmelhhnaaTreeP
set_option maxRecDepth 4000
namespace Go.Proofs.Ytocaaebmelhhnaa
open Go
theorem flatL_len {h : Nat} (a b : List (Tr h)) : (flatL h (a ++ b)).length = (flatL h a).length + (flatL h b).length := by rw [flatL_append, List.length_append]
theorem flatL_at {h : Nat} {ks : List (Tr h)} {j : Nat} {t : Tr h} (hg : ks[j]? = some t) : flatL h ks = flatL h (ks.take j) ++ flatT h t ++ flatL h (ks.drop (j + 1)) := by
  obtain ⟨hl, e⟩ := List.getElem?_eq_some_iff.1 hg
  conv => lhs; rw [← List.take_append_drop j ks, List.drop_eq_getElem_cons hl, e, flatL_append, flatL_cons, ← List.append_assoc]
theorem flatT_mem {h : Nat} {ks : List (Tr h)} {t : Tr h} (hm : t ∈ ks) : (flatT h t).length ≤ (flatL h ks).length := by
  obtain ⟨j, hj, e⟩ := List.getElem_of_mem hm
  rw [flatL_at (List.getElem?_eq_some_iff.2 ⟨hj, e⟩), List.length_append, List.length_append]
  omega
/-- what Put makes of the kids, in a row -/
theorem putK_flat {h : Nat} (f : Tr h → List (Tr h)) {ks : List (Tr h)} {j : Nat} {t : Tr h} (hg : ks[j]? = some t) : flatL (h + 1) (putK f ks j) = flatL h (ks.take j) ++ flatL h (f t) ++ flatL h (ks.drop (j + 1)) := by
  rw [putK_at f hg, halve_flat, flatL_append, flatL_append]
theorem join_flat {h : Nat} (a b : Tr h) : flatL h (joinT h a b) = flatT h a ++ flatT h b := by
  cases h with
  | zero => exact halve_flat0 _
  | succ h => exact (halve_flat (h := h) _).trans (flatL_append (h := h) _ _)
theorem drop_at {α : Type} {l : List α} {j : Nat} {t : α} (hg : l[j]? = some t) : l.drop j = t :: l.drop (j + 1) := by
  obtain ⟨hl, e⟩ := List.getElem?_eq_some_iff.1 hg
  rw [List.drop_eq_getElem_cons hl, e]
theorem take_at {α : Type} {l : List α} {j : Nat} {t : α} (hg : l[j]? = some t) : l.take (j + 1) = l.take j ++ [t] := by
  obtain ⟨hl, e⟩ := List.getElem?_eq_some_iff.1 hg
  rw [List.take_succ_eq_append_getElem hl, e]
/-- what Cut makes of the kids, in a row -/
theorem cutWay_flat {h : Nat} {ks : List (Tr h)} {c : Tr h} {j : Nat} {l : List (Tr h)} (hw : CutWay ks c j l) : flatL h l = flatL h (ks.take j) ++ flatT h c ++ flatL h (ks.drop (j + 1)) := by
  cases hw with
  | stays _ _ => rw [flatL_append, flatL_append, flatL_cons, flatL_nil, List.append_nil]
  | first n _ hn => rw [flatL_append, join_flat, List.take_zero, flatL_nil, List.nil_append, drop_at hn, flatL_cons, List.append_assoc]
  | other i p _ hp => rw [flatL_append, flatL_append, join_flat, take_at hp, flatL_append, flatL_cons, flatL_nil, List.append_nil]; simp only [List.append_assoc]
theorem put_flat_len0 (xs : List Rw) (r : Rw) : (flatL 0 (halve (putR xs r))).length ≤ xs.length + 1 := by
  rw [halve_flat0, put_len]; split <;> omega
theorem put_flat_lenK {h : Nat} {f : Tr h → List (Tr h)} {ks : List (Tr h)} {j : Nat} {t : Tr h} (hg : ks[j]? = some t) (ih : (flatL h (f t)).length ≤ (flatT h t).length + 1) : (flatL (h + 1) (putK f ks j)).length ≤ (flatL h ks).length + 1 := by
  rw [putK_flat f hg, flatL_at hg, List.length_append, List.length_append, List.length_append, List.length_append]; omega
theorem put_flat_len : ∀ (h : Nat) (t : Tr h) (r : Rw), OkT h t → (flatL h (putT h t r)).length ≤ (flatT h t).length + 1
  | 0, xs, r, _ => put_flat_len0 xs r
  | h + 1, ks, r, k =>
    have hj := placeT_lt (h := h) (ks := ks) r.1 (Nat.lt_of_lt_of_le (by omega) k.1)
    have hg := List.getElem?_eq_getElem hj
    put_flat_lenK (h := h) (ks := ks) hg (put_flat_len h _ r (k.2.2 _ (List.mem_of_getElem? hg)).1)
theorem cut_flat_len0 (xs : List Rw) (k : ByteArray) : (cutRw xs k).length ≤ xs.length := by rw [cut_len]; split <;> omega
theorem cut_flat_lenK {h : Nat} {f : Tr h → Tr h} {ks : List (Tr h)} {j : Nat} {t : Tr h} (hg : ks[j]? = some t) (h2 : 2 ≤ ks.length) (ih : (flatT h (f t)).length ≤ (flatT h t).length) : (flatL h (cutK f ks j)).length ≤ (flatL h ks).length := by
  rw [cutWay_flat (cutK_way f hg h2), flatL_at hg, List.length_append, List.length_append, List.length_append, List.length_append]; omega
theorem cut_flat_len : ∀ (h : Nat) (t : Tr h) (k : ByteArray), OkT h t → (flatT h (cutT h t k)).length ≤ (flatT h t).length
  | 0, xs, k, _ => cut_flat_len0 xs k
  | h + 1, ks, k, hk =>
    have hj := placeT_lt (h := h) (ks := ks) k (Nat.lt_of_lt_of_le (by omega) hk.1)
    have hg := List.getElem?_eq_getElem hj
    cut_flat_lenK (h := h) (ks := ks) hg hk.1 (cut_flat_len h _ k (hk.2.2 _ (List.mem_of_getElem? hg)).1)
end Go.Proofs.Ytocaaebmelhhnaa
