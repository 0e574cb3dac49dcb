/- Plain facts on a tree of rows: Put and Cut of a tree do what Put and Cut of its rows do; how high it is; nothing of the program is named here. -/
import Derived.Test.YtocaaebmelhhnaaTreeZ
set_option maxRecDepth 4000
namespace Go.Proofs.Ytocaaebmelhhnaa
open Go
/-- the least key is the first row's -/
theorem least_flat0 (xs : List Rw) (hw : 1 ≤ xs.length) : ∃ x r, xs = x :: r ∧ leastK (·.1) xs = x.1 := by
  match xs, hw with
  | x :: r, _ => exact ⟨x, r, rfl, rfl⟩
theorem least_flatK {h : Nat} {ks : List (Tr h)} (h1 : 1 ≤ ks.length) (ih : ∀ t ∈ ks, ∃ x r, flatT h t = x :: r ∧ leastT h t = x.1) : ∃ x r, flatL h ks = x :: r ∧ leastK (leastT h) ks = x.1 := by
  match ks, h1, ih with
  | t :: q, _, ih =>
    obtain ⟨x, r, e, e2⟩ := ih t (List.mem_cons_self ..)
    exact ⟨x, r ++ flatL h q, by rw [flatL_cons, e]; rfl, e2⟩
theorem least_flat : ∀ (h : Nat) (t : Tr h), OkT h t → 1 ≤ widthT h t → ∃ x r, flatT h t = x :: r ∧ leastT h t = x.1
  | 0, xs, _, hw => least_flat0 xs hw
  | h + 1, ks, ok, hw => least_flatK (h := h) (ks := ks) hw (fun t ht => least_flat h t (ok.2.2 t ht).1 (Nat.le_trans (by omega) (ok.2.2 t ht).2))
/-- where a key goes -/
theorem atT_spec {h : Nat} (ks : List (Tr h)) (k : ByteArray) : ∀ m, m < ks.length → (∀ t, ks[atT h ks k m]? = some t → atT h ks k m = 0 ∨ cmpS (leastT h t) k ≤ 0) ∧ (∀ i t, atT h ks k m < i → i ≤ m → ks[i]? = some t → 0 < cmpS (leastT h t) k)
  | 0, _ => ⟨fun _ _ => .inl rfl, fun i _ h1 h2 => by rw [atT] at h1; omega⟩
  | m + 1, hm => by
    have hg : ks[m + 1]? = some ks[m + 1] := List.getElem?_eq_getElem hm
    rw [atT, hg]
    simp only [Option.map_some, Option.getD_some]
    split
    · rename_i hp
      obtain ⟨h1, h2⟩ := atT_spec ks k m (by omega)
      refine ⟨h1, fun i t hi hle ht => ?_⟩
      rcases Nat.lt_or_ge i (m + 1) with hl | hl
      · exact h2 i t hi (by omega) ht
      · obtain rfl : i = m + 1 := by omega
        rw [hg] at ht
        cases ht
        exact hp
    · rename_i hp
      refine ⟨fun t ht => .inr ?_, fun i t hi hle _ => by omega⟩
      rw [hg] at ht
      cases ht
      omega
/-- the kid of a key: what is ahead of it is ahead of the key, what is behind it is behind the key -/
theorem place_mid {h : Nat} {ks : List (Tr h)} (h2 : 2 ≤ ks.length) (k3 : ∀ t ∈ ks, OkT h t ∧ 3 ≤ widthT h t) (hup : Up (flatL h ks)) (k : ByteArray) :
    ∃ t, ks[placeT h ks k]? = some t ∧ t ∈ ks ∧ (∀ x ∈ flatL h (ks.take (placeT h ks k)), cmpS x.1 k < 0) ∧ (∀ x ∈ flatL h (ks.drop (placeT h ks k + 1)), 0 < cmpS x.1 k) ∧ Up (flatT h t) := by
  have hj := placeT_lt (ks := ks) k (by omega)
  have hg : ks[placeT h ks k]? = some ks[placeT h ks k] := List.getElem?_eq_getElem hj
  obtain ⟨s1, s2⟩ := atT_spec ks k (ks.length - 1) (by omega)
  have s1 := s1 _ hg
  have s2 := fun i t (hi : placeT h ks k < i) (hl : i < ks.length) (ht : ks[i]? = some t) => s2 i t hi (by omega) ht
  change placeT h ks k = 0 ∨ _ at s1
  generalize ks[placeT h ks k] = t at *
  generalize placeT h ks k = j at *
  have hm := List.mem_of_getElem? hg
  have hup2 := hup
  rw [flatL_at hg] at hup2
  obtain ⟨_, u2, u3, u4, _⟩ := hup2.parts
  obtain ⟨x, r, e1, e2⟩ := least_flat h t (k3 t hm).1 (by have := (k3 t hm).2; omega)
  refine ⟨t, hg, hm, fun y hy => ?_, fun y hy => ?_, u2⟩
  · rcases s1 with rfl | s1
    · rw [List.take_zero] at hy; cases hy
    · have := u4 y hy x (by rw [e1]; exact List.mem_cons_self ..)
      rw [e2] at s1
      exact cmpS_lt_le this s1
  · rcases Nat.lt_or_ge (j + 1) ks.length with hl | hl
    · have hg2 : ks[j + 1]? = some ks[j + 1] := List.getElem?_eq_getElem hl
      have hm2 := List.mem_of_getElem? hg2
      have s := s2 (j + 1) _ (by omega) hl hg2
      obtain ⟨x2, r2, f1, f2⟩ := least_flat h _ (k3 _ hm2).1 (by have := (k3 _ hm2).2; omega)
      rw [f2] at s
      rw [drop_at hg2, flatL_cons, f1] at hy u3
      rcases List.mem_cons.1 hy with rfl | hy
      · exact s
      · exact turn_lt (cmpS_lt_trans (turn_gt s) (u3.head y hy))
    · rw [List.drop_eq_nil_of_le hl] at hy; cases hy
theorem put_flat0 (xs : List Rw) (r : Rw) : flatL 0 (halve (putR xs r)) = putR xs r := halve_flat0 _
theorem put_flatK {h : Nat} {f : Tr h → List (Tr h)} {ks : List (Tr h)} {r : Rw} (h2 : 2 ≤ ks.length) (k3 : ∀ t ∈ ks, OkT h t ∧ 3 ≤ widthT h t) (hup : Up (flatL h ks)) (ih : ∀ t ∈ ks, Up (flatT h t) → flatL h (f t) = putR (flatT h t) r) :
    flatL (h + 1) (putK f ks (placeT h ks r.1)) = putR (flatL h ks) r := by
  obtain ⟨t, hg, hm, ha, hb, hu⟩ := place_mid h2 k3 hup r.1
  rw [putK_flat f hg, ih t hm hu]
  conv => rhs; rw [flatL_at hg]
  rw [put_mid ha hb]
theorem put_flat : ∀ (h : Nat) (t : Tr h) (r : Rw), OkT h t → Up (flatT h t) → flatL h (putT h t r) = putR (flatT h t) r
  | 0, xs, r, _, _ => put_flat0 xs r
  | h + 1, ks, r, ok, hup => put_flatK (h := h) (ks := ks) ok.1 ok.2.2 hup (fun t ht hu => put_flat h t r (ok.2.2 t ht).1 hu)
theorem cut_flatK {h : Nat} {f : Tr h → Tr h} {ks : List (Tr h)} {k : ByteArray} (h2 : 2 ≤ ks.length) (k3 : ∀ t ∈ ks, OkT h t ∧ 3 ≤ widthT h t) (hup : Up (flatL h ks)) (ih : ∀ t ∈ ks, Up (flatT h t) → flatT h (f t) = cutRw (flatT h t) k) :
    flatL h (cutK f ks (placeT h ks k)) = cutRw (flatL h ks) k := by
  obtain ⟨t, hg, hm, ha, hb, hu⟩ := place_mid h2 k3 hup k
  rw [cutWay_flat (cutK_way f hg h2), ih t hm hu]
  conv => rhs; rw [flatL_at hg]
  rw [cut_mid ha hb]
theorem cut_flat : ∀ (h : Nat) (t : Tr h) (k : ByteArray), OkT h t → Up (flatT h t) → flatT h (cutT h t k) = cutRw (flatT h t) k
  | 0, _, _, _, _ => rfl
  | h + 1, ks, k, ok, hup => cut_flatK (h := h) (ks := ks) ok.1 ok.2.2 hup (fun t ht hu => cut_flat h t k (ok.2.2 t ht).1 hu)
/-- how many rows are below kids, each of which has at least so many -/
theorem flatL_many {h n : Nat} : ∀ (ks : List (Tr h)), (∀ t ∈ ks, n ≤ (flatT h t).length) → ks.length * n ≤ (flatL h ks).length
  | [], _ => by simp
  | t :: r, hk => by
    have h1 := hk t (List.mem_cons_self ..)
    have h2 := flatL_many r fun t ht => hk t (List.mem_cons_of_mem _ ht)
    rw [flatL_cons, List.length_append, List.length_cons, Nat.succ_mul]
    omega
theorem high_kid : ∀ (h : Nat) (t : Tr h), OkT h t → 3 ≤ widthT h t → 3 ^ (h + 1) ≤ (flatT h t).length
  | 0, xs, _, hw => hw
  | h + 1, ks, ok, hw => by
    have h1 := flatL_many (h := h) (n := 3 ^ (h + 1)) ks fun t ht => high_kid h t (ok.2.2 t ht).1 (ok.2.2 t ht).2
    have h2 : 3 * 3 ^ (h + 1) ≤ List.length (α := Tr h) ks * 3 ^ (h + 1) := Nat.mul_le_mul_right _ hw
    rw [Nat.pow_succ]
    exact Nat.le_trans (by omega) h1
theorem high_root {h : Nat} {t : Tr h} (ok : OkT h t) : h = 0 ∨ 3 ^ h ≤ (flatT h t).length := by
  match h, t, ok with
  | 0, _, _ => exact .inl rfl
  | h + 1, ks, ok =>
    have h1 := flatL_many (h := h) (n := 3 ^ (h + 1)) ks fun t ht => high_kid h t (ok.2.2 t ht).1 (ok.2.2 t ht).2
    have h2 : 2 * 3 ^ (h + 1) ≤ List.length (α := Tr h) ks * 3 ^ (h + 1) := Nat.mul_le_mul_right _ ok.1
    exact .inr (Nat.le_trans (by omega) h1)
/-- how often a number can be divided by 3 -/
def thirds (n : Nat) : Nat := if h : n = 0 then 0 else thirds (n / 3) + 1
termination_by n
decreasing_by omega
theorem thirds_zero : thirds 0 = 0 := by rw [thirds]; rfl
theorem thirds_pos {n : Nat} (h : n ≠ 0) : thirds n = thirds (n / 3) + 1 := by rw [thirds, dif_neg h]
theorem thirds_ge : ∀ (h n : Nat), 3 ^ h ≤ n → h + 1 ≤ thirds n
  | 0, n, hn => by rw [thirds_pos (by simp at hn; omega)]; omega
  | h + 1, n, hn => by
    rw [Nat.pow_succ] at hn
    have h0 : 0 < 3 ^ h := Nat.pow_pos (by omega)
    rw [thirds_pos (by omega)]
    have := thirds_ge h (n / 3) (by omega)
    omega
theorem thirds_le (n : Nat) : thirds n ≤ n := by
  induction n using Nat.strongRecOn with
  | _ n ih =>
    by_cases h : n = 0
    · subst h; rw [thirds_zero]; omega
    · rw [thirds_pos h]
      have := ih (n / 3) (by omega)
      omega
theorem high_tall {h : Nat} {t : Tr h} (ok : OkT h t) : h + 1 ≤ thirds (flatT h t).length + 2 ∧ h ≤ (flatT h t).length := by
  rcases high_root ok with rfl | hr
  · omega
  · have h1 := thirds_ge h _ hr
    have h2 := thirds_le (flatT h t).length
    omega
end Go.Proofs.Ytocaaebmelhhnaa
