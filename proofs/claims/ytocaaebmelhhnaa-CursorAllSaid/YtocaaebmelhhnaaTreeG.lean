/- A tree as the rows that it has: what its calls answer and leave. -/
import Derived.Test.YtocaaebmelhhnaaTopQ
import Derived.Test.YtocaaebmelhhnaaTopA
import Derived.Test.YtocaaebmelhhnaaTreeA
set_option maxRecDepth 4000
namespace Go.Proofs.Ytocaaebmelhhnaa
open Go.RowKit
theorem val_mid {a m b : List Rw} {k : ByteArray} (ha : ∀ x ∈ a, cmpS x.1 k < 0) (hb : ∀ x ∈ b, 0 < cmpS x.1 k) : valR (a ++ m ++ b) k = valR m k := by
  obtain ⟨h1, h2⟩ := find_mid (m := m) ha hb
  unfold valR
  rw [h1, h2]
  by_cases hf : foundR m k = true
  · have hlt := foundR_lt hf
    rw [if_pos hf, if_pos hf, List.append_assoc, List.getElem?_append_right (by omega), show a.length + findR m k - a.length = findR m k by omega, List.getElem?_append_left hlt]
  · rw [if_neg hf, if_neg hf]
theorem getT_kids {h : Nat} (ks : List (Tr h)) (k : ByteArray) : getT (h + 1) ks k = ((ks[placeT h ks k]?).map fun t => getT h t k).getD (⟨#[]⟩, false) := rfl
theorem get_flatK {h : Nat} {ks : List (Tr h)} {k : ByteArray} (h2 : 2 ≤ ks.length) (k3 : ∀ t ∈ ks, OkT h t ∧ 3 ≤ widthT h t) (hup : Up (flatL h ks)) (ih : ∀ t ∈ ks, Up (flatT h t) → getT h t k = (valR (flatT h t) k, foundR (flatT h t) k)) :
    getT (h + 1) ks k = (valR (flatL h ks) k, foundR (flatL h ks) k) := by
  obtain ⟨t, hg, hm, ha, hb, hu⟩ := place_mid h2 k3 hup k
  rw [getT_kids, hg, Option.map_some, Option.getD_some, ih t hm hu, flatL_at hg, val_mid ha hb, (find_mid ha hb).2]
theorem get_flat : ∀ (h : Nat) (t : Tr h) (k : ByteArray), OkT h t → Up (flatT h t) → getT h t k = (valR (flatT h t) k, foundR (flatT h t) k)
  | 0, _, _, _, _ => rfl
  | h + 1, ks, k, ok, hup => get_flatK (h := h) (ks := ks) ok.1 ok.2.2 hup (fun t ht hu => get_flat h t k (ok.2.2 t ht).1 hu)
theorem above_ok {h n : Nat} {ps : List (Tr h)} (hp : PutOk h n ps) : OkT (aboveT h ps).1 (aboveT h ps).2 ∧ flatT (aboveT h ps).1 (aboveT h ps).2 = flatL h ps := by
  obtain ⟨h1, h2, h3, h4⟩ := hp
  match ps, h1, h2, h3, h4 with
  | [p], h1, _, _, _ => exact ⟨(h1 p (List.mem_cons_self ..)).1, by simp [aboveT, flatL]⟩
  | [p, q], h1, _, _, h4 => exact ⟨⟨Nat.le_refl 2, show 2 ≤ 6 by omega, fun t ht => ⟨(h1 t ht).1, h4 rfl t ht⟩⟩, rfl⟩
theorem lower_okK {h : Nat} {ks : List (Tr h)} (h1 : 1 ≤ ks.length) (h6 : ks.length ≤ 6) (k3 : ∀ t ∈ ks, OkT h t ∧ 3 ≤ widthT h t) : OkT (lowerK h ks).1 (lowerK h ks).2 ∧ flatT (lowerK h ks).1 (lowerK h ks).2 = flatL h ks := by
  match ks, h1, h6, k3 with
  | [p], _, _, k3 => exact ⟨(k3 p (List.mem_cons_self ..)).1, by simp [lowerK, flatL]⟩
  | p :: q :: r, _, h6, k3 => exact ⟨⟨show 2 ≤ r.length + 1 + 1 by omega, h6, k3⟩, rfl⟩
theorem lower_ok : ∀ {h : Nat} {t : Tr h}, WkT h t → OkT (lowerT h t).1 (lowerT h t).2 ∧ flatT (lowerT h t).1 (lowerT h t).2 = flatT h t
  | 0, _, hk => ⟨hk, rfl⟩
  | h + 1, ks, hk => lower_okK (h := h) (ks := ks) hk.1 hk.2.1 hk.2.2
theorem putTe_ok {T : Te} (ok : OkTe T) (hup : Up (flatTe T)) (r : Rw) : OkTe (putTe T r) ∧ flatTe (putTe T r) = putR (flatTe T) r := by
  have h1 := above_ok (putT_ok (topT T).1 (topT T).2 r ok)
  exact ⟨h1.1, h1.2.trans (put_flat _ _ r ok hup)⟩
theorem cutTe_ok {T : Te} (ok : OkTe T) (hup : Up (flatTe T)) (k : ByteArray) : OkTe (cutTe T k) ∧ flatTe (cutTe T k) = cutRw (flatTe T) k := by
  match T, ok, hup with
  | none, ok, hup => exact ⟨ok, rfl⟩
  | some ⟨h, t⟩, ok, hup =>
    have hg := get_flat h t k ok hup
    have hfl : flatTe (some ⟨h, t⟩) = flatT h t := rfl
    simp only [cutTe]
    rw [hg, hfl]
    by_cases hf : foundR (flatT h t) k = true
    · rw [if_pos hf]
      have h1 := lower_ok (cutT_ok h t k ok).1
      exact ⟨h1.1, h1.2.trans (cut_flat h t k ok hup)⟩
    · rw [if_neg hf]
      refine ⟨ok, ?_⟩
      rw [hfl, cutRw, if_neg hf]
/-- the tree at block b has these rows; all below its root lies where K says so -/
def Tree (w : World) (K : Nat → Prop) (b : Nat) (l : List Rw) : Prop := Up l ∧ ∃ T, TeAt w K b T ∧ OkTe T ∧ flatTe T = l
section
variable {w w' : World} {K : Nat → Prop} {b : Nat} {l : List Rw}
theorem Tree.up (a : Tree w K b l) : Up l := a.1
theorem Tree.lt (a : Tree w K b l) : b < w.heap.size := by obtain ⟨_, _, h, _⟩ := a; exact h.lt
theorem Tree.not (a : Tree w K b l) : ¬ K b := by obtain ⟨_, _, h, _⟩ := a; exact h.not
theorem Tree.below (a : Tree w K b l) (k : Below w.heap.size w w') : Tree w' K b l := by obtain ⟨h0, T, h1, h2⟩ := a; exact ⟨h0, T, h1.below k, h2⟩
theorem Tree.keep {L : Nat → Prop} (a : Tree w K b l) (k : Keep (fun i _ => L i) w w') (hb : L b) (hK : ∀ i, K i → L i) : Tree w' K b l := by obtain ⟨h0, T, h1, h2⟩ := a; exact ⟨h0, T, h1.keep k hb hK, h2⟩
theorem Tree.more {K' : Nat → Prop} (a : Tree w K b l) (hk : ∀ i, i < w.heap.size → K i → K' i) (hn : ¬ K' b) : Tree w K' b l := by obtain ⟨h0, T, h1, h2⟩ := a; exact ⟨h0, T, h1.more hk hn, h2⟩
theorem high_ok {T : Te} (ok : OkTe T) (hl : flatTe T = l) (hs : l.length ≤ 800) : (topT T).1 ≤ 900 ∧ (flatTe T).length ≤ 10000 ∧ (topT T).1 + 1 ≤ thirds l.length + 2 := by
  have h1 := high_tall ok
  have h2 : (flatT (topT T).1 (topT T).2).length = l.length := by rw [← hl]; rfl
  rw [h2] at h1
  rw [hl]
  omega
theorem put_tree (a : Tree w K b l) (hs : l.length ≤ 800) (hK : ∀ i, w.heap.size ≤ i → K i) (r : Rw) :
    Calls Try.prog 17 #[.pointer (some ⟨b, 0, none⟩), .agg #[.string r.1, .string r.2]] w fun e w' => e = .returned (.bool (!foundR l r.1)) ∧ Tree w' K b (putR l r) ∧ Keep (fun i _ => i ≠ b) w w' := by
  obtain ⟨h0, T, h1, h2, h3⟩ := a
  obtain ⟨g1, g2, _⟩ := high_ok h2 h3 hs
  refine (put_of h1 h2 g2 g1 hK r).mono ?_
  rintro e w' ⟨rfl, hte, hk⟩
  obtain ⟨k1, k2⟩ := putTe_ok h2 (by rw [h3]; exact h0) r
  refine ⟨?_, ⟨h0.put r, _, hte, k1, by rw [k2, h3]⟩, hk⟩
  rw [k2, h3, put_len]
  refine retBk ?_
  cases foundR l r.1 <;> simp
theorem cut_tree (a : Tree w K b l) (hs : l.length ≤ 800) (hK : ∀ i, w.heap.size ≤ i → K i) (k : ByteArray) :
    Calls Try.prog 18 #[.pointer (some ⟨b, 0, none⟩), .string k] w fun e w' => e = .returned (.bool (foundR l k)) ∧ Tree w' K b (cutRw l k) ∧ Keep (fun i _ => i ≠ b) w w' := by
  obtain ⟨h0, T, h1, h2, h3⟩ := a
  obtain ⟨g1, g2, _⟩ := high_ok h2 h3 hs
  refine (cut_of h1 h2 g2 g1 hK k).mono ?_
  rintro e w' ⟨rfl, hte, hk⟩
  obtain ⟨k1, k2⟩ := cutTe_ok h2 (by rw [h3]; exact h0) k
  refine ⟨?_, ⟨h0.cut k, _, hte, k1, by rw [k2, h3]⟩, hk⟩
  have h4 : flatT (topT T).1 (topT T).2 = l := h3
  have hg := get_flat (topT T).1 (topT T).2 k h2 (by rw [h4]; exact h0)
  rw [hg, h4]
theorem get_tree (a : Tree w K b l) (hK : ∀ i, w.heap.size ≤ i → K i) (k : ByteArray) :
    Calls Try.prog 16 #[.pointer (some ⟨b, 0, none⟩), .string k] w fun e w' => e = .returned (.tuple #[.string (valR l k), .bool (foundR l k)]) ∧ Below w.heap.size w w' := by
  obtain ⟨h0, T, h1, h2, h3⟩ := a
  refine (get_of h1 h2 hK k).mono ?_
  rintro e w' ⟨rfl, hk⟩
  have h4 : flatT (topT T).1 (topT T).2 = l := h3
  have hg := get_flat (topT T).1 (topT T).2 k h2 (by rw [h4]; exact h0)
  rw [hg, h4]
  exact ⟨rfl, hk⟩
theorem len_tree (a : Tree w K b l) (hK : ∀ i, w.heap.size ≤ i → K i) : Calls Try.prog 12 #[.pointer (some ⟨b, 0, none⟩)] w fun e w' => e = .returned (.int .i64 (l.length : Nat)) ∧ Below w.heap.size w w' := by
  obtain ⟨_, T, h1, _, h3⟩ := a
  have h := len_ h1 hK
  rw [h3] at h
  exact h
theorem all_tree (a : Tree w K b l) (hs : l.length ≤ 800) (hK : ∀ i, w.heap.size ≤ i → K i) :
    Calls Try.prog 11 #[.pointer (some ⟨b, 0, none⟩)] w fun e w' => ∃ A c, e = .returned (.slice A l.length c) ∧ Rws w' (fun i => w.heap.size ≤ i) A l ∧ l.length ≤ c ∧ (A = none → c = 0) ∧ Below w.heap.size w w' := by
  obtain ⟨h0, T, h1, h2, h3⟩ := a
  have h := all_of h1 h2 (by rw [h3]; exact h0) (high_ok h2 h3 hs).2.1 hK
  rw [h3] at h
  exact h
theorem height_tree (a : Tree w K b l) (hs : l.length ≤ 800) (hK : ∀ i, w.heap.size ≤ i → K i) : Calls Try.prog 13 #[.pointer (some ⟨b, 0, none⟩)] w fun e w' => ∃ m : Nat, e = .returned (.int .i64 (m : Nat)) ∧ 1 ≤ m ∧ m ≤ thirds l.length + 2 ∧ m ≤ 1000 ∧ (l = [] → m = 1) ∧ Below w.heap.size w w' := by
  obtain ⟨_, T, h1, h2, h3⟩ := a
  obtain ⟨g1, _, g3⟩ := high_ok h2 h3 hs
  refine (height_of h1 hK).mono ?_
  rintro e w' ⟨rfl, hk⟩
  refine ⟨_, rfl, by omega, g3, by omega, fun e => ?_, hk⟩
  have h4 := (high_tall h2).2
  have h5 : (flatT (topT T).1 (topT T).2).length = l.length := by rw [← h3]; rfl
  rw [h5, e] at h4
  simp at h4
  omega
end
end Go.Proofs.Ytocaaebmelhhnaa
