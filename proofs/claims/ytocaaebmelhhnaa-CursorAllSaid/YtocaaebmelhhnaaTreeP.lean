/- Plain facts on a tree of rows: what Put and Cut make of it; nothing of the program is named here. -/
import Derived.Test.YtocaaebmelhhnaaRowP
set_option maxRecDepth 4000
namespace Go.Proofs.Ytocaaebmelhhnaa
open Go

/-- a part of height h + 1: rows, or parts of height h -/
def Tr : Nat → Type
  | 0 => List Rw
  | h + 1 => List (Tr h)
def leastK {α : Type} (f : α → ByteArray) : List α → ByteArray
  | [] => ⟨#[]⟩
  | k :: _ => f k
def flatT : (h : Nat) → Tr h → List Rw
  | 0 => fun (xs : List Rw) => xs
  | h + 1 => fun (ks : List (Tr h)) => (ks.map (flatT h)).flatten
def flatL (h : Nat) (ks : List (Tr h)) : List Rw := (ks.map (flatT h)).flatten
def widthT : (h : Nat) → Tr h → Nat
  | 0 => fun (xs : List Rw) => xs.length
  | h + 1 => fun (ks : List (Tr h)) => ks.length
def leastT : (h : Nat) → Tr h → ByteArray
  | 0 => fun (xs : List Rw) => leastK (·.1) xs
  | h + 1 => fun (ks : List (Tr h)) => leastK (leastT h) ks
theorem flatL_append {h : Nat} (a b : List (Tr h)) : flatL h (a ++ b) = flatL h a ++ flatL h b := by simp [flatL]
theorem flatL_cons {h : Nat} (a : Tr h) (b : List (Tr h)) : flatL h (a :: b) = flatT h a ++ flatL h b := by simp [flatL]
theorem flatL_nil {h : Nat} : flatL h [] = [] := rfl

/-- one list, or its two halves where it is too long -/
def halve {α : Type} (l : List α) : List (List α) := if l.length ≤ 6 then [l] else [l.take ((l.length + 1) / 2), l.drop ((l.length + 1) / 2)]
/-- the place of the kid that has a key, or would take it, none behind place j -/
def atT (h : Nat) (ks : List (Tr h)) (k : ByteArray) : Nat → Nat
  | 0 => 0
  | j + 1 => if 0 < cmpS (((ks[j + 1]?).map (leastT h)).getD ⟨#[]⟩) k then atT h ks k j else j + 1
def placeT (h : Nat) (ks : List (Tr h)) (k : ByteArray) : Nat := atT h ks k (ks.length - 1)
def putK {h : Nat} (f : Tr h → List (Tr h)) (ks : List (Tr h)) (j : Nat) : List (List (Tr h)) := halve (ks.take j ++ ((ks[j]?).map f).getD [] ++ ks.drop (j + 1))
def putT : (h : Nat) → Tr h → Rw → List (Tr h)
  | 0 => fun (xs : List Rw) r => halve (putR xs r)
  | h + 1 => fun (ks : List (Tr h)) r => putK (fun t => putT h t r) ks (placeT h ks r.1)
def joinT : (h : Nat) → Tr h → Tr h → List (Tr h)
  | 0 => fun (a b : List Rw) => halve (a ++ b)
  | h + 1 => fun (a b : List (Tr h)) => halve (a ++ b)
def cutK {h : Nat} (f : Tr h → Tr h) (ks : List (Tr h)) (j : Nat) : List (Tr h) :=
  match ks[j]? with
  | none => ks
  | some t =>
    if ¬ widthT h (f t) < 3 then ks.take j ++ [f t] ++ ks.drop (j + 1)
    else match j with
      | 0 => (match ks[1]? with
        | some n => joinT h (f t) n ++ ks.drop 2
        | none => [f t])
      | i + 1 => (match ks[i]? with
        | some p => ks.take i ++ joinT h p (f t) ++ ks.drop (i + 2)
        | none => ks)
def cutT : (h : Nat) → Tr h → ByteArray → Tr h
  | 0 => fun (xs : List Rw) k => cutRw xs k
  | h + 1 => fun (ks : List (Tr h)) k => cutK (fun t => cutT h t k) ks (placeT h ks k)

/-- no part has more than may be, no kid fewer -/
def OkT : (h : Nat) → Tr h → Prop
  | 0 => fun (xs : List Rw) => xs.length ≤ 6
  | h + 1 => fun (ks : List (Tr h)) => 2 ≤ ks.length ∧ ks.length ≤ 6 ∧ ∀ t ∈ ks, OkT h t ∧ 3 ≤ widthT h t
/-- as OkT, but one kid may do -/
def WkT : (h : Nat) → Tr h → Prop
  | 0 => fun (xs : List Rw) => xs.length ≤ 6
  | h + 1 => fun (ks : List (Tr h)) => 1 ≤ ks.length ∧ ks.length ≤ 6 ∧ ∀ t ∈ ks, OkT h t ∧ 3 ≤ widthT h t
theorem OkT.wk {h : Nat} {t : Tr h} (k : OkT h t) : WkT h t := by
  cases h with
  | zero => exact k
  | succ h => exact ⟨Nat.le_trans (by omega) k.1, k.2.1, k.2.2⟩
theorem WkT.ok {h : Nat} {t : Tr h} (k : WkT h t) (hw : 2 ≤ widthT h t) : OkT h t := by
  cases h with
  | zero => exact k
  | succ h => exact ⟨hw, k.2.1, k.2.2⟩
theorem OkT.width {h : Nat} {t : Tr h} (k : OkT h t) : widthT h t ≤ 6 := by
  cases h with
  | zero => exact k
  | succ h => exact k.2.1
theorem WkT.width {h : Nat} {t : Tr h} (k : WkT h t) : widthT h t ≤ 6 := by
  cases h with
  | zero => exact k
  | succ h => exact k.2.1
theorem atT_le {h : Nat} (ks : List (Tr h)) (k : ByteArray) (j : Nat) : atT h ks k j ≤ j := by
  induction j with
  | zero => exact Nat.le_refl _
  | succ j ih => rw [atT]; split <;> omega
theorem placeT_lt {h : Nat} {ks : List (Tr h)} (k : ByteArray) (h0 : 0 < ks.length) : placeT h ks k < ks.length := by
  have := atT_le ks k (ks.length - 1)
  unfold placeT; omega

/-- halves of a list of kids, or of rows: what they have -/
theorem halve_len {α : Type} {l : List α} (hl : l.length ≤ 8) : ∀ p ∈ halve l, p.length ≤ 6 ∧ (min 3 l.length ≤ p.length) := by
  intro p hp
  unfold halve at hp
  split at hp
  · rw [List.mem_singleton] at hp; subst hp; omega
  · rcases List.mem_cons.1 hp with rfl | hp
    · rw [List.length_take]; omega
    · rw [List.mem_singleton] at hp; subst hp; rw [List.length_drop]; omega
theorem halve_mem {α : Type} {l : List α} {p : List α} (hp : p ∈ halve l) : ∀ x ∈ p, x ∈ l := by
  intro x hx
  unfold halve at hp
  split at hp
  · rw [List.mem_singleton] at hp; subst hp; exact hx
  · rcases List.mem_cons.1 hp with rfl | hp
    · exact List.mem_of_mem_take hx
    · rw [List.mem_singleton] at hp; subst hp; exact List.mem_of_mem_drop hx
theorem halve_count {α : Type} (l : List α) : 1 ≤ (halve l).length ∧ (halve l).length ≤ 2 := by
  unfold halve; split <;> simp
theorem halve_two {α : Type} {l : List α} (h : (halve l).length = 2) : 6 < l.length := by
  unfold halve at h; split at h
  · simp at h
  · omega
theorem halve_map {α β : Type} (g : List α → List β) (hg : ∀ a b, g (a ++ b) = g a ++ g b) (l : List α) : ((halve l).map g).flatten = g l := by
  unfold halve; split
  · simp
  · rw [List.map_cons, List.map_cons, List.map_nil, List.flatten_cons, List.flatten_cons, List.flatten_nil, List.append_nil, ← hg, List.take_append_drop]
theorem halve_flat {h : Nat} (l : List (Tr h)) : flatL (h + 1) (halve l) = flatL h l := halve_map (flatL h) flatL_append l
theorem halve_flat0 (l : List Rw) : flatL 0 (halve l) = l := halve_map (fun l : List Rw => l) (fun _ _ => rfl) l
theorem putK_at {h : Nat} (f : Tr h → List (Tr h)) {ks : List (Tr h)} {j : Nat} {t : Tr h} (hg : ks[j]? = some t) : putK f ks j = halve (ks.take j ++ f t ++ ks.drop (j + 1)) := by
  rw [putK, hg]; rfl

/-- what Put makes of a part: one part no thinner, or two that are full enough -/
def PutOk (h : Nat) (n : Nat) (ps : List (Tr h)) : Prop := (∀ p ∈ ps, OkT h p ∧ min 3 n ≤ widthT h p) ∧ 1 ≤ ps.length ∧ ps.length ≤ 2 ∧ (ps.length = 2 → ∀ p ∈ ps, 3 ≤ widthT h p)
theorem putT_ok0 (xs : List Rw) (r : Rw) (k : xs.length ≤ 6) : PutOk 0 xs.length (halve (putR xs r)) := by
  have hl := put_len xs r
  have h7 : (putR xs r).length ≤ 7 ∧ xs.length ≤ (putR xs r).length := by rw [hl]; split <;> omega
  refine ⟨fun p hp => ?_, (halve_count _).1, (halve_count _).2, fun h2 p hp => ?_⟩
  · have := halve_len (by omega) p hp
    exact ⟨this.1, Nat.le_trans (by omega) this.2⟩
  · have h3 := halve_len (l := putR xs r) (by omega) p hp
    have := halve_two h2
    exact Nat.le_trans (by omega) h3.2
theorem putK_ok {h : Nat} {f : Tr h → List (Tr h)} {ks : List (Tr h)} {j : Nat} {t : Tr h} (hg : ks[j]? = some t) (h2 : 2 ≤ ks.length) (h6 : ks.length ≤ 6) (k3 : ∀ t ∈ ks, OkT h t ∧ 3 ≤ widthT h t) (hf : PutOk h (widthT h t) (f t)) :
    PutOk (h + 1) ks.length (putK f ks j) := by
  rw [putK_at f hg]
  obtain ⟨i1, i2, i3, i4⟩ := hf
  have hw3 := (k3 _ (List.mem_of_getElem? hg)).2
  have hj := (List.getElem?_eq_some_iff.1 hg).1
  generalize f t = ps at *
  have hlen : (ks.take j ++ ps ++ ks.drop (j + 1)).length + 1 = ks.length + ps.length := by
    rw [List.length_append, List.length_append, List.length_take, List.length_drop]; omega
  have hall : ∀ t ∈ ks.take j ++ ps ++ ks.drop (j + 1), OkT h t ∧ 3 ≤ widthT h t := by
    intro t ht
    rcases List.mem_append.1 ht with ht | ht
    · rcases List.mem_append.1 ht with ht | ht
      · exact k3 t (List.mem_of_mem_take ht)
      · have := i1 t ht; exact ⟨this.1, by omega⟩
    · exact k3 t (List.mem_of_mem_drop ht)
  generalize ks.take j ++ ps ++ ks.drop (j + 1) = l at *
  refine ⟨fun p hp => ?_, (halve_count _).1, (halve_count _).2, fun h2 p hp => ?_⟩
  · have h3 := halve_len (l := l) (by omega) p hp
    exact ⟨⟨Nat.le_trans (by omega) h3.2, h3.1, fun t ht => hall t (halve_mem hp t ht)⟩, Nat.le_trans (by omega) h3.2⟩
  · have h3 := halve_len (l := l) (by omega) p hp
    have := halve_two h2
    exact Nat.le_trans (by omega) h3.2
theorem putT_ok : ∀ (h : Nat) (t : Tr h) (r : Rw), OkT h t → PutOk h (widthT h t) (putT h t r)
  | 0, xs, r, k => putT_ok0 xs r k
  | h + 1, ks, r, k =>
    have hj := placeT_lt (h := h) (ks := ks) r.1 (Nat.lt_of_lt_of_le (by omega) k.1)
    have hg := List.getElem?_eq_getElem hj
    putK_ok (h := h) (ks := ks) hg k.1 k.2.1 k.2.2 (putT_ok h _ r (k.2.2 _ (List.mem_of_getElem? hg)).1)

theorem joinK_ok {α : Type} {a b : List α} (h5 : 5 ≤ a.length + b.length) (h8 : a.length + b.length ≤ 8) : ∀ p ∈ halve (a ++ b), p.length ≤ 6 ∧ 3 ≤ p.length := fun p hp => by
  have h3 := halve_len (l := a ++ b) (by rw [List.length_append]; omega) p hp
  rw [List.length_append] at h3
  omega
theorem joinT_ok {h : Nat} {a b : Tr h} (ha : OkT h a) (hb : OkT h b) (h5 : 5 ≤ widthT h a + widthT h b) (h8 : widthT h a + widthT h b ≤ 8) :
    (∀ p ∈ joinT h a b, OkT h p ∧ 3 ≤ widthT h p) ∧ 1 ≤ (joinT h a b).length ∧ (joinT h a b).length ≤ 2 := by
  cases h with
  | zero => exact ⟨fun p hp => joinK_ok (α := Rw) h5 h8 p hp, halve_count (α := Rw) _⟩
  | succ h =>
    refine ⟨fun p hp => ?_, halve_count (α := Tr h) _⟩
    obtain ⟨j1, j2⟩ := joinK_ok (α := Tr h) h5 h8 p hp
    refine ⟨⟨Nat.le_trans (by omega) j2, j1, fun t ht => ?_⟩, j2⟩
    rcases List.mem_append.1 (halve_mem (α := Tr h) hp t ht) with ht | ht
    · exact ha.2.2 t ht
    · exact hb.2.2 t ht
/-- the three ways of a Cut below -/
inductive CutWay {h : Nat} (ks : List (Tr h)) (c : Tr h) : Nat → List (Tr h) → Prop
  | stays (j : Nat) : ¬ widthT h c < 3 → CutWay ks c j (ks.take j ++ [c] ++ ks.drop (j + 1))
  | first (n : Tr h) : widthT h c < 3 → ks[1]? = some n → CutWay ks c 0 (joinT h c n ++ ks.drop 2)
  | other (i : Nat) (p : Tr h) : widthT h c < 3 → ks[i]? = some p → CutWay ks c (i + 1) (ks.take i ++ joinT h p c ++ ks.drop (i + 2))
theorem cutK_way {h : Nat} (f : Tr h → Tr h) {ks : List (Tr h)} {j : Nat} {t : Tr h} (hg : ks[j]? = some t) (h2 : 2 ≤ ks.length) : CutWay ks (f t) j (cutK f ks j) := by
  have hj := (List.getElem?_eq_some_iff.1 hg).1
  rw [cutK, hg]
  simp only
  by_cases hw : widthT h (f t) < 3
  · rw [if_neg (fun hn => hn hw)]
    cases j with
    | zero =>
      have h1 : 1 < ks.length := by omega
      rw [List.getElem?_eq_getElem h1]
      exact .first _ hw (List.getElem?_eq_getElem h1)
    | succ i =>
      have h1 : i < ks.length := by omega
      simp only [List.getElem?_eq_getElem h1]
      exact .other _ _ hw (List.getElem?_eq_getElem h1)
  · rw [if_pos hw]
    exact .stays _ hw
def CutOk (h : Nat) (n : Nat) (c : Tr h) : Prop := WkT h c ∧ n ≤ widthT h c + 1
theorem cutK_ok {h : Nat} {f : Tr h → Tr h} {ks : List (Tr h)} {j : Nat} {t : Tr h} (hg : ks[j]? = some t) (h2 : 2 ≤ ks.length) (h6 : ks.length ≤ 6) (k3 : ∀ t ∈ ks, OkT h t ∧ 3 ≤ widthT h t) (hf : CutOk h (widthT h t) (f t)) :
    CutOk (h + 1) ks.length (cutK f ks j) := by
  have hj := (List.getElem?_eq_some_iff.1 hg).1
  have h3 := (k3 _ (List.mem_of_getElem? hg)).2
  have hway := cutK_way f hg h2
  obtain ⟨i1, i2⟩ := hf
  have hok : OkT h (f t) := i1.ok (by omega)
  generalize f t = c at *
  generalize cutK f ks j = l at *
  suffices hs : ks.length ≤ l.length + 1 ∧ l.length ≤ 6 ∧ ∀ x ∈ l, OkT h x ∧ 3 ≤ widthT h x from ⟨⟨by omega, hs.2.1, hs.2.2⟩, hs.1⟩
  cases hway with
  | stays _ hw =>
    have hlen : (ks.take j ++ [c] ++ ks.drop (j + 1)).length = ks.length := by
      rw [List.length_append, List.length_append, List.length_take, List.length_drop, List.length_singleton]; omega
    refine ⟨by omega, by omega, fun x hx => ?_⟩
    rcases List.mem_append.1 hx with hx | hx
    · rcases List.mem_append.1 hx with hx | hx
      · exact k3 x (List.mem_of_mem_take hx)
      · rw [List.mem_singleton] at hx; subst hx; exact ⟨hok, by omega⟩
    · exact k3 x (List.mem_of_mem_drop hx)
  | first n hw hn =>
    have hm := k3 n (List.mem_of_getElem? hn)
    have h66 := hm.1.width
    obtain ⟨j1, j2, j3⟩ := joinT_ok hok hm.1 (by omega) (by omega)
    have hlen : (joinT h c n ++ ks.drop 2).length + 2 = ks.length + (joinT h c n).length := by
      rw [List.length_append, List.length_drop]; omega
    refine ⟨by omega, by omega, fun x hx => ?_⟩
    rcases List.mem_append.1 hx with hx | hx
    · exact j1 x hx
    · exact k3 x (List.mem_of_mem_drop hx)
  | other i p hw hp =>
    have hm := k3 p (List.mem_of_getElem? hp)
    have h66 := hm.1.width
    obtain ⟨j1, j2, j3⟩ := joinT_ok hm.1 hok (by omega) (by omega)
    have hlen : (ks.take i ++ joinT h p c ++ ks.drop (i + 2)).length + 2 = ks.length + (joinT h p c).length := by
      rw [List.length_append, List.length_append, List.length_take, List.length_drop]; omega
    refine ⟨by omega, by omega, fun x hx => ?_⟩
    rcases List.mem_append.1 hx with hx | hx
    · rcases List.mem_append.1 hx with hx | hx
      · exact k3 x (List.mem_of_mem_take hx)
      · exact j1 x hx
    · exact k3 x (List.mem_of_mem_drop hx)
theorem cutT_ok0 (xs : List Rw) (k : ByteArray) (hk : xs.length ≤ 6) : CutOk 0 xs.length (cutRw xs k) := by
  have hl := cut_len xs k
  have h1 : (cutRw xs k).length ≤ 6 ∧ xs.length ≤ (cutRw xs k).length + 1 := by rw [hl]; split <;> omega
  exact h1
theorem cutT_ok : ∀ (h : Nat) (t : Tr h) (k : ByteArray), OkT h t → CutOk h (widthT h t) (cutT h t k)
  | 0, xs, k, hk => cutT_ok0 xs k hk
  | h + 1, ks, k, hk =>
    have hj := placeT_lt (h := h) (ks := ks) k (Nat.lt_of_lt_of_le (by omega) hk.1)
    have hg := List.getElem?_eq_getElem hj
    cutK_ok (h := h) (ks := ks) hg hk.1 hk.2.1 hk.2.2 (cutT_ok h _ k (hk.2.2 _ (List.mem_of_getElem? hg)).1)
end Go.Proofs.Ytocaaebmelhhnaa
