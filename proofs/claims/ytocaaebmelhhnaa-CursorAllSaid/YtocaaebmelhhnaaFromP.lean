/- Plain facts on a tree of rows: its rows from a key on; nothing of the program is named here. -/
import Derived.Test.YtocaaebmelhhnaaTreeA
set_option maxRecDepth 4000
namespace Go.Proofs.Ytocaaebmelhhnaa
open Go
/-- the rows from a key on -/
def fromR (xs : List Rw) (k : ByteArray) : List Rw := xs.drop (findR xs k)
/-- what a part hands over, from a key on -/
def fromT : (h : Nat) → Tr h → ByteArray → List Rw
  | 0 => fun (xs : List Rw) k => fromR xs k
  | h + 1 => fun (ks : List (Tr h)) k => ((ks.drop (placeT h ks k)).map fun t => fromT h t k).flatten
def fromL (h : Nat) (ks : List (Tr h)) (k : ByteArray) : List Rw := (ks.map fun t => fromT h t k).flatten
theorem fromL_nil (h : Nat) (k : ByteArray) : fromL h [] k = [] := rfl
theorem fromL_cons {h : Nat} (t : Tr h) (ks : List (Tr h)) (k : ByteArray) : fromL h (t :: ks) k = fromT h t k ++ fromL h ks k := by simp [fromL]
theorem fromT_kids {h : Nat} (ks : List (Tr h)) (k : ByteArray) : fromT (h + 1) ks k = fromL h (ks.drop (placeT h ks k)) k := rfl
theorem fromL_append {h : Nat} (a b : List (Tr h)) (k : ByteArray) : fromL h (a ++ b) k = fromL h a k ++ fromL h b k := by simp [fromL]
theorem fromL_at {h : Nat} {ks : List (Tr h)} {j : Nat} {t : Tr h} (hj : ks[j]? = some t) (k : ByteArray) : fromL h (ks.drop j) k = fromT h t k ++ fromL h (ks.drop (j + 1)) k := by
  rw [drop_at hj, fromL_cons]
theorem findR_behind {xs : List Rw} {k : ByteArray} (hb : ∀ x ∈ xs, 0 < cmpS x.1 k) : findR xs k = 0 := by
  cases xs with
  | nil => rfl
  | cons x r => rw [findR, if_pos (by have := hb x (List.mem_cons_self ..); omega)]
theorem fromR_behind {xs : List Rw} {k : ByteArray} (hb : ∀ x ∈ xs, 0 < cmpS x.1 k) : fromR xs k = xs := by
  rw [fromR, findR_behind hb]; rfl
theorem fromR_mid {a m b : List Rw} {k : ByteArray} (ha : ∀ x ∈ a, cmpS x.1 k < 0) (hb : ∀ x ∈ b, 0 < cmpS x.1 k) : fromR (a ++ m ++ b) k = fromR m k ++ b := by
  obtain ⟨h1, _⟩ := find_mid (m := m) ha hb
  unfold fromR
  rw [h1, List.append_assoc, ← List.drop_drop, List.drop_left, List.drop_append_of_le_length (findR_le m k)]
theorem fromL_behind {h : Nat} {k : ByteArray} {ks : List (Tr h)} (hb : ∀ x ∈ flatL h ks, 0 < cmpS x.1 k) (hu : Up (flatL h ks)) (ih : ∀ t ∈ ks, Up (flatT h t) → fromT h t k = fromR (flatT h t) k) : fromL h ks k = flatL h ks := by
  induction ks with
  | nil => rfl
  | cons t r ihr =>
    rw [flatL_cons] at hb hu
    have hu2 : Up (flatT h t) ∧ Up (flatL h r) := ⟨(List.pairwise_append.1 hu).1, (List.pairwise_append.1 hu).2.1⟩
    rw [fromL_cons, flatL_cons, ih t (List.mem_cons_self ..) hu2.1, fromR_behind (fun x hx => hb x (List.mem_append_left _ hx)), ihr (fun x hx => hb x (List.mem_append_right _ hx)) hu2.2 (fun t ht => ih t (List.mem_cons_of_mem _ ht))]
theorem from_flatK {h : Nat} {ks : List (Tr h)} {k : ByteArray} (h2 : 2 ≤ ks.length) (k3 : ∀ t ∈ ks, OkT h t ∧ 3 ≤ widthT h t) (hup : Up (flatL h ks)) (ih : ∀ t ∈ ks, Up (flatT h t) → fromT h t k = fromR (flatT h t) k) :
    fromT (h + 1) ks k = fromR (flatL h ks) k := by
  obtain ⟨t, hg, hm, ha, hb, hu⟩ := place_mid h2 k3 hup k
  rw [fromT_kids, fromL_at hg, ih t hm hu]
  conv => rhs; rw [flatL_at hg]
  rw [fromR_mid ha hb]
  have hu3 : Up (flatL h (ks.drop (placeT h ks k + 1))) := by
    rw [flatL_at hg] at hup
    exact hup.parts.2.2.1
  rw [fromL_behind hb hu3 (fun t ht => ih t (List.mem_of_mem_drop ht))]
theorem from_flat : ∀ (h : Nat) (t : Tr h) (k : ByteArray), OkT h t → Up (flatT h t) → fromT h t k = fromR (flatT h t) k
  | 0, _, _, _, _ => rfl
  | h + 1, ks, k, ok, hup => from_flatK (h := h) (ks := ks) ok.1 ok.2.2 hup (fun t ht hu => from_flat h t k (ok.2.2 t ht).1 hu)
end Go.Proofs.Ytocaaebmelhhnaa
