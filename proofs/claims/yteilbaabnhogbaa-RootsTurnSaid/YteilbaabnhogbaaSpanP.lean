/- Bytes on rows of sectors: plain facts. Nothing of the program. -/
import Derived.Test.YteilbaabnhogbaaMake
namespace Go.Proofs.Yteilbaabnhogbaa
/-- how many sectors n bytes take -/
def need (n : Nat) : Nat := (n + 63) / 64
/-- the i-th sector of these bytes, filled with zeros -/
def chunk (xs : List UInt8) (i : Nat) : Sec := (xs.drop (i * 64)).take 64 ++ zeros (64 - (xs.drop (i * 64)).length)
theorem chunk_length (xs : List UInt8) (i : Nat) : (chunk xs i).length = 64 := by
  simp [chunk, zeros]; omega
/-- sectors written one behind the other, k of them from the i-th on, till one is refused -/
def putGo (at_ : Nat) (xs : List UInt8) : St → Nat → Nat → St × Bool
  | s, _, 0 => (s, true)
  | s, i, k + 1 => if s.broken then (s, false) else putGo at_ xs (s.wr (at_ + i) (chunk xs i)) (i + 1) k
def St.fits (s : St) (at_ : Int) (k : Nat) : Bool := decide (0 ≤ at_) && decide (at_ + (k : Int) ≤ (s.n : Int))
def St.put (s : St) (at_ : Int) (xs : List UInt8) : St × Bool :=
  if need xs.length = 0 then (s, true) else if s.fits at_ (need xs.length) then putGo at_.toNat xs s 0 (need xs.length) else (s, false)
def cutG (n : Int) : Nat := (min (max n 0) 262144).toNat
def St.get (s : St) (at_ n : Int) : List UInt8 :=
  if s.fits at_ (need (cutG n)) then ((s.now.drop at_.toNat).take (need (cutG n))).flatten.take (cutG n) else []

theorem need_zero {n : Nat} : need n = 0 ↔ n = 0 := by unfold need; omega
theorem need_ge (n : Nat) : n ≤ need n * 64 := by unfold need; omega
theorem need_lt {n : Nat} (h : 0 < n) : (need n - 1) * 64 < n := by unfold need; omega
theorem St.fits_iff {s : St} {at_ : Int} {k : Nat} : s.fits at_ k = true ↔ 0 ≤ at_ ∧ at_ + (k : Int) ≤ (s.n : Int) := by simp [St.fits]
theorem St.fits_no {s : St} {at_ : Int} {k : Nat} : s.fits at_ k = false ↔ at_ < 0 ∨ (s.n : Int) < at_ + (k : Int) := by
  rw [Bool.eq_false_iff, Ne, St.fits_iff]; omega

/-! what is put is there, and nothing else has turned -/
theorem wr_getD {s : St} {i : Nat} {b : Sec} (hi : i < s.n) (j : Nat) : (s.wr i b).now.getD j [] = if j = i then b else s.now.getD j [] := by
  rw [St.wr_now, List.getD_eq_getElem?_getD, List.getElem?_set]
  split
  · rename_i e; subst e
    rw [if_pos (by rw [St.now_length]; exact hi), if_pos rfl]; rfl
  · rename_i e
    rw [if_neg (fun h => e h.symm), List.getD_eq_getElem?_getD]
theorem putGo_ok (at_ : Nat) (xs : List UInt8) : ∀ (k : Nat) (s : St) (i : Nat), s.ends = false → s.ok → at_ + i + k ≤ s.n → ∃ s', putGo at_ xs s i k = (s', true) ∧ s'.ends = false ∧ s'.ok ∧ s'.n = s.n ∧
    s'.l.length = s.l.length + k ∧ s'.count = s.count + k ∧ s'.left = s.left ∧ ∀ j, s'.now.getD j [] = if at_ + i ≤ j ∧ j < at_ + i + k then chunk xs (j - at_) else s.now.getD j []
  | 0, s, i, he, hok, _ => ⟨s, rfl, he, hok, rfl, rfl, rfl, rfl, fun j => by rw [if_neg (by omega)]⟩
  | k + 1, s, i, he, hok, hn => by
    have hb : s.broken = false := by simp [St.broken, he]
    obtain ⟨s', h1, h2, h3, h4, h5, h6, h7, h8⟩ := putGo_ok at_ xs k (s.wr (at_ + i) (chunk xs i)) (i + 1) he (hok.wr (by omega) (chunk_length _ _)) (by rw [St.n_wr]; omega)
    refine ⟨s', by rw [putGo, hb]; exact h1, h2, h3, h4, ?_, ?_, ?_, fun j => ?_⟩
    · rw [h5]; simp [St.wr]; omega
    · rw [h6]; simp [St.wr]; omega
    · rw [h7]; simp [St.wr, he]
    · rw [h8, wr_getD (by omega)]
      by_cases e : j = at_ + i
      · subst e
        rw [if_neg (by omega), if_pos rfl, if_pos (by omega)]
        congr 1; omega
      · rw [if_neg e]
        by_cases h : at_ + (i + 1) ≤ j ∧ j < at_ + (i + 1) + k
        · rw [if_pos h, if_pos (by omega)]
        · rw [if_neg h, if_neg (by omega)]
/-- what some puts leave alone -/
theorem putGo_keep (at_ : Nat) (xs : List UInt8) : ∀ (k : Nat) (s : St) (i : Nat), s.ok → at_ + i + k ≤ s.n → (putGo at_ xs s i k).1.ok ∧ (putGo at_ xs s i k).1.n = s.n ∧ (putGo at_ xs s i k).1.l.length ≤ s.l.length + k ∧ (putGo at_ xs s i k).1.count ≤ s.count + k ∧ (putGo at_ xs s i k).1.left ≤ s.left
  | 0, s, i, hok, _ => ⟨hok, rfl, by simp [putGo], by simp [putGo], by simp [putGo]⟩
  | k + 1, s, i, hok, hn => by
    rw [putGo]
    split
    · exact ⟨hok, rfl, by simp, by simp, by simp⟩
    · obtain ⟨h1, h2, h3, h4, h5⟩ := putGo_keep at_ xs k (s.wr (at_ + i) (chunk xs i)) (i + 1) (hok.wr (by omega) (chunk_length _ _)) (by rw [St.n_wr]; omega)
      refine ⟨h1, h2, ?_, ?_, ?_⟩
      · simp only [St.wr, List.length_append, List.length_singleton] at h3 ⊢; omega
      · simp only [St.wr] at h4 ⊢; omega
      · refine Nat.le_trans h5 ?_
        simp only [St.wr]; split <;> omega
theorem put_keep {s : St} (hok : s.ok) (at_ : Int) (xs : List UInt8) : (s.put at_ xs).1.ok ∧ (s.put at_ xs).1.n = s.n ∧ (s.put at_ xs).1.l.length ≤ s.l.length + need xs.length ∧ (s.put at_ xs).1.count ≤ s.count + need xs.length ∧ (s.put at_ xs).1.left ≤ s.left := by
  unfold St.put
  split
  · exact ⟨hok, rfl, by simp, by simp, by simp⟩
  · split
    · rename_i _ h
      have h := St.fits_iff.1 h
      exact putGo_keep _ _ _ _ _ hok (by omega)
    · exact ⟨hok, rfl, by simp, by simp, by simp⟩
theorem chunks_flat (xs : List UInt8) : ∀ k, k * 64 ≤ xs.length + 63 → ((List.range k).map (chunk xs)).flatten = xs.take (k * 64) ++ zeros (k * 64 - xs.length)
  | 0, _ => by simp [zeros]
  | k + 1, h => by
    rw [List.range_succ, List.map_append, List.flatten_append, chunks_flat xs k (by omega), show k * 64 - xs.length = 0 by omega]
    simp only [List.map_cons, List.map_nil, List.flatten_cons, List.flatten_nil, List.append_nil, chunk, zeros, List.replicate_zero, Nat.add_mul, Nat.one_mul, List.take_add, List.append_assoc, List.length_drop]
    congr 3
    omega
theorem chunks_take (xs : List UInt8) : ((List.range (need xs.length)).map (chunk xs)).flatten.take xs.length = xs := by
  rw [chunks_flat xs _ (by unfold need; omega), List.take_append_of_le_length (by rw [List.length_take]; have := need_ge xs.length; omega), List.take_take, Nat.min_eq_left (need_ge _), List.take_length]
theorem drop_take_map {s : List Sec} {at_ k : Nat} {f : Nat → Sec} (hn : at_ + k ≤ s.length) (h : ∀ j, j < k → s.getD (at_ + j) [] = f j) : (s.drop at_).take k = (List.range k).map f := by
  apply List.ext_getElem?
  intro j
  rw [List.getElem?_take]
  by_cases hj : j < k
  · rw [if_pos hj, List.getElem?_drop, List.getElem?_map, List.getElem?_range hj]
    have := h j hj
    rw [List.getD_eq_getElem?_getD, List.getElem?_eq_getElem (by omega)] at this
    rw [List.getElem?_eq_getElem (by omega)]
    simpa using this
  · rw [if_neg hj, List.getElem?_eq_none (by simp; omega)]
theorem cutG_nat {n : Nat} (h : n ≤ 262144) : cutG (n : Int) = n := by unfold cutG; omega
theorem get_put {s : St} {at_ : Nat} {xs : List UInt8} (hx : xs.length ≤ 262144) (hn : at_ + need xs.length ≤ s.n) (h : ∀ j, j < need xs.length → s.now.getD (at_ + j) [] = chunk xs j) : s.get (at_ : Int) (xs.length : Int) = xs := by
  unfold St.get
  rw [cutG_nat hx, if_pos (St.fits_iff.2 ⟨by omega, by omega⟩), Int.toNat_natCast, drop_take_map (by rw [St.now_length]; exact hn) h, chunks_take]
end Go.Proofs.Yteilbaabnhogbaa
