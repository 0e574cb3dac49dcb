/- A disk's states, plain facts: what stands at a sector, writes and syncs that may be refused, what a crash leaves. Nothing of the program. -/
import Derived.Test.YteilbaabnhogbaaSpanP
import Derived.Test.YteilbaabnhogbaaBPure
namespace Go.Proofs.Yteilbaabnhogbaa
abbrev i64r (n : Int) : Prop := -9223372036854775808 ≤ n ∧ n ≤ 9223372036854775807
theorem i64of_range (v : Nat) : i64r (i64of v) := by unfold i64of i64r; omega
theorem int_front2 (n : Int) (y : List UInt8) : (⟨encInt n ++ y, false⟩ : Rd).int.2 = ⟨y, false⟩ := by
  unfold Rd.int; rw [take_front _ _ 8 (encInt_len n)]
def St.at_ (s : St) (i : Nat) : Sec := s.now.getD i []
def St.tryW (s : St) (i : Nat) (b : Sec) : St × Bool := if s.broken then (s, false) else (s.wr i b, true)
def St.tryS (s : St) : St × Bool := if s.broken then (s, false) else (s.sync, true)
/-- one behind the other, till one fails -/
def thenDo (r : St × Bool) (f : St → St × Bool) : St × Bool := if r.2 then f r.1 else r
section
variable {s s1 : St} {b1 : Bool} {m : Nat} {b : List UInt8}
theorem now_sure (h : s.l = []) : s.now = s.sure := by unfold St.now; rw [h]; rfl
theorem settle_far (k : Nat → Bool) {i : Nat} : ∀ (l : List Wr) (j : Nat) (S : List Sec), (∀ x ∈ l, x.1 ≠ i) → (settle k j S l).getD i [] = S.getD i []
  | [], _, _, _ => rfl
  | x :: l, j, S, h => by
    rw [settle, settle_far k l (j + 1) _ fun y hy => h y (by simp [hy])]
    split
    · have := h x (by simp)
      rw [List.getD_eq_getElem?_getD, List.getElem?_set_ne this, ← List.getD_eq_getElem?_getD]
    · rfl
theorem crash_at {i : Nat} (k : Nat → Bool) (h : ∀ x ∈ s.l, x.1 ≠ i) : (s.crash k).at_ i = s.sure.getD i [] := by
  unfold St.at_
  rw [St.crash_now]
  exact settle_far k _ _ _ h
theorem wr_at {i : Nat} {x : Sec} (hi : i < s.n) (j : Nat) : (s.wr i x).at_ j = if j = i then x else s.at_ j := wr_getD hi j
theorem putGo_gen (a : Nat) (xs : List UInt8) : ∀ (k : Nat) (s s1 : St) (i : Nat) (v : Bool), s.ok → a + i + k ≤ s.n → putGo a xs s i k = (s1, v) → s1.sure = s.sure ∧ s1.ends = s.ends ∧ (∀ x ∈ s1.l, x ∈ s.l ∨ (a + i ≤ x.1 ∧ x.1 < a + i + k)) ∧
    (v = true → ∀ j, s1.at_ j = if a + i ≤ j ∧ j < a + i + k then chunk xs (j - a) else s.at_ j) ∧ (s.ends = false → v = true)
  | 0, s, s1, i, v, hok, _, h => by
    cases h
    exact ⟨rfl, rfl, fun x hx => .inl hx, fun _ j => by rw [if_neg (by omega)], fun _ => rfl⟩
  | k + 1, s, s1, i, v, hok, hn, h => by
    rw [putGo] at h
    cases hb : s.broken
    · rw [hb] at h
      obtain ⟨h1, h2, h3, h4, h5⟩ := putGo_gen a xs k (s.wr (a + i) (chunk xs i)) s1 (i + 1) v (hok.wr (by omega) (chunk_length _ _)) (by rw [St.n_wr]; omega) h
      refine ⟨h1, h2, fun x hx => ?_, fun hv j => ?_, h5⟩
      · rcases h3 x hx with hx | hx
        · rcases List.mem_append.1 hx with hx | hx
          · exact .inl hx
          · rw [List.mem_singleton.1 hx]; right; exact ⟨by simp, by simp⟩
        · right; omega
      · rw [h4 hv, wr_at (by omega)]
        by_cases e : j = a + i
        · subst e
          rw [if_neg (by omega), if_pos rfl, if_pos (by omega)]
          congr 1; omega
        · rw [if_neg e]
          by_cases h : a + (i + 1) ≤ j ∧ j < a + (i + 1) + k
          · rw [if_pos h, if_pos (by omega)]
          · rw [if_neg h, if_neg (by omega)]
    · rw [hb] at h
      simp only [if_true] at h
      cases h
      refine ⟨rfl, rfl, fun x hx => .inl hx, (fun h => by cases h), fun he => ?_⟩
      simp [St.broken, he] at hb
theorem put_all {a : Nat} (hok : s.ok) (hn : a + need b.length ≤ s.n) (h : s.put (a : Int) b = (s1, b1)) : s1.sure = s.sure ∧ s1.ends = s.ends ∧ (∀ x ∈ s1.l, x ∈ s.l ∨ (a ≤ x.1 ∧ x.1 < a + need b.length)) ∧
    (b1 = true → ∀ j, s1.at_ j = if a ≤ j ∧ j < a + need b.length then chunk b (j - a) else s.at_ j) ∧ (s.ends = false → b1 = true) := by
  unfold St.put at h
  split at h
  · rename_i h0
    cases h
    exact ⟨rfl, rfl, fun x hx => .inl hx, fun _ j => by rw [if_neg (by omega)], fun _ => rfl⟩
  · rw [if_pos (St.fits_iff.2 ⟨by omega, by omega⟩)] at h
    have := putGo_gen a b (need b.length) s s1 0 b1 hok (by omega) h
    simpa using this
theorem tryW_true {i : Nat} {x : Sec} (h : s.tryW i x = (s1, true)) : s1 = s.wr i x := by
  unfold St.tryW at h
  split at h
  · cases h
  · cases h; rfl
theorem tryW_false {i : Nat} {x : Sec} (h : s.tryW i x = (s1, false)) : s1 = s := by
  unfold St.tryW at h
  split at h
  · cases h; rfl
  · cases h
theorem tryS_true (h : s.tryS = (s1, true)) : s1 = s.sync := by
  unfold St.tryS at h
  split at h
  · cases h
  · cases h; rfl
theorem tryS_false (h : s.tryS = (s1, false)) : s1 = s := by
  unfold St.tryS at h
  split at h
  · cases h; rfl
  · cases h
theorem tryW_go {i : Nat} {x : Sec} (h : s.ends = false) : s.tryW i x = (s.wr i x, true) := by simp [St.tryW, St.broken, h]
theorem tryS_go (h : s.ends = false) : s.tryS = (s.sync, true) := by simp [St.tryS, St.broken, h]
theorem sync_at (i : Nat) : s.sync.at_ i = s.at_ i := rfl
theorem sync_sure : s.sync.sure = s.now := rfl
end
def St.lim (m : Nat) (s : St) : Prop := s.l.length ≤ m ∧ s.count ≤ m ∧ s.left ≤ 9223372036854775807
section
variable {s s1 : St} {b1 : Bool} {m : Nat}
theorem lim_mono {k : Nat} (h : s.lim m) (hk : m ≤ k) : s.lim k := ⟨Nat.le_trans h.1 hk, Nat.le_trans h.2.1 hk, h.2.2⟩
theorem put_lim {at_ : Int} {xs : List UInt8} (h : s.lim m) (hok : s.ok) (hp : s.put at_ xs = (s1, b1)) : s1.lim (m + need xs.length) ∧ s1.n = s.n ∧ s1.ok := by
  have := put_keep hok at_ xs
  rw [hp] at this
  obtain ⟨h1, h2, h3, h4, h5⟩ := this
  exact ⟨⟨Nat.le_trans h3 (by have := h.1; omega), Nat.le_trans h4 (by have := h.2.1; omega), Nat.le_trans h5 h.2.2⟩, h2, h1⟩
theorem tryW_lim {i : Nat} {x : Sec} (h : s.lim m) (hp : s.tryW i x = (s1, b1)) : s1.lim (m + 1) ∧ s1.n = s.n := by
  unfold St.tryW at hp
  split at hp
  · cases hp; exact ⟨lim_mono h (by omega), rfl⟩
  · cases hp
    refine ⟨⟨?_, ?_, ?_⟩, rfl⟩
    · simp [St.wr]; exact h.1
    · simp [St.wr]; exact h.2.1
    · simp only [St.wr]
      split
      · have := h.2.2; omega
      · exact h.2.2
theorem tryS_lim (h : s.lim m) (hp : s.tryS = (s1, b1)) : s1.lim m ∧ s1.n = s.n := by
  unfold St.tryS at hp
  split at hp
  · cases hp; exact ⟨h, rfl⟩
  · cases hp
    exact ⟨⟨Nat.zero_le _, h.2.1, h.2.2⟩, St.n_sync s⟩
end
theorem new_at {n i : Nat} (h : i < n) : (St.new n).at_ i = zeros 64 := by
  unfold St.at_
  rw [now_sure rfl]
  simp only [St.new]
  rw [List.getD_eq_getElem?_getD, List.getElem?_replicate, if_pos h]; rfl
theorem new_lim (n m : Nat) : (St.new n).lim m := ⟨Nat.zero_le _, Nat.zero_le _, by simp [St.new]⟩
end Go.Proofs.Yteilbaabnhogbaa
