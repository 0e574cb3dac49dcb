/- . . . . -/
import Derived.Test.YtjfoflbaoceemaaGreatJ01
import Derived.Lib.LazyBuf
set_option maxRecDepth 4000
namespace Go.Proofs.YtjfoflbaoceemaaGreat
def need (n : Nat) : Nat := (n + 63) / 64
def chunk (xs : List UInt8) (i : Nat) : Sec := (xs.drop (i * 64)).take 64 ++ zeros (64 - (xs.drop (i * 64)).length)
theorem chunk_length (xs : List UInt8) (i : Nat) : (chunk xs i).length = 64 := by
  simp [chunk, zeros]; omega
def putGo (at_ : Nat) (xs : List UInt8) : Dk → Nat → Nat → Dk × Bool
  | s, _, 0 => (s, true)
  | s, i, k + 1 => if s.broken then (s, false) else putGo at_ xs (s.wr (at_ + i) (chunk xs i)) (i + 1) k
def Dk.fits (s : Dk) (at_ : Int) (k : Nat) : Bool := decide (0 ≤ at_) && decide (at_ + (k : Int) ≤ (s.n : Int))
def Dk.put (s : Dk) (at_ : Int) (xs : List UInt8) : Dk × Bool :=
  if need xs.length = 0 then (s, true) else if s.fits at_ (need xs.length) then putGo at_.toNat xs s 0 (need xs.length) else (s, false)
def cutG (n : Int) : Nat := (min (max n 0) 262144).toNat
def Dk.get (s : Dk) (at_ n : Int) : List UInt8 :=
  if s.fits at_ (need (cutG n)) then ((s.now.drop at_.toNat).take (need (cutG n))).flatten.take (cutG n) else []

theorem need_zero {n : Nat} : need n = 0 ↔ n = 0 := by unfold need; omega
theorem need_ge (n : Nat) : n ≤ need n * 64 := by unfold need; omega
theorem need_lt {n : Nat} (h : 0 < n) : (need n - 1) * 64 < n := by unfold need; omega
theorem Dk.fits_iff {s : Dk} {at_ : Int} {k : Nat} : s.fits at_ k = true ↔ 0 ≤ at_ ∧ at_ + (k : Int) ≤ (s.n : Int) := by simp [Dk.fits]
theorem Dk.fits_no {s : Dk} {at_ : Int} {k : Nat} : s.fits at_ k = false ↔ at_ < 0 ∨ (s.n : Int) < at_ + (k : Int) := by
  rw [Bool.eq_false_iff, Ne, Dk.fits_iff]; omega

/-! what is put is there, and nothing else has turned -/
theorem wr_getD {s : Dk} {i : Nat} {b : Sec} (hi : i < s.n) (j : Nat) : (s.wr i b).now.getD j [] = if j = i then b else s.now.getD j [] := by
  rw [Dk.wr_now, List.getD_eq_getElem?_getD, List.getElem?_set]
  split
  · rename_i e; subst e
    rw [if_pos (by rw [Dk.now_length]; exact hi), if_pos rfl]; rfl
  · rename_i e
    rw [if_neg (fun h => e h.symm), List.getD_eq_getElem?_getD]
theorem putGo_ok (at_ : Nat) (xs : List UInt8) : ∀ (k : Nat) (s : Dk) (i : Nat), s.ends = false → s.ok → at_ + i + k ≤ s.n → ∃ s', putGo at_ xs s i k = (s', true) ∧ s'.ends = false ∧ s'.ok ∧ s'.n = s.n ∧
    s'.l.length = s.l.length + k ∧ s'.count = s.count + k ∧ s'.left = s.left ∧ ∀ j, s'.now.getD j [] = if at_ + i ≤ j ∧ j < at_ + i + k then chunk xs (j - at_) else s.now.getD j []
  | 0, s, i, he, hok, _ => ⟨s, rfl, he, hok, rfl, rfl, rfl, rfl, fun j => by rw [if_neg (by omega)]⟩
  | k + 1, s, i, he, hok, hn => by
    have hb : s.broken = false := by simp [Dk.broken, he]
    obtain ⟨s', h1, h2, h3, h4, h5, h6, h7, h8⟩ := putGo_ok at_ xs k (s.wr (at_ + i) (chunk xs i)) (i + 1) he (hok.wr (by omega) (chunk_length _ _)) (by rw [Dk.n_wr]; omega)
    refine ⟨s', by rw [putGo, hb]; exact h1, h2, h3, h4, ?_, ?_, ?_, fun j => ?_⟩
    · rw [h5]; simp [Dk.wr]; omega
    · rw [h6]; simp [Dk.wr]; omega
    · rw [h7]; simp [Dk.wr, he]
    · rw [h8, wr_getD (by omega)]
      by_cases e : j = at_ + i
      · subst e
        rw [if_neg (by omega), if_pos rfl, if_pos (by omega)]
        congr 1; omega
      · rw [if_neg e]
        by_cases h : at_ + (i + 1) ≤ j ∧ j < at_ + (i + 1) + k
        · rw [if_pos h, if_pos (by omega)]
        · rw [if_neg h, if_neg (by omega)]
theorem putGo_keep (at_ : Nat) (xs : List UInt8) : ∀ (k : Nat) (s : Dk) (i : Nat), s.ok → at_ + i + k ≤ s.n → (putGo at_ xs s i k).1.ok ∧ (putGo at_ xs s i k).1.n = s.n ∧ (putGo at_ xs s i k).1.l.length ≤ s.l.length + k ∧ (putGo at_ xs s i k).1.count ≤ s.count + k ∧ (putGo at_ xs s i k).1.left ≤ s.left
  | 0, s, i, hok, _ => ⟨hok, rfl, by simp [putGo], by simp [putGo], by simp [putGo]⟩
  | k + 1, s, i, hok, hn => by
    rw [putGo]
    split
    · exact ⟨hok, rfl, by simp, by simp, by simp⟩
    · obtain ⟨h1, h2, h3, h4, h5⟩ := putGo_keep at_ xs k (s.wr (at_ + i) (chunk xs i)) (i + 1) (hok.wr (by omega) (chunk_length _ _)) (by rw [Dk.n_wr]; omega)
      refine ⟨h1, h2, ?_, ?_, ?_⟩
      · simp only [Dk.wr, List.length_append, List.length_singleton] at h3 ⊢; omega
      · simp only [Dk.wr] at h4 ⊢; omega
      · refine Nat.le_trans h5 ?_
        simp only [Dk.wr]; split <;> omega
theorem put_keep {s : Dk} (hok : s.ok) (at_ : Int) (xs : List UInt8) : (s.put at_ xs).1.ok ∧ (s.put at_ xs).1.n = s.n ∧ (s.put at_ xs).1.l.length ≤ s.l.length + need xs.length ∧ (s.put at_ xs).1.count ≤ s.count + need xs.length ∧ (s.put at_ xs).1.left ≤ s.left := by
  unfold Dk.put
  split
  · exact ⟨hok, rfl, by simp, by simp, by simp⟩
  · split
    · rename_i _ h
      have h := Dk.fits_iff.1 h
      exact putGo_keep _ _ _ _ _ hok (by omega)
    · exact ⟨hok, rfl, by simp, by simp, by simp⟩
theorem chunks_flat (xs : List UInt8) : ∀ k, k * 64 ≤ xs.length + 63 → ((List.range k).map (chunk xs)).flatten = xs.take (k * 64) ++ zeros (k * 64 - xs.length)
  | 0, _ => by simp [zeros]
  | k + 1, h => by
    rw [List.range_succ, List.map_append, List.flatten_append, chunks_flat xs k (by omega), show k * 64 - xs.length = 0 by omega]
    simp only [List.map_cons, List.map_nil, List.flatten_cons, List.flatten_nil, List.append_nil, chunk, zeros, List.replicate_zero, Nat.add_mul, Nat.one_mul, List.take_add, List.append_assoc, List.length_drop]
    congr 3
    omega
theorem chunks_take (xs : List UInt8) : ((List.range (need xs.length)).map (chunk xs)).flatten.take xs.length = xs := by
  rw [chunks_flat xs _ (by unfold need; omega), List.take_append_of_le_length (by rw [List.length_take]; have := need_ge xs.length; omega), List.take_take, Nat.min_eq_left (need_ge _), List.take_length]
theorem drop_take_map {s : List Sec} {at_ k : Nat} {f : Nat → Sec} (hn : at_ + k ≤ s.length) (h : ∀ j, j < k → s.getD (at_ + j) [] = f j) : (s.drop at_).take k = (List.range k).map f := by
  apply List.ext_getElem?
  intro j
  rw [List.getElem?_take]
  by_cases hj : j < k
  · rw [if_pos hj, List.getElem?_drop, List.getElem?_map, List.getElem?_range hj]
    have := h j hj
    rw [List.getD_eq_getElem?_getD, List.getElem?_eq_getElem (by omega)] at this
    rw [List.getElem?_eq_getElem (by omega)]
    simpa using this
  · rw [if_neg hj, List.getElem?_eq_none (by simp; omega)]
theorem cutG_nat {n : Nat} (h : n ≤ 262144) : cutG (n : Int) = n := by unfold cutG; omega
theorem get_put {s : Dk} {at_ : Nat} {xs : List UInt8} (hx : xs.length ≤ 262144) (hn : at_ + need xs.length ≤ s.n) (h : ∀ j, j < need xs.length → s.now.getD (at_ + j) [] = chunk xs j) : s.get (at_ : Int) (xs.length : Int) = xs := by
  unfold Dk.get
  rw [cutG_nat hx, if_pos (Dk.fits_iff.2 ⟨by omega, by omega⟩), Int.toNat_natCast, drop_take_map (by rw [Dk.now_length]; exact hn) h, chunks_take]
end Go.Proofs.YtjfoflbaoceemaaGreat
namespace Go.Proofs.YtjfoflbaoceemaaGreat

def leN : Nat → Nat → List UInt8
  | 0, _ => []
  | k + 1, v => UInt8.ofNat (v % 256) :: leN k (v / 256)
def joinN : List UInt8 → Nat
  | [] => 0
  | b :: r => b.toNat + 256 * joinN r

theorem leN_length : ∀ (k v : Nat), (leN k v).length = k
  | 0, _ => rfl
  | k + 1, v => by simp [leN, leN_length k]
theorem toNat_ofMod (v : Nat) : (UInt8.ofNat (v % 256)).toNat = v % 256 := by simp
theorem joinN_leN : ∀ (k v : Nat), joinN (leN k v) = v % 256 ^ k
  | 0, v => by simp [leN, joinN, Nat.mod_one]
  | k + 1, v => by
    rw [leN, joinN, joinN_leN k, toNat_ofMod, Nat.pow_succ, Nat.mul_comm (256 ^ k) 256, Nat.mod_mul]
theorem joinN_lt : ∀ l : List UInt8, joinN l < 256 ^ l.length
  | [] => by simp [joinN]
  | b :: r => by
    have h := joinN_lt r
    have hb : b.toNat < 256 := b.toNat_lt
    simp only [joinN, List.length_cons, Nat.pow_succ]
    omega
theorem joinN_snoc : ∀ (l : List UInt8) (b : UInt8), joinN (l ++ [b]) = joinN l + 256 ^ l.length * b.toNat
  | [], b => by simp [joinN]
  | a :: r, b => by
    simp only [List.cons_append, joinN, joinN_snoc r b, List.length_cons, Nat.pow_succ]
    rw [Nat.mul_add, Nat.mul_comm (256 ^ r.length) 256, Nat.mul_assoc, Nat.add_assoc]
theorem leN_snoc : ∀ (k v : Nat), leN (k + 1) v = leN k v ++ [UInt8.ofNat (v / 256 ^ k % 256)]
  | 0, v => by simp [leN]
  | k + 1, v => by
    rw [leN, leN_snoc k, leN, List.cons_append, Nat.div_div_eq_div_mul, Nat.pow_succ, Nat.mul_comm (256 ^ k) 256]
def u64 (n : Int) : Nat := (n % 18446744073709551616).toNat
theorem u64_lt (n : Int) : u64 n < 18446744073709551616 := by unfold u64; omega
theorem u64_back (n : Int) (h1 : -9223372036854775808 ≤ n) (h2 : n ≤ 9223372036854775807) :
    (((u64 n : Nat) : Int) + 9223372036854775808) % 18446744073709551616 - 9223372036854775808 = n := by unfold u64; omega
def i64of (v : Nat) : Int := ((v : Int) + 9223372036854775808) % 18446744073709551616 - 9223372036854775808

structure Rd where
  rest : List UInt8
  bad : Bool
def Rd.take (r : Rd) (n : Nat) : List UInt8 × Rd :=
  if r.bad = true then ([], r) else if r.rest.length < n then ([], ⟨r.rest, true⟩) else (r.rest.take n, ⟨r.rest.drop n, false⟩)
def Rd.int (r : Rd) : Int × Rd := (i64of (joinN (r.take 8).1), (r.take 8).2)
def Rd.text (r : Rd) : List UInt8 × Rd := (r.take 2).2.take (joinN (r.take 2).1)
def Rd.flag (r : Rd) : Bool × Rd :=
  (decide (joinN (r.take 1).1 = 1), if 1 < joinN (r.take 1).1 then ⟨(r.take 1).2.rest, true⟩ else (r.take 1).2)
def Rd.done (r : Rd) : Bool := !r.bad && decide (r.rest.length = 0)

def encInt (n : Int) : List UInt8 := leN 8 (u64 n)
def encText (s : List UInt8) : List UInt8 := leN 2 (s.take 65535).length ++ s.take 65535
def encFlag (b : Bool) : List UInt8 := [if b then 1 else 0]

theorem encInt_len (n : Int) : (encInt n).length = 8 := leN_length _ _
theorem encFlag_len (b : Bool) : (encFlag b).length = 1 := rfl
theorem encText_len (s : List UInt8) : (encText s).length = 2 + (s.take 65535).length := by simp [encText, leN_length]

theorem take_front (x y : List UInt8) (n : Nat) (h : x.length = n) : (⟨x ++ y, false⟩ : Rd).take n = (x, ⟨y, false⟩) := by
  subst h
  unfold Rd.take
  simp
theorem take_short (l : List UInt8) (n : Nat) (h : l.length < n) : (⟨l, false⟩ : Rd).take n = ([], ⟨l, true⟩) := by simp [Rd.take, h]

theorem int_front (n : Int) (y : List UInt8) (h1 : -9223372036854775808 ≤ n) (h2 : n ≤ 9223372036854775807) : (⟨encInt n ++ y, false⟩ : Rd).int = (n, ⟨y, false⟩) := by
  unfold Rd.int
  rw [take_front _ _ 8 (encInt_len n)]
  have e : joinN (encInt n) = u64 n := by
    rw [encInt, joinN_leN]
    exact Nat.mod_eq_of_lt (u64_lt n)
  simp only [e, i64of, u64_back n h1 h2]
theorem text_front (s y : List UInt8) : (⟨encText s ++ y, false⟩ : Rd).text = (s.take 65535, ⟨y, false⟩) := by
  unfold Rd.text encText
  rw [List.append_assoc, take_front _ _ 2 (leN_length _ _)]
  have hl : (s.take 65535).length ≤ 65535 := List.length_take_le _ _
  have e : joinN (leN 2 (s.take 65535).length) = (s.take 65535).length := by
    rw [joinN_leN]
    exact Nat.mod_eq_of_lt (by simp only [Nat.reducePow]; omega)
  simp only [e]
  exact take_front _ _ _ rfl
theorem flag_front (b : Bool) (y : List UInt8) : (⟨encFlag b ++ y, false⟩ : Rd).flag = (b, ⟨y, false⟩) := by
  unfold Rd.flag
  rw [take_front _ _ 1 (encFlag_len b)]
  cases b <;> rfl

theorem done_end : (⟨[], false⟩ : Rd).done = true := rfl

end Go.Proofs.YtjfoflbaoceemaaGreat

namespace Go.Proofs.YtjfoflbaoceemaaGreat
abbrev i64r (n : Int) : Prop := -9223372036854775808 ≤ n ∧ n ≤ 9223372036854775807
theorem i64of_range (v : Nat) : i64r (i64of v) := by unfold i64of i64r; omega
theorem int_front2 (n : Int) (y : List UInt8) : (⟨encInt n ++ y, false⟩ : Rd).int.2 = ⟨y, false⟩ := by
  unfold Rd.int; rw [take_front _ _ 8 (encInt_len n)]
def Dk.at_ (s : Dk) (i : Nat) : Sec := s.now.getD i []
def Dk.tryW (s : Dk) (i : Nat) (b : Sec) : Dk × Bool := if s.broken then (s, false) else (s.wr i b, true)
def Dk.tryS (s : Dk) : Dk × Bool := if s.broken then (s, false) else (s.sync, true)
def thenDo (r : Dk × Bool) (f : Dk → Dk × Bool) : Dk × Bool := if r.2 then f r.1 else r
section
variable {s s1 : Dk} {b1 : Bool} {m : Nat} {b : List UInt8}
theorem now_sure (h : s.l = []) : s.now = s.sure := by unfold Dk.now; rw [h]; rfl
theorem settle_far (k : Nat → Bool) {i : Nat} : ∀ (l : List Wr) (j : Nat) (S : List Sec), (∀ x ∈ l, x.1 ≠ i) → (settle k j S l).getD i [] = S.getD i []
  | [], _, _, _ => rfl
  | x :: l, j, S, h => by
    rw [settle, settle_far k l (j + 1) _ fun y hy => h y (by simp [hy])]
    split
    · have := h x (by simp)
      rw [List.getD_eq_getElem?_getD, List.getElem?_set_ne this, ← List.getD_eq_getElem?_getD]
    · rfl
theorem crash_at {i : Nat} (k : Nat → Bool) (h : ∀ x ∈ s.l, x.1 ≠ i) : (s.crash k).at_ i = s.sure.getD i [] := by
  unfold Dk.at_
  rw [Dk.crash_now]
  exact settle_far k _ _ _ h
theorem wr_at {i : Nat} {x : Sec} (hi : i < s.n) (j : Nat) : (s.wr i x).at_ j = if j = i then x else s.at_ j := wr_getD hi j
theorem putGo_gen (a : Nat) (xs : List UInt8) : ∀ (k : Nat) (s s1 : Dk) (i : Nat) (v : Bool), s.ok → a + i + k ≤ s.n → putGo a xs s i k = (s1, v) → s1.sure = s.sure ∧ s1.ends = s.ends ∧ (∀ x ∈ s1.l, x ∈ s.l ∨ (a + i ≤ x.1 ∧ x.1 < a + i + k)) ∧
    (v = true → ∀ j, s1.at_ j = if a + i ≤ j ∧ j < a + i + k then chunk xs (j - a) else s.at_ j) ∧ (s.ends = false → v = true)
  | 0, s, s1, i, v, hok, _, h => by
    cases h
    exact ⟨rfl, rfl, fun x hx => .inl hx, fun _ j => by rw [if_neg (by omega)], fun _ => rfl⟩
  | k + 1, s, s1, i, v, hok, hn, h => by
    rw [putGo] at h
    cases hb : s.broken
    · rw [hb] at h
      obtain ⟨h1, h2, h3, h4, h5⟩ := putGo_gen a xs k (s.wr (a + i) (chunk xs i)) s1 (i + 1) v (hok.wr (by omega) (chunk_length _ _)) (by rw [Dk.n_wr]; omega) h
      refine ⟨h1, h2, fun x hx => ?_, fun hv j => ?_, h5⟩
      · rcases h3 x hx with hx | hx
        · rcases List.mem_append.1 hx with hx | hx
          · exact .inl hx
          · rw [List.mem_singleton.1 hx]; right; exact ⟨by simp, by simp⟩
        · right; omega
      · rw [h4 hv, wr_at (by omega)]
        by_cases e : j = a + i
        · subst e
          rw [if_neg (by omega), if_pos rfl, if_pos (by omega)]
          congr 1; omega
        · rw [if_neg e]
          by_cases h : a + (i + 1) ≤ j ∧ j < a + (i + 1) + k
          · rw [if_pos h, if_pos (by omega)]
          · rw [if_neg h, if_neg (by omega)]
    · rw [hb] at h
      simp only [if_true] at h
      cases h
      refine ⟨rfl, rfl, fun x hx => .inl hx, (fun h => by cases h), fun he => ?_⟩
      simp [Dk.broken, he] at hb
theorem put_all {a : Nat} (hok : s.ok) (hn : a + need b.length ≤ s.n) (h : s.put (a : Int) b = (s1, b1)) : s1.sure = s.sure ∧ s1.ends = s.ends ∧ (∀ x ∈ s1.l, x ∈ s.l ∨ (a ≤ x.1 ∧ x.1 < a + need b.length)) ∧
    (b1 = true → ∀ j, s1.at_ j = if a ≤ j ∧ j < a + need b.length then chunk b (j - a) else s.at_ j) ∧ (s.ends = false → b1 = true) := by
  unfold Dk.put at h
  split at h
  · rename_i h0
    cases h
    exact ⟨rfl, rfl, fun x hx => .inl hx, fun _ j => by rw [if_neg (by omega)], fun _ => rfl⟩
  · rw [if_pos (Dk.fits_iff.2 ⟨by omega, by omega⟩)] at h
    have := putGo_gen a b (need b.length) s s1 0 b1 hok (by omega) h
    simpa using this
theorem tryW_true {i : Nat} {x : Sec} (h : s.tryW i x = (s1, true)) : s1 = s.wr i x := by
  unfold Dk.tryW at h
  split at h
  · cases h
  · cases h; rfl
theorem tryW_false {i : Nat} {x : Sec} (h : s.tryW i x = (s1, false)) : s1 = s := by
  unfold Dk.tryW at h
  split at h
  · cases h; rfl
  · cases h
theorem tryS_true (h : s.tryS = (s1, true)) : s1 = s.sync := by
  unfold Dk.tryS at h
  split at h
  · cases h
  · cases h; rfl
theorem tryS_false (h : s.tryS = (s1, false)) : s1 = s := by
  unfold Dk.tryS at h
  split at h
  · cases h; rfl
  · cases h
theorem tryW_go {i : Nat} {x : Sec} (h : s.ends = false) : s.tryW i x = (s.wr i x, true) := by simp [Dk.tryW, Dk.broken, h]
theorem tryS_go (h : s.ends = false) : s.tryS = (s.sync, true) := by simp [Dk.tryS, Dk.broken, h]
theorem sync_sure : s.sync.sure = s.now := rfl
end
def Dk.lim (m : Nat) (s : Dk) : Prop := s.l.length ≤ m ∧ s.count ≤ m ∧ s.left ≤ 9223372036854775807
section
variable {s s1 : Dk} {b1 : Bool} {m : Nat}
theorem lim_mono {k : Nat} (h : s.lim m) (hk : m ≤ k) : s.lim k := ⟨Nat.le_trans h.1 hk, Nat.le_trans h.2.1 hk, h.2.2⟩
theorem put_lim {at_ : Int} {xs : List UInt8} (h : s.lim m) (hok : s.ok) (hp : s.put at_ xs = (s1, b1)) : s1.lim (m + need xs.length) ∧ s1.n = s.n ∧ s1.ok := by
  have := put_keep hok at_ xs
  rw [hp] at this
  obtain ⟨h1, h2, h3, h4, h5⟩ := this
  exact ⟨⟨Nat.le_trans h3 (by have := h.1; omega), Nat.le_trans h4 (by have := h.2.1; omega), Nat.le_trans h5 h.2.2⟩, h2, h1⟩
theorem tryW_lim {i : Nat} {x : Sec} (h : s.lim m) (hp : s.tryW i x = (s1, b1)) : s1.lim (m + 1) ∧ s1.n = s.n := by
  unfold Dk.tryW at hp
  split at hp
  · cases hp; exact ⟨lim_mono h (by omega), rfl⟩
  · cases hp
    refine ⟨⟨?_, ?_, ?_⟩, rfl⟩
    · simp [Dk.wr]; exact h.1
    · simp [Dk.wr]; exact h.2.1
    · simp only [Dk.wr]
      split
      · have := h.2.2; omega
      · exact h.2.2
theorem tryS_lim (h : s.lim m) (hp : s.tryS = (s1, b1)) : s1.lim m ∧ s1.n = s.n := by
  unfold Dk.tryS at hp
  split at hp
  · cases hp; exact ⟨h, rfl⟩
  · cases hp
    exact ⟨⟨Nat.zero_le _, h.2.1, h.2.2⟩, Dk.n_sync s⟩
end
theorem new_at {n i : Nat} (h : i < n) : (Dk.new n).at_ i = zeros 64 := by
  unfold Dk.at_
  rw [now_sure rfl]
  simp only [Dk.new]
  rw [List.getD_eq_getElem?_getD, List.getElem?_replicate, if_pos h]; rfl
theorem new_lim (n m : Nat) : (Dk.new n).lim m := ⟨Nat.zero_le _, Nat.zero_le _, by simp [Dk.new]⟩
end Go.Proofs.YtjfoflbaoceemaaGreat
namespace Go.Proofs.YtjfoflbaoceemaaGreat
open Go.RowKit
theorem size5 : (Tryz.prog.info? 5).map (·.size) = some 1 := by kernel_rfl
theorem copy_range {W : World} {b o : Nat} {A : Option Addr} {n dc c : Nat} {xs : List UInt8} (hn : xs.length = n) (hr : ∀ a, A = some a → ∀ j v, (cellsB xs)[j]? = some v → W.cell? (a.add j) = some v) (hA : A = none → n = 0) (ht : W.there b o n) :
    (Builtin.copy_ #[42, 42] 3 #[.slice (some ⟨b, o, none⟩) n dc, .slice A n c]).run Tryz.prog W = .ok (.int .i64 (n : Int)) (W.setCells b o (cellsB xs)) := by
  cases A with
  | none =>
    have h0 := hA rfl
    subst h0
    obtain rfl : xs = [] := List.eq_nil_of_length_eq_zero hn
    exact run_copy_none W 42 42 3 5 (some ⟨b, o, none⟩) none 0 dc 0 c Tryz.underlying42 size5 rfl
  | some a =>
    have := run_copy_cells (P := Tryz.prog) W 42 42 3 5 b o n dc a n c (cellsB xs) Tryz.underlying42 size5 (by rw [cellsB_length, hn]; exact (Nat.min_self _).symm) (hr a rfl)
      (fun j hj => (ht j (by rw [cellsB_length] at hj; omega)).1) (fun j hj => (ht j (by rw [cellsB_length] at hj; omega)).2) (cellsB_one xs)
    rw [this, cellsB_length, hn]; rfl
theorem blk_there {W : World} {g : Nat} {t : TypeId} {l : List Value} (h : Blk W g t l.toArray) : W.there g 0 l.length := fun j hj =>
  ⟨by rw [h.cell, Nat.zero_add, List.getElem?_toArray, List.getElem?_eq_getElem hj]; rfl, h.frozen _⟩
theorem sec_get {s : List Sec} {i : Nat} (h : i < s.length) : (thereL s)[i]? = some (cellsB (s.getD i [])) := by
  simp [thereL, h]
theorem DiskM.range {w : World} {g : Nat} {O : Nat → Prop} {gt : Nat} {v : Value} {t : List Sec} {u : List Wr} {s : Dk} (h : DiskM w g O gt v t u s) (hs : secs t) {i : Nat} (hi : i < t.length) : w.rangeAt gt (i * 64) (cellsB (t.getD i [])) := by
  have := h.there
  rw [← List.append_nil (thereL t).flatten] at this
  exact part_range this (thereL_each hs) (sec_get hi)
theorem read_copy {w : World} {gt o : Nat} {xs zs : List UInt8} (hx : xs.length = 64) (hz : zs.length = 64) (hr : w.rangeAt gt o (cellsB xs)) :
    ∃ W2, (Builtin.copy_ #[42, 42] 3 #[.slice (some ⟨w.heap.size, 0, none⟩) 64 64, .slice (some ⟨gt, o, none⟩) 64 64]).run Tryz.prog (w.alloc (.cells (cellsB zs).toArray 5)) = .ok (.int .i64 64) W2 ∧
      Blk W2 w.heap.size 5 (cellsB xs).toArray ∧ Below w.heap.size w W2 ∧ W2.heap.size = w.heap.size + 1 := by
  have hb := Blk.new w 5 (cellsB zs).toArray
  have ht := blk_there hb
  rw [cellsB_length, hz] at ht
  refine ⟨_, copy_range hx (fun a ha j v hv => ?_) (fun h => by cases h) ht, ?_, ?_, ?_⟩
  · cases ha
    rw [Addr.add_mid]
    exact (World.rangeAt_alloc hr _) j v hv
  · have := blk_setCells (g := w.heap.size) (t := 5) (cellsB xs) [] (cellsB zs) [] _ (by rw [cellsB_length, cellsB_length, hx, hz]) (by simpa using hb)
    simpa using this
  · exact below_setCells (Nat.le_refl _) _ _ _ ((Below.refl _ _).alloc (Nat.le_refl _) _)
  · rw [(setCells_plain _ _ _ _).2.2.2]; simp
section
variable {w : World} {g : Nat} {O : Nat → Prop} {s : Dk}
theorem read_no (h : DiskAt w g O s) (i : Int) (hi : i < 0 ∨ (s.n : Int) ≤ i) : Calls Tryz.prog 29 #[ptr g, .int .i64 i] w fun e w' => e = .returned (.slice none 0 0) ∧ w = w' := by
  have H := Lib.hid h
  have HI := Lib.hid hi
  clear h hi
  go_enter Tryz.func29, Tryz.ntmps29
  go_wp2_with (go_at_call 62; refine (has_no H.out _ HI.out).mono ?_; rintro e w' ⟨rfl, rfl⟩)
  go_ret
  exact ⟨rfl, rfl⟩
theorem read_ (h : DiskAt w g O s) (i : Nat) (hi : i < s.n) : Calls Tryz.prog 29 #[ptr g, .int .i64 (i : Int)] w fun e w' =>
    e = .returned (.slice (some ⟨w.heap.size, 0, none⟩) 64 64) ∧ Blk w' w.heap.size 5 (cellsB (s.now.getD i [])).toArray ∧ Below w.heap.size w w' ∧ w'.heap.size = w.heap.size + 1 := by
  have H := Lib.hid h
  obtain ⟨gt, v, h⟩ := h
  have hlt := h.head.lt
  have c0 := h.head.cell 0
  simp at c0
  have hmk := make64
  have HM := Lib.hid h
  have hn : s.n ≤ 4096 := h.ok.many
  have hnl : i < s.now.length := by rw [Dk.now_length]; exact hi
  obtain ⟨W2, hcp, hb, hbel, hsz⟩ := read_copy (secs_getD h.ok.now hnl) (zeros_length 64) (h.range h.ok.now hnl)
  have HB := Lib.hid hb
  have HL := Lib.hid hbel
  have HZ := Lib.hid hsz
  clear h hb hbel hsz hnl
  go_enter Tryz.func29, Tryz.ntmps29
  go_wp2_with (go_at_call 62; refine (has_yes H.out _ hi).mono ?_; rintro e w' ⟨rfl, rfl⟩)
  go_ret
  exact ⟨rfl, HB.out, HL.out, HZ.out⟩
end
end Go.Proofs.YtjfoflbaoceemaaGreat
