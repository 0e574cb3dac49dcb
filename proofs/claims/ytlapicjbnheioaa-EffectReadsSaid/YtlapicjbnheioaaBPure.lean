/- Plain facts on bytes: a number's bytes, what bytes join to, what a reader of bytes comes to. Nothing of the program. -/
namespace Go.Proofs.Ytlapicjbnheioaa

/-- the k lowest bytes of v, the lowest first -/
def leN : Nat → Nat → List UInt8
  | 0, _ => []
  | k + 1, v => UInt8.ofNat (v % 256) :: leN k (v / 256)
/-- the number of bytes, the lowest first -/
def joinN : List UInt8 → Nat
  | [] => 0
  | b :: r => b.toNat + 256 * joinN r

theorem leN_length : ∀ (k v : Nat), (leN k v).length = k
  | 0, _ => rfl
  | k + 1, v => by simp [leN, leN_length k]
theorem toNat_ofMod (v : Nat) : (UInt8.ofNat (v % 256)).toNat = v % 256 := by simp
theorem joinN_leN : ∀ (k v : Nat), joinN (leN k v) = v % 256 ^ k
  | 0, v => by simp [leN, joinN, Nat.mod_one]
  | k + 1, v => by
    rw [leN, joinN, joinN_leN k, toNat_ofMod, Nat.pow_succ, Nat.mul_comm (256 ^ k) 256, Nat.mod_mul]
theorem joinN_lt : ∀ l : List UInt8, joinN l < 256 ^ l.length
  | [] => by simp [joinN]
  | b :: r => by
    have h := joinN_lt r
    have hb : b.toNat < 256 := b.toNat_lt
    simp only [joinN, List.length_cons, Nat.pow_succ]
    omega
theorem joinN_snoc : ∀ (l : List UInt8) (b : UInt8), joinN (l ++ [b]) = joinN l + 256 ^ l.length * b.toNat
  | [], b => by simp [joinN]
  | a :: r, b => by
    simp only [List.cons_append, joinN, joinN_snoc r b, List.length_cons, Nat.pow_succ]
    rw [Nat.mul_add, Nat.mul_comm (256 ^ r.length) 256, Nat.mul_assoc, Nat.add_assoc]
theorem leN_snoc : ∀ (k v : Nat), leN (k + 1) v = leN k v ++ [UInt8.ofNat (v / 256 ^ k % 256)]
  | 0, v => by simp [leN]
  | k + 1, v => by
    rw [leN, leN_snoc k, leN, List.cons_append, Nat.div_div_eq_div_mul, Nat.pow_succ, Nat.mul_comm (256 ^ k) 256]
theorem leN_take : ∀ (k n v : Nat), k ≤ n → (leN n v).take k = leN k v
  | 0, _, _, _ => by simp [leN]
  | k + 1, 0, _, h => by omega
  | k + 1, n + 1, v, h => by simp [leN, leN_take k n _ (by omega)]

/-- an int as the number of its 64 bits -/
def u64 (n : Int) : Nat := (n % 18446744073709551616).toNat
theorem u64_lt (n : Int) : u64 n < 18446744073709551616 := by unfold u64; omega
theorem u64_back (n : Int) (h1 : -9223372036854775808 ≤ n) (h2 : n ≤ 9223372036854775807) :
    (((u64 n : Nat) : Int) + 9223372036854775808) % 18446744073709551616 - 9223372036854775808 = n := by unfold u64; omega
def i64of (v : Nat) : Int := ((v : Int) + 9223372036854775808) % 18446744073709551616 - 9223372036854775808

/-- what is left, and whether it has failed -/
structure Rd where
  rest : List UInt8
  bad : Bool
def Rd.take (r : Rd) (n : Nat) : List UInt8 × Rd :=
  if r.bad = true then ([], r) else if r.rest.length < n then ([], ⟨r.rest, true⟩) else (r.rest.take n, ⟨r.rest.drop n, false⟩)
def Rd.int (r : Rd) : Int × Rd := (i64of (joinN (r.take 8).1), (r.take 8).2)
def Rd.text (r : Rd) : List UInt8 × Rd := (r.take 2).2.take (joinN (r.take 2).1)
def Rd.flag (r : Rd) : Bool × Rd :=
  (decide (joinN (r.take 1).1 = 1), if 1 < joinN (r.take 1).1 then ⟨(r.take 1).2.rest, true⟩ else (r.take 1).2)
def Rd.done (r : Rd) : Bool := !r.bad && decide (r.rest.length = 0)

def encInt (n : Int) : List UInt8 := leN 8 (u64 n)
def encText (s : List UInt8) : List UInt8 := leN 2 (s.take 65535).length ++ s.take 65535
def encFlag (b : Bool) : List UInt8 := [if b then 1 else 0]

theorem encInt_len (n : Int) : (encInt n).length = 8 := leN_length _ _
theorem encFlag_len (b : Bool) : (encFlag b).length = 1 := rfl
theorem encText_len (s : List UInt8) : (encText s).length = 2 + (s.take 65535).length := by simp [encText, leN_length]

theorem take_front (x y : List UInt8) (n : Nat) (h : x.length = n) : (⟨x ++ y, false⟩ : Rd).take n = (x, ⟨y, false⟩) := by
  subst h
  unfold Rd.take
  simp
theorem take_bad (l : List UInt8) (n : Nat) : (⟨l, true⟩ : Rd).take n = ([], ⟨l, true⟩) := rfl
theorem take_short (l : List UInt8) (n : Nat) (h : l.length < n) : (⟨l, false⟩ : Rd).take n = ([], ⟨l, true⟩) := by simp [Rd.take, h]

theorem int_front (n : Int) (y : List UInt8) (h1 : -9223372036854775808 ≤ n) (h2 : n ≤ 9223372036854775807) : (⟨encInt n ++ y, false⟩ : Rd).int = (n, ⟨y, false⟩) := by
  unfold Rd.int
  rw [take_front _ _ 8 (encInt_len n)]
  have e : joinN (encInt n) = u64 n := by
    rw [encInt, joinN_leN]
    exact Nat.mod_eq_of_lt (u64_lt n)
  simp only [e, i64of, u64_back n h1 h2]
theorem text_front (s y : List UInt8) : (⟨encText s ++ y, false⟩ : Rd).text = (s.take 65535, ⟨y, false⟩) := by
  unfold Rd.text encText
  rw [List.append_assoc, take_front _ _ 2 (leN_length _ _)]
  have hl : (s.take 65535).length ≤ 65535 := List.length_take_le _ _
  have e : joinN (leN 2 (s.take 65535).length) = (s.take 65535).length := by
    rw [joinN_leN]
    exact Nat.mod_eq_of_lt (by simp only [Nat.reducePow]; omega)
  simp only [e]
  exact take_front _ _ _ rfl
theorem flag_front (b : Bool) (y : List UInt8) : (⟨encFlag b ++ y, false⟩ : Rd).flag = (b, ⟨y, false⟩) := by
  unfold Rd.flag
  rw [take_front _ _ 1 (encFlag_len b)]
  cases b <;> rfl

theorem int_bad (l : List UInt8) : (⟨l, true⟩ : Rd).int = (0, ⟨l, true⟩) := by simp [Rd.int, take_bad, joinN, i64of]
theorem text_bad (l : List UInt8) : (⟨l, true⟩ : Rd).text = ([], ⟨l, true⟩) := rfl
theorem flag_bad (l : List UInt8) : (⟨l, true⟩ : Rd).flag = (false, ⟨l, true⟩) := rfl
theorem flag_end : (⟨[], false⟩ : Rd).flag = (false, ⟨[], true⟩) := rfl
theorem done_bad (l : List UInt8) : (⟨l, true⟩ : Rd).done = false := rfl
theorem done_end : (⟨[], false⟩ : Rd).done = true := rfl

/-- of no beginning of what was written all items are read -/
theorem short_bad (n : Int) (s : List UInt8) (ok : Bool) (k : Nat) (hs : s.length ≤ 300) (hk : k < (encInt n ++ (encText s ++ encFlag ok)).length) :
    ((⟨(encInt n ++ (encText s ++ encFlag ok)).take k, false⟩ : Rd).int.2.text.2.flag.2.done) = false := by
  have hl8 := encInt_len n
  have ht : s.take 65535 = s := List.take_of_length_le (by omega)
  have hlt := encText_len s
  rw [ht] at hlt
  have hlf := encFlag_len ok
  simp only [List.length_append] at hk
  by_cases h1 : k < 8
  · have e : (⟨(encInt n ++ (encText s ++ encFlag ok)).take k, false⟩ : Rd).int.2 = ⟨(encInt n ++ (encText s ++ encFlag ok)).take k, true⟩ := by
      unfold Rd.int; rw [take_short _ _ (by simp; omega)]
    rw [e, text_bad, flag_bad]; rfl
  · have e1 : (encInt n ++ (encText s ++ encFlag ok)).take k = encInt n ++ (encText s ++ encFlag ok).take (k - 8) := by
      rw [List.take_append, List.take_of_length_le (by omega), hl8]
    have e2 : (⟨encInt n ++ (encText s ++ encFlag ok).take (k - 8), false⟩ : Rd).int.2 = ⟨(encText s ++ encFlag ok).take (k - 8), false⟩ := by
      unfold Rd.int; rw [take_front _ _ 8 hl8]
    rw [e1, e2]
    by_cases h2 : k - 8 < (encText s).length
    · have e3 : (encText s ++ encFlag ok).take (k - 8) = (encText s).take (k - 8) := List.take_append_of_le_length (by omega)
      have key : ∃ l, (⟨(encText s).take (k - 8), false⟩ : Rd).text.2 = ⟨l, true⟩ := by
        by_cases h3 : k - 8 < 2
        · refine ⟨(encText s).take (k - 8), ?_⟩
          unfold Rd.text; rw [take_short _ _ (by simp; omega)]; rfl
        · have e4 : (encText s).take (k - 8) = leN 2 s.length ++ s.take (k - 10) := by
            unfold encText
            rw [ht, List.take_append, List.take_of_length_le (by rw [leN_length]; omega), leN_length, Nat.sub_sub]
          have e5 : joinN (leN 2 s.length) = s.length := by
            rw [joinN_leN]; exact Nat.mod_eq_of_lt (by simp only [Nat.reducePow]; omega)
          refine ⟨s.take (k - 10), ?_⟩
          unfold Rd.text
          rw [e4, take_front _ _ 2 (leN_length _ _)]
          simp only [e5]
          rw [take_short _ _ (by simp; omega)]
      obtain ⟨l, hl⟩ := key
      rw [e3, hl, flag_bad]; rfl
    · have e3 : (encText s ++ encFlag ok).take (k - 8) = encText s ++ [] := by
        rw [List.take_append, List.take_of_length_le (by omega)]
        congr 1
        rw [show k - 8 - (encText s).length = 0 by omega]; rfl
      rw [e3, text_front]; rfl
end Go.Proofs.Ytlapicjbnheioaa

