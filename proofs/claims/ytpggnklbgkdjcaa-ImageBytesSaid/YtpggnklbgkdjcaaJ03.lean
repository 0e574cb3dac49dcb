/- Plain facts on bytes: a number's bytes, what bytes join to, what a reader of bytes comes to. Nothing of the program. Plain words on messages: which may be, what one is when it was tried once more, its bytes, what is read of bytes. Nothing of the program. A change: plain, and as a value. Plain words on changes: which may be, their bytes, what is read of bytes. Nothing of the program. May it be a table's row: package rows' Right. -/
import Derived.Test.YtpggnklbgkdjcaaJ02
import Derived.Test.YtpggnklbgkdjcaaProg
import Derived.Test.YtpggnklbgkdjcaaJ01
import Derived.WalkKit
import Derived.ProofKit
import Derived.Lib.Hide
import Derived.RegionTactic
import Derived.Lib.Strings
set_option maxRecDepth 4000
namespace Go.Proofs.Ytpggnklbgkdjcaa

/-- the k lowest bytes of v, the lowest first -/
def leN : Nat → Nat → List UInt8
  | 0, _ => []
  | k + 1, v => UInt8.ofNat (v % 256) :: leN k (v / 256)
/-- the number of bytes, the lowest first -/
def joinN : List UInt8 → Nat
  | [] => 0
  | b :: r => b.toNat + 256 * joinN r

theorem leN_length : ∀ (k v : Nat), (leN k v).length = k
  | 0, _ => rfl
  | k + 1, v => by simp [leN, leN_length k]
theorem toNat_ofMod (v : Nat) : (UInt8.ofNat (v % 256)).toNat = v % 256 := by simp
theorem joinN_leN : ∀ (k v : Nat), joinN (leN k v) = v % 256 ^ k
  | 0, v => by simp [leN, joinN, Nat.mod_one]
  | k + 1, v => by
    rw [leN, joinN, joinN_leN k, toNat_ofMod, Nat.pow_succ, Nat.mul_comm (256 ^ k) 256, Nat.mod_mul]
theorem joinN_lt : ∀ l : List UInt8, joinN l < 256 ^ l.length
  | [] => by simp [joinN]
  | b :: r => by
    have h := joinN_lt r
    have hb : b.toNat < 256 := b.toNat_lt
    simp only [joinN, List.length_cons, Nat.pow_succ]
    omega
theorem joinN_snoc : ∀ (l : List UInt8) (b : UInt8), joinN (l ++ [b]) = joinN l + 256 ^ l.length * b.toNat
  | [], b => by simp [joinN]
  | a :: r, b => by
    simp only [List.cons_append, joinN, joinN_snoc r b, List.length_cons, Nat.pow_succ]
    rw [Nat.mul_add, Nat.mul_comm (256 ^ r.length) 256, Nat.mul_assoc, Nat.add_assoc]
theorem leN_snoc : ∀ (k v : Nat), leN (k + 1) v = leN k v ++ [UInt8.ofNat (v / 256 ^ k % 256)]
  | 0, v => by simp [leN]
  | k + 1, v => by
    rw [leN, leN_snoc k, leN, List.cons_append, Nat.div_div_eq_div_mul, Nat.pow_succ, Nat.mul_comm (256 ^ k) 256]
theorem leN_take : ∀ (k n v : Nat), k ≤ n → (leN n v).take k = leN k v
  | 0, _, _, _ => by simp [leN]
  | k + 1, 0, _, h => by omega
  | k + 1, n + 1, v, h => by simp [leN, leN_take k n _ (by omega)]

/-- an int as the number of its 64 bits -/
def u64 (n : Int) : Nat := (n % 18446744073709551616).toNat
theorem u64_lt (n : Int) : u64 n < 18446744073709551616 := by unfold u64; omega
theorem u64_back (n : Int) (h1 : -9223372036854775808 ≤ n) (h2 : n ≤ 9223372036854775807) :
    (((u64 n : Nat) : Int) + 9223372036854775808) % 18446744073709551616 - 9223372036854775808 = n := by unfold u64; omega
def i64of (v : Nat) : Int := ((v : Int) + 9223372036854775808) % 18446744073709551616 - 9223372036854775808

/-- what is left, and whether it has failed -/
structure Rd where
  rest : List UInt8
  bad : Bool
def Rd.take (r : Rd) (n : Nat) : List UInt8 × Rd :=
  if r.bad = true then ([], r) else if r.rest.length < n then ([], ⟨r.rest, true⟩) else (r.rest.take n, ⟨r.rest.drop n, false⟩)
def Rd.int (r : Rd) : Int × Rd := (i64of (joinN (r.take 8).1), (r.take 8).2)
def Rd.text (r : Rd) : List UInt8 × Rd := (r.take 2).2.take (joinN (r.take 2).1)
def Rd.flag (r : Rd) : Bool × Rd :=
  (decide (joinN (r.take 1).1 = 1), if 1 < joinN (r.take 1).1 then ⟨(r.take 1).2.rest, true⟩ else (r.take 1).2)
def Rd.done (r : Rd) : Bool := !r.bad && decide (r.rest.length = 0)

def encInt (n : Int) : List UInt8 := leN 8 (u64 n)
def encText (s : List UInt8) : List UInt8 := leN 2 (s.take 65535).length ++ s.take 65535
def encFlag (b : Bool) : List UInt8 := [if b then 1 else 0]

theorem encInt_len (n : Int) : (encInt n).length = 8 := leN_length _ _
theorem encFlag_len (b : Bool) : (encFlag b).length = 1 := rfl
theorem encText_len (s : List UInt8) : (encText s).length = 2 + (s.take 65535).length := by simp [encText, leN_length]

theorem take_front (x y : List UInt8) (n : Nat) (h : x.length = n) : (⟨x ++ y, false⟩ : Rd).take n = (x, ⟨y, false⟩) := by
  subst h
  unfold Rd.take
  simp
theorem take_bad (l : List UInt8) (n : Nat) : (⟨l, true⟩ : Rd).take n = ([], ⟨l, true⟩) := rfl
theorem take_short (l : List UInt8) (n : Nat) (h : l.length < n) : (⟨l, false⟩ : Rd).take n = ([], ⟨l, true⟩) := by simp [Rd.take, h]

theorem int_front (n : Int) (y : List UInt8) (h1 : -9223372036854775808 ≤ n) (h2 : n ≤ 9223372036854775807) : (⟨encInt n ++ y, false⟩ : Rd).int = (n, ⟨y, false⟩) := by
  unfold Rd.int
  rw [take_front _ _ 8 (encInt_len n)]
  have e : joinN (encInt n) = u64 n := by
    rw [encInt, joinN_leN]
    exact Nat.mod_eq_of_lt (u64_lt n)
  simp only [e, i64of, u64_back n h1 h2]
theorem text_front (s y : List UInt8) : (⟨encText s ++ y, false⟩ : Rd).text = (s.take 65535, ⟨y, false⟩) := by
  unfold Rd.text encText
  rw [List.append_assoc, take_front _ _ 2 (leN_length _ _)]
  have hl : (s.take 65535).length ≤ 65535 := List.length_take_le _ _
  have e : joinN (leN 2 (s.take 65535).length) = (s.take 65535).length := by
    rw [joinN_leN]
    exact Nat.mod_eq_of_lt (by simp only [Nat.reducePow]; omega)
  simp only [e]
  exact take_front _ _ _ rfl
theorem flag_front (b : Bool) (y : List UInt8) : (⟨encFlag b ++ y, false⟩ : Rd).flag = (b, ⟨y, false⟩) := by
  unfold Rd.flag
  rw [take_front _ _ 1 (encFlag_len b)]
  cases b <;> rfl

theorem int_bad (l : List UInt8) : (⟨l, true⟩ : Rd).int = (0, ⟨l, true⟩) := by simp [Rd.int, take_bad, joinN, i64of]
theorem text_bad (l : List UInt8) : (⟨l, true⟩ : Rd).text = ([], ⟨l, true⟩) := rfl
theorem flag_bad (l : List UInt8) : (⟨l, true⟩ : Rd).flag = (false, ⟨l, true⟩) := rfl
theorem flag_end : (⟨[], false⟩ : Rd).flag = (false, ⟨[], true⟩) := rfl
theorem done_bad (l : List UInt8) : (⟨l, true⟩ : Rd).done = false := rfl
theorem done_end : (⟨[], false⟩ : Rd).done = true := rfl

/-- of no beginning of what was written all items are read -/
theorem short_bad (n : Int) (s : List UInt8) (ok : Bool) (k : Nat) (hs : s.length ≤ 300) (hk : k < (encInt n ++ (encText s ++ encFlag ok)).length) :
    ((⟨(encInt n ++ (encText s ++ encFlag ok)).take k, false⟩ : Rd).int.2.text.2.flag.2.done) = false := by
  have hl8 := encInt_len n
  have ht : s.take 65535 = s := List.take_of_length_le (by omega)
  have hlt := encText_len s
  rw [ht] at hlt
  have hlf := encFlag_len ok
  simp only [List.length_append] at hk
  by_cases h1 : k < 8
  · have e : (⟨(encInt n ++ (encText s ++ encFlag ok)).take k, false⟩ : Rd).int.2 = ⟨(encInt n ++ (encText s ++ encFlag ok)).take k, true⟩ := by
      unfold Rd.int; rw [take_short _ _ (by simp; omega)]
    rw [e, text_bad, flag_bad]; rfl
  · have e1 : (encInt n ++ (encText s ++ encFlag ok)).take k = encInt n ++ (encText s ++ encFlag ok).take (k - 8) := by
      rw [List.take_append, List.take_of_length_le (by omega), hl8]
    have e2 : (⟨encInt n ++ (encText s ++ encFlag ok).take (k - 8), false⟩ : Rd).int.2 = ⟨(encText s ++ encFlag ok).take (k - 8), false⟩ := by
      unfold Rd.int; rw [take_front _ _ 8 hl8]
    rw [e1, e2]
    by_cases h2 : k - 8 < (encText s).length
    · have e3 : (encText s ++ encFlag ok).take (k - 8) = (encText s).take (k - 8) := List.take_append_of_le_length (by omega)
      have key : ∃ l, (⟨(encText s).take (k - 8), false⟩ : Rd).text.2 = ⟨l, true⟩ := by
        by_cases h3 : k - 8 < 2
        · refine ⟨(encText s).take (k - 8), ?_⟩
          unfold Rd.text; rw [take_short _ _ (by simp; omega)]; rfl
        · have e4 : (encText s).take (k - 8) = leN 2 s.length ++ s.take (k - 10) := by
            unfold encText
            rw [ht, List.take_append, List.take_of_length_le (by rw [leN_length]; omega), leN_length, Nat.sub_sub]
          have e5 : joinN (leN 2 s.length) = s.length := by
            rw [joinN_leN]; exact Nat.mod_eq_of_lt (by simp only [Nat.reducePow]; omega)
          refine ⟨s.take (k - 10), ?_⟩
          unfold Rd.text
          rw [e4, take_front _ _ 2 (leN_length _ _)]
          simp only [e5]
          rw [take_short _ _ (by simp; omega)]
      obtain ⟨l, hl⟩ := key
      rw [e3, hl, flag_bad]; rfl
    · have e3 : (encText s ++ encFlag ok).take (k - 8) = encText s ++ [] := by
        rw [List.take_append, List.take_of_length_le (by omega)]
        congr 1
        rw [show k - 8 - (encText s).length = 0 by omega]; rfl
      rw [e3, text_front]; rfl
end Go.Proofs.Ytpggnklbgkdjcaa

namespace Go.Proofs.Ytpggnklbgkdjcaa
def idB (i : Int) : Bool := decide (1 ≤ i) && decide (i ≤ 1099511627776)
def priB (p : Int) : Bool := decide (-1000 ≤ p) && decide (p ≤ 1000)
def retryB (r : Int) : Bool := decide (0 ≤ r) && decide (r ≤ 1000)
def corrB (c : ByteArray) : Bool := decide ((c.size : Int) ≤ 40)
def bodyB (b : ByteArray) : Bool := decide ((b.size : Int) ≤ 100)
def Mg.right (m : Mg) : Bool := idB m.id && priB m.pri && retryB m.retry && corrB m.corr && bodyB m.body
/-- its bytes behind others -/
def Mg.onto (m : Mg) (bs : List UInt8) : List UInt8 := bs ++ encInt m.id ++ encInt m.pri ++ encInt m.retry ++ encFlag m.claimed ++ encText m.corr.data.toList ++ encText m.body.data.toList
def Mg.bytes (m : Mg) : List UInt8 := m.onto []
/-- what a reader reads next as a message, and what is left of it -/
def Rd.msgR (r : Rd) : Rd := r.int.2.int.2.int.2.flag.2.text.2.text.2
def Rd.msgV (r : Rd) : Mg := ⟨r.int.1, r.int.2.int.1, r.int.2.int.2.int.1, r.int.2.int.2.int.2.flag.1, ⟨r.int.2.int.2.int.2.flag.2.text.1.toArray⟩, ⟨r.int.2.int.2.int.2.flag.2.text.2.text.1.toArray⟩⟩
def Rd.msg (r : Rd) : Mg := if r.msgR.bad = true then Mg.zero else r.msgV
theorem Mg.onto_len (m : Mg) (bs : List UInt8) (hc : m.corr.size ≤ 9000) (hb : m.body.size ≤ 9000) : (m.onto bs).length = bs.length + 29 + m.corr.size + m.body.size := by
  have e1 : m.corr.data.toList.length = m.corr.size := rfl
  have e2 : m.body.data.toList.length = m.body.size := rfl
  have t1 : m.corr.data.toList.take 65535 = m.corr.data.toList := List.take_of_length_le (by omega)
  have t2 : m.body.data.toList.take 65535 = m.body.data.toList := List.take_of_length_le (by omega)
  simp only [Mg.onto, List.length_append, encInt_len, encFlag_len, encText_len, t1, t2, e1, e2]
  omega
theorem text_whole (s : ByteArray) (hs : s.size ≤ 9000) (y : List UInt8) : (⟨encText s.data.toList ++ y, false⟩ : Rd).text = (s.data.toList, ⟨y, false⟩) := by
  rw [text_front, List.take_of_length_le (by have : s.data.toList.length = s.size := rfl; omega)]
theorem bytes_of_list (s : ByteArray) : (⟨s.data.toList.toArray⟩ : ByteArray) = s := by simp
/-- a message is read as it was written, and what is behind it is left -/
theorem msg_front (m : Mg) (hf : m.fits) (hc : m.corr.size ≤ 9000) (hb : m.body.size ≤ 9000) (y : List UInt8) : (⟨m.bytes ++ y, false⟩ : Rd).msgR = ⟨y, false⟩ ∧ (⟨m.bytes ++ y, false⟩ : Rd).msgV = m := by
  obtain ⟨i, p, r, cl, c, b⟩ := m
  obtain ⟨⟨h1, h2⟩, ⟨h3, h4⟩, ⟨h5, h6⟩⟩ := hf
  simp only at h1 h2 h3 h4 h5 h6 hc hb
  have e : (⟨i, p, r, cl, c, b⟩ : Mg).bytes ++ y = encInt i ++ (encInt p ++ (encInt r ++ (encFlag cl ++ (encText c.data.toList ++ (encText b.data.toList ++ y))))) := by
    simp [Mg.bytes, Mg.onto]
  rw [e]
  unfold Rd.msgR Rd.msgV
  simp only [int_front _ _ h1 h2, int_front _ _ h3 h4, int_front _ _ h5 h6, flag_front, text_whole _ hc, text_whole _ hb, bytes_of_list, and_self]
theorem msg_back (m : Mg) (hf : m.fits) (hc : m.corr.size ≤ 9000) (hb : m.body.size ≤ 9000) : (⟨m.bytes, false⟩ : Rd).msg = m ∧ (⟨m.bytes, false⟩ : Rd).msgR.done = true ∧ (⟨m.bytes, false⟩ : Rd).msgR.bad = false := by
  have h := msg_front m hf hc hb []
  rw [List.append_nil] at h
  unfold Rd.msg
  rw [h.1, h.2]
  exact ⟨rfl, rfl, rfl⟩
end Go.Proofs.Ytpggnklbgkdjcaa
namespace Go.Proofs.Ytpggnklbgkdjcaa
/-- a change -/
structure Ef where
  kind : Int
  obj : ByteArray
  key : ByteArray
  val : ByteArray
  n : Int
  limit : Int
  tried : Bool
  msg : Mg
def Ef.zero : Ef := ⟨0, ⟨#[]⟩, ⟨#[]⟩, ⟨#[]⟩, 0, 0, false, Mg.zero⟩
/-- its numbers are an int's -/
def Ef.fits (e : Ef) : Prop := (-9223372036854775808 ≤ e.kind ∧ e.kind ≤ 9223372036854775807) ∧ (-9223372036854775808 ≤ e.n ∧ e.n ≤ 9223372036854775807) ∧ (-9223372036854775808 ≤ e.limit ∧ e.limit ≤ 9223372036854775807) ∧ e.msg.fits
/-- its texts are not too long -/
def Ef.short (e : Ef) : Prop := e.obj.size ≤ 9000 ∧ e.key.size ≤ 9000 ∧ e.val.size ≤ 9000 ∧ e.msg.corr.size ≤ 9000 ∧ e.msg.body.size ≤ 9000
abbrev Ef.cells (e : Ef) : Array Value := #[.int .i64 e.kind, .string e.obj, .string e.key, .string e.val, .int .i64 e.n, .int .i64 e.limit, .bool e.tried, .int .i64 e.msg.id, .int .i64 e.msg.pri, .int .i64 e.msg.retry, .bool e.msg.claimed, .string e.msg.corr, .string e.msg.body]
abbrev Ef.val_ (e : Ef) : Value := .agg e.cells
end Go.Proofs.Ytpggnklbgkdjcaa
namespace Go.Proofs.Ytpggnklbgkdjcaa
def nameB (o : ByteArray) : Bool := decide (1 ≤ (o.size : Int)) && decide ((o.size : Int) ≤ 16)
def keyLB (k : ByteArray) : Bool := decide (1 ≤ (k.size : Int)) && decide ((k.size : Int) ≤ 40)
def kindB (k l : Int) : Bool := if k = 1 then decide (l = 0) else if k = 2 then decide (1 ≤ l) && decide (l ≤ 1000) else false
/-- the fields that it has by its kind are within their bounds -/
def Ef.good (e : Ef) : Bool :=
  if e.kind = 1 then nameB e.obj && kindB e.n e.limit else if e.kind = 2 then nameB e.obj && (keyLB e.key && bodyB e.val) else if e.kind = 3 then nameB e.obj && keyLB e.key else if e.kind = 4 then nameB e.obj && e.msg.right
  else if e.kind = 5 then nameB e.obj && idB e.n else if e.kind = 6 then nameB e.obj && idB e.n else if e.kind = 7 then nameB e.obj && idB e.n else if e.kind = 8 then idB e.n else false
/-- these fields alone -/
def Ef.bare (e : Ef) : Ef :=
  if e.kind = 1 then ⟨1, e.obj, ⟨#[]⟩, ⟨#[]⟩, e.n, e.limit, false, Mg.zero⟩ else if e.kind = 2 then ⟨2, e.obj, e.key, e.val, 0, 0, false, Mg.zero⟩ else if e.kind = 3 then ⟨3, e.obj, e.key, ⟨#[]⟩, 0, 0, false, Mg.zero⟩
  else if e.kind = 4 then ⟨4, e.obj, ⟨#[]⟩, ⟨#[]⟩, 0, 0, false, e.msg⟩ else if e.kind = 5 then ⟨5, e.obj, ⟨#[]⟩, ⟨#[]⟩, e.n, 0, false, Mg.zero⟩ else if e.kind = 6 then ⟨6, e.obj, ⟨#[]⟩, ⟨#[]⟩, e.n, 0, false, Mg.zero⟩
  else if e.kind = 7 then ⟨7, e.obj, ⟨#[]⟩, ⟨#[]⟩, e.n, 0, e.tried, Mg.zero⟩ else if e.kind = 8 then ⟨8, ⟨#[]⟩, ⟨#[]⟩, ⟨#[]⟩, e.n, 0, false, Mg.zero⟩ else ⟨e.kind, e.obj, ⟨#[]⟩, ⟨#[]⟩, 0, 0, false, Mg.zero⟩
def Mg.same (m k : Mg) : Bool := (m.id == k.id) && ((m.pri == k.pri) && ((m.retry == k.retry) && ((m.claimed == k.claimed) && ((m.corr.toList == k.corr.toList) && (m.body.toList == k.body.toList)))))
def Ef.same (e f : Ef) : Bool := (e.kind == f.kind) && ((e.obj.toList == f.obj.toList) && ((e.key.toList == f.key.toList) && ((e.val.toList == f.val.toList) && ((e.n == f.n) && ((e.limit == f.limit) && ((e.tried == f.tried) && e.msg.same f.msg))))))
def Ef.right (e : Ef) : Bool := e.good && e.same e.bare
/-- its bytes behind others -/
def Ef.head (e : Ef) (bs : List UInt8) : List UInt8 := bs ++ encInt e.kind ++ encText e.obj.data.toList ++ encText e.key.data.toList ++ encText e.val.data.toList ++ encInt e.n ++ encInt e.limit ++ encFlag e.tried
def Ef.bytes (e : Ef) : List UInt8 := e.head [] ++ e.msg.bytes
theorem onto_bytes (m : Mg) (bs : List UInt8) : m.onto bs = bs ++ m.bytes := by simp [Mg.bytes, Mg.onto]
theorem head_bytes (e : Ef) (bs : List UInt8) : e.head bs = bs ++ e.head [] := by simp [Ef.head]
theorem onto_head (e : Ef) (bs : List UInt8) : e.msg.onto (e.head bs) = bs ++ e.bytes := by rw [onto_bytes, head_bytes, Ef.bytes, List.append_assoc]
def bytesAll (l : List Ef) : List UInt8 := l.flatMap Ef.bytes
def bytesE (l : List Ef) : List UInt8 := encInt (l.length : Int) ++ bytesAll l
theorem bytesAll_take {l : List Ef} {j : Nat} (h : j < l.length) : bytesAll (l.take (j + 1)) = bytesAll (l.take j) ++ l[j].bytes := by
  rw [List.take_succ_eq_append_getElem h, bytesAll, List.flatMap_append]; simp [bytesAll]
theorem bytesAll_drop {l : List Ef} {j : Nat} (h : j < l.length) : bytesAll (l.drop j) = l[j].bytes ++ bytesAll (l.drop (j + 1)) := by
  unfold bytesAll
  rw [List.drop_eq_getElem_cons h, List.flatMap_cons]
theorem head_len (e : Ef) (bs : List UInt8) (h : e.short) : (e.head bs).length = bs.length + 31 + e.obj.size + e.key.size + e.val.size := by
  obtain ⟨h1, h2, h3, _, _⟩ := h
  have e1 : e.obj.data.toList.length = e.obj.size := rfl
  have e2 : e.key.data.toList.length = e.key.size := rfl
  have e3 : e.val.data.toList.length = e.val.size := rfl
  have t1 : e.obj.data.toList.take 65535 = e.obj.data.toList := List.take_of_length_le (by omega)
  have t2 : e.key.data.toList.take 65535 = e.key.data.toList := List.take_of_length_le (by omega)
  have t3 : e.val.data.toList.take 65535 = e.val.data.toList := List.take_of_length_le (by omega)
  simp only [Ef.head, List.length_append, encInt_len, encFlag_len, encText_len, t1, t2, t3, e1, e2, e3]
  omega
theorem mbytes_len (m : Mg) (hc : m.corr.size ≤ 9000) (hb : m.body.size ≤ 9000) : m.bytes.length = 29 + m.corr.size + m.body.size := by
  have h := m.onto_len [] hc hb
  have h2 : ([] : List UInt8).length = 0 := rfl
  rw [h2, Nat.zero_add] at h
  exact h
theorem ebytes_len (e : Ef) (h : e.short) : e.bytes.length = 60 + e.obj.size + e.key.size + e.val.size + e.msg.corr.size + e.msg.body.size := by
  have h2 := mbytes_len e.msg h.2.2.2.1 h.2.2.2.2
  have h3 := head_len e [] h
  have h4 : ([] : List UInt8).length = 0 := rfl
  rw [Ef.bytes, List.length_append, h2, h3]
  omega
theorem bytesAll_le (l : List Ef) (h : ∀ e ∈ l, e.short) : (bytesAll l).length ≤ l.length * 45060 := by
  induction l with
  | nil => simp [bytesAll]
  | cons e r ih =>
    have h1 := ih fun x hx => h x (by simp [hx])
    have h2 := ebytes_len e (h e (by simp))
    obtain ⟨a1, a2, a3, a4, a5⟩ := h e (by simp)
    have h3 : bytesAll (e :: r) = e.bytes ++ bytesAll r := by simp [bytesAll]
    rw [h3, List.length_append, List.length_cons, Nat.add_mul]
    omega
/-- what a reader reads next as a change, and what is left of it -/
def Rd.efR (r : Rd) : Rd := r.int.2.text.2.text.2.text.2.int.2.int.2.flag.2.msgR
def Rd.efV (r : Rd) : Ef := ⟨r.int.1, ⟨r.int.2.text.1.toArray⟩, ⟨r.int.2.text.2.text.1.toArray⟩, ⟨r.int.2.text.2.text.2.text.1.toArray⟩, r.int.2.text.2.text.2.text.2.int.1, r.int.2.text.2.text.2.text.2.int.2.int.1, r.int.2.text.2.text.2.text.2.int.2.int.2.flag.1, r.int.2.text.2.text.2.text.2.int.2.int.2.flag.2.msg⟩
/-- so many changes one behind the other, and what is left -/
def Rd.efs (r : Rd) : Nat → List Ef × Rd
  | 0 => ([], r)
  | n + 1 => ((r.efs n).1 ++ [(r.efs n).2.efV], (r.efs n).2.efR)
theorem efs_len (r : Rd) : ∀ n, (r.efs n).1.length = n
  | 0 => rfl
  | n + 1 => by simp [Rd.efs, efs_len r n]
theorem efs_take (r : Rd) (i : Nat) : ∀ n, i ≤ n → (r.efs n).1.take i = (r.efs i).1
  | 0, h => by obtain rfl : i = 0 := by omega
               rfl
  | n + 1, h => by
    rcases Nat.lt_or_ge i (n + 1) with h2 | h2
    · have h3 := efs_len r n
      have h4 : (r.efs (n + 1)).1 = (r.efs n).1 ++ [(r.efs n).2.efV] := rfl
      rw [h4, List.take_append_of_le_length (by omega)]
      exact efs_take r i n (by omega)
    · obtain rfl : i = n + 1 := by omega
      exact List.take_of_length_le (by rw [efs_len]; exact Nat.le_refl _)
/-- a change that is not right is met among more of them -/
theorem efs_wrong (r : Rd) (i n : Nat) (h : i < n) (hw : (r.efs i).2.efV.right = false) : (r.efs n).1.all Ef.right = false := by
  have h1 := efs_take r (i + 1) n h
  rw [← List.take_append_drop (i + 1) (r.efs n).1, h1, List.all_append]
  have h2 : (r.efs (i + 1)).1 = (r.efs i).1 ++ [(r.efs i).2.efV] := rfl
  rw [h2, List.all_append]
  simp [hw]
/-- what is read of bytes as changes; none: ErrBytes -/
def readsE (xs : List UInt8) : Option (List Ef) :=
  let r : Rd := ⟨xs, false⟩
  if 0 ≤ r.int.1 ∧ r.int.1 ≤ 10000 then
    if ((r.int.2.efs r.int.1.toNat).1.all Ef.right && (r.int.2.efs r.int.1.toNat).2.done) = true then some (r.int.2.efs r.int.1.toNat).1 else none
  else none
def readL (xs : List UInt8) : List Ef := (readsE xs).getD []
def readN (xs : List UInt8) : Int := if (readsE xs).isSome = true then 0 else 11

/-- the same with more behind -/
def Rd.ext (r : Rd) (z : List UInt8) : Rd := ⟨r.rest ++ z, r.bad⟩
theorem take_sticky (r : Rd) (n : Nat) (h : r.bad = true) : (r.take n).2.bad = true := by unfold Rd.take; simp [h]
theorem int_sticky (r : Rd) (h : r.bad = true) : r.int.2.bad = true := take_sticky r 8 h
theorem text_sticky (r : Rd) (h : r.bad = true) : r.text.2.bad = true := take_sticky _ _ (take_sticky r 2 h)
theorem flag_sticky (r : Rd) (h : r.bad = true) : r.flag.2.bad = true := by
  unfold Rd.flag
  simp only
  split
  · rfl
  · exact take_sticky r 1 h
theorem msg_sticky (r : Rd) (h : r.bad = true) : r.msgR.bad = true := text_sticky _ (text_sticky _ (flag_sticky _ (int_sticky _ (int_sticky _ (int_sticky _ h)))))
theorem ef_sticky (r : Rd) (h : r.bad = true) : r.efR.bad = true := msg_sticky _ (flag_sticky _ (int_sticky _ (int_sticky _ (text_sticky _ (text_sticky _ (text_sticky _ (int_sticky _ h)))))))
theorem efs_sticky (r : Rd) (i : Nat) (h : (r.efs i).2.bad = true) : ∀ n, i ≤ n → (r.efs n).2.bad = true
  | 0, hn => by obtain rfl : i = 0 := by omega
                exact h
  | n + 1, hn => by
    rcases Nat.lt_or_ge i (n + 1) with h2 | h2
    · exact ef_sticky _ (efs_sticky r i h n (by omega))
    · obtain rfl : i = n + 1 := by omega
      exact h
theorem ok_of {f : Rd → Rd} (hs : ∀ r : Rd, r.bad = true → (f r).bad = true) {r : Rd} (h : (f r).bad = false) : r.bad = false := by
  cases hb : r.bad
  · rfl
  · rw [hs r hb] at h; cases h
theorem take_ext (r : Rd) (n : Nat) (z : List UInt8) (h : (r.take n).2.bad = false) : (r.ext z).take n = ((r.take n).1, (r.take n).2.ext z) := by
  obtain ⟨l, b⟩ := r
  cases b
  · by_cases hl : l.length < n
    · rw [take_short l n hl] at h; cases h
    · have h2 : ¬ (l ++ z).length < n := by rw [List.length_append]; omega
      unfold Rd.take Rd.ext
      simp only [hl, h2, Bool.false_eq_true, if_false]
      rw [List.take_append_of_le_length (by omega), List.drop_append_of_le_length (by omega)]
  · rw [take_sticky _ _ rfl] at h; cases h
theorem int_ext (r : Rd) (z : List UInt8) (h : r.int.2.bad = false) : (r.ext z).int = (r.int.1, r.int.2.ext z) := by
  unfold Rd.int
  rw [take_ext r 8 z h]
theorem text_ext (r : Rd) (z : List UInt8) (h : r.text.2.bad = false) : (r.ext z).text = (r.text.1, r.text.2.ext z) := by
  have h1 : (r.take 2).2.bad = false := ok_of (fun r h => take_sticky r _ h) h
  unfold Rd.text
  rw [take_ext r 2 z h1, take_ext _ _ z h]
theorem flag_ext (r : Rd) (z : List UInt8) (h : r.flag.2.bad = false) : (r.ext z).flag = (r.flag.1, r.flag.2.ext z) := by
  unfold Rd.flag at *
  simp only at h
  split at h
  · cases h
  · rename_i hn
    rw [take_ext r 1 z h]
    simp only [hn, if_false]
theorem msg_ext (r : Rd) (z : List UInt8) (h : r.msgR.bad = false) : (r.ext z).msgR = r.msgR.ext z ∧ (r.ext z).msgV = r.msgV := by
  unfold Rd.msgR at h
  have h5 := ok_of text_sticky h
  have h4 := ok_of text_sticky h5
  have h3 := ok_of flag_sticky h4
  have h2 := ok_of int_sticky h3
  have h1 := ok_of int_sticky h2
  unfold Rd.msgR Rd.msgV
  rw [int_ext _ z h1, int_ext _ z h2, int_ext _ z h3, flag_ext _ z h4, text_ext _ z h5, text_ext _ z h]
  exact ⟨rfl, rfl⟩
theorem msgM_ext (r : Rd) (z : List UInt8) (h : r.msgR.bad = false) : (r.ext z).msg = r.msg := by
  obtain ⟨h1, h2⟩ := msg_ext r z h
  unfold Rd.msg
  rw [h1, h2]; rfl
theorem ef_ext (r : Rd) (z : List UInt8) (h : r.efR.bad = false) : (r.ext z).efR = r.efR.ext z ∧ (r.ext z).efV = r.efV := by
  unfold Rd.efR at h
  have h7 := ok_of msg_sticky h
  have h6 := ok_of flag_sticky h7
  have h5 := ok_of int_sticky h6
  have h4 := ok_of int_sticky h5
  have h3 := ok_of text_sticky h4
  have h2 := ok_of text_sticky h3
  have h1 := ok_of text_sticky h2
  unfold Rd.efR Rd.efV
  rw [int_ext _ z h1, text_ext _ z h2, text_ext _ z h3, text_ext _ z h4, int_ext _ z h5, int_ext _ z h6, flag_ext _ z h7, (msg_ext _ z h).1, msgM_ext _ z h]
  exact ⟨rfl, rfl⟩
theorem efs_ext (r : Rd) (z : List UInt8) : ∀ n, (r.efs n).2.bad = false → (r.ext z).efs n = ((r.efs n).1, (r.efs n).2.ext z)
  | 0, _ => rfl
  | n + 1, h => by
    have h' : (r.efs n).2.efR.bad = false := h
    have h1 := ok_of ef_sticky h'
    have ih := efs_ext r z n h1
    have e := ef_ext _ z h'
    show (((r.ext z).efs n).1 ++ [((r.ext z).efs n).2.efV], ((r.ext z).efs n).2.efR) = ((r.efs n).1 ++ [(r.efs n).2.efV], (r.efs n).2.efR.ext z)
    rw [ih]
    simp only [e.1, e.2]
/-- a change is read as it was written, and what is behind it is left -/
theorem ef_front (e : Ef) (hf : e.fits) (hs : e.short) (y : List UInt8) : (⟨e.bytes ++ y, false⟩ : Rd).efR = ⟨y, false⟩ ∧ (⟨e.bytes ++ y, false⟩ : Rd).efV = e := by
  obtain ⟨k, o, ky, v, n, l, t, m⟩ := e
  obtain ⟨⟨h1, h2⟩, ⟨h3, h4⟩, ⟨h5, h6⟩, hm⟩ := hf
  obtain ⟨s1, s2, s3, s4, s5⟩ := hs
  simp only at h1 h2 h3 h4 h5 h6 hm s1 s2 s3 s4 s5
  have e : (⟨k, o, ky, v, n, l, t, m⟩ : Ef).bytes ++ y = encInt k ++ (encText o.data.toList ++ (encText ky.data.toList ++ (encText v.data.toList ++ (encInt n ++ (encInt l ++ (encFlag t ++ (m.bytes ++ y))))))) := by
    simp [Ef.bytes, Ef.head]
  have hmf := msg_front m hm s4 s5 y
  have hmm : (⟨m.bytes ++ y, false⟩ : Rd).msg = m := by unfold Rd.msg; rw [hmf.1, hmf.2]; rfl
  rw [e]
  unfold Rd.efR Rd.efV
  simp only [int_front _ _ h1 h2, int_front _ _ h3 h4, int_front _ _ h5 h6, flag_front, text_whole _ s1, text_whole _ s2, text_whole _ s3, bytes_of_list, hmf.1, hmm, and_self]
theorem efs_front (l : List Ef) (hf : ∀ e ∈ l, e.fits) (hs : ∀ e ∈ l, e.short) (y : List UInt8) : ∀ j, j ≤ l.length → (⟨bytesAll l ++ y, false⟩ : Rd).efs j = (l.take j, ⟨bytesAll (l.drop j) ++ y, false⟩)
  | 0, _ => rfl
  | j + 1, h => by
    have hj : j < l.length := h
    have ih := efs_front l hf hs y j (by omega)
    have hm : l[j] ∈ l := List.getElem_mem hj
    show (((⟨bytesAll l ++ y, false⟩ : Rd).efs j).1 ++ [((⟨bytesAll l ++ y, false⟩ : Rd).efs j).2.efV], ((⟨bytesAll l ++ y, false⟩ : Rd).efs j).2.efR) = _
    rw [ih, bytesAll_drop hj, List.append_assoc]
    obtain ⟨e1, e2⟩ := ef_front l[j] (hf _ hm) (hs _ hm) (bytesAll (l.drop (j + 1)) ++ y)
    rw [e1, e2, List.take_succ_eq_append_getElem hj]
theorem whole_front (l : List Ef) (hf : ∀ e ∈ l, e.fits) (hs : ∀ e ∈ l, e.short) (hn : l.length ≤ 10000) (y : List UInt8) :
    (⟨bytesE l ++ y, false⟩ : Rd).int = ((l.length : Int), ⟨bytesAll l ++ y, false⟩) ∧ (⟨bytesAll l ++ y, false⟩ : Rd).efs (l.length : Int).toNat = (l, ⟨y, false⟩) := by
  refine ⟨?_, ?_⟩
  · rw [bytesE, List.append_assoc, int_front _ _ (by omega) (by omega)]
  · rw [Int.toNat_natCast, efs_front l hf hs y l.length (Nat.le_refl _), List.take_length, List.drop_length]
    rfl
/-- changes that were written are read so, if they are right -/
theorem reads_back (l : List Ef) (hf : ∀ e ∈ l, e.fits) (hs : ∀ e ∈ l, e.short) (hn : l.length ≤ 10000) : readsE (bytesE l) = if l.all Ef.right = true then some l else none := by
  obtain ⟨h1, h2⟩ := whole_front l hf hs hn []
  rw [List.append_nil, List.append_nil] at h1
  rw [List.append_nil] at h2
  unfold readsE
  simp only [h1, h2, done_end, Bool.and_true]
  rw [if_pos (by omega)]
theorem reads_more (l : List Ef) (hf : ∀ e ∈ l, e.fits) (hs : ∀ e ∈ l, e.short) (hn : l.length ≤ 10000) (x : UInt8) : readsE (bytesE l ++ [x]) = none := by
  obtain ⟨h1, h2⟩ := whole_front l hf hs hn [x]
  unfold readsE
  simp only [h1, h2]
  have hd : (⟨[x], false⟩ : Rd).done = false := rfl
  rw [hd, if_pos (by omega), Bool.and_false, if_neg Bool.false_ne_true]
theorem reads_short (l : List Ef) (hf : ∀ e ∈ l, e.fits) (hs : ∀ e ∈ l, e.short) (hn : l.length ≤ 10000) (k : Nat) (hk : k < (bytesE l).length) : readsE ((bytesE l).take k) = none := by
  obtain ⟨h1, h2⟩ := whole_front l hf hs hn []
  rw [List.append_nil, List.append_nil] at h1
  rw [List.append_nil] at h2
  have hx : (⟨bytesE l, false⟩ : Rd) = (⟨(bytesE l).take k, false⟩ : Rd).ext ((bytesE l).drop k) := by simp [Rd.ext]
  have hd : 0 < ((bytesE l).drop k).length := by rw [List.length_drop]; omega
  generalize (bytesE l).take k = xs at *
  generalize (bytesE l).drop k = z at *
  rw [hx] at h1
  cases hr : readsE xs with
  | none => rfl
  | some p =>
    exfalso
    unfold readsE at hr
    simp only at hr
    split at hr
    · split at hr
      · rename_i _ hc
        rw [Bool.and_eq_true] at hc
        obtain ⟨_, hdn⟩ := hc
        simp only [Rd.done, Bool.and_eq_true, Bool.not_eq_true', decide_eq_true_eq] at hdn
        obtain ⟨hb, hr0⟩ := hdn
        have hb1 : (⟨xs, false⟩ : Rd).int.2.bad = false := by
          cases hbb : (⟨xs, false⟩ : Rd).int.2.bad
          · rfl
          · have hx2 := efs_sticky (⟨xs, false⟩ : Rd).int.2 0 hbb (⟨xs, false⟩ : Rd).int.1.toNat (Nat.zero_le _)
            rw [hb] at hx2; cases hx2
        rw [int_ext _ z hb1] at h1
        have e1 := congrArg Prod.fst h1
        have e2 := congrArg Prod.snd h1
        simp only at e1 e2
        rw [e1] at hb hr0
        have h3 := efs_ext (⟨xs, false⟩ : Rd).int.2 z (l.length : Int).toNat hb
        rw [e2, h2] at h3
        have h4 := congrArg (fun p : List Ef × Rd => p.2.rest.length) h3
        simp only [Rd.ext, List.length_append, List.length_nil] at h4
        omega
      · cases hr
    · cases hr
/-- what a loop over them knows: all that were read are right, or none is answered -/
theorem reads_none_wrong {xs : List UInt8} {i : Nat} (h : i < (⟨xs, false⟩ : Rd).int.1.toNat) (hw : ((⟨xs, false⟩ : Rd).int.2.efs i).2.efV.right = false) : readsE xs = none := by
  unfold readsE
  simp only [efs_wrong _ _ _ h hw, Bool.false_and, Bool.false_eq_true, if_false, ite_self]
theorem reads_none_bad {xs : List UInt8} {i : Nat} (h : i ≤ (⟨xs, false⟩ : Rd).int.1.toNat) (hb : ((⟨xs, false⟩ : Rd).int.2.efs i).2.bad = true) : readsE xs = none := by
  unfold readsE
  have h2 : ((⟨xs, false⟩ : Rd).int.2.efs (⟨xs, false⟩ : Rd).int.1.toNat).2.done = false := by rw [Rd.done, efs_sticky _ i hb _ h]; rfl
  simp only [h2, Bool.and_false, Bool.false_eq_true, if_false, ite_self]
theorem reads_none_out {xs : List UInt8} (h : ¬ (0 ≤ (⟨xs, false⟩ : Rd).int.1 ∧ (⟨xs, false⟩ : Rd).int.1 ≤ 10000)) : readsE xs = none := by
  unfold readsE
  simp only [h, if_false]
theorem reads_end {xs : List UInt8} (h0 : 0 ≤ (⟨xs, false⟩ : Rd).int.1) (h1 : (⟨xs, false⟩ : Rd).int.1 ≤ 10000) :
    readsE xs = if (((⟨xs, false⟩ : Rd).int.2.efs (⟨xs, false⟩ : Rd).int.1.toNat).1.all Ef.right && ((⟨xs, false⟩ : Rd).int.2.efs (⟨xs, false⟩ : Rd).int.1.toNat).2.done) = true then some ((⟨xs, false⟩ : Rd).int.2.efs (⟨xs, false⟩ : Rd).int.1.toNat).1 else none := by
  unfold readsE
  simp only [h0, h1, and_self, if_true]
theorem readL_none {xs : List UInt8} (h : readsE xs = none) : readL xs = [] ∧ readN xs = 11 := by unfold readL readN; rw [h]; exact ⟨rfl, rfl⟩
theorem readL_some {xs : List UInt8} {l : List Ef} (h : readsE xs = some l) : readL xs = l ∧ readN xs = 0 := by unfold readL readN; rw [h]; exact ⟨rfl, rfl⟩
end Go.Proofs.Ytpggnklbgkdjcaa
namespace Go.Proofs.Ytpggnklbgkdjcaa
open Go.RowKit
theorem retBr {a b : Bool} (h : a = b) : Ending.returned (.bool a) = .returned (.bool b) := by rw [h]
theorem size_toList (a : ByteArray) : a.size = a.toList.length := by rw [Lib.toList_data]; simp
/-- may it be a table's row? -/
def rightR (r : Rw) : Bool := decide (1 ≤ r.1.size) && decide (r.1.size ≤ 40) && decide (r.2.size ≤ 100)
theorem right_row (r : Rw) (w : World) : Calls Try.prog 62 #[.agg #[.string r.1, .string r.2]] w fun e w' => e = .returned (.bool (rightR r)) ∧ Below w.heap.size w w' := by
  obtain ⟨k, v⟩ := r
  go_enter Try.func62, Try.ntmps62
  go_wp2
  · rename_i h
    go_ret
    exact ⟨retBr (by simp [rightR, size_toList, h]), alloc_below _ _⟩
  · rename_i h1 h2
    go_ret
    refine ⟨retBr ?_, alloc_below _ _⟩
    have h3 : 1 ≤ k.size := by rcases Nat.eq_zero_or_pos k.size with h0 | h0; exact absurd (List.eq_nil_of_length_eq_zero (by rw [← size_toList]; exact h0)) h1; exact h0
    have h4 : k.toList.isEmpty = false := by simpa using h1
    have h5 : k.size ≤ 40 := by omega
    have h6 : decide ((v.size : Int) ≤ 100) = decide (v.size ≤ 100) := decide_eq_decide.2 (by omega)
    rw [rightR, decide_eq_true h3, decide_eq_true h5, h4, h6]; rfl
  · rename_i h1 h2
    go_ret
    have h5 : ¬ k.size ≤ 40 := by omega
    exact ⟨retBr (by simp [rightR, h5]), alloc_below _ _⟩
end Go.Proofs.Ytpggnklbgkdjcaa
