/- A log on sectors: plain facts. Its head, what is found, what an Append leaves of a disk, what a crash behind it leaves. Nothing of the program. -/
import Derived.Test.YtmpkgnmijnjddaaSpanP
import Derived.Test.YtmpkgnmijnjddaaBPure
namespace Go.Proofs.Ytmpkgnmijnjddaa
def recT : List UInt8 := [114, 101, 99]
/-- the head of a record: its epoch, its number, its length -/
def headB (e k n : Int) : List UInt8 := encText recT ++ (encInt e ++ (encInt k ++ (encInt n ++ zeros 35)))
theorem headB_length (e k n : Int) : (headB e k n).length = 64 := by
  simp only [headB, List.length_append, encInt_len, encText_len, zeros_length]; rfl
theorem headB_written (e k n : Int) : encText recT ++ encInt e ++ encInt k ++ encInt n ++ zeros 35 = headB e k n := by simp [headB]
/-- the length that a sector tells, whatever it is -/
def lenIn (xs : List UInt8) : Int := (⟨xs, false⟩ : Rd).text.2.int.2.int.2.int.1
abbrev i64r (n : Int) : Prop := -9223372036854775808 ≤ n ∧ n ≤ 9223372036854775807
theorem i64of_range (v : Nat) : i64r (i64of v) := by unfold i64of i64r; omega
theorem lenIn_range (xs : List UInt8) : i64r (lenIn xs) := i64of_range _
theorem int_front2 (n : Int) (y : List UInt8) : (⟨encInt n ++ y, false⟩ : Rd).int.2 = ⟨y, false⟩ := by
  unfold Rd.int; rw [take_front _ _ 8 (encInt_len n)]
theorem lenIn_head {e k n : Int} (h : i64r n) : lenIn (headB e k n) = n := by
  unfold lenIn headB
  rw [text_front]
  simp only
  rw [int_front2, int_front2, int_front n _ h.1 h.2]
theorem headB_epoch {e k n e' k' n' : Int} (h1 : i64r e) (h2 : i64r e') (h : headB e k n = headB e' k' n') : e = e' := by
  have := congrArg (fun xs => (⟨xs, false⟩ : Rd).text.2.int.1) h
  simp only [headB] at this
  rw [text_front, text_front] at this
  simp only at this
  rwa [int_front e _ h1.1 h1.2, int_front e' _ h2.1 h2.2] at this
theorem headB_zero {e k n : Int} : headB e k n ≠ zeros 64 := fun h => by
  have := congrArg (fun xs => xs[0]?) h
  simp [headB, encText, recT, leN, zeros] at this

structure Lg where
  e : Int
  p : Nat
  fin : Nat
  ls : List (List UInt8)
  dead : Bool
def Lg.left (L : Lg) : Nat := L.fin - L.p
def Lg.fits (L : Lg) (n : Int) : Bool := decide (0 ≤ n) && decide (1 + need n.toNat ≤ L.left)
def Lg.head (L : Lg) (n : Int) : List UInt8 := headB L.e ((L.ls.length : Nat) + 1 : Int) n
def Lg.add (L : Lg) (b : List UInt8) : Lg := { L with p := L.p + (1 + need b.length), ls := L.ls ++ [b] }
def St.at_ (s : St) (i : Nat) : Sec := s.now.getD i []
/-- what a log finds where the next record would be -/
def Lg.found (L : Lg) (had : Sec) (n : Int) : Bool := L.fits n && decide (had = L.head n)
theorem found_iff {L : Lg} {had : Sec} {n : Int} : L.found had n = true ↔ L.fits n = true ∧ had = L.head n := by simp [Lg.found]
def Lg.find (L : Lg) (s : St) : Option (List UInt8) :=
  if L.found (s.at_ L.p) (lenIn (s.at_ L.p)) then some (s.get ((L.p : Int) + 1) (lenIn (s.at_ L.p))) else none
inductive Opens (s : St) : Lg → Lg → Prop
  | stop {L : Lg} : L.find s = none → Opens s L L
  | step {L L' : Lg} {b : List UInt8} : L.find s = some b → Opens s (L.add b) L' → Opens s L L'
theorem fits_iff {L : Lg} {n : Int} : L.fits n = true ↔ 0 ≤ n ∧ 1 + need n.toNat ≤ L.left := by simp [Lg.fits]
theorem Opens.det {s : St} {L L1 : Lg} (h : Opens s L L1) : ∀ {L2 : Lg}, Opens s L L2 → L1 = L2 := by
  induction h with
  | stop h => intro L2 k; cases k with
    | stop => rfl
    | step h' => rw [h] at h'; cases h'
  | step h _ ih => intro L2 k; cases k with
    | stop h' => rw [h] at h'; cases h'
    | step h' k =>
      have e := Option.some.inj (h.symm.trans h')
      subst e; exact ih k
theorem find_none {L : Lg} {s : St} (h : ∀ n : Int, L.fits n = true → s.at_ L.p ≠ L.head n) : L.find s = none := by
  unfold Lg.find
  split
  · rename_i hh
    exact absurd (found_iff.1 hh).2 (h _ (found_iff.1 hh).1)
  · rfl
theorem find_end {L : Lg} {s : St} (h : L.fin ≤ L.p) : L.find s = none := find_none fun n hn => by
  have := (fits_iff.1 hn).2
  unfold Lg.left at this; omega
theorem find_some {L : Lg} {s : St} {b : List UInt8} (hn : L.fin ≤ s.n) (hm : s.n ≤ 4096) (hf : 1 + need b.length ≤ L.left) (hh : s.at_ L.p = L.head b.length) (hb : ∀ j, j < need b.length → s.at_ (L.p + 1 + j) = chunk b j) : L.find s = some b := by
  have hl : b.length ≤ 262144 := by have := need_ge b.length; unfold Lg.left at hf; omega
  have e : lenIn (s.at_ L.p) = (b.length : Int) := by rw [hh]; exact lenIn_head ⟨by omega, by omega⟩
  unfold Lg.find
  rw [e, if_pos (found_iff.2 ⟨fits_iff.2 ⟨by omega, by rw [Int.toNat_natCast]; exact hf⟩, hh⟩)]
  exact congrArg some (get_put (s := s) (at_ := L.p + 1) hl (by unfold Lg.left at hf; omega) hb)
/-- what is found has its length, and fits -/
theorem find_len {L : Lg} {s : St} {b : List UInt8} (hok : s.ok) (hn : L.fin ≤ s.n) (h : L.find s = some b) : (b.length : Int) = lenIn (s.at_ L.p) ∧ 1 + need b.length ≤ L.left ∧ b.length ≤ 262144 := by
  unfold Lg.find at h
  split at h
  · rename_i hh
    have h := Option.some.inj h
    obtain ⟨h0, h1⟩ := fits_iff.1 (found_iff.1 hh).1
    have hm := hok.many
    obtain ⟨m, hm2⟩ := Int.eq_ofNat_of_zero_le h0
    rw [hm2, Int.toNat_natCast] at h1
    have hm3 : m ≤ 262144 := by have := need_ge m; unfold Lg.left at h1; unfold St.n at hn; omega
    have hl : b.length = m := by
      rw [← h, hm2]
      unfold St.get
      rw [cutG_nat hm3, if_pos (St.fits_iff.2 ⟨by omega, by unfold Lg.left at h1; omega⟩)]
      have h64 : ∀ x ∈ (s.now.drop ((L.p : Int) + 1).toNat).take (need m), x.length = 64 := fun x hx => hok.now x (List.mem_of_mem_drop (List.mem_of_mem_take hx))
      have hd : (s.now.drop ((L.p : Int) + 1).toNat).length = s.n - (L.p + 1) := by rw [List.length_drop, St.now_length]; omega
      rw [List.length_take, show ((s.now.drop ((L.p : Int) + 1).toNat).take (need m)).flatten.length = need m * 64 from by
        have : ∀ (ls : List Sec), (∀ x ∈ ls, x.length = 64) → ls.flatten.length = ls.length * 64 := by
          intro ls; induction ls with
          | nil => intro _; rfl
          | cons y r ih => intro hy; rw [List.flatten_cons, List.length_append, hy y (by simp), ih fun z hz => hy z (by simp [hz]), List.length_cons]; omega
        rw [this _ h64, List.length_take, hd, Nat.min_eq_left (by unfold Lg.left at h1; omega)]]
      have := need_ge m
      omega
    exact ⟨by rw [hl, hm2], by rw [hl]; exact h1, by omega⟩
  · cases h

/-! an Append -/
def St.tryW (s : St) (i : Nat) (b : Sec) : St × Bool := if s.broken then (s, false) else (s.wr i b, true)
def St.tryS (s : St) : St × Bool := if s.broken then (s, false) else (s.sync, true)
/-- one behind the other, till one fails -/
def thenDo (r : St × Bool) (f : St → St × Bool) : St × Bool := if r.2 then f r.1 else r
def Lg.next (L : Lg) (n : Nat) : Nat := L.p + (1 + need n)
def Lg.tail (L : Lg) (n : Nat) (s : St) : St × Bool := if L.next n = L.fin then (s, true) else s.tryW (L.next n) (zeros 64)
def Lg.lay (L : Lg) (s : St) (b : List UInt8) : St × Bool :=
  thenDo (thenDo (thenDo (thenDo (s.put ((L.p : Int) + 1) b) (L.tail b.length)) St.tryS) (fun t => t.tryW L.p (L.head b.length))) St.tryS
def Lg.append (L : Lg) (s : St) (b : List UInt8) : St × Lg × Nat :=
  if L.dead then (s, L, 12) else if L.fits b.length then (if (L.lay s b).2 then ((L.lay s b).1, L.add b, 0) else ((L.lay s b).1, { L with dead := true }, 12)) else (s, L, 6)
end Go.Proofs.Ytmpkgnmijnjddaa
