/- The lowest bits of a number. -/
import Derived.Laws.BitsLemmas
namespace Go.Proofs.Ytglcdchjddnjgaa
open Go
theorem low_bits (m : Nat) (c : Int) (n : Int) (hm : m ≤ 60) (hc : (BitVec.ofInt 64 c).toNat = 2 ^ m - 1) : bits .and .i64 n c = ((n % ((2 ^ 64 : Nat) : Int)).toNat % 2 ^ m : Nat) := by
  have key : (BitVec.ofInt 64 n &&& BitVec.ofInt 64 c).toNat = (n % ((2 ^ 64 : Nat) : Int)).toNat % 2 ^ m := by
    rw [BitVec.toNat_and, BitVec.toNat_ofInt, hc, Nat.and_two_pow_sub_one_eq_mod]
  show IntKind.i64.wrap ((BitVec.ofInt 64 n &&& BitVec.ofInt 64 c).toNat : Nat) = _
  rw [key, IntKind.wrap_i64]
  have h1 : (n % ((2 ^ 64 : Nat) : Int)).toNat % 2 ^ m < 2 ^ m := Nat.mod_lt _ (Nat.two_pow_pos m)
  have h2 : 2 ^ m ≤ 2 ^ 60 := Nat.pow_le_pow_right (by omega) hm
  omega
theorem and1 (n : Nat) : bits .and .i64 (n : Int) 1 = ((n % 2 : Nat) : Int) := by
  rw [low_bits 1 1 n (by omega) (by decide)]
  omega
theorem and3 (n : Int) : ∃ m : Nat, m ≤ 3 ∧ bits .and .i64 n 3 = (m : Int) :=
  ⟨_, by have := Nat.mod_lt ((n % ((2 ^ 64 : Nat) : Int)).toNat) (Nat.two_pow_pos 2); omega, low_bits 2 3 n (by omega) (by decide)⟩
theorem and511 (n : Int) : ∃ m : Nat, m ≤ 511 ∧ bits .and .i64 n 511 = (m : Int) :=
  ⟨_, by have := Nat.mod_lt ((n % ((2 ^ 64 : Nat) : Int)).toNat) (Nat.two_pow_pos 9); omega, low_bits 9 511 n (by omega) (by decide)⟩
theorem and1023 (n : Int) : ∃ m : Nat, m ≤ 1023 ∧ bits .and .i64 n 1023 = (m : Int) :=
  ⟨_, by have := Nat.mod_lt ((n % ((2 ^ 64 : Nat) : Int)).toNat) (Nat.two_pow_pos 10); omega, low_bits 10 1023 n (by omega) (by decide)⟩
end Go.Proofs.Ytglcdchjddnjgaa
