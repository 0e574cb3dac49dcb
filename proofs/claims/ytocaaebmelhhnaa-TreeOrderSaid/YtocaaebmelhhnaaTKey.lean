/- A key of three letters. -/
import Derived.Test.YtocaaebmelhhnaaCmpC
import Derived.Test.YtocaaebmelhhnaaTreeZ
import Derived.Deep.QuietTactic
import Derived.BigQuiet
import Derived.Lib.Strings
set_option maxRecDepth 4000
namespace Go.Proofs.Ytocaaebmelhhnaa
open Go.RowKit
/-- a letter -/
def letr (a : Nat) : ByteArray := ⟨#[UInt8.ofNat (97 + a)]⟩
theorem letter (a : Nat) (h : a < 20) (W : World) : (Instr.slice 9 (.string ⟨#[97, 98, 99, 100, 101, 102, 103, 104, 105, 106, 107, 108, 109, 110, 111, 112, 113, 114, 115, 116]⟩) (some (.int .i64 (a : Int))) (some (.int .i64 ((a : Int) + 1))) none).run Try.prog W = .ok (.string (letr a)) W := by
  have hc : a = 0 ∨ a = 1 ∨ a = 2 ∨ a = 3 ∨ a = 4 ∨ a = 5 ∨ a = 6 ∨ a = 7 ∨ a = 8 ∨ a = 9 ∨ a = 10 ∨ a = 11 ∨ a = 12 ∨ a = 13 ∨ a = 14 ∨ a = 15 ∨ a = 16 ∨ a = 17 ∨ a = 18 ∨ a = 19 := by omega
  rcases hc with rfl | rfl | rfl | rfl | rfl | rfl | rfl | rfl | rfl | rfl | rfl | rfl | rfl | rfl | rfl | rfl | rfl | rfl | rfl | rfl <;> (show _ = _; kernel_rfl)
/-- the key of a number -/
def keyB (n : Nat) : ByteArray := letr (n / 400 % 20) ++ letr (n / 20 % 20) ++ letr (n % 20)
theorem keyB_list (n : Nat) : (keyB n).toList = [UInt8.ofNat (97 + n / 400 % 20), UInt8.ofNat (97 + n / 20 % 20), UInt8.ofNat (97 + n % 20)] := by
  rw [ByteArray.toList_eq]
  unfold keyB letr
  simp [ByteArray.data_append]
theorem keyB_size (n : Nat) : (keyB n).size = 3 := by
  unfold keyB
  rw [ByteArray.size_append, ByteArray.size_append]
  rfl
theorem u8_inj {a b : Nat} (ha : a < 20) (hb : b < 20) (h : UInt8.ofNat (97 + a) = UInt8.ofNat (97 + b)) : a = b := by
  have := congrArg UInt8.toNat h
  simp only [UInt8.toNat_ofNat'] at this
  omega
theorem keyB_inj {n m : Nat} (hn : n < 8000) (hm : m < 8000) : cmpS (keyB n) (keyB m) = 0 ↔ n = m := by
  constructor
  · intro h
    rw [cmpS_eq, keyB_list, keyB_list] at h
    injection h with h1 h
    injection h with h2 h
    injection h with h3 _
    have e1 := u8_inj (by omega) (by omega) h1
    have e2 := u8_inj (by omega) (by omega) h2
    have e3 := u8_inj (by omega) (by omega) h3
    omega
  · rintro rfl
    exact (cmpS_eq _ _).2 rfl
set_option maxHeartbeats 1000000 in
theorem key_ (n : Nat) (hn : n < 8000) (w : World) : Calls Try.prog 20 #[.int .i64 (n : Int)] w fun e w' => e = .returned (.string (keyB n)) ∧ ∃ m, w' = w.drewN m := by
  unfold keyB
  generalize hp : n / 400 = p
  generalize hr : n / 20 = r
  generalize ha : p % 20 = a
  generalize hb : r % 20 = b
  generalize hc : n % 20 = c
  have l1 : a < 20 := by omega
  have l2 : b < 20 := by omega
  have l3 : c < 20 := by omega
  have e1 : (n : Int) / 400 = (p : Int) := by omega
  have e2 : IntKind.i64.wrap (p : Int) = (p : Int) := by rw [IntKind.wrap_i64]; omega
  have e3 : (p : Int).tmod 20 = (a : Int) := by rw [Int.tmod_eq_emod_of_nonneg (by omega)]; omega
  have e4 : (n : Int) / 20 = (r : Int) := by omega
  have e5 : IntKind.i64.wrap (r : Int) = (r : Int) := by rw [IntKind.wrap_i64]; omega
  have e6 : (r : Int).tmod 20 = (b : Int) := by rw [Int.tmod_eq_emod_of_nonneg (by omega)]; omega
  have e7 : (n : Int).tmod 20 = (c : Int) := by rw [Int.tmod_eq_emod_of_nonneg (by omega)]; omega
  have e8 : IntKind.i64.wrap ((a : Int) + 1) = (a : Int) + 1 := by rw [IntKind.wrap_i64]; omega
  have e9 : IntKind.i64.wrap ((b : Int) + 1) = (b : Int) + 1 := by rw [IntKind.wrap_i64]; omega
  have e10 : IntKind.i64.wrap ((c : Int) + 1) = (c : Int) + 1 := by rw [IntKind.wrap_i64]; omega
  have s1 := letter a l1
  have s2 := letter b l2
  have s3 := letter c l3
  have z1 : (letr a).size = 1 := rfl
  have z2 : (letr b).size = 1 := rfl
  have z3 : (letr c).size = 1 := rfl
  have z4 : (letr a ++ letr b).size = 2 := by rw [ByteArray.size_append]; rfl
  have hx : IntKind.i64.max = 9223372036854775807 := rfl
  clear hp hr ha hb hc
  go_enter Try.func20, Try.ntmps20
  go_wp2_with fail
  go_quiet (fail)
  go_wp2_with fail
  go_ret
  exact ⟨rfl, _, rfl⟩
end Go.Proofs.Ytocaaebmelhhnaa
