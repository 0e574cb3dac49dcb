/- What bytes join to; what a reader's calls answer. -/
import Derived.Test.YtlapicjbnheioaaBTakes
namespace Go.Proofs.Ytlapicjbnheioaa
open Go.RowKit
theorem or_shift (a c i : Nat) (ha : a < 2 ^ i) : a ||| (c * 2 ^ i) = a + c * 2 ^ i := by
  have h := Nat.shiftLeft_add_eq_or_of_lt ha c
  rw [Nat.shiftLeft_eq] at h
  rw [Nat.or_comm, ← h, Nat.add_comm]
theorem pow256 (k : Nat) : 256 ^ k = 2 ^ (8 * k) := by rw [Nat.pow_mul]
theorem byte_wrap (b : UInt8) : IntKind.u64.wrap (b.toNat : Int) = (b.toNat : Int) := by
  rw [IntKind.wrap_u64]
  have : b.toNat < 256 := b.toNat_lt
  omega
theorem join_step (xs : List UInt8) (k : Nat) (hk : k < 8) (hx : k < xs.length) :
    bits .or .u64 (joinN (xs.take k) : Int) (IntKind.u64.wrap (IntKind.u64.wrap (xs[k].toNat : Int) * 2 ^ (8 * k))) = (joinN (xs.take (k + 1)) : Int) := by
  have hb : xs[k].toNat < 256 := xs[k].toNat_lt
  have ha : joinN (xs.take k) < 256 ^ k := by
    have := joinN_lt (xs.take k)
    rwa [List.length_take, Nat.min_eq_left (by omega)] at this
  have hp : 256 ^ (k + 1) ≤ 256 ^ 8 := Nat.pow_le_pow_right (by omega) (by omega)
  have hs : 256 ^ (k + 1) = 256 ^ k * 256 := Nat.pow_succ ..
  have e8 : (256 : Nat) ^ 8 = 18446744073709551616 := by decide
  have hc : xs[k].toNat * 2 ^ (8 * k) < 18446744073709551616 := by
    rw [← pow256, ← e8]
    refine Nat.lt_of_lt_of_le ?_ hp
    rw [hs, Nat.mul_comm]
    exact (Nat.mul_lt_mul_left (Nat.pow_pos (by omega))).2 hb
  rw [byte_wrap]
  have ew : IntKind.u64.wrap ((xs[k].toNat : Int) * 2 ^ (8 * k)) = ((xs[k].toNat * 2 ^ (8 * k) : Nat) : Int) := by
    rw [IntKind.wrap_u64]
    have : ((xs[k].toNat : Int) * 2 ^ (8 * k)) = ((xs[k].toNat * 2 ^ (8 * k) : Nat) : Int) := by rw [Int.natCast_mul, Int.natCast_pow]; rfl
    rw [this]
    omega
  rw [ew, u64_or_nat _ _ (by have := Nat.lt_of_lt_of_le ha (Nat.pow_le_pow_right (by omega) (show k ≤ 8 by omega)); omega) hc, or_shift _ _ _ (by rw [← pow256]; exact ha),
    List.take_succ_eq_append_getElem hx, joinN_snoc, List.length_take, Nat.min_eq_left (by omega), pow256, Nat.mul_comm]
theorem retU {k : IntKind} {a b : Int} (h : a = b) : Ending.returned (.int k a) = .returned (.int k b) := by rw [h]
set_option maxHeartbeats 400000 in
theorem join_ (w : World) (B : Nat) (A : Option Addr) (m c : Nat) (xs : List UInt8) (h : RB w B A m xs) (hm : m ≤ 8) :
    Calls Try.prog 50 #[.slice A m c] w fun e w' => e = .returned (.int .u64 (joinN xs : Int)) ∧ w = w' := by
  have H := Lib.hid h
  clear h
  go_enter Try.func50, Try.ntmps50
  go_wp2
  go_loop [3, 8] (fun v i => ∃ k : Nat, k ≤ m ∧ i = .int .i64 k ∧ v = .int .u64 (joinN (xs.take k) : Int)) (fun _ i => m - (intOf i).toNat)
  case atStart => exact ⟨0, Nat.zero_le _, rfl, rfl⟩
  case round =>
    obtain ⟨k, hk, rfl, rfl⟩ := hrel
    by_cases hlt : k < m
    · obtain ⟨b, o, rfl, _, hc⟩ := H.out.2 (by omega)
      have hx : k < xs.length := by have := H.out.1; omega
      have hcell := hc k xs[k] (List.getElem?_eq_getElem hx)
      clear hc
      go_wp2
      go_round
      case rel => exact ⟨k + 1, by omega, by go_num, by rw [join_step xs k (by omega) hx]⟩
      case measure => simp [intOf]; omega
    · go_wp2
      go_ret
      have := H.out.1
      exact ⟨retU (by rw [List.take_of_length_le (by omega)]), rfl⟩
def IntP (T : TypeId) (w : World) (g B : Nat) (r : Rd) (e : Ending) (w' : World) : Prop := e = .returned (.int .i64 r.int.1) ∧ ReaderAt T w' g B r.int.2 ∧ Keep (But g) w w'
def TextP (T : TypeId) (w : World) (g B : Nat) (r : Rd) (e : Ending) (w' : World) : Prop := e = .returned (.string ⟨r.text.1.toArray⟩) ∧ ReaderAt T w' g B r.text.2 ∧ Keep (But g) w w'
def FlagP (T : TypeId) (w : World) (g B : Nat) (r : Rd) (e : Ending) (w' : World) : Prop := e = .returned (.bool r.flag.1) ∧ ReaderAt T w' g B r.flag.2 ∧ Keep (But g) w w'
theorem taken_le (r : Rd) (n : Nat) : (r.take n).1.length ≤ n := by
  unfold Rd.take
  split
  · simp
  · split
    · simp
    · simp; omega
theorem joinN_le (xs : List UInt8) (n : Nat) (h : xs.length ≤ n) : joinN xs < 256 ^ n := Nat.lt_of_lt_of_le (joinN_lt xs) (Nat.pow_le_pow_right (by omega) h)
theorem int_of {r r1 : Rd} {xs : List UInt8} (h : r.take 8 = (xs, r1)) : r.int = (i64of (joinN xs), r1) := by simp [Rd.int, h]
theorem text_of {r r1 : Rd} {xs : List UInt8} (h : r.take 2 = (xs, r1)) : r.text = r1.take (joinN xs) := by simp [Rd.text, h]
theorem flag_of {r r1 : Rd} {xs : List UInt8} (h : r.take 1 = (xs, r1)) : r.flag = (decide (joinN xs = 1), if 1 < joinN xs then ⟨r1.rest, true⟩ else r1) := by simp [Rd.flag, h]
theorem wrap64_of (v : Nat) : wrap64 (v : Int) = i64of v := by unfold wrap64 i64of; omega
set_option maxHeartbeats 400000 in
theorem rdInt (w : World) (g B : Nat) (r : Rd) (h : ReaderAt 79 w g B r) : Calls Try.prog 31 #[.pointer (some ⟨g, 0, none⟩)] w (IntP 79 w g B r) := by
  go_enter Try.func31, Try.ntmps31
  go_wp2_with fail
  refine (take_ w g B r _ h (by omega) (by omega)).mono ?_
  rintro e w1 ⟨A, m, c, rfl, hr, hR, hK⟩
  have hle : m ≤ 8 := by
    have h1 := hr.1
    have h2 := taken_le r (Int.toNat 8)
    simp at h1 h2
    omega
  generalize hT : r.take (Int.toNat 8) = p at *
  obtain ⟨xs, r1⟩ := p
  have HT := Lib.hid (int_of hT)
  have HR := Lib.hid hr
  have HR2 := Lib.hid hR
  have HK := Lib.hid hK
  clear hr hR hK h hT
  go_wp2_with fail
  refine (join_ _ _ _ _ _ _ HR.out hle).mono ?_
  rintro e w2 ⟨rfl, rfl⟩
  go_wp2
  go_ret
  exact ⟨retU (by rw [HT.out]; exact wrap64_of _), by rw [HT.out]; exact HR2.out, HK.out⟩
set_option maxHeartbeats 400000 in
theorem rdText (w : World) (g B : Nat) (r : Rd) (h : ReaderAt 79 w g B r) : Calls Try.prog 52 #[.pointer (some ⟨g, 0, none⟩)] w (TextP 79 w g B r) := by
  go_enter Try.func52, Try.ntmps52
  go_wp2_with fail
  refine (take_ w g B r _ h (by omega) (by omega)).mono ?_
  rintro e w1 ⟨A, m, c, rfl, hr, hR, hK⟩
  have h2 := taken_le r (Int.toNat 2)
  generalize hT : r.take (Int.toNat 2) = p at *
  obtain ⟨xs, r1⟩ := p
  have hle : m ≤ 2 := by
    have h1 := hr.1
    simp at h1 h2
    omega
  have hj := joinN_le xs 2 h2
  simp only [Nat.reducePow] at hj
  have HT := Lib.hid (text_of hT)
  have HR := Lib.hid hr
  have HR2 := Lib.hid hR
  have HK := Lib.hid hK
  clear hr hR hK h hT h2
  go_wp2_with fail
  refine (join_ _ _ _ _ _ _ HR.out (by omega)).mono ?_
  rintro e w2 ⟨rfl, rfl⟩
  go_wp2_with fail
  refine (take_ w1 g B r1 _ HR2.out (by omega) (by omega)).mono ?_
  rintro e w3 ⟨A', m', c', rfl, hr, hR, hK⟩
  rw [Int.toNat_natCast, ← HT.out] at hr hR
  have hcv := convert_row _ w3 A' B m' c' hr
  have HR3 := Lib.hid hR
  have HK3 := Lib.hid hK
  clear hr hR hK
  go_wp2
  go_ret
  exact ⟨rfl, HR3.out, HK.out.trans HK3.out⟩
end Go.Proofs.Ytlapicjbnheioaa
