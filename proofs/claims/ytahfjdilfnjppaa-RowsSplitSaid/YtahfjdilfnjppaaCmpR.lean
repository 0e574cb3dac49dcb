/- What the document's own comparing of keys comes to. -/
import Derived.Test.YtahfjdilfnjppaaCmpC
import Derived.Below
import Derived.LoopTactic
import Derived.RegionTactic
import Derived.Deep.QuietTactic
import Derived.BigQuiet
import Derived.Lib.Strings
set_option maxRecDepth 4000
namespace Go.Proofs.Ytahfjdilfnjppaa
open Go.RowKit

theorem cmpL_right {x y : List UInt8} {k : Nat} (h : k < x.length) (h2 : y.length ≤ k) : cmpL (x.drop k) (y.drop k) = 1 := by
  rw [List.drop_eq_nil_of_le h2, List.drop_eq_getElem_cons h]; rfl
theorem cmpL_left {x y : List UInt8} {k : Nat} (h : x.length ≤ k) (h2 : k < y.length) : cmpL (x.drop k) (y.drop k) = -1 := by
  rw [List.drop_eq_nil_of_le h, List.drop_eq_getElem_cons h2]; rfl
theorem cmpL_at (a b : ByteArray) (k : Nat) (h : k < a.size) (h2 : k < b.size) : cmpL (a.data.toList.drop k) (b.data.toList.drop k) =
    if a[k].toNat < b[k].toNat then -1 else if b[k].toNat < a[k].toNat then 1 else cmpL (a.data.toList.drop (k + 1)) (b.data.toList.drop (k + 1)) := by
  rw [List.drop_eq_getElem_cons (show k < a.data.toList.length by simpa using h), List.drop_eq_getElem_cons (show k < b.data.toList.length by simpa using h2), cmpL]
  simp only [u8_lt_iff]
  rfl
theorem drewNN (w : World) (a b : Nat) : (w.drewN a).drewN b = w.drewN (a + b) := World.drewN_drewN ..
theorem refKeys (a b : ByteArray) (w : World) (ha : a.size ≤ maxLen) : Calls Try.prog 10 #[.string a, .string b] w fun e w' => e = .returned (.int .i64 (cmpS a b)) ∧ ∃ n, w' = w.drewN n := by
  unfold maxLen at ha
  go_enter Try.func10, Try.ntmps10
  go_wp2
  go_loopw [5] (fun i wr => ∃ k n : Nat, k ≤ a.size ∧ k ≤ b.size ∧ i = .int .i64 k ∧ wr = w.drewN n ∧ cmpL a.data.toList b.data.toList = cmpL (a.data.toList.drop k) (b.data.toList.drop k)) (fun i _ => a.size - (intOf i).toNat)
  case atStart => exact ⟨0, 0, Nat.zero_le _, Nat.zero_le _, rfl, rfl, rfl⟩
  case round =>
    obtain ⟨k, n, hk1, hk2, rfl, rfl, hinv⟩ := hrel
    have I := Lib.hid hinv
    clear hinv
    by_cases h1 : k < a.size
    · by_cases h2 : k < b.size
      · have A := cmpL_at a b k h1 h2
        rcases Nat.lt_trichotomy a[k].toNat b[k].toNat with h3 | h3 | h3
        · have e : cmpS a b = -1 := by
            rw [cmpS, Lib.toList_data, Lib.toList_data, I.out, A, if_pos h3]
          have E := Lib.hid e
          clear e A
          go_wp2
          go_quiet (fail)
          go_wp2
          go_ret
          exact ⟨retIk E.out.symm, _, by rw [drewNN]⟩
        · have e : cmpL a.data.toList b.data.toList = cmpL (a.data.toList.drop (k + 1)) (b.data.toList.drop (k + 1)) := by
            rw [I.out, A, if_neg (by omega), if_neg (by omega)]
          have E := Lib.hid e
          clear e A
          have h4 : ¬ a[k].toNat < b[k].toNat := by omega
          have h5 : ¬ b[k].toNat < a[k].toNat := by omega
          have H3 := Lib.hid h3
          clear h3
          go_wp2
          go_quiet (fail)
          go_wp2
          go_quiet (fail)
          go_wp2
          go_roundw
          case rel => exact ⟨k + 1, _, by omega, by omega, by go_num, rfl, E.out⟩
          case measure => simp [intOf]; omega
        · have e : cmpS a b = 1 := by
            rw [cmpS, Lib.toList_data, Lib.toList_data, I.out, A, if_neg (by omega), if_pos h3]
          have E := Lib.hid e
          clear e A
          have h4 : ¬ a[k].toNat < b[k].toNat := by omega
          go_wp2
          go_quiet (fail)
          go_wp2
          go_quiet (fail)
          go_wp2
          go_ret
          exact ⟨retIk E.out.symm, _, by rw [drewNN, drewNN]⟩
      · have h3 : k = b.size := by omega
        subst h3
        have e : cmpS a b = 1 := by
          rw [cmpS, Lib.toList_data, Lib.toList_data, I.out]; exact cmpL_right (by simpa using h1) (by simp)
        have E := Lib.hid e
        clear e
        have h4 : ¬ a.size < b.size := by omega
        go_wp2
        go_ret
        exact ⟨retIk E.out.symm, n, rfl⟩
    · have h3 : k = a.size := by omega
      subst h3
      by_cases h4 : a.size < b.size
      · have e : cmpS a b = -1 := by
          rw [cmpS, Lib.toList_data, Lib.toList_data, I.out]; exact cmpL_left (by simp) (by simpa using h4)
        have E := Lib.hid e
        clear e
        go_wp2
        go_ret
        exact ⟨retIk E.out.symm, n, rfl⟩
      · have h5 : ¬ b.size < a.size := by omega
        have e : cmpS a b = 0 := by
          rw [cmpS, Lib.toList_data, Lib.toList_data, I.out, List.drop_eq_nil_of_le (by simp), List.drop_eq_nil_of_le (by simp; omega)]; rfl
        have E := Lib.hid e
        clear e
        go_wp2
        go_ret
        exact ⟨retIk E.out.symm, n, rfl⟩
end Go.Proofs.Ytahfjdilfnjppaa
