/- The document's example, and a row, which each law of stage 17 asks first. -/
import Derived.Test.YtahfjdilfnjppaaRwG
set_option maxRecDepth 4000
namespace Go.Proofs.Ytahfjdilfnjppaa
open Go.RowKit
theorem getNil (k : ByteArray) (w : World) : Calls Try.prog 8 #[.slice none 0 0, .string k] w fun e w' => e = .returned (.tuple #[.string ⟨#[]⟩, .bool false]) ∧ w = w' :=
  get_row (Lst.nil w (fun _ => True) eR none) rfl (Nat.zero_le _) k
theorem found_one (r : Rw) : foundR [r] r.1 = true := by simp [foundR, (cmpS_eq r.1 r.1).2 rfl]
theorem find_one (r : Rw) : findR [r] r.1 = 0 := by simp [findR, (cmpS_eq r.1 r.1).2 rfl]
theorem get_one (r : Rw) : getR [r] r.1 = r.2 := by
  rw [getR, dif_pos (found_one r)]
  simp [find_one]
theorem getAB (r : Rw) (w : World) : Calls Try.prog 8 #[.slice (some ⟨w.heap.size, 0, none⟩) 1 1, .string r.1] (w.alloc (.cells #[.string r.1, .string r.2] 31)) fun e w' => e = .returned (.tuple #[.string r.2, .bool true]) ∧ w.alloc (.cells #[.string r.1, .string r.2] 31) = w' := by
  have h := get_row (c := 1) (n := 1) (one_lst eR w 31 r (cs := #[.string r.1, .string r.2]) rfl) rfl (by omega) r.1
  rwa [get_one, found_one] at h
theorem rightA (w : World) : Calls Try.prog 9 #[.agg #[.string ⟨#[97]⟩, .string ⟨#[]⟩]] w fun e w' => e = .returned (.bool true) ∧ Below w.heap.size w w' := right_row (⟨#[97]⟩, ⟨#[]⟩) w
theorem rightN (w : World) : Calls Try.prog 9 #[.agg #[.string ⟨#[]⟩, .string ⟨#[]⟩]] w fun e w' => e = .returned (.bool false) ∧ Below w.heap.size w w' := right_row (⟨#[]⟩, ⟨#[]⟩) w
set_option maxHeartbeats 400000 in
theorem alive_ (w : World) : Calls Try.prog 4 #[] w fun e w' => e = .returned (.bool true) ∧ Below w.heap.size w w' := by
  go_enter Try.func4, Try.ntmps4
  go_wp2_with fail
  refine (getNil _ _).mono ?_
  rintro e w' ⟨rfl, rfl⟩
  go_wp2_with fail
  refine (getAB (⟨#[97]⟩, ⟨#[98]⟩) _).mono ?_
  rintro e w' ⟨rfl, rfl⟩
  have ha := alloc_below w (.cells #[.string ⟨#[97]⟩, .string ⟨#[98]⟩] 31)
  have HA := Lib.hid ha
  clear ha
  generalize w.alloc (.cells #[.string ⟨#[97]⟩, .string ⟨#[98]⟩] 31) = w1 at *
  go_wp2_with fail
  refine (rightA _).mono ?_
  rintro e w2 ⟨rfl, hb2⟩
  have H2 := Lib.hid (HA.out.trans (hb2.mono HA.out.size))
  clear hb2 HA
  go_wp2_with fail
  refine (rightN _).mono ?_
  rintro e w3 ⟨rfl, hb3⟩
  have H3 := Lib.hid (H2.out.trans (hb3.mono H2.out.size))
  clear hb3 H2
  go_wp2_with fail
  go_ret
  exact ⟨rfl, H3.out⟩
end Go.Proofs.Ytahfjdilfnjppaa
