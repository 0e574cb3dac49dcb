/- Where package node finds a key. -/
import Derived.Test.YtahfjdilfnjppaaRowM
import Derived.Test.YtahfjdilfnjppaaCmpC
import Derived.LoopTactic
import Derived.Deep.LoopGhost
set_option maxRecDepth 4000
namespace Go.Proofs.Ytahfjdilfnjppaa
open Go.RowKit
def Finds (xs : List Rw) (key : ByteArray) (k : Nat) (i : Value) : Prop := ∃ j, j + k = xs.length ∧ i = .int .i64 (j : Int) ∧ findR xs key = j + findR (xs.drop j) key ∧ foundR xs key = foundR (xs.drop j) key
set_option maxHeartbeats 400000 in
theorem find_row {w : World} {K : Nat → Prop} {A : Option Addr} {n c : Nat} {xs : List Rw} (h : Rws w K A xs) (hl : xs.length = n) (hn : n ≤ 1000000) (key : ByteArray) :
    Calls Try.prog 12 #[.slice A n c, .string key] w fun e w' => e = .returned (.tuple #[.int .i64 (findR xs key : Int), .bool (foundR xs key)]) ∧ w = w' := by
  have H := Lib.hid h
  have HL := Lib.hid hl
  clear h hl
  go_enter Try.func12, Try.ntmps12
  go_wp2
  go_loopg [10] n (fun m i wr => Finds xs key m i ∧ w = wr)
  case atStart => exact ⟨⟨0, by rw [HL.out]; omega, rfl, by simp, by simp⟩, rfl⟩
  case round =>
    obtain ⟨⟨j, hj, rfl, h1, h2⟩, rfl⟩ := hrel
    have HJ := Lib.hid hj
    have H1 := Lib.hid h1
    have H2 := Lib.hid h2
    clear hj h1 h2
    by_cases hlt : j < n
    · have hx : j < xs.length := by rw [HL.out]; exact hlt
      obtain ⟨b, o, rfl, hc, _⟩ := H.out.at_ hx
      by_cases hp : 0 ≤ cmpS xs[j].1 key
      · obtain ⟨e1, e2⟩ := find_at hx hp
        have hr1 : (findR xs key : Int) = j := by have := H1.out; omega
        have hr2 : foundR xs key = decide (cmpS xs[j].1 key = 0) := by rw [H2.out, e2]
        have HR1 := Lib.hid hr1
        have HR2 := Lib.hid hr2
        clear e1 e2 hr1 hr2
        generalize xs[j].1 = kj at *
        go_wp2_with (go_at_call 13; refine (keys_ _ _ _).mono ?_; rintro e w' ⟨rfl, rfl⟩)
        go_ret2
        exact ⟨by rw [HR1.out, HR2.out]; rfl, rfl⟩
      · obtain ⟨e1, e2⟩ := find_on hx hp
        have hr1 : findR xs key = j + 1 + findR (xs.drop (j + 1)) key := by rw [H1.out, e1]; omega
        have hr2 : foundR xs key = foundR (xs.drop (j + 1)) key := by rw [H2.out, e2]
        have HR1 := Lib.hid hr1
        have HR2 := Lib.hid hr2
        clear e1 e2 hr1 hr2
        generalize xs[j].1 = kj at *
        go_wp2_with (go_at_call 13; refine (keys_ _ _ _).mono ?_; rintro e w' ⟨rfl, rfl⟩)
        go_roundg (n - (j + 1))
        case measure => have := HJ.out; have := HL.out; omega
        case rel => exact ⟨⟨j + 1, by have := HL.out; omega, by go_num, HR1.out, HR2.out⟩, rfl⟩
    · have he : j = xs.length := by have := HJ.out; have := HL.out; omega
      have h1 : findR xs key = xs.length := by rw [H1.out, he, List.drop_length]; rfl
      have h2 : foundR xs key = false := by rw [H2.out, he, List.drop_length]; rfl
      have h3 : (findR xs key : Int) = (n : Int) := by rw [h1, HL.out]
      have H3 := Lib.hid h3
      have H4 := Lib.hid h2
      clear h1 h2 he h3
      go_wp2
      go_ret2
      exact ⟨by rw [H3.out, H4.out]; rfl, rfl⟩
end Go.Proofs.Ytahfjdilfnjppaa
