/- What the document's own new reader is; whether a reader has failed. -/
import Derived.Test.YtlapicjbnheioaaBRef
set_option maxRecDepth 4000
namespace Go.Proofs.Ytlapicjbnheioaa
open Go.RowKit
theorem rNew (w : World) (A : Option Addr) (n c : Nat) (B : Nat) (xs : List UInt8) (h : RB w B A n xs) (hB : B ≤ w.heap.size) (h1 : n ≤ c) (h2 : c ≤ maxLen) :
    Calls Try.prog 35 #[.slice A n c] w fun e w' => e = .returned (.pointer (some ⟨w.heap.size, 0, none⟩)) ∧ ReaderAt 84 w' w.heap.size B ⟨xs, false⟩ ∧ Below w.heap.size w w' := by
  have H := Lib.hid h
  clear h
  go_enter Try.func35, Try.ntmps35
  go_wp2
  go_ret
  exact ⟨rfl, ⟨A, n, c, Blk.new w 84 _, h1, h2, H.out.below ((Below.refl _ _).alloc hB _), hB⟩, (Below.refl _ _).alloc (Nat.le_refl _) _⟩
theorem rBad (w : World) (g B : Nat) (r : Rd) (h : ReaderAt 84 w g B r) : Calls Try.prog 37 #[.pointer (some ⟨g, 0, none⟩)] w fun e w' => e = .returned (.bool r.bad) ∧ w = w' := by
  obtain ⟨c1, f1⟩ := reader_cell h
  clear h
  go_enter Try.func37, Try.ntmps37
  go_wp2
  go_ret
  exact ⟨rfl, rfl⟩
theorem rdFailed (w : World) (g B : Nat) (r : Rd) (h : ReaderAt 79 w g B r) : Calls Try.prog 57 #[.pointer (some ⟨g, 0, none⟩)] w fun e w' => e = .returned (.bool r.bad) ∧ w = w' := by
  obtain ⟨c1, f1⟩ := reader_cell h
  clear h
  go_enter Try.func57, Try.ntmps57
  go_wp2
  go_ret
  exact ⟨rfl, rfl⟩
end Go.Proofs.Ytlapicjbnheioaa
