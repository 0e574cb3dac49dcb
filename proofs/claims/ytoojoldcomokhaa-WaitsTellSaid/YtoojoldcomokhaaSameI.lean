/- The document's comparison of two rows of numbers. -/
import Derived.Test.YtoojoldcomokhaaEnc
import Derived.BigQuiet
set_option maxRecDepth 4000
namespace Go.Proofs.Ytoojoldcomokhaa
open Go.RowKit
def SameI (w : World) (xs ys : List Int) (k : Nat) (i : Value) (wr : World) : Prop := ∃ j, j + k = xs.length ∧ i = .int .i64 (j : Int) ∧ (∀ q, q < j → xs[q]? = ys[q]?) ∧ Below w.heap.size w wr
set_option maxHeartbeats 1000000 in
theorem same_ints {w : World} {K K' : Nat → Prop} {A A' : Option Addr} {n n' c c' : Nat} {xs ys : List Int} (h : Lst w K eI A xs) (hl : xs.length = n) (h' : Lst w K' eI A' ys) (hl' : ys.length = n') (hn : n ≤ 1000000) (hn' : n' ≤ 1000000) :
    Calls Try.prog 9 #[.slice A n c, .slice A' n' c'] w fun e w' => e = .returned (.bool (decide (xs = ys))) ∧ Below w.heap.size w w' := by
  by_cases hne : n = n'
  · subst hne
    have H := Lib.hid h
    have H' := Lib.hid h'
    have HL := Lib.hid hl
    have HL' := Lib.hid hl'
    clear h h' hl hl'
    go_enter Try.func9, Try.ntmps9
    go_wp2_with fail
    go_loopg [5] n (fun k i wr => SameI w xs ys k i wr)
    case atStart => exact ⟨0, by rw [HL.out]; omega, rfl, fun q hq => absurd hq (Nat.not_lt_zero q), Below.refl _ _⟩
    case round =>
      obtain ⟨j, hj, rfl, h1, hb⟩ := hrel
      have HB := Lib.hid hb
      clear hb
      have HJ := Lib.hid hj
      have H1 := Lib.hid h1
      clear hj h1
      by_cases hlt : j < n
      · have hx : j < xs.length := by rw [HL.out]; exact hlt
        have hy : j < ys.length := by rw [HL'.out]; exact hlt
        obtain ⟨g, o, rfl, _, d0⟩ := (H.out.below HB.out).atI hx
        obtain ⟨g', o', rfl, _, e0⟩ := (H'.out.below HB.out).atI hy
        by_cases he : xs[j] = ys[j]
        · have hnx : ∀ q, q < j + 1 → xs[q]? = ys[q]? := fun q hq => by
            rcases Nat.lt_or_ge q j with h5 | h5
            · exact H1.out q h5
            · obtain rfl : q = j := by omega
              rw [List.getElem?_eq_getElem hx, List.getElem?_eq_getElem hy, he]
          rw [he] at d0
          have HN := Lib.hid hnx
          clear hnx he
          generalize ys[j] = a at *
          have e1 : (a != a) = false := by simp
          go_wp2_with fail
          go_quiet (fail)
          go_wp2_with fail
          go_roundg (n - (j + 1))
          case measure => have := HJ.out; have := HL.out; omega
          case rel => exact ⟨j + 1, by have := HL.out; omega, by go_num, HN.out, below_drewN HB.out _⟩
        · have hno : xs ≠ ys := fun e => he (by subst e; rfl)
          have hd : decide (xs = ys) = false := by simpa using hno
          have HD := Lib.hid hd
          have hcs : (xs[j] != ys[j]) = true := by simpa using he
          clear hno hd he
          generalize xs[j] = a at *
          generalize ys[j] = a' at *
          go_wp2_with fail
          go_quiet (fail)
          go_wp2_with fail
          go_ret
          exact ⟨by rw [HD.out]; rfl, below_drewN HB.out _⟩
      · have he : j = n := by have := HJ.out; have := HL.out; omega
        have heq : xs = ys := by
          apply List.ext_getElem?
          intro q
          rcases Nat.lt_or_ge q n with h5 | h5
          · exact H1.out q (by omega)
          · rw [List.getElem?_eq_none (by rw [HL.out]; exact h5), List.getElem?_eq_none (by rw [HL'.out]; exact h5)]
        have hd : decide (xs = ys) = true := by simpa using heq
        have HD := Lib.hid hd
        clear heq hd he
        go_wp2_with fail
        go_ret
        exact ⟨by rw [HD.out]; rfl, HB.out⟩
  · have hno : xs ≠ ys := fun e => hne (by rw [← hl, ← hl', e])
    have hd : decide (xs = ys) = false := by simpa using hno
    have HD := Lib.hid hd
    have hz : ¬ ((n : Int) = (n' : Int)) := by omega
    clear h h' hl hl' hno hd
    go_enter Try.func9, Try.ntmps9
    go_wp2_with fail
    go_ret
    exact ⟨by rw [HD.out]; rfl, Below.refl _ _⟩
end Go.Proofs.Ytoojoldcomokhaa
