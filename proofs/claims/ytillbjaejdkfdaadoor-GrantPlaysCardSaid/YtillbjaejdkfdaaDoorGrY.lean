/- The document's comparison of two lists of holds. -/
import Derived.Test.YtillbjaejdkfdaaDoorGrB
import Derived.Laws.StructEq
import Derived.BigQuiet
import Derived.Deep.QuietTactic
set_option maxRecDepth 4000
namespace Go.Proofs.YtillbjaejdkfdaaDoor
open Go.RowKit
def SameR (w : World) (xs ys : List Ho) (k : Nat) (i : Value) (wr : World) : Prop := ∃ j, j + k = xs.length ∧ i = .int .i64 (j : Int) ∧ (∀ q, q < j → xs[q]? = ys[q]?) ∧ Below w.heap.size w wr
theorem ho_ne {x y : Ho} (h : x ≠ y) : ((x.1 == y.1) = false) ∨ ((x.1 == y.1) = true ∧ ((x.2.1 : Int) == (y.2.1 : Int)) = false) ∨ ((x.1 == y.1) = true ∧ ((x.2.1 : Int) == (y.2.1 : Int)) = true ∧ ((x.2.2 : Int) == (y.2.2 : Int)) = false) := by
  obtain ⟨a, b, c⟩ := x
  obtain ⟨a', b', c'⟩ := y
  simp only
  by_cases h1 : a = a'
  · by_cases h2 : b = b'
    · by_cases h3 : c = c'
      · subst h1 h2 h3; exact absurd rfl h
      · exact .inr (.inr ⟨by simpa using h1, by subst h2; simp, by rw [beq_eq_false_iff_ne]; omega⟩)
    · exact .inr (.inl ⟨by simpa using h1, by rw [beq_eq_false_iff_ne]; omega⟩)
  · exact .inl (by simpa using h1)
set_option maxHeartbeats 1000000 in
theorem same_holds {w : World} {K K' : Nat → Prop} {A A' : Option Addr} {n n' c c' : Nat} {xs ys : List Ho} (h : Lst w K eH A xs) (hl : xs.length = n) (h' : Lst w K' eH A' ys) (hl' : ys.length = n') (hn : n ≤ 1000000) (hn' : n' ≤ 1000000) :
    Calls Tryd.prog 14 #[.slice A n c, .slice A' n' c'] w fun e w' => e = .returned (.bool (decide (xs = ys))) ∧ Below w.heap.size w w' := by
  by_cases hne : n = n'
  · subst hne
    have H := Lib.hid h
    have H' := Lib.hid h'
    have HL := Lib.hid hl
    have HL' := Lib.hid hl'
    clear h h' hl hl'
    go_enter Tryd.func14, Tryd.ntmps14
    go_wp2_with fail
    go_loopg [5] n (fun k i wr => SameR w xs ys k i wr)
    case atStart => exact ⟨0, by rw [HL.out]; omega, rfl, fun q hq => absurd hq (Nat.not_lt_zero q), Below.refl _ _⟩
    case round =>
      obtain ⟨j, hj, rfl, h1, hb⟩ := hrel
      have HB := Lib.hid hb
      clear hb
      have HJ := Lib.hid hj
      have H1 := Lib.hid h1
      clear hj h1
      by_cases hlt : j < n
      · have hx : j < xs.length := by rw [HL.out]; exact hlt
        have hy : j < ys.length := by rw [HL'.out]; exact hlt
        obtain ⟨g, o, rfl, _, d0, d1, d2⟩ := (H.out.below HB.out).atH hx
        obtain ⟨g', o', rfl, _, e0, e1, e2⟩ := (H'.out.below HB.out).atH hy
        by_cases he : xs[j] = ys[j]
        · have hnx : ∀ q, q < j + 1 → xs[q]? = ys[q]? := fun q hq => by
            rcases Nat.lt_or_ge q j with h5 | h5
            · exact H1.out q h5
            · obtain rfl : q = j := by omega
              rw [List.getElem?_eq_getElem hx, List.getElem?_eq_getElem hy, he]
          rw [he] at d0 d1 d2
          have HN := Lib.hid hnx
          clear hnx he
          generalize ys[j].1 = a at *
          generalize ys[j].2.1 = b at *
          generalize ys[j].2.2 = cc at *
          go_wp2_with fail
          go_quiet (fail)
          go_wp2_with fail
          go_roundg (n - (j + 1))
          case measure => have := HJ.out; have := HL.out; omega
          case rel => exact ⟨j + 1, by have := HL.out; omega, by go_num, HN.out, below_drewN HB.out _⟩
        · have hno : xs ≠ ys := fun e => he (by subst e; rfl)
          have hd : decide (xs = ys) = false := by simpa using hno
          have HD := Lib.hid hd
          have hcs := ho_ne he
          clear hno hd he
          generalize xs[j].1 = a at *
          generalize xs[j].2.1 = b at *
          generalize xs[j].2.2 = cc at *
          generalize ys[j].1 = a' at *
          generalize ys[j].2.1 = b' at *
          generalize ys[j].2.2 = cc' at *
          rcases hcs with k1 | ⟨k1, k2⟩ | ⟨k1, k2, k3⟩
          all_goals
            go_wp2_with fail
            go_quiet (fail)
            go_wp2_with fail
            go_ret
            exact ⟨by rw [HD.out]; rfl, below_drewN HB.out _⟩
      · have he : j = n := by have := HJ.out; have := HL.out; omega
        have heq : xs = ys := by
          apply List.ext_getElem?
          intro q
          rcases Nat.lt_or_ge q n with h5 | h5
          · exact H1.out q (by omega)
          · rw [List.getElem?_eq_none (by rw [HL.out]; exact h5), List.getElem?_eq_none (by rw [HL'.out]; exact h5)]
        have hd : decide (xs = ys) = true := by simpa using heq
        have HD := Lib.hid hd
        clear heq hd he
        go_wp2_with fail
        go_ret
        exact ⟨by rw [HD.out]; rfl, HB.out⟩
  · have hno : xs ≠ ys := fun e => hne (by rw [← hl, ← hl', e])
    have hd : decide (xs = ys) = false := by simpa using hno
    have HD := Lib.hid hd
    have hz : ¬ ((n : Int) = (n' : Int)) := by omega
    clear h h' hl hl' hno hd
    go_enter Tryd.func14, Tryd.ntmps14
    go_wp2_with fail
    go_ret
    exact ⟨by rw [HD.out]; rfl, Below.refl _ _⟩
end Go.Proofs.YtillbjaejdkfdaaDoor
