/- Are two rows of bytes equal? -/
import Derived.Test.YteilbaabnhogbaaDskM
namespace Go.Proofs.Yteilbaabnhogbaa
open Go.RowKit
def EqRel (w : World) (xs ys : List UInt8) (k : Nat) (i : Value) (wr : World) : Prop := ∃ j, j + k = xs.length ∧ i = .int .i64 (j : Int) ∧ xs.take j = ys.take j ∧ Below w.heap.size w wr
theorem u8_eq (a b : UInt8) : ((a.toNat : Int) = (b.toNat : Int)) ↔ a = b := by
  rw [Int.ofNat_inj, UInt8.toNat_inj]
theorem Has.at_ {w w' : World} {K : Nat → Prop} {A : Option Addr} {xs : List UInt8} (h : Has w K A xs) (k : Below w.heap.size w w') {j : Nat} (hj : j < xs.length) :
    ∃ b o, A = some ⟨b, o, none⟩ ∧ w'.cell? ⟨b, o + j, none⟩ = some (.int .u8 ((xs[j]'hj).toNat : Int)) := by
  obtain ⟨b, o, e, _, hb, hc⟩ := (h.below k) (by omega)
  exact ⟨b, o, e, hc j _ (by rw [cellsB_get, List.getElem?_eq_getElem hj]; rfl)⟩
set_option maxHeartbeats 400000 in
theorem equal_ {w : World} {K K2 : Nat → Prop} {A A2 : Option Addr} {n n2 c c2 : Nat} {xs ys : List UInt8} (h : Has w K A xs) (h2 : Has w K2 A2 ys) (hn : xs.length = n) (hn2 : ys.length = n2) (hm : n ≤ 1000000) :
    Calls Try.prog 33 #[.slice A n c, .slice A2 n2 c2] w fun e w' => e = .returned (.bool (decide (xs = ys))) ∧ Below w.heap.size w w' := by
  have H := Lib.hid h
  have H2 := Lib.hid h2
  have HN := Lib.hid hn
  have HN2 := Lib.hid hn2
  by_cases hl : n = n2
  · subst hl
    clear h h2 hn hn2
    go_enter Try.func33, Try.ntmps33
    go_wp2
    go_loopg [13] n (fun k i wr => EqRel w xs ys k i wr)
    case atStart => exact ⟨0, by rw [HN.out]; omega, rfl, rfl, Below.refl _ _⟩
    case round =>
      obtain ⟨j, hj, rfl, ht, hb⟩ := hrel
      have HT := Lib.hid ht
      have HB := Lib.hid hb
      have HJ := Lib.hid hj
      clear ht hb hj
      by_cases hlt : j < n
      · have hx : j < xs.length := by rw [HN.out]; exact hlt
        have hy : j < ys.length := by rw [HN2.out]; exact hlt
        obtain ⟨b, o, rfl, hc⟩ := H.out.at_ HB.out hx
        obtain ⟨b2, o2, rfl, hc2⟩ := H2.out.at_ HB.out hy
        by_cases he : xs[j] = ys[j]
        · have he2 : ((xs[j].toNat : Int) = (ys[j].toNat : Int)) := (u8_eq _ _).2 he
          have hst : xs.take (j + 1) = ys.take (j + 1) := by
            rw [List.take_succ_eq_append_getElem hx, List.take_succ_eq_append_getElem hy, HT.out, he]
          have HST := Lib.hid hst
          clear hst he
          go_wp2
          go_region
          go_wp2
          go_roundg (n - (j + 1))
          case measure => have := HJ.out; have := HN.out; omega
          case rel => exact ⟨j + 1, by have := HN.out; omega, by go_num, HST.out, HB.out.drew⟩
        · have he2 : ¬ ((xs[j].toNat : Int) = (ys[j].toNat : Int)) := fun e => he ((u8_eq _ _).1 e)
          have hne : xs ≠ ys := fun e => he (by subst e; rfl)
          have HNE := Lib.hid hne
          clear hne he
          go_wp2
          go_region
          go_wp2
          go_ret
          exact ⟨by rw [decide_eq_false HNE.out]; rfl, HB.out.drew⟩
      · have e : xs = ys := by
          have h1 := HT.out
          have h2 := HN.out
          have h3 := HN2.out
          rwa [List.take_of_length_le (by omega), List.take_of_length_le (by omega)] at h1
        have E := Lib.hid e
        clear e
        go_wp2
        go_ret
        exact ⟨by rw [decide_eq_true E.out]; rfl, HB.out⟩
  · have hne : xs ≠ ys := fun e => by subst e; omega
    have HNE := Lib.hid hne
    clear h h2 hn hn2 hne
    go_enter Try.func33, Try.ntmps33
    go_wp2
    go_ret
    exact ⟨by rw [decide_eq_false HNE.out]; rfl, Below.refl _ _⟩
end Go.Proofs.Yteilbaabnhogbaa
