/- The document's words on messages and rows: the place of a message by its number; are two lists one? -/
import Derived.Test.YtobbopakdaoemaaMqC
import Derived.Test.YtobbopakdaoemaaMqP
import Derived.Test.YtobbopakdaoemaaRwE
import Derived.Laws.StructEq
import Derived.RegionTactic
import Derived.Deep.QuietTactic
import Derived.BigQuiet
set_option maxRecDepth 4000
namespace Go.Proofs.Ytobbopakdaoemaa
open Go.RowKit
def SeenM (w : World) (id : Int) (l : List Mg) (k : Nat) (i : Value) (wr : World) : Prop := ∃ j, j + k = l.length ∧ i = .int .i64 (j : Int) ∧ (∀ q (_ : q < j) (hl : q < l.length), isM id l[q] = false) ∧ w = wr
set_option maxHeartbeats 400000 in
theorem rfind_m {w : World} {K : Nat → Prop} {A : Option Addr} {n c : Nat} {l : List Mg} (h : Lst w K eM A l) (hl : l.length = n) (hn : n ≤ 1000000) (id : Int) :
    Calls Try.prog 18 #[.slice A n c, .int .i64 id] w fun e w' => e = .returned (.int .i64 (idxI (isM id) l)) ∧ w = w' := by
  have H := Lib.hid h
  have HL := Lib.hid hl
  clear h hl
  go_enter Try.func18, Try.ntmps18
  go_wp2
  go_loopg [5] n (fun m i wr => SeenM w id l m i wr)
  case atStart => exact ⟨0, by rw [HL.out]; omega, rfl, fun q hq => absurd hq (Nat.not_lt_zero q), rfl⟩
  case round =>
    obtain ⟨j, hj, rfl, h1, rfl⟩ := hrel
    have HJ := Lib.hid hj
    have H1 := Lib.hid h1
    clear hj h1
    by_cases hlt : j < n
    · have hx : j < l.length := by rw [HL.out]; exact hlt
      obtain ⟨b, o, rfl, hb, c0, c1, c2, c3, c4, c5⟩ := H.out.atM hx
      clear c1 c2 c3 c4 c5
      have e1 : idxI (isM id) l = (j : Int) ∨ isM id l[j] = false := by
        cases hpj : isM id l[j]
        · exact .inr rfl
        · exact .inl (idx_hit hx hpj fun q hq => H1.out q hq (by omega))
      have e2 : isM id l[j] = false → ∀ q (_ : q < j + 1) (hl : q < l.length), isM id l[q] = false := fun h q hq hl => by
        rcases Nat.lt_or_ge q j with h5 | h5
        · exact H1.out q h5 hl
        · obtain rfl : q = j := by omega
          exact h
      have e3 : isM id l[j] = (l[j].id == id) := rfl
      have E2 := Lib.hid e2
      have E1 := Lib.hid e1
      have E3 := Lib.hid e3
      clear e1 e2 e3 hb
      generalize l[j].id = x at *
      generalize isM id l[j] = y at *
      clear hx
      cases hxx : (x == id)
      · have hy : y = false := by rw [E3.out]; exact hxx
        have HY := Lib.hid hy
        clear hy
        go_wp2
        go_roundg (n - (j + 1))
        case measure => have := HJ.out; have := HL.out; omega
        case rel => exact ⟨j + 1, by have := HL.out; omega, by go_num, E2.out HY.out, rfl⟩
      · have hy : y = true := by rw [E3.out]; exact hxx
        have hi : idxI (isM id) l = (j : Int) := by
          rcases E1.out with h | h
          · exact h
          · rw [h] at hy; cases hy
        have HI := Lib.hid hi
        clear hy hi
        go_wp2
        go_ret
        exact ⟨by rw [HI.out]; rfl, rfl⟩
    · have e1 : idxI (isM id) l = -1 := idx_miss fun q hq => H1.out q (by have := HJ.out; have := HL.out; omega) hq
      have E1 := Lib.hid e1
      clear e1
      go_wp2
      go_ret
      exact ⟨by rw [E1.out]; rfl, rfl⟩
def SameRel (w : World) (n : Nat) (k : Nat) (i : Value) (wr : World) : Prop := ∃ j, j + k = n ∧ i = .int .i64 (j : Int) ∧ Below w.heap.size w wr
set_option maxHeartbeats 400000 in
/-- of two lists that are one -/
theorem same_msgs {w : World} {K K2 : Nat → Prop} {A A2 : Option Addr} {n c c2 : Nat} {xs : List Mg} (h : Lst w K eM A xs) (h2 : Lst w K2 eM A2 xs) (hn : xs.length = n) (hm : n ≤ 1000000) :
    Calls Try.prog 21 #[.slice A n c, .slice A2 n c2] w fun e w' => e = .returned (.bool true) ∧ Below w.heap.size w w' := by
  have H := Lib.hid h
  have H2 := Lib.hid h2
  have HN := Lib.hid hn
  clear h h2 hn
  go_enter Try.func21, Try.ntmps21
  go_wp2
  go_loopg [5] n (fun k i wr => SameRel w n k i wr)
  case atStart => exact ⟨0, by omega, rfl, Below.refl _ _⟩
  case round =>
    obtain ⟨j, hj, rfl, hb⟩ := hrel
    have HB := Lib.hid hb
    have HJ := Lib.hid hj
    clear hb hj
    by_cases hlt : j < n
    · have hx : j < xs.length := by rw [HN.out]; exact hlt
      obtain ⟨b, o, rfl, _, c0, c1, c2, c3, c4, c5⟩ := (H.out.below HB.out).atM hx
      obtain ⟨b2, o2, rfl, _, d0, d1, d2, d3, d4, d5⟩ := (H2.out.below HB.out).atM hx
      generalize xs[j].id = x0 at *
      generalize xs[j].pri = x1 at *
      generalize xs[j].retry = x2 at *
      generalize xs[j].claimed = x3 at *
      generalize xs[j].corr = x4 at *
      generalize xs[j].body = x5 at *
      clear hx
      go_wp2
      go_region
      go_wp2
      go_roundg (n - (j + 1))
      case measure => have := HJ.out; have := HN.out; omega
      case rel => exact ⟨j + 1, by omega, by go_num, HB.out.drew⟩
    · go_wp2
      go_ret
      exact ⟨rfl, HB.out⟩
set_option maxHeartbeats 400000 in
theorem same_rows_e {w : World} {K K2 : Nat → Prop} {A A2 : Option Addr} {n c c2 : Nat} {xs : List Rw} (h : Lst w K eR A xs) (h2 : Lst w K2 eR A2 xs) (hn : xs.length = n) (hm : n ≤ 1000000) :
    Calls Try.prog 20 #[.slice A n c, .slice A2 n c2] w fun e w' => e = .returned (.bool true) ∧ Below w.heap.size w w' := by
  have H := Lib.hid h
  have H2 := Lib.hid h2
  have HN := Lib.hid hn
  clear h h2 hn
  go_enter Try.func20, Try.ntmps20
  go_wp2
  go_loopg [5] n (fun k i wr => SameRel w n k i wr)
  case atStart => exact ⟨0, by omega, rfl, Below.refl _ _⟩
  case round =>
    obtain ⟨j, hj, rfl, hb⟩ := hrel
    have HB := Lib.hid hb
    have HJ := Lib.hid hj
    clear hb hj
    by_cases hlt : j < n
    · have hx : j < xs.length := by rw [HN.out]; exact hlt
      obtain ⟨b, o, rfl, _, c0, c1⟩ := (H.out.below HB.out).atR hx
      obtain ⟨b2, o2, rfl, _, d0, d1⟩ := (H2.out.below HB.out).atR hx
      obtain ⟨k1, v1, e1⟩ : ∃ k v, xs[j] = (k, v) := ⟨_, _, rfl⟩
      rw [e1] at c0 c1 d0 d1
      simp only at c0 c1 d0 d1
      clear e1 hx
      go_wp2
      go_region
      go_wp2
      go_roundg (n - (j + 1))
      case measure => have := HJ.out; have := HN.out; omega
      case rel => exact ⟨j + 1, by omega, by go_num, HB.out.drew⟩
    · go_wp2
      go_ret
      exact ⟨rfl, HB.out⟩
end Go.Proofs.Ytobbopakdaoemaa
