/- Are two rows of keys and values the same, the document asks. -/
import Derived.Test.YtahfjdilfnjppaaRowM
import Derived.LoopTactic
import Derived.Laws.StructEq
import Derived.Deep.LoopGhost
import Derived.RegionTactic
import Derived.Deep.QuietTactic
import Derived.BigQuiet
set_option maxRecDepth 4000
namespace Go.Proofs.Ytahfjdilfnjppaa
open Go.RowKit
theorem bytes_eq {a b : ByteArray} (h : a.toList = b.toList) : a = b := by
  rw [ByteArray.toList_eq, ByteArray.toList_eq] at h
  obtain ⟨⟨x⟩⟩ := a
  obtain ⟨⟨y⟩⟩ := b
  simp at h
  rw [h]
theorem bytes_ne {a b : ByteArray} (h : a ≠ b) : (a.toList == b.toList) = false := by
  rw [beq_eq_false_iff_ne]; exact fun e => h (bytes_eq e)
def SameRwRel (w : World) (xs ys : List Rw) (k : Nat) (i : Value) (wr : World) : Prop := ∃ j, j + k = xs.length ∧ i = .int .i64 (j : Int) ∧ xs.take j = ys.take j ∧ Below w.heap.size w wr
set_option maxHeartbeats 400000 in
theorem same_rows {w : World} {K K2 : Nat → Prop} {A A2 : Option Addr} {n n2 c c2 : Nat} {xs ys : List Rw} (h : Rws w K A xs) (h2 : Rws w K2 A2 ys) (hn : xs.length = n) (hn2 : ys.length = n2) (hm : n ≤ 1000000) :
    Calls Try.prog 7 #[.slice A n c, .slice A2 n2 c2] w fun e w' => e = .returned (.bool (decide (xs = ys))) ∧ Below w.heap.size w w' := by
  have H := Lib.hid h
  have H2 := Lib.hid h2
  have HN := Lib.hid hn
  have HN2 := Lib.hid hn2
  by_cases hl : n = n2
  · subst hl
    clear h h2 hn hn2
    go_enter Try.func7, Try.ntmps7
    go_wp2
    go_loopg [5] n (fun k i wr => SameRwRel w xs ys k i wr)
    case atStart => exact ⟨0, by rw [HN.out]; omega, rfl, rfl, Below.refl _ _⟩
    case round =>
      obtain ⟨j, hj, rfl, ht, hb⟩ := hrel
      have HT := Lib.hid ht
      have HB := Lib.hid hb
      have HJ := Lib.hid hj
      clear ht hb hj
      by_cases hlt : j < n
      · have hx : j < xs.length := by rw [HN.out]; exact hlt
        have hy : j < ys.length := by rw [HN2.out]; exact hlt
        obtain ⟨b, o, rfl, hc, hd⟩ := (H.out.below HB.out).at_ hx
        obtain ⟨b2, o2, rfl, hc2, hd2⟩ := (H2.out.below HB.out).at_ hy
        have hst : xs[j] = ys[j] → xs.take (j + 1) = ys.take (j + 1) := fun he => by
          rw [List.take_succ_eq_append_getElem hx, List.take_succ_eq_append_getElem hy, HT.out, he]
        have hne : xs[j] ≠ ys[j] → xs ≠ ys := fun he e => he (by subst e; rfl)
        have HST := Lib.hid hst
        have HNE := Lib.hid hne
        clear hst hne
        obtain ⟨k1, v1, e1⟩ : ∃ k v, xs[j] = (k, v) := ⟨_, _, rfl⟩
        obtain ⟨k2, v2, e2⟩ : ∃ k v, ys[j] = (k, v) := ⟨_, _, rfl⟩
        rw [e1] at hc hd HST HNE
        rw [e2] at hc2 hd2 HST HNE
        simp only at hc hd hc2 hd2
        clear e1 e2 hx hy
        by_cases hk : k1 = k2
        · subst hk
          by_cases hv : v1 = v2
          · subst hv
            go_wp2
            go_region
            go_wp2
            go_roundg (n - (j + 1))
            case measure => have := HJ.out; have := HN.out; omega
            case rel => exact ⟨j + 1, by have := HN.out; omega, by go_num, HST.out (by simp), HB.out.drew⟩
          · have hv2 : (v1.toList == v2.toList) = false := bytes_ne hv
            have HX := Lib.hid (HNE.out fun e => hv (congrArg Prod.snd e))
            clear hv HNE HST
            go_wp2
            go_region
            go_wp2
            go_ret
            exact ⟨by rw [decide_eq_false HX.out]; rfl, HB.out.drew⟩
        · have hk2 : (k1.toList == k2.toList) = false := bytes_ne hk
          have HX := Lib.hid (HNE.out fun e => hk (congrArg Prod.fst e))
          clear hk HNE HST
          go_wp2
          go_region
          go_wp2
          go_ret
          exact ⟨by rw [decide_eq_false HX.out]; rfl, HB.out.drew⟩
      · have e : xs = ys := by
          have h1 := HT.out
          have h2 := HN.out
          have h3 := HN2.out
          rwa [List.take_of_length_le (by omega), List.take_of_length_le (by omega)] at h1
        have E := Lib.hid e
        clear e
        go_wp2
        go_ret
        exact ⟨by rw [decide_eq_true E.out]; rfl, HB.out⟩
  · have hne : xs ≠ ys := fun e => by subst e; omega
    have HNE := Lib.hid hne
    clear h h2 hn hn2 hne
    go_enter Try.func7, Try.ntmps7
    go_wp2
    go_ret
    exact ⟨by rw [decide_eq_false HNE.out]; rfl, Below.refl _ _⟩
end Go.Proofs.Ytahfjdilfnjppaa
