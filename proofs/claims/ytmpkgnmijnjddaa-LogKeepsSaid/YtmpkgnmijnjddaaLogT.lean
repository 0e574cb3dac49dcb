/- What the statements' own helpers answer: num, text, and whether two rows of texts are the same. -/
import Derived.Test.YtmpkgnmijnjddaaLogO
namespace Go.Proofs.Ytmpkgnmijnjddaa
open Go.RowKit
theorem num_ (n : Int) (w : World) : Calls Try.prog 15 #[.int .i64 n] w fun e w' => e = .returned (.int .i64 n) ∧ w = w' := by
  go_enter Try.func15, Try.ntmps15
  go_wp2
  go_ret
  exact ⟨rfl, rfl⟩
def cutT (n : Int) : Nat := (min (max n 0) 700).toNat
theorem cut_ (n : Int) (w : World) : Calls Try.prog 26 #[.int .i64 n, .int .i64 0, .int .i64 700] w fun e w' => e = .returned (.int .i64 (cutT n : Int)) ∧ w = w' := by
  have h1 : ∀ m : Int, m = min (max n 0) 700 → (cutT n : Int) = m := fun m h => by unfold cutT; omega
  have H1 := Lib.hid h1
  clear h1
  rcases Int.lt_or_le n 0 with h0 | h0
  · rw [H1.out 0 (by omega)]
    go_enter Try.func26, Try.ntmps26
    go_wp2
    go_ret
    exact ⟨rfl, rfl⟩
  · rcases Int.lt_or_le 700 n with h2 | h2
    · rw [H1.out 700 (by omega)]
      go_enter Try.func26, Try.ntmps26
      go_wp2
      go_ret
      exact ⟨rfl, rfl⟩
    · rw [H1.out n (by omega)]
      go_enter Try.func26, Try.ntmps26
      go_wp2
      go_ret
      exact ⟨rfl, rfl⟩
def textB (n : Int) (c : Nat) : List UInt8 := List.replicate (cutT n) (UInt8.ofNat c)
theorem textB_len (n : Int) (c : Nat) : (textB n c).length = cutT n := by simp [textB]
theorem cutT_le (n : Int) : cutT n ≤ 700 := by unfold cutT; omega
set_option maxHeartbeats 400000 in
theorem text_ (n : Int) (c : Nat) (hc : c < 256) (w : World) : Calls Try.prog 14 #[.int .i64 n, .int .u8 (c : Int)] w fun e w' => e = .returned (.slice (some ⟨w.heap.size, 0, none⟩) (cutT n) (cutT n)) ∧ Blk w' w.heap.size 5 (cellsB (textB n c)).toArray ∧ Below w.heap.size w w' := by
  have hm := cutT_le n
  have hcut := cut_ n w
  have HB : Hid (textB n c = List.replicate (cutT n) (UInt8.ofNat c)) := rfl
  generalize textB n c = tb at *
  generalize cutT n = m at *
  have hmk := fun W => made5 m (by omega) W
  have HCUT := Lib.hid hcut
  clear hcut
  go_enter Try.func14, Try.ntmps14
  go_wp2_with (go_at_call 26; refine HCUT.out.mono ?_; rintro e w1 ⟨rfl, rfl⟩)
  go_loopw [6] (fun i wr => ∃ k : Nat, k ≤ m ∧ i = .int .i64 k ∧ wr = w.alloc (.cells (cellsB (List.replicate k (UInt8.ofNat c) ++ List.replicate (m - k) 0)).toArray 5)) (fun i _ => m - (intOf i).toNat)
  case atStart => exact ⟨0, Nat.zero_le _, rfl, by simp⟩
  case round =>
    obtain ⟨k, hk, rfl, rfl⟩ := hrel
    by_cases hlt : k < m
    · have hat := fill_at k m (UInt8.ofNat c) hlt
      go_wp2
      go_roundw
      case rel => exact ⟨k + 1, by omega, by go_num, by rw [fill_set k m c hc hlt]⟩
      case measure => simp [intOf]; omega
    · obtain rfl : k = m := by omega
      go_wp2
      go_ret
      refine ⟨rfl, ?_, alloc_below _ _⟩
      rw [HB.out]
      have := Blk.new w 5 (cellsB (List.replicate k (UInt8.ofNat c) ++ List.replicate (k - k) 0)).toArray
      simpa using this
def SameRel (w : World) (la lb : List (List UInt8)) (k : Nat) (i : Value) (wr : World) : Prop := ∃ j, j + k = la.length ∧ i = .int .i64 (j : Int) ∧ la.take j = lb.take j ∧ Below w.heap.size w wr
set_option maxHeartbeats 1000000 in
theorem same_ {w : World} {K K2 : Nat → Prop} {A A2 : Option Addr} {n n2 c c2 : Nat} {la lb : List (List UInt8)} (h : Lists w K (.slice A n c) la) (h2 : Lists w K2 (.slice A2 n2 c2) lb) (hm : n ≤ 100000) :
    Calls Try.prog 17 #[.slice A n c, .slice A2 n2 c2] w fun e w' => e = .returned (.bool (decide (la = lb))) ∧ Below w.heap.size w w' := by
  have H := Lib.hid h
  have H2 := Lib.hid h2
  have HN := Lib.hid h.len.symm
  have HN2 := Lib.hid h2.len.symm
  by_cases hl : n = n2
  · subst hl
    clear h h2
    go_enter Try.func17, Try.ntmps17
    go_wp2
    go_loopg [5] n (fun k i wr => SameRel w la lb k i wr)
    case atStart => exact ⟨0, by rw [HN.out]; omega, rfl, rfl, Below.refl _ _⟩
    case round =>
      obtain ⟨j, hj, rfl, ht, hb⟩ := hrel
      have HT := Lib.hid ht
      have HB := Lib.hid hb
      have HJ := Lib.hid hj
      clear ht hb hj
      by_cases hlt : j < n
      · obtain ⟨xs, hx⟩ := at_of_lt la j (by rw [HN.out]; exact hlt)
        obtain ⟨ys, hy⟩ := at_of_lt lb j (by rw [HN2.out]; exact hlt)
        obtain ⟨b, o, A', c', rfl, hc, hh, _⟩ := (H.out.below HB.out).at_ hx
        obtain ⟨b2, o2, A2', c2', rfl, hc2, hh2, _⟩ := (H2.out.below HB.out).at_ hy
        have HX := Lib.hid hx
        have HY := Lib.hid hy
        have hcv : ∀ W, Below wr.heap.size wr W → (convert 30 9 (.slice A' xs.length c')).run Try.prog W = .ok (.string ⟨xs.toArray⟩) W := fun W k => (hh.below k).str c'
        have hcv2 : ∀ W, Below wr.heap.size wr W → (convert 30 9 (.slice A2' ys.length c2')).run Try.prog W = .ok (.string ⟨ys.toArray⟩) W := fun W k => (hh2.below k).str c2'
        have hcA := hcv wr (Below.refl _ _)
        have hcB := hcv2 wr (Below.refl _ _)
        have hcC := hcv wr.drew (Below.refl _ _).drew
        have hcD := hcv2 wr.drew (Below.refl _ _).drew
        clear hx hy hh hh2 hcv hcv2
        go_wp2
        go_region
        by_cases he : xs = ys
        · have hst : la.take (j + 1) = lb.take (j + 1) := by
            rw [take_snoc' la j xs HX.out, take_snoc' lb j ys HY.out, HT.out, he]
          have HST := Lib.hid hst
          have hb : (xs == ys) = true := by simpa using he
          rw [hb]
          clear hst he hb
          go_wp2
          go_roundg (n - (j + 1))
          case measure => have := HJ.out; have := HN.out; omega
          case rel => exact ⟨j + 1, by have := HN.out; omega, by go_num, HST.out, HB.out.drew⟩
        · have hne : la ≠ lb := fun e => by
            have h1 := HX.out
            rw [e, HY.out] at h1
            exact he (Option.some.inj h1).symm
          have HNE := Lib.hid hne
          have hb : (xs == ys) = false := by simpa using he
          rw [hb]
          clear hne he hb
          go_wp2
          go_ret
          exact ⟨by rw [decide_eq_false HNE.out]; rfl, HB.out.drew⟩
      · have e : la = lb := by
          have h1 := HT.out
          have h2 := HN.out
          have h3 := HN2.out
          rwa [List.take_of_length_le (by omega), List.take_of_length_le (by omega)] at h1
        have E := Lib.hid e
        clear e
        go_wp2
        go_ret
        exact ⟨by rw [decide_eq_true E.out]; rfl, HB.out⟩
  · have hne : la ≠ lb := fun e => by
      subst e
      exact hl (HN.out.symm.trans HN2.out)
    have HNE := Lib.hid hne
    clear h h2 hne
    go_enter Try.func17, Try.ntmps17
    go_wp2
    go_ret
    exact ⟨by rw [decide_eq_false HNE.out]; rfl, Below.refl _ _⟩
end Go.Proofs.Ytmpkgnmijnjddaa
