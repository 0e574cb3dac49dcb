/- The law on who wants more. -/
import Derived.Test.YtillbjaejdkfdaaDoorGrB
import Derived.Test.YtillbjaejdkfdaaDoorGrM
import Derived.Laws.StructEq
set_option maxRecDepth 4000
namespace Go.Proofs.YtillbjaejdkfdaaDoor
open Go.RowKit
theorem lsC_length (k : Nat) (o : Int) (m : Nat) : (lsC k o m).length = k := by simp [lsC]
theorem stM_total {n m k : Nat} (hn : n ≤ 20) (hm : m ≤ 20) : total (stM n m k) ≤ 9000 := by
  unfold stM total
  split <;> simp [lsC_length] <;> omega
def R1 (w : World) (b N k : Nat) (i : Value) (wr : World) : Prop := ∃ j, j + k = N ∧ i = .int .i64 (j : Int) ∧ G w b (lsC j 0 3, []) wr
def R2 (w : World) (b N M k : Nat) (i : Value) (wr : World) : Prop := ∃ j, j + k = M ∧ i = .int .i64 (j : Int) ∧ G w b (lsC N 0 3, lsC j 100 5) wr
def R3 (w : World) (b N M k : Nat) (i : Value) (wr : World) : Prop := ∃ j, j + k = N - 1 ∧ i = .int .i64 ((j + 1 : Nat) : Int) ∧ G w b (stM N M j) wr
set_option maxHeartbeats 1000000 in
theorem grantMore (n m : Int) (w : World) (hT : Tab w) : Calls Tryd.prog 6 #[.int .i64 n, .int .i64 m] w fun e w' => e = .returned (.bool true) ∧ Below w.heap.size w w' := by
  have hal := galive_ w hT
  have HA := Lib.hid hal
  have HT := Lib.hid hT
  clear hal hT
  by_cases h1 : n < 1
  · go_enter Tryd.func6, Tryd.ntmps6
    go_wp2_with (go_at_call 8; refine HA.out.mono ?_; rintro e w1 ⟨rfl, hb1⟩)
    go_ret
    exact ⟨rfl, hb1⟩
  by_cases h2 : 20 < n
  · go_enter Tryd.func6, Tryd.ntmps6
    go_wp2_with (go_at_call 8; refine HA.out.mono ?_; rintro e w1 ⟨rfl, hb1⟩)
    go_ret
    exact ⟨rfl, hb1⟩
  by_cases h3 : m < 0
  · go_enter Tryd.func6, Tryd.ntmps6
    go_wp2_with (go_at_call 8; refine HA.out.mono ?_; rintro e w1 ⟨rfl, hb1⟩)
    go_ret
    exact ⟨rfl, hb1⟩
  by_cases h4 : 20 < m
  · go_enter Tryd.func6, Tryd.ntmps6
    go_wp2_with (go_at_call 8; refine HA.out.mono ?_; rintro e w1 ⟨rfl, hb1⟩)
    go_ret
    exact ⟨rfl, hb1⟩
  obtain ⟨N, rfl⟩ : ∃ N : Nat, n = N := ⟨n.toNat, by omega⟩
  obtain ⟨M, rfl⟩ : ∃ M : Nat, m = M := ⟨m.toNat, by omega⟩
  have hN : N ≤ 20 := by omega
  have hN0 : 0 < N := by omega
  have hM : M ≤ 20 := by omega
  have hc : ((N : Int) == 1) = (N == 1) := by
    by_cases h : N = 1
    · subst h; rfl
    · rw [beq_eq_false_iff_ne.2 h, beq_eq_false_iff_ne.2 (by omega)]
  go_enter Tryd.func6, Tryd.ntmps6
  go_wp2_with (go_at_call 8; refine HA.out.mono ?_; rintro e w1 ⟨rfl, hb1⟩; have G1 := Lib.hid (G.new (HT.out.below hb1) hb1); clear hb1)
  generalize w1.alloc (.cells #[.slice none 0 0, .slice none 0 0] 27) = w2 at *
  generalize w1.heap.size = b at *
  go_loopg [7] N (fun k i wr => R1 w b N k i wr)
  case atStart => exact ⟨0, by omega, rfl, G1.out⟩
  case round =>
    obtain ⟨j, hj, rfl, g⟩ := hrel
    have HJ := Lib.hid hj
    have HG := Lib.hid g
    clear hj g
    by_cases hlt : j < N
    · have ha := HG.out.ask (by unfold total; rw [lsC_length]; simp; omega) (j : Int) 3
      rw [show mdN 3 = 3 by decide, more1 (by omega)] at ha
      have HAS := Lib.hid ha
      clear ha
      go_wp2_with (go_at_call 9; refine HAS.out.mono ?_; rintro e w3 ⟨rfl, g3, _⟩)
      go_roundg (N - (j + 1))
      case measure => have := HJ.out; omega
      case rel => exact ⟨j + 1, by omega, by go_num, g3⟩
    · obtain rfl : j = N := by have := HJ.out; omega
      clear HJ
      go_wp2_with fail
      go_loopg [8] M (fun k i wr => R2 w b j M k i wr)
      case atStart => exact ⟨0, by omega, rfl, HG.out⟩
      case round =>
        clear HG
        obtain ⟨i, hi, rfl, g⟩ := hrel
        have HI := Lib.hid hi
        have HG := Lib.hid g
        clear hi g
        by_cases hlt2 : i < M
        · have ha := HG.out.ask (by unfold total; rw [lsC_length, lsC_length]; omega) ((100 + i : Nat) : Int) 5
          rw [show mdN 5 = 5 by decide, more2 hN0 hN (by omega)] at ha
          rw [show ((100 + i : Nat) : Int) = 100 + (i : Int) by omega] at ha
          have HAS := Lib.hid ha
          clear ha
          go_wp2_with (go_at_call 9; refine HAS.out.mono ?_; rintro e w3 ⟨rfl, g3, _⟩)
          go_roundg (M - (i + 1))
          case measure => have := HI.out; omega
          case rel => exact ⟨i + 1, by omega, by go_num, g3⟩
        · obtain rfl : i = M := by have := HI.out; omega
          have ha := HG.out.ask (by unfold total; rw [lsC_length, lsC_length]; omega) 0 5
          rw [show mdN 5 = 5 by decide, more3 hN0 hN hM] at ha
          simp only at ha
          rw [← hc] at ha
          have HAS := Lib.hid ha
          clear ha hc HI
          go_wp2_with (go_at_call 9; refine HAS.out.mono ?_; rintro e w3 ⟨rfl, g3, _⟩; have G3 := Lib.hid g3; clear g3)
          clear HG
          go_loopg [9, 10] (j - 1) (fun k q _ wr => R3 w b j i k q wr)
          case atStart => exact ⟨0, by omega, rfl, G3.out⟩
          case round =>
            clear G3
            obtain ⟨q, hq, rfl, g⟩ := hrel
            have HQ := Lib.hid hq
            have HG := Lib.hid g
            clear hq g
            by_cases hlt3 : q + 1 < j
            · have hd := HG.out.drop (stM_total hN hM) ((q + 1 : Nat) : Int)
              rw [more4 hN hM hlt3] at hd
              simp only at hd
              have HD := Lib.hid hd
              clear hd
              have hl : ((q + 1 : Nat) : Int) < (j : Int) := by omega
              by_cases hlast : q + 2 = j
              · have e1 : (((q + 1 : Nat) : Int) == (j : Int) - 1) = true := by rw [beq_iff_eq]; omega
                have e2 : ¬ ((q + 1 : Nat) : Int) < (j : Int) - 1 := by omega
                go_wp2_with fail
                refine HD.out.mono ?_
                rintro e w4 ⟨v, rfl, ho, g4, _⟩
                rw [show (q + 2 == j) = true by simpa using hlast, if_pos rfl] at ho
                obtain ⟨A, c, rfl, hl4, _⟩ := own_ints ho
                obtain ⟨gg, o, rfl, _, d0⟩ := hl4.atI (j := 0) (by simp)
                simp only [List.getElem_cons_zero, Nat.add_zero] at d0
                have HG4 := Lib.hid g4
                clear ho hl4 g4
                simp only [List.length_singleton]
                go_wp2_with fail
                go_roundg (j - 1 - (q + 1))
                case measure => have := HQ.out; omega
                case rel => exact ⟨q + 1, by omega, by go_num, HG4.out⟩
              · have e1 : (((q + 1 : Nat) : Int) == (j : Int) - 1) = false := by rw [beq_eq_false_iff_ne]; omega
                have e2 : ((q + 1 : Nat) : Int) < (j : Int) - 1 := by omega
                go_wp2_with fail
                refine HD.out.mono ?_
                rintro e w4 ⟨v, rfl, ho, g4, _⟩
                rw [show (q + 2 == j) = false by simpa using hlast, if_neg (by simp)] at ho
                obtain ⟨A, c, rfl, hl4, _⟩ := own_ints ho
                have HG4 := Lib.hid g4
                clear ho hl4 g4
                simp only [List.length_nil]
                go_wp2_with fail
                go_roundg (j - 1 - (q + 1))
                case measure => have := HQ.out; omega
                case rel => exact ⟨q + 1, by omega, by go_num, HG4.out⟩
            · have hq1 : q = j - 1 := by have := HQ.out; omega
              have hnl : ¬ ((q + 1 : Nat) : Int) < (j : Int) := by omega
              have hg := HG.out
              rw [hq1, stM_last hN0] at hg
              have ht : total ([(0, 5)], lsC i 100 5) ≤ 9000 := by unfold total; rw [lsC_length]; simp; omega
              have hh := hg.holds ht
              have HH := Lib.hid hh
              clear HG hg hh
              go_wp2_with fail
              refine HH.out.mono ?_
              rintro e w5 ⟨v, rfl, ho, g5, _⟩
              obtain ⟨m1, m2⟩ := more5 hM
              obtain ⟨A, c, e5, hl5, _, _, _⟩ := own_lst ho
              rw [m1] at e5
              subst e5
              obtain ⟨hl0, hx0⟩ := List.getElem?_eq_some_iff.1 m2
              obtain ⟨gg, o, rfl, _, d0, d1, d2⟩ := hl5.atH (j := 0) hl0
              rw [hx0] at d0 d1 d2
              simp only [Nat.zero_mul, Nat.add_zero] at d0 d1 d2
              have hdr := g5.drop ht 0
              rw [more6 hM] at hdr
              have HDR := Lib.hid hdr
              clear ho hl5 g5 hdr m2 hx0 hl0
              go_wp2_with fail
              refine HDR.out.mono ?_
              rintro e w6 ⟨v, rfl, ho, g6, _⟩
              have HB := Lib.hid g6.below
              clear g6
              by_cases hm0 : i = 0
              · rw [show (i == 0) = true by simpa using hm0, if_pos rfl] at ho
                obtain ⟨A6, c6, rfl, _, _⟩ := own_ints ho
                subst hm0
                clear ho
                simp only [List.length_nil]
                go_wp2_with fail
                go_ret
                exact ⟨rfl, HB.out⟩
              · rw [show (i == 0) = false by simpa using hm0, if_neg (by simp)] at ho
                obtain ⟨A6, c6, rfl, hl6, _⟩ := own_ints ho
                obtain ⟨g6, o6, rfl, _, r0⟩ := hl6.atI (j := 0) (by simp)
                simp only [List.getElem_cons_zero, Nat.add_zero] at r0
                have hmi : ¬ ((i : Int) = 0) := by omega
                have hmp : (0 : Int) < (i : Int) := by omega
                clear ho hl6
                simp only [List.length_singleton]
                go_wp2_with fail
                go_ret
                exact ⟨rfl, HB.out⟩
end Go.Proofs.YtillbjaejdkfdaaDoor
