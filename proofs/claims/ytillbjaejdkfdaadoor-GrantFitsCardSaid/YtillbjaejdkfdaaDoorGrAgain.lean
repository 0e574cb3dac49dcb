/- The law on what somebody has already. -/
import Derived.Test.YtillbjaejdkfdaaDoorGrY
import Derived.Test.YtillbjaejdkfdaaDoorOpenA
import Derived.Test.YtillbjaejdkfdaaDoorModR
set_option maxRecDepth 4000
namespace Go.Proofs.YtillbjaejdkfdaaDoor
open Go.RowKit
theorem mode_mem : ∀ {l : List Cl} {c : Cl}, (l.map (·.1)).Nodup → c ∈ l → modeP l c.1 = c.2
  | x :: l, c, hn, hc => by
    simp only [List.map_cons, List.nodup_cons] at hn
    unfold modeP
    rcases List.mem_cons.1 hc with rfl | h
    · simp [isW]
    · have hne : (x.1 == c.1) = false := by
        rw [beq_eq_false_iff_ne]
        intro e
        exact hn.1 (by rw [e]; exact List.mem_map.2 ⟨c, h, rfl⟩)
      have := mode_mem hn.2 h
      unfold modeP at this
      simp only [List.find?_cons, isW, hne]
      exact this
theorem again_ok {s : Lk} (h : Ok s) {x : Ho} (hx : x ∈ holdsP s) (h0 : x.2.2 = 0) {q : Nat} (hc : covB x.2.1 q = true) : askP s x.1 q = (true, s) := by
  by_cases hq : q = 0
  · exact ask_none hq
  · unfold holdsP at hx
    rcases List.mem_append.1 hx with hx | hx
    · obtain ⟨c, hc1, rfl⟩ := List.mem_map.1 hx
      simp only [holdsA] at h0 hc ⊢
      exact ask_has hq h0 (by rw [mode_mem h.ndH hc1]; exact hc)
    · obtain ⟨c, hc1, rfl⟩ := List.mem_map.1 hx
      have := (h.mL c (List.mem_filter.1 hc1).1).1
      simp only [holdsB] at h0
      omega
theorem holds_mode {s : Lk} (h : Ok s) {x : Ho} (hx : x ∈ holdsP s) : x.2.1 < 6 ∧ x.2.2 < 6 := by
  unfold holdsP at hx
  rcases List.mem_append.1 hx with hx | hx
  · obtain ⟨c, hc1, rfl⟩ := List.mem_map.1 hx
    exact ⟨(h.mH c hc1).2, mode_lt h.mL _⟩
  · obtain ⟨c, hc1, rfl⟩ := List.mem_map.1 hx
    exact ⟨by simp [holdsB], (h.mL c (List.mem_filter.1 hc1).1).2⟩
theorem holds_total (s : Lk) : (holdsP s).length ≤ total s := by
  unfold holdsP total
  rw [List.length_append, List.length_map, List.length_map]
  have := List.length_filter_le (fun c : Cl => modeP s.1 c.1 == 0) s.2
  omega
def Played (w : World) (b n k : Nat) (i : Value) (wr : World) : Prop := ∃ j s, j + k = n ∧ i = .int .i64 (j : Int) ∧ total s ≤ j ∧ G w b s wr
def Looked (w w1 : World) (b n : Nat) (s : Lk) (k : Nat) (i : Value) (wr : World) : Prop := ∃ j, j + k = n ∧ i = .int .i64 (j : Int) ∧ G w b s wr ∧ Below w1.heap.size w1 wr
set_option maxHeartbeats 1000000 in
theorem grantAgain {A : Option Addr} {n c : Nat} {xs : List Ac3} (w : World) (ha : Acts w A n xs) (who m : Int) (hT : Tab w) : Calls Tryd.prog 7 #[.slice A n c, .int .i64 who, .int .i64 m] w fun e w' => e = .returned (.bool true) ∧ Below w.heap.size w w' := by
  have hal := galive_ w hT
  have HA := Lib.hid hal
  have HT := Lib.hid hT
  have HAC := Lib.hid ha
  clear hal hT ha
  by_cases h1 : (60 : Int) < (n : Int)
  · go_enter Tryd.func7, Tryd.ntmps7
    go_wp2_with (go_at_call 8; refine HA.out.mono ?_; rintro e w1 ⟨rfl, hb1⟩)
    go_ret
    exact ⟨rfl, hb1⟩
  have hn : n ≤ 60 := by omega
  go_enter Tryd.func7, Tryd.ntmps7
  go_wp2_with (go_at_call 8; refine HA.out.mono ?_; rintro e w1 ⟨rfl, hb1⟩; have G1 := Lib.hid (G.new (HT.out.below hb1) hb1); clear hb1)
  generalize w1.alloc (.cells #[.slice none 0 0, .slice none 0 0] 27) = w2 at *
  generalize w1.heap.size = b at *
  go_loopg [9] n (fun k i wr => Played w b n k i wr)
  case atStart => exact ⟨0, ([], []), by omega, rfl, by simp [total], G1.out⟩
  case round =>
    obtain ⟨j, s, hj, rfl, hts, g⟩ := hrel
    have HJ := Lib.hid hj
    have HG := Lib.hid g
    have HTS := Lib.hid hts
    clear hj g hts
    by_cases hlt : j < n
    · have hx : j < xs.length := by rw [HAC.out.1]; exact hlt
      obtain ⟨ga, oa, rfl, hga, d0, d1, d2⟩ := (HAC.out.below HG.out.below).2.atA hx
      have hask := (HG.out.next (Below.refl wr.heap.size wr).drew).ask (by have := HTS.out; omega) (xs[j]).2.1 (xs[j]).2.2
      have hdrop := HG.out.drop (by have := HTS.out; omega) (xs[j]).2.1
      have hta := ask_total s (xs[j]).2.1 (mdN (xs[j]).2.2)
      have htd := drop_total s (xs[j]).2.1
      generalize (xs[j]).1 = way at *
      generalize (xs[j]).2.1 = aw at *
      generalize (xs[j]).2.2 = am at *
      have HASK := Lib.hid hask
      have HDROP := Lib.hid hdrop
      have HTA := Lib.hid hta
      have HTD := Lib.hid htd
      clear hask hdrop hta htd
      by_cases hway : way = 1
      · subst hway
        go_wp2_with fail
        refine HDROP.out.mono ?_
        rintro e w3 ⟨v, rfl, _, g3, _⟩
        have G3 := Lib.hid g3
        clear g3
        go_wp2_with fail
        go_roundg (n - (j + 1))
        case measure => have := HJ.out; omega
        case rel => exact ⟨j + 1, _, by omega, by go_num, Nat.le_trans HTD.out (Nat.le_trans HTS.out (by omega)), G3.out⟩
      · have hwn : (way == 1) = false := by simpa using hway
        go_wp2_with fail
        refine wp_region_still_tail 11 (by kernel_rfl) (by kernel_rfl) ?_
        simp only [List.take_succ_cons, List.take_zero, List.drop_succ_cons, List.drop_zero]
        repeat still_step
        refine wpStill_nil ?_
        go_wp2_with fail
        refine HASK.out.mono ?_
        rintro e w3 ⟨rfl, g3, _⟩
        have G3 := Lib.hid g3
        clear g3
        go_wp2_with fail
        go_roundg (n - (j + 1))
        case measure => have := HJ.out; omega
        case rel => exact ⟨j + 1, _, by omega, by go_num, Nat.le_trans HTA.out (by have := HTS.out; omega), G3.out⟩
    · have hjn : j = n := by have := HJ.out; omega
      have hh := HG.out.holds (by have := HTS.out; omega)
      have HH := Lib.hid hh
      clear hh HJ
      subst hjn
      go_wp2_with fail
      refine HH.out.mono ?_
      rintro e w3 ⟨v, rfl, ho, g3, _⟩
      obtain ⟨A3, c3, rfl, hl3, _, _, _⟩ := own_lst ho
      have hlen := holds_total s
      have hbl := HG.out.lock.lt
      have HO := Lib.hid (hl3.more (K' := fun i => i ≠ b) fun i _ hi => by have := hi.1; omega)
      have G3 := Lib.hid g3
      have HLE := Lib.hid hlen
      clear ho hl3 g3 hlen HH HG hbl
      generalize hN : (holdsP s).length = N at *
      have HN := Lib.hid hN
      have hN1 : N ≤ 60 := Nat.le_trans HLE.out (Nat.le_trans HTS.out hn)
      clear hN
      go_wp2_with fail
      go_loopg [11] N (fun k i wr => Looked w w3 b N s k i wr)
      case atStart => exact ⟨0, by omega, rfl, G3.out, Below.refl _ _⟩
      case round =>
        obtain ⟨i, hi, rfl, g, hb⟩ := hrel
        have HI := Lib.hid hi
        have HG := Lib.hid g
        have HB := Lib.hid hb
        clear hi g hb
        have ht9 : total s ≤ 9000 := by have := HTS.out; omega
        by_cases hlt2 : i < N
        · have hx : i < (holdsP s).length := by rw [HN.out]; exact hlt2
          obtain ⟨g3, o3, rfl, _, d0, d1, d2⟩ := (HO.out.below HB.out).atH hx
          have hmem := List.getElem_mem hx
          have hmo := holds_mode HG.out.ok hmem
          have hag := fun h0 hc => again_ok HG.out.ok hmem h0 (q := mdN m) hc
          obtain ⟨x, hxx⟩ : ∃ x, (holdsP s)[i] = x := ⟨_, rfl⟩
          rw [hxx] at d0 d1 d2 hmo hag
          clear hmem hxx
          obtain ⟨x1, x2, x3⟩ := x
          simp only at d0 d1 d2 hmo hag
          have HAG := Lib.hid hag
          clear hag
          by_cases hw : x1 = who
          · subst hw
            by_cases hz : x3 = 0
            · subst hz
              have hcv := ref_covers (x2 : Int) m wr
              rw [mdN_of hmo.1] at hcv
              have HCV := Lib.hid hcv
              clear hcv
              generalize hcc : covB x2 (mdN m) = cb at *
              go_wp2_with fail
              refine HCV.out.mono ?_
              rintro e w4 ⟨rfl, hb4⟩
              have G4 := Lib.hid (HG.out.next hb4)
              have HB4 := Lib.hid (HB.out.trans (hb4.mono HB.out.size))
              clear hb4
              cases cb
              · go_wp2_with fail
                go_roundg (N - (i + 1))
                case measure => have := HI.out; omega
                case rel => exact ⟨i + 1, by omega, by go_num, G4.out, HB4.out⟩
              · have ha := G4.out.ask ht9 x1 m
                rw [HAG.out (by simp) (by simp)] at ha
                have HAS := Lib.hid ha
                clear ha
                go_wp2_with fail
                refine HAS.out.mono ?_
                rintro e w5 ⟨rfl, g5, k5⟩
                have hh := g5.holds ht9
                have HH := Lib.hid hh
                have L5 := Lib.hid ((HO.out.below HB4.out).keep k5 fun i _ _ hi => hi)
                clear hh g5 k5
                go_wp2_with fail
                refine HH.out.mono ?_
                rintro e w6 ⟨v6, rfl, ho6, g6, hb6⟩
                obtain ⟨A6, c6, rfl, hl6, _, _, _⟩ := own_lst ho6
                have hsm := same_holds (c := c6) (c' := c3) hl6 HN.out (L5.out.below hb6) HN.out (by omega) (by omega)
                rw [show decide (holdsP s = holdsP s) = true by simp] at hsm
                rw [HN.out]
                have HSM := Lib.hid hsm
                have HB6 := Lib.hid g6.below
                clear ho6 hl6 g6 hb6 hsm
                go_wp2_with fail
                refine HSM.out.mono ?_
                rintro e w7 ⟨rfl, hb7⟩
                go_wp2_with fail
                go_ret
                exact ⟨rfl, HB6.out.trans (hb7.mono HB6.out.size)⟩
            · have hzn : ((x3 : Int) == 0) = false := by rw [beq_eq_false_iff_ne]; omega
              go_wp2_with fail
              go_roundg (N - (i + 1))
              case measure => have := HI.out; omega
              case rel => exact ⟨i + 1, by omega, by go_num, HG.out, HB.out⟩
          · have hwn : (x1 == who) = false := by simpa using hw
            go_wp2_with fail
            go_roundg (N - (i + 1))
            case measure => have := HI.out; omega
            case rel => exact ⟨i + 1, by omega, by go_num, HG.out, HB.out⟩
        · have ha := HG.out.ask ht9 who 0
          rw [show mdN 0 = 0 by decide, ask_none rfl] at ha
          have HAS := Lib.hid ha
          clear ha
          go_wp2_with fail
          refine HAS.out.mono ?_
          rintro e w5 ⟨rfl, g5, k5⟩
          have hh := g5.holds ht9
          have HH := Lib.hid hh
          have L5 := Lib.hid ((HO.out.below HB.out).keep k5 fun i _ _ hi => hi)
          clear hh g5 k5
          go_wp2_with fail
          refine HH.out.mono ?_
          rintro e w6 ⟨v6, rfl, ho6, g6, hb6⟩
          obtain ⟨A6, c6, rfl, hl6, _, _, _⟩ := own_lst ho6
          have hsm := same_holds (c := c6) (c' := c3) hl6 HN.out (L5.out.below hb6) HN.out (by omega) (by omega)
          rw [show decide (holdsP s = holdsP s) = true by simp] at hsm
          rw [HN.out]
          have HSM := Lib.hid hsm
          have HB6 := Lib.hid g6.below
          clear ho6 hl6 g6 hb6 hsm
          go_wp2_with fail
          refine HSM.out.mono ?_
          rintro e w7 ⟨rfl, hb7⟩
          go_wp2_with fail
          go_ret
          exact ⟨rfl, HB6.out.trans (hb7.mono HB6.out.size)⟩
end Go.Proofs.YtillbjaejdkfdaaDoor
