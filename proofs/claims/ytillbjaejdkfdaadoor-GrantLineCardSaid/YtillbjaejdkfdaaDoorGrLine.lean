/- The law on those that wait. -/
import Derived.Test.YtillbjaejdkfdaaDoorGrLp
import Derived.Test.YtillbjaejdkfdaaDoorOpenB
set_option maxRecDepth 4000
namespace Go.Proofs.YtillbjaejdkfdaaDoor
open Go.RowKit
/-- numbers that a call has answered, behind an empty row -/
theorem append_first {W : World} {base : Nat} {v : Value} {l : List Int} (ho : Own W base eI 3 v l) (hn : l.length ≤ 100000) :
    ∃ v' W', (Builtin.append_ #[36, 36] 36 #[.slice none 0 0, v]).run Tryd.prog W = .ok v' W' ∧ Own W' W.heap.size eI 3 v' l ∧ Below W.heap.size W W' ∧ (l = [] → v' = .slice none 0 0) := by
  obtain ⟨A, c, e, hl, _, _, _⟩ := own_lst ho
  subst e
  by_cases h0 : l = []
  · subst h0
    refine ⟨.slice none 0 0, W, ?_, own_nil _ _, Below.refl _ _, fun _ => rfl⟩
    obtain ⟨z, bb, hi0, hzc, hbb⟩ := tyI.info
    obtain ⟨i0, hi, hz0, hz1, hz2⟩ := info_parts hi0
    rcases A with _ | a
    · simp [Builtin.append_, run_underlying tyI.und, sizeOf, typeInfo, hi, Builtin.lenOf, Builtin.firstCells]
    · simp [Builtin.append_, run_underlying tyI.und, sizeOf, typeInfo, hi, Builtin.lenOf, Builtin.firstCells, loadCells, loadCellsFrom]
  · obtain ⟨v', W', hap, ho', hg', _⟩ := append_own tyI (own_nil W W.heap.size) hl rfl c (by show 0 + l.length ≤ _; omega) (Nat.le_refl _)
    exact ⟨v', W', hap, ho', (Below.refl _ _).grown hg' (Nat.le_refl _) (fun g hg => by simp [Value.ownBlock] at hg), fun h => absurd h h0⟩
def L1 (w : World) (b : Nat) (l : List Bool) (n k : Nat) (i : Value) (wr : World) : Prop := ∃ j, j + k = n ∧ i = .int .i64 (j : Int) ∧ G w b (stL l j) wr
def L2 (w : World) (b : Nat) (l : List Bool) (k : Nat) (who nx : Value) (wr : World) : Prop :=
  ∃ q H A c, (l.length - q) * 32 + H.length = k ∧ who = .slice A H.length c ∧ Lst wr (fun i => i ≠ b) eI A (H.map (·.1)) ∧ nx = .int .i64 (q : Int) ∧ G w b (H, itP q (l.drop q)) wr ∧ Turn l q H
def L3 (w w0 : World) (b : Nat) (l : List Bool) (q : Nat) (H : List Cl) (k : Nat) (all i : Value) (wr : World) : Prop :=
  ∃ j, j + k = H.length ∧ i = .int .i64 (j : Int) ∧ Own wr w0.heap.size eI 3 all (afterP l q H j).1 ∧ (j < H.length → all = .slice none 0 0) ∧ G w b (afterP l q H j).2 wr ∧ Keep (fun i _ => i ≠ b) w0 wr
def L4 (w0 : World) (N q k : Nat) (nx i : Value) (wr : World) : Prop := ∃ j, j + k = N ∧ i = .int .i64 (j : Int) ∧ nx = .int .i64 ((q + j : Nat) : Int) ∧ Below w0.heap.size w0 wr
theorem stL_total (l : List Bool) (j : Nat) : total (stL l j) ≤ l.length + 1 := by
  unfold total stL
  simp only [itP_length, List.length_take, List.length_cons, List.length_nil]
  omega
set_option maxHeartbeats 1000000 in
theorem grantLine {A : Option Addr} {n c : Nat} {xs : List Bool} (w : World) (ha : Bools w A n xs) (hT : Tab w) : Calls Tryd.prog 5 #[.slice A n c] w fun e w' => e = .returned (.bool true) ∧ Below w.heap.size w w' := by
  have hal := galive_ w hT
  have HA := Lib.hid hal
  have HT := Lib.hid hT
  have HAC := Lib.hid ha
  clear hal hT ha
  by_cases h1 : (30 : Int) < (n : Int)
  · go_enter Tryd.func5, Tryd.ntmps5
    go_wp2_with (go_at_call 8; refine HA.out.mono ?_; rintro e w1 ⟨rfl, hb1⟩)
    go_ret
    exact ⟨rfl, hb1⟩
  have hn : n ≤ 30 := by omega
  have hx30 : xs.length ≤ 30 := by have := HAC.out.1; omega
  go_enter Tryd.func5, Tryd.ntmps5
  go_wp2_with (go_at_call 8; refine HA.out.mono ?_; rintro e w1 ⟨rfl, hb1⟩; have G1 := Lib.hid (G.new (HT.out.below hb1) hb1); clear hb1)
  generalize w1.alloc (.cells #[.slice none 0 0, .slice none 0 0] 27) = w2 at *
  generalize w1.heap.size = b at *
  have hask := G1.out.ask (by simp [total]) 100 5
  rw [show mdN 5 = 5 by decide, ask_first] at hask
  have HASK := Lib.hid hask
  clear hask
  go_wp2_with fail
  refine HASK.out.mono ?_
  rintro e w3 ⟨rfl, g3, _⟩
  have G3 := Lib.hid g3
  clear g3 HASK G1
  go_wp2_with fail
  go_loopg [5, 6] n (fun k i _ wr => L1 w b xs n k i wr)
  case atStart => exact ⟨0, by omega, rfl, G3.out⟩
  case round =>
    obtain ⟨j, hj, rfl, g⟩ := hrel
    have HJ := Lib.hid hj
    have HG := Lib.hid g
    clear hj g
    by_cases hlt : j < n
    · have hx : j < xs.length := by rw [HAC.out.1]; exact hlt
      obtain ⟨ga, oa, rfl, _, hga, d0⟩ := (HAC.out.below HG.out.below).2.atB hx
      have htot : total (stL xs j) ≤ 9000 := by have := stL_total xs j; omega
      have hl := ask_line hx hx30
      have HL := Lib.hid hl
      cases hb : xs[j] with
      | true =>
        rw [hb] at d0
        have hask := HG.out.ask htot (j : Int) 5
        rw [show mdN 5 = mdL true by decide, ← hb, HL.out] at hask
        have HASK := Lib.hid hask
        clear hask hl
        go_wp2_with fail
        refine HASK.out.mono ?_
        rintro e w4 ⟨rfl, g4, _⟩
        have G4 := Lib.hid g4
        clear g4
        go_wp2_with fail
        go_roundg (n - (j + 1))
        case measure => have := HJ.out; omega
        case rel => exact ⟨j + 1, by omega, by go_num, G4.out⟩
      | false =>
        rw [hb] at d0
        have hask := HG.out.ask htot (j : Int) 3
        rw [show mdN 3 = mdL false by decide, ← hb, HL.out] at hask
        have HASK := Lib.hid hask
        clear hask hl
        go_wp2_with fail
        refine HASK.out.mono ?_
        rintro e w4 ⟨rfl, g4, _⟩
        have G4 := Lib.hid g4
        clear g4
        go_wp2_with fail
        go_roundg (n - (j + 1))
        case measure => have := HJ.out; omega
        case rel => exact ⟨j + 1, by omega, by go_num, G4.out⟩
    · have hjn : j = n := by have := HJ.out; omega
      subst hjn
      have g := HG.out
      have e0 : stL xs j = ([((100 : Int), 5)], itP 0 (xs.drop 0)) := by
        unfold stL
        rw [List.drop_zero, List.take_of_length_le (by have := HAC.out.1; omega)]
      rw [e0] at g
      have G4 := Lib.hid g
      clear g e0 HG HJ G3
      go_wp2_with fail
      go_loopg [7, 8, 9, 10, 11] (j * 32 + 1) (fun k who nx _ _ _ wr => L2 w b xs k who nx wr)
      case atStart =>
        have hal := alloc_below wr (.cells #[.int .i64 100] 3)
        have hbl : b < wr.heap.size := by
          obtain ⟨_, _, h2, _⟩ := G4.out.lock
          exact h2.lt
        refine ⟨0, [(100, 5)], some ⟨wr.heap.size, 0, none⟩, 1, by have := HAC.out.1; simp; omega, rfl, fun _ => ⟨_, 0, rfl, by omega, by simp, fun z u hu => ?_⟩, rfl, G4.out.next hal, turn_first hx30⟩
        rw [(Blk.new wr 3 _).cell, Nat.zero_add]
        simpa [cellsE, eI] using hu
      case round =>
        clear G4
        obtain ⟨wo, hwo⟩ : ∃ x, x = wr := ⟨_, rfl⟩
        subst hwo
        obtain ⟨q, H, A7, c7, hk, rfl, hl7, rfl, g, t⟩ := hrel
        have HK := Lib.hid hk
        have HL7 := Lib.hid hl7
        have HG := Lib.hid g
        have HTN := Lib.hid t
        have h31 : H.length ≤ 31 := t.few
        have hq30 : q ≤ j := by have := t.le; have := HAC.out.1; omega
        clear hk hl7 g t
        rcases Nat.eq_zero_or_pos H.length with h0 | h0
        · have hH : H = [] := List.eq_nil_of_length_eq_zero h0
          subst hH
          have hq := HTN.out.last rfl
          have hqj : q = j := by have := HAC.out.1; omega
          have hh := HG.out.holds (by simp [total, itP_length]; omega)
          rw [holds_end q hq] at hh
          have HH := Lib.hid hh
          clear hh HK HL7 HTN hq
          subst hqj
          clear HG
          go_wp2_with fail
          refine HH.out.mono ?_
          rintro e w4 ⟨v4, rfl, ho4, g4, _⟩
          obtain ⟨A4, c4, rfl, _⟩ := own_lst ho4
          have HB := Lib.hid g4.below
          clear ho4 g4 HH
          go_wp2_with fail
          go_ret
          exact ⟨rfl, HB.out⟩
        · have hHne : H ≠ [] := fun e => by subst e; simp at h0
          go_wp2_with fail
          go_loopg [9, 10] H.length (fun k all i W => L3 w wo b xs q H k all i W)
          case atStart =>
            have g := HG.out
            refine ⟨0, by omega, rfl, ?_, fun _ => rfl, ?_, Keep.refl _⟩
            · rw [after_zero hHne]; exact own_nil _ _
            · rw [after_zero hHne]; exact g
          case round =>
            obtain ⟨i, hi, rfl, ho, hnone, g, hkp⟩ := hrel
            have HI := Lib.hid hi
            have HO := Lib.hid ho
            have HG2 := Lib.hid g
            have HKP := Lib.hid hkp
            have HNO := Lib.hid hnone
            clear hi ho g hkp hnone
            by_cases hlt : i < H.length
            · have hx := (HL7.out.keep HKP.out (fun _ _ _ h => h)).atI (j := i) (by rw [List.length_map]; exact hlt)
              rw [List.getElem_map] at hx
              obtain ⟨b7, o7, rfl, hb7, d0⟩ := hx
              obtain rfl := HNO.out hlt
              have hd := HG2.out.drop (Nat.le_trans (after_total HTN.out hlt) (by omega)) (H[i]).1
              rw [after_step HTN.out hlt] at hd
              have HD := Lib.hid hd
              generalize (H[i]).1 = who at *
              clear hd HO HNO
              go_wp2_with fail
              refine HD.out.mono ?_
              rintro e w4 ⟨v4, rfl, ho4, g4, hk4⟩
              obtain ⟨v5, w5, hap, ho5, hb5, hno5⟩ := append_first ho4 (Nat.le_trans (after_len HTN.out (i + 1)) (by omega))
              have HAP := Lib.hid hap
              have HG5 := Lib.hid (g4.next hb5)
              have HK5 := Lib.hid (HKP.out.trans (hk4.trans (Keep.of_below hb5)))
              have HO5 := Lib.hid (own_base (base' := wo.heap.size) ho5 (Nat.le_trans HKP.out.size hk4.size))
              have HN5 := Lib.hid hno5
              clear ho4 g4 hk4 hap ho5 hb5 hno5 HG2 HKP HD hb7 d0
              go_wp2_with (at_builtin; refine wpList_append_run rfl (.tmp 50) (.tmp 56) 36 36 rfl _ _ rfl rfl HAP.out ?_)
              go_roundg (H.length - (i + 1))
              case measure => have := HI.out; omega
              case rel => exact ⟨i + 1, by omega, by go_num, HO5.out, fun h => HN5.out (after_one h), HG5.out, HK5.out⟩
            · have hie : i = H.length := by have := HI.out; omega
              subst hie
              have ho := HO.out
              have g := HG2.out
              rw [after_all, all_in] at ho g
              obtain ⟨A9, c9, rfl, hl9, _, _, _⟩ := own_lst ho
              have hbo : b < wo.heap.size := by
                obtain ⟨_, _, h2, _⟩ := HG.out.lock
                exact h2.lt
              obtain ⟨w4, hw4⟩ : ∃ x, x = wr := ⟨_, rfl⟩
              subst hw4
              have hl9 := hl9.more (K' := fun i => i ≠ b) fun i _ h => by have := h.1; omega
              rw [List.length_map]
              generalize hN : (inP xs q).length = N at *
              have HN := Lib.hid hN
              have HG4 := Lib.hid g
              have HL9 := Lib.hid hl9
              clear ho g hl9 HO HG2 HNO hN HKP HL7
              have hN30 : q + N ≤ j := by
                have h1 := nx_le HTN.out.le
                have h2 := in_length xs q
                unfold nxP at h1
                have := HAC.out.1
                have := HN.out
                omega
              go_wp2_with fail
              go_loopg [8, 11] N (fun k nx i W => L4 w4 N q k nx i W)
              case atStart => exact ⟨0, by omega, rfl, rfl, Below.refl _ _⟩
              case round =>
                obtain ⟨i, hi, rfl, rfl, hb⟩ := hrel
                have HI4 := Lib.hid hi
                have HB4 := Lib.hid hb
                clear hi hb
                by_cases hlt4 : i < N
                · have hx := (HL9.out.below HB4.out).atI (j := i) (by rw [List.length_map, HN.out]; exact hlt4)
                  obtain ⟨hki, hget⟩ := in_get (l := xs) (k := q) (i := i) (by rw [HN.out]; exact hlt4)
                  rw [List.getElem_map, hget] at hx
                  obtain ⟨b9, o9, rfl, _, d0⟩ := hx
                  obtain ⟨ga, oa, rfl, _, hga, d1⟩ := (HAC.out.below (HG4.out.below.trans (HB4.out.mono HG4.out.below.size))).2.atB hki
                  have halone := in_alone (l := xs) (k := q) (i := i) (by rw [HN.out]; exact hlt4) hki
                  rw [HN.out] at halone
                  have HAL := Lib.hid halone
                  clear halone hget
                  cases hb : xs[q + i] with
                  | true =>
                    have hN1 := HAL.out hb
                    rw [hb] at d1
                    subst hN1
                    go_wp2_with fail
                    go_roundg (1 - (i + 1))
                    case measure => have := HI4.out; omega
                    case rel => exact ⟨i + 1, by omega, by go_num, by go_num, HB4.out⟩
                  | false =>
                    rw [hb] at d1
                    clear HAL
                    go_wp2_with fail
                    go_roundg (N - (i + 1))
                    case measure => have := HI4.out; omega
                    case rel => exact ⟨i + 1, by omega, by go_num, by go_num, HB4.out⟩
                · have hie : i = N := by have := HI4.out; omega
                  subst hie
                  have hnx : nxP xs q = q + i := by rw [← HN.out, in_length]; rfl
                  have hG := HG4.out.next HB4.out
                  rw [hnx] at hG
                  have hrel2 : L2 w b xs ((j - (q + i)) * 32 + i) (.slice A9 i c9) (.int .i64 ((q : Int) + (i : Int))) wr :=
                    ⟨q + i, inP xs q, A9, c9, by rw [HN.out, HAC.out.1], by rw [HN.out], HL9.out.below HB4.out, by rw [Int.natCast_add], hG, hnx ▸ turn_next HTN.out⟩
                  have HREL := Lib.hid hrel2
                  clear hrel2 hG
                  by_cases hq2 : q + i < j
                  · by_cases hi0 : 0 < i
                    · have hx := (HL9.out.below HB4.out).atI (j := 0) (by rw [List.length_map, HN.out]; exact hi0)
                      obtain ⟨hk0, hget⟩ := in_get (l := xs) (k := q) (i := 0) (by rw [HN.out]; exact hi0)
                      rw [List.getElem_map, hget] at hx
                      obtain ⟨b9, o9, rfl, _, d0⟩ := hx
                      rw [Nat.add_zero] at d0 hk0
                      have HACW := Lib.hid (HAC.out.below (HG4.out.below.trans (HB4.out.mono HG4.out.below.size))).2
                      obtain ⟨ga, oa, rfl, _, hga, d1⟩ := HACW.out.atB hk0
                      cases hb0 : xs[q] with
                      | true =>
                        rw [hb0] at d1
                        clear HACW hget
                        go_wp2_with fail
                        go_roundg ((j - (q + i)) * 32 + i)
                        case measure => have := HK.out; have := HAC.out.1; omega
                        case rel => exact HREL.out
                      | false =>
                        rw [hb0] at d1
                        have hkn : q + i < xs.length := by rw [HAC.out.1]; exact hq2
                        have hup := in_up hk0 hb0 (by rw [hnx]; exact hkn)
                        obtain ⟨ga', oa', e', _, _, d2⟩ := HACW.out.atB hkn
                        injection e' with e'
                        injection e' with e1 e2 _
                        subst e1 e2
                        have hup2 : xs[q + i] = true := by
                          have e3 : xs[nxP xs q]'(by rw [hnx]; exact hkn) = xs[q + i] := by congr 1
                          rw [← e3]; exact hup
                        rw [hup2] at d2
                        clear HACW hget hup hup2
                        go_wp2_with fail
                        go_roundg ((j - (q + i)) * 32 + i)
                        case measure => have := HK.out; have := HAC.out.1; omega
                        case rel => exact HREL.out
                    · obtain rfl : i = 0 := by omega
                      go_wp2_with fail
                      go_roundg ((j - (q + 0)) * 32 + 0)
                      case measure => have := HK.out; have := HAC.out.1; omega
                      case rel => exact HREL.out
                  · go_wp2_with fail
                    go_roundg ((j - (q + i)) * 32 + i)
                    case measure => have := HK.out; have := HAC.out.1; omega
                    case rel => exact HREL.out
end Go.Proofs.YtillbjaejdkfdaaDoor
