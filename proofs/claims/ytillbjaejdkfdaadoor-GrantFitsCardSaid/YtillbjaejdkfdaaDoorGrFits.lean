/- The law on who fits whom. -/
import Derived.Test.YtillbjaejdkfdaaDoorGrZ
import Derived.Deep.RegionHeld3
set_option maxRecDepth 4000
namespace Go.Proofs.YtillbjaejdkfdaaDoor
open Go.RowKit
def FPlay (w : World) (b n k : Nat) (i : Value) (wr : World) : Prop := ∃ j s, j + k = n ∧ i = .int .i64 (j : Int) ∧ total s ≤ j ∧ G w b s wr ∧ Fit s
def FOut (w w1 : World) (b n : Nat) (s : Lk) (k : Nat) (i : Value) (wr : World) : Prop := ∃ j, j + k = n ∧ i = .int .i64 (j : Int) ∧ G w b s wr ∧ Below w1.heap.size w1 wr
theorem nodup_ne {l : List Ho} (h : (l.map (·.1)).Nodup) {i j : Nat} (hi : i < l.length) (hj : j < l.length) (hlt : j < i) : l[i].1 ≠ l[j].1 := by
  have := List.pairwise_iff_getElem.1 h j i (by rw [List.length_map]; exact hj) (by rw [List.length_map]; exact hi) hlt
  simp only [List.getElem_map] at this
  exact fun e => this e.symm
set_option maxHeartbeats 2000000 in
theorem grantFits {A : Option Addr} {n c : Nat} {xs : List Ac3} (w : World) (ha : Acts w A n xs) (hT : Tab w) : Calls Tryd.prog 4 #[.slice A n c] w fun e w' => e = .returned (.bool true) ∧ Below w.heap.size w w' := by
  have hal := galive_ w hT
  have HA := Lib.hid hal
  have HT := Lib.hid hT
  have HAC := Lib.hid ha
  clear hal hT ha
  by_cases h1 : (100 : Int) < (n : Int)
  · go_enter Tryd.func4, Tryd.ntmps4
    go_wp2_with (go_at_call 8; refine HA.out.mono ?_; rintro e w1 ⟨rfl, hb1⟩)
    go_ret
    exact ⟨rfl, hb1⟩
  have hn : n ≤ 100 := by omega
  go_enter Tryd.func4, Tryd.ntmps4
  go_wp2_with (go_at_call 8; refine HA.out.mono ?_; rintro e w1 ⟨rfl, hb1⟩; have G1 := Lib.hid (G.new (HT.out.below hb1) hb1); clear hb1)
  generalize w1.alloc (.cells #[.slice none 0 0, .slice none 0 0] 27) = w2 at *
  generalize w1.heap.size = b at *
  go_loopg [5, 6, 7, 8] n (fun k i _ _ _ wr => FPlay w b n k i wr)
  case atStart => exact ⟨0, ([], []), by omega, rfl, by simp [total], G1.out, fit_none⟩
  case round =>
    obtain ⟨j, s, hj, rfl, hts, g, hfit⟩ := hrel
    have HJ := Lib.hid hj
    have HG := Lib.hid g
    have HTS := Lib.hid hts
    have HF := Lib.hid hfit
    clear hj g hts hfit
    by_cases hlt : j < n
    · have hx : j < xs.length := by rw [HAC.out.1]; exact hlt
      obtain ⟨ga, oa, rfl, hga, d0, d1, d2⟩ := (HAC.out.below HG.out.below).2.atA hx
      have hask := fun who mode => (HG.out.next (Below.refl wr.heap.size wr).drew).ask (by have := HTS.out; omega) who mode
      have hdrop := fun who => HG.out.drop (by have := HTS.out; omega) who
      generalize (xs[j]).1 = way at *
      generalize (xs[j]).2.1 = aw at *
      generalize (xs[j]).2.2 = am at *
      have HASK := Lib.hid hask
      have HDROP := Lib.hid hdrop
      clear hask hdrop
      have hmid : ∀ (s' : Lk) (w3 : World), G w b s' w3 → Fit s' → total s' ≤ j + 1 → True := fun _ _ _ _ _ => trivial
      clear hmid
      by_cases hway : way = 1
      · subst hway
        go_wp2_with fail
        refine (HDROP.out _).mono ?_
        rintro e w3 ⟨v, rfl, _, g3, _⟩
        have f3 := fit_drop HG.out.ok HF.out (bits .and .i64 aw 7)
        have ts := Nat.le_trans (Nat.le_trans (drop_total s (bits .and .i64 aw 7)) HTS.out) (show j ≤ j + 1 by omega)
        generalize (dropP s (bits .and .i64 aw 7)).2 = s' at *
        have F3 := Lib.hid f3
        have TS := Lib.hid ts
        have G3 := Lib.hid g3
        clear f3 ts g3
        have ht9 : total s' ≤ 9000 := by have := TS.out; omega
        have hh := G3.out.holds ht9
        have HH := Lib.hid hh
        clear hh
        go_wp2_with fail
        refine HH.out.mono ?_
        rintro e w4 ⟨v4, rfl, ho4, g4, _⟩
        obtain ⟨A4, c4, rfl, hl4, _, _, _⟩ := own_lst ho4
        have hlen := holds_total s'
        have hnd := holds_nodup g4.ok
        have L4 := Lib.hid hl4
        have G4 := Lib.hid g4
        have ND := Lib.hid hnd
        generalize hN : (holdsP s').length = N at *
        have HN := Lib.hid hN
        have hN9 : N ≤ 101 := by have := TS.out; omega
        clear ho4 hl4 g4 hlen hN HH G3 hnd
        go_wp2_with fail
        go_loopg [7, 8] N (fun k i _ wr => FOut w w4 b N s' k i wr)
        case atStart => exact ⟨0, by omega, rfl, G4.out, Below.refl _ _⟩
        case round =>
          obtain ⟨a, ha, rfl, g, hb⟩ := hrel
          have HAJ := Lib.hid ha
          have HG4 := Lib.hid g
          have HB4 := Lib.hid hb
          clear ha g hb
          by_cases hlt2 : a < N
          · have hxa : a < (holdsP s').length := by rw [HN.out]; exact hlt2
            have hma := List.getElem_mem hxa
            go_wp2_with fail
            go_loopg [8] a (fun k i wr => FOut w w4 b a s' k i wr)
            case atStart => exact ⟨0, by omega, rfl, HG4.out, HB4.out⟩
            case round =>
              clear HG4 HB4
              obtain ⟨q, hq, rfl, g, hb⟩ := hrel
              have HQ := Lib.hid hq
              have HG5 := Lib.hid g
              have HB5 := Lib.hid hb
              clear hq g hb
              obtain ⟨g3, o3, e3, hg3, d0, d1, d2⟩ := (L4.out.below HB5.out).atH hxa
              subst e3
              by_cases hlt3 : q < a
              · have hxq : q < (holdsP s').length := by omega
                have hmq := List.getElem_mem hxq
                obtain ⟨g3', o3', e3, _, e0, e1, e2⟩ := (L4.out.below HB5.out).atH hxq
                injection e3 with e3
                injection e3 with e31 e32 _
                subst e31 e32
                have hqN : q < N := by omega
                have hwho := nodup_ne ND.out hxa hxq hlt3
                have hw2 : ((holdsP s')[a].1 == (holdsP s')[q].1) = false := by rw [beq_eq_false_iff_ne]; exact hwho
                have hbs := holds_mode HG5.out.ok hma
                have hbq := holds_mode HG5.out.ok hmq
                have hfi : (holdsP s')[a].2.1 ≠ 0 → (holdsP s')[q].2.1 ≠ 0 → fitB (holdsP s')[a].2.1 (holdsP s')[q].2.1 = true := fun h1 h2 => F3.out.1 _ (holds_held hma h1) _ (holds_held hmq h2) hwho
                have HFI := Lib.hid hfi
                clear hfi hwho hmq
                generalize (holdsP s')[a].1 = x1 at *
                generalize (holdsP s')[a].2.1 = x2 at *
                generalize (holdsP s')[a].2.2 = x3 at *
                generalize (holdsP s')[q].1 = y1 at *
                generalize (holdsP s')[q].2.1 = y2 at *
                generalize (holdsP s')[q].2.2 = y3 at *
                by_cases hx0 : x2 = 0
                · subst hx0
                  go_wp2_with fail
                  go_quiet (fail)
                  go_wp2_with fail
                  go_roundg (a - (q + 1))
                  case measure => have := HQ.out; omega
                  case rel => exact ⟨q + 1, by omega, by go_num, HG5.out.next (below_drewN (Below.refl _ _) _), below_drewN HB5.out _⟩
                · have hxb : ((x2 : Int) != 0) = true := by rw [bne_iff_ne]; omega
                  by_cases hy0 : y2 = 0
                  · subst hy0
                    clear HFI hbs hbq
                    go_wp2_with fail
                    go_quiet (fail)
                    go_wp2_with fail
                    go_roundg (a - (q + 1))
                    case measure => have := HQ.out; omega
                    case rel => exact ⟨q + 1, by omega, by go_num, HG5.out.next (below_drewN (Below.refl _ _) _), below_drewN HB5.out _⟩
                  · have hyb : ((y2 : Int) != 0) = true := by rw [bne_iff_ne]; omega
                    have hrf := fun W => ref_fits (x2 : Int) (y2 : Int) W
                    rw [mdN_of hbs.1, mdN_of hbq.1, HFI.out hx0 hy0] at hrf
                    have HRF := Lib.hid hrf
                    clear hrf hbs hbq
                    have hS0 : (fun W : World => W.cell? ⟨g3, o3 + a * 3 + 1, none⟩ = some (.int .i64 (x2 : Int)) ∧ W.cell? ⟨g3, o3 + q * 3 + 1, none⟩ = some (.int .i64 (y2 : Int)) ∧ W.cell? ⟨g3, o3 + a * 3, none⟩ = some (.int .i64 x1) ∧ W.cell? ⟨g3, o3 + q * 3, none⟩ = some (.int .i64 y1)) wr.drew := ⟨d1, e1, d0, e0⟩
                    have hltb := hg3
                    go_wp2_with fail
                    go_region_held3 (fun W : World => W.cell? ⟨g3, o3 + a * 3 + 1, none⟩ = some (.int .i64 (x2 : Int)) ∧ W.cell? ⟨g3, o3 + q * 3 + 1, none⟩ = some (.int .i64 (y2 : Int)) ∧ W.cell? ⟨g3, o3 + a * 3, none⟩ = some (.int .i64 x1) ∧ W.cell? ⟨g3, o3 + q * 3, none⟩ = some (.int .i64 y1))
                      (first | exact hS0 | exact hS1)
                      (first | (go_at_call 19; refine (HRF.out _).mono ?_; rintro e w5 ⟨rfl, hb5⟩; have HB6 := Lib.hid hb5; have hS1 : (fun W : World => W.cell? ⟨g3, o3 + a * 3 + 1, none⟩ = some (.int .i64 (x2 : Int)) ∧ W.cell? ⟨g3, o3 + q * 3 + 1, none⟩ = some (.int .i64 (y2 : Int)) ∧ W.cell? ⟨g3, o3 + a * 3, none⟩ = some (.int .i64 x1) ∧ W.cell? ⟨g3, o3 + q * 3, none⟩ = some (.int .i64 y1)) w5 := ⟨(cell_of_heap (hb5.block g3 hltb) _).trans d1, (cell_of_heap (hb5.block g3 hltb) _).trans e1, (cell_of_heap (hb5.block g3 hltb) _).trans d0, (cell_of_heap (hb5.block g3 hltb) _).trans e0⟩; clear hb5))
                    go_wp2_with fail
                    go_roundg (a - (q + 1))
                    case measure => have := HQ.out; omega
                    case rel => exact ⟨q + 1, by omega, by go_num, HG5.out.next ((Below.refl _ _).drew.trans HB6.out), HB5.out.trans (((Below.refl _ _).drew.trans HB6.out).mono HB5.out.size)⟩
              · have hqa : q = a := by have := HQ.out; omega
                subst hqa
                have hwt : (holdsP s')[q].2.2 ≠ 0 → 0 < (waitsP s' (holdsP s')[q].1).length := fun h => waits_some F3.out (holds_wants HG5.out.ok hma h)
                have hws := HG5.out.waits ht9 (holdsP s')[q].1
                have HWT := Lib.hid hwt
                have HWS := Lib.hid hws
                clear hwt hws hma HQ
                generalize (holdsP s')[q].1 = x1 at *
                generalize (holdsP s')[q].2.1 = x2 at *
                generalize (holdsP s')[q].2.2 = x3 at *
                by_cases hx3 : x3 = 0
                · subst hx3
                  go_wp2_with fail
                  go_roundg (N - (q + 1))
                  case measure => have := HAJ.out; omega
                  case rel => exact ⟨q + 1, by omega, by go_num, HG5.out, HB5.out⟩
                · have hx3b : ((x3 : Int) != 0) = true := by rw [bne_iff_ne]; omega
                  have hx3c : ¬ ((x3 : Int) = 0) := by omega
                  have hpos := HWT.out hx3
                  generalize waitsP s' x1 = WL at *
                  go_wp2_with fail
                  refine HWS.out.mono ?_
                  rintro e w5 ⟨v5, rfl, ho5, g5, hb5⟩
                  obtain ⟨A5, c5, rfl, _, _⟩ := own_ints ho5
                  have HG6 := Lib.hid g5
                  have HB6 := Lib.hid (HB5.out.trans (hb5.mono HB5.out.size))
                  have hwl : ¬ ((WL.length : Int) = 0) := by omega
                  clear ho5 g5 hb5
                  generalize WL.length = wl at *
                  go_wp2_with fail
                  go_roundg (N - (q + 1))
                  case measure => have := HAJ.out; omega
                  case rel => exact ⟨q + 1, by omega, by go_num, HG6.out, HB6.out⟩
          · go_wp2_with fail
            go_roundg (n - (j + 1))
            case measure => have := HJ.out; omega
            case rel => exact ⟨j + 1, s', by omega, by go_num, TS.out, HG4.out, F3.out⟩
      · have hwn : (way == 1) = false := by simpa using hway
        go_wp2_with fail
        refine wp_region_still_tail 14 (by kernel_rfl) (by kernel_rfl) ?_
        simp only [List.take_succ_cons, List.take_zero, List.drop_succ_cons, List.drop_zero]
        repeat still_step
        refine wpStill_nil ?_
        go_wp2_with fail
        refine (HASK.out _ _).mono ?_
        rintro e w3 ⟨rfl, g3, _⟩
        have f3 := fit_ask HG.out.ok HF.out (bits .and .i64 aw 7) (mdN_lt ((bits .and .i64 am 7).tmod 6))
        have ts := Nat.le_trans (ask_total s (bits .and .i64 aw 7) (mdN ((bits .and .i64 am 7).tmod 6))) (Nat.add_le_add_right HTS.out 1)
        generalize (askP s (bits .and .i64 aw 7) (mdN ((bits .and .i64 am 7).tmod 6))).2 = s' at *
        generalize (askP s (bits .and .i64 aw 7) (mdN ((bits .and .i64 am 7).tmod 6))).1 = ab at *
        have F3 := Lib.hid f3
        have TS := Lib.hid ts
        have G3 := Lib.hid g3
        clear f3 ts g3
        have ht9 : total s' ≤ 9000 := by have := TS.out; omega
        have hh := G3.out.holds ht9
        have HH := Lib.hid hh
        clear hh
        go_wp2_with fail
        refine HH.out.mono ?_
        rintro e w4 ⟨v4, rfl, ho4, g4, _⟩
        obtain ⟨A4, c4, rfl, hl4, _, _, _⟩ := own_lst ho4
        have hlen := holds_total s'
        have hnd := holds_nodup g4.ok
        have L4 := Lib.hid hl4
        have G4 := Lib.hid g4
        have ND := Lib.hid hnd
        generalize hN : (holdsP s').length = N at *
        have HN := Lib.hid hN
        have hN9 : N ≤ 101 := by have := TS.out; omega
        clear ho4 hl4 g4 hlen hN HH G3 hnd
        go_wp2_with fail
        go_loopg [7, 8] N (fun k i _ wr => FOut w w4 b N s' k i wr)
        case atStart => exact ⟨0, by omega, rfl, G4.out, Below.refl _ _⟩
        case round =>
          obtain ⟨a, ha, rfl, g, hb⟩ := hrel
          have HAJ := Lib.hid ha
          have HG4 := Lib.hid g
          have HB4 := Lib.hid hb
          clear ha g hb
          by_cases hlt2 : a < N
          · have hxa : a < (holdsP s').length := by rw [HN.out]; exact hlt2
            have hma := List.getElem_mem hxa
            go_wp2_with fail
            go_loopg [8] a (fun k i wr => FOut w w4 b a s' k i wr)
            case atStart => exact ⟨0, by omega, rfl, HG4.out, HB4.out⟩
            case round =>
              clear HG4 HB4
              obtain ⟨q, hq, rfl, g, hb⟩ := hrel
              have HQ := Lib.hid hq
              have HG5 := Lib.hid g
              have HB5 := Lib.hid hb
              clear hq g hb
              obtain ⟨g3, o3, e3, hg3, d0, d1, d2⟩ := (L4.out.below HB5.out).atH hxa
              subst e3
              by_cases hlt3 : q < a
              · have hxq : q < (holdsP s').length := by omega
                have hmq := List.getElem_mem hxq
                obtain ⟨g3', o3', e3, _, e0, e1, e2⟩ := (L4.out.below HB5.out).atH hxq
                injection e3 with e3
                injection e3 with e31 e32 _
                subst e31 e32
                have hqN : q < N := by omega
                have hwho := nodup_ne ND.out hxa hxq hlt3
                have hw2 : ((holdsP s')[a].1 == (holdsP s')[q].1) = false := by rw [beq_eq_false_iff_ne]; exact hwho
                have hbs := holds_mode HG5.out.ok hma
                have hbq := holds_mode HG5.out.ok hmq
                have hfi : (holdsP s')[a].2.1 ≠ 0 → (holdsP s')[q].2.1 ≠ 0 → fitB (holdsP s')[a].2.1 (holdsP s')[q].2.1 = true := fun h1 h2 => F3.out.1 _ (holds_held hma h1) _ (holds_held hmq h2) hwho
                have HFI := Lib.hid hfi
                clear hfi hwho hmq
                generalize (holdsP s')[a].1 = x1 at *
                generalize (holdsP s')[a].2.1 = x2 at *
                generalize (holdsP s')[a].2.2 = x3 at *
                generalize (holdsP s')[q].1 = y1 at *
                generalize (holdsP s')[q].2.1 = y2 at *
                generalize (holdsP s')[q].2.2 = y3 at *
                by_cases hx0 : x2 = 0
                · subst hx0
                  go_wp2_with fail
                  go_quiet (fail)
                  go_wp2_with fail
                  go_roundg (a - (q + 1))
                  case measure => have := HQ.out; omega
                  case rel => exact ⟨q + 1, by omega, by go_num, HG5.out.next (below_drewN (Below.refl _ _) _), below_drewN HB5.out _⟩
                · have hxb : ((x2 : Int) != 0) = true := by rw [bne_iff_ne]; omega
                  by_cases hy0 : y2 = 0
                  · subst hy0
                    clear HFI hbs hbq
                    go_wp2_with fail
                    go_quiet (fail)
                    go_wp2_with fail
                    go_roundg (a - (q + 1))
                    case measure => have := HQ.out; omega
                    case rel => exact ⟨q + 1, by omega, by go_num, HG5.out.next (below_drewN (Below.refl _ _) _), below_drewN HB5.out _⟩
                  · have hyb : ((y2 : Int) != 0) = true := by rw [bne_iff_ne]; omega
                    have hrf := fun W => ref_fits (x2 : Int) (y2 : Int) W
                    rw [mdN_of hbs.1, mdN_of hbq.1, HFI.out hx0 hy0] at hrf
                    have HRF := Lib.hid hrf
                    clear hrf hbs hbq
                    have hS0 : (fun W : World => W.cell? ⟨g3, o3 + a * 3 + 1, none⟩ = some (.int .i64 (x2 : Int)) ∧ W.cell? ⟨g3, o3 + q * 3 + 1, none⟩ = some (.int .i64 (y2 : Int)) ∧ W.cell? ⟨g3, o3 + a * 3, none⟩ = some (.int .i64 x1) ∧ W.cell? ⟨g3, o3 + q * 3, none⟩ = some (.int .i64 y1)) wr.drew := ⟨d1, e1, d0, e0⟩
                    have hltb := hg3
                    go_wp2_with fail
                    go_region_held3 (fun W : World => W.cell? ⟨g3, o3 + a * 3 + 1, none⟩ = some (.int .i64 (x2 : Int)) ∧ W.cell? ⟨g3, o3 + q * 3 + 1, none⟩ = some (.int .i64 (y2 : Int)) ∧ W.cell? ⟨g3, o3 + a * 3, none⟩ = some (.int .i64 x1) ∧ W.cell? ⟨g3, o3 + q * 3, none⟩ = some (.int .i64 y1))
                      (first | exact hS0 | exact hS1)
                      (first | (go_at_call 19; refine (HRF.out _).mono ?_; rintro e w5 ⟨rfl, hb5⟩; have HB6 := Lib.hid hb5; have hS1 : (fun W : World => W.cell? ⟨g3, o3 + a * 3 + 1, none⟩ = some (.int .i64 (x2 : Int)) ∧ W.cell? ⟨g3, o3 + q * 3 + 1, none⟩ = some (.int .i64 (y2 : Int)) ∧ W.cell? ⟨g3, o3 + a * 3, none⟩ = some (.int .i64 x1) ∧ W.cell? ⟨g3, o3 + q * 3, none⟩ = some (.int .i64 y1)) w5 := ⟨(cell_of_heap (hb5.block g3 hltb) _).trans d1, (cell_of_heap (hb5.block g3 hltb) _).trans e1, (cell_of_heap (hb5.block g3 hltb) _).trans d0, (cell_of_heap (hb5.block g3 hltb) _).trans e0⟩; clear hb5))
                    go_wp2_with fail
                    go_roundg (a - (q + 1))
                    case measure => have := HQ.out; omega
                    case rel => exact ⟨q + 1, by omega, by go_num, HG5.out.next ((Below.refl _ _).drew.trans HB6.out), HB5.out.trans (((Below.refl _ _).drew.trans HB6.out).mono HB5.out.size)⟩
              · have hqa : q = a := by have := HQ.out; omega
                subst hqa
                have hwt : (holdsP s')[q].2.2 ≠ 0 → 0 < (waitsP s' (holdsP s')[q].1).length := fun h => waits_some F3.out (holds_wants HG5.out.ok hma h)
                have hws := HG5.out.waits ht9 (holdsP s')[q].1
                have HWT := Lib.hid hwt
                have HWS := Lib.hid hws
                clear hwt hws hma HQ
                generalize (holdsP s')[q].1 = x1 at *
                generalize (holdsP s')[q].2.1 = x2 at *
                generalize (holdsP s')[q].2.2 = x3 at *
                by_cases hx3 : x3 = 0
                · subst hx3
                  go_wp2_with fail
                  go_roundg (N - (q + 1))
                  case measure => have := HAJ.out; omega
                  case rel => exact ⟨q + 1, by omega, by go_num, HG5.out, HB5.out⟩
                · have hx3b : ((x3 : Int) != 0) = true := by rw [bne_iff_ne]; omega
                  have hx3c : ¬ ((x3 : Int) = 0) := by omega
                  have hpos := HWT.out hx3
                  generalize waitsP s' x1 = WL at *
                  go_wp2_with fail
                  refine HWS.out.mono ?_
                  rintro e w5 ⟨v5, rfl, ho5, g5, hb5⟩
                  obtain ⟨A5, c5, rfl, _, _⟩ := own_ints ho5
                  have HG6 := Lib.hid g5
                  have HB6 := Lib.hid (HB5.out.trans (hb5.mono HB5.out.size))
                  have hwl : ¬ ((WL.length : Int) = 0) := by omega
                  clear ho5 g5 hb5
                  generalize WL.length = wl at *
                  go_wp2_with fail
                  go_roundg (N - (q + 1))
                  case measure => have := HAJ.out; omega
                  case rel => exact ⟨q + 1, by omega, by go_num, HG6.out, HB6.out⟩
          · go_wp2_with fail
            go_roundg (n - (j + 1))
            case measure => have := HJ.out; omega
            case rel => exact ⟨j + 1, s', by omega, by go_num, TS.out, HG4.out, F3.out⟩
    · have hjn : j = n := by have := HJ.out; omega
      have HBB := Lib.hid HG.out.below
      clear HG HF
      subst hjn
      go_wp2_with fail
      go_ret
      exact ⟨rfl, HBB.out⟩
end Go.Proofs.YtillbjaejdkfdaaDoor
