/- The document's Waits, walked. -/
import Derived.Test.YtillbjaejdkfdaaDoorRkP
import Derived.Deep.RegionHeld3
set_option maxRecDepth 4000
namespace Go.Proofs.YtillbjaejdkfdaaDoor
open Go.RowKit
theorem Lst.atHd {w : World} {K : Nat → Prop} {A : Option Addr} {l : List Cl} (h : Lst w K eH A (l.map hdA)) {j : Nat} (hj : j < l.length) :
    ∃ b o, A = some ⟨b, o, none⟩ ∧ b < w.heap.size ∧ w.cell? ⟨b, o + j * 3, none⟩ = some (.int .i64 l[j].1) ∧ w.cell? ⟨b, o + j * 3 + 1, none⟩ = some (.int .i64 (l[j].2 : Int)) ∧ w.cell? ⟨b, o + j * 3 + 2, none⟩ = some (.int .i64 0) := by
  obtain ⟨b, o, e, hl, c0, c1, c2⟩ := h.atH (j := j) (by rw [List.length_map]; exact hj)
  rw [List.getElem_map] at c0 c1 c2
  exact ⟨b, o, e, hl, c0, c1, c2⟩
theorem Lst.atLn {w : World} {K : Nat → Prop} {A : Option Addr} {l : List Cl} (h : Lst w K eH A (l.map lnA)) {j : Nat} (hj : j < l.length) :
    ∃ b o, A = some ⟨b, o, none⟩ ∧ b < w.heap.size ∧ w.cell? ⟨b, o + j * 3, none⟩ = some (.int .i64 l[j].1) ∧ w.cell? ⟨b, o + j * 3 + 1, none⟩ = some (.int .i64 0) ∧ w.cell? ⟨b, o + j * 3 + 2, none⟩ = some (.int .i64 (l[j].2 : Int)) := by
  obtain ⟨b, o, e, hl, c0, c1, c2⟩ := h.atH (j := j) (by rw [List.length_map]; exact hj)
  rw [List.getElem_map] at c0 c1 c2
  exact ⟨b, o, e, hl, c0, c1, c2⟩
def RW1 (w : World) (H : List Cl) (x : Cl) (k : Nat) (v i : Value) (wr : World) : Prop :=
  ∃ j, j + k = H.length ∧ i = .int .i64 (j : Int) ∧ Own wr w.heap.size eI 3 v (foldI (((H.take j).filter fun c => inwayP c x).map (·.1))) ∧ Below w.heap.size w wr
def RW2 (w : World) (L : List Cl) (P : List Int) (q k : Nat) (v i : Value) (wr : World) : Prop :=
  ∃ j, j + k = q ∧ i = .int .i64 (j : Int) ∧ Own wr w.heap.size eI 3 v (foldI (P ++ (L.take j).map (·.1))) ∧ Below w.heap.size w wr
theorem foldI_length (zs : List Int) : (foldI zs).length ≤ zs.length := Nat.le_trans (foldl_length zs []) (by simp)
theorem take_map_snoc {L : List Cl} {j : Nat} (h : j < L.length) : (L.take j).map (·.1) ++ [(L[j]).1] = (L.take (j + 1)).map (·.1) := by
  rw [List.take_succ_eq_append_getElem h, List.map_append]
  rfl
theorem raw_hit {H : List Cl} {j : Nat} {x : Cl} (h : j < H.length) (hk : inwayP H[j] x = true) : ((H.take (j + 1)).filter fun c => inwayP c x).map (·.1) = ((H.take j).filter fun c => inwayP c x).map (·.1) ++ [(H[j]).1] := by
  rw [List.take_succ_eq_append_getElem h, List.filter_append]
  simp [hk]
theorem raw_pass {H : List Cl} {j : Nat} {x : Cl} (h : j < H.length) (hk : inwayP H[j] x = false) : ((H.take (j + 1)).filter fun c => inwayP c x).map (·.1) = ((H.take j).filter fun c => inwayP c x).map (·.1) := by
  rw [List.take_succ_eq_append_getElem h, List.filter_append]
  simp [hk]
theorem raw_len (H : List Cl) (j : Nat) (x : Cl) : (((H.take j).filter fun c => inwayP c x).map (·.1)).length ≤ H.length := by
  rw [List.length_map]
  refine Nat.le_trans (List.length_filter_le _ _) ?_
  rw [List.length_take]
  omega
set_option maxHeartbeats 2000000 in
theorem rwaits_ {w : World} {b : Nat} {A A' : Option Addr} {K K' : Nat → Prop} {n m c c' : Nat} {H L : List Cl} (h2 : RTwo w b (.slice A n c) (.slice A' m c')) (hH : Lst w K eH A (H.map hdA)) (hL : Lst w K' eH A' (L.map lnA))
    (hn : H.length = n) (hm : L.length = m) (hn1 : n ≤ 10000) (hm1 : m ≤ 10000) (ok : Ok (H, L)) (who : Int) :
    Calls Tryd.prog 18 #[.pointer (some ⟨b, 0, none⟩), .int .i64 who] w fun e w' => ∃ v, e = .returned v ∧ Own w' w.heap.size eI 3 v (waitsP (H, L) who) ∧ Below w.heap.size w w' := by
  have hfind := rfind_ (c := c') hL (by rw [List.length_map]; exact hm) (Nat.le_trans hm1 (by omega)) who
  rw [idx_ln] at hfind
  have H2 := Lib.hid h2
  have HH := Lib.hid hH
  have HL := Lib.hid hL
  have HN := Lib.hid hn
  have HM := Lib.hid hm
  have b1 := h2.c1
  have hbs := h2.lt
  have MH := Lib.hid ok.mH
  have ML := Lib.hid ok.mL
  simp only at MH ML
  rcases idx_cases (isW who) L with ⟨e1, e2⟩ | ⟨h0, e1, e2, e3⟩
  · have hw : waitsP (H, L) who = [] := by
      unfold waitsP
      have : ¬ (L.findIdx (isW who) < L.length) := fun h => by
        have := List.any_eq_false.1 e2 _ (List.getElem_mem h)
        exact this List.findIdx_getElem
      simp only [this, dite_false]
    rw [e1] at hfind
    have HF := Lib.hid hfind
    have HW := Lib.hid hw
    clear hfind hw e1 e2 hn hm h2 hH hL ok
    go_enter Tryd.func18, Tryd.ntmps18
    go_wp2_with fail
    refine HF.out.mono ?_
    rintro e w1 ⟨rfl, hb1⟩
    go_wp2_with fail
    go_ret
    exact ⟨_, rfl, by rw [HW.out]; exact own_nil _ _, hb1⟩
  · have hw : waitsP (H, L) who = foldI (rawP (H, L) L[L.findIdx (isW who)] (L.findIdx (isW who))) := by
      unfold waitsP
      simp only [h0, dite_true]
      rw [fold_uniq]
    have hx1 : (L[L.findIdx (isW who)]).1 = who := by simpa [isW] using e3
    have hx6 := (ok.mL _ (List.getElem_mem h0)).2
    rw [e1] at hfind
    have HX := Lib.hid (HL.out.atLn h0)
    have hraw : rawP (H, L) L[L.findIdx (isW who)] (L.findIdx (isW who)) = (H.filter fun c => inwayP c L[L.findIdx (isW who)]).map (·.1) ++ (L.take (L.findIdx (isW who))).map (·.1) := rfl
    rw [hraw] at hw
    rw [hm] at h0
    generalize L[L.findIdx (isW who)] = x at *
    generalize L.findIdx (isW who) = q at *
    have HW := Lib.hid hw
    have HF := Lib.hid hfind
    clear hfind hw e1 e2 e3 hn hm h2 hH hL ok hraw
    go_enter Tryd.func18, Tryd.ntmps18
    go_wp2_with fail
    refine HF.out.mono ?_
    rintro e w1 ⟨rfl, hb1⟩
    have HB1 := Lib.hid hb1
    clear hb1 HF
    go_wp2_with fail
    go_loopg [6, 7] n (fun k v i wr => RW1 w H x k v i wr)
    case atStart => exact ⟨0, by rw [HN.out]; omega, rfl, by simpa [foldI] using own_nil _ _, HB1.out⟩
    case round =>
      obtain ⟨j, hj, rfl, ho, hb⟩ := hrel
      have HJ := Lib.hid hj
      have HB := Lib.hid hb
      have HO := Lib.hid ho
      clear hj hb ho
      have T2 := H2.out.below HB.out hbs
      have b0 := T2.c0
      have b1' := T2.c1
      clear b1
      by_cases hlt : j < n
      · have hxl : j < H.length := by rw [HN.out]; exact hlt
        obtain ⟨g, o, rfl, hg, d0, d1, _⟩ := (HH.out.below HB.out).atHd hxl
        obtain ⟨gL, oL, rfl, hgL, _, _, f2⟩ := HX.out
        have f2' := (cell_of_heap (HB.out.block gL hgL) _).trans f2
        have hgL' : gL < wr.heap.size := Nat.lt_of_lt_of_le hgL HB.out.size
        have hbr : b < wr.heap.size := Nat.lt_of_lt_of_le hbs HB.out.size
        have hy6 := (MH.out _ (List.getElem_mem hxl)).2
        have hhit := raw_hit (x := x) hxl
        have hpass := raw_pass (x := x) hxl
        have hrl := raw_len H j x
        have hiw : inwayP H[j] x = ((H[j]).1 != who && !fitB (H[j]).2 x.2) := by rw [← hx1]; rfl
        rw [hiw] at hhit hpass
        have HRL := Lib.hid hrl
        have HXK := Lib.hid hx1
        generalize hx2 : x.2 = x2 at *
        generalize (H[j]).1 = y1 at *
        generalize (H[j]).2 = y2 at *
        have HHIT := Lib.hid hhit
        have HPASS := Lib.hid hpass
        clear hhit hpass hiw hrl T2 HX
        by_cases hw : y1 = who
        · have e0 : (who != who) = false := by simp
          have hp := HPASS.out (by simp [hw])
          have HP := Lib.hid hp
          subst hw
          clear hp HHIT HPASS
          go_wp2_with fail
          go_quiet (fail)
          go_wp2_with fail
          go_roundg (n - (j + 1))
          case measure => have := HJ.out; have := HN.out; omega
          case rel => exact ⟨j + 1, by rw [HN.out]; omega, by go_num, by rw [HP.out]; exact own_belowE HO.out (below_drewN (Below.refl _ _) _), below_drewN HB.out _⟩
        have hwb : (y1 != who) = true := by simpa using hw
        cases hf : fitB y2 x2 with
        | true =>
          have HP := Lib.hid (HPASS.out (by simp [hf]))
          clear HHIT HPASS
          have hrf := fun W => ref_fits (x2 : Int) (y2 : Int) W
          rw [mdN_of hx6, mdN_of hy6, fit_comm hx6 hy6, hf] at hrf
          have HRF := Lib.hid hrf
          have hS0 : (fun W : World => W.cell? ⟨b, 0, none⟩ = some (.slice (some ⟨g, o, none⟩) n c) ∧ W.cell? ⟨b, 1, none⟩ = some (.slice (some ⟨gL, oL, none⟩) m c') ∧ W.cell? ⟨g, o + j * 3, none⟩ = some (.int .i64 y1) ∧ W.cell? ⟨g, o + j * 3 + 1, none⟩ = some (.int .i64 (y2 : Int)) ∧ W.cell? ⟨gL, oL + q * 3 + 2, none⟩ = some (.int .i64 (x2 : Int))) wr.drew := ⟨b0, b1', d0, d1, f2'⟩
          have hlt1 := hg
          have hlt2 := hgL'
          have hlt3 := hbr
          clear hrf hf f2
          go_wp2_with fail
          go_region_held3 (fun W : World => W.cell? ⟨b, 0, none⟩ = some (.slice (some ⟨g, o, none⟩) n c) ∧ W.cell? ⟨b, 1, none⟩ = some (.slice (some ⟨gL, oL, none⟩) m c') ∧ W.cell? ⟨g, o + j * 3, none⟩ = some (.int .i64 y1) ∧ W.cell? ⟨g, o + j * 3 + 1, none⟩ = some (.int .i64 (y2 : Int)) ∧ W.cell? ⟨gL, oL + q * 3 + 2, none⟩ = some (.int .i64 (x2 : Int)))
            (first | exact hS0 | exact hS1)
            (first | (go_at_call 19; refine (HRF.out _).mono ?_; rintro e w5 ⟨rfl, hb5⟩; have HB6 := Lib.hid hb5; have hS1 : (fun W : World => W.cell? ⟨b, 0, none⟩ = some (.slice (some ⟨g, o, none⟩) n c) ∧ W.cell? ⟨b, 1, none⟩ = some (.slice (some ⟨gL, oL, none⟩) m c') ∧ W.cell? ⟨g, o + j * 3, none⟩ = some (.int .i64 y1) ∧ W.cell? ⟨g, o + j * 3 + 1, none⟩ = some (.int .i64 (y2 : Int)) ∧ W.cell? ⟨gL, oL + q * 3 + 2, none⟩ = some (.int .i64 (x2 : Int))) w5 := ⟨(cell_of_heap (hb5.block b hlt3) _).trans hS0.1, (cell_of_heap (hb5.block b hlt3) _).trans hS0.2.1, (cell_of_heap (hb5.block g hlt1) _).trans hS0.2.2.1, (cell_of_heap (hb5.block g hlt1) _).trans hS0.2.2.2.1, (cell_of_heap (hb5.block gL hlt2) _).trans hS0.2.2.2.2⟩; clear hb5))
          go_wp2_with fail
          go_roundg (n - (j + 1))
          case measure => have := HJ.out; have := HN.out; omega
          case rel => exact ⟨j + 1, by rw [HN.out]; omega, by go_num, by rw [HP.out]; exact own_belowE HO.out ((Below.refl _ _).drew.trans HB6.out), HB.out.trans (((Below.refl _ _).drew.trans HB6.out).mono HB.out.size)⟩
        | false =>
          have HP := Lib.hid (HHIT.out (by simp [hf, hw]))
          clear HHIT HPASS
          have hrf := fun W => ref_fits (x2 : Int) (y2 : Int) W
          rw [mdN_of hx6, mdN_of hy6, fit_comm hx6 hy6, hf] at hrf
          have HRF := Lib.hid hrf
          have hS0 : (fun W : World => W.cell? ⟨b, 0, none⟩ = some (.slice (some ⟨g, o, none⟩) n c) ∧ W.cell? ⟨b, 1, none⟩ = some (.slice (some ⟨gL, oL, none⟩) m c') ∧ W.cell? ⟨g, o + j * 3, none⟩ = some (.int .i64 y1) ∧ W.cell? ⟨g, o + j * 3 + 1, none⟩ = some (.int .i64 (y2 : Int)) ∧ W.cell? ⟨gL, oL + q * 3 + 2, none⟩ = some (.int .i64 (x2 : Int))) wr.drew := ⟨b0, b1', d0, d1, f2'⟩
          have hlt1 := hg
          have hlt2 := hgL'
          have hlt3 := hbr
          clear hrf hf f2
          go_wp2_with fail
          go_region_held3 (fun W : World => W.cell? ⟨b, 0, none⟩ = some (.slice (some ⟨g, o, none⟩) n c) ∧ W.cell? ⟨b, 1, none⟩ = some (.slice (some ⟨gL, oL, none⟩) m c') ∧ W.cell? ⟨g, o + j * 3, none⟩ = some (.int .i64 y1) ∧ W.cell? ⟨g, o + j * 3 + 1, none⟩ = some (.int .i64 (y2 : Int)) ∧ W.cell? ⟨gL, oL + q * 3 + 2, none⟩ = some (.int .i64 (x2 : Int)))
            (first | exact hS0 | exact hS1)
            (first | (go_at_call 19; refine (HRF.out _).mono ?_; rintro e w5 ⟨rfl, hb5⟩; have HB6 := Lib.hid hb5; have hS1 : (fun W : World => W.cell? ⟨b, 0, none⟩ = some (.slice (some ⟨g, o, none⟩) n c) ∧ W.cell? ⟨b, 1, none⟩ = some (.slice (some ⟨gL, oL, none⟩) m c') ∧ W.cell? ⟨g, o + j * 3, none⟩ = some (.int .i64 y1) ∧ W.cell? ⟨g, o + j * 3 + 1, none⟩ = some (.int .i64 (y2 : Int)) ∧ W.cell? ⟨gL, oL + q * 3 + 2, none⟩ = some (.int .i64 (x2 : Int))) w5 := ⟨(cell_of_heap (hb5.block b hlt3) _).trans hS0.1, (cell_of_heap (hb5.block b hlt3) _).trans hS0.2.1, (cell_of_heap (hb5.block g hlt1) _).trans hS0.2.2.1, (cell_of_heap (hb5.block g hlt1) _).trans hS0.2.2.2.1, (cell_of_heap (hb5.block gL hlt2) _).trans hS0.2.2.2.2⟩; clear hb5))
          have hbd := (Below.refl wr.heap.size wr).drew.trans HB6.out
          have hi := rinsert_ (own_belowE HO.out hbd) (Nat.le_trans HB.out.size hbd.size) (Nat.le_trans (foldI_length _) (Nat.le_trans HRL.out (by rw [HN.out]; omega))) y1
          rw [← foldI_snoc, ← HP.out] at hi
          have HI := Lib.hid hi
          have HBD := Lib.hid (HB.out.trans (hbd.mono HB.out.size))
          clear hi hbd
          obtain ⟨hs0, hs1, hs2, _, _⟩ := hS1
          go_wp2_with fail
          refine HI.out.mono ?_
          rintro e w6 ⟨v6, rfl, ho6, hb6⟩
          have HO6 := Lib.hid ho6
          have HB7 := Lib.hid (HBD.out.trans (hb6.mono HBD.out.size))
          clear ho6 hb6
          go_wp2_with fail
          go_roundg (n - (j + 1))
          case measure => have := HJ.out; have := HN.out; omega
          case rel => exact ⟨j + 1, by rw [HN.out]; omega, by go_num, HO6.out, HB7.out⟩
      · have hjn : j = n := by have := HJ.out; have := HN.out; omega
        subst hjn
        have ho := HO.out
        rw [List.take_of_length_le (by rw [HN.out]; exact Nat.le_refl _)] at ho
        have HO2 := Lib.hid ho
        clear ho HO
        go_wp2_with fail
        go_loopg [6, 8] q (fun k v i wr => RW2 w L ((H.filter fun c => inwayP c x).map (·.1)) q k v i wr)
        case atStart => exact ⟨0, by omega, rfl, by simpa using HO2.out, HB.out⟩
        case round =>
          clear HO2 HB T2 b0 b1'
          obtain ⟨j2, hj, rfl, ho, hb⟩ := hrel
          have HJ2 := Lib.hid hj
          have HB := Lib.hid hb
          have HO := Lib.hid ho
          clear hj hb ho
          have b1 := (H2.out.below HB.out hbs).c1
          by_cases hlt2 : j2 < q
          · have hxl : j2 < L.length := by rw [HM.out]; omega
            obtain ⟨g, o, rfl, _, d0, _, _⟩ := (HL.out.below HB.out).atLn hxl
            have hlen : (foldI ((H.filter fun c => inwayP c x).map (·.1) ++ (L.take j2).map (·.1))).length ≤ 100000 := by
              refine Nat.le_trans (foldI_length _) ?_
              rw [List.length_append, List.length_map, List.length_map, List.length_take]
              have := List.length_filter_le (fun c => inwayP c x) H
              have := HN.out
              omega
            have hi := rinsert_ HO.out HB.out.size hlen (L[j2]).1
            rw [← foldI_snoc, List.append_assoc, take_map_snoc hxl] at hi
            have HI := Lib.hid hi
            clear hi hlen HX
            generalize (L[j2]).1 = y at *
            go_wp2_with fail
            refine HI.out.mono ?_
            rintro e w4 ⟨v4, rfl, ho4, hb4⟩
            have HO4 := Lib.hid ho4
            have HB4 := Lib.hid (HB.out.trans (hb4.mono HB.out.size))
            clear ho4 hb4 HI HO d0
            go_wp2_with fail
            go_roundg (q - (j2 + 1))
            case measure => have := HJ2.out; omega
            case rel => exact ⟨j2 + 1, by omega, by go_num, HO4.out, HB4.out⟩
          · have hjq : j2 = q := by have := HJ2.out; omega
            subst hjq
            have HO4 := Lib.hid HO.out
            clear HO
            go_wp2_with fail
            go_ret
            exact ⟨_, rfl, by rw [HW.out]; exact HO4.out, HB.out⟩
end Go.Proofs.YtillbjaejdkfdaaDoor
