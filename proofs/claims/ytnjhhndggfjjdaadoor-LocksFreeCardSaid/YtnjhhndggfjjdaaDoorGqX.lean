/- Package grant's Waits, walked. -/
import Derived.Test.YtnjhhndggfjjdaaDoorGqV
set_option maxRecDepth 4000
namespace Go.Proofs.YtnjhhndggfjjdaaDoor
open Go.RowKit
def Wait1 (w : World) (H : List Cl) (x : Cl) (k : Nat) (v i : Value) (wr : World) : Prop :=
  ∃ j, j + k = H.length ∧ i = .int .i64 (j : Int) ∧ Own wr w.heap.size eI 3 v (((H.take j).filter fun c => inwayP c x).map (·.1)) ∧ Below w.heap.size w wr
def Wait2 (w : World) (P : List Int) (L : List Cl) (q k : Nat) (v i : Value) (wr : World) : Prop :=
  ∃ j, j + k = q ∧ i = .int .i64 (j : Int) ∧ Own wr w.heap.size eI 3 v (P ++ (L.take j).map (·.1)) ∧ Below w.heap.size w wr
theorem wait1_in {H : List Cl} {x : Cl} {j : Nat} (h : j < H.length) (hz : inwayP H[j] x = true) : (((H.take j).filter fun c => inwayP c x).map (·.1)) ++ [H[j].1] = ((H.take (j + 1)).filter fun c => inwayP c x).map (·.1) := by
  rw [List.take_succ_eq_append_getElem h, List.filter_append, List.map_append]
  simp [hz]
theorem wait1_out {H : List Cl} {x : Cl} {j : Nat} (h : j < H.length) (hz : inwayP H[j] x = false) : (((H.take j).filter fun c => inwayP c x).map (·.1)) = ((H.take (j + 1)).filter fun c => inwayP c x).map (·.1) := by
  rw [List.take_succ_eq_append_getElem h, List.filter_append]
  simp [hz]
theorem wait2_next {P : List Int} {L : List Cl} {j : Nat} (h : j < L.length) : (P ++ (L.take j).map (·.1)) ++ [L[j].1] = P ++ (L.take (j + 1)).map (·.1) := by
  rw [List.take_succ_eq_append_getElem h, List.map_append, List.append_assoc]; rfl
theorem Lst.atx {w : World} {K : Nat → Prop} {A : Option Addr} {l : List Cl} (h : Lst w K eC A l) {j : Nat} {x : Cl} (hj : l[j]? = some x) :
    ∃ b o, A = some ⟨b, o, none⟩ ∧ b < w.heap.size ∧ w.cell? ⟨b, o + j * 2, none⟩ = some (.int .i64 x.1) ∧ w.cell? ⟨b, o + j * 2 + 1, none⟩ = some (.int .i64 (x.2 : Int)) := by
  obtain ⟨hl, rfl⟩ := List.getElem?_eq_some_iff.1 hj
  exact h.atC hl
theorem waits_hit {H L : List Cl} {who : Int} {x : Cl} (h : L.findIdx (isW who) < L.length) (hx : L[L.findIdx (isW who)]? = some x) : waitsP (H, L) who = uniqI (rawP (H, L) x (L.findIdx (isW who))) := by
  unfold waitsP
  rw [dif_pos h]
  rw [List.getElem?_eq_getElem h] at hx
  injection hx with hx
  exact congrArg (fun y => uniqI (rawP (H, L) y (L.findIdx (isW who)))) hx
theorem waits_miss {H L : List Cl} {who : Int} (h : ¬ L.findIdx (isW who) < L.length) : waitsP (H, L) who = [] := by
  unfold waitsP
  rw [dif_neg h]
set_option maxHeartbeats 400000 in
theorem waits_ {w : World} {b off : Nat} {zn : Zn} {s : Lk} (h : Lock w b off zn s) (hok : Ok s) (hn : s.1.length ≤ 10000) (hm : s.2.length ≤ 10000) (hT : Tab w) (who : Int) :
    Calls Tryd.prog 27 #[.pointer (some ⟨b, off, none⟩), .int .i64 who] w fun e w' => ∃ v, e = .returned v ∧ Own w' w.heap.size eI 3 v (waitsP s who) ∧ Below w.heap.size w w' := by
  obtain ⟨H, L⟩ := s
  obtain ⟨vH, vL, h2, aH, aL⟩ := h
  obtain ⟨A1, c1, rfl, l1, _, _, _⟩ := aH
  obtain ⟨A2, c2, rfl, l2, hlc2, hcm2, _⟩ := aL
  simp only at *
  have b1 := h2.c1
  have hbs := h2.lt
  have hpl := place_ (c := c2) l2 rfl (by omega) who
  have H2 := Lib.hid h2
  have L1 := Lib.hid l1
  have L2 := Lib.hid l2
  have HT := Lib.hid hT
  have MH := Lib.hid hok.mH
  have ML := Lib.hid hok.mL
  simp only at MH ML
  clear h2 l1 l2 hT hok
  rcases idx_cases (isW who) L with ⟨e0, hany⟩ | ⟨hlt, e0, hany, hhit⟩
  · have hno : ¬ (L.findIdx (isW who) < L.length) := fun h => by
      have := List.findIdx_getElem (w := h)
      rw [List.any_eq_false] at hany
      exact absurd this (by simpa using hany _ (List.getElem_mem h))
    rw [waits_miss hno]
    rw [e0] at hpl
    have HP := Lib.hid hpl
    clear hpl e0 hany hno
    generalize L.length = m at *
    generalize H.length = n at *
    go_enter Tryd.func27, Tryd.ntmps27
    go_wp2_with fail
    refine HP.out.mono ?_
    rintro e w1 ⟨rfl, hb1⟩
    go_wp2_with fail
    go_ret
    exact ⟨_, rfl, own_nil _ _, hb1⟩
  · obtain ⟨x, hxx⟩ : ∃ x, L[L.findIdx (isW who)]? = some x := ⟨_, List.getElem?_eq_getElem hlt⟩
    rw [waits_hit hlt hxx]
    rw [e0] at hpl
    generalize hq : L.findIdx (isW who) = q at *
    have HLT := Lib.hid hlt
    have hx := ML.out _ (List.mem_of_getElem? hxx)
    have HP := Lib.hid hpl
    clear hpl e0 hany hhit hq
    have hat := fun W (hb : Below w.heap.size w W) => (L2.out.below hb).atx hxx
    have HAT := Lib.hid hat
    clear hat hxx
    generalize hmm : L.length = m at *
    generalize hnn : H.length = n at *
    have HM := Lib.hid hmm
    have HN := Lib.hid hnn
    clear hmm hnn
    unfold rawP
    simp only
    generalize hP : (H.filter fun c => inwayP c x).map (·.1) = P
    generalize hraw : P ++ (L.take q).map (·.1) = raw
    have HPP := Lib.hid hP
    have HRAW := Lib.hid hraw
    have hPl : P.length ≤ n := by
      rw [← hP, List.length_map, ← HN.out]
      exact List.length_filter_le _ _
    clear hP hraw
    go_enter Tryd.func27, Tryd.ntmps27
    go_wp2_with fail
    refine HP.out.mono ?_
    rintro e w1 ⟨rfl, hb1⟩
    have HB1 := Lib.hid hb1
    have p0 := (H2.out.below hb1 hbs).c0
    clear hb1
    go_wp2_with fail
    go_loopg [6, 8, 26] n (fun k v _ i wr => Wait1 w H x k v i wr)
    case atStart => exact ⟨0, by rw [HN.out]; omega, rfl, own_nil _ _, HB1.out⟩
    case round =>
      obtain ⟨j, hj, rfl, ho, hb⟩ := hrel
      have HJ := Lib.hid hj
      have HO := Lib.hid ho
      have HB := Lib.hid hb
      clear hj ho hb
      by_cases hltj : j < n
      · have hxj : j < H.length := by rw [HN.out]; exact hltj
        obtain ⟨g, o, rfl, hgl, d1, d2⟩ := (L1.out.below HB.out).atC hxj
        have hT1 := H2.out.below HB.out hbs
        have hbr := hT1.lt
        have r1 := hT1.c1
        have hTr := HT.out.below HB.out
        have hiw := fun W (hb : Below wr.heap.size wr W) => inway_ H[j] x (MH.out _ (List.getElem_mem hxj)).2 hx.2 W (hTr.below hb)
        have hin := wait1_in (x := x) hxj
        have hout := wait1_out (x := x) hxj
        have hlen : (((H.take j).filter fun c => inwayP c x).map (·.1)).length ≤ 100000 := by
          rw [List.length_map]
          have := List.length_filter_le (fun c : Cl => inwayP c x) (H.take j)
          rw [List.length_take] at this
          omega
        have HIN := Lib.hid hin
        have HOUT := Lib.hid hout
        have HLE := Lib.hid hlen
        unfold valC at hiw
        have HIW := Lib.hid hiw
        obtain ⟨g2, o2, ea, hg2, f1, f2⟩ := HAT.out wr HB.out
        clear hiw hin hout hlen hT1 hTr
        generalize inwayP H[j] x = z at *
        generalize (H[j]).1 = y1 at *
        generalize (H[j]).2 = y2 at *
        obtain ⟨x1, x2⟩ := x
        simp only at *
        subst ea
        go_wp2_with fail
        have hal := alloc_below wr (.cells #[.int .i64 y1, .int .i64 (y2 : Int)] 78)
        have e0 : (wr.alloc (.cells #[.int .i64 y1, .int .i64 (y2 : Int)] 78)).cell? ⟨wr.heap.size, 0, none⟩ = some (.int .i64 y1) := (Blk.new wr _ _).cell 0
        have e1 : (wr.alloc (.cells #[.int .i64 y1, .int .i64 (y2 : Int)] 78)).cell? ⟨wr.heap.size, 1, none⟩ = some (.int .i64 (y2 : Int)) := (Blk.new wr _ _).cell 1
        have r1' : (wr.alloc (.cells #[.int .i64 y1, .int .i64 (y2 : Int)] 78)).cell? ⟨b, off + 1, none⟩ = some (.slice (some ⟨g2, o2, none⟩) m c2) := (cell_of_heap (hal.block b hbr) (off + 1)).trans r1
        have f1' : (wr.alloc (.cells #[.int .i64 y1, .int .i64 (y2 : Int)] 78)).cell? ⟨g2, o2 + q * 2, none⟩ = some (.int .i64 x1) := (cell_of_heap (hal.block g2 hg2) _).trans f1
        have f2' : (wr.alloc (.cells #[.int .i64 y1, .int .i64 (y2 : Int)] 78)).cell? ⟨g2, o2 + q * 2 + 1, none⟩ = some (.int .i64 (x2 : Int)) := (cell_of_heap (hal.block g2 hg2) _).trans f2
        have HAL := Lib.hid hal
        clear hal
        generalize wr.alloc (.cells #[.int .i64 y1, .int .i64 (y2 : Int)] 78) = wA at *
        refine wp_region_still_tail 8 (by kernel_rfl) (by kernel_rfl) ?_
        simp only [List.take_succ_cons, List.take_zero, List.drop_succ_cons, List.drop_zero]
        repeat still_step
        refine wpStill_nil ?_
        go_wp2_with fail
        refine (HIW.out _ HAL.out.drew).mono ?_
        rintro e w2 ⟨rfl, hb2⟩
        have hb3 := below_drew_on HAL.out hb2 HAL.out.size
        have hb4 := HB.out.trans (hb3.mono HB.out.size)
        have s0 := (cell_of_heap (hb2.block wr.heap.size (block_of_cell e0)) 0).trans e0
        have ho2 := own_keep HO.out fun g hg => hb3.block g (own_blk HO.out hg).2.1
        cases z
        · rw [HOUT.out (by simp)] at ho2
          have HO3 := Lib.hid ho2
          have HB4 := Lib.hid hb4
          clear hb2 hb3 hb4 ho2 s0 e0 e1 r1' f1' f2'
          go_wp2_with fail
          go_roundg (n - (j + 1))
          case measure => have := HJ.out; have := HN.out; omega
          case rel => exact ⟨j + 1, by have := HN.out; omega, by go_num, HO3.out, HB4.out⟩
        · obtain ⟨v3, w3, hap, ho3, hb5⟩ := append_int ho2 hb4.size HLE.out hb4 y1
          rw [HIN.out (by simp)] at ho3
          have HO3 := Lib.hid ho3
          have HB4 := Lib.hid hb5
          have HAP := Lib.hid hap
          clear hb2 hb3 hb4 ho2 hap ho3 hb5 e0 e1 r1' f1' f2'
          go_wp2_with (at_builtin; refine wpList_append_run rfl (.tmp 39) (.tmp 42) 35 35 rfl _ _ rfl rfl HAP.out ?_)
          go_roundg (n - (j + 1))
          case measure => have := HJ.out; have := HN.out; omega
          case rel => exact ⟨j + 1, by have := HN.out; omega, by go_num, HO3.out, HB4.out⟩
      · have he : j = n := by have := HJ.out; have := HN.out; omega
        subst he
        have hall : H.take j = H := List.take_of_length_le (by rw [HN.out]; exact Nat.le_refl _)
        have ho1 := HO.out
        rw [hall] at ho1
        rw [HPP.out] at ho1
        have HO1 := Lib.hid ho1
        have HB2 := Lib.hid HB.out
        have r1 := (H2.out.below HB.out hbs).c1
        obtain ⟨g2, o2, ea, hg2, f1, f2⟩ := HAT.out wr HB.out
        subst ea
        have hqm : q < m := HLT.out
        have hsl := head_claims (some ⟨g2, o2, none⟩) m c2 q (by omega)
        have hqc : (q : Int) ≤ (c2 : Int) := by omega
        clear HO HB ho1 hall HJ f1 f2
        go_wp2_with fail
        go_loopg [6, 10, 52] q (fun k v _ i wr => Wait2 w P L q k v i wr)
        case atStart => exact ⟨0, by omega, rfl, by simpa using HO1.out, HB2.out⟩
        case round =>
          obtain ⟨i, hi, rfl, ho, hb⟩ := hrel
          have HI := Lib.hid hi
          have HO := Lib.hid ho
          have HB := Lib.hid hb
          clear hi ho hb
          by_cases hlti : i < q
          · have hxi : i < L.length := by rw [HM.out]; omega
            obtain ⟨g, o, e1, hgl, d1, d2⟩ := (L2.out.below HB.out).atC hxi
            injection e1 with e1
            injection e1 with e1 e2 _
            subst e1 e2
            have hnx := wait2_next (P := P) hxi
            have hlen : (P ++ (L.take i).map (·.1)).length ≤ 100000 := by
              rw [List.length_append, List.length_map, List.length_take]
              omega
            have HNX := Lib.hid hnx
            generalize (L[i]).1 = y1 at *
            generalize (L[i]).2 = y2 at *
            have hal := alloc_below wr (.cells #[.int .i64 y1, .int .i64 (y2 : Int)] 78)
            have ho2 := own_keep (W' := wr.alloc (.cells #[.int .i64 y1, .int .i64 (y2 : Int)] 78)) HO.out fun g hg => hal.block g (own_blk HO.out hg).2.1
            have hb2 := HB.out.trans (hal.mono HB.out.size)
            obtain ⟨v3, w3, hap, ho3, hb5⟩ := append_int ho2 hb2.size hlen hb2 y1
            rw [HNX.out] at ho3
            rw [show (wr.alloc (.cells #[.int .i64 y1, .int .i64 (y2 : Int)] 78)).heap.size = wr.heap.size + 1 by simp] at hap
            have HO3 := Lib.hid ho3
            have HB4 := Lib.hid hb5
            have HAP := Lib.hid hap
            clear hal ho2 hb2 hap ho3 hb5 hnx hlen
            go_wp2_with (at_builtin; refine wpList_append_run rfl (.tmp 56) (.tmp 59) 35 35 rfl _ _ rfl rfl HAP.out ?_)
            go_roundg (q - (i + 1))
            case measure => have := HI.out; omega
            case rel => exact ⟨i + 1, by omega, by go_num, HO3.out, HB4.out⟩
          · have he : i = q := by have := HI.out; omega
            subst he
            have ho9 := HO.out
            rw [HRAW.out] at ho9
            clear HO
            have HO := Lib.hid ho9
            clear ho9
            obtain ⟨A, cap, rfl, _, hlc, hcm, _⟩ := own_lst HO.out
            by_cases hz : raw = []
            · subst hz
              have hu : uniqI [] = [] := by simp [uniqI, sortedI, Lib.compact, Lib.compactUpTo]
              have HU := Lib.hid hu
              clear hu
              have hs1 := fun W => sort_none A cap W
              have hs2 := fun W => compact_none A cap W
              have HS1 := Lib.hid hs1
              have HS2 := Lib.hid hs2
              clear hs1 hs2
              simp only [List.length_nil] at *
              go_wp2_with fail
              refine (HS1.out _).mono ?_
              rintro e w' ⟨rfl, rfl⟩
              go_wp2_with fail
              refine (HS2.out _).mono ?_
              rintro e w' ⟨rfl, rfl⟩
              go_wp2_with fail
              go_ret
              exact ⟨_, rfl, by rw [HU.out]; exact HO.out, HB.out⟩
            · have hrl : 0 < raw.length := List.length_pos_iff.2 hz
              have hr3 : raw.length ≤ 30000 := by
                rw [← HRAW.out, List.length_append, List.length_map, List.length_take]
                omega
              clear hz
              have HO5 := HO.out
              rcases HO.out.2 with ⟨_, h0⟩ | ⟨g, cap', cur, e1, _⟩
              · omega
              obtain rfl : A = some ⟨g, 0, none⟩ := by injection e1
              obtain rfl : cap = cap' := by injection e1
              obtain ⟨hh1, hh2, hh3⟩ := own_holds HO5
              have hsrt := sort_ints g 0 cap raw wr hh1 hh2 (by omega)
              have hon := own_sorted HO5
              have hlen2 := sortedI_length raw
              have HSR := Lib.hid hsrt
              have HON := Lib.hid hon
              have HL2 := Lib.hid hlen2
              clear hsrt hon hlen2 hh1 hh2 HO5 e1
              generalize hrn : raw.length = rn at *
              go_wp2_with fail
              refine HSR.out.mono ?_
              rintro e w4 ⟨rfl, n4, os4, hw4⟩
              have h4 := HON.out n4 os4
              have hw5 : w4 = Go.Sort.grow (Go.Sort.putRow (Value.int .i64) (Go.Sort.ahead wr n4) g 0 (sortedI raw).toArray) os4 := hw4
              rw [← hw5] at h4
              clear hw4 hw5
              obtain ⟨o4, b4⟩ := h4
              have o4' : Own w4 w.heap.size eI 3 (.slice (some ⟨g, 0, none⟩) (sortedI raw).length cap) (sortedI raw) := by rw [HL2.out]; exact o4
              have hcc := fun q => own_compact o4' q
              have hh4 := own_holds o4'
              have hcp := compact_ints g 0 cap (sortedI raw) _ hh4.1 (by rw [HL2.out]; omega) hh4.2.2
              rw [HL2.out] at hcp hcc
              have HCP := Lib.hid hcp
              have HCC := Lib.hid hcc
              have HB6 := Lib.hid (HB.out.trans b4)
              clear hcp hcc hh4 o4 o4' b4 HSR HON
              go_wp2_with fail
              refine HCP.out.mono ?_
              rintro e w6 ⟨rfl, q5, hw6⟩
              have h6 := HCC.out q5
              rw [← hw6] at h6
              have H6 := Lib.hid h6
              clear hw6 h6 HCC HCP
              have hu : uniqI raw = Lib.compact (sortedI raw) := rfl
              have HU := Lib.hid hu
              clear hu
              go_wp2_with fail
              go_ret
              rw [HU.out]
              exact ⟨_, rfl, H6.out.1, HB6.out.trans H6.out.2⟩
end Go.Proofs.YtnjhhndggfjjdaaDoor
