/- Package grant's Holds. -/
import Derived.Test.YtnjhhndggfjjdaaDoorGqE
import Derived.Test.YtnjhhndggfjjdaaDoorStepC
import Derived.Deep.RegionHeld3
set_option maxRecDepth 4000
namespace Go.Proofs.YtnjhhndggfjjdaaDoor
open Go.RowKit
theorem lst_hold (W : World) (x : Ho) : Lst (W.alloc (.cells #[.int .i64 x.1, .int .i64 (x.2.1 : Int), .int .i64 (x.2.2 : Int)] 53)) (fun i => W.heap.size ≤ i) eH (some ⟨W.heap.size, 0, none⟩) [x] := fun _ =>
  ⟨_, 0, rfl, Nat.le_refl _, by simp, fun j u hu => by rw [(Blk.new W 53 _).cell, Nat.zero_add]; simpa [cellsE, eH] using hu⟩
/-- one more behind a row of holds -/
theorem append_hold {w W : World} {base : Nat} {v : Value} {l : List Ho} (ho : Own W base eH 53 v l) (hb : base ≤ W.heap.size) (hn : l.length ≤ 100000) (k : Below base w W) (x : Ho) :
    ∃ v' W', (Builtin.append_ #[64, 64] 64 #[v, .slice (some ⟨W.heap.size, 0, none⟩) 1 1]).run Tryd.prog (W.alloc (.cells #[.int .i64 x.1, .int .i64 (x.2.1 : Int), .int .i64 (x.2.2 : Int)] 53)) = .ok v' W' ∧
      Own W' base eH 53 v' (l ++ [x]) ∧ Below base w W' ∧ ∀ g, g < W.heap.size → v.ownBlock ≠ some g → W'.heap[g]? = W.heap[g]? := by
  have hal := alloc_below W (.cells #[.int .i64 x.1, .int .i64 (x.2.1 : Int), .int .i64 (x.2.2 : Int)] 53)
  have ho2 := own_keep (W' := W.alloc (.cells #[.int .i64 x.1, .int .i64 (x.2.1 : Int), .int .i64 (x.2.2 : Int)] 53)) ho fun g hg => hal.block g (own_blk ho hg).2.1
  obtain ⟨v', W', hap, ho', hg', _⟩ := append_own tyH ho2 (lst_hold W x) rfl 1 (by show l.length + 1 ≤ _; omega) (Nat.le_trans hb hal.size)
  refine ⟨v', W', hap, ho', (k.trans (hal.mono hb)).grown hg' (Nat.le_trans hb hal.size) (fun g hg => ?_), fun g hlt hne => (hg'.block g (Nat.lt_of_lt_of_le hlt hal.size) (fun e => hne e.symm)).trans (hal.block g hlt)⟩
  exact (own_blk ho2 hg).1
def Hold1 (w : World) (H L : List Cl) (k : Nat) (v i : Value) (wr : World) : Prop :=
  ∃ j, j + k = H.length ∧ i = .int .i64 (j : Int) ∧ Own wr w.heap.size eH 53 v ((H.take j).map (holdsA L)) ∧ Below w.heap.size w wr
def Hold2 (w : World) (H L : List Cl) (k : Nat) (v i : Value) (wr : World) : Prop :=
  ∃ j, j + k = L.length ∧ i = .int .i64 (j : Int) ∧ Own wr w.heap.size eH 53 v (H.map (holdsA L) ++ ((L.take j).filter fun c => modeP H c.1 == 0).map holdsB) ∧ Below w.heap.size w wr
theorem holds1_next {H L : List Cl} {j : Nat} (h : j < H.length) : (H.take j).map (holdsA L) ++ [(H[j].1, H[j].2, modeP L H[j].1)] = (H.take (j + 1)).map (holdsA L) := by
  rw [List.take_succ_eq_append_getElem h, List.map_append]; rfl
theorem holds2_in {H L : List Cl} {j : Nat} (h : j < L.length) (hz : modeP H L[j].1 = 0) : (((L.take j).filter fun c => modeP H c.1 == 0).map holdsB) ++ [(L[j].1, 0, L[j].2)] = ((L.take (j + 1)).filter fun c => modeP H c.1 == 0).map holdsB := by
  rw [List.take_succ_eq_append_getElem h, List.filter_append, List.map_append]
  simp [hz, holdsB]
theorem holds2_out {H L : List Cl} {j : Nat} (h : j < L.length) (hz : modeP H L[j].1 ≠ 0) : (((L.take j).filter fun c => modeP H c.1 == 0).map holdsB) = ((L.take (j + 1)).filter fun c => modeP H c.1 == 0).map holdsB := by
  rw [List.take_succ_eq_append_getElem h, List.filter_append]
  simp [hz]
set_option maxHeartbeats 2000000 in
theorem holds_ {w : World} {b off : Nat} {zn : Zn} {s : Lk} (h : Lock w b off zn s) (hn : s.1.length ≤ 10000) (hm : s.2.length ≤ 10000) :
    Calls Tryd.prog 26 #[.pointer (some ⟨b, off, none⟩)] w fun e w' => ∃ v, e = .returned v ∧ Own w' w.heap.size eH 53 v (holdsP s) ∧ Below w.heap.size w w' := by
  obtain ⟨H, L⟩ := s
  obtain ⟨vH, vL, h2, aH, aL⟩ := h
  obtain ⟨A1, c1, rfl, l1, _, _, _⟩ := aH
  obtain ⟨A2, c2, rfl, l2, _, _, _⟩ := aL
  simp only at *
  have b0 := h2.c0
  have hbs := h2.lt
  have H2 := Lib.hid h2
  have L1 := Lib.hid l1
  have L2 := Lib.hid l2
  unfold holdsP
  simp only
  clear h2 l1 l2
  generalize hnn : H.length = n at *
  generalize hmm : L.length = m at *
  have HN := Lib.hid hnn
  have HM := Lib.hid hmm
  clear hnn hmm
  go_enter Tryd.func26, Tryd.ntmps26
  go_wp2_with fail
  go_loopg [3, 5, 15] n (fun k v _ i wr => Hold1 w H L k v i wr)
  case atStart => exact ⟨0, by rw [HN.out]; omega, rfl, own_nil _ _, Below.refl _ _⟩
  case round =>
    obtain ⟨j, hj, rfl, ho, hb⟩ := hrel
    have HJ := Lib.hid hj
    have HO := Lib.hid ho
    have HB := Lib.hid hb
    clear hj ho hb
    by_cases hlt : j < n
    · have hx : j < H.length := by rw [HN.out]; exact hlt
      obtain ⟨g, o, rfl, hgl, d1, d2⟩ := (L1.out.below HB.out).atC hx
      have hT := H2.out.below HB.out hbs
      have hbr := hT.lt
      have p1 := hT.c1
      have hmo := fun W (hb : Below wr.heap.size wr W) => mode_of (w := W) (c := c2) ((L2.out.below HB.out).below hb) HM.out (by omega) (H[j]).1
      have hnx := holds1_next (L := L) hx
      have hlen : ((H.take j).map (holdsA L)).length ≤ 100000 := by rw [List.length_map, List.length_take]; omega
      have HNX := Lib.hid hnx
      have HMO := Lib.hid hmo
      have HLE := Lib.hid hlen
      clear hmo hT hnx hlen
      generalize modeP L (H[j]).1 = z at *
      generalize (H[j]).1 = x1 at *
      generalize (H[j]).2 = x2 at *
      go_wp2_with fail
      have hal := alloc_below wr (.cells #[.int .i64 x1, .int .i64 (x2 : Int)] 78)
      have e0 : (wr.alloc (.cells #[.int .i64 x1, .int .i64 (x2 : Int)] 78)).cell? ⟨wr.heap.size, 0, none⟩ = some (.int .i64 x1) := (Blk.new wr _ _).cell 0
      have e1 : (wr.alloc (.cells #[.int .i64 x1, .int .i64 (x2 : Int)] 78)).cell? ⟨wr.heap.size, 1, none⟩ = some (.int .i64 (x2 : Int)) := (Blk.new wr _ _).cell 1
      have p1' : (wr.alloc (.cells #[.int .i64 x1, .int .i64 (x2 : Int)] 78)).cell? ⟨b, off + 1, none⟩ = some (.slice A2 m c2) := (cell_of_heap (hal.block b hbr) (off + 1)).trans p1
      have HAL := Lib.hid hal
      have hne : u3.ownBlock ≠ some wr.heap.size := fun e => by have := (own_blk HO.out e).2.1; omega
      have hnb : u3.ownBlock ≠ some b := two_neT (H2.out.below HB.out hbs) HO.out (by decide)
      have HNE := Lib.hid hne
      have HNB := Lib.hid hnb
      clear hal hne hnb
      generalize wr.alloc (.cells #[.int .i64 x1, .int .i64 (x2 : Int)] 78) = wA at *
      have hS0 : (fun W : World => W.cell? ⟨wr.heap.size, 0, none⟩ = some (.int .i64 x1) ∧ W.cell? ⟨wr.heap.size, 1, none⟩ = some (.int .i64 (x2 : Int)) ∧ W.cell? ⟨b, off + 1, none⟩ = some (.slice A2 m c2)) wA.drew := ⟨e0, e1, p1'⟩
      go_region_held3 (fun W : World => W.cell? ⟨wr.heap.size, 0, none⟩ = some (.int .i64 x1) ∧ W.cell? ⟨wr.heap.size, 1, none⟩ = some (.int .i64 (x2 : Int)) ∧ W.cell? ⟨b, off + 1, none⟩ = some (.slice A2 m c2))
        (first | exact hS0 | exact hS1 | exact hS2 | exact hS3)
        (first | (refine step_call rfl (f := 36) (by go_simp) ((HMO.out _ HAL.out.drew).mono ?_); rintro e w1 ⟨rfl, hb1⟩; have hb2 := below_drew_on HAL.out hb1 HAL.out.size; have hb3 := HB.out.trans (hb2.mono HB.out.size); have hS1 : (fun W : World => W.cell? ⟨wr.heap.size, 0, none⟩ = some (.int .i64 x1) ∧ W.cell? ⟨wr.heap.size, 1, none⟩ = some (.int .i64 (x2 : Int)) ∧ W.cell? ⟨b, off + 1, none⟩ = some (.slice A2 m c2)) w1 := ⟨(cell_of_heap (hb1.block wr.heap.size (block_of_cell e0)) 0).trans e0, (cell_of_heap (hb1.block wr.heap.size (block_of_cell e0)) 1).trans e1, (cell_of_heap (hb1.block b (block_of_cell p1')) (off + 1)).trans p1'⟩; obtain ⟨v3, w3, hap, ho3, hb4, hfar⟩ := append_hold (own_keep HO.out fun g hg => hb2.block g (own_blk HO.out hg).2.1) hb3.size HLE.out hb3 (x1, x2, z); have hlt0 := block_of_cell hS1.1; have hltb := block_of_cell hS1.2.2; have hne0 := HNE.out; have hneb := HNB.out; have hS2 : (fun W : World => W.cell? ⟨wr.heap.size, 0, none⟩ = some (.int .i64 x1) ∧ W.cell? ⟨wr.heap.size, 1, none⟩ = some (.int .i64 (x2 : Int)) ∧ W.cell? ⟨b, off + 1, none⟩ = some (.slice A2 m c2)) (w1.alloc (.cells #[.int .i64 x1, .int .i64 (x2 : Int), .int .i64 (z : Int)] 53)) := ⟨(cell_of_heap ((alloc_below w1 _).block _ hlt0) 0).trans hS1.1, (cell_of_heap ((alloc_below w1 _).block _ hlt0) 1).trans hS1.2.1, (cell_of_heap ((alloc_below w1 _).block _ hltb) (off + 1)).trans hS1.2.2⟩; have hS3 : (fun W : World => W.cell? ⟨wr.heap.size, 0, none⟩ = some (.int .i64 x1) ∧ W.cell? ⟨wr.heap.size, 1, none⟩ = some (.int .i64 (x2 : Int)) ∧ W.cell? ⟨b, off + 1, none⟩ = some (.slice A2 m c2)) w3 := ⟨(cell_of_heap (hfar _ hlt0 hne0) 0).trans hS1.1, (cell_of_heap (hfar _ hlt0 hne0) 1).trans hS1.2.1, (cell_of_heap (hfar _ hltb hneb) (off + 1)).trans hS1.2.2⟩; rw [HNX.out] at ho3; have HO3 := Lib.hid ho3; have HB4 := Lib.hid hb4; have HAP := Lib.hid hap; clear hb1 hb2 hb3 hap ho3 hb4 hfar hlt0 hltb hne0 hneb; refine ⟨_, rfl, ?_⟩) | (refine step_append_at rfl (.tmp 19) (.tmp 32) 64 64 rfl _ _ rfl rfl HAP.out ?_))
      go_wp2_with fail
      go_roundg (n - (j + 1))
      case measure => have := HJ.out; have := HN.out; omega
      case rel => exact ⟨j + 1, by have := HN.out; omega, by go_num, HO3.out, HB4.out⟩
    · have he : j = n := by have := HJ.out; have := HN.out; omega
      subst he
      have hall : H.take j = H := List.take_of_length_le (by rw [HN.out]; exact Nat.le_refl _)
      have ho1 := HO.out
      rw [hall] at ho1
      have HO1 := Lib.hid ho1
      have HB1 := Lib.hid HB.out
      have p0 := (H2.out.below HB.out hbs).c0
      have p1 := (H2.out.below HB.out hbs).c1
      clear HO HB ho1 hall HJ
      go_wp2_with fail
      go_loopg [3, 7, 40] m (fun k v _ i wr => Hold2 w H L k v i wr)
      case atStart => exact ⟨0, by rw [HM.out]; omega, rfl, by simpa using HO1.out, HB1.out⟩
      case round =>
        obtain ⟨i, hi, rfl, ho, hb⟩ := hrel
        have HI := Lib.hid hi
        have HO := Lib.hid ho
        have HB := Lib.hid hb
        clear hi ho hb
        by_cases hlt : i < m
        · have hx : i < L.length := by rw [HM.out]; exact hlt
          obtain ⟨g, o, rfl, hgl, d1, d2⟩ := (L2.out.below HB.out).atC hx
          have hT := H2.out.below HB.out hbs
          have hbr := hT.lt
          have p0 := hT.c0
          have hmo := fun W (hb : Below wr.heap.size wr W) => mode_of (w := W) (c := c1) ((L1.out.below HB.out).below hb) HN.out (by omega) (L[i]).1
          have hin := fun h => holds2_in (H := H) hx h
          have hout := fun h => holds2_out (H := H) hx h
          have hlen : (H.map (holdsA L) ++ ((L.take i).filter fun c => modeP H c.1 == 0).map holdsB).length ≤ 100000 := by
            rw [List.length_append, List.length_map, List.length_map, HN.out]
            have := List.length_filter_le (fun c : Cl => modeP H c.1 == 0) (L.take i)
            rw [List.length_take] at this
            omega
          have HIN := Lib.hid hin
          have HOUT := Lib.hid hout
          have HMO := Lib.hid hmo
          have HLE := Lib.hid hlen
          clear hmo hT hin hout hlen
          generalize modeP H (L[i]).1 = z at *
          generalize (L[i]).1 = x1 at *
          generalize (L[i]).2 = x2 at *
          go_wp2_with fail
          have hal := alloc_below wr (.cells #[.int .i64 x1, .int .i64 (x2 : Int)] 78)
          have e0 : (wr.alloc (.cells #[.int .i64 x1, .int .i64 (x2 : Int)] 78)).cell? ⟨wr.heap.size, 0, none⟩ = some (.int .i64 x1) := (Blk.new wr _ _).cell 0
          have e1 : (wr.alloc (.cells #[.int .i64 x1, .int .i64 (x2 : Int)] 78)).cell? ⟨wr.heap.size, 1, none⟩ = some (.int .i64 (x2 : Int)) := (Blk.new wr _ _).cell 1
          have p0' : (wr.alloc (.cells #[.int .i64 x1, .int .i64 (x2 : Int)] 78)).cell? ⟨b, off, none⟩ = some (.slice A1 j c1) := (cell_of_heap (hal.block b hbr) off).trans p0
          have HAL := Lib.hid hal
          clear hal
          generalize wr.alloc (.cells #[.int .i64 x1, .int .i64 (x2 : Int)] 78) = wA at *
          refine wp_region_still_tail 6 (by kernel_rfl) (by kernel_rfl) ?_
          simp only [List.take_succ_cons, List.take_zero, List.drop_succ_cons, List.drop_zero]
          repeat still_step
          refine wpStill_nil ?_
          go_wp2_with fail
          refine (HMO.out _ HAL.out.drew).mono ?_
          rintro e w1 ⟨rfl, hb1⟩
          have hb2 := below_drew_on HAL.out hb1 HAL.out.size
          have hb3 := HB.out.trans (hb2.mono HB.out.size)
          have s0 := (cell_of_heap (hb1.block wr.heap.size (block_of_cell e0)) 0).trans e0
          have s1 := (cell_of_heap (hb1.block wr.heap.size (block_of_cell e0)) 1).trans e1
          have ho2 := own_keep HO.out fun g hg => hb2.block g (own_blk HO.out hg).2.1
          by_cases hz : z = 0
          · subst hz
            obtain ⟨v3, w3, hap, ho3, hb4, _⟩ := append_hold ho2 hb3.size HLE.out hb3 (x1, 0, x2)
            rw [List.append_assoc, HIN.out rfl] at ho3
            have HO3 := Lib.hid ho3
            have HB4 := Lib.hid hb4
            have HAP := Lib.hid hap
            clear hb1 hb2 hb3 hap ho3 hb4 e0 e1 p0' ho2
            go_wp2_with (at_builtin; refine wpList_append_run rfl (.tmp 52) (.tmp 58) 64 64 rfl _ _ rfl rfl HAP.out ?_)
            go_roundg (m - (i + 1))
            case measure => have := HI.out; have := HM.out; omega
            case rel => exact ⟨i + 1, by have := HM.out; omega, by go_num, HO3.out, HB4.out⟩
          · have hzn : ¬ ((z : Int) = 0) := by omega
            have hoo := HOUT.out hz
            rw [hoo] at ho2
            have HO3 := Lib.hid ho2
            have HB4 := Lib.hid hb3
            clear hb1 hb2 hb3 e0 e1 p0' ho2 s0 s1 hoo
            go_wp2_with fail
            go_roundg (m - (i + 1))
            case measure => have := HI.out; have := HM.out; omega
            case rel => exact ⟨i + 1, by have := HM.out; omega, by go_num, HO3.out, HB4.out⟩
        · have he : i = m := by have := HI.out; have := HM.out; omega
          subst he
          have hall : L.take i = L := List.take_of_length_le (by rw [HM.out]; exact Nat.le_refl _)
          have ho1 := HO.out
          rw [hall] at ho1
          have HO2 := Lib.hid ho1
          clear ho1 hall
          go_wp2_with fail
          go_ret
          exact ⟨_, rfl, HO2.out, HB.out⟩
end Go.Proofs.YtnjhhndggfjjdaaDoor
