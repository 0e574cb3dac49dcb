/- Edges in their order: the closure by which package locks' Edges sorts, and what the sort leaves. -/
import Derived.Test.YtnjhhndggfjjdaaDoorLkS
import Derived.Test.YtnjhhndggfjjdaaDoorNmW
import Derived.Test.YtnjhhndggfjjdaaDoorStepC
set_option maxRecDepth 4000
namespace Go.Proofs.YtnjhhndggfjjdaaDoor
open Go.RowKit Go.Sort Go.Lib
/-- how an edge lies -/
def eE : Enc (Int × Int) := ⟨encE, 2, by omega, fun _ => rfl, fun _ v hv => by simp [encE] at hv; rcases hv with rfl | rfl <;> rfl⟩
theorem tyE : RowTy eE 41 39 := ⟨Tryd.underlying39, .agg #[.int .i64 0, .int .i64 0], 16, by kernel_rfl, rfl, by omega⟩
theorem Lst.atE {w : World} {K : Nat → Prop} {A : Option Addr} {l : List (Int × Int)} (h : Lst w K eE A l) {j : Nat} (hj : j < l.length) :
    ∃ b o, A = some ⟨b, o, none⟩ ∧ b < w.heap.size ∧ w.cell? ⟨b, o + j * 2, none⟩ = some (.int .i64 l[j].1) ∧ w.cell? ⟨b, o + j * 2 + 1, none⟩ = some (.int .i64 l[j].2) := by
  obtain ⟨b, o, e, hl, hc⟩ := h.at_ hj
  exact ⟨b, o, e, hl, hc 0 _ rfl, hc 1 _ rfl⟩
def cmpE (x y : Int × Int) : Int := orI [cmpI x.1 y.1, cmpI x.2 y.2]
theorem cmpE_lt (x y : Int × Int) : cmpE x y < 0 ↔ (x.1 < y.1 ∨ x.1 = y.1 ∧ x.2 < y.2) := by
  unfold cmpE
  simp only [orI]
  unfold cmpI
  by_cases h1 : x.1 < y.1
  · simp [h1]
  · by_cases h2 : y.1 < x.1
    · have : x.1 ≠ y.1 := by omega
      simp [h1, h2, this]
    · have e : x.1 = y.1 := by omega
      by_cases h3 : x.2 < y.2
      · simp [e, h3]
      · by_cases h4 : y.2 < x.2 <;> simp [e, h3, h4]
theorem ltE (x y : Int × Int) : ltOf cmpE x y = decide (x.1 < y.1 ∨ x.1 = y.1 ∧ x.2 < y.2) := by
  unfold ltOf
  exact decide_eq_decide.2 (cmpE_lt x y)
theorem swoE : SWO (ltOf cmpE) where
  irrefl x := by rw [ltE]; simp
  trans x y z h1 h2 := by
    rw [ltE] at *
    have h1 := of_decide_eq_true h1
    have h2 := of_decide_eq_true h2
    apply decide_eq_true
    omega
  ntrans x y z h1 h2 := by
    rw [ltE] at *
    have h1 := of_decide_eq_false h1
    have h2 := of_decide_eq_false h2
    apply decide_eq_false
    omega
theorem totE (x y : Int × Int) (h1 : ltOf cmpE x y = false) (h2 : ltOf cmpE y x = false) : x = y := by
  rw [ltE] at *
  have h1 := of_decide_eq_false h1
  have h2 := of_decide_eq_false h2
  exact Prod.ext (by omega) (by omega)
def sortedE (l : List (Int × Int)) : List (Int × Int) := l.mergeSort fun x y => !(ltOf cmpE) y x
theorem sortedE_length (l : List (Int × Int)) : (sortedE l).length = l.length := List.length_mergeSort _
set_option maxHeartbeats 4000000 in
theorem edgeF_ (x y : Int × Int) (w : World) : Calls Tryd.prog 29 #[.agg #[.int .i64 x.1, .int .i64 x.2], .agg #[.int .i64 y.1, .int .i64 y.2]] w fun e w' => e = .returned (.int .i64 (cmpE x y)) ∧ ∃ q os', w' = grow (w.drewN q) os' := by
  obtain ⟨a1, a2⟩ := x
  obtain ⟨b1, b2⟩ := y
  unfold cmpE
  simp only
  go_enter Tryd.func29, Tryd.ntmps29
  go_wp2_with fail
  have B0 := (Blk.new w 41 #[.int .i64 a1, .int .i64 a2]).alloc (.cells #[.int .i64 b1, .int .i64 b2] 41)
  have B1 := Blk.new (w.alloc (.cells #[.int .i64 a1, .int .i64 a2] 41)) 41 #[.int .i64 b1, .int .i64 b2]
  have hsz : (w.alloc (.cells #[.int .i64 a1, .int .i64 a2] 41)).heap.size = w.heap.size + 1 := by simp
  rw [hsz] at B1
  have c0 := B0.cell 0
  have c1 := B0.cell 1
  have d0 := B1.cell 0
  have d1 := B1.cell 1
  have hfin : ((w.alloc (.cells #[.int .i64 a1, .int .i64 a2] 41)).alloc (.cells #[.int .i64 b1, .int .i64 b2] 41)).drew.alloc (.cells #[.int .i64 (cmpI a1 b1), .int .i64 (cmpI a2 b2)] 3) = grow (w.drewN 1) #[.cells #[.int .i64 a1, .int .i64 a2] 41, .cells #[.int .i64 b1, .int .i64 b2] 41, .cells #[.int .i64 (cmpI a1 b1), .int .i64 (cmpI a2 b2)] 3] := by
    rw [show ((w.alloc (.cells #[.int .i64 a1, .int .i64 a2] 41)).alloc (.cells #[.int .i64 b1, .int .i64 b2] 41)).drew = ((w.drewN 1).alloc (.cells #[.int .i64 a1, .int .i64 a2] 41)).alloc (.cells #[.int .i64 b1, .int .i64 b2] 41) from rfl, alloc_eq_grow, alloc_eq_grow, alloc_eq_grow, grow_grow, grow_grow]
    rfl
  clear B0 B1 hsz
  have HFIN := Lib.hid hfin
  clear hfin
  generalize (w.alloc (.cells #[.int .i64 a1, .int .i64 a2] 41)).alloc (.cells #[.int .i64 b1, .int .i64 b2] 41) = wA at *
  have hbl := alloc_below wA.drew (.cells #[.int .i64 (cmpI a1 b1), .int .i64 (cmpI a2 b2)] 3)
  have hor := or_ (w := wA.drew.alloc (.cells #[.int .i64 (cmpI a1 b1), .int .i64 (cmpI a2 b2)] 3)) (K := fun _ => True) (A := some ⟨wA.heap.size, 0, none⟩) (n := 2) (c := 2) (l := [cmpI a1 b1, cmpI a2 b2]) (fun _ => ⟨_, 0, rfl, trivial, by simp, fun j u hu => by
    have := (Blk.new wA.drew 3 #[.int .i64 (cmpI a1 b1), .int .i64 (cmpI a2 b2)]).cell (0 + j)
    refine this.trans ?_
    rw [Nat.zero_add]
    simpa [cellsE, eI] using hu⟩) rfl (by omega)
  have hS0 : (fun W : World => W.cell? ⟨w.heap.size, 0, none⟩ = some (.int .i64 a1) ∧ W.cell? ⟨w.heap.size, 1, none⟩ = some (.int .i64 a2) ∧ W.cell? ⟨w.heap.size + 1, 0, none⟩ = some (.int .i64 b1) ∧ W.cell? ⟨w.heap.size + 1, 1, none⟩ = some (.int .i64 b2)) wA.drew := ⟨c0, c1, d0, d1⟩
  have hS1 : (fun W : World => W.cell? ⟨w.heap.size, 0, none⟩ = some (.int .i64 a1) ∧ W.cell? ⟨w.heap.size, 1, none⟩ = some (.int .i64 a2) ∧ W.cell? ⟨w.heap.size + 1, 0, none⟩ = some (.int .i64 b1) ∧ W.cell? ⟨w.heap.size + 1, 1, none⟩ = some (.int .i64 b2)) (wA.drew.alloc (.cells #[.int .i64 (cmpI a1 b1), .int .i64 (cmpI a2 b2)] 3)) :=
    ⟨(cell_of_heap (hbl.block _ (block_of_cell c0)) _).trans c0, (cell_of_heap (hbl.block _ (block_of_cell c1)) _).trans c1, (cell_of_heap (hbl.block _ (block_of_cell d0)) _).trans d0, (cell_of_heap (hbl.block _ (block_of_cell d1)) _).trans d1⟩
  have HOR := Lib.hid hor
  clear hor hbl
  generalize hz : orI [cmpI a1 b1, cmpI a2 b2] = z at *
  have HZ := Lib.hid hz
  clear hz
  go_region_held3 (fun W : World => W.cell? ⟨w.heap.size, 0, none⟩ = some (.int .i64 a1) ∧ W.cell? ⟨w.heap.size, 1, none⟩ = some (.int .i64 a2) ∧ W.cell? ⟨w.heap.size + 1, 0, none⟩ = some (.int .i64 b1) ∧ W.cell? ⟨w.heap.size + 1, 1, none⟩ = some (.int .i64 b2))
    (first | exact hS0 | exact hS1)
    (first
      | (go_at_call 30; refine HOR.out.mono ?_; rintro e w1 ⟨rfl, rfl⟩)
      | (go_at_call 31; refine (compareI _ _ _).mono ?_; rintro e w1 ⟨rfl, rfl⟩))
  all_goals
    go_wp2_with fail
    go_ret
    exact ⟨by rw [HZ.out]; rfl, _, _, HFIN.out⟩
theorem cmpLaysE (blk off size : Nat) (w : World) : CmpLays Tryd.prog 29 #[] encE 2 cmpE blk off size w := fun _ _ _ _ x y => edgeF_ x y _
theorem flat_at {l : List (Int × Int)} {t : Nat} (h : t < l.length * 2) : (cellsE eE l)[t]? = some ((flatK encE 2 l.toArray)[t]!) := by
  have h1 : t / 2 < l.length := by omega
  have h2 := cellsE_at eE (l := l) (j := t / 2) (i := t % 2) (v := ((encE l[t / 2])[t % 2]'(by show t % 2 < 2; omega))) h1 (List.getElem?_eq_getElem _)
  have e : t / 2 * eE.k + t % 2 = t := by show t / 2 * 2 + t % 2 = t; omega
  rw [e] at h2
  rw [h2, get_flatK encE 2 _ t (by simpa using h)]
  congr 1
  have : (l.toArray)[t / 2]! = l[t / 2] := by simp [h1]
  rw [this, getElem!_pos _ _ (by show t % 2 < 2; omega)]
theorem own_holdsE {w : World} {base g cap : Nat} {l : List (Int × Int)} (h : Own w base eE 41 (.slice (some ⟨g, 0, none⟩) l.length cap) l) : HoldsK encE 2 w g 0 l.toArray ∧ g < w.heap.size := by
  rcases h.2 with ⟨e, _⟩ | ⟨g', cap', cur, e, hb, hh, hn, hm, hs, htk⟩
  · cases e
  injection e with e1 _ e3
  injection e1 with e1
  injection e1 with e1 _ _
  subst e1 e3
  refine ⟨?_, lt_of_some hh⟩
  intro j hj
  have hj' : j < l.length * 2 := by simpa using hj
  refine ⟨?_, by simp [World.frozen?, hh]⟩
  have h1 : cur[j]? = (cellsE eE l)[j]? := by
    rw [← htk, List.getElem?_take_of_lt (by exact hj'), Array.getElem?_toList]
  rw [show w.cell? ⟨g, 0 + j, none⟩ = cur[0 + j]? from cell_of_row w g _ cur _ (0, 0) hh, Nat.zero_add, h1, flat_at hj']
  simp [hj']
/-- edges sorted in the row's own memory -/
theorem own_sortedE {w : World} {base g cap : Nat} {l : List (Int × Int)} (h : Own w base eE 41 (.slice (some ⟨g, 0, none⟩) l.length cap) l) (n : Nat) (os : Array Obj) :
    Own (sortWorldK encE 2 w g 0 n (sortedE l).toArray os) base eE 41 (.slice (some ⟨g, 0, none⟩) l.length cap) (sortedE l) ∧ Below base w (sortWorldK encE 2 w g 0 n (sortedE l).toArray os) := by
  rcases h.2 with ⟨e, _⟩ | ⟨g', cap', cur, e, hb, hh, hn, hm, hs, _⟩
  · cases e
  injection e with e1 _ e3
  injection e1 with e1
  injection e1 with e1 _ _
  subst e1 e3
  have hg : g < w.heap.size := lt_of_some hh
  have hcs : cur.size = cap * 2 := hs
  have hheap : (sortWorldK encE 2 w g 0 n (sortedE l).toArray os).heap[g]? = some (.cells (putCells id 0 (flatK encE 2 (sortedE l).toArray) cur) 41 (0, 0)) := by
    unfold sortWorldK putRowK
    rw [heap_grow_old _ _ (by simpa using hg)]
    simp [putRow, mapBlock, Sort.ahead, Array.getElem?_modify, hh, onCells]
  have hl := sortedE_length l
  refine ⟨⟨by rw [cellsE_length], .inr ⟨g, cap, _, by rw [hl], hb, hheap, by rw [hl]; exact hn, hm, by simp [putCells, hs], ?_⟩⟩, rfl, rfl, rfl, by simp [sortWorldK, putRowK], fun k hk => ?_⟩
  · apply List.ext_getElem?
    intro j
    by_cases hj : j < (sortedE l).length * 2
    · rw [List.getElem?_take_of_lt (by exact hj), Array.getElem?_toList, flat_at hj]
      have hjc : j < cur.size := by omega
      simp [putCells, hj, hjc]
    · rw [List.getElem?_take_eq_none (by exact Nat.not_lt.1 hj), List.getElem?_eq_none (by rw [cellsE_length]; exact Nat.not_lt.1 hj)]
  · unfold sortWorldK putRowK
    rw [heap_grow_old _ _ (by simp; omega)]
    have : g ≠ k := by omega
    simp [putRow, mapBlock, Sort.ahead, Array.getElem?_modify, this]
end Go.Proofs.YtnjhhndggfjjdaaDoor
