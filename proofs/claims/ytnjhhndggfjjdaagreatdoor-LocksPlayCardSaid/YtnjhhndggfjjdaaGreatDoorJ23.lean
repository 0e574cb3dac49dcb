/- The library's SortFunc at edges: the shelf's contract, laid over this program (in plain words, by the shelf's own command). Edges in their order: the closure by which package locks' Edges sorts, and what the sort leaves. For whom each one waits, over all locks: package locks' Edges. Package locks' Ask, walked; its Mode. A table of locks that a law has made, what each call of it answers and leaves: one word for all that a law carries; the document's example. -/
import Derived.Test.YtnjhhndggfjjdaaGreatDoorProg
import Derived.Shelf.SlSortCmp.NoneTotal
import Derived.Ground.SlsfProg
import Derived.Test.YtnjhhndggfjjdaaGreatDoorJ13
import Derived.Test.YtnjhhndggfjjdaaGreatDoorJ07
import Derived.Test.YtnjhhndggfjjdaaGreatDoorJ19
import Derived.Test.YtnjhhndggfjjdaaGreatDoorJ18
set_option maxRecDepth 4000
namespace Go.Proofs.YtnjhhndggfjjdaaGreatDoor
open Go.Shelf
def laysSortE_ren : Go.Shelf.Ren := ⟨fun | 6 => 40 | 15 => 67 | 14 => 66 | 28 => 95 | 29 => 96 | 20 => 87 | 21 => 88 | 22 => 89 | 23 => 90 | 24 => 91 | 25 => 92 | 26 => 93 | 27 => 94 | 46 => 110 | 47 => 111 | 48 => 112 | 49 => 113 | 50 => 114 | 57 => 121 | n => n, fun | 22 => 46 | 24 => 80 | 25 => 84 | 3 => 3 | 39 => 105 | 0 => 0 | 53 => 130 | 55 => 132 | 4 => 4 | 46 => 124 | 45 => 123 | 50 => 86 | 5 => 5 | 9 => 9 | 66 => 140 | 70 => 144 | 76 => 150 | 77 => 151 | n => n, fun | n => n⟩
theorem laysSortE : Go.Proofs.SlLaysF0.n6 Tryz.prog laysSortE_ren := {
  mixed := by kernel_rfl
  f6 := ⟨Tryz.f40.name, by decide, Tryz.func40.trans (congrArg some (by kernel_rfl))⟩
  f14 := ⟨Tryz.f66.name, by decide, Tryz.func66.trans (congrArg some (by kernel_rfl))⟩
  f15 := Tryz.func67.trans (congrArg some (by kernel_rfl))
  f20 := ⟨Tryz.f87.name, by decide, Tryz.func87.trans (congrArg some (by kernel_rfl))⟩
  f21 := ⟨Tryz.f88.name, by decide, Tryz.func88.trans (congrArg some (by kernel_rfl))⟩
  f22 := ⟨Tryz.f89.name, by decide, Tryz.func89.trans (congrArg some (by kernel_rfl))⟩
  f23 := ⟨Tryz.f90.name, by decide, Tryz.func90.trans (congrArg some (by kernel_rfl))⟩
  f24 := ⟨Tryz.f91.name, by decide, Tryz.func91.trans (congrArg some (by kernel_rfl))⟩
  f25 := ⟨Tryz.f92.name, by decide, Tryz.func92.trans (congrArg some (by kernel_rfl))⟩
  f26 := ⟨Tryz.f93.name, by decide, Tryz.func93.trans (congrArg some (by kernel_rfl))⟩
  f27 := ⟨Tryz.f94.name, by decide, Tryz.func94.trans (congrArg some (by kernel_rfl))⟩
  f28 := Tryz.func95.trans (congrArg some (by kernel_rfl))
  f29 := Tryz.func96.trans (congrArg some (by kernel_rfl))
  f46 := ⟨Tryz.f110.name, by decide, Tryz.func110.trans (congrArg some (by kernel_rfl))⟩
  f47 := Tryz.func111.trans (congrArg some (by kernel_rfl))
  f48 := Tryz.func112.trans (congrArg some (by kernel_rfl))
  f49 := ⟨Tryz.f113.name, by decide, Tryz.func113.trans (congrArg some (by kernel_rfl))⟩
  f50 := ⟨Tryz.f114.name, by decide, Tryz.func114.trans (congrArg some (by kernel_rfl))⟩
  f57 := ⟨Tryz.f121.name, by decide, Tryz.func121.trans (congrArg some (by kernel_rfl))⟩
  t0 := Tryz.underlying0
  a0 := Tryz.isAgg0
  z0 := Tryz.sizeOf0
  v0 := Tryz.zeroValue0
  t3 := Tryz.underlying3
  a3 := Tryz.isAgg3
  z3 := Tryz.sizeOf3
  v3 := Tryz.zeroValue3
  t4 := Tryz.underlying4
  a4 := Tryz.isAgg4
  z4 := Tryz.sizeOf4
  v4 := Tryz.zeroValue4
  t5 := Tryz.underlying5
  a5 := Tryz.isAgg5
  z5 := Tryz.sizeOf5
  v5 := Tryz.zeroValue5
  t9 := Tryz.underlying9
  a9 := Tryz.isAgg9
  z9 := Tryz.sizeOf9
  v9 := Tryz.zeroValue9
  t22 := Tryz.underlying46
  a22 := Tryz.isAgg46
  z22 := Tryz.sizeOf46
  v22 := Tryz.zeroValue46
  t25 := Tryz.underlying84
  a25 := Tryz.isAgg84
  z25 := Tryz.sizeOf84
  v25 := Tryz.zeroValue84
  t39 := Tryz.underlying105
  a39 := Tryz.isAgg105
  z39 := Tryz.sizeOf105
  v39 := Tryz.zeroValue105
  t45 := Tryz.underlying123
  a45 := Tryz.isAgg123
  z45 := Tryz.sizeOf123
  v45 := Tryz.zeroValue123
  t46 := Tryz.underlying124
  a46 := Tryz.isAgg124
  z46 := Tryz.sizeOf124
  v46 := Tryz.zeroValue124
  t50 := Tryz.underlying86
  a50 := Tryz.isAgg86
  z50 := Tryz.sizeOf86
  v50 := Tryz.zeroValue86
  t53 := Tryz.underlying130
  a53 := Tryz.isAgg130
  z53 := Tryz.sizeOf130
  v53 := Tryz.zeroValue130
  t55 := Tryz.underlying132
  a55 := Tryz.isAgg132
  z55 := Tryz.sizeOf132
  v55 := Tryz.zeroValue132
  t66 := Tryz.underlying140
  a66 := Tryz.isAgg140
  z66 := Tryz.sizeOf140
  v66 := Tryz.zeroValue140
  t70 := Tryz.underlying144
  a70 := Tryz.isAgg144
  z70 := Tryz.sizeOf144
  v70 := Tryz.zeroValue144
  t76 := Tryz.underlying150
  a76 := Tryz.isAgg150
  z76 := Tryz.sizeOf150
  v76 := Tryz.zeroValue150
  t77 := Tryz.underlying151
  a77 := Tryz.isAgg151
  z77 := Tryz.sizeOf151
  v77 := Tryz.zeroValue151 }
open Go.Sort Go.RowKit Go.Lib
def encE (e : Int × Int) : List Value := [.int .i64 e.1, .int .i64 e.2]
theorem sort_edges (cf : Int × Int → Int × Int → Int) (hO : SWO (ltOf cf)) (blk off cap : Nat) (d : Array (Int × Int)) (w : World) (hcmp : CmpLays Tryz.prog 41 #[] encE 2 cf blk off d.size w) (hH : HoldsK encE 2 w blk off d) (hblk : blk < w.heap.size) (hsz : d.size < 4611686018427387904) (hT : ∀ x y, (ltOf cf) x y = false → (ltOf cf) y x = false → x = y) :
    Calls Tryz.prog 40 #[.slice (some ⟨blk, off, none⟩) d.size cap, .func (.func 41) #[] #[]] w fun e w' =>
      e = .returned (.tuple #[]) ∧ ∃ n os, w' = sortWorldK encE 2 w blk off n (d.toList.mergeSort fun x y => !(ltOf cf) y x).toArray os :=
  AnyQ.slices_SortFunc_total laysSortE 2 Tryz.isAgg80 Tryz.sizeOf80 encE (fun _ => rfl) (fun x v hv => by simp [encE] at hv; rcases hv with rfl | rfl <;> rfl) cf hO 41 #[] blk off cap d w (enters_of Tryz.func41 (by kernel_rfl) rfl) hcmp hH hblk hsz hT
theorem sort_edges_none (p : Option Addr) (cap : Nat) (fv : Value) (w : World) :
    Calls Tryz.prog 40 #[.slice p 0 cap, fv] w fun e w' => e = .returned (.tuple #[]) ∧ w' = w := AnyF.slices_SortFunc_none { laysSortE with } p cap fv w
end Go.Proofs.YtnjhhndggfjjdaaGreatDoor
namespace Go.Proofs.YtnjhhndggfjjdaaGreatDoor
open Go.RowKit Go.Sort Go.Lib
/-- how an edge lies -/
def eE : Enc (Int × Int) := ⟨encE, 2, by omega, fun _ => rfl, fun _ v hv => by simp [encE] at hv; rcases hv with rfl | rfl <;> rfl⟩
theorem tyE : RowTy eE 80 46 := ⟨Tryz.underlying46, .agg #[.int .i64 0, .int .i64 0], 16, by kernel_rfl, rfl, by omega⟩
theorem Lst.atE {w : World} {K : Nat → Prop} {A : Option Addr} {l : List (Int × Int)} (h : Lst w K eE A l) {j : Nat} (hj : j < l.length) :
    ∃ b o, A = some ⟨b, o, none⟩ ∧ b < w.heap.size ∧ w.cell? ⟨b, o + j * 2, none⟩ = some (.int .i64 l[j].1) ∧ w.cell? ⟨b, o + j * 2 + 1, none⟩ = some (.int .i64 l[j].2) := by
  obtain ⟨b, o, e, hl, hc⟩ := h.at_ hj
  exact ⟨b, o, e, hl, hc 0 _ rfl, hc 1 _ rfl⟩
def cmpE (x y : Int × Int) : Int := orI [cmpI x.1 y.1, cmpI x.2 y.2]
theorem cmpE_lt (x y : Int × Int) : cmpE x y < 0 ↔ (x.1 < y.1 ∨ x.1 = y.1 ∧ x.2 < y.2) := by
  unfold cmpE
  simp only [orI]
  unfold cmpI
  by_cases h1 : x.1 < y.1
  · simp [h1]
  · by_cases h2 : y.1 < x.1
    · have : x.1 ≠ y.1 := by omega
      simp [h1, h2, this]
    · have e : x.1 = y.1 := by omega
      by_cases h3 : x.2 < y.2
      · simp [e, h3]
      · by_cases h4 : y.2 < x.2 <;> simp [e, h3, h4]
theorem ltE (x y : Int × Int) : ltOf cmpE x y = decide (x.1 < y.1 ∨ x.1 = y.1 ∧ x.2 < y.2) := by
  unfold ltOf
  exact decide_eq_decide.2 (cmpE_lt x y)
theorem swoE : SWO (ltOf cmpE) where
  irrefl x := by rw [ltE]; simp
  trans x y z h1 h2 := by
    rw [ltE] at *
    have h1 := of_decide_eq_true h1
    have h2 := of_decide_eq_true h2
    apply decide_eq_true
    omega
  ntrans x y z h1 h2 := by
    rw [ltE] at *
    have h1 := of_decide_eq_false h1
    have h2 := of_decide_eq_false h2
    apply decide_eq_false
    omega
theorem totE (x y : Int × Int) (h1 : ltOf cmpE x y = false) (h2 : ltOf cmpE y x = false) : x = y := by
  rw [ltE] at *
  have h1 := of_decide_eq_false h1
  have h2 := of_decide_eq_false h2
  exact Prod.ext (by omega) (by omega)
def sortedE (l : List (Int × Int)) : List (Int × Int) := l.mergeSort fun x y => !(ltOf cmpE) y x
theorem sortedE_length (l : List (Int × Int)) : (sortedE l).length = l.length := List.length_mergeSort _
set_option maxHeartbeats 4000000 in
theorem edgeF_ (x y : Int × Int) (w : World) : Calls Tryz.prog 41 #[.agg #[.int .i64 x.1, .int .i64 x.2], .agg #[.int .i64 y.1, .int .i64 y.2]] w fun e w' => e = .returned (.int .i64 (cmpE x y)) ∧ ∃ q os', w' = grow (w.drewN q) os' := by
  obtain ⟨a1, a2⟩ := x
  obtain ⟨b1, b2⟩ := y
  unfold cmpE
  simp only
  go_enter Tryz.func41, Tryz.ntmps41
  go_wp2_with fail
  have B0 := (Blk.new w 80 #[.int .i64 a1, .int .i64 a2]).alloc (.cells #[.int .i64 b1, .int .i64 b2] 80)
  have B1 := Blk.new (w.alloc (.cells #[.int .i64 a1, .int .i64 a2] 80)) 80 #[.int .i64 b1, .int .i64 b2]
  have hsz : (w.alloc (.cells #[.int .i64 a1, .int .i64 a2] 80)).heap.size = w.heap.size + 1 := by simp
  rw [hsz] at B1
  have c0 := B0.cell 0
  have c1 := B0.cell 1
  have d0 := B1.cell 0
  have d1 := B1.cell 1
  have hfin : ((w.alloc (.cells #[.int .i64 a1, .int .i64 a2] 80)).alloc (.cells #[.int .i64 b1, .int .i64 b2] 80)).drew.alloc (.cells #[.int .i64 (cmpI a1 b1), .int .i64 (cmpI a2 b2)] 3) = grow (w.drewN 1) #[.cells #[.int .i64 a1, .int .i64 a2] 80, .cells #[.int .i64 b1, .int .i64 b2] 80, .cells #[.int .i64 (cmpI a1 b1), .int .i64 (cmpI a2 b2)] 3] := by
    rw [show ((w.alloc (.cells #[.int .i64 a1, .int .i64 a2] 80)).alloc (.cells #[.int .i64 b1, .int .i64 b2] 80)).drew = ((w.drewN 1).alloc (.cells #[.int .i64 a1, .int .i64 a2] 80)).alloc (.cells #[.int .i64 b1, .int .i64 b2] 80) from rfl, alloc_eq_grow, alloc_eq_grow, alloc_eq_grow, grow_grow, grow_grow]
    rfl
  clear B0 B1 hsz
  have HFIN := Lib.hid hfin
  clear hfin
  generalize (w.alloc (.cells #[.int .i64 a1, .int .i64 a2] 80)).alloc (.cells #[.int .i64 b1, .int .i64 b2] 80) = wA at *
  have hbl := alloc_below wA.drew (.cells #[.int .i64 (cmpI a1 b1), .int .i64 (cmpI a2 b2)] 3)
  have hor := or_ (w := wA.drew.alloc (.cells #[.int .i64 (cmpI a1 b1), .int .i64 (cmpI a2 b2)] 3)) (K := fun _ => True) (A := some ⟨wA.heap.size, 0, none⟩) (n := 2) (c := 2) (l := [cmpI a1 b1, cmpI a2 b2]) (fun _ => ⟨_, 0, rfl, trivial, by simp, fun j u hu => by
    have := (Blk.new wA.drew 3 #[.int .i64 (cmpI a1 b1), .int .i64 (cmpI a2 b2)]).cell (0 + j)
    refine this.trans ?_
    rw [Nat.zero_add]
    simpa [cellsE, eI] using hu⟩) rfl (by omega)
  have hS0 : (fun W : World => W.cell? ⟨w.heap.size, 0, none⟩ = some (.int .i64 a1) ∧ W.cell? ⟨w.heap.size, 1, none⟩ = some (.int .i64 a2) ∧ W.cell? ⟨w.heap.size + 1, 0, none⟩ = some (.int .i64 b1) ∧ W.cell? ⟨w.heap.size + 1, 1, none⟩ = some (.int .i64 b2)) wA.drew := ⟨c0, c1, d0, d1⟩
  have hS1 : (fun W : World => W.cell? ⟨w.heap.size, 0, none⟩ = some (.int .i64 a1) ∧ W.cell? ⟨w.heap.size, 1, none⟩ = some (.int .i64 a2) ∧ W.cell? ⟨w.heap.size + 1, 0, none⟩ = some (.int .i64 b1) ∧ W.cell? ⟨w.heap.size + 1, 1, none⟩ = some (.int .i64 b2)) (wA.drew.alloc (.cells #[.int .i64 (cmpI a1 b1), .int .i64 (cmpI a2 b2)] 3)) :=
    ⟨(cell_of_heap (hbl.block _ (block_of_cell c0)) _).trans c0, (cell_of_heap (hbl.block _ (block_of_cell c1)) _).trans c1, (cell_of_heap (hbl.block _ (block_of_cell d0)) _).trans d0, (cell_of_heap (hbl.block _ (block_of_cell d1)) _).trans d1⟩
  have HOR := Lib.hid hor
  clear hor hbl
  generalize hz : orI [cmpI a1 b1, cmpI a2 b2] = z at *
  have HZ := Lib.hid hz
  clear hz
  go_region_held3 (fun W : World => W.cell? ⟨w.heap.size, 0, none⟩ = some (.int .i64 a1) ∧ W.cell? ⟨w.heap.size, 1, none⟩ = some (.int .i64 a2) ∧ W.cell? ⟨w.heap.size + 1, 0, none⟩ = some (.int .i64 b1) ∧ W.cell? ⟨w.heap.size + 1, 1, none⟩ = some (.int .i64 b2))
    (first | exact hS0 | exact hS1)
    (first
      | (go_at_call 42; refine HOR.out.mono ?_; rintro e w1 ⟨rfl, rfl⟩)
      | (go_at_call 43; refine (compareI _ _ _).mono ?_; rintro e w1 ⟨rfl, rfl⟩))
  all_goals
    go_wp2_with fail
    go_ret
    exact ⟨by rw [HZ.out]; rfl, _, _, HFIN.out⟩
theorem cmpLaysE (blk off size : Nat) (w : World) : CmpLays Tryz.prog 41 #[] encE 2 cmpE blk off size w := fun _ _ _ _ x y => edgeF_ x y _
theorem flat_at {l : List (Int × Int)} {t : Nat} (h : t < l.length * 2) : (cellsE eE l)[t]? = some ((flatK encE 2 l.toArray)[t]!) := by
  have h1 : t / 2 < l.length := by omega
  have h2 := cellsE_at eE (l := l) (j := t / 2) (i := t % 2) (v := ((encE l[t / 2])[t % 2]'(by show t % 2 < 2; omega))) h1 (List.getElem?_eq_getElem _)
  have e : t / 2 * eE.k + t % 2 = t := by show t / 2 * 2 + t % 2 = t; omega
  rw [e] at h2
  rw [h2, get_flatK encE 2 _ t (by simpa using h)]
  congr 1
  have : (l.toArray)[t / 2]! = l[t / 2] := by simp [h1]
  rw [this, getElem!_pos _ _ (by show t % 2 < 2; omega)]
theorem own_holdsE {w : World} {base g cap : Nat} {l : List (Int × Int)} (h : Own w base eE 80 (.slice (some ⟨g, 0, none⟩) l.length cap) l) : HoldsK encE 2 w g 0 l.toArray ∧ g < w.heap.size := by
  rcases h.2 with ⟨e, _⟩ | ⟨g', cap', cur, e, hb, hh, hn, hm, hs, htk⟩
  · cases e
  injection e with e1 _ e3
  injection e1 with e1
  injection e1 with e1 _ _
  subst e1 e3
  refine ⟨?_, lt_of_some hh⟩
  intro j hj
  have hj' : j < l.length * 2 := by simpa using hj
  refine ⟨?_, by simp [World.frozen?, hh]⟩
  have h1 : cur[j]? = (cellsE eE l)[j]? := by
    rw [← htk, List.getElem?_take_of_lt (by exact hj'), Array.getElem?_toList]
  rw [show w.cell? ⟨g, 0 + j, none⟩ = cur[0 + j]? from cell_of_row w g _ cur _ (0, 0) hh, Nat.zero_add, h1, flat_at hj']
  simp [hj']
/-- edges sorted in the row's own memory -/
theorem own_sortedE {w : World} {base g cap : Nat} {l : List (Int × Int)} (h : Own w base eE 80 (.slice (some ⟨g, 0, none⟩) l.length cap) l) (n : Nat) (os : Array Obj) :
    Own (sortWorldK encE 2 w g 0 n (sortedE l).toArray os) base eE 80 (.slice (some ⟨g, 0, none⟩) l.length cap) (sortedE l) ∧ Below base w (sortWorldK encE 2 w g 0 n (sortedE l).toArray os) := by
  rcases h.2 with ⟨e, _⟩ | ⟨g', cap', cur, e, hb, hh, hn, hm, hs, _⟩
  · cases e
  injection e with e1 _ e3
  injection e1 with e1
  injection e1 with e1 _ _
  subst e1 e3
  have hg : g < w.heap.size := lt_of_some hh
  have hcs : cur.size = cap * 2 := hs
  have hheap : (sortWorldK encE 2 w g 0 n (sortedE l).toArray os).heap[g]? = some (.cells (putCells id 0 (flatK encE 2 (sortedE l).toArray) cur) 80 (0, 0)) := by
    unfold sortWorldK putRowK
    rw [heap_grow_old _ _ (by simpa using hg)]
    simp [putRow, mapBlock, Sort.ahead, Array.getElem?_modify, hh, onCells]
  have hl := sortedE_length l
  refine ⟨⟨by rw [cellsE_length], .inr ⟨g, cap, _, by rw [hl], hb, hheap, by rw [hl]; exact hn, hm, by simp [putCells, hs], ?_⟩⟩, rfl, rfl, rfl, by simp [sortWorldK, putRowK], fun k hk => ?_⟩
  · apply List.ext_getElem?
    intro j
    by_cases hj : j < (sortedE l).length * 2
    · rw [List.getElem?_take_of_lt (by exact hj), Array.getElem?_toList, flat_at hj]
      have hjc : j < cur.size := by omega
      simp [putCells, hj, hjc]
    · rw [List.getElem?_take_eq_none (by exact Nat.not_lt.1 hj), List.getElem?_eq_none (by rw [cellsE_length]; exact Nat.not_lt.1 hj)]
  · unfold sortWorldK putRowK
    rw [heap_grow_old _ _ (by simp; omega)]
    have : g ≠ k := by omega
    simp [putRow, mapBlock, Sort.ahead, Array.getElem?_modify, this]
end Go.Proofs.YtnjhhndggfjjdaaGreatDoor
namespace Go.Proofs.YtnjhhndggfjjdaaGreatDoor
open Go.RowKit
/-- no row of edges -/
def NoE (o : Obj) : Prop := ∀ cur, o ≠ .cells cur 80 (0, 0)
abbrev EK (w w' : World) : Prop := Keep (fun _ o => NoE o) w w'
theorem noE {cur : Array Value} {T : TypeId} (h : T ≠ 80) : NoE (.cells cur T (0, 0)) := fun cur' e => by injection e with _ e; exact h e
theorem own_ek {α : Type} {E : Enc α} {T : TypeId} {w w' : World} {base : Nat} {v : Value} {l : List α} (h : Own w base E T v l) (k : EK w w') (ht : T ≠ 80) : Own w' base E T v l :=
  own_keep h fun g hg => by
    obtain ⟨_, _, cur, hc⟩ := own_blk h hg
    rw [hc]
    exact k.block g _ hc (noE ht)
theorem blk_ek {w w' : World} {g : Nat} {T : TypeId} {cs : Array Value} (h : Blk w g T cs) (k : EK w w') (ht : T ≠ 80) : Blk w' g T cs := k.block g _ h (noE ht)
theorem Box.ek {w w' : World} {q : Nat} {m : Nm} {r : Re} {l : Lk} (h : Box w q m r l) (k : EK w w') : Box w' q m r l := ⟨blk_ek h.blk k (by decide), h.row.kept k fun _ _ _ => noE (by decide)⟩
theorem EK.of_below {w w' : World} (h : Below w.heap.size w w') : EK w w' := Keep.of_below h
/-- an edge more -/
theorem append_edge {W : World} {base : Nat} {v : Value} {l : List (Int × Int)} (ho : Own W base eE 80 v l) (hb : base ≤ W.heap.size) (hn : l.length ≤ 100000) (a b : Int) :
    ∃ v' W', (Builtin.append_ #[46, 46] 46 #[v, .slice (some ⟨W.heap.size, 0, none⟩) 1 1]).run Tryz.prog (W.alloc (.cells #[.int .i64 a, .int .i64 b] 80)) = .ok v' W' ∧
      Own W' base eE 80 v' (l ++ [(a, b)]) ∧ Below base W W' ∧ EK W W' := by
  have hal := alloc_below W (.cells #[.int .i64 a, .int .i64 b] 80)
  have hone : Lst (W.alloc (.cells #[.int .i64 a, .int .i64 b] 80)) (fun i => W.heap.size ≤ i) eE (some ⟨W.heap.size, 0, none⟩) [(a, b)] := fun _ =>
    ⟨_, 0, rfl, Nat.le_refl _, by simp, fun j u hu => by rw [(Blk.new W 80 _).cell, Nat.zero_add]; simpa [cellsE, eE, Go.Proofs.YtnjhhndggfjjdaaGreatDoor.encE] using hu⟩
  have ho2 := own_belowE ho hal
  obtain ⟨v', W', hap, ho', hg', _⟩ := append_own tyE ho2 hone rfl 1 (by show l.length + 1 ≤ _; omega) (Nat.le_trans hb hal.size)
  refine ⟨v', W', hap, ho', (hal.mono hb).grown hg' (Nat.le_trans hb hal.size) (fun g hg => (own_blk ho2 hg).1), (Keep.of_below hal).grown hg' fun g o hg hgo hk => ?_⟩
  obtain ⟨_, _, cur, hc⟩ := own_blk ho hg
  rw [hc] at hgo
  injection hgo with hgo
  exact hk cur hgo.symm
/-- what one lock tells -/
def rawL (l : Lk) : List (Int × Int) := (holdsP l).flatMap fun h => (waitsP l h.1).map fun o => (h.1, o)
theorem rawE_snoc {s : TS} {j : Nat} (hj : j < s.length) : rawE (s.take (j + 1)) = rawE (s.take j) ++ rawL s[j].2 := by
  rw [List.take_succ_eq_append_getElem hj]
  unfold rawE rawL
  simp only [List.flatMap_append, List.flatMap_cons, List.flatMap_nil, List.append_nil]
theorem rawE_le {s : TS} (j : Nat) : (rawE (s.take j)).length ≤ (rawE s).length := by
  conv => rhs; rw [← List.take_append_drop j s]
  unfold rawE
  rw [List.flatMap_append, List.length_append]
  omega
def EoR (w : World) (s : TS) (k : Nat) (v i : Value) (wr : World) : Prop := ∃ j, j + k = s.length ∧ i = .int .i64 (j : Int) ∧ Own wr w.heap.size eE 80 v (rawE (s.take j)) ∧ Below w.heap.size w wr
def EmR (w w2 : World) (P : List (Int × Int)) (l : Lk) (L : List Ho) (k : Nat) (v i : Value) (wr : World) : Prop := ∃ q, q + k = L.length ∧ i = .int .i64 (q : Int) ∧ Own wr w.heap.size eE 80 v (P ++ (L.take q).flatMap fun h => (waitsP l h.1).map fun o => (h.1, o)) ∧ Below w.heap.size w wr ∧ EK w2 wr
def EiR (w w4 : World) (P : List (Int × Int)) (x : Int) (L : List Int) (k : Nat) (v i : Value) (wr : World) : Prop := ∃ p, p + k = L.length ∧ i = .int .i64 (p : Int) ∧ Own wr w.heap.size eE 80 v (P ++ (L.take p).map fun o => (x, o)) ∧ Below w.heap.size w wr ∧ EK w4 wr
set_option maxHeartbeats 8000000 in
theorem tedges_ {w : World} {b : Nat} {n : Int} {s : TS} (h : LT w b n s) (hg : TGood s) (hT : Tab w) (hr : (rawE s).length ≤ 100000) :
    Calls Tryz.prog 19 #[.pointer (some ⟨b, 0, none⟩)] w fun e w' => ∃ v, e = .returned v ∧ Own w' w.heap.size eE 80 v (sortedE (rawE s)) ∧ Below w.heap.size w w' := by
  obtain ⟨A, c, rs, h⟩ := h
  have p1 := h.blk.cell 1
  have hbw := h.lt
  have hmx := h.max
  have hle := h.le
  unfold maxLen at hmx
  have H := Lib.hid h
  have HG := Lib.hid hg
  have HT := Lib.hid hT
  have HR := Lib.hid hr
  clear h hg hT hr
  obtain ⟨m, hm⟩ : ∃ m, s.length = m := ⟨_, rfl⟩
  have hrl : rs.length = m := H.out.rows.1.trans hm
  rw [hm] at p1 hle
  have HM := Lib.hid hm
  have HRL := Lib.hid hrl
  clear hm hrl
  go_enter Tryz.func19, Tryz.ntmps19
  go_wp2_with fail
  go_loopg [3, 17] m (fun k v i wr => EoR w s k v i wr)
  case atStart => exact ⟨0, by rw [HM.out]; omega, rfl, own_nil _ _, Below.refl _ _⟩
  case round =>
    obtain ⟨j, hj, rfl, ho, hb⟩ := hrel
    have HJ := Lib.hid hj
    have HO := Lib.hid ho
    have HB := Lib.hid hb
    clear hj ho hb
    by_cases hlt : j < m
    · have hx : j < rs.length := by rw [HRL.out]; exact hlt
      have hs : j < s.length := by rw [HM.out]; exact hlt
      have hrow := (H.out.rows.below HB.out).2 j hx hs
      obtain ⟨g2, o2, rfl, _, hg2, d0, d1, d2, d3, d4⟩ := (lst_below H.out.lst HB.out).atL hx
      have hmem := List.getElem_mem hs
      have hok := HG.out.ok _ hmem
      have hsm := HG.out.small _ hmem
      have hnm : rs[j].2.2 = s[j].1 := hrow.name
      obtain ⟨e1, e2, he⟩ : ∃ e1 e2, s[j] = (e1, e2) := ⟨_, _, rfl⟩
      have hsn := rawE_snoc hs
      have hlj := rawE_le (s := s) (j + 1)
      rw [hsn] at hlj
      rw [he] at hok hsm hrow hnm hsn hlj
      simp only at hok hsm hnm hsn hlj
      have hbx : Box (wr.alloc (.cells #[rs[j].1.val, rs[j].2.1.val, .int .i64 e1.1, .string e1.2.1, .string e1.2.2] 66)) wr.heap.size e1 rs[j] e2 := ⟨Blk.new wr _ _, hrow.below (alloc_below wr _)⟩
      rw [hnm] at d2 d3 d4
      have HBX := Lib.hid hbx
      have HAL := Lib.hid (alloc_below wr (.cells #[rs[j].1.val, rs[j].2.1.val, .int .i64 e1.1, .string e1.2.1, .string e1.2.2] 66))
      have HOK := Lib.hid hok
      have HSN := Lib.hid hsn
      have hlj2 : (rawE (s.take j) ++ rawL e2).length ≤ 100000 := Nat.le_trans hlj HR.out
      have HLJ := Lib.hid hlj2
      generalize hX : rs[j] = X at *
      clear hbx hok hsn he hrow hmem hnm hX hlj hlj2
      obtain ⟨⟨a1, a2, a3⟩, ⟨c1, c2, c3⟩, y⟩ := X
      obtain ⟨t1, t2, t3⟩ := e1
      unfold Sl.val at *
      simp only at *
      go_wp2_with fail
      generalize wr.alloc (.cells #[.slice a1 a2 a3, .slice c1 c2 c3, .int .i64 t1, .string t2, .string t3] 66) = wA at *
      refine (holds_ HBX.out.lock hsm.1 hsm.2).mono ?_
      rintro e w2 ⟨v2, rfl, ho2, hb2⟩
      obtain ⟨A2, n2, e2', hl2, hn2, hc2, _⟩ := own_lst ho2
      subst e2'
      unfold maxLen at hc2
      have hb02 : Below w.heap.size w w2 := HB.out.trans ((HAL.out.trans (hb2.mono HAL.out.size)).mono HB.out.size)
      have HB2 := Lib.hid hb02
      have HO2 := Lib.hid (own_belowE HO.out (HAL.out.trans (hb2.mono HAL.out.size)))
      have HBX2 := Lib.hid (HBX.out.below hb2)
      have HHO := Lib.hid ho2
      have HT2 := Lib.hid (HT.out.below hb02)
      have hpl : ∀ q, ((rawE (s.take j)) ++ ((holdsP e2).take q).flatMap fun h => (waitsP e2 h.1).map fun o => (h.1, o)).length ≤ 100000 := fun q => by
        refine Nat.le_trans ?_ HLJ.out
        rw [List.length_append, List.length_append]
        have : rawL e2 = ((holdsP e2).take q).flatMap (fun h => (waitsP e2 h.1).map fun o => (h.1, o)) ++ ((holdsP e2).drop q).flatMap (fun h => (waitsP e2 h.1).map fun o => (h.1, o)) := by
          rw [← List.flatMap_append, List.take_append_drop]; rfl
        rw [this, List.length_append]
        omega
      have HPL := Lib.hid hpl
      have hraw : rawL e2 = (holdsP e2).flatMap fun h => (waitsP e2 h.1).map fun o => (h.1, o) := rfl
      have HRAW := Lib.hid hraw
      clear hl2 hb2 hb02 hpl hraw HO HBX HAL HLJ
      generalize hP : rawE (s.take j) = P at *
      generalize hL : holdsP e2 = L at *
      obtain ⟨z, hz⟩ : ∃ z, L.length = z := ⟨_, rfl⟩
      rw [hz] at hn2 HHO
      rw [hz]
      have HZ := Lib.hid hz
      clear hP hL hz
      have hgbw : wr.heap.size < w2.heap.size := HBX2.out.blk.lt
      generalize wr.heap.size = gb at *
      go_wp2_with fail
      go_loopg [3, 24] z (fun k v i wr => EmR w w2 P e2 L k v i wr)
      case atStart => exact ⟨0, by rw [HZ.out]; omega, rfl, by simpa using HO2.out, HB2.out, Keep.refl _⟩
      case round =>
        obtain ⟨q, hq, rfl, hoq, hbq, hkq⟩ := hrel
        have HQ := Lib.hid hq
        have HOQ := Lib.hid hoq
        have HBQ := Lib.hid hbq
        have HKQ := Lib.hid hkq
        clear hq hoq hbq hkq
        by_cases hltq : q < z
        · have hxq : q < L.length := by rw [HZ.out]; exact hltq
          have hoq2 := own_ek HHO.out HKQ.out (by decide)
          obtain ⟨A3, n3, e3, hl3, _, _, _⟩ := own_lst hoq2
          injection e3 with e3 e7 e4
          subst e3 e4
          clear e7
          obtain ⟨g3, o3, rfl, hg3, f0, f1, f2⟩ := hl3.atH hxq
          have hnxq : (L.take (q + 1)).flatMap (fun h => (waitsP e2 h.1).map fun o => (h.1, o)) = (L.take q).flatMap (fun h => (waitsP e2 h.1).map fun o => (h.1, o)) ++ (waitsP e2 L[q].1).map fun o => (L[q].1, o) := by
            rw [List.take_succ_eq_append_getElem hxq]
            simp only [List.flatMap_append, List.flatMap_cons, List.flatMap_nil, List.append_nil]
          have hplq := HPL.out (q + 1)
          rw [hnxq] at hplq
          rw [← List.append_assoc] at hplq
          have hnxq2 : P ++ (L.take (q + 1)).flatMap (fun h => (waitsP e2 h.1).map fun o => (h.1, o)) = (P ++ (L.take q).flatMap fun h => (waitsP e2 h.1).map fun o => (h.1, o)) ++ (waitsP e2 L[q].1).map fun o => (L[q].1, o) := by rw [hnxq, List.append_assoc]
          have HNXQ := Lib.hid hnxq2
          have hplq2 : (P ++ (L.take q).flatMap fun h => (waitsP e2 h.1).map fun o => (h.1, o)).length + (waitsP e2 L[q].1).length ≤ 100000 := by
            rw [List.length_append, List.length_map] at hplq
            exact hplq
          have HPLQ := Lib.hid hplq2
          have hbxq := HBX2.out.ek HKQ.out
          have hTq := HT.out.below HBQ.out
          clear hoq2 hl3 hnxq hnxq2 hplq hplq2
          generalize L[q].1 = x0 at *
          generalize (L[q].2.1 : Int) = x1 at *
          generalize (L[q].2.2 : Int) = x2 at *
          have halq := alloc_below wr (.cells #[.int .i64 x0, .int .i64 x1, .int .i64 x2] 56)
          have hbq2 := hbxq.below halq
          have hwt := waits_ hbq2.lock HOK.out hsm.1 hsm.2 (hTq.below halq) x0
          have hhb := Blk.new wr 56 #[.int .i64 x0, .int .i64 x1, .int .i64 x2]
          have HHB := Lib.hid hhb
          have HWT := Lib.hid hwt
          have HALQ := Lib.hid halq
          have HBQ2 := Lib.hid hbq2
          have hgn : gb ≠ wr.heap.size := Nat.ne_of_lt hbxq.blk.lt
          clear halq hbq2 hwt hhb hTq hbxq
          go_wp2_with fail
          generalize wr.alloc (.cells #[.int .i64 x0, .int .i64 x1, .int .i64 x2] 56) = wC at *
          refine HWT.out.mono ?_
          rintro e w4 ⟨v4, rfl, ho4, hb4⟩
          obtain ⟨A4, n4, e4, _, hn4, hc4, _⟩ := own_lst ho4
          subst e4
          unfold maxLen at hc4
          have hb14 : Below wr.heap.size wr w4 := HALQ.out.trans (hb4.mono HALQ.out.size)
          have HB4 := Lib.hid (HBQ.out.trans (hb14.mono HBQ.out.size))
          have HK4 := Lib.hid (HKQ.out.trans (Keep.of_below hb14))
          have HO4 := Lib.hid (own_belowE HOQ.out hb14)
          have HHB4 := Lib.hid (HHB.out.below hb4 HHB.out.lt)
          have HWO := Lib.hid ho4
          clear ho4 hb4 hb14 HOQ HHB HALQ HBQ2 HWT f0 f1 f2
          generalize waitsP e2 x0 = LW at *
          generalize (P ++ (L.take q).flatMap fun h => (waitsP e2 h.1).map fun o => (h.1, o)) = P2 at *
          obtain ⟨z4, hz4⟩ : ∃ z4, LW.length = z4 := ⟨_, rfl⟩
          rw [hz4] at hn4 HWO
          rw [hz4]
          have HZ4 := Lib.hid hz4
          have hgh : wr.heap.size < w4.heap.size := HHB4.out.lt
          clear hz4
          generalize wr.heap.size = gh at *
          go_wp2_with fail
          go_loopg [3, 33] z4 (fun k v i wr => EiR w w4 P2 x0 LW k v i wr)
          case atStart => exact ⟨0, by rw [HZ4.out]; omega, rfl, by simpa using HO4.out, HB4.out, Keep.refl _⟩
          case round =>
            obtain ⟨p, hp, rfl, hop, hbp, hkp⟩ := hrel
            have HP := Lib.hid hp
            have HOP := Lib.hid hop
            have HBP := Lib.hid hbp
            have HKP := Lib.hid hkp
            clear hp hop hbp hkp
            by_cases hltp : p < z4
            · have hxp : p < LW.length := by rw [HZ4.out]; exact hltp
              have hwo2 := own_ek HWO.out HKP.out (by decide)
              obtain ⟨A5, n5, e5, hl5, _, _, _⟩ := own_lst hwo2
              injection e5 with e5 e7 e6
              subst e5 e6
              clear e7
              obtain ⟨g5, o5, rfl, hg5, y0⟩ := hl5.atI hxp
              have hhb5 := blk_ek HHB4.out HKP.out (by decide)
              have k0 := hhb5.cell 0
              have hnp : (LW.take (p + 1)).map (fun o => (x0, o)) = (LW.take p).map (fun o => (x0, o)) ++ [(x0, LW[p])] := by
                rw [List.take_succ_eq_append_getElem hxp, List.map_append]; rfl
              have hlp : (P2 ++ (LW.take p).map fun o => (x0, o)).length ≤ 100000 := by
                have := HPLQ.out
                rw [List.length_append, List.length_map, List.length_take]
                omega
              obtain ⟨v6, w6, hap, ho6, hb6, hk6⟩ := append_edge HOP.out HBP.out.size hlp x0 LW[p]
              rw [List.append_assoc, ← hnp] at ho6
              generalize LW[p] = yy at *
              have HO6 := Lib.hid ho6
              have HB6 := Lib.hid (HBP.out.trans hb6)
              have HK6 := Lib.hid (HKP.out.trans hk6)
              have HAP := Lib.hid hap
              clear hap ho6 hb6 hk6 hhb5 hl5 hwo2 hnp hlp
              go_wp2_with (at_builtin; refine wpList_append_run rfl (.tmp 37) (.tmp 42) 46 46 rfl _ _ rfl rfl HAP.out ?_)
              go_roundg (z4 - (p + 1))
              case measure => have := HP.out; have := HZ4.out; omega
              case rel => exact ⟨p + 1, by have := HZ4.out; omega, by go_num, HO6.out, HB6.out, HK6.out⟩
            · obtain rfl : p = z4 := by have := HP.out; have := HZ4.out; omega
              have hall : LW.take p = LW := List.take_of_length_le (by rw [HZ4.out]; exact Nat.le_refl _)
              have hop := HOP.out
              rw [hall] at hop
              have HOP2 := Lib.hid hop
              clear hop hall
              have hnq := HNXQ.out
              have HFQ : Hid (EmR w w2 P e2 L (z - (q + 1)) u3 (.int .i64 ((q : Int) + 1)) wr) := ⟨q + 1, by have := HZ.out; omega, by go_num, by rw [hnq]; exact HOP2.out, HBP.out, HK4.out.trans HKP.out⟩
              clear hnq
              go_wp2_with fail
              go_roundg (z - (q + 1))
              case measure => have := HQ.out; have := HZ.out; omega
              case rel => exact HFQ.out
        · obtain rfl : q = z := by have := HQ.out; have := HZ.out; omega
          have hall : L.take q = L := List.take_of_length_le (by rw [HZ.out]; exact Nat.le_refl _)
          have hoq := HOQ.out
          rw [hall, ← HRAW.out] at hoq
          have HFQ : Hid (EoR w s (m - (j + 1)) u3 (.int .i64 ((j : Int) + 1)) wr) := ⟨j + 1, by have := HM.out; omega, by go_num, by rw [HSN.out]; exact hoq, HBQ.out⟩
          clear hoq hall
          go_wp2_with fail
          go_roundg (m - (j + 1))
          case measure => have := HJ.out; have := HM.out; omega
          case rel => exact HFQ.out
    · obtain rfl : j = m := by have := HJ.out; have := HM.out; omega
      have hall : s.take j = s := List.take_of_length_le (by rw [HM.out]; exact Nat.le_refl _)
      have ho := HO.out
      rw [hall] at ho
      obtain ⟨R, hR⟩ : ∃ R, rawE s = R := ⟨_, rfl⟩
      rw [hR] at ho
      have HRR := Lib.hid hR
      obtain ⟨A3, n3, e3, _, hn3, hc3, _⟩ := own_lst ho
      subst e3
      rcases R with _ | ⟨r0, R⟩
      · have HO3 := Lib.hid ho
        have hsn := fun W fv => sort_edges_none A3 n3 fv W
        have HSN := Lib.hid hsn
        have hemp : sortedE [] = [] := List.mergeSort_nil
        have HE := Lib.hid hemp
        clear ho hall hR hsn hemp HO
        simp only [List.length_nil] at *
        go_wp2_with fail
        refine (HSN.out _ _).mono ?_
        rintro e w' ⟨rfl, hw⟩
        have HW := Lib.hid hw
        clear hw
        go_wp2_with fail
        go_ret
        exact ⟨_, rfl, by rw [HRR.out, HE.out, HW.out]; exact HO3.out, by rw [HW.out]; exact HB.out⟩
      · generalize hRL : r0 :: R = RR at *
        have hpos : 0 < RR.length := by rw [← hRL]; simp
        rcases ho.2 with ⟨_, h0⟩ | ⟨g, cap', cur, e1, _⟩
        · omega
        obtain rfl : A3 = some ⟨g, 0, none⟩ := by injection e1
        obtain rfl : n3 = cap' := by injection e1
        have hh := own_holdsE ho
        have hsr := sort_edges cmpE swoE g 0 n3 RR.toArray wr (cmpLaysE g 0 _ wr) hh.1 hh.2 (by have := HR.out; rw [hR] at this; simp; omega) totE
        have hon := fun n os => own_sortedE ho n os
        have hsl := sortedE_length RR
        rw [List.size_toArray] at hsr
        have HSR := Lib.hid hsr
        have HON := Lib.hid hon
        have HSL := Lib.hid hsl
        clear ho hall hR hsr hon hsl hh hRL e1 HO
        obtain ⟨y, hy⟩ : ∃ y, RR.length = y := ⟨_, rfl⟩
        rw [hy] at HSR HON hn3 hpos
        rw [hy]
        clear hy
        go_wp2_with fail
        refine HSR.out.mono ?_
        rintro e w4 ⟨rfl, n4, os4, hw4⟩
        have h4 := HON.out n4 os4
        have hw5 : w4 = sortWorldK encE 2 wr g 0 n4 (sortedE RR).toArray os4 := hw4
        rw [← hw5] at h4
        have H4 := Lib.hid h4
        clear h4 hw4 hw5
        go_wp2_with fail
        go_ret
        exact ⟨_, rfl, by rw [HRR.out]; exact H4.out.1, HB.out.trans H4.out.2⟩
end Go.Proofs.YtnjhhndggfjjdaaGreatDoor
namespace Go.Proofs.YtnjhhndggfjjdaaGreatDoor
open Go.RowKit
theorem blk_new3 (W : World) (T : TypeId) (a b c u v x : Value) : Blk ((((W.alloc (.cells #[a, b, c] T)).setCell ⟨W.heap.size, 0, none⟩ u).setCell ⟨W.heap.size, 1, none⟩ v).setCell ⟨W.heap.size, 2, none⟩ x) W.heap.size T #[u, v, x] := blk_store3 (Blk.new W T _)
theorem LT.recount {w : World} {b : Nat} {n : Int} {s : TS} (h : LT w b n s) (k : Int) : LT (w.setCell ⟨b, 0, none⟩ (.int .i64 k)) b k s ∧ Keep (fun i _ => i ≠ b) w (w.setCell ⟨b, 0, none⟩ (.int .i64 k)) := by
  obtain ⟨A, c, rs, h⟩ := h
  have hk : Keep (fun i _ => i ≠ b) w (w.setCell ⟨b, 0, none⟩ (.int .i64 k)) := (Keep.refl w).setCell (fun _ _ h => h rfl) _
  exact ⟨⟨A, c, rs, by simpa using h.blk.set_ 0 (.int .i64 k), lst_kept h.lst hk fun i cur hi => ne_of_types h.blk hi (by decide), h.rows.kept hk fun i cur hi => ne_of_types h.blk hi (by decide), h.le, h.max, h.nil⟩, hk⟩
set_option maxHeartbeats 8000000 in
theorem task_ {w : World} {b : Nat} {s : TS} (h : LT w b (countP s : Int) s) (hg : TGood s) (hT : Tab w) (hb0 : 0 ≠ b) (hc : countP s ≤ 10000) (who : Int) (n : Nm) (mode : Int)
    (hcnt : ∀ m, knownP n = some m → mode ≠ 0 → waitN s who = none → countP (putN s m (askP (lockN s m) who (mdN mode)).2) = countP s + (if hereP (lockN s m) who = true then 0 else 1)) :
    Calls Tryz.prog 6 #[.pointer (some ⟨b, 0, none⟩), .int .i64 who, valN n, .int .i64 mode] w (TAsk w b s who n mode) := by
  have hal := alloc_below w (.cells #[.int .i64 n.1, .string n.2.1, .string n.2.2] 31)
  have hkn := fun W => nknown_ n W
  obtain ⟨K, hK⟩ : ∃ K, knownP n = K := ⟨_, rfl⟩
  rw [hK] at hkn
  have HKN := Lib.hid hkn
  have HK := Lib.hid hK
  have HAL := Lib.hid hal
  have H := Lib.hid h
  have HG := Lib.hid hg
  have HT := Lib.hid hT
  have HC := Lib.hid hcnt
  have hbw := h.lt
  clear hal hkn h hg hT hK hcnt
  obtain ⟨n1, n2, n3⟩ := n
  unfold valN at *
  simp only at *
  go_enter Tryz.func6, Tryz.ntmps6
  go_wp2_with fail
  generalize w.alloc (.cells #[.int .i64 n1, .string n2, .string n3] 31) = wA at *
  refine (HKN.out _).mono ?_
  rintro e w1 ⟨rfl, hb1⟩
  have HB1 := Lib.hid (HAL.out.trans (hb1.mono HAL.out.size))
  have hbw1 : b < w1.heap.size := Nat.lt_of_lt_of_le hbw HB1.out.size
  clear hb1 HAL HKN
  rcases K with _ | ⟨m1, m2, m3⟩
  · have hr := ask_unknown (s := s) (who := who) (mode := mode) HK.out
    have HR := Lib.hid hr
    clear hr
    simp only [Option.getD_none, Option.isSome_none]
    go_wp2_with fail
    go_ret
    refine ⟨by rw [HR.out]; rfl, ?_, ?_⟩
    · rw [HR.out]
      exact H.out.below (HB1.out.trans ((alloc_below w1 _).mono HB1.out.size))
    · exact Keep.of_below (HB1.out.trans ((alloc_below w1 _).mono HB1.out.size))
  · simp only [Option.getD_some, Option.isSome_some]
    have hal2 := alloc_below w1 (.cells #[.int .i64 m1, .string m2, .string m3] 31)
    have HBN := Lib.hid (Blk.new w1 31 #[.int .i64 m1, .string m2, .string m3])
    have HB2 := Lib.hid (HB1.out.trans (hal2.mono HB1.out.size))
    clear hal2 HB1
    go_wp2_with fail
    generalize w1.alloc (.cells #[.int .i64 m1, .string m2, .string m3] 31) = wC at *
    refine (waiting_all (H.out.below HB2.out) HG.out (HT.out.below HB2.out) who).mono ?_
    rintro e w3 ⟨rfl, hb3⟩
    have HB3 := Lib.hid (HB2.out.trans (hb3.mono HB2.out.size))
    have HBN3 := Lib.hid (HBN.out.below hb3 HBN.out.lt)
    clear hb3 HB2 HBN
    unfold valN noB
    obtain ⟨WT, hWT⟩ : ∃ WT, waitN s who = WT := ⟨_, rfl⟩
    rw [hWT]
    have HWT := Lib.hid hWT
    clear hWT
    rcases WT with _ | ⟨t1, t2, t3⟩
    rotate_left
    · have hr := ask_state (s := s) (who := who) (mode := mode) HK.out (by rw [HWT.out]; rfl)
      have HR := Lib.hid hr
      clear hr
      simp only [Option.getD_some, Option.isSome_some]
      go_wp2_with fail
      go_ret
      refine ⟨by rw [HR.out]; rfl, ?_, ?_⟩
      · rw [HR.out]
        exact H.out.below (HB3.out.trans ((alloc_below w3 _).mono HB3.out.size))
      · exact Keep.of_below (HB3.out.trans ((alloc_below w3 _).mono HB3.out.size))
    simp only [Option.getD_none, Option.isSome_none]
    have hal3 := alloc_below w3 (.cells #[.int .i64 0, .string ⟨#[]⟩, .string ⟨#[]⟩] 31)
    have HB4 := Lib.hid (HB3.out.trans (hal3.mono HB3.out.size))
    have HBN4 := Lib.hid (HBN3.out.below hal3 HBN3.out.lt)
    clear hal3 HBN3
    by_cases hm0 : mode = 0
    · have hr := ask_nothing (s := s) (who := who) (mode := mode) HK.out (by rw [HWT.out]; rfl) hm0
      have HR := Lib.hid hr
      subst hm0
      clear hr
      go_wp2_with fail
      go_ret
      refine ⟨by rw [HR.out]; rfl, ?_, ?_⟩
      · rw [HR.out]
        exact H.out.below HB4.out
      · exact Keep.of_below HB4.out
    have e0 : (mode == 0) = false := by simpa using hm0
    have d0 := HBN4.out.cell 0
    have d1 := HBN4.out.cell 1
    have d2 := HBN4.out.cell 2
    obtain ⟨A, c, rs, h4⟩ := H.out.below HB4.out
    have hho := tholdof_ h4 HG.out.rise (by have := HG.out.len; omega) HG.out.small who (m1, m2, m3)
    have HHO := Lib.hid hho
    clear hho h4
    unfold valN at HHO
    obtain ⟨x0, x1, x2, hx⟩ : ∃ x0 x1 x2 : Int, valH ((findH (holdsP (lockN s (m1, m2, m3))) who).getD (0, 0, 0)) = .agg #[.int .i64 x0, .int .i64 x1, .int .i64 x2] := ⟨_, _, _, rfl⟩
    rw [hx] at HHO
    obtain ⟨hh, hhh⟩ : ∃ hh, hereP (lockN s (m1, m2, m3)) who = hh := ⟨_, rfl⟩
    rw [hhh] at HHO
    have HH := Lib.hid hhh
    clear hx hhh
    go_wp2_with fail
    generalize w3.alloc (.cells #[.int .i64 0, .string ⟨#[]⟩, .string ⟨#[]⟩] 31) = wD at *
    refine HHO.out.mono ?_
    rintro e w5 ⟨rfl, hb5⟩
    have hal5 := alloc_below w5 (.cells #[.int .i64 x0, .int .i64 x1, .int .i64 x2] 56)
    have HB6 := Lib.hid ((HB4.out.trans (hb5.mono HB4.out.size)).trans (hal5.mono (HB4.out.trans (hb5.mono HB4.out.size)).size))
    have HBN6 := Lib.hid ((HBN4.out.below hb5 HBN4.out.lt).below hal5 (HBN4.out.below hb5 HBN4.out.lt).lt)
    clear hb5 hal5 HHO HBN4 d0 d1 d2 HB4 HB3
    have H6 := Lib.hid (H.out.below HB6.out)
    have d0 := HBN6.out.cell 0
    have d1 := HBN6.out.cell 1
    have d2 := HBN6.out.cell 2
    have hT6 := HT.out.below HB6.out
    -- the lock asked, behind whatever was counted
    have htail : ∀ (W : World) (k : Nat), LT W b (k : Int) s → Keep (fun i _ => i ≠ b) w W → (k : Int) = (countP (putN s (m1, m2, m3) (askP (lockN s (m1, m2, m3)) who (mdN mode)).2) : Int) → (hh = true ∨ countP s < 200) →
        Calls Tryz.prog 25 #[.pointer (some ⟨b, 0, none⟩), .agg #[.int .i64 m1, .string m2, .string m3]] W fun e w' => ∃ g o, e = .returned (.pointer (some ⟨g, o, none⟩)) ∧ Calls Tryz.prog 26 #[.pointer (some ⟨g, o, none⟩), .int .i64 who, .int .i64 mode] w' fun e w2 => ∃ r, e = .returned (.bool r) ∧ TAsk w b s who (n1, n2, n3) mode (.returned (.int .i64 (if r then 0 else 13))) w2 := by
      intro W k hl hk hkk hx
      refine (ask_tail hl HG.out (HT.out.keep hk fun _ => hb0) hb0 (m1, m2, m3)).mono ?_
      rintro e w' ⟨g, rfl, hcall⟩
      refine ⟨g, _, rfl, (hcall who mode).mono ?_⟩
      rintro e w2 ⟨rfl, hl2, hk2⟩
      have hr := ask_asks (s := s) (who := who) (mode := mode) HK.out (by rw [HWT.out]; rfl) hm0 (by rw [HH.out]; exact hx)
      refine ⟨_, rfl, ?_, ?_, hk.trans hk2⟩
      · rw [hr]
        cases (askP (lockN s (m1, m2, m3)) who (mdN mode)).1 <;> rfl
      · rw [hr]
        simp only
        rw [← hkk]
        exact hl2
    have HTAIL := Lib.hid htail
    have hcn := HC.out (m1, m2, m3) HK.out hm0 HWT.out
    rw [HH.out] at hcn
    have HCN := Lib.hid hcn
    clear htail hcn HC hT6
    cases hh
    · -- who is new here
      obtain ⟨A2, c2, rs2, h6⟩ := H6.out
      have hfu := full_ h6.blk (n := (countP s : Int)) rfl
      have HFU := Lib.hid hfu
      clear hfu
      by_cases hf : 200 ≤ countP s
      · have hr := ask_full (s := s) (who := who) (mode := mode) HK.out (by rw [HWT.out]; rfl) hm0 HH.out hf
        have HR := Lib.hid hr
        have e2 : decide ((200 : Int) ≤ (countP s : Int)) = true := by simpa using (show (200 : Int) ≤ (countP s : Int) by omega)
        rw [e2] at HFU
        clear hr h6 e2
        go_wp2_with fail
        generalize w5.alloc (.cells #[.int .i64 x0, .int .i64 x1, .int .i64 x2] 56) = wE at *
        refine HFU.out.mono ?_
        rintro e w7 ⟨rfl, rfl⟩
        go_wp2_with fail
        go_ret
        refine ⟨by rw [HR.out]; rfl, ?_, ?_⟩
        · rw [HR.out]
          exact H6.out
        · exact Keep.of_below HB6.out
      · have e2 : decide ((200 : Int) ≤ (countP s : Int)) = false := by simpa using (show ¬ (200 : Int) ≤ (countP s : Int) by omega)
        rw [e2] at HFU
        have hco := come_ h6.blk (by omega) (by omega) (m := ((countP s + 1 : Nat) : Int)) (by omega)
        have HCO := Lib.hid hco
        have HLT := Lib.hid (LT.recount H6.out ((countP s + 1 : Nat) : Int))
        have hne : w1.heap.size ≠ b := by omega
        have hkk : ((countP s + 1 : Nat) : Int) = (countP (putN s (m1, m2, m3) (askP (lockN s (m1, m2, m3)) who (mdN mode)).2) : Int) := by
          have := HCN.out
          simp only [Bool.false_eq_true, if_false] at this
          omega
        have HKK := Lib.hid hkk
        have HOR : Hid (false = true ∨ countP s < 200) := .inr (by omega)
        clear hco h6 e2 hkk
        go_wp2_with fail
        generalize w5.alloc (.cells #[.int .i64 x0, .int .i64 x1, .int .i64 x2] 56) = wE at *
        refine HFU.out.mono ?_
        rintro e w7 ⟨rfl, rfl⟩
        go_wp2_with fail
        refine HCO.out.mono ?_
        rintro e w7 ⟨rfl, hw7⟩
        have HL7 := Lib.hid (hw7 ▸ HLT.out.1)
        have HK7 := Lib.hid ((Keep.of_below HB6.out).trans (hw7 ▸ HLT.out.2))
        have d0' : w7.cell? ⟨w1.heap.size, 0, none⟩ = some (.int .i64 m1) := by rw [hw7]; exact (cell_of_heap (Below.heap_setCell _ ⟨b, 0, none⟩ _ _ hne) 0).trans d0
        have d1' : w7.cell? ⟨w1.heap.size, 1, none⟩ = some (.string m2) := by rw [hw7]; exact (cell_of_heap (Below.heap_setCell _ ⟨b, 0, none⟩ _ _ hne) 1).trans d1
        have d2' : w7.cell? ⟨w1.heap.size, 2, none⟩ = some (.string m3) := by rw [hw7]; exact (cell_of_heap (Below.heap_setCell _ ⟨b, 0, none⟩ _ _ hne) 2).trans d2
        clear hw7 d0 d1 d2
        go_wp2_with fail
        refine (HTAIL.out _ _ HL7.out HK7.out HKK.out HOR.out).mono ?_
        rintro e w8 ⟨g, o, rfl, hcall⟩
        have HCALL := Lib.hid hcall
        clear hcall
        go_wp2_with fail
        refine HCALL.out.mono ?_
        rintro e w9 ⟨r, rfl, hta⟩
        have HTA := Lib.hid hta
        clear hta
        cases r
        · go_wp2_with fail
          go_ret
          exact HTA.out
        · go_wp2_with fail
          go_ret
          exact HTA.out
    · -- who is here
      have hkk : ((countP s : Nat) : Int) = (countP (putN s (m1, m2, m3) (askP (lockN s (m1, m2, m3)) who (mdN mode)).2) : Int) := by
        have := HCN.out
        simp only [if_true] at this
        omega
      have HKK := Lib.hid hkk
      have HOR : Hid (true = true ∨ countP s < 200) := .inl rfl
      have HK7 := Lib.hid ((Keep.of_below HB6.out) : Keep (fun i _ => i ≠ b) w _)
      clear hkk
      go_wp2_with fail
      generalize w5.alloc (.cells #[.int .i64 x0, .int .i64 x1, .int .i64 x2] 56) = wE at *
      refine (HTAIL.out _ _ H6.out HK7.out HKK.out HOR.out).mono ?_
      rintro e w8 ⟨g, o, rfl, hcall⟩
      have HCALL := Lib.hid hcall
      clear hcall
      go_wp2_with fail
      refine HCALL.out.mono ?_
      rintro e w9 ⟨r, rfl, hta⟩
      have HTA := Lib.hid hta
      clear hta
      cases r
      · go_wp2_with fail
        go_ret
        exact HTA.out
      · go_wp2_with fail
        go_ret
        exact HTA.out
/-- the mode in which somebody is found among the holds -/
theorem find_mode {l : Lk} (who : Int) : ((findH (holdsP l) who).getD (0, 0, 0)).2.1 = modeP l.1 who := by
  obtain ⟨H, L⟩ := l
  unfold findH holdsP
  rw [List.find?_append, List.find?_map, List.find?_map, show modeP H who = ((H.find? (isW who)).map (·.2)).getD 0 from rfl]
  have e1 : ((fun h : Ho => h.1 == who) ∘ holdsA L) = isW who := rfl
  simp only at *
  rw [e1]
  cases h : H.find? (isW who)
  · generalize List.find? ((fun h : Ho => h.1 == who) ∘ holdsB) _ = X
    cases X <;> rfl
  · rfl
set_option maxHeartbeats 4000000 in
theorem tmode_ {w : World} {b : Nat} {k : Int} {s : TS} (h : LT w b k s) (hg : TGood s) (who : Int) (n : Nm) :
    Calls Tryz.prog 14 #[.pointer (some ⟨b, 0, none⟩), .int .i64 who, valN n] w fun e w' => e = .returned (.int .i64 (modeN s who n : Int)) ∧ Below w.heap.size w w' := by
  have hal := alloc_below w (.cells #[.int .i64 n.1, .string n.2.1, .string n.2.2] 31)
  have hkn := fun W => nknown_ n W
  obtain ⟨K, hK⟩ : ∃ K, knownP n = K := ⟨_, rfl⟩
  rw [hK] at hkn
  have hmo : modeN s who n = K.elim 0 fun m => modeP (lockN s m).1 who := by
    unfold modeN
    rw [hK]
    cases K <;> rfl
  have HMO := Lib.hid hmo
  have HKN := Lib.hid hkn
  have HAL := Lib.hid hal
  have H := Lib.hid h
  have HG := Lib.hid hg
  have hbw := h.lt
  clear hal hkn h hg hK hmo
  obtain ⟨n1, n2, n3⟩ := n
  unfold valN at *
  simp only at *
  go_enter Tryz.func14, Tryz.ntmps14
  go_wp2_with fail
  generalize w.alloc (.cells #[.int .i64 n1, .string n2, .string n3] 31) = wA at *
  refine (HKN.out _).mono ?_
  rintro e w1 ⟨rfl, hb1⟩
  have HB1 := Lib.hid (HAL.out.trans (hb1.mono HAL.out.size))
  clear hb1 HAL HKN
  rcases K with _ | ⟨m1, m2, m3⟩
  · simp only [Option.getD_none, Option.isSome_none] at *
    go_wp2_with fail
    go_ret
    exact ⟨by rw [HMO.out]; rfl, HB1.out.trans ((alloc_below w1 _).mono HB1.out.size)⟩
  · simp only [Option.getD_some, Option.isSome_some] at *
    have hal2 := alloc_below w1 (.cells #[.int .i64 m1, .string m2, .string m3] 31)
    have hBN := Blk.new w1 31 #[.int .i64 m1, .string m2, .string m3]
    have HB2 := Lib.hid (HB1.out.trans (hal2.mono HB1.out.size))
    have d0 := hBN.cell 0
    have d1 := hBN.cell 1
    have d2 := hBN.cell 2
    obtain ⟨A, c, rs, h4⟩ := H.out.below HB2.out
    have hho := tholdof_ h4 HG.out.rise (by have := HG.out.len; omega) HG.out.small who (m1, m2, m3)
    have HHO := Lib.hid hho
    have hfm := find_mode (l := lockN s (m1, m2, m3)) who
    clear hho h4 hal2 hBN
    unfold valN at HHO
    obtain ⟨x0, x1, x2, hx, hx1⟩ : ∃ x0 x1 x2 : Int, valH ((findH (holdsP (lockN s (m1, m2, m3))) who).getD (0, 0, 0)) = .agg #[.int .i64 x0, .int .i64 x1, .int .i64 x2] ∧ x1 = (modeP (lockN s (m1, m2, m3)).1 who : Int) := ⟨_, _, _, rfl, by rw [hfm]⟩
    rw [hx] at HHO
    generalize hereP (lockN s (m1, m2, m3)) who = hh at *
    have HX1 := Lib.hid hx1
    clear hx hx1 hfm
    go_wp2_with fail
    generalize w1.alloc (.cells #[.int .i64 m1, .string m2, .string m3] 31) = wC at *
    refine HHO.out.mono ?_
    rintro e w3 ⟨rfl, hb3⟩
    have HB3 := Lib.hid (HB2.out.trans (hb3.mono HB2.out.size))
    clear hb3
    go_wp2_with fail
    go_ret
    refine ⟨?_, HB3.out.trans ((alloc_below w3 _).mono HB3.out.size)⟩
    rw [HMO.out]
    show Ending.returned (.int .i64 x1) = _
    rw [HX1.out]
    rfl
end Go.Proofs.YtnjhhndggfjjdaaGreatDoor
namespace Go.Proofs.YtnjhhndggfjjdaaGreatDoor
open Go.RowKit
/-- the table at block b, made behind w0, has these locks; all that was in w0 is as it was -/
structure LG (w0 : World) (b : Nat) (s : TS) (w : World) : Prop where
  lt : LT w b (countP s : Int) s
  inv : TInv s
  tab : Tab w
  below : Below w0.heap.size w0 w
  ge : w0.heap.size ≤ b
  b0 : 0 ≠ b
theorem waits_in {l : Lk} {x y : Int} (h : y ∈ waitsP l x) : hasP l.1 y = true ∨ hasP l.2 y = true := by
  unfold waitsP at h
  split at h
  · rw [(uniqI_spec _).2] at h
    unfold rawP at h
    rcases List.mem_append.1 h with h | h
    · obtain ⟨c, hc, rfl⟩ := List.mem_map.1 h
      exact .inl (has_mem.2 (List.mem_map.2 ⟨c, (List.mem_filter.1 hc).1, rfl⟩))
    · obtain ⟨c, hc, rfl⟩ := List.mem_map.1 h
      exact .inr (has_mem.2 (List.mem_map.2 ⟨c, List.mem_of_mem_take hc, rfl⟩))
  · cases h
theorem waits_length {l : Lk} (ok : Ok l) (x : Int) : (waitsP l x).length ≤ (holdsP l).length := by
  rw [← whos_length]
  refine sub_length ?_ fun y hy => (whos_mem ok y).2 (waits_in hy)
  unfold waitsP
  split
  · exact ((uniqI_spec _).1).imp fun {a b} h => Int.ne_of_lt h
  · exact List.nodup_nil
theorem flat_length {α β : Type} {f : α → List β} {k : Nat} : ∀ {l : List α}, (∀ x ∈ l, (f x).length ≤ k) → (l.flatMap f).length ≤ l.length * k
  | [], _ => by simp
  | x :: l, h => by
    have := flat_length (f := f) (k := k) (l := l) fun y hy => h y (by simp [hy])
    have := h x (by simp)
    rw [List.flatMap_cons, List.length_append, List.length_cons, Nat.add_mul]
    omega
theorem rawE_length {s : TS} (h : TInv s) : (rawE s).length ≤ countP s * countP s := by
  have : ∀ t : TS, (∀ e ∈ t, e ∈ s) → (rawE t).length ≤ countP t * countP s := by
    intro t
    induction t with
    | nil => intro _; simp [rawE]
    | cons e r ih =>
      intro ht
      have h1 := ih fun x hx => ht x (by simp [hx])
      have he := ht e (by simp)
      have h2 : ((holdsP e.2).flatMap fun h => (waitsP e.2 h.1).map fun o => (h.1, o)).length ≤ (holdsP e.2).length * countP s := flat_length fun x _ => by
        rw [List.length_map]
        exact Nat.le_trans (waits_length (h.ok e he) _) (count_lock he)
      rw [count_cons, Nat.add_mul]
      unfold rawE at *
      rw [List.flatMap_cons, List.length_append]
      omega
  exact this s fun _ h => h
section
variable {w0 w : World} {b : Nat} {s : TS}
theorem LG.new (hT : Tab w) (h : Below w0.heap.size w0 w) : LG w0 w.heap.size [] (w.alloc (.cells #[.int .i64 0, .slice none 0 0] 53)) :=
  ⟨LT.new w, TInv.nil, hT.below (alloc_below w _), h.trans ((alloc_below w _).mono h.size), h.size, by have := hT.lt; omega⟩
theorem LG.next (g : LG w0 b s w) {w' : World} (k : Below w.heap.size w w') : LG w0 b s w' := ⟨g.lt.below k, g.inv, g.tab.below k, g.below.trans (k.mono g.below.size), g.ge, g.b0⟩
theorem LG.turn (g : LG w0 b s w) {w' : World} {s' : TS} (hl : LT w' b (countP s' : Int) s') (hi : TInv s') (k : Keep (fun i _ => i ≠ b) w w') : LG w0 b s' w' :=
  ⟨hl, hi, g.tab.keep k fun _ => g.b0, g.below.trans (k.below g.below.size fun i _ hi => by have := g.ge; omega), g.ge, g.b0⟩
theorem LG.ask (g : LG w0 b s w) (hc : countP s ≤ 1000) (who : Int) (n : Nm) (mode : Int) :
    Calls Tryz.prog 6 #[.pointer (some ⟨b, 0, none⟩), .int .i64 who, valN n, .int .i64 mode] w fun e w' => e = .returned (.int .i64 ((askN s who n mode).1 : Int)) ∧ LG w0 b (askN s who n mode).2 w' ∧ Keep (fun i _ => i ≠ b) w w' :=
  (task_ g.lt (g.inv.good (by omega)) g.tab g.b0 (by omega) who n mode fun _ _ hm0 hw => count_put g.inv hm0 hw).mono fun _ _ ⟨he, hl, hk⟩ => ⟨he, g.turn hl (inv_ask g.inv who n mode) hk, hk⟩
theorem LG.free (g : LG w0 b s w) (hc : countP s ≤ 500) (who : Int) :
    Calls Tryz.prog 10 #[.pointer (some ⟨b, 0, none⟩), .int .i64 who] w fun e w' => ∃ v, e = .returned v ∧ Own w' w.heap.size eI 3 v (freeN s who).1 ∧ LG w0 b (freeN s who).2 w' ∧ Keep (fun i _ => i ≠ b) w w' :=
  (tfree_ g.lt (g.inv.good (by omega)) g.tab g.b0 (by omega) (by have := length_count g.inv.some; omega) (fun e he => by have := g.inv.small he; omega) who).mono fun _ _ ⟨v, he, ho, hl, hk⟩ => ⟨v, he, ho, g.turn hl (inv_free g.inv who) hk, hk⟩
theorem LG.waiting (g : LG w0 b s w) (hc : countP s ≤ 1000) (who : Int) :
    Calls Tryz.prog 12 #[.pointer (some ⟨b, 0, none⟩), .int .i64 who] w fun e w' => e = .returned (.tuple #[valN ((waitN s who).getD (0, noB, noB)), .bool (waitN s who).isSome]) ∧ LG w0 b s w' ∧ Below w.heap.size w w' :=
  (waiting_all g.lt (g.inv.good (by omega)) g.tab who).mono fun _ _ ⟨he, hk⟩ => ⟨he, g.next hk, hk⟩
theorem LG.mode (g : LG w0 b s w) (hc : countP s ≤ 1000) (who : Int) (n : Nm) :
    Calls Tryz.prog 14 #[.pointer (some ⟨b, 0, none⟩), .int .i64 who, valN n] w fun e w' => e = .returned (.int .i64 (modeN s who n : Int)) ∧ LG w0 b s w' ∧ Below w.heap.size w w' :=
  (tmode_ g.lt (g.inv.good (by omega)) who n).mono fun _ _ ⟨he, hk⟩ => ⟨he, g.next hk, hk⟩
theorem LG.edges (g : LG w0 b s w) (hc : countP s ≤ 300) :
    Calls Tryz.prog 19 #[.pointer (some ⟨b, 0, none⟩)] w fun e w' => ∃ v, e = .returned v ∧ Own w' w.heap.size eE 80 v (sortedE (rawE s)) ∧ LG w0 b s w' ∧ Below w.heap.size w w' :=
  (tedges_ g.lt (g.inv.good (by omega)) g.tab (Nat.le_trans (rawE_length g.inv) (Nat.le_trans (Nat.mul_le_mul hc hc) (by omega)))).mono fun _ _ ⟨v, he, ho, hk⟩ => ⟨v, he, ho, g.next hk, hk⟩
theorem LG.count (g : LG w0 b s w) : Calls Tryz.prog 16 #[.pointer (some ⟨b, 0, none⟩)] w fun e w' => e = .returned (.int .i64 (countP s : Int)) ∧ w = w' := count_ g.lt
end
theorem num_ (k : Nat) (w : World) : Calls Tryz.prog 7 #[.int .i64 (k : Int)] w fun e w' => e = .returned (.int .i64 (k : Int)) ∧ w = w' := by
  go_enter Tryz.func7, Tryz.ntmps7
  go_wp2
  go_ret
  exact ⟨rfl, rfl⟩
/-- one lock alone -/
theorem at_one (m : Nm) (l : Lk) : atN [(m, l)] m = true ∧ spotN [(m, l)] m = 0 := by
  have h0 := (cmpN_eq m m).2 rfl
  have hs : spotN [(m, l)] m = 0 := by unfold spotN; simp [List.findIdx_cons, h0]
  refine ⟨?_, hs⟩
  unfold atN
  rw [hs]
  simp [h0]
theorem lock_one (m : Nm) (l : Lk) : lockN [(m, l)] m = l := by rw [lock_at (at_one m l).1]; simp [(at_one m l).2]
theorem put_one (m : Nm) (l l' : Lk) : putN [(m, l)] m l' = [(m, l')] := by unfold putN; rw [(at_one m l).1, (at_one m l).2]; rfl
theorem lock_nil (m : Nm) : lockN [] m = ([], []) := rfl
theorem put_nil (m : Nm) (l : Lk) : putN [] m l = [(m, l)] := rfl
theorem known_store (o r : ByteArray) : knownP (0, o, r) = some (0, noB, noB) := rfl
theorem known_object (o r : ByteArray) : knownP (1, o, r) = some (1, o, noB) := rfl
theorem known_row (o r : ByteArray) : knownP (2, o, r) = some (2, o, r) := rfl
set_option maxHeartbeats 1000000 in
theorem lalive_ (w : World) (hT : Tab w) : Calls Tryz.prog 4 #[] w fun e w' => e = .returned (.bool true) ∧ Below w.heap.size w w' := by
  have hg0 := LG.new hT (Below.refl w.heap.size w)
  have HG0 := Lib.hid hg0
  clear hg0 hT
  have e1 : askN [] 1 (0, noB, noB) 5 = (0, [((0, noB, noB), ([(1, 5)], []))]) := by
    rw [ask_asks (known_store _ _) rfl (by omega) (.inr (by decide)), lock_nil, put_nil]
    rfl
  have e2 : askN [((0, noB, noB), ([(1, 5)], []))] 2 (0, noB, noB) 1 = (13, [((0, noB, noB), ([(1, 5)], [(2, 1)]))]) := by
    rw [ask_asks (known_store _ _) rfl (by omega) (.inr (by decide)), lock_one, put_one]
    rfl
  have E1 := Lib.hid e1
  have E2 := Lib.hid e2
  clear e1 e2
  go_enter Tryz.func4, Tryz.ntmps4
  go_wp2_with fail
  refine (lnew_ w).mono ?_
  rintro e w1 ⟨rfl, hw1⟩
  have HG1 : Hid (LG w w.heap.size [] w1) := by rw [hw1]; exact HG0.out
  clear hw1 HG0
  go_wp2_with fail
  refine HG1.out.count.mono ?_
  rintro e w2 ⟨rfl, rfl⟩
  go_wp2_with fail
  have ha1 := HG1.out.ask (by decide) 1 (0, noB, noB) 5
  rw [E1.out] at ha1
  unfold valN noB at ha1
  refine ha1.mono ?_
  rintro e w3 ⟨rfl, hg3, _⟩
  have HG3 := Lib.hid hg3
  clear hg3 ha1
  go_wp2_with fail
  have ha2 := HG3.out.ask (by decide) 2 (0, noB, noB) 1
  have e2' := E2.out
  unfold noB at e2'
  unfold noB at ha2
  rw [e2'] at ha2
  unfold valN at ha2
  refine ha2.mono ?_
  rintro e w4 ⟨rfl, hg4, _⟩
  have HG4 := Lib.hid hg4
  clear hg4 ha2 e2'
  have hn0 := num_ 0
  have hn13 := num_ 13
  have hc2 := HG4.out.count
  go_wp2_with (first
    | (go_at_call 7; first | (refine (hn0 _).mono ?_; rintro e w' ⟨rfl, rfl⟩) | (refine (hn13 _).mono ?_; rintro e w' ⟨rfl, rfl⟩))
    | (go_at_call 16; refine hc2.mono ?_; rintro e w' ⟨rfl, rfl⟩))
  go_ret
  exact ⟨rfl, HG4.out.below⟩
end Go.Proofs.YtnjhhndggfjjdaaGreatDoor
