/- Package queue: Rises. -/
import Derived.Test.YtglcdchjddnjgaaMqA
import Derived.Test.YtglcdchjddnjgaaMet
import Derived.BigQuiet
import Derived.Deep.QuietTactic
import Derived.Deep.RegionHeld3
set_option maxRecDepth 4000
namespace Go.Proofs.Ytglcdchjddnjgaa
open Go.RowKit
theorem msgs_b (a b : Mg) (w : World) : Calls Try.prog 16 #[a.val, b.val] w fun e w' => e = .returned (.int .i64 (cmpG a b)) ∧ Below w.heap.size w w' := by
  refine (msgs_ a b w).mono ?_
  rintro e w' ⟨rfl, rfl⟩
  have k := alloc_below w (.cells a.cells 28)
  exact ⟨rfl, k.alloc k.size _⟩
theorem Lst.atMs {w : World} {K : Nat → Prop} {b o : Nat} {l : List Mg} (h : Lst w K eM (some ⟨b, o, none⟩) l) {j : Nat} (hj : j < l.length) :
    b < w.heap.size ∧ w.cell? ⟨b, o + j * 6, none⟩ = some (.int .i64 l[j].id) ∧ w.cell? ⟨b, o + j * 6 + 1, none⟩ = some (.int .i64 l[j].pri) ∧ w.cell? ⟨b, o + j * 6 + 2, none⟩ = some (.int .i64 l[j].retry) ∧
      w.cell? ⟨b, o + j * 6 + 3, none⟩ = some (.bool l[j].claimed) ∧ w.cell? ⟨b, o + j * 6 + 4, none⟩ = some (.string l[j].corr) ∧ w.cell? ⟨b, o + j * 6 + 5, none⟩ = some (.string l[j].body) := by
  obtain ⟨b', o', e, hl, hc⟩ := h.atM hj
  injection e with e
  injection e with e1 e2
  subst e1 e2
  exact ⟨hl, hc⟩
theorem up_all {l : List Mg} {j : Nat} (h : ∀ i, i < j → upM l i = true) (hj : l.length ≤ j) : risesM l = true := by
  unfold risesM
  rw [List.all_eq_true]
  exact fun i hi => h i (by have := List.mem_range.1 hi; omega)
theorem up_not {l : List Mg} {j : Nat} (h : upM l j = false) (hj : j < l.length) : risesM l = false := by
  unfold risesM
  rw [List.all_eq_false]
  exact ⟨j, List.mem_range.2 hj, by simp [h]⟩
def idsM (l : List Mg) (j : Nat) : List Int := (l.take j).map (·.id)
theorem ids_succ {l : List Mg} {j : Nat} (h : j < l.length) : idsM l (j + 1) = idsM l j ++ [l[j].id] := by
  unfold idsM
  rw [List.take_succ_eq_append_getElem h, List.map_append]; rfl
theorem ids_len {l : List Mg} (j : Nat) : (idsM l j).length ≤ l.length := by
  unfold idsM; simp; omega
def RiseR (w : World) (l : List Mg) (k : Nat) (i : Value) (wr : World) : Prop :=
  ∃ j, j + k = l.length ∧ i = .int .i64 (j : Int) ∧ (∀ q, q < j → upM l q = true) ∧ Met wr w.heap.size (idsM l j) ∧ Below w.heap.size w wr
set_option maxHeartbeats 2000000 in
theorem rises_m {w : World} {K : Nat → Prop} {A : Option Addr} {n c : Nat} {l : List Mg} (h : Lst w K eM A l) (hl : l.length = n) (hn : n ≤ 10000) (hw : ∀ m ∈ l, Wf m.id) :
    Calls Try.prog 7 #[.slice A n c] w fun e w' => e = .returned (.bool (risesM l)) ∧ Below w.heap.size w w' := by
  have H := Lib.hid h
  have HL := Lib.hid hl
  have HW := Lib.hid hw
  have hmm := @run_makeMap Try.prog
  clear h hl hw
  go_enter Try.func7, Try.ntmps7
  go_wp2_with fail
  go_loopg [11] n (fun k i wr => RiseR w l k i wr)
  case atStart => exact ⟨0, by rw [HL.out]; omega, rfl, fun q hq => absurd hq (Nat.not_lt_zero q), met_new w, alloc_below w _⟩
  case round =>
    obtain ⟨j, hj, rfl, hu, hm, hb⟩ := hrel
    have HJ := Lib.hid hj
    have HU := Lib.hid hu
    have HM := Lib.hid hm
    have HB := Lib.hid hb
    clear hj hu hm hb
    by_cases hlt : j < n
    · have hx : j < l.length := by rw [HL.out]; exact hlt
      obtain ⟨b, o, rfl, hb, c0, c1, c2, c3, c4, c5⟩ := (H.out.below HB.out).atM hx
      have hwx := HW.out _ (List.getElem_mem hx)
      have hup : upM l j = (!decide (l[j].id ∈ idsM l j) && (j == 0 || match l[j - 1]? with
          | some p => decide (cmpG p l[j] < 0)
          | none => true)) := by
        unfold upM; rw [List.getElem?_eq_getElem hx]; rfl
      have hids := ids_succ hx
      obtain ⟨x, hxx⟩ : ∃ x, l[j] = x := ⟨_, rfl⟩
      rw [hxx] at c0 c1 c2 c3 c4 c5 hwx hup hids
      obtain ⟨x0, x1, x2, x3, x4, x5⟩ := x
      simp only at c0 c1 c2 c3 c4 c5 hwx
      have HUP := Lib.hid hup
      have HIDS := Lib.hid hids
      have k1 := alloc_below wr (.cells #[.int .i64 x0, .int .i64 x1, .int .i64 x2, .bool x3, .string x4, .string x5] 28)
      have hlk := (HM.out.below k1).look hwx
      clear hup hids hxx
      have hz1 : (wr.alloc (.cells #[.int .i64 x0, .int .i64 x1, .int .i64 x2, .bool x3, .string x4, .string x5] 28)).heap.size = wr.heap.size + 1 := by simp
      have k2 := k1.alloc k1.size (.cells #[] 43)
      have hblk := (Blk.new wr 28 #[.int .i64 x0, .int .i64 x1, .int .i64 x2, .bool x3, .string x4, .string x5]).alloc (.cells #[] 43)
      have K2 := Lib.hid k2
      have BLK := Lib.hid hblk
      by_cases hin : x0 ∈ idsM l j
      · rw [decide_eq_true hin] at hlk
        have hr := up_not (by rw [HUP.out, decide_eq_true hin]; rfl) hx
        have HR := Lib.hid hr
        have HBW := Lib.hid (HB.out.trans (k2.mono HB.out.size))
        clear HUP HIDS hin hr k1 k2 hblk HM HU HJ H HL HW BLK K2 hz1
        go_wp2_with fail
        go_quiet (fail)
        go_wp2_with fail
        go_ret
        exact ⟨by rw [HR.out]; rfl, below_drewN HBW.out _⟩
      · rw [decide_eq_false hin] at hlk
        have hup2 : upM l j = (j == 0 || match l[j - 1]? with
            | some p => decide (cmpG p ⟨x0, x1, x2, x3, x4, x5⟩ < 0)
            | none => true) := by rw [HUP.out, decide_eq_false hin]; rfl
        have hput : ∀ W, Below wr.heap.size wr W → ∃ w', (Instr.mapUpdate 42 (.map (some w.heap.size)) (.int .i64 x0) (.agg #[])).run Try.prog W = .ok () w' ∧ Met w' w.heap.size (idsM l (j + 1)) ∧ Below w.heap.size w w' := fun W hW => by
          obtain ⟨w', h1, h2, h3⟩ := (HM.out.below hW).put_ hwx (by have := ids_len (l := l) j; have := HL.out; omega)
          refine ⟨w', h1, by rw [HIDS.out]; exact h2, (HB.out.trans (hW.mono HB.out.size)).grown h3 (Nat.le_trans HB.out.size hW.size) fun g hg => ?_⟩
          injection hg with hg
          omega
        have HPUT := Lib.hid hput
        have HUP2 := Lib.hid hup2
        clear HUP HIDS hin k1 hup2 hput HM
        rcases Nat.eq_zero_or_pos j with hj0 | hj0
        · have hnext : ∀ q, q < j + 1 → upM l q = true := fun q hq => by
            obtain rfl : q = j := by omega
            rw [HUP2.out, hj0]; rfl
          have hg : decide ((0 : Int) < (j : Int)) = false := decide_eq_false (by omega)
          have HG := Lib.hid hg
          clear hg
          have HN := Lib.hid hnext
          obtain ⟨d0, d1, d2, d3, d4, d5⟩ := blk_six (m := ⟨x0, x1, x2, x3, x4, x5⟩) BLK.out
          clear hnext HUP2 HU k2 hblk H HW BLK hz1 hj0
          go_wp2_with fail
          have hg := HG.out
          have hg2 : decide (0 < j) = false := decide_eq_false (by have := of_decide_eq_false hg; omega)
          go_quiet (fail)
          obtain ⟨W3, hup3, hm3, hb3⟩ := HPUT.out _ (below_drewN K2.out nq)
          have HM3 := Lib.hid hm3
          have HB3 := Lib.hid hb3
          clear hm3 hb3 HPUT K2
          go_wp2_with fail
          go_roundg (n - (j + 1))
          case measure => have := HJ.out; have := HL.out; omega
          case rel => exact ⟨j + 1, by have := HL.out; omega, by go_num, HN.out, HM3.out, HB3.out⟩
        · obtain ⟨i, hi⟩ : ∃ i, j = i + 1 := ⟨j - 1, by omega⟩
          have hil : i < l.length := by omega
          have hin : i < n := by omega
          have hin2 : (i : Int) < (n : Int) := by omega
          have hin3 : (i : Int) ≤ (n : Int) := by omega
          have hin0 : (0 : Int) ≤ (i : Int) := by omega
          have hwj : IntKind.i64.wrap ((j : Int) - 1) = (i : Int) := by rw [IntKind.wrap_i64]; omega
          obtain ⟨_, y0', y1', y2', y3', y4', y5'⟩ := (H.out.below (HB.out.trans (k2.mono HB.out.size))).atMs hil
          have hup3 : upM l j = decide (cmpG l[i] ⟨x0, x1, x2, x3, x4, x5⟩ < 0) := by
            rw [HUP2.out, show j - 1 = i by omega, List.getElem?_eq_getElem hil, show (j == 0) = false by simp; omega]; rfl
          obtain ⟨y, hy⟩ : ∃ y, l[i] = y := ⟨_, rfl⟩
          rw [hy] at y0' y1' y2' y3' y4' y5' hup3
          obtain ⟨y0, y1, y2, y3, y4, y5⟩ := y
          simp only at y0' y1' y2' y3' y4' y5'
          have hcall := fun W => msgs_b ⟨y0, y1, y2, y3, y4, y5⟩ ⟨x0, x1, x2, x3, x4, x5⟩ W
          generalize cmpG ⟨y0, y1, y2, y3, y4, y5⟩ ⟨x0, x1, x2, x3, x4, x5⟩ = z at *
          simp only [Mg.val, Mg.cells] at hcall
          have HC := Lib.hid hcall
          have HUP3 := Lib.hid hup3
          obtain ⟨d0, d1, d2, d3, d4, d5⟩ := blk_six (m := ⟨x0, x1, x2, x3, x4, x5⟩) BLK.out
          have hg : decide ((0 : Int) < (j : Int)) = true := decide_eq_true (by omega)
          have hg2 : decide (0 < j) = true := decide_eq_true hj0
          have HG := Lib.hid hg
          have HG2 := Lib.hid hg2
          clear hg hg2
          have HI := Lib.hid hi
          clear hy hup3 hcall HUP2 k2 hblk H HW BLK hz1 hi hj0 hil
          go_wp2_with fail
          have hg := HG.out
          have hg2 := HG2.out
          have HKW := Lib.hid K2.out
          clear K2
          have hdl := block_of_cell d0
          have hyl := block_of_cell y0'
          generalize (wr.alloc (.cells #[.int .i64 x0, .int .i64 x1, .int .i64 x2, .bool x3, .string x4, .string x5] 28)).alloc (.cells #[] 43) = WA at *
          have hS0 : (fun W : World => W.cell? ⟨wr.heap.size, 0, none⟩ = some (.int .i64 x0) ∧ W.cell? ⟨wr.heap.size, 1, none⟩ = some (.int .i64 x1) ∧ W.cell? ⟨wr.heap.size, 2, none⟩ = some (.int .i64 x2) ∧ W.cell? ⟨wr.heap.size, 3, none⟩ = some (.bool x3) ∧ W.cell? ⟨wr.heap.size, 4, none⟩ = some (.string x4) ∧ W.cell? ⟨wr.heap.size, 5, none⟩ = some (.string x5) ∧ W.cell? ⟨b, o + i * 6, none⟩ = some (.int .i64 y0) ∧ W.cell? ⟨b, o + i * 6 + 1, none⟩ = some (.int .i64 y1) ∧ W.cell? ⟨b, o + i * 6 + 2, none⟩ = some (.int .i64 y2) ∧ W.cell? ⟨b, o + i * 6 + 3, none⟩ = some (.bool y3) ∧ W.cell? ⟨b, o + i * 6 + 4, none⟩ = some (.string y4) ∧ W.cell? ⟨b, o + i * 6 + 5, none⟩ = some (.string y5)) WA.drew := ⟨d0, d1, d2, d3, d4, d5, y0', y1', y2', y3', y4', y5'⟩
          by_cases hp : z < 0
          · have hp2 : ¬ 0 ≤ z := by omega
            go_region_held3 (fun W : World => W.cell? ⟨wr.heap.size, 0, none⟩ = some (.int .i64 x0) ∧ W.cell? ⟨wr.heap.size, 1, none⟩ = some (.int .i64 x1) ∧ W.cell? ⟨wr.heap.size, 2, none⟩ = some (.int .i64 x2) ∧ W.cell? ⟨wr.heap.size, 3, none⟩ = some (.bool x3) ∧ W.cell? ⟨wr.heap.size, 4, none⟩ = some (.string x4) ∧ W.cell? ⟨wr.heap.size, 5, none⟩ = some (.string x5) ∧ W.cell? ⟨b, o + i * 6, none⟩ = some (.int .i64 y0) ∧ W.cell? ⟨b, o + i * 6 + 1, none⟩ = some (.int .i64 y1) ∧ W.cell? ⟨b, o + i * 6 + 2, none⟩ = some (.int .i64 y2) ∧ W.cell? ⟨b, o + i * 6 + 3, none⟩ = some (.bool y3) ∧ W.cell? ⟨b, o + i * 6 + 4, none⟩ = some (.string y4) ∧ W.cell? ⟨b, o + i * 6 + 5, none⟩ = some (.string y5))
              (first | exact hS0 | exact hS1)
              (first | (go_at_call 16; refine (HC.out WA.drew).mono ?_; rintro e w1 ⟨rfl, hb3⟩; have HB3 := Lib.hid hb3; have hS1 : (fun W : World => W.cell? ⟨wr.heap.size, 0, none⟩ = some (.int .i64 x0) ∧ W.cell? ⟨wr.heap.size, 1, none⟩ = some (.int .i64 x1) ∧ W.cell? ⟨wr.heap.size, 2, none⟩ = some (.int .i64 x2) ∧ W.cell? ⟨wr.heap.size, 3, none⟩ = some (.bool x3) ∧ W.cell? ⟨wr.heap.size, 4, none⟩ = some (.string x4) ∧ W.cell? ⟨wr.heap.size, 5, none⟩ = some (.string x5) ∧ W.cell? ⟨b, o + i * 6, none⟩ = some (.int .i64 y0) ∧ W.cell? ⟨b, o + i * 6 + 1, none⟩ = some (.int .i64 y1) ∧ W.cell? ⟨b, o + i * 6 + 2, none⟩ = some (.int .i64 y2) ∧ W.cell? ⟨b, o + i * 6 + 3, none⟩ = some (.bool y3) ∧ W.cell? ⟨b, o + i * 6 + 4, none⟩ = some (.string y4) ∧ W.cell? ⟨b, o + i * 6 + 5, none⟩ = some (.string y5)) w1 := ⟨(cell_of_heap (hb3.block _ hdl) _).trans d0, (cell_of_heap (hb3.block _ hdl) _).trans d1, (cell_of_heap (hb3.block _ hdl) _).trans d2, (cell_of_heap (hb3.block _ hdl) _).trans d3, (cell_of_heap (hb3.block _ hdl) _).trans d4, (cell_of_heap (hb3.block _ hdl) _).trans d5, (cell_of_heap (hb3.block _ hyl) _).trans y0', (cell_of_heap (hb3.block _ hyl) _).trans y1', (cell_of_heap (hb3.block _ hyl) _).trans y2', (cell_of_heap (hb3.block _ hyl) _).trans y3', (cell_of_heap (hb3.block _ hyl) _).trans y4', (cell_of_heap (hb3.block _ hyl) _).trans y5'⟩; clear hb3))
            have hK3 := HKW.out.trans ((Below.refl _ WA).drew.trans HB3.out |>.mono HKW.out.size)
            obtain ⟨W3, hup3, hm3, hb4⟩ := HPUT.out _ hK3
            have hnext : ∀ q, q < j + 1 → upM l q = true := fun q hq => by
              rcases Nat.lt_or_ge q j with h5 | h5
              · exact HU.out q h5
              · obtain rfl : q = j := by omega
                rw [HUP3.out]; exact decide_eq_true hp
            have HN := Lib.hid hnext
            have HM3 := Lib.hid hm3
            have HB4 := Lib.hid hb4
            have e0 := hS1.1
            clear hnext hm3 hb4 hK3 hS1 hS0 HPUT HUP3
            go_wp2_with fail
            go_roundg (n - (j + 1))
            case measure => have := HJ.out; have := HL.out; omega
            case rel => exact ⟨j + 1, by have := HL.out; omega, by go_num, HN.out, HM3.out, HB4.out⟩
          · have hp2 : 0 ≤ z := by omega
            have hr := up_not (l := l) (j := j) (by rw [HUP3.out]; exact decide_eq_false hp) (by rw [HL.out]; exact hlt)
            have HR := Lib.hid hr
            clear hr HUP3
            go_region_held3 (fun W : World => W.cell? ⟨wr.heap.size, 0, none⟩ = some (.int .i64 x0) ∧ W.cell? ⟨wr.heap.size, 1, none⟩ = some (.int .i64 x1) ∧ W.cell? ⟨wr.heap.size, 2, none⟩ = some (.int .i64 x2) ∧ W.cell? ⟨wr.heap.size, 3, none⟩ = some (.bool x3) ∧ W.cell? ⟨wr.heap.size, 4, none⟩ = some (.string x4) ∧ W.cell? ⟨wr.heap.size, 5, none⟩ = some (.string x5) ∧ W.cell? ⟨b, o + i * 6, none⟩ = some (.int .i64 y0) ∧ W.cell? ⟨b, o + i * 6 + 1, none⟩ = some (.int .i64 y1) ∧ W.cell? ⟨b, o + i * 6 + 2, none⟩ = some (.int .i64 y2) ∧ W.cell? ⟨b, o + i * 6 + 3, none⟩ = some (.bool y3) ∧ W.cell? ⟨b, o + i * 6 + 4, none⟩ = some (.string y4) ∧ W.cell? ⟨b, o + i * 6 + 5, none⟩ = some (.string y5))
              (first | exact hS0 | exact hS1)
              (first | (go_at_call 16; refine (HC.out WA.drew).mono ?_; rintro e w1 ⟨rfl, hb3⟩; have HB3 := Lib.hid hb3; have hS1 : (fun W : World => W.cell? ⟨wr.heap.size, 0, none⟩ = some (.int .i64 x0) ∧ W.cell? ⟨wr.heap.size, 1, none⟩ = some (.int .i64 x1) ∧ W.cell? ⟨wr.heap.size, 2, none⟩ = some (.int .i64 x2) ∧ W.cell? ⟨wr.heap.size, 3, none⟩ = some (.bool x3) ∧ W.cell? ⟨wr.heap.size, 4, none⟩ = some (.string x4) ∧ W.cell? ⟨wr.heap.size, 5, none⟩ = some (.string x5) ∧ W.cell? ⟨b, o + i * 6, none⟩ = some (.int .i64 y0) ∧ W.cell? ⟨b, o + i * 6 + 1, none⟩ = some (.int .i64 y1) ∧ W.cell? ⟨b, o + i * 6 + 2, none⟩ = some (.int .i64 y2) ∧ W.cell? ⟨b, o + i * 6 + 3, none⟩ = some (.bool y3) ∧ W.cell? ⟨b, o + i * 6 + 4, none⟩ = some (.string y4) ∧ W.cell? ⟨b, o + i * 6 + 5, none⟩ = some (.string y5)) w1 := ⟨(cell_of_heap (hb3.block _ hdl) _).trans d0, (cell_of_heap (hb3.block _ hdl) _).trans d1, (cell_of_heap (hb3.block _ hdl) _).trans d2, (cell_of_heap (hb3.block _ hdl) _).trans d3, (cell_of_heap (hb3.block _ hdl) _).trans d4, (cell_of_heap (hb3.block _ hdl) _).trans d5, (cell_of_heap (hb3.block _ hyl) _).trans y0', (cell_of_heap (hb3.block _ hyl) _).trans y1', (cell_of_heap (hb3.block _ hyl) _).trans y2', (cell_of_heap (hb3.block _ hyl) _).trans y3', (cell_of_heap (hb3.block _ hyl) _).trans y4', (cell_of_heap (hb3.block _ hyl) _).trans y5'⟩; clear hb3))
            have hK3 := HKW.out.trans ((Below.refl _ WA).drew.trans HB3.out |>.mono HKW.out.size)
            have HBZ := Lib.hid (HB.out.trans (hK3.mono HB.out.size))
            clear hK3 hS1 hS0
            go_wp2_with fail
            go_ret
            exact ⟨by rw [HR.out]; rfl, HBZ.out⟩
    · have he : l.length ≤ j := by have := HL.out; omega
      have e1 := up_all HU.out he
      have E1 := Lib.hid e1
      clear e1 he
      go_wp2_with fail
      go_ret
      exact ⟨by rw [E1.out]; rfl, HB.out⟩
end Go.Proofs.Ytglcdchjddnjgaa
