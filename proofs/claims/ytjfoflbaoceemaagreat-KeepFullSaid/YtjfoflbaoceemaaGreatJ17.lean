/- . . . . . -/
import Derived.Test.YtjfoflbaoceemaaGreatJ14
import Derived.Test.YtjfoflbaoceemaaGreatJ01
import Derived.Test.YtjfoflbaoceemaaGreatProg
import Derived.WalkKit
import Derived.ProofKit
import Derived.Lib.Hide
import Derived.Test.YtjfoflbaoceemaaGreatJ16
import Derived.Maps.GroupsBeside
import Derived.Maps.RangeWalk
import Derived.Deep.RegionWith
import Derived.BigQuiet
import Derived.Deep.QuietTactic
import Derived.Deep.RegionHeld3
import Derived.Test.YtjfoflbaoceemaaGreatJ15
set_option maxRecDepth 4000
namespace Go.Proofs.YtjfoflbaoceemaaGreat
open Go.RowKit
theorem retO {a b : Int} (h : a = b) : Ending.returned (.int .i64 a) = .returned (.int .i64 b) := by rw [h]
end Go.Proofs.YtjfoflbaoceemaaGreat
namespace Go.Proofs.YtjfoflbaoceemaaGreat
open Go.RowKit
theorem msgs_ (a b : Mg) (w : World) : Calls Tryz.prog 217 #[a.val, b.val] w fun e w' => e = .returned (.int .i64 (cmpG a b)) ∧ (w.alloc (.cells a.cells 44)).alloc (.cells b.cells 44) = w' := by
  obtain ⟨i, p, x2, x3, x4, x5⟩ := a
  obtain ⟨j, q, y2, y3, y4, y5⟩ := b
  have e0 : cmpG ⟨i, p, x2, x3, x4, x5⟩ ⟨j, q, y2, y3, y4, y5⟩ = cmpM p i q j := rfl
  rw [e0]
  show Calls Tryz.prog 217 #[.agg #[.int .i64 i, .int .i64 p, .int .i64 x2, .bool x3, .string x4, .string x5], .agg #[.int .i64 j, .int .i64 q, .int .i64 y2, .bool y3, .string y4, .string y5]] w _
  clear e0
  go_enter Tryz.func217, Tryz.ntmps217
  go_wp2_with (go_at_call 232; refine (compareI _ _ _).mono ?_; rintro e w' ⟨rfl, rfl⟩)
  all_goals go_ret
  · rename_i h; exact ⟨retO (by rw [cmpM, if_neg (by simpa using h)]), rfl⟩
  · rename_i h; exact ⟨retO (by rw [cmpM, if_pos (by simpa using h)]), rfl⟩
end Go.Proofs.YtjfoflbaoceemaaGreat
namespace Go.Proofs.YtjfoflbaoceemaaGreat
open Go.RowKit Go.Maps Go.MapKept Go.ChangeShapes
open Go.WideElems (Fit)
theorem lawI : Keyed Tryz.prog 3 := int_keyed Tryz.underlying3
theorem zeroU (w : World) : (zeroValue 240).run Tryz.prog w = .ok (.agg #[]) w := by kernel_rfl
def Wf (x : Int) : Prop := (Lit.int .i64 x).wf = true
theorem keyI {x : Int} (h : Wf x) : keyOf Tryz.prog 3 (.int .i64 x) = some (.int .i64 x) := keyOf_int_mk Tryz.underlying3 h
theorem grown_of_below {w w' : World} (h : Below w.heap.size w w') : w.grownBy w' none := ⟨h.os, h.tape, h.output, h.size, fun i hi _ => h.block i hi⟩
def Met (w : World) (b : Nat) (ms : List Int) : Prop := w.ownsMap (H := Unit) Tryz.prog 3 unitElem b ms.length (setOf (.agg []) (ms.map (Lit.int .i64)))
section
variable {w w' : World} {b : Nat} {ms : List Int} {x : Int}
theorem met_keys (ms : List Int) : ∀ y ∈ ms.map (Lit.int .i64), WideAt.IsKeyLit y := fun y hy => by
  obtain ⟨z, _, rfl⟩ := List.mem_map.1 hy
  exact trivial
theorem met_has (ms : List Int) (x : Int) : Maps.has (setOf (H := Unit) (.agg []) (ms.map (Lit.int .i64))) (.int .i64 x) = decide (x ∈ ms) := by
  rw [has_setOf _ _ _ (met_keys ms), Bool.eq_iff_iff, List.any_eq_true, decide_eq_true_iff]
  constructor
  · rintro ⟨y, hy, e⟩
    obtain ⟨z, hz, rfl⟩ := List.mem_map.1 hy
    simp [Lit.sameKey] at e
    exact e ▸ hz
  · exact fun h => ⟨_, List.mem_map.2 ⟨x, h, rfl⟩, by simp [Lit.sameKey]⟩
theorem Met.lt (h : Met w b ms) : b < w.heap.size := World.ownsMap.lt h
theorem Met.kept {row : Option Nat} (h : Met w b ms) (hg : w.grownBy w' row) (hne : some b ≠ row) : Met w' b ms := World.ownsMap.kept h hg hne
theorem Met.below (h : Met w b ms) (k : Below w.heap.size w w') : Met w' b ms := h.kept (grown_of_below k) (by simp)
theorem Met.put_ (h : Met w b ms) (hx : Wf x) (hl : ms.length ≤ 100000) : ∃ w', (Instr.mapUpdate 196 (.map (some b)) (.int .i64 x) (.agg #[])).run Tryz.prog w = .ok () w' ∧ Met w' b (ms ++ [x]) ∧ w.grownBy w' (some b) := by
  obtain ⟨w', h1, h2, h3⟩ := World.ownsMap.update h lawI Tryz.underlying196 (by unfold maxLen; omega) (keyI hx) (val := .agg #[]) (unitElem_mk (H := Unit))
  refine ⟨w', h1, ?_, h3⟩
  unfold Met
  rw [List.map_append, List.length_append]
  show w'.ownsMap _ _ _ _ _ (setOf _ (_ ++ [Lit.int .i64 x]))
  rw [setOf_snoc]
  exact h2
theorem Met.look (h : Met w b ms) (hx : Wf x) : (Instr.lookup 196 (.map (some b)) (.int .i64 x) true).run Tryz.prog w = .ok (.tuple #[.agg #[], .bool (decide (x ∈ ms))]) w := by
  obtain ⟨v, ps, h1, h2⟩ := World.ownsMap.look_ok h lawI Tryz.underlying196 (zeroU w) (zd := .agg []) (zp := []) unitElem_mk (keyI hx)
  obtain ⟨rfl, _⟩ := unitElem_inv h2
  rw [h1, met_has]
theorem met_new (w : World) : Met (w.alloc (.map #[] 0)) w.heap.size [] := World.ownsMap_made w _ _ _
end
end Go.Proofs.YtjfoflbaoceemaaGreat
namespace Go.Proofs.YtjfoflbaoceemaaGreat
open Go.RowKit
theorem msgs_b (a b : Mg) (w : World) : Calls Tryz.prog 217 #[a.val, b.val] w fun e w' => e = .returned (.int .i64 (cmpG a b)) ∧ Below w.heap.size w w' := by
  refine (msgs_ a b w).mono ?_
  rintro e w' ⟨rfl, rfl⟩
  have k := alloc_below w (.cells a.cells 44)
  exact ⟨rfl, k.alloc k.size _⟩
theorem up_all {l : List Mg} {j : Nat} (h : ∀ i, i < j → upM l i = true) (hj : l.length ≤ j) : risesM l = true := by
  unfold risesM
  rw [List.all_eq_true]
  exact fun i hi => h i (by have := List.mem_range.1 hi; omega)
theorem up_not {l : List Mg} {j : Nat} (h : upM l j = false) (hj : j < l.length) : risesM l = false := by
  unfold risesM
  rw [List.all_eq_false]
  exact ⟨j, List.mem_range.2 hj, by simp [h]⟩
def idsM (l : List Mg) (j : Nat) : List Int := (l.take j).map (·.id)
theorem ids_succ {l : List Mg} {j : Nat} (h : j < l.length) : idsM l (j + 1) = idsM l j ++ [l[j].id] := by
  unfold idsM
  rw [List.take_succ_eq_append_getElem h, List.map_append]; rfl
theorem ids_len {l : List Mg} (j : Nat) : (idsM l j).length ≤ l.length := by
  unfold idsM; simp; omega
def RiseR (w : World) (l : List Mg) (k : Nat) (i : Value) (wr : World) : Prop :=
  ∃ j, j + k = l.length ∧ i = .int .i64 (j : Int) ∧ (∀ q, q < j → upM l q = true) ∧ Met wr w.heap.size (idsM l j) ∧ Below w.heap.size w wr
set_option maxHeartbeats 2000000 in
theorem rises_m {w : World} {K : Nat → Prop} {A : Option Addr} {n c : Nat} {l : List Mg} (h : Lst w K eM A l) (hl : l.length = n) (hn : n ≤ 10000) (hw : ∀ m ∈ l, Wf m.id) :
    Calls Tryz.prog 194 #[.slice A n c] w fun e w' => e = .returned (.bool (risesM l)) ∧ Below w.heap.size w w' := by
  have H := Lib.hid h
  have HL := Lib.hid hl
  have HW := Lib.hid hw
  have hmm := @run_makeMap Tryz.prog
  clear h hl hw
  go_enter Tryz.func194, Tryz.ntmps194
  go_wp2_with fail
  go_loopg [11] n (fun k i wr => RiseR w l k i wr)
  case atStart => exact ⟨0, by rw [HL.out]; omega, rfl, fun q hq => absurd hq (Nat.not_lt_zero q), met_new w, alloc_below w _⟩
  case round =>
    obtain ⟨j, hj, rfl, hu, hm, hb⟩ := hrel
    have HJ := Lib.hid hj
    have HU := Lib.hid hu
    have HM := Lib.hid hm
    have HB := Lib.hid hb
    clear hj hu hm hb
    by_cases hlt : j < n
    · have hx : j < l.length := by rw [HL.out]; exact hlt
      obtain ⟨b, o, rfl, hb, c0, c1, c2, c3, c4, c5⟩ := (H.out.below HB.out).atM hx
      have hwx := HW.out _ (List.getElem_mem hx)
      have hup : upM l j = (!decide (l[j].id ∈ idsM l j) && (j == 0 || match l[j - 1]? with
          | some p => decide (cmpG p l[j] < 0)
          | none => true)) := by
        unfold upM; rw [List.getElem?_eq_getElem hx]; rfl
      have hids := ids_succ hx
      obtain ⟨x, hxx⟩ : ∃ x, l[j] = x := ⟨_, rfl⟩
      rw [hxx] at c0 c1 c2 c3 c4 c5 hwx hup hids
      obtain ⟨x0, x1, x2, x3, x4, x5⟩ := x
      simp only at c0 c1 c2 c3 c4 c5 hwx
      have HUP := Lib.hid hup
      have HIDS := Lib.hid hids
      have k1 := alloc_below wr (.cells #[.int .i64 x0, .int .i64 x1, .int .i64 x2, .bool x3, .string x4, .string x5] 44)
      have hlk := (HM.out.below k1).look hwx
      clear hup hids hxx
      have hz1 : (wr.alloc (.cells #[.int .i64 x0, .int .i64 x1, .int .i64 x2, .bool x3, .string x4, .string x5] 44)).heap.size = wr.heap.size + 1 := by simp
      have k2 := k1.alloc k1.size (.cells #[] 240)
      have hblk := (Blk.new wr 44 #[.int .i64 x0, .int .i64 x1, .int .i64 x2, .bool x3, .string x4, .string x5]).alloc (.cells #[] 240)
      have K2 := Lib.hid k2
      have BLK := Lib.hid hblk
      by_cases hin : x0 ∈ idsM l j
      · rw [decide_eq_true hin] at hlk
        have hr := up_not (by rw [HUP.out, decide_eq_true hin]; rfl) hx
        have HR := Lib.hid hr
        have HBW := Lib.hid (HB.out.trans (k2.mono HB.out.size))
        clear HUP HIDS hin hr k1 k2 hblk HM HU HJ H HL HW BLK K2 hz1
        go_wp2_with fail
        go_quiet (fail)
        go_wp2_with fail
        go_ret
        exact ⟨by rw [HR.out]; rfl, below_drewN HBW.out _⟩
      · rw [decide_eq_false hin] at hlk
        have hup2 : upM l j = (j == 0 || match l[j - 1]? with
            | some p => decide (cmpG p ⟨x0, x1, x2, x3, x4, x5⟩ < 0)
            | none => true) := by rw [HUP.out, decide_eq_false hin]; rfl
        have hput : ∀ W, Below wr.heap.size wr W → ∃ w', (Instr.mapUpdate 196 (.map (some w.heap.size)) (.int .i64 x0) (.agg #[])).run Tryz.prog W = .ok () w' ∧ Met w' w.heap.size (idsM l (j + 1)) ∧ Below w.heap.size w w' := fun W hW => by
          obtain ⟨w', h1, h2, h3⟩ := (HM.out.below hW).put_ hwx (by have := ids_len (l := l) j; have := HL.out; omega)
          refine ⟨w', h1, by rw [HIDS.out]; exact h2, (HB.out.trans (hW.mono HB.out.size)).grown h3 (Nat.le_trans HB.out.size hW.size) fun g hg => ?_⟩
          injection hg with hg
          omega
        have HPUT := Lib.hid hput
        have HUP2 := Lib.hid hup2
        clear HUP HIDS hin k1 hup2 hput HM
        rcases Nat.eq_zero_or_pos j with hj0 | hj0
        · have hnext : ∀ q, q < j + 1 → upM l q = true := fun q hq => by
            obtain rfl : q = j := by omega
            rw [HUP2.out, hj0]; rfl
          have hg : decide ((0 : Int) < (j : Int)) = false := decide_eq_false (by omega)
          have HG := Lib.hid hg
          clear hg
          have HN := Lib.hid hnext
          obtain ⟨d0, d1, d2, d3, d4, d5⟩ := blk_six (m := ⟨x0, x1, x2, x3, x4, x5⟩) BLK.out
          clear hnext HUP2 HU k2 hblk H HW BLK hz1 hj0
          go_wp2_with fail
          have hg := HG.out
          have hg2 : decide (0 < j) = false := decide_eq_false (by have := of_decide_eq_false hg; omega)
          go_quiet (fail)
          obtain ⟨W3, hup3, hm3, hb3⟩ := HPUT.out _ (below_drewN K2.out nq)
          have HM3 := Lib.hid hm3
          have HB3 := Lib.hid hb3
          clear hm3 hb3 HPUT K2
          go_wp2_with fail
          go_roundg (n - (j + 1))
          case measure => have := HJ.out; have := HL.out; omega
          case rel => exact ⟨j + 1, by have := HL.out; omega, by go_num, HN.out, HM3.out, HB3.out⟩
        · obtain ⟨i, hi⟩ : ∃ i, j = i + 1 := ⟨j - 1, by omega⟩
          have hil : i < l.length := by omega
          have hin : i < n := by omega
          have hin2 : (i : Int) < (n : Int) := by omega
          have hin3 : (i : Int) ≤ (n : Int) := by omega
          have hin0 : (0 : Int) ≤ (i : Int) := by omega
          have hwj : IntKind.i64.wrap ((j : Int) - 1) = (i : Int) := by rw [IntKind.wrap_i64]; omega
          obtain ⟨_, y0', y1', y2', y3', y4', y5'⟩ := (H.out.below (HB.out.trans (k2.mono HB.out.size))).atMs hil
          have hup3 : upM l j = decide (cmpG l[i] ⟨x0, x1, x2, x3, x4, x5⟩ < 0) := by
            rw [HUP2.out, show j - 1 = i by omega, List.getElem?_eq_getElem hil, show (j == 0) = false by simp; omega]; rfl
          obtain ⟨y, hy⟩ : ∃ y, l[i] = y := ⟨_, rfl⟩
          rw [hy] at y0' y1' y2' y3' y4' y5' hup3
          obtain ⟨y0, y1, y2, y3, y4, y5⟩ := y
          simp only at y0' y1' y2' y3' y4' y5'
          have hcall := fun W => msgs_b ⟨y0, y1, y2, y3, y4, y5⟩ ⟨x0, x1, x2, x3, x4, x5⟩ W
          generalize cmpG ⟨y0, y1, y2, y3, y4, y5⟩ ⟨x0, x1, x2, x3, x4, x5⟩ = z at *
          simp only [Mg.val, Mg.cells] at hcall
          have HC := Lib.hid hcall
          have HUP3 := Lib.hid hup3
          obtain ⟨d0, d1, d2, d3, d4, d5⟩ := blk_six (m := ⟨x0, x1, x2, x3, x4, x5⟩) BLK.out
          have hg : decide ((0 : Int) < (j : Int)) = true := decide_eq_true (by omega)
          have hg2 : decide (0 < j) = true := decide_eq_true hj0
          have HG := Lib.hid hg
          have HG2 := Lib.hid hg2
          clear hg hg2
          have HI := Lib.hid hi
          clear hy hup3 hcall HUP2 k2 hblk H HW BLK hz1 hi hj0 hil
          go_wp2_with fail
          have hg := HG.out
          have hg2 := HG2.out
          have HKW := Lib.hid K2.out
          clear K2
          have hdl := block_of_cell d0
          have hyl := block_of_cell y0'
          generalize (wr.alloc (.cells #[.int .i64 x0, .int .i64 x1, .int .i64 x2, .bool x3, .string x4, .string x5] 44)).alloc (.cells #[] 240) = WA at *
          have hS0 : (fun W : World => W.cell? ⟨wr.heap.size, 0, none⟩ = some (.int .i64 x0) ∧ W.cell? ⟨wr.heap.size, 1, none⟩ = some (.int .i64 x1) ∧ W.cell? ⟨wr.heap.size, 2, none⟩ = some (.int .i64 x2) ∧ W.cell? ⟨wr.heap.size, 3, none⟩ = some (.bool x3) ∧ W.cell? ⟨wr.heap.size, 4, none⟩ = some (.string x4) ∧ W.cell? ⟨wr.heap.size, 5, none⟩ = some (.string x5) ∧ W.cell? ⟨b, o + i * 6, none⟩ = some (.int .i64 y0) ∧ W.cell? ⟨b, o + i * 6 + 1, none⟩ = some (.int .i64 y1) ∧ W.cell? ⟨b, o + i * 6 + 2, none⟩ = some (.int .i64 y2) ∧ W.cell? ⟨b, o + i * 6 + 3, none⟩ = some (.bool y3) ∧ W.cell? ⟨b, o + i * 6 + 4, none⟩ = some (.string y4) ∧ W.cell? ⟨b, o + i * 6 + 5, none⟩ = some (.string y5)) WA.drew := ⟨d0, d1, d2, d3, d4, d5, y0', y1', y2', y3', y4', y5'⟩
          by_cases hp : z < 0
          · have hp2 : ¬ 0 ≤ z := by omega
            go_region_held3 (fun W : World => W.cell? ⟨wr.heap.size, 0, none⟩ = some (.int .i64 x0) ∧ W.cell? ⟨wr.heap.size, 1, none⟩ = some (.int .i64 x1) ∧ W.cell? ⟨wr.heap.size, 2, none⟩ = some (.int .i64 x2) ∧ W.cell? ⟨wr.heap.size, 3, none⟩ = some (.bool x3) ∧ W.cell? ⟨wr.heap.size, 4, none⟩ = some (.string x4) ∧ W.cell? ⟨wr.heap.size, 5, none⟩ = some (.string x5) ∧ W.cell? ⟨b, o + i * 6, none⟩ = some (.int .i64 y0) ∧ W.cell? ⟨b, o + i * 6 + 1, none⟩ = some (.int .i64 y1) ∧ W.cell? ⟨b, o + i * 6 + 2, none⟩ = some (.int .i64 y2) ∧ W.cell? ⟨b, o + i * 6 + 3, none⟩ = some (.bool y3) ∧ W.cell? ⟨b, o + i * 6 + 4, none⟩ = some (.string y4) ∧ W.cell? ⟨b, o + i * 6 + 5, none⟩ = some (.string y5))
              (first | exact hS0 | exact hS1)
              (first | (go_at_call 217; refine (HC.out WA.drew).mono ?_; rintro e w1 ⟨rfl, hb3⟩; have HB3 := Lib.hid hb3; have hS1 : (fun W : World => W.cell? ⟨wr.heap.size, 0, none⟩ = some (.int .i64 x0) ∧ W.cell? ⟨wr.heap.size, 1, none⟩ = some (.int .i64 x1) ∧ W.cell? ⟨wr.heap.size, 2, none⟩ = some (.int .i64 x2) ∧ W.cell? ⟨wr.heap.size, 3, none⟩ = some (.bool x3) ∧ W.cell? ⟨wr.heap.size, 4, none⟩ = some (.string x4) ∧ W.cell? ⟨wr.heap.size, 5, none⟩ = some (.string x5) ∧ W.cell? ⟨b, o + i * 6, none⟩ = some (.int .i64 y0) ∧ W.cell? ⟨b, o + i * 6 + 1, none⟩ = some (.int .i64 y1) ∧ W.cell? ⟨b, o + i * 6 + 2, none⟩ = some (.int .i64 y2) ∧ W.cell? ⟨b, o + i * 6 + 3, none⟩ = some (.bool y3) ∧ W.cell? ⟨b, o + i * 6 + 4, none⟩ = some (.string y4) ∧ W.cell? ⟨b, o + i * 6 + 5, none⟩ = some (.string y5)) w1 := ⟨(cell_of_heap (hb3.block _ hdl) _).trans d0, (cell_of_heap (hb3.block _ hdl) _).trans d1, (cell_of_heap (hb3.block _ hdl) _).trans d2, (cell_of_heap (hb3.block _ hdl) _).trans d3, (cell_of_heap (hb3.block _ hdl) _).trans d4, (cell_of_heap (hb3.block _ hdl) _).trans d5, (cell_of_heap (hb3.block _ hyl) _).trans y0', (cell_of_heap (hb3.block _ hyl) _).trans y1', (cell_of_heap (hb3.block _ hyl) _).trans y2', (cell_of_heap (hb3.block _ hyl) _).trans y3', (cell_of_heap (hb3.block _ hyl) _).trans y4', (cell_of_heap (hb3.block _ hyl) _).trans y5'⟩; clear hb3))
            have hK3 := HKW.out.trans ((Below.refl _ WA).drew.trans HB3.out |>.mono HKW.out.size)
            obtain ⟨W3, hup3, hm3, hb4⟩ := HPUT.out _ hK3
            have hnext : ∀ q, q < j + 1 → upM l q = true := fun q hq => by
              rcases Nat.lt_or_ge q j with h5 | h5
              · exact HU.out q h5
              · obtain rfl : q = j := by omega
                rw [HUP3.out]; exact decide_eq_true hp
            have HN := Lib.hid hnext
            have HM3 := Lib.hid hm3
            have HB4 := Lib.hid hb4
            have e0 := hS1.1
            clear hnext hm3 hb4 hK3 hS1 hS0 HPUT HUP3
            go_wp2_with fail
            go_roundg (n - (j + 1))
            case measure => have := HJ.out; have := HL.out; omega
            case rel => exact ⟨j + 1, by have := HL.out; omega, by go_num, HN.out, HM3.out, HB4.out⟩
          · have hp2 : 0 ≤ z := by omega
            have hr := up_not (l := l) (j := j) (by rw [HUP3.out]; exact decide_eq_false hp) (by rw [HL.out]; exact hlt)
            have HR := Lib.hid hr
            clear hr HUP3
            go_region_held3 (fun W : World => W.cell? ⟨wr.heap.size, 0, none⟩ = some (.int .i64 x0) ∧ W.cell? ⟨wr.heap.size, 1, none⟩ = some (.int .i64 x1) ∧ W.cell? ⟨wr.heap.size, 2, none⟩ = some (.int .i64 x2) ∧ W.cell? ⟨wr.heap.size, 3, none⟩ = some (.bool x3) ∧ W.cell? ⟨wr.heap.size, 4, none⟩ = some (.string x4) ∧ W.cell? ⟨wr.heap.size, 5, none⟩ = some (.string x5) ∧ W.cell? ⟨b, o + i * 6, none⟩ = some (.int .i64 y0) ∧ W.cell? ⟨b, o + i * 6 + 1, none⟩ = some (.int .i64 y1) ∧ W.cell? ⟨b, o + i * 6 + 2, none⟩ = some (.int .i64 y2) ∧ W.cell? ⟨b, o + i * 6 + 3, none⟩ = some (.bool y3) ∧ W.cell? ⟨b, o + i * 6 + 4, none⟩ = some (.string y4) ∧ W.cell? ⟨b, o + i * 6 + 5, none⟩ = some (.string y5))
              (first | exact hS0 | exact hS1)
              (first | (go_at_call 217; refine (HC.out WA.drew).mono ?_; rintro e w1 ⟨rfl, hb3⟩; have HB3 := Lib.hid hb3; have hS1 : (fun W : World => W.cell? ⟨wr.heap.size, 0, none⟩ = some (.int .i64 x0) ∧ W.cell? ⟨wr.heap.size, 1, none⟩ = some (.int .i64 x1) ∧ W.cell? ⟨wr.heap.size, 2, none⟩ = some (.int .i64 x2) ∧ W.cell? ⟨wr.heap.size, 3, none⟩ = some (.bool x3) ∧ W.cell? ⟨wr.heap.size, 4, none⟩ = some (.string x4) ∧ W.cell? ⟨wr.heap.size, 5, none⟩ = some (.string x5) ∧ W.cell? ⟨b, o + i * 6, none⟩ = some (.int .i64 y0) ∧ W.cell? ⟨b, o + i * 6 + 1, none⟩ = some (.int .i64 y1) ∧ W.cell? ⟨b, o + i * 6 + 2, none⟩ = some (.int .i64 y2) ∧ W.cell? ⟨b, o + i * 6 + 3, none⟩ = some (.bool y3) ∧ W.cell? ⟨b, o + i * 6 + 4, none⟩ = some (.string y4) ∧ W.cell? ⟨b, o + i * 6 + 5, none⟩ = some (.string y5)) w1 := ⟨(cell_of_heap (hb3.block _ hdl) _).trans d0, (cell_of_heap (hb3.block _ hdl) _).trans d1, (cell_of_heap (hb3.block _ hdl) _).trans d2, (cell_of_heap (hb3.block _ hdl) _).trans d3, (cell_of_heap (hb3.block _ hdl) _).trans d4, (cell_of_heap (hb3.block _ hdl) _).trans d5, (cell_of_heap (hb3.block _ hyl) _).trans y0', (cell_of_heap (hb3.block _ hyl) _).trans y1', (cell_of_heap (hb3.block _ hyl) _).trans y2', (cell_of_heap (hb3.block _ hyl) _).trans y3', (cell_of_heap (hb3.block _ hyl) _).trans y4', (cell_of_heap (hb3.block _ hyl) _).trans y5'⟩; clear hb3))
            have hK3 := HKW.out.trans ((Below.refl _ WA).drew.trans HB3.out |>.mono HKW.out.size)
            have HBZ := Lib.hid (HB.out.trans (hK3.mono HB.out.size))
            clear hK3 hS1 hS0
            go_wp2_with fail
            go_ret
            exact ⟨by rw [HR.out]; rfl, HBZ.out⟩
    · have he : l.length ≤ j := by have := HL.out; omega
      have e1 := up_all HU.out he
      have E1 := Lib.hid e1
      clear e1 he
      go_wp2_with fail
      go_ret
      exact ⟨by rw [E1.out]; rfl, HB.out⟩
end Go.Proofs.YtjfoflbaoceemaaGreat
namespace Go.Proofs.YtjfoflbaoceemaaGreat
open Go.RowKit
def eEf : Enc Ef := ⟨fun e => [.int .i64 e.kind, .string e.obj, .string e.key, .string e.val, .int .i64 e.n, .int .i64 e.limit, .bool e.tried, .int .i64 e.msg.id, .int .i64 e.msg.pri, .int .i64 e.msg.retry, .bool e.msg.claimed, .string e.msg.corr, .string e.msg.body], 13, by omega, fun _ => rfl,
  fun _ v hv => by simp at hv; rcases hv with rfl | rfl | rfl | rfl | rfl | rfl | rfl | rfl | rfl | rfl | rfl | rfl | rfl <;> rfl⟩
abbrev Cells13 (b o : Nat) (e : Ef) (w : World) : Prop :=
  w.cell? ⟨b, o, none⟩ = some (.int .i64 e.kind) ∧ w.cell? ⟨b, o + 1, none⟩ = some (.string e.obj) ∧ w.cell? ⟨b, o + 2, none⟩ = some (.string e.key) ∧ w.cell? ⟨b, o + 3, none⟩ = some (.string e.val) ∧ w.cell? ⟨b, o + 4, none⟩ = some (.int .i64 e.n) ∧
  w.cell? ⟨b, o + 5, none⟩ = some (.int .i64 e.limit) ∧ w.cell? ⟨b, o + 6, none⟩ = some (.bool e.tried) ∧ w.cell? ⟨b, o + 7, none⟩ = some (.int .i64 e.msg.id) ∧ w.cell? ⟨b, o + 8, none⟩ = some (.int .i64 e.msg.pri) ∧ w.cell? ⟨b, o + 9, none⟩ = some (.int .i64 e.msg.retry) ∧
  w.cell? ⟨b, o + 10, none⟩ = some (.bool e.msg.claimed) ∧ w.cell? ⟨b, o + 11, none⟩ = some (.string e.msg.corr) ∧ w.cell? ⟨b, o + 12, none⟩ = some (.string e.msg.body)
theorem Lst.atEf {w : World} {K : Nat → Prop} {A : Option Addr} {l : List Ef} (h : Lst w K eEf A l) {j : Nat} (hj : j < l.length) :
    ∃ b o, A = some ⟨b, o, none⟩ ∧ b < w.heap.size ∧ Cells13 b (o + j * 13) l[j] w := by
  obtain ⟨b, o, e, hl, hc⟩ := h.at_ hj
  exact ⟨b, o, e, hl, hc 0 _ rfl, hc 1 _ rfl, hc 2 _ rfl, hc 3 _ rfl, hc 4 _ rfl, hc 5 _ rfl, hc 6 _ rfl, hc 7 _ rfl, hc 8 _ rfl, hc 9 _ rfl, hc 10 _ rfl, hc 11 _ rfl, hc 12 _ rfl⟩
abbrev Thir (g : Nat) (e : Ef) (w : World) : Prop :=
  w.cell? ⟨g, 0, none⟩ = some (.int .i64 e.kind) ∧ w.cell? ⟨g, 1, none⟩ = some (.string e.obj) ∧ w.cell? ⟨g, 2, none⟩ = some (.string e.key) ∧ w.cell? ⟨g, 3, none⟩ = some (.string e.val) ∧ w.cell? ⟨g, 4, none⟩ = some (.int .i64 e.n) ∧
  w.cell? ⟨g, 5, none⟩ = some (.int .i64 e.limit) ∧ w.cell? ⟨g, 6, none⟩ = some (.bool e.tried) ∧ w.cell? ⟨g, 7, none⟩ = some (.int .i64 e.msg.id) ∧ w.cell? ⟨g, 8, none⟩ = some (.int .i64 e.msg.pri) ∧ w.cell? ⟨g, 9, none⟩ = some (.int .i64 e.msg.retry) ∧
  w.cell? ⟨g, 10, none⟩ = some (.bool e.msg.claimed) ∧ w.cell? ⟨g, 11, none⟩ = some (.string e.msg.corr) ∧ w.cell? ⟨g, 12, none⟩ = some (.string e.msg.body)
theorem thir_of {w : World} {g : Nat} {e : Ef} (h : Blk w g 46 e.cells) : Thir g e w := ⟨h.cell 0, h.cell 1, h.cell 2, h.cell 3, h.cell 4, h.cell 5, h.cell 6, h.cell 7, h.cell 8, h.cell 9, h.cell 10, h.cell 11, h.cell 12⟩
end Go.Proofs.YtjfoflbaoceemaaGreat
