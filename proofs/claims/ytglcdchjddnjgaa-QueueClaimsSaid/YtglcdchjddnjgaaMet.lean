/- A set of numbers: a map from numbers to nothing. -/
import Derived.Test.YtglcdchjddnjgaaProg
import Derived.Test.YtglcdchjddnjgaaKeep
import Derived.WalkKit
import Derived.ProofKit
import Derived.Maps.GroupsBeside
import Derived.Maps.RangeWalk
set_option maxRecDepth 4000
namespace Go.Proofs.Ytglcdchjddnjgaa
open Go.RowKit Go.Maps Go.MapKept Go.ChangeShapes
open Go.WideElems (Fit)
theorem lawI : Keyed Try.prog 3 := int_keyed Try.underlying3
theorem zeroU (w : World) : (zeroValue 43).run Try.prog w = .ok (.agg #[]) w := by kernel_rfl
def Wf (x : Int) : Prop := (Lit.int .i64 x).wf = true
theorem keyI {x : Int} (h : Wf x) : keyOf Try.prog 3 (.int .i64 x) = some (.int .i64 x) := keyOf_int_mk Try.underlying3 h
theorem grown_of_below {w w' : World} (h : Below w.heap.size w w') : w.grownBy w' none := ⟨h.os, h.tape, h.output, h.size, fun i hi _ => h.block i hi⟩
/-- a set of numbers at block b -/
def Met (w : World) (b : Nat) (ms : List Int) : Prop := w.ownsMap (H := Unit) Try.prog 3 unitElem b ms.length (setOf (.agg []) (ms.map (Lit.int .i64)))
section
variable {w w' : World} {b : Nat} {ms : List Int} {x : Int}
theorem met_keys (ms : List Int) : ∀ y ∈ ms.map (Lit.int .i64), WideAt.IsKeyLit y := fun y hy => by
  obtain ⟨z, _, rfl⟩ := List.mem_map.1 hy
  exact trivial
theorem met_has (ms : List Int) (x : Int) : Maps.has (setOf (H := Unit) (.agg []) (ms.map (Lit.int .i64))) (.int .i64 x) = decide (x ∈ ms) := by
  rw [has_setOf _ _ _ (met_keys ms), Bool.eq_iff_iff, List.any_eq_true, decide_eq_true_iff]
  constructor
  · rintro ⟨y, hy, e⟩
    obtain ⟨z, hz, rfl⟩ := List.mem_map.1 hy
    simp [Lit.sameKey] at e
    exact e ▸ hz
  · exact fun h => ⟨_, List.mem_map.2 ⟨x, h, rfl⟩, by simp [Lit.sameKey]⟩
theorem Met.lt (h : Met w b ms) : b < w.heap.size := World.ownsMap.lt h
theorem Met.kept {row : Option Nat} (h : Met w b ms) (hg : w.grownBy w' row) (hne : some b ≠ row) : Met w' b ms := World.ownsMap.kept h hg hne
theorem Met.below (h : Met w b ms) (k : Below w.heap.size w w') : Met w' b ms := h.kept (grown_of_below k) (by simp)
theorem Met.put_ (h : Met w b ms) (hx : Wf x) (hl : ms.length ≤ 100000) : ∃ w', (Instr.mapUpdate 42 (.map (some b)) (.int .i64 x) (.agg #[])).run Try.prog w = .ok () w' ∧ Met w' b (ms ++ [x]) ∧ w.grownBy w' (some b) := by
  obtain ⟨w', h1, h2, h3⟩ := World.ownsMap.update h lawI Try.underlying42 (by unfold maxLen; omega) (keyI hx) (val := .agg #[]) (unitElem_mk (H := Unit))
  refine ⟨w', h1, ?_, h3⟩
  unfold Met
  rw [List.map_append, List.length_append]
  show w'.ownsMap _ _ _ _ _ (setOf _ (_ ++ [Lit.int .i64 x]))
  rw [setOf_snoc]
  exact h2
theorem Met.look (h : Met w b ms) (hx : Wf x) : (Instr.lookup 42 (.map (some b)) (.int .i64 x) true).run Try.prog w = .ok (.tuple #[.agg #[], .bool (decide (x ∈ ms))]) w := by
  obtain ⟨v, ps, h1, h2⟩ := World.ownsMap.look_ok h lawI Try.underlying42 (zeroU w) (zd := .agg []) (zp := []) unitElem_mk (keyI hx)
  obtain ⟨rfl, _⟩ := unitElem_inv h2
  rw [h1, met_has]
theorem met_new (w : World) : Met (w.alloc (.map #[] 0)) w.heap.size [] := World.ownsMap_made w _ _ _
end
end Go.Proofs.Ytglcdchjddnjgaa
