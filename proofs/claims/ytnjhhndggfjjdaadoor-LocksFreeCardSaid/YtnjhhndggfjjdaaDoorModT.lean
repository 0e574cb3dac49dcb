/- The table of modes, out of what the row lists. -/
import Derived.Test.YtnjhhndggfjjdaaDoorRows
import Derived.Test.YtnjhhndggfjjdaaDoorModM
import Derived.ProofKit
import Derived.LaidMore
import Derived.OpenShut
import Derived.Stop.Joined
import Derived.MakeChecks
set_option maxRecDepth 4000
namespace Go.Proofs.YtnjhhndggfjjdaaDoor
open Go.ChangeShapes Go.WideShapes Go.ChangeAt Go.RowKit
theorem drop_take {cs : List Value} {i m : Nat} {x : Value} (h : (cs.drop i).take m = [x]) (hm : 0 < m) : cs[i]? = some x := by
  have := congrArg (·[0]?) h
  simpa [List.getElem?_take, List.getElem?_drop, hm] using this
/-- an array of structs of two numbers that reads as these numbers holds them, cell for cell -/
theorem cells_of_pairs {H : Type} {enc : TypeId × Value → H} {P : Program} {w : World} {base : Nat} {sp : Nat → Bool} {held : Bool} {fuel : Nat} {t e ti : TypeId} {n : Nat} {k : IntKind} {f0 f1 : Field} {cs : List Value} {zs : List (Int × Int)} {p : List MemPlace}
    (ht : P.underlying t = some (.array n e)) (he : P.underlying e = some (.struct #[f0, f1])) (hi : P.underlying ti = some (.int k)) (h0 : f0.type = ti) (h1 : f1.type = ti) (o0 : f0.offset = 0) (o1 : f1.offset = 1) (hce : P.cellsOf e = 2) (hci : P.cellsOf ti = 1)
    (h : DataW.trod enc P w base sp held fuel t cs = some (.agg (zs.map fun z => .agg [.lit (.int k z.1), .lit (.int k z.2)]), p)) :
    ∀ (i : Nat) (z : Int × Int), zs[i]? = some z → cs[i * 2]? = some (.int k z.1) ∧ cs[i * 2 + 1]? = some (.int k z.2) := by
  obtain ⟨xs, m, rfl, hx, hlen, hn, hel⟩ := DataW.trod_array ht h
  intro i z hz
  simp only [Prod.mk.injEq, DataW.agg.injEq] at hx
  have hil : i < zs.length := by
    rcases Nat.lt_or_ge i zs.length with h | h
    · exact h
    · rw [List.getElem?_eq_none h] at hz; cases hz
  have hxl : xs.length = zs.length := by
    have := congrArg List.length hx.1
    simpa using this.symm
  have hx1 : xs[i]?.map (·.1) = some (.agg [.lit (.int k z.1), .lit (.int k z.2)]) := by
    have := congrArg (·[i]?) hx.1
    simp only [List.getElem?_map, hz, Option.map_some] at this
    exact this.symm
  have h2 := hel i (by omega)
  rw [List.getElem?_eq_getElem (by omega)] at h2 hx1
  rw [hce] at h2
  obtain ⟨y0, y1, m2, e2, hl2, d0, d1⟩ := trod_struct2 he h2
  rw [h0, hci] at d0
  rw [h1, hci] at d1
  obtain ⟨a0, c0, rfl, _⟩ := DataW.trod_int hi d0
  obtain ⟨a1, c1, rfl, _⟩ := DataW.trod_int hi d1
  rw [e2] at hx1
  simp only [Option.map_some, Option.some.injEq, DataW.agg.injEq, List.cons.injEq, DataW.lit.injEq, Lit.int.injEq, true_and, and_true] at hx1
  obtain ⟨rfl, rfl⟩ := hx1
  have g0 := drop_take c0 (by omega)
  have g1 := drop_take c1 (by omega)
  rw [o0] at g0
  rw [o1] at g1
  simp only [List.getElem?_take, List.getElem?_drop] at g0 g1
  exact ⟨by simpa using g0, by simpa using g1⟩
theorem gModes : Tryd.prog.globalNamed "poste/modes.modes" = some 0 := by kernel_rfl
theorem tModes : (Tryd.prog.globals[0]?).map (·.type) = some 96 := by kernel_rfl
theorem tab_of_laid {W : World} {rest : List (String × DataW Unit)} (hr : (rest.all fun x => x.2.handleName?.isNone) = true) (h : laidMetH Tryd.prog (("poste/modes.modes", Rows.laid_poste_modes_modes) :: rest) W) : Tab W := by
  rw [MakeChecks.laidMetH_plain _ _ _ (by simp only [List.all_cons, hr, Bool.and_true]; kernel_rfl)] at h
  obtain ⟨ps, ⟨g0, t0, cs0, f0, p0, q0, hg0, ht0, hv0, hd0, _⟩, _⟩ := h
  obtain rfl := Option.some.inj (gModes.symm.trans hg0)
  obtain rfl := Option.some.inj (tModes.symm.trans ht0)
  have hd : DataW.trod _ Tryd.prog W 0 _ false f0 96 cs0.toList = some (.agg ([(0, 0), (1, 8), (3, 12), (5, 10), (7, 14), (15, 15)].map fun z : Int × Int => .agg [.lit (.int .i64 z.1), .lit (.int .i64 z.2)]), p0) := hd0
  have hc := cells_of_pairs Tryd.underlying96 Tryd.underlying95 Tryd.underlying3 rfl rfl rfl rfl (by kernel_rfl) (by kernel_rfl) hd
  intro p hp
  have hcell := fun i => World.var?_cell hg0 hv0 i
  have key : ∀ z : Int × Int, [(0, 0), (1, 8), (3, 12), (5, 10), (7, 14), (15, 15)][p]? = some z → W.cell? ⟨0, p * 2, none⟩ = some (.int .i64 z.1) ∧ W.cell? ⟨0, p * 2 + 1, none⟩ = some (.int .i64 z.2) := fun z hz => by
    obtain ⟨h1, h2⟩ := hc p z hz
    exact ⟨by rw [hcell, ← Array.getElem?_toList]; exact h1, by rw [hcell, ← Array.getElem?_toList]; exact h2⟩
  match p, hp with
  | 0, _ => exact key _ rfl
  | 1, _ => exact key _ rfl
  | 2, _ => exact key _ rfl
  | 3, _ => exact key _ rfl
  | 4, _ => exact key _ rfl
  | 5, _ => exact key _ rfl
end Go.Proofs.YtnjhhndggfjjdaaDoor
