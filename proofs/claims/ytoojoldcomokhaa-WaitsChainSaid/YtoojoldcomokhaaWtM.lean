/- A graph in memory: two maps, from each one to those at the other end of its edges; sets of numbers. -/
import Derived.Test.YtoojoldcomokhaaWtP
import Derived.Test.YtoojoldcomokhaaSrtI
import Derived.Maps.GroupsBeside
import Derived.Maps.RangeWalk
set_option maxRecDepth 4000
namespace Go.Proofs.Ytoojoldcomokhaa
open Go.RowKit Go.Maps Go.MapKept Go.ChangeShapes
open Go.WideElems (Fit)
theorem lawI : Keyed Try.prog 3 := int_keyed Try.underlying3
theorem zeroS (w : World) : (zeroValue 27).run Try.prog w = .ok (.slice none 0 0) w := by kernel_rfl
theorem zeroU (w : World) : (zeroValue 40).run Try.prog w = .ok (.agg #[]) w := by kernel_rfl
def Wf (x : Int) : Prop := (Lit.int .i64 x).wf = true
theorem keyI {x : Int} (h : Wf x) : keyOf Try.prog 3 (.int .i64 x) = some (.int .i64 x) := keyOf_int_mk Try.underlying3 h
/-- what a map answers at a key is the same wherever its block is the same -/
theorem look_same {P : Program} {H : Type} {k t e : TypeId} {R : Value → Option (DataW H × List MemPlace)} (K : Keyed P k) (ht : P.underlying t = some (.map k e)) {z : Value} (hz : ∀ W, (zeroValue e).run P W = .ok z W) {b : Nat} {es : Array MapEntry} {clock : Nat} (F : Fit P k R es clock) {key : Value} {kl : Lit} (hkey : keyOf P k key = some kl)
    {w : World} (hb : w.heap[b]? = some (.map es clock)) {v : Value} (hv : (Instr.lookup t (.map (some b)) key false).run P w = .ok v w) {W : World} (hW : W.heap[b]? = some (.map es clock)) : (Instr.lookup t (.map (some b)) key false).run P W = .ok v W := by
  have hst := (stamped_iff es clock).1 F.stamped
  rcases Maps.fit_look false K ht (hz w) hb F hkey with ⟨h1, n1, _⟩ | ⟨e0, _, m1, k1, h1, _⟩ <;> rcases Maps.fit_look false K ht (hz W) hW F hkey with ⟨h2, n2, _⟩ | ⟨e1, _, m2, k2, h2, _⟩
  · rw [h1] at hv
    obtain rfl : z = v := by simpa using hv
    exact h2
  · exact absurd k2 (n1 e1 m2)
  · exact absurd k1 (n2 e0 m1)
  · obtain rfl := entry_eq_of_key hst.2.2 m1 m2 (k1.trans k2.symm)
    rw [h1] at hv
    obtain rfl : e0.val = v := by simpa using hv
    exact h2
def itemsD : DataW Unit → List (DataW Unit)
  | .slice es _ => es
  | _ => []
theorem itemsD_row {w : World} {base : Nat} {e : TypeId} {v : Value} {zs : List Int} (h : w.ownsInts base e .i64 v zs) : itemsD (rowDatum .i64 v zs) = lits .i64 zs := by
  rcases h.datum (H := Unit) with ⟨h1, rfl⟩ | h1 <;> rw [h1] <;> rfl
theorem lits_inj {xs ys : List Int} (h : lits (H := Unit) .i64 xs = lits .i64 ys) : xs = ys := by
  unfold lits at h
  exact (List.map_inj_right (fun a b hab => by injection hab with hab; injection hab)).1 h
def AdjD (D : DataW Unit) (l : List (Int × Int)) : Prop := ∀ x, Wf x → itemsD (D.atKey (.int .i64 x) .nil) = lits .i64 (succs l x)
/-- the map at block b has, of each one, those at the other end of its edges, in rows from base on -/
def Adj (w : World) (b base : Nat) (l : List (Int × Int)) : Prop := ∃ D, w.ownsGroups (H := Unit) Try.prog 3 base 3 .i64 b l.length D ∧ AdjD D l
section
variable {w w' : World} {b base : Nat} {l : List (Int × Int)}
theorem Adj.kept {row : Option Nat} (h : Adj w b base l) (hg : w.grownBy w' row) (hb : some b ≠ row) (hrow : ∀ es clock, w.heap[b]? = some (.map es clock) → ∀ x ∈ es.toList, x.val.ownBlock = none ∨ x.val.ownBlock ≠ row) : Adj w' b base l := by
  obtain ⟨D, h1, h2⟩ := h
  exact ⟨D, h1.kept hg hb hrow, h2⟩
theorem grown_of_below (h : Below w.heap.size w w') : w.grownBy w' none := ⟨h.os, h.tape, h.output, h.size, fun i hi _ => h.block i hi⟩
theorem Adj.below (h : Adj w b base l) (k : Below w.heap.size w w') : Adj w' b base l := h.kept (grown_of_below k) (by simp) fun _ _ _ x _ => by
  cases x.val.ownBlock with
  | none => exact .inl rfl
  | some g => exact .inr (by simp)
theorem Adj.lt (h : Adj w b base l) : b < w.heap.size := by
  obtain ⟨_, ⟨_, _, h, _⟩, _⟩ := h
  exact lt_of_some h
theorem own_of_ints {v : Value} {zs : List Int} (h : w.ownsInts base 3 .i64 v zs) : Own w base eI 3 v zs := by
  unfold Own
  rw [cellsI]
  exact h.1
end
end Go.Proofs.Ytoojoldcomokhaa
