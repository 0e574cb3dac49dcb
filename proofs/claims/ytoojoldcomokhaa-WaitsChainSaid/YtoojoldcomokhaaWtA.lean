/- Package waits' graph: a new one; edges taken in. -/
import Derived.Test.YtoojoldcomokhaaWtN
import Derived.Deep.RegionHeld3
set_option maxRecDepth 4000
namespace Go.Proofs.Ytoojoldcomokhaa
open Go.RowKit Go.Maps
/-- how an edge lies -/
def eE : Enc (Int × Int) := ⟨fun e => [.int .i64 e.1, .int .i64 e.2], 2, by omega, fun _ => rfl, fun _ v hv => by simp at hv; rcases hv with rfl | rfl <;> rfl⟩
theorem tyE : RowTy eE 30 22 := ⟨Try.underlying22, .agg #[.int .i64 0, .int .i64 0], 16, by kernel_rfl, rfl, by omega⟩
theorem Lst.atE {w : World} {K : Nat → Prop} {A : Option Addr} {l : List (Int × Int)} (h : Lst w K eE A l) {j : Nat} (hj : j < l.length) :
    ∃ b o, A = some ⟨b, o, none⟩ ∧ b < w.heap.size ∧ w.cell? ⟨b, o + j * 2, none⟩ = some (.int .i64 l[j].1) ∧ w.cell? ⟨b, o + j * 2 + 1, none⟩ = some (.int .i64 l[j].2) := by
  obtain ⟨b, o, e, hl, hc⟩ := h.at_ hj
  exact ⟨b, o, e, hl, hc 0 _ rfl, hc 1 _ rfl⟩
theorem new_graph (w : World) : Calls Try.prog 12 #[] w fun e w' => ∃ b1 b2, e = .returned (.agg #[.map (some b1), .map (some b2)]) ∧ w.heap.size ≤ b1 ∧ w.heap.size ≤ b2 ∧ Graph w' b1 b2 w'.heap.size [] [] ∧ Below w.heap.size w w' := by
  have hmm := @run_makeMap Try.prog
  go_enter Try.func12, Try.ntmps12
  go_wp2_with fail
  have e1 : (w.alloc (.cells #[.map (some (w.heap.size + 1)), .map (some (w.heap.size + 1 + 1))] 35)).heap.size = w.heap.size + 1 := by simp
  generalize hw0 : w.alloc (.cells #[.map (some (w.heap.size + 1)), .map (some (w.heap.size + 1 + 1))] 35) = w0 at *
  have hb0 : Below w.heap.size w w0 := hw0 ▸ alloc_below w _
  have k0 : Blk w0 w.heap.size 35 #[.map (some (w.heap.size + 1)), .map (some (w.heap.size + 1 + 1))] := hw0 ▸ Blk.new w _ _
  have k2 := (k0.alloc (.map #[] 0)).alloc (.map #[] 0)
  have c0 := k2.cell 0
  have c1 := k2.cell 1
  have m1 : (w0.alloc (.map #[] 0)).heap[w.heap.size + 1]? = some (.map #[] 0) := by rw [← e1]; exact (MapKept.heap_alloc w0 _).1
  have e2 : (w0.alloc (.map #[] 0)).heap.size = w.heap.size + 1 + 1 := by simp [e1]
  have m2 : ((w0.alloc (.map #[] 0)).alloc (.map #[] 0)).heap[w.heap.size + 1 + 1]? = some (.map #[] 0) := by rw [← e2]; exact (MapKept.heap_alloc (w0.alloc (.map #[] 0)) _).1
  have m1' : ((w0.alloc (.map #[] 0)).alloc (.map #[] 0)).heap[w.heap.size + 1]? = some (.map #[] 0) := ((alloc_below (w0.alloc (.map #[] 0)) (.map #[] 0)).block (w.heap.size + 1) (by omega)).trans m1
  have e3 : ((w0.alloc (.map #[] 0)).alloc (.map #[] 0)).heap.size = w.heap.size + 1 + 1 + 1 := by simp [e1]
  refine bodyPost_ret (v := .agg #[.map (some (w.heap.size + 1)), .map (some (w.heap.size + 1 + 1))]) ?_ rfl ⟨_, _, rfl, by omega, by omega, ?_, (hb0.alloc hb0.size _).alloc (by omega) _⟩
  · simp [results, Try.results12, go_sem, c0, c1]
  · exact graph_new m1' m2 (by omega) (by omega) (by omega) (Nat.le_refl _)
end Go.Proofs.Ytoojoldcomokhaa
