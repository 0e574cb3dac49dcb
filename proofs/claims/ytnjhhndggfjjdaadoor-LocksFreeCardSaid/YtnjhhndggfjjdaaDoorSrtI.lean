/- Numbers sorted in the row's own memory. -/
import Derived.Test.YtnjhhndggfjjdaaDoorEnc
import Derived.Sort.OwnSortedInts
import Derived.Lib.RowBridge
set_option maxRecDepth 4000
namespace Go.Proofs.YtnjhhndggfjjdaaDoor
open Go.RowKit Go.Sort
theorem cellsI (l : List Int) : cellsE eI l = l.map (Value.int .i64) := by
  induction l with
  | nil => rfl
  | cons x r ih => rw [cellsE, ih]; rfl
def sortedI (zs : List Int) : List Int := zs.mergeSort fun x y => decide (x ≤ y)
theorem sortedI_length (zs : List Int) : (sortedI zs).length = zs.length := List.length_mergeSort _
/-- numbers sorted, and each kept once, in the row's own memory -/
theorem own_sorted {w : World} {base g cap : Nat} {zs : List Int} (h : Own w base eI 3 (.slice (some ⟨g, 0, none⟩) zs.length cap) zs) (n : Nat) (os : Array Obj) :
    Own (grow (putRow (Value.int .i64) (Sort.ahead w n) g 0 (sortedI zs).toArray) os) base eI 3 (.slice (some ⟨g, 0, none⟩) zs.length cap) (sortedI zs) ∧ Below base w (grow (putRow (Value.int .i64) (Sort.ahead w n) g 0 (sortedI zs).toArray) os) := by
  rcases h.2 with ⟨e, _⟩ | ⟨g', cap', cur, e, hb, hh, hn, hm, hs, _⟩
  · cases e
  injection e with e1 _ e3
  injection e1 with e1
  injection e1 with e1 _ _
  subst e1 e3
  have h1 := ownsRow_sortedI (os := os) (n := n) (ss := zs) (ts := sortedI zs) (sortedI_length zs) hb hh hn hm (by rw [hs]; rfl)
  refine ⟨?_, (grownBy_sortedI (n := n) (os := os) (sortedI zs).toArray).os, rfl, rfl, (grownBy_sortedI (w := w) (g := g) (n := n) (os := os) (sortedI zs).toArray).size, fun k hk => ?_⟩
  · unfold Own
    rw [cellsI, sortedI_length]
    exact h1
  · exact (grownBy_sortedI (w := w) (n := n) (os := os) (sortedI zs).toArray).block k (by have := lt_of_some hh; omega) (fun e => by injection e with e; omega)
theorem own_holds {w : World} {base g cap : Nat} {zs : List Int} (h : Own w base eI 3 (.slice (some ⟨g, 0, none⟩) zs.length cap) zs) : Holds (Value.int .i64) w g 0 zs.toArray ∧ g < w.heap.size ∧ zs.length ≤ cap := by
  rcases h.2 with ⟨e, _⟩ | ⟨g', cap', cur, e, hb, hh, hn, hm, hs, htk⟩
  · cases e
  injection e with e1 _ e3
  injection e1 with e1
  injection e1 with e1 _ _
  subst e1 e3
  rw [cellsI] at htk
  exact ⟨holds_of_blockI hh (by rw [← htk]; simp [eI]), lt_of_some hh, hn⟩
end Go.Proofs.YtnjhhndggfjjdaaDoor
