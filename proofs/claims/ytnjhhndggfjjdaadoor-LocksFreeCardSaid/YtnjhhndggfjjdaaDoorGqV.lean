/- Package grant's Waits. -/
import Derived.Test.YtnjhhndggfjjdaaDoorGqH
import Derived.Test.YtnjhhndggfjjdaaDoorGrS
import Derived.Test.YtnjhhndggfjjdaaDoorSrtI
import Derived.Sort.OwnSortedInts
import Derived.Lib.RowBridge
set_option maxRecDepth 4000
namespace Go.Proofs.YtnjhhndggfjjdaaDoor
open Go.RowKit Go.Sort
def uniqI (zs : List Int) : List Int := Lib.compact (sortedI zs)
def waitsP (s : Lk) (who : Int) : List Int := if h : s.2.findIdx (isW who) < s.2.length then uniqI (rawP s s.2[s.2.findIdx (isW who)] (s.2.findIdx (isW who))) else []
theorem own_compact {w : World} {base g cap : Nat} {zs : List Int} (h : Own w base eI 3 (.slice (some ⟨g, 0, none⟩) zs.length cap) zs) (q : Nat) :
    Own (putRow (Value.int .i64) (Sort.ahead w q) g 0 (Lib.compact zs ++ List.replicate (zs.length - (Lib.compact zs).length) 0).toArray) base eI 3 (.slice (some ⟨g, 0, none⟩) (Lib.compact zs).length cap) (Lib.compact zs) ∧
      Below base w (putRow (Value.int .i64) (Sort.ahead w q) g 0 (Lib.compact zs ++ List.replicate (zs.length - (Lib.compact zs).length) 0).toArray) := by
  rcases h.2 with ⟨e, _⟩ | ⟨g', cap', cur, e, hb, hh, hn, hm, hs, _⟩
  · cases e
  injection e with e1 _ e3
  injection e1 with e1
  injection e1 with e1 _ _
  subst e1 e3
  have hle := Lib.compact_length_le zs
  have hheap := heap_sortedI (n := q) (os := #[]) (Lib.compact zs ++ List.replicate (zs.length - (Lib.compact zs).length) 0).toArray hh
  rw [grow_empty] at hheap
  have hcs : cur.size = cap * 1 := hs
  have hlen : (Lib.compact zs ++ List.replicate (zs.length - (Lib.compact zs).length) 0).length = zs.length := by
    rw [List.length_append, List.length_replicate]; omega
  have htk := take_putCellsI cur (Lib.compact zs ++ List.replicate (zs.length - (Lib.compact zs).length) 0) (by rw [hlen]; omega)
  have hgb := grownBy_sortedI (w := w) (g := g) (n := q) (os := #[]) (Lib.compact zs ++ List.replicate (zs.length - (Lib.compact zs).length) 0).toArray
  rw [grow_empty] at hgb
  refine ⟨⟨by rw [cellsE_length], .inr ⟨g, cap, _, rfl, hb, hheap, by omega, hm, by simp [putCells, hs], ?_⟩⟩, hgb.os, hgb.tape, hgb.output, hgb.size, fun k hk => ?_⟩
  · rw [cellsI]
    have : (putCells (Value.int .i64) 0 (Lib.compact zs ++ List.replicate (zs.length - (Lib.compact zs).length) 0).toArray cur).toList.take ((Lib.compact zs).length * eI.k) = ((putCells (Value.int .i64) 0 (Lib.compact zs ++ List.replicate (zs.length - (Lib.compact zs).length) 0).toArray cur).toList.take (Lib.compact zs ++ List.replicate (zs.length - (Lib.compact zs).length) 0).length).take (Lib.compact zs).length := by
      rw [List.take_take, hlen, Nat.min_eq_left hle]
      show List.take ((Lib.compact zs).length * 1) _ = _
      rw [Nat.mul_one]
    rw [this, htk, List.map_append]
    exact List.take_left' (by simp)
  · exact hgb.block k (by have := lt_of_some hh; omega) (fun e => by injection e with e; omega)
end Go.Proofs.YtnjhhndggfjjdaaDoor
