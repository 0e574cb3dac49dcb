/- Bytes as cells. -/
import Derived.Test.YtlapicjbnheioaaKeep
namespace Go.Proofs.Ytlapicjbnheioaa
open Go.RowKit

abbrev u8 (b : UInt8) : Value := .int .u8 (b.toNat : Int)
def cellsB (l : List UInt8) : List Value := l.map u8
theorem cellsB_length (l : List UInt8) : (cellsB l).length = l.length := by simp [cellsB]
theorem cellsB_append (l m : List UInt8) : cellsB (l ++ m) = cellsB l ++ cellsB m := by simp [cellsB]
theorem cellsB_get (l : List UInt8) (j : Nat) : (cellsB l)[j]? = l[j]?.map u8 := by simp [cellsB]
theorem cellsB_one (l : List UInt8) : ∀ v ∈ cellsB l, v.oneCell' = true := by
  intro v hv
  obtain ⟨b, _, rfl⟩ := List.mem_map.1 hv
  rfl
end Go.Proofs.Ytlapicjbnheioaa
