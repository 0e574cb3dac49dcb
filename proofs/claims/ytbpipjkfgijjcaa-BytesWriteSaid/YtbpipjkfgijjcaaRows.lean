/-
  No cell of these rows narrows 'for every input' (looked for: loops, veiled, ifaces, maps, wideKeys, modest, calm, conditions, laid).
  DERIVED. THE GIVEN ROWS OF THIS SEAT. 4 by the template 'for every input the law returns true; each argument reads behind the call as it read before'; 0 by the template 'total and deterministic' (their statements: YtbpipjkfgijjcaaTotals.lean).
  GIVEN WITH THE SEED: the statements are not yours to turn. If you find one false, say at which input.
  Laid BY PROGRAM, IN A SANDBOX (cutbox-rows.mjs): the forced cells as the released guide's own fill.sh prints them over the translation 94392d46b63f1997… (all of the seat's roots in one cut). By AI agents, Wed Nov 11 2026. No macro, syntax, notation, axiom, sorry.
-/
import Derived.Test.YtbpipjkfgijjcaaChecked
import GoSem.Claim
import GoSem.ClaimJoined
import GoSem.ClaimMapViews
import Derived.JoinedTies
import Derived.KernelRfl
namespace Go.Proofs.Ytbpipjkfgijjcaa
/- THE CELL 'sum', in the pinned program and in every row, IS THE sha256 OF THE DUMP (.gsa) THAT YtbpipjkfgijjcaaProg.lean LOADS. Nothing in Lean hashes anything: it is a label: what it is worth is what the hold of that sum in a sandbox is worth. -/
noncomputable def Try.pinned : Pinned := { name := "ytbpipjkfgijjcaa", sum := "94392d46b63f1997669ff7683bd21a8fb8f69cddaa442a3ef49e9bc92242ee71", checked := Try.checked }
namespace Rows
def none {H : Type} : Left H := { results := [], args := [] }

/-- 'postelaw2.BytesWrite': WHATEVER THE INPUT: true; the input reads as it did. -/
def bytesWriteSpec : ChangeSpec := { name := "bytesWrite", fn := fun _ => fun
  | [d] => { results := [.lit (.bool true)], args := [d] }
  | _ => none }
def bytesWriteRow : OpenClaim := { program := "ytbpipjkfgijjcaa", sum := "94392d46b63f1997669ff7683bd21a8fb8f69cddaa442a3ef49e9bc92242ee71", func := "poste/postelaw2.BytesWrite", spec := "bytesWrite", apart := false }
def BytesWriteSaid : Prop := bytesWriteRow.holds Try.pinned (OpenSpec.ofChange bytesWriteSpec)

/-- ITS FALSE NEIGHBOUR: 'it returns false'. Refute it at one input. -/
def bytesWriteWrong : ChangeSpec := { name := "bytesWrite", fn := fun _ => fun
  | [d] => { results := [.lit (.bool false)], args := [d] }
  | _ => none }
def BytesWriteWrongFalsely : Prop := bytesWriteRow.holds Try.pinned (OpenSpec.ofChange bytesWriteWrong)

/-- 'postelaw2.BytesRead': WHATEVER THE INPUT: true; the input reads as it did. -/
def bytesReadSpec : ChangeSpec := { name := "bytesRead", fn := fun _ => fun
  | [d1, d2] => { results := [.lit (.bool true)], args := [d1, d2] }
  | _ => none }
def bytesReadRow : OpenClaim := { program := "ytbpipjkfgijjcaa", sum := "94392d46b63f1997669ff7683bd21a8fb8f69cddaa442a3ef49e9bc92242ee71", func := "poste/postelaw2.BytesRead", spec := "bytesRead", apart := false }
def BytesReadSaid : Prop := bytesReadRow.holds Try.pinned (OpenSpec.ofChange bytesReadSpec)

/-- ITS FALSE NEIGHBOUR: 'it returns false'. Refute it at one input. -/
def bytesReadWrong : ChangeSpec := { name := "bytesRead", fn := fun _ => fun
  | [d1, d2] => { results := [.lit (.bool false)], args := [d1, d2] }
  | _ => none }
def BytesReadWrongFalsely : Prop := bytesReadRow.holds Try.pinned (OpenSpec.ofChange bytesReadWrong)

/-- 'postelaw2.BytesLong': WHATEVER THE INPUT: true; the input reads as it did. -/
def bytesLongSpec : ChangeSpec := { name := "bytesLong", fn := fun _ => fun
  | [d] => { results := [.lit (.bool true)], args := [d] }
  | _ => none }
def bytesLongRow : OpenClaim := { program := "ytbpipjkfgijjcaa", sum := "94392d46b63f1997669ff7683bd21a8fb8f69cddaa442a3ef49e9bc92242ee71", func := "poste/postelaw2.BytesLong", spec := "bytesLong", apart := false }
def BytesLongSaid : Prop := bytesLongRow.holds Try.pinned (OpenSpec.ofChange bytesLongSpec)

/-- ITS FALSE NEIGHBOUR: 'it returns false'. Refute it at one input. -/
def bytesLongWrong : ChangeSpec := { name := "bytesLong", fn := fun _ => fun
  | [d] => { results := [.lit (.bool false)], args := [d] }
  | _ => none }
def BytesLongWrongFalsely : Prop := bytesLongRow.holds Try.pinned (OpenSpec.ofChange bytesLongWrong)

/-- 'postelaw2.BytesShort': WHATEVER THE INPUT: true; the input reads as it did. -/
def bytesShortSpec : ChangeSpec := { name := "bytesShort", fn := fun _ => fun
  | [d1, d2, d3, d4] => { results := [.lit (.bool true)], args := [d1, d2, d3, d4] }
  | _ => none }
def bytesShortRow : OpenClaim := { program := "ytbpipjkfgijjcaa", sum := "94392d46b63f1997669ff7683bd21a8fb8f69cddaa442a3ef49e9bc92242ee71", func := "poste/postelaw2.BytesShort", spec := "bytesShort", apart := false }
def BytesShortSaid : Prop := bytesShortRow.holds Try.pinned (OpenSpec.ofChange bytesShortSpec)

/-- ITS FALSE NEIGHBOUR: 'it returns false'. Refute it at one input. -/
def bytesShortWrong : ChangeSpec := { name := "bytesShort", fn := fun _ => fun
  | [d1, d2, d3, d4] => { results := [.lit (.bool false)], args := [d1, d2, d3, d4] }
  | _ => none }
def BytesShortWrongFalsely : Prop := bytesShortRow.holds Try.pinned (OpenSpec.ofChange bytesShortWrong)

/- THE SECOND FORM. 'bulk': how many values and letters a reading holds, each counted each time it is reached (what is shared counts as often as it is met; a slice's spare places count too). A statement '..UptoSaid' is the law's where the arguments, and the package variables that the reading takes, are together of bulk at most 1048576: NARROWER than '..Said'. Prove '..Said' where nothing that the law and all that it calls make is longer than what came in: it says more and counts as full. Else prove '..UptoSaid'. A law counts once. -/
mutual
def uptoBulk {H : Type} : DataW H → Nat
  | .lit (.string bytes) => bytes.length + 1
  | .lit _ => 1
  | .nil => 1
  | .ptr d => uptoBulk d + 1
  | .slice elems spare => uptoBulkAll elems + uptoBulkAll spare + 1
  | .agg parts => uptoBulkAll parts + 1
  | .iface _ d => uptoBulk d + 1
  | .map entries => uptoBulkEntries entries + 1
  | .held _ => 1
def uptoBulkAll {H : Type} : List (DataW H) → Nat
  | [] => 0
  | d :: r => uptoBulk d + uptoBulkAll r
def uptoBulkEntries {H : Type} : List (Lit × DataW H) → Nat
  | [] => 0
  | x :: r => uptoBulkEntry x + uptoBulkEntries r
def uptoBulkEntry {H : Type} : Lit × DataW H → Nat
  | (.string bytes, d) => bytes.length + uptoBulk d + 1
  | (_, d) => uptoBulk d + 1
 end
def uptoSmall : (H : Type) → List (DataW H) → Bool := fun _ ds => decide (uptoBulkAll ds ≤ 1048576)
def OpenSpec.upto (s : _root_.Go.ChangeSpec) : _root_.Go.OpenSpec := { _root_.Go.OpenSpec.ofChange s with cond := some uptoSmall }

/-- 'postelaw2.BytesWrite', WHERE WHAT IT READS IS OF BULK AT MOST 1048576: true; the input reads as it did. -/
def bytesWriteUptoRow : OpenClaim := { program := "ytbpipjkfgijjcaa", sum := "94392d46b63f1997669ff7683bd21a8fb8f69cddaa442a3ef49e9bc92242ee71", func := "poste/postelaw2.BytesWrite", spec := "bytesWrite", apart := false, narrowed := true }
def BytesWriteUptoSaid : Prop := bytesWriteUptoRow.holds Try.pinned (OpenSpec.upto bytesWriteSpec)

/-- 'postelaw2.BytesRead', WHERE WHAT IT READS IS OF BULK AT MOST 1048576: true; the input reads as it did. -/
def bytesReadUptoRow : OpenClaim := { program := "ytbpipjkfgijjcaa", sum := "94392d46b63f1997669ff7683bd21a8fb8f69cddaa442a3ef49e9bc92242ee71", func := "poste/postelaw2.BytesRead", spec := "bytesRead", apart := false, narrowed := true }
def BytesReadUptoSaid : Prop := bytesReadUptoRow.holds Try.pinned (OpenSpec.upto bytesReadSpec)

/-- 'postelaw2.BytesLong', WHERE WHAT IT READS IS OF BULK AT MOST 1048576: true; the input reads as it did. -/
def bytesLongUptoRow : OpenClaim := { program := "ytbpipjkfgijjcaa", sum := "94392d46b63f1997669ff7683bd21a8fb8f69cddaa442a3ef49e9bc92242ee71", func := "poste/postelaw2.BytesLong", spec := "bytesLong", apart := false, narrowed := true }
def BytesLongUptoSaid : Prop := bytesLongUptoRow.holds Try.pinned (OpenSpec.upto bytesLongSpec)

/-- 'postelaw2.BytesShort', WHERE WHAT IT READS IS OF BULK AT MOST 1048576: true; the input reads as it did. -/
def bytesShortUptoRow : OpenClaim := { program := "ytbpipjkfgijjcaa", sum := "94392d46b63f1997669ff7683bd21a8fb8f69cddaa442a3ef49e9bc92242ee71", func := "poste/postelaw2.BytesShort", spec := "bytesShort", apart := false, narrowed := true }
def BytesShortUptoSaid : Prop := bytesShortUptoRow.holds Try.pinned (OpenSpec.upto bytesShortSpec)

end Rows
end Go.Proofs.Ytbpipjkfgijjcaa
