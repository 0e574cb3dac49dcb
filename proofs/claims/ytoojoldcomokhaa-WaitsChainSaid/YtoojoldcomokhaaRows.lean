/-
  No cell of these rows narrows 'for every input' (looked for: loops, veiled, ifaces, maps, wideKeys, modest, calm, conditions, laid).
  DERIVED. THE GIVEN ROWS OF THIS SEAT. 3 by the template 'for every input the law returns true; each argument reads behind the call as it read before'; 0 by the template 'total and deterministic' (their statements: YtoojoldcomokhaaTotals.lean).
  GIVEN WITH THE SEED: the statements are not yours to turn. If you find one false, say at which input.
  Laid BY PROGRAM, IN A SANDBOX (cutbox-rows.mjs): the forced cells as the released guide's own fill.sh prints them over the translation 6c1f1cacc609163c… (all of the seat's roots in one cut). By AI agents, Wed Nov 11 2026. No macro, syntax, notation, axiom, sorry.
-/
import Derived.Test.YtoojoldcomokhaaChecked
import GoSem.Claim
import GoSem.ClaimJoined
import GoSem.ClaimMapViews
import Derived.JoinedTies
import Derived.KernelRfl
namespace Go.Proofs.Ytoojoldcomokhaa
/- THE CELL 'sum', in the pinned program and in every row, IS THE sha256 OF THE DUMP (.gsa) THAT YtoojoldcomokhaaProg.lean LOADS. Nothing in Lean hashes anything: it is a label: what it is worth is what the hold of that sum in a sandbox is worth. -/
noncomputable def Try.pinned : Pinned := { name := "ytoojoldcomokhaa", sum := "6c1f1cacc609163cdbc61e5162cf2cc1052c22106b7e1594f3307d40e6c8c80f", checked := Try.checked }
namespace Rows
def none {H : Type} : Left H := { results := [], args := [] }

/-- 'postelaw12.WaitsTell': WHATEVER THE INPUT: true; the input reads as it did. -/
def waitsTellSpec : ChangeSpec := { name := "waitsTell", fn := fun _ => fun
  | [d1, d2] => { results := [.lit (.bool true)], args := [d1, d2] }
  | _ => none }
def waitsTellRow : OpenClaim := { program := "ytoojoldcomokhaa", sum := "6c1f1cacc609163cdbc61e5162cf2cc1052c22106b7e1594f3307d40e6c8c80f", func := "poste/postelaw12.WaitsTell", spec := "waitsTell", recurses := true, apart := false }
def WaitsTellSaid : Prop := waitsTellRow.holds Try.pinned (OpenSpec.ofChange waitsTellSpec)

/-- ITS FALSE NEIGHBOUR: 'it returns false'. Refute it at one input. -/
def waitsTellWrong : ChangeSpec := { name := "waitsTell", fn := fun _ => fun
  | [d1, d2] => { results := [.lit (.bool false)], args := [d1, d2] }
  | _ => none }
def WaitsTellWrongFalsely : Prop := waitsTellRow.holds Try.pinned (OpenSpec.ofChange waitsTellWrong)

/-- 'postelaw12.WaitsRing': WHATEVER THE INPUT: true; the input reads as it did. -/
def waitsRingSpec : ChangeSpec := { name := "waitsRing", fn := fun _ => fun
  | [d1, d2, d3, d4] => { results := [.lit (.bool true)], args := [d1, d2, d3, d4] }
  | _ => none }
def waitsRingRow : OpenClaim := { program := "ytoojoldcomokhaa", sum := "6c1f1cacc609163cdbc61e5162cf2cc1052c22106b7e1594f3307d40e6c8c80f", func := "poste/postelaw12.WaitsRing", spec := "waitsRing", recurses := true, apart := false }
def WaitsRingSaid : Prop := waitsRingRow.holds Try.pinned (OpenSpec.ofChange waitsRingSpec)

/-- ITS FALSE NEIGHBOUR: 'it returns false'. Refute it at one input. -/
def waitsRingWrong : ChangeSpec := { name := "waitsRing", fn := fun _ => fun
  | [d1, d2, d3, d4] => { results := [.lit (.bool false)], args := [d1, d2, d3, d4] }
  | _ => none }
def WaitsRingWrongFalsely : Prop := waitsRingRow.holds Try.pinned (OpenSpec.ofChange waitsRingWrong)

/-- 'postelaw12.WaitsChain': WHATEVER THE INPUT: true; the input reads as it did. -/
def waitsChainSpec : ChangeSpec := { name := "waitsChain", fn := fun _ => fun
  | [d1, d2, d3] => { results := [.lit (.bool true)], args := [d1, d2, d3] }
  | _ => none }
def waitsChainRow : OpenClaim := { program := "ytoojoldcomokhaa", sum := "6c1f1cacc609163cdbc61e5162cf2cc1052c22106b7e1594f3307d40e6c8c80f", func := "poste/postelaw12.WaitsChain", spec := "waitsChain", recurses := true, apart := false }
def WaitsChainSaid : Prop := waitsChainRow.holds Try.pinned (OpenSpec.ofChange waitsChainSpec)

/-- ITS FALSE NEIGHBOUR: 'it returns false'. Refute it at one input. -/
def waitsChainWrong : ChangeSpec := { name := "waitsChain", fn := fun _ => fun
  | [d1, d2, d3] => { results := [.lit (.bool false)], args := [d1, d2, d3] }
  | _ => none }
def WaitsChainWrongFalsely : Prop := waitsChainRow.holds Try.pinned (OpenSpec.ofChange waitsChainWrong)

/- THE SECOND FORM. 'bulk': how many values and letters a reading holds, each counted each time it is reached (what is shared counts as often as it is met; a slice's spare places count too). A statement '..UptoSaid' is the law's where the arguments, and the package variables that the reading takes, are together of bulk at most 1048576: NARROWER than '..Said'. Prove '..Said' where nothing that the law and all that it calls make is longer than what came in: it says more and counts as full. Else prove '..UptoSaid'. A law counts once. -/
mutual
def uptoBulk {H : Type} : DataW H → Nat
  | .lit (.string bytes) => bytes.length + 1
  | .lit _ => 1
  | .nil => 1
  | .ptr d => uptoBulk d + 1
  | .slice elems spare => uptoBulkAll elems + uptoBulkAll spare + 1
  | .agg parts => uptoBulkAll parts + 1
  | .iface _ d => uptoBulk d + 1
  | .map entries => uptoBulkEntries entries + 1
  | .held _ => 1
def uptoBulkAll {H : Type} : List (DataW H) → Nat
  | [] => 0
  | d :: r => uptoBulk d + uptoBulkAll r
def uptoBulkEntries {H : Type} : List (Lit × DataW H) → Nat
  | [] => 0
  | x :: r => uptoBulkEntry x + uptoBulkEntries r
def uptoBulkEntry {H : Type} : Lit × DataW H → Nat
  | (.string bytes, d) => bytes.length + uptoBulk d + 1
  | (_, d) => uptoBulk d + 1
 end
def uptoSmall : (H : Type) → List (DataW H) → Bool := fun _ ds => decide (uptoBulkAll ds ≤ 1048576)
def OpenSpec.upto (s : _root_.Go.ChangeSpec) : _root_.Go.OpenSpec := { _root_.Go.OpenSpec.ofChange s with cond := some uptoSmall }

/-- 'postelaw12.WaitsTell', WHERE WHAT IT READS IS OF BULK AT MOST 1048576: true; the input reads as it did. -/
def waitsTellUptoRow : OpenClaim := { program := "ytoojoldcomokhaa", sum := "6c1f1cacc609163cdbc61e5162cf2cc1052c22106b7e1594f3307d40e6c8c80f", func := "poste/postelaw12.WaitsTell", spec := "waitsTell", recurses := true, apart := false, narrowed := true }
def WaitsTellUptoSaid : Prop := waitsTellUptoRow.holds Try.pinned (OpenSpec.upto waitsTellSpec)

/-- 'postelaw12.WaitsRing', WHERE WHAT IT READS IS OF BULK AT MOST 1048576: true; the input reads as it did. -/
def waitsRingUptoRow : OpenClaim := { program := "ytoojoldcomokhaa", sum := "6c1f1cacc609163cdbc61e5162cf2cc1052c22106b7e1594f3307d40e6c8c80f", func := "poste/postelaw12.WaitsRing", spec := "waitsRing", recurses := true, apart := false, narrowed := true }
def WaitsRingUptoSaid : Prop := waitsRingUptoRow.holds Try.pinned (OpenSpec.upto waitsRingSpec)

/-- 'postelaw12.WaitsChain', WHERE WHAT IT READS IS OF BULK AT MOST 1048576: true; the input reads as it did. -/
def waitsChainUptoRow : OpenClaim := { program := "ytoojoldcomokhaa", sum := "6c1f1cacc609163cdbc61e5162cf2cc1052c22106b7e1594f3307d40e6c8c80f", func := "poste/postelaw12.WaitsChain", spec := "waitsChain", recurses := true, apart := false, narrowed := true }
def WaitsChainUptoSaid : Prop := waitsChainUptoRow.holds Try.pinned (OpenSpec.upto waitsChainSpec)

end Rows
end Go.Proofs.Ytoojoldcomokhaa
