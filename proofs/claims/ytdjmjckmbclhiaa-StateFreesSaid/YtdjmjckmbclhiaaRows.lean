/-
  No cell of these rows narrows 'for every input' (looked for: loops, veiled, ifaces, maps, wideKeys, modest, calm, conditions, laid).
  DERIVED. THE GIVEN ROWS OF THIS SEAT. 3 by the template 'for every input the law returns true; each argument reads behind the call as it read before'; 0 by the template 'total and deterministic' (their statements: YtdjmjckmbclhiaaTotals.lean).
  GIVEN WITH THE SEED: the statements are not yours to turn. If you find one false, say at which input.
  Laid BY PROGRAM, IN A SANDBOX (cutbox-rows.mjs): the forced cells as the released guide's own fill.sh prints them over the translation 4833c9c4c88a5b04… (all of the seat's roots in one cut). By AI agents, Wed Nov 11 2026. No macro, syntax, notation, axiom, sorry.
-/
import Derived.Test.YtdjmjckmbclhiaaChecked
import GoSem.Claim
import GoSem.ClaimJoined
import GoSem.ClaimMapViews
import Derived.JoinedTies
import Derived.KernelRfl
namespace Go.Proofs.Ytdjmjckmbclhiaa
/- THE CELL 'sum', in the pinned program and in every row, IS THE sha256 OF THE DUMP (.gsa) THAT YtdjmjckmbclhiaaProg.lean LOADS. Nothing in Lean hashes anything: it is a label: what it is worth is what the hold of that sum in a sandbox is worth. -/
noncomputable def Try.pinned : Pinned := { name := "ytdjmjckmbclhiaa", sum := "4833c9c4c88a5b04f7395c0f377b98c4da307f4ffa75b7ec451f3eb231302204", checked := Try.checked }
namespace Rows
def none {H : Type} : Left H := { results := [], args := [] }

/-- 'postelaw19.StateFrees': WHATEVER THE INPUT: true; the input reads as it did. -/
def stateFreesSpec : ChangeSpec := { name := "stateFrees", fn := fun _ => fun
  | [d] => { results := [.lit (.bool true)], args := [d] }
  | _ => none }
def stateFreesRow : OpenClaim := { program := "ytdjmjckmbclhiaa", sum := "4833c9c4c88a5b04f7395c0f377b98c4da307f4ffa75b7ec451f3eb231302204", func := "poste/postelaw19.StateFrees", spec := "stateFrees", inPlace := ["slices.overlaps[poste/api.Object]"], unfollowed := true, recurses := true, apart := false }
def StateFreesSaid : Prop := stateFreesRow.holds Try.pinned (OpenSpec.ofChange stateFreesSpec)

/-- ITS FALSE NEIGHBOUR: 'it returns false'. Refute it at one input. -/
def stateFreesWrong : ChangeSpec := { name := "stateFrees", fn := fun _ => fun
  | [d] => { results := [.lit (.bool false)], args := [d] }
  | _ => none }
def StateFreesWrongFalsely : Prop := stateFreesRow.holds Try.pinned (OpenSpec.ofChange stateFreesWrong)

/-- 'postelaw19.StateErrors': WHATEVER THE INPUT: true; the input reads as it did. -/
def stateErrorsSpec : ChangeSpec := { name := "stateErrors", fn := fun _ => fun
  | [d] => { results := [.lit (.bool true)], args := [d] }
  | _ => none }
def stateErrorsRow : OpenClaim := { program := "ytdjmjckmbclhiaa", sum := "4833c9c4c88a5b04f7395c0f377b98c4da307f4ffa75b7ec451f3eb231302204", func := "poste/postelaw19.StateErrors", spec := "stateErrors", inPlace := ["slices.overlaps[poste/api.Object]"], unfollowed := true, recurses := true, apart := false }
def StateErrorsSaid : Prop := stateErrorsRow.holds Try.pinned (OpenSpec.ofChange stateErrorsSpec)

/-- ITS FALSE NEIGHBOUR: 'it returns false'. Refute it at one input. -/
def stateErrorsWrong : ChangeSpec := { name := "stateErrors", fn := fun _ => fun
  | [d] => { results := [.lit (.bool false)], args := [d] }
  | _ => none }
def StateErrorsWrongFalsely : Prop := stateErrorsRow.holds Try.pinned (OpenSpec.ofChange stateErrorsWrong)

/-- 'postelaw19.StateMakes': WHATEVER THE INPUT: true; the input reads as it did. -/
def stateMakesSpec : ChangeSpec := { name := "stateMakes", fn := fun _ => fun
  | [d] => { results := [.lit (.bool true)], args := [d] }
  | _ => none }
def stateMakesRow : OpenClaim := { program := "ytdjmjckmbclhiaa", sum := "4833c9c4c88a5b04f7395c0f377b98c4da307f4ffa75b7ec451f3eb231302204", func := "poste/postelaw19.StateMakes", spec := "stateMakes", inPlace := ["slices.overlaps[poste/api.Object]"], unfollowed := true, recurses := true, apart := false }
def StateMakesSaid : Prop := stateMakesRow.holds Try.pinned (OpenSpec.ofChange stateMakesSpec)

/-- ITS FALSE NEIGHBOUR: 'it returns false'. Refute it at one input. -/
def stateMakesWrong : ChangeSpec := { name := "stateMakes", fn := fun _ => fun
  | [d] => { results := [.lit (.bool false)], args := [d] }
  | _ => none }
def StateMakesWrongFalsely : Prop := stateMakesRow.holds Try.pinned (OpenSpec.ofChange stateMakesWrong)

/- THE SECOND FORM. 'bulk': how many values and letters a reading holds, each counted each time it is reached (what is shared counts as often as it is met; a slice's spare places count too). A statement '..UptoSaid' is the law's where the arguments, and the package variables that the reading takes, are together of bulk at most 1048576: NARROWER than '..Said'. Prove '..Said' where nothing that the law and all that it calls make is longer than what came in: it says more and counts as full. Else prove '..UptoSaid'. A law counts once. -/
mutual
def uptoBulk {H : Type} : DataW H → Nat
  | .lit (.string bytes) => bytes.length + 1
  | .lit _ => 1
  | .nil => 1
  | .ptr d => uptoBulk d + 1
  | .slice elems spare => uptoBulkAll elems + uptoBulkAll spare + 1
  | .agg parts => uptoBulkAll parts + 1
  | .iface _ d => uptoBulk d + 1
  | .map entries => uptoBulkEntries entries + 1
  | .held _ => 1
def uptoBulkAll {H : Type} : List (DataW H) → Nat
  | [] => 0
  | d :: r => uptoBulk d + uptoBulkAll r
def uptoBulkEntries {H : Type} : List (Lit × DataW H) → Nat
  | [] => 0
  | x :: r => uptoBulkEntry x + uptoBulkEntries r
def uptoBulkEntry {H : Type} : Lit × DataW H → Nat
  | (.string bytes, d) => bytes.length + uptoBulk d + 1
  | (_, d) => uptoBulk d + 1
 end
def uptoSmall : (H : Type) → List (DataW H) → Bool := fun _ ds => decide (uptoBulkAll ds ≤ 1048576)
def OpenSpec.upto (s : _root_.Go.ChangeSpec) : _root_.Go.OpenSpec := { _root_.Go.OpenSpec.ofChange s with cond := some uptoSmall }

/-- 'postelaw19.StateFrees', WHERE WHAT IT READS IS OF BULK AT MOST 1048576: true; the input reads as it did. -/
def stateFreesUptoRow : OpenClaim := { program := "ytdjmjckmbclhiaa", sum := "4833c9c4c88a5b04f7395c0f377b98c4da307f4ffa75b7ec451f3eb231302204", func := "poste/postelaw19.StateFrees", spec := "stateFrees", inPlace := ["slices.overlaps[poste/api.Object]"], unfollowed := true, recurses := true, apart := false, narrowed := true }
def StateFreesUptoSaid : Prop := stateFreesUptoRow.holds Try.pinned (OpenSpec.upto stateFreesSpec)

/-- 'postelaw19.StateErrors', WHERE WHAT IT READS IS OF BULK AT MOST 1048576: true; the input reads as it did. -/
def stateErrorsUptoRow : OpenClaim := { program := "ytdjmjckmbclhiaa", sum := "4833c9c4c88a5b04f7395c0f377b98c4da307f4ffa75b7ec451f3eb231302204", func := "poste/postelaw19.StateErrors", spec := "stateErrors", inPlace := ["slices.overlaps[poste/api.Object]"], unfollowed := true, recurses := true, apart := false, narrowed := true }
def StateErrorsUptoSaid : Prop := stateErrorsUptoRow.holds Try.pinned (OpenSpec.upto stateErrorsSpec)

/-- 'postelaw19.StateMakes', WHERE WHAT IT READS IS OF BULK AT MOST 1048576: true; the input reads as it did. -/
def stateMakesUptoRow : OpenClaim := { program := "ytdjmjckmbclhiaa", sum := "4833c9c4c88a5b04f7395c0f377b98c4da307f4ffa75b7ec451f3eb231302204", func := "poste/postelaw19.StateMakes", spec := "stateMakes", inPlace := ["slices.overlaps[poste/api.Object]"], unfollowed := true, recurses := true, apart := false, narrowed := true }
def StateMakesUptoSaid : Prop := stateMakesUptoRow.holds Try.pinned (OpenSpec.upto stateMakesSpec)

end Rows
end Go.Proofs.Ytdjmjckmbclhiaa
