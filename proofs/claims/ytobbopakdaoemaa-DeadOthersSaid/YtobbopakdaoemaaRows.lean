/-
  No cell of these rows narrows 'for every input' (looked for: loops, veiled, ifaces, maps, wideKeys, modest, calm, conditions, laid).
  DERIVED. THE GIVEN ROWS OF THIS SEAT. 3 by the template 'for every input the law returns true; each argument reads behind the call as it read before'; 0 by the template 'total and deterministic' (their statements: YtobbopakdaoemaaTotals.lean).
  GIVEN WITH THE SEED: the statements are not yours to turn. If you find one false, say at which input.
  Laid BY PROGRAM, IN A SANDBOX (cutbox-rows.mjs): the forced cells as the released guide's own fill.sh prints them over the translation 1ffcf324b5afa192… (all of the seat's roots in one cut). By AI agents, Wed Nov 11 2026. No macro, syntax, notation, axiom, sorry.
-/
import Derived.Test.YtobbopakdaoemaaChecked
import GoSem.Claim
import GoSem.ClaimJoined
import GoSem.ClaimMapViews
import Derived.JoinedTies
import Derived.KernelRfl
namespace Go.Proofs.Ytobbopakdaoemaa
/- THE CELL 'sum', in the pinned program and in every row, IS THE sha256 OF THE DUMP (.gsa) THAT YtobbopakdaoemaaProg.lean LOADS. Nothing in Lean hashes anything: it is a label: what it is worth is what the hold of that sum in a sandbox is worth. -/
noncomputable def Try.pinned : Pinned := { name := "ytobbopakdaoemaa", sum := "1ffcf324b5afa19208b74eae3499dcddb08d3da5e76c0c489689133d47717883", checked := Try.checked }
namespace Rows
def none {H : Type} : Left H := { results := [], args := [] }

/-- 'postelaw16.DeadFrees': WHATEVER THE INPUT: true; the input reads as it did. -/
def deadFreesSpec : ChangeSpec := { name := "deadFrees", fn := fun _ => fun
  | [d1, d2, d3] => { results := [.lit (.bool true)], args := [d1, d2, d3] }
  | _ => none }
def deadFreesRow : OpenClaim := { program := "ytobbopakdaoemaa", sum := "1ffcf324b5afa19208b74eae3499dcddb08d3da5e76c0c489689133d47717883", func := "poste/postelaw16.DeadFrees", spec := "deadFrees", unfollowed := true, recurses := true, apart := false }
def DeadFreesSaid : Prop := deadFreesRow.holds Try.pinned (OpenSpec.ofChange deadFreesSpec)

/-- ITS FALSE NEIGHBOUR: 'it returns false'. Refute it at one input. -/
def deadFreesWrong : ChangeSpec := { name := "deadFrees", fn := fun _ => fun
  | [d1, d2, d3] => { results := [.lit (.bool false)], args := [d1, d2, d3] }
  | _ => none }
def DeadFreesWrongFalsely : Prop := deadFreesRow.holds Try.pinned (OpenSpec.ofChange deadFreesWrong)

/-- 'postelaw16.DeadLimit': WHATEVER THE INPUT: true; the input reads as it did. -/
def deadLimitSpec : ChangeSpec := { name := "deadLimit", fn := fun _ => fun
  | [d1, d2] => { results := [.lit (.bool true)], args := [d1, d2] }
  | _ => none }
def deadLimitRow : OpenClaim := { program := "ytobbopakdaoemaa", sum := "1ffcf324b5afa19208b74eae3499dcddb08d3da5e76c0c489689133d47717883", func := "poste/postelaw16.DeadLimit", spec := "deadLimit", unfollowed := true, recurses := true, apart := false }
def DeadLimitSaid : Prop := deadLimitRow.holds Try.pinned (OpenSpec.ofChange deadLimitSpec)

/-- ITS FALSE NEIGHBOUR: 'it returns false'. Refute it at one input. -/
def deadLimitWrong : ChangeSpec := { name := "deadLimit", fn := fun _ => fun
  | [d1, d2] => { results := [.lit (.bool false)], args := [d1, d2] }
  | _ => none }
def DeadLimitWrongFalsely : Prop := deadLimitRow.holds Try.pinned (OpenSpec.ofChange deadLimitWrong)

/-- 'postelaw16.DeadOthers': WHATEVER THE INPUT: true; the input reads as it did. -/
def deadOthersSpec : ChangeSpec := { name := "deadOthers", fn := fun _ => fun
  | [d1, d2, d3] => { results := [.lit (.bool true)], args := [d1, d2, d3] }
  | _ => none }
def deadOthersRow : OpenClaim := { program := "ytobbopakdaoemaa", sum := "1ffcf324b5afa19208b74eae3499dcddb08d3da5e76c0c489689133d47717883", func := "poste/postelaw16.DeadOthers", spec := "deadOthers", unfollowed := true, recurses := true, apart := false }
def DeadOthersSaid : Prop := deadOthersRow.holds Try.pinned (OpenSpec.ofChange deadOthersSpec)

/-- ITS FALSE NEIGHBOUR: 'it returns false'. Refute it at one input. -/
def deadOthersWrong : ChangeSpec := { name := "deadOthers", fn := fun _ => fun
  | [d1, d2, d3] => { results := [.lit (.bool false)], args := [d1, d2, d3] }
  | _ => none }
def DeadOthersWrongFalsely : Prop := deadOthersRow.holds Try.pinned (OpenSpec.ofChange deadOthersWrong)

/- THE SECOND FORM. 'bulk': how many values and letters a reading holds, each counted each time it is reached (what is shared counts as often as it is met; a slice's spare places count too). A statement '..UptoSaid' is the law's where the arguments, and the package variables that the reading takes, are together of bulk at most 1048576: NARROWER than '..Said'. Prove '..Said' where nothing that the law and all that it calls make is longer than what came in: it says more and counts as full. Else prove '..UptoSaid'. A law counts once. -/
mutual
def uptoBulk {H : Type} : DataW H → Nat
  | .lit (.string bytes) => bytes.length + 1
  | .lit _ => 1
  | .nil => 1
  | .ptr d => uptoBulk d + 1
  | .slice elems spare => uptoBulkAll elems + uptoBulkAll spare + 1
  | .agg parts => uptoBulkAll parts + 1
  | .iface _ d => uptoBulk d + 1
  | .map entries => uptoBulkEntries entries + 1
  | .held _ => 1
def uptoBulkAll {H : Type} : List (DataW H) → Nat
  | [] => 0
  | d :: r => uptoBulk d + uptoBulkAll r
def uptoBulkEntries {H : Type} : List (Lit × DataW H) → Nat
  | [] => 0
  | x :: r => uptoBulkEntry x + uptoBulkEntries r
def uptoBulkEntry {H : Type} : Lit × DataW H → Nat
  | (.string bytes, d) => bytes.length + uptoBulk d + 1
  | (_, d) => uptoBulk d + 1
 end
def uptoSmall : (H : Type) → List (DataW H) → Bool := fun _ ds => decide (uptoBulkAll ds ≤ 1048576)
def OpenSpec.upto (s : _root_.Go.ChangeSpec) : _root_.Go.OpenSpec := { _root_.Go.OpenSpec.ofChange s with cond := some uptoSmall }

/-- 'postelaw16.DeadFrees', WHERE WHAT IT READS IS OF BULK AT MOST 1048576: true; the input reads as it did. -/
def deadFreesUptoRow : OpenClaim := { program := "ytobbopakdaoemaa", sum := "1ffcf324b5afa19208b74eae3499dcddb08d3da5e76c0c489689133d47717883", func := "poste/postelaw16.DeadFrees", spec := "deadFrees", unfollowed := true, recurses := true, apart := false, narrowed := true }
def DeadFreesUptoSaid : Prop := deadFreesUptoRow.holds Try.pinned (OpenSpec.upto deadFreesSpec)

/-- 'postelaw16.DeadLimit', WHERE WHAT IT READS IS OF BULK AT MOST 1048576: true; the input reads as it did. -/
def deadLimitUptoRow : OpenClaim := { program := "ytobbopakdaoemaa", sum := "1ffcf324b5afa19208b74eae3499dcddb08d3da5e76c0c489689133d47717883", func := "poste/postelaw16.DeadLimit", spec := "deadLimit", unfollowed := true, recurses := true, apart := false, narrowed := true }
def DeadLimitUptoSaid : Prop := deadLimitUptoRow.holds Try.pinned (OpenSpec.upto deadLimitSpec)

/-- 'postelaw16.DeadOthers', WHERE WHAT IT READS IS OF BULK AT MOST 1048576: true; the input reads as it did. -/
def deadOthersUptoRow : OpenClaim := { program := "ytobbopakdaoemaa", sum := "1ffcf324b5afa19208b74eae3499dcddb08d3da5e76c0c489689133d47717883", func := "poste/postelaw16.DeadOthers", spec := "deadOthers", unfollowed := true, recurses := true, apart := false, narrowed := true }
def DeadOthersUptoSaid : Prop := deadOthersUptoRow.holds Try.pinned (OpenSpec.upto deadOthersSpec)

end Rows
end Go.Proofs.Ytobbopakdaoemaa
