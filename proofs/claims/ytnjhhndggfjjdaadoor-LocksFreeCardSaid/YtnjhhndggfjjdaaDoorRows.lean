/-
  NARROWER THAN 'FOR EVERY INPUT', by the rows' own cells (each row's printed sentence says how): LocksMany: laid · LocksFree: laid · LocksNames: laid · LocksIntents: laid.
  DERIVED. THE GIVEN ROWS OF THIS SEAT. 4 by the template 'for every input the law returns true; each argument reads behind the call as it read before'; 0 by the template 'total and deterministic' (their statements: YtnjhhndggfjjdaaDoorTotals.lean).
  GIVEN WITH THE SEED: the statements are not yours to turn. If you find one false, say at which input.
  Laid BY PROGRAM, IN A SANDBOX (cutbox-rows.mjs): the forced cells as the released guide's own fill.sh prints them over the translation 239e87f572e50a18… (all of the seat's roots in one cut). By AI agents, Wed Nov 11 2026. No macro, syntax, notation, axiom, sorry.
-/
import Derived.Test.YtnjhhndggfjjdaaDoorChecked
import GoSem.Claim
import GoSem.ClaimJoined
import GoSem.ClaimMapViews
import Derived.JoinedTies
import Derived.KernelRfl
namespace Go.Proofs.YtnjhhndggfjjdaaDoor
/- THE CELL 'sum', in the pinned program and in every row, IS THE sha256 OF THE DUMP (.gsa) THAT YtnjhhndggfjjdaaDoorProg.lean LOADS. Nothing in Lean hashes anything: it is a label: what it is worth is what the hold of that sum in a sandbox is worth. -/
noncomputable def Tryd.pinned : Pinned := { name := "ytnjhhndggfjjdaadoor", sum := "239e87f572e50a18926223c56578bb8613593be7912e9edbbef085e0f9890542", checked := Tryd.checked }
namespace Rows
def none {H : Type} : Left H := { results := [], args := [] }

/- WHAT THE LISTED PACKAGE-LEVEL VARIABLES READ AS WHEN THE CALL BEGINS. Each datum BY PROGRAM (the guide's laid-datum.mjs) off the statement by which the dump's own 'gosem.cut.vars' lays the variable. In a bare row this is a premise. The card (YtnjhhndggfjjdaaDoorCards.lean) ties it to the program's text. -/
def laid_poste_modes_modes {H : Type} : DataW H := .agg [.agg [.lit (.int .i64 0), .lit (.int .i64 0)], .agg [.lit (.int .i64 1), .lit (.int .i64 8)], .agg [.lit (.int .i64 3), .lit (.int .i64 12)], .agg [.lit (.int .i64 5), .lit (.int .i64 10)], .agg [.lit (.int .i64 7), .lit (.int .i64 14)], .agg [.lit (.int .i64 15), .lit (.int .i64 15)]]

/-- 'postelaw13.LocksMany': WHATEVER THE INPUT: true; the input reads as it did. -/
def locksManySpec : ChangeSpec := { name := "locksMany", fn := fun _ => fun
  | [d1, d2] => { results := [.lit (.bool true)], args := [d1, d2] }
  | _ => none }
def locksManyRow : OpenClaim := { program := "ytnjhhndggfjjdaadoor", sum := "239e87f572e50a18926223c56578bb8613593be7912e9edbbef085e0f9890542", func := "poste/postelaw13.LocksMany", spec := "locksMany", inPlace := ["slices.overlaps[poste/locks.lock]", "slices.overlaps[poste/grant.claim]"], unfollowed := true, recurses := true, named := ["poste/modes.modes"], apart := false, laid := [("poste/modes.modes", laid_poste_modes_modes)] }
def LocksManySaid : Prop := locksManyRow.holds Tryd.pinned (OpenSpec.ofChange locksManySpec)

/-- ITS FALSE NEIGHBOUR: 'it returns false'. Refute it at one input. -/
def locksManyWrong : ChangeSpec := { name := "locksMany", fn := fun _ => fun
  | [d1, d2] => { results := [.lit (.bool false)], args := [d1, d2] }
  | _ => none }
def LocksManyWrongFalsely : Prop := locksManyRow.holds Tryd.pinned (OpenSpec.ofChange locksManyWrong)

/-- 'postelaw13.LocksFree': WHATEVER THE INPUT: true; the input reads as it did. -/
def locksFreeSpec : ChangeSpec := { name := "locksFree", fn := fun _ => fun
  | [d1, d2] => { results := [.lit (.bool true)], args := [d1, d2] }
  | _ => none }
def locksFreeRow : OpenClaim := { program := "ytnjhhndggfjjdaadoor", sum := "239e87f572e50a18926223c56578bb8613593be7912e9edbbef085e0f9890542", func := "poste/postelaw13.LocksFree", spec := "locksFree", inPlace := ["slices.overlaps[poste/locks.lock]", "slices.overlaps[poste/grant.claim]"], unfollowed := true, recurses := true, named := ["poste/modes.modes"], apart := false, laid := [("poste/modes.modes", laid_poste_modes_modes)] }
def LocksFreeSaid : Prop := locksFreeRow.holds Tryd.pinned (OpenSpec.ofChange locksFreeSpec)

/-- ITS FALSE NEIGHBOUR: 'it returns false'. Refute it at one input. -/
def locksFreeWrong : ChangeSpec := { name := "locksFree", fn := fun _ => fun
  | [d1, d2] => { results := [.lit (.bool false)], args := [d1, d2] }
  | _ => none }
def LocksFreeWrongFalsely : Prop := locksFreeRow.holds Tryd.pinned (OpenSpec.ofChange locksFreeWrong)

/-- 'postelaw13.LocksNames': WHATEVER THE INPUT: true; the input reads as it did. -/
def locksNamesSpec : ChangeSpec := { name := "locksNames", fn := fun _ => fun
  | [d1, d2, d3, d4] => { results := [.lit (.bool true)], args := [d1, d2, d3, d4] }
  | _ => none }
def locksNamesRow : OpenClaim := { program := "ytnjhhndggfjjdaadoor", sum := "239e87f572e50a18926223c56578bb8613593be7912e9edbbef085e0f9890542", func := "poste/postelaw13.LocksNames", spec := "locksNames", inPlace := ["slices.overlaps[poste/locks.lock]", "slices.overlaps[poste/grant.claim]"], unfollowed := true, recurses := true, named := ["poste/modes.modes"], apart := false, laid := [("poste/modes.modes", laid_poste_modes_modes)] }
def LocksNamesSaid : Prop := locksNamesRow.holds Tryd.pinned (OpenSpec.ofChange locksNamesSpec)

/-- ITS FALSE NEIGHBOUR: 'it returns false'. Refute it at one input. -/
def locksNamesWrong : ChangeSpec := { name := "locksNames", fn := fun _ => fun
  | [d1, d2, d3, d4] => { results := [.lit (.bool false)], args := [d1, d2, d3, d4] }
  | _ => none }
def LocksNamesWrongFalsely : Prop := locksNamesRow.holds Tryd.pinned (OpenSpec.ofChange locksNamesWrong)

/-- 'postelaw13.LocksIntents': WHATEVER THE INPUT: true; the input reads as it did. -/
def locksIntentsSpec : ChangeSpec := { name := "locksIntents", fn := fun _ => fun
  | [d1, d2] => { results := [.lit (.bool true)], args := [d1, d2] }
  | _ => none }
def locksIntentsRow : OpenClaim := { program := "ytnjhhndggfjjdaadoor", sum := "239e87f572e50a18926223c56578bb8613593be7912e9edbbef085e0f9890542", func := "poste/postelaw13.LocksIntents", spec := "locksIntents", inPlace := ["slices.overlaps[poste/locks.lock]", "slices.overlaps[poste/grant.claim]"], unfollowed := true, recurses := true, named := ["poste/modes.modes"], apart := false, laid := [("poste/modes.modes", laid_poste_modes_modes)] }
def LocksIntentsSaid : Prop := locksIntentsRow.holds Tryd.pinned (OpenSpec.ofChange locksIntentsSpec)

/-- ITS FALSE NEIGHBOUR: 'it returns false'. Refute it at one input. -/
def locksIntentsWrong : ChangeSpec := { name := "locksIntents", fn := fun _ => fun
  | [d1, d2] => { results := [.lit (.bool false)], args := [d1, d2] }
  | _ => none }
def LocksIntentsWrongFalsely : Prop := locksIntentsRow.holds Tryd.pinned (OpenSpec.ofChange locksIntentsWrong)

/- THE SECOND FORM. 'bulk': how many values and letters a reading holds, each counted each time it is reached (what is shared counts as often as it is met; a slice's spare places count too). A statement '..UptoSaid' is the law's where the arguments, and the package variables that the reading takes, are together of bulk at most 1048576: NARROWER than '..Said'. Prove '..Said' where nothing that the law and all that it calls make is longer than what came in: it says more and counts as full. Else prove '..UptoSaid'. A law counts once. -/
mutual
def uptoBulk {H : Type} : DataW H → Nat
  | .lit (.string bytes) => bytes.length + 1
  | .lit _ => 1
  | .nil => 1
  | .ptr d => uptoBulk d + 1
  | .slice elems spare => uptoBulkAll elems + uptoBulkAll spare + 1
  | .agg parts => uptoBulkAll parts + 1
  | .iface _ d => uptoBulk d + 1
  | .map entries => uptoBulkEntries entries + 1
  | .held _ => 1
def uptoBulkAll {H : Type} : List (DataW H) → Nat
  | [] => 0
  | d :: r => uptoBulk d + uptoBulkAll r
def uptoBulkEntries {H : Type} : List (Lit × DataW H) → Nat
  | [] => 0
  | x :: r => uptoBulkEntry x + uptoBulkEntries r
def uptoBulkEntry {H : Type} : Lit × DataW H → Nat
  | (.string bytes, d) => bytes.length + uptoBulk d + 1
  | (_, d) => uptoBulk d + 1
 end
def uptoSmall : (H : Type) → List (DataW H) → Bool := fun _ ds => decide (uptoBulkAll ds ≤ 1048576)
def OpenSpec.upto (s : _root_.Go.ChangeSpec) : _root_.Go.OpenSpec := { _root_.Go.OpenSpec.ofChange s with cond := some uptoSmall }

/-- 'postelaw13.LocksMany', WHERE WHAT IT READS IS OF BULK AT MOST 1048576: true; the input reads as it did. -/
def locksManyUptoRow : OpenClaim := { program := "ytnjhhndggfjjdaadoor", sum := "239e87f572e50a18926223c56578bb8613593be7912e9edbbef085e0f9890542", func := "poste/postelaw13.LocksMany", spec := "locksMany", inPlace := ["slices.overlaps[poste/locks.lock]", "slices.overlaps[poste/grant.claim]"], unfollowed := true, recurses := true, named := ["poste/modes.modes"], apart := false, laid := [("poste/modes.modes", laid_poste_modes_modes)], narrowed := true }
def LocksManyUptoSaid : Prop := locksManyUptoRow.holds Tryd.pinned (OpenSpec.upto locksManySpec)

/-- 'postelaw13.LocksFree', WHERE WHAT IT READS IS OF BULK AT MOST 1048576: true; the input reads as it did. -/
def locksFreeUptoRow : OpenClaim := { program := "ytnjhhndggfjjdaadoor", sum := "239e87f572e50a18926223c56578bb8613593be7912e9edbbef085e0f9890542", func := "poste/postelaw13.LocksFree", spec := "locksFree", inPlace := ["slices.overlaps[poste/locks.lock]", "slices.overlaps[poste/grant.claim]"], unfollowed := true, recurses := true, named := ["poste/modes.modes"], apart := false, laid := [("poste/modes.modes", laid_poste_modes_modes)], narrowed := true }
def LocksFreeUptoSaid : Prop := locksFreeUptoRow.holds Tryd.pinned (OpenSpec.upto locksFreeSpec)

/-- 'postelaw13.LocksNames', WHERE WHAT IT READS IS OF BULK AT MOST 1048576: true; the input reads as it did. -/
def locksNamesUptoRow : OpenClaim := { program := "ytnjhhndggfjjdaadoor", sum := "239e87f572e50a18926223c56578bb8613593be7912e9edbbef085e0f9890542", func := "poste/postelaw13.LocksNames", spec := "locksNames", inPlace := ["slices.overlaps[poste/locks.lock]", "slices.overlaps[poste/grant.claim]"], unfollowed := true, recurses := true, named := ["poste/modes.modes"], apart := false, laid := [("poste/modes.modes", laid_poste_modes_modes)], narrowed := true }
def LocksNamesUptoSaid : Prop := locksNamesUptoRow.holds Tryd.pinned (OpenSpec.upto locksNamesSpec)

/-- 'postelaw13.LocksIntents', WHERE WHAT IT READS IS OF BULK AT MOST 1048576: true; the input reads as it did. -/
def locksIntentsUptoRow : OpenClaim := { program := "ytnjhhndggfjjdaadoor", sum := "239e87f572e50a18926223c56578bb8613593be7912e9edbbef085e0f9890542", func := "poste/postelaw13.LocksIntents", spec := "locksIntents", inPlace := ["slices.overlaps[poste/locks.lock]", "slices.overlaps[poste/grant.claim]"], unfollowed := true, recurses := true, named := ["poste/modes.modes"], apart := false, laid := [("poste/modes.modes", laid_poste_modes_modes)], narrowed := true }
def LocksIntentsUptoSaid : Prop := locksIntentsUptoRow.holds Tryd.pinned (OpenSpec.upto locksIntentsSpec)

end Rows
end Go.Proofs.YtnjhhndggfjjdaaDoor
