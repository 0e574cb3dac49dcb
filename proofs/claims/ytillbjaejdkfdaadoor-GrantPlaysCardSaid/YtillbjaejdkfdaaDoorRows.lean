/-
  NARROWER THAN 'FOR EVERY INPUT', by the rows' own cells (each row's printed sentence says how): GrantPlays: laid · GrantFits: laid · GrantLine: laid · GrantMore: laid · GrantAgain: laid.
  DERIVED. THE GIVEN ROWS OF THIS SEAT. 5 by the template 'for every input the law returns true; each argument reads behind the call as it read before'; 0 by the template 'total and deterministic' (their statements: YtillbjaejdkfdaaDoorTotals.lean).
  GIVEN WITH THE SEED: the statements are not yours to turn. If you find one false, say at which input.
  Laid BY PROGRAM, IN A SANDBOX (cutbox-rows.mjs): the forced cells as the released guide's own fill.sh prints them over the translation ef35551a06356d44… (all of the seat's roots in one cut). By AI agents, Wed Nov 11 2026. No macro, syntax, notation, axiom, sorry.
-/
import Derived.Test.YtillbjaejdkfdaaDoorChecked
import GoSem.Claim
import GoSem.ClaimJoined
import GoSem.ClaimMapViews
import Derived.JoinedTies
import Derived.KernelRfl
namespace Go.Proofs.YtillbjaejdkfdaaDoor
/- THE CELL 'sum', in the pinned program and in every row, IS THE sha256 OF THE DUMP (.gsa) THAT YtillbjaejdkfdaaDoorProg.lean LOADS. Nothing in Lean hashes anything: it is a label: what it is worth is what the hold of that sum in a sandbox is worth. -/
noncomputable def Tryd.pinned : Pinned := { name := "ytillbjaejdkfdaadoor", sum := "ef35551a06356d443af787e1e823a6e5bb78a629b9cea43ede9aced5b68d6ae3", checked := Tryd.checked }
namespace Rows
def none {H : Type} : Left H := { results := [], args := [] }

/- WHAT THE LISTED PACKAGE-LEVEL VARIABLES READ AS WHEN THE CALL BEGINS. Each datum BY PROGRAM (the guide's laid-datum.mjs) off the statement by which the dump's own 'gosem.cut.vars' lays the variable. In a bare row this is a premise. The card (YtillbjaejdkfdaaDoorCards.lean) ties it to the program's text. -/
def laid_poste_modes_modes {H : Type} : DataW H := .agg [.agg [.lit (.int .i64 0), .lit (.int .i64 0)], .agg [.lit (.int .i64 1), .lit (.int .i64 8)], .agg [.lit (.int .i64 3), .lit (.int .i64 12)], .agg [.lit (.int .i64 5), .lit (.int .i64 10)], .agg [.lit (.int .i64 7), .lit (.int .i64 14)], .agg [.lit (.int .i64 15), .lit (.int .i64 15)]]

/-- 'postelaw11.GrantPlays': WHATEVER THE INPUT: true; the input reads as it did. -/
def grantPlaysSpec : ChangeSpec := { name := "grantPlays", fn := fun _ => fun
  | [d] => { results := [.lit (.bool true)], args := [d] }
  | _ => none }
def grantPlaysRow : OpenClaim := { program := "ytillbjaejdkfdaadoor", sum := "ef35551a06356d443af787e1e823a6e5bb78a629b9cea43ede9aced5b68d6ae3", func := "poste/postelaw11.GrantPlays", spec := "grantPlays", inPlace := ["slices.overlaps[poste/grant.claim]"], unfollowed := true, recurses := true, named := ["poste/modes.modes"], apart := false, laid := [("poste/modes.modes", laid_poste_modes_modes)] }
def GrantPlaysSaid : Prop := grantPlaysRow.holds Tryd.pinned (OpenSpec.ofChange grantPlaysSpec)

/-- ITS FALSE NEIGHBOUR: 'it returns false'. Refute it at one input. -/
def grantPlaysWrong : ChangeSpec := { name := "grantPlays", fn := fun _ => fun
  | [d] => { results := [.lit (.bool false)], args := [d] }
  | _ => none }
def GrantPlaysWrongFalsely : Prop := grantPlaysRow.holds Tryd.pinned (OpenSpec.ofChange grantPlaysWrong)

/-- 'postelaw11.GrantFits': WHATEVER THE INPUT: true; the input reads as it did. -/
def grantFitsSpec : ChangeSpec := { name := "grantFits", fn := fun _ => fun
  | [d] => { results := [.lit (.bool true)], args := [d] }
  | _ => none }
def grantFitsRow : OpenClaim := { program := "ytillbjaejdkfdaadoor", sum := "ef35551a06356d443af787e1e823a6e5bb78a629b9cea43ede9aced5b68d6ae3", func := "poste/postelaw11.GrantFits", spec := "grantFits", inPlace := ["slices.overlaps[poste/grant.claim]"], unfollowed := true, recurses := true, named := ["poste/modes.modes"], apart := false, laid := [("poste/modes.modes", laid_poste_modes_modes)] }
def GrantFitsSaid : Prop := grantFitsRow.holds Tryd.pinned (OpenSpec.ofChange grantFitsSpec)

/-- ITS FALSE NEIGHBOUR: 'it returns false'. Refute it at one input. -/
def grantFitsWrong : ChangeSpec := { name := "grantFits", fn := fun _ => fun
  | [d] => { results := [.lit (.bool false)], args := [d] }
  | _ => none }
def GrantFitsWrongFalsely : Prop := grantFitsRow.holds Tryd.pinned (OpenSpec.ofChange grantFitsWrong)

/-- 'postelaw11.GrantLine': WHATEVER THE INPUT: true; the input reads as it did. -/
def grantLineSpec : ChangeSpec := { name := "grantLine", fn := fun _ => fun
  | [d] => { results := [.lit (.bool true)], args := [d] }
  | _ => none }
def grantLineRow : OpenClaim := { program := "ytillbjaejdkfdaadoor", sum := "ef35551a06356d443af787e1e823a6e5bb78a629b9cea43ede9aced5b68d6ae3", func := "poste/postelaw11.GrantLine", spec := "grantLine", inPlace := ["slices.overlaps[poste/grant.claim]"], unfollowed := true, recurses := true, named := ["poste/modes.modes"], apart := false, laid := [("poste/modes.modes", laid_poste_modes_modes)] }
def GrantLineSaid : Prop := grantLineRow.holds Tryd.pinned (OpenSpec.ofChange grantLineSpec)

/-- ITS FALSE NEIGHBOUR: 'it returns false'. Refute it at one input. -/
def grantLineWrong : ChangeSpec := { name := "grantLine", fn := fun _ => fun
  | [d] => { results := [.lit (.bool false)], args := [d] }
  | _ => none }
def GrantLineWrongFalsely : Prop := grantLineRow.holds Tryd.pinned (OpenSpec.ofChange grantLineWrong)

/-- 'postelaw11.GrantMore': WHATEVER THE INPUT: true; the input reads as it did. -/
def grantMoreSpec : ChangeSpec := { name := "grantMore", fn := fun _ => fun
  | [d1, d2] => { results := [.lit (.bool true)], args := [d1, d2] }
  | _ => none }
def grantMoreRow : OpenClaim := { program := "ytillbjaejdkfdaadoor", sum := "ef35551a06356d443af787e1e823a6e5bb78a629b9cea43ede9aced5b68d6ae3", func := "poste/postelaw11.GrantMore", spec := "grantMore", inPlace := ["slices.overlaps[poste/grant.claim]"], unfollowed := true, recurses := true, named := ["poste/modes.modes"], apart := false, laid := [("poste/modes.modes", laid_poste_modes_modes)] }
def GrantMoreSaid : Prop := grantMoreRow.holds Tryd.pinned (OpenSpec.ofChange grantMoreSpec)

/-- ITS FALSE NEIGHBOUR: 'it returns false'. Refute it at one input. -/
def grantMoreWrong : ChangeSpec := { name := "grantMore", fn := fun _ => fun
  | [d1, d2] => { results := [.lit (.bool false)], args := [d1, d2] }
  | _ => none }
def GrantMoreWrongFalsely : Prop := grantMoreRow.holds Tryd.pinned (OpenSpec.ofChange grantMoreWrong)

/-- 'postelaw11.GrantAgain': WHATEVER THE INPUT: true; the input reads as it did. -/
def grantAgainSpec : ChangeSpec := { name := "grantAgain", fn := fun _ => fun
  | [d1, d2, d3] => { results := [.lit (.bool true)], args := [d1, d2, d3] }
  | _ => none }
def grantAgainRow : OpenClaim := { program := "ytillbjaejdkfdaadoor", sum := "ef35551a06356d443af787e1e823a6e5bb78a629b9cea43ede9aced5b68d6ae3", func := "poste/postelaw11.GrantAgain", spec := "grantAgain", inPlace := ["slices.overlaps[poste/grant.claim]"], unfollowed := true, recurses := true, named := ["poste/modes.modes"], apart := false, laid := [("poste/modes.modes", laid_poste_modes_modes)] }
def GrantAgainSaid : Prop := grantAgainRow.holds Tryd.pinned (OpenSpec.ofChange grantAgainSpec)

/-- ITS FALSE NEIGHBOUR: 'it returns false'. Refute it at one input. -/
def grantAgainWrong : ChangeSpec := { name := "grantAgain", fn := fun _ => fun
  | [d1, d2, d3] => { results := [.lit (.bool false)], args := [d1, d2, d3] }
  | _ => none }
def GrantAgainWrongFalsely : Prop := grantAgainRow.holds Tryd.pinned (OpenSpec.ofChange grantAgainWrong)

/- THE SECOND FORM. 'bulk': how many values and letters a reading holds, each counted each time it is reached (what is shared counts as often as it is met; a slice's spare places count too). A statement '..UptoSaid' is the law's where the arguments, and the package variables that the reading takes, are together of bulk at most 1048576: NARROWER than '..Said'. Prove '..Said' where nothing that the law and all that it calls make is longer than what came in: it says more and counts as full. Else prove '..UptoSaid'. A law counts once. -/
mutual
def uptoBulk {H : Type} : DataW H → Nat
  | .lit (.string bytes) => bytes.length + 1
  | .lit _ => 1
  | .nil => 1
  | .ptr d => uptoBulk d + 1
  | .slice elems spare => uptoBulkAll elems + uptoBulkAll spare + 1
  | .agg parts => uptoBulkAll parts + 1
  | .iface _ d => uptoBulk d + 1
  | .map entries => uptoBulkEntries entries + 1
  | .held _ => 1
def uptoBulkAll {H : Type} : List (DataW H) → Nat
  | [] => 0
  | d :: r => uptoBulk d + uptoBulkAll r
def uptoBulkEntries {H : Type} : List (Lit × DataW H) → Nat
  | [] => 0
  | x :: r => uptoBulkEntry x + uptoBulkEntries r
def uptoBulkEntry {H : Type} : Lit × DataW H → Nat
  | (.string bytes, d) => bytes.length + uptoBulk d + 1
  | (_, d) => uptoBulk d + 1
 end
def uptoSmall : (H : Type) → List (DataW H) → Bool := fun _ ds => decide (uptoBulkAll ds ≤ 1048576)
def OpenSpec.upto (s : _root_.Go.ChangeSpec) : _root_.Go.OpenSpec := { _root_.Go.OpenSpec.ofChange s with cond := some uptoSmall }

/-- 'postelaw11.GrantPlays', WHERE WHAT IT READS IS OF BULK AT MOST 1048576: true; the input reads as it did. -/
def grantPlaysUptoRow : OpenClaim := { program := "ytillbjaejdkfdaadoor", sum := "ef35551a06356d443af787e1e823a6e5bb78a629b9cea43ede9aced5b68d6ae3", func := "poste/postelaw11.GrantPlays", spec := "grantPlays", inPlace := ["slices.overlaps[poste/grant.claim]"], unfollowed := true, recurses := true, named := ["poste/modes.modes"], apart := false, laid := [("poste/modes.modes", laid_poste_modes_modes)], narrowed := true }
def GrantPlaysUptoSaid : Prop := grantPlaysUptoRow.holds Tryd.pinned (OpenSpec.upto grantPlaysSpec)

/-- 'postelaw11.GrantFits', WHERE WHAT IT READS IS OF BULK AT MOST 1048576: true; the input reads as it did. -/
def grantFitsUptoRow : OpenClaim := { program := "ytillbjaejdkfdaadoor", sum := "ef35551a06356d443af787e1e823a6e5bb78a629b9cea43ede9aced5b68d6ae3", func := "poste/postelaw11.GrantFits", spec := "grantFits", inPlace := ["slices.overlaps[poste/grant.claim]"], unfollowed := true, recurses := true, named := ["poste/modes.modes"], apart := false, laid := [("poste/modes.modes", laid_poste_modes_modes)], narrowed := true }
def GrantFitsUptoSaid : Prop := grantFitsUptoRow.holds Tryd.pinned (OpenSpec.upto grantFitsSpec)

/-- 'postelaw11.GrantLine', WHERE WHAT IT READS IS OF BULK AT MOST 1048576: true; the input reads as it did. -/
def grantLineUptoRow : OpenClaim := { program := "ytillbjaejdkfdaadoor", sum := "ef35551a06356d443af787e1e823a6e5bb78a629b9cea43ede9aced5b68d6ae3", func := "poste/postelaw11.GrantLine", spec := "grantLine", inPlace := ["slices.overlaps[poste/grant.claim]"], unfollowed := true, recurses := true, named := ["poste/modes.modes"], apart := false, laid := [("poste/modes.modes", laid_poste_modes_modes)], narrowed := true }
def GrantLineUptoSaid : Prop := grantLineUptoRow.holds Tryd.pinned (OpenSpec.upto grantLineSpec)

/-- 'postelaw11.GrantMore', WHERE WHAT IT READS IS OF BULK AT MOST 1048576: true; the input reads as it did. -/
def grantMoreUptoRow : OpenClaim := { program := "ytillbjaejdkfdaadoor", sum := "ef35551a06356d443af787e1e823a6e5bb78a629b9cea43ede9aced5b68d6ae3", func := "poste/postelaw11.GrantMore", spec := "grantMore", inPlace := ["slices.overlaps[poste/grant.claim]"], unfollowed := true, recurses := true, named := ["poste/modes.modes"], apart := false, laid := [("poste/modes.modes", laid_poste_modes_modes)], narrowed := true }
def GrantMoreUptoSaid : Prop := grantMoreUptoRow.holds Tryd.pinned (OpenSpec.upto grantMoreSpec)

/-- 'postelaw11.GrantAgain', WHERE WHAT IT READS IS OF BULK AT MOST 1048576: true; the input reads as it did. -/
def grantAgainUptoRow : OpenClaim := { program := "ytillbjaejdkfdaadoor", sum := "ef35551a06356d443af787e1e823a6e5bb78a629b9cea43ede9aced5b68d6ae3", func := "poste/postelaw11.GrantAgain", spec := "grantAgain", inPlace := ["slices.overlaps[poste/grant.claim]"], unfollowed := true, recurses := true, named := ["poste/modes.modes"], apart := false, laid := [("poste/modes.modes", laid_poste_modes_modes)], narrowed := true }
def GrantAgainUptoSaid : Prop := grantAgainUptoRow.holds Tryd.pinned (OpenSpec.upto grantAgainSpec)

end Rows
end Go.Proofs.YtillbjaejdkfdaaDoor
