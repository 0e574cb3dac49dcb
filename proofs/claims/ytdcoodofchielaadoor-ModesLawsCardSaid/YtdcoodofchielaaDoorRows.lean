/-
  NARROWER THAN 'FOR EVERY INPUT', by the rows' own cells (each row's printed sentence says how): ModesTell: laid · ModesLaws: laid · ModesAbove: laid.
  DERIVED. THE GIVEN ROWS OF THIS SEAT. 3 by the template 'for every input the law returns true; each argument reads behind the call as it read before'; 0 by the template 'total and deterministic' (their statements: YtdcoodofchielaaDoorTotals.lean).
  GIVEN WITH THE SEED: the statements are not yours to turn. If you find one false, say at which input.
  Laid BY PROGRAM, IN A SANDBOX (cutbox-rows.mjs): the forced cells as the released guide's own fill.sh prints them over the translation 82748fdba597280b… (all of the seat's roots in one cut). By AI agents, Wed Nov 11 2026. No macro, syntax, notation, axiom, sorry.
-/
import Derived.Test.YtdcoodofchielaaDoorChecked
import GoSem.Claim
import GoSem.ClaimJoined
import GoSem.ClaimMapViews
import Derived.JoinedTies
import Derived.KernelRfl
namespace Go.Proofs.YtdcoodofchielaaDoor
/- THE CELL 'sum', in the pinned program and in every row, IS THE sha256 OF THE DUMP (.gsa) THAT YtdcoodofchielaaDoorProg.lean LOADS. Nothing in Lean hashes anything: it is a label: what it is worth is what the hold of that sum in a sandbox is worth. -/
noncomputable def Tryd.pinned : Pinned := { name := "ytdcoodofchielaadoor", sum := "82748fdba597280ba6ab08bc249735ad41fb7e786ea33096f9e40ac6075263b7", checked := Tryd.checked }
namespace Rows
def none {H : Type} : Left H := { results := [], args := [] }

/- WHAT THE LISTED PACKAGE-LEVEL VARIABLES READ AS WHEN THE CALL BEGINS. Each datum BY PROGRAM (the guide's laid-datum.mjs) off the statement by which the dump's own 'gosem.cut.vars' lays the variable. In a bare row this is a premise. The card (YtdcoodofchielaaDoorCards.lean) ties it to the program's text. -/
def laid_poste_modes_modes {H : Type} : DataW H := .agg [.agg [.lit (.int .i64 0), .lit (.int .i64 0)], .agg [.lit (.int .i64 1), .lit (.int .i64 8)], .agg [.lit (.int .i64 3), .lit (.int .i64 12)], .agg [.lit (.int .i64 5), .lit (.int .i64 10)], .agg [.lit (.int .i64 7), .lit (.int .i64 14)], .agg [.lit (.int .i64 15), .lit (.int .i64 15)]]

/-- 'postelaw10.ModesTell': WHATEVER THE INPUT: true; the input reads as it did. -/
def modesTellSpec : ChangeSpec := { name := "modesTell", fn := fun _ => fun
  | [d1, d2] => { results := [.lit (.bool true)], args := [d1, d2] }
  | _ => none }
def modesTellRow : OpenClaim := { program := "ytdcoodofchielaadoor", sum := "82748fdba597280ba6ab08bc249735ad41fb7e786ea33096f9e40ac6075263b7", func := "poste/postelaw10.ModesTell", spec := "modesTell", named := ["poste/modes.modes"], apart := false, laid := [("poste/modes.modes", laid_poste_modes_modes)] }
def ModesTellSaid : Prop := modesTellRow.holds Tryd.pinned (OpenSpec.ofChange modesTellSpec)

/-- ITS FALSE NEIGHBOUR: 'it returns false'. Refute it at one input. -/
def modesTellWrong : ChangeSpec := { name := "modesTell", fn := fun _ => fun
  | [d1, d2] => { results := [.lit (.bool false)], args := [d1, d2] }
  | _ => none }
def ModesTellWrongFalsely : Prop := modesTellRow.holds Tryd.pinned (OpenSpec.ofChange modesTellWrong)

/-- 'postelaw10.ModesLaws': WHATEVER THE INPUT: true; the input reads as it did. -/
def modesLawsSpec : ChangeSpec := { name := "modesLaws", fn := fun _ => fun
  | [d1, d2, d3] => { results := [.lit (.bool true)], args := [d1, d2, d3] }
  | _ => none }
def modesLawsRow : OpenClaim := { program := "ytdcoodofchielaadoor", sum := "82748fdba597280ba6ab08bc249735ad41fb7e786ea33096f9e40ac6075263b7", func := "poste/postelaw10.ModesLaws", spec := "modesLaws", named := ["poste/modes.modes"], apart := false, laid := [("poste/modes.modes", laid_poste_modes_modes)] }
def ModesLawsSaid : Prop := modesLawsRow.holds Tryd.pinned (OpenSpec.ofChange modesLawsSpec)

/-- ITS FALSE NEIGHBOUR: 'it returns false'. Refute it at one input. -/
def modesLawsWrong : ChangeSpec := { name := "modesLaws", fn := fun _ => fun
  | [d1, d2, d3] => { results := [.lit (.bool false)], args := [d1, d2, d3] }
  | _ => none }
def ModesLawsWrongFalsely : Prop := modesLawsRow.holds Tryd.pinned (OpenSpec.ofChange modesLawsWrong)

/-- 'postelaw10.ModesAbove': WHATEVER THE INPUT: true; the input reads as it did. -/
def modesAboveSpec : ChangeSpec := { name := "modesAbove", fn := fun _ => fun
  | [d1, d2] => { results := [.lit (.bool true)], args := [d1, d2] }
  | _ => none }
def modesAboveRow : OpenClaim := { program := "ytdcoodofchielaadoor", sum := "82748fdba597280ba6ab08bc249735ad41fb7e786ea33096f9e40ac6075263b7", func := "poste/postelaw10.ModesAbove", spec := "modesAbove", named := ["poste/modes.modes"], apart := false, laid := [("poste/modes.modes", laid_poste_modes_modes)] }
def ModesAboveSaid : Prop := modesAboveRow.holds Tryd.pinned (OpenSpec.ofChange modesAboveSpec)

/-- ITS FALSE NEIGHBOUR: 'it returns false'. Refute it at one input. -/
def modesAboveWrong : ChangeSpec := { name := "modesAbove", fn := fun _ => fun
  | [d1, d2] => { results := [.lit (.bool false)], args := [d1, d2] }
  | _ => none }
def ModesAboveWrongFalsely : Prop := modesAboveRow.holds Tryd.pinned (OpenSpec.ofChange modesAboveWrong)

/- THE SECOND FORM. 'bulk': how many values and letters a reading holds, each counted each time it is reached (what is shared counts as often as it is met; a slice's spare places count too). A statement '..UptoSaid' is the law's where the arguments, and the package variables that the reading takes, are together of bulk at most 1048576: NARROWER than '..Said'. Prove '..Said' where nothing that the law and all that it calls make is longer than what came in: it says more and counts as full. Else prove '..UptoSaid'. A law counts once. -/
mutual
def uptoBulk {H : Type} : DataW H → Nat
  | .lit (.string bytes) => bytes.length + 1
  | .lit _ => 1
  | .nil => 1
  | .ptr d => uptoBulk d + 1
  | .slice elems spare => uptoBulkAll elems + uptoBulkAll spare + 1
  | .agg parts => uptoBulkAll parts + 1
  | .iface _ d => uptoBulk d + 1
  | .map entries => uptoBulkEntries entries + 1
  | .held _ => 1
def uptoBulkAll {H : Type} : List (DataW H) → Nat
  | [] => 0
  | d :: r => uptoBulk d + uptoBulkAll r
def uptoBulkEntries {H : Type} : List (Lit × DataW H) → Nat
  | [] => 0
  | x :: r => uptoBulkEntry x + uptoBulkEntries r
def uptoBulkEntry {H : Type} : Lit × DataW H → Nat
  | (.string bytes, d) => bytes.length + uptoBulk d + 1
  | (_, d) => uptoBulk d + 1
 end
def uptoSmall : (H : Type) → List (DataW H) → Bool := fun _ ds => decide (uptoBulkAll ds ≤ 1048576)
def OpenSpec.upto (s : _root_.Go.ChangeSpec) : _root_.Go.OpenSpec := { _root_.Go.OpenSpec.ofChange s with cond := some uptoSmall }

/-- 'postelaw10.ModesTell', WHERE WHAT IT READS IS OF BULK AT MOST 1048576: true; the input reads as it did. -/
def modesTellUptoRow : OpenClaim := { program := "ytdcoodofchielaadoor", sum := "82748fdba597280ba6ab08bc249735ad41fb7e786ea33096f9e40ac6075263b7", func := "poste/postelaw10.ModesTell", spec := "modesTell", named := ["poste/modes.modes"], apart := false, laid := [("poste/modes.modes", laid_poste_modes_modes)], narrowed := true }
def ModesTellUptoSaid : Prop := modesTellUptoRow.holds Tryd.pinned (OpenSpec.upto modesTellSpec)

/-- 'postelaw10.ModesLaws', WHERE WHAT IT READS IS OF BULK AT MOST 1048576: true; the input reads as it did. -/
def modesLawsUptoRow : OpenClaim := { program := "ytdcoodofchielaadoor", sum := "82748fdba597280ba6ab08bc249735ad41fb7e786ea33096f9e40ac6075263b7", func := "poste/postelaw10.ModesLaws", spec := "modesLaws", named := ["poste/modes.modes"], apart := false, laid := [("poste/modes.modes", laid_poste_modes_modes)], narrowed := true }
def ModesLawsUptoSaid : Prop := modesLawsUptoRow.holds Tryd.pinned (OpenSpec.upto modesLawsSpec)

/-- 'postelaw10.ModesAbove', WHERE WHAT IT READS IS OF BULK AT MOST 1048576: true; the input reads as it did. -/
def modesAboveUptoRow : OpenClaim := { program := "ytdcoodofchielaadoor", sum := "82748fdba597280ba6ab08bc249735ad41fb7e786ea33096f9e40ac6075263b7", func := "poste/postelaw10.ModesAbove", spec := "modesAbove", named := ["poste/modes.modes"], apart := false, laid := [("poste/modes.modes", laid_poste_modes_modes)], narrowed := true }
def ModesAboveUptoSaid : Prop := modesAboveUptoRow.holds Tryd.pinned (OpenSpec.upto modesAboveSpec)

end Rows
end Go.Proofs.YtdcoodofchielaaDoor
