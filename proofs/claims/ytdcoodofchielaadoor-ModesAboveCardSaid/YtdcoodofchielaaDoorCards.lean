/-
  DERIVED. GIVEN WITH THE SEED: THE CARDS: each row of YtdcoodofchielaaDoorRows.lean that lists a variable, with what it lists TIED to the program's text (the seventh form; the later family's looks); each row that meets fmt, with fmt's text TOLD by the authors' own Lean function (tested against real Go, not proved from fmt's source: count such statements apart). THE CARD IS WHAT COUNTS. Prove the row's statement (the work); the ties are given (YtdcoodofchielaaDoorTie.lean); close each card by the builder's one call (the guide's Derived/Test/ToyasCard.lean, 'card_holds'). Laid BY PROGRAM, IN A SANDBOX (cutbox-door.mjs). By AI agents, Wed Nov 11 2026. No macro, syntax, notation, axiom, sorry.
-/
import Derived.Test.YtdcoodofchielaaDoorRows
import GoSem.ClaimSeven
namespace Go.Proofs.YtdcoodofchielaaDoor
namespace Rows

/-- THE TIED CARD OF 'postelaw10.ModesTell'. -/
def modesTellCard : Claim7 := { stood := { row := modesTellRow, standIns := [], harness := (true, "98dcdf77911ada124cb3081aacc871b465158cbd66d41d8279179a2a98761777"), looks := false }, kinds := [], alts := [], laidByText := true, laidKinds := [.data], laidTests := true, laidLooks := .later }
def ModesTellCardSaid : Prop := Claim7.holds Tryd.pinned (.plain (OpenSpec.ofChange modesTellSpec)) modesTellCard

/-- THE TIED CARD OF 'postelaw10.ModesLaws'. -/
def modesLawsCard : Claim7 := { stood := { row := modesLawsRow, standIns := [], harness := (true, "98dcdf77911ada124cb3081aacc871b465158cbd66d41d8279179a2a98761777"), looks := false }, kinds := [], alts := [], laidByText := true, laidKinds := [.data], laidTests := true, laidLooks := .later }
def ModesLawsCardSaid : Prop := Claim7.holds Tryd.pinned (.plain (OpenSpec.ofChange modesLawsSpec)) modesLawsCard

/-- THE TIED CARD OF 'postelaw10.ModesAbove'. -/
def modesAboveCard : Claim7 := { stood := { row := modesAboveRow, standIns := [], harness := (true, "98dcdf77911ada124cb3081aacc871b465158cbd66d41d8279179a2a98761777"), looks := false }, kinds := [], alts := [], laidByText := true, laidKinds := [.data], laidTests := true, laidLooks := .later }
def ModesAboveCardSaid : Prop := Claim7.holds Tryd.pinned (.plain (OpenSpec.ofChange modesAboveSpec)) modesAboveCard

/-- THE SECOND FORM's CARD OF 'postelaw10.ModesTell'. -/
def modesTellUptoCard : Claim7 := { stood := { row := modesTellUptoRow, standIns := [], harness := (true, "98dcdf77911ada124cb3081aacc871b465158cbd66d41d8279179a2a98761777"), looks := false }, kinds := [], alts := [], laidByText := true, laidKinds := [.data], laidTests := true, laidLooks := .later }
def ModesTellUptoCardSaid : Prop := Claim7.holds Tryd.pinned (.plain (OpenSpec.upto modesTellSpec)) modesTellUptoCard

/-- THE SECOND FORM's CARD OF 'postelaw10.ModesLaws'. -/
def modesLawsUptoCard : Claim7 := { stood := { row := modesLawsUptoRow, standIns := [], harness := (true, "98dcdf77911ada124cb3081aacc871b465158cbd66d41d8279179a2a98761777"), looks := false }, kinds := [], alts := [], laidByText := true, laidKinds := [.data], laidTests := true, laidLooks := .later }
def ModesLawsUptoCardSaid : Prop := Claim7.holds Tryd.pinned (.plain (OpenSpec.upto modesLawsSpec)) modesLawsUptoCard

/-- THE SECOND FORM's CARD OF 'postelaw10.ModesAbove'. -/
def modesAboveUptoCard : Claim7 := { stood := { row := modesAboveUptoRow, standIns := [], harness := (true, "98dcdf77911ada124cb3081aacc871b465158cbd66d41d8279179a2a98761777"), looks := false }, kinds := [], alts := [], laidByText := true, laidKinds := [.data], laidTests := true, laidLooks := .later }
def ModesAboveUptoCardSaid : Prop := Claim7.holds Tryd.pinned (.plain (OpenSpec.upto modesAboveSpec)) modesAboveUptoCard
end Rows
end Go.Proofs.YtdcoodofchielaaDoor
