/-
  DERIVED. GIVEN WITH THE SEED: THE CARDS: each row of YtnjhhndggfjjdaaDoorRows.lean that lists a variable, with what it lists TIED to the program's text (the seventh form; the later family's looks); each row that meets fmt, with fmt's text TOLD by the authors' own Lean function (tested against real Go, not proved from fmt's source: count such statements apart). THE CARD IS WHAT COUNTS. Prove the row's statement (the work); the ties are given (YtnjhhndggfjjdaaDoorTie.lean); close each card by the builder's one call (the guide's Derived/Test/ToyasCard.lean, 'card_holds'). Laid BY PROGRAM, IN A SANDBOX (cutbox-door.mjs). By AI agents, Wed Nov 11 2026. No macro, syntax, notation, axiom, sorry.
-/
import Derived.Test.YtnjhhndggfjjdaaDoorRows
import GoSem.ClaimSeven
namespace Go.Proofs.YtnjhhndggfjjdaaDoor
namespace Rows

/-- THE TIED CARD OF 'postelaw13.LocksMany'. -/
def locksManyCard : Claim7 := { stood := { row := locksManyRow, standIns := [], harness := (true, "f57bcaec068c1a4b215b781481a22ae8cb889cfaa94999f370da98775770bfe5"), looks := false }, kinds := [], alts := [], laidByText := true, laidKinds := [.data], laidTests := true, laidLooks := .later }
def LocksManyCardSaid : Prop := Claim7.holds Tryd.pinned (.plain (OpenSpec.ofChange locksManySpec)) locksManyCard

/-- THE TIED CARD OF 'postelaw13.LocksFree'. -/
def locksFreeCard : Claim7 := { stood := { row := locksFreeRow, standIns := [], harness := (true, "f57bcaec068c1a4b215b781481a22ae8cb889cfaa94999f370da98775770bfe5"), looks := false }, kinds := [], alts := [], laidByText := true, laidKinds := [.data], laidTests := true, laidLooks := .later }
def LocksFreeCardSaid : Prop := Claim7.holds Tryd.pinned (.plain (OpenSpec.ofChange locksFreeSpec)) locksFreeCard

/-- THE TIED CARD OF 'postelaw13.LocksNames'. -/
def locksNamesCard : Claim7 := { stood := { row := locksNamesRow, standIns := [], harness := (true, "f57bcaec068c1a4b215b781481a22ae8cb889cfaa94999f370da98775770bfe5"), looks := false }, kinds := [], alts := [], laidByText := true, laidKinds := [.data], laidTests := true, laidLooks := .later }
def LocksNamesCardSaid : Prop := Claim7.holds Tryd.pinned (.plain (OpenSpec.ofChange locksNamesSpec)) locksNamesCard

/-- THE TIED CARD OF 'postelaw13.LocksIntents'. -/
def locksIntentsCard : Claim7 := { stood := { row := locksIntentsRow, standIns := [], harness := (true, "f57bcaec068c1a4b215b781481a22ae8cb889cfaa94999f370da98775770bfe5"), looks := false }, kinds := [], alts := [], laidByText := true, laidKinds := [.data], laidTests := true, laidLooks := .later }
def LocksIntentsCardSaid : Prop := Claim7.holds Tryd.pinned (.plain (OpenSpec.ofChange locksIntentsSpec)) locksIntentsCard

/-- THE SECOND FORM's CARD OF 'postelaw13.LocksMany'. -/
def locksManyUptoCard : Claim7 := { stood := { row := locksManyUptoRow, standIns := [], harness := (true, "f57bcaec068c1a4b215b781481a22ae8cb889cfaa94999f370da98775770bfe5"), looks := false }, kinds := [], alts := [], laidByText := true, laidKinds := [.data], laidTests := true, laidLooks := .later }
def LocksManyUptoCardSaid : Prop := Claim7.holds Tryd.pinned (.plain (OpenSpec.upto locksManySpec)) locksManyUptoCard

/-- THE SECOND FORM's CARD OF 'postelaw13.LocksFree'. -/
def locksFreeUptoCard : Claim7 := { stood := { row := locksFreeUptoRow, standIns := [], harness := (true, "f57bcaec068c1a4b215b781481a22ae8cb889cfaa94999f370da98775770bfe5"), looks := false }, kinds := [], alts := [], laidByText := true, laidKinds := [.data], laidTests := true, laidLooks := .later }
def LocksFreeUptoCardSaid : Prop := Claim7.holds Tryd.pinned (.plain (OpenSpec.upto locksFreeSpec)) locksFreeUptoCard

/-- THE SECOND FORM's CARD OF 'postelaw13.LocksNames'. -/
def locksNamesUptoCard : Claim7 := { stood := { row := locksNamesUptoRow, standIns := [], harness := (true, "f57bcaec068c1a4b215b781481a22ae8cb889cfaa94999f370da98775770bfe5"), looks := false }, kinds := [], alts := [], laidByText := true, laidKinds := [.data], laidTests := true, laidLooks := .later }
def LocksNamesUptoCardSaid : Prop := Claim7.holds Tryd.pinned (.plain (OpenSpec.upto locksNamesSpec)) locksNamesUptoCard

/-- THE SECOND FORM's CARD OF 'postelaw13.LocksIntents'. -/
def locksIntentsUptoCard : Claim7 := { stood := { row := locksIntentsUptoRow, standIns := [], harness := (true, "f57bcaec068c1a4b215b781481a22ae8cb889cfaa94999f370da98775770bfe5"), looks := false }, kinds := [], alts := [], laidByText := true, laidKinds := [.data], laidTests := true, laidLooks := .later }
def LocksIntentsUptoCardSaid : Prop := Claim7.holds Tryd.pinned (.plain (OpenSpec.upto locksIntentsSpec)) locksIntentsUptoCard
end Rows
end Go.Proofs.YtnjhhndggfjjdaaDoor
