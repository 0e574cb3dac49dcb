/-
  DERIVED. GIVEN WITH THE SEED: THE CARDS: each row of YtillbjaejdkfdaaDoorRows.lean that lists a variable, with what it lists TIED to the program's text (the seventh form; the later family's looks); each row that meets fmt, with fmt's text TOLD by the authors' own Lean function (tested against real Go, not proved from fmt's source: count such statements apart). THE CARD IS WHAT COUNTS. Prove the row's statement (the work); the ties are given (YtillbjaejdkfdaaDoorTie.lean); close each card by the builder's one call (the guide's Derived/Test/ToyasCard.lean, 'card_holds'). Laid BY PROGRAM, IN A SANDBOX (cutbox-door.mjs). By AI agents, Wed Nov 11 2026. No macro, syntax, notation, axiom, sorry.
-/
import Derived.Test.YtillbjaejdkfdaaDoorRows
import GoSem.ClaimSeven
namespace Go.Proofs.YtillbjaejdkfdaaDoor
namespace Rows

/-- THE TIED CARD OF 'postelaw11.GrantPlays'. -/
def grantPlaysCard : Claim7 := { stood := { row := grantPlaysRow, standIns := [], harness := (true, "fec7800b7d91c069ca9e1b1b2779644424a1b4488a35d43844181d809ccddd2e"), looks := false }, kinds := [], alts := [], laidByText := true, laidKinds := [.data], laidTests := true, laidLooks := .later }
def GrantPlaysCardSaid : Prop := Claim7.holds Tryd.pinned (.plain (OpenSpec.ofChange grantPlaysSpec)) grantPlaysCard

/-- THE TIED CARD OF 'postelaw11.GrantFits'. -/
def grantFitsCard : Claim7 := { stood := { row := grantFitsRow, standIns := [], harness := (true, "fec7800b7d91c069ca9e1b1b2779644424a1b4488a35d43844181d809ccddd2e"), looks := false }, kinds := [], alts := [], laidByText := true, laidKinds := [.data], laidTests := true, laidLooks := .later }
def GrantFitsCardSaid : Prop := Claim7.holds Tryd.pinned (.plain (OpenSpec.ofChange grantFitsSpec)) grantFitsCard

/-- THE TIED CARD OF 'postelaw11.GrantLine'. -/
def grantLineCard : Claim7 := { stood := { row := grantLineRow, standIns := [], harness := (true, "fec7800b7d91c069ca9e1b1b2779644424a1b4488a35d43844181d809ccddd2e"), looks := false }, kinds := [], alts := [], laidByText := true, laidKinds := [.data], laidTests := true, laidLooks := .later }
def GrantLineCardSaid : Prop := Claim7.holds Tryd.pinned (.plain (OpenSpec.ofChange grantLineSpec)) grantLineCard

/-- THE TIED CARD OF 'postelaw11.GrantMore'. -/
def grantMoreCard : Claim7 := { stood := { row := grantMoreRow, standIns := [], harness := (true, "fec7800b7d91c069ca9e1b1b2779644424a1b4488a35d43844181d809ccddd2e"), looks := false }, kinds := [], alts := [], laidByText := true, laidKinds := [.data], laidTests := true, laidLooks := .later }
def GrantMoreCardSaid : Prop := Claim7.holds Tryd.pinned (.plain (OpenSpec.ofChange grantMoreSpec)) grantMoreCard

/-- THE TIED CARD OF 'postelaw11.GrantAgain'. -/
def grantAgainCard : Claim7 := { stood := { row := grantAgainRow, standIns := [], harness := (true, "fec7800b7d91c069ca9e1b1b2779644424a1b4488a35d43844181d809ccddd2e"), looks := false }, kinds := [], alts := [], laidByText := true, laidKinds := [.data], laidTests := true, laidLooks := .later }
def GrantAgainCardSaid : Prop := Claim7.holds Tryd.pinned (.plain (OpenSpec.ofChange grantAgainSpec)) grantAgainCard

/-- THE SECOND FORM's CARD OF 'postelaw11.GrantPlays'. -/
def grantPlaysUptoCard : Claim7 := { stood := { row := grantPlaysUptoRow, standIns := [], harness := (true, "fec7800b7d91c069ca9e1b1b2779644424a1b4488a35d43844181d809ccddd2e"), looks := false }, kinds := [], alts := [], laidByText := true, laidKinds := [.data], laidTests := true, laidLooks := .later }
def GrantPlaysUptoCardSaid : Prop := Claim7.holds Tryd.pinned (.plain (OpenSpec.upto grantPlaysSpec)) grantPlaysUptoCard

/-- THE SECOND FORM's CARD OF 'postelaw11.GrantFits'. -/
def grantFitsUptoCard : Claim7 := { stood := { row := grantFitsUptoRow, standIns := [], harness := (true, "fec7800b7d91c069ca9e1b1b2779644424a1b4488a35d43844181d809ccddd2e"), looks := false }, kinds := [], alts := [], laidByText := true, laidKinds := [.data], laidTests := true, laidLooks := .later }
def GrantFitsUptoCardSaid : Prop := Claim7.holds Tryd.pinned (.plain (OpenSpec.upto grantFitsSpec)) grantFitsUptoCard

/-- THE SECOND FORM's CARD OF 'postelaw11.GrantLine'. -/
def grantLineUptoCard : Claim7 := { stood := { row := grantLineUptoRow, standIns := [], harness := (true, "fec7800b7d91c069ca9e1b1b2779644424a1b4488a35d43844181d809ccddd2e"), looks := false }, kinds := [], alts := [], laidByText := true, laidKinds := [.data], laidTests := true, laidLooks := .later }
def GrantLineUptoCardSaid : Prop := Claim7.holds Tryd.pinned (.plain (OpenSpec.upto grantLineSpec)) grantLineUptoCard

/-- THE SECOND FORM's CARD OF 'postelaw11.GrantMore'. -/
def grantMoreUptoCard : Claim7 := { stood := { row := grantMoreUptoRow, standIns := [], harness := (true, "fec7800b7d91c069ca9e1b1b2779644424a1b4488a35d43844181d809ccddd2e"), looks := false }, kinds := [], alts := [], laidByText := true, laidKinds := [.data], laidTests := true, laidLooks := .later }
def GrantMoreUptoCardSaid : Prop := Claim7.holds Tryd.pinned (.plain (OpenSpec.upto grantMoreSpec)) grantMoreUptoCard

/-- THE SECOND FORM's CARD OF 'postelaw11.GrantAgain'. -/
def grantAgainUptoCard : Claim7 := { stood := { row := grantAgainUptoRow, standIns := [], harness := (true, "fec7800b7d91c069ca9e1b1b2779644424a1b4488a35d43844181d809ccddd2e"), looks := false }, kinds := [], alts := [], laidByText := true, laidKinds := [.data], laidTests := true, laidLooks := .later }
def GrantAgainUptoCardSaid : Prop := Claim7.holds Tryd.pinned (.plain (OpenSpec.upto grantAgainSpec)) grantAgainUptoCard
end Rows
end Go.Proofs.YtillbjaejdkfdaaDoor
