/-
  DERIVED. GIVEN WITH THE SEED: THE CARDS: each row of YtnniimfinakioaaGreatDoorRows.lean that lists a variable, with what it lists TIED to the program's text (the seventh form; the later family's looks); each row that meets fmt, with fmt's text TOLD by the authors' own Lean function (tested against real Go, not proved from fmt's source: count such statements apart). THE CARD IS WHAT COUNTS. Prove the row's statement (the work); the ties are given (YtnniimfinakioaaGreatDoorTie.lean); close each card by the builder's one call (the guide's Derived/Test/ToyasCard.lean, 'card_holds'). Laid BY PROGRAM, IN A SANDBOX (cutbox-door.mjs). By AI agents, Wed Nov 11 2026. No macro, syntax, notation, axiom, sorry.
-/
import Derived.Test.YtnniimfinakioaaGreatDoorRows
import GoSem.ClaimSeven
namespace Go.Proofs.YtnniimfinakioaaGreatDoor
namespace Rows

/-- THE TIED CARD OF 'basketlaw.Alone'. -/
def aloneCard : Claim7 := { stood := { row := aloneRow, standIns := [], harness := (true, "34904893be4af723d4f6522beefbbe88a9101f5e64c96d059d9c6098ca0677b2"), looks := false }, kinds := [], alts := [], goes := true, laidByText := true, laidKinds := [.data, .data, .data], laidTests := true, laidLooks := .later }
def AloneCardSaid : Prop := Claim7.holds Tryz.pinned (.plain (OpenSpec.ofChange aloneSpec)) aloneCard

/-- THE TIED CARD OF 'basketlaw.Sent'. -/
def sentCard : Claim7 := { stood := { row := sentRow, standIns := [], harness := (true, "34904893be4af723d4f6522beefbbe88a9101f5e64c96d059d9c6098ca0677b2"), looks := false }, kinds := [], alts := [], goes := true, laidByText := true, laidKinds := [.data, .data, .data], laidTests := true, laidLooks := .later }
def SentCardSaid : Prop := Claim7.holds Tryz.pinned (.plain (OpenSpec.ofChange sentSpec)) sentCard

/-- THE TIED CARD OF 'basketkeep.Converged'. -/
def convergedCard : Claim7 := { stood := { row := convergedRow, standIns := [], harness := (true, "34904893be4af723d4f6522beefbbe88a9101f5e64c96d059d9c6098ca0677b2"), looks := false }, kinds := [], alts := [], goes := true, laidByText := true, laidKinds := [.data, .data, .data], laidTests := true, laidLooks := .later }
def ConvergedCardSaid : Prop := Claim7.holds Tryz.pinned (.plain (OpenSpec.ofChange convergedSpec)) convergedCard

/-- THE TIED CARD OF 'basketkeep.Gapless'. -/
def gaplessCard : Claim7 := { stood := { row := gaplessRow, standIns := [], harness := (true, "34904893be4af723d4f6522beefbbe88a9101f5e64c96d059d9c6098ca0677b2"), looks := false }, kinds := [], alts := [], goes := true, laidByText := true, laidKinds := [.data, .data, .data], laidTests := true, laidLooks := .later }
def GaplessCardSaid : Prop := Claim7.holds Tryz.pinned (.plain (OpenSpec.ofChange gaplessSpec)) gaplessCard

/-- THE TIED CARD OF 'basketkeep.Stays'. -/
def staysCard : Claim7 := { stood := { row := staysRow, standIns := [], harness := (true, "34904893be4af723d4f6522beefbbe88a9101f5e64c96d059d9c6098ca0677b2"), looks := false }, kinds := [], alts := [], goes := true, laidByText := true, laidKinds := [.data, .data, .data], laidTests := true, laidLooks := .later }
def StaysCardSaid : Prop := Claim7.holds Tryz.pinned (.plain (OpenSpec.ofChange staysSpec)) staysCard

/-- THE TIED CARD OF 'basketkeep.Goes'. -/
def goesCard : Claim7 := { stood := { row := goesRow, standIns := [], harness := (true, "34904893be4af723d4f6522beefbbe88a9101f5e64c96d059d9c6098ca0677b2"), looks := false }, kinds := [], alts := [], goes := true, laidByText := true, laidKinds := [.data, .data, .data], laidTests := true, laidLooks := .later }
def GoesCardSaid : Prop := Claim7.holds Tryz.pinned (.plain (OpenSpec.ofChange goesSpec)) goesCard

/-- THE TIED CARD OF 'basketkeep.Little'. -/
def littleCard : Claim7 := { stood := { row := littleRow, standIns := [], harness := (true, "34904893be4af723d4f6522beefbbe88a9101f5e64c96d059d9c6098ca0677b2"), looks := false }, kinds := [], alts := [], goes := true, laidByText := true, laidKinds := [.data, .data, .data], laidTests := true, laidLooks := .later }
def LittleCardSaid : Prop := Claim7.holds Tryz.pinned (.plain (OpenSpec.ofChange littleSpec)) littleCard

/-- THE TIED CARD OF 'basketkeep.Doubled'. -/
def doubledCard : Claim7 := { stood := { row := doubledRow, standIns := [], harness := (true, "34904893be4af723d4f6522beefbbe88a9101f5e64c96d059d9c6098ca0677b2"), looks := false }, kinds := [], alts := [], goes := true, laidByText := true, laidKinds := [.data, .data, .data], laidTests := true, laidLooks := .later }
def DoubledCardSaid : Prop := Claim7.holds Tryz.pinned (.plain (OpenSpec.ofChange doubledSpec)) doubledCard

/-- THE TIED CARD OF 'basketlaw.All'. -/
def allCard : Claim7 := { stood := { row := allRow, standIns := [], harness := (true, "34904893be4af723d4f6522beefbbe88a9101f5e64c96d059d9c6098ca0677b2"), looks := false }, kinds := [], alts := [], goes := true, laidByText := true, laidKinds := [.data, .data, .data], laidTests := true, laidLooks := .later }
def AllCardSaid : Prop := Claim7.holds Tryz.pinned (.plain (OpenSpec.ofChange allSpec)) allCard

/-- THE SECOND FORM's CARD OF 'basketlaw.Alone'. -/
def aloneUptoCard : Claim7 := { stood := { row := aloneUptoRow, standIns := [], harness := (true, "34904893be4af723d4f6522beefbbe88a9101f5e64c96d059d9c6098ca0677b2"), looks := false }, kinds := [], alts := [], goes := true, laidByText := true, laidKinds := [.data, .data, .data], laidTests := true, laidLooks := .later }
def AloneUptoCardSaid : Prop := Claim7.holds Tryz.pinned (.plain (OpenSpec.upto aloneSpec)) aloneUptoCard

/-- THE SECOND FORM's CARD OF 'basketlaw.Sent'. -/
def sentUptoCard : Claim7 := { stood := { row := sentUptoRow, standIns := [], harness := (true, "34904893be4af723d4f6522beefbbe88a9101f5e64c96d059d9c6098ca0677b2"), looks := false }, kinds := [], alts := [], goes := true, laidByText := true, laidKinds := [.data, .data, .data], laidTests := true, laidLooks := .later }
def SentUptoCardSaid : Prop := Claim7.holds Tryz.pinned (.plain (OpenSpec.upto sentSpec)) sentUptoCard

/-- THE SECOND FORM's CARD OF 'basketkeep.Converged'. -/
def convergedUptoCard : Claim7 := { stood := { row := convergedUptoRow, standIns := [], harness := (true, "34904893be4af723d4f6522beefbbe88a9101f5e64c96d059d9c6098ca0677b2"), looks := false }, kinds := [], alts := [], goes := true, laidByText := true, laidKinds := [.data, .data, .data], laidTests := true, laidLooks := .later }
def ConvergedUptoCardSaid : Prop := Claim7.holds Tryz.pinned (.plain (OpenSpec.upto convergedSpec)) convergedUptoCard

/-- THE SECOND FORM's CARD OF 'basketkeep.Gapless'. -/
def gaplessUptoCard : Claim7 := { stood := { row := gaplessUptoRow, standIns := [], harness := (true, "34904893be4af723d4f6522beefbbe88a9101f5e64c96d059d9c6098ca0677b2"), looks := false }, kinds := [], alts := [], goes := true, laidByText := true, laidKinds := [.data, .data, .data], laidTests := true, laidLooks := .later }
def GaplessUptoCardSaid : Prop := Claim7.holds Tryz.pinned (.plain (OpenSpec.upto gaplessSpec)) gaplessUptoCard

/-- THE SECOND FORM's CARD OF 'basketkeep.Stays'. -/
def staysUptoCard : Claim7 := { stood := { row := staysUptoRow, standIns := [], harness := (true, "34904893be4af723d4f6522beefbbe88a9101f5e64c96d059d9c6098ca0677b2"), looks := false }, kinds := [], alts := [], goes := true, laidByText := true, laidKinds := [.data, .data, .data], laidTests := true, laidLooks := .later }
def StaysUptoCardSaid : Prop := Claim7.holds Tryz.pinned (.plain (OpenSpec.upto staysSpec)) staysUptoCard

/-- THE SECOND FORM's CARD OF 'basketkeep.Goes'. -/
def goesUptoCard : Claim7 := { stood := { row := goesUptoRow, standIns := [], harness := (true, "34904893be4af723d4f6522beefbbe88a9101f5e64c96d059d9c6098ca0677b2"), looks := false }, kinds := [], alts := [], goes := true, laidByText := true, laidKinds := [.data, .data, .data], laidTests := true, laidLooks := .later }
def GoesUptoCardSaid : Prop := Claim7.holds Tryz.pinned (.plain (OpenSpec.upto goesSpec)) goesUptoCard

/-- THE SECOND FORM's CARD OF 'basketkeep.Little'. -/
def littleUptoCard : Claim7 := { stood := { row := littleUptoRow, standIns := [], harness := (true, "34904893be4af723d4f6522beefbbe88a9101f5e64c96d059d9c6098ca0677b2"), looks := false }, kinds := [], alts := [], goes := true, laidByText := true, laidKinds := [.data, .data, .data], laidTests := true, laidLooks := .later }
def LittleUptoCardSaid : Prop := Claim7.holds Tryz.pinned (.plain (OpenSpec.upto littleSpec)) littleUptoCard

/-- THE SECOND FORM's CARD OF 'basketkeep.Doubled'. -/
def doubledUptoCard : Claim7 := { stood := { row := doubledUptoRow, standIns := [], harness := (true, "34904893be4af723d4f6522beefbbe88a9101f5e64c96d059d9c6098ca0677b2"), looks := false }, kinds := [], alts := [], goes := true, laidByText := true, laidKinds := [.data, .data, .data], laidTests := true, laidLooks := .later }
def DoubledUptoCardSaid : Prop := Claim7.holds Tryz.pinned (.plain (OpenSpec.upto doubledSpec)) doubledUptoCard

/-- THE SECOND FORM's CARD OF 'basketlaw.All'. -/
def allUptoCard : Claim7 := { stood := { row := allUptoRow, standIns := [], harness := (true, "34904893be4af723d4f6522beefbbe88a9101f5e64c96d059d9c6098ca0677b2"), looks := false }, kinds := [], alts := [], goes := true, laidByText := true, laidKinds := [.data, .data, .data], laidTests := true, laidLooks := .later }
def AllUptoCardSaid : Prop := Claim7.holds Tryz.pinned (.plain (OpenSpec.upto allSpec)) allUptoCard
end Rows
end Go.Proofs.YtnniimfinakioaaGreatDoor
