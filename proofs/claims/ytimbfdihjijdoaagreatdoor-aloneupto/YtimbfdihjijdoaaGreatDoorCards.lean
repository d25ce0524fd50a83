/-
  DERIVED. GIVEN WITH THE SEED: THE CARDS: each row of YtimbfdihjijdoaaGreatDoorRows.lean that lists a variable, with what it lists TIED to the program's text (the seventh form; the later family's looks); each row that meets fmt, with fmt's text TOLD by the authors' own Lean function (tested against real Go, not proved from fmt's source: count such statements apart). THE CARD IS WHAT COUNTS. Prove the row's statement (the work); the ties are given (YtimbfdihjijdoaaGreatDoorTie.lean); close each card by the builder's one call (the guide's Derived/Test/ToyasCard.lean, 'card_holds'). Laid BY PROGRAM, IN A SANDBOX (cutbox-door.mjs). By AI agents, Wed Nov 11 2026. No macro, syntax, notation, axiom, sorry.
-/
import Derived.Test.YtimbfdihjijdoaaGreatDoorRows
import GoSem.ClaimSeven
namespace Go.Proofs.YtimbfdihjijdoaaGreatDoor
namespace Rows

/-- THE TIED CARD OF 'basketlaw.Alone'. -/
def aloneCard : Claim7 := { stood := { row := aloneRow, standIns := [], harness := (true, "3d1627ab5f5f521b81fe4fdb0ea7cd55f0960a2a9766a46f7b412e7e57ebf684"), looks := false }, kinds := [], alts := [], laidByText := true, laidKinds := [.data, .data, .data], laidTests := true, laidLooks := .later }
def AloneCardSaid : Prop := Claim7.holds Tryz.pinned (.plain (OpenSpec.ofChange aloneSpec)) aloneCard

/-- THE TIED CARD OF 'basketlaw.Sent'. -/
def sentCard : Claim7 := { stood := { row := sentRow, standIns := [], harness := (true, "3d1627ab5f5f521b81fe4fdb0ea7cd55f0960a2a9766a46f7b412e7e57ebf684"), looks := false }, kinds := [], alts := [], laidByText := true, laidKinds := [.data, .data, .data], laidTests := true, laidLooks := .later }
def SentCardSaid : Prop := Claim7.holds Tryz.pinned (.plain (OpenSpec.ofChange sentSpec)) sentCard

/-- THE TIED CARD OF 'basketkeep.Doubled'. -/
def doubledCard : Claim7 := { stood := { row := doubledRow, standIns := [], harness := (true, "3d1627ab5f5f521b81fe4fdb0ea7cd55f0960a2a9766a46f7b412e7e57ebf684"), looks := false }, kinds := [], alts := [], laidByText := true, laidKinds := [.data, .data, .data], laidTests := true, laidLooks := .later }
def DoubledCardSaid : Prop := Claim7.holds Tryz.pinned (.plain (OpenSpec.ofChange doubledSpec)) doubledCard

/-- THE SECOND FORM's CARD OF 'basketlaw.Alone'. -/
def aloneUptoCard : Claim7 := { stood := { row := aloneUptoRow, standIns := [], harness := (true, "3d1627ab5f5f521b81fe4fdb0ea7cd55f0960a2a9766a46f7b412e7e57ebf684"), looks := false }, kinds := [], alts := [], laidByText := true, laidKinds := [.data, .data, .data], laidTests := true, laidLooks := .later }
def AloneUptoCardSaid : Prop := Claim7.holds Tryz.pinned (.plain (OpenSpec.upto aloneSpec)) aloneUptoCard

/-- THE SECOND FORM's CARD OF 'basketlaw.Sent'. -/
def sentUptoCard : Claim7 := { stood := { row := sentUptoRow, standIns := [], harness := (true, "3d1627ab5f5f521b81fe4fdb0ea7cd55f0960a2a9766a46f7b412e7e57ebf684"), looks := false }, kinds := [], alts := [], laidByText := true, laidKinds := [.data, .data, .data], laidTests := true, laidLooks := .later }
def SentUptoCardSaid : Prop := Claim7.holds Tryz.pinned (.plain (OpenSpec.upto sentSpec)) sentUptoCard

/-- THE SECOND FORM's CARD OF 'basketkeep.Doubled'. -/
def doubledUptoCard : Claim7 := { stood := { row := doubledUptoRow, standIns := [], harness := (true, "3d1627ab5f5f521b81fe4fdb0ea7cd55f0960a2a9766a46f7b412e7e57ebf684"), looks := false }, kinds := [], alts := [], laidByText := true, laidKinds := [.data, .data, .data], laidTests := true, laidLooks := .later }
def DoubledUptoCardSaid : Prop := Claim7.holds Tryz.pinned (.plain (OpenSpec.upto doubledSpec)) doubledUptoCard
end Rows
end Go.Proofs.YtimbfdihjijdoaaGreatDoor
