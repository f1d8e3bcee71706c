/-
  DERIVED. GIVEN WITH THE SEED: THE CARDS: each row of YtfckdleahljdeaaGreatDoorRows.lean that lists a variable, with what it lists TIED to the program's text (the seventh form; the later family's looks); each row that meets fmt, with fmt's text TOLD by the authors' own Lean function (tested against real Go, not proved from fmt's source: count such statements apart). THE CARD IS WHAT COUNTS. Prove the row's statement (the work); the ties are given (YtfckdleahljdeaaGreatDoorTie.lean); close each card by the builder's one call (the guide's Derived/Test/ToyasCard.lean, 'card_holds'). Laid BY PROGRAM, IN A SANDBOX (cutbox-door.mjs). By AI agents, Wed Nov 11 2026. No macro, syntax, notation, axiom, sorry.
-/
import Derived.Test.YtfckdleahljdeaaGreatDoorRows
import GoSem.ClaimSeven
namespace Go.Proofs.YtfckdleahljdeaaGreatDoor
namespace Rows

/-- THE TIED CARD OF 'vigillaw11.ExpoLine'. -/
def expoLineCard : Claim7 := { stood := { row := expoLineRow, standIns := [], harness := (true, "9348f35f9b598de625d9ca516d51dde4834ccad9ecbae83bc5f6eb158a0ac8fa"), looks := true }, kinds := [], alts := [], laidByText := true, laidKinds := [.data, .data, .data, .data, .sentinel, .sentinel, .pinned], laidTests := true, laidLooks := .later }
def ExpoLineCardSaid : Prop := Claim7.holds Tryz.pinned (.plain (OpenSpec.ofChange expoLineSpec)) expoLineCard

/-- THE SECOND FORM's CARD OF 'vigillaw11.ExpoLine'. -/
def expoLineUptoCard : Claim7 := { stood := { row := expoLineUptoRow, standIns := [], harness := (true, "9348f35f9b598de625d9ca516d51dde4834ccad9ecbae83bc5f6eb158a0ac8fa"), looks := true }, kinds := [], alts := [], laidByText := true, laidKinds := [.data, .data, .data, .data, .sentinel, .sentinel, .pinned], laidTests := true, laidLooks := .later }
def ExpoLineUptoCardSaid : Prop := Claim7.holds Tryz.pinned (.plain (OpenSpec.upto expoLineSpec)) expoLineUptoCard
end Rows
end Go.Proofs.YtfckdleahljdeaaGreatDoor
