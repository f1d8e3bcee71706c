/-
  DERIVED. GIVEN WITH THE SEED: THE CARDS: each row of YtkmclgbiedbfpabDoorRows.lean that lists a variable, with what it lists TIED to the program's text (the seventh form; the later family's looks); each row that meets fmt, with fmt's text TOLD by the authors' own Lean function (tested against real Go, not proved from fmt's source: count such statements apart). THE CARD IS WHAT COUNTS. Prove the row's statement (the work); the ties are given (YtkmclgbiedbfpabDoorTie.lean); close each card by the builder's one call (the guide's Derived/Test/ToyasCard.lean, 'card_holds'). Laid BY PROGRAM, IN A SANDBOX (cutbox-door.mjs). By AI agents, Wed Nov 11 2026. No macro, syntax, notation, axiom, sorry.
-/
import Derived.Test.YtkmclgbiedbfpabDoorRows
import GoSem.ClaimSeven
namespace Go.Proofs.YtkmclgbiedbfpabDoor
namespace Rows

/-- THE TIED CARD OF 'vigillaw05.ChunkBegins'. -/
def chunkBeginsCard : Claim7 := { stood := { row := chunkBeginsRow, standIns := [], harness := (true, "1bc0318a5d432fd136d60fcd4bbf4ba3159e1138f37b0ef886f93f5160c316c5"), looks := false }, kinds := [], alts := [], laidByText := true, laidKinds := [.data, .data], laidTests := true, laidLooks := .later }
def ChunkBeginsCardSaid : Prop := Claim7.holds Tryd.pinned (.plain (OpenSpec.ofChange chunkBeginsSpec)) chunkBeginsCard

/-- THE SECOND FORM's CARD OF 'vigillaw05.ChunkBegins'. -/
def chunkBeginsUptoCard : Claim7 := { stood := { row := chunkBeginsUptoRow, standIns := [], harness := (true, "1bc0318a5d432fd136d60fcd4bbf4ba3159e1138f37b0ef886f93f5160c316c5"), looks := false }, kinds := [], alts := [], laidByText := true, laidKinds := [.data, .data], laidTests := true, laidLooks := .later }
def ChunkBeginsUptoCardSaid : Prop := Claim7.holds Tryd.pinned (.plain (OpenSpec.upto chunkBeginsSpec)) chunkBeginsUptoCard
end Rows
end Go.Proofs.YtkmclgbiedbfpabDoor
