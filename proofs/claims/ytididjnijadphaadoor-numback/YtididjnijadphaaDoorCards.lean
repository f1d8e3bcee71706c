/-
  DERIVED. GIVEN WITH THE SEED: THE CARDS: each row of YtididjnijadphaaDoorRows.lean that lists a variable, with what it lists TIED to the program's text (the seventh form; the later family's looks); each row that meets fmt, with fmt's text TOLD by the authors' own Lean function (tested against real Go, not proved from fmt's source: count such statements apart). THE CARD IS WHAT COUNTS. Prove the row's statement (the work); the ties are given (YtididjnijadphaaDoorTie.lean); close each card by the builder's one call (the guide's Derived/Test/ToyasCard.lean, 'card_holds'). Laid BY PROGRAM, IN A SANDBOX (cutbox-door.mjs). By AI agents, Wed Nov 11 2026. No macro, syntax, notation, axiom, sorry.
-/
import Derived.Test.YtididjnijadphaaDoorRows
import GoSem.ClaimSeven
namespace Go.Proofs.YtididjnijadphaaDoor
namespace Rows

/-- THE TIED CARD OF 'vigillaw03.NumBack'. -/
def numBackCard : Claim7 := { stood := { row := numBackRow, standIns := [], harness := (true, "ebaaa2e26dcec456ee21cb62b7dce7fccb5542fec969a4817385c39bd05561ac"), looks := false }, kinds := [], alts := [], laidByText := true, laidKinds := [.data, .data, .data, .data], laidTests := true, laidLooks := .later }
def NumBackCardSaid : Prop := Claim7.holds Tryd.pinned (.plain (OpenSpec.ofChange numBackSpec)) numBackCard

/-- THE TIED CARD OF 'vigillaw03.NumShortest'. -/
def numShortestCard : Claim7 := { stood := { row := numShortestRow, standIns := [], harness := (true, "ebaaa2e26dcec456ee21cb62b7dce7fccb5542fec969a4817385c39bd05561ac"), looks := false }, kinds := [], alts := [], laidByText := true, laidKinds := [.data, .data, .data, .data], laidTests := true, laidLooks := .later }
def NumShortestCardSaid : Prop := Claim7.holds Tryd.pinned (.plain (OpenSpec.ofChange numShortestSpec)) numShortestCard

/-- THE SECOND FORM's CARD OF 'vigillaw03.NumBack'. -/
def numBackUptoCard : Claim7 := { stood := { row := numBackUptoRow, standIns := [], harness := (true, "ebaaa2e26dcec456ee21cb62b7dce7fccb5542fec969a4817385c39bd05561ac"), looks := false }, kinds := [], alts := [], laidByText := true, laidKinds := [.data, .data, .data, .data], laidTests := true, laidLooks := .later }
def NumBackUptoCardSaid : Prop := Claim7.holds Tryd.pinned (.plain (OpenSpec.upto numBackSpec)) numBackUptoCard

/-- THE SECOND FORM's CARD OF 'vigillaw03.NumShortest'. -/
def numShortestUptoCard : Claim7 := { stood := { row := numShortestUptoRow, standIns := [], harness := (true, "ebaaa2e26dcec456ee21cb62b7dce7fccb5542fec969a4817385c39bd05561ac"), looks := false }, kinds := [], alts := [], laidByText := true, laidKinds := [.data, .data, .data, .data], laidTests := true, laidLooks := .later }
def NumShortestUptoCardSaid : Prop := Claim7.holds Tryd.pinned (.plain (OpenSpec.upto numShortestSpec)) numShortestUptoCard
end Rows
end Go.Proofs.YtididjnijadphaaDoor
