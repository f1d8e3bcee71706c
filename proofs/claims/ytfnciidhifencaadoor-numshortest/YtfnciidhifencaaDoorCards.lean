/-
  DERIVED. GIVEN WITH THE SEED: THE CARDS: each row of YtfnciidhifencaaDoorRows.lean that lists a variable, with what it lists TIED to the program's text (the seventh form; the later family's looks); each row that meets fmt, with fmt's text TOLD by the authors' own Lean function (tested against real Go, not proved from fmt's source: count such statements apart). THE CARD IS WHAT COUNTS. Prove the row's statement (the work); the ties are given (YtfnciidhifencaaDoorTie.lean); close each card by the builder's one call (the guide's Derived/Test/ToyasCard.lean, 'card_holds'). Laid BY PROGRAM, IN A SANDBOX (cutbox-door.mjs). By AI agents, Wed Nov 11 2026. No macro, syntax, notation, axiom, sorry.
-/
import Derived.Test.YtfnciidhifencaaDoorRows
import GoSem.ClaimSeven
namespace Go.Proofs.YtfnciidhifencaaDoor
namespace Rows

/-- THE TIED CARD OF 'vigillaw03.NumNext'. -/
def numNextCard : Claim7 := { stood := { row := numNextRow, standIns := [], harness := (true, "8a4c67763176038ef62667518a484f8a7b642aef653381b86bf1c72397107a03"), looks := false }, kinds := [], alts := [], laidByText := true, laidKinds := [.data, .data, .data, .data], laidTests := true, laidLooks := .later }
def NumNextCardSaid : Prop := Claim7.holds Tryd.pinned (.plain (OpenSpec.ofChange numNextSpec)) numNextCard

/-- THE TIED CARD OF 'vigillaw03.NumShortest'. -/
def numShortestCard : Claim7 := { stood := { row := numShortestRow, standIns := [], harness := (true, "8a4c67763176038ef62667518a484f8a7b642aef653381b86bf1c72397107a03"), looks := false }, kinds := [], alts := [], laidByText := true, laidKinds := [.data, .data, .data, .data], laidTests := true, laidLooks := .later }
def NumShortestCardSaid : Prop := Claim7.holds Tryd.pinned (.plain (OpenSpec.ofChange numShortestSpec)) numShortestCard

/-- THE TIED CARD OF 'vigillaw03.NumMonotone'. -/
def numMonotoneCard : Claim7 := { stood := { row := numMonotoneRow, standIns := [], harness := (true, "8a4c67763176038ef62667518a484f8a7b642aef653381b86bf1c72397107a03"), looks := false }, kinds := [], alts := [], laidByText := true, laidKinds := [.data, .data, .data, .data], laidTests := true, laidLooks := .later }
def NumMonotoneCardSaid : Prop := Claim7.holds Tryd.pinned (.plain (OpenSpec.ofChange numMonotoneSpec)) numMonotoneCard

/-- THE SECOND FORM's CARD OF 'vigillaw03.NumNext'. -/
def numNextUptoCard : Claim7 := { stood := { row := numNextUptoRow, standIns := [], harness := (true, "8a4c67763176038ef62667518a484f8a7b642aef653381b86bf1c72397107a03"), looks := false }, kinds := [], alts := [], laidByText := true, laidKinds := [.data, .data, .data, .data], laidTests := true, laidLooks := .later }
def NumNextUptoCardSaid : Prop := Claim7.holds Tryd.pinned (.plain (OpenSpec.upto numNextSpec)) numNextUptoCard

/-- THE SECOND FORM's CARD OF 'vigillaw03.NumShortest'. -/
def numShortestUptoCard : Claim7 := { stood := { row := numShortestUptoRow, standIns := [], harness := (true, "8a4c67763176038ef62667518a484f8a7b642aef653381b86bf1c72397107a03"), looks := false }, kinds := [], alts := [], laidByText := true, laidKinds := [.data, .data, .data, .data], laidTests := true, laidLooks := .later }
def NumShortestUptoCardSaid : Prop := Claim7.holds Tryd.pinned (.plain (OpenSpec.upto numShortestSpec)) numShortestUptoCard

/-- THE SECOND FORM's CARD OF 'vigillaw03.NumMonotone'. -/
def numMonotoneUptoCard : Claim7 := { stood := { row := numMonotoneUptoRow, standIns := [], harness := (true, "8a4c67763176038ef62667518a484f8a7b642aef653381b86bf1c72397107a03"), looks := false }, kinds := [], alts := [], laidByText := true, laidKinds := [.data, .data, .data, .data], laidTests := true, laidLooks := .later }
def NumMonotoneUptoCardSaid : Prop := Claim7.holds Tryd.pinned (.plain (OpenSpec.upto numMonotoneSpec)) numMonotoneUptoCard
end Rows
end Go.Proofs.YtfnciidhifencaaDoor
