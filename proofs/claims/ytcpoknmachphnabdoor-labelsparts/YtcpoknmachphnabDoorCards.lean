/-
  DERIVED. GIVEN WITH THE SEED: THE CARDS: each row of YtcpoknmachphnabDoorRows.lean that lists a variable, with what it lists TIED to the program's text (the seventh form; the later family's looks); each row that meets fmt, with fmt's text TOLD by the authors' own Lean function (tested against real Go, not proved from fmt's source: count such statements apart). THE CARD IS WHAT COUNTS. Prove the row's statement (the work); the ties are given (YtcpoknmachphnabDoorTie.lean); close each card by the builder's one call (the guide's Derived/Test/ToyasCard.lean, 'card_holds'). Laid BY PROGRAM, IN A SANDBOX (cutbox-door.mjs). By AI agents, Wed Nov 11 2026. No macro, syntax, notation, axiom, sorry.
-/
import Derived.Test.YtcpoknmachphnabDoorRows
import GoSem.ClaimSeven
namespace Go.Proofs.YtcpoknmachphnabDoor
namespace Rows

/-- THE TIED CARD OF 'vigillaw02.LabelsAll'. -/
def labelsAllCard : Claim7 := { stood := { row := labelsAllRow, standIns := [], harness := (true, "8527cc87274c347f42c683720316024ca5183971906119a620d71e588ba5042d"), looks := false }, kinds := [], alts := [], laidByText := true, laidKinds := [.data, .pinned], laidTests := true, laidLooks := .later }
def LabelsAllCardSaid : Prop := Claim7.holds Tryd.pinned (.plain (OpenSpec.ofChange labelsAllSpec)) labelsAllCard

/-- THE TIED CARD OF 'vigillaw02.LabelsNames'. -/
def labelsNamesCard : Claim7 := { stood := { row := labelsNamesRow, standIns := [], harness := (true, "8527cc87274c347f42c683720316024ca5183971906119a620d71e588ba5042d"), looks := false }, kinds := [], alts := [], laidByText := true, laidKinds := [.data, .pinned], laidTests := true, laidLooks := .later }
def LabelsNamesCardSaid : Prop := Claim7.holds Tryd.pinned (.plain (OpenSpec.ofChange labelsNamesSpec)) labelsNamesCard

/-- THE TIED CARD OF 'vigillaw02.LabelsParts'. -/
def labelsPartsCard : Claim7 := { stood := { row := labelsPartsRow, standIns := [], harness := (true, "8527cc87274c347f42c683720316024ca5183971906119a620d71e588ba5042d"), looks := false }, kinds := [], alts := [], laidByText := true, laidKinds := [.data, .pinned], laidTests := true, laidLooks := .later }
def LabelsPartsCardSaid : Prop := Claim7.holds Tryd.pinned (.plain (OpenSpec.ofChange labelsPartsSpec)) labelsPartsCard

/-- THE SECOND FORM's CARD OF 'vigillaw02.LabelsAll'. -/
def labelsAllUptoCard : Claim7 := { stood := { row := labelsAllUptoRow, standIns := [], harness := (true, "8527cc87274c347f42c683720316024ca5183971906119a620d71e588ba5042d"), looks := false }, kinds := [], alts := [], laidByText := true, laidKinds := [.data, .pinned], laidTests := true, laidLooks := .later }
def LabelsAllUptoCardSaid : Prop := Claim7.holds Tryd.pinned (.plain (OpenSpec.upto labelsAllSpec)) labelsAllUptoCard

/-- THE SECOND FORM's CARD OF 'vigillaw02.LabelsNames'. -/
def labelsNamesUptoCard : Claim7 := { stood := { row := labelsNamesUptoRow, standIns := [], harness := (true, "8527cc87274c347f42c683720316024ca5183971906119a620d71e588ba5042d"), looks := false }, kinds := [], alts := [], laidByText := true, laidKinds := [.data, .pinned], laidTests := true, laidLooks := .later }
def LabelsNamesUptoCardSaid : Prop := Claim7.holds Tryd.pinned (.plain (OpenSpec.upto labelsNamesSpec)) labelsNamesUptoCard

/-- THE SECOND FORM's CARD OF 'vigillaw02.LabelsParts'. -/
def labelsPartsUptoCard : Claim7 := { stood := { row := labelsPartsUptoRow, standIns := [], harness := (true, "8527cc87274c347f42c683720316024ca5183971906119a620d71e588ba5042d"), looks := false }, kinds := [], alts := [], laidByText := true, laidKinds := [.data, .pinned], laidTests := true, laidLooks := .later }
def LabelsPartsUptoCardSaid : Prop := Claim7.holds Tryd.pinned (.plain (OpenSpec.upto labelsPartsSpec)) labelsPartsUptoCard
end Rows
end Go.Proofs.YtcpoknmachphnabDoor
