/-
  DERIVED. GIVEN WITH THE SEED: THE CARDS: each row of YtlfcnekmdojabaaDoorRows.lean that lists a variable, with what it lists TIED to the program's text (the seventh form; the later family's looks); each row that meets fmt, with fmt's text TOLD by the authors' own Lean function (tested against real Go, not proved from fmt's source: count such statements apart). THE CARD IS WHAT COUNTS. Prove the row's statement (the work); the ties are given (YtlfcnekmdojabaaDoorTie.lean); close each card by the builder's one call (the guide's Derived/Test/ToyasCard.lean, 'card_holds'). Laid BY PROGRAM, IN A SANDBOX (cutbox-door.mjs). By AI agents, Wed Nov 11 2026. No macro, syntax, notation, axiom, sorry.
-/
import Derived.Test.YtlfcnekmdojabaaDoorRows
import GoSem.ClaimSeven
namespace Go.Proofs.YtlfcnekmdojabaaDoor
namespace Rows

/-- THE TIED CARD OF 'vigillaw02.LabelsAll'. -/
def labelsAllCard : Claim7 := { stood := { row := labelsAllRow, standIns := [], harness := (true, "b38ff3f1ce39408b1869c99430963e408206828ee4dab9cfc18ca0de3d197df0"), looks := false }, kinds := [], alts := [], laidByText := true, laidKinds := [.data, .pinned], laidTests := true, laidLooks := .later }
def LabelsAllCardSaid : Prop := Claim7.holds Tryd.pinned (.plain (OpenSpec.ofChange labelsAllSpec)) labelsAllCard

/-- THE SECOND FORM's CARD OF 'vigillaw02.LabelsAll'. -/
def labelsAllUptoCard : Claim7 := { stood := { row := labelsAllUptoRow, standIns := [], harness := (true, "b38ff3f1ce39408b1869c99430963e408206828ee4dab9cfc18ca0de3d197df0"), looks := false }, kinds := [], alts := [], laidByText := true, laidKinds := [.data, .pinned], laidTests := true, laidLooks := .later }
def LabelsAllUptoCardSaid : Prop := Claim7.holds Tryd.pinned (.plain (OpenSpec.upto labelsAllSpec)) labelsAllUptoCard
end Rows
end Go.Proofs.YtlfcnekmdojabaaDoor
