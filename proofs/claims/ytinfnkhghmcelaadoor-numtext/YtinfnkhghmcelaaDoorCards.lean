/-
  DERIVED. GIVEN WITH THE SEED: THE CARDS: each row of YtinfnkhghmcelaaDoorRows.lean that lists a variable, with what it lists TIED to the program's text (the seventh form; the later family's looks); each row that meets fmt, with fmt's text TOLD by the authors' own Lean function (tested against real Go, not proved from fmt's source: count such statements apart). THE CARD IS WHAT COUNTS. Prove the row's statement (the work); the ties are given (YtinfnkhghmcelaaDoorTie.lean); close each card by the builder's one call (the guide's Derived/Test/ToyasCard.lean, 'card_holds'). Laid BY PROGRAM, IN A SANDBOX (cutbox-door.mjs). By AI agents, Wed Nov 11 2026. No macro, syntax, notation, axiom, sorry.
-/
import Derived.Test.YtinfnkhghmcelaaDoorRows
import GoSem.ClaimSeven
namespace Go.Proofs.YtinfnkhghmcelaaDoor
namespace Rows

/-- THE TIED CARD OF 'vigillaw03.NumParse'. -/
def numParseCard : Claim7 := { stood := { row := numParseRow, standIns := [], harness := (true, "5a69767741221934f3f5ad742a9643db274773b4b92d0a1c35a9393c13869634"), looks := false }, kinds := [], alts := [], laidByText := true, laidKinds := [.data, .data, .data, .data], laidTests := true, laidLooks := .later }
def NumParseCardSaid : Prop := Claim7.holds Tryd.pinned (.plain (OpenSpec.ofChange numParseSpec)) numParseCard

/-- THE TIED CARD OF 'vigillaw03.NumText'. -/
def numTextCard : Claim7 := { stood := { row := numTextRow, standIns := [], harness := (true, "5a69767741221934f3f5ad742a9643db274773b4b92d0a1c35a9393c13869634"), looks := false }, kinds := [], alts := [], laidByText := true, laidKinds := [.data, .data, .data, .data], laidTests := true, laidLooks := .later }
def NumTextCardSaid : Prop := Claim7.holds Tryd.pinned (.plain (OpenSpec.ofChange numTextSpec)) numTextCard

/-- THE TIED CARD OF 'vigillaw03.NumNearest'. -/
def numNearestCard : Claim7 := { stood := { row := numNearestRow, standIns := [], harness := (true, "5a69767741221934f3f5ad742a9643db274773b4b92d0a1c35a9393c13869634"), looks := false }, kinds := [], alts := [], laidByText := true, laidKinds := [.data, .data, .data, .data], laidTests := true, laidLooks := .later }
def NumNearestCardSaid : Prop := Claim7.holds Tryd.pinned (.plain (OpenSpec.ofChange numNearestSpec)) numNearestCard

/-- THE SECOND FORM's CARD OF 'vigillaw03.NumParse'. -/
def numParseUptoCard : Claim7 := { stood := { row := numParseUptoRow, standIns := [], harness := (true, "5a69767741221934f3f5ad742a9643db274773b4b92d0a1c35a9393c13869634"), looks := false }, kinds := [], alts := [], laidByText := true, laidKinds := [.data, .data, .data, .data], laidTests := true, laidLooks := .later }
def NumParseUptoCardSaid : Prop := Claim7.holds Tryd.pinned (.plain (OpenSpec.upto numParseSpec)) numParseUptoCard

/-- THE SECOND FORM's CARD OF 'vigillaw03.NumText'. -/
def numTextUptoCard : Claim7 := { stood := { row := numTextUptoRow, standIns := [], harness := (true, "5a69767741221934f3f5ad742a9643db274773b4b92d0a1c35a9393c13869634"), looks := false }, kinds := [], alts := [], laidByText := true, laidKinds := [.data, .data, .data, .data], laidTests := true, laidLooks := .later }
def NumTextUptoCardSaid : Prop := Claim7.holds Tryd.pinned (.plain (OpenSpec.upto numTextSpec)) numTextUptoCard

/-- THE SECOND FORM's CARD OF 'vigillaw03.NumNearest'. -/
def numNearestUptoCard : Claim7 := { stood := { row := numNearestUptoRow, standIns := [], harness := (true, "5a69767741221934f3f5ad742a9643db274773b4b92d0a1c35a9393c13869634"), looks := false }, kinds := [], alts := [], laidByText := true, laidKinds := [.data, .data, .data, .data], laidTests := true, laidLooks := .later }
def NumNearestUptoCardSaid : Prop := Claim7.holds Tryd.pinned (.plain (OpenSpec.upto numNearestSpec)) numNearestUptoCard
end Rows
end Go.Proofs.YtinfnkhghmcelaaDoor
