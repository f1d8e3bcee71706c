/-
  DERIVED. GIVEN WITH THE SEED: THE CARDS: each row of YtjefpmahdnppjaaDoorRows.lean that lists a variable, with what it lists TIED to the program's text (the seventh form; the later family's looks); each row that meets fmt, with fmt's text TOLD by the authors' own Lean function (tested against real Go, not proved from fmt's source: count such statements apart). THE CARD IS WHAT COUNTS. Prove the row's statement (the work); the ties are given (YtjefpmahdnppjaaDoorTie.lean); close each card by the builder's one call (the guide's Derived/Test/ToyasCard.lean, 'card_holds'). Laid BY PROGRAM, IN A SANDBOX (cutbox-door.mjs). By AI agents, Wed Nov 11 2026. No macro, syntax, notation, axiom, sorry.
-/
import Derived.Test.YtjefpmahdnppjaaDoorRows
import GoSem.ClaimSeven
namespace Go.Proofs.YtjefpmahdnppjaaDoor
namespace Rows

/-- THE TIED CARD OF 'vigillaw04.RegexClass'. -/
def regexClassCard : Claim7 := { stood := { row := regexClassRow, standIns := [], harness := (true, "4363f663bbdee279d5873deab6383ffcf2180da1c889818a7c69606b0d4ef0e8"), looks := false }, kinds := [], alts := [], laidByText := true, laidKinds := [.data, .pinned], laidTests := true, laidLooks := .later }
def RegexClassCardSaid : Prop := Claim7.holds Tryd.pinned (.plain (OpenSpec.ofChange regexClassSpec)) regexClassCard

/-- THE SECOND FORM's CARD OF 'vigillaw04.RegexClass'. -/
def regexClassUptoCard : Claim7 := { stood := { row := regexClassUptoRow, standIns := [], harness := (true, "4363f663bbdee279d5873deab6383ffcf2180da1c889818a7c69606b0d4ef0e8"), looks := false }, kinds := [], alts := [], laidByText := true, laidKinds := [.data, .pinned], laidTests := true, laidLooks := .later }
def RegexClassUptoCardSaid : Prop := Claim7.holds Tryd.pinned (.plain (OpenSpec.upto regexClassSpec)) regexClassUptoCard
end Rows
end Go.Proofs.YtjefpmahdnppjaaDoor
