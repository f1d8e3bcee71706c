/-
  DERIVED. GIVEN WITH THE SEED: THE CARDS: each row of YtmbkcmfcdjccoaaDoorRows.lean that lists a variable, with what it lists TIED to the program's text (the seventh form; the later family's looks); each row that meets fmt, with fmt's text TOLD by the authors' own Lean function (tested against real Go, not proved from fmt's source: count such statements apart). THE CARD IS WHAT COUNTS. Prove the row's statement (the work); the ties are given (YtmbkcmfcdjccoaaDoorTie.lean); close each card by the builder's one call (the guide's Derived/Test/ToyasCard.lean, 'card_holds'). Laid BY PROGRAM, IN A SANDBOX (cutbox-door.mjs). By AI agents, Wed Nov 11 2026. No macro, syntax, notation, axiom, sorry.
-/
import Derived.Test.YtmbkcmfcdjccoaaDoorRows
import GoSem.ClaimSeven
namespace Go.Proofs.YtmbkcmfcdjccoaaDoor
namespace Rows

/-- THE TIED CARD OF 'vigillaw04.RegexQuote'. -/
def regexQuoteCard : Claim7 := { stood := { row := regexQuoteRow, standIns := [], harness := (true, "43e36e7b5d332404c718845e5c630c694a3e0c538d490737c6b7369a54d85f75"), looks := false }, kinds := [], alts := [], laidByText := true, laidKinds := [.data, .pinned], laidTests := true, laidLooks := .later }
def RegexQuoteCardSaid : Prop := Claim7.holds Tryd.pinned (.plain (OpenSpec.ofChange regexQuoteSpec)) regexQuoteCard

/-- THE TIED CARD OF 'vigillaw04.RegexAlgebra'. -/
def regexAlgebraCard : Claim7 := { stood := { row := regexAlgebraRow, standIns := [], harness := (true, "43e36e7b5d332404c718845e5c630c694a3e0c538d490737c6b7369a54d85f75"), looks := false }, kinds := [], alts := [], laidByText := true, laidKinds := [.data, .pinned], laidTests := true, laidLooks := .later }
def RegexAlgebraCardSaid : Prop := Claim7.holds Tryd.pinned (.plain (OpenSpec.ofChange regexAlgebraSpec)) regexAlgebraCard

/-- THE TIED CARD OF 'vigillaw04.RegexRepeats'. -/
def regexRepeatsCard : Claim7 := { stood := { row := regexRepeatsRow, standIns := [], harness := (true, "43e36e7b5d332404c718845e5c630c694a3e0c538d490737c6b7369a54d85f75"), looks := false }, kinds := [], alts := [], laidByText := true, laidKinds := [.data, .pinned], laidTests := true, laidLooks := .later }
def RegexRepeatsCardSaid : Prop := Claim7.holds Tryd.pinned (.plain (OpenSpec.ofChange regexRepeatsSpec)) regexRepeatsCard

/-- THE SECOND FORM's CARD OF 'vigillaw04.RegexQuote'. -/
def regexQuoteUptoCard : Claim7 := { stood := { row := regexQuoteUptoRow, standIns := [], harness := (true, "43e36e7b5d332404c718845e5c630c694a3e0c538d490737c6b7369a54d85f75"), looks := false }, kinds := [], alts := [], laidByText := true, laidKinds := [.data, .pinned], laidTests := true, laidLooks := .later }
def RegexQuoteUptoCardSaid : Prop := Claim7.holds Tryd.pinned (.plain (OpenSpec.upto regexQuoteSpec)) regexQuoteUptoCard

/-- THE SECOND FORM's CARD OF 'vigillaw04.RegexAlgebra'. -/
def regexAlgebraUptoCard : Claim7 := { stood := { row := regexAlgebraUptoRow, standIns := [], harness := (true, "43e36e7b5d332404c718845e5c630c694a3e0c538d490737c6b7369a54d85f75"), looks := false }, kinds := [], alts := [], laidByText := true, laidKinds := [.data, .pinned], laidTests := true, laidLooks := .later }
def RegexAlgebraUptoCardSaid : Prop := Claim7.holds Tryd.pinned (.plain (OpenSpec.upto regexAlgebraSpec)) regexAlgebraUptoCard

/-- THE SECOND FORM's CARD OF 'vigillaw04.RegexRepeats'. -/
def regexRepeatsUptoCard : Claim7 := { stood := { row := regexRepeatsUptoRow, standIns := [], harness := (true, "43e36e7b5d332404c718845e5c630c694a3e0c538d490737c6b7369a54d85f75"), looks := false }, kinds := [], alts := [], laidByText := true, laidKinds := [.data, .pinned], laidTests := true, laidLooks := .later }
def RegexRepeatsUptoCardSaid : Prop := Claim7.holds Tryd.pinned (.plain (OpenSpec.upto regexRepeatsSpec)) regexRepeatsUptoCard
end Rows
end Go.Proofs.YtmbkcmfcdjccoaaDoor
