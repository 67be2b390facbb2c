/-
  DERIVED. GIVEN WITH THE SEED: THE CARDS: each row of YtpiopdpebjkphaaDoorRows.lean that lists a variable, with what it lists TIED to the program's text (the seventh form; the later family's looks); each row that meets fmt, with fmt's text TOLD by the authors' own Lean function (tested against real Go, not proved from fmt's source: count such statements apart). THE CARD IS WHAT COUNTS. Prove the row's statement (the work); the ties are given (YtpiopdpebjkphaaDoorTie.lean); close each card by the builder's one call (the guide's Derived/Test/ToyasCard.lean, 'card_holds'). Laid BY PROGRAM, IN A SANDBOX (cutbox-door.mjs). By AI agents, Wed Nov 11 2026. No macro, syntax, notation, axiom, sorry.
-/
import Derived.Test.YtpiopdpebjkphaaDoorRows
import GoSem.ClaimSeven
namespace Go.Proofs.YtpiopdpebjkphaaDoor
namespace Rows

/-- THE TIED CARD OF 'syntagmalaw01.WrapSums'. -/
def wrapSumsCard : Claim7 := { stood := { row := wrapSumsRow, standIns := [], harness := (true, "07c0da3c569cdcee4a152ce3940b77d5f85a9473db36b85cad3b43d8f664771c"), looks := false }, kinds := [], alts := [], laidByText := true, laidKinds := [.data, .data, .data], laidTests := true, laidLooks := .later }
def WrapSumsCardSaid : Prop := Claim7.holds Tryd.pinned (.plain (OpenSpec.ofChange wrapSumsSpec)) wrapSumsCard

/-- THE TIED CARD OF 'syntagmalaw01.WrapPrims'. -/
def wrapPrimsCard : Claim7 := { stood := { row := wrapPrimsRow, standIns := [], harness := (true, "07c0da3c569cdcee4a152ce3940b77d5f85a9473db36b85cad3b43d8f664771c"), looks := false }, kinds := [], alts := [], laidByText := true, laidKinds := [.data, .data, .data], laidTests := true, laidLooks := .later }
def WrapPrimsCardSaid : Prop := Claim7.holds Tryd.pinned (.plain (OpenSpec.ofChange wrapPrimsSpec)) wrapPrimsCard

/-- THE TIED CARD OF 'syntagmalaw01.WrapTexts'. -/
def wrapTextsCard : Claim7 := { stood := { row := wrapTextsRow, standIns := [], harness := (true, "07c0da3c569cdcee4a152ce3940b77d5f85a9473db36b85cad3b43d8f664771c"), looks := false }, kinds := [], alts := [], laidByText := true, laidKinds := [.data, .data, .data], laidTests := true, laidLooks := .later }
def WrapTextsCardSaid : Prop := Claim7.holds Tryd.pinned (.plain (OpenSpec.ofChange wrapTextsSpec)) wrapTextsCard

/-- THE TIED CARD OF 'syntagmalaw01.WrapBack'. -/
def wrapBackCard : Claim7 := { stood := { row := wrapBackRow, standIns := [], harness := (true, "07c0da3c569cdcee4a152ce3940b77d5f85a9473db36b85cad3b43d8f664771c"), looks := false }, kinds := [], alts := [], laidByText := true, laidKinds := [.data, .data, .data], laidTests := true, laidLooks := .later }
def WrapBackCardSaid : Prop := Claim7.holds Tryd.pinned (.plain (OpenSpec.ofChange wrapBackSpec)) wrapBackCard

/-- THE SECOND FORM's CARD OF 'syntagmalaw01.WrapSums'. -/
def wrapSumsUptoCard : Claim7 := { stood := { row := wrapSumsUptoRow, standIns := [], harness := (true, "07c0da3c569cdcee4a152ce3940b77d5f85a9473db36b85cad3b43d8f664771c"), looks := false }, kinds := [], alts := [], laidByText := true, laidKinds := [.data, .data, .data], laidTests := true, laidLooks := .later }
def WrapSumsUptoCardSaid : Prop := Claim7.holds Tryd.pinned (.plain (OpenSpec.upto wrapSumsSpec)) wrapSumsUptoCard

/-- THE SECOND FORM's CARD OF 'syntagmalaw01.WrapPrims'. -/
def wrapPrimsUptoCard : Claim7 := { stood := { row := wrapPrimsUptoRow, standIns := [], harness := (true, "07c0da3c569cdcee4a152ce3940b77d5f85a9473db36b85cad3b43d8f664771c"), looks := false }, kinds := [], alts := [], laidByText := true, laidKinds := [.data, .data, .data], laidTests := true, laidLooks := .later }
def WrapPrimsUptoCardSaid : Prop := Claim7.holds Tryd.pinned (.plain (OpenSpec.upto wrapPrimsSpec)) wrapPrimsUptoCard

/-- THE SECOND FORM's CARD OF 'syntagmalaw01.WrapTexts'. -/
def wrapTextsUptoCard : Claim7 := { stood := { row := wrapTextsUptoRow, standIns := [], harness := (true, "07c0da3c569cdcee4a152ce3940b77d5f85a9473db36b85cad3b43d8f664771c"), looks := false }, kinds := [], alts := [], laidByText := true, laidKinds := [.data, .data, .data], laidTests := true, laidLooks := .later }
def WrapTextsUptoCardSaid : Prop := Claim7.holds Tryd.pinned (.plain (OpenSpec.upto wrapTextsSpec)) wrapTextsUptoCard

/-- THE SECOND FORM's CARD OF 'syntagmalaw01.WrapBack'. -/
def wrapBackUptoCard : Claim7 := { stood := { row := wrapBackUptoRow, standIns := [], harness := (true, "07c0da3c569cdcee4a152ce3940b77d5f85a9473db36b85cad3b43d8f664771c"), looks := false }, kinds := [], alts := [], laidByText := true, laidKinds := [.data, .data, .data], laidTests := true, laidLooks := .later }
def WrapBackUptoCardSaid : Prop := Claim7.holds Tryd.pinned (.plain (OpenSpec.upto wrapBackSpec)) wrapBackUptoCard
end Rows
end Go.Proofs.YtpiopdpebjkphaaDoor
