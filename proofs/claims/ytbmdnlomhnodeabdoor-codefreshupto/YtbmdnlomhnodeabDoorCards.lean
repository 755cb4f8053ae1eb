/-
  DERIVED. GIVEN WITH THE SEED: THE CARDS: each row of YtbmdnlomhnodeabDoorRows.lean that lists a variable, with what it lists TIED to the program's text (the seventh form; the later family's looks); each row that meets fmt, with fmt's text TOLD by the authors' own Lean function (tested against real Go, not proved from fmt's source: count such statements apart). THE CARD IS WHAT COUNTS. Prove the row's statement (the work); the ties are given (YtbmdnlomhnodeabDoorTie.lean); close each card by the builder's one call (the guide's Derived/Test/ToyasCard.lean, 'card_holds'). Laid BY PROGRAM, IN A SANDBOX (cutbox-door.mjs). By AI agents, Wed Nov 11 2026. No macro, syntax, notation, axiom, sorry.
-/
import Derived.Test.YtbmdnlomhnodeabDoorRows
import GoSem.ClaimSeven
namespace Go.Proofs.YtbmdnlomhnodeabDoor
namespace Rows

/-- THE TIED CARD OF 'tallylaw1.CodeTurns'. -/
def codeTurnsCard : Claim7 := { stood := { row := codeTurnsRow, standIns := [], harness := (true, "d1a33bd220018cfa860c4f115879aa90475e44a12d44119f2d69b4f4d8adc26d"), looks := false }, kinds := [], alts := [], laidByText := true, laidKinds := [.data], laidTests := true, laidLooks := .later }
def CodeTurnsCardSaid : Prop := Claim7.holds Tryd.pinned (.plain (OpenSpec.ofChange codeTurnsSpec)) codeTurnsCard

/-- THE TIED CARD OF 'tallylaw1.CodeOneForm'. -/
def codeOneFormCard : Claim7 := { stood := { row := codeOneFormRow, standIns := [], harness := (true, "d1a33bd220018cfa860c4f115879aa90475e44a12d44119f2d69b4f4d8adc26d"), looks := false }, kinds := [], alts := [], laidByText := true, laidKinds := [.data], laidTests := true, laidLooks := .later }
def CodeOneFormCardSaid : Prop := Claim7.holds Tryd.pinned (.plain (OpenSpec.ofChange codeOneFormSpec)) codeOneFormCard

/-- THE TIED CARD OF 'tallylaw1.CodeReads'. -/
def codeReadsCard : Claim7 := { stood := { row := codeReadsRow, standIns := [], harness := (true, "d1a33bd220018cfa860c4f115879aa90475e44a12d44119f2d69b4f4d8adc26d"), looks := false }, kinds := [], alts := [], laidByText := true, laidKinds := [.data], laidTests := true, laidLooks := .later }
def CodeReadsCardSaid : Prop := Claim7.holds Tryd.pinned (.plain (OpenSpec.ofChange codeReadsSpec)) codeReadsCard

/-- THE TIED CARD OF 'tallylaw1.CodePlace'. -/
def codePlaceCard : Claim7 := { stood := { row := codePlaceRow, standIns := [], harness := (true, "d1a33bd220018cfa860c4f115879aa90475e44a12d44119f2d69b4f4d8adc26d"), looks := false }, kinds := [], alts := [], laidByText := true, laidKinds := [.data], laidTests := true, laidLooks := .later }
def CodePlaceCardSaid : Prop := Claim7.holds Tryd.pinned (.plain (OpenSpec.ofChange codePlaceSpec)) codePlaceCard

/-- THE TIED CARD OF 'tallylaw1.CodeFresh'. -/
def codeFreshCard : Claim7 := { stood := { row := codeFreshRow, standIns := [], harness := (true, "d1a33bd220018cfa860c4f115879aa90475e44a12d44119f2d69b4f4d8adc26d"), looks := false }, kinds := [], alts := [], laidByText := true, laidKinds := [.data], laidTests := true, laidLooks := .later }
def CodeFreshCardSaid : Prop := Claim7.holds Tryd.pinned (.plain (OpenSpec.ofChange codeFreshSpec)) codeFreshCard

/-- THE SECOND FORM's CARD OF 'tallylaw1.CodeTurns'. -/
def codeTurnsUptoCard : Claim7 := { stood := { row := codeTurnsUptoRow, standIns := [], harness := (true, "d1a33bd220018cfa860c4f115879aa90475e44a12d44119f2d69b4f4d8adc26d"), looks := false }, kinds := [], alts := [], laidByText := true, laidKinds := [.data], laidTests := true, laidLooks := .later }
def CodeTurnsUptoCardSaid : Prop := Claim7.holds Tryd.pinned (.plain (OpenSpec.upto codeTurnsSpec)) codeTurnsUptoCard

/-- THE SECOND FORM's CARD OF 'tallylaw1.CodeOneForm'. -/
def codeOneFormUptoCard : Claim7 := { stood := { row := codeOneFormUptoRow, standIns := [], harness := (true, "d1a33bd220018cfa860c4f115879aa90475e44a12d44119f2d69b4f4d8adc26d"), looks := false }, kinds := [], alts := [], laidByText := true, laidKinds := [.data], laidTests := true, laidLooks := .later }
def CodeOneFormUptoCardSaid : Prop := Claim7.holds Tryd.pinned (.plain (OpenSpec.upto codeOneFormSpec)) codeOneFormUptoCard

/-- THE SECOND FORM's CARD OF 'tallylaw1.CodeReads'. -/
def codeReadsUptoCard : Claim7 := { stood := { row := codeReadsUptoRow, standIns := [], harness := (true, "d1a33bd220018cfa860c4f115879aa90475e44a12d44119f2d69b4f4d8adc26d"), looks := false }, kinds := [], alts := [], laidByText := true, laidKinds := [.data], laidTests := true, laidLooks := .later }
def CodeReadsUptoCardSaid : Prop := Claim7.holds Tryd.pinned (.plain (OpenSpec.upto codeReadsSpec)) codeReadsUptoCard

/-- THE SECOND FORM's CARD OF 'tallylaw1.CodePlace'. -/
def codePlaceUptoCard : Claim7 := { stood := { row := codePlaceUptoRow, standIns := [], harness := (true, "d1a33bd220018cfa860c4f115879aa90475e44a12d44119f2d69b4f4d8adc26d"), looks := false }, kinds := [], alts := [], laidByText := true, laidKinds := [.data], laidTests := true, laidLooks := .later }
def CodePlaceUptoCardSaid : Prop := Claim7.holds Tryd.pinned (.plain (OpenSpec.upto codePlaceSpec)) codePlaceUptoCard

/-- THE SECOND FORM's CARD OF 'tallylaw1.CodeFresh'. -/
def codeFreshUptoCard : Claim7 := { stood := { row := codeFreshUptoRow, standIns := [], harness := (true, "d1a33bd220018cfa860c4f115879aa90475e44a12d44119f2d69b4f4d8adc26d"), looks := false }, kinds := [], alts := [], laidByText := true, laidKinds := [.data], laidTests := true, laidLooks := .later }
def CodeFreshUptoCardSaid : Prop := Claim7.holds Tryd.pinned (.plain (OpenSpec.upto codeFreshSpec)) codeFreshUptoCard
end Rows
end Go.Proofs.YtbmdnlomhnodeabDoor
