/-
  DERIVED. GIVEN WITH THE SEED: THE CARDS: each row of YtbmdnlomhnodeaaDoorRows.lean that lists a variable, with what it lists TIED to the program's text (the seventh form; the later family's looks); each row that meets fmt, with fmt's text TOLD by the authors' own Lean function (tested against real Go, not proved from fmt's source: count such statements apart). THE CARD IS WHAT COUNTS. Prove the row's statement (the work); the ties are given (YtbmdnlomhnodeaaDoorTie.lean); close each card by the builder's one call (the guide's Derived/Test/ToyasCard.lean, 'card_holds'). Laid BY PROGRAM, IN A SANDBOX (cutbox-door.mjs). By AI agents, Wed Nov 11 2026. No macro, syntax, notation, axiom, sorry.
-/
import Derived.Test.YtbmdnlomhnodeaaDoorRows
import GoSem.ClaimSeven
namespace Go.Proofs.YtbmdnlomhnodeaaDoor
namespace Rows

/-- THE TIED CARD OF 'tallylaw1.CodeMixed'. -/
def codeMixedCard : Claim7 := { stood := { row := codeMixedRow, standIns := [], harness := (true, "24e372e09777431be2b65229064993c0cd3e165d9044a376377d27001efa7414"), looks := false }, kinds := [], alts := [], laidByText := true, laidKinds := [.data], laidTests := true, laidLooks := .later }
def CodeMixedCardSaid : Prop := Claim7.holds Tryd.pinned (.plain (OpenSpec.ofChange codeMixedSpec)) codeMixedCard

/-- THE TIED CARD OF 'tallylaw1.CodeTold'. -/
def codeToldCard : Claim7 := { stood := { row := codeToldRow, standIns := [], harness := (true, "24e372e09777431be2b65229064993c0cd3e165d9044a376377d27001efa7414"), looks := false }, kinds := [], alts := [], laidByText := true, laidKinds := [.data], laidTests := true, laidLooks := .later }
def CodeToldCardSaid : Prop := Claim7.holds Tryd.pinned (.plain (OpenSpec.ofChange codeToldSpec)) codeToldCard

/-- THE TIED CARD OF 'tallylaw1.CodeSums'. -/
def codeSumsCard : Claim7 := { stood := { row := codeSumsRow, standIns := [], harness := (true, "24e372e09777431be2b65229064993c0cd3e165d9044a376377d27001efa7414"), looks := false }, kinds := [], alts := [], laidByText := true, laidKinds := [.data], laidTests := true, laidLooks := .later }
def CodeSumsCardSaid : Prop := Claim7.holds Tryd.pinned (.plain (OpenSpec.ofChange codeSumsSpec)) codeSumsCard

/-- THE TIED CARD OF 'tallylaw1.CodeStops'. -/
def codeStopsCard : Claim7 := { stood := { row := codeStopsRow, standIns := [], harness := (true, "24e372e09777431be2b65229064993c0cd3e165d9044a376377d27001efa7414"), looks := false }, kinds := [], alts := [], laidByText := true, laidKinds := [.data], laidTests := true, laidLooks := .later }
def CodeStopsCardSaid : Prop := Claim7.holds Tryd.pinned (.plain (OpenSpec.ofChange codeStopsSpec)) codeStopsCard

/-- THE TIED CARD OF 'tallylaw1.CodeMany'. -/
def codeManyCard : Claim7 := { stood := { row := codeManyRow, standIns := [], harness := (true, "24e372e09777431be2b65229064993c0cd3e165d9044a376377d27001efa7414"), looks := false }, kinds := [], alts := [], laidByText := true, laidKinds := [.data], laidTests := true, laidLooks := .later }
def CodeManyCardSaid : Prop := Claim7.holds Tryd.pinned (.plain (OpenSpec.ofChange codeManySpec)) codeManyCard

/-- THE TIED CARD OF 'tallylaw1.CodeWrites'. -/
def codeWritesCard : Claim7 := { stood := { row := codeWritesRow, standIns := [], harness := (true, "24e372e09777431be2b65229064993c0cd3e165d9044a376377d27001efa7414"), looks := false }, kinds := [], alts := [], laidByText := true, laidKinds := [.data], laidTests := true, laidLooks := .later }
def CodeWritesCardSaid : Prop := Claim7.holds Tryd.pinned (.plain (OpenSpec.ofChange codeWritesSpec)) codeWritesCard

/-- THE SECOND FORM's CARD OF 'tallylaw1.CodeMixed'. -/
def codeMixedUptoCard : Claim7 := { stood := { row := codeMixedUptoRow, standIns := [], harness := (true, "24e372e09777431be2b65229064993c0cd3e165d9044a376377d27001efa7414"), looks := false }, kinds := [], alts := [], laidByText := true, laidKinds := [.data], laidTests := true, laidLooks := .later }
def CodeMixedUptoCardSaid : Prop := Claim7.holds Tryd.pinned (.plain (OpenSpec.upto codeMixedSpec)) codeMixedUptoCard

/-- THE SECOND FORM's CARD OF 'tallylaw1.CodeTold'. -/
def codeToldUptoCard : Claim7 := { stood := { row := codeToldUptoRow, standIns := [], harness := (true, "24e372e09777431be2b65229064993c0cd3e165d9044a376377d27001efa7414"), looks := false }, kinds := [], alts := [], laidByText := true, laidKinds := [.data], laidTests := true, laidLooks := .later }
def CodeToldUptoCardSaid : Prop := Claim7.holds Tryd.pinned (.plain (OpenSpec.upto codeToldSpec)) codeToldUptoCard

/-- THE SECOND FORM's CARD OF 'tallylaw1.CodeSums'. -/
def codeSumsUptoCard : Claim7 := { stood := { row := codeSumsUptoRow, standIns := [], harness := (true, "24e372e09777431be2b65229064993c0cd3e165d9044a376377d27001efa7414"), looks := false }, kinds := [], alts := [], laidByText := true, laidKinds := [.data], laidTests := true, laidLooks := .later }
def CodeSumsUptoCardSaid : Prop := Claim7.holds Tryd.pinned (.plain (OpenSpec.upto codeSumsSpec)) codeSumsUptoCard

/-- THE SECOND FORM's CARD OF 'tallylaw1.CodeStops'. -/
def codeStopsUptoCard : Claim7 := { stood := { row := codeStopsUptoRow, standIns := [], harness := (true, "24e372e09777431be2b65229064993c0cd3e165d9044a376377d27001efa7414"), looks := false }, kinds := [], alts := [], laidByText := true, laidKinds := [.data], laidTests := true, laidLooks := .later }
def CodeStopsUptoCardSaid : Prop := Claim7.holds Tryd.pinned (.plain (OpenSpec.upto codeStopsSpec)) codeStopsUptoCard

/-- THE SECOND FORM's CARD OF 'tallylaw1.CodeMany'. -/
def codeManyUptoCard : Claim7 := { stood := { row := codeManyUptoRow, standIns := [], harness := (true, "24e372e09777431be2b65229064993c0cd3e165d9044a376377d27001efa7414"), looks := false }, kinds := [], alts := [], laidByText := true, laidKinds := [.data], laidTests := true, laidLooks := .later }
def CodeManyUptoCardSaid : Prop := Claim7.holds Tryd.pinned (.plain (OpenSpec.upto codeManySpec)) codeManyUptoCard

/-- THE SECOND FORM's CARD OF 'tallylaw1.CodeWrites'. -/
def codeWritesUptoCard : Claim7 := { stood := { row := codeWritesUptoRow, standIns := [], harness := (true, "24e372e09777431be2b65229064993c0cd3e165d9044a376377d27001efa7414"), looks := false }, kinds := [], alts := [], laidByText := true, laidKinds := [.data], laidTests := true, laidLooks := .later }
def CodeWritesUptoCardSaid : Prop := Claim7.holds Tryd.pinned (.plain (OpenSpec.upto codeWritesSpec)) codeWritesUptoCard
end Rows
end Go.Proofs.YtbmdnlomhnodeaaDoor
