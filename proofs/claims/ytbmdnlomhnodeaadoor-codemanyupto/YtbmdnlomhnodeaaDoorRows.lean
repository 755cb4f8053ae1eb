/-
  NARROWER THAN 'FOR EVERY INPUT', by the rows' own cells (each row's printed sentence says how): CodeMixed: laid · CodeTold: laid · CodeSums: laid · CodeStops: laid · CodeMany: laid · CodeWrites: laid.
  DERIVED. THE GIVEN ROWS OF THIS SEAT. 6 by the template 'for every input the law returns true; each argument reads behind the call as it read before'; 0 by the template 'total and deterministic' (their statements: YtbmdnlomhnodeaaDoorTotals.lean).
  GIVEN WITH THE SEED: the statements are not yours to turn. If you find one false, say at which input.
  Laid BY PROGRAM, IN A SANDBOX (cutbox-rows.mjs): the forced cells as the released guide's own fill.sh prints them over the translation d9219a7775fb14c6… (all of the seat's roots in one cut). By AI agents, Wed Nov 11 2026. No macro, syntax, notation, axiom, sorry.
-/
import Derived.Test.YtbmdnlomhnodeaaDoorChecked
import GoSem.Claim
import GoSem.ClaimJoined
import GoSem.ClaimMapViews
import Derived.JoinedTies
import Derived.KernelRfl
namespace Go.Proofs.YtbmdnlomhnodeaaDoor
/- THE CELL 'sum', in the pinned program and in every row, IS THE sha256 OF THE DUMP (.gsa) THAT YtbmdnlomhnodeaaDoorProg.lean LOADS. Nothing in Lean hashes anything: it is a label: what it is worth is what the hold of that sum in a sandbox is worth. -/
noncomputable def Tryd.pinned : Pinned := { name := "ytbmdnlomhnodeaadoor", sum := "d9219a7775fb14c66465108a2b5811ba09db0406fb81190b3edb24502e787e2a", checked := Tryd.checked }
namespace Rows
def none {H : Type} : Left H := { results := [], args := [] }

/- WHAT THE LISTED PACKAGE-LEVEL VARIABLES READ AS WHEN THE CALL BEGINS. Each datum BY PROGRAM (the guide's laid-datum.mjs) off the statement by which the dump's own 'gosem.cut.vars' lays the variable. In a bare row this is a premise. The card (YtbmdnlomhnodeaaDoorCards.lean) ties it to the program's text. -/
def laid_tally_code_sumSteps {H : Type} : DataW H := .agg [.lit (.int .u32 0), .lit (.int .u32 498536548), .lit (.int .u32 997073096), .lit (.int .u32 651767980), .lit (.int .u32 1994146192), .lit (.int .u32 1802195444), .lit (.int .u32 1303535960), .lit (.int .u32 1342533948), .lit (.int .u32 3988292384), .lit (.int .u32 4027552580), .lit (.int .u32 3604390888), .lit (.int .u32 3412177804), .lit (.int .u32 2607071920), .lit (.int .u32 2262029012), .lit (.int .u32 2685067896), .lit (.int .u32 3183342108)]
def laid_tally_code_widths {H : Type} : DataW H := .agg [.lit (.int .i64 1), .lit (.int .i64 4), .lit (.int .i64 8)]

/-- 'tallylaw1.CodeMixed': WHATEVER THE INPUT: true; the input reads as it did. -/
def codeMixedSpec : ChangeSpec := { name := "codeMixed", fn := fun _ => fun
  | [d] => { results := [.lit (.bool true)], args := [d] }
  | _ => none }
def codeMixedRow : OpenClaim := { program := "ytbmdnlomhnodeaadoor", sum := "d9219a7775fb14c66465108a2b5811ba09db0406fb81190b3edb24502e787e2a", func := "tally/tallylaw1.CodeMixed", spec := "codeMixed", named := ["tally/code.sumSteps"], apart := false, laid := [("tally/code.sumSteps", laid_tally_code_sumSteps)] }
def CodeMixedSaid : Prop := codeMixedRow.holds Tryd.pinned (OpenSpec.ofChange codeMixedSpec)

/-- ITS FALSE NEIGHBOUR: 'it returns false'. Refute it at one input. -/
def codeMixedWrong : ChangeSpec := { name := "codeMixed", fn := fun _ => fun
  | [d] => { results := [.lit (.bool false)], args := [d] }
  | _ => none }
def CodeMixedWrongFalsely : Prop := codeMixedRow.holds Tryd.pinned (OpenSpec.ofChange codeMixedWrong)

/-- 'tallylaw1.CodeTold': WHATEVER THE INPUT: true; the input reads as it did. -/
def codeToldSpec : ChangeSpec := { name := "codeTold", fn := fun _ => fun
  | [d] => { results := [.lit (.bool true)], args := [d] }
  | _ => none }
def codeToldRow : OpenClaim := { program := "ytbmdnlomhnodeaadoor", sum := "d9219a7775fb14c66465108a2b5811ba09db0406fb81190b3edb24502e787e2a", func := "tally/tallylaw1.CodeTold", spec := "codeTold", named := ["tally/code.sumSteps"], apart := false, laid := [("tally/code.sumSteps", laid_tally_code_sumSteps)] }
def CodeToldSaid : Prop := codeToldRow.holds Tryd.pinned (OpenSpec.ofChange codeToldSpec)

/-- ITS FALSE NEIGHBOUR: 'it returns false'. Refute it at one input. -/
def codeToldWrong : ChangeSpec := { name := "codeTold", fn := fun _ => fun
  | [d] => { results := [.lit (.bool false)], args := [d] }
  | _ => none }
def CodeToldWrongFalsely : Prop := codeToldRow.holds Tryd.pinned (OpenSpec.ofChange codeToldWrong)

/-- 'tallylaw1.CodeSums': WHATEVER THE INPUT: true; the input reads as it did. -/
def codeSumsSpec : ChangeSpec := { name := "codeSums", fn := fun _ => fun
  | [d] => { results := [.lit (.bool true)], args := [d] }
  | _ => none }
def codeSumsRow : OpenClaim := { program := "ytbmdnlomhnodeaadoor", sum := "d9219a7775fb14c66465108a2b5811ba09db0406fb81190b3edb24502e787e2a", func := "tally/tallylaw1.CodeSums", spec := "codeSums", named := ["tally/code.sumSteps"], apart := false, laid := [("tally/code.sumSteps", laid_tally_code_sumSteps)] }
def CodeSumsSaid : Prop := codeSumsRow.holds Tryd.pinned (OpenSpec.ofChange codeSumsSpec)

/-- ITS FALSE NEIGHBOUR: 'it returns false'. Refute it at one input. -/
def codeSumsWrong : ChangeSpec := { name := "codeSums", fn := fun _ => fun
  | [d] => { results := [.lit (.bool false)], args := [d] }
  | _ => none }
def CodeSumsWrongFalsely : Prop := codeSumsRow.holds Tryd.pinned (OpenSpec.ofChange codeSumsWrong)

/-- 'tallylaw1.CodeStops': WHATEVER THE INPUT: true; the input reads as it did. -/
def codeStopsSpec : ChangeSpec := { name := "codeStops", fn := fun _ => fun
  | [d] => { results := [.lit (.bool true)], args := [d] }
  | _ => none }
def codeStopsRow : OpenClaim := { program := "ytbmdnlomhnodeaadoor", sum := "d9219a7775fb14c66465108a2b5811ba09db0406fb81190b3edb24502e787e2a", func := "tally/tallylaw1.CodeStops", spec := "codeStops", named := ["tally/code.widths"], apart := false, laid := [("tally/code.widths", laid_tally_code_widths)] }
def CodeStopsSaid : Prop := codeStopsRow.holds Tryd.pinned (OpenSpec.ofChange codeStopsSpec)

/-- ITS FALSE NEIGHBOUR: 'it returns false'. Refute it at one input. -/
def codeStopsWrong : ChangeSpec := { name := "codeStops", fn := fun _ => fun
  | [d] => { results := [.lit (.bool false)], args := [d] }
  | _ => none }
def CodeStopsWrongFalsely : Prop := codeStopsRow.holds Tryd.pinned (OpenSpec.ofChange codeStopsWrong)

/-- 'tallylaw1.CodeMany': WHATEVER THE INPUT: true; the input reads as it did. -/
def codeManySpec : ChangeSpec := { name := "codeMany", fn := fun _ => fun
  | [d] => { results := [.lit (.bool true)], args := [d] }
  | _ => none }
def codeManyRow : OpenClaim := { program := "ytbmdnlomhnodeaadoor", sum := "d9219a7775fb14c66465108a2b5811ba09db0406fb81190b3edb24502e787e2a", func := "tally/tallylaw1.CodeMany", spec := "codeMany", recurses := true, named := ["tally/code.widths"], apart := false, laid := [("tally/code.widths", laid_tally_code_widths)] }
def CodeManySaid : Prop := codeManyRow.holds Tryd.pinned (OpenSpec.ofChange codeManySpec)

/-- ITS FALSE NEIGHBOUR: 'it returns false'. Refute it at one input. -/
def codeManyWrong : ChangeSpec := { name := "codeMany", fn := fun _ => fun
  | [d] => { results := [.lit (.bool false)], args := [d] }
  | _ => none }
def CodeManyWrongFalsely : Prop := codeManyRow.holds Tryd.pinned (OpenSpec.ofChange codeManyWrong)

/-- 'tallylaw1.CodeWrites': WHATEVER THE INPUT: true; the input reads as it did. -/
def codeWritesSpec : ChangeSpec := { name := "codeWrites", fn := fun _ => fun
  | [d] => { results := [.lit (.bool true)], args := [d] }
  | _ => none }
def codeWritesRow : OpenClaim := { program := "ytbmdnlomhnodeaadoor", sum := "d9219a7775fb14c66465108a2b5811ba09db0406fb81190b3edb24502e787e2a", func := "tally/tallylaw1.CodeWrites", spec := "codeWrites", recurses := true, named := ["tally/code.widths"], apart := false, laid := [("tally/code.widths", laid_tally_code_widths)] }
def CodeWritesSaid : Prop := codeWritesRow.holds Tryd.pinned (OpenSpec.ofChange codeWritesSpec)

/-- ITS FALSE NEIGHBOUR: 'it returns false'. Refute it at one input. -/
def codeWritesWrong : ChangeSpec := { name := "codeWrites", fn := fun _ => fun
  | [d] => { results := [.lit (.bool false)], args := [d] }
  | _ => none }
def CodeWritesWrongFalsely : Prop := codeWritesRow.holds Tryd.pinned (OpenSpec.ofChange codeWritesWrong)

/- THE SECOND FORM. 'bulk': how many values and letters a reading holds, each counted each time it is reached (what is shared counts as often as it is met; a slice's spare places count too). A statement '..UptoSaid' is the law's where the arguments, and the package variables that the reading takes, are together of bulk at most 1048576: NARROWER than '..Said'. Prove '..Said' where nothing that the law and all that it calls make is longer than what came in: it says more and counts as full. Else prove '..UptoSaid'. A law counts once. -/
mutual
def uptoBulk {H : Type} : DataW H → Nat
  | .lit (.string bytes) => bytes.length + 1
  | .lit _ => 1
  | .nil => 1
  | .ptr d => uptoBulk d + 1
  | .slice elems spare => uptoBulkAll elems + uptoBulkAll spare + 1
  | .agg parts => uptoBulkAll parts + 1
  | .iface _ d => uptoBulk d + 1
  | .map entries => uptoBulkEntries entries + 1
  | .held _ => 1
def uptoBulkAll {H : Type} : List (DataW H) → Nat
  | [] => 0
  | d :: r => uptoBulk d + uptoBulkAll r
def uptoBulkEntries {H : Type} : List (Lit × DataW H) → Nat
  | [] => 0
  | x :: r => uptoBulkEntry x + uptoBulkEntries r
def uptoBulkEntry {H : Type} : Lit × DataW H → Nat
  | (.string bytes, d) => bytes.length + uptoBulk d + 1
  | (_, d) => uptoBulk d + 1
 end
def uptoSmall : (H : Type) → List (DataW H) → Bool := fun _ ds => decide (uptoBulkAll ds ≤ 1048576)
def OpenSpec.upto (s : _root_.Go.ChangeSpec) : _root_.Go.OpenSpec := { _root_.Go.OpenSpec.ofChange s with cond := some uptoSmall }

/-- 'tallylaw1.CodeMixed', WHERE WHAT IT READS IS OF BULK AT MOST 1048576: true; the input reads as it did. -/
def codeMixedUptoRow : OpenClaim := { program := "ytbmdnlomhnodeaadoor", sum := "d9219a7775fb14c66465108a2b5811ba09db0406fb81190b3edb24502e787e2a", func := "tally/tallylaw1.CodeMixed", spec := "codeMixed", named := ["tally/code.sumSteps"], apart := false, laid := [("tally/code.sumSteps", laid_tally_code_sumSteps)], narrowed := true }
def CodeMixedUptoSaid : Prop := codeMixedUptoRow.holds Tryd.pinned (OpenSpec.upto codeMixedSpec)

/-- 'tallylaw1.CodeTold', WHERE WHAT IT READS IS OF BULK AT MOST 1048576: true; the input reads as it did. -/
def codeToldUptoRow : OpenClaim := { program := "ytbmdnlomhnodeaadoor", sum := "d9219a7775fb14c66465108a2b5811ba09db0406fb81190b3edb24502e787e2a", func := "tally/tallylaw1.CodeTold", spec := "codeTold", named := ["tally/code.sumSteps"], apart := false, laid := [("tally/code.sumSteps", laid_tally_code_sumSteps)], narrowed := true }
def CodeToldUptoSaid : Prop := codeToldUptoRow.holds Tryd.pinned (OpenSpec.upto codeToldSpec)

/-- 'tallylaw1.CodeSums', WHERE WHAT IT READS IS OF BULK AT MOST 1048576: true; the input reads as it did. -/
def codeSumsUptoRow : OpenClaim := { program := "ytbmdnlomhnodeaadoor", sum := "d9219a7775fb14c66465108a2b5811ba09db0406fb81190b3edb24502e787e2a", func := "tally/tallylaw1.CodeSums", spec := "codeSums", named := ["tally/code.sumSteps"], apart := false, laid := [("tally/code.sumSteps", laid_tally_code_sumSteps)], narrowed := true }
def CodeSumsUptoSaid : Prop := codeSumsUptoRow.holds Tryd.pinned (OpenSpec.upto codeSumsSpec)

/-- 'tallylaw1.CodeStops', WHERE WHAT IT READS IS OF BULK AT MOST 1048576: true; the input reads as it did. -/
def codeStopsUptoRow : OpenClaim := { program := "ytbmdnlomhnodeaadoor", sum := "d9219a7775fb14c66465108a2b5811ba09db0406fb81190b3edb24502e787e2a", func := "tally/tallylaw1.CodeStops", spec := "codeStops", named := ["tally/code.widths"], apart := false, laid := [("tally/code.widths", laid_tally_code_widths)], narrowed := true }
def CodeStopsUptoSaid : Prop := codeStopsUptoRow.holds Tryd.pinned (OpenSpec.upto codeStopsSpec)

/-- 'tallylaw1.CodeMany', WHERE WHAT IT READS IS OF BULK AT MOST 1048576: true; the input reads as it did. -/
def codeManyUptoRow : OpenClaim := { program := "ytbmdnlomhnodeaadoor", sum := "d9219a7775fb14c66465108a2b5811ba09db0406fb81190b3edb24502e787e2a", func := "tally/tallylaw1.CodeMany", spec := "codeMany", recurses := true, named := ["tally/code.widths"], apart := false, laid := [("tally/code.widths", laid_tally_code_widths)], narrowed := true }
def CodeManyUptoSaid : Prop := codeManyUptoRow.holds Tryd.pinned (OpenSpec.upto codeManySpec)

/-- 'tallylaw1.CodeWrites', WHERE WHAT IT READS IS OF BULK AT MOST 1048576: true; the input reads as it did. -/
def codeWritesUptoRow : OpenClaim := { program := "ytbmdnlomhnodeaadoor", sum := "d9219a7775fb14c66465108a2b5811ba09db0406fb81190b3edb24502e787e2a", func := "tally/tallylaw1.CodeWrites", spec := "codeWrites", recurses := true, named := ["tally/code.widths"], apart := false, laid := [("tally/code.widths", laid_tally_code_widths)], narrowed := true }
def CodeWritesUptoSaid : Prop := codeWritesUptoRow.holds Tryd.pinned (OpenSpec.upto codeWritesSpec)

end Rows
end Go.Proofs.YtbmdnlomhnodeaaDoor
