/-
  NARROWER THAN 'FOR EVERY INPUT', by the rows' own cells (each row's printed sentence says how): CodeTurns: laid · CodeOneForm: laid · CodeReads: laid · CodePlace: laid · CodeFresh: laid.
  DERIVED. THE GIVEN ROWS OF THIS SEAT. 5 by the template 'for every input the law returns true; each argument reads behind the call as it read before'; 0 by the template 'total and deterministic' (their statements: YtbmdnlomhnodeabDoorTotals.lean).
  GIVEN WITH THE SEED: the statements are not yours to turn. If you find one false, say at which input.
  Laid BY PROGRAM, IN A SANDBOX (cutbox-rows.mjs): the forced cells as the released guide's own fill.sh prints them over the translation bcdf78659fb92875… (all of the seat's roots in one cut). By AI agents, Wed Nov 11 2026. No macro, syntax, notation, axiom, sorry.
-/
import Derived.Test.YtbmdnlomhnodeabDoorChecked
import GoSem.Claim
import GoSem.ClaimJoined
import GoSem.ClaimMapViews
import Derived.JoinedTies
import Derived.KernelRfl
namespace Go.Proofs.YtbmdnlomhnodeabDoor
/- THE CELL 'sum', in the pinned program and in every row, IS THE sha256 OF THE DUMP (.gsa) THAT YtbmdnlomhnodeabDoorProg.lean LOADS. Nothing in Lean hashes anything: it is a label: what it is worth is what the hold of that sum in a sandbox is worth. -/
noncomputable def Tryd.pinned : Pinned := { name := "ytbmdnlomhnodeabdoor", sum := "bcdf78659fb92875df59d45998941d6cb2c2d535c4915c7628f2c9c3ff43aaf7", checked := Tryd.checked }
namespace Rows
def none {H : Type} : Left H := { results := [], args := [] }

/- WHAT THE LISTED PACKAGE-LEVEL VARIABLES READ AS WHEN THE CALL BEGINS. Each datum BY PROGRAM (the guide's laid-datum.mjs) off the statement by which the dump's own 'gosem.cut.vars' lays the variable. In a bare row this is a premise. The card (YtbmdnlomhnodeabDoorCards.lean) ties it to the program's text. -/
def laid_tally_code_widths {H : Type} : DataW H := .agg [.lit (.int .i64 1), .lit (.int .i64 4), .lit (.int .i64 8)]

/-- 'tallylaw1.CodeTurns': WHATEVER THE INPUT: true; the input reads as it did. -/
def codeTurnsSpec : ChangeSpec := { name := "codeTurns", fn := fun _ => fun
  | [d] => { results := [.lit (.bool true)], args := [d] }
  | _ => none }
def codeTurnsRow : OpenClaim := { program := "ytbmdnlomhnodeabdoor", sum := "bcdf78659fb92875df59d45998941d6cb2c2d535c4915c7628f2c9c3ff43aaf7", func := "tally/tallylaw1.CodeTurns", spec := "codeTurns", named := ["tally/code.widths"], apart := false, laid := [("tally/code.widths", laid_tally_code_widths)] }
def CodeTurnsSaid : Prop := codeTurnsRow.holds Tryd.pinned (OpenSpec.ofChange codeTurnsSpec)

/-- ITS FALSE NEIGHBOUR: 'it returns false'. Refute it at one input. -/
def codeTurnsWrong : ChangeSpec := { name := "codeTurns", fn := fun _ => fun
  | [d] => { results := [.lit (.bool false)], args := [d] }
  | _ => none }
def CodeTurnsWrongFalsely : Prop := codeTurnsRow.holds Tryd.pinned (OpenSpec.ofChange codeTurnsWrong)

/-- 'tallylaw1.CodeOneForm': WHATEVER THE INPUT: true; the input reads as it did. -/
def codeOneFormSpec : ChangeSpec := { name := "codeOneForm", fn := fun _ => fun
  | [d] => { results := [.lit (.bool true)], args := [d] }
  | _ => none }
def codeOneFormRow : OpenClaim := { program := "ytbmdnlomhnodeabdoor", sum := "bcdf78659fb92875df59d45998941d6cb2c2d535c4915c7628f2c9c3ff43aaf7", func := "tally/tallylaw1.CodeOneForm", spec := "codeOneForm", named := ["tally/code.widths"], apart := false, laid := [("tally/code.widths", laid_tally_code_widths)] }
def CodeOneFormSaid : Prop := codeOneFormRow.holds Tryd.pinned (OpenSpec.ofChange codeOneFormSpec)

/-- ITS FALSE NEIGHBOUR: 'it returns false'. Refute it at one input. -/
def codeOneFormWrong : ChangeSpec := { name := "codeOneForm", fn := fun _ => fun
  | [d] => { results := [.lit (.bool false)], args := [d] }
  | _ => none }
def CodeOneFormWrongFalsely : Prop := codeOneFormRow.holds Tryd.pinned (OpenSpec.ofChange codeOneFormWrong)

/-- 'tallylaw1.CodeReads': WHATEVER THE INPUT: true; the input reads as it did. -/
def codeReadsSpec : ChangeSpec := { name := "codeReads", fn := fun _ => fun
  | [d] => { results := [.lit (.bool true)], args := [d] }
  | _ => none }
def codeReadsRow : OpenClaim := { program := "ytbmdnlomhnodeabdoor", sum := "bcdf78659fb92875df59d45998941d6cb2c2d535c4915c7628f2c9c3ff43aaf7", func := "tally/tallylaw1.CodeReads", spec := "codeReads", recurses := true, named := ["tally/code.widths"], apart := false, laid := [("tally/code.widths", laid_tally_code_widths)] }
def CodeReadsSaid : Prop := codeReadsRow.holds Tryd.pinned (OpenSpec.ofChange codeReadsSpec)

/-- ITS FALSE NEIGHBOUR: 'it returns false'. Refute it at one input. -/
def codeReadsWrong : ChangeSpec := { name := "codeReads", fn := fun _ => fun
  | [d] => { results := [.lit (.bool false)], args := [d] }
  | _ => none }
def CodeReadsWrongFalsely : Prop := codeReadsRow.holds Tryd.pinned (OpenSpec.ofChange codeReadsWrong)

/-- 'tallylaw1.CodePlace': WHATEVER THE INPUT: true; the input reads as it did. -/
def codePlaceSpec : ChangeSpec := { name := "codePlace", fn := fun _ => fun
  | [d] => { results := [.lit (.bool true)], args := [d] }
  | _ => none }
def codePlaceRow : OpenClaim := { program := "ytbmdnlomhnodeabdoor", sum := "bcdf78659fb92875df59d45998941d6cb2c2d535c4915c7628f2c9c3ff43aaf7", func := "tally/tallylaw1.CodePlace", spec := "codePlace", recurses := true, named := ["tally/code.widths"], apart := false, laid := [("tally/code.widths", laid_tally_code_widths)] }
def CodePlaceSaid : Prop := codePlaceRow.holds Tryd.pinned (OpenSpec.ofChange codePlaceSpec)

/-- ITS FALSE NEIGHBOUR: 'it returns false'. Refute it at one input. -/
def codePlaceWrong : ChangeSpec := { name := "codePlace", fn := fun _ => fun
  | [d] => { results := [.lit (.bool false)], args := [d] }
  | _ => none }
def CodePlaceWrongFalsely : Prop := codePlaceRow.holds Tryd.pinned (OpenSpec.ofChange codePlaceWrong)

/-- 'tallylaw1.CodeFresh': WHATEVER THE INPUT: true; the input reads as it did. -/
def codeFreshSpec : ChangeSpec := { name := "codeFresh", fn := fun _ => fun
  | [d] => { results := [.lit (.bool true)], args := [d] }
  | _ => none }
def codeFreshRow : OpenClaim := { program := "ytbmdnlomhnodeabdoor", sum := "bcdf78659fb92875df59d45998941d6cb2c2d535c4915c7628f2c9c3ff43aaf7", func := "tally/tallylaw1.CodeFresh", spec := "codeFresh", recurses := true, named := ["tally/code.widths"], apart := false, laid := [("tally/code.widths", laid_tally_code_widths)] }
def CodeFreshSaid : Prop := codeFreshRow.holds Tryd.pinned (OpenSpec.ofChange codeFreshSpec)

/-- ITS FALSE NEIGHBOUR: 'it returns false'. Refute it at one input. -/
def codeFreshWrong : ChangeSpec := { name := "codeFresh", fn := fun _ => fun
  | [d] => { results := [.lit (.bool false)], args := [d] }
  | _ => none }
def CodeFreshWrongFalsely : Prop := codeFreshRow.holds Tryd.pinned (OpenSpec.ofChange codeFreshWrong)

/- THE SECOND FORM. 'bulk': how many values and letters a reading holds, each counted each time it is reached (what is shared counts as often as it is met; a slice's spare places count too). A statement '..UptoSaid' is the law's where the arguments, and the package variables that the reading takes, are together of bulk at most 1048576: NARROWER than '..Said'. Prove '..Said' where nothing that the law and all that it calls make is longer than what came in: it says more and counts as full. Else prove '..UptoSaid'. A law counts once. -/
mutual
def uptoBulk {H : Type} : DataW H → Nat
  | .lit (.string bytes) => bytes.length + 1
  | .lit _ => 1
  | .nil => 1
  | .ptr d => uptoBulk d + 1
  | .slice elems spare => uptoBulkAll elems + uptoBulkAll spare + 1
  | .agg parts => uptoBulkAll parts + 1
  | .iface _ d => uptoBulk d + 1
  | .map entries => uptoBulkEntries entries + 1
  | .held _ => 1
def uptoBulkAll {H : Type} : List (DataW H) → Nat
  | [] => 0
  | d :: r => uptoBulk d + uptoBulkAll r
def uptoBulkEntries {H : Type} : List (Lit × DataW H) → Nat
  | [] => 0
  | x :: r => uptoBulkEntry x + uptoBulkEntries r
def uptoBulkEntry {H : Type} : Lit × DataW H → Nat
  | (.string bytes, d) => bytes.length + uptoBulk d + 1
  | (_, d) => uptoBulk d + 1
 end
def uptoSmall : (H : Type) → List (DataW H) → Bool := fun _ ds => decide (uptoBulkAll ds ≤ 1048576)
def OpenSpec.upto (s : _root_.Go.ChangeSpec) : _root_.Go.OpenSpec := { _root_.Go.OpenSpec.ofChange s with cond := some uptoSmall }

/-- 'tallylaw1.CodeTurns', WHERE WHAT IT READS IS OF BULK AT MOST 1048576: true; the input reads as it did. -/
def codeTurnsUptoRow : OpenClaim := { program := "ytbmdnlomhnodeabdoor", sum := "bcdf78659fb92875df59d45998941d6cb2c2d535c4915c7628f2c9c3ff43aaf7", func := "tally/tallylaw1.CodeTurns", spec := "codeTurns", named := ["tally/code.widths"], apart := false, laid := [("tally/code.widths", laid_tally_code_widths)], narrowed := true }
def CodeTurnsUptoSaid : Prop := codeTurnsUptoRow.holds Tryd.pinned (OpenSpec.upto codeTurnsSpec)

/-- 'tallylaw1.CodeOneForm', WHERE WHAT IT READS IS OF BULK AT MOST 1048576: true; the input reads as it did. -/
def codeOneFormUptoRow : OpenClaim := { program := "ytbmdnlomhnodeabdoor", sum := "bcdf78659fb92875df59d45998941d6cb2c2d535c4915c7628f2c9c3ff43aaf7", func := "tally/tallylaw1.CodeOneForm", spec := "codeOneForm", named := ["tally/code.widths"], apart := false, laid := [("tally/code.widths", laid_tally_code_widths)], narrowed := true }
def CodeOneFormUptoSaid : Prop := codeOneFormUptoRow.holds Tryd.pinned (OpenSpec.upto codeOneFormSpec)

/-- 'tallylaw1.CodeReads', WHERE WHAT IT READS IS OF BULK AT MOST 1048576: true; the input reads as it did. -/
def codeReadsUptoRow : OpenClaim := { program := "ytbmdnlomhnodeabdoor", sum := "bcdf78659fb92875df59d45998941d6cb2c2d535c4915c7628f2c9c3ff43aaf7", func := "tally/tallylaw1.CodeReads", spec := "codeReads", recurses := true, named := ["tally/code.widths"], apart := false, laid := [("tally/code.widths", laid_tally_code_widths)], narrowed := true }
def CodeReadsUptoSaid : Prop := codeReadsUptoRow.holds Tryd.pinned (OpenSpec.upto codeReadsSpec)

/-- 'tallylaw1.CodePlace', WHERE WHAT IT READS IS OF BULK AT MOST 1048576: true; the input reads as it did. -/
def codePlaceUptoRow : OpenClaim := { program := "ytbmdnlomhnodeabdoor", sum := "bcdf78659fb92875df59d45998941d6cb2c2d535c4915c7628f2c9c3ff43aaf7", func := "tally/tallylaw1.CodePlace", spec := "codePlace", recurses := true, named := ["tally/code.widths"], apart := false, laid := [("tally/code.widths", laid_tally_code_widths)], narrowed := true }
def CodePlaceUptoSaid : Prop := codePlaceUptoRow.holds Tryd.pinned (OpenSpec.upto codePlaceSpec)

/-- 'tallylaw1.CodeFresh', WHERE WHAT IT READS IS OF BULK AT MOST 1048576: true; the input reads as it did. -/
def codeFreshUptoRow : OpenClaim := { program := "ytbmdnlomhnodeabdoor", sum := "bcdf78659fb92875df59d45998941d6cb2c2d535c4915c7628f2c9c3ff43aaf7", func := "tally/tallylaw1.CodeFresh", spec := "codeFresh", recurses := true, named := ["tally/code.widths"], apart := false, laid := [("tally/code.widths", laid_tally_code_widths)], narrowed := true }
def CodeFreshUptoSaid : Prop := codeFreshUptoRow.holds Tryd.pinned (OpenSpec.upto codeFreshSpec)

end Rows
end Go.Proofs.YtbmdnlomhnodeabDoor
