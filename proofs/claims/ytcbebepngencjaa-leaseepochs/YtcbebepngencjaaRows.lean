/-
  No cell of these rows narrows 'for every input' (looked for: loops, veiled, ifaces, maps, wideKeys, modest, calm, conditions, laid).
  DERIVED. THE GIVEN ROWS OF THIS SEAT. 4 by the template 'for every input the law returns true; each argument reads behind the call as it read before'; 0 by the template 'total and deterministic' (their statements: YtcbebepngencjaaTotals.lean).
  GIVEN WITH THE SEED: the statements are not yours to turn. If you find one false, say at which input.
  Laid BY PROGRAM, IN A SANDBOX (cutbox-rows.mjs): the forced cells as the released guide's own fill.sh prints them over the translation 077863609e19a745… (all of the seat's roots in one cut). By AI agents, Wed Nov 11 2026. No macro, syntax, notation, axiom, sorry.
-/
import Derived.Test.YtcbebepngencjaaChecked
import GoSem.Claim
import GoSem.ClaimJoined
import GoSem.ClaimMapViews
import Derived.JoinedTies
import Derived.KernelRfl
namespace Go.Proofs.Ytcbebepngencjaa
/- THE CELL 'sum', in the pinned program and in every row, IS THE sha256 OF THE DUMP (.gsa) THAT YtcbebepngencjaaProg.lean LOADS. Nothing in Lean hashes anything: it is a label: what it is worth is what the hold of that sum in a sandbox is worth. -/
noncomputable def Try.pinned : Pinned := { name := "ytcbebepngencjaa", sum := "077863609e19a745debcb789ae6f2b021c65c04622cd330f1199673f3fa70a1f", checked := Try.checked }
namespace Rows
def none {H : Type} : Left H := { results := [], args := [] }

/-- 'tallylaw11.LeaseRuns': WHATEVER THE INPUT: true; the input reads as it did. -/
def leaseRunsSpec : ChangeSpec := { name := "leaseRuns", fn := fun _ => fun
  | [d] => { results := [.lit (.bool true)], args := [d] }
  | _ => none }
def leaseRunsRow : OpenClaim := { program := "ytcbebepngencjaa", sum := "077863609e19a745debcb789ae6f2b021c65c04622cd330f1199673f3fa70a1f", func := "tally/tallylaw11.LeaseRuns", spec := "leaseRuns", apart := false }
def LeaseRunsSaid : Prop := leaseRunsRow.holds Try.pinned (OpenSpec.ofChange leaseRunsSpec)

/-- ITS FALSE NEIGHBOUR: 'it returns false'. Refute it at one input. -/
def leaseRunsWrong : ChangeSpec := { name := "leaseRuns", fn := fun _ => fun
  | [d] => { results := [.lit (.bool false)], args := [d] }
  | _ => none }
def LeaseRunsWrongFalsely : Prop := leaseRunsRow.holds Try.pinned (OpenSpec.ofChange leaseRunsWrong)

/-- 'tallylaw11.LeaseEpochs': WHATEVER THE INPUT: true; the input reads as it did. -/
def leaseEpochsSpec : ChangeSpec := { name := "leaseEpochs", fn := fun _ => fun
  | [d] => { results := [.lit (.bool true)], args := [d] }
  | _ => none }
def leaseEpochsRow : OpenClaim := { program := "ytcbebepngencjaa", sum := "077863609e19a745debcb789ae6f2b021c65c04622cd330f1199673f3fa70a1f", func := "tally/tallylaw11.LeaseEpochs", spec := "leaseEpochs", apart := false }
def LeaseEpochsSaid : Prop := leaseEpochsRow.holds Try.pinned (OpenSpec.ofChange leaseEpochsSpec)

/-- ITS FALSE NEIGHBOUR: 'it returns false'. Refute it at one input. -/
def leaseEpochsWrong : ChangeSpec := { name := "leaseEpochs", fn := fun _ => fun
  | [d] => { results := [.lit (.bool false)], args := [d] }
  | _ => none }
def LeaseEpochsWrongFalsely : Prop := leaseEpochsRow.holds Try.pinned (OpenSpec.ofChange leaseEpochsWrong)

/-- 'tallylaw11.LeaseFence': WHATEVER THE INPUT: true; the input reads as it did. -/
def leaseFenceSpec : ChangeSpec := { name := "leaseFence", fn := fun _ => fun
  | [d] => { results := [.lit (.bool true)], args := [d] }
  | _ => none }
def leaseFenceRow : OpenClaim := { program := "ytcbebepngencjaa", sum := "077863609e19a745debcb789ae6f2b021c65c04622cd330f1199673f3fa70a1f", func := "tally/tallylaw11.LeaseFence", spec := "leaseFence", apart := false }
def LeaseFenceSaid : Prop := leaseFenceRow.holds Try.pinned (OpenSpec.ofChange leaseFenceSpec)

/-- ITS FALSE NEIGHBOUR: 'it returns false'. Refute it at one input. -/
def leaseFenceWrong : ChangeSpec := { name := "leaseFence", fn := fun _ => fun
  | [d] => { results := [.lit (.bool false)], args := [d] }
  | _ => none }
def LeaseFenceWrongFalsely : Prop := leaseFenceRow.holds Try.pinned (OpenSpec.ofChange leaseFenceWrong)

/-- 'tallylaw11.LeaseExact': WHATEVER THE INPUT: true; the input reads as it did. -/
def leaseExactSpec : ChangeSpec := { name := "leaseExact", fn := fun _ => fun
  | [d] => { results := [.lit (.bool true)], args := [d] }
  | _ => none }
def leaseExactRow : OpenClaim := { program := "ytcbebepngencjaa", sum := "077863609e19a745debcb789ae6f2b021c65c04622cd330f1199673f3fa70a1f", func := "tally/tallylaw11.LeaseExact", spec := "leaseExact", apart := false }
def LeaseExactSaid : Prop := leaseExactRow.holds Try.pinned (OpenSpec.ofChange leaseExactSpec)

/-- ITS FALSE NEIGHBOUR: 'it returns false'. Refute it at one input. -/
def leaseExactWrong : ChangeSpec := { name := "leaseExact", fn := fun _ => fun
  | [d] => { results := [.lit (.bool false)], args := [d] }
  | _ => none }
def LeaseExactWrongFalsely : Prop := leaseExactRow.holds Try.pinned (OpenSpec.ofChange leaseExactWrong)

/- THE SECOND FORM. 'bulk': how many values and letters a reading holds, each counted each time it is reached (what is shared counts as often as it is met; a slice's spare places count too). A statement '..UptoSaid' is the law's where the arguments, and the package variables that the reading takes, are together of bulk at most 1048576: NARROWER than '..Said'. Prove '..Said' where nothing that the law and all that it calls make is longer than what came in: it says more and counts as full. Else prove '..UptoSaid'. A law counts once. -/
mutual
def uptoBulk {H : Type} : DataW H → Nat
  | .lit (.string bytes) => bytes.length + 1
  | .lit _ => 1
  | .nil => 1
  | .ptr d => uptoBulk d + 1
  | .slice elems spare => uptoBulkAll elems + uptoBulkAll spare + 1
  | .agg parts => uptoBulkAll parts + 1
  | .iface _ d => uptoBulk d + 1
  | .map entries => uptoBulkEntries entries + 1
  | .held _ => 1
def uptoBulkAll {H : Type} : List (DataW H) → Nat
  | [] => 0
  | d :: r => uptoBulk d + uptoBulkAll r
def uptoBulkEntries {H : Type} : List (Lit × DataW H) → Nat
  | [] => 0
  | x :: r => uptoBulkEntry x + uptoBulkEntries r
def uptoBulkEntry {H : Type} : Lit × DataW H → Nat
  | (.string bytes, d) => bytes.length + uptoBulk d + 1
  | (_, d) => uptoBulk d + 1
 end
def uptoSmall : (H : Type) → List (DataW H) → Bool := fun _ ds => decide (uptoBulkAll ds ≤ 1048576)
def OpenSpec.upto (s : _root_.Go.ChangeSpec) : _root_.Go.OpenSpec := { _root_.Go.OpenSpec.ofChange s with cond := some uptoSmall }

/-- 'tallylaw11.LeaseRuns', WHERE WHAT IT READS IS OF BULK AT MOST 1048576: true; the input reads as it did. -/
def leaseRunsUptoRow : OpenClaim := { program := "ytcbebepngencjaa", sum := "077863609e19a745debcb789ae6f2b021c65c04622cd330f1199673f3fa70a1f", func := "tally/tallylaw11.LeaseRuns", spec := "leaseRuns", apart := false, narrowed := true }
def LeaseRunsUptoSaid : Prop := leaseRunsUptoRow.holds Try.pinned (OpenSpec.upto leaseRunsSpec)

/-- 'tallylaw11.LeaseEpochs', WHERE WHAT IT READS IS OF BULK AT MOST 1048576: true; the input reads as it did. -/
def leaseEpochsUptoRow : OpenClaim := { program := "ytcbebepngencjaa", sum := "077863609e19a745debcb789ae6f2b021c65c04622cd330f1199673f3fa70a1f", func := "tally/tallylaw11.LeaseEpochs", spec := "leaseEpochs", apart := false, narrowed := true }
def LeaseEpochsUptoSaid : Prop := leaseEpochsUptoRow.holds Try.pinned (OpenSpec.upto leaseEpochsSpec)

/-- 'tallylaw11.LeaseFence', WHERE WHAT IT READS IS OF BULK AT MOST 1048576: true; the input reads as it did. -/
def leaseFenceUptoRow : OpenClaim := { program := "ytcbebepngencjaa", sum := "077863609e19a745debcb789ae6f2b021c65c04622cd330f1199673f3fa70a1f", func := "tally/tallylaw11.LeaseFence", spec := "leaseFence", apart := false, narrowed := true }
def LeaseFenceUptoSaid : Prop := leaseFenceUptoRow.holds Try.pinned (OpenSpec.upto leaseFenceSpec)

/-- 'tallylaw11.LeaseExact', WHERE WHAT IT READS IS OF BULK AT MOST 1048576: true; the input reads as it did. -/
def leaseExactUptoRow : OpenClaim := { program := "ytcbebepngencjaa", sum := "077863609e19a745debcb789ae6f2b021c65c04622cd330f1199673f3fa70a1f", func := "tally/tallylaw11.LeaseExact", spec := "leaseExact", apart := false, narrowed := true }
def LeaseExactUptoSaid : Prop := leaseExactUptoRow.holds Try.pinned (OpenSpec.upto leaseExactSpec)

end Rows
end Go.Proofs.Ytcbebepngencjaa
