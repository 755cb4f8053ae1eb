/-
  No cell of these rows narrows 'for every input' (looked for: loops, veiled, ifaces, maps, wideKeys, modest, calm, conditions, laid).
  DERIVED. THE GIVEN ROWS OF THIS SEAT. 2 by the template 'for every input the law returns true; each argument reads behind the call as it read before'; 0 by the template 'total and deterministic' (their statements: YtflppkmicgglfaaTotals.lean).
  GIVEN WITH THE SEED: the statements are not yours to turn. If you find one false, say at which input.
  Laid BY PROGRAM, IN A SANDBOX (cutbox-rows.mjs): the forced cells as the released guide's own fill.sh prints them over the translation eac59ddc16a11092… (all of the seat's roots in one cut). By AI agents, Wed Nov 11 2026. No macro, syntax, notation, axiom, sorry.
-/
import Derived.Test.YtflppkmicgglfaaChecked
import GoSem.Claim
import GoSem.ClaimJoined
import GoSem.ClaimMapViews
import Derived.JoinedTies
import Derived.KernelRfl
namespace Go.Proofs.Ytflppkmicgglfaa
/- THE CELL 'sum', in the pinned program and in every row, IS THE sha256 OF THE DUMP (.gsa) THAT YtflppkmicgglfaaProg.lean LOADS. Nothing in Lean hashes anything: it is a label: what it is worth is what the hold of that sum in a sandbox is worth. -/
noncomputable def Try.pinned : Pinned := { name := "ytflppkmicgglfaa", sum := "eac59ddc16a11092608d42a0c1511866ff86d00a82a29da2c44dd54881a659c9", checked := Try.checked }
namespace Rows
def none {H : Type} : Left H := { results := [], args := [] }

/-- 'tallylaw13.SettleSends': WHATEVER THE INPUT: true; the input reads as it did. -/
def settleSendsSpec : ChangeSpec := { name := "settleSends", fn := fun _ => fun
  | [d] => { results := [.lit (.bool true)], args := [d] }
  | _ => none }
def settleSendsRow : OpenClaim := { program := "ytflppkmicgglfaa", sum := "eac59ddc16a11092608d42a0c1511866ff86d00a82a29da2c44dd54881a659c9", func := "tally/tallylaw13.SettleSends", spec := "settleSends", unfollowed := true, recurses := true, apart := false }
def SettleSendsSaid : Prop := settleSendsRow.holds Try.pinned (OpenSpec.ofChange settleSendsSpec)

/-- ITS FALSE NEIGHBOUR: 'it returns false'. Refute it at one input. -/
def settleSendsWrong : ChangeSpec := { name := "settleSends", fn := fun _ => fun
  | [d] => { results := [.lit (.bool false)], args := [d] }
  | _ => none }
def SettleSendsWrongFalsely : Prop := settleSendsRow.holds Try.pinned (OpenSpec.ofChange settleSendsWrong)

/-- 'tallylaw13.SettleDrains': WHATEVER THE INPUT: true; the input reads as it did. -/
def settleDrainsSpec : ChangeSpec := { name := "settleDrains", fn := fun _ => fun
  | [d] => { results := [.lit (.bool true)], args := [d] }
  | _ => none }
def settleDrainsRow : OpenClaim := { program := "ytflppkmicgglfaa", sum := "eac59ddc16a11092608d42a0c1511866ff86d00a82a29da2c44dd54881a659c9", func := "tally/tallylaw13.SettleDrains", spec := "settleDrains", unfollowed := true, recurses := true, apart := false }
def SettleDrainsSaid : Prop := settleDrainsRow.holds Try.pinned (OpenSpec.ofChange settleDrainsSpec)

/-- ITS FALSE NEIGHBOUR: 'it returns false'. Refute it at one input. -/
def settleDrainsWrong : ChangeSpec := { name := "settleDrains", fn := fun _ => fun
  | [d] => { results := [.lit (.bool false)], args := [d] }
  | _ => none }
def SettleDrainsWrongFalsely : Prop := settleDrainsRow.holds Try.pinned (OpenSpec.ofChange settleDrainsWrong)

/- THE SECOND FORM. 'bulk': how many values and letters a reading holds, each counted each time it is reached (what is shared counts as often as it is met; a slice's spare places count too). A statement '..UptoSaid' is the law's where the arguments, and the package variables that the reading takes, are together of bulk at most 1048576: NARROWER than '..Said'. Prove '..Said' where nothing that the law and all that it calls make is longer than what came in: it says more and counts as full. Else prove '..UptoSaid'. A law counts once. -/
mutual
def uptoBulk {H : Type} : DataW H → Nat
  | .lit (.string bytes) => bytes.length + 1
  | .lit _ => 1
  | .nil => 1
  | .ptr d => uptoBulk d + 1
  | .slice elems spare => uptoBulkAll elems + uptoBulkAll spare + 1
  | .agg parts => uptoBulkAll parts + 1
  | .iface _ d => uptoBulk d + 1
  | .map entries => uptoBulkEntries entries + 1
  | .held _ => 1
def uptoBulkAll {H : Type} : List (DataW H) → Nat
  | [] => 0
  | d :: r => uptoBulk d + uptoBulkAll r
def uptoBulkEntries {H : Type} : List (Lit × DataW H) → Nat
  | [] => 0
  | x :: r => uptoBulkEntry x + uptoBulkEntries r
def uptoBulkEntry {H : Type} : Lit × DataW H → Nat
  | (.string bytes, d) => bytes.length + uptoBulk d + 1
  | (_, d) => uptoBulk d + 1
 end
def uptoSmall : (H : Type) → List (DataW H) → Bool := fun _ ds => decide (uptoBulkAll ds ≤ 1048576)
def OpenSpec.upto (s : _root_.Go.ChangeSpec) : _root_.Go.OpenSpec := { _root_.Go.OpenSpec.ofChange s with cond := some uptoSmall }

/-- 'tallylaw13.SettleSends', WHERE WHAT IT READS IS OF BULK AT MOST 1048576: true; the input reads as it did. -/
def settleSendsUptoRow : OpenClaim := { program := "ytflppkmicgglfaa", sum := "eac59ddc16a11092608d42a0c1511866ff86d00a82a29da2c44dd54881a659c9", func := "tally/tallylaw13.SettleSends", spec := "settleSends", unfollowed := true, recurses := true, apart := false, narrowed := true }
def SettleSendsUptoSaid : Prop := settleSendsUptoRow.holds Try.pinned (OpenSpec.upto settleSendsSpec)

/-- 'tallylaw13.SettleDrains', WHERE WHAT IT READS IS OF BULK AT MOST 1048576: true; the input reads as it did. -/
def settleDrainsUptoRow : OpenClaim := { program := "ytflppkmicgglfaa", sum := "eac59ddc16a11092608d42a0c1511866ff86d00a82a29da2c44dd54881a659c9", func := "tally/tallylaw13.SettleDrains", spec := "settleDrains", unfollowed := true, recurses := true, apart := false, narrowed := true }
def SettleDrainsUptoSaid : Prop := settleDrainsUptoRow.holds Try.pinned (OpenSpec.upto settleDrainsSpec)

end Rows
end Go.Proofs.Ytflppkmicgglfaa
