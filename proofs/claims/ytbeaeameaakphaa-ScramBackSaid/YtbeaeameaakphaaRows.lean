/-
  No cell of these rows narrows 'for every input' (looked for: loops, veiled, ifaces, maps, wideKeys, modest, calm, conditions, laid).
  DERIVED. THE GIVEN ROWS OF THIS SEAT. 3 by the template 'for every input the law returns true; each argument reads behind the call as it read before'; 0 by the template 'total and deterministic' (their statements: YtbeaeameaakphaaTotals.lean).
  GIVEN WITH THE SEED: the statements are not yours to turn. If you find one false, say at which input.
  Laid BY PROGRAM, IN A SANDBOX (cutbox-rows.mjs): the forced cells as the released guide's own fill.sh prints them over the translation 1a2956120760c055… (all of the seat's roots in one cut). By AI agents, Wed Nov 11 2026. No macro, syntax, notation, axiom, sorry.
-/
import Derived.Test.YtbeaeameaakphaaChecked
import GoSem.Claim
import GoSem.ClaimJoined
import GoSem.ClaimMapViews
import Derived.JoinedTies
import Derived.KernelRfl
namespace Go.Proofs.Ytbeaeameaakphaa
/- THE CELL 'sum', in the pinned program and in every row, IS THE sha256 OF THE DUMP (.gsa) THAT YtbeaeameaakphaaProg.lean LOADS. Nothing in Lean hashes anything: it is a label: what it is worth is what the hold of that sum in a sandbox is worth. -/
noncomputable def Try.pinned : Pinned := { name := "ytbeaeameaakphaa", sum := "1a2956120760c0552580c54b715978ebdb4f51f7ca01e7707ca63472d639a3cd", checked := Try.checked }
namespace Rows
def none {H : Type} : Left H := { results := [], args := [] }

/-- 'kedgelaw09.ScramSteps': WHATEVER THE INPUT: true; the input reads as it did. -/
def scramStepsSpec : ChangeSpec := { name := "scramSteps", fn := fun _ => fun
  | [d1, d2] => { results := [.lit (.bool true)], args := [d1, d2] }
  | _ => none }
def scramStepsRow : OpenClaim := { program := "ytbeaeameaakphaa", sum := "1a2956120760c0552580c54b715978ebdb4f51f7ca01e7707ca63472d639a3cd", func := "kedge/kedgelaw09.ScramSteps", spec := "scramSteps", apart := false }
def ScramStepsSaid : Prop := scramStepsRow.holds Try.pinned (OpenSpec.ofChange scramStepsSpec)

/-- ITS FALSE NEIGHBOUR: 'it returns false'. Refute it at one input. -/
def scramStepsWrong : ChangeSpec := { name := "scramSteps", fn := fun _ => fun
  | [d1, d2] => { results := [.lit (.bool false)], args := [d1, d2] }
  | _ => none }
def ScramStepsWrongFalsely : Prop := scramStepsRow.holds Try.pinned (OpenSpec.ofChange scramStepsWrong)

/-- 'kedgelaw09.ScramStreams': WHATEVER THE INPUT: true; the input reads as it did. -/
def scramStreamsSpec : ChangeSpec := { name := "scramStreams", fn := fun _ => fun
  | [d1, d2, d3] => { results := [.lit (.bool true)], args := [d1, d2, d3] }
  | _ => none }
def scramStreamsRow : OpenClaim := { program := "ytbeaeameaakphaa", sum := "1a2956120760c0552580c54b715978ebdb4f51f7ca01e7707ca63472d639a3cd", func := "kedge/kedgelaw09.ScramStreams", spec := "scramStreams", apart := false }
def ScramStreamsSaid : Prop := scramStreamsRow.holds Try.pinned (OpenSpec.ofChange scramStreamsSpec)

/-- ITS FALSE NEIGHBOUR: 'it returns false'. Refute it at one input. -/
def scramStreamsWrong : ChangeSpec := { name := "scramStreams", fn := fun _ => fun
  | [d1, d2, d3] => { results := [.lit (.bool false)], args := [d1, d2, d3] }
  | _ => none }
def ScramStreamsWrongFalsely : Prop := scramStreamsRow.holds Try.pinned (OpenSpec.ofChange scramStreamsWrong)

/-- 'kedgelaw09.ScramBack': WHATEVER THE INPUT: true; the input reads as it did. -/
def scramBackSpec : ChangeSpec := { name := "scramBack", fn := fun _ => fun
  | [d1, d2, d3] => { results := [.lit (.bool true)], args := [d1, d2, d3] }
  | _ => none }
def scramBackRow : OpenClaim := { program := "ytbeaeameaakphaa", sum := "1a2956120760c0552580c54b715978ebdb4f51f7ca01e7707ca63472d639a3cd", func := "kedge/kedgelaw09.ScramBack", spec := "scramBack", apart := false }
def ScramBackSaid : Prop := scramBackRow.holds Try.pinned (OpenSpec.ofChange scramBackSpec)

/-- ITS FALSE NEIGHBOUR: 'it returns false'. Refute it at one input. -/
def scramBackWrong : ChangeSpec := { name := "scramBack", fn := fun _ => fun
  | [d1, d2, d3] => { results := [.lit (.bool false)], args := [d1, d2, d3] }
  | _ => none }
def ScramBackWrongFalsely : Prop := scramBackRow.holds Try.pinned (OpenSpec.ofChange scramBackWrong)

/- THE SECOND FORM. 'bulk': how many values and letters a reading holds, each counted each time it is reached (what is shared counts as often as it is met; a slice's spare places count too). A statement '..UptoSaid' is the law's where the arguments, and the package variables that the reading takes, are together of bulk at most 1048576: NARROWER than '..Said'. Prove '..Said' where nothing that the law and all that it calls make is longer than what came in: it says more and counts as full. Else prove '..UptoSaid'. A law counts once. -/
mutual
def uptoBulk {H : Type} : DataW H → Nat
  | .lit (.string bytes) => bytes.length + 1
  | .lit _ => 1
  | .nil => 1
  | .ptr d => uptoBulk d + 1
  | .slice elems spare => uptoBulkAll elems + uptoBulkAll spare + 1
  | .agg parts => uptoBulkAll parts + 1
  | .iface _ d => uptoBulk d + 1
  | .map entries => uptoBulkEntries entries + 1
  | .held _ => 1
def uptoBulkAll {H : Type} : List (DataW H) → Nat
  | [] => 0
  | d :: r => uptoBulk d + uptoBulkAll r
def uptoBulkEntries {H : Type} : List (Lit × DataW H) → Nat
  | [] => 0
  | x :: r => uptoBulkEntry x + uptoBulkEntries r
def uptoBulkEntry {H : Type} : Lit × DataW H → Nat
  | (.string bytes, d) => bytes.length + uptoBulk d + 1
  | (_, d) => uptoBulk d + 1
 end
def uptoSmall : (H : Type) → List (DataW H) → Bool := fun _ ds => decide (uptoBulkAll ds ≤ 1048576)
def OpenSpec.upto (s : _root_.Go.ChangeSpec) : _root_.Go.OpenSpec := { _root_.Go.OpenSpec.ofChange s with cond := some uptoSmall }

/-- 'kedgelaw09.ScramSteps', WHERE WHAT IT READS IS OF BULK AT MOST 1048576: true; the input reads as it did. -/
def scramStepsUptoRow : OpenClaim := { program := "ytbeaeameaakphaa", sum := "1a2956120760c0552580c54b715978ebdb4f51f7ca01e7707ca63472d639a3cd", func := "kedge/kedgelaw09.ScramSteps", spec := "scramSteps", apart := false, narrowed := true }
def ScramStepsUptoSaid : Prop := scramStepsUptoRow.holds Try.pinned (OpenSpec.upto scramStepsSpec)

/-- 'kedgelaw09.ScramStreams', WHERE WHAT IT READS IS OF BULK AT MOST 1048576: true; the input reads as it did. -/
def scramStreamsUptoRow : OpenClaim := { program := "ytbeaeameaakphaa", sum := "1a2956120760c0552580c54b715978ebdb4f51f7ca01e7707ca63472d639a3cd", func := "kedge/kedgelaw09.ScramStreams", spec := "scramStreams", apart := false, narrowed := true }
def ScramStreamsUptoSaid : Prop := scramStreamsUptoRow.holds Try.pinned (OpenSpec.upto scramStreamsSpec)

/-- 'kedgelaw09.ScramBack', WHERE WHAT IT READS IS OF BULK AT MOST 1048576: true; the input reads as it did. -/
def scramBackUptoRow : OpenClaim := { program := "ytbeaeameaakphaa", sum := "1a2956120760c0552580c54b715978ebdb4f51f7ca01e7707ca63472d639a3cd", func := "kedge/kedgelaw09.ScramBack", spec := "scramBack", apart := false, narrowed := true }
def ScramBackUptoSaid : Prop := scramBackUptoRow.holds Try.pinned (OpenSpec.upto scramBackSpec)

end Rows
end Go.Proofs.Ytbeaeameaakphaa
