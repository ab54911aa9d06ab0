/-
  No cell of these rows narrows 'for every input' (looked for: loops, veiled, ifaces, maps, wideKeys, modest, calm, conditions, laid).
  DERIVED. THE GIVEN ROWS OF THIS SEAT. 3 by the template 'for every input the law returns true; each argument reads behind the call as it read before'; 0 by the template 'total and deterministic' (their statements: YtoaccikhklfeiaaTotals.lean).
  GIVEN WITH THE SEED: the statements are not yours to turn. If you find one false, say at which input.
  Laid BY PROGRAM, IN A SANDBOX (cutbox-rows.mjs): the forced cells as the released guide's own fill.sh prints them over the translation c151561a4d191329… (all of the seat's roots in one cut). By AI agents, Wed Nov 11 2026. No macro, syntax, notation, axiom, sorry.
-/
import Derived.Test.YtoaccikhklfeiaaChecked
import GoSem.Claim
import GoSem.ClaimJoined
import GoSem.ClaimMapViews
import Derived.JoinedTies
import Derived.KernelRfl
namespace Go.Proofs.Ytoaccikhklfeiaa
/- THE CELL 'sum', in the pinned program and in every row, IS THE sha256 OF THE DUMP (.gsa) THAT YtoaccikhklfeiaaProg.lean LOADS. Nothing in Lean hashes anything: it is a label: what it is worth is what the hold of that sum in a sandbox is worth. -/
noncomputable def Try.pinned : Pinned := { name := "ytoaccikhklfeiaa", sum := "c151561a4d191329ac8bdfcadce9f219f862174ba446310c8ac1dd6f138e5405", checked := Try.checked }
namespace Rows
def none {H : Type} : Left H := { results := [], args := [] }

/-- 'kedgelaw13.ProbePuts': WHATEVER THE INPUT: true; the input reads as it did. -/
def probePutsSpec : ChangeSpec := { name := "probePuts", fn := fun _ => fun
  | [d] => { results := [.lit (.bool true)], args := [d] }
  | _ => none }
def probePutsRow : OpenClaim := { program := "ytoaccikhklfeiaa", sum := "c151561a4d191329ac8bdfcadce9f219f862174ba446310c8ac1dd6f138e5405", func := "kedge/kedgelaw13.ProbePuts", spec := "probePuts", apart := false }
def ProbePutsSaid : Prop := probePutsRow.holds Try.pinned (OpenSpec.ofChange probePutsSpec)

/-- ITS FALSE NEIGHBOUR: 'it returns false'. Refute it at one input. -/
def probePutsWrong : ChangeSpec := { name := "probePuts", fn := fun _ => fun
  | [d] => { results := [.lit (.bool false)], args := [d] }
  | _ => none }
def ProbePutsWrongFalsely : Prop := probePutsRow.holds Try.pinned (OpenSpec.ofChange probePutsWrong)

/-- 'kedgelaw13.ProbeGets': WHATEVER THE INPUT: true; the input reads as it did. -/
def probeGetsSpec : ChangeSpec := { name := "probeGets", fn := fun _ => fun
  | [d1, d2, d3] => { results := [.lit (.bool true)], args := [d1, d2, d3] }
  | _ => none }
def probeGetsRow : OpenClaim := { program := "ytoaccikhklfeiaa", sum := "c151561a4d191329ac8bdfcadce9f219f862174ba446310c8ac1dd6f138e5405", func := "kedge/kedgelaw13.ProbeGets", spec := "probeGets", apart := false }
def ProbeGetsSaid : Prop := probeGetsRow.holds Try.pinned (OpenSpec.ofChange probeGetsSpec)

/-- ITS FALSE NEIGHBOUR: 'it returns false'. Refute it at one input. -/
def probeGetsWrong : ChangeSpec := { name := "probeGets", fn := fun _ => fun
  | [d1, d2, d3] => { results := [.lit (.bool false)], args := [d1, d2, d3] }
  | _ => none }
def ProbeGetsWrongFalsely : Prop := probeGetsRow.holds Try.pinned (OpenSpec.ofChange probeGetsWrong)

/-- 'kedgelaw13.ProbeBack': WHATEVER THE INPUT: true; the input reads as it did. -/
def probeBackSpec : ChangeSpec := { name := "probeBack", fn := fun _ => fun
  | [d1, d2] => { results := [.lit (.bool true)], args := [d1, d2] }
  | _ => none }
def probeBackRow : OpenClaim := { program := "ytoaccikhklfeiaa", sum := "c151561a4d191329ac8bdfcadce9f219f862174ba446310c8ac1dd6f138e5405", func := "kedge/kedgelaw13.ProbeBack", spec := "probeBack", inPlace := ["internal/bytealg.MakeNoZero"], apart := false }
def ProbeBackSaid : Prop := probeBackRow.holds Try.pinned (OpenSpec.ofChange probeBackSpec)

/-- ITS FALSE NEIGHBOUR: 'it returns false'. Refute it at one input. -/
def probeBackWrong : ChangeSpec := { name := "probeBack", fn := fun _ => fun
  | [d1, d2] => { results := [.lit (.bool false)], args := [d1, d2] }
  | _ => none }
def ProbeBackWrongFalsely : Prop := probeBackRow.holds Try.pinned (OpenSpec.ofChange probeBackWrong)

/- THE SECOND FORM. 'bulk': how many values and letters a reading holds, each counted each time it is reached (what is shared counts as often as it is met; a slice's spare places count too). A statement '..UptoSaid' is the law's where the arguments, and the package variables that the reading takes, are together of bulk at most 1048576: NARROWER than '..Said'. Prove '..Said' where nothing that the law and all that it calls make is longer than what came in: it says more and counts as full. Else prove '..UptoSaid'. A law counts once. -/
mutual
def uptoBulk {H : Type} : DataW H → Nat
  | .lit (.string bytes) => bytes.length + 1
  | .lit _ => 1
  | .nil => 1
  | .ptr d => uptoBulk d + 1
  | .slice elems spare => uptoBulkAll elems + uptoBulkAll spare + 1
  | .agg parts => uptoBulkAll parts + 1
  | .iface _ d => uptoBulk d + 1
  | .map entries => uptoBulkEntries entries + 1
  | .held _ => 1
def uptoBulkAll {H : Type} : List (DataW H) → Nat
  | [] => 0
  | d :: r => uptoBulk d + uptoBulkAll r
def uptoBulkEntries {H : Type} : List (Lit × DataW H) → Nat
  | [] => 0
  | x :: r => uptoBulkEntry x + uptoBulkEntries r
def uptoBulkEntry {H : Type} : Lit × DataW H → Nat
  | (.string bytes, d) => bytes.length + uptoBulk d + 1
  | (_, d) => uptoBulk d + 1
 end
def uptoSmall : (H : Type) → List (DataW H) → Bool := fun _ ds => decide (uptoBulkAll ds ≤ 1048576)
def OpenSpec.upto (s : _root_.Go.ChangeSpec) : _root_.Go.OpenSpec := { _root_.Go.OpenSpec.ofChange s with cond := some uptoSmall }

/-- 'kedgelaw13.ProbePuts', WHERE WHAT IT READS IS OF BULK AT MOST 1048576: true; the input reads as it did. -/
def probePutsUptoRow : OpenClaim := { program := "ytoaccikhklfeiaa", sum := "c151561a4d191329ac8bdfcadce9f219f862174ba446310c8ac1dd6f138e5405", func := "kedge/kedgelaw13.ProbePuts", spec := "probePuts", apart := false, narrowed := true }
def ProbePutsUptoSaid : Prop := probePutsUptoRow.holds Try.pinned (OpenSpec.upto probePutsSpec)

/-- 'kedgelaw13.ProbeGets', WHERE WHAT IT READS IS OF BULK AT MOST 1048576: true; the input reads as it did. -/
def probeGetsUptoRow : OpenClaim := { program := "ytoaccikhklfeiaa", sum := "c151561a4d191329ac8bdfcadce9f219f862174ba446310c8ac1dd6f138e5405", func := "kedge/kedgelaw13.ProbeGets", spec := "probeGets", apart := false, narrowed := true }
def ProbeGetsUptoSaid : Prop := probeGetsUptoRow.holds Try.pinned (OpenSpec.upto probeGetsSpec)

/-- 'kedgelaw13.ProbeBack', WHERE WHAT IT READS IS OF BULK AT MOST 1048576: true; the input reads as it did. -/
def probeBackUptoRow : OpenClaim := { program := "ytoaccikhklfeiaa", sum := "c151561a4d191329ac8bdfcadce9f219f862174ba446310c8ac1dd6f138e5405", func := "kedge/kedgelaw13.ProbeBack", spec := "probeBack", inPlace := ["internal/bytealg.MakeNoZero"], apart := false, narrowed := true }
def ProbeBackUptoSaid : Prop := probeBackUptoRow.holds Try.pinned (OpenSpec.upto probeBackSpec)

end Rows
end Go.Proofs.Ytoaccikhklfeiaa
