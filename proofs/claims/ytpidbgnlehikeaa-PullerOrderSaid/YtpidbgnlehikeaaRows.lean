/-
  No cell of these rows narrows 'for every input' (looked for: loops, veiled, ifaces, maps, wideKeys, modest, calm, conditions, laid).
  DERIVED. THE GIVEN ROWS OF THIS SEAT. 3 by the template 'for every input the law returns true; each argument reads behind the call as it read before'; 0 by the template 'total and deterministic' (their statements: YtpidbgnlehikeaaTotals.lean).
  GIVEN WITH THE SEED: the statements are not yours to turn. If you find one false, say at which input.
  Laid BY PROGRAM, IN A SANDBOX (cutbox-rows.mjs): the forced cells as the released guide's own fill.sh prints them over the translation f5c04f9a63f36ef0… (all of the seat's roots in one cut). By AI agents, Wed Nov 11 2026. No macro, syntax, notation, axiom, sorry.
-/
import Derived.Test.YtpidbgnlehikeaaChecked
import GoSem.Claim
import GoSem.ClaimJoined
import GoSem.ClaimMapViews
import Derived.JoinedTies
import Derived.KernelRfl
namespace Go.Proofs.Ytpidbgnlehikeaa
/- THE CELL 'sum', in the pinned program and in every row, IS THE sha256 OF THE DUMP (.gsa) THAT YtpidbgnlehikeaaProg.lean LOADS. Nothing in Lean hashes anything: it is a label: what it is worth is what the hold of that sum in a sandbox is worth. -/
noncomputable def Try.pinned : Pinned := { name := "ytpidbgnlehikeaa", sum := "f5c04f9a63f36ef07624b9b5cc370e8248d620c251c5cf8edc3a05a4f2d30ed4", checked := Try.checked }
namespace Rows
def none {H : Type} : Left H := { results := [], args := [] }

/-- 'kedgelaw25.PullerDoes': WHATEVER THE INPUT: true; the input reads as it did. -/
def pullerDoesSpec : ChangeSpec := { name := "pullerDoes", fn := fun _ => fun
  | [d1, d2] => { results := [.lit (.bool true)], args := [d1, d2] }
  | _ => none }
def pullerDoesRow : OpenClaim := { program := "ytpidbgnlehikeaa", sum := "f5c04f9a63f36ef07624b9b5cc370e8248d620c251c5cf8edc3a05a4f2d30ed4", func := "kedge/kedgelaw25.PullerDoes", spec := "pullerDoes", inPlace := ["internal/bytealg.MakeNoZero"], unfollowed := true, recurses := true, apart := false }
def PullerDoesSaid : Prop := pullerDoesRow.holds Try.pinned (OpenSpec.ofChange pullerDoesSpec)

/-- ITS FALSE NEIGHBOUR: 'it returns false'. Refute it at one input. -/
def pullerDoesWrong : ChangeSpec := { name := "pullerDoes", fn := fun _ => fun
  | [d1, d2] => { results := [.lit (.bool false)], args := [d1, d2] }
  | _ => none }
def PullerDoesWrongFalsely : Prop := pullerDoesRow.holds Try.pinned (OpenSpec.ofChange pullerDoesWrong)

/-- 'kedgelaw25.PullerOrder': WHATEVER THE INPUT: true; the input reads as it did. -/
def pullerOrderSpec : ChangeSpec := { name := "pullerOrder", fn := fun _ => fun
  | [d1, d2, d3] => { results := [.lit (.bool true)], args := [d1, d2, d3] }
  | _ => none }
def pullerOrderRow : OpenClaim := { program := "ytpidbgnlehikeaa", sum := "f5c04f9a63f36ef07624b9b5cc370e8248d620c251c5cf8edc3a05a4f2d30ed4", func := "kedge/kedgelaw25.PullerOrder", spec := "pullerOrder", inPlace := ["internal/bytealg.MakeNoZero"], apart := false }
def PullerOrderSaid : Prop := pullerOrderRow.holds Try.pinned (OpenSpec.ofChange pullerOrderSpec)

/-- ITS FALSE NEIGHBOUR: 'it returns false'. Refute it at one input. -/
def pullerOrderWrong : ChangeSpec := { name := "pullerOrder", fn := fun _ => fun
  | [d1, d2, d3] => { results := [.lit (.bool false)], args := [d1, d2, d3] }
  | _ => none }
def PullerOrderWrongFalsely : Prop := pullerOrderRow.holds Try.pinned (OpenSpec.ofChange pullerOrderWrong)

/-- 'kedgelaw25.PullerNil': WHATEVER THE INPUT: true; the input reads as it did. -/
def pullerNilSpec : ChangeSpec := { name := "pullerNil", fn := fun _ => fun
  | [d1, d2] => { results := [.lit (.bool true)], args := [d1, d2] }
  | _ => none }
def pullerNilRow : OpenClaim := { program := "ytpidbgnlehikeaa", sum := "f5c04f9a63f36ef07624b9b5cc370e8248d620c251c5cf8edc3a05a4f2d30ed4", func := "kedge/kedgelaw25.PullerNil", spec := "pullerNil", inPlace := ["internal/bytealg.MakeNoZero"], unfollowed := true, recurses := true, apart := false }
def PullerNilSaid : Prop := pullerNilRow.holds Try.pinned (OpenSpec.ofChange pullerNilSpec)

/-- ITS FALSE NEIGHBOUR: 'it returns false'. Refute it at one input. -/
def pullerNilWrong : ChangeSpec := { name := "pullerNil", fn := fun _ => fun
  | [d1, d2] => { results := [.lit (.bool false)], args := [d1, d2] }
  | _ => none }
def PullerNilWrongFalsely : Prop := pullerNilRow.holds Try.pinned (OpenSpec.ofChange pullerNilWrong)

/- THE SECOND FORM. 'bulk': how many values and letters a reading holds, each counted each time it is reached (what is shared counts as often as it is met; a slice's spare places count too). A statement '..UptoSaid' is the law's where the arguments, and the package variables that the reading takes, are together of bulk at most 1048576: NARROWER than '..Said'. Prove '..Said' where nothing that the law and all that it calls make is longer than what came in: it says more and counts as full. Else prove '..UptoSaid'. A law counts once. -/
mutual
def uptoBulk {H : Type} : DataW H → Nat
  | .lit (.string bytes) => bytes.length + 1
  | .lit _ => 1
  | .nil => 1
  | .ptr d => uptoBulk d + 1
  | .slice elems spare => uptoBulkAll elems + uptoBulkAll spare + 1
  | .agg parts => uptoBulkAll parts + 1
  | .iface _ d => uptoBulk d + 1
  | .map entries => uptoBulkEntries entries + 1
  | .held _ => 1
def uptoBulkAll {H : Type} : List (DataW H) → Nat
  | [] => 0
  | d :: r => uptoBulk d + uptoBulkAll r
def uptoBulkEntries {H : Type} : List (Lit × DataW H) → Nat
  | [] => 0
  | x :: r => uptoBulkEntry x + uptoBulkEntries r
def uptoBulkEntry {H : Type} : Lit × DataW H → Nat
  | (.string bytes, d) => bytes.length + uptoBulk d + 1
  | (_, d) => uptoBulk d + 1
 end
def uptoSmall : (H : Type) → List (DataW H) → Bool := fun _ ds => decide (uptoBulkAll ds ≤ 1048576)
def OpenSpec.upto (s : _root_.Go.ChangeSpec) : _root_.Go.OpenSpec := { _root_.Go.OpenSpec.ofChange s with cond := some uptoSmall }

/-- 'kedgelaw25.PullerDoes', WHERE WHAT IT READS IS OF BULK AT MOST 1048576: true; the input reads as it did. -/
def pullerDoesUptoRow : OpenClaim := { program := "ytpidbgnlehikeaa", sum := "f5c04f9a63f36ef07624b9b5cc370e8248d620c251c5cf8edc3a05a4f2d30ed4", func := "kedge/kedgelaw25.PullerDoes", spec := "pullerDoes", inPlace := ["internal/bytealg.MakeNoZero"], unfollowed := true, recurses := true, apart := false, narrowed := true }
def PullerDoesUptoSaid : Prop := pullerDoesUptoRow.holds Try.pinned (OpenSpec.upto pullerDoesSpec)

/-- 'kedgelaw25.PullerOrder', WHERE WHAT IT READS IS OF BULK AT MOST 1048576: true; the input reads as it did. -/
def pullerOrderUptoRow : OpenClaim := { program := "ytpidbgnlehikeaa", sum := "f5c04f9a63f36ef07624b9b5cc370e8248d620c251c5cf8edc3a05a4f2d30ed4", func := "kedge/kedgelaw25.PullerOrder", spec := "pullerOrder", inPlace := ["internal/bytealg.MakeNoZero"], apart := false, narrowed := true }
def PullerOrderUptoSaid : Prop := pullerOrderUptoRow.holds Try.pinned (OpenSpec.upto pullerOrderSpec)

/-- 'kedgelaw25.PullerNil', WHERE WHAT IT READS IS OF BULK AT MOST 1048576: true; the input reads as it did. -/
def pullerNilUptoRow : OpenClaim := { program := "ytpidbgnlehikeaa", sum := "f5c04f9a63f36ef07624b9b5cc370e8248d620c251c5cf8edc3a05a4f2d30ed4", func := "kedge/kedgelaw25.PullerNil", spec := "pullerNil", inPlace := ["internal/bytealg.MakeNoZero"], unfollowed := true, recurses := true, apart := false, narrowed := true }
def PullerNilUptoSaid : Prop := pullerNilUptoRow.holds Try.pinned (OpenSpec.upto pullerNilSpec)

end Rows
end Go.Proofs.Ytpidbgnlehikeaa
