/-
  No cell of these rows narrows 'for every input' (looked for: loops, veiled, ifaces, maps, wideKeys, modest, calm, conditions, laid).
  DERIVED. THE GIVEN ROWS OF THIS SEAT. 4 by the template 'for every input the law returns true; each argument reads behind the call as it read before'; 0 by the template 'total and deterministic' (their statements: YthjnmibpfkemeaaTotals.lean).
  GIVEN WITH THE SEED: the statements are not yours to turn. If you find one false, say at which input.
  Laid BY PROGRAM, IN A SANDBOX (cutbox-rows.mjs): the forced cells as the released guide's own fill.sh prints them over the translation e984f55a47f7961e… (all of the seat's roots in one cut). By AI agents, Wed Nov 11 2026. No macro, syntax, notation, axiom, sorry.
-/
import Derived.Test.YthjnmibpfkemeaaChecked
import GoSem.Claim
import GoSem.ClaimJoined
import GoSem.ClaimMapViews
import Derived.JoinedTies
import Derived.KernelRfl
namespace Go.Proofs.Ythjnmibpfkemeaa
/- THE CELL 'sum', in the pinned program and in every row, IS THE sha256 OF THE DUMP (.gsa) THAT YthjnmibpfkemeaaProg.lean LOADS. Nothing in Lean hashes anything: it is a label: what it is worth is what the hold of that sum in a sandbox is worth. -/
noncomputable def Try.pinned : Pinned := { name := "ythjnmibpfkemeaa", sum := "e984f55a47f7961ebd8b6842d0c915ceda010b0baf3002fe0d52c0e46ce63af0", checked := Try.checked }
namespace Rows
def none {H : Type} : Left H := { results := [], args := [] }

/-- 'kedgelaw22.RingChecks': WHATEVER THE INPUT: true; the input reads as it did. -/
def ringChecksSpec : ChangeSpec := { name := "ringChecks", fn := fun _ => fun
  | [d1, d2, d3] => { results := [.lit (.bool true)], args := [d1, d2, d3] }
  | _ => none }
def ringChecksRow : OpenClaim := { program := "ythjnmibpfkemeaa", sum := "e984f55a47f7961ebd8b6842d0c915ceda010b0baf3002fe0d52c0e46ce63af0", func := "kedge/kedgelaw22.RingChecks", spec := "ringChecks", apart := false }
def RingChecksSaid : Prop := ringChecksRow.holds Try.pinned (OpenSpec.ofChange ringChecksSpec)

/-- ITS FALSE NEIGHBOUR: 'it returns false'. Refute it at one input. -/
def ringChecksWrong : ChangeSpec := { name := "ringChecks", fn := fun _ => fun
  | [d1, d2, d3] => { results := [.lit (.bool false)], args := [d1, d2, d3] }
  | _ => none }
def RingChecksWrongFalsely : Prop := ringChecksRow.holds Try.pinned (OpenSpec.ofChange ringChecksWrong)

/-- 'kedgelaw22.RingNear': WHATEVER THE INPUT: true; the input reads as it did. -/
def ringNearSpec : ChangeSpec := { name := "ringNear", fn := fun _ => fun
  | [d1, d2, d3] => { results := [.lit (.bool true)], args := [d1, d2, d3] }
  | _ => none }
def ringNearRow : OpenClaim := { program := "ythjnmibpfkemeaa", sum := "e984f55a47f7961ebd8b6842d0c915ceda010b0baf3002fe0d52c0e46ce63af0", func := "kedge/kedgelaw22.RingNear", spec := "ringNear", apart := false }
def RingNearSaid : Prop := ringNearRow.holds Try.pinned (OpenSpec.ofChange ringNearSpec)

/-- ITS FALSE NEIGHBOUR: 'it returns false'. Refute it at one input. -/
def ringNearWrong : ChangeSpec := { name := "ringNear", fn := fun _ => fun
  | [d1, d2, d3] => { results := [.lit (.bool false)], args := [d1, d2, d3] }
  | _ => none }
def RingNearWrongFalsely : Prop := ringNearRow.holds Try.pinned (OpenSpec.ofChange ringNearWrong)

/-- 'kedgelaw22.RingMods': WHATEVER THE INPUT: true; the input reads as it did. -/
def ringModsSpec : ChangeSpec := { name := "ringMods", fn := fun _ => fun
  | [d1, d2, d3] => { results := [.lit (.bool true)], args := [d1, d2, d3] }
  | _ => none }
def ringModsRow : OpenClaim := { program := "ythjnmibpfkemeaa", sum := "e984f55a47f7961ebd8b6842d0c915ceda010b0baf3002fe0d52c0e46ce63af0", func := "kedge/kedgelaw22.RingMods", spec := "ringMods", apart := false }
def RingModsSaid : Prop := ringModsRow.holds Try.pinned (OpenSpec.ofChange ringModsSpec)

/-- ITS FALSE NEIGHBOUR: 'it returns false'. Refute it at one input. -/
def ringModsWrong : ChangeSpec := { name := "ringMods", fn := fun _ => fun
  | [d1, d2, d3] => { results := [.lit (.bool false)], args := [d1, d2, d3] }
  | _ => none }
def RingModsWrongFalsely : Prop := ringModsRow.holds Try.pinned (OpenSpec.ofChange ringModsWrong)

/-- 'kedgelaw22.RingEnough': WHATEVER THE INPUT: true; the input reads as it did. -/
def ringEnoughSpec : ChangeSpec := { name := "ringEnough", fn := fun _ => fun
  | [d1, d2] => { results := [.lit (.bool true)], args := [d1, d2] }
  | _ => none }
def ringEnoughRow : OpenClaim := { program := "ythjnmibpfkemeaa", sum := "e984f55a47f7961ebd8b6842d0c915ceda010b0baf3002fe0d52c0e46ce63af0", func := "kedge/kedgelaw22.RingEnough", spec := "ringEnough", apart := false }
def RingEnoughSaid : Prop := ringEnoughRow.holds Try.pinned (OpenSpec.ofChange ringEnoughSpec)

/-- ITS FALSE NEIGHBOUR: 'it returns false'. Refute it at one input. -/
def ringEnoughWrong : ChangeSpec := { name := "ringEnough", fn := fun _ => fun
  | [d1, d2] => { results := [.lit (.bool false)], args := [d1, d2] }
  | _ => none }
def RingEnoughWrongFalsely : Prop := ringEnoughRow.holds Try.pinned (OpenSpec.ofChange ringEnoughWrong)

/- THE SECOND FORM. 'bulk': how many values and letters a reading holds, each counted each time it is reached (what is shared counts as often as it is met; a slice's spare places count too). A statement '..UptoSaid' is the law's where the arguments, and the package variables that the reading takes, are together of bulk at most 1048576: NARROWER than '..Said'. Prove '..Said' where nothing that the law and all that it calls make is longer than what came in: it says more and counts as full. Else prove '..UptoSaid'. A law counts once. -/
mutual
def uptoBulk {H : Type} : DataW H → Nat
  | .lit (.string bytes) => bytes.length + 1
  | .lit _ => 1
  | .nil => 1
  | .ptr d => uptoBulk d + 1
  | .slice elems spare => uptoBulkAll elems + uptoBulkAll spare + 1
  | .agg parts => uptoBulkAll parts + 1
  | .iface _ d => uptoBulk d + 1
  | .map entries => uptoBulkEntries entries + 1
  | .held _ => 1
def uptoBulkAll {H : Type} : List (DataW H) → Nat
  | [] => 0
  | d :: r => uptoBulk d + uptoBulkAll r
def uptoBulkEntries {H : Type} : List (Lit × DataW H) → Nat
  | [] => 0
  | x :: r => uptoBulkEntry x + uptoBulkEntries r
def uptoBulkEntry {H : Type} : Lit × DataW H → Nat
  | (.string bytes, d) => bytes.length + uptoBulk d + 1
  | (_, d) => uptoBulk d + 1
 end
def uptoSmall : (H : Type) → List (DataW H) → Bool := fun _ ds => decide (uptoBulkAll ds ≤ 1048576)
def OpenSpec.upto (s : _root_.Go.ChangeSpec) : _root_.Go.OpenSpec := { _root_.Go.OpenSpec.ofChange s with cond := some uptoSmall }

/-- 'kedgelaw22.RingChecks', WHERE WHAT IT READS IS OF BULK AT MOST 1048576: true; the input reads as it did. -/
def ringChecksUptoRow : OpenClaim := { program := "ythjnmibpfkemeaa", sum := "e984f55a47f7961ebd8b6842d0c915ceda010b0baf3002fe0d52c0e46ce63af0", func := "kedge/kedgelaw22.RingChecks", spec := "ringChecks", apart := false, narrowed := true }
def RingChecksUptoSaid : Prop := ringChecksUptoRow.holds Try.pinned (OpenSpec.upto ringChecksSpec)

/-- 'kedgelaw22.RingNear', WHERE WHAT IT READS IS OF BULK AT MOST 1048576: true; the input reads as it did. -/
def ringNearUptoRow : OpenClaim := { program := "ythjnmibpfkemeaa", sum := "e984f55a47f7961ebd8b6842d0c915ceda010b0baf3002fe0d52c0e46ce63af0", func := "kedge/kedgelaw22.RingNear", spec := "ringNear", apart := false, narrowed := true }
def RingNearUptoSaid : Prop := ringNearUptoRow.holds Try.pinned (OpenSpec.upto ringNearSpec)

/-- 'kedgelaw22.RingMods', WHERE WHAT IT READS IS OF BULK AT MOST 1048576: true; the input reads as it did. -/
def ringModsUptoRow : OpenClaim := { program := "ythjnmibpfkemeaa", sum := "e984f55a47f7961ebd8b6842d0c915ceda010b0baf3002fe0d52c0e46ce63af0", func := "kedge/kedgelaw22.RingMods", spec := "ringMods", apart := false, narrowed := true }
def RingModsUptoSaid : Prop := ringModsUptoRow.holds Try.pinned (OpenSpec.upto ringModsSpec)

/-- 'kedgelaw22.RingEnough', WHERE WHAT IT READS IS OF BULK AT MOST 1048576: true; the input reads as it did. -/
def ringEnoughUptoRow : OpenClaim := { program := "ythjnmibpfkemeaa", sum := "e984f55a47f7961ebd8b6842d0c915ceda010b0baf3002fe0d52c0e46ce63af0", func := "kedge/kedgelaw22.RingEnough", spec := "ringEnough", apart := false, narrowed := true }
def RingEnoughUptoSaid : Prop := ringEnoughUptoRow.holds Try.pinned (OpenSpec.upto ringEnoughSpec)

end Rows
end Go.Proofs.Ythjnmibpfkemeaa
