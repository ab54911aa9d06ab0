/-
  No cell of these rows narrows 'for every input' (looked for: loops, veiled, ifaces, maps, wideKeys, modest, calm, conditions, laid).
  DERIVED. THE GIVEN ROWS OF THIS SEAT. 4 by the template 'for every input the law returns true; each argument reads behind the call as it read before'; 0 by the template 'total and deterministic' (their statements: YtpdnpfohcnpenaaTotals.lean).
  GIVEN WITH THE SEED: the statements are not yours to turn. If you find one false, say at which input.
  Laid BY PROGRAM, IN A SANDBOX (cutbox-rows.mjs): the forced cells as the released guide's own fill.sh prints them over the translation 02bbfd9409df8a1d… (all of the seat's roots in one cut). By AI agents, Wed Nov 11 2026. No macro, syntax, notation, axiom, sorry.
-/
import Derived.Test.YtpdnpfohcnpenaaChecked
import GoSem.Claim
import GoSem.ClaimJoined
import GoSem.ClaimMapViews
import Derived.JoinedTies
import Derived.KernelRfl
namespace Go.Proofs.Ytpdnpfohcnpenaa
/- THE CELL 'sum', in the pinned program and in every row, IS THE sha256 OF THE DUMP (.gsa) THAT YtpdnpfohcnpenaaProg.lean LOADS. Nothing in Lean hashes anything: it is a label: what it is worth is what the hold of that sum in a sandbox is worth. -/
noncomputable def Try.pinned : Pinned := { name := "ytpdnpfohcnpenaa", sum := "02bbfd9409df8a1d7ab5002dcf4fd2b7e8380dd88cf7a317b25c4451bfc8f836", checked := Try.checked }
namespace Rows
def none {H : Type} : Left H := { results := [], args := [] }

/-- 'kedgelaw21.HearerDoes': WHATEVER THE INPUT: true; the input reads as it did. -/
def hearerDoesSpec : ChangeSpec := { name := "hearerDoes", fn := fun _ => fun
  | [d1, d2, d3] => { results := [.lit (.bool true)], args := [d1, d2, d3] }
  | _ => none }
def hearerDoesRow : OpenClaim := { program := "ytpdnpfohcnpenaa", sum := "02bbfd9409df8a1d7ab5002dcf4fd2b7e8380dd88cf7a317b25c4451bfc8f836", func := "kedge/kedgelaw21.HearerDoes", spec := "hearerDoes", unfollowed := true, recurses := true, plainKeys := false, apart := false }
def HearerDoesSaid : Prop := hearerDoesRow.holds Try.pinned (OpenSpec.ofChange hearerDoesSpec)

/-- ITS FALSE NEIGHBOUR: 'it returns false'. Refute it at one input. -/
def hearerDoesWrong : ChangeSpec := { name := "hearerDoes", fn := fun _ => fun
  | [d1, d2, d3] => { results := [.lit (.bool false)], args := [d1, d2, d3] }
  | _ => none }
def HearerDoesWrongFalsely : Prop := hearerDoesRow.holds Try.pinned (OpenSpec.ofChange hearerDoesWrong)

/-- 'kedgelaw21.HearerEnters': WHATEVER THE INPUT: true; the input reads as it did. -/
def hearerEntersSpec : ChangeSpec := { name := "hearerEnters", fn := fun _ => fun
  | [d1, d2, d3] => { results := [.lit (.bool true)], args := [d1, d2, d3] }
  | _ => none }
def hearerEntersRow : OpenClaim := { program := "ytpdnpfohcnpenaa", sum := "02bbfd9409df8a1d7ab5002dcf4fd2b7e8380dd88cf7a317b25c4451bfc8f836", func := "kedge/kedgelaw21.HearerEnters", spec := "hearerEnters", unfollowed := true, recurses := true, plainKeys := false, apart := false }
def HearerEntersSaid : Prop := hearerEntersRow.holds Try.pinned (OpenSpec.ofChange hearerEntersSpec)

/-- ITS FALSE NEIGHBOUR: 'it returns false'. Refute it at one input. -/
def hearerEntersWrong : ChangeSpec := { name := "hearerEnters", fn := fun _ => fun
  | [d1, d2, d3] => { results := [.lit (.bool false)], args := [d1, d2, d3] }
  | _ => none }
def HearerEntersWrongFalsely : Prop := hearerEntersRow.holds Try.pinned (OpenSpec.ofChange hearerEntersWrong)

/-- 'kedgelaw21.HearerWaits': WHATEVER THE INPUT: true; the input reads as it did. -/
def hearerWaitsSpec : ChangeSpec := { name := "hearerWaits", fn := fun _ => fun
  | [d1, d2] => { results := [.lit (.bool true)], args := [d1, d2] }
  | _ => none }
def hearerWaitsRow : OpenClaim := { program := "ytpdnpfohcnpenaa", sum := "02bbfd9409df8a1d7ab5002dcf4fd2b7e8380dd88cf7a317b25c4451bfc8f836", func := "kedge/kedgelaw21.HearerWaits", spec := "hearerWaits", unfollowed := true, recurses := true, plainKeys := false, apart := false }
def HearerWaitsSaid : Prop := hearerWaitsRow.holds Try.pinned (OpenSpec.ofChange hearerWaitsSpec)

/-- ITS FALSE NEIGHBOUR: 'it returns false'. Refute it at one input. -/
def hearerWaitsWrong : ChangeSpec := { name := "hearerWaits", fn := fun _ => fun
  | [d1, d2] => { results := [.lit (.bool false)], args := [d1, d2] }
  | _ => none }
def HearerWaitsWrongFalsely : Prop := hearerWaitsRow.holds Try.pinned (OpenSpec.ofChange hearerWaitsWrong)

/-- 'kedgelaw21.HearerSpent': WHATEVER THE INPUT: true; the input reads as it did. -/
def hearerSpentSpec : ChangeSpec := { name := "hearerSpent", fn := fun _ => fun
  | [d] => { results := [.lit (.bool true)], args := [d] }
  | _ => none }
def hearerSpentRow : OpenClaim := { program := "ytpdnpfohcnpenaa", sum := "02bbfd9409df8a1d7ab5002dcf4fd2b7e8380dd88cf7a317b25c4451bfc8f836", func := "kedge/kedgelaw21.HearerSpent", spec := "hearerSpent", unfollowed := true, recurses := true, plainKeys := false, apart := false }
def HearerSpentSaid : Prop := hearerSpentRow.holds Try.pinned (OpenSpec.ofChange hearerSpentSpec)

/-- ITS FALSE NEIGHBOUR: 'it returns false'. Refute it at one input. -/
def hearerSpentWrong : ChangeSpec := { name := "hearerSpent", fn := fun _ => fun
  | [d] => { results := [.lit (.bool false)], args := [d] }
  | _ => none }
def HearerSpentWrongFalsely : Prop := hearerSpentRow.holds Try.pinned (OpenSpec.ofChange hearerSpentWrong)

/- THE SECOND FORM. 'bulk': how many values and letters a reading holds, each counted each time it is reached (what is shared counts as often as it is met; a slice's spare places count too). A statement '..UptoSaid' is the law's where the arguments, and the package variables that the reading takes, are together of bulk at most 1048576: NARROWER than '..Said'. Prove '..Said' where nothing that the law and all that it calls make is longer than what came in: it says more and counts as full. Else prove '..UptoSaid'. A law counts once. -/
mutual
def uptoBulk {H : Type} : DataW H → Nat
  | .lit (.string bytes) => bytes.length + 1
  | .lit _ => 1
  | .nil => 1
  | .ptr d => uptoBulk d + 1
  | .slice elems spare => uptoBulkAll elems + uptoBulkAll spare + 1
  | .agg parts => uptoBulkAll parts + 1
  | .iface _ d => uptoBulk d + 1
  | .map entries => uptoBulkEntries entries + 1
  | .held _ => 1
def uptoBulkAll {H : Type} : List (DataW H) → Nat
  | [] => 0
  | d :: r => uptoBulk d + uptoBulkAll r
def uptoBulkEntries {H : Type} : List (Lit × DataW H) → Nat
  | [] => 0
  | x :: r => uptoBulkEntry x + uptoBulkEntries r
def uptoBulkEntry {H : Type} : Lit × DataW H → Nat
  | (.string bytes, d) => bytes.length + uptoBulk d + 1
  | (_, d) => uptoBulk d + 1
 end
def uptoSmall : (H : Type) → List (DataW H) → Bool := fun _ ds => decide (uptoBulkAll ds ≤ 1048576)
def OpenSpec.upto (s : _root_.Go.ChangeSpec) : _root_.Go.OpenSpec := { _root_.Go.OpenSpec.ofChange s with cond := some uptoSmall }

/-- 'kedgelaw21.HearerDoes', WHERE WHAT IT READS IS OF BULK AT MOST 1048576: true; the input reads as it did. -/
def hearerDoesUptoRow : OpenClaim := { program := "ytpdnpfohcnpenaa", sum := "02bbfd9409df8a1d7ab5002dcf4fd2b7e8380dd88cf7a317b25c4451bfc8f836", func := "kedge/kedgelaw21.HearerDoes", spec := "hearerDoes", unfollowed := true, recurses := true, plainKeys := false, apart := false, narrowed := true }
def HearerDoesUptoSaid : Prop := hearerDoesUptoRow.holds Try.pinned (OpenSpec.upto hearerDoesSpec)

/-- 'kedgelaw21.HearerEnters', WHERE WHAT IT READS IS OF BULK AT MOST 1048576: true; the input reads as it did. -/
def hearerEntersUptoRow : OpenClaim := { program := "ytpdnpfohcnpenaa", sum := "02bbfd9409df8a1d7ab5002dcf4fd2b7e8380dd88cf7a317b25c4451bfc8f836", func := "kedge/kedgelaw21.HearerEnters", spec := "hearerEnters", unfollowed := true, recurses := true, plainKeys := false, apart := false, narrowed := true }
def HearerEntersUptoSaid : Prop := hearerEntersUptoRow.holds Try.pinned (OpenSpec.upto hearerEntersSpec)

/-- 'kedgelaw21.HearerWaits', WHERE WHAT IT READS IS OF BULK AT MOST 1048576: true; the input reads as it did. -/
def hearerWaitsUptoRow : OpenClaim := { program := "ytpdnpfohcnpenaa", sum := "02bbfd9409df8a1d7ab5002dcf4fd2b7e8380dd88cf7a317b25c4451bfc8f836", func := "kedge/kedgelaw21.HearerWaits", spec := "hearerWaits", unfollowed := true, recurses := true, plainKeys := false, apart := false, narrowed := true }
def HearerWaitsUptoSaid : Prop := hearerWaitsUptoRow.holds Try.pinned (OpenSpec.upto hearerWaitsSpec)

/-- 'kedgelaw21.HearerSpent', WHERE WHAT IT READS IS OF BULK AT MOST 1048576: true; the input reads as it did. -/
def hearerSpentUptoRow : OpenClaim := { program := "ytpdnpfohcnpenaa", sum := "02bbfd9409df8a1d7ab5002dcf4fd2b7e8380dd88cf7a317b25c4451bfc8f836", func := "kedge/kedgelaw21.HearerSpent", spec := "hearerSpent", unfollowed := true, recurses := true, plainKeys := false, apart := false, narrowed := true }
def HearerSpentUptoSaid : Prop := hearerSpentUptoRow.holds Try.pinned (OpenSpec.upto hearerSpentSpec)

end Rows
end Go.Proofs.Ytpdnpfohcnpenaa
