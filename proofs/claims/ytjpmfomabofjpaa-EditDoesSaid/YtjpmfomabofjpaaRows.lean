/-
  No cell of these rows narrows 'for every input' (looked for: loops, veiled, ifaces, maps, wideKeys, modest, calm, conditions, laid).
  DERIVED. THE GIVEN ROWS OF THIS SEAT. 4 by the template 'for every input the law returns true; each argument reads behind the call as it read before'; 0 by the template 'total and deterministic' (their statements: YtjpmfomabofjpaaTotals.lean).
  GIVEN WITH THE SEED: the statements are not yours to turn. If you find one false, say at which input.
  Laid BY PROGRAM, IN A SANDBOX (cutbox-rows.mjs): the forced cells as the released guide's own fill.sh prints them over the translation a6ce685f80908044… (all of the seat's roots in one cut). By AI agents, Wed Nov 11 2026. No macro, syntax, notation, axiom, sorry.
-/
import Derived.Test.YtjpmfomabofjpaaChecked
import GoSem.Claim
import GoSem.ClaimJoined
import GoSem.ClaimMapViews
import Derived.JoinedTies
import Derived.KernelRfl
namespace Go.Proofs.Ytjpmfomabofjpaa
/- THE CELL 'sum', in the pinned program and in every row, IS THE sha256 OF THE DUMP (.gsa) THAT YtjpmfomabofjpaaProg.lean LOADS. Nothing in Lean hashes anything: it is a label: what it is worth is what the hold of that sum in a sandbox is worth. -/
noncomputable def Try.pinned : Pinned := { name := "ytjpmfomabofjpaa", sum := "a6ce685f80908044d0a2419df0f8cca64f3db7e17076d52044428137bb5889d8", checked := Try.checked }
namespace Rows
def none {H : Type} : Left H := { results := [], args := [] }

/-- 'kedgelaw06.EditDoes': WHATEVER THE INPUT: true; the input reads as it did. -/
def editDoesSpec : ChangeSpec := { name := "editDoes", fn := fun _ => fun
  | [d1, d2] => { results := [.lit (.bool true)], args := [d1, d2] }
  | _ => none }
def editDoesRow : OpenClaim := { program := "ytjpmfomabofjpaa", sum := "a6ce685f80908044d0a2419df0f8cca64f3db7e17076d52044428137bb5889d8", func := "kedge/kedgelaw06.EditDoes", spec := "editDoes", inPlace := ["internal/bytealg.MakeNoZero"], unfollowed := true, recurses := true, apart := false }
def EditDoesSaid : Prop := editDoesRow.holds Try.pinned (OpenSpec.ofChange editDoesSpec)

/-- ITS FALSE NEIGHBOUR: 'it returns false'. Refute it at one input. -/
def editDoesWrong : ChangeSpec := { name := "editDoes", fn := fun _ => fun
  | [d1, d2] => { results := [.lit (.bool false)], args := [d1, d2] }
  | _ => none }
def EditDoesWrongFalsely : Prop := editDoesRow.holds Try.pinned (OpenSpec.ofChange editDoesWrong)

/-- 'kedgelaw06.EditMilds': WHATEVER THE INPUT: true; the input reads as it did. -/
def editMildsSpec : ChangeSpec := { name := "editMilds", fn := fun _ => fun
  | [d1, d2] => { results := [.lit (.bool true)], args := [d1, d2] }
  | _ => none }
def editMildsRow : OpenClaim := { program := "ytjpmfomabofjpaa", sum := "a6ce685f80908044d0a2419df0f8cca64f3db7e17076d52044428137bb5889d8", func := "kedge/kedgelaw06.EditMilds", spec := "editMilds", inPlace := ["internal/bytealg.MakeNoZero"], unfollowed := true, recurses := true, apart := false }
def EditMildsSaid : Prop := editMildsRow.holds Try.pinned (OpenSpec.ofChange editMildsSpec)

/-- ITS FALSE NEIGHBOUR: 'it returns false'. Refute it at one input. -/
def editMildsWrong : ChangeSpec := { name := "editMilds", fn := fun _ => fun
  | [d1, d2] => { results := [.lit (.bool false)], args := [d1, d2] }
  | _ => none }
def EditMildsWrongFalsely : Prop := editMildsRow.holds Try.pinned (OpenSpec.ofChange editMildsWrong)

/-- 'kedgelaw06.EditForged': WHATEVER THE INPUT: true; the input reads as it did. -/
def editForgedSpec : ChangeSpec := { name := "editForged", fn := fun _ => fun
  | [d1, d2] => { results := [.lit (.bool true)], args := [d1, d2] }
  | _ => none }
def editForgedRow : OpenClaim := { program := "ytjpmfomabofjpaa", sum := "a6ce685f80908044d0a2419df0f8cca64f3db7e17076d52044428137bb5889d8", func := "kedge/kedgelaw06.EditForged", spec := "editForged", inPlace := ["internal/bytealg.MakeNoZero"], unfollowed := true, recurses := true, apart := false }
def EditForgedSaid : Prop := editForgedRow.holds Try.pinned (OpenSpec.ofChange editForgedSpec)

/-- ITS FALSE NEIGHBOUR: 'it returns false'. Refute it at one input. -/
def editForgedWrong : ChangeSpec := { name := "editForged", fn := fun _ => fun
  | [d1, d2] => { results := [.lit (.bool false)], args := [d1, d2] }
  | _ => none }
def EditForgedWrongFalsely : Prop := editForgedRow.holds Try.pinned (OpenSpec.ofChange editForgedWrong)

/-- 'kedgelaw06.EditSafe': WHATEVER THE INPUT: true; the input reads as it did. -/
def editSafeSpec : ChangeSpec := { name := "editSafe", fn := fun _ => fun
  | [d1, d2] => { results := [.lit (.bool true)], args := [d1, d2] }
  | _ => none }
def editSafeRow : OpenClaim := { program := "ytjpmfomabofjpaa", sum := "a6ce685f80908044d0a2419df0f8cca64f3db7e17076d52044428137bb5889d8", func := "kedge/kedgelaw06.EditSafe", spec := "editSafe", inPlace := ["internal/bytealg.MakeNoZero"], unfollowed := true, recurses := true, apart := false }
def EditSafeSaid : Prop := editSafeRow.holds Try.pinned (OpenSpec.ofChange editSafeSpec)

/-- ITS FALSE NEIGHBOUR: 'it returns false'. Refute it at one input. -/
def editSafeWrong : ChangeSpec := { name := "editSafe", fn := fun _ => fun
  | [d1, d2] => { results := [.lit (.bool false)], args := [d1, d2] }
  | _ => none }
def EditSafeWrongFalsely : Prop := editSafeRow.holds Try.pinned (OpenSpec.ofChange editSafeWrong)

/- THE SECOND FORM. 'bulk': how many values and letters a reading holds, each counted each time it is reached (what is shared counts as often as it is met; a slice's spare places count too). A statement '..UptoSaid' is the law's where the arguments, and the package variables that the reading takes, are together of bulk at most 1048576: NARROWER than '..Said'. Prove '..Said' where nothing that the law and all that it calls make is longer than what came in: it says more and counts as full. Else prove '..UptoSaid'. A law counts once. -/
mutual
def uptoBulk {H : Type} : DataW H → Nat
  | .lit (.string bytes) => bytes.length + 1
  | .lit _ => 1
  | .nil => 1
  | .ptr d => uptoBulk d + 1
  | .slice elems spare => uptoBulkAll elems + uptoBulkAll spare + 1
  | .agg parts => uptoBulkAll parts + 1
  | .iface _ d => uptoBulk d + 1
  | .map entries => uptoBulkEntries entries + 1
  | .held _ => 1
def uptoBulkAll {H : Type} : List (DataW H) → Nat
  | [] => 0
  | d :: r => uptoBulk d + uptoBulkAll r
def uptoBulkEntries {H : Type} : List (Lit × DataW H) → Nat
  | [] => 0
  | x :: r => uptoBulkEntry x + uptoBulkEntries r
def uptoBulkEntry {H : Type} : Lit × DataW H → Nat
  | (.string bytes, d) => bytes.length + uptoBulk d + 1
  | (_, d) => uptoBulk d + 1
 end
def uptoSmall : (H : Type) → List (DataW H) → Bool := fun _ ds => decide (uptoBulkAll ds ≤ 1048576)
def OpenSpec.upto (s : _root_.Go.ChangeSpec) : _root_.Go.OpenSpec := { _root_.Go.OpenSpec.ofChange s with cond := some uptoSmall }

/-- 'kedgelaw06.EditDoes', WHERE WHAT IT READS IS OF BULK AT MOST 1048576: true; the input reads as it did. -/
def editDoesUptoRow : OpenClaim := { program := "ytjpmfomabofjpaa", sum := "a6ce685f80908044d0a2419df0f8cca64f3db7e17076d52044428137bb5889d8", func := "kedge/kedgelaw06.EditDoes", spec := "editDoes", inPlace := ["internal/bytealg.MakeNoZero"], unfollowed := true, recurses := true, apart := false, narrowed := true }
def EditDoesUptoSaid : Prop := editDoesUptoRow.holds Try.pinned (OpenSpec.upto editDoesSpec)

/-- 'kedgelaw06.EditMilds', WHERE WHAT IT READS IS OF BULK AT MOST 1048576: true; the input reads as it did. -/
def editMildsUptoRow : OpenClaim := { program := "ytjpmfomabofjpaa", sum := "a6ce685f80908044d0a2419df0f8cca64f3db7e17076d52044428137bb5889d8", func := "kedge/kedgelaw06.EditMilds", spec := "editMilds", inPlace := ["internal/bytealg.MakeNoZero"], unfollowed := true, recurses := true, apart := false, narrowed := true }
def EditMildsUptoSaid : Prop := editMildsUptoRow.holds Try.pinned (OpenSpec.upto editMildsSpec)

/-- 'kedgelaw06.EditForged', WHERE WHAT IT READS IS OF BULK AT MOST 1048576: true; the input reads as it did. -/
def editForgedUptoRow : OpenClaim := { program := "ytjpmfomabofjpaa", sum := "a6ce685f80908044d0a2419df0f8cca64f3db7e17076d52044428137bb5889d8", func := "kedge/kedgelaw06.EditForged", spec := "editForged", inPlace := ["internal/bytealg.MakeNoZero"], unfollowed := true, recurses := true, apart := false, narrowed := true }
def EditForgedUptoSaid : Prop := editForgedUptoRow.holds Try.pinned (OpenSpec.upto editForgedSpec)

/-- 'kedgelaw06.EditSafe', WHERE WHAT IT READS IS OF BULK AT MOST 1048576: true; the input reads as it did. -/
def editSafeUptoRow : OpenClaim := { program := "ytjpmfomabofjpaa", sum := "a6ce685f80908044d0a2419df0f8cca64f3db7e17076d52044428137bb5889d8", func := "kedge/kedgelaw06.EditSafe", spec := "editSafe", inPlace := ["internal/bytealg.MakeNoZero"], unfollowed := true, recurses := true, apart := false, narrowed := true }
def EditSafeUptoSaid : Prop := editSafeUptoRow.holds Try.pinned (OpenSpec.upto editSafeSpec)

end Rows
end Go.Proofs.Ytjpmfomabofjpaa
