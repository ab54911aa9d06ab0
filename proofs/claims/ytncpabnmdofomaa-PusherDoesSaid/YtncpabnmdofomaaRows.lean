/-
  No cell of these rows narrows 'for every input' (looked for: loops, veiled, ifaces, maps, wideKeys, modest, calm, conditions, laid).
  DERIVED. THE GIVEN ROWS OF THIS SEAT. 3 by the template 'for every input the law returns true; each argument reads behind the call as it read before'; 0 by the template 'total and deterministic' (their statements: YtncpabnmdofomaaTotals.lean).
  GIVEN WITH THE SEED: the statements are not yours to turn. If you find one false, say at which input.
  Laid BY PROGRAM, IN A SANDBOX (cutbox-rows.mjs): the forced cells as the released guide's own fill.sh prints them over the translation 9eadf210aeb078af… (all of the seat's roots in one cut). By AI agents, Wed Nov 11 2026. No macro, syntax, notation, axiom, sorry.
-/
import Derived.Test.YtncpabnmdofomaaChecked
import GoSem.Claim
import GoSem.ClaimJoined
import GoSem.ClaimMapViews
import Derived.JoinedTies
import Derived.KernelRfl
namespace Go.Proofs.Ytncpabnmdofomaa
/- THE CELL 'sum', in the pinned program and in every row, IS THE sha256 OF THE DUMP (.gsa) THAT YtncpabnmdofomaaProg.lean LOADS. Nothing in Lean hashes anything: it is a label: what it is worth is what the hold of that sum in a sandbox is worth. -/
noncomputable def Try.pinned : Pinned := { name := "ytncpabnmdofomaa", sum := "9eadf210aeb078af69ed19b8dfce91713cef125c845ab1309fd111bd2ddad164", checked := Try.checked }
namespace Rows
def none {H : Type} : Left H := { results := [], args := [] }

/-- 'kedgelaw24.PusherDoes': WHATEVER THE INPUT: true; the input reads as it did. -/
def pusherDoesSpec : ChangeSpec := { name := "pusherDoes", fn := fun _ => fun
  | [d1, d2] => { results := [.lit (.bool true)], args := [d1, d2] }
  | _ => none }
def pusherDoesRow : OpenClaim := { program := "ytncpabnmdofomaa", sum := "9eadf210aeb078af69ed19b8dfce91713cef125c845ab1309fd111bd2ddad164", func := "kedge/kedgelaw24.PusherDoes", spec := "pusherDoes", inPlace := ["internal/bytealg.MakeNoZero"], unfollowed := true, recurses := true, apart := false }
def PusherDoesSaid : Prop := pusherDoesRow.holds Try.pinned (OpenSpec.ofChange pusherDoesSpec)

/-- ITS FALSE NEIGHBOUR: 'it returns false'. Refute it at one input. -/
def pusherDoesWrong : ChangeSpec := { name := "pusherDoes", fn := fun _ => fun
  | [d1, d2] => { results := [.lit (.bool false)], args := [d1, d2] }
  | _ => none }
def PusherDoesWrongFalsely : Prop := pusherDoesRow.holds Try.pinned (OpenSpec.ofChange pusherDoesWrong)

/-- 'kedgelaw24.PusherWindow': WHATEVER THE INPUT: true; the input reads as it did. -/
def pusherWindowSpec : ChangeSpec := { name := "pusherWindow", fn := fun _ => fun
  | [d1, d2] => { results := [.lit (.bool true)], args := [d1, d2] }
  | _ => none }
def pusherWindowRow : OpenClaim := { program := "ytncpabnmdofomaa", sum := "9eadf210aeb078af69ed19b8dfce91713cef125c845ab1309fd111bd2ddad164", func := "kedge/kedgelaw24.PusherWindow", spec := "pusherWindow", inPlace := ["internal/bytealg.MakeNoZero"], unfollowed := true, recurses := true, apart := false }
def PusherWindowSaid : Prop := pusherWindowRow.holds Try.pinned (OpenSpec.ofChange pusherWindowSpec)

/-- ITS FALSE NEIGHBOUR: 'it returns false'. Refute it at one input. -/
def pusherWindowWrong : ChangeSpec := { name := "pusherWindow", fn := fun _ => fun
  | [d1, d2] => { results := [.lit (.bool false)], args := [d1, d2] }
  | _ => none }
def PusherWindowWrongFalsely : Prop := pusherWindowRow.holds Try.pinned (OpenSpec.ofChange pusherWindowWrong)

/-- 'kedgelaw24.PusherNil': WHATEVER THE INPUT: true; the input reads as it did. -/
def pusherNilSpec : ChangeSpec := { name := "pusherNil", fn := fun _ => fun
  | [d1, d2] => { results := [.lit (.bool true)], args := [d1, d2] }
  | _ => none }
def pusherNilRow : OpenClaim := { program := "ytncpabnmdofomaa", sum := "9eadf210aeb078af69ed19b8dfce91713cef125c845ab1309fd111bd2ddad164", func := "kedge/kedgelaw24.PusherNil", spec := "pusherNil", inPlace := ["internal/bytealg.MakeNoZero"], unfollowed := true, recurses := true, apart := false }
def PusherNilSaid : Prop := pusherNilRow.holds Try.pinned (OpenSpec.ofChange pusherNilSpec)

/-- ITS FALSE NEIGHBOUR: 'it returns false'. Refute it at one input. -/
def pusherNilWrong : ChangeSpec := { name := "pusherNil", fn := fun _ => fun
  | [d1, d2] => { results := [.lit (.bool false)], args := [d1, d2] }
  | _ => none }
def PusherNilWrongFalsely : Prop := pusherNilRow.holds Try.pinned (OpenSpec.ofChange pusherNilWrong)

/- THE SECOND FORM. 'bulk': how many values and letters a reading holds, each counted each time it is reached (what is shared counts as often as it is met; a slice's spare places count too). A statement '..UptoSaid' is the law's where the arguments, and the package variables that the reading takes, are together of bulk at most 1048576: NARROWER than '..Said'. Prove '..Said' where nothing that the law and all that it calls make is longer than what came in: it says more and counts as full. Else prove '..UptoSaid'. A law counts once. -/
mutual
def uptoBulk {H : Type} : DataW H → Nat
  | .lit (.string bytes) => bytes.length + 1
  | .lit _ => 1
  | .nil => 1
  | .ptr d => uptoBulk d + 1
  | .slice elems spare => uptoBulkAll elems + uptoBulkAll spare + 1
  | .agg parts => uptoBulkAll parts + 1
  | .iface _ d => uptoBulk d + 1
  | .map entries => uptoBulkEntries entries + 1
  | .held _ => 1
def uptoBulkAll {H : Type} : List (DataW H) → Nat
  | [] => 0
  | d :: r => uptoBulk d + uptoBulkAll r
def uptoBulkEntries {H : Type} : List (Lit × DataW H) → Nat
  | [] => 0
  | x :: r => uptoBulkEntry x + uptoBulkEntries r
def uptoBulkEntry {H : Type} : Lit × DataW H → Nat
  | (.string bytes, d) => bytes.length + uptoBulk d + 1
  | (_, d) => uptoBulk d + 1
 end
def uptoSmall : (H : Type) → List (DataW H) → Bool := fun _ ds => decide (uptoBulkAll ds ≤ 1048576)
def OpenSpec.upto (s : _root_.Go.ChangeSpec) : _root_.Go.OpenSpec := { _root_.Go.OpenSpec.ofChange s with cond := some uptoSmall }

/-- 'kedgelaw24.PusherDoes', WHERE WHAT IT READS IS OF BULK AT MOST 1048576: true; the input reads as it did. -/
def pusherDoesUptoRow : OpenClaim := { program := "ytncpabnmdofomaa", sum := "9eadf210aeb078af69ed19b8dfce91713cef125c845ab1309fd111bd2ddad164", func := "kedge/kedgelaw24.PusherDoes", spec := "pusherDoes", inPlace := ["internal/bytealg.MakeNoZero"], unfollowed := true, recurses := true, apart := false, narrowed := true }
def PusherDoesUptoSaid : Prop := pusherDoesUptoRow.holds Try.pinned (OpenSpec.upto pusherDoesSpec)

/-- 'kedgelaw24.PusherWindow', WHERE WHAT IT READS IS OF BULK AT MOST 1048576: true; the input reads as it did. -/
def pusherWindowUptoRow : OpenClaim := { program := "ytncpabnmdofomaa", sum := "9eadf210aeb078af69ed19b8dfce91713cef125c845ab1309fd111bd2ddad164", func := "kedge/kedgelaw24.PusherWindow", spec := "pusherWindow", inPlace := ["internal/bytealg.MakeNoZero"], unfollowed := true, recurses := true, apart := false, narrowed := true }
def PusherWindowUptoSaid : Prop := pusherWindowUptoRow.holds Try.pinned (OpenSpec.upto pusherWindowSpec)

/-- 'kedgelaw24.PusherNil', WHERE WHAT IT READS IS OF BULK AT MOST 1048576: true; the input reads as it did. -/
def pusherNilUptoRow : OpenClaim := { program := "ytncpabnmdofomaa", sum := "9eadf210aeb078af69ed19b8dfce91713cef125c845ab1309fd111bd2ddad164", func := "kedge/kedgelaw24.PusherNil", spec := "pusherNil", inPlace := ["internal/bytealg.MakeNoZero"], unfollowed := true, recurses := true, apart := false, narrowed := true }
def PusherNilUptoSaid : Prop := pusherNilUptoRow.holds Try.pinned (OpenSpec.upto pusherNilSpec)

end Rows
end Go.Proofs.Ytncpabnmdofomaa
