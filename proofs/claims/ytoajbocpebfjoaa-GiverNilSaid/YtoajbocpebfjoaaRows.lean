/-
  No cell of these rows narrows 'for every input' (looked for: loops, veiled, ifaces, maps, wideKeys, modest, calm, conditions, laid).
  DERIVED. THE GIVEN ROWS OF THIS SEAT. 3 by the template 'for every input the law returns true; each argument reads behind the call as it read before'; 0 by the template 'total and deterministic' (their statements: YtoajbocpebfjoaaTotals.lean).
  GIVEN WITH THE SEED: the statements are not yours to turn. If you find one false, say at which input.
  Laid BY PROGRAM, IN A SANDBOX (cutbox-rows.mjs): the forced cells as the released guide's own fill.sh prints them over the translation 82f816b7918086cf… (all of the seat's roots in one cut). By AI agents, Wed Nov 11 2026. No macro, syntax, notation, axiom, sorry.
-/
import Derived.Test.YtoajbocpebfjoaaChecked
import GoSem.Claim
import GoSem.ClaimJoined
import GoSem.ClaimMapViews
import Derived.JoinedTies
import Derived.KernelRfl
namespace Go.Proofs.Ytoajbocpebfjoaa
/- THE CELL 'sum', in the pinned program and in every row, IS THE sha256 OF THE DUMP (.gsa) THAT YtoajbocpebfjoaaProg.lean LOADS. Nothing in Lean hashes anything: it is a label: what it is worth is what the hold of that sum in a sandbox is worth. -/
noncomputable def Try.pinned : Pinned := { name := "ytoajbocpebfjoaa", sum := "82f816b7918086cfb4aac3b47bace47a664217bccf0019cf10147369888f0720", checked := Try.checked }
namespace Rows
def none {H : Type} : Left H := { results := [], args := [] }

/-- 'kedgelaw28.GiverDoes': WHATEVER THE INPUT: true; the input reads as it did. -/
def giverDoesSpec : ChangeSpec := { name := "giverDoes", fn := fun _ => fun
  | [d1, d2, d3] => { results := [.lit (.bool true)], args := [d1, d2, d3] }
  | _ => none }
def giverDoesRow : OpenClaim := { program := "ytoajbocpebfjoaa", sum := "82f816b7918086cfb4aac3b47bace47a664217bccf0019cf10147369888f0720", func := "kedge/kedgelaw28.GiverDoes", spec := "giverDoes", apart := false }
def GiverDoesSaid : Prop := giverDoesRow.holds Try.pinned (OpenSpec.ofChange giverDoesSpec)

/-- ITS FALSE NEIGHBOUR: 'it returns false'. Refute it at one input. -/
def giverDoesWrong : ChangeSpec := { name := "giverDoes", fn := fun _ => fun
  | [d1, d2, d3] => { results := [.lit (.bool false)], args := [d1, d2, d3] }
  | _ => none }
def GiverDoesWrongFalsely : Prop := giverDoesRow.holds Try.pinned (OpenSpec.ofChange giverDoesWrong)

/-- 'kedgelaw28.GiverOnce': WHATEVER THE INPUT: true; the input reads as it did. -/
def giverOnceSpec : ChangeSpec := { name := "giverOnce", fn := fun _ => fun
  | [d1, d2] => { results := [.lit (.bool true)], args := [d1, d2] }
  | _ => none }
def giverOnceRow : OpenClaim := { program := "ytoajbocpebfjoaa", sum := "82f816b7918086cfb4aac3b47bace47a664217bccf0019cf10147369888f0720", func := "kedge/kedgelaw28.GiverOnce", spec := "giverOnce", apart := false }
def GiverOnceSaid : Prop := giverOnceRow.holds Try.pinned (OpenSpec.ofChange giverOnceSpec)

/-- ITS FALSE NEIGHBOUR: 'it returns false'. Refute it at one input. -/
def giverOnceWrong : ChangeSpec := { name := "giverOnce", fn := fun _ => fun
  | [d1, d2] => { results := [.lit (.bool false)], args := [d1, d2] }
  | _ => none }
def GiverOnceWrongFalsely : Prop := giverOnceRow.holds Try.pinned (OpenSpec.ofChange giverOnceWrong)

/-- 'kedgelaw28.GiverNil': WHATEVER THE INPUT: true; the input reads as it did. -/
def giverNilSpec : ChangeSpec := { name := "giverNil", fn := fun _ => fun
  | [d1, d2] => { results := [.lit (.bool true)], args := [d1, d2] }
  | _ => none }
def giverNilRow : OpenClaim := { program := "ytoajbocpebfjoaa", sum := "82f816b7918086cfb4aac3b47bace47a664217bccf0019cf10147369888f0720", func := "kedge/kedgelaw28.GiverNil", spec := "giverNil", apart := false }
def GiverNilSaid : Prop := giverNilRow.holds Try.pinned (OpenSpec.ofChange giverNilSpec)

/-- ITS FALSE NEIGHBOUR: 'it returns false'. Refute it at one input. -/
def giverNilWrong : ChangeSpec := { name := "giverNil", fn := fun _ => fun
  | [d1, d2] => { results := [.lit (.bool false)], args := [d1, d2] }
  | _ => none }
def GiverNilWrongFalsely : Prop := giverNilRow.holds Try.pinned (OpenSpec.ofChange giverNilWrong)

/- THE SECOND FORM. 'bulk': how many values and letters a reading holds, each counted each time it is reached (what is shared counts as often as it is met; a slice's spare places count too). A statement '..UptoSaid' is the law's where the arguments, and the package variables that the reading takes, are together of bulk at most 1048576: NARROWER than '..Said'. Prove '..Said' where nothing that the law and all that it calls make is longer than what came in: it says more and counts as full. Else prove '..UptoSaid'. A law counts once. -/
mutual
def uptoBulk {H : Type} : DataW H → Nat
  | .lit (.string bytes) => bytes.length + 1
  | .lit _ => 1
  | .nil => 1
  | .ptr d => uptoBulk d + 1
  | .slice elems spare => uptoBulkAll elems + uptoBulkAll spare + 1
  | .agg parts => uptoBulkAll parts + 1
  | .iface _ d => uptoBulk d + 1
  | .map entries => uptoBulkEntries entries + 1
  | .held _ => 1
def uptoBulkAll {H : Type} : List (DataW H) → Nat
  | [] => 0
  | d :: r => uptoBulk d + uptoBulkAll r
def uptoBulkEntries {H : Type} : List (Lit × DataW H) → Nat
  | [] => 0
  | x :: r => uptoBulkEntry x + uptoBulkEntries r
def uptoBulkEntry {H : Type} : Lit × DataW H → Nat
  | (.string bytes, d) => bytes.length + uptoBulk d + 1
  | (_, d) => uptoBulk d + 1
 end
def uptoSmall : (H : Type) → List (DataW H) → Bool := fun _ ds => decide (uptoBulkAll ds ≤ 1048576)
def OpenSpec.upto (s : _root_.Go.ChangeSpec) : _root_.Go.OpenSpec := { _root_.Go.OpenSpec.ofChange s with cond := some uptoSmall }

/-- 'kedgelaw28.GiverDoes', WHERE WHAT IT READS IS OF BULK AT MOST 1048576: true; the input reads as it did. -/
def giverDoesUptoRow : OpenClaim := { program := "ytoajbocpebfjoaa", sum := "82f816b7918086cfb4aac3b47bace47a664217bccf0019cf10147369888f0720", func := "kedge/kedgelaw28.GiverDoes", spec := "giverDoes", apart := false, narrowed := true }
def GiverDoesUptoSaid : Prop := giverDoesUptoRow.holds Try.pinned (OpenSpec.upto giverDoesSpec)

/-- 'kedgelaw28.GiverOnce', WHERE WHAT IT READS IS OF BULK AT MOST 1048576: true; the input reads as it did. -/
def giverOnceUptoRow : OpenClaim := { program := "ytoajbocpebfjoaa", sum := "82f816b7918086cfb4aac3b47bace47a664217bccf0019cf10147369888f0720", func := "kedge/kedgelaw28.GiverOnce", spec := "giverOnce", apart := false, narrowed := true }
def GiverOnceUptoSaid : Prop := giverOnceUptoRow.holds Try.pinned (OpenSpec.upto giverOnceSpec)

/-- 'kedgelaw28.GiverNil', WHERE WHAT IT READS IS OF BULK AT MOST 1048576: true; the input reads as it did. -/
def giverNilUptoRow : OpenClaim := { program := "ytoajbocpebfjoaa", sum := "82f816b7918086cfb4aac3b47bace47a664217bccf0019cf10147369888f0720", func := "kedge/kedgelaw28.GiverNil", spec := "giverNil", apart := false, narrowed := true }
def GiverNilUptoSaid : Prop := giverNilUptoRow.holds Try.pinned (OpenSpec.upto giverNilSpec)

end Rows
end Go.Proofs.Ytoajbocpebfjoaa
