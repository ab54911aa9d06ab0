/-
  No cell of these rows narrows 'for every input' (looked for: loops, veiled, ifaces, maps, wideKeys, modest, calm, conditions, laid).
  DERIVED. THE GIVEN ROWS OF THIS SEAT. 4 by the template 'for every input the law returns true; each argument reads behind the call as it read before'; 0 by the template 'total and deterministic' (their statements: YtfpibihnnpajoaaTotals.lean).
  GIVEN WITH THE SEED: the statements are not yours to turn. If you find one false, say at which input.
  Laid BY PROGRAM, IN A SANDBOX (cutbox-rows.mjs): the forced cells as the released guide's own fill.sh prints them over the translation 2c6b92e35b43f0c1… (all of the seat's roots in one cut). By AI agents, Wed Nov 11 2026. No macro, syntax, notation, axiom, sorry.
-/
import Derived.Test.YtfpibihnnpajoaaChecked
import GoSem.Claim
import GoSem.ClaimJoined
import GoSem.ClaimMapViews
import Derived.JoinedTies
import Derived.KernelRfl
namespace Go.Proofs.Ytfpibihnnpajoaa
/- THE CELL 'sum', in the pinned program and in every row, IS THE sha256 OF THE DUMP (.gsa) THAT YtfpibihnnpajoaaProg.lean LOADS. Nothing in Lean hashes anything: it is a label: what it is worth is what the hold of that sum in a sandbox is worth. -/
noncomputable def Try.pinned : Pinned := { name := "ytfpibihnnpajoaa", sum := "2c6b92e35b43f0c1c07a51a6caed1022f4555f4f45aa20a3ab1fd5d1b843e875", checked := Try.checked }
namespace Rows
def none {H : Type} : Left H := { results := [], args := [] }

/-- 'kedgelaw03.StuffPuts': WHATEVER THE INPUT: true; the input reads as it did. -/
def stuffPutsSpec : ChangeSpec := { name := "stuffPuts", fn := fun _ => fun
  | [d] => { results := [.lit (.bool true)], args := [d] }
  | _ => none }
def stuffPutsRow : OpenClaim := { program := "ytfpibihnnpajoaa", sum := "2c6b92e35b43f0c1c07a51a6caed1022f4555f4f45aa20a3ab1fd5d1b843e875", func := "kedge/kedgelaw03.StuffPuts", spec := "stuffPuts", apart := false }
def StuffPutsSaid : Prop := stuffPutsRow.holds Try.pinned (OpenSpec.ofChange stuffPutsSpec)

/-- ITS FALSE NEIGHBOUR: 'it returns false'. Refute it at one input. -/
def stuffPutsWrong : ChangeSpec := { name := "stuffPuts", fn := fun _ => fun
  | [d] => { results := [.lit (.bool false)], args := [d] }
  | _ => none }
def StuffPutsWrongFalsely : Prop := stuffPutsRow.holds Try.pinned (OpenSpec.ofChange stuffPutsWrong)

/-- 'kedgelaw03.StuffGets': WHATEVER THE INPUT: true; the input reads as it did. -/
def stuffGetsSpec : ChangeSpec := { name := "stuffGets", fn := fun _ => fun
  | [d] => { results := [.lit (.bool true)], args := [d] }
  | _ => none }
def stuffGetsRow : OpenClaim := { program := "ytfpibihnnpajoaa", sum := "2c6b92e35b43f0c1c07a51a6caed1022f4555f4f45aa20a3ab1fd5d1b843e875", func := "kedge/kedgelaw03.StuffGets", spec := "stuffGets", apart := false }
def StuffGetsSaid : Prop := stuffGetsRow.holds Try.pinned (OpenSpec.ofChange stuffGetsSpec)

/-- ITS FALSE NEIGHBOUR: 'it returns false'. Refute it at one input. -/
def stuffGetsWrong : ChangeSpec := { name := "stuffGets", fn := fun _ => fun
  | [d] => { results := [.lit (.bool false)], args := [d] }
  | _ => none }
def StuffGetsWrongFalsely : Prop := stuffGetsRow.holds Try.pinned (OpenSpec.ofChange stuffGetsWrong)

/-- 'kedgelaw03.StuffBack': WHATEVER THE INPUT: true; the input reads as it did. -/
def stuffBackSpec : ChangeSpec := { name := "stuffBack", fn := fun _ => fun
  | [d1, d2] => { results := [.lit (.bool true)], args := [d1, d2] }
  | _ => none }
def stuffBackRow : OpenClaim := { program := "ytfpibihnnpajoaa", sum := "2c6b92e35b43f0c1c07a51a6caed1022f4555f4f45aa20a3ab1fd5d1b843e875", func := "kedge/kedgelaw03.StuffBack", spec := "stuffBack", apart := false }
def StuffBackSaid : Prop := stuffBackRow.holds Try.pinned (OpenSpec.ofChange stuffBackSpec)

/-- ITS FALSE NEIGHBOUR: 'it returns false'. Refute it at one input. -/
def stuffBackWrong : ChangeSpec := { name := "stuffBack", fn := fun _ => fun
  | [d1, d2] => { results := [.lit (.bool false)], args := [d1, d2] }
  | _ => none }
def StuffBackWrongFalsely : Prop := stuffBackRow.holds Try.pinned (OpenSpec.ofChange stuffBackWrong)

/-- 'kedgelaw03.StuffPlain': WHATEVER THE INPUT: true; the input reads as it did. -/
def stuffPlainSpec : ChangeSpec := { name := "stuffPlain", fn := fun _ => fun
  | [d] => { results := [.lit (.bool true)], args := [d] }
  | _ => none }
def stuffPlainRow : OpenClaim := { program := "ytfpibihnnpajoaa", sum := "2c6b92e35b43f0c1c07a51a6caed1022f4555f4f45aa20a3ab1fd5d1b843e875", func := "kedge/kedgelaw03.StuffPlain", spec := "stuffPlain", apart := false }
def StuffPlainSaid : Prop := stuffPlainRow.holds Try.pinned (OpenSpec.ofChange stuffPlainSpec)

/-- ITS FALSE NEIGHBOUR: 'it returns false'. Refute it at one input. -/
def stuffPlainWrong : ChangeSpec := { name := "stuffPlain", fn := fun _ => fun
  | [d] => { results := [.lit (.bool false)], args := [d] }
  | _ => none }
def StuffPlainWrongFalsely : Prop := stuffPlainRow.holds Try.pinned (OpenSpec.ofChange stuffPlainWrong)

/- THE SECOND FORM. 'bulk': how many values and letters a reading holds, each counted each time it is reached (what is shared counts as often as it is met; a slice's spare places count too). A statement '..UptoSaid' is the law's where the arguments, and the package variables that the reading takes, are together of bulk at most 1048576: NARROWER than '..Said'. Prove '..Said' where nothing that the law and all that it calls make is longer than what came in: it says more and counts as full. Else prove '..UptoSaid'. A law counts once. -/
mutual
def uptoBulk {H : Type} : DataW H → Nat
  | .lit (.string bytes) => bytes.length + 1
  | .lit _ => 1
  | .nil => 1
  | .ptr d => uptoBulk d + 1
  | .slice elems spare => uptoBulkAll elems + uptoBulkAll spare + 1
  | .agg parts => uptoBulkAll parts + 1
  | .iface _ d => uptoBulk d + 1
  | .map entries => uptoBulkEntries entries + 1
  | .held _ => 1
def uptoBulkAll {H : Type} : List (DataW H) → Nat
  | [] => 0
  | d :: r => uptoBulk d + uptoBulkAll r
def uptoBulkEntries {H : Type} : List (Lit × DataW H) → Nat
  | [] => 0
  | x :: r => uptoBulkEntry x + uptoBulkEntries r
def uptoBulkEntry {H : Type} : Lit × DataW H → Nat
  | (.string bytes, d) => bytes.length + uptoBulk d + 1
  | (_, d) => uptoBulk d + 1
 end
def uptoSmall : (H : Type) → List (DataW H) → Bool := fun _ ds => decide (uptoBulkAll ds ≤ 1048576)
def OpenSpec.upto (s : _root_.Go.ChangeSpec) : _root_.Go.OpenSpec := { _root_.Go.OpenSpec.ofChange s with cond := some uptoSmall }

/-- 'kedgelaw03.StuffPuts', WHERE WHAT IT READS IS OF BULK AT MOST 1048576: true; the input reads as it did. -/
def stuffPutsUptoRow : OpenClaim := { program := "ytfpibihnnpajoaa", sum := "2c6b92e35b43f0c1c07a51a6caed1022f4555f4f45aa20a3ab1fd5d1b843e875", func := "kedge/kedgelaw03.StuffPuts", spec := "stuffPuts", apart := false, narrowed := true }
def StuffPutsUptoSaid : Prop := stuffPutsUptoRow.holds Try.pinned (OpenSpec.upto stuffPutsSpec)

/-- 'kedgelaw03.StuffGets', WHERE WHAT IT READS IS OF BULK AT MOST 1048576: true; the input reads as it did. -/
def stuffGetsUptoRow : OpenClaim := { program := "ytfpibihnnpajoaa", sum := "2c6b92e35b43f0c1c07a51a6caed1022f4555f4f45aa20a3ab1fd5d1b843e875", func := "kedge/kedgelaw03.StuffGets", spec := "stuffGets", apart := false, narrowed := true }
def StuffGetsUptoSaid : Prop := stuffGetsUptoRow.holds Try.pinned (OpenSpec.upto stuffGetsSpec)

/-- 'kedgelaw03.StuffBack', WHERE WHAT IT READS IS OF BULK AT MOST 1048576: true; the input reads as it did. -/
def stuffBackUptoRow : OpenClaim := { program := "ytfpibihnnpajoaa", sum := "2c6b92e35b43f0c1c07a51a6caed1022f4555f4f45aa20a3ab1fd5d1b843e875", func := "kedge/kedgelaw03.StuffBack", spec := "stuffBack", apart := false, narrowed := true }
def StuffBackUptoSaid : Prop := stuffBackUptoRow.holds Try.pinned (OpenSpec.upto stuffBackSpec)

/-- 'kedgelaw03.StuffPlain', WHERE WHAT IT READS IS OF BULK AT MOST 1048576: true; the input reads as it did. -/
def stuffPlainUptoRow : OpenClaim := { program := "ytfpibihnnpajoaa", sum := "2c6b92e35b43f0c1c07a51a6caed1022f4555f4f45aa20a3ab1fd5d1b843e875", func := "kedge/kedgelaw03.StuffPlain", spec := "stuffPlain", apart := false, narrowed := true }
def StuffPlainUptoSaid : Prop := stuffPlainUptoRow.holds Try.pinned (OpenSpec.upto stuffPlainSpec)

end Rows
end Go.Proofs.Ytfpibihnnpajoaa
