/-
  NARROWER THAN 'FOR EVERY INPUT', by the rows' own cells (each row's printed sentence says how): HammingWords: laid · HammingMends: laid · HammingPacks: laid · HammingBack: laid.
  DERIVED. THE GIVEN ROWS OF THIS SEAT. 4 by the template 'for every input the law returns true; each argument reads behind the call as it read before'; 0 by the template 'total and deterministic' (their statements: YtngcjbfjhaelbaaDoorTotals.lean).
  GIVEN WITH THE SEED: the statements are not yours to turn. If you find one false, say at which input.
  Laid BY PROGRAM, IN A SANDBOX (cutbox-rows.mjs): the forced cells as the released guide's own fill.sh prints them over the translation 499a330a17abc6e6… (all of the seat's roots in one cut). By AI agents, Wed Nov 11 2026. No macro, syntax, notation, axiom, sorry.
-/
import Derived.Test.YtngcjbfjhaelbaaDoorChecked
import GoSem.Claim
import GoSem.ClaimJoined
import GoSem.ClaimMapViews
import Derived.JoinedTies
import Derived.KernelRfl
namespace Go.Proofs.YtngcjbfjhaelbaaDoor
/- THE CELL 'sum', in the pinned program and in every row, IS THE sha256 OF THE DUMP (.gsa) THAT YtngcjbfjhaelbaaDoorProg.lean LOADS. Nothing in Lean hashes anything: it is a label: what it is worth is what the hold of that sum in a sandbox is worth. -/
noncomputable def Tryd.pinned : Pinned := { name := "ytngcjbfjhaelbaadoor", sum := "499a330a17abc6e687402eb0f888b2cd9a1edf3666c4809294e32664e4b53c72", checked := Tryd.checked }
namespace Rows
def none {H : Type} : Left H := { results := [], args := [] }

/- WHAT THE LISTED PACKAGE-LEVEL VARIABLES READ AS WHEN THE CALL BEGINS. Each datum BY PROGRAM (the guide's laid-datum.mjs) off the statement by which the dump's own 'gosem.cut.vars' lays the variable. In a bare row this is a premise. The card (YtngcjbfjhaelbaaDoorCards.lean) ties it to the program's text. -/
def laid_kedge_hamming_own {H : Type} : DataW H := .agg [.lit (.int .i64 3), .lit (.int .i64 5), .lit (.int .i64 6), .lit (.int .i64 7)]
def laid_kedge_hamming_together {H : Type} : DataW H := .agg [.agg [.lit (.int .i64 1), .lit (.int .u8 170)], .agg [.lit (.int .i64 2), .lit (.int .u8 204)], .agg [.lit (.int .i64 4), .lit (.int .u8 240)], .agg [.lit (.int .i64 0), .lit (.int .u8 255)]]

/-- 'kedgelaw10.HammingWords': WHATEVER THE INPUT: true; the input reads as it did. -/
def hammingWordsSpec : ChangeSpec := { name := "hammingWords", fn := fun _ => fun
  | [d1, d2, d3] => { results := [.lit (.bool true)], args := [d1, d2, d3] }
  | _ => none }
def hammingWordsRow : OpenClaim := { program := "ytngcjbfjhaelbaadoor", sum := "499a330a17abc6e687402eb0f888b2cd9a1edf3666c4809294e32664e4b53c72", func := "kedge/kedgelaw10.HammingWords", spec := "hammingWords", named := ["kedge/hamming.own", "kedge/hamming.together"], apart := false, laid := [("kedge/hamming.own", laid_kedge_hamming_own), ("kedge/hamming.together", laid_kedge_hamming_together)] }
def HammingWordsSaid : Prop := hammingWordsRow.holds Tryd.pinned (OpenSpec.ofChange hammingWordsSpec)

/-- ITS FALSE NEIGHBOUR: 'it returns false'. Refute it at one input. -/
def hammingWordsWrong : ChangeSpec := { name := "hammingWords", fn := fun _ => fun
  | [d1, d2, d3] => { results := [.lit (.bool false)], args := [d1, d2, d3] }
  | _ => none }
def HammingWordsWrongFalsely : Prop := hammingWordsRow.holds Tryd.pinned (OpenSpec.ofChange hammingWordsWrong)

/-- 'kedgelaw10.HammingMends': WHATEVER THE INPUT: true; the input reads as it did. -/
def hammingMendsSpec : ChangeSpec := { name := "hammingMends", fn := fun _ => fun
  | [d] => { results := [.lit (.bool true)], args := [d] }
  | _ => none }
def hammingMendsRow : OpenClaim := { program := "ytngcjbfjhaelbaadoor", sum := "499a330a17abc6e687402eb0f888b2cd9a1edf3666c4809294e32664e4b53c72", func := "kedge/kedgelaw10.HammingMends", spec := "hammingMends", named := ["kedge/hamming.own", "kedge/hamming.together"], apart := false, laid := [("kedge/hamming.own", laid_kedge_hamming_own), ("kedge/hamming.together", laid_kedge_hamming_together)] }
def HammingMendsSaid : Prop := hammingMendsRow.holds Tryd.pinned (OpenSpec.ofChange hammingMendsSpec)

/-- ITS FALSE NEIGHBOUR: 'it returns false'. Refute it at one input. -/
def hammingMendsWrong : ChangeSpec := { name := "hammingMends", fn := fun _ => fun
  | [d] => { results := [.lit (.bool false)], args := [d] }
  | _ => none }
def HammingMendsWrongFalsely : Prop := hammingMendsRow.holds Tryd.pinned (OpenSpec.ofChange hammingMendsWrong)

/-- 'kedgelaw10.HammingPacks': WHATEVER THE INPUT: true; the input reads as it did. -/
def hammingPacksSpec : ChangeSpec := { name := "hammingPacks", fn := fun _ => fun
  | [d1, d2] => { results := [.lit (.bool true)], args := [d1, d2] }
  | _ => none }
def hammingPacksRow : OpenClaim := { program := "ytngcjbfjhaelbaadoor", sum := "499a330a17abc6e687402eb0f888b2cd9a1edf3666c4809294e32664e4b53c72", func := "kedge/kedgelaw10.HammingPacks", spec := "hammingPacks", named := ["kedge/hamming.own", "kedge/hamming.together"], apart := false, laid := [("kedge/hamming.own", laid_kedge_hamming_own), ("kedge/hamming.together", laid_kedge_hamming_together)] }
def HammingPacksSaid : Prop := hammingPacksRow.holds Tryd.pinned (OpenSpec.ofChange hammingPacksSpec)

/-- ITS FALSE NEIGHBOUR: 'it returns false'. Refute it at one input. -/
def hammingPacksWrong : ChangeSpec := { name := "hammingPacks", fn := fun _ => fun
  | [d1, d2] => { results := [.lit (.bool false)], args := [d1, d2] }
  | _ => none }
def HammingPacksWrongFalsely : Prop := hammingPacksRow.holds Tryd.pinned (OpenSpec.ofChange hammingPacksWrong)

/-- 'kedgelaw10.HammingBack': WHATEVER THE INPUT: true; the input reads as it did. -/
def hammingBackSpec : ChangeSpec := { name := "hammingBack", fn := fun _ => fun
  | [d1, d2] => { results := [.lit (.bool true)], args := [d1, d2] }
  | _ => none }
def hammingBackRow : OpenClaim := { program := "ytngcjbfjhaelbaadoor", sum := "499a330a17abc6e687402eb0f888b2cd9a1edf3666c4809294e32664e4b53c72", func := "kedge/kedgelaw10.HammingBack", spec := "hammingBack", named := ["kedge/hamming.own", "kedge/hamming.together"], apart := false, laid := [("kedge/hamming.own", laid_kedge_hamming_own), ("kedge/hamming.together", laid_kedge_hamming_together)] }
def HammingBackSaid : Prop := hammingBackRow.holds Tryd.pinned (OpenSpec.ofChange hammingBackSpec)

/-- ITS FALSE NEIGHBOUR: 'it returns false'. Refute it at one input. -/
def hammingBackWrong : ChangeSpec := { name := "hammingBack", fn := fun _ => fun
  | [d1, d2] => { results := [.lit (.bool false)], args := [d1, d2] }
  | _ => none }
def HammingBackWrongFalsely : Prop := hammingBackRow.holds Tryd.pinned (OpenSpec.ofChange hammingBackWrong)

/- THE SECOND FORM. 'bulk': how many values and letters a reading holds, each counted each time it is reached (what is shared counts as often as it is met; a slice's spare places count too). A statement '..UptoSaid' is the law's where the arguments, and the package variables that the reading takes, are together of bulk at most 1048576: NARROWER than '..Said'. Prove '..Said' where nothing that the law and all that it calls make is longer than what came in: it says more and counts as full. Else prove '..UptoSaid'. A law counts once. -/
mutual
def uptoBulk {H : Type} : DataW H → Nat
  | .lit (.string bytes) => bytes.length + 1
  | .lit _ => 1
  | .nil => 1
  | .ptr d => uptoBulk d + 1
  | .slice elems spare => uptoBulkAll elems + uptoBulkAll spare + 1
  | .agg parts => uptoBulkAll parts + 1
  | .iface _ d => uptoBulk d + 1
  | .map entries => uptoBulkEntries entries + 1
  | .held _ => 1
def uptoBulkAll {H : Type} : List (DataW H) → Nat
  | [] => 0
  | d :: r => uptoBulk d + uptoBulkAll r
def uptoBulkEntries {H : Type} : List (Lit × DataW H) → Nat
  | [] => 0
  | x :: r => uptoBulkEntry x + uptoBulkEntries r
def uptoBulkEntry {H : Type} : Lit × DataW H → Nat
  | (.string bytes, d) => bytes.length + uptoBulk d + 1
  | (_, d) => uptoBulk d + 1
 end
def uptoSmall : (H : Type) → List (DataW H) → Bool := fun _ ds => decide (uptoBulkAll ds ≤ 1048576)
def OpenSpec.upto (s : _root_.Go.ChangeSpec) : _root_.Go.OpenSpec := { _root_.Go.OpenSpec.ofChange s with cond := some uptoSmall }

/-- 'kedgelaw10.HammingWords', WHERE WHAT IT READS IS OF BULK AT MOST 1048576: true; the input reads as it did. -/
def hammingWordsUptoRow : OpenClaim := { program := "ytngcjbfjhaelbaadoor", sum := "499a330a17abc6e687402eb0f888b2cd9a1edf3666c4809294e32664e4b53c72", func := "kedge/kedgelaw10.HammingWords", spec := "hammingWords", named := ["kedge/hamming.own", "kedge/hamming.together"], apart := false, laid := [("kedge/hamming.own", laid_kedge_hamming_own), ("kedge/hamming.together", laid_kedge_hamming_together)], narrowed := true }
def HammingWordsUptoSaid : Prop := hammingWordsUptoRow.holds Tryd.pinned (OpenSpec.upto hammingWordsSpec)

/-- 'kedgelaw10.HammingMends', WHERE WHAT IT READS IS OF BULK AT MOST 1048576: true; the input reads as it did. -/
def hammingMendsUptoRow : OpenClaim := { program := "ytngcjbfjhaelbaadoor", sum := "499a330a17abc6e687402eb0f888b2cd9a1edf3666c4809294e32664e4b53c72", func := "kedge/kedgelaw10.HammingMends", spec := "hammingMends", named := ["kedge/hamming.own", "kedge/hamming.together"], apart := false, laid := [("kedge/hamming.own", laid_kedge_hamming_own), ("kedge/hamming.together", laid_kedge_hamming_together)], narrowed := true }
def HammingMendsUptoSaid : Prop := hammingMendsUptoRow.holds Tryd.pinned (OpenSpec.upto hammingMendsSpec)

/-- 'kedgelaw10.HammingPacks', WHERE WHAT IT READS IS OF BULK AT MOST 1048576: true; the input reads as it did. -/
def hammingPacksUptoRow : OpenClaim := { program := "ytngcjbfjhaelbaadoor", sum := "499a330a17abc6e687402eb0f888b2cd9a1edf3666c4809294e32664e4b53c72", func := "kedge/kedgelaw10.HammingPacks", spec := "hammingPacks", named := ["kedge/hamming.own", "kedge/hamming.together"], apart := false, laid := [("kedge/hamming.own", laid_kedge_hamming_own), ("kedge/hamming.together", laid_kedge_hamming_together)], narrowed := true }
def HammingPacksUptoSaid : Prop := hammingPacksUptoRow.holds Tryd.pinned (OpenSpec.upto hammingPacksSpec)

/-- 'kedgelaw10.HammingBack', WHERE WHAT IT READS IS OF BULK AT MOST 1048576: true; the input reads as it did. -/
def hammingBackUptoRow : OpenClaim := { program := "ytngcjbfjhaelbaadoor", sum := "499a330a17abc6e687402eb0f888b2cd9a1edf3666c4809294e32664e4b53c72", func := "kedge/kedgelaw10.HammingBack", spec := "hammingBack", named := ["kedge/hamming.own", "kedge/hamming.together"], apart := false, laid := [("kedge/hamming.own", laid_kedge_hamming_own), ("kedge/hamming.together", laid_kedge_hamming_together)], narrowed := true }
def HammingBackUptoSaid : Prop := hammingBackUptoRow.holds Tryd.pinned (OpenSpec.upto hammingBackSpec)

end Rows
end Go.Proofs.YtngcjbfjhaelbaaDoor
