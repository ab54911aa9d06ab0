/-
  NARROWER THAN 'FOR EVERY INPUT', by the rows' own cells (each row's printed sentence says how): LineSends: laid · LineHears: laid · LineBack: laid · LineMends: laid.
  DERIVED. THE GIVEN ROWS OF THIS SEAT. 4 by the template 'for every input the law returns true; each argument reads behind the call as it read before'; 0 by the template 'total and deterministic' (their statements: YtkcpkfimmolkkaaDoorTotals.lean).
  GIVEN WITH THE SEED: the statements are not yours to turn. If you find one false, say at which input.
  Laid BY PROGRAM, IN A SANDBOX (cutbox-rows.mjs): the forced cells as the released guide's own fill.sh prints them over the translation d14c77cd14c35848… (all of the seat's roots in one cut). By AI agents, Wed Nov 11 2026. No macro, syntax, notation, axiom, sorry.
-/
import Derived.Test.YtkcpkfimmolkkaaDoorChecked
import GoSem.Claim
import GoSem.ClaimJoined
import GoSem.ClaimMapViews
import Derived.JoinedTies
import Derived.KernelRfl
namespace Go.Proofs.YtkcpkfimmolkkaaDoor
/- THE CELL 'sum', in the pinned program and in every row, IS THE sha256 OF THE DUMP (.gsa) THAT YtkcpkfimmolkkaaDoorProg.lean LOADS. Nothing in Lean hashes anything: it is a label: what it is worth is what the hold of that sum in a sandbox is worth. -/
noncomputable def Tryd.pinned : Pinned := { name := "ytkcpkfimmolkkaadoor", sum := "d14c77cd14c358485d1d436d02b079c71689e8ff9d704b9e2359dc904d3ac8fb", checked := Tryd.checked }
namespace Rows
def none {H : Type} : Left H := { results := [], args := [] }

/- WHAT THE LISTED PACKAGE-LEVEL VARIABLES READ AS WHEN THE CALL BEGINS. Each datum BY PROGRAM (the guide's laid-datum.mjs) off the statement by which the dump's own 'gosem.cut.vars' lays the variable. In a bare row this is a premise. The card (YtkcpkfimmolkkaaDoorCards.lean) ties it to the program's text. -/
def laid_kedge_hamming_own {H : Type} : DataW H := .agg [.lit (.int .i64 3), .lit (.int .i64 5), .lit (.int .i64 6), .lit (.int .i64 7)]
def laid_kedge_hamming_together {H : Type} : DataW H := .agg [.agg [.lit (.int .i64 1), .lit (.int .u8 170)], .agg [.lit (.int .i64 2), .lit (.int .u8 204)], .agg [.lit (.int .i64 4), .lit (.int .u8 240)], .agg [.lit (.int .i64 0), .lit (.int .u8 255)]]

/-- 'kedgelaw12.LineSends': WHATEVER THE INPUT: true; the input reads as it did. -/
def lineSendsSpec : ChangeSpec := { name := "lineSends", fn := fun _ => fun
  | [d1, d2] => { results := [.lit (.bool true)], args := [d1, d2] }
  | _ => none }
def lineSendsRow : OpenClaim := { program := "ytkcpkfimmolkkaadoor", sum := "d14c77cd14c358485d1d436d02b079c71689e8ff9d704b9e2359dc904d3ac8fb", func := "kedge/kedgelaw12.LineSends", spec := "lineSends", inPlace := ["internal/bytealg.MakeNoZero", "math.archTrunc", "math.Float64bits", "math.Float64frombits"], named := ["kedge/hamming.own", "kedge/hamming.together"], apart := false, laid := [("kedge/hamming.own", laid_kedge_hamming_own), ("kedge/hamming.together", laid_kedge_hamming_together)] }
def LineSendsSaid : Prop := lineSendsRow.holds Tryd.pinned (OpenSpec.ofChange lineSendsSpec)

/-- ITS FALSE NEIGHBOUR: 'it returns false'. Refute it at one input. -/
def lineSendsWrong : ChangeSpec := { name := "lineSends", fn := fun _ => fun
  | [d1, d2] => { results := [.lit (.bool false)], args := [d1, d2] }
  | _ => none }
def LineSendsWrongFalsely : Prop := lineSendsRow.holds Tryd.pinned (OpenSpec.ofChange lineSendsWrong)

/-- 'kedgelaw12.LineHears': WHATEVER THE INPUT: true; the input reads as it did. -/
def lineHearsSpec : ChangeSpec := { name := "lineHears", fn := fun _ => fun
  | [d] => { results := [.lit (.bool true)], args := [d] }
  | _ => none }
def lineHearsRow : OpenClaim := { program := "ytkcpkfimmolkkaadoor", sum := "d14c77cd14c358485d1d436d02b079c71689e8ff9d704b9e2359dc904d3ac8fb", func := "kedge/kedgelaw12.LineHears", spec := "lineHears", inPlace := ["internal/bytealg.MakeNoZero"], named := ["kedge/hamming.own", "kedge/hamming.together"], apart := false, laid := [("kedge/hamming.own", laid_kedge_hamming_own), ("kedge/hamming.together", laid_kedge_hamming_together)] }
def LineHearsSaid : Prop := lineHearsRow.holds Tryd.pinned (OpenSpec.ofChange lineHearsSpec)

/-- ITS FALSE NEIGHBOUR: 'it returns false'. Refute it at one input. -/
def lineHearsWrong : ChangeSpec := { name := "lineHears", fn := fun _ => fun
  | [d] => { results := [.lit (.bool false)], args := [d] }
  | _ => none }
def LineHearsWrongFalsely : Prop := lineHearsRow.holds Tryd.pinned (OpenSpec.ofChange lineHearsWrong)

/-- 'kedgelaw12.LineBack': WHATEVER THE INPUT: true; the input reads as it did. -/
def lineBackSpec : ChangeSpec := { name := "lineBack", fn := fun _ => fun
  | [d] => { results := [.lit (.bool true)], args := [d] }
  | _ => none }
def lineBackRow : OpenClaim := { program := "ytkcpkfimmolkkaadoor", sum := "d14c77cd14c358485d1d436d02b079c71689e8ff9d704b9e2359dc904d3ac8fb", func := "kedge/kedgelaw12.LineBack", spec := "lineBack", inPlace := ["internal/bytealg.MakeNoZero"], named := ["kedge/hamming.own", "kedge/hamming.together"], apart := false, laid := [("kedge/hamming.own", laid_kedge_hamming_own), ("kedge/hamming.together", laid_kedge_hamming_together)] }
def LineBackSaid : Prop := lineBackRow.holds Tryd.pinned (OpenSpec.ofChange lineBackSpec)

/-- ITS FALSE NEIGHBOUR: 'it returns false'. Refute it at one input. -/
def lineBackWrong : ChangeSpec := { name := "lineBack", fn := fun _ => fun
  | [d] => { results := [.lit (.bool false)], args := [d] }
  | _ => none }
def LineBackWrongFalsely : Prop := lineBackRow.holds Tryd.pinned (OpenSpec.ofChange lineBackWrong)

/-- 'kedgelaw12.LineMends': WHATEVER THE INPUT: true; the input reads as it did. -/
def lineMendsSpec : ChangeSpec := { name := "lineMends", fn := fun _ => fun
  | [d1, d2, d3] => { results := [.lit (.bool true)], args := [d1, d2, d3] }
  | _ => none }
def lineMendsRow : OpenClaim := { program := "ytkcpkfimmolkkaadoor", sum := "d14c77cd14c358485d1d436d02b079c71689e8ff9d704b9e2359dc904d3ac8fb", func := "kedge/kedgelaw12.LineMends", spec := "lineMends", inPlace := ["internal/bytealg.MakeNoZero"], named := ["kedge/hamming.own", "kedge/hamming.together"], apart := false, laid := [("kedge/hamming.own", laid_kedge_hamming_own), ("kedge/hamming.together", laid_kedge_hamming_together)] }
def LineMendsSaid : Prop := lineMendsRow.holds Tryd.pinned (OpenSpec.ofChange lineMendsSpec)

/-- ITS FALSE NEIGHBOUR: 'it returns false'. Refute it at one input. -/
def lineMendsWrong : ChangeSpec := { name := "lineMends", fn := fun _ => fun
  | [d1, d2, d3] => { results := [.lit (.bool false)], args := [d1, d2, d3] }
  | _ => none }
def LineMendsWrongFalsely : Prop := lineMendsRow.holds Tryd.pinned (OpenSpec.ofChange lineMendsWrong)

/- THE SECOND FORM. 'bulk': how many values and letters a reading holds, each counted each time it is reached (what is shared counts as often as it is met; a slice's spare places count too). A statement '..UptoSaid' is the law's where the arguments, and the package variables that the reading takes, are together of bulk at most 1048576: NARROWER than '..Said'. Prove '..Said' where nothing that the law and all that it calls make is longer than what came in: it says more and counts as full. Else prove '..UptoSaid'. A law counts once. -/
mutual
def uptoBulk {H : Type} : DataW H → Nat
  | .lit (.string bytes) => bytes.length + 1
  | .lit _ => 1
  | .nil => 1
  | .ptr d => uptoBulk d + 1
  | .slice elems spare => uptoBulkAll elems + uptoBulkAll spare + 1
  | .agg parts => uptoBulkAll parts + 1
  | .iface _ d => uptoBulk d + 1
  | .map entries => uptoBulkEntries entries + 1
  | .held _ => 1
def uptoBulkAll {H : Type} : List (DataW H) → Nat
  | [] => 0
  | d :: r => uptoBulk d + uptoBulkAll r
def uptoBulkEntries {H : Type} : List (Lit × DataW H) → Nat
  | [] => 0
  | x :: r => uptoBulkEntry x + uptoBulkEntries r
def uptoBulkEntry {H : Type} : Lit × DataW H → Nat
  | (.string bytes, d) => bytes.length + uptoBulk d + 1
  | (_, d) => uptoBulk d + 1
 end
def uptoSmall : (H : Type) → List (DataW H) → Bool := fun _ ds => decide (uptoBulkAll ds ≤ 1048576)
def OpenSpec.upto (s : _root_.Go.ChangeSpec) : _root_.Go.OpenSpec := { _root_.Go.OpenSpec.ofChange s with cond := some uptoSmall }

/-- 'kedgelaw12.LineSends', WHERE WHAT IT READS IS OF BULK AT MOST 1048576: true; the input reads as it did. -/
def lineSendsUptoRow : OpenClaim := { program := "ytkcpkfimmolkkaadoor", sum := "d14c77cd14c358485d1d436d02b079c71689e8ff9d704b9e2359dc904d3ac8fb", func := "kedge/kedgelaw12.LineSends", spec := "lineSends", inPlace := ["internal/bytealg.MakeNoZero", "math.archTrunc", "math.Float64bits", "math.Float64frombits"], named := ["kedge/hamming.own", "kedge/hamming.together"], apart := false, laid := [("kedge/hamming.own", laid_kedge_hamming_own), ("kedge/hamming.together", laid_kedge_hamming_together)], narrowed := true }
def LineSendsUptoSaid : Prop := lineSendsUptoRow.holds Tryd.pinned (OpenSpec.upto lineSendsSpec)

/-- 'kedgelaw12.LineHears', WHERE WHAT IT READS IS OF BULK AT MOST 1048576: true; the input reads as it did. -/
def lineHearsUptoRow : OpenClaim := { program := "ytkcpkfimmolkkaadoor", sum := "d14c77cd14c358485d1d436d02b079c71689e8ff9d704b9e2359dc904d3ac8fb", func := "kedge/kedgelaw12.LineHears", spec := "lineHears", inPlace := ["internal/bytealg.MakeNoZero"], named := ["kedge/hamming.own", "kedge/hamming.together"], apart := false, laid := [("kedge/hamming.own", laid_kedge_hamming_own), ("kedge/hamming.together", laid_kedge_hamming_together)], narrowed := true }
def LineHearsUptoSaid : Prop := lineHearsUptoRow.holds Tryd.pinned (OpenSpec.upto lineHearsSpec)

/-- 'kedgelaw12.LineBack', WHERE WHAT IT READS IS OF BULK AT MOST 1048576: true; the input reads as it did. -/
def lineBackUptoRow : OpenClaim := { program := "ytkcpkfimmolkkaadoor", sum := "d14c77cd14c358485d1d436d02b079c71689e8ff9d704b9e2359dc904d3ac8fb", func := "kedge/kedgelaw12.LineBack", spec := "lineBack", inPlace := ["internal/bytealg.MakeNoZero"], named := ["kedge/hamming.own", "kedge/hamming.together"], apart := false, laid := [("kedge/hamming.own", laid_kedge_hamming_own), ("kedge/hamming.together", laid_kedge_hamming_together)], narrowed := true }
def LineBackUptoSaid : Prop := lineBackUptoRow.holds Tryd.pinned (OpenSpec.upto lineBackSpec)

/-- 'kedgelaw12.LineMends', WHERE WHAT IT READS IS OF BULK AT MOST 1048576: true; the input reads as it did. -/
def lineMendsUptoRow : OpenClaim := { program := "ytkcpkfimmolkkaadoor", sum := "d14c77cd14c358485d1d436d02b079c71689e8ff9d704b9e2359dc904d3ac8fb", func := "kedge/kedgelaw12.LineMends", spec := "lineMends", inPlace := ["internal/bytealg.MakeNoZero"], named := ["kedge/hamming.own", "kedge/hamming.together"], apart := false, laid := [("kedge/hamming.own", laid_kedge_hamming_own), ("kedge/hamming.together", laid_kedge_hamming_together)], narrowed := true }
def LineMendsUptoSaid : Prop := lineMendsUptoRow.holds Tryd.pinned (OpenSpec.upto lineMendsSpec)

end Rows
end Go.Proofs.YtkcpkfimmolkkaaDoor
