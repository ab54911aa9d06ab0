/-
  NARROWER THAN 'FOR EVERY INPUT', by the rows' own cells (each row's printed sentence says how): TokenPuts: laid · TokenGets: laid · TokenBack: laid.
  DERIVED. THE GIVEN ROWS OF THIS SEAT. 3 by the template 'for every input the law returns true; each argument reads behind the call as it read before'; 0 by the template 'total and deterministic' (their statements: YtabackggnkplhaaDoorTotals.lean).
  GIVEN WITH THE SEED: the statements are not yours to turn. If you find one false, say at which input.
  Laid BY PROGRAM, IN A SANDBOX (cutbox-rows.mjs): the forced cells as the released guide's own fill.sh prints them over the translation a6b880c37a804772… (all of the seat's roots in one cut). By AI agents, Wed Nov 11 2026. No macro, syntax, notation, axiom, sorry.
-/
import Derived.Test.YtabackggnkplhaaDoorChecked
import GoSem.Claim
import GoSem.ClaimJoined
import GoSem.ClaimMapViews
import Derived.JoinedTies
import Derived.KernelRfl
namespace Go.Proofs.YtabackggnkplhaaDoor
/- THE CELL 'sum', in the pinned program and in every row, IS THE sha256 OF THE DUMP (.gsa) THAT YtabackggnkplhaaDoorProg.lean LOADS. Nothing in Lean hashes anything: it is a label: what it is worth is what the hold of that sum in a sandbox is worth. -/
noncomputable def Tryd.pinned : Pinned := { name := "ytabackggnkplhaadoor", sum := "a6b880c37a8047729d1ca9073d71b818ba156c2a534f7cf88f00069deeec5080", checked := Tryd.checked }
namespace Rows
def none {H : Type} : Left H := { results := [], args := [] }

/- WHAT THE LISTED PACKAGE-LEVEL VARIABLES READ AS WHEN THE CALL BEGINS. Each datum BY PROGRAM (the guide's laid-datum.mjs) off the statement by which the dump's own 'gosem.cut.vars' lays the variable. In a bare row this is a premise. The card (YtabackggnkplhaaDoorCards.lean) ties it to the program's text. -/
def laid_kedge_token_packets {H : Type} : DataW H := .agg [.agg [.agg [.lit (.bool true), .lit (.bool false), .lit (.bool false)], .lit (.int .i64 0)], .agg [.agg [.lit (.bool true), .lit (.bool true), .lit (.bool true)], .lit (.int .i64 0)], .agg [.agg [.lit (.bool true), .lit (.bool true), .lit (.bool false)], .lit (.int .i64 64)], .agg [.agg [.lit (.bool true), .lit (.bool false), .lit (.bool true)], .lit (.int .i64 0)]]

/-- 'kedgelaw15.TokenPuts': WHATEVER THE INPUT: true; the input reads as it did. -/
def tokenPutsSpec : ChangeSpec := { name := "tokenPuts", fn := fun _ => fun
  | [d] => { results := [.lit (.bool true)], args := [d] }
  | _ => none }
def tokenPutsRow : OpenClaim := { program := "ytabackggnkplhaadoor", sum := "a6b880c37a8047729d1ca9073d71b818ba156c2a534f7cf88f00069deeec5080", func := "kedge/kedgelaw15.TokenPuts", spec := "tokenPuts", named := ["kedge/token.packets"], apart := false, laid := [("kedge/token.packets", laid_kedge_token_packets)] }
def TokenPutsSaid : Prop := tokenPutsRow.holds Tryd.pinned (OpenSpec.ofChange tokenPutsSpec)

/-- ITS FALSE NEIGHBOUR: 'it returns false'. Refute it at one input. -/
def tokenPutsWrong : ChangeSpec := { name := "tokenPuts", fn := fun _ => fun
  | [d] => { results := [.lit (.bool false)], args := [d] }
  | _ => none }
def TokenPutsWrongFalsely : Prop := tokenPutsRow.holds Tryd.pinned (OpenSpec.ofChange tokenPutsWrong)

/-- 'kedgelaw15.TokenGets': WHATEVER THE INPUT: true; the input reads as it did. -/
def tokenGetsSpec : ChangeSpec := { name := "tokenGets", fn := fun _ => fun
  | [d] => { results := [.lit (.bool true)], args := [d] }
  | _ => none }
def tokenGetsRow : OpenClaim := { program := "ytabackggnkplhaadoor", sum := "a6b880c37a8047729d1ca9073d71b818ba156c2a534f7cf88f00069deeec5080", func := "kedge/kedgelaw15.TokenGets", spec := "tokenGets", unfollowed := true, recurses := true, named := ["kedge/token.packets"], apart := false, laid := [("kedge/token.packets", laid_kedge_token_packets)] }
def TokenGetsSaid : Prop := tokenGetsRow.holds Tryd.pinned (OpenSpec.ofChange tokenGetsSpec)

/-- ITS FALSE NEIGHBOUR: 'it returns false'. Refute it at one input. -/
def tokenGetsWrong : ChangeSpec := { name := "tokenGets", fn := fun _ => fun
  | [d] => { results := [.lit (.bool false)], args := [d] }
  | _ => none }
def TokenGetsWrongFalsely : Prop := tokenGetsRow.holds Tryd.pinned (OpenSpec.ofChange tokenGetsWrong)

/-- 'kedgelaw15.TokenBack': WHATEVER THE INPUT: true; the input reads as it did. -/
def tokenBackSpec : ChangeSpec := { name := "tokenBack", fn := fun _ => fun
  | [d1, d2] => { results := [.lit (.bool true)], args := [d1, d2] }
  | _ => none }
def tokenBackRow : OpenClaim := { program := "ytabackggnkplhaadoor", sum := "a6b880c37a8047729d1ca9073d71b818ba156c2a534f7cf88f00069deeec5080", func := "kedge/kedgelaw15.TokenBack", spec := "tokenBack", unfollowed := true, recurses := true, named := ["kedge/token.packets"], apart := false, laid := [("kedge/token.packets", laid_kedge_token_packets)] }
def TokenBackSaid : Prop := tokenBackRow.holds Tryd.pinned (OpenSpec.ofChange tokenBackSpec)

/-- ITS FALSE NEIGHBOUR: 'it returns false'. Refute it at one input. -/
def tokenBackWrong : ChangeSpec := { name := "tokenBack", fn := fun _ => fun
  | [d1, d2] => { results := [.lit (.bool false)], args := [d1, d2] }
  | _ => none }
def TokenBackWrongFalsely : Prop := tokenBackRow.holds Tryd.pinned (OpenSpec.ofChange tokenBackWrong)

/- THE SECOND FORM. 'bulk': how many values and letters a reading holds, each counted each time it is reached (what is shared counts as often as it is met; a slice's spare places count too). A statement '..UptoSaid' is the law's where the arguments, and the package variables that the reading takes, are together of bulk at most 1048576: NARROWER than '..Said'. Prove '..Said' where nothing that the law and all that it calls make is longer than what came in: it says more and counts as full. Else prove '..UptoSaid'. A law counts once. -/
mutual
def uptoBulk {H : Type} : DataW H → Nat
  | .lit (.string bytes) => bytes.length + 1
  | .lit _ => 1
  | .nil => 1
  | .ptr d => uptoBulk d + 1
  | .slice elems spare => uptoBulkAll elems + uptoBulkAll spare + 1
  | .agg parts => uptoBulkAll parts + 1
  | .iface _ d => uptoBulk d + 1
  | .map entries => uptoBulkEntries entries + 1
  | .held _ => 1
def uptoBulkAll {H : Type} : List (DataW H) → Nat
  | [] => 0
  | d :: r => uptoBulk d + uptoBulkAll r
def uptoBulkEntries {H : Type} : List (Lit × DataW H) → Nat
  | [] => 0
  | x :: r => uptoBulkEntry x + uptoBulkEntries r
def uptoBulkEntry {H : Type} : Lit × DataW H → Nat
  | (.string bytes, d) => bytes.length + uptoBulk d + 1
  | (_, d) => uptoBulk d + 1
 end
def uptoSmall : (H : Type) → List (DataW H) → Bool := fun _ ds => decide (uptoBulkAll ds ≤ 1048576)
def OpenSpec.upto (s : _root_.Go.ChangeSpec) : _root_.Go.OpenSpec := { _root_.Go.OpenSpec.ofChange s with cond := some uptoSmall }

/-- 'kedgelaw15.TokenPuts', WHERE WHAT IT READS IS OF BULK AT MOST 1048576: true; the input reads as it did. -/
def tokenPutsUptoRow : OpenClaim := { program := "ytabackggnkplhaadoor", sum := "a6b880c37a8047729d1ca9073d71b818ba156c2a534f7cf88f00069deeec5080", func := "kedge/kedgelaw15.TokenPuts", spec := "tokenPuts", named := ["kedge/token.packets"], apart := false, laid := [("kedge/token.packets", laid_kedge_token_packets)], narrowed := true }
def TokenPutsUptoSaid : Prop := tokenPutsUptoRow.holds Tryd.pinned (OpenSpec.upto tokenPutsSpec)

/-- 'kedgelaw15.TokenGets', WHERE WHAT IT READS IS OF BULK AT MOST 1048576: true; the input reads as it did. -/
def tokenGetsUptoRow : OpenClaim := { program := "ytabackggnkplhaadoor", sum := "a6b880c37a8047729d1ca9073d71b818ba156c2a534f7cf88f00069deeec5080", func := "kedge/kedgelaw15.TokenGets", spec := "tokenGets", unfollowed := true, recurses := true, named := ["kedge/token.packets"], apart := false, laid := [("kedge/token.packets", laid_kedge_token_packets)], narrowed := true }
def TokenGetsUptoSaid : Prop := tokenGetsUptoRow.holds Tryd.pinned (OpenSpec.upto tokenGetsSpec)

/-- 'kedgelaw15.TokenBack', WHERE WHAT IT READS IS OF BULK AT MOST 1048576: true; the input reads as it did. -/
def tokenBackUptoRow : OpenClaim := { program := "ytabackggnkplhaadoor", sum := "a6b880c37a8047729d1ca9073d71b818ba156c2a534f7cf88f00069deeec5080", func := "kedge/kedgelaw15.TokenBack", spec := "tokenBack", unfollowed := true, recurses := true, named := ["kedge/token.packets"], apart := false, laid := [("kedge/token.packets", laid_kedge_token_packets)], narrowed := true }
def TokenBackUptoSaid : Prop := tokenBackUptoRow.holds Tryd.pinned (OpenSpec.upto tokenBackSpec)

end Rows
end Go.Proofs.YtabackggnkplhaaDoor
