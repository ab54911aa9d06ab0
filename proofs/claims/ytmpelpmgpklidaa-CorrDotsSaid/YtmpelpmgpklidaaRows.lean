/-
  No cell of these rows narrows 'for every input' (looked for: loops, veiled, ifaces, maps, wideKeys, modest, calm, conditions, laid).
  DERIVED. THE GIVEN ROWS OF THIS SEAT. 4 by the template 'for every input the law returns true; each argument reads behind the call as it read before'; 0 by the template 'total and deterministic' (their statements: YtmpelpmgpklidaaTotals.lean).
  GIVEN WITH THE SEED: the statements are not yours to turn. If you find one false, say at which input.
  Laid BY PROGRAM, IN A SANDBOX (cutbox-rows.mjs): the forced cells as the released guide's own fill.sh prints them over the translation 107cab3152b1e507… (all of the seat's roots in one cut). By AI agents, Wed Nov 11 2026. No macro, syntax, notation, axiom, sorry.
-/
import Derived.Test.YtmpelpmgpklidaaChecked
import GoSem.Claim
import GoSem.ClaimJoined
import GoSem.ClaimMapViews
import Derived.JoinedTies
import Derived.KernelRfl
namespace Go.Proofs.Ytmpelpmgpklidaa
/- THE CELL 'sum', in the pinned program and in every row, IS THE sha256 OF THE DUMP (.gsa) THAT YtmpelpmgpklidaaProg.lean LOADS. Nothing in Lean hashes anything: it is a label: what it is worth is what the hold of that sum in a sandbox is worth. -/
noncomputable def Try.pinned : Pinned := { name := "ytmpelpmgpklidaa", sum := "107cab3152b1e507cd67c90107a60a91c558b7224e07a5ffb29f1bb2ec342cdd", checked := Try.checked }
namespace Rows
def none {H : Type} : Left H := { results := [], args := [] }

/-- 'kedgelaw08.CorrDots': WHATEVER THE INPUT: true; the input reads as it did. -/
def corrDotsSpec : ChangeSpec := { name := "corrDots", fn := fun _ => fun
  | [d1, d2] => { results := [.lit (.bool true)], args := [d1, d2] }
  | _ => none }
def corrDotsRow : OpenClaim := { program := "ytmpelpmgpklidaa", sum := "107cab3152b1e507cd67c90107a60a91c558b7224e07a5ffb29f1bb2ec342cdd", func := "kedge/kedgelaw08.CorrDots", spec := "corrDots", inPlace := ["math.archTrunc", "math.Float64bits", "math.Float64frombits"], apart := false }
def CorrDotsSaid : Prop := corrDotsRow.holds Try.pinned (OpenSpec.ofChange corrDotsSpec)

/-- ITS FALSE NEIGHBOUR: 'it returns false'. Refute it at one input. -/
def corrDotsWrong : ChangeSpec := { name := "corrDots", fn := fun _ => fun
  | [d1, d2] => { results := [.lit (.bool false)], args := [d1, d2] }
  | _ => none }
def CorrDotsWrongFalsely : Prop := corrDotsRow.holds Try.pinned (OpenSpec.ofChange corrDotsWrong)

/-- 'kedgelaw08.CorrFinds': WHATEVER THE INPUT: true; the input reads as it did. -/
def corrFindsSpec : ChangeSpec := { name := "corrFinds", fn := fun _ => fun
  | [d1, d2] => { results := [.lit (.bool true)], args := [d1, d2] }
  | _ => none }
def corrFindsRow : OpenClaim := { program := "ytmpelpmgpklidaa", sum := "107cab3152b1e507cd67c90107a60a91c558b7224e07a5ffb29f1bb2ec342cdd", func := "kedge/kedgelaw08.CorrFinds", spec := "corrFinds", inPlace := ["math.archTrunc", "math.Float64bits", "math.Float64frombits"], apart := false }
def CorrFindsSaid : Prop := corrFindsRow.holds Try.pinned (OpenSpec.ofChange corrFindsSpec)

/-- ITS FALSE NEIGHBOUR: 'it returns false'. Refute it at one input. -/
def corrFindsWrong : ChangeSpec := { name := "corrFinds", fn := fun _ => fun
  | [d1, d2] => { results := [.lit (.bool false)], args := [d1, d2] }
  | _ => none }
def CorrFindsWrongFalsely : Prop := corrFindsRow.holds Try.pinned (OpenSpec.ofChange corrFindsWrong)

/-- 'kedgelaw08.CorrTurned': WHATEVER THE INPUT: true; the input reads as it did. -/
def corrTurnedSpec : ChangeSpec := { name := "corrTurned", fn := fun _ => fun
  | [d1, d2, d3] => { results := [.lit (.bool true)], args := [d1, d2, d3] }
  | _ => none }
def corrTurnedRow : OpenClaim := { program := "ytmpelpmgpklidaa", sum := "107cab3152b1e507cd67c90107a60a91c558b7224e07a5ffb29f1bb2ec342cdd", func := "kedge/kedgelaw08.CorrTurned", spec := "corrTurned", inPlace := ["math.archTrunc", "math.Float64bits", "math.Float64frombits"], apart := false }
def CorrTurnedSaid : Prop := corrTurnedRow.holds Try.pinned (OpenSpec.ofChange corrTurnedSpec)

/-- ITS FALSE NEIGHBOUR: 'it returns false'. Refute it at one input. -/
def corrTurnedWrong : ChangeSpec := { name := "corrTurned", fn := fun _ => fun
  | [d1, d2, d3] => { results := [.lit (.bool false)], args := [d1, d2, d3] }
  | _ => none }
def CorrTurnedWrongFalsely : Prop := corrTurnedRow.holds Try.pinned (OpenSpec.ofChange corrTurnedWrong)

/-- 'kedgelaw08.CorrPeaks': WHATEVER THE INPUT: true; the input reads as it did. -/
def corrPeaksSpec : ChangeSpec := { name := "corrPeaks", fn := fun _ => fun
  | [d1, d2] => { results := [.lit (.bool true)], args := [d1, d2] }
  | _ => none }
def corrPeaksRow : OpenClaim := { program := "ytmpelpmgpklidaa", sum := "107cab3152b1e507cd67c90107a60a91c558b7224e07a5ffb29f1bb2ec342cdd", func := "kedge/kedgelaw08.CorrPeaks", spec := "corrPeaks", inPlace := ["math.archTrunc", "math.Float64bits", "math.Float64frombits"], apart := false }
def CorrPeaksSaid : Prop := corrPeaksRow.holds Try.pinned (OpenSpec.ofChange corrPeaksSpec)

/-- ITS FALSE NEIGHBOUR: 'it returns false'. Refute it at one input. -/
def corrPeaksWrong : ChangeSpec := { name := "corrPeaks", fn := fun _ => fun
  | [d1, d2] => { results := [.lit (.bool false)], args := [d1, d2] }
  | _ => none }
def CorrPeaksWrongFalsely : Prop := corrPeaksRow.holds Try.pinned (OpenSpec.ofChange corrPeaksWrong)

/- THE SECOND FORM. 'bulk': how many values and letters a reading holds, each counted each time it is reached (what is shared counts as often as it is met; a slice's spare places count too). A statement '..UptoSaid' is the law's where the arguments, and the package variables that the reading takes, are together of bulk at most 1048576: NARROWER than '..Said'. Prove '..Said' where nothing that the law and all that it calls make is longer than what came in: it says more and counts as full. Else prove '..UptoSaid'. A law counts once. -/
mutual
def uptoBulk {H : Type} : DataW H → Nat
  | .lit (.string bytes) => bytes.length + 1
  | .lit _ => 1
  | .nil => 1
  | .ptr d => uptoBulk d + 1
  | .slice elems spare => uptoBulkAll elems + uptoBulkAll spare + 1
  | .agg parts => uptoBulkAll parts + 1
  | .iface _ d => uptoBulk d + 1
  | .map entries => uptoBulkEntries entries + 1
  | .held _ => 1
def uptoBulkAll {H : Type} : List (DataW H) → Nat
  | [] => 0
  | d :: r => uptoBulk d + uptoBulkAll r
def uptoBulkEntries {H : Type} : List (Lit × DataW H) → Nat
  | [] => 0
  | x :: r => uptoBulkEntry x + uptoBulkEntries r
def uptoBulkEntry {H : Type} : Lit × DataW H → Nat
  | (.string bytes, d) => bytes.length + uptoBulk d + 1
  | (_, d) => uptoBulk d + 1
 end
def uptoSmall : (H : Type) → List (DataW H) → Bool := fun _ ds => decide (uptoBulkAll ds ≤ 1048576)
def OpenSpec.upto (s : _root_.Go.ChangeSpec) : _root_.Go.OpenSpec := { _root_.Go.OpenSpec.ofChange s with cond := some uptoSmall }

/-- 'kedgelaw08.CorrDots', WHERE WHAT IT READS IS OF BULK AT MOST 1048576: true; the input reads as it did. -/
def corrDotsUptoRow : OpenClaim := { program := "ytmpelpmgpklidaa", sum := "107cab3152b1e507cd67c90107a60a91c558b7224e07a5ffb29f1bb2ec342cdd", func := "kedge/kedgelaw08.CorrDots", spec := "corrDots", inPlace := ["math.archTrunc", "math.Float64bits", "math.Float64frombits"], apart := false, narrowed := true }
def CorrDotsUptoSaid : Prop := corrDotsUptoRow.holds Try.pinned (OpenSpec.upto corrDotsSpec)

/-- 'kedgelaw08.CorrFinds', WHERE WHAT IT READS IS OF BULK AT MOST 1048576: true; the input reads as it did. -/
def corrFindsUptoRow : OpenClaim := { program := "ytmpelpmgpklidaa", sum := "107cab3152b1e507cd67c90107a60a91c558b7224e07a5ffb29f1bb2ec342cdd", func := "kedge/kedgelaw08.CorrFinds", spec := "corrFinds", inPlace := ["math.archTrunc", "math.Float64bits", "math.Float64frombits"], apart := false, narrowed := true }
def CorrFindsUptoSaid : Prop := corrFindsUptoRow.holds Try.pinned (OpenSpec.upto corrFindsSpec)

/-- 'kedgelaw08.CorrTurned', WHERE WHAT IT READS IS OF BULK AT MOST 1048576: true; the input reads as it did. -/
def corrTurnedUptoRow : OpenClaim := { program := "ytmpelpmgpklidaa", sum := "107cab3152b1e507cd67c90107a60a91c558b7224e07a5ffb29f1bb2ec342cdd", func := "kedge/kedgelaw08.CorrTurned", spec := "corrTurned", inPlace := ["math.archTrunc", "math.Float64bits", "math.Float64frombits"], apart := false, narrowed := true }
def CorrTurnedUptoSaid : Prop := corrTurnedUptoRow.holds Try.pinned (OpenSpec.upto corrTurnedSpec)

/-- 'kedgelaw08.CorrPeaks', WHERE WHAT IT READS IS OF BULK AT MOST 1048576: true; the input reads as it did. -/
def corrPeaksUptoRow : OpenClaim := { program := "ytmpelpmgpklidaa", sum := "107cab3152b1e507cd67c90107a60a91c558b7224e07a5ffb29f1bb2ec342cdd", func := "kedge/kedgelaw08.CorrPeaks", spec := "corrPeaks", inPlace := ["math.archTrunc", "math.Float64bits", "math.Float64frombits"], apart := false, narrowed := true }
def CorrPeaksUptoSaid : Prop := corrPeaksUptoRow.holds Try.pinned (OpenSpec.upto corrPeaksSpec)

end Rows
end Go.Proofs.Ytmpelpmgpklidaa
