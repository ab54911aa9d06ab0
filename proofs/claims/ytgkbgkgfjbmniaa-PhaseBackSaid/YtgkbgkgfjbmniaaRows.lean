/-
  No cell of these rows narrows 'for every input' (looked for: loops, veiled, ifaces, maps, wideKeys, modest, calm, conditions, laid).
  DERIVED. THE GIVEN ROWS OF THIS SEAT. 5 by the template 'for every input the law returns true; each argument reads behind the call as it read before'; 0 by the template 'total and deterministic' (their statements: YtgkbgkgfjbmniaaTotals.lean).
  GIVEN WITH THE SEED: the statements are not yours to turn. If you find one false, say at which input.
  Laid BY PROGRAM, IN A SANDBOX (cutbox-rows.mjs): the forced cells as the released guide's own fill.sh prints them over the translation 26dbb5183f0bd0a2… (all of the seat's roots in one cut). By AI agents, Wed Nov 11 2026. No macro, syntax, notation, axiom, sorry.
-/
import Derived.Test.YtgkbgkgfjbmniaaChecked
import GoSem.Claim
import GoSem.ClaimJoined
import GoSem.ClaimMapViews
import Derived.JoinedTies
import Derived.KernelRfl
namespace Go.Proofs.Ytgkbgkgfjbmniaa
/- THE CELL 'sum', in the pinned program and in every row, IS THE sha256 OF THE DUMP (.gsa) THAT YtgkbgkgfjbmniaaProg.lean LOADS. Nothing in Lean hashes anything: it is a label: what it is worth is what the hold of that sum in a sandbox is worth. -/
noncomputable def Try.pinned : Pinned := { name := "ytgkbgkgfjbmniaa", sum := "26dbb5183f0bd0a2a7bd6aab38c07a3b8d97ad6056f1837f5d1cfd039fc77c4d", checked := Try.checked }
namespace Rows
def none {H : Type} : Left H := { results := [], args := [] }

/-- 'kedgelaw07.PhaseParts': WHATEVER THE INPUT: true; the input reads as it did. -/
def phasePartsSpec : ChangeSpec := { name := "phaseParts", fn := fun _ => fun
  | [d1, d2] => { results := [.lit (.bool true)], args := [d1, d2] }
  | _ => none }
def phasePartsRow : OpenClaim := { program := "ytgkbgkgfjbmniaa", sum := "26dbb5183f0bd0a2a7bd6aab38c07a3b8d97ad6056f1837f5d1cfd039fc77c4d", func := "kedge/kedgelaw07.PhaseParts", spec := "phaseParts", inPlace := ["math.archTrunc", "math.Float64bits", "math.Float64frombits"], apart := false }
def PhasePartsSaid : Prop := phasePartsRow.holds Try.pinned (OpenSpec.ofChange phasePartsSpec)

/-- ITS FALSE NEIGHBOUR: 'it returns false'. Refute it at one input. -/
def phasePartsWrong : ChangeSpec := { name := "phaseParts", fn := fun _ => fun
  | [d1, d2] => { results := [.lit (.bool false)], args := [d1, d2] }
  | _ => none }
def PhasePartsWrongFalsely : Prop := phasePartsRow.holds Try.pinned (OpenSpec.ofChange phasePartsWrong)

/-- 'kedgelaw07.PhaseTurns': WHATEVER THE INPUT: true; the input reads as it did. -/
def phaseTurnsSpec : ChangeSpec := { name := "phaseTurns", fn := fun _ => fun
  | [d1, d2, d3] => { results := [.lit (.bool true)], args := [d1, d2, d3] }
  | _ => none }
def phaseTurnsRow : OpenClaim := { program := "ytgkbgkgfjbmniaa", sum := "26dbb5183f0bd0a2a7bd6aab38c07a3b8d97ad6056f1837f5d1cfd039fc77c4d", func := "kedge/kedgelaw07.PhaseTurns", spec := "phaseTurns", inPlace := ["math.archTrunc", "math.Float64bits", "math.Float64frombits"], apart := false }
def PhaseTurnsSaid : Prop := phaseTurnsRow.holds Try.pinned (OpenSpec.ofChange phaseTurnsSpec)

/-- ITS FALSE NEIGHBOUR: 'it returns false'. Refute it at one input. -/
def phaseTurnsWrong : ChangeSpec := { name := "phaseTurns", fn := fun _ => fun
  | [d1, d2, d3] => { results := [.lit (.bool false)], args := [d1, d2, d3] }
  | _ => none }
def PhaseTurnsWrongFalsely : Prop := phaseTurnsRow.holds Try.pinned (OpenSpec.ofChange phaseTurnsWrong)

/-- 'kedgelaw07.PhasePoints': WHATEVER THE INPUT: true; the input reads as it did. -/
def phasePointsSpec : ChangeSpec := { name := "phasePoints", fn := fun _ => fun
  | [d] => { results := [.lit (.bool true)], args := [d] }
  | _ => none }
def phasePointsRow : OpenClaim := { program := "ytgkbgkgfjbmniaa", sum := "26dbb5183f0bd0a2a7bd6aab38c07a3b8d97ad6056f1837f5d1cfd039fc77c4d", func := "kedge/kedgelaw07.PhasePoints", spec := "phasePoints", inPlace := ["math.archTrunc", "math.Float64bits", "math.Float64frombits"], apart := false }
def PhasePointsSaid : Prop := phasePointsRow.holds Try.pinned (OpenSpec.ofChange phasePointsSpec)

/-- ITS FALSE NEIGHBOUR: 'it returns false'. Refute it at one input. -/
def phasePointsWrong : ChangeSpec := { name := "phasePoints", fn := fun _ => fun
  | [d] => { results := [.lit (.bool false)], args := [d] }
  | _ => none }
def PhasePointsWrongFalsely : Prop := phasePointsRow.holds Try.pinned (OpenSpec.ofChange phasePointsWrong)

/-- 'kedgelaw07.PhaseBytes': WHATEVER THE INPUT: true; the input reads as it did. -/
def phaseBytesSpec : ChangeSpec := { name := "phaseBytes", fn := fun _ => fun
  | [d] => { results := [.lit (.bool true)], args := [d] }
  | _ => none }
def phaseBytesRow : OpenClaim := { program := "ytgkbgkgfjbmniaa", sum := "26dbb5183f0bd0a2a7bd6aab38c07a3b8d97ad6056f1837f5d1cfd039fc77c4d", func := "kedge/kedgelaw07.PhaseBytes", spec := "phaseBytes", inPlace := ["math.archTrunc", "math.Float64bits", "math.Float64frombits"], apart := false }
def PhaseBytesSaid : Prop := phaseBytesRow.holds Try.pinned (OpenSpec.ofChange phaseBytesSpec)

/-- ITS FALSE NEIGHBOUR: 'it returns false'. Refute it at one input. -/
def phaseBytesWrong : ChangeSpec := { name := "phaseBytes", fn := fun _ => fun
  | [d] => { results := [.lit (.bool false)], args := [d] }
  | _ => none }
def PhaseBytesWrongFalsely : Prop := phaseBytesRow.holds Try.pinned (OpenSpec.ofChange phaseBytesWrong)

/-- 'kedgelaw07.PhaseBack': WHATEVER THE INPUT: true; the input reads as it did. -/
def phaseBackSpec : ChangeSpec := { name := "phaseBack", fn := fun _ => fun
  | [d1, d2] => { results := [.lit (.bool true)], args := [d1, d2] }
  | _ => none }
def phaseBackRow : OpenClaim := { program := "ytgkbgkgfjbmniaa", sum := "26dbb5183f0bd0a2a7bd6aab38c07a3b8d97ad6056f1837f5d1cfd039fc77c4d", func := "kedge/kedgelaw07.PhaseBack", spec := "phaseBack", inPlace := ["math.archTrunc", "math.Float64bits", "math.Float64frombits"], apart := false }
def PhaseBackSaid : Prop := phaseBackRow.holds Try.pinned (OpenSpec.ofChange phaseBackSpec)

/-- ITS FALSE NEIGHBOUR: 'it returns false'. Refute it at one input. -/
def phaseBackWrong : ChangeSpec := { name := "phaseBack", fn := fun _ => fun
  | [d1, d2] => { results := [.lit (.bool false)], args := [d1, d2] }
  | _ => none }
def PhaseBackWrongFalsely : Prop := phaseBackRow.holds Try.pinned (OpenSpec.ofChange phaseBackWrong)

/- THE SECOND FORM. 'bulk': how many values and letters a reading holds, each counted each time it is reached (what is shared counts as often as it is met; a slice's spare places count too). A statement '..UptoSaid' is the law's where the arguments, and the package variables that the reading takes, are together of bulk at most 1048576: NARROWER than '..Said'. Prove '..Said' where nothing that the law and all that it calls make is longer than what came in: it says more and counts as full. Else prove '..UptoSaid'. A law counts once. -/
mutual
def uptoBulk {H : Type} : DataW H → Nat
  | .lit (.string bytes) => bytes.length + 1
  | .lit _ => 1
  | .nil => 1
  | .ptr d => uptoBulk d + 1
  | .slice elems spare => uptoBulkAll elems + uptoBulkAll spare + 1
  | .agg parts => uptoBulkAll parts + 1
  | .iface _ d => uptoBulk d + 1
  | .map entries => uptoBulkEntries entries + 1
  | .held _ => 1
def uptoBulkAll {H : Type} : List (DataW H) → Nat
  | [] => 0
  | d :: r => uptoBulk d + uptoBulkAll r
def uptoBulkEntries {H : Type} : List (Lit × DataW H) → Nat
  | [] => 0
  | x :: r => uptoBulkEntry x + uptoBulkEntries r
def uptoBulkEntry {H : Type} : Lit × DataW H → Nat
  | (.string bytes, d) => bytes.length + uptoBulk d + 1
  | (_, d) => uptoBulk d + 1
 end
def uptoSmall : (H : Type) → List (DataW H) → Bool := fun _ ds => decide (uptoBulkAll ds ≤ 1048576)
def OpenSpec.upto (s : _root_.Go.ChangeSpec) : _root_.Go.OpenSpec := { _root_.Go.OpenSpec.ofChange s with cond := some uptoSmall }

/-- 'kedgelaw07.PhaseParts', WHERE WHAT IT READS IS OF BULK AT MOST 1048576: true; the input reads as it did. -/
def phasePartsUptoRow : OpenClaim := { program := "ytgkbgkgfjbmniaa", sum := "26dbb5183f0bd0a2a7bd6aab38c07a3b8d97ad6056f1837f5d1cfd039fc77c4d", func := "kedge/kedgelaw07.PhaseParts", spec := "phaseParts", inPlace := ["math.archTrunc", "math.Float64bits", "math.Float64frombits"], apart := false, narrowed := true }
def PhasePartsUptoSaid : Prop := phasePartsUptoRow.holds Try.pinned (OpenSpec.upto phasePartsSpec)

/-- 'kedgelaw07.PhaseTurns', WHERE WHAT IT READS IS OF BULK AT MOST 1048576: true; the input reads as it did. -/
def phaseTurnsUptoRow : OpenClaim := { program := "ytgkbgkgfjbmniaa", sum := "26dbb5183f0bd0a2a7bd6aab38c07a3b8d97ad6056f1837f5d1cfd039fc77c4d", func := "kedge/kedgelaw07.PhaseTurns", spec := "phaseTurns", inPlace := ["math.archTrunc", "math.Float64bits", "math.Float64frombits"], apart := false, narrowed := true }
def PhaseTurnsUptoSaid : Prop := phaseTurnsUptoRow.holds Try.pinned (OpenSpec.upto phaseTurnsSpec)

/-- 'kedgelaw07.PhasePoints', WHERE WHAT IT READS IS OF BULK AT MOST 1048576: true; the input reads as it did. -/
def phasePointsUptoRow : OpenClaim := { program := "ytgkbgkgfjbmniaa", sum := "26dbb5183f0bd0a2a7bd6aab38c07a3b8d97ad6056f1837f5d1cfd039fc77c4d", func := "kedge/kedgelaw07.PhasePoints", spec := "phasePoints", inPlace := ["math.archTrunc", "math.Float64bits", "math.Float64frombits"], apart := false, narrowed := true }
def PhasePointsUptoSaid : Prop := phasePointsUptoRow.holds Try.pinned (OpenSpec.upto phasePointsSpec)

/-- 'kedgelaw07.PhaseBytes', WHERE WHAT IT READS IS OF BULK AT MOST 1048576: true; the input reads as it did. -/
def phaseBytesUptoRow : OpenClaim := { program := "ytgkbgkgfjbmniaa", sum := "26dbb5183f0bd0a2a7bd6aab38c07a3b8d97ad6056f1837f5d1cfd039fc77c4d", func := "kedge/kedgelaw07.PhaseBytes", spec := "phaseBytes", inPlace := ["math.archTrunc", "math.Float64bits", "math.Float64frombits"], apart := false, narrowed := true }
def PhaseBytesUptoSaid : Prop := phaseBytesUptoRow.holds Try.pinned (OpenSpec.upto phaseBytesSpec)

/-- 'kedgelaw07.PhaseBack', WHERE WHAT IT READS IS OF BULK AT MOST 1048576: true; the input reads as it did. -/
def phaseBackUptoRow : OpenClaim := { program := "ytgkbgkgfjbmniaa", sum := "26dbb5183f0bd0a2a7bd6aab38c07a3b8d97ad6056f1837f5d1cfd039fc77c4d", func := "kedge/kedgelaw07.PhaseBack", spec := "phaseBack", inPlace := ["math.archTrunc", "math.Float64bits", "math.Float64frombits"], apart := false, narrowed := true }
def PhaseBackUptoSaid : Prop := phaseBackUptoRow.holds Try.pinned (OpenSpec.upto phaseBackSpec)

end Rows
end Go.Proofs.Ytgkbgkgfjbmniaa
