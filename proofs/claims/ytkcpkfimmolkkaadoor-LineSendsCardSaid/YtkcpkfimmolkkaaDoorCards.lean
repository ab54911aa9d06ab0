/-
  DERIVED. GIVEN WITH THE SEED: THE CARDS: each row of YtkcpkfimmolkkaaDoorRows.lean that lists a variable, with what it lists TIED to the program's text (the seventh form; the later family's looks); each row that meets fmt, with fmt's text TOLD by the authors' own Lean function (tested against real Go, not proved from fmt's source: count such statements apart). THE CARD IS WHAT COUNTS. Prove the row's statement (the work); the ties are given (YtkcpkfimmolkkaaDoorTie.lean); close each card by the builder's one call (the guide's Derived/Test/ToyasCard.lean, 'card_holds'). Laid BY PROGRAM, IN A SANDBOX (cutbox-door.mjs). By AI agents, Wed Nov 11 2026. No macro, syntax, notation, axiom, sorry.
-/
import Derived.Test.YtkcpkfimmolkkaaDoorRows
import GoSem.ClaimSeven
namespace Go.Proofs.YtkcpkfimmolkkaaDoor
namespace Rows

/-- THE TIED CARD OF 'kedgelaw12.LineSends'. -/
def lineSendsCard : Claim7 := { stood := { row := lineSendsRow, standIns := [], harness := (true, "a15234736d23ded79c95282b7443d52eb8809518fdccabe4d0c19ede16e6b020"), looks := false }, kinds := [], alts := [], laidByText := true, laidKinds := [.data, .data], laidTests := true, laidLooks := .later }
def LineSendsCardSaid : Prop := Claim7.holds Tryd.pinned (.plain (OpenSpec.ofChange lineSendsSpec)) lineSendsCard

/-- THE TIED CARD OF 'kedgelaw12.LineHears'. -/
def lineHearsCard : Claim7 := { stood := { row := lineHearsRow, standIns := [], harness := (true, "a15234736d23ded79c95282b7443d52eb8809518fdccabe4d0c19ede16e6b020"), looks := false }, kinds := [], alts := [], laidByText := true, laidKinds := [.data, .data], laidTests := true, laidLooks := .later }
def LineHearsCardSaid : Prop := Claim7.holds Tryd.pinned (.plain (OpenSpec.ofChange lineHearsSpec)) lineHearsCard

/-- THE TIED CARD OF 'kedgelaw12.LineBack'. -/
def lineBackCard : Claim7 := { stood := { row := lineBackRow, standIns := [], harness := (true, "a15234736d23ded79c95282b7443d52eb8809518fdccabe4d0c19ede16e6b020"), looks := false }, kinds := [], alts := [], laidByText := true, laidKinds := [.data, .data], laidTests := true, laidLooks := .later }
def LineBackCardSaid : Prop := Claim7.holds Tryd.pinned (.plain (OpenSpec.ofChange lineBackSpec)) lineBackCard

/-- THE TIED CARD OF 'kedgelaw12.LineMends'. -/
def lineMendsCard : Claim7 := { stood := { row := lineMendsRow, standIns := [], harness := (true, "a15234736d23ded79c95282b7443d52eb8809518fdccabe4d0c19ede16e6b020"), looks := false }, kinds := [], alts := [], laidByText := true, laidKinds := [.data, .data], laidTests := true, laidLooks := .later }
def LineMendsCardSaid : Prop := Claim7.holds Tryd.pinned (.plain (OpenSpec.ofChange lineMendsSpec)) lineMendsCard

/-- THE SECOND FORM's CARD OF 'kedgelaw12.LineSends'. -/
def lineSendsUptoCard : Claim7 := { stood := { row := lineSendsUptoRow, standIns := [], harness := (true, "a15234736d23ded79c95282b7443d52eb8809518fdccabe4d0c19ede16e6b020"), looks := false }, kinds := [], alts := [], laidByText := true, laidKinds := [.data, .data], laidTests := true, laidLooks := .later }
def LineSendsUptoCardSaid : Prop := Claim7.holds Tryd.pinned (.plain (OpenSpec.upto lineSendsSpec)) lineSendsUptoCard

/-- THE SECOND FORM's CARD OF 'kedgelaw12.LineHears'. -/
def lineHearsUptoCard : Claim7 := { stood := { row := lineHearsUptoRow, standIns := [], harness := (true, "a15234736d23ded79c95282b7443d52eb8809518fdccabe4d0c19ede16e6b020"), looks := false }, kinds := [], alts := [], laidByText := true, laidKinds := [.data, .data], laidTests := true, laidLooks := .later }
def LineHearsUptoCardSaid : Prop := Claim7.holds Tryd.pinned (.plain (OpenSpec.upto lineHearsSpec)) lineHearsUptoCard

/-- THE SECOND FORM's CARD OF 'kedgelaw12.LineBack'. -/
def lineBackUptoCard : Claim7 := { stood := { row := lineBackUptoRow, standIns := [], harness := (true, "a15234736d23ded79c95282b7443d52eb8809518fdccabe4d0c19ede16e6b020"), looks := false }, kinds := [], alts := [], laidByText := true, laidKinds := [.data, .data], laidTests := true, laidLooks := .later }
def LineBackUptoCardSaid : Prop := Claim7.holds Tryd.pinned (.plain (OpenSpec.upto lineBackSpec)) lineBackUptoCard

/-- THE SECOND FORM's CARD OF 'kedgelaw12.LineMends'. -/
def lineMendsUptoCard : Claim7 := { stood := { row := lineMendsUptoRow, standIns := [], harness := (true, "a15234736d23ded79c95282b7443d52eb8809518fdccabe4d0c19ede16e6b020"), looks := false }, kinds := [], alts := [], laidByText := true, laidKinds := [.data, .data], laidTests := true, laidLooks := .later }
def LineMendsUptoCardSaid : Prop := Claim7.holds Tryd.pinned (.plain (OpenSpec.upto lineMendsSpec)) lineMendsUptoCard
end Rows
end Go.Proofs.YtkcpkfimmolkkaaDoor
