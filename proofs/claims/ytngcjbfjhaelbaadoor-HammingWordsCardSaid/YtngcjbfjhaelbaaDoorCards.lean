/-
  DERIVED. GIVEN WITH THE SEED: THE CARDS: each row of YtngcjbfjhaelbaaDoorRows.lean that lists a variable, with what it lists TIED to the program's text (the seventh form; the later family's looks); each row that meets fmt, with fmt's text TOLD by the authors' own Lean function (tested against real Go, not proved from fmt's source: count such statements apart). THE CARD IS WHAT COUNTS. Prove the row's statement (the work); the ties are given (YtngcjbfjhaelbaaDoorTie.lean); close each card by the builder's one call (the guide's Derived/Test/ToyasCard.lean, 'card_holds'). Laid BY PROGRAM, IN A SANDBOX (cutbox-door.mjs). By AI agents, Wed Nov 11 2026. No macro, syntax, notation, axiom, sorry.
-/
import Derived.Test.YtngcjbfjhaelbaaDoorRows
import GoSem.ClaimSeven
namespace Go.Proofs.YtngcjbfjhaelbaaDoor
namespace Rows

/-- THE TIED CARD OF 'kedgelaw10.HammingWords'. -/
def hammingWordsCard : Claim7 := { stood := { row := hammingWordsRow, standIns := [], harness := (true, "3cc14daa7ca58266cd99a01e5bd7d49914119674bd87669a2b216b93bbbbe72c"), looks := false }, kinds := [], alts := [], laidByText := true, laidKinds := [.data, .data], laidTests := true, laidLooks := .later }
def HammingWordsCardSaid : Prop := Claim7.holds Tryd.pinned (.plain (OpenSpec.ofChange hammingWordsSpec)) hammingWordsCard

/-- THE TIED CARD OF 'kedgelaw10.HammingMends'. -/
def hammingMendsCard : Claim7 := { stood := { row := hammingMendsRow, standIns := [], harness := (true, "3cc14daa7ca58266cd99a01e5bd7d49914119674bd87669a2b216b93bbbbe72c"), looks := false }, kinds := [], alts := [], laidByText := true, laidKinds := [.data, .data], laidTests := true, laidLooks := .later }
def HammingMendsCardSaid : Prop := Claim7.holds Tryd.pinned (.plain (OpenSpec.ofChange hammingMendsSpec)) hammingMendsCard

/-- THE TIED CARD OF 'kedgelaw10.HammingPacks'. -/
def hammingPacksCard : Claim7 := { stood := { row := hammingPacksRow, standIns := [], harness := (true, "3cc14daa7ca58266cd99a01e5bd7d49914119674bd87669a2b216b93bbbbe72c"), looks := false }, kinds := [], alts := [], laidByText := true, laidKinds := [.data, .data], laidTests := true, laidLooks := .later }
def HammingPacksCardSaid : Prop := Claim7.holds Tryd.pinned (.plain (OpenSpec.ofChange hammingPacksSpec)) hammingPacksCard

/-- THE TIED CARD OF 'kedgelaw10.HammingBack'. -/
def hammingBackCard : Claim7 := { stood := { row := hammingBackRow, standIns := [], harness := (true, "3cc14daa7ca58266cd99a01e5bd7d49914119674bd87669a2b216b93bbbbe72c"), looks := false }, kinds := [], alts := [], laidByText := true, laidKinds := [.data, .data], laidTests := true, laidLooks := .later }
def HammingBackCardSaid : Prop := Claim7.holds Tryd.pinned (.plain (OpenSpec.ofChange hammingBackSpec)) hammingBackCard

/-- THE SECOND FORM's CARD OF 'kedgelaw10.HammingWords'. -/
def hammingWordsUptoCard : Claim7 := { stood := { row := hammingWordsUptoRow, standIns := [], harness := (true, "3cc14daa7ca58266cd99a01e5bd7d49914119674bd87669a2b216b93bbbbe72c"), looks := false }, kinds := [], alts := [], laidByText := true, laidKinds := [.data, .data], laidTests := true, laidLooks := .later }
def HammingWordsUptoCardSaid : Prop := Claim7.holds Tryd.pinned (.plain (OpenSpec.upto hammingWordsSpec)) hammingWordsUptoCard

/-- THE SECOND FORM's CARD OF 'kedgelaw10.HammingMends'. -/
def hammingMendsUptoCard : Claim7 := { stood := { row := hammingMendsUptoRow, standIns := [], harness := (true, "3cc14daa7ca58266cd99a01e5bd7d49914119674bd87669a2b216b93bbbbe72c"), looks := false }, kinds := [], alts := [], laidByText := true, laidKinds := [.data, .data], laidTests := true, laidLooks := .later }
def HammingMendsUptoCardSaid : Prop := Claim7.holds Tryd.pinned (.plain (OpenSpec.upto hammingMendsSpec)) hammingMendsUptoCard

/-- THE SECOND FORM's CARD OF 'kedgelaw10.HammingPacks'. -/
def hammingPacksUptoCard : Claim7 := { stood := { row := hammingPacksUptoRow, standIns := [], harness := (true, "3cc14daa7ca58266cd99a01e5bd7d49914119674bd87669a2b216b93bbbbe72c"), looks := false }, kinds := [], alts := [], laidByText := true, laidKinds := [.data, .data], laidTests := true, laidLooks := .later }
def HammingPacksUptoCardSaid : Prop := Claim7.holds Tryd.pinned (.plain (OpenSpec.upto hammingPacksSpec)) hammingPacksUptoCard

/-- THE SECOND FORM's CARD OF 'kedgelaw10.HammingBack'. -/
def hammingBackUptoCard : Claim7 := { stood := { row := hammingBackUptoRow, standIns := [], harness := (true, "3cc14daa7ca58266cd99a01e5bd7d49914119674bd87669a2b216b93bbbbe72c"), looks := false }, kinds := [], alts := [], laidByText := true, laidKinds := [.data, .data], laidTests := true, laidLooks := .later }
def HammingBackUptoCardSaid : Prop := Claim7.holds Tryd.pinned (.plain (OpenSpec.upto hammingBackSpec)) hammingBackUptoCard
end Rows
end Go.Proofs.YtngcjbfjhaelbaaDoor
