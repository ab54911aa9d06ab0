/-
  DERIVED. GIVEN WITH THE SEED: THE CARDS: each row of YtabackggnkplhaaDoorRows.lean that lists a variable, with what it lists TIED to the program's text (the seventh form; the later family's looks); each row that meets fmt, with fmt's text TOLD by the authors' own Lean function (tested against real Go, not proved from fmt's source: count such statements apart). THE CARD IS WHAT COUNTS. Prove the row's statement (the work); the ties are given (YtabackggnkplhaaDoorTie.lean); close each card by the builder's one call (the guide's Derived/Test/ToyasCard.lean, 'card_holds'). Laid BY PROGRAM, IN A SANDBOX (cutbox-door.mjs). By AI agents, Wed Nov 11 2026. No macro, syntax, notation, axiom, sorry.
-/
import Derived.Test.YtabackggnkplhaaDoorRows
import GoSem.ClaimSeven
namespace Go.Proofs.YtabackggnkplhaaDoor
namespace Rows

/-- THE TIED CARD OF 'kedgelaw15.TokenPuts'. -/
def tokenPutsCard : Claim7 := { stood := { row := tokenPutsRow, standIns := [], harness := (true, "30318356acc503653e78b96840217e825b0f83678724fae498faf45bde459e6f"), looks := false }, kinds := [], alts := [], laidByText := true, laidKinds := [.data], laidTests := true, laidLooks := .later }
def TokenPutsCardSaid : Prop := Claim7.holds Tryd.pinned (.plain (OpenSpec.ofChange tokenPutsSpec)) tokenPutsCard

/-- THE TIED CARD OF 'kedgelaw15.TokenGets'. -/
def tokenGetsCard : Claim7 := { stood := { row := tokenGetsRow, standIns := [], harness := (true, "30318356acc503653e78b96840217e825b0f83678724fae498faf45bde459e6f"), looks := false }, kinds := [], alts := [], laidByText := true, laidKinds := [.data], laidTests := true, laidLooks := .later }
def TokenGetsCardSaid : Prop := Claim7.holds Tryd.pinned (.plain (OpenSpec.ofChange tokenGetsSpec)) tokenGetsCard

/-- THE TIED CARD OF 'kedgelaw15.TokenBack'. -/
def tokenBackCard : Claim7 := { stood := { row := tokenBackRow, standIns := [], harness := (true, "30318356acc503653e78b96840217e825b0f83678724fae498faf45bde459e6f"), looks := false }, kinds := [], alts := [], laidByText := true, laidKinds := [.data], laidTests := true, laidLooks := .later }
def TokenBackCardSaid : Prop := Claim7.holds Tryd.pinned (.plain (OpenSpec.ofChange tokenBackSpec)) tokenBackCard

/-- THE SECOND FORM's CARD OF 'kedgelaw15.TokenPuts'. -/
def tokenPutsUptoCard : Claim7 := { stood := { row := tokenPutsUptoRow, standIns := [], harness := (true, "30318356acc503653e78b96840217e825b0f83678724fae498faf45bde459e6f"), looks := false }, kinds := [], alts := [], laidByText := true, laidKinds := [.data], laidTests := true, laidLooks := .later }
def TokenPutsUptoCardSaid : Prop := Claim7.holds Tryd.pinned (.plain (OpenSpec.upto tokenPutsSpec)) tokenPutsUptoCard

/-- THE SECOND FORM's CARD OF 'kedgelaw15.TokenGets'. -/
def tokenGetsUptoCard : Claim7 := { stood := { row := tokenGetsUptoRow, standIns := [], harness := (true, "30318356acc503653e78b96840217e825b0f83678724fae498faf45bde459e6f"), looks := false }, kinds := [], alts := [], laidByText := true, laidKinds := [.data], laidTests := true, laidLooks := .later }
def TokenGetsUptoCardSaid : Prop := Claim7.holds Tryd.pinned (.plain (OpenSpec.upto tokenGetsSpec)) tokenGetsUptoCard

/-- THE SECOND FORM's CARD OF 'kedgelaw15.TokenBack'. -/
def tokenBackUptoCard : Claim7 := { stood := { row := tokenBackUptoRow, standIns := [], harness := (true, "30318356acc503653e78b96840217e825b0f83678724fae498faf45bde459e6f"), looks := false }, kinds := [], alts := [], laidByText := true, laidKinds := [.data], laidTests := true, laidLooks := .later }
def TokenBackUptoCardSaid : Prop := Claim7.holds Tryd.pinned (.plain (OpenSpec.upto tokenBackSpec)) tokenBackUptoCard
end Rows
end Go.Proofs.YtabackggnkplhaaDoor
