/-
  DERIVED. GIVEN WITH THE SEED: THE CARDS: each row of YtjgpbahglkaijaaDoorRows.lean that lists a variable, with what it lists TIED to the program's text (the seventh form; the later family's looks); each row that meets fmt, with fmt's text TOLD by the authors' own Lean function (tested against real Go, not proved from fmt's source: count such statements apart). THE CARD IS WHAT COUNTS. Prove the row's statement (the work); the ties are given (YtjgpbahglkaijaaDoorTie.lean); close each card by the builder's one call (the guide's Derived/Test/ToyasCard.lean, 'card_holds'). Laid BY PROGRAM, IN A SANDBOX (cutbox-door.mjs). By AI agents, Wed Nov 11 2026. No macro, syntax, notation, axiom, sorry.
-/
import Derived.Test.YtjgpbahglkaijaaDoorRows
import GoSem.ClaimSeven
namespace Go.Proofs.YtjgpbahglkaijaaDoor
namespace Rows

/-- THE TIED CARD OF 'turnpikelaw18.VerifyImages'. -/
def verifyImagesCard : Claim7 := { stood := { row := verifyImagesRow, standIns := [], harness := (true, "c1750dbf1c559c8136085df07b783c61c6beea4473727ce6f26d457364f21c09"), looks := false }, kinds := [], alts := [], laidByText := true, laidKinds := [.data], laidTests := true, laidLooks := .later }
def VerifyImagesCardSaid : Prop := Claim7.holds Tryd.pinned (.plain (OpenSpec.ofChange verifyImagesSpec)) verifyImagesCard

/-- THE SECOND FORM's CARD OF 'turnpikelaw18.VerifyImages'. -/
def verifyImagesUptoCard : Claim7 := { stood := { row := verifyImagesUptoRow, standIns := [], harness := (true, "c1750dbf1c559c8136085df07b783c61c6beea4473727ce6f26d457364f21c09"), looks := false }, kinds := [], alts := [], laidByText := true, laidKinds := [.data], laidTests := true, laidLooks := .later }
def VerifyImagesUptoCardSaid : Prop := Claim7.holds Tryd.pinned (.plain (OpenSpec.upto verifyImagesSpec)) verifyImagesUptoCard
end Rows
end Go.Proofs.YtjgpbahglkaijaaDoor
