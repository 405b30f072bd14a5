/-
  DERIVED. GIVEN WITH THE SEED: THE CARDS: each row of YtgbhbooogofmbabDoorRows.lean that lists a variable, with what it lists TIED to the program's text (the seventh form; the later family's looks); each row that meets fmt, with fmt's text TOLD by the authors' own Lean function (tested against real Go, not proved from fmt's source: count such statements apart). THE CARD IS WHAT COUNTS. Prove the row's statement (the work); the ties are given (YtgbhbooogofmbabDoorTie.lean); close each card by the builder's one call (the guide's Derived/Test/ToyasCard.lean, 'card_holds'). Laid BY PROGRAM, IN A SANDBOX (cutbox-door.mjs). By AI agents, Wed Nov 11 2026. No macro, syntax, notation, axiom, sorry.
-/
import Derived.Test.YtgbhbooogofmbabDoorRows
import GoSem.ClaimSeven
namespace Go.Proofs.YtgbhbooogofmbabDoor
namespace Rows

/-- THE TIED CARD OF 'turnpikelaw17.ImageOwn'. -/
def imageOwnCard : Claim7 := { stood := { row := imageOwnRow, standIns := [], harness := (true, "1b16362351f339c82878ade1384616ecaa7c4abce3cf87ea742275a09c6c7a18"), looks := false }, kinds := [], alts := [], laidByText := true, laidKinds := [.data], laidTests := true, laidLooks := .later }
def ImageOwnCardSaid : Prop := Claim7.holds Tryd.pinned (.plain (OpenSpec.ofChange imageOwnSpec)) imageOwnCard

/-- THE SECOND FORM's CARD OF 'turnpikelaw17.ImageOwn'. -/
def imageOwnUptoCard : Claim7 := { stood := { row := imageOwnUptoRow, standIns := [], harness := (true, "1b16362351f339c82878ade1384616ecaa7c4abce3cf87ea742275a09c6c7a18"), looks := false }, kinds := [], alts := [], laidByText := true, laidKinds := [.data], laidTests := true, laidLooks := .later }
def ImageOwnUptoCardSaid : Prop := Claim7.holds Tryd.pinned (.plain (OpenSpec.upto imageOwnSpec)) imageOwnUptoCard
end Rows
end Go.Proofs.YtgbhbooogofmbabDoor
