/-
  DERIVED. GIVEN WITH THE SEED: THE CARDS: each row of YtiachojhnbicaabDoorRows.lean that lists a variable, with what it lists TIED to the program's text (the seventh form; the later family's looks); each row that meets fmt, with fmt's text TOLD by the authors' own Lean function (tested against real Go, not proved from fmt's source: count such statements apart). THE CARD IS WHAT COUNTS. Prove the row's statement (the work); the ties are given (YtiachojhnbicaabDoorTie.lean); close each card by the builder's one call (the guide's Derived/Test/ToyasCard.lean, 'card_holds'). Laid BY PROGRAM, IN A SANDBOX (cutbox-door.mjs). By AI agents, Wed Nov 11 2026. No macro, syntax, notation, axiom, sorry.
-/
import Derived.Test.YtiachojhnbicaabDoorRows
import GoSem.ClaimSeven
namespace Go.Proofs.YtiachojhnbicaabDoor
namespace Rows

/-- THE TIED CARD OF 'turnpikelaw21.DeltaTurned'. -/
def deltaTurnedCard : Claim7 := { stood := { row := deltaTurnedRow, standIns := [], harness := (true, "5608158141af3828d9b9df7799b165020269ef003a08a13b777f07cdcff6c86e"), looks := true }, kinds := [], alts := [], laidByText := true, laidKinds := [.data], laidTests := true, laidLooks := .later }
def DeltaTurnedCardSaid : Prop := Claim7.holds Tryd.pinned (.plain (OpenSpec.ofChange deltaTurnedSpec)) deltaTurnedCard

/-- THE SECOND FORM's CARD OF 'turnpikelaw21.DeltaTurned'. -/
def deltaTurnedUptoCard : Claim7 := { stood := { row := deltaTurnedUptoRow, standIns := [], harness := (true, "5608158141af3828d9b9df7799b165020269ef003a08a13b777f07cdcff6c86e"), looks := true }, kinds := [], alts := [], laidByText := true, laidKinds := [.data], laidTests := true, laidLooks := .later }
def DeltaTurnedUptoCardSaid : Prop := Claim7.holds Tryd.pinned (.plain (OpenSpec.upto deltaTurnedSpec)) deltaTurnedUptoCard
end Rows
end Go.Proofs.YtiachojhnbicaabDoor
