/-
  DERIVED. GIVEN WITH THE SEED: THE CARDS: each row of YtonagfmkplbooaaGreatDoorRows.lean that lists a variable, with what it lists TIED to the program's text (the seventh form; the later family's looks); each row that meets fmt, with fmt's text TOLD by the authors' own Lean function (tested against real Go, not proved from fmt's source: count such statements apart). THE CARD IS WHAT COUNTS. Prove the row's statement (the work); the ties are given (YtonagfmkplbooaaGreatDoorTie.lean); close each card by the builder's one call (the guide's Derived/Test/ToyasCard.lean, 'card_holds'). Laid BY PROGRAM, IN A SANDBOX (cutbox-door.mjs). By AI agents, Wed Nov 11 2026. No macro, syntax, notation, axiom, sorry.
-/
import Derived.Test.YtonagfmkplbooaaGreatDoorRows
import GoSem.ClaimSeven
namespace Go.Proofs.YtonagfmkplbooaaGreatDoor
namespace Rows

/-- THE TIED CARD OF 'turnpikelaw6.AlgebraMixes'. -/
def algebraMixesCard : Claim7 := { stood := { row := algebraMixesRow, standIns := [], harness := (true, "6a4d75e5f16975aaa4a0c4ecaea2f50aae6aee798f3c520bf36533578f5a3ce5"), looks := false }, kinds := [], alts := [], laidByText := true, laidKinds := [.data], laidTests := true, laidLooks := .later }
def AlgebraMixesCardSaid : Prop := Claim7.holds Tryz.pinned (.plain (OpenSpec.ofChange algebraMixesSpec)) algebraMixesCard

/-- THE SECOND FORM's CARD OF 'turnpikelaw6.AlgebraMixes'. -/
def algebraMixesUptoCard : Claim7 := { stood := { row := algebraMixesUptoRow, standIns := [], harness := (true, "6a4d75e5f16975aaa4a0c4ecaea2f50aae6aee798f3c520bf36533578f5a3ce5"), looks := false }, kinds := [], alts := [], laidByText := true, laidKinds := [.data], laidTests := true, laidLooks := .later }
def AlgebraMixesUptoCardSaid : Prop := Claim7.holds Tryz.pinned (.plain (OpenSpec.upto algebraMixesSpec)) algebraMixesUptoCard
end Rows
end Go.Proofs.YtonagfmkplbooaaGreatDoor
