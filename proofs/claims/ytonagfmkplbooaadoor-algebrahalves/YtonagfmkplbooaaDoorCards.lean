/-
  DERIVED. GIVEN WITH THE SEED: THE CARDS: each row of YtonagfmkplbooaaDoorRows.lean that lists a variable, with what it lists TIED to the program's text (the seventh form; the later family's looks); each row that meets fmt, with fmt's text TOLD by the authors' own Lean function (tested against real Go, not proved from fmt's source: count such statements apart). THE CARD IS WHAT COUNTS. Prove the row's statement (the work); the ties are given (YtonagfmkplbooaaDoorTie.lean); close each card by the builder's one call (the guide's Derived/Test/ToyasCard.lean, 'card_holds'). Laid BY PROGRAM, IN A SANDBOX (cutbox-door.mjs). By AI agents, Wed Nov 11 2026. No macro, syntax, notation, axiom, sorry.
-/
import Derived.Test.YtonagfmkplbooaaDoorRows
import GoSem.ClaimSeven
namespace Go.Proofs.YtonagfmkplbooaaDoor
namespace Rows

/-- THE TIED CARD OF 'turnpikelaw6.AlgebraPoints'. -/
def algebraPointsCard : Claim7 := { stood := { row := algebraPointsRow, standIns := [], harness := (true, "1988345490579367c67a8dd87bd94c323f4b2d8031816864424da4a0c4c2db3e"), looks := false }, kinds := [], alts := [], laidByText := true, laidKinds := [.data], laidTests := true, laidLooks := .later }
def AlgebraPointsCardSaid : Prop := Claim7.holds Tryd.pinned (.plain (OpenSpec.ofChange algebraPointsSpec)) algebraPointsCard

/-- THE TIED CARD OF 'turnpikelaw6.AlgebraLaws'. -/
def algebraLawsCard : Claim7 := { stood := { row := algebraLawsRow, standIns := [], harness := (true, "1988345490579367c67a8dd87bd94c323f4b2d8031816864424da4a0c4c2db3e"), looks := false }, kinds := [], alts := [], laidByText := true, laidKinds := [.data], laidTests := true, laidLooks := .later }
def AlgebraLawsCardSaid : Prop := Claim7.holds Tryd.pinned (.plain (OpenSpec.ofChange algebraLawsSpec)) algebraLawsCard

/-- THE TIED CARD OF 'turnpikelaw6.AlgebraHalves'. -/
def algebraHalvesCard : Claim7 := { stood := { row := algebraHalvesRow, standIns := [], harness := (true, "1988345490579367c67a8dd87bd94c323f4b2d8031816864424da4a0c4c2db3e"), looks := false }, kinds := [], alts := [], laidByText := true, laidKinds := [.data], laidTests := true, laidLooks := .later }
def AlgebraHalvesCardSaid : Prop := Claim7.holds Tryd.pinned (.plain (OpenSpec.ofChange algebraHalvesSpec)) algebraHalvesCard

/-- THE SECOND FORM's CARD OF 'turnpikelaw6.AlgebraPoints'. -/
def algebraPointsUptoCard : Claim7 := { stood := { row := algebraPointsUptoRow, standIns := [], harness := (true, "1988345490579367c67a8dd87bd94c323f4b2d8031816864424da4a0c4c2db3e"), looks := false }, kinds := [], alts := [], laidByText := true, laidKinds := [.data], laidTests := true, laidLooks := .later }
def AlgebraPointsUptoCardSaid : Prop := Claim7.holds Tryd.pinned (.plain (OpenSpec.upto algebraPointsSpec)) algebraPointsUptoCard

/-- THE SECOND FORM's CARD OF 'turnpikelaw6.AlgebraLaws'. -/
def algebraLawsUptoCard : Claim7 := { stood := { row := algebraLawsUptoRow, standIns := [], harness := (true, "1988345490579367c67a8dd87bd94c323f4b2d8031816864424da4a0c4c2db3e"), looks := false }, kinds := [], alts := [], laidByText := true, laidKinds := [.data], laidTests := true, laidLooks := .later }
def AlgebraLawsUptoCardSaid : Prop := Claim7.holds Tryd.pinned (.plain (OpenSpec.upto algebraLawsSpec)) algebraLawsUptoCard

/-- THE SECOND FORM's CARD OF 'turnpikelaw6.AlgebraHalves'. -/
def algebraHalvesUptoCard : Claim7 := { stood := { row := algebraHalvesUptoRow, standIns := [], harness := (true, "1988345490579367c67a8dd87bd94c323f4b2d8031816864424da4a0c4c2db3e"), looks := false }, kinds := [], alts := [], laidByText := true, laidKinds := [.data], laidTests := true, laidLooks := .later }
def AlgebraHalvesUptoCardSaid : Prop := Claim7.holds Tryd.pinned (.plain (OpenSpec.upto algebraHalvesSpec)) algebraHalvesUptoCard
end Rows
end Go.Proofs.YtonagfmkplbooaaDoor
