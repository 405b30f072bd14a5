/-
  DERIVED. GIVEN WITH THE SEED: THE CARDS: each row of YtddjeplceioenabDoorRows.lean that lists a variable, with what it lists TIED to the program's text (the seventh form; the later family's looks); each row that meets fmt, with fmt's text TOLD by the authors' own Lean function (tested against real Go, not proved from fmt's source: count such statements apart). THE CARD IS WHAT COUNTS. Prove the row's statement (the work); the ties are given (YtddjeplceioenabDoorTie.lean); close each card by the builder's one call (the guide's Derived/Test/ToyasCard.lean, 'card_holds'). Laid BY PROGRAM, IN A SANDBOX (cutbox-door.mjs). By AI agents, Wed Nov 11 2026. No macro, syntax, notation, axiom, sorry.
-/
import Derived.Test.YtddjeplceioenabDoorRows
import GoSem.ClaimSeven
namespace Go.Proofs.YtddjeplceioenabDoor
namespace Rows

/-- THE TIED CARD OF 'turnpikelaw6.AlgebraPoints'. -/
def algebraPointsCard : Claim7 := { stood := { row := algebraPointsRow, standIns := [], harness := (true, "651f3cb7745e396512ed5c7a29b7ab23b6b84af3d215fdfa458de463fb75bc51"), looks := false }, kinds := [], alts := [], laidByText := true, laidKinds := [.data], laidTests := true, laidLooks := .later }
def AlgebraPointsCardSaid : Prop := Claim7.holds Tryd.pinned (.plain (OpenSpec.ofChange algebraPointsSpec)) algebraPointsCard

/-- THE TIED CARD OF 'turnpikelaw6.AlgebraLaws'. -/
def algebraLawsCard : Claim7 := { stood := { row := algebraLawsRow, standIns := [], harness := (true, "651f3cb7745e396512ed5c7a29b7ab23b6b84af3d215fdfa458de463fb75bc51"), looks := false }, kinds := [], alts := [], laidByText := true, laidKinds := [.data], laidTests := true, laidLooks := .later }
def AlgebraLawsCardSaid : Prop := Claim7.holds Tryd.pinned (.plain (OpenSpec.ofChange algebraLawsSpec)) algebraLawsCard

/-- THE TIED CARD OF 'turnpikelaw6.AlgebraHalves'. -/
def algebraHalvesCard : Claim7 := { stood := { row := algebraHalvesRow, standIns := [], harness := (true, "651f3cb7745e396512ed5c7a29b7ab23b6b84af3d215fdfa458de463fb75bc51"), looks := false }, kinds := [], alts := [], laidByText := true, laidKinds := [.data], laidTests := true, laidLooks := .later }
def AlgebraHalvesCardSaid : Prop := Claim7.holds Tryd.pinned (.plain (OpenSpec.ofChange algebraHalvesSpec)) algebraHalvesCard

/-- THE TIED CARD OF 'turnpikelaw6.AlgebraOwn'. -/
def algebraOwnCard : Claim7 := { stood := { row := algebraOwnRow, standIns := [], harness := (true, "651f3cb7745e396512ed5c7a29b7ab23b6b84af3d215fdfa458de463fb75bc51"), looks := false }, kinds := [], alts := [], laidByText := true, laidKinds := [.data], laidTests := true, laidLooks := .later }
def AlgebraOwnCardSaid : Prop := Claim7.holds Tryd.pinned (.plain (OpenSpec.ofChange algebraOwnSpec)) algebraOwnCard

/-- THE SECOND FORM's CARD OF 'turnpikelaw6.AlgebraPoints'. -/
def algebraPointsUptoCard : Claim7 := { stood := { row := algebraPointsUptoRow, standIns := [], harness := (true, "651f3cb7745e396512ed5c7a29b7ab23b6b84af3d215fdfa458de463fb75bc51"), looks := false }, kinds := [], alts := [], laidByText := true, laidKinds := [.data], laidTests := true, laidLooks := .later }
def AlgebraPointsUptoCardSaid : Prop := Claim7.holds Tryd.pinned (.plain (OpenSpec.upto algebraPointsSpec)) algebraPointsUptoCard

/-- THE SECOND FORM's CARD OF 'turnpikelaw6.AlgebraLaws'. -/
def algebraLawsUptoCard : Claim7 := { stood := { row := algebraLawsUptoRow, standIns := [], harness := (true, "651f3cb7745e396512ed5c7a29b7ab23b6b84af3d215fdfa458de463fb75bc51"), looks := false }, kinds := [], alts := [], laidByText := true, laidKinds := [.data], laidTests := true, laidLooks := .later }
def AlgebraLawsUptoCardSaid : Prop := Claim7.holds Tryd.pinned (.plain (OpenSpec.upto algebraLawsSpec)) algebraLawsUptoCard

/-- THE SECOND FORM's CARD OF 'turnpikelaw6.AlgebraHalves'. -/
def algebraHalvesUptoCard : Claim7 := { stood := { row := algebraHalvesUptoRow, standIns := [], harness := (true, "651f3cb7745e396512ed5c7a29b7ab23b6b84af3d215fdfa458de463fb75bc51"), looks := false }, kinds := [], alts := [], laidByText := true, laidKinds := [.data], laidTests := true, laidLooks := .later }
def AlgebraHalvesUptoCardSaid : Prop := Claim7.holds Tryd.pinned (.plain (OpenSpec.upto algebraHalvesSpec)) algebraHalvesUptoCard

/-- THE SECOND FORM's CARD OF 'turnpikelaw6.AlgebraOwn'. -/
def algebraOwnUptoCard : Claim7 := { stood := { row := algebraOwnUptoRow, standIns := [], harness := (true, "651f3cb7745e396512ed5c7a29b7ab23b6b84af3d215fdfa458de463fb75bc51"), looks := false }, kinds := [], alts := [], laidByText := true, laidKinds := [.data], laidTests := true, laidLooks := .later }
def AlgebraOwnUptoCardSaid : Prop := Claim7.holds Tryd.pinned (.plain (OpenSpec.upto algebraOwnSpec)) algebraOwnUptoCard
end Rows
end Go.Proofs.YtddjeplceioenabDoor
