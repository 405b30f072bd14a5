/-
  DERIVED. GIVEN WITH THE SEED: THE CARDS: each row of YtmkjlcfoedglmabDoorRows.lean that lists a variable, with what it lists TIED to the program's text (the seventh form; the later family's looks); each row that meets fmt, with fmt's text TOLD by the authors' own Lean function (tested against real Go, not proved from fmt's source: count such statements apart). THE CARD IS WHAT COUNTS. Prove the row's statement (the work); the ties are given (YtmkjlcfoedglmabDoorTie.lean); close each card by the builder's one call (the guide's Derived/Test/ToyasCard.lean, 'card_holds'). Laid BY PROGRAM, IN A SANDBOX (cutbox-door.mjs). By AI agents, Wed Nov 11 2026. No macro, syntax, notation, axiom, sorry.
-/
import Derived.Test.YtmkjlcfoedglmabDoorRows
import GoSem.ClaimSeven
namespace Go.Proofs.YtmkjlcfoedglmabDoor
namespace Rows

/-- THE TIED CARD OF 'turnpikelaw6.AlgebraLaws'. -/
def algebraLawsCard : Claim7 := { stood := { row := algebraLawsRow, standIns := [], harness := (true, "a90635fd5d044d3c350f0daae6a1aee6b5a78f0e9d69fda7d05021734006b746"), looks := false }, kinds := [], alts := [], laidByText := true, laidKinds := [.data], laidTests := true, laidLooks := .later }
def AlgebraLawsCardSaid : Prop := Claim7.holds Tryd.pinned (.plain (OpenSpec.ofChange algebraLawsSpec)) algebraLawsCard

/-- THE TIED CARD OF 'turnpikelaw6.AlgebraHalves'. -/
def algebraHalvesCard : Claim7 := { stood := { row := algebraHalvesRow, standIns := [], harness := (true, "a90635fd5d044d3c350f0daae6a1aee6b5a78f0e9d69fda7d05021734006b746"), looks := false }, kinds := [], alts := [], laidByText := true, laidKinds := [.data], laidTests := true, laidLooks := .later }
def AlgebraHalvesCardSaid : Prop := Claim7.holds Tryd.pinned (.plain (OpenSpec.ofChange algebraHalvesSpec)) algebraHalvesCard

/-- THE TIED CARD OF 'turnpikelaw6.AlgebraOwn'. -/
def algebraOwnCard : Claim7 := { stood := { row := algebraOwnRow, standIns := [], harness := (true, "a90635fd5d044d3c350f0daae6a1aee6b5a78f0e9d69fda7d05021734006b746"), looks := false }, kinds := [], alts := [], laidByText := true, laidKinds := [.data], laidTests := true, laidLooks := .later }
def AlgebraOwnCardSaid : Prop := Claim7.holds Tryd.pinned (.plain (OpenSpec.ofChange algebraOwnSpec)) algebraOwnCard

/-- THE SECOND FORM's CARD OF 'turnpikelaw6.AlgebraLaws'. -/
def algebraLawsUptoCard : Claim7 := { stood := { row := algebraLawsUptoRow, standIns := [], harness := (true, "a90635fd5d044d3c350f0daae6a1aee6b5a78f0e9d69fda7d05021734006b746"), looks := false }, kinds := [], alts := [], laidByText := true, laidKinds := [.data], laidTests := true, laidLooks := .later }
def AlgebraLawsUptoCardSaid : Prop := Claim7.holds Tryd.pinned (.plain (OpenSpec.upto algebraLawsSpec)) algebraLawsUptoCard

/-- THE SECOND FORM's CARD OF 'turnpikelaw6.AlgebraHalves'. -/
def algebraHalvesUptoCard : Claim7 := { stood := { row := algebraHalvesUptoRow, standIns := [], harness := (true, "a90635fd5d044d3c350f0daae6a1aee6b5a78f0e9d69fda7d05021734006b746"), looks := false }, kinds := [], alts := [], laidByText := true, laidKinds := [.data], laidTests := true, laidLooks := .later }
def AlgebraHalvesUptoCardSaid : Prop := Claim7.holds Tryd.pinned (.plain (OpenSpec.upto algebraHalvesSpec)) algebraHalvesUptoCard

/-- THE SECOND FORM's CARD OF 'turnpikelaw6.AlgebraOwn'. -/
def algebraOwnUptoCard : Claim7 := { stood := { row := algebraOwnUptoRow, standIns := [], harness := (true, "a90635fd5d044d3c350f0daae6a1aee6b5a78f0e9d69fda7d05021734006b746"), looks := false }, kinds := [], alts := [], laidByText := true, laidKinds := [.data], laidTests := true, laidLooks := .later }
def AlgebraOwnUptoCardSaid : Prop := Claim7.holds Tryd.pinned (.plain (OpenSpec.upto algebraOwnSpec)) algebraOwnUptoCard
end Rows
end Go.Proofs.YtmkjlcfoedglmabDoor
