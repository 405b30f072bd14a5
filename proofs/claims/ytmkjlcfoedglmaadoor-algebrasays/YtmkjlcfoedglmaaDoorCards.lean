/-
  DERIVED. GIVEN WITH THE SEED: THE CARDS: each row of YtmkjlcfoedglmaaDoorRows.lean that lists a variable, with what it lists TIED to the program's text (the seventh form; the later family's looks); each row that meets fmt, with fmt's text TOLD by the authors' own Lean function (tested against real Go, not proved from fmt's source: count such statements apart). THE CARD IS WHAT COUNTS. Prove the row's statement (the work); the ties are given (YtmkjlcfoedglmaaDoorTie.lean); close each card by the builder's one call (the guide's Derived/Test/ToyasCard.lean, 'card_holds'). Laid BY PROGRAM, IN A SANDBOX (cutbox-door.mjs). By AI agents, Wed Nov 11 2026. No macro, syntax, notation, axiom, sorry.
-/
import Derived.Test.YtmkjlcfoedglmaaDoorRows
import GoSem.ClaimSeven
namespace Go.Proofs.YtmkjlcfoedglmaaDoor
namespace Rows

/-- THE TIED CARD OF 'turnpikelaw6.AlgebraSays'. -/
def algebraSaysCard : Claim7 := { stood := { row := algebraSaysRow, standIns := [], harness := (true, "3cc1408b7b24e792c8c42100e3415a8c442fb8fc36c354a4724a2c63cc3019f6"), looks := false }, kinds := [], alts := [], laidByText := true, laidKinds := [.data], laidTests := true, laidLooks := .later }
def AlgebraSaysCardSaid : Prop := Claim7.holds Tryd.pinned (.plain (OpenSpec.ofChange algebraSaysSpec)) algebraSaysCard

/-- THE TIED CARD OF 'turnpikelaw6.AlgebraApart'. -/
def algebraApartCard : Claim7 := { stood := { row := algebraApartRow, standIns := [], harness := (true, "3cc1408b7b24e792c8c42100e3415a8c442fb8fc36c354a4724a2c63cc3019f6"), looks := false }, kinds := [], alts := [], laidByText := true, laidKinds := [.data], laidTests := true, laidLooks := .later }
def AlgebraApartCardSaid : Prop := Claim7.holds Tryd.pinned (.plain (OpenSpec.ofChange algebraApartSpec)) algebraApartCard

/-- THE TIED CARD OF 'turnpikelaw6.AlgebraPoints'. -/
def algebraPointsCard : Claim7 := { stood := { row := algebraPointsRow, standIns := [], harness := (true, "3cc1408b7b24e792c8c42100e3415a8c442fb8fc36c354a4724a2c63cc3019f6"), looks := false }, kinds := [], alts := [], laidByText := true, laidKinds := [.data], laidTests := true, laidLooks := .later }
def AlgebraPointsCardSaid : Prop := Claim7.holds Tryd.pinned (.plain (OpenSpec.ofChange algebraPointsSpec)) algebraPointsCard

/-- THE SECOND FORM's CARD OF 'turnpikelaw6.AlgebraSays'. -/
def algebraSaysUptoCard : Claim7 := { stood := { row := algebraSaysUptoRow, standIns := [], harness := (true, "3cc1408b7b24e792c8c42100e3415a8c442fb8fc36c354a4724a2c63cc3019f6"), looks := false }, kinds := [], alts := [], laidByText := true, laidKinds := [.data], laidTests := true, laidLooks := .later }
def AlgebraSaysUptoCardSaid : Prop := Claim7.holds Tryd.pinned (.plain (OpenSpec.upto algebraSaysSpec)) algebraSaysUptoCard

/-- THE SECOND FORM's CARD OF 'turnpikelaw6.AlgebraApart'. -/
def algebraApartUptoCard : Claim7 := { stood := { row := algebraApartUptoRow, standIns := [], harness := (true, "3cc1408b7b24e792c8c42100e3415a8c442fb8fc36c354a4724a2c63cc3019f6"), looks := false }, kinds := [], alts := [], laidByText := true, laidKinds := [.data], laidTests := true, laidLooks := .later }
def AlgebraApartUptoCardSaid : Prop := Claim7.holds Tryd.pinned (.plain (OpenSpec.upto algebraApartSpec)) algebraApartUptoCard

/-- THE SECOND FORM's CARD OF 'turnpikelaw6.AlgebraPoints'. -/
def algebraPointsUptoCard : Claim7 := { stood := { row := algebraPointsUptoRow, standIns := [], harness := (true, "3cc1408b7b24e792c8c42100e3415a8c442fb8fc36c354a4724a2c63cc3019f6"), looks := false }, kinds := [], alts := [], laidByText := true, laidKinds := [.data], laidTests := true, laidLooks := .later }
def AlgebraPointsUptoCardSaid : Prop := Claim7.holds Tryd.pinned (.plain (OpenSpec.upto algebraPointsSpec)) algebraPointsUptoCard
end Rows
end Go.Proofs.YtmkjlcfoedglmaaDoor
