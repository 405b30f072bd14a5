/-
  DERIVED. GIVEN WITH THE SEED: THE CARDS: each row of YtddjeplceioenaaDoorRows.lean that lists a variable, with what it lists TIED to the program's text (the seventh form; the later family's looks); each row that meets fmt, with fmt's text TOLD by the authors' own Lean function (tested against real Go, not proved from fmt's source: count such statements apart). THE CARD IS WHAT COUNTS. Prove the row's statement (the work); the ties are given (YtddjeplceioenaaDoorTie.lean); close each card by the builder's one call (the guide's Derived/Test/ToyasCard.lean, 'card_holds'). Laid BY PROGRAM, IN A SANDBOX (cutbox-door.mjs). By AI agents, Wed Nov 11 2026. No macro, syntax, notation, axiom, sorry.
-/
import Derived.Test.YtddjeplceioenaaDoorRows
import GoSem.ClaimSeven
namespace Go.Proofs.YtddjeplceioenaaDoor
namespace Rows

/-- THE TIED CARD OF 'turnpikelaw6.AlgebraTables'. -/
def algebraTablesCard : Claim7 := { stood := { row := algebraTablesRow, standIns := [], harness := (true, "5fa4778deb272b2bd49cceb461e72b0a644966f7c4166e36b91386cfc292447b"), looks := false }, kinds := [], alts := [], laidByText := true, laidKinds := [.data], laidTests := true, laidLooks := .later }
def AlgebraTablesCardSaid : Prop := Claim7.holds Tryd.pinned (.plain (OpenSpec.ofChange algebraTablesSpec)) algebraTablesCard

/-- THE TIED CARD OF 'turnpikelaw6.AlgebraSays'. -/
def algebraSaysCard : Claim7 := { stood := { row := algebraSaysRow, standIns := [], harness := (true, "5fa4778deb272b2bd49cceb461e72b0a644966f7c4166e36b91386cfc292447b"), looks := false }, kinds := [], alts := [], laidByText := true, laidKinds := [.data], laidTests := true, laidLooks := .later }
def AlgebraSaysCardSaid : Prop := Claim7.holds Tryd.pinned (.plain (OpenSpec.ofChange algebraSaysSpec)) algebraSaysCard

/-- THE TIED CARD OF 'turnpikelaw6.AlgebraApart'. -/
def algebraApartCard : Claim7 := { stood := { row := algebraApartRow, standIns := [], harness := (true, "5fa4778deb272b2bd49cceb461e72b0a644966f7c4166e36b91386cfc292447b"), looks := false }, kinds := [], alts := [], laidByText := true, laidKinds := [.data], laidTests := true, laidLooks := .later }
def AlgebraApartCardSaid : Prop := Claim7.holds Tryd.pinned (.plain (OpenSpec.ofChange algebraApartSpec)) algebraApartCard

/-- THE SECOND FORM's CARD OF 'turnpikelaw6.AlgebraTables'. -/
def algebraTablesUptoCard : Claim7 := { stood := { row := algebraTablesUptoRow, standIns := [], harness := (true, "5fa4778deb272b2bd49cceb461e72b0a644966f7c4166e36b91386cfc292447b"), looks := false }, kinds := [], alts := [], laidByText := true, laidKinds := [.data], laidTests := true, laidLooks := .later }
def AlgebraTablesUptoCardSaid : Prop := Claim7.holds Tryd.pinned (.plain (OpenSpec.upto algebraTablesSpec)) algebraTablesUptoCard

/-- THE SECOND FORM's CARD OF 'turnpikelaw6.AlgebraSays'. -/
def algebraSaysUptoCard : Claim7 := { stood := { row := algebraSaysUptoRow, standIns := [], harness := (true, "5fa4778deb272b2bd49cceb461e72b0a644966f7c4166e36b91386cfc292447b"), looks := false }, kinds := [], alts := [], laidByText := true, laidKinds := [.data], laidTests := true, laidLooks := .later }
def AlgebraSaysUptoCardSaid : Prop := Claim7.holds Tryd.pinned (.plain (OpenSpec.upto algebraSaysSpec)) algebraSaysUptoCard

/-- THE SECOND FORM's CARD OF 'turnpikelaw6.AlgebraApart'. -/
def algebraApartUptoCard : Claim7 := { stood := { row := algebraApartUptoRow, standIns := [], harness := (true, "5fa4778deb272b2bd49cceb461e72b0a644966f7c4166e36b91386cfc292447b"), looks := false }, kinds := [], alts := [], laidByText := true, laidKinds := [.data], laidTests := true, laidLooks := .later }
def AlgebraApartUptoCardSaid : Prop := Claim7.holds Tryd.pinned (.plain (OpenSpec.upto algebraApartSpec)) algebraApartUptoCard
end Rows
end Go.Proofs.YtddjeplceioenaaDoor
