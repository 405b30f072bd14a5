/-
  DERIVED. GIVEN WITH THE SEED: THE CARDS: each row of YtbamogpbjdobkaaDoorRows.lean that lists a variable, with what it lists TIED to the program's text (the seventh form; the later family's looks); each row that meets fmt, with fmt's text TOLD by the authors' own Lean function (tested against real Go, not proved from fmt's source: count such statements apart). THE CARD IS WHAT COUNTS. Prove the row's statement (the work); the ties are given (YtbamogpbjdobkaaDoorTie.lean); close each card by the builder's one call (the guide's Derived/Test/ToyasCard.lean, 'card_holds'). Laid BY PROGRAM, IN A SANDBOX (cutbox-door.mjs). By AI agents, Wed Nov 11 2026. No macro, syntax, notation, axiom, sorry.
-/
import Derived.Test.YtbamogpbjdobkaaDoorRows
import GoSem.ClaimSeven
namespace Go.Proofs.YtbamogpbjdobkaaDoor
namespace Rows

/-- THE TIED CARD OF 'turnpikelaw13.WireRow'. -/
def wireRowCard : Claim7 := { stood := { row := wireRowRow, standIns := [], harness := (true, "cf929782ca047ab79aa70af48cb963123ee6e0db500c7899b6a7272f116a5dbb"), looks := false }, kinds := [], alts := [], laidByText := true, laidKinds := [.data], laidTests := true, laidLooks := .later }
def WireRowCardSaid : Prop := Claim7.holds Tryd.pinned (.plain (OpenSpec.ofChange wireRowSpec)) wireRowCard

/-- THE SECOND FORM's CARD OF 'turnpikelaw13.WireRow'. -/
def wireRowUptoCard : Claim7 := { stood := { row := wireRowUptoRow, standIns := [], harness := (true, "cf929782ca047ab79aa70af48cb963123ee6e0db500c7899b6a7272f116a5dbb"), looks := false }, kinds := [], alts := [], laidByText := true, laidKinds := [.data], laidTests := true, laidLooks := .later }
def WireRowUptoCardSaid : Prop := Claim7.holds Tryd.pinned (.plain (OpenSpec.upto wireRowSpec)) wireRowUptoCard
end Rows
end Go.Proofs.YtbamogpbjdobkaaDoor
