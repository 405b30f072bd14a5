/-
  DERIVED. GIVEN WITH THE SEED: THE CARDS: each row of YtkgfeegcdohkdabDoorRows.lean that lists a variable, with what it lists TIED to the program's text (the seventh form; the later family's looks); each row that meets fmt, with fmt's text TOLD by the authors' own Lean function (tested against real Go, not proved from fmt's source: count such statements apart). THE CARD IS WHAT COUNTS. Prove the row's statement (the work); the ties are given (YtkgfeegcdohkdabDoorTie.lean); close each card by the builder's one call (the guide's Derived/Test/ToyasCard.lean, 'card_holds'). Laid BY PROGRAM, IN A SANDBOX (cutbox-door.mjs). By AI agents, Wed Nov 11 2026. No macro, syntax, notation, axiom, sorry.
-/
import Derived.Test.YtkgfeegcdohkdabDoorRows
import GoSem.ClaimSeven
namespace Go.Proofs.YtkgfeegcdohkdabDoor
namespace Rows

/-- THE TIED CARD OF 'turnpikelaw4.RangeWhole'. -/
def rangeWholeCard : Claim7 := { stood := { row := rangeWholeRow, standIns := [], harness := (true, "a5b7770e1fbb89fe87b3d917e1614c8c1493c149f1d9da5da6dcca6d605b9bf3"), looks := false }, kinds := [], alts := [], laidByText := true, laidKinds := [.data], laidTests := true, laidLooks := .later }
def RangeWholeCardSaid : Prop := Claim7.holds Tryd.pinned (.plain (OpenSpec.ofChange rangeWholeSpec)) rangeWholeCard

/-- THE TIED CARD OF 'turnpikelaw4.RangeOwn'. -/
def rangeOwnCard : Claim7 := { stood := { row := rangeOwnRow, standIns := [], harness := (true, "a5b7770e1fbb89fe87b3d917e1614c8c1493c149f1d9da5da6dcca6d605b9bf3"), looks := false }, kinds := [], alts := [], laidByText := true, laidKinds := [.data], laidTests := true, laidLooks := .later }
def RangeOwnCardSaid : Prop := Claim7.holds Tryd.pinned (.plain (OpenSpec.ofChange rangeOwnSpec)) rangeOwnCard

/-- THE SECOND FORM's CARD OF 'turnpikelaw4.RangeWhole'. -/
def rangeWholeUptoCard : Claim7 := { stood := { row := rangeWholeUptoRow, standIns := [], harness := (true, "a5b7770e1fbb89fe87b3d917e1614c8c1493c149f1d9da5da6dcca6d605b9bf3"), looks := false }, kinds := [], alts := [], laidByText := true, laidKinds := [.data], laidTests := true, laidLooks := .later }
def RangeWholeUptoCardSaid : Prop := Claim7.holds Tryd.pinned (.plain (OpenSpec.upto rangeWholeSpec)) rangeWholeUptoCard

/-- THE SECOND FORM's CARD OF 'turnpikelaw4.RangeOwn'. -/
def rangeOwnUptoCard : Claim7 := { stood := { row := rangeOwnUptoRow, standIns := [], harness := (true, "a5b7770e1fbb89fe87b3d917e1614c8c1493c149f1d9da5da6dcca6d605b9bf3"), looks := false }, kinds := [], alts := [], laidByText := true, laidKinds := [.data], laidTests := true, laidLooks := .later }
def RangeOwnUptoCardSaid : Prop := Claim7.holds Tryd.pinned (.plain (OpenSpec.upto rangeOwnSpec)) rangeOwnUptoCard
end Rows
end Go.Proofs.YtkgfeegcdohkdabDoor
