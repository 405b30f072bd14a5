/-
  DERIVED. GIVEN WITH THE SEED: THE CARDS: each row of YthbdmdafldombabDoorRows.lean that lists a variable, with what it lists TIED to the program's text (the seventh form; the later family's looks); each row that meets fmt, with fmt's text TOLD by the authors' own Lean function (tested against real Go, not proved from fmt's source: count such statements apart). THE CARD IS WHAT COUNTS. Prove the row's statement (the work); the ties are given (YthbdmdafldombabDoorTie.lean); close each card by the builder's one call (the guide's Derived/Test/ToyasCard.lean, 'card_holds'). Laid BY PROGRAM, IN A SANDBOX (cutbox-door.mjs). By AI agents, Wed Nov 11 2026. No macro, syntax, notation, axiom, sorry.
-/
import Derived.Test.YthbdmdafldombabDoorRows
import GoSem.ClaimSeven
namespace Go.Proofs.YthbdmdafldombabDoor
namespace Rows

/-- THE TIED CARD OF 'turnpikelaw13.WireTurn'. -/
def wireTurnCard : Claim7 := { stood := { row := wireTurnRow, standIns := [], harness := (true, "4e875982243622f5c49127bb6a72883a1fb0ac8fdc3b3c944b6f7e399392845e"), looks := false }, kinds := [], alts := [], laidByText := true, laidKinds := [.data], laidTests := true, laidLooks := .later }
def WireTurnCardSaid : Prop := Claim7.holds Tryd.pinned (.plain (OpenSpec.ofChange wireTurnSpec)) wireTurnCard

/-- THE TIED CARD OF 'turnpikelaw13.WireBack'. -/
def wireBackCard : Claim7 := { stood := { row := wireBackRow, standIns := [], harness := (true, "4e875982243622f5c49127bb6a72883a1fb0ac8fdc3b3c944b6f7e399392845e"), looks := false }, kinds := [], alts := [], laidByText := true, laidKinds := [.data], laidTests := true, laidLooks := .later }
def WireBackCardSaid : Prop := Claim7.holds Tryd.pinned (.plain (OpenSpec.ofChange wireBackSpec)) wireBackCard

/-- THE TIED CARD OF 'turnpikelaw13.WireSelects'. -/
def wireSelectsCard : Claim7 := { stood := { row := wireSelectsRow, standIns := [], harness := (true, "4e875982243622f5c49127bb6a72883a1fb0ac8fdc3b3c944b6f7e399392845e"), looks := false }, kinds := [], alts := [], laidByText := true, laidKinds := [.data], laidTests := true, laidLooks := .later }
def WireSelectsCardSaid : Prop := Claim7.holds Tryd.pinned (.plain (OpenSpec.ofChange wireSelectsSpec)) wireSelectsCard

/-- THE TIED CARD OF 'turnpikelaw13.WireRow'. -/
def wireRowCard : Claim7 := { stood := { row := wireRowRow, standIns := [], harness := (true, "4e875982243622f5c49127bb6a72883a1fb0ac8fdc3b3c944b6f7e399392845e"), looks := false }, kinds := [], alts := [], laidByText := true, laidKinds := [.data], laidTests := true, laidLooks := .later }
def WireRowCardSaid : Prop := Claim7.holds Tryd.pinned (.plain (OpenSpec.ofChange wireRowSpec)) wireRowCard

/-- THE TIED CARD OF 'turnpikelaw13.WireAgain'. -/
def wireAgainCard : Claim7 := { stood := { row := wireAgainRow, standIns := [], harness := (true, "4e875982243622f5c49127bb6a72883a1fb0ac8fdc3b3c944b6f7e399392845e"), looks := false }, kinds := [], alts := [], laidByText := true, laidKinds := [.data], laidTests := true, laidLooks := .later }
def WireAgainCardSaid : Prop := Claim7.holds Tryd.pinned (.plain (OpenSpec.ofChange wireAgainSpec)) wireAgainCard

/-- THE TIED CARD OF 'turnpikelaw13.WireOwn'. -/
def wireOwnCard : Claim7 := { stood := { row := wireOwnRow, standIns := [], harness := (true, "4e875982243622f5c49127bb6a72883a1fb0ac8fdc3b3c944b6f7e399392845e"), looks := false }, kinds := [], alts := [], laidByText := true, laidKinds := [.data], laidTests := true, laidLooks := .later }
def WireOwnCardSaid : Prop := Claim7.holds Tryd.pinned (.plain (OpenSpec.ofChange wireOwnSpec)) wireOwnCard

/-- THE SECOND FORM's CARD OF 'turnpikelaw13.WireTurn'. -/
def wireTurnUptoCard : Claim7 := { stood := { row := wireTurnUptoRow, standIns := [], harness := (true, "4e875982243622f5c49127bb6a72883a1fb0ac8fdc3b3c944b6f7e399392845e"), looks := false }, kinds := [], alts := [], laidByText := true, laidKinds := [.data], laidTests := true, laidLooks := .later }
def WireTurnUptoCardSaid : Prop := Claim7.holds Tryd.pinned (.plain (OpenSpec.upto wireTurnSpec)) wireTurnUptoCard

/-- THE SECOND FORM's CARD OF 'turnpikelaw13.WireBack'. -/
def wireBackUptoCard : Claim7 := { stood := { row := wireBackUptoRow, standIns := [], harness := (true, "4e875982243622f5c49127bb6a72883a1fb0ac8fdc3b3c944b6f7e399392845e"), looks := false }, kinds := [], alts := [], laidByText := true, laidKinds := [.data], laidTests := true, laidLooks := .later }
def WireBackUptoCardSaid : Prop := Claim7.holds Tryd.pinned (.plain (OpenSpec.upto wireBackSpec)) wireBackUptoCard

/-- THE SECOND FORM's CARD OF 'turnpikelaw13.WireSelects'. -/
def wireSelectsUptoCard : Claim7 := { stood := { row := wireSelectsUptoRow, standIns := [], harness := (true, "4e875982243622f5c49127bb6a72883a1fb0ac8fdc3b3c944b6f7e399392845e"), looks := false }, kinds := [], alts := [], laidByText := true, laidKinds := [.data], laidTests := true, laidLooks := .later }
def WireSelectsUptoCardSaid : Prop := Claim7.holds Tryd.pinned (.plain (OpenSpec.upto wireSelectsSpec)) wireSelectsUptoCard

/-- THE SECOND FORM's CARD OF 'turnpikelaw13.WireRow'. -/
def wireRowUptoCard : Claim7 := { stood := { row := wireRowUptoRow, standIns := [], harness := (true, "4e875982243622f5c49127bb6a72883a1fb0ac8fdc3b3c944b6f7e399392845e"), looks := false }, kinds := [], alts := [], laidByText := true, laidKinds := [.data], laidTests := true, laidLooks := .later }
def WireRowUptoCardSaid : Prop := Claim7.holds Tryd.pinned (.plain (OpenSpec.upto wireRowSpec)) wireRowUptoCard

/-- THE SECOND FORM's CARD OF 'turnpikelaw13.WireAgain'. -/
def wireAgainUptoCard : Claim7 := { stood := { row := wireAgainUptoRow, standIns := [], harness := (true, "4e875982243622f5c49127bb6a72883a1fb0ac8fdc3b3c944b6f7e399392845e"), looks := false }, kinds := [], alts := [], laidByText := true, laidKinds := [.data], laidTests := true, laidLooks := .later }
def WireAgainUptoCardSaid : Prop := Claim7.holds Tryd.pinned (.plain (OpenSpec.upto wireAgainSpec)) wireAgainUptoCard

/-- THE SECOND FORM's CARD OF 'turnpikelaw13.WireOwn'. -/
def wireOwnUptoCard : Claim7 := { stood := { row := wireOwnUptoRow, standIns := [], harness := (true, "4e875982243622f5c49127bb6a72883a1fb0ac8fdc3b3c944b6f7e399392845e"), looks := false }, kinds := [], alts := [], laidByText := true, laidKinds := [.data], laidTests := true, laidLooks := .later }
def WireOwnUptoCardSaid : Prop := Claim7.holds Tryd.pinned (.plain (OpenSpec.upto wireOwnSpec)) wireOwnUptoCard
end Rows
end Go.Proofs.YthbdmdafldombabDoor
