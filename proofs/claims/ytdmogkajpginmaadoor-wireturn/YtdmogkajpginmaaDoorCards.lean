/-
  DERIVED. GIVEN WITH THE SEED: THE CARDS: each row of YtdmogkajpginmaaDoorRows.lean that lists a variable, with what it lists TIED to the program's text (the seventh form; the later family's looks); each row that meets fmt, with fmt's text TOLD by the authors' own Lean function (tested against real Go, not proved from fmt's source: count such statements apart). THE CARD IS WHAT COUNTS. Prove the row's statement (the work); the ties are given (YtdmogkajpginmaaDoorTie.lean); close each card by the builder's one call (the guide's Derived/Test/ToyasCard.lean, 'card_holds'). Laid BY PROGRAM, IN A SANDBOX (cutbox-door.mjs). By AI agents, Wed Nov 11 2026. No macro, syntax, notation, axiom, sorry.
-/
import Derived.Test.YtdmogkajpginmaaDoorRows
import GoSem.ClaimSeven
namespace Go.Proofs.YtdmogkajpginmaaDoor
namespace Rows

/-- THE TIED CARD OF 'turnpikelaw13.WireSums'. -/
def wireSumsCard : Claim7 := { stood := { row := wireSumsRow, standIns := [], harness := (true, "976100a3ffcf8282d2bf28a0504b228fcc885826de7c41c19efb261308e03c9f"), looks := false }, kinds := [], alts := [], laidByText := true, laidKinds := [.data], laidTests := true, laidLooks := .later }
def WireSumsCardSaid : Prop := Claim7.holds Tryd.pinned (.plain (OpenSpec.ofChange wireSumsSpec)) wireSumsCard

/-- THE TIED CARD OF 'turnpikelaw13.WireTurn'. -/
def wireTurnCard : Claim7 := { stood := { row := wireTurnRow, standIns := [], harness := (true, "976100a3ffcf8282d2bf28a0504b228fcc885826de7c41c19efb261308e03c9f"), looks := false }, kinds := [], alts := [], laidByText := true, laidKinds := [.data], laidTests := true, laidLooks := .later }
def WireTurnCardSaid : Prop := Claim7.holds Tryd.pinned (.plain (OpenSpec.ofChange wireTurnSpec)) wireTurnCard

/-- THE TIED CARD OF 'turnpikelaw13.WireRow'. -/
def wireRowCard : Claim7 := { stood := { row := wireRowRow, standIns := [], harness := (true, "976100a3ffcf8282d2bf28a0504b228fcc885826de7c41c19efb261308e03c9f"), looks := false }, kinds := [], alts := [], laidByText := true, laidKinds := [.data], laidTests := true, laidLooks := .later }
def WireRowCardSaid : Prop := Claim7.holds Tryd.pinned (.plain (OpenSpec.ofChange wireRowSpec)) wireRowCard

/-- THE TIED CARD OF 'turnpikelaw13.WireOwn'. -/
def wireOwnCard : Claim7 := { stood := { row := wireOwnRow, standIns := [], harness := (true, "976100a3ffcf8282d2bf28a0504b228fcc885826de7c41c19efb261308e03c9f"), looks := false }, kinds := [], alts := [], laidByText := true, laidKinds := [.data], laidTests := true, laidLooks := .later }
def WireOwnCardSaid : Prop := Claim7.holds Tryd.pinned (.plain (OpenSpec.ofChange wireOwnSpec)) wireOwnCard

/-- THE SECOND FORM's CARD OF 'turnpikelaw13.WireSums'. -/
def wireSumsUptoCard : Claim7 := { stood := { row := wireSumsUptoRow, standIns := [], harness := (true, "976100a3ffcf8282d2bf28a0504b228fcc885826de7c41c19efb261308e03c9f"), looks := false }, kinds := [], alts := [], laidByText := true, laidKinds := [.data], laidTests := true, laidLooks := .later }
def WireSumsUptoCardSaid : Prop := Claim7.holds Tryd.pinned (.plain (OpenSpec.upto wireSumsSpec)) wireSumsUptoCard

/-- THE SECOND FORM's CARD OF 'turnpikelaw13.WireTurn'. -/
def wireTurnUptoCard : Claim7 := { stood := { row := wireTurnUptoRow, standIns := [], harness := (true, "976100a3ffcf8282d2bf28a0504b228fcc885826de7c41c19efb261308e03c9f"), looks := false }, kinds := [], alts := [], laidByText := true, laidKinds := [.data], laidTests := true, laidLooks := .later }
def WireTurnUptoCardSaid : Prop := Claim7.holds Tryd.pinned (.plain (OpenSpec.upto wireTurnSpec)) wireTurnUptoCard

/-- THE SECOND FORM's CARD OF 'turnpikelaw13.WireRow'. -/
def wireRowUptoCard : Claim7 := { stood := { row := wireRowUptoRow, standIns := [], harness := (true, "976100a3ffcf8282d2bf28a0504b228fcc885826de7c41c19efb261308e03c9f"), looks := false }, kinds := [], alts := [], laidByText := true, laidKinds := [.data], laidTests := true, laidLooks := .later }
def WireRowUptoCardSaid : Prop := Claim7.holds Tryd.pinned (.plain (OpenSpec.upto wireRowSpec)) wireRowUptoCard

/-- THE SECOND FORM's CARD OF 'turnpikelaw13.WireOwn'. -/
def wireOwnUptoCard : Claim7 := { stood := { row := wireOwnUptoRow, standIns := [], harness := (true, "976100a3ffcf8282d2bf28a0504b228fcc885826de7c41c19efb261308e03c9f"), looks := false }, kinds := [], alts := [], laidByText := true, laidKinds := [.data], laidTests := true, laidLooks := .later }
def WireOwnUptoCardSaid : Prop := Claim7.holds Tryd.pinned (.plain (OpenSpec.upto wireOwnSpec)) wireOwnUptoCard
end Rows
end Go.Proofs.YtdmogkajpginmaaDoor
