/-
  DERIVED. GIVEN WITH THE SEED: THE CARDS: each row of YtkgfeegcdohkdaaDoorRows.lean that lists a variable, with what it lists TIED to the program's text (the seventh form; the later family's looks); each row that meets fmt, with fmt's text TOLD by the authors' own Lean function (tested against real Go, not proved from fmt's source: count such statements apart). THE CARD IS WHAT COUNTS. Prove the row's statement (the work); the ties are given (YtkgfeegcdohkdaaDoorTie.lean); close each card by the builder's one call (the guide's Derived/Test/ToyasCard.lean, 'card_holds'). Laid BY PROGRAM, IN A SANDBOX (cutbox-door.mjs). By AI agents, Wed Nov 11 2026. No macro, syntax, notation, axiom, sorry.
-/
import Derived.Test.YtkgfeegcdohkdaaDoorRows
import GoSem.ClaimSeven
namespace Go.Proofs.YtkgfeegcdohkdaaDoor
namespace Rows

/-- THE TIED CARD OF 'turnpikelaw3.PrefixSplits'. -/
def prefixSplitsCard : Claim7 := { stood := { row := prefixSplitsRow, standIns := [], harness := (true, "8665436f33d8c4963de2eb4104b1556fb38d92c48c6d88d11ba865895f3ba6d4"), looks := false }, kinds := [], alts := [], laidByText := true, laidKinds := [.data, .data, .data], laidTests := true, laidLooks := .later }
def PrefixSplitsCardSaid : Prop := Claim7.holds Tryd.pinned (.plain (OpenSpec.ofChange prefixSplitsSpec)) prefixSplitsCard

/-- THE TIED CARD OF 'turnpikelaw3.PrefixParts'. -/
def prefixPartsCard : Claim7 := { stood := { row := prefixPartsRow, standIns := [], harness := (true, "8665436f33d8c4963de2eb4104b1556fb38d92c48c6d88d11ba865895f3ba6d4"), looks := false }, kinds := [], alts := [], laidByText := true, laidKinds := [.data, .data, .data], laidTests := true, laidLooks := .later }
def PrefixPartsCardSaid : Prop := Claim7.holds Tryd.pinned (.plain (OpenSpec.ofChange prefixPartsSpec)) prefixPartsCard

/-- THE TIED CARD OF 'turnpikelaw4.RangeMerges'. -/
def rangeMergesCard : Claim7 := { stood := { row := rangeMergesRow, standIns := [], harness := (true, "8665436f33d8c4963de2eb4104b1556fb38d92c48c6d88d11ba865895f3ba6d4"), looks := false }, kinds := [], alts := [], laidByText := true, laidKinds := [.data], laidTests := true, laidLooks := .later }
def RangeMergesCardSaid : Prop := Claim7.holds Tryd.pinned (.plain (OpenSpec.ofChange rangeMergesSpec)) rangeMergesCard

/-- THE TIED CARD OF 'turnpikelaw4.RangeRows'. -/
def rangeRowsCard : Claim7 := { stood := { row := rangeRowsRow, standIns := [], harness := (true, "8665436f33d8c4963de2eb4104b1556fb38d92c48c6d88d11ba865895f3ba6d4"), looks := false }, kinds := [], alts := [], laidByText := true, laidKinds := [.data], laidTests := true, laidLooks := .later }
def RangeRowsCardSaid : Prop := Claim7.holds Tryd.pinned (.plain (OpenSpec.ofChange rangeRowsSpec)) rangeRowsCard

/-- THE TIED CARD OF 'turnpikelaw4.RangeSays'. -/
def rangeSaysCard : Claim7 := { stood := { row := rangeSaysRow, standIns := [], harness := (true, "8665436f33d8c4963de2eb4104b1556fb38d92c48c6d88d11ba865895f3ba6d4"), looks := false }, kinds := [], alts := [], laidByText := true, laidKinds := [.data], laidTests := true, laidLooks := .later }
def RangeSaysCardSaid : Prop := Claim7.holds Tryd.pinned (.plain (OpenSpec.ofChange rangeSaysSpec)) rangeSaysCard

/-- THE TIED CARD OF 'turnpikelaw4.RangeTurned'. -/
def rangeTurnedCard : Claim7 := { stood := { row := rangeTurnedRow, standIns := [], harness := (true, "8665436f33d8c4963de2eb4104b1556fb38d92c48c6d88d11ba865895f3ba6d4"), looks := false }, kinds := [], alts := [], laidByText := true, laidKinds := [.data], laidTests := true, laidLooks := .later }
def RangeTurnedCardSaid : Prop := Claim7.holds Tryd.pinned (.plain (OpenSpec.ofChange rangeTurnedSpec)) rangeTurnedCard

/-- THE SECOND FORM's CARD OF 'turnpikelaw3.PrefixSplits'. -/
def prefixSplitsUptoCard : Claim7 := { stood := { row := prefixSplitsUptoRow, standIns := [], harness := (true, "8665436f33d8c4963de2eb4104b1556fb38d92c48c6d88d11ba865895f3ba6d4"), looks := false }, kinds := [], alts := [], laidByText := true, laidKinds := [.data, .data, .data], laidTests := true, laidLooks := .later }
def PrefixSplitsUptoCardSaid : Prop := Claim7.holds Tryd.pinned (.plain (OpenSpec.upto prefixSplitsSpec)) prefixSplitsUptoCard

/-- THE SECOND FORM's CARD OF 'turnpikelaw3.PrefixParts'. -/
def prefixPartsUptoCard : Claim7 := { stood := { row := prefixPartsUptoRow, standIns := [], harness := (true, "8665436f33d8c4963de2eb4104b1556fb38d92c48c6d88d11ba865895f3ba6d4"), looks := false }, kinds := [], alts := [], laidByText := true, laidKinds := [.data, .data, .data], laidTests := true, laidLooks := .later }
def PrefixPartsUptoCardSaid : Prop := Claim7.holds Tryd.pinned (.plain (OpenSpec.upto prefixPartsSpec)) prefixPartsUptoCard

/-- THE SECOND FORM's CARD OF 'turnpikelaw4.RangeMerges'. -/
def rangeMergesUptoCard : Claim7 := { stood := { row := rangeMergesUptoRow, standIns := [], harness := (true, "8665436f33d8c4963de2eb4104b1556fb38d92c48c6d88d11ba865895f3ba6d4"), looks := false }, kinds := [], alts := [], laidByText := true, laidKinds := [.data], laidTests := true, laidLooks := .later }
def RangeMergesUptoCardSaid : Prop := Claim7.holds Tryd.pinned (.plain (OpenSpec.upto rangeMergesSpec)) rangeMergesUptoCard

/-- THE SECOND FORM's CARD OF 'turnpikelaw4.RangeRows'. -/
def rangeRowsUptoCard : Claim7 := { stood := { row := rangeRowsUptoRow, standIns := [], harness := (true, "8665436f33d8c4963de2eb4104b1556fb38d92c48c6d88d11ba865895f3ba6d4"), looks := false }, kinds := [], alts := [], laidByText := true, laidKinds := [.data], laidTests := true, laidLooks := .later }
def RangeRowsUptoCardSaid : Prop := Claim7.holds Tryd.pinned (.plain (OpenSpec.upto rangeRowsSpec)) rangeRowsUptoCard

/-- THE SECOND FORM's CARD OF 'turnpikelaw4.RangeSays'. -/
def rangeSaysUptoCard : Claim7 := { stood := { row := rangeSaysUptoRow, standIns := [], harness := (true, "8665436f33d8c4963de2eb4104b1556fb38d92c48c6d88d11ba865895f3ba6d4"), looks := false }, kinds := [], alts := [], laidByText := true, laidKinds := [.data], laidTests := true, laidLooks := .later }
def RangeSaysUptoCardSaid : Prop := Claim7.holds Tryd.pinned (.plain (OpenSpec.upto rangeSaysSpec)) rangeSaysUptoCard

/-- THE SECOND FORM's CARD OF 'turnpikelaw4.RangeTurned'. -/
def rangeTurnedUptoCard : Claim7 := { stood := { row := rangeTurnedUptoRow, standIns := [], harness := (true, "8665436f33d8c4963de2eb4104b1556fb38d92c48c6d88d11ba865895f3ba6d4"), looks := false }, kinds := [], alts := [], laidByText := true, laidKinds := [.data], laidTests := true, laidLooks := .later }
def RangeTurnedUptoCardSaid : Prop := Claim7.holds Tryd.pinned (.plain (OpenSpec.upto rangeTurnedSpec)) rangeTurnedUptoCard
end Rows
end Go.Proofs.YtkgfeegcdohkdaaDoor
