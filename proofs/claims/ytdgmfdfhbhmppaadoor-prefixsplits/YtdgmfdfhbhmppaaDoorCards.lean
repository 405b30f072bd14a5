/-
  DERIVED. GIVEN WITH THE SEED: THE CARDS: each row of YtdgmfdfhbhmppaaDoorRows.lean that lists a variable, with what it lists TIED to the program's text (the seventh form; the later family's looks); each row that meets fmt, with fmt's text TOLD by the authors' own Lean function (tested against real Go, not proved from fmt's source: count such statements apart). THE CARD IS WHAT COUNTS. Prove the row's statement (the work); the ties are given (YtdgmfdfhbhmppaaDoorTie.lean); close each card by the builder's one call (the guide's Derived/Test/ToyasCard.lean, 'card_holds'). Laid BY PROGRAM, IN A SANDBOX (cutbox-door.mjs). By AI agents, Wed Nov 11 2026. No macro, syntax, notation, axiom, sorry.
-/
import Derived.Test.YtdgmfdfhbhmppaaDoorRows
import GoSem.ClaimSeven
namespace Go.Proofs.YtdgmfdfhbhmppaaDoor
namespace Rows

/-- THE TIED CARD OF 'turnpikelaw3.PrefixSplits'. -/
def prefixSplitsCard : Claim7 := { stood := { row := prefixSplitsRow, standIns := [], harness := (true, "111d9fa0b91bf81f2155ccf7d1efb23fdf055598cfa25d0c4c586cb18ad99907"), looks := false }, kinds := [], alts := [], laidByText := true, laidKinds := [.data, .data, .data], laidTests := true, laidLooks := .later }
def PrefixSplitsCardSaid : Prop := Claim7.holds Tryd.pinned (.plain (OpenSpec.ofChange prefixSplitsSpec)) prefixSplitsCard

/-- THE TIED CARD OF 'turnpikelaw3.PrefixParts'. -/
def prefixPartsCard : Claim7 := { stood := { row := prefixPartsRow, standIns := [], harness := (true, "111d9fa0b91bf81f2155ccf7d1efb23fdf055598cfa25d0c4c586cb18ad99907"), looks := false }, kinds := [], alts := [], laidByText := true, laidKinds := [.data, .data, .data], laidTests := true, laidLooks := .later }
def PrefixPartsCardSaid : Prop := Claim7.holds Tryd.pinned (.plain (OpenSpec.ofChange prefixPartsSpec)) prefixPartsCard

/-- THE SECOND FORM's CARD OF 'turnpikelaw3.PrefixSplits'. -/
def prefixSplitsUptoCard : Claim7 := { stood := { row := prefixSplitsUptoRow, standIns := [], harness := (true, "111d9fa0b91bf81f2155ccf7d1efb23fdf055598cfa25d0c4c586cb18ad99907"), looks := false }, kinds := [], alts := [], laidByText := true, laidKinds := [.data, .data, .data], laidTests := true, laidLooks := .later }
def PrefixSplitsUptoCardSaid : Prop := Claim7.holds Tryd.pinned (.plain (OpenSpec.upto prefixSplitsSpec)) prefixSplitsUptoCard

/-- THE SECOND FORM's CARD OF 'turnpikelaw3.PrefixParts'. -/
def prefixPartsUptoCard : Claim7 := { stood := { row := prefixPartsUptoRow, standIns := [], harness := (true, "111d9fa0b91bf81f2155ccf7d1efb23fdf055598cfa25d0c4c586cb18ad99907"), looks := false }, kinds := [], alts := [], laidByText := true, laidKinds := [.data, .data, .data], laidTests := true, laidLooks := .later }
def PrefixPartsUptoCardSaid : Prop := Claim7.holds Tryd.pinned (.plain (OpenSpec.upto prefixPartsSpec)) prefixPartsUptoCard
end Rows
end Go.Proofs.YtdgmfdfhbhmppaaDoor
