/-
  DERIVED. GIVEN WITH THE SEED: THE CARDS: each row of YthichmlcfoafpaaDoorRows.lean that lists a variable, with what it lists TIED to the program's text (the seventh form; the later family's looks); each row that meets fmt, with fmt's text TOLD by the authors' own Lean function (tested against real Go, not proved from fmt's source: count such statements apart). THE CARD IS WHAT COUNTS. Prove the row's statement (the work); the ties are given (YthichmlcfoafpaaDoorTie.lean); close each card by the builder's one call (the guide's Derived/Test/ToyasCard.lean, 'card_holds'). Laid BY PROGRAM, IN A SANDBOX (cutbox-door.mjs). By AI agents, Wed Nov 11 2026. No macro, syntax, notation, axiom, sorry.
-/
import Derived.Test.YthichmlcfoafpaaDoorRows
import GoSem.ClaimSeven
namespace Go.Proofs.YthichmlcfoafpaaDoor
namespace Rows

/-- THE TIED CARD OF 'turnpikelaw3.PrefixKin'. -/
def prefixKinCard : Claim7 := { stood := { row := prefixKinRow, standIns := [], harness := (true, "e58fb692fd635df5c38649b98e4595663bc03471e6ab4043e696b191c2dbfdff"), looks := false }, kinds := [], alts := [], laidByText := true, laidKinds := [.data, .data, .data], laidTests := true, laidLooks := .later }
def PrefixKinCardSaid : Prop := Claim7.holds Tryd.pinned (.plain (OpenSpec.ofChange prefixKinSpec)) prefixKinCard

/-- THE TIED CARD OF 'turnpikelaw3.PrefixSplits'. -/
def prefixSplitsCard : Claim7 := { stood := { row := prefixSplitsRow, standIns := [], harness := (true, "e58fb692fd635df5c38649b98e4595663bc03471e6ab4043e696b191c2dbfdff"), looks := false }, kinds := [], alts := [], laidByText := true, laidKinds := [.data, .data, .data], laidTests := true, laidLooks := .later }
def PrefixSplitsCardSaid : Prop := Claim7.holds Tryd.pinned (.plain (OpenSpec.ofChange prefixSplitsSpec)) prefixSplitsCard

/-- THE TIED CARD OF 'turnpikelaw3.PrefixApart'. -/
def prefixApartCard : Claim7 := { stood := { row := prefixApartRow, standIns := [], harness := (true, "e58fb692fd635df5c38649b98e4595663bc03471e6ab4043e696b191c2dbfdff"), looks := false }, kinds := [], alts := [], laidByText := true, laidKinds := [.data, .data, .data], laidTests := true, laidLooks := .later }
def PrefixApartCardSaid : Prop := Claim7.holds Tryd.pinned (.plain (OpenSpec.ofChange prefixApartSpec)) prefixApartCard

/-- THE TIED CARD OF 'turnpikelaw3.PrefixHalves'. -/
def prefixHalvesCard : Claim7 := { stood := { row := prefixHalvesRow, standIns := [], harness := (true, "e58fb692fd635df5c38649b98e4595663bc03471e6ab4043e696b191c2dbfdff"), looks := false }, kinds := [], alts := [], laidByText := true, laidKinds := [.data, .data, .data], laidTests := true, laidLooks := .later }
def PrefixHalvesCardSaid : Prop := Claim7.holds Tryd.pinned (.plain (OpenSpec.ofChange prefixHalvesSpec)) prefixHalvesCard

/-- THE TIED CARD OF 'turnpikelaw3.PrefixParts'. -/
def prefixPartsCard : Claim7 := { stood := { row := prefixPartsRow, standIns := [], harness := (true, "e58fb692fd635df5c38649b98e4595663bc03471e6ab4043e696b191c2dbfdff"), looks := false }, kinds := [], alts := [], laidByText := true, laidKinds := [.data, .data, .data], laidTests := true, laidLooks := .later }
def PrefixPartsCardSaid : Prop := Claim7.holds Tryd.pinned (.plain (OpenSpec.ofChange prefixPartsSpec)) prefixPartsCard

/-- THE TIED CARD OF 'turnpikelaw4.RangeCovers'. -/
def rangeCoversCard : Claim7 := { stood := { row := rangeCoversRow, standIns := [], harness := (true, "e58fb692fd635df5c38649b98e4595663bc03471e6ab4043e696b191c2dbfdff"), looks := false }, kinds := [], alts := [], laidByText := true, laidKinds := [.data], laidTests := true, laidLooks := .later }
def RangeCoversCardSaid : Prop := Claim7.holds Tryd.pinned (.plain (OpenSpec.ofChange rangeCoversSpec)) rangeCoversCard

/-- THE SECOND FORM's CARD OF 'turnpikelaw3.PrefixKin'. -/
def prefixKinUptoCard : Claim7 := { stood := { row := prefixKinUptoRow, standIns := [], harness := (true, "e58fb692fd635df5c38649b98e4595663bc03471e6ab4043e696b191c2dbfdff"), looks := false }, kinds := [], alts := [], laidByText := true, laidKinds := [.data, .data, .data], laidTests := true, laidLooks := .later }
def PrefixKinUptoCardSaid : Prop := Claim7.holds Tryd.pinned (.plain (OpenSpec.upto prefixKinSpec)) prefixKinUptoCard

/-- THE SECOND FORM's CARD OF 'turnpikelaw3.PrefixSplits'. -/
def prefixSplitsUptoCard : Claim7 := { stood := { row := prefixSplitsUptoRow, standIns := [], harness := (true, "e58fb692fd635df5c38649b98e4595663bc03471e6ab4043e696b191c2dbfdff"), looks := false }, kinds := [], alts := [], laidByText := true, laidKinds := [.data, .data, .data], laidTests := true, laidLooks := .later }
def PrefixSplitsUptoCardSaid : Prop := Claim7.holds Tryd.pinned (.plain (OpenSpec.upto prefixSplitsSpec)) prefixSplitsUptoCard

/-- THE SECOND FORM's CARD OF 'turnpikelaw3.PrefixApart'. -/
def prefixApartUptoCard : Claim7 := { stood := { row := prefixApartUptoRow, standIns := [], harness := (true, "e58fb692fd635df5c38649b98e4595663bc03471e6ab4043e696b191c2dbfdff"), looks := false }, kinds := [], alts := [], laidByText := true, laidKinds := [.data, .data, .data], laidTests := true, laidLooks := .later }
def PrefixApartUptoCardSaid : Prop := Claim7.holds Tryd.pinned (.plain (OpenSpec.upto prefixApartSpec)) prefixApartUptoCard

/-- THE SECOND FORM's CARD OF 'turnpikelaw3.PrefixHalves'. -/
def prefixHalvesUptoCard : Claim7 := { stood := { row := prefixHalvesUptoRow, standIns := [], harness := (true, "e58fb692fd635df5c38649b98e4595663bc03471e6ab4043e696b191c2dbfdff"), looks := false }, kinds := [], alts := [], laidByText := true, laidKinds := [.data, .data, .data], laidTests := true, laidLooks := .later }
def PrefixHalvesUptoCardSaid : Prop := Claim7.holds Tryd.pinned (.plain (OpenSpec.upto prefixHalvesSpec)) prefixHalvesUptoCard

/-- THE SECOND FORM's CARD OF 'turnpikelaw3.PrefixParts'. -/
def prefixPartsUptoCard : Claim7 := { stood := { row := prefixPartsUptoRow, standIns := [], harness := (true, "e58fb692fd635df5c38649b98e4595663bc03471e6ab4043e696b191c2dbfdff"), looks := false }, kinds := [], alts := [], laidByText := true, laidKinds := [.data, .data, .data], laidTests := true, laidLooks := .later }
def PrefixPartsUptoCardSaid : Prop := Claim7.holds Tryd.pinned (.plain (OpenSpec.upto prefixPartsSpec)) prefixPartsUptoCard

/-- THE SECOND FORM's CARD OF 'turnpikelaw4.RangeCovers'. -/
def rangeCoversUptoCard : Claim7 := { stood := { row := rangeCoversUptoRow, standIns := [], harness := (true, "e58fb692fd635df5c38649b98e4595663bc03471e6ab4043e696b191c2dbfdff"), looks := false }, kinds := [], alts := [], laidByText := true, laidKinds := [.data], laidTests := true, laidLooks := .later }
def RangeCoversUptoCardSaid : Prop := Claim7.holds Tryd.pinned (.plain (OpenSpec.upto rangeCoversSpec)) rangeCoversUptoCard
end Rows
end Go.Proofs.YthichmlcfoafpaaDoor
