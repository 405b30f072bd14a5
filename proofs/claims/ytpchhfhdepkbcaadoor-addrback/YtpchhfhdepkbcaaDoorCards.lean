/-
  DERIVED. GIVEN WITH THE SEED: THE CARDS: each row of YtpchhfhdepkbcaaDoorRows.lean that lists a variable, with what it lists TIED to the program's text (the seventh form; the later family's looks); each row that meets fmt, with fmt's text TOLD by the authors' own Lean function (tested against real Go, not proved from fmt's source: count such statements apart). THE CARD IS WHAT COUNTS. Prove the row's statement (the work); the ties are given (YtpchhfhdepkbcaaDoorTie.lean); close each card by the builder's one call (the guide's Derived/Test/ToyasCard.lean, 'card_holds'). Laid BY PROGRAM, IN A SANDBOX (cutbox-door.mjs). By AI agents, Wed Nov 11 2026. No macro, syntax, notation, axiom, sorry.
-/
import Derived.Test.YtpchhfhdepkbcaaDoorRows
import GoSem.ClaimSeven
namespace Go.Proofs.YtpchhfhdepkbcaaDoor
namespace Rows

/-- THE TIED CARD OF 'turnpikelaw2.AddrTexts'. -/
def addrTextsCard : Claim7 := { stood := { row := addrTextsRow, standIns := [], harness := (true, "5c5da02cc6f01847c300bda99439b278f31a0b18c6a15e577c0bfb592160447a"), looks := false }, kinds := [], alts := [], laidByText := true, laidKinds := [.data, .data, .data], laidTests := true, laidLooks := .later }
def AddrTextsCardSaid : Prop := Claim7.holds Tryd.pinned (.plain (OpenSpec.ofChange addrTextsSpec)) addrTextsCard

/-- THE TIED CARD OF 'turnpikelaw2.AddrBack'. -/
def addrBackCard : Claim7 := { stood := { row := addrBackRow, standIns := [], harness := (true, "5c5da02cc6f01847c300bda99439b278f31a0b18c6a15e577c0bfb592160447a"), looks := false }, kinds := [], alts := [], laidByText := true, laidKinds := [.data, .data, .data], laidTests := true, laidLooks := .later }
def AddrBackCardSaid : Prop := Claim7.holds Tryd.pinned (.plain (OpenSpec.ofChange addrBackSpec)) addrBackCard

/-- THE TIED CARD OF 'turnpikelaw3.PrefixChecks'. -/
def prefixChecksCard : Claim7 := { stood := { row := prefixChecksRow, standIns := [], harness := (true, "5c5da02cc6f01847c300bda99439b278f31a0b18c6a15e577c0bfb592160447a"), looks := false }, kinds := [], alts := [], laidByText := true, laidKinds := [.data, .data, .data], laidTests := true, laidLooks := .later }
def PrefixChecksCardSaid : Prop := Claim7.holds Tryd.pinned (.plain (OpenSpec.ofChange prefixChecksSpec)) prefixChecksCard

/-- THE TIED CARD OF 'turnpikelaw3.PrefixHas'. -/
def prefixHasCard : Claim7 := { stood := { row := prefixHasRow, standIns := [], harness := (true, "5c5da02cc6f01847c300bda99439b278f31a0b18c6a15e577c0bfb592160447a"), looks := false }, kinds := [], alts := [], laidByText := true, laidKinds := [.data, .data, .data], laidTests := true, laidLooks := .later }
def PrefixHasCardSaid : Prop := Claim7.holds Tryd.pinned (.plain (OpenSpec.ofChange prefixHasSpec)) prefixHasCard

/-- THE TIED CARD OF 'turnpikelaw3.PrefixKin'. -/
def prefixKinCard : Claim7 := { stood := { row := prefixKinRow, standIns := [], harness := (true, "5c5da02cc6f01847c300bda99439b278f31a0b18c6a15e577c0bfb592160447a"), looks := false }, kinds := [], alts := [], laidByText := true, laidKinds := [.data, .data, .data], laidTests := true, laidLooks := .later }
def PrefixKinCardSaid : Prop := Claim7.holds Tryd.pinned (.plain (OpenSpec.ofChange prefixKinSpec)) prefixKinCard

/-- THE TIED CARD OF 'turnpikelaw3.PrefixMeets'. -/
def prefixMeetsCard : Claim7 := { stood := { row := prefixMeetsRow, standIns := [], harness := (true, "5c5da02cc6f01847c300bda99439b278f31a0b18c6a15e577c0bfb592160447a"), looks := false }, kinds := [], alts := [], laidByText := true, laidKinds := [.data, .data, .data], laidTests := true, laidLooks := .later }
def PrefixMeetsCardSaid : Prop := Claim7.holds Tryd.pinned (.plain (OpenSpec.ofChange prefixMeetsSpec)) prefixMeetsCard

/-- THE SECOND FORM's CARD OF 'turnpikelaw2.AddrTexts'. -/
def addrTextsUptoCard : Claim7 := { stood := { row := addrTextsUptoRow, standIns := [], harness := (true, "5c5da02cc6f01847c300bda99439b278f31a0b18c6a15e577c0bfb592160447a"), looks := false }, kinds := [], alts := [], laidByText := true, laidKinds := [.data, .data, .data], laidTests := true, laidLooks := .later }
def AddrTextsUptoCardSaid : Prop := Claim7.holds Tryd.pinned (.plain (OpenSpec.upto addrTextsSpec)) addrTextsUptoCard

/-- THE SECOND FORM's CARD OF 'turnpikelaw2.AddrBack'. -/
def addrBackUptoCard : Claim7 := { stood := { row := addrBackUptoRow, standIns := [], harness := (true, "5c5da02cc6f01847c300bda99439b278f31a0b18c6a15e577c0bfb592160447a"), looks := false }, kinds := [], alts := [], laidByText := true, laidKinds := [.data, .data, .data], laidTests := true, laidLooks := .later }
def AddrBackUptoCardSaid : Prop := Claim7.holds Tryd.pinned (.plain (OpenSpec.upto addrBackSpec)) addrBackUptoCard

/-- THE SECOND FORM's CARD OF 'turnpikelaw3.PrefixChecks'. -/
def prefixChecksUptoCard : Claim7 := { stood := { row := prefixChecksUptoRow, standIns := [], harness := (true, "5c5da02cc6f01847c300bda99439b278f31a0b18c6a15e577c0bfb592160447a"), looks := false }, kinds := [], alts := [], laidByText := true, laidKinds := [.data, .data, .data], laidTests := true, laidLooks := .later }
def PrefixChecksUptoCardSaid : Prop := Claim7.holds Tryd.pinned (.plain (OpenSpec.upto prefixChecksSpec)) prefixChecksUptoCard

/-- THE SECOND FORM's CARD OF 'turnpikelaw3.PrefixHas'. -/
def prefixHasUptoCard : Claim7 := { stood := { row := prefixHasUptoRow, standIns := [], harness := (true, "5c5da02cc6f01847c300bda99439b278f31a0b18c6a15e577c0bfb592160447a"), looks := false }, kinds := [], alts := [], laidByText := true, laidKinds := [.data, .data, .data], laidTests := true, laidLooks := .later }
def PrefixHasUptoCardSaid : Prop := Claim7.holds Tryd.pinned (.plain (OpenSpec.upto prefixHasSpec)) prefixHasUptoCard

/-- THE SECOND FORM's CARD OF 'turnpikelaw3.PrefixKin'. -/
def prefixKinUptoCard : Claim7 := { stood := { row := prefixKinUptoRow, standIns := [], harness := (true, "5c5da02cc6f01847c300bda99439b278f31a0b18c6a15e577c0bfb592160447a"), looks := false }, kinds := [], alts := [], laidByText := true, laidKinds := [.data, .data, .data], laidTests := true, laidLooks := .later }
def PrefixKinUptoCardSaid : Prop := Claim7.holds Tryd.pinned (.plain (OpenSpec.upto prefixKinSpec)) prefixKinUptoCard

/-- THE SECOND FORM's CARD OF 'turnpikelaw3.PrefixMeets'. -/
def prefixMeetsUptoCard : Claim7 := { stood := { row := prefixMeetsUptoRow, standIns := [], harness := (true, "5c5da02cc6f01847c300bda99439b278f31a0b18c6a15e577c0bfb592160447a"), looks := false }, kinds := [], alts := [], laidByText := true, laidKinds := [.data, .data, .data], laidTests := true, laidLooks := .later }
def PrefixMeetsUptoCardSaid : Prop := Claim7.holds Tryd.pinned (.plain (OpenSpec.upto prefixMeetsSpec)) prefixMeetsUptoCard
end Rows
end Go.Proofs.YtpchhfhdepkbcaaDoor
