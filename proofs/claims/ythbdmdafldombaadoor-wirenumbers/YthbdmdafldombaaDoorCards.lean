/-
  DERIVED. GIVEN WITH THE SEED: THE CARDS: each row of YthbdmdafldombaaDoorRows.lean that lists a variable, with what it lists TIED to the program's text (the seventh form; the later family's looks); each row that meets fmt, with fmt's text TOLD by the authors' own Lean function (tested against real Go, not proved from fmt's source: count such statements apart). THE CARD IS WHAT COUNTS. Prove the row's statement (the work); the ties are given (YthbdmdafldombaaDoorTie.lean); close each card by the builder's one call (the guide's Derived/Test/ToyasCard.lean, 'card_holds'). Laid BY PROGRAM, IN A SANDBOX (cutbox-door.mjs). By AI agents, Wed Nov 11 2026. No macro, syntax, notation, axiom, sorry.
-/
import Derived.Test.YthbdmdafldombaaDoorRows
import GoSem.ClaimSeven
namespace Go.Proofs.YthbdmdafldombaaDoor
namespace Rows

/-- THE TIED CARD OF 'turnpikelaw13.WireNumbers'. -/
def wireNumbersCard : Claim7 := { stood := { row := wireNumbersRow, standIns := [], harness := (true, "bf3ae39a8caf764aa8cffb8b8cd2d99c0ed387ce1d8e042b7c49574de5479873"), looks := false }, kinds := [], alts := [], laidByText := true, laidKinds := [.data], laidTests := true, laidLooks := .later }
def WireNumbersCardSaid : Prop := Claim7.holds Tryd.pinned (.plain (OpenSpec.ofChange wireNumbersSpec)) wireNumbersCard

/-- THE TIED CARD OF 'turnpikelaw13.WireSums'. -/
def wireSumsCard : Claim7 := { stood := { row := wireSumsRow, standIns := [], harness := (true, "bf3ae39a8caf764aa8cffb8b8cd2d99c0ed387ce1d8e042b7c49574de5479873"), looks := false }, kinds := [], alts := [], laidByText := true, laidKinds := [.data], laidTests := true, laidLooks := .later }
def WireSumsCardSaid : Prop := Claim7.holds Tryd.pinned (.plain (OpenSpec.ofChange wireSumsSpec)) wireSumsCard

/-- THE TIED CARD OF 'turnpikelaw13.WireJoins'. -/
def wireJoinsCard : Claim7 := { stood := { row := wireJoinsRow, standIns := [], harness := (true, "bf3ae39a8caf764aa8cffb8b8cd2d99c0ed387ce1d8e042b7c49574de5479873"), looks := false }, kinds := [], alts := [], laidByText := true, laidKinds := [.data], laidTests := true, laidLooks := .later }
def WireJoinsCardSaid : Prop := Claim7.holds Tryd.pinned (.plain (OpenSpec.ofChange wireJoinsSpec)) wireJoinsCard

/-- THE TIED CARD OF 'turnpikelaw13.WireRanks'. -/
def wireRanksCard : Claim7 := { stood := { row := wireRanksRow, standIns := [], harness := (true, "bf3ae39a8caf764aa8cffb8b8cd2d99c0ed387ce1d8e042b7c49574de5479873"), looks := false }, kinds := [], alts := [], laidByText := true, laidKinds := [.data], laidTests := true, laidLooks := .later }
def WireRanksCardSaid : Prop := Claim7.holds Tryd.pinned (.plain (OpenSpec.ofChange wireRanksSpec)) wireRanksCard

/-- THE TIED CARD OF 'turnpikelaw13.WireFolds'. -/
def wireFoldsCard : Claim7 := { stood := { row := wireFoldsRow, standIns := [], harness := (true, "bf3ae39a8caf764aa8cffb8b8cd2d99c0ed387ce1d8e042b7c49574de5479873"), looks := false }, kinds := [], alts := [], laidByText := true, laidKinds := [.data], laidTests := true, laidLooks := .later }
def WireFoldsCardSaid : Prop := Claim7.holds Tryd.pinned (.plain (OpenSpec.ofChange wireFoldsSpec)) wireFoldsCard

/-- THE TIED CARD OF 'turnpikelaw13.WireUnfolds'. -/
def wireUnfoldsCard : Claim7 := { stood := { row := wireUnfoldsRow, standIns := [], harness := (true, "bf3ae39a8caf764aa8cffb8b8cd2d99c0ed387ce1d8e042b7c49574de5479873"), looks := false }, kinds := [], alts := [], laidByText := true, laidKinds := [.data], laidTests := true, laidLooks := .later }
def WireUnfoldsCardSaid : Prop := Claim7.holds Tryd.pinned (.plain (OpenSpec.ofChange wireUnfoldsSpec)) wireUnfoldsCard

/-- THE SECOND FORM's CARD OF 'turnpikelaw13.WireNumbers'. -/
def wireNumbersUptoCard : Claim7 := { stood := { row := wireNumbersUptoRow, standIns := [], harness := (true, "bf3ae39a8caf764aa8cffb8b8cd2d99c0ed387ce1d8e042b7c49574de5479873"), looks := false }, kinds := [], alts := [], laidByText := true, laidKinds := [.data], laidTests := true, laidLooks := .later }
def WireNumbersUptoCardSaid : Prop := Claim7.holds Tryd.pinned (.plain (OpenSpec.upto wireNumbersSpec)) wireNumbersUptoCard

/-- THE SECOND FORM's CARD OF 'turnpikelaw13.WireSums'. -/
def wireSumsUptoCard : Claim7 := { stood := { row := wireSumsUptoRow, standIns := [], harness := (true, "bf3ae39a8caf764aa8cffb8b8cd2d99c0ed387ce1d8e042b7c49574de5479873"), looks := false }, kinds := [], alts := [], laidByText := true, laidKinds := [.data], laidTests := true, laidLooks := .later }
def WireSumsUptoCardSaid : Prop := Claim7.holds Tryd.pinned (.plain (OpenSpec.upto wireSumsSpec)) wireSumsUptoCard

/-- THE SECOND FORM's CARD OF 'turnpikelaw13.WireJoins'. -/
def wireJoinsUptoCard : Claim7 := { stood := { row := wireJoinsUptoRow, standIns := [], harness := (true, "bf3ae39a8caf764aa8cffb8b8cd2d99c0ed387ce1d8e042b7c49574de5479873"), looks := false }, kinds := [], alts := [], laidByText := true, laidKinds := [.data], laidTests := true, laidLooks := .later }
def WireJoinsUptoCardSaid : Prop := Claim7.holds Tryd.pinned (.plain (OpenSpec.upto wireJoinsSpec)) wireJoinsUptoCard

/-- THE SECOND FORM's CARD OF 'turnpikelaw13.WireRanks'. -/
def wireRanksUptoCard : Claim7 := { stood := { row := wireRanksUptoRow, standIns := [], harness := (true, "bf3ae39a8caf764aa8cffb8b8cd2d99c0ed387ce1d8e042b7c49574de5479873"), looks := false }, kinds := [], alts := [], laidByText := true, laidKinds := [.data], laidTests := true, laidLooks := .later }
def WireRanksUptoCardSaid : Prop := Claim7.holds Tryd.pinned (.plain (OpenSpec.upto wireRanksSpec)) wireRanksUptoCard

/-- THE SECOND FORM's CARD OF 'turnpikelaw13.WireFolds'. -/
def wireFoldsUptoCard : Claim7 := { stood := { row := wireFoldsUptoRow, standIns := [], harness := (true, "bf3ae39a8caf764aa8cffb8b8cd2d99c0ed387ce1d8e042b7c49574de5479873"), looks := false }, kinds := [], alts := [], laidByText := true, laidKinds := [.data], laidTests := true, laidLooks := .later }
def WireFoldsUptoCardSaid : Prop := Claim7.holds Tryd.pinned (.plain (OpenSpec.upto wireFoldsSpec)) wireFoldsUptoCard

/-- THE SECOND FORM's CARD OF 'turnpikelaw13.WireUnfolds'. -/
def wireUnfoldsUptoCard : Claim7 := { stood := { row := wireUnfoldsUptoRow, standIns := [], harness := (true, "bf3ae39a8caf764aa8cffb8b8cd2d99c0ed387ce1d8e042b7c49574de5479873"), looks := false }, kinds := [], alts := [], laidByText := true, laidKinds := [.data], laidTests := true, laidLooks := .later }
def WireUnfoldsUptoCardSaid : Prop := Claim7.holds Tryd.pinned (.plain (OpenSpec.upto wireUnfoldsSpec)) wireUnfoldsUptoCard
end Rows
end Go.Proofs.YthbdmdafldombaaDoor
