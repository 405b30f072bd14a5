/-
  DERIVED. GIVEN WITH THE SEED: THE CARDS: each row of YtgbhbooogofmbaaDoorRows.lean that lists a variable, with what it lists TIED to the program's text (the seventh form; the later family's looks); each row that meets fmt, with fmt's text TOLD by the authors' own Lean function (tested against real Go, not proved from fmt's source: count such statements apart). THE CARD IS WHAT COUNTS. Prove the row's statement (the work); the ties are given (YtgbhbooogofmbaaDoorTie.lean); close each card by the builder's one call (the guide's Derived/Test/ToyasCard.lean, 'card_holds'). Laid BY PROGRAM, IN A SANDBOX (cutbox-door.mjs). By AI agents, Wed Nov 11 2026. No macro, syntax, notation, axiom, sorry.
-/
import Derived.Test.YtgbhbooogofmbaaDoorRows
import GoSem.ClaimSeven
namespace Go.Proofs.YtgbhbooogofmbaaDoor
namespace Rows

/-- THE TIED CARD OF 'turnpikelaw17.ImagePacks'. -/
def imagePacksCard : Claim7 := { stood := { row := imagePacksRow, standIns := [], harness := (true, "d58d270735fa34096f50989bbd9a9603750c3f76dccb2f458ca3b27bdd531e16"), looks := false }, kinds := [], alts := [], laidByText := true, laidKinds := [.data], laidTests := true, laidLooks := .later }
def ImagePacksCardSaid : Prop := Claim7.holds Tryd.pinned (.plain (OpenSpec.ofChange imagePacksSpec)) imagePacksCard

/-- THE TIED CARD OF 'turnpikelaw17.ImageOpens'. -/
def imageOpensCard : Claim7 := { stood := { row := imageOpensRow, standIns := [], harness := (true, "d58d270735fa34096f50989bbd9a9603750c3f76dccb2f458ca3b27bdd531e16"), looks := false }, kinds := [], alts := [], laidByText := true, laidKinds := [.data], laidTests := true, laidLooks := .later }
def ImageOpensCardSaid : Prop := Claim7.holds Tryd.pinned (.plain (OpenSpec.ofChange imageOpensSpec)) imageOpensCard

/-- THE TIED CARD OF 'turnpikelaw17.ImageFinds'. -/
def imageFindsCard : Claim7 := { stood := { row := imageFindsRow, standIns := [], harness := (true, "d58d270735fa34096f50989bbd9a9603750c3f76dccb2f458ca3b27bdd531e16"), looks := false }, kinds := [], alts := [], laidByText := true, laidKinds := [.data], laidTests := true, laidLooks := .later }
def ImageFindsCardSaid : Prop := Claim7.holds Tryd.pinned (.plain (OpenSpec.ofChange imageFindsSpec)) imageFindsCard

/-- THE TIED CARD OF 'turnpikelaw17.ImageBack'. -/
def imageBackCard : Claim7 := { stood := { row := imageBackRow, standIns := [], harness := (true, "d58d270735fa34096f50989bbd9a9603750c3f76dccb2f458ca3b27bdd531e16"), looks := false }, kinds := [], alts := [], laidByText := true, laidKinds := [.data], laidTests := true, laidLooks := .later }
def ImageBackCardSaid : Prop := Claim7.holds Tryd.pinned (.plain (OpenSpec.ofChange imageBackSpec)) imageBackCard

/-- THE TIED CARD OF 'turnpikelaw17.ImageTurned'. -/
def imageTurnedCard : Claim7 := { stood := { row := imageTurnedRow, standIns := [], harness := (true, "d58d270735fa34096f50989bbd9a9603750c3f76dccb2f458ca3b27bdd531e16"), looks := false }, kinds := [], alts := [], laidByText := true, laidKinds := [.data], laidTests := true, laidLooks := .later }
def ImageTurnedCardSaid : Prop := Claim7.holds Tryd.pinned (.plain (OpenSpec.ofChange imageTurnedSpec)) imageTurnedCard

/-- THE TIED CARD OF 'turnpikelaw17.ImageAgain'. -/
def imageAgainCard : Claim7 := { stood := { row := imageAgainRow, standIns := [], harness := (true, "d58d270735fa34096f50989bbd9a9603750c3f76dccb2f458ca3b27bdd531e16"), looks := false }, kinds := [], alts := [], laidByText := true, laidKinds := [.data], laidTests := true, laidLooks := .later }
def ImageAgainCardSaid : Prop := Claim7.holds Tryd.pinned (.plain (OpenSpec.ofChange imageAgainSpec)) imageAgainCard

/-- THE SECOND FORM's CARD OF 'turnpikelaw17.ImagePacks'. -/
def imagePacksUptoCard : Claim7 := { stood := { row := imagePacksUptoRow, standIns := [], harness := (true, "d58d270735fa34096f50989bbd9a9603750c3f76dccb2f458ca3b27bdd531e16"), looks := false }, kinds := [], alts := [], laidByText := true, laidKinds := [.data], laidTests := true, laidLooks := .later }
def ImagePacksUptoCardSaid : Prop := Claim7.holds Tryd.pinned (.plain (OpenSpec.upto imagePacksSpec)) imagePacksUptoCard

/-- THE SECOND FORM's CARD OF 'turnpikelaw17.ImageOpens'. -/
def imageOpensUptoCard : Claim7 := { stood := { row := imageOpensUptoRow, standIns := [], harness := (true, "d58d270735fa34096f50989bbd9a9603750c3f76dccb2f458ca3b27bdd531e16"), looks := false }, kinds := [], alts := [], laidByText := true, laidKinds := [.data], laidTests := true, laidLooks := .later }
def ImageOpensUptoCardSaid : Prop := Claim7.holds Tryd.pinned (.plain (OpenSpec.upto imageOpensSpec)) imageOpensUptoCard

/-- THE SECOND FORM's CARD OF 'turnpikelaw17.ImageFinds'. -/
def imageFindsUptoCard : Claim7 := { stood := { row := imageFindsUptoRow, standIns := [], harness := (true, "d58d270735fa34096f50989bbd9a9603750c3f76dccb2f458ca3b27bdd531e16"), looks := false }, kinds := [], alts := [], laidByText := true, laidKinds := [.data], laidTests := true, laidLooks := .later }
def ImageFindsUptoCardSaid : Prop := Claim7.holds Tryd.pinned (.plain (OpenSpec.upto imageFindsSpec)) imageFindsUptoCard

/-- THE SECOND FORM's CARD OF 'turnpikelaw17.ImageBack'. -/
def imageBackUptoCard : Claim7 := { stood := { row := imageBackUptoRow, standIns := [], harness := (true, "d58d270735fa34096f50989bbd9a9603750c3f76dccb2f458ca3b27bdd531e16"), looks := false }, kinds := [], alts := [], laidByText := true, laidKinds := [.data], laidTests := true, laidLooks := .later }
def ImageBackUptoCardSaid : Prop := Claim7.holds Tryd.pinned (.plain (OpenSpec.upto imageBackSpec)) imageBackUptoCard

/-- THE SECOND FORM's CARD OF 'turnpikelaw17.ImageTurned'. -/
def imageTurnedUptoCard : Claim7 := { stood := { row := imageTurnedUptoRow, standIns := [], harness := (true, "d58d270735fa34096f50989bbd9a9603750c3f76dccb2f458ca3b27bdd531e16"), looks := false }, kinds := [], alts := [], laidByText := true, laidKinds := [.data], laidTests := true, laidLooks := .later }
def ImageTurnedUptoCardSaid : Prop := Claim7.holds Tryd.pinned (.plain (OpenSpec.upto imageTurnedSpec)) imageTurnedUptoCard

/-- THE SECOND FORM's CARD OF 'turnpikelaw17.ImageAgain'. -/
def imageAgainUptoCard : Claim7 := { stood := { row := imageAgainUptoRow, standIns := [], harness := (true, "d58d270735fa34096f50989bbd9a9603750c3f76dccb2f458ca3b27bdd531e16"), looks := false }, kinds := [], alts := [], laidByText := true, laidKinds := [.data], laidTests := true, laidLooks := .later }
def ImageAgainUptoCardSaid : Prop := Claim7.holds Tryd.pinned (.plain (OpenSpec.upto imageAgainSpec)) imageAgainUptoCard
end Rows
end Go.Proofs.YtgbhbooogofmbaaDoor
