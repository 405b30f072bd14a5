/-
  NARROWER THAN 'FOR EVERY INPUT', by the rows' own cells (each row's printed sentence says how): ImagePacks: laid · ImageOpens: laid · ImageFinds: laid · ImageBack: laid · ImageTurned: laid · ImageAgain: laid.
  DERIVED. THE GIVEN ROWS OF THIS SEAT. 6 by the template 'for every input the law returns true; each argument reads behind the call as it read before'; 0 by the template 'total and deterministic' (their statements: YtgbhbooogofmbaaDoorTotals.lean).
  GIVEN WITH THE SEED: the statements are not yours to turn. If you find one false, say at which input.
  Laid BY PROGRAM, IN A SANDBOX (cutbox-rows.mjs): the forced cells as the released guide's own fill.sh prints them over the translation a54b2098cb0c0fd5… (all of the seat's roots in one cut). By AI agents, Wed Nov 11 2026. No macro, syntax, notation, axiom, sorry.
-/
import Derived.Test.YtgbhbooogofmbaaDoorChecked
import GoSem.Claim
import GoSem.ClaimJoined
import GoSem.ClaimMapViews
import Derived.JoinedTies
import Derived.KernelRfl
namespace Go.Proofs.YtgbhbooogofmbaaDoor
/- THE CELL 'sum', in the pinned program and in every row, IS THE sha256 OF THE DUMP (.gsa) THAT YtgbhbooogofmbaaDoorProg.lean LOADS. Nothing in Lean hashes anything: it is a label: what it is worth is what the hold of that sum in a sandbox is worth. -/
noncomputable def Tryd.pinned : Pinned := { name := "ytgbhbooogofmbaadoor", sum := "a54b2098cb0c0fd510450d15096c4afd5a229d787d7c2110569463ebc5f6e25f", checked := Tryd.checked }
namespace Rows
def none {H : Type} : Left H := { results := [], args := [] }

/- WHAT THE LISTED PACKAGE-LEVEL VARIABLES READ AS WHEN THE CALL BEGINS. Each datum BY PROGRAM (the guide's laid-datum.mjs) off the statement by which the dump's own 'gosem.cut.vars' lays the variable. In a bare row this is a premise. The card (YtgbhbooogofmbaaDoorCards.lean) ties it to the program's text. -/
def laid_turnpike_wire_ofHalf {H : Type} : DataW H := .agg [.lit (.int .u32 0), .lit (.int .u32 274646895), .lit (.int .u32 549293790), .lit (.int .u32 820201905), .lit (.int .u32 1098587580), .lit (.int .u32 1361435347), .lit (.int .u32 1640403810), .lit (.int .u32 1905808397), .lit (.int .u32 2197175160), .lit (.int .u32 2460548119), .lit (.int .u32 2722870694), .lit (.int .u32 2987750089), .lit (.int .u32 3280807620), .lit (.int .u32 3553878443), .lit (.int .u32 3811616794), .lit (.int .u32 4084100981)]

/-- 'turnpikelaw17.ImagePacks': WHATEVER THE INPUT: true; the input reads as it did. -/
def imagePacksSpec : ChangeSpec := { name := "imagePacks", fn := fun _ => fun
  | [d1, d2] => { results := [.lit (.bool true)], args := [d1, d2] }
  | _ => none }
def imagePacksRow : OpenClaim := { program := "ytgbhbooogofmbaadoor", sum := "a54b2098cb0c0fd510450d15096c4afd5a229d787d7c2110569463ebc5f6e25f", func := "turnpike/turnpikelaw17.ImagePacks", spec := "imagePacks", named := ["turnpike/wire.ofHalf"], apart := false, laid := [("turnpike/wire.ofHalf", laid_turnpike_wire_ofHalf)] }
def ImagePacksSaid : Prop := imagePacksRow.holds Tryd.pinned (OpenSpec.ofChange imagePacksSpec)

/-- ITS FALSE NEIGHBOUR: 'it returns false'. Refute it at one input. -/
def imagePacksWrong : ChangeSpec := { name := "imagePacks", fn := fun _ => fun
  | [d1, d2] => { results := [.lit (.bool false)], args := [d1, d2] }
  | _ => none }
def ImagePacksWrongFalsely : Prop := imagePacksRow.holds Tryd.pinned (OpenSpec.ofChange imagePacksWrong)

/-- 'turnpikelaw17.ImageOpens': WHATEVER THE INPUT: true; the input reads as it did. -/
def imageOpensSpec : ChangeSpec := { name := "imageOpens", fn := fun _ => fun
  | [d1, d2] => { results := [.lit (.bool true)], args := [d1, d2] }
  | _ => none }
def imageOpensRow : OpenClaim := { program := "ytgbhbooogofmbaadoor", sum := "a54b2098cb0c0fd510450d15096c4afd5a229d787d7c2110569463ebc5f6e25f", func := "turnpike/turnpikelaw17.ImageOpens", spec := "imageOpens", named := ["turnpike/wire.ofHalf"], apart := false, laid := [("turnpike/wire.ofHalf", laid_turnpike_wire_ofHalf)] }
def ImageOpensSaid : Prop := imageOpensRow.holds Tryd.pinned (OpenSpec.ofChange imageOpensSpec)

/-- ITS FALSE NEIGHBOUR: 'it returns false'. Refute it at one input. -/
def imageOpensWrong : ChangeSpec := { name := "imageOpens", fn := fun _ => fun
  | [d1, d2] => { results := [.lit (.bool false)], args := [d1, d2] }
  | _ => none }
def ImageOpensWrongFalsely : Prop := imageOpensRow.holds Tryd.pinned (OpenSpec.ofChange imageOpensWrong)

/-- 'turnpikelaw17.ImageFinds': WHATEVER THE INPUT: true; the input reads as it did. -/
def imageFindsSpec : ChangeSpec := { name := "imageFinds", fn := fun _ => fun
  | [d] => { results := [.lit (.bool true)], args := [d] }
  | _ => none }
def imageFindsRow : OpenClaim := { program := "ytgbhbooogofmbaadoor", sum := "a54b2098cb0c0fd510450d15096c4afd5a229d787d7c2110569463ebc5f6e25f", func := "turnpike/turnpikelaw17.ImageFinds", spec := "imageFinds", named := ["turnpike/wire.ofHalf"], apart := false, laid := [("turnpike/wire.ofHalf", laid_turnpike_wire_ofHalf)] }
def ImageFindsSaid : Prop := imageFindsRow.holds Tryd.pinned (OpenSpec.ofChange imageFindsSpec)

/-- ITS FALSE NEIGHBOUR: 'it returns false'. Refute it at one input. -/
def imageFindsWrong : ChangeSpec := { name := "imageFinds", fn := fun _ => fun
  | [d] => { results := [.lit (.bool false)], args := [d] }
  | _ => none }
def ImageFindsWrongFalsely : Prop := imageFindsRow.holds Tryd.pinned (OpenSpec.ofChange imageFindsWrong)

/-- 'turnpikelaw17.ImageBack': WHATEVER THE INPUT: true; the input reads as it did. -/
def imageBackSpec : ChangeSpec := { name := "imageBack", fn := fun _ => fun
  | [d1, d2, d3, d4, d5] => { results := [.lit (.bool true)], args := [d1, d2, d3, d4, d5] }
  | _ => none }
def imageBackRow : OpenClaim := { program := "ytgbhbooogofmbaadoor", sum := "a54b2098cb0c0fd510450d15096c4afd5a229d787d7c2110569463ebc5f6e25f", func := "turnpike/turnpikelaw17.ImageBack", spec := "imageBack", named := ["turnpike/wire.ofHalf"], apart := false, laid := [("turnpike/wire.ofHalf", laid_turnpike_wire_ofHalf)] }
def ImageBackSaid : Prop := imageBackRow.holds Tryd.pinned (OpenSpec.ofChange imageBackSpec)

/-- ITS FALSE NEIGHBOUR: 'it returns false'. Refute it at one input. -/
def imageBackWrong : ChangeSpec := { name := "imageBack", fn := fun _ => fun
  | [d1, d2, d3, d4, d5] => { results := [.lit (.bool false)], args := [d1, d2, d3, d4, d5] }
  | _ => none }
def ImageBackWrongFalsely : Prop := imageBackRow.holds Tryd.pinned (OpenSpec.ofChange imageBackWrong)

/-- 'turnpikelaw17.ImageTurned': WHATEVER THE INPUT: true; the input reads as it did. -/
def imageTurnedSpec : ChangeSpec := { name := "imageTurned", fn := fun _ => fun
  | [d1, d2, d3, d4, d5] => { results := [.lit (.bool true)], args := [d1, d2, d3, d4, d5] }
  | _ => none }
def imageTurnedRow : OpenClaim := { program := "ytgbhbooogofmbaadoor", sum := "a54b2098cb0c0fd510450d15096c4afd5a229d787d7c2110569463ebc5f6e25f", func := "turnpike/turnpikelaw17.ImageTurned", spec := "imageTurned", named := ["turnpike/wire.ofHalf"], apart := false, laid := [("turnpike/wire.ofHalf", laid_turnpike_wire_ofHalf)] }
def ImageTurnedSaid : Prop := imageTurnedRow.holds Tryd.pinned (OpenSpec.ofChange imageTurnedSpec)

/-- ITS FALSE NEIGHBOUR: 'it returns false'. Refute it at one input. -/
def imageTurnedWrong : ChangeSpec := { name := "imageTurned", fn := fun _ => fun
  | [d1, d2, d3, d4, d5] => { results := [.lit (.bool false)], args := [d1, d2, d3, d4, d5] }
  | _ => none }
def ImageTurnedWrongFalsely : Prop := imageTurnedRow.holds Tryd.pinned (OpenSpec.ofChange imageTurnedWrong)

/-- 'turnpikelaw17.ImageAgain': WHATEVER THE INPUT: true; the input reads as it did. -/
def imageAgainSpec : ChangeSpec := { name := "imageAgain", fn := fun _ => fun
  | [d1, d2] => { results := [.lit (.bool true)], args := [d1, d2] }
  | _ => none }
def imageAgainRow : OpenClaim := { program := "ytgbhbooogofmbaadoor", sum := "a54b2098cb0c0fd510450d15096c4afd5a229d787d7c2110569463ebc5f6e25f", func := "turnpike/turnpikelaw17.ImageAgain", spec := "imageAgain", named := ["turnpike/wire.ofHalf"], apart := false, laid := [("turnpike/wire.ofHalf", laid_turnpike_wire_ofHalf)] }
def ImageAgainSaid : Prop := imageAgainRow.holds Tryd.pinned (OpenSpec.ofChange imageAgainSpec)

/-- ITS FALSE NEIGHBOUR: 'it returns false'. Refute it at one input. -/
def imageAgainWrong : ChangeSpec := { name := "imageAgain", fn := fun _ => fun
  | [d1, d2] => { results := [.lit (.bool false)], args := [d1, d2] }
  | _ => none }
def ImageAgainWrongFalsely : Prop := imageAgainRow.holds Tryd.pinned (OpenSpec.ofChange imageAgainWrong)

/- THE SECOND FORM. 'bulk': how many values and letters a reading holds, each counted each time it is reached (what is shared counts as often as it is met; a slice's spare places count too). A statement '..UptoSaid' is the law's where the arguments, and the package variables that the reading takes, are together of bulk at most 1048576: NARROWER than '..Said'. Prove '..Said' where nothing that the law and all that it calls make is longer than what came in: it says more and counts as full. Else prove '..UptoSaid'. A law counts once. -/
mutual
def uptoBulk {H : Type} : DataW H → Nat
  | .lit (.string bytes) => bytes.length + 1
  | .lit _ => 1
  | .nil => 1
  | .ptr d => uptoBulk d + 1
  | .slice elems spare => uptoBulkAll elems + uptoBulkAll spare + 1
  | .agg parts => uptoBulkAll parts + 1
  | .iface _ d => uptoBulk d + 1
  | .map entries => uptoBulkEntries entries + 1
  | .held _ => 1
def uptoBulkAll {H : Type} : List (DataW H) → Nat
  | [] => 0
  | d :: r => uptoBulk d + uptoBulkAll r
def uptoBulkEntries {H : Type} : List (Lit × DataW H) → Nat
  | [] => 0
  | x :: r => uptoBulkEntry x + uptoBulkEntries r
def uptoBulkEntry {H : Type} : Lit × DataW H → Nat
  | (.string bytes, d) => bytes.length + uptoBulk d + 1
  | (_, d) => uptoBulk d + 1
 end
def uptoSmall : (H : Type) → List (DataW H) → Bool := fun _ ds => decide (uptoBulkAll ds ≤ 1048576)
def OpenSpec.upto (s : _root_.Go.ChangeSpec) : _root_.Go.OpenSpec := { _root_.Go.OpenSpec.ofChange s with cond := some uptoSmall }

/-- 'turnpikelaw17.ImagePacks', WHERE WHAT IT READS IS OF BULK AT MOST 1048576: true; the input reads as it did. -/
def imagePacksUptoRow : OpenClaim := { program := "ytgbhbooogofmbaadoor", sum := "a54b2098cb0c0fd510450d15096c4afd5a229d787d7c2110569463ebc5f6e25f", func := "turnpike/turnpikelaw17.ImagePacks", spec := "imagePacks", named := ["turnpike/wire.ofHalf"], apart := false, laid := [("turnpike/wire.ofHalf", laid_turnpike_wire_ofHalf)], narrowed := true }
def ImagePacksUptoSaid : Prop := imagePacksUptoRow.holds Tryd.pinned (OpenSpec.upto imagePacksSpec)

/-- 'turnpikelaw17.ImageOpens', WHERE WHAT IT READS IS OF BULK AT MOST 1048576: true; the input reads as it did. -/
def imageOpensUptoRow : OpenClaim := { program := "ytgbhbooogofmbaadoor", sum := "a54b2098cb0c0fd510450d15096c4afd5a229d787d7c2110569463ebc5f6e25f", func := "turnpike/turnpikelaw17.ImageOpens", spec := "imageOpens", named := ["turnpike/wire.ofHalf"], apart := false, laid := [("turnpike/wire.ofHalf", laid_turnpike_wire_ofHalf)], narrowed := true }
def ImageOpensUptoSaid : Prop := imageOpensUptoRow.holds Tryd.pinned (OpenSpec.upto imageOpensSpec)

/-- 'turnpikelaw17.ImageFinds', WHERE WHAT IT READS IS OF BULK AT MOST 1048576: true; the input reads as it did. -/
def imageFindsUptoRow : OpenClaim := { program := "ytgbhbooogofmbaadoor", sum := "a54b2098cb0c0fd510450d15096c4afd5a229d787d7c2110569463ebc5f6e25f", func := "turnpike/turnpikelaw17.ImageFinds", spec := "imageFinds", named := ["turnpike/wire.ofHalf"], apart := false, laid := [("turnpike/wire.ofHalf", laid_turnpike_wire_ofHalf)], narrowed := true }
def ImageFindsUptoSaid : Prop := imageFindsUptoRow.holds Tryd.pinned (OpenSpec.upto imageFindsSpec)

/-- 'turnpikelaw17.ImageBack', WHERE WHAT IT READS IS OF BULK AT MOST 1048576: true; the input reads as it did. -/
def imageBackUptoRow : OpenClaim := { program := "ytgbhbooogofmbaadoor", sum := "a54b2098cb0c0fd510450d15096c4afd5a229d787d7c2110569463ebc5f6e25f", func := "turnpike/turnpikelaw17.ImageBack", spec := "imageBack", named := ["turnpike/wire.ofHalf"], apart := false, laid := [("turnpike/wire.ofHalf", laid_turnpike_wire_ofHalf)], narrowed := true }
def ImageBackUptoSaid : Prop := imageBackUptoRow.holds Tryd.pinned (OpenSpec.upto imageBackSpec)

/-- 'turnpikelaw17.ImageTurned', WHERE WHAT IT READS IS OF BULK AT MOST 1048576: true; the input reads as it did. -/
def imageTurnedUptoRow : OpenClaim := { program := "ytgbhbooogofmbaadoor", sum := "a54b2098cb0c0fd510450d15096c4afd5a229d787d7c2110569463ebc5f6e25f", func := "turnpike/turnpikelaw17.ImageTurned", spec := "imageTurned", named := ["turnpike/wire.ofHalf"], apart := false, laid := [("turnpike/wire.ofHalf", laid_turnpike_wire_ofHalf)], narrowed := true }
def ImageTurnedUptoSaid : Prop := imageTurnedUptoRow.holds Tryd.pinned (OpenSpec.upto imageTurnedSpec)

/-- 'turnpikelaw17.ImageAgain', WHERE WHAT IT READS IS OF BULK AT MOST 1048576: true; the input reads as it did. -/
def imageAgainUptoRow : OpenClaim := { program := "ytgbhbooogofmbaadoor", sum := "a54b2098cb0c0fd510450d15096c4afd5a229d787d7c2110569463ebc5f6e25f", func := "turnpike/turnpikelaw17.ImageAgain", spec := "imageAgain", named := ["turnpike/wire.ofHalf"], apart := false, laid := [("turnpike/wire.ofHalf", laid_turnpike_wire_ofHalf)], narrowed := true }
def ImageAgainUptoSaid : Prop := imageAgainUptoRow.holds Tryd.pinned (OpenSpec.upto imageAgainSpec)

end Rows
end Go.Proofs.YtgbhbooogofmbaaDoor
