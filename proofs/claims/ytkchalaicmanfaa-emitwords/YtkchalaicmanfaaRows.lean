/-
  No cell of these rows narrows 'for every input' (looked for: loops, veiled, ifaces, maps, wideKeys, modest, calm, conditions, laid).
  DERIVED. THE GIVEN ROWS OF THIS SEAT. 6 by the template 'for every input the law returns true; each argument reads behind the call as it read before'; 0 by the template 'total and deterministic' (their statements: YtkchalaicmanfaaTotals.lean).
  GIVEN WITH THE SEED: the statements are not yours to turn. If you find one false, say at which input.
  Laid BY PROGRAM, IN A SANDBOX (cutbox-rows.mjs): the forced cells as the released guide's own fill.sh prints them over the translation 0bfd06c1520a3a9c… (all of the seat's roots in one cut). By AI agents, Wed Nov 11 2026. No macro, syntax, notation, axiom, sorry.
-/
import Derived.Test.YtkchalaicmanfaaChecked
import GoSem.Claim
import GoSem.ClaimJoined
import GoSem.ClaimMapViews
import Derived.JoinedTies
import Derived.KernelRfl
namespace Go.Proofs.Ytkchalaicmanfaa
/- THE CELL 'sum', in the pinned program and in every row, IS THE sha256 OF THE DUMP (.gsa) THAT YtkchalaicmanfaaProg.lean LOADS. Nothing in Lean hashes anything: it is a label: what it is worth is what the hold of that sum in a sandbox is worth. -/
noncomputable def Try.pinned : Pinned := { name := "ytkchalaicmanfaa", sum := "0bfd06c1520a3a9c65669a4e6e6416288edc08f037bfbcac84d6519f59c8934d", checked := Try.checked }
namespace Rows
def none {H : Type} : Left H := { results := [], args := [] }

/-- 'turnpikelaw16.EmitWords': WHATEVER THE INPUT: true; the input reads as it did. -/
def emitWordsSpec : ChangeSpec := { name := "emitWords", fn := fun _ => fun
  | [d] => { results := [.lit (.bool true)], args := [d] }
  | _ => none }
def emitWordsRow : OpenClaim := { program := "ytkchalaicmanfaa", sum := "0bfd06c1520a3a9c65669a4e6e6416288edc08f037bfbcac84d6519f59c8934d", func := "turnpike/turnpikelaw16.EmitWords", spec := "emitWords", unfollowed := true, recurses := true, apart := false }
def EmitWordsSaid : Prop := emitWordsRow.holds Try.pinned (OpenSpec.ofChange emitWordsSpec)

/-- ITS FALSE NEIGHBOUR: 'it returns false'. Refute it at one input. -/
def emitWordsWrong : ChangeSpec := { name := "emitWords", fn := fun _ => fun
  | [d] => { results := [.lit (.bool false)], args := [d] }
  | _ => none }
def EmitWordsWrongFalsely : Prop := emitWordsRow.holds Try.pinned (OpenSpec.ofChange emitWordsWrong)

/-- 'turnpikelaw16.EmitOrders': WHATEVER THE INPUT: true; the input reads as it did. -/
def emitOrdersSpec : ChangeSpec := { name := "emitOrders", fn := fun _ => fun
  | [d1, d2] => { results := [.lit (.bool true)], args := [d1, d2] }
  | _ => none }
def emitOrdersRow : OpenClaim := { program := "ytkchalaicmanfaa", sum := "0bfd06c1520a3a9c65669a4e6e6416288edc08f037bfbcac84d6519f59c8934d", func := "turnpike/turnpikelaw16.EmitOrders", spec := "emitOrders", unfollowed := true, recurses := true, apart := false }
def EmitOrdersSaid : Prop := emitOrdersRow.holds Try.pinned (OpenSpec.ofChange emitOrdersSpec)

/-- ITS FALSE NEIGHBOUR: 'it returns false'. Refute it at one input. -/
def emitOrdersWrong : ChangeSpec := { name := "emitOrders", fn := fun _ => fun
  | [d1, d2] => { results := [.lit (.bool false)], args := [d1, d2] }
  | _ => none }
def EmitOrdersWrongFalsely : Prop := emitOrdersRow.holds Try.pinned (OpenSpec.ofChange emitOrdersWrong)

/-- 'turnpikelaw16.EmitCodes': WHATEVER THE INPUT: true; the input reads as it did. -/
def emitCodesSpec : ChangeSpec := { name := "emitCodes", fn := fun _ => fun
  | [d1, d2, d3] => { results := [.lit (.bool true)], args := [d1, d2, d3] }
  | _ => none }
def emitCodesRow : OpenClaim := { program := "ytkchalaicmanfaa", sum := "0bfd06c1520a3a9c65669a4e6e6416288edc08f037bfbcac84d6519f59c8934d", func := "turnpike/turnpikelaw16.EmitCodes", spec := "emitCodes", unfollowed := true, recurses := true, apart := false }
def EmitCodesSaid : Prop := emitCodesRow.holds Try.pinned (OpenSpec.ofChange emitCodesSpec)

/-- ITS FALSE NEIGHBOUR: 'it returns false'. Refute it at one input. -/
def emitCodesWrong : ChangeSpec := { name := "emitCodes", fn := fun _ => fun
  | [d1, d2, d3] => { results := [.lit (.bool false)], args := [d1, d2, d3] }
  | _ => none }
def EmitCodesWrongFalsely : Prop := emitCodesRow.holds Try.pinned (OpenSpec.ofChange emitCodesWrong)

/-- 'turnpikelaw16.EmitVerified': WHATEVER THE INPUT: true; the input reads as it did. -/
def emitVerifiedSpec : ChangeSpec := { name := "emitVerified", fn := fun _ => fun
  | [d1, d2] => { results := [.lit (.bool true)], args := [d1, d2] }
  | _ => none }
def emitVerifiedRow : OpenClaim := { program := "ytkchalaicmanfaa", sum := "0bfd06c1520a3a9c65669a4e6e6416288edc08f037bfbcac84d6519f59c8934d", func := "turnpike/turnpikelaw16.EmitVerified", spec := "emitVerified", unfollowed := true, recurses := true, apart := false }
def EmitVerifiedSaid : Prop := emitVerifiedRow.holds Try.pinned (OpenSpec.ofChange emitVerifiedSpec)

/-- ITS FALSE NEIGHBOUR: 'it returns false'. Refute it at one input. -/
def emitVerifiedWrong : ChangeSpec := { name := "emitVerified", fn := fun _ => fun
  | [d1, d2] => { results := [.lit (.bool false)], args := [d1, d2] }
  | _ => none }
def EmitVerifiedWrongFalsely : Prop := emitVerifiedRow.holds Try.pinned (OpenSpec.ofChange emitVerifiedWrong)

/-- 'turnpikelaw16.EmitPlaces': WHATEVER THE INPUT: true; the input reads as it did. -/
def emitPlacesSpec : ChangeSpec := { name := "emitPlaces", fn := fun _ => fun
  | [d1, d2] => { results := [.lit (.bool true)], args := [d1, d2] }
  | _ => none }
def emitPlacesRow : OpenClaim := { program := "ytkchalaicmanfaa", sum := "0bfd06c1520a3a9c65669a4e6e6416288edc08f037bfbcac84d6519f59c8934d", func := "turnpike/turnpikelaw16.EmitPlaces", spec := "emitPlaces", unfollowed := true, recurses := true, apart := false }
def EmitPlacesSaid : Prop := emitPlacesRow.holds Try.pinned (OpenSpec.ofChange emitPlacesSpec)

/-- ITS FALSE NEIGHBOUR: 'it returns false'. Refute it at one input. -/
def emitPlacesWrong : ChangeSpec := { name := "emitPlaces", fn := fun _ => fun
  | [d1, d2] => { results := [.lit (.bool false)], args := [d1, d2] }
  | _ => none }
def EmitPlacesWrongFalsely : Prop := emitPlacesRow.holds Try.pinned (OpenSpec.ofChange emitPlacesWrong)

/-- 'turnpikelaw16.EmitBound': WHATEVER THE INPUT: true; the input reads as it did. -/
def emitBoundSpec : ChangeSpec := { name := "emitBound", fn := fun _ => fun
  | [d] => { results := [.lit (.bool true)], args := [d] }
  | _ => none }
def emitBoundRow : OpenClaim := { program := "ytkchalaicmanfaa", sum := "0bfd06c1520a3a9c65669a4e6e6416288edc08f037bfbcac84d6519f59c8934d", func := "turnpike/turnpikelaw16.EmitBound", spec := "emitBound", unfollowed := true, recurses := true, apart := false }
def EmitBoundSaid : Prop := emitBoundRow.holds Try.pinned (OpenSpec.ofChange emitBoundSpec)

/-- ITS FALSE NEIGHBOUR: 'it returns false'. Refute it at one input. -/
def emitBoundWrong : ChangeSpec := { name := "emitBound", fn := fun _ => fun
  | [d] => { results := [.lit (.bool false)], args := [d] }
  | _ => none }
def EmitBoundWrongFalsely : Prop := emitBoundRow.holds Try.pinned (OpenSpec.ofChange emitBoundWrong)

/- THE SECOND FORM. 'bulk': how many values and letters a reading holds, each counted each time it is reached (what is shared counts as often as it is met; a slice's spare places count too). A statement '..UptoSaid' is the law's where the arguments, and the package variables that the reading takes, are together of bulk at most 1048576: NARROWER than '..Said'. Prove '..Said' where nothing that the law and all that it calls make is longer than what came in: it says more and counts as full. Else prove '..UptoSaid'. A law counts once. -/
mutual
def uptoBulk {H : Type} : DataW H → Nat
  | .lit (.string bytes) => bytes.length + 1
  | .lit _ => 1
  | .nil => 1
  | .ptr d => uptoBulk d + 1
  | .slice elems spare => uptoBulkAll elems + uptoBulkAll spare + 1
  | .agg parts => uptoBulkAll parts + 1
  | .iface _ d => uptoBulk d + 1
  | .map entries => uptoBulkEntries entries + 1
  | .held _ => 1
def uptoBulkAll {H : Type} : List (DataW H) → Nat
  | [] => 0
  | d :: r => uptoBulk d + uptoBulkAll r
def uptoBulkEntries {H : Type} : List (Lit × DataW H) → Nat
  | [] => 0
  | x :: r => uptoBulkEntry x + uptoBulkEntries r
def uptoBulkEntry {H : Type} : Lit × DataW H → Nat
  | (.string bytes, d) => bytes.length + uptoBulk d + 1
  | (_, d) => uptoBulk d + 1
 end
def uptoSmall : (H : Type) → List (DataW H) → Bool := fun _ ds => decide (uptoBulkAll ds ≤ 1048576)
def OpenSpec.upto (s : _root_.Go.ChangeSpec) : _root_.Go.OpenSpec := { _root_.Go.OpenSpec.ofChange s with cond := some uptoSmall }

/-- 'turnpikelaw16.EmitWords', WHERE WHAT IT READS IS OF BULK AT MOST 1048576: true; the input reads as it did. -/
def emitWordsUptoRow : OpenClaim := { program := "ytkchalaicmanfaa", sum := "0bfd06c1520a3a9c65669a4e6e6416288edc08f037bfbcac84d6519f59c8934d", func := "turnpike/turnpikelaw16.EmitWords", spec := "emitWords", unfollowed := true, recurses := true, apart := false, narrowed := true }
def EmitWordsUptoSaid : Prop := emitWordsUptoRow.holds Try.pinned (OpenSpec.upto emitWordsSpec)

/-- 'turnpikelaw16.EmitOrders', WHERE WHAT IT READS IS OF BULK AT MOST 1048576: true; the input reads as it did. -/
def emitOrdersUptoRow : OpenClaim := { program := "ytkchalaicmanfaa", sum := "0bfd06c1520a3a9c65669a4e6e6416288edc08f037bfbcac84d6519f59c8934d", func := "turnpike/turnpikelaw16.EmitOrders", spec := "emitOrders", unfollowed := true, recurses := true, apart := false, narrowed := true }
def EmitOrdersUptoSaid : Prop := emitOrdersUptoRow.holds Try.pinned (OpenSpec.upto emitOrdersSpec)

/-- 'turnpikelaw16.EmitCodes', WHERE WHAT IT READS IS OF BULK AT MOST 1048576: true; the input reads as it did. -/
def emitCodesUptoRow : OpenClaim := { program := "ytkchalaicmanfaa", sum := "0bfd06c1520a3a9c65669a4e6e6416288edc08f037bfbcac84d6519f59c8934d", func := "turnpike/turnpikelaw16.EmitCodes", spec := "emitCodes", unfollowed := true, recurses := true, apart := false, narrowed := true }
def EmitCodesUptoSaid : Prop := emitCodesUptoRow.holds Try.pinned (OpenSpec.upto emitCodesSpec)

/-- 'turnpikelaw16.EmitVerified', WHERE WHAT IT READS IS OF BULK AT MOST 1048576: true; the input reads as it did. -/
def emitVerifiedUptoRow : OpenClaim := { program := "ytkchalaicmanfaa", sum := "0bfd06c1520a3a9c65669a4e6e6416288edc08f037bfbcac84d6519f59c8934d", func := "turnpike/turnpikelaw16.EmitVerified", spec := "emitVerified", unfollowed := true, recurses := true, apart := false, narrowed := true }
def EmitVerifiedUptoSaid : Prop := emitVerifiedUptoRow.holds Try.pinned (OpenSpec.upto emitVerifiedSpec)

/-- 'turnpikelaw16.EmitPlaces', WHERE WHAT IT READS IS OF BULK AT MOST 1048576: true; the input reads as it did. -/
def emitPlacesUptoRow : OpenClaim := { program := "ytkchalaicmanfaa", sum := "0bfd06c1520a3a9c65669a4e6e6416288edc08f037bfbcac84d6519f59c8934d", func := "turnpike/turnpikelaw16.EmitPlaces", spec := "emitPlaces", unfollowed := true, recurses := true, apart := false, narrowed := true }
def EmitPlacesUptoSaid : Prop := emitPlacesUptoRow.holds Try.pinned (OpenSpec.upto emitPlacesSpec)

/-- 'turnpikelaw16.EmitBound', WHERE WHAT IT READS IS OF BULK AT MOST 1048576: true; the input reads as it did. -/
def emitBoundUptoRow : OpenClaim := { program := "ytkchalaicmanfaa", sum := "0bfd06c1520a3a9c65669a4e6e6416288edc08f037bfbcac84d6519f59c8934d", func := "turnpike/turnpikelaw16.EmitBound", spec := "emitBound", unfollowed := true, recurses := true, apart := false, narrowed := true }
def EmitBoundUptoSaid : Prop := emitBoundUptoRow.holds Try.pinned (OpenSpec.upto emitBoundSpec)

end Rows
end Go.Proofs.Ytkchalaicmanfaa
