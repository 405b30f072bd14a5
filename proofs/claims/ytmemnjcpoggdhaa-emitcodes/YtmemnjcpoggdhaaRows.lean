/-
  No cell of these rows narrows 'for every input' (looked for: loops, veiled, ifaces, maps, wideKeys, modest, calm, conditions, laid).
  DERIVED. THE GIVEN ROWS OF THIS SEAT. 6 by the template 'for every input the law returns true; each argument reads behind the call as it read before'; 0 by the template 'total and deterministic' (their statements: YtmemnjcpoggdhaaTotals.lean).
  GIVEN WITH THE SEED: the statements are not yours to turn. If you find one false, say at which input.
  Laid BY PROGRAM, IN A SANDBOX (cutbox-rows.mjs): the forced cells as the released guide's own fill.sh prints them over the translation 1c867d37083fb456… (all of the seat's roots in one cut). By AI agents, Wed Nov 11 2026. No macro, syntax, notation, axiom, sorry.
-/
import Derived.Test.YtmemnjcpoggdhaaChecked
import GoSem.Claim
import GoSem.ClaimJoined
import GoSem.ClaimMapViews
import Derived.JoinedTies
import Derived.KernelRfl
namespace Go.Proofs.Ytmemnjcpoggdhaa
/- THE CELL 'sum', in the pinned program and in every row, IS THE sha256 OF THE DUMP (.gsa) THAT YtmemnjcpoggdhaaProg.lean LOADS. Nothing in Lean hashes anything: it is a label: what it is worth is what the hold of that sum in a sandbox is worth. -/
noncomputable def Try.pinned : Pinned := { name := "ytmemnjcpoggdhaa", sum := "1c867d37083fb4566e306783d58775a5b61cf3312eb313ead8d76ddb4f819884", checked := Try.checked }
namespace Rows
def none {H : Type} : Left H := { results := [], args := [] }

/-- 'turnpikelaw16.EmitOrders': WHATEVER THE INPUT: true; the input reads as it did. -/
def emitOrdersSpec : ChangeSpec := { name := "emitOrders", fn := fun _ => fun
  | [d1, d2] => { results := [.lit (.bool true)], args := [d1, d2] }
  | _ => none }
def emitOrdersRow : OpenClaim := { program := "ytmemnjcpoggdhaa", sum := "1c867d37083fb4566e306783d58775a5b61cf3312eb313ead8d76ddb4f819884", func := "turnpike/turnpikelaw16.EmitOrders", spec := "emitOrders", unfollowed := true, recurses := true, plainKeys := false, apart := false }
def EmitOrdersSaid : Prop := emitOrdersRow.holds Try.pinned (OpenSpec.ofChange emitOrdersSpec)

/-- ITS FALSE NEIGHBOUR: 'it returns false'. Refute it at one input. -/
def emitOrdersWrong : ChangeSpec := { name := "emitOrders", fn := fun _ => fun
  | [d1, d2] => { results := [.lit (.bool false)], args := [d1, d2] }
  | _ => none }
def EmitOrdersWrongFalsely : Prop := emitOrdersRow.holds Try.pinned (OpenSpec.ofChange emitOrdersWrong)

/-- 'turnpikelaw16.EmitCodes': WHATEVER THE INPUT: true; the input reads as it did. -/
def emitCodesSpec : ChangeSpec := { name := "emitCodes", fn := fun _ => fun
  | [d1, d2, d3] => { results := [.lit (.bool true)], args := [d1, d2, d3] }
  | _ => none }
def emitCodesRow : OpenClaim := { program := "ytmemnjcpoggdhaa", sum := "1c867d37083fb4566e306783d58775a5b61cf3312eb313ead8d76ddb4f819884", func := "turnpike/turnpikelaw16.EmitCodes", spec := "emitCodes", unfollowed := true, recurses := true, plainKeys := false, apart := false }
def EmitCodesSaid : Prop := emitCodesRow.holds Try.pinned (OpenSpec.ofChange emitCodesSpec)

/-- ITS FALSE NEIGHBOUR: 'it returns false'. Refute it at one input. -/
def emitCodesWrong : ChangeSpec := { name := "emitCodes", fn := fun _ => fun
  | [d1, d2, d3] => { results := [.lit (.bool false)], args := [d1, d2, d3] }
  | _ => none }
def EmitCodesWrongFalsely : Prop := emitCodesRow.holds Try.pinned (OpenSpec.ofChange emitCodesWrong)

/-- 'turnpikelaw16.EmitVerified': WHATEVER THE INPUT: true; the input reads as it did. -/
def emitVerifiedSpec : ChangeSpec := { name := "emitVerified", fn := fun _ => fun
  | [d1, d2] => { results := [.lit (.bool true)], args := [d1, d2] }
  | _ => none }
def emitVerifiedRow : OpenClaim := { program := "ytmemnjcpoggdhaa", sum := "1c867d37083fb4566e306783d58775a5b61cf3312eb313ead8d76ddb4f819884", func := "turnpike/turnpikelaw16.EmitVerified", spec := "emitVerified", unfollowed := true, recurses := true, plainKeys := false, apart := false }
def EmitVerifiedSaid : Prop := emitVerifiedRow.holds Try.pinned (OpenSpec.ofChange emitVerifiedSpec)

/-- ITS FALSE NEIGHBOUR: 'it returns false'. Refute it at one input. -/
def emitVerifiedWrong : ChangeSpec := { name := "emitVerified", fn := fun _ => fun
  | [d1, d2] => { results := [.lit (.bool false)], args := [d1, d2] }
  | _ => none }
def EmitVerifiedWrongFalsely : Prop := emitVerifiedRow.holds Try.pinned (OpenSpec.ofChange emitVerifiedWrong)

/-- 'turnpikelaw12.ShareNodes': WHATEVER THE INPUT: true; the input reads as it did. -/
def shareNodesSpec : ChangeSpec := { name := "shareNodes", fn := fun _ => fun
  | [d1, d2] => { results := [.lit (.bool true)], args := [d1, d2] }
  | _ => none }
def shareNodesRow : OpenClaim := { program := "ytmemnjcpoggdhaa", sum := "1c867d37083fb4566e306783d58775a5b61cf3312eb313ead8d76ddb4f819884", func := "turnpike/turnpikelaw12.ShareNodes", spec := "shareNodes", unfollowed := true, recurses := true, plainKeys := false, apart := false }
def ShareNodesSaid : Prop := shareNodesRow.holds Try.pinned (OpenSpec.ofChange shareNodesSpec)

/-- ITS FALSE NEIGHBOUR: 'it returns false'. Refute it at one input. -/
def shareNodesWrong : ChangeSpec := { name := "shareNodes", fn := fun _ => fun
  | [d1, d2] => { results := [.lit (.bool false)], args := [d1, d2] }
  | _ => none }
def ShareNodesWrongFalsely : Prop := shareNodesRow.holds Try.pinned (OpenSpec.ofChange shareNodesWrong)

/-- 'turnpikelaw12.ShareEquals': WHATEVER THE INPUT: true; the input reads as it did. -/
def shareEqualsSpec : ChangeSpec := { name := "shareEquals", fn := fun _ => fun
  | [d1, d2, d3] => { results := [.lit (.bool true)], args := [d1, d2, d3] }
  | _ => none }
def shareEqualsRow : OpenClaim := { program := "ytmemnjcpoggdhaa", sum := "1c867d37083fb4566e306783d58775a5b61cf3312eb313ead8d76ddb4f819884", func := "turnpike/turnpikelaw12.ShareEquals", spec := "shareEquals", unfollowed := true, recurses := true, plainKeys := false, apart := false }
def ShareEqualsSaid : Prop := shareEqualsRow.holds Try.pinned (OpenSpec.ofChange shareEqualsSpec)

/-- ITS FALSE NEIGHBOUR: 'it returns false'. Refute it at one input. -/
def shareEqualsWrong : ChangeSpec := { name := "shareEquals", fn := fun _ => fun
  | [d1, d2, d3] => { results := [.lit (.bool false)], args := [d1, d2, d3] }
  | _ => none }
def ShareEqualsWrongFalsely : Prop := shareEqualsRow.holds Try.pinned (OpenSpec.ofChange shareEqualsWrong)

/-- 'turnpikelaw12.ShareWholes': WHATEVER THE INPUT: true; the input reads as it did. -/
def shareWholesSpec : ChangeSpec := { name := "shareWholes", fn := fun _ => fun
  | [d1, d2] => { results := [.lit (.bool true)], args := [d1, d2] }
  | _ => none }
def shareWholesRow : OpenClaim := { program := "ytmemnjcpoggdhaa", sum := "1c867d37083fb4566e306783d58775a5b61cf3312eb313ead8d76ddb4f819884", func := "turnpike/turnpikelaw12.ShareWholes", spec := "shareWholes", unfollowed := true, recurses := true, plainKeys := false, apart := false }
def ShareWholesSaid : Prop := shareWholesRow.holds Try.pinned (OpenSpec.ofChange shareWholesSpec)

/-- ITS FALSE NEIGHBOUR: 'it returns false'. Refute it at one input. -/
def shareWholesWrong : ChangeSpec := { name := "shareWholes", fn := fun _ => fun
  | [d1, d2] => { results := [.lit (.bool false)], args := [d1, d2] }
  | _ => none }
def ShareWholesWrongFalsely : Prop := shareWholesRow.holds Try.pinned (OpenSpec.ofChange shareWholesWrong)

/- THE SECOND FORM. 'bulk': how many values and letters a reading holds, each counted each time it is reached (what is shared counts as often as it is met; a slice's spare places count too). A statement '..UptoSaid' is the law's where the arguments, and the package variables that the reading takes, are together of bulk at most 1048576: NARROWER than '..Said'. Prove '..Said' where nothing that the law and all that it calls make is longer than what came in: it says more and counts as full. Else prove '..UptoSaid'. A law counts once. -/
mutual
def uptoBulk {H : Type} : DataW H → Nat
  | .lit (.string bytes) => bytes.length + 1
  | .lit _ => 1
  | .nil => 1
  | .ptr d => uptoBulk d + 1
  | .slice elems spare => uptoBulkAll elems + uptoBulkAll spare + 1
  | .agg parts => uptoBulkAll parts + 1
  | .iface _ d => uptoBulk d + 1
  | .map entries => uptoBulkEntries entries + 1
  | .held _ => 1
def uptoBulkAll {H : Type} : List (DataW H) → Nat
  | [] => 0
  | d :: r => uptoBulk d + uptoBulkAll r
def uptoBulkEntries {H : Type} : List (Lit × DataW H) → Nat
  | [] => 0
  | x :: r => uptoBulkEntry x + uptoBulkEntries r
def uptoBulkEntry {H : Type} : Lit × DataW H → Nat
  | (.string bytes, d) => bytes.length + uptoBulk d + 1
  | (_, d) => uptoBulk d + 1
 end
def uptoSmall : (H : Type) → List (DataW H) → Bool := fun _ ds => decide (uptoBulkAll ds ≤ 1048576)
def OpenSpec.upto (s : _root_.Go.ChangeSpec) : _root_.Go.OpenSpec := { _root_.Go.OpenSpec.ofChange s with cond := some uptoSmall }

/-- 'turnpikelaw16.EmitOrders', WHERE WHAT IT READS IS OF BULK AT MOST 1048576: true; the input reads as it did. -/
def emitOrdersUptoRow : OpenClaim := { program := "ytmemnjcpoggdhaa", sum := "1c867d37083fb4566e306783d58775a5b61cf3312eb313ead8d76ddb4f819884", func := "turnpike/turnpikelaw16.EmitOrders", spec := "emitOrders", unfollowed := true, recurses := true, plainKeys := false, apart := false, narrowed := true }
def EmitOrdersUptoSaid : Prop := emitOrdersUptoRow.holds Try.pinned (OpenSpec.upto emitOrdersSpec)

/-- 'turnpikelaw16.EmitCodes', WHERE WHAT IT READS IS OF BULK AT MOST 1048576: true; the input reads as it did. -/
def emitCodesUptoRow : OpenClaim := { program := "ytmemnjcpoggdhaa", sum := "1c867d37083fb4566e306783d58775a5b61cf3312eb313ead8d76ddb4f819884", func := "turnpike/turnpikelaw16.EmitCodes", spec := "emitCodes", unfollowed := true, recurses := true, plainKeys := false, apart := false, narrowed := true }
def EmitCodesUptoSaid : Prop := emitCodesUptoRow.holds Try.pinned (OpenSpec.upto emitCodesSpec)

/-- 'turnpikelaw16.EmitVerified', WHERE WHAT IT READS IS OF BULK AT MOST 1048576: true; the input reads as it did. -/
def emitVerifiedUptoRow : OpenClaim := { program := "ytmemnjcpoggdhaa", sum := "1c867d37083fb4566e306783d58775a5b61cf3312eb313ead8d76ddb4f819884", func := "turnpike/turnpikelaw16.EmitVerified", spec := "emitVerified", unfollowed := true, recurses := true, plainKeys := false, apart := false, narrowed := true }
def EmitVerifiedUptoSaid : Prop := emitVerifiedUptoRow.holds Try.pinned (OpenSpec.upto emitVerifiedSpec)

/-- 'turnpikelaw12.ShareNodes', WHERE WHAT IT READS IS OF BULK AT MOST 1048576: true; the input reads as it did. -/
def shareNodesUptoRow : OpenClaim := { program := "ytmemnjcpoggdhaa", sum := "1c867d37083fb4566e306783d58775a5b61cf3312eb313ead8d76ddb4f819884", func := "turnpike/turnpikelaw12.ShareNodes", spec := "shareNodes", unfollowed := true, recurses := true, plainKeys := false, apart := false, narrowed := true }
def ShareNodesUptoSaid : Prop := shareNodesUptoRow.holds Try.pinned (OpenSpec.upto shareNodesSpec)

/-- 'turnpikelaw12.ShareEquals', WHERE WHAT IT READS IS OF BULK AT MOST 1048576: true; the input reads as it did. -/
def shareEqualsUptoRow : OpenClaim := { program := "ytmemnjcpoggdhaa", sum := "1c867d37083fb4566e306783d58775a5b61cf3312eb313ead8d76ddb4f819884", func := "turnpike/turnpikelaw12.ShareEquals", spec := "shareEquals", unfollowed := true, recurses := true, plainKeys := false, apart := false, narrowed := true }
def ShareEqualsUptoSaid : Prop := shareEqualsUptoRow.holds Try.pinned (OpenSpec.upto shareEqualsSpec)

/-- 'turnpikelaw12.ShareWholes', WHERE WHAT IT READS IS OF BULK AT MOST 1048576: true; the input reads as it did. -/
def shareWholesUptoRow : OpenClaim := { program := "ytmemnjcpoggdhaa", sum := "1c867d37083fb4566e306783d58775a5b61cf3312eb313ead8d76ddb4f819884", func := "turnpike/turnpikelaw12.ShareWholes", spec := "shareWholes", unfollowed := true, recurses := true, plainKeys := false, apart := false, narrowed := true }
def ShareWholesUptoSaid : Prop := shareWholesUptoRow.holds Try.pinned (OpenSpec.upto shareWholesSpec)

end Rows
end Go.Proofs.Ytmemnjcpoggdhaa
