/-
  No cell of these rows narrows 'for every input' (looked for: loops, veiled, ifaces, maps, wideKeys, modest, calm, conditions, laid).
  DERIVED. THE GIVEN ROWS OF THIS SEAT. 6 by the template 'for every input the law returns true; each argument reads behind the call as it read before'; 0 by the template 'total and deterministic' (their statements: YtdpfdlkaickkiaaTotals.lean).
  GIVEN WITH THE SEED: the statements are not yours to turn. If you find one false, say at which input.
  Laid BY PROGRAM, IN A SANDBOX (cutbox-rows.mjs): the forced cells as the released guide's own fill.sh prints them over the translation 022f61463e0df941… (all of the seat's roots in one cut). By AI agents, Wed Nov 11 2026. No macro, syntax, notation, axiom, sorry.
-/
import Derived.Test.YtdpfdlkaickkiaaChecked
import GoSem.Claim
import GoSem.ClaimJoined
import GoSem.ClaimMapViews
import Derived.JoinedTies
import Derived.KernelRfl
namespace Go.Proofs.Ytdpfdlkaickkiaa
/- THE CELL 'sum', in the pinned program and in every row, IS THE sha256 OF THE DUMP (.gsa) THAT YtdpfdlkaickkiaaProg.lean LOADS. Nothing in Lean hashes anything: it is a label: what it is worth is what the hold of that sum in a sandbox is worth. -/
noncomputable def Try.pinned : Pinned := { name := "ytdpfdlkaickkiaa", sum := "022f61463e0df941f085634ac27fb56707d3a83965757cf80263b628bc21dede", checked := Try.checked }
namespace Rows
def none {H : Type} : Left H := { results := [], args := [] }

/-- 'turnpikelaw12.ShareNodes': WHATEVER THE INPUT: true; the input reads as it did. -/
def shareNodesSpec : ChangeSpec := { name := "shareNodes", fn := fun _ => fun
  | [d1, d2] => { results := [.lit (.bool true)], args := [d1, d2] }
  | _ => none }
def shareNodesRow : OpenClaim := { program := "ytdpfdlkaickkiaa", sum := "022f61463e0df941f085634ac27fb56707d3a83965757cf80263b628bc21dede", func := "turnpike/turnpikelaw12.ShareNodes", spec := "shareNodes", unfollowed := true, recurses := true, plainKeys := false, apart := false }
def ShareNodesSaid : Prop := shareNodesRow.holds Try.pinned (OpenSpec.ofChange shareNodesSpec)

/-- ITS FALSE NEIGHBOUR: 'it returns false'. Refute it at one input. -/
def shareNodesWrong : ChangeSpec := { name := "shareNodes", fn := fun _ => fun
  | [d1, d2] => { results := [.lit (.bool false)], args := [d1, d2] }
  | _ => none }
def ShareNodesWrongFalsely : Prop := shareNodesRow.holds Try.pinned (OpenSpec.ofChange shareNodesWrong)

/-- 'turnpikelaw12.ShareEquals': WHATEVER THE INPUT: true; the input reads as it did. -/
def shareEqualsSpec : ChangeSpec := { name := "shareEquals", fn := fun _ => fun
  | [d1, d2, d3] => { results := [.lit (.bool true)], args := [d1, d2, d3] }
  | _ => none }
def shareEqualsRow : OpenClaim := { program := "ytdpfdlkaickkiaa", sum := "022f61463e0df941f085634ac27fb56707d3a83965757cf80263b628bc21dede", func := "turnpike/turnpikelaw12.ShareEquals", spec := "shareEquals", unfollowed := true, recurses := true, plainKeys := false, apart := false }
def ShareEqualsSaid : Prop := shareEqualsRow.holds Try.pinned (OpenSpec.ofChange shareEqualsSpec)

/-- ITS FALSE NEIGHBOUR: 'it returns false'. Refute it at one input. -/
def shareEqualsWrong : ChangeSpec := { name := "shareEquals", fn := fun _ => fun
  | [d1, d2, d3] => { results := [.lit (.bool false)], args := [d1, d2, d3] }
  | _ => none }
def ShareEqualsWrongFalsely : Prop := shareEqualsRow.holds Try.pinned (OpenSpec.ofChange shareEqualsWrong)

/-- 'turnpikelaw12.ShareWholes': WHATEVER THE INPUT: true; the input reads as it did. -/
def shareWholesSpec : ChangeSpec := { name := "shareWholes", fn := fun _ => fun
  | [d1, d2] => { results := [.lit (.bool true)], args := [d1, d2] }
  | _ => none }
def shareWholesRow : OpenClaim := { program := "ytdpfdlkaickkiaa", sum := "022f61463e0df941f085634ac27fb56707d3a83965757cf80263b628bc21dede", func := "turnpike/turnpikelaw12.ShareWholes", spec := "shareWholes", unfollowed := true, recurses := true, plainKeys := false, apart := false }
def ShareWholesSaid : Prop := shareWholesRow.holds Try.pinned (OpenSpec.ofChange shareWholesSpec)

/-- ITS FALSE NEIGHBOUR: 'it returns false'. Refute it at one input. -/
def shareWholesWrong : ChangeSpec := { name := "shareWholes", fn := fun _ => fun
  | [d1, d2] => { results := [.lit (.bool false)], args := [d1, d2] }
  | _ => none }
def ShareWholesWrongFalsely : Prop := shareWholesRow.holds Try.pinned (OpenSpec.ofChange shareWholesWrong)

/-- 'turnpikelaw12.ShareOnce': WHATEVER THE INPUT: true; the input reads as it did. -/
def shareOnceSpec : ChangeSpec := { name := "shareOnce", fn := fun _ => fun
  | [d1, d2] => { results := [.lit (.bool true)], args := [d1, d2] }
  | _ => none }
def shareOnceRow : OpenClaim := { program := "ytdpfdlkaickkiaa", sum := "022f61463e0df941f085634ac27fb56707d3a83965757cf80263b628bc21dede", func := "turnpike/turnpikelaw12.ShareOnce", spec := "shareOnce", unfollowed := true, recurses := true, plainKeys := false, apart := false }
def ShareOnceSaid : Prop := shareOnceRow.holds Try.pinned (OpenSpec.ofChange shareOnceSpec)

/-- ITS FALSE NEIGHBOUR: 'it returns false'. Refute it at one input. -/
def shareOnceWrong : ChangeSpec := { name := "shareOnce", fn := fun _ => fun
  | [d1, d2] => { results := [.lit (.bool false)], args := [d1, d2] }
  | _ => none }
def ShareOnceWrongFalsely : Prop := shareOnceRow.holds Try.pinned (OpenSpec.ofChange shareOnceWrong)

/-- 'turnpikelaw12.ShareOwn': WHATEVER THE INPUT: true; the input reads as it did. -/
def shareOwnSpec : ChangeSpec := { name := "shareOwn", fn := fun _ => fun
  | [d1, d2] => { results := [.lit (.bool true)], args := [d1, d2] }
  | _ => none }
def shareOwnRow : OpenClaim := { program := "ytdpfdlkaickkiaa", sum := "022f61463e0df941f085634ac27fb56707d3a83965757cf80263b628bc21dede", func := "turnpike/turnpikelaw12.ShareOwn", spec := "shareOwn", unfollowed := true, recurses := true, plainKeys := false, apart := false }
def ShareOwnSaid : Prop := shareOwnRow.holds Try.pinned (OpenSpec.ofChange shareOwnSpec)

/-- ITS FALSE NEIGHBOUR: 'it returns false'. Refute it at one input. -/
def shareOwnWrong : ChangeSpec := { name := "shareOwn", fn := fun _ => fun
  | [d1, d2] => { results := [.lit (.bool false)], args := [d1, d2] }
  | _ => none }
def ShareOwnWrongFalsely : Prop := shareOwnRow.holds Try.pinned (OpenSpec.ofChange shareOwnWrong)

/-- 'turnpikelaw12.ShareAnswers': WHATEVER THE INPUT: true; the input reads as it did. -/
def shareAnswersSpec : ChangeSpec := { name := "shareAnswers", fn := fun _ => fun
  | [d1, d2, d3] => { results := [.lit (.bool true)], args := [d1, d2, d3] }
  | _ => none }
def shareAnswersRow : OpenClaim := { program := "ytdpfdlkaickkiaa", sum := "022f61463e0df941f085634ac27fb56707d3a83965757cf80263b628bc21dede", func := "turnpike/turnpikelaw12.ShareAnswers", spec := "shareAnswers", unfollowed := true, recurses := true, plainKeys := false, apart := false }
def ShareAnswersSaid : Prop := shareAnswersRow.holds Try.pinned (OpenSpec.ofChange shareAnswersSpec)

/-- ITS FALSE NEIGHBOUR: 'it returns false'. Refute it at one input. -/
def shareAnswersWrong : ChangeSpec := { name := "shareAnswers", fn := fun _ => fun
  | [d1, d2, d3] => { results := [.lit (.bool false)], args := [d1, d2, d3] }
  | _ => none }
def ShareAnswersWrongFalsely : Prop := shareAnswersRow.holds Try.pinned (OpenSpec.ofChange shareAnswersWrong)

/- THE SECOND FORM. 'bulk': how many values and letters a reading holds, each counted each time it is reached (what is shared counts as often as it is met; a slice's spare places count too). A statement '..UptoSaid' is the law's where the arguments, and the package variables that the reading takes, are together of bulk at most 1048576: NARROWER than '..Said'. Prove '..Said' where nothing that the law and all that it calls make is longer than what came in: it says more and counts as full. Else prove '..UptoSaid'. A law counts once. -/
mutual
def uptoBulk {H : Type} : DataW H → Nat
  | .lit (.string bytes) => bytes.length + 1
  | .lit _ => 1
  | .nil => 1
  | .ptr d => uptoBulk d + 1
  | .slice elems spare => uptoBulkAll elems + uptoBulkAll spare + 1
  | .agg parts => uptoBulkAll parts + 1
  | .iface _ d => uptoBulk d + 1
  | .map entries => uptoBulkEntries entries + 1
  | .held _ => 1
def uptoBulkAll {H : Type} : List (DataW H) → Nat
  | [] => 0
  | d :: r => uptoBulk d + uptoBulkAll r
def uptoBulkEntries {H : Type} : List (Lit × DataW H) → Nat
  | [] => 0
  | x :: r => uptoBulkEntry x + uptoBulkEntries r
def uptoBulkEntry {H : Type} : Lit × DataW H → Nat
  | (.string bytes, d) => bytes.length + uptoBulk d + 1
  | (_, d) => uptoBulk d + 1
 end
def uptoSmall : (H : Type) → List (DataW H) → Bool := fun _ ds => decide (uptoBulkAll ds ≤ 1048576)
def OpenSpec.upto (s : _root_.Go.ChangeSpec) : _root_.Go.OpenSpec := { _root_.Go.OpenSpec.ofChange s with cond := some uptoSmall }

/-- 'turnpikelaw12.ShareNodes', WHERE WHAT IT READS IS OF BULK AT MOST 1048576: true; the input reads as it did. -/
def shareNodesUptoRow : OpenClaim := { program := "ytdpfdlkaickkiaa", sum := "022f61463e0df941f085634ac27fb56707d3a83965757cf80263b628bc21dede", func := "turnpike/turnpikelaw12.ShareNodes", spec := "shareNodes", unfollowed := true, recurses := true, plainKeys := false, apart := false, narrowed := true }
def ShareNodesUptoSaid : Prop := shareNodesUptoRow.holds Try.pinned (OpenSpec.upto shareNodesSpec)

/-- 'turnpikelaw12.ShareEquals', WHERE WHAT IT READS IS OF BULK AT MOST 1048576: true; the input reads as it did. -/
def shareEqualsUptoRow : OpenClaim := { program := "ytdpfdlkaickkiaa", sum := "022f61463e0df941f085634ac27fb56707d3a83965757cf80263b628bc21dede", func := "turnpike/turnpikelaw12.ShareEquals", spec := "shareEquals", unfollowed := true, recurses := true, plainKeys := false, apart := false, narrowed := true }
def ShareEqualsUptoSaid : Prop := shareEqualsUptoRow.holds Try.pinned (OpenSpec.upto shareEqualsSpec)

/-- 'turnpikelaw12.ShareWholes', WHERE WHAT IT READS IS OF BULK AT MOST 1048576: true; the input reads as it did. -/
def shareWholesUptoRow : OpenClaim := { program := "ytdpfdlkaickkiaa", sum := "022f61463e0df941f085634ac27fb56707d3a83965757cf80263b628bc21dede", func := "turnpike/turnpikelaw12.ShareWholes", spec := "shareWholes", unfollowed := true, recurses := true, plainKeys := false, apart := false, narrowed := true }
def ShareWholesUptoSaid : Prop := shareWholesUptoRow.holds Try.pinned (OpenSpec.upto shareWholesSpec)

/-- 'turnpikelaw12.ShareOnce', WHERE WHAT IT READS IS OF BULK AT MOST 1048576: true; the input reads as it did. -/
def shareOnceUptoRow : OpenClaim := { program := "ytdpfdlkaickkiaa", sum := "022f61463e0df941f085634ac27fb56707d3a83965757cf80263b628bc21dede", func := "turnpike/turnpikelaw12.ShareOnce", spec := "shareOnce", unfollowed := true, recurses := true, plainKeys := false, apart := false, narrowed := true }
def ShareOnceUptoSaid : Prop := shareOnceUptoRow.holds Try.pinned (OpenSpec.upto shareOnceSpec)

/-- 'turnpikelaw12.ShareOwn', WHERE WHAT IT READS IS OF BULK AT MOST 1048576: true; the input reads as it did. -/
def shareOwnUptoRow : OpenClaim := { program := "ytdpfdlkaickkiaa", sum := "022f61463e0df941f085634ac27fb56707d3a83965757cf80263b628bc21dede", func := "turnpike/turnpikelaw12.ShareOwn", spec := "shareOwn", unfollowed := true, recurses := true, plainKeys := false, apart := false, narrowed := true }
def ShareOwnUptoSaid : Prop := shareOwnUptoRow.holds Try.pinned (OpenSpec.upto shareOwnSpec)

/-- 'turnpikelaw12.ShareAnswers', WHERE WHAT IT READS IS OF BULK AT MOST 1048576: true; the input reads as it did. -/
def shareAnswersUptoRow : OpenClaim := { program := "ytdpfdlkaickkiaa", sum := "022f61463e0df941f085634ac27fb56707d3a83965757cf80263b628bc21dede", func := "turnpike/turnpikelaw12.ShareAnswers", spec := "shareAnswers", unfollowed := true, recurses := true, plainKeys := false, apart := false, narrowed := true }
def ShareAnswersUptoSaid : Prop := shareAnswersUptoRow.holds Try.pinned (OpenSpec.upto shareAnswersSpec)

end Rows
end Go.Proofs.Ytdpfdlkaickkiaa
