/-
  No cell of these rows narrows 'for every input' (looked for: loops, veiled, ifaces, maps, wideKeys, modest, calm, conditions, laid).
  DERIVED. THE GIVEN ROWS OF THIS SEAT. 6 by the template 'for every input the law returns true; each argument reads behind the call as it read before'; 0 by the template 'total and deterministic' (their statements: YtoejhhoniflpeaaTotals.lean).
  GIVEN WITH THE SEED: the statements are not yours to turn. If you find one false, say at which input.
  Laid BY PROGRAM, IN A SANDBOX (cutbox-rows.mjs): the forced cells as the released guide's own fill.sh prints them over the translation 83d18ab166a68cc4… (all of the seat's roots in one cut). By AI agents, Wed Nov 11 2026. No macro, syntax, notation, axiom, sorry.
-/
import Derived.Test.YtoejhhoniflpeaaChecked
import GoSem.Claim
import GoSem.ClaimJoined
import GoSem.ClaimMapViews
import Derived.JoinedTies
import Derived.KernelRfl
namespace Go.Proofs.Ytoejhhoniflpeaa
/- THE CELL 'sum', in the pinned program and in every row, IS THE sha256 OF THE DUMP (.gsa) THAT YtoejhhoniflpeaaProg.lean LOADS. Nothing in Lean hashes anything: it is a label: what it is worth is what the hold of that sum in a sandbox is worth. -/
noncomputable def Try.pinned : Pinned := { name := "ytoejhhoniflpeaa", sum := "83d18ab166a68cc4f8e5960bad0b5e576db77d6d73461e41cf488eb609a80019", checked := Try.checked }
namespace Rows
def none {H : Type} : Left H := { results := [], args := [] }

/-- 'turnpikelaw8.TrieNodes': WHATEVER THE INPUT: true; the input reads as it did. -/
def trieNodesSpec : ChangeSpec := { name := "trieNodes", fn := fun _ => fun
  | [d1, d2, d3] => { results := [.lit (.bool true)], args := [d1, d2, d3] }
  | _ => none }
def trieNodesRow : OpenClaim := { program := "ytoejhhoniflpeaa", sum := "83d18ab166a68cc4f8e5960bad0b5e576db77d6d73461e41cf488eb609a80019", func := "turnpike/turnpikelaw8.TrieNodes", spec := "trieNodes", apart := false }
def TrieNodesSaid : Prop := trieNodesRow.holds Try.pinned (OpenSpec.ofChange trieNodesSpec)

/-- ITS FALSE NEIGHBOUR: 'it returns false'. Refute it at one input. -/
def trieNodesWrong : ChangeSpec := { name := "trieNodes", fn := fun _ => fun
  | [d1, d2, d3] => { results := [.lit (.bool false)], args := [d1, d2, d3] }
  | _ => none }
def TrieNodesWrongFalsely : Prop := trieNodesRow.holds Try.pinned (OpenSpec.ofChange trieNodesWrong)

/-- 'turnpikelaw8.TrieFinds': WHATEVER THE INPUT: true; the input reads as it did. -/
def trieFindsSpec : ChangeSpec := { name := "trieFinds", fn := fun _ => fun
  | [d1, d2, d3, d4] => { results := [.lit (.bool true)], args := [d1, d2, d3, d4] }
  | _ => none }
def trieFindsRow : OpenClaim := { program := "ytoejhhoniflpeaa", sum := "83d18ab166a68cc4f8e5960bad0b5e576db77d6d73461e41cf488eb609a80019", func := "turnpike/turnpikelaw8.TrieFinds", spec := "trieFinds", unfollowed := true, recurses := true, apart := false }
def TrieFindsSaid : Prop := trieFindsRow.holds Try.pinned (OpenSpec.ofChange trieFindsSpec)

/-- ITS FALSE NEIGHBOUR: 'it returns false'. Refute it at one input. -/
def trieFindsWrong : ChangeSpec := { name := "trieFinds", fn := fun _ => fun
  | [d1, d2, d3, d4] => { results := [.lit (.bool false)], args := [d1, d2, d3, d4] }
  | _ => none }
def TrieFindsWrongFalsely : Prop := trieFindsRow.holds Try.pinned (OpenSpec.ofChange trieFindsWrong)

/-- 'turnpikelaw8.TrieWalks': WHATEVER THE INPUT: true; the input reads as it did. -/
def trieWalksSpec : ChangeSpec := { name := "trieWalks", fn := fun _ => fun
  | [d1, d2] => { results := [.lit (.bool true)], args := [d1, d2] }
  | _ => none }
def trieWalksRow : OpenClaim := { program := "ytoejhhoniflpeaa", sum := "83d18ab166a68cc4f8e5960bad0b5e576db77d6d73461e41cf488eb609a80019", func := "turnpike/turnpikelaw8.TrieWalks", spec := "trieWalks", unfollowed := true, recurses := true, apart := false }
def TrieWalksSaid : Prop := trieWalksRow.holds Try.pinned (OpenSpec.ofChange trieWalksSpec)

/-- ITS FALSE NEIGHBOUR: 'it returns false'. Refute it at one input. -/
def trieWalksWrong : ChangeSpec := { name := "trieWalks", fn := fun _ => fun
  | [d1, d2] => { results := [.lit (.bool false)], args := [d1, d2] }
  | _ => none }
def TrieWalksWrongFalsely : Prop := trieWalksRow.holds Try.pinned (OpenSpec.ofChange trieWalksWrong)

/-- 'turnpikelaw8.TrieOrder': WHATEVER THE INPUT: true; the input reads as it did. -/
def trieOrderSpec : ChangeSpec := { name := "trieOrder", fn := fun _ => fun
  | [d] => { results := [.lit (.bool true)], args := [d] }
  | _ => none }
def trieOrderRow : OpenClaim := { program := "ytoejhhoniflpeaa", sum := "83d18ab166a68cc4f8e5960bad0b5e576db77d6d73461e41cf488eb609a80019", func := "turnpike/turnpikelaw8.TrieOrder", spec := "trieOrder", unfollowed := true, recurses := true, apart := false }
def TrieOrderSaid : Prop := trieOrderRow.holds Try.pinned (OpenSpec.ofChange trieOrderSpec)

/-- ITS FALSE NEIGHBOUR: 'it returns false'. Refute it at one input. -/
def trieOrderWrong : ChangeSpec := { name := "trieOrder", fn := fun _ => fun
  | [d] => { results := [.lit (.bool false)], args := [d] }
  | _ => none }
def TrieOrderWrongFalsely : Prop := trieOrderRow.holds Try.pinned (OpenSpec.ofChange trieOrderWrong)

/-- 'turnpikelaw8.TrieSums': WHATEVER THE INPUT: true; the input reads as it did. -/
def trieSumsSpec : ChangeSpec := { name := "trieSums", fn := fun _ => fun
  | [d] => { results := [.lit (.bool true)], args := [d] }
  | _ => none }
def trieSumsRow : OpenClaim := { program := "ytoejhhoniflpeaa", sum := "83d18ab166a68cc4f8e5960bad0b5e576db77d6d73461e41cf488eb609a80019", func := "turnpike/turnpikelaw8.TrieSums", spec := "trieSums", apart := false }
def TrieSumsSaid : Prop := trieSumsRow.holds Try.pinned (OpenSpec.ofChange trieSumsSpec)

/-- ITS FALSE NEIGHBOUR: 'it returns false'. Refute it at one input. -/
def trieSumsWrong : ChangeSpec := { name := "trieSums", fn := fun _ => fun
  | [d] => { results := [.lit (.bool false)], args := [d] }
  | _ => none }
def TrieSumsWrongFalsely : Prop := trieSumsRow.holds Try.pinned (OpenSpec.ofChange trieSumsWrong)

/-- 'turnpikelaw8.TrieAnswers': WHATEVER THE INPUT: true; the input reads as it did. -/
def trieAnswersSpec : ChangeSpec := { name := "trieAnswers", fn := fun _ => fun
  | [d1, d2] => { results := [.lit (.bool true)], args := [d1, d2] }
  | _ => none }
def trieAnswersRow : OpenClaim := { program := "ytoejhhoniflpeaa", sum := "83d18ab166a68cc4f8e5960bad0b5e576db77d6d73461e41cf488eb609a80019", func := "turnpike/turnpikelaw8.TrieAnswers", spec := "trieAnswers", unfollowed := true, recurses := true, apart := false }
def TrieAnswersSaid : Prop := trieAnswersRow.holds Try.pinned (OpenSpec.ofChange trieAnswersSpec)

/-- ITS FALSE NEIGHBOUR: 'it returns false'. Refute it at one input. -/
def trieAnswersWrong : ChangeSpec := { name := "trieAnswers", fn := fun _ => fun
  | [d1, d2] => { results := [.lit (.bool false)], args := [d1, d2] }
  | _ => none }
def TrieAnswersWrongFalsely : Prop := trieAnswersRow.holds Try.pinned (OpenSpec.ofChange trieAnswersWrong)

/- THE SECOND FORM. 'bulk': how many values and letters a reading holds, each counted each time it is reached (what is shared counts as often as it is met; a slice's spare places count too). A statement '..UptoSaid' is the law's where the arguments, and the package variables that the reading takes, are together of bulk at most 1048576: NARROWER than '..Said'. Prove '..Said' where nothing that the law and all that it calls make is longer than what came in: it says more and counts as full. Else prove '..UptoSaid'. A law counts once. -/
mutual
def uptoBulk {H : Type} : DataW H → Nat
  | .lit (.string bytes) => bytes.length + 1
  | .lit _ => 1
  | .nil => 1
  | .ptr d => uptoBulk d + 1
  | .slice elems spare => uptoBulkAll elems + uptoBulkAll spare + 1
  | .agg parts => uptoBulkAll parts + 1
  | .iface _ d => uptoBulk d + 1
  | .map entries => uptoBulkEntries entries + 1
  | .held _ => 1
def uptoBulkAll {H : Type} : List (DataW H) → Nat
  | [] => 0
  | d :: r => uptoBulk d + uptoBulkAll r
def uptoBulkEntries {H : Type} : List (Lit × DataW H) → Nat
  | [] => 0
  | x :: r => uptoBulkEntry x + uptoBulkEntries r
def uptoBulkEntry {H : Type} : Lit × DataW H → Nat
  | (.string bytes, d) => bytes.length + uptoBulk d + 1
  | (_, d) => uptoBulk d + 1
 end
def uptoSmall : (H : Type) → List (DataW H) → Bool := fun _ ds => decide (uptoBulkAll ds ≤ 1048576)
def OpenSpec.upto (s : _root_.Go.ChangeSpec) : _root_.Go.OpenSpec := { _root_.Go.OpenSpec.ofChange s with cond := some uptoSmall }

/-- 'turnpikelaw8.TrieNodes', WHERE WHAT IT READS IS OF BULK AT MOST 1048576: true; the input reads as it did. -/
def trieNodesUptoRow : OpenClaim := { program := "ytoejhhoniflpeaa", sum := "83d18ab166a68cc4f8e5960bad0b5e576db77d6d73461e41cf488eb609a80019", func := "turnpike/turnpikelaw8.TrieNodes", spec := "trieNodes", apart := false, narrowed := true }
def TrieNodesUptoSaid : Prop := trieNodesUptoRow.holds Try.pinned (OpenSpec.upto trieNodesSpec)

/-- 'turnpikelaw8.TrieFinds', WHERE WHAT IT READS IS OF BULK AT MOST 1048576: true; the input reads as it did. -/
def trieFindsUptoRow : OpenClaim := { program := "ytoejhhoniflpeaa", sum := "83d18ab166a68cc4f8e5960bad0b5e576db77d6d73461e41cf488eb609a80019", func := "turnpike/turnpikelaw8.TrieFinds", spec := "trieFinds", unfollowed := true, recurses := true, apart := false, narrowed := true }
def TrieFindsUptoSaid : Prop := trieFindsUptoRow.holds Try.pinned (OpenSpec.upto trieFindsSpec)

/-- 'turnpikelaw8.TrieWalks', WHERE WHAT IT READS IS OF BULK AT MOST 1048576: true; the input reads as it did. -/
def trieWalksUptoRow : OpenClaim := { program := "ytoejhhoniflpeaa", sum := "83d18ab166a68cc4f8e5960bad0b5e576db77d6d73461e41cf488eb609a80019", func := "turnpike/turnpikelaw8.TrieWalks", spec := "trieWalks", unfollowed := true, recurses := true, apart := false, narrowed := true }
def TrieWalksUptoSaid : Prop := trieWalksUptoRow.holds Try.pinned (OpenSpec.upto trieWalksSpec)

/-- 'turnpikelaw8.TrieOrder', WHERE WHAT IT READS IS OF BULK AT MOST 1048576: true; the input reads as it did. -/
def trieOrderUptoRow : OpenClaim := { program := "ytoejhhoniflpeaa", sum := "83d18ab166a68cc4f8e5960bad0b5e576db77d6d73461e41cf488eb609a80019", func := "turnpike/turnpikelaw8.TrieOrder", spec := "trieOrder", unfollowed := true, recurses := true, apart := false, narrowed := true }
def TrieOrderUptoSaid : Prop := trieOrderUptoRow.holds Try.pinned (OpenSpec.upto trieOrderSpec)

/-- 'turnpikelaw8.TrieSums', WHERE WHAT IT READS IS OF BULK AT MOST 1048576: true; the input reads as it did. -/
def trieSumsUptoRow : OpenClaim := { program := "ytoejhhoniflpeaa", sum := "83d18ab166a68cc4f8e5960bad0b5e576db77d6d73461e41cf488eb609a80019", func := "turnpike/turnpikelaw8.TrieSums", spec := "trieSums", apart := false, narrowed := true }
def TrieSumsUptoSaid : Prop := trieSumsUptoRow.holds Try.pinned (OpenSpec.upto trieSumsSpec)

/-- 'turnpikelaw8.TrieAnswers', WHERE WHAT IT READS IS OF BULK AT MOST 1048576: true; the input reads as it did. -/
def trieAnswersUptoRow : OpenClaim := { program := "ytoejhhoniflpeaa", sum := "83d18ab166a68cc4f8e5960bad0b5e576db77d6d73461e41cf488eb609a80019", func := "turnpike/turnpikelaw8.TrieAnswers", spec := "trieAnswers", unfollowed := true, recurses := true, apart := false, narrowed := true }
def TrieAnswersUptoSaid : Prop := trieAnswersUptoRow.holds Try.pinned (OpenSpec.upto trieAnswersSpec)

end Rows
end Go.Proofs.Ytoejhhoniflpeaa
