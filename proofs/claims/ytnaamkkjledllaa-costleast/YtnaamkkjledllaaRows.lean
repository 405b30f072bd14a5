/-
  No cell of these rows narrows 'for every input' (looked for: loops, veiled, ifaces, maps, wideKeys, modest, calm, conditions, laid).
  DERIVED. THE GIVEN ROWS OF THIS SEAT. 6 by the template 'for every input the law returns true; each argument reads behind the call as it read before'; 0 by the template 'total and deterministic' (their statements: YtnaamkkjledllaaTotals.lean).
  GIVEN WITH THE SEED: the statements are not yours to turn. If you find one false, say at which input.
  Laid BY PROGRAM, IN A SANDBOX (cutbox-rows.mjs): the forced cells as the released guide's own fill.sh prints them over the translation 277b81a371bec80e… (all of the seat's roots in one cut). By AI agents, Wed Nov 11 2026. No macro, syntax, notation, axiom, sorry.
-/
import Derived.Test.YtnaamkkjledllaaChecked
import GoSem.Claim
import GoSem.ClaimJoined
import GoSem.ClaimMapViews
import Derived.JoinedTies
import Derived.KernelRfl
namespace Go.Proofs.Ytnaamkkjledllaa
/- THE CELL 'sum', in the pinned program and in every row, IS THE sha256 OF THE DUMP (.gsa) THAT YtnaamkkjledllaaProg.lean LOADS. Nothing in Lean hashes anything: it is a label: what it is worth is what the hold of that sum in a sandbox is worth. -/
noncomputable def Try.pinned : Pinned := { name := "ytnaamkkjledllaa", sum := "277b81a371bec80e2ff9bae52e1832672d73bf34439cf56af32228c5819eddb9", checked := Try.checked }
namespace Rows
def none {H : Type} : Left H := { results := [], args := [] }

/-- 'turnpikelaw9.CostSums': WHATEVER THE INPUT: true; the input reads as it did. -/
def costSumsSpec : ChangeSpec := { name := "costSums", fn := fun _ => fun
  | [d1, d2, d3, d4] => { results := [.lit (.bool true)], args := [d1, d2, d3, d4] }
  | _ => none }
def costSumsRow : OpenClaim := { program := "ytnaamkkjledllaa", sum := "277b81a371bec80e2ff9bae52e1832672d73bf34439cf56af32228c5819eddb9", func := "turnpike/turnpikelaw9.CostSums", spec := "costSums", inPlace := ["math/bits.Add64"], named := ["math/bits.divideError", "math/bits.overflowError"], apart := false }
def CostSumsSaid : Prop := costSumsRow.holds Try.pinned (OpenSpec.ofChange costSumsSpec)

/-- ITS FALSE NEIGHBOUR: 'it returns false'. Refute it at one input. -/
def costSumsWrong : ChangeSpec := { name := "costSums", fn := fun _ => fun
  | [d1, d2, d3, d4] => { results := [.lit (.bool false)], args := [d1, d2, d3, d4] }
  | _ => none }
def CostSumsWrongFalsely : Prop := costSumsRow.holds Try.pinned (OpenSpec.ofChange costSumsWrong)

/-- 'turnpikelaw9.CostLeast': WHATEVER THE INPUT: true; the input reads as it did. -/
def costLeastSpec : ChangeSpec := { name := "costLeast", fn := fun _ => fun
  | [d] => { results := [.lit (.bool true)], args := [d] }
  | _ => none }
def costLeastRow : OpenClaim := { program := "ytnaamkkjledllaa", sum := "277b81a371bec80e2ff9bae52e1832672d73bf34439cf56af32228c5819eddb9", func := "turnpike/turnpikelaw9.CostLeast", spec := "costLeast", named := ["math/bits.divideError", "math/bits.overflowError"], apart := false }
def CostLeastSaid : Prop := costLeastRow.holds Try.pinned (OpenSpec.ofChange costLeastSpec)

/-- ITS FALSE NEIGHBOUR: 'it returns false'. Refute it at one input. -/
def costLeastWrong : ChangeSpec := { name := "costLeast", fn := fun _ => fun
  | [d] => { results := [.lit (.bool false)], args := [d] }
  | _ => none }
def CostLeastWrongFalsely : Prop := costLeastRow.holds Try.pinned (OpenSpec.ofChange costLeastWrong)

/-- 'turnpikelaw9.CostTexts': WHATEVER THE INPUT: true; the input reads as it did. -/
def costTextsSpec : ChangeSpec := { name := "costTexts", fn := fun _ => fun
  | [d1, d2] => { results := [.lit (.bool true)], args := [d1, d2] }
  | _ => none }
def costTextsRow : OpenClaim := { program := "ytnaamkkjledllaa", sum := "277b81a371bec80e2ff9bae52e1832672d73bf34439cf56af32228c5819eddb9", func := "turnpike/turnpikelaw9.CostTexts", spec := "costTexts", inPlace := ["math/bits.Add64"], named := ["math/bits.divideError", "math/bits.overflowError"], apart := false }
def CostTextsSaid : Prop := costTextsRow.holds Try.pinned (OpenSpec.ofChange costTextsSpec)

/-- ITS FALSE NEIGHBOUR: 'it returns false'. Refute it at one input. -/
def costTextsWrong : ChangeSpec := { name := "costTexts", fn := fun _ => fun
  | [d1, d2] => { results := [.lit (.bool false)], args := [d1, d2] }
  | _ => none }
def CostTextsWrongFalsely : Prop := costTextsRow.holds Try.pinned (OpenSpec.ofChange costTextsWrong)

/-- 'turnpikelaw9.CostRing': WHATEVER THE INPUT: true; the input reads as it did. -/
def costRingSpec : ChangeSpec := { name := "costRing", fn := fun _ => fun
  | [d1, d2, d3] => { results := [.lit (.bool true)], args := [d1, d2, d3] }
  | _ => none }
def costRingRow : OpenClaim := { program := "ytnaamkkjledllaa", sum := "277b81a371bec80e2ff9bae52e1832672d73bf34439cf56af32228c5819eddb9", func := "turnpike/turnpikelaw9.CostRing", spec := "costRing", inPlace := ["math/bits.Add64"], named := ["math/bits.divideError", "math/bits.overflowError"], apart := false }
def CostRingSaid : Prop := costRingRow.holds Try.pinned (OpenSpec.ofChange costRingSpec)

/-- ITS FALSE NEIGHBOUR: 'it returns false'. Refute it at one input. -/
def costRingWrong : ChangeSpec := { name := "costRing", fn := fun _ => fun
  | [d1, d2, d3] => { results := [.lit (.bool false)], args := [d1, d2, d3] }
  | _ => none }
def CostRingWrongFalsely : Prop := costRingRow.holds Try.pinned (OpenSpec.ofChange costRingWrong)

/-- 'turnpikelaw9.CostTimes': WHATEVER THE INPUT: true; the input reads as it did. -/
def costTimesSpec : ChangeSpec := { name := "costTimes", fn := fun _ => fun
  | [d1, d2, d3] => { results := [.lit (.bool true)], args := [d1, d2, d3] }
  | _ => none }
def costTimesRow : OpenClaim := { program := "ytnaamkkjledllaa", sum := "277b81a371bec80e2ff9bae52e1832672d73bf34439cf56af32228c5819eddb9", func := "turnpike/turnpikelaw9.CostTimes", spec := "costTimes", inPlace := ["math/bits.Add64"], named := ["math/bits.divideError", "math/bits.overflowError"], apart := false }
def CostTimesSaid : Prop := costTimesRow.holds Try.pinned (OpenSpec.ofChange costTimesSpec)

/-- ITS FALSE NEIGHBOUR: 'it returns false'. Refute it at one input. -/
def costTimesWrong : ChangeSpec := { name := "costTimes", fn := fun _ => fun
  | [d1, d2, d3] => { results := [.lit (.bool false)], args := [d1, d2, d3] }
  | _ => none }
def CostTimesWrongFalsely : Prop := costTimesRow.holds Try.pinned (OpenSpec.ofChange costTimesWrong)

/-- 'turnpikelaw9.CostPows': WHATEVER THE INPUT: true; the input reads as it did. -/
def costPowsSpec : ChangeSpec := { name := "costPows", fn := fun _ => fun
  | [d] => { results := [.lit (.bool true)], args := [d] }
  | _ => none }
def costPowsRow : OpenClaim := { program := "ytnaamkkjledllaa", sum := "277b81a371bec80e2ff9bae52e1832672d73bf34439cf56af32228c5819eddb9", func := "turnpike/turnpikelaw9.CostPows", spec := "costPows", inPlace := ["math/bits.Add64"], named := ["math/bits.divideError", "math/bits.overflowError"], apart := false }
def CostPowsSaid : Prop := costPowsRow.holds Try.pinned (OpenSpec.ofChange costPowsSpec)

/-- ITS FALSE NEIGHBOUR: 'it returns false'. Refute it at one input. -/
def costPowsWrong : ChangeSpec := { name := "costPows", fn := fun _ => fun
  | [d] => { results := [.lit (.bool false)], args := [d] }
  | _ => none }
def CostPowsWrongFalsely : Prop := costPowsRow.holds Try.pinned (OpenSpec.ofChange costPowsWrong)

/- THE SECOND FORM. 'bulk': how many values and letters a reading holds, each counted each time it is reached (what is shared counts as often as it is met; a slice's spare places count too). A statement '..UptoSaid' is the law's where the arguments, and the package variables that the reading takes, are together of bulk at most 1048576: NARROWER than '..Said'. Prove '..Said' where nothing that the law and all that it calls make is longer than what came in: it says more and counts as full. Else prove '..UptoSaid'. A law counts once. -/
mutual
def uptoBulk {H : Type} : DataW H → Nat
  | .lit (.string bytes) => bytes.length + 1
  | .lit _ => 1
  | .nil => 1
  | .ptr d => uptoBulk d + 1
  | .slice elems spare => uptoBulkAll elems + uptoBulkAll spare + 1
  | .agg parts => uptoBulkAll parts + 1
  | .iface _ d => uptoBulk d + 1
  | .map entries => uptoBulkEntries entries + 1
  | .held _ => 1
def uptoBulkAll {H : Type} : List (DataW H) → Nat
  | [] => 0
  | d :: r => uptoBulk d + uptoBulkAll r
def uptoBulkEntries {H : Type} : List (Lit × DataW H) → Nat
  | [] => 0
  | x :: r => uptoBulkEntry x + uptoBulkEntries r
def uptoBulkEntry {H : Type} : Lit × DataW H → Nat
  | (.string bytes, d) => bytes.length + uptoBulk d + 1
  | (_, d) => uptoBulk d + 1
 end
def uptoSmall : (H : Type) → List (DataW H) → Bool := fun _ ds => decide (uptoBulkAll ds ≤ 1048576)
def OpenSpec.upto (s : _root_.Go.ChangeSpec) : _root_.Go.OpenSpec := { _root_.Go.OpenSpec.ofChange s with cond := some uptoSmall }

/-- 'turnpikelaw9.CostSums', WHERE WHAT IT READS IS OF BULK AT MOST 1048576: true; the input reads as it did. -/
def costSumsUptoRow : OpenClaim := { program := "ytnaamkkjledllaa", sum := "277b81a371bec80e2ff9bae52e1832672d73bf34439cf56af32228c5819eddb9", func := "turnpike/turnpikelaw9.CostSums", spec := "costSums", inPlace := ["math/bits.Add64"], named := ["math/bits.divideError", "math/bits.overflowError"], apart := false, narrowed := true }
def CostSumsUptoSaid : Prop := costSumsUptoRow.holds Try.pinned (OpenSpec.upto costSumsSpec)

/-- 'turnpikelaw9.CostLeast', WHERE WHAT IT READS IS OF BULK AT MOST 1048576: true; the input reads as it did. -/
def costLeastUptoRow : OpenClaim := { program := "ytnaamkkjledllaa", sum := "277b81a371bec80e2ff9bae52e1832672d73bf34439cf56af32228c5819eddb9", func := "turnpike/turnpikelaw9.CostLeast", spec := "costLeast", named := ["math/bits.divideError", "math/bits.overflowError"], apart := false, narrowed := true }
def CostLeastUptoSaid : Prop := costLeastUptoRow.holds Try.pinned (OpenSpec.upto costLeastSpec)

/-- 'turnpikelaw9.CostTexts', WHERE WHAT IT READS IS OF BULK AT MOST 1048576: true; the input reads as it did. -/
def costTextsUptoRow : OpenClaim := { program := "ytnaamkkjledllaa", sum := "277b81a371bec80e2ff9bae52e1832672d73bf34439cf56af32228c5819eddb9", func := "turnpike/turnpikelaw9.CostTexts", spec := "costTexts", inPlace := ["math/bits.Add64"], named := ["math/bits.divideError", "math/bits.overflowError"], apart := false, narrowed := true }
def CostTextsUptoSaid : Prop := costTextsUptoRow.holds Try.pinned (OpenSpec.upto costTextsSpec)

/-- 'turnpikelaw9.CostRing', WHERE WHAT IT READS IS OF BULK AT MOST 1048576: true; the input reads as it did. -/
def costRingUptoRow : OpenClaim := { program := "ytnaamkkjledllaa", sum := "277b81a371bec80e2ff9bae52e1832672d73bf34439cf56af32228c5819eddb9", func := "turnpike/turnpikelaw9.CostRing", spec := "costRing", inPlace := ["math/bits.Add64"], named := ["math/bits.divideError", "math/bits.overflowError"], apart := false, narrowed := true }
def CostRingUptoSaid : Prop := costRingUptoRow.holds Try.pinned (OpenSpec.upto costRingSpec)

/-- 'turnpikelaw9.CostTimes', WHERE WHAT IT READS IS OF BULK AT MOST 1048576: true; the input reads as it did. -/
def costTimesUptoRow : OpenClaim := { program := "ytnaamkkjledllaa", sum := "277b81a371bec80e2ff9bae52e1832672d73bf34439cf56af32228c5819eddb9", func := "turnpike/turnpikelaw9.CostTimes", spec := "costTimes", inPlace := ["math/bits.Add64"], named := ["math/bits.divideError", "math/bits.overflowError"], apart := false, narrowed := true }
def CostTimesUptoSaid : Prop := costTimesUptoRow.holds Try.pinned (OpenSpec.upto costTimesSpec)

/-- 'turnpikelaw9.CostPows', WHERE WHAT IT READS IS OF BULK AT MOST 1048576: true; the input reads as it did. -/
def costPowsUptoRow : OpenClaim := { program := "ytnaamkkjledllaa", sum := "277b81a371bec80e2ff9bae52e1832672d73bf34439cf56af32228c5819eddb9", func := "turnpike/turnpikelaw9.CostPows", spec := "costPows", inPlace := ["math/bits.Add64"], named := ["math/bits.divideError", "math/bits.overflowError"], apart := false, narrowed := true }
def CostPowsUptoSaid : Prop := costPowsUptoRow.holds Try.pinned (OpenSpec.upto costPowsSpec)

end Rows
end Go.Proofs.Ytnaamkkjledllaa
