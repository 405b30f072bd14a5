/-
  No cell of these rows narrows 'for every input' (looked for: loops, veiled, ifaces, maps, wideKeys, modest, calm, conditions, laid).
  DERIVED. THE GIVEN ROWS OF THIS SEAT. 6 by the template 'for every input the law returns true; each argument reads behind the call as it read before'; 0 by the template 'total and deterministic' (their statements: YtbgoclfifhdonaaTotals.lean).
  GIVEN WITH THE SEED: the statements are not yours to turn. If you find one false, say at which input.
  Laid BY PROGRAM, IN A SANDBOX (cutbox-rows.mjs): the forced cells as the released guide's own fill.sh prints them over the translation 15836b2f49e94ad9… (all of the seat's roots in one cut). By AI agents, Wed Nov 11 2026. No macro, syntax, notation, axiom, sorry.
-/
import Derived.Test.YtbgoclfifhdonaaChecked
import GoSem.Claim
import GoSem.ClaimJoined
import GoSem.ClaimMapViews
import Derived.JoinedTies
import Derived.KernelRfl
namespace Go.Proofs.Ytbgoclfifhdonaa
/- THE CELL 'sum', in the pinned program and in every row, IS THE sha256 OF THE DUMP (.gsa) THAT YtbgoclfifhdonaaProg.lean LOADS. Nothing in Lean hashes anything: it is a label: what it is worth is what the hold of that sum in a sandbox is worth. -/
noncomputable def Try.pinned : Pinned := { name := "ytbgoclfifhdonaa", sum := "15836b2f49e94ad97315401424b3585275760e8023486fefdd564446b7b7cbe0", checked := Try.checked }
namespace Rows
def none {H : Type} : Left H := { results := [], args := [] }

/-- 'turnpikelaw19.VmRuns': WHATEVER THE INPUT: true; the input reads as it did. -/
def vmRunsSpec : ChangeSpec := { name := "vmRuns", fn := fun _ => fun
  | [d1, d2, d3, d4] => { results := [.lit (.bool true)], args := [d1, d2, d3, d4] }
  | _ => none }
def vmRunsRow : OpenClaim := { program := "ytbgoclfifhdonaa", sum := "15836b2f49e94ad97315401424b3585275760e8023486fefdd564446b7b7cbe0", func := "turnpike/turnpikelaw19.VmRuns", spec := "vmRuns", unfollowed := true, recurses := true, apart := false }
def VmRunsSaid : Prop := vmRunsRow.holds Try.pinned (OpenSpec.ofChange vmRunsSpec)

/-- ITS FALSE NEIGHBOUR: 'it returns false'. Refute it at one input. -/
def vmRunsWrong : ChangeSpec := { name := "vmRuns", fn := fun _ => fun
  | [d1, d2, d3, d4] => { results := [.lit (.bool false)], args := [d1, d2, d3, d4] }
  | _ => none }
def VmRunsWrongFalsely : Prop := vmRunsRow.holds Try.pinned (OpenSpec.ofChange vmRunsWrong)

/-- 'turnpikelaw19.VmSteps': WHATEVER THE INPUT: true; the input reads as it did. -/
def vmStepsSpec : ChangeSpec := { name := "vmSteps", fn := fun _ => fun
  | [d1, d2, d3] => { results := [.lit (.bool true)], args := [d1, d2, d3] }
  | _ => none }
def vmStepsRow : OpenClaim := { program := "ytbgoclfifhdonaa", sum := "15836b2f49e94ad97315401424b3585275760e8023486fefdd564446b7b7cbe0", func := "turnpike/turnpikelaw19.VmSteps", spec := "vmSteps", unfollowed := true, recurses := true, apart := false }
def VmStepsSaid : Prop := vmStepsRow.holds Try.pinned (OpenSpec.ofChange vmStepsSpec)

/-- ITS FALSE NEIGHBOUR: 'it returns false'. Refute it at one input. -/
def vmStepsWrong : ChangeSpec := { name := "vmSteps", fn := fun _ => fun
  | [d1, d2, d3] => { results := [.lit (.bool false)], args := [d1, d2, d3] }
  | _ => none }
def VmStepsWrongFalsely : Prop := vmStepsRow.holds Try.pinned (OpenSpec.ofChange vmStepsWrong)

/-- 'turnpikelaw19.VmEnds': WHATEVER THE INPUT: true; the input reads as it did. -/
def vmEndsSpec : ChangeSpec := { name := "vmEnds", fn := fun _ => fun
  | [d1, d2, d3, d4] => { results := [.lit (.bool true)], args := [d1, d2, d3, d4] }
  | _ => none }
def vmEndsRow : OpenClaim := { program := "ytbgoclfifhdonaa", sum := "15836b2f49e94ad97315401424b3585275760e8023486fefdd564446b7b7cbe0", func := "turnpike/turnpikelaw19.VmEnds", spec := "vmEnds", unfollowed := true, recurses := true, apart := false }
def VmEndsSaid : Prop := vmEndsRow.holds Try.pinned (OpenSpec.ofChange vmEndsSpec)

/-- ITS FALSE NEIGHBOUR: 'it returns false'. Refute it at one input. -/
def vmEndsWrong : ChangeSpec := { name := "vmEnds", fn := fun _ => fun
  | [d1, d2, d3, d4] => { results := [.lit (.bool false)], args := [d1, d2, d3, d4] }
  | _ => none }
def VmEndsWrongFalsely : Prop := vmEndsRow.holds Try.pinned (OpenSpec.ofChange vmEndsWrong)

/-- 'turnpikelaw19.VmBehind': WHATEVER THE INPUT: true; the input reads as it did. -/
def vmBehindSpec : ChangeSpec := { name := "vmBehind", fn := fun _ => fun
  | [d1, d2, d3, d4] => { results := [.lit (.bool true)], args := [d1, d2, d3, d4] }
  | _ => none }
def vmBehindRow : OpenClaim := { program := "ytbgoclfifhdonaa", sum := "15836b2f49e94ad97315401424b3585275760e8023486fefdd564446b7b7cbe0", func := "turnpike/turnpikelaw19.VmBehind", spec := "vmBehind", unfollowed := true, recurses := true, apart := false }
def VmBehindSaid : Prop := vmBehindRow.holds Try.pinned (OpenSpec.ofChange vmBehindSpec)

/-- ITS FALSE NEIGHBOUR: 'it returns false'. Refute it at one input. -/
def vmBehindWrong : ChangeSpec := { name := "vmBehind", fn := fun _ => fun
  | [d1, d2, d3, d4] => { results := [.lit (.bool false)], args := [d1, d2, d3, d4] }
  | _ => none }
def VmBehindWrongFalsely : Prop := vmBehindRow.holds Try.pinned (OpenSpec.ofChange vmBehindWrong)

/-- 'turnpikelaw19.VmBits': WHATEVER THE INPUT: true; the input reads as it did. -/
def vmBitsSpec : ChangeSpec := { name := "vmBits", fn := fun _ => fun
  | [d1, d2, d3, d4] => { results := [.lit (.bool true)], args := [d1, d2, d3, d4] }
  | _ => none }
def vmBitsRow : OpenClaim := { program := "ytbgoclfifhdonaa", sum := "15836b2f49e94ad97315401424b3585275760e8023486fefdd564446b7b7cbe0", func := "turnpike/turnpikelaw19.VmBits", spec := "vmBits", unfollowed := true, recurses := true, apart := false }
def VmBitsSaid : Prop := vmBitsRow.holds Try.pinned (OpenSpec.ofChange vmBitsSpec)

/-- ITS FALSE NEIGHBOUR: 'it returns false'. Refute it at one input. -/
def vmBitsWrong : ChangeSpec := { name := "vmBits", fn := fun _ => fun
  | [d1, d2, d3, d4] => { results := [.lit (.bool false)], args := [d1, d2, d3, d4] }
  | _ => none }
def VmBitsWrongFalsely : Prop := vmBitsRow.holds Try.pinned (OpenSpec.ofChange vmBitsWrong)

/-- 'turnpikelaw19.VmApart': WHATEVER THE INPUT: true; the input reads as it did. -/
def vmApartSpec : ChangeSpec := { name := "vmApart", fn := fun _ => fun
  | [d1, d2, d3, d4, d5] => { results := [.lit (.bool true)], args := [d1, d2, d3, d4, d5] }
  | _ => none }
def vmApartRow : OpenClaim := { program := "ytbgoclfifhdonaa", sum := "15836b2f49e94ad97315401424b3585275760e8023486fefdd564446b7b7cbe0", func := "turnpike/turnpikelaw19.VmApart", spec := "vmApart", unfollowed := true, recurses := true, apart := false }
def VmApartSaid : Prop := vmApartRow.holds Try.pinned (OpenSpec.ofChange vmApartSpec)

/-- ITS FALSE NEIGHBOUR: 'it returns false'. Refute it at one input. -/
def vmApartWrong : ChangeSpec := { name := "vmApart", fn := fun _ => fun
  | [d1, d2, d3, d4, d5] => { results := [.lit (.bool false)], args := [d1, d2, d3, d4, d5] }
  | _ => none }
def VmApartWrongFalsely : Prop := vmApartRow.holds Try.pinned (OpenSpec.ofChange vmApartWrong)

/- THE SECOND FORM. 'bulk': how many values and letters a reading holds, each counted each time it is reached (what is shared counts as often as it is met; a slice's spare places count too). A statement '..UptoSaid' is the law's where the arguments, and the package variables that the reading takes, are together of bulk at most 1048576: NARROWER than '..Said'. Prove '..Said' where nothing that the law and all that it calls make is longer than what came in: it says more and counts as full. Else prove '..UptoSaid'. A law counts once. -/
mutual
def uptoBulk {H : Type} : DataW H → Nat
  | .lit (.string bytes) => bytes.length + 1
  | .lit _ => 1
  | .nil => 1
  | .ptr d => uptoBulk d + 1
  | .slice elems spare => uptoBulkAll elems + uptoBulkAll spare + 1
  | .agg parts => uptoBulkAll parts + 1
  | .iface _ d => uptoBulk d + 1
  | .map entries => uptoBulkEntries entries + 1
  | .held _ => 1
def uptoBulkAll {H : Type} : List (DataW H) → Nat
  | [] => 0
  | d :: r => uptoBulk d + uptoBulkAll r
def uptoBulkEntries {H : Type} : List (Lit × DataW H) → Nat
  | [] => 0
  | x :: r => uptoBulkEntry x + uptoBulkEntries r
def uptoBulkEntry {H : Type} : Lit × DataW H → Nat
  | (.string bytes, d) => bytes.length + uptoBulk d + 1
  | (_, d) => uptoBulk d + 1
 end
def uptoSmall : (H : Type) → List (DataW H) → Bool := fun _ ds => decide (uptoBulkAll ds ≤ 1048576)
def OpenSpec.upto (s : _root_.Go.ChangeSpec) : _root_.Go.OpenSpec := { _root_.Go.OpenSpec.ofChange s with cond := some uptoSmall }

/-- 'turnpikelaw19.VmRuns', WHERE WHAT IT READS IS OF BULK AT MOST 1048576: true; the input reads as it did. -/
def vmRunsUptoRow : OpenClaim := { program := "ytbgoclfifhdonaa", sum := "15836b2f49e94ad97315401424b3585275760e8023486fefdd564446b7b7cbe0", func := "turnpike/turnpikelaw19.VmRuns", spec := "vmRuns", unfollowed := true, recurses := true, apart := false, narrowed := true }
def VmRunsUptoSaid : Prop := vmRunsUptoRow.holds Try.pinned (OpenSpec.upto vmRunsSpec)

/-- 'turnpikelaw19.VmSteps', WHERE WHAT IT READS IS OF BULK AT MOST 1048576: true; the input reads as it did. -/
def vmStepsUptoRow : OpenClaim := { program := "ytbgoclfifhdonaa", sum := "15836b2f49e94ad97315401424b3585275760e8023486fefdd564446b7b7cbe0", func := "turnpike/turnpikelaw19.VmSteps", spec := "vmSteps", unfollowed := true, recurses := true, apart := false, narrowed := true }
def VmStepsUptoSaid : Prop := vmStepsUptoRow.holds Try.pinned (OpenSpec.upto vmStepsSpec)

/-- 'turnpikelaw19.VmEnds', WHERE WHAT IT READS IS OF BULK AT MOST 1048576: true; the input reads as it did. -/
def vmEndsUptoRow : OpenClaim := { program := "ytbgoclfifhdonaa", sum := "15836b2f49e94ad97315401424b3585275760e8023486fefdd564446b7b7cbe0", func := "turnpike/turnpikelaw19.VmEnds", spec := "vmEnds", unfollowed := true, recurses := true, apart := false, narrowed := true }
def VmEndsUptoSaid : Prop := vmEndsUptoRow.holds Try.pinned (OpenSpec.upto vmEndsSpec)

/-- 'turnpikelaw19.VmBehind', WHERE WHAT IT READS IS OF BULK AT MOST 1048576: true; the input reads as it did. -/
def vmBehindUptoRow : OpenClaim := { program := "ytbgoclfifhdonaa", sum := "15836b2f49e94ad97315401424b3585275760e8023486fefdd564446b7b7cbe0", func := "turnpike/turnpikelaw19.VmBehind", spec := "vmBehind", unfollowed := true, recurses := true, apart := false, narrowed := true }
def VmBehindUptoSaid : Prop := vmBehindUptoRow.holds Try.pinned (OpenSpec.upto vmBehindSpec)

/-- 'turnpikelaw19.VmBits', WHERE WHAT IT READS IS OF BULK AT MOST 1048576: true; the input reads as it did. -/
def vmBitsUptoRow : OpenClaim := { program := "ytbgoclfifhdonaa", sum := "15836b2f49e94ad97315401424b3585275760e8023486fefdd564446b7b7cbe0", func := "turnpike/turnpikelaw19.VmBits", spec := "vmBits", unfollowed := true, recurses := true, apart := false, narrowed := true }
def VmBitsUptoSaid : Prop := vmBitsUptoRow.holds Try.pinned (OpenSpec.upto vmBitsSpec)

/-- 'turnpikelaw19.VmApart', WHERE WHAT IT READS IS OF BULK AT MOST 1048576: true; the input reads as it did. -/
def vmApartUptoRow : OpenClaim := { program := "ytbgoclfifhdonaa", sum := "15836b2f49e94ad97315401424b3585275760e8023486fefdd564446b7b7cbe0", func := "turnpike/turnpikelaw19.VmApart", spec := "vmApart", unfollowed := true, recurses := true, apart := false, narrowed := true }
def VmApartUptoSaid : Prop := vmApartUptoRow.holds Try.pinned (OpenSpec.upto vmApartSpec)

end Rows
end Go.Proofs.Ytbgoclfifhdonaa
