/-
  No cell of these rows narrows 'for every input' (looked for: loops, veiled, ifaces, maps, wideKeys, modest, calm, conditions, laid).
  DERIVED. THE GIVEN ROWS OF THIS SEAT. 3 by the template 'for every input the law returns true; each argument reads behind the call as it read before'; 0 by the template 'total and deterministic' (their statements: YtohnhpicjedfeaaTotals.lean).
  GIVEN WITH THE SEED: the statements are not yours to turn. If you find one false, say at which input.
  Laid BY PROGRAM, IN A SANDBOX (cutbox-rows.mjs): the forced cells as the released guide's own fill.sh prints them over the translation e3ad7e69aed56655… (all of the seat's roots in one cut). By AI agents, Wed Nov 11 2026. No macro, syntax, notation, axiom, sorry.
-/
import Derived.Test.YtohnhpicjedfeaaChecked
import GoSem.Claim
import GoSem.ClaimJoined
import GoSem.ClaimMapViews
import Derived.JoinedTies
import Derived.KernelRfl
namespace Go.Proofs.Ytohnhpicjedfeaa
/- THE CELL 'sum', in the pinned program and in every row, IS THE sha256 OF THE DUMP (.gsa) THAT YtohnhpicjedfeaaProg.lean LOADS. Nothing in Lean hashes anything: it is a label: what it is worth is what the hold of that sum in a sandbox is worth. -/
noncomputable def Try.pinned : Pinned := { name := "ytohnhpicjedfeaa", sum := "e3ad7e69aed56655602a600027ca19d70457dcf82e39401a0e2ccdbe99899470", checked := Try.checked }
namespace Rows
def none {H : Type} : Left H := { results := [], args := [] }

/-- 'turnpikelaw5.TableCanons': WHATEVER THE INPUT: true; the input reads as it did. -/
def tableCanonsSpec : ChangeSpec := { name := "tableCanons", fn := fun _ => fun
  | [d1, d2] => { results := [.lit (.bool true)], args := [d1, d2] }
  | _ => none }
def tableCanonsRow : OpenClaim := { program := "ytohnhpicjedfeaa", sum := "e3ad7e69aed56655602a600027ca19d70457dcf82e39401a0e2ccdbe99899470", func := "turnpike/turnpikelaw5.TableCanons", spec := "tableCanons", inPlace := ["internal/bytealg.IndexByteString", "internal/bytealg.IndexString"], unfollowed := true, recurses := true, named := ["internal/bytealg.MaxLen"], apart := false }
def TableCanonsSaid : Prop := tableCanonsRow.holds Try.pinned (OpenSpec.ofChange tableCanonsSpec)

/-- ITS FALSE NEIGHBOUR: 'it returns false'. Refute it at one input. -/
def tableCanonsWrong : ChangeSpec := { name := "tableCanons", fn := fun _ => fun
  | [d1, d2] => { results := [.lit (.bool false)], args := [d1, d2] }
  | _ => none }
def TableCanonsWrongFalsely : Prop := tableCanonsRow.holds Try.pinned (OpenSpec.ofChange tableCanonsWrong)

/-- 'turnpikelaw5.TableLonely': WHATEVER THE INPUT: true; the input reads as it did. -/
def tableLonelySpec : ChangeSpec := { name := "tableLonely", fn := fun _ => fun
  | [d1, d2, d3, d4] => { results := [.lit (.bool true)], args := [d1, d2, d3, d4] }
  | _ => none }
def tableLonelyRow : OpenClaim := { program := "ytohnhpicjedfeaa", sum := "e3ad7e69aed56655602a600027ca19d70457dcf82e39401a0e2ccdbe99899470", func := "turnpike/turnpikelaw5.TableLonely", spec := "tableLonely", inPlace := ["internal/bytealg.IndexByteString", "internal/bytealg.IndexString"], unfollowed := true, recurses := true, named := ["internal/bytealg.MaxLen"], apart := false }
def TableLonelySaid : Prop := tableLonelyRow.holds Try.pinned (OpenSpec.ofChange tableLonelySpec)

/-- ITS FALSE NEIGHBOUR: 'it returns false'. Refute it at one input. -/
def tableLonelyWrong : ChangeSpec := { name := "tableLonely", fn := fun _ => fun
  | [d1, d2, d3, d4] => { results := [.lit (.bool false)], args := [d1, d2, d3, d4] }
  | _ => none }
def TableLonelyWrongFalsely : Prop := tableLonelyRow.holds Try.pinned (OpenSpec.ofChange tableLonelyWrong)

/-- 'turnpikelaw5.TableMany': WHATEVER THE INPUT: true; the input reads as it did. -/
def tableManySpec : ChangeSpec := { name := "tableMany", fn := fun _ => fun
  | [d1, d2] => { results := [.lit (.bool true)], args := [d1, d2] }
  | _ => none }
def tableManyRow : OpenClaim := { program := "ytohnhpicjedfeaa", sum := "e3ad7e69aed56655602a600027ca19d70457dcf82e39401a0e2ccdbe99899470", func := "turnpike/turnpikelaw5.TableMany", spec := "tableMany", inPlace := ["internal/bytealg.IndexByteString", "internal/bytealg.IndexString"], unfollowed := true, recurses := true, named := ["internal/bytealg.MaxLen"], apart := false }
def TableManySaid : Prop := tableManyRow.holds Try.pinned (OpenSpec.ofChange tableManySpec)

/-- ITS FALSE NEIGHBOUR: 'it returns false'. Refute it at one input. -/
def tableManyWrong : ChangeSpec := { name := "tableMany", fn := fun _ => fun
  | [d1, d2] => { results := [.lit (.bool false)], args := [d1, d2] }
  | _ => none }
def TableManyWrongFalsely : Prop := tableManyRow.holds Try.pinned (OpenSpec.ofChange tableManyWrong)

/- THE SECOND FORM. 'bulk': how many values and letters a reading holds, each counted each time it is reached (what is shared counts as often as it is met; a slice's spare places count too). A statement '..UptoSaid' is the law's where the arguments, and the package variables that the reading takes, are together of bulk at most 1048576: NARROWER than '..Said'. Prove '..Said' where nothing that the law and all that it calls make is longer than what came in: it says more and counts as full. Else prove '..UptoSaid'. A law counts once. -/
mutual
def uptoBulk {H : Type} : DataW H → Nat
  | .lit (.string bytes) => bytes.length + 1
  | .lit _ => 1
  | .nil => 1
  | .ptr d => uptoBulk d + 1
  | .slice elems spare => uptoBulkAll elems + uptoBulkAll spare + 1
  | .agg parts => uptoBulkAll parts + 1
  | .iface _ d => uptoBulk d + 1
  | .map entries => uptoBulkEntries entries + 1
  | .held _ => 1
def uptoBulkAll {H : Type} : List (DataW H) → Nat
  | [] => 0
  | d :: r => uptoBulk d + uptoBulkAll r
def uptoBulkEntries {H : Type} : List (Lit × DataW H) → Nat
  | [] => 0
  | x :: r => uptoBulkEntry x + uptoBulkEntries r
def uptoBulkEntry {H : Type} : Lit × DataW H → Nat
  | (.string bytes, d) => bytes.length + uptoBulk d + 1
  | (_, d) => uptoBulk d + 1
 end
def uptoSmall : (H : Type) → List (DataW H) → Bool := fun _ ds => decide (uptoBulkAll ds ≤ 1048576)
def OpenSpec.upto (s : _root_.Go.ChangeSpec) : _root_.Go.OpenSpec := { _root_.Go.OpenSpec.ofChange s with cond := some uptoSmall }

/-- 'turnpikelaw5.TableCanons', WHERE WHAT IT READS IS OF BULK AT MOST 1048576: true; the input reads as it did. -/
def tableCanonsUptoRow : OpenClaim := { program := "ytohnhpicjedfeaa", sum := "e3ad7e69aed56655602a600027ca19d70457dcf82e39401a0e2ccdbe99899470", func := "turnpike/turnpikelaw5.TableCanons", spec := "tableCanons", inPlace := ["internal/bytealg.IndexByteString", "internal/bytealg.IndexString"], unfollowed := true, recurses := true, named := ["internal/bytealg.MaxLen"], apart := false, narrowed := true }
def TableCanonsUptoSaid : Prop := tableCanonsUptoRow.holds Try.pinned (OpenSpec.upto tableCanonsSpec)

/-- 'turnpikelaw5.TableLonely', WHERE WHAT IT READS IS OF BULK AT MOST 1048576: true; the input reads as it did. -/
def tableLonelyUptoRow : OpenClaim := { program := "ytohnhpicjedfeaa", sum := "e3ad7e69aed56655602a600027ca19d70457dcf82e39401a0e2ccdbe99899470", func := "turnpike/turnpikelaw5.TableLonely", spec := "tableLonely", inPlace := ["internal/bytealg.IndexByteString", "internal/bytealg.IndexString"], unfollowed := true, recurses := true, named := ["internal/bytealg.MaxLen"], apart := false, narrowed := true }
def TableLonelyUptoSaid : Prop := tableLonelyUptoRow.holds Try.pinned (OpenSpec.upto tableLonelySpec)

/-- 'turnpikelaw5.TableMany', WHERE WHAT IT READS IS OF BULK AT MOST 1048576: true; the input reads as it did. -/
def tableManyUptoRow : OpenClaim := { program := "ytohnhpicjedfeaa", sum := "e3ad7e69aed56655602a600027ca19d70457dcf82e39401a0e2ccdbe99899470", func := "turnpike/turnpikelaw5.TableMany", spec := "tableMany", inPlace := ["internal/bytealg.IndexByteString", "internal/bytealg.IndexString"], unfollowed := true, recurses := true, named := ["internal/bytealg.MaxLen"], apart := false, narrowed := true }
def TableManyUptoSaid : Prop := tableManyUptoRow.holds Try.pinned (OpenSpec.upto tableManySpec)

end Rows
end Go.Proofs.Ytohnhpicjedfeaa
