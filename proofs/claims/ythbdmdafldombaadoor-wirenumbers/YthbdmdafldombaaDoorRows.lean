/-
  NARROWER THAN 'FOR EVERY INPUT', by the rows' own cells (each row's printed sentence says how): WireNumbers: laid · WireSums: laid · WireJoins: laid · WireRanks: laid · WireFolds: laid · WireUnfolds: laid.
  DERIVED. THE GIVEN ROWS OF THIS SEAT. 6 by the template 'for every input the law returns true; each argument reads behind the call as it read before'; 0 by the template 'total and deterministic' (their statements: YthbdmdafldombaaDoorTotals.lean).
  GIVEN WITH THE SEED: the statements are not yours to turn. If you find one false, say at which input.
  Laid BY PROGRAM, IN A SANDBOX (cutbox-rows.mjs): the forced cells as the released guide's own fill.sh prints them over the translation 04dcffcade163413… (all of the seat's roots in one cut). By AI agents, Wed Nov 11 2026. No macro, syntax, notation, axiom, sorry.
-/
import Derived.Test.YthbdmdafldombaaDoorChecked
import GoSem.Claim
import GoSem.ClaimJoined
import GoSem.ClaimMapViews
import Derived.JoinedTies
import Derived.KernelRfl
namespace Go.Proofs.YthbdmdafldombaaDoor
/- THE CELL 'sum', in the pinned program and in every row, IS THE sha256 OF THE DUMP (.gsa) THAT YthbdmdafldombaaDoorProg.lean LOADS. Nothing in Lean hashes anything: it is a label: what it is worth is what the hold of that sum in a sandbox is worth. -/
noncomputable def Tryd.pinned : Pinned := { name := "ythbdmdafldombaadoor", sum := "04dcffcade1634138f5feb7799a127c74298e2dbdeb7b23279b665713a5a81d3", checked := Tryd.checked }
namespace Rows
def none {H : Type} : Left H := { results := [], args := [] }

/- WHAT THE LISTED PACKAGE-LEVEL VARIABLES READ AS WHEN THE CALL BEGINS. Each datum BY PROGRAM (the guide's laid-datum.mjs) off the statement by which the dump's own 'gosem.cut.vars' lays the variable. In a bare row this is a premise. The card (YthbdmdafldombaaDoorCards.lean) ties it to the program's text. -/
def laid_turnpike_wire_ofHalf {H : Type} : DataW H := .agg [.lit (.int .u32 0), .lit (.int .u32 274646895), .lit (.int .u32 549293790), .lit (.int .u32 820201905), .lit (.int .u32 1098587580), .lit (.int .u32 1361435347), .lit (.int .u32 1640403810), .lit (.int .u32 1905808397), .lit (.int .u32 2197175160), .lit (.int .u32 2460548119), .lit (.int .u32 2722870694), .lit (.int .u32 2987750089), .lit (.int .u32 3280807620), .lit (.int .u32 3553878443), .lit (.int .u32 3811616794), .lit (.int .u32 4084100981)]

/-- 'turnpikelaw13.WireNumbers': WHATEVER THE INPUT: true; the input reads as it did. -/
def wireNumbersSpec : ChangeSpec := { name := "wireNumbers", fn := fun _ => fun
  | [d1, d2, d3] => { results := [.lit (.bool true)], args := [d1, d2, d3] }
  | _ => none }
def wireNumbersRow : OpenClaim := { program := "ythbdmdafldombaadoor", sum := "04dcffcade1634138f5feb7799a127c74298e2dbdeb7b23279b665713a5a81d3", func := "turnpike/turnpikelaw13.WireNumbers", spec := "wireNumbers", unfollowed := true, recurses := true, named := ["turnpike/wire.ofHalf"], apart := false, laid := [("turnpike/wire.ofHalf", laid_turnpike_wire_ofHalf)] }
def WireNumbersSaid : Prop := wireNumbersRow.holds Tryd.pinned (OpenSpec.ofChange wireNumbersSpec)

/-- ITS FALSE NEIGHBOUR: 'it returns false'. Refute it at one input. -/
def wireNumbersWrong : ChangeSpec := { name := "wireNumbers", fn := fun _ => fun
  | [d1, d2, d3] => { results := [.lit (.bool false)], args := [d1, d2, d3] }
  | _ => none }
def WireNumbersWrongFalsely : Prop := wireNumbersRow.holds Tryd.pinned (OpenSpec.ofChange wireNumbersWrong)

/-- 'turnpikelaw13.WireSums': WHATEVER THE INPUT: true; the input reads as it did. -/
def wireSumsSpec : ChangeSpec := { name := "wireSums", fn := fun _ => fun
  | [d] => { results := [.lit (.bool true)], args := [d] }
  | _ => none }
def wireSumsRow : OpenClaim := { program := "ythbdmdafldombaadoor", sum := "04dcffcade1634138f5feb7799a127c74298e2dbdeb7b23279b665713a5a81d3", func := "turnpike/turnpikelaw13.WireSums", spec := "wireSums", unfollowed := true, recurses := true, named := ["turnpike/wire.ofHalf"], apart := false, laid := [("turnpike/wire.ofHalf", laid_turnpike_wire_ofHalf)] }
def WireSumsSaid : Prop := wireSumsRow.holds Tryd.pinned (OpenSpec.ofChange wireSumsSpec)

/-- ITS FALSE NEIGHBOUR: 'it returns false'. Refute it at one input. -/
def wireSumsWrong : ChangeSpec := { name := "wireSums", fn := fun _ => fun
  | [d] => { results := [.lit (.bool false)], args := [d] }
  | _ => none }
def WireSumsWrongFalsely : Prop := wireSumsRow.holds Tryd.pinned (OpenSpec.ofChange wireSumsWrong)

/-- 'turnpikelaw13.WireJoins': WHATEVER THE INPUT: true; the input reads as it did. -/
def wireJoinsSpec : ChangeSpec := { name := "wireJoins", fn := fun _ => fun
  | [d1, d2, d3] => { results := [.lit (.bool true)], args := [d1, d2, d3] }
  | _ => none }
def wireJoinsRow : OpenClaim := { program := "ythbdmdafldombaadoor", sum := "04dcffcade1634138f5feb7799a127c74298e2dbdeb7b23279b665713a5a81d3", func := "turnpike/turnpikelaw13.WireJoins", spec := "wireJoins", unfollowed := true, recurses := true, named := ["turnpike/wire.ofHalf"], apart := false, laid := [("turnpike/wire.ofHalf", laid_turnpike_wire_ofHalf)] }
def WireJoinsSaid : Prop := wireJoinsRow.holds Tryd.pinned (OpenSpec.ofChange wireJoinsSpec)

/-- ITS FALSE NEIGHBOUR: 'it returns false'. Refute it at one input. -/
def wireJoinsWrong : ChangeSpec := { name := "wireJoins", fn := fun _ => fun
  | [d1, d2, d3] => { results := [.lit (.bool false)], args := [d1, d2, d3] }
  | _ => none }
def WireJoinsWrongFalsely : Prop := wireJoinsRow.holds Tryd.pinned (OpenSpec.ofChange wireJoinsWrong)

/-- 'turnpikelaw13.WireRanks': WHATEVER THE INPUT: true; the input reads as it did. -/
def wireRanksSpec : ChangeSpec := { name := "wireRanks", fn := fun _ => fun
  | [d1, d2, d3] => { results := [.lit (.bool true)], args := [d1, d2, d3] }
  | _ => none }
def wireRanksRow : OpenClaim := { program := "ythbdmdafldombaadoor", sum := "04dcffcade1634138f5feb7799a127c74298e2dbdeb7b23279b665713a5a81d3", func := "turnpike/turnpikelaw13.WireRanks", spec := "wireRanks", unfollowed := true, recurses := true, named := ["turnpike/wire.ofHalf"], apart := false, laid := [("turnpike/wire.ofHalf", laid_turnpike_wire_ofHalf)] }
def WireRanksSaid : Prop := wireRanksRow.holds Tryd.pinned (OpenSpec.ofChange wireRanksSpec)

/-- ITS FALSE NEIGHBOUR: 'it returns false'. Refute it at one input. -/
def wireRanksWrong : ChangeSpec := { name := "wireRanks", fn := fun _ => fun
  | [d1, d2, d3] => { results := [.lit (.bool false)], args := [d1, d2, d3] }
  | _ => none }
def WireRanksWrongFalsely : Prop := wireRanksRow.holds Tryd.pinned (OpenSpec.ofChange wireRanksWrong)

/-- 'turnpikelaw13.WireFolds': WHATEVER THE INPUT: true; the input reads as it did. -/
def wireFoldsSpec : ChangeSpec := { name := "wireFolds", fn := fun _ => fun
  | [d] => { results := [.lit (.bool true)], args := [d] }
  | _ => none }
def wireFoldsRow : OpenClaim := { program := "ythbdmdafldombaadoor", sum := "04dcffcade1634138f5feb7799a127c74298e2dbdeb7b23279b665713a5a81d3", func := "turnpike/turnpikelaw13.WireFolds", spec := "wireFolds", unfollowed := true, recurses := true, named := ["turnpike/wire.ofHalf"], apart := false, laid := [("turnpike/wire.ofHalf", laid_turnpike_wire_ofHalf)] }
def WireFoldsSaid : Prop := wireFoldsRow.holds Tryd.pinned (OpenSpec.ofChange wireFoldsSpec)

/-- ITS FALSE NEIGHBOUR: 'it returns false'. Refute it at one input. -/
def wireFoldsWrong : ChangeSpec := { name := "wireFolds", fn := fun _ => fun
  | [d] => { results := [.lit (.bool false)], args := [d] }
  | _ => none }
def WireFoldsWrongFalsely : Prop := wireFoldsRow.holds Tryd.pinned (OpenSpec.ofChange wireFoldsWrong)

/-- 'turnpikelaw13.WireUnfolds': WHATEVER THE INPUT: true; the input reads as it did. -/
def wireUnfoldsSpec : ChangeSpec := { name := "wireUnfolds", fn := fun _ => fun
  | [d1, d2, d3] => { results := [.lit (.bool true)], args := [d1, d2, d3] }
  | _ => none }
def wireUnfoldsRow : OpenClaim := { program := "ythbdmdafldombaadoor", sum := "04dcffcade1634138f5feb7799a127c74298e2dbdeb7b23279b665713a5a81d3", func := "turnpike/turnpikelaw13.WireUnfolds", spec := "wireUnfolds", unfollowed := true, recurses := true, named := ["turnpike/wire.ofHalf"], apart := false, laid := [("turnpike/wire.ofHalf", laid_turnpike_wire_ofHalf)] }
def WireUnfoldsSaid : Prop := wireUnfoldsRow.holds Tryd.pinned (OpenSpec.ofChange wireUnfoldsSpec)

/-- ITS FALSE NEIGHBOUR: 'it returns false'. Refute it at one input. -/
def wireUnfoldsWrong : ChangeSpec := { name := "wireUnfolds", fn := fun _ => fun
  | [d1, d2, d3] => { results := [.lit (.bool false)], args := [d1, d2, d3] }
  | _ => none }
def WireUnfoldsWrongFalsely : Prop := wireUnfoldsRow.holds Tryd.pinned (OpenSpec.ofChange wireUnfoldsWrong)

/- THE SECOND FORM. 'bulk': how many values and letters a reading holds, each counted each time it is reached (what is shared counts as often as it is met; a slice's spare places count too). A statement '..UptoSaid' is the law's where the arguments, and the package variables that the reading takes, are together of bulk at most 1048576: NARROWER than '..Said'. Prove '..Said' where nothing that the law and all that it calls make is longer than what came in: it says more and counts as full. Else prove '..UptoSaid'. A law counts once. -/
mutual
def uptoBulk {H : Type} : DataW H → Nat
  | .lit (.string bytes) => bytes.length + 1
  | .lit _ => 1
  | .nil => 1
  | .ptr d => uptoBulk d + 1
  | .slice elems spare => uptoBulkAll elems + uptoBulkAll spare + 1
  | .agg parts => uptoBulkAll parts + 1
  | .iface _ d => uptoBulk d + 1
  | .map entries => uptoBulkEntries entries + 1
  | .held _ => 1
def uptoBulkAll {H : Type} : List (DataW H) → Nat
  | [] => 0
  | d :: r => uptoBulk d + uptoBulkAll r
def uptoBulkEntries {H : Type} : List (Lit × DataW H) → Nat
  | [] => 0
  | x :: r => uptoBulkEntry x + uptoBulkEntries r
def uptoBulkEntry {H : Type} : Lit × DataW H → Nat
  | (.string bytes, d) => bytes.length + uptoBulk d + 1
  | (_, d) => uptoBulk d + 1
 end
def uptoSmall : (H : Type) → List (DataW H) → Bool := fun _ ds => decide (uptoBulkAll ds ≤ 1048576)
def OpenSpec.upto (s : _root_.Go.ChangeSpec) : _root_.Go.OpenSpec := { _root_.Go.OpenSpec.ofChange s with cond := some uptoSmall }

/-- 'turnpikelaw13.WireNumbers', WHERE WHAT IT READS IS OF BULK AT MOST 1048576: true; the input reads as it did. -/
def wireNumbersUptoRow : OpenClaim := { program := "ythbdmdafldombaadoor", sum := "04dcffcade1634138f5feb7799a127c74298e2dbdeb7b23279b665713a5a81d3", func := "turnpike/turnpikelaw13.WireNumbers", spec := "wireNumbers", unfollowed := true, recurses := true, named := ["turnpike/wire.ofHalf"], apart := false, laid := [("turnpike/wire.ofHalf", laid_turnpike_wire_ofHalf)], narrowed := true }
def WireNumbersUptoSaid : Prop := wireNumbersUptoRow.holds Tryd.pinned (OpenSpec.upto wireNumbersSpec)

/-- 'turnpikelaw13.WireSums', WHERE WHAT IT READS IS OF BULK AT MOST 1048576: true; the input reads as it did. -/
def wireSumsUptoRow : OpenClaim := { program := "ythbdmdafldombaadoor", sum := "04dcffcade1634138f5feb7799a127c74298e2dbdeb7b23279b665713a5a81d3", func := "turnpike/turnpikelaw13.WireSums", spec := "wireSums", unfollowed := true, recurses := true, named := ["turnpike/wire.ofHalf"], apart := false, laid := [("turnpike/wire.ofHalf", laid_turnpike_wire_ofHalf)], narrowed := true }
def WireSumsUptoSaid : Prop := wireSumsUptoRow.holds Tryd.pinned (OpenSpec.upto wireSumsSpec)

/-- 'turnpikelaw13.WireJoins', WHERE WHAT IT READS IS OF BULK AT MOST 1048576: true; the input reads as it did. -/
def wireJoinsUptoRow : OpenClaim := { program := "ythbdmdafldombaadoor", sum := "04dcffcade1634138f5feb7799a127c74298e2dbdeb7b23279b665713a5a81d3", func := "turnpike/turnpikelaw13.WireJoins", spec := "wireJoins", unfollowed := true, recurses := true, named := ["turnpike/wire.ofHalf"], apart := false, laid := [("turnpike/wire.ofHalf", laid_turnpike_wire_ofHalf)], narrowed := true }
def WireJoinsUptoSaid : Prop := wireJoinsUptoRow.holds Tryd.pinned (OpenSpec.upto wireJoinsSpec)

/-- 'turnpikelaw13.WireRanks', WHERE WHAT IT READS IS OF BULK AT MOST 1048576: true; the input reads as it did. -/
def wireRanksUptoRow : OpenClaim := { program := "ythbdmdafldombaadoor", sum := "04dcffcade1634138f5feb7799a127c74298e2dbdeb7b23279b665713a5a81d3", func := "turnpike/turnpikelaw13.WireRanks", spec := "wireRanks", unfollowed := true, recurses := true, named := ["turnpike/wire.ofHalf"], apart := false, laid := [("turnpike/wire.ofHalf", laid_turnpike_wire_ofHalf)], narrowed := true }
def WireRanksUptoSaid : Prop := wireRanksUptoRow.holds Tryd.pinned (OpenSpec.upto wireRanksSpec)

/-- 'turnpikelaw13.WireFolds', WHERE WHAT IT READS IS OF BULK AT MOST 1048576: true; the input reads as it did. -/
def wireFoldsUptoRow : OpenClaim := { program := "ythbdmdafldombaadoor", sum := "04dcffcade1634138f5feb7799a127c74298e2dbdeb7b23279b665713a5a81d3", func := "turnpike/turnpikelaw13.WireFolds", spec := "wireFolds", unfollowed := true, recurses := true, named := ["turnpike/wire.ofHalf"], apart := false, laid := [("turnpike/wire.ofHalf", laid_turnpike_wire_ofHalf)], narrowed := true }
def WireFoldsUptoSaid : Prop := wireFoldsUptoRow.holds Tryd.pinned (OpenSpec.upto wireFoldsSpec)

/-- 'turnpikelaw13.WireUnfolds', WHERE WHAT IT READS IS OF BULK AT MOST 1048576: true; the input reads as it did. -/
def wireUnfoldsUptoRow : OpenClaim := { program := "ythbdmdafldombaadoor", sum := "04dcffcade1634138f5feb7799a127c74298e2dbdeb7b23279b665713a5a81d3", func := "turnpike/turnpikelaw13.WireUnfolds", spec := "wireUnfolds", unfollowed := true, recurses := true, named := ["turnpike/wire.ofHalf"], apart := false, laid := [("turnpike/wire.ofHalf", laid_turnpike_wire_ofHalf)], narrowed := true }
def WireUnfoldsUptoSaid : Prop := wireUnfoldsUptoRow.holds Tryd.pinned (OpenSpec.upto wireUnfoldsSpec)

end Rows
end Go.Proofs.YthbdmdafldombaaDoor
