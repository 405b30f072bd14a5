/-
  Part 9 of the proof: 1 texts, one behind the other.
-/
import Derived.Test.YtnaamkkjledllaaRows
import Derived.Test.YtnaamkkjledllaaPart2
import Derived.ProofKit
import Derived.Lib.SmallJoins
import Derived.Laws.IdiomArrays
/-
  How a number of 192 bits that is handed in reads as data.
-/
namespace Go.Proofs.Ytnaamkkjledllaa
open Go.ChangeShapes Go.WideShapes Go.ChangeAt Go.RowKit Go.Joins
set_option linter.unusedSimpArgs false
set_option linter.unusedVariables false

theorem Try.cellsC : Try.prog.cellsOf 24 = 3 := by kernel_rfl
theorem Try.cellsU9 : Try.prog.cellsOf 22 = 1 := by kernel_rfl
theorem u64_bdC {a : Int} (h : (Lit.int .u64 a).wf = true) : 0 ≤ a ∧ a < 18446744073709551616 := by
  simp [Lit.wf, IntKind.min, IntKind.max, IntKind.signed, IntKind.bits] at h; omega
theorem costV_of {N : Nat} {a b c : Int} (h0 : cost0 N = a) (h1 : cost1 N = b) (h2 : cost2 N = c) : costV N = .agg #[.int .u64 a, .int .u64 b, .int .u64 c] := by unfold costV; rw [h0, h1, h2]
theorem array3c {cs : Array Value} (h : cs.size = 3) : ∃ a b c, cs = #[a, b, c] := by
  obtain ⟨l⟩ := cs
  match l, h with
  | [a, b, c], _ => exact ⟨a, b, c, rfl⟩
section
variable {H : Type} {enc : TypeId × Value → H} {w : World} {base : Nat} {spare : Nat → Bool} {held : Bool}
set_option maxRecDepth 100000 in
theorem open_cost {r : Reach} {b0 : Nat} {v : Value} {d : DataW H} {p : List MemPlace} (hv : Value.okWide Try.prog w r b0 24 v) (h : DataW.Trod enc Try.prog w base spare held 24 v d p) :
    ∃ a b c : Int, v = .agg #[.int .u64 a, .int .u64 b, .int .u64 c] ∧ d = .agg [.lit (.int .u64 a), .lit (.int .u64 b), .lit (.int .u64 c)] ∧ p = [] ∧ (Lit.int .u64 a).wf = true ∧ (Lit.int .u64 b).wf = true ∧ (Lit.int .u64 c).wf = true := by
  obtain ⟨cs, rfl, hsz, _⟩ : ∃ cs, v = .agg cs ∧ cs.size = Try.prog.cellsOf 24 ∧ Row.okWide Try.prog w r b0 24 cs := by
    simpa [Value.okWide, Try.underlying24] using hv
  obtain ⟨c0, c1, c2, rfl⟩ := array3c (hsz.trans Try.cellsC)
  obtain ⟨fuel, hf⟩ := h
  obtain ⟨y0, y1, y2, m, hx, hy0, hy1, hy2⟩ := trod_array3 Try.underlying24 Try.cellsU9 hf
  obtain ⟨a, ea, rfl, wa⟩ := DataW.trod_int Try.underlying22 hy0
  obtain ⟨b, eb, rfl, wb⟩ := DataW.trod_int Try.underlying22 hy1
  obtain ⟨c, ec, rfl, wc⟩ := DataW.trod_int Try.underlying22 hy2
  simp at ea eb ec
  subst ea eb ec
  simp only [Prod.mk.injEq] at hx
  exact ⟨a, b, c, rfl, hx.1, by simpa using hx.2, wa, wb, wc⟩
set_option maxRecDepth 100000 in
theorem shut_cost {a b c : Int} (wa : (Lit.int .u64 a).wf = true) (wb : (Lit.int .u64 b).wf = true) (wc : (Lit.int .u64 c).wf = true) :
    DataW.Trod enc Try.prog w base spare held 24 (.agg #[.int .u64 a, .int .u64 b, .int .u64 c]) (.agg [.lit (.int .u64 a), .lit (.int .u64 b), .lit (.int .u64 c)]) [] := by
  have r3 : List.range 3 = [0, 1, 2] := rfl
  exact ⟨2, by simp [DataW.trod, Value.cells, Try.underlying24, Try.underlying22, Try.cellsC, Try.cellsU9, r3, wa, wb, wc]⟩
end
end Go.Proofs.Ytnaamkkjledllaa
