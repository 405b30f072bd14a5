/-
  Part 11 of the proof: 2 texts, one behind the other.
-/
import Derived.Test.YtnaamkkjledllaaPart7
import Derived.Test.YtnaamkkjledllaaPart10
import Derived.Test.YtnaamkkjledllaaRows
import Derived.Test.YtnaamkkjledllaaPart2
import Derived.ProofKit
import Derived.Lib.SmallJoins
import Derived.Laws.IdiomArrays
/-
  The law CostTexts: texts and numbers, as the document has them.
-/
namespace Go.Proofs.Ytnaamkkjledllaa
open Go.RowKit
set_option linter.unusedSimpArgs false
set_option linter.unusedVariables false


set_option maxRecDepth 20000 in
set_option maxHeartbeats 16000000 in
theorem costTexts_any (N : Nat) (s : ByteArray) (w : World) (hN : N < 6277101735386680763835789423207666416102355444464034512896) (hs : s.size ≤ maxLen) :
    Calls Try.prog 5 #[costV N, .string s] w fun e w' => e = .returned (.bool true) ∧ Below w.heap.size w w' := by
  have KK := known9_any
  have KP := fun w => parse9_any s w hs
  have RP := fun w => rparse9_any s w hs
  have KT := fun w => text9_any N w hN
  have RT := fun w => rtext9_any N w hN
  clear hN hs
  generalize par9E s = e at *
  generalize par9N s = P at *
  generalize (⟨(txN N).toArray⟩ : ByteArray) = t at *
  unfold costV at *
  generalize cost0 N = x0 at *
  generalize cost1 N = x1 at *
  generalize cost2 N = x2 at *
  generalize cost0 P = p0 at *
  generalize cost1 P = p1 at *
  generalize cost2 P = p2 at *
  have h1 := eqC_same p0 p1 p2
  have H0 := hid9 (Kcs.one w x0 x1 x2)
  go_enter Try.func5, Try.ntmps5
  go_wp2_with fail
  revert H0
  generalize w.alloc (.cells #[.int .u64 x0, .int .u64 x1, .int .u64 x2] 24) = W0
  intro H0
  refine (KP _).mono ?_
  rintro e' v1 ⟨rfl, hb⟩
  have H1 := hid9 (Kcs.new (a := p0) (b := p1) (c := p2) H0.out hb)
  clear H0 hb
  go_wp2_with fail
  revert H1
  generalize v1.alloc (.cells #[.int .u64 p0, .int .u64 p1, .int .u64 p2] 24) = W1
  generalize v1.heap.size = N1
  intro H1
  refine (RP _).mono ?_
  rintro e' v2 ⟨rfl, hb⟩
  have H2 := hid9 (Kcs.new (a := p0) (b := p1) (c := p2) H1.out hb)
  clear H1 hb
  go_wp2_with fail
  revert H2
  generalize v2.alloc (.cells #[.int .u64 p0, .int .u64 p1, .int .u64 p2] 24) = W2
  generalize v2.heap.size = N2
  intro H2
  refine qw_region (C := fun W => Kcs w W [(N2, p0, p1, p2), (N1, p0, p1, p2), (w.heap.size, x0, x1, x2)]) (by kernel_rfl) (by kernel_rfl) H2.out.drew ?_
  refine qw_call (v := .bool true) (f := 15) (args := #[]) (by rfl) ?_ ?_ ?_
  · (intro w1 hC; clear hC; go_simp)
  · exact fun w1 hC => (KK w1).mono fun e w' ⟨he, hb⟩ => ⟨he, Kcs.below hC hb⟩
  simp only [Act.put, List.setIfInBounds_toArray, List.set_cons_zero, List.set_cons_succ]
  refine qw_run (v := .bool true) (by rfl) ?_ ?_
  · (intro w1 hC; obtain ⟨⟨⟨g00, g01, g02, -, -, -⟩, ⟨g10, g11, g12, -, -, -⟩, ⟨g20, g21, g22, -, -, -⟩, -⟩, -⟩ := hC; go_simp; first | done | (simp; done) | (simp [*]; done) | omega | (simp; omega) | (rw [IntKind.wrap_i64]; omega) | (intro hx; omega) | rfl)
  simp only [Act.put, List.setIfInBounds_toArray, List.set_cons_zero, List.set_cons_succ]
  refine qw_run (v := .agg #[.int .u64 x0, .int .u64 x1, .int .u64 x2]) (by rfl) ?_ ?_
  · (intro w1 hC; obtain ⟨⟨⟨g00, g01, g02, -, -, -⟩, ⟨g10, g11, g12, -, -, -⟩, ⟨g20, g21, g22, -, -, -⟩, -⟩, -⟩ := hC; go_simp; first | done | (simp; done) | (simp [*]; done) | omega | (simp; omega) | (rw [IntKind.wrap_i64]; omega) | (intro hx; omega) | rfl)
  simp only [Act.put, List.setIfInBounds_toArray, List.set_cons_zero, List.set_cons_succ]
  refine qw_call (v := .string (t)) (f := 24) (args := #[.agg #[.int .u64 x0, .int .u64 x1, .int .u64 x2]]) (by rfl) ?_ ?_ ?_
  · (intro w1 hC; clear hC; go_simp)
  · exact fun w1 hC => (KT w1).mono fun e w' ⟨he, hb⟩ => ⟨he, Kcs.below hC hb⟩
  simp only [Act.put, List.setIfInBounds_toArray, List.set_cons_zero, List.set_cons_succ]
  refine qw_run (v := .agg #[.int .u64 x0, .int .u64 x1, .int .u64 x2]) (by rfl) ?_ ?_
  · (intro w1 hC; obtain ⟨⟨⟨g00, g01, g02, -, -, -⟩, ⟨g10, g11, g12, -, -, -⟩, ⟨g20, g21, g22, -, -, -⟩, -⟩, -⟩ := hC; go_simp; first | done | (simp; done) | (simp [*]; done) | omega | (simp; omega) | (rw [IntKind.wrap_i64]; omega) | (intro hx; omega) | rfl)
  simp only [Act.put, List.setIfInBounds_toArray, List.set_cons_zero, List.set_cons_succ]
  refine qw_call (v := .string (t)) (f := 25) (args := #[.agg #[.int .u64 x0, .int .u64 x1, .int .u64 x2]]) (by rfl) ?_ ?_ ?_
  · (intro w1 hC; clear hC; go_simp)
  · exact fun w1 hC => (RT w1).mono fun e w' ⟨he, hb⟩ => ⟨he, Kcs.below hC hb⟩
  simp only [Act.put, List.setIfInBounds_toArray, List.set_cons_zero, List.set_cons_succ]
  refine qw_run (v := .bool true) (by rfl) ?_ ?_
  · (intro w1 hC; obtain ⟨⟨⟨g00, g01, g02, -, -, -⟩, ⟨g10, g11, g12, -, -, -⟩, ⟨g20, g21, g22, -, -, -⟩, -⟩, -⟩ := hC; go_simp; first | done | (simp; done) | (simp [*]; done) | omega | (simp; omega) | (rw [IntKind.wrap_i64]; omega) | (intro hx; omega) | rfl)
  simp only [Act.put, List.setIfInBounds_toArray, List.set_cons_zero, List.set_cons_succ]
  refine qw_run (v := .bool true) (by rfl) ?_ ?_
  · (intro w1 hC; obtain ⟨⟨⟨g00, g01, g02, -, -, -⟩, ⟨g10, g11, g12, -, -, -⟩, ⟨g20, g21, g22, -, -, -⟩, -⟩, -⟩ := hC; go_simp; first | done | (simp; done) | (simp [*]; done) | omega | (simp; omega) | (rw [IntKind.wrap_i64]; omega) | (intro hx; omega) | rfl)
  simp only [Act.put, List.setIfInBounds_toArray, List.set_cons_zero, List.set_cons_succ]
  refine qw_run (v := .bool true) (by rfl) ?_ ?_
  · (intro w1 hC; obtain ⟨⟨⟨g00, g01, g02, -, -, -⟩, ⟨g10, g11, g12, -, -, -⟩, ⟨g20, g21, g22, -, -, -⟩, -⟩, -⟩ := hC; go_simp; first | done | (simp; done) | (simp [*]; done) | omega | (simp; omega) | (rw [IntKind.wrap_i64]; omega) | (intro hx; omega) | rfl)
  simp only [Act.put, List.setIfInBounds_toArray, List.set_cons_zero, List.set_cons_succ]
  refine qw_run (v := .agg #[.int .u64 p0, .int .u64 p1, .int .u64 p2]) (by rfl) ?_ ?_
  · (intro w1 hC; obtain ⟨⟨⟨g00, g01, g02, -, -, -⟩, ⟨g10, g11, g12, -, -, -⟩, ⟨g20, g21, g22, -, -, -⟩, -⟩, -⟩ := hC; go_simp; first | done | (simp; done) | (simp [*]; done) | omega | (simp; omega) | (rw [IntKind.wrap_i64]; omega) | (intro hx; omega) | rfl)
  simp only [Act.put, List.setIfInBounds_toArray, List.set_cons_zero, List.set_cons_succ]
  refine qw_run (v := .agg #[.int .u64 p0, .int .u64 p1, .int .u64 p2]) (by rfl) ?_ ?_
  · (intro w1 hC; obtain ⟨⟨⟨g00, g01, g02, -, -, -⟩, ⟨g10, g11, g12, -, -, -⟩, ⟨g20, g21, g22, -, -, -⟩, -⟩, -⟩ := hC; go_simp; first | done | (simp; done) | (simp [*]; done) | omega | (simp; omega) | (rw [IntKind.wrap_i64]; omega) | (intro hx; omega) | rfl)
  simp only [Act.put, List.setIfInBounds_toArray, List.set_cons_zero, List.set_cons_succ]
  refine qw_run (v := .bool true) (by rfl) ?_ ?_
  · (intro w1 hC; obtain ⟨⟨⟨g00, g01, g02, -, -, -⟩, ⟨g10, g11, g12, -, -, -⟩, ⟨g20, g21, g22, -, -, -⟩, -⟩, -⟩ := hC; go_simp; first | done | (simp; done) | (simp [*]; done) | omega | (simp; omega) | (rw [IntKind.wrap_i64]; omega) | (intro hx; omega) | rfl)
  simp only [Act.put, List.setIfInBounds_toArray, List.set_cons_zero, List.set_cons_succ]
  refine qw_run (v := .bool true) (by rfl) ?_ ?_
  · (intro w1 hC; obtain ⟨⟨⟨g00, g01, g02, -, -, -⟩, ⟨g10, g11, g12, -, -, -⟩, ⟨g20, g21, g22, -, -, -⟩, -⟩, -⟩ := hC; go_simp; first | done | (simp; done) | (simp [*]; done) | omega | (simp; omega) | (rw [IntKind.wrap_i64]; omega) | (intro hx; omega) | rfl)
  simp only [Act.put, List.setIfInBounds_toArray, List.set_cons_zero, List.set_cons_succ]
  refine qw_run (v := .bool true) (by rfl) ?_ ?_
  · (intro w1 hC; obtain ⟨⟨⟨g00, g01, g02, -, -, -⟩, ⟨g10, g11, g12, -, -, -⟩, ⟨g20, g21, g22, -, -, -⟩, -⟩, -⟩ := hC; go_simp; first | done | (simp; done) | (simp [*]; done) | omega | (simp; omega) | (rw [IntKind.wrap_i64]; omega) | (intro hx; omega) | rfl)
  simp only [Act.put, List.setIfInBounds_toArray, List.set_cons_zero, List.set_cons_succ]
  refine qw_run (v := .int .i64 (e)) (by rfl) ?_ ?_
  · (intro w1 hC; obtain ⟨⟨⟨g00, g01, g02, -, -, -⟩, ⟨g10, g11, g12, -, -, -⟩, ⟨g20, g21, g22, -, -, -⟩, -⟩, -⟩ := hC; go_simp; first | done | (simp; done) | (simp [*]; done) | omega | (simp; omega) | (rw [IntKind.wrap_i64]; omega) | (intro hx; omega) | rfl)
  simp only [Act.put, List.setIfInBounds_toArray, List.set_cons_zero, List.set_cons_succ]
  refine qw_run (v := .int .i64 (e)) (by rfl) ?_ ?_
  · (intro w1 hC; obtain ⟨⟨⟨g00, g01, g02, -, -, -⟩, ⟨g10, g11, g12, -, -, -⟩, ⟨g20, g21, g22, -, -, -⟩, -⟩, -⟩ := hC; go_simp; first | done | (simp; done) | (simp [*]; done) | omega | (simp; omega) | (rw [IntKind.wrap_i64]; omega) | (intro hx; omega) | rfl)
  simp only [Act.put, List.setIfInBounds_toArray, List.set_cons_zero, List.set_cons_succ]
  refine qw_run (v := .bool true) (by rfl) ?_ ?_
  · (intro w1 hC; obtain ⟨⟨⟨g00, g01, g02, -, -, -⟩, ⟨g10, g11, g12, -, -, -⟩, ⟨g20, g21, g22, -, -, -⟩, -⟩, -⟩ := hC; go_simp; first | done | (simp; done) | (simp [*]; done) | omega | (simp; omega) | (rw [IntKind.wrap_i64]; omega) | (intro hx; omega) | rfl)
  simp only [Act.put, List.setIfInBounds_toArray, List.set_cons_zero, List.set_cons_succ]
  refine qw_run (v := .bool true) (by rfl) ?_ ?_
  · (intro w1 hC; obtain ⟨⟨⟨g00, g01, g02, -, -, -⟩, ⟨g10, g11, g12, -, -, -⟩, ⟨g20, g21, g22, -, -, -⟩, -⟩, -⟩ := hC; go_simp; first | done | (simp; done) | (simp [*]; done) | omega | (simp; omega) | (rw [IntKind.wrap_i64]; omega) | (intro hx; omega) | rfl)
  simp only [Act.put, List.setIfInBounds_toArray, List.set_cons_zero, List.set_cons_succ]
  refine qw_run (v := .bool true) (by rfl) ?_ ?_
  · (intro w1 hC; obtain ⟨⟨⟨g00, g01, g02, -, -, -⟩, ⟨g10, g11, g12, -, -, -⟩, ⟨g20, g21, g22, -, -, -⟩, -⟩, -⟩ := hC; go_simp; first | done | (simp; done) | (simp [*]; done) | omega | (simp; omega) | (rw [IntKind.wrap_i64]; omega) | (intro hx; omega) | rfl)
  simp only [Act.put, List.setIfInBounds_toArray, List.set_cons_zero, List.set_cons_succ]
  refine qw_nil ?_
  intro v2r hC
  have Hr2 := hid9 hC
  clear H2 hC
  go_wp2
  go_ret
  exact ⟨rfl, Hr2.out.2⟩
end Go.Proofs.Ytnaamkkjledllaa
/-
  How a number of 192 bits that is handed in reads as data.
-/
namespace Go.Proofs.Ytnaamkkjledllaa
open Go.ChangeShapes Go.WideShapes Go.ChangeAt Go.RowKit Go.Joins
set_option linter.unusedSimpArgs false
set_option linter.unusedVariables false

theorem Try.cellsC : Try.prog.cellsOf 24 = 3 := by kernel_rfl
theorem Try.cellsU9 : Try.prog.cellsOf 22 = 1 := by kernel_rfl
theorem u64_bdC {a : Int} (h : (Lit.int .u64 a).wf = true) : 0 ≤ a ∧ a < 18446744073709551616 := by
  simp [Lit.wf, IntKind.min, IntKind.max, IntKind.signed, IntKind.bits] at h; omega
theorem costV_of {N : Nat} {a b c : Int} (h0 : cost0 N = a) (h1 : cost1 N = b) (h2 : cost2 N = c) : costV N = .agg #[.int .u64 a, .int .u64 b, .int .u64 c] := by unfold costV; rw [h0, h1, h2]
theorem array3c {cs : Array Value} (h : cs.size = 3) : ∃ a b c, cs = #[a, b, c] := by
  obtain ⟨l⟩ := cs
  match l, h with
  | [a, b, c], _ => exact ⟨a, b, c, rfl⟩
section
variable {H : Type} {enc : TypeId × Value → H} {w : World} {base : Nat} {spare : Nat → Bool} {held : Bool}
set_option maxRecDepth 100000 in
theorem open_cost {r : Reach} {b0 : Nat} {v : Value} {d : DataW H} {p : List MemPlace} (hv : Value.okWide Try.prog w r b0 24 v) (h : DataW.Trod enc Try.prog w base spare held 24 v d p) :
    ∃ a b c : Int, v = .agg #[.int .u64 a, .int .u64 b, .int .u64 c] ∧ d = .agg [.lit (.int .u64 a), .lit (.int .u64 b), .lit (.int .u64 c)] ∧ p = [] ∧ (Lit.int .u64 a).wf = true ∧ (Lit.int .u64 b).wf = true ∧ (Lit.int .u64 c).wf = true := by
  obtain ⟨cs, rfl, hsz, _⟩ : ∃ cs, v = .agg cs ∧ cs.size = Try.prog.cellsOf 24 ∧ Row.okWide Try.prog w r b0 24 cs := by
    simpa [Value.okWide, Try.underlying24] using hv
  obtain ⟨c0, c1, c2, rfl⟩ := array3c (hsz.trans Try.cellsC)
  obtain ⟨fuel, hf⟩ := h
  obtain ⟨y0, y1, y2, m, hx, hy0, hy1, hy2⟩ := trod_array3 Try.underlying24 Try.cellsU9 hf
  obtain ⟨a, ea, rfl, wa⟩ := DataW.trod_int Try.underlying22 hy0
  obtain ⟨b, eb, rfl, wb⟩ := DataW.trod_int Try.underlying22 hy1
  obtain ⟨c, ec, rfl, wc⟩ := DataW.trod_int Try.underlying22 hy2
  simp at ea eb ec
  subst ea eb ec
  simp only [Prod.mk.injEq] at hx
  exact ⟨a, b, c, rfl, hx.1, by simpa using hx.2, wa, wb, wc⟩
set_option maxRecDepth 100000 in
theorem shut_cost {a b c : Int} (wa : (Lit.int .u64 a).wf = true) (wb : (Lit.int .u64 b).wf = true) (wc : (Lit.int .u64 c).wf = true) :
    DataW.Trod enc Try.prog w base spare held 24 (.agg #[.int .u64 a, .int .u64 b, .int .u64 c]) (.agg [.lit (.int .u64 a), .lit (.int .u64 b), .lit (.int .u64 c)]) [] := by
  have r3 : List.range 3 = [0, 1, 2] := rfl
  exact ⟨2, by simp [DataW.trod, Value.cells, Try.underlying24, Try.underlying22, Try.cellsC, Try.cellsU9, r3, wa, wb, wc]⟩
end
end Go.Proofs.Ytnaamkkjledllaa
