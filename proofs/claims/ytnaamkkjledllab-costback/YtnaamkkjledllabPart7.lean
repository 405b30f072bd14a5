/-
  Part 7 of the proof: 2 texts, one behind the other.
-/
import Derived.Test.YtnaamkkjledllabPart5
import Derived.Test.YtnaamkkjledllabPart6
import Derived.Test.YtnaamkkjledllabRows
import Derived.Test.YtnaamkkjledllabPart2
import Derived.ProofKit
import Derived.Lib.SmallJoins
import Derived.Laws.IdiomArrays
/-
  The law CostBack: the text of a number is read as it.
-/
namespace Go.Proofs.Ytnaamkkjledllab
open Go.RowKit
set_option linter.unusedSimpArgs false
set_option linter.unusedVariables false


theorem Kcs.two (w : World) (x0 x1 x2 y0 y1 y2 : Int) : Kcs w ((w.alloc (.cells #[.int .u64 x0, .int .u64 x1, .int .u64 x2] 24)).alloc (.cells #[.int .u64 y0, .int .u64 y1, .int .u64 y2] 24)) [(w.heap.size + 1, y0, y1, y2), (w.heap.size, x0, x1, x2)] := by
  have h := Kcs.new (a := y0) (b := y1) (c := y2) (Kcs.one w x0 x1 x2) (Below.refl _ _)
  simpa using h
theorem cmpN_lt (N M : Nat) : cmpN N M < 0 ↔ N < M := by
  unfold cmpN; split
  · omega
  · split <;> omega
set_option maxRecDepth 20000 in
set_option maxHeartbeats 16000000 in
theorem costBack_any (N M : Nat) (w : World) (hN : N < 6277101735386680763835789423207666416102355444464034512896) (hM : M < 6277101735386680763835789423207666416102355444464034512896) :
    Calls Try.prog 3 #[costV N, costV M] w fun e w' => e = .returned (.bool true) ∧ Below w.heap.size w w' := by
  have KK := known9_any
  have KA := fun w => text9_any N w hN
  have KB := fun w => text9_any M w hM
  have tN := tx_of N hN
  have tM := tx_of M hM
  have KC := fun w => cmp9_any N M w
  have lc := cmpN_lt N M
  obtain ⟨p1, p2⟩ := par_tx tN hN
  have hL1 := tN.lo
  have hL2 := tN.up
  have hL3 := tM.up
  have KP := fun w => parse9_any ⟨(txN N).toArray⟩ w (by show (txN N).length ≤ maxLen; unfold maxLen; omega)
  rw [p1, p2] at KP
  have q1 := eqC_same (cost0 N) (cost1 N) (cost2 N)
  have hlen := @tx_len N M _ _ tN tM
  have hlen2 := @tx_len M N _ _ tM tN
  have hsame := @tx_same N M _ _ tN tM
  have hs1 : (⟨(txN N).toArray⟩ : ByteArray).size = (txN N).length := rfl
  have hs2 : (⟨(txN M).toArray⟩ : ByteArray).size = (txN M).length := rfl
  have ht1 : (⟨(txN N).toArray⟩ : ByteArray).toList = txN N := by rw [Lib.toList_data]
  have ht2 : (⟨(txN M).toArray⟩ : ByteArray).toList = txN M := by rw [Lib.toList_data]
  clear tN tM p1 p2
  generalize txN N = l at *
  generalize txN M = m at *
  generalize (⟨l.toArray⟩ : ByteArray) = s at *
  generalize (⟨m.toArray⟩ : ByteArray) = t at *
  unfold costV at *
  generalize cost0 N = x0 at *
  generalize cost1 N = x1 at *
  generalize cost2 N = x2 at *
  generalize cost0 M = y0 at *
  generalize cost1 M = y1 at *
  generalize cost2 M = y2 at *
  have H0 := hid9 (Kcs.two w x0 x1 x2 y0 y1 y2)
  have b1 : ¬ (s.size : Int) < 1 := by omega
  have b2 : ¬ 58 < (s.size : Int) := by omega
  by_cases c1 : l.length < m.length
  · have d1 : decide (cmpN N M < 0) = true := decide_eq_true (lc.mpr (hlen c1))
    have d2 : ((s.size : Int) == (t.size : Int)) = false := by simp; omega
    have d3 : decide ((s.size : Int) < (t.size : Int)) = true := by simp; omega
    have d4 : s.size < t.size := by omega
    clear lc hlen hlen2 hsame hs1 hs2 hL1 hL2 hL3 hN hM c1
    generalize cmpN N M = c at *
    go_enter Try.func3, Try.ntmps3
    go_wp2_with fail
    revert H0
    generalize (w.alloc (.cells #[.int .u64 x0, .int .u64 x1, .int .u64 x2] 24)).alloc (.cells #[.int .u64 y0, .int .u64 y1, .int .u64 y2] 24) = W0
    intro H0
    refine (KK _).mono ?_
    rintro e v1 ⟨rfl, hb⟩
    have H1 := hid9 (Kcs.below H0.out hb)
    clear H0 hb
    obtain ⟨f00, f01, f02, -, -, -⟩ := (H1.out.1.2).1
    go_wp2_with fail
    clear f00 f01 f02
    refine (KA _).mono ?_
    rintro e v2 ⟨rfl, hb⟩
    have H2 := hid9 (Kcs.below H1.out hb)
    clear H1 hb
    obtain ⟨f00, f01, f02, -, -, -⟩ := (H2.out.1).1
    go_wp2_with fail
    clear f00 f01 f02
    refine (KB _).mono ?_
    rintro e v3 ⟨rfl, hb⟩
    have H3 := hid9 (Kcs.below H2.out hb)
    clear H2 hb
    go_wp2_with fail
    refine (KP _).mono ?_
    rintro e v4 ⟨rfl, hb⟩
    have H4 := hid9 (Kcs.new (a := x0) (b := x1) (c := x2) H3.out hb)
    clear H3 hb
    obtain ⟨f10, f11, f12, -, -, -⟩ := (H4.out.1.2.2).1
    obtain ⟨f20, f21, f22, -, -, -⟩ := (H4.out.1.2).1
    go_wp2_with fail
    clear f10 f11 f12 f20 f21 f22
    revert H4
    generalize v4.alloc (.cells #[.int .u64 x0, .int .u64 x1, .int .u64 x2] 24) = W4
    generalize v4.heap.size = N4
    intro H4
    refine (KC _).mono ?_
    rintro e v5 ⟨rfl, hb⟩
    have H5 := hid9 (Kcs.below H4.out hb)
    clear H4 hb
    go_wp2
    go_ret
    exact ⟨rfl, H5.out.2⟩
  by_cases c2 : m.length < l.length
  · have d1 : decide (cmpN N M < 0) = false := decide_eq_false (fun h => by have := lc.mp h; have := hlen2 c2; omega)
    have d2 : ((s.size : Int) == (t.size : Int)) = false := by simp; omega
    have d3 : decide ((s.size : Int) < (t.size : Int)) = false := by simp; omega
    have d4 : ¬ s.size < t.size := by omega
    clear lc hlen hlen2 hsame hs1 hs2 hL1 hL2 hL3 hN hM c1 c2
    generalize cmpN N M = c at *
    go_enter Try.func3, Try.ntmps3
    go_wp2_with fail
    revert H0
    generalize (w.alloc (.cells #[.int .u64 x0, .int .u64 x1, .int .u64 x2] 24)).alloc (.cells #[.int .u64 y0, .int .u64 y1, .int .u64 y2] 24) = W0
    intro H0
    refine (KK _).mono ?_
    rintro e v1 ⟨rfl, hb⟩
    have H1 := hid9 (Kcs.below H0.out hb)
    clear H0 hb
    obtain ⟨f00, f01, f02, -, -, -⟩ := (H1.out.1.2).1
    go_wp2_with fail
    clear f00 f01 f02
    refine (KA _).mono ?_
    rintro e v2 ⟨rfl, hb⟩
    have H2 := hid9 (Kcs.below H1.out hb)
    clear H1 hb
    obtain ⟨f00, f01, f02, -, -, -⟩ := (H2.out.1).1
    go_wp2_with fail
    clear f00 f01 f02
    refine (KB _).mono ?_
    rintro e v3 ⟨rfl, hb⟩
    have H3 := hid9 (Kcs.below H2.out hb)
    clear H2 hb
    go_wp2_with fail
    refine (KP _).mono ?_
    rintro e v4 ⟨rfl, hb⟩
    have H4 := hid9 (Kcs.new (a := x0) (b := x1) (c := x2) H3.out hb)
    clear H3 hb
    obtain ⟨f10, f11, f12, -, -, -⟩ := (H4.out.1.2.2).1
    obtain ⟨f20, f21, f22, -, -, -⟩ := (H4.out.1.2).1
    go_wp2_with fail
    clear f10 f11 f12 f20 f21 f22
    revert H4
    generalize v4.alloc (.cells #[.int .u64 x0, .int .u64 x1, .int .u64 x2] 24) = W4
    generalize v4.heap.size = N4
    intro H4
    refine (KC _).mono ?_
    rintro e v5 ⟨rfl, hb⟩
    have H5 := hid9 (Kcs.below H4.out hb)
    clear H4 hb
    go_wp2
    go_ret
    exact ⟨rfl, H5.out.2⟩
  · have d0 := hsame (by omega)
    have d2 : (s.size : Int) = (t.size : Int) := by omega
    have d1 : decide (cmpN N M < 0) = decide (N < M) := by rw [decide_eq_decide]; exact lc
    generalize decide (N < M) = bb at *
    clear lc hlen hlen2 hsame hs1 hs2 hL1 hL2 hL3 hN hM c1 c2
    generalize cmpN N M = c at *
    go_enter Try.func3, Try.ntmps3
    go_wp2_with fail
    revert H0
    generalize (w.alloc (.cells #[.int .u64 x0, .int .u64 x1, .int .u64 x2] 24)).alloc (.cells #[.int .u64 y0, .int .u64 y1, .int .u64 y2] 24) = W0
    intro H0
    refine (KK _).mono ?_
    rintro e v1 ⟨rfl, hb⟩
    have H1 := hid9 (Kcs.below H0.out hb)
    clear H0 hb
    obtain ⟨f00, f01, f02, -, -, -⟩ := (H1.out.1.2).1
    go_wp2_with fail
    clear f00 f01 f02
    refine (KA _).mono ?_
    rintro e v2 ⟨rfl, hb⟩
    have H2 := hid9 (Kcs.below H1.out hb)
    clear H1 hb
    obtain ⟨f00, f01, f02, -, -, -⟩ := (H2.out.1).1
    go_wp2_with fail
    clear f00 f01 f02
    refine (KB _).mono ?_
    rintro e v3 ⟨rfl, hb⟩
    have H3 := hid9 (Kcs.below H2.out hb)
    clear H2 hb
    go_wp2_with fail
    refine (KP _).mono ?_
    rintro e v4 ⟨rfl, hb⟩
    have H4 := hid9 (Kcs.new (a := x0) (b := x1) (c := x2) H3.out hb)
    clear H3 hb
    obtain ⟨f10, f11, f12, -, -, -⟩ := (H4.out.1.2.2).1
    obtain ⟨f20, f21, f22, -, -, -⟩ := (H4.out.1.2).1
    go_wp2_with fail
    clear f10 f11 f12 f20 f21 f22
    revert H4
    generalize v4.alloc (.cells #[.int .u64 x0, .int .u64 x1, .int .u64 x2] 24) = W4
    generalize v4.heap.size = N4
    intro H4
    refine (KC _).mono ?_
    rintro e v5 ⟨rfl, hb⟩
    have H5 := hid9 (Kcs.below H4.out hb)
    clear H4 hb
    go_wp2
    go_ret
    exact ⟨rfl, H5.out.2⟩
end Go.Proofs.Ytnaamkkjledllab
/-
  How a number of 192 bits that is handed in reads as data.
-/
namespace Go.Proofs.Ytnaamkkjledllab
open Go.ChangeShapes Go.WideShapes Go.ChangeAt Go.RowKit Go.Joins
set_option linter.unusedSimpArgs false
set_option linter.unusedVariables false

theorem Try.cellsC : Try.prog.cellsOf 24 = 3 := by kernel_rfl
theorem Try.cellsU9 : Try.prog.cellsOf 22 = 1 := by kernel_rfl
theorem u64_bdC {a : Int} (h : (Lit.int .u64 a).wf = true) : 0 ≤ a ∧ a < 18446744073709551616 := by
  simp [Lit.wf, IntKind.min, IntKind.max, IntKind.signed, IntKind.bits] at h; omega
theorem costV_of {N : Nat} {a b c : Int} (h0 : cost0 N = a) (h1 : cost1 N = b) (h2 : cost2 N = c) : costV N = .agg #[.int .u64 a, .int .u64 b, .int .u64 c] := by unfold costV; rw [h0, h1, h2]
theorem array3c {cs : Array Value} (h : cs.size = 3) : ∃ a b c, cs = #[a, b, c] := by
  obtain ⟨l⟩ := cs
  match l, h with
  | [a, b, c], _ => exact ⟨a, b, c, rfl⟩
section
variable {H : Type} {enc : TypeId × Value → H} {w : World} {base : Nat} {spare : Nat → Bool} {held : Bool}
set_option maxRecDepth 100000 in
theorem open_cost {r : Reach} {b0 : Nat} {v : Value} {d : DataW H} {p : List MemPlace} (hv : Value.okWide Try.prog w r b0 24 v) (h : DataW.Trod enc Try.prog w base spare held 24 v d p) :
    ∃ a b c : Int, v = .agg #[.int .u64 a, .int .u64 b, .int .u64 c] ∧ d = .agg [.lit (.int .u64 a), .lit (.int .u64 b), .lit (.int .u64 c)] ∧ p = [] ∧ (Lit.int .u64 a).wf = true ∧ (Lit.int .u64 b).wf = true ∧ (Lit.int .u64 c).wf = true := by
  obtain ⟨cs, rfl, hsz, _⟩ : ∃ cs, v = .agg cs ∧ cs.size = Try.prog.cellsOf 24 ∧ Row.okWide Try.prog w r b0 24 cs := by
    simpa [Value.okWide, Try.underlying24] using hv
  obtain ⟨c0, c1, c2, rfl⟩ := array3c (hsz.trans Try.cellsC)
  obtain ⟨fuel, hf⟩ := h
  obtain ⟨y0, y1, y2, m, hx, hy0, hy1, hy2⟩ := trod_array3 Try.underlying24 Try.cellsU9 hf
  obtain ⟨a, ea, rfl, wa⟩ := DataW.trod_int Try.underlying22 hy0
  obtain ⟨b, eb, rfl, wb⟩ := DataW.trod_int Try.underlying22 hy1
  obtain ⟨c, ec, rfl, wc⟩ := DataW.trod_int Try.underlying22 hy2
  simp at ea eb ec
  subst ea eb ec
  simp only [Prod.mk.injEq] at hx
  exact ⟨a, b, c, rfl, hx.1, by simpa using hx.2, wa, wb, wc⟩
set_option maxRecDepth 100000 in
theorem shut_cost {a b c : Int} (wa : (Lit.int .u64 a).wf = true) (wb : (Lit.int .u64 b).wf = true) (wc : (Lit.int .u64 c).wf = true) :
    DataW.Trod enc Try.prog w base spare held 24 (.agg #[.int .u64 a, .int .u64 b, .int .u64 c]) (.agg [.lit (.int .u64 a), .lit (.int .u64 b), .lit (.int .u64 c)]) [] := by
  have r3 : List.range 3 = [0, 1, 2] := rfl
  exact ⟨2, by simp [DataW.trod, Value.cells, Try.underlying24, Try.underlying22, Try.cellsC, Try.cellsU9, r3, wa, wb, wc]⟩
end
end Go.Proofs.Ytnaamkkjledllab
