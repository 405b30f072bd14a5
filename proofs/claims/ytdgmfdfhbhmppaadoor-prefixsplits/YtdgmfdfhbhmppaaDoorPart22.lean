/-
  Part 22 of the proof: 1 texts, one behind the other.
-/
import Derived.Test.YtdgmfdfhbhmppaaDoorRows
import Derived.ProofKit
import Derived.Lib.SmallJoins
/-
  How a prefix that is handed in reads as data.
-/
namespace Go.Proofs.YtdgmfdfhbhmppaaDoor
open Go.ChangeShapes Go.WideShapes Go.ChangeAt Go.RowKit Go.Joins
set_option linter.unusedSimpArgs false
set_option linter.unusedVariables false

theorem Tryd.cellsW : Tryd.prog.cellsOf 24 = 2 := by kernel_rfl
theorem Tryd.cellsP : Tryd.prog.cellsOf 26 = 3 := by kernel_rfl
theorem Tryd.cellsI : Tryd.prog.cellsOf 3 = 1 := by kernel_rfl
theorem Tryd.cellsU : Tryd.prog.cellsOf 22 = 1 := by kernel_rfl
section
variable {H : Type} {enc : TypeId × Value → H} {w : World} {base : Nat} {spare : Nat → Bool} {held : Bool}
set_option maxRecDepth 100000 in
theorem open_pfx {r : Reach} {b0 : Nat} {v : Value} {d : DataW H} {p : List MemPlace} (hv : Value.okWide Tryd.prog w r b0 26 v) (h : DataW.Trod enc Tryd.prog w base spare held 26 v d p) :
    ∃ a b n : Int, v = .agg #[.int .u64 a, .int .u64 b, .int .i64 n] ∧ d = .agg [.agg [.lit (.int .u64 a), .lit (.int .u64 b)], .lit (.int .i64 n)] ∧ p = [] ∧ (Lit.int .u64 a).wf = true ∧ (Lit.int .u64 b).wf = true ∧ (Lit.int .i64 n).wf = true := by
  obtain ⟨cs, rfl, hsz⟩ := okWide_struct Tryd.underlying26 hv
  obtain ⟨c0, c1, c2, rfl⟩ := array3 (hsz.trans Tryd.cellsP)
  obtain ⟨fuel, hf⟩ := h
  obtain ⟨y0, y1, n, hx, _, h0, h1⟩ := trod_struct2 Tryd.underlying26 hf
  have h0' : DataW.trod enc Tryd.prog w base spare held n 24 [c0, c1] = some y0 := by simpa [Value.cells, Tryd.cellsW] using h0
  have h1' : DataW.trod enc Tryd.prog w base spare held n 3 [c2] = some y1 := by simpa [Value.cells, Tryd.cellsI] using h1
  obtain ⟨u0, u1, m, hu, _, g0, g1⟩ := trod_struct2 Tryd.underlying24 h0'
  have g0' : DataW.trod enc Tryd.prog w base spare held m 22 [c0] = some u0 := by simpa [Value.cells, Tryd.cellsU] using g0
  have g1' : DataW.trod enc Tryd.prog w base spare held m 22 [c1] = some u1 := by simpa [Value.cells, Tryd.cellsU] using g1
  obtain ⟨a, ea, rfl, wa⟩ := DataW.trod_int Tryd.underlying22 g0'
  obtain ⟨b, eb, rfl, wb⟩ := DataW.trod_int Tryd.underlying22 g1'
  obtain ⟨k, ek, rfl, wk⟩ := DataW.trod_int Tryd.underlying3 h1'
  simp at ea eb ek
  subst ea eb ek hu
  simp only [Prod.mk.injEq] at hx
  exact ⟨a, b, k, rfl, hx.1, by simpa using hx.2, wa, wb, wk⟩
set_option maxRecDepth 100000 in
theorem shut_pfx {a b n : Int} (wa : (Lit.int .u64 a).wf = true) (wb : (Lit.int .u64 b).wf = true) (wn : (Lit.int .i64 n).wf = true) :
    DataW.Trod enc Tryd.prog w base spare held 26 (.agg #[.int .u64 a, .int .u64 b, .int .i64 n]) (.agg [.agg [.lit (.int .u64 a), .lit (.int .u64 b)], .lit (.int .i64 n)]) [] := by
  have f : ∀ {z : Int}, (Lit.int .u64 z).wf = true → DataW.trod enc Tryd.prog w base spare held 1 22 [.int .u64 z] = some (.lit (.int .u64 z), []) := fun hz => by simp [DataW.trod, Tryd.underlying22, hz]
  have g : DataW.trod enc Tryd.prog w base spare held 2 3 [.int .i64 n] = some (.lit (.int .i64 n), []) := by simp [DataW.trod, Tryd.underlying3, wn]
  have s : DataW.trod enc Tryd.prog w base spare held 2 24 [.int .u64 a, .int .u64 b] = some (.agg [.lit (.int .u64 a), .lit (.int .u64 b)], []) := by
    have := trod_struct2_mk (enc := enc) (w := w) (base := base) (spare := spare) (held := held) (n := 1) (cs := [.int .u64 a, .int .u64 b]) Tryd.underlying24 (by simp [Tryd.cellsW]) (by simpa [Tryd.cellsU] using f wa) (by simpa [Tryd.cellsU] using f wb)
    simpa using this
  have := trod_struct2_mk (enc := enc) (w := w) (base := base) (spare := spare) (held := held) (n := 2) (cs := [.int .u64 a, .int .u64 b, .int .i64 n]) Tryd.underlying26 (by simp [Tryd.cellsP]) (by simpa [Tryd.cellsW] using s) (by simpa [Tryd.cellsI] using g)
  exact ⟨3, by simpa [Value.cells] using this⟩
end
end Go.Proofs.YtdgmfdfhbhmppaaDoor
