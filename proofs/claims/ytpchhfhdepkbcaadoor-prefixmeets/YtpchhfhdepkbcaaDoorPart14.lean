/-
  Part 14 of the proof: 2 texts, one behind the other.
-/
import Derived.Test.YtpchhfhdepkbcaaDoorPart13
import Derived.Test.YtpchhfhdepkbcaaDoorRows
import Derived.ProofKit
import Derived.Lib.SmallJoins
/-
  The law PrefixMeets, walked.
-/
namespace Go.Proofs.YtpchhfhdepkbcaaDoor
open Go.RowKit
set_option linter.unusedSimpArgs false
set_option linter.unusedVariables false

set_option maxHeartbeats 4000000 in
set_option maxRecDepth 20000 in
theorem prefixMeets_any (six : Bool) (v : BitVec 128) (n : Int) (u : BitVec 128) (m : Int) (w : World) (hP : Pow w) :
    Calls Tryd.prog 8 #[.bool six, .agg #[.int .u64 (hI v), .int .u64 (lI v)], .int .i64 n, .agg #[.int .u64 (hI u), .int .u64 (lI u)], .int .i64 m] w fun e w' => e = .returned (.bool true) ∧ Below w.heap.size w w' := by
  have KF := fun w => family3_any six w
  obtain ⟨f0, f1⟩ := famZ_bd six
  generalize famZ six = F at *
  have KS := fun w => some_any F v n w (by omega) (by omega)
  have KT := fun w => some_any F u m w (by omega) (by omega)
  obtain ⟨g0, g1, g2⟩ := some_rt F v n (by omega)
  obtain ⟨j0, j1, j2⟩ := some_rt F u m (by omega)
  generalize someW F v n = X at *
  generalize someW F u m = Y at *
  generalize n % (F + 1) = N at *
  generalize m % (F + 1) = M at *
  have KH := fun w => pmeet_any X N Y M w
  have RH := fun w => rmeet_any X N Y M w
  have KW := fun w => pcmp_any X N Y M w
  have RW := fun w => rpcmp_any X N Y M w
  generalize cutW X (meetN X N Y M) = c at *
  generalize meetN X N Y M = k at *
  generalize pcmpZ X N Y M = d at *
  clear g0 g1 g2 j0 j1 j2 f0 f1
  have hb1 : (k == k) = true := by simp
  have hb2 : (d == d) = true := by simp
  go_enter Tryd.func8, Tryd.ntmps8
  go_wp2_with fail
  refine (KF _).mono ?_
  rintro e w0 ⟨rfl, rfl⟩
  have V0 := (at_new w w.heap.size v 24 rfl).below (bl1 _ (.cells #[.int .u64 (hI u), .int .u64 (lI u)] 24))
  have U0 := at_new (w.alloc (.cells #[.int .u64 (hI v), .int .u64 (lI v)] 24)) (w.heap.size + 1) u 24 (by simp)
  have kB0 := bl2 w (.cells #[.int .u64 (hI v), .int .u64 (lI v)] 24) (.cells #[.int .u64 (hI u), .int .u64 (lI u)] 24)
  go_wp2_with fail
  refine (KS _).mono ?_
  rintro e w1 ⟨rfl, hb⟩
  have hA := bl1 w1 (.cells #[.int .u64 (hI X), .int .u64 (lI X), .int .i64 N] 41)
  have U1 := (U0.below hb).below hA
  have P1 := atp_new w1 w1.heap.size X N 41 rfl
  have kB1 := keepb hA (keepb hb kB0)
  clear V0 U0 kB0 hb hA KS KF
  obtain ⟨u0, u1, -, -, -⟩ := id U1
  go_wp2_with fail
  refine (KT _).mono ?_
  rintro e w2 ⟨rfl, hb⟩
  have hA := bl1 w2 (.cells #[.int .u64 (hI Y), .int .u64 (lI Y), .int .i64 M] 41)
  have P2 := (P1.below hb).below hA
  have Q2 := atp_new w2 w2.heap.size Y M 41 rfl
  have kB2 := keepb hA (keepb hb kB1)
  clear u0 u1 U1 P1 kB1 hb hA KT
  have kB2 := kB2.drew
  have hPd := hP.keep kB2
  obtain ⟨p0, p1, p2, -, -, -⟩ := id P2
  obtain ⟨q0, q1, q2, -, -, -⟩ := id Q2
  go_wp2_with fail
  go_region_held3 (fun w' => w'.cell? ⟨w1.heap.size, 0, none⟩ = some (.int .u64 (hI X)) ∧ w'.cell? ⟨w1.heap.size, 1, none⟩ = some (.int .u64 (lI X)) ∧ w'.cell? ⟨w1.heap.size, 2, none⟩ = some (.int .i64 N) ∧ w'.cell? ⟨w2.heap.size, 0, none⟩ = some (.int .u64 (hI Y)) ∧ w'.cell? ⟨w2.heap.size, 1, none⟩ = some (.int .u64 (lI Y)) ∧ w'.cell? ⟨w2.heap.size, 2, none⟩ = some (.int .i64 M) ∧ Below w.heap.size w w')
    (first
      | (obtain ⟨k0, k1, k2, k3, k4, k5, k9⟩ := ‹_ ∧ _›; exact ⟨keepc hb k0, keepc hb k1, keepc hb k2, keepc hb k3, keepc hb k4, keepc hb k5, keepb hb k9⟩)
      | exact ⟨p0, p1, p2, q0, q1, q2, kB2⟩)
    (first
      | (go_at_call 20; refine (known3_any _ hPd).mono ?_; rintro e w' ⟨rfl, hb⟩)
      | (go_at_call 39; refine (KH _).mono ?_; rintro e w' ⟨rfl, hb⟩)
      | (go_at_call 40; refine (RH _).mono ?_; rintro e w' ⟨rfl, hb⟩)
      | (go_at_call 41; refine (KW _).mono ?_; rintro e w' ⟨rfl, hb⟩)
      | (go_at_call 42; refine (RW _).mono ?_; rintro e w' ⟨rfl, hb⟩))
  obtain ⟨-, -, -, -, -, -, kB⟩ := ‹_ ∧ _›
  go_wp2
  go_ret
  exact ⟨rfl, kB⟩
end Go.Proofs.YtpchhfhdepkbcaaDoor
/-
  How a prefix that is handed in reads as data.
-/
namespace Go.Proofs.YtpchhfhdepkbcaaDoor
open Go.ChangeShapes Go.WideShapes Go.ChangeAt Go.RowKit Go.Joins
set_option linter.unusedSimpArgs false
set_option linter.unusedVariables false

theorem Tryd.cellsW : Tryd.prog.cellsOf 24 = 2 := by kernel_rfl
theorem Tryd.cellsP : Tryd.prog.cellsOf 41 = 3 := by kernel_rfl
theorem Tryd.cellsI : Tryd.prog.cellsOf 3 = 1 := by kernel_rfl
theorem Tryd.cellsU : Tryd.prog.cellsOf 22 = 1 := by kernel_rfl
section
variable {H : Type} {enc : TypeId × Value → H} {w : World} {base : Nat} {spare : Nat → Bool} {held : Bool}
set_option maxRecDepth 100000 in
theorem open_pfx {r : Reach} {b0 : Nat} {v : Value} {d : DataW H} {p : List MemPlace} (hv : Value.okWide Tryd.prog w r b0 41 v) (h : DataW.Trod enc Tryd.prog w base spare held 41 v d p) :
    ∃ a b n : Int, v = .agg #[.int .u64 a, .int .u64 b, .int .i64 n] ∧ d = .agg [.agg [.lit (.int .u64 a), .lit (.int .u64 b)], .lit (.int .i64 n)] ∧ p = [] ∧ (Lit.int .u64 a).wf = true ∧ (Lit.int .u64 b).wf = true ∧ (Lit.int .i64 n).wf = true := by
  obtain ⟨cs, rfl, hsz⟩ := okWide_struct Tryd.underlying41 hv
  obtain ⟨c0, c1, c2, rfl⟩ := array3 (hsz.trans Tryd.cellsP)
  obtain ⟨fuel, hf⟩ := h
  obtain ⟨y0, y1, n, hx, _, h0, h1⟩ := trod_struct2 Tryd.underlying41 hf
  have h0' : DataW.trod enc Tryd.prog w base spare held n 24 [c0, c1] = some y0 := by simpa [Value.cells, Tryd.cellsW] using h0
  have h1' : DataW.trod enc Tryd.prog w base spare held n 3 [c2] = some y1 := by simpa [Value.cells, Tryd.cellsI] using h1
  obtain ⟨u0, u1, m, hu, _, g0, g1⟩ := trod_struct2 Tryd.underlying24 h0'
  have g0' : DataW.trod enc Tryd.prog w base spare held m 22 [c0] = some u0 := by simpa [Value.cells, Tryd.cellsU] using g0
  have g1' : DataW.trod enc Tryd.prog w base spare held m 22 [c1] = some u1 := by simpa [Value.cells, Tryd.cellsU] using g1
  obtain ⟨a, ea, rfl, wa⟩ := DataW.trod_int Tryd.underlying22 g0'
  obtain ⟨b, eb, rfl, wb⟩ := DataW.trod_int Tryd.underlying22 g1'
  obtain ⟨k, ek, rfl, wk⟩ := DataW.trod_int Tryd.underlying3 h1'
  simp at ea eb ek
  subst ea eb ek hu
  simp only [Prod.mk.injEq] at hx
  exact ⟨a, b, k, rfl, hx.1, by simpa using hx.2, wa, wb, wk⟩
set_option maxRecDepth 100000 in
theorem shut_pfx {a b n : Int} (wa : (Lit.int .u64 a).wf = true) (wb : (Lit.int .u64 b).wf = true) (wn : (Lit.int .i64 n).wf = true) :
    DataW.Trod enc Tryd.prog w base spare held 41 (.agg #[.int .u64 a, .int .u64 b, .int .i64 n]) (.agg [.agg [.lit (.int .u64 a), .lit (.int .u64 b)], .lit (.int .i64 n)]) [] := by
  have f : ∀ {z : Int}, (Lit.int .u64 z).wf = true → DataW.trod enc Tryd.prog w base spare held 1 22 [.int .u64 z] = some (.lit (.int .u64 z), []) := fun hz => by simp [DataW.trod, Tryd.underlying22, hz]
  have g : DataW.trod enc Tryd.prog w base spare held 2 3 [.int .i64 n] = some (.lit (.int .i64 n), []) := by simp [DataW.trod, Tryd.underlying3, wn]
  have s : DataW.trod enc Tryd.prog w base spare held 2 24 [.int .u64 a, .int .u64 b] = some (.agg [.lit (.int .u64 a), .lit (.int .u64 b)], []) := by
    have := trod_struct2_mk (enc := enc) (w := w) (base := base) (spare := spare) (held := held) (n := 1) (cs := [.int .u64 a, .int .u64 b]) Tryd.underlying24 (by simp [Tryd.cellsW]) (by simpa [Tryd.cellsU] using f wa) (by simpa [Tryd.cellsU] using f wb)
    simpa using this
  have := trod_struct2_mk (enc := enc) (w := w) (base := base) (spare := spare) (held := held) (n := 2) (cs := [.int .u64 a, .int .u64 b, .int .i64 n]) Tryd.underlying41 (by simp [Tryd.cellsP]) (by simpa [Tryd.cellsW] using s) (by simpa [Tryd.cellsI] using g)
  exact ⟨3, by simpa [Value.cells] using this⟩
end
end Go.Proofs.YtpchhfhdepkbcaaDoor
