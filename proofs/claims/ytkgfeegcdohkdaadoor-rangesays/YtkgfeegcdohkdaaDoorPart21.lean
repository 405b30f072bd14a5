/-
  Part 21 of the proof: 2 texts, one behind the other.
-/
import Derived.Test.YtkgfeegcdohkdaaDoorRows
import Derived.ProofKit
import Derived.Lib.SmallJoins
import Derived.Test.YtkgfeegcdohkdaaDoorPart18
import Derived.Test.YtkgfeegcdohkdaaDoorPart16
import Derived.Deep.Slices
import Derived.Carry
/-
  How a prefix that is handed in reads as data.
-/
namespace Go.Proofs.YtkgfeegcdohkdaaDoor
open Go.ChangeShapes Go.WideShapes Go.ChangeAt Go.RowKit Go.Joins
set_option linter.unusedSimpArgs false
set_option linter.unusedVariables false

theorem Tryd.cellsW : Tryd.prog.cellsOf 24 = 2 := by kernel_rfl
theorem Tryd.cellsP : Tryd.prog.cellsOf 26 = 3 := by kernel_rfl
theorem Tryd.cellsI : Tryd.prog.cellsOf 3 = 1 := by kernel_rfl
theorem Tryd.cellsU : Tryd.prog.cellsOf 22 = 1 := by kernel_rfl
section
variable {H : Type} {enc : TypeId × Value → H} {w : World} {base : Nat} {spare : Nat → Bool} {held : Bool}
set_option maxRecDepth 100000 in
theorem open_pfx {r : Reach} {b0 : Nat} {v : Value} {d : DataW H} {p : List MemPlace} (hv : Value.okWide Tryd.prog w r b0 26 v) (h : DataW.Trod enc Tryd.prog w base spare held 26 v d p) :
    ∃ a b n : Int, v = .agg #[.int .u64 a, .int .u64 b, .int .i64 n] ∧ d = .agg [.agg [.lit (.int .u64 a), .lit (.int .u64 b)], .lit (.int .i64 n)] ∧ p = [] ∧ (Lit.int .u64 a).wf = true ∧ (Lit.int .u64 b).wf = true ∧ (Lit.int .i64 n).wf = true := by
  obtain ⟨cs, rfl, hsz⟩ := okWide_struct Tryd.underlying26 hv
  obtain ⟨c0, c1, c2, rfl⟩ := array3 (hsz.trans Tryd.cellsP)
  obtain ⟨fuel, hf⟩ := h
  obtain ⟨y0, y1, n, hx, _, h0, h1⟩ := trod_struct2 Tryd.underlying26 hf
  have h0' : DataW.trod enc Tryd.prog w base spare held n 24 [c0, c1] = some y0 := by simpa [Value.cells, Tryd.cellsW] using h0
  have h1' : DataW.trod enc Tryd.prog w base spare held n 3 [c2] = some y1 := by simpa [Value.cells, Tryd.cellsI] using h1
  obtain ⟨u0, u1, m, hu, _, g0, g1⟩ := trod_struct2 Tryd.underlying24 h0'
  have g0' : DataW.trod enc Tryd.prog w base spare held m 22 [c0] = some u0 := by simpa [Value.cells, Tryd.cellsU] using g0
  have g1' : DataW.trod enc Tryd.prog w base spare held m 22 [c1] = some u1 := by simpa [Value.cells, Tryd.cellsU] using g1
  obtain ⟨a, ea, rfl, wa⟩ := DataW.trod_int Tryd.underlying22 g0'
  obtain ⟨b, eb, rfl, wb⟩ := DataW.trod_int Tryd.underlying22 g1'
  obtain ⟨k, ek, rfl, wk⟩ := DataW.trod_int Tryd.underlying3 h1'
  simp at ea eb ek
  subst ea eb ek hu
  simp only [Prod.mk.injEq] at hx
  exact ⟨a, b, k, rfl, hx.1, by simpa using hx.2, wa, wb, wk⟩
set_option maxRecDepth 100000 in
theorem shut_pfx {a b n : Int} (wa : (Lit.int .u64 a).wf = true) (wb : (Lit.int .u64 b).wf = true) (wn : (Lit.int .i64 n).wf = true) :
    DataW.Trod enc Tryd.prog w base spare held 26 (.agg #[.int .u64 a, .int .u64 b, .int .i64 n]) (.agg [.agg [.lit (.int .u64 a), .lit (.int .u64 b)], .lit (.int .i64 n)]) [] := by
  have f : ∀ {z : Int}, (Lit.int .u64 z).wf = true → DataW.trod enc Tryd.prog w base spare held 1 22 [.int .u64 z] = some (.lit (.int .u64 z), []) := fun hz => by simp [DataW.trod, Tryd.underlying22, hz]
  have g : DataW.trod enc Tryd.prog w base spare held 2 3 [.int .i64 n] = some (.lit (.int .i64 n), []) := by simp [DataW.trod, Tryd.underlying3, wn]
  have s : DataW.trod enc Tryd.prog w base spare held 2 24 [.int .u64 a, .int .u64 b] = some (.agg [.lit (.int .u64 a), .lit (.int .u64 b)], []) := by
    have := trod_struct2_mk (enc := enc) (w := w) (base := base) (spare := spare) (held := held) (n := 1) (cs := [.int .u64 a, .int .u64 b]) Tryd.underlying24 (by simp [Tryd.cellsW]) (by simpa [Tryd.cellsU] using f wa) (by simpa [Tryd.cellsU] using f wb)
    simpa using this
  have := trod_struct2_mk (enc := enc) (w := w) (base := base) (spare := spare) (held := held) (n := 2) (cs := [.int .u64 a, .int .u64 b, .int .i64 n]) Tryd.underlying26 (by simp [Tryd.cellsP]) (by simpa [Tryd.cellsW] using s) (by simpa [Tryd.cellsI] using g)
  exact ⟨3, by simpa [Value.cells] using this⟩
end
end Go.Proofs.YtkgfeegcdohkdaaDoor
/-
  How a list of prefixes that is handed in reads as data.
-/
namespace Go.Proofs.YtkgfeegcdohkdaaDoor
open Go.ChangeShapes Go.WideShapes Go.ChangeAt Go.RowKit Go.Joins
set_option linter.unusedSimpArgs false
set_option linter.unusedVariables false

theorem Tryd.laidOut : laidOutB Tryd.prog = true := by kernel_rfl
theorem rowP_all {W : World} {b off : Nat} (l : List (BitVec 128 × Int)) (h : ∀ i (hi : i < l.length), W.cell? ⟨b, off + i * 3, none⟩ = some (.int .u64 (hI l[i].1)) ∧ W.cell? ⟨b, off + (i * 3 + 1), none⟩ = some (.int .u64 (lI l[i].1)) ∧ W.cell? ⟨b, off + (i * 3 + 2), none⟩ = some (.int .i64 l[i].2)) :
    ∀ j u, (rowP l)[j]? = some u → W.cell? ⟨b, off + j, none⟩ = some u := by
  intro j u hj
  have hlt : j < (rowP l).length := (List.getElem?_eq_some_iff.1 hj).1
  rw [rowP_len] at hlt
  have hi : j / 3 < l.length := by omega
  obtain ⟨a0, a1, a2⟩ := h (j / 3) hi
  obtain ⟨b0, b1, b2⟩ := rowP_get l (j / 3) hi
  have hm : j % 3 = 0 ∨ j % 3 = 1 ∨ j % 3 = 2 := by omega
  rcases hm with hm | hm | hm
  · have e : j = j / 3 * 3 := by omega
    rw [e, b0] at hj
    rw [e, ← hj]; exact a0
  · have e : j = j / 3 * 3 + 1 := by omega
    rw [e, b1] at hj
    rw [e, ← hj]; exact a1
  · have e : j = j / 3 * 3 + 2 := by omega
    rw [e, b2] at hj
    rw [e, ← hj]; exact a2
section
variable {H : Type} {enc : TypeId × Value → H} {w : World} {spare : Nat → Bool} {held : Bool}
set_option maxRecDepth 100000 in
theorem trod_pfx {n : Nat} {c0 c1 c2 : Value} {x : DataW H × List MemPlace} (h : DataW.trod enc Tryd.prog w 0 spare held n 26 [c0, c1, c2] = some x) :
    ∃ a b n : Int, c0 = .int .u64 a ∧ c1 = .int .u64 b ∧ c2 = .int .i64 n ∧ (Lit.int .u64 a).wf = true ∧ (Lit.int .u64 b).wf = true := by
  obtain ⟨y0, y1, n, hx, _, h0, h1⟩ := trod_struct2 Tryd.underlying26 h
  have h0' : DataW.trod enc Tryd.prog w 0 spare held n 24 [c0, c1] = some y0 := by simpa [Value.cells, Tryd.cellsW] using h0
  have h1' : DataW.trod enc Tryd.prog w 0 spare held n 3 [c2] = some y1 := by simpa [Value.cells, Tryd.cellsI] using h1
  obtain ⟨u0, u1, m, hu, _, g0, g1⟩ := trod_struct2 Tryd.underlying24 h0'
  have g0' : DataW.trod enc Tryd.prog w 0 spare held m 22 [c0] = some u0 := by simpa [Value.cells, Tryd.cellsU] using g0
  have g1' : DataW.trod enc Tryd.prog w 0 spare held m 22 [c1] = some u1 := by simpa [Value.cells, Tryd.cellsU] using g1
  obtain ⟨a, ea, rfl, wa⟩ := DataW.trod_int Tryd.underlying22 g0'
  obtain ⟨b, eb, rfl, wb⟩ := DataW.trod_int Tryd.underlying22 g1'
  obtain ⟨k, ek, rfl, wk⟩ := DataW.trod_int Tryd.underlying3 h1'
  simp at ea eb ek
  exact ⟨a, b, k, ea, eb, ek, wa, wb⟩
theorem spot_none {W : World} {a : Addr} {u : Value} (h : W.cell? a = some u) : a = ⟨a.block, a.off, none⟩ := by
  obtain ⟨b, o, s⟩ := a
  cases s with
  | none => rfl
  | some z =>
    unfold World.cell? at h
    split at h
    · simp at h
    · cases h
set_option maxRecDepth 100000 in
theorem open_pfxs {r : Reach} {b0 : Nat} {v : Value} {d : DataW H} {p : List MemPlace} (hv : Value.okWide Tryd.prog w r b0 29 v) (h : DataW.Trod enc Tryd.prog w 0 (fun _ => true) held 29 v d p) :
    ∃ l : List (BitVec 128 × Int), Rv w v l := by
  obtain ⟨a0, len, cap, rfl⟩ := okWide_slice Tryd.underlying29 hv
  obtain ⟨fuel, hf⟩ := h
  rcases Deep.open_slice Tryd.underlying29 hf with ⟨hcs, hx⟩ | ⟨a, len', cap', m, n, D, Pl, hcs, _, hl, hm, hmm, hx, hel⟩
  · simp [Value.cells] at hcs
    obtain ⟨rfl, rfl, rfl⟩ := hcs
    exact ⟨[], none, 0, rfl, .inl rfl⟩
  · simp [Value.cells] at hcs
    obtain ⟨rfl, rfl, rfl⟩ := hcs
    simp at hmm
    subst hmm
    rw [Tryd.cellsP] at hel
    obtain ⟨f, hf⟩ := Deep.choose_lt (α := BitVec 128 × Int) (n := len) (p := fun i x => w.cell? (a.add (i * 3)) = some (.int .u64 (hI x.1)) ∧ w.cell? ((a.add (i * 3)).add 1) = some (.int .u64 (lI x.1)) ∧ w.cell? ((a.add (i * 3)).add 2) = some (.int .i64 x.2)) (fun i hi => by
      obtain ⟨cs', h1, h2⟩ := hel i (by omega)
      obtain ⟨_, hlen, hc⟩ := World.cells?_some h1
      match cs', hlen with
      | [c0, c1, c2], _ =>
        obtain ⟨x, y, k, rfl, rfl, rfl, wx, wy⟩ := trod_pfx h2
        have bx : 0 ≤ x ∧ x < 18446744073709551616 := by simp [Lit.wf, IntKind.min, IntKind.max, IntKind.signed, IntKind.bits] at wx; omega
        have bY : 0 ≤ y ∧ y < 18446744073709551616 := by simp [Lit.wf, IntKind.min, IntKind.max, IntKind.signed, IntKind.bits] at wy; omega
        refine ⟨(mkW x y, k), ?_, ?_, ?_⟩
        · have := hc 0 (by omega)
          rw [hI_mk x y bx.1 bx.2]
          simpa [Addr.add] using this
        · rw [lI_mk x y bY.1 bY.2]
          simpa using hc 1 (by omega)
        · simpa using hc 2 (by omega))
    refine ⟨(List.range len).map f, some a, _, by simp; rfl, ?_⟩
    by_cases hz : len = 0
    · subst hz
      exact .inl (by simp)
    · have h00 := (hf 0 (by omega)).1
      have ea : a = ⟨a.block, a.off, none⟩ := by
        have : a.add (0 * 3) = a := by simp [Addr.add]
        rw [this] at h00
        exact spot_none h00
      refine .inr ⟨a.block, a.off, by rw [← ea], ?_⟩
      refine rowP_all _ ?_
      intro i hi
      have hi' : i < len := by simpa using hi
      have := hf i hi'
      rw [ea] at this
      simp only [addA] at this
      simpa [Nat.add_assoc] using this
end
end Go.Proofs.YtkgfeegcdohkdaaDoor
