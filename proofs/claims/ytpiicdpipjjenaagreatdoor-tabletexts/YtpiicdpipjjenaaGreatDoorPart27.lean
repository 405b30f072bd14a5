/-
  Part 27 of the proof: 1 texts, one behind the other.
-/
import Derived.Test.YtpiicdpipjjenaaGreatDoorPart26
import Derived.Test.YtpiicdpipjjenaaGreatDoorPart7
import Derived.Deep.Slices
import Derived.Deep.Strs
import Derived.Carry
namespace Go.Proofs.YtpiicdpipjjenaaGreatDoor
open Go.ChangeShapes Go.WideShapes Go.ChangeAt Go.RowKit Go.Joins
set_option linter.unusedSimpArgs false
set_option linter.unusedVariables false

theorem Tryz.laidOut : laidOutB Tryz.prog = true := by kernel_rfl
theorem Tryz.cellsR : Tryz.prog.cellsOf 47 = 4 := by kernel_rfl
theorem Tryz.cellsT : Tryz.prog.cellsOf 24 = 2 := by kernel_rfl
theorem Tryz.cellsL : Tryz.prog.cellsOf 22 = 1 := by kernel_rfl
theorem addT (g o j : Nat) : (⟨g, o, none⟩ : Addr).add j = ⟨g, o + j, none⟩ := by unfold Addr.add; split <;> simp_all
theorem rowR_lenF (l : List Rte) : (rowR l).length = l.length * 4 := by
  induction l with
  | nil => rfl
  | cons r l ih => simp [rowR, ih]; omega
theorem rowR_all {W : World} {b off : Nat} (l : List Rte) (h : ∀ i (hi : i < l.length), W.cell? ⟨b, off + i * 4, none⟩ = some (.int .u64 (hI l[i].1.1)) ∧ W.cell? ⟨b, off + (i * 4 + 1), none⟩ = some (.int .u64 (lI l[i].1.1)) ∧ W.cell? ⟨b, off + (i * 4 + 2), none⟩ = some (.int .i64 l[i].1.2) ∧ W.cell? ⟨b, off + (i * 4 + 3), none⟩ = some (.int .i64 l[i].2)) :
    ∀ j u, (rowR l)[j]? = some u → W.cell? ⟨b, off + j, none⟩ = some u := by
  intro j u hj
  have hlt : j < (rowR l).length := (List.getElem?_eq_some_iff.1 hj).1
  rw [rowR_lenF] at hlt
  have hi : j / 4 < l.length := by omega
  obtain ⟨a0, a1, a2, a3⟩ := h (j / 4) hi
  obtain ⟨b0, b1, b2, b3⟩ := rowR_get l (j / 4) hi
  have hm : j % 4 = 0 ∨ j % 4 = 1 ∨ j % 4 = 2 ∨ j % 4 = 3 := by omega
  rcases hm with hm | hm | hm | hm
  · have e : j = j / 4 * 4 := by omega
    rw [e, b0] at hj
    rw [e, ← hj]; exact a0
  · have e : j = j / 4 * 4 + 1 := by omega
    rw [e, b1] at hj
    rw [e, ← hj]; exact a1
  · have e : j = j / 4 * 4 + 2 := by omega
    rw [e, b2] at hj
    rw [e, ← hj]; exact a2
  · have e : j = j / 4 * 4 + 3 := by omega
    rw [e, b3] at hj
    rw [e, ← hj]; exact a3
section
variable {H : Type} {enc : TypeId × Value → H} {w : World} {spare : Nat → Bool} {held : Bool}
set_option maxRecDepth 100000 in
theorem trod_word {n : Nat} {c0 c1 : Value} {x : DataW H × List MemPlace} (h : DataW.trod enc Tryz.prog w 0 spare held n 43 [c0, c1] = some x) :
    ∃ a b : Int, c0 = .int .u64 a ∧ c1 = .int .u64 b ∧ (Lit.int .u64 a).wf = true ∧ (Lit.int .u64 b).wf = true := by
  obtain ⟨u0, u1, m, hu, _, g0, g1⟩ := trod_struct2 Tryz.underlying43 h
  have g0' : DataW.trod enc Tryz.prog w 0 spare held m 41 [c0] = some u0 := by simpa [Value.cells, Tryz.cellsU] using g0
  have g1' : DataW.trod enc Tryz.prog w 0 spare held m 41 [c1] = some u1 := by simpa [Value.cells, Tryz.cellsU] using g1
  obtain ⟨a, ea, rfl, wa⟩ := DataW.trod_int Tryz.underlying41 g0'
  obtain ⟨b, eb, rfl, wb⟩ := DataW.trod_int Tryz.underlying41 g1'
  simp at ea eb
  exact ⟨a, b, ea, eb, wa, wb⟩
set_option maxRecDepth 100000 in
theorem trod_rte {n : Nat} {c0 c1 c2 c3 : Value} {x : DataW H × List MemPlace} (h : DataW.trod enc Tryz.prog w 0 spare held n 47 [c0, c1, c2, c3] = some x) :
    ∃ a b k g : Int, c0 = .int .u64 a ∧ c1 = .int .u64 b ∧ c2 = .int .i64 k ∧ c3 = .int .i64 g ∧ (Lit.int .u64 a).wf = true ∧ (Lit.int .u64 b).wf = true := by
  obtain ⟨y0, y1, n, hx, _, h0, h1⟩ := trod_struct2 Tryz.underlying47 h
  have h0' : DataW.trod enc Tryz.prog w 0 spare held n 45 [c0, c1, c2] = some y0 := by simpa [Value.cells, Tryz.cellsP] using h0
  have h1' : DataW.trod enc Tryz.prog w 0 spare held n 3 [c3] = some y1 := by simpa [Value.cells, Tryz.cellsI, Tryz.cellsP] using h1
  obtain ⟨z0, z1, n2, hz, _, k0, k1⟩ := trod_struct2 Tryz.underlying45 h0'
  have k0' : DataW.trod enc Tryz.prog w 0 spare held n2 43 [c0, c1] = some z0 := by simpa [Value.cells, Tryz.cellsW] using k0
  have k1' : DataW.trod enc Tryz.prog w 0 spare held n2 3 [c2] = some z1 := by simpa [Value.cells, Tryz.cellsI, Tryz.cellsW] using k1
  obtain ⟨a, b, e0, e1, wa, wb⟩ := trod_word k0'
  obtain ⟨k, ek, rfl, wk⟩ := DataW.trod_int Tryz.underlying3 k1'
  obtain ⟨g, eg, rfl, wg⟩ := DataW.trod_int Tryz.underlying3 h1'
  simp at ek eg
  exact ⟨a, b, k, g, e0, e1, ek, eg, wa, wb⟩
theorem spot_none {W : World} {a : Addr} {u : Value} (h : W.cell? a = some u) : a = ⟨a.block, a.off, none⟩ := by
  obtain ⟨b, o, s⟩ := a
  cases s with
  | none => rfl
  | some z =>
    unfold World.cell? at h
    split at h
    · simp at h
    · cases h
theorem array2v {cs : Array Value} (h : cs.size = 2) : ∃ a b, cs = #[a, b] := by
  obtain ⟨l⟩ := cs
  match l, h with
  | [a, b], _ => exact ⟨a, b, rfl⟩
set_option maxRecDepth 100000 in
theorem open_tab {r : Reach} {b0 : Nat} {v : Value} {d : DataW H} {p : List MemPlace} (hv : Value.okWide Tryz.prog w r b0 24 v) (h : DataW.Trod enc Tryz.prog w 0 (fun _ => true) held 24 v d p) :
    ∃ (F : Int) (va : Value) (l : List Rte), v = .agg #[.int .i64 F, va] ∧ RwR w va l := by
  obtain ⟨cs, rfl, hsz⟩ := okWide_struct Tryz.underlying24 hv
  obtain ⟨c0, va, rfl⟩ := array2v (hsz.trans Tryz.cellsT)
  obtain ⟨fuel, hf⟩ := h
  obtain ⟨y0, y1, n, hx, _, h0, h1⟩ := trod_struct2 Tryz.underlying24 hf
  have h0' : DataW.trod enc Tryz.prog w 0 (fun _ => true) held n 3 [c0] = some y0 := by simpa [Value.cells, Tryz.cellsI] using h0
  have h1' : DataW.trod enc Tryz.prog w 0 (fun _ => true) held n 22 [va] = some y1 := by simpa [Value.cells, Tryz.cellsI, Tryz.cellsL] using h1
  obtain ⟨F, eF, rfl, wF⟩ := DataW.trod_int Tryz.underlying3 h0'
  simp at eF
  subst eF
  refine ⟨F, va, ?_⟩
  rcases Deep.open_slice Tryz.underlying22 h1' with ⟨hcs, hx⟩ | ⟨a, len, cap, m, n, D, Pl, hcs, _, hl, hm, hmm, hx, hel⟩
  · simp at hcs
    subst hcs
    exact ⟨[], rfl, none, 0, rfl, .inl rfl⟩
  · simp at hcs
    subst hcs
    simp at hmm
    subst hmm
    rw [Tryz.cellsR] at hel
    obtain ⟨f, hf⟩ := Deep.choose_lt (α := Rte) (n := len) (p := fun i x => w.cell? (a.add (i * 4)) = some (.int .u64 (hI x.1.1)) ∧ w.cell? ((a.add (i * 4)).add 1) = some (.int .u64 (lI x.1.1)) ∧ w.cell? ((a.add (i * 4)).add 2) = some (.int .i64 x.1.2) ∧ w.cell? ((a.add (i * 4)).add 3) = some (.int .i64 x.2)) (fun i hi => by
      obtain ⟨cs', h1, h2⟩ := hel i (by omega)
      obtain ⟨_, hlen, hc⟩ := World.cells?_some h1
      match cs', hlen with
      | [c0, c1, c2, c3], _ =>
        obtain ⟨x, y, k, g, rfl, rfl, rfl, rfl, wx, wy⟩ := trod_rte h2
        have bx : 0 ≤ x ∧ x < 18446744073709551616 := by simp [Lit.wf, IntKind.min, IntKind.max, IntKind.signed, IntKind.bits] at wx; omega
        have bY : 0 ≤ y ∧ y < 18446744073709551616 := by simp [Lit.wf, IntKind.min, IntKind.max, IntKind.signed, IntKind.bits] at wy; omega
        refine ⟨((mkW x y, k), g), ?_, ?_, ?_, ?_⟩
        · have := hc 0 (by omega)
          rw [hI_mk x y bx.1 bx.2]
          simpa [Addr.add] using this
        · rw [lI_mk x y bY.1 bY.2]
          simpa using hc 1 (by omega)
        · simpa using hc 2 (by omega)
        · simpa using hc 3 (by omega))
    refine ⟨(List.range len).map f, rfl, some a, _, by simp; rfl, ?_⟩
    by_cases hz : len = 0
    · subst hz
      exact .inl (by simp)
    · have h00 := (hf 0 (by omega)).1
      have ea : a = ⟨a.block, a.off, none⟩ := by
        have : a.add (0 * 4) = a := by simp [Addr.add]
        rw [this] at h00
        exact spot_none h00
      refine .inr ⟨a.block, a.off, by rw [← ea], ?_⟩
      refine rowR_all _ ?_
      intro i hi
      have hi' : i < len := by simpa using hi
      have := hf i hi'
      rw [ea] at this
      simp only [addT] at this
      simpa [Nat.add_assoc] using this
end
end Go.Proofs.YtpiicdpipjjenaaGreatDoor
