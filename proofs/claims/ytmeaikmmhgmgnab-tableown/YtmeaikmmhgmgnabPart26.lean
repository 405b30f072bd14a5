/-
  Part 26 of the proof: 1 texts, one behind the other.
-/
import Derived.Test.YtmeaikmmhgmgnabPart25
import Derived.Test.YtmeaikmmhgmgnabPart24
/-
  How a table that is handed in reads as data, its row with its room.
-/
namespace Go.Proofs.Ytmeaikmmhgmgnab
open Go.ChangeShapes Go.WideShapes Go.ChangeAt Go.RowKit Go.Joins
set_option linter.unusedSimpArgs false
set_option linter.unusedVariables false
section
variable {H : Type} {enc : TypeId × Value → H} {w : World} {spare : Nat → Bool} {held : Bool}
set_option maxRecDepth 100000 in
theorem open_tabA {r : Reach} {b0 : Nat} {v : Value} {d : DataW H} {p : List MemPlace} (hv : Value.okWide Try.prog w r b0 24 v) (h : DataW.Trod enc Try.prog w 0 (fun _ => true) held 24 v d p) :
    ∃ (F : Int) (va : Value) (l : List Rte), v = .agg #[.int .i64 F, va] ∧ RwR w va l ∧ RowA w 4 va l.length (rowR l) := by
  obtain ⟨cs, rfl, hsz⟩ := okWide_struct Try.underlying24 hv
  obtain ⟨c0, va, rfl⟩ := array2v (hsz.trans Try.cellsT)
  obtain ⟨fuel, hf⟩ := h
  obtain ⟨y0, y1, n, hx, _, h0, h1⟩ := trod_struct2 Try.underlying24 hf
  have h0' : DataW.trod enc Try.prog w 0 (fun _ => true) held n 3 [c0] = some y0 := by simpa [Value.cells, Try.cellsI] using h0
  have h1' : DataW.trod enc Try.prog w 0 (fun _ => true) held n 22 [va] = some y1 := by simpa [Value.cells, Try.cellsI, Try.cellsL] using h1
  obtain ⟨F, eF, rfl, wF⟩ := DataW.trod_int Try.underlying3 h0'
  simp at eF
  subst eF
  refine ⟨F, va, ?_⟩
  rcases Deep.open_slice Try.underlying22 h1' with ⟨hcs, hx⟩ | ⟨a, len, cap, m, n, D, Pl, hcs, _, hl, hm, hmm, hx, hel⟩
  · simp at hcs
    subst hcs
    exact ⟨[], rfl, ⟨none, 0, rfl, .inl rfl⟩, ⟨rfl, none, 0, rfl, Nat.le_refl _, .inl ⟨rfl, rfl, rfl⟩⟩⟩
  · simp at hcs
    subst hcs
    simp at hmm
    subst hmm
    rw [Try.cellsR] at hel
    obtain ⟨f, hf⟩ := Deep.choose_lt (α := Rte) (n := len) (p := fun i x => w.cell? (a.add (i * 4)) = some (.int .u64 (hI x.1.1)) ∧ w.cell? ((a.add (i * 4)).add 1) = some (.int .u64 (lI x.1.1)) ∧ w.cell? ((a.add (i * 4)).add 2) = some (.int .i64 x.1.2) ∧ w.cell? ((a.add (i * 4)).add 3) = some (.int .i64 x.2)) (fun i hi => by
      obtain ⟨cs', h1, h2⟩ := hel i (by omega)
      obtain ⟨_, hlen, hc⟩ := World.cells?_some h1
      match cs', hlen with
      | [c0, c1, c2, c3], _ =>
        obtain ⟨x, y, k, g, rfl, rfl, rfl, rfl, wx, wy⟩ := trod_rte h2
        have bx : 0 ≤ x ∧ x < 18446744073709551616 := by simp [Lit.wf, IntKind.min, IntKind.max, IntKind.signed, IntKind.bits] at wx; omega
        have bY : 0 ≤ y ∧ y < 18446744073709551616 := by simp [Lit.wf, IntKind.min, IntKind.max, IntKind.signed, IntKind.bits] at wy; omega
        refine ⟨((mkW x y, k), g), ?_, ?_, ?_, ?_⟩
        · have := hc 0 (by omega)
          rw [hI_mk x y bx.1 bx.2]
          simpa [Addr.add] using this
        · rw [lI_mk x y bY.1 bY.2]
          simpa using hc 1 (by omega)
        · simpa using hc 2 (by omega)
        · simpa using hc 3 (by omega))
    refine ⟨(List.range len).map f, rfl, ⟨some a, _, by simp; rfl, ?_⟩, ?_⟩
    rotate_left
    · refine ⟨rowR_lenF _, some a, m, by simp, by simpa using hl, .inr ⟨a, rfl, ?_⟩⟩
      intro j u hj
      have hlt : j < (rowR ((List.range len).map f)).length := (List.getElem?_eq_some_iff.1 hj).1
      rw [rowR_lenF] at hlt
      have h00 := (hf 0 (by simp at hlt; omega)).1
      have ea : a = ⟨a.block, a.off, none⟩ := by
        have : a.add (0 * 4) = a := by simp [Addr.add]
        rw [this] at h00
        exact spot_none h00
      rw [ea, addT]
      refine rowR_all _ ?_ j u hj
      intro i hi
      have hi' : i < len := by simpa using hi
      have := hf i hi'
      rw [ea] at this
      simp only [addT] at this
      simpa [Nat.add_assoc] using this
    by_cases hz : len = 0
    · subst hz
      exact .inl (by simp)
    · have h00 := (hf 0 (by omega)).1
      have ea : a = ⟨a.block, a.off, none⟩ := by
        have : a.add (0 * 4) = a := by simp [Addr.add]
        rw [this] at h00
        exact spot_none h00
      refine .inr ⟨a.block, a.off, by rw [← ea], ?_⟩
      refine rowR_all _ ?_
      intro i hi
      have hi' : i < len := by simpa using hi
      have := hf i hi'
      rw [ea] at this
      simp only [addT] at this
      simpa [Nat.add_assoc] using this
end
end Go.Proofs.Ytmeaikmmhgmgnab
