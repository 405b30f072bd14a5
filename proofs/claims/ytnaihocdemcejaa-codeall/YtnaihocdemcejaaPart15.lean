/-
  Part 15 of the proof: 1 texts, one behind the other.
-/
import Derived.Test.YtnaihocdemcejaaPart14
import Derived.Test.YtnaihocdemcejaaPart5
import Derived.Deep.Strs
/-
  How an instruction that is handed in reads as data.
-/
namespace Go.Proofs.Ytnaihocdemcejaa
open Go.ChangeShapes Go.WideShapes Go.ChangeAt Go.RowKit Go.Joins
set_option linter.unusedSimpArgs false
set_option linter.unusedVariables false

theorem Try.cellsI14 : Try.prog.cellsOf 3 = 1 := by kernel_rfl
theorem Try.cellsM14 : Try.prog.cellsOf 22 = 1 := by kernel_rfl
theorem Try.cellsN14 : Try.prog.cellsOf 24 = 3 := by kernel_rfl
section
variable {H : Type} {enc : TypeId × Value → H} {w : World} {spare : Nat → Bool} {held : Bool}
set_option maxRecDepth 100000 in
theorem trod_ints14 {t e : TypeId} {k : IntKind} (ht : Try.prog.underlying t = some (.slice e)) (he : Try.prog.underlying e = some (.int k)) (hce : Try.prog.cellsOf e = 1) {fuel : Nat} {va : Value} {x : DataW H × List MemPlace} (hf : DataW.trod enc Try.prog w 0 (fun _ => true) held fuel t [va] = some x) :
    ∃ l : List Int, RowA w 1 va l.length (l.map fun a => .int k a) ∧ RwX (fun a => Value.int k a) w va l ∧ (∀ a ∈ l, (Lit.int k a).wf = true) := by
  rcases Deep.open_slice ht hf with ⟨hcs, hx⟩ | ⟨a, len', cap', m, n, D, Pl, hcs, _, hl, hm, hmm, hx, hel⟩
  · simp at hcs
    subst hcs
    exact ⟨[], ⟨rfl, none, 0, rfl, Nat.le_refl _, .inl ⟨rfl, rfl, rfl⟩⟩, ⟨none, 0, rfl, Nat.le_refl _, .inl rfl⟩, (fun _ h => by cases h)⟩
  · simp at hcs
    subst hcs
    simp at hmm
    subst hmm
    rw [hce] at hel
    obtain ⟨f, hf⟩ := Deep.choose_lt (α := Int) (n := len') (p := fun i x => w.cell? (a.add i) = some (.int k x) ∧ (Lit.int k x).wf = true) (fun i hi => by
      obtain ⟨cs', h1, h2⟩ := hel i (by omega)
      obtain ⟨_, hlen, hc⟩ := World.cells?_some h1
      match cs', hlen with
      | [c0], _ =>
        obtain ⟨x, ex, -, wx⟩ := DataW.trod_int he h2
        simp at ex
        subst ex
        refine ⟨x, ?_, wx⟩
        have := hc 0 (by omega)
        simpa [Addr.add] using this)
    have hlen : ((List.range len').map f).length = len' := by simp
    have hcells : ∀ j x, ((List.range len').map f)[j]? = some x → w.cell? (a.add j) = some (.int k x) := by
      intro j x hj
      have hlt : j < len' := by have := (List.getElem?_eq_some_iff.1 hj).1; simpa using this
      rw [List.getElem?_map, List.getElem?_range hlt] at hj
      simp only [Option.map_some, Option.some.injEq] at hj
      rw [← hj]; exact (hf j hlt).1
    refine ⟨(List.range len').map f, ⟨by simp, some a, m, by rw [hlen], by rw [hlen]; exact hl, .inr ⟨a, rfl, fun j u hj => ?_⟩⟩, ⟨some a, m, by rw [hlen], by rw [hlen]; exact hl, ?_⟩, ?_⟩
    · rw [List.getElem?_map] at hj
      cases hx : ((List.range len').map f)[j]? with
      | none => rw [hx] at hj; cases hj
      | some y =>
        rw [hx] at hj
        simp only [Option.map_some, Option.some.injEq] at hj
        rw [← hj]; exact hcells j y hx
    · by_cases hz : len' = 0
      · subst hz
        exact .inl (by simp)
      · have h00 := (hf 0 (by omega)).1
        have ea : a = ⟨a.block, a.off, none⟩ := by
          have : a.add 0 = a := by simp [Addr.add]
          rw [this] at h00
          exact spot9 h00
        refine .inr ⟨a.block, a.off, by rw [← ea], fun j u hj => ?_⟩
        have := hcells j u hj
        rw [ea, addA] at this
        exact this
    · intro x hx
      simp only [List.mem_map, List.mem_range] at hx
      obtain ⟨i, hi, rfl⟩ := hx
      exact (hf i hi).2
theorem u32_bd14 {a : Int} (h : (Lit.int .u32 a).wf = true) : 0 ≤ a ∧ a < 4294967296 := by
  simp [Lit.wf, IntKind.min, IntKind.max, IntKind.signed, IntKind.bits] at h; omega
theorem i64_bd14 {a : Int} (h : (Lit.int .i64 a).wf = true) : -9223372036854775808 ≤ a ∧ a ≤ 9223372036854775807 := by
  simp [Lit.wf, IntKind.min, IntKind.max, IntKind.signed, IntKind.bits] at h; omega
set_option maxRecDepth 100000 in
theorem open_instr {r : Reach} {b0 : Nat} {v : Value} {d : DataW H} {p : List MemPlace} (hv : Value.okWide Try.prog w r b0 24 v) (h : DataW.Trod enc Try.prog w 0 (fun _ => true) held 24 v d p) :
    ∃ (o n : Int) (va : Value) (m : List (BitVec 32)), v = .agg #[.int .i64 o, .int .i64 n, va] ∧ RwX cU w va m ∧ RowA w 1 va m.length (m.map cU) ∧ (-9223372036854775808 ≤ o ∧ o ≤ 9223372036854775807) ∧ (-9223372036854775808 ≤ n ∧ n ≤ 9223372036854775807) := by
  obtain ⟨cs, rfl, hsz⟩ := okWide_struct Try.underlying24 hv
  obtain ⟨c0, c1, va, rfl⟩ := array3 (hsz.trans Try.cellsN14)
  obtain ⟨fuel, hf⟩ := h
  obtain ⟨y0, y1, y2, n, hx, _, h0, h1, h2⟩ := Deep.trod_struct3 Try.underlying24 hf
  have h0' : DataW.trod enc Try.prog w 0 (fun _ => true) held n 3 [c0] = some y0 := by simpa [Value.cells, Try.cellsI14] using h0
  have h1' : DataW.trod enc Try.prog w 0 (fun _ => true) held n 3 [c1] = some y1 := by simpa [Value.cells, Try.cellsI14, Try.cellsM14] using h1
  have h2' : DataW.trod enc Try.prog w 0 (fun _ => true) held n 22 [va] = some y2 := by simpa [Value.cells, Try.cellsI14, Try.cellsM14] using h2
  obtain ⟨o, eo, -, wo⟩ := DataW.trod_int Try.underlying3 h0'
  obtain ⟨k, ek, -, wk⟩ := DataW.trod_int Try.underlying3 h1'
  simp at eo ek
  subst eo ek
  obtain ⟨l, hA, hR, hw⟩ := trod_ints14 Try.underlying22 Try.underlying56 (by kernel_rfl) h2'
  have hq : ∀ x ∈ l, Value.int .u32 x = cU (BitVec.ofNat 32 x.toNat) := fun x hx => by
    have := u32_bd14 (hw x hx)
    unfold cU
    rw [uI_of _ (by omega)]
    congr 1
    omega
  refine ⟨o, k, va, l.map (fun a => BitVec.ofNat 32 a.toNat), rfl, hR.map13 _ hq, ?_, i64_bd14 wo, i64_bd14 wk⟩
  rw [List.length_map, List.map_map]
  have e : l.map (cU ∘ fun a => BitVec.ofNat 32 a.toNat) = l.map (fun a => Value.int .u32 a) := List.map_congr_left fun x hx => (hq x hx).symm
  rw [e]
  exact hA
end
end Go.Proofs.Ytnaihocdemcejaa
