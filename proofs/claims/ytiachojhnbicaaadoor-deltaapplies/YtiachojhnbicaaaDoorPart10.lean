/-
  Part 10 of the proof: 1 texts, one behind the other.
-/
import Derived.Test.YtiachojhnbicaaaDoorPart4
import Derived.Test.YtiachojhnbicaaaDoorPart9
import Derived.Deep.Strs
namespace Go.Proofs.YtiachojhnbicaaaDoor
open Go.ChangeShapes Go.WideShapes Go.ChangeAt Go.RowKit Go.Joins
set_option linter.unusedSimpArgs false
set_option linter.unusedVariables false

theorem Tryd.cells21a : Tryd.prog.cellsOf 3 = 1 := by kernel_rfl
theorem Tryd.cells21b : Tryd.prog.cellsOf 22 = 1 := by kernel_rfl
theorem Tryd.cells21c : Tryd.prog.cellsOf 34 = 3 := by kernel_rfl
theorem i64_bd21 {a : Int} (h : (Lit.int .i64 a).wf = true) : -9223372036854775808 ≤ a ∧ a ≤ 9223372036854775807 := by
  simp [Lit.wf, IntKind.min, IntKind.max, IntKind.signed, IntKind.bits] at h; omega
theorem u8_bd21 {a : Int} (h : (Lit.int .u8 a).wf = true) : 0 ≤ a ∧ a < 256 := by
  simp [Lit.wf, IntKind.min, IntKind.max, IntKind.signed, IntKind.bits] at h; omega
structure PtIn21 (w : World) (v : Value) (p : Pt) : Prop where
  r : RwX cB w v p.x
  a : RowA w 1 v p.x.length (p.x.map cB)
  b : ∀ z ∈ p.x, z < 256
  k : -9223372036854775808 ≤ p.k ∧ p.k ≤ 9223372036854775807
  d : -9223372036854775808 ≤ p.d ∧ p.d ≤ 9223372036854775807
section
variable {H : Type} {enc : TypeId × Value → H} {w : World} {spare : Nat → Bool} {held : Bool}
def rlD21 (d : DataW H) (n : Nat) : Prop := n = 0 ∨ ∃ el sp, d = .slice el sp ∧ el.length = n
set_option maxRecDepth 100000 in
theorem trod_patch21 {n : Nat} {c0 c1 c2 : Value} {x : DataW H × List MemPlace} (h : DataW.trod enc Tryd.prog w 0 (fun _ => true) held n 34 [c0, c1, c2] = some x) :
    ∃ p : Pt, c0 = .int .i64 p.k ∧ c1 = .int .i64 p.d ∧ PtIn21 w c2 p ∧ ∃ y0 y1 y2, x.1 = .agg [y0, y1, y2] ∧ rlD21 y2 p.x.length := by
  obtain ⟨y0, y1, y2, m, hx, _, h0, h1, h2⟩ := Deep.trod_struct3 Tryd.underlying34 h
  have h0' : DataW.trod enc Tryd.prog w 0 (fun _ => true) held m 3 [c0] = some y0 := by simpa [Value.cells, Tryd.cells21a, Tryd.cells21b] using h0
  have h1' : DataW.trod enc Tryd.prog w 0 (fun _ => true) held m 3 [c1] = some y1 := by simpa [Value.cells, Tryd.cells21a, Tryd.cells21b] using h1
  have h2' : DataW.trod enc Tryd.prog w 0 (fun _ => true) held m 22 [c2] = some y2 := by simpa [Value.cells, Tryd.cells21a, Tryd.cells21b] using h2
  obtain ⟨k, ek, -, wk⟩ := DataW.trod_int Tryd.underlying3 h0'
  obtain ⟨d, ed, -, wd⟩ := DataW.trod_int Tryd.underlying3 h1'
  simp at ek ed
  subst ek ed
  obtain ⟨l, l1, l2, l3, l4⟩ := open_in13 (k := .u8) Tryd.underlying22 Tryd.underlying5 (by kernel_rfl) h2'
  have hq : ∀ x ∈ l, Value.int .u8 x = cB x.toNat := fun x hx => by have := u8_bd21 (l3 x hx); unfold cB; congr 1; omega
  refine ⟨⟨k, d, l.map Int.toNat⟩, rfl, rfl, ⟨l2.map13 Int.toNat hq, ?_, ?_, i64_bd21 wk, i64_bd21 wd⟩, _, _, _, by rw [hx], ?_⟩
  · show RowA w 1 c2 (l.map Int.toNat).length ((l.map Int.toNat).map cB)
    rw [List.length_map, List.map_map]
    have e : l.map (cB ∘ Int.toNat) = l.map (fun a => Value.int .u8 a) := List.map_congr_left fun x hx => (hq x hx).symm
    rw [e]; exact l1
  · intro z hz
    obtain ⟨y, hy, rfl⟩ := List.mem_map.1 hz
    have := u8_bd21 (l3 y hy)
    omega
  · rcases l4 with l4 | ⟨el, sp, e1, e2⟩
    · left; rw [l4]; rfl
    · right; exact ⟨el, sp, e1, by rw [e2]; simp⟩
set_option maxRecDepth 100000 in
theorem open_patches21 {r : Reach} {b0 : Nat} {v : Value} {d : DataW H} {p : List MemPlace} (hv : Value.okWide Tryd.prog w r b0 23 v) (h : DataW.Trod enc Tryd.prog w 0 (fun _ => true) held 23 v d p) :
    ∃ (L : List Pt), PtR21 w v L ∧ (∀ p ∈ L, (∀ z ∈ p.x, z < 256) ∧ (-9223372036854775808 ≤ p.k ∧ p.k ≤ 9223372036854775807) ∧ (-9223372036854775808 ≤ p.d ∧ p.d ≤ 9223372036854775807)) ∧ rlD21 d L.length ∧ (∀ el sp, d = .slice el sp → ∀ (j : Nat) (d' : Pt), L[j]? = some d' → ∃ y0 y1 y2, DataW.agg [y0, y1, y2] ∈ el ∧ rlD21 y2 d'.x.length) := by
  obtain ⟨a0, len, cap, rfl⟩ := okWide_slice Tryd.underlying23 hv
  obtain ⟨fuel, hf⟩ := h
  rcases Deep.open_slice Tryd.underlying23 hf with ⟨hcs, hx⟩ | ⟨a, len', cap', m, n, D, Pl, hcs, _, hl, hm, hmm, hx, hel⟩
  · simp [Value.cells] at hcs
    obtain ⟨rfl, rfl, rfl⟩ := hcs
    exact ⟨[], ⟨none, 0, rfl, Nat.le_refl _, .inl rfl⟩, (fun _ h => by cases h), .inl rfl, fun el sp _ j d' h => (by simp at h)⟩
  · simp [Value.cells] at hcs
    obtain ⟨rfl, rfl, rfl⟩ := hcs
    simp at hmm
    subst hmm
    rw [Tryd.cells21c] at hel
    simp only [Prod.mk.injEq] at hx
    obtain ⟨hx1, -⟩ := hx
    haveI : Inhabited (Value × Pt) := ⟨(undef, ⟨0, 0, []⟩)⟩
    obtain ⟨f, hf⟩ := Deep.choose_lt (α := Value × Pt) (n := len) (p := fun i x => (w.cell? (a.add (i * 3)) = some (.int .i64 x.2.k) ∧ w.cell? (a.add (i * 3 + 1)) = some (.int .i64 x.2.d) ∧ w.cell? (a.add (i * 3 + 2)) = some x.1) ∧ PtIn21 w x.1 x.2 ∧ ∃ y0 y1 y2, D i = .agg [y0, y1, y2] ∧ rlD21 y2 x.2.x.length) (fun i hi => by
      obtain ⟨cs', h1, h2⟩ := hel i (by omega)
      obtain ⟨_, hlen, hc⟩ := World.cells?_some h1
      match cs', hlen with
      | [c0, c1, c2], _ =>
        obtain ⟨p, e0, e1, hn, hd⟩ := trod_patch21 h2
        subst e0 e1
        refine ⟨(c2, p), ⟨?_, ?_, ?_⟩, hn, hd⟩
        · have := hc 0 (by simp); simpa [Deep.add_add] using this
        · have := hc 1 (by simp); simpa [Deep.add_add] using this
        · have := hc 2 (by simp); simpa [Deep.add_add] using this)
    have hget : ∀ (j : Nat) (y : Pt), ((List.range len).map fun i => (f i).2)[j]? = some y → j < len ∧ y = (f j).2 := by
      intro j y hj
      have hlt : j < len := by have := (List.getElem?_eq_some_iff.1 hj).1; simpa using this
      rw [List.getElem?_map, List.getElem?_range hlt] at hj
      simp only [Option.map_some, Option.some.injEq] at hj
      exact ⟨hlt, hj.symm⟩
    have hspot : 0 < len → a = ⟨a.block, a.off, none⟩ := fun hz => by
      have h00 := (hf 0 hz).1.1
      have : a.add (0 * 3) = a := by simp [Addr.add]
      rw [this] at h00
      exact spot9 h00
    refine ⟨(List.range len).map (fun i => (f i).2), ⟨some a, m, by simp, by simpa using hl, ?_⟩, ?_, ?_, ?_⟩
    · by_cases hz : len = 0
      · subst hz
        exact .inl (by simp)
      · have ea := hspot (by omega)
        refine .inr ⟨a.block, a.off, by rw [← ea], fun j d hj => ?_⟩
        obtain ⟨hlt, rfl⟩ := hget j d hj
        obtain ⟨⟨g0, g1, g2⟩, g3, -⟩ := hf j hlt
        rw [ea, addA] at g0 g1 g2
        exact ⟨_, g0, g1, g2, g3.r, g3.a⟩
    · intro p hp
      obtain ⟨j, hj⟩ := List.getElem?_of_mem hp
      obtain ⟨hlt, rfl⟩ := hget j p hj
      have := (hf j hlt).2.1
      exact ⟨this.b, this.k, this.d⟩
    · exact .inr ⟨_, _, hx1, by simp⟩
    · intro el sp he j d' hd
      obtain ⟨hlt, rfl⟩ := hget j d' hd
      obtain ⟨y0, y1, y2, e1, e2⟩ := (hf j hlt).2.2
      rw [hx1] at he
      injection he with he
      refine ⟨y0, y1, y2, ?_, e2⟩
      rw [← he, ← e1]
      exact List.mem_map.2 ⟨j, List.mem_range.2 hlt, rfl⟩
theorem Tryd.bytes21a : Tryd.prog.bytesOf 5 = 1 := by kernel_rfl
theorem Tryd.bytes21b : Tryd.prog.bytesOf 34 = 40 := by kernel_rfl
theorem patches_sized21 {ts : List TypeId} {ds : List (DataW H)} (h : (DataW.weightsEach Tryd.prog ts ds).all (· ≤ reachBytes) = true) {j : Nat} {d : DataW H} {L : List Pt} (ht : ts[j]? = some 23) (hd : ds[j]? = some d) (hl : rlD21 d L.length) (hel : ∀ el sp, d = .slice el sp → ∀ (j : Nat) (d' : Pt), L[j]? = some d' → ∃ y0 y1 y2, DataW.agg [y0, y1, y2] ∈ el ∧ rlD21 y2 d'.x.length) :
    L.length ≤ 140737488355328 ∧ ∀ d' ∈ L, d'.x.length ≤ 140737488355328 := by
  have hrb : reachBytes ≤ 140737488355328 := by
    have := reachBytes_lt
    have : (2 : Nat) ^ 47 = 140737488355328 := by decide
    omega
  rcases hl with hl | ⟨el, sp, rfl, hl⟩
  · have : L = [] := List.eq_nil_of_length_eq_zero hl
    subst this
    exact ⟨by simp, fun d' h => by cases h⟩
  · have hw : ∀ n ∈ DataW.weights Tryd.prog 23 (.slice el sp), n ≤ reachBytes := fun n hn => by
      have := List.all_eq_true.1 h _ (DataW.weights_mem_each ht hd n hn)
      simpa using this
    have hu : DataW.weights Tryd.prog 23 (.slice el sp) = (el.length + sp.length) * Tryd.prog.bytesOf 34 :: (DataW.weightsAll Tryd.prog 34 el ++ DataW.weightsAll Tryd.prog 34 sp) := by simp [DataW.weights, Tryd.underlying23]
    rw [hu, Tryd.bytes21b] at hw
    refine ⟨?_, fun d' hd' => ?_⟩
    · have := hw _ (List.mem_cons_self ..)
      have : el.length * 40 ≤ (el.length + sp.length) * 40 := Nat.mul_le_mul_right _ (by omega)
      omega
    · obtain ⟨i, hi⟩ := List.getElem?_of_mem hd'
      obtain ⟨y0, y1, y2, hm, hr⟩ := hel el sp rfl i d' hi
      rcases hr with hr | ⟨el2, sp2, rfl, hr⟩
      · omega
      · have hn : (el2.length + sp2.length) * Tryd.prog.bytesOf 5 ∈ DataW.weights Tryd.prog 34 (.agg [y0, y1, .slice el2 sp2]) := by
          simp [DataW.weights, DataW.weightsEach, Tryd.underlying34, Tryd.underlying22]
        have := hw _ (List.mem_cons_of_mem _ (List.mem_append_left _ (weightsAll_mem hm hn)))
        rw [Tryd.bytes21a] at this
        have : el2.length * 1 ≤ (el2.length + sp2.length) * 1 := Nat.mul_le_mul_right _ (by omega)
        omega
end
end Go.Proofs.YtiachojhnbicaaaDoor
