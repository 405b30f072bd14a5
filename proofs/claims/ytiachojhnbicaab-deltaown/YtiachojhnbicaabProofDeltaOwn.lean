/-
  DeltaOwn: whatever two rows of bytes are handed in, what Diff and Apply tell is the caller's own, and the rows stay as they were.
-/
import Derived.Test.YtiachojhnbicaabPart7
import Derived.ProofKit
import Derived.Lib.SmallJoins
namespace Go.Proofs.Ytiachojhnbicaab
open Go.ChangeShapes Go.WideShapes Go.ChangeAt Go.RowKit Go.Joins
set_option linter.unusedSimpArgs false
set_option linter.unusedVariables false

theorem Try.own : ownKnob Try.prog.godebug = none := by kernel_rfl
theorem u8_bd {a : Int} (h : (Lit.int .u8 a).wf = true) : 0 ≤ a ∧ a < 256 := by
  simp [Lit.wf, IntKind.min, IntKind.max, IntKind.signed, IntKind.bits] at h; omega
set_option maxRecDepth 100000 in
theorem deltaOwn_lifted (os : Os) (started : os.Started) (H : Type) (enc : TypeId × Value → H) :
    ReturnsInHanded {} Try.checked os 3 .any (Rows.deltaOwnSpec.pre6 enc Try.prog Try.f3 Rows.deltaOwnRow.domain false) (Rows.deltaOwnSpec.post enc Try.prog Try.f3 false true false false) := by
  refine returnsInHanded_of_change (C := Try.checked) Try.own started (by kernel_rfl) Try.func3
    (ChangeSpec.witness6 (enc := enc) (C := Try.checked) false ⟨#[], #[.slice none 0 0, .slice none 0 0], []⟩ 8 (by kernel_rfl) (by kernel_rfl) (by kernel_rfl) (by kernel_rfl)) ?_
  intro W base args ds gs before hval0 hW _ _
  have hval : ∀ (j : Nat) t v, Try.f3.params[j]? = some t → args[j]? = some v → Value.okWide Try.prog W .any base t v := hval0
  have hW' := hW
  obtain ⟨p, q, hA0, hV, rfl, hfz, hnd⟩ := hW
  have hA : DataW.TrodAll enc Try.prog W 0 (fun _ => true) true Try.f3.params.toList args.toList ds p := hA0
  rw [Try.params3] at hA hval
  obtain ⟨v0, v1, d0, d1, p0, p1, rfl, rfl, rfl, h0, h1⟩ := trodAll_two hA
  obtain ⟨rfl, rfl⟩ := trodVars_none hV
  obtain ⟨l0, hRA0, hRv0, hwf0, hdl0⟩ := open_ints13 Try.underlying22 Try.underlying5 (by kernel_rfl) (hval 0 22 v0 rfl rfl) h0
  have hq0 : ∀ x ∈ l0, Value.int .u8 x = cB x.toNat := fun x hx => by have := u8_bd (hwf0 x hx); unfold cB; congr 1; omega
  have hRv0' := hRv0.map13 Int.toNat hq0
  have hRA0' : RowA W 1 v0 (l0.map Int.toNat).length ((l0.map Int.toNat).map cB) := by
    rw [List.length_map, List.map_map]
    have e : l0.map (cB ∘ Int.toNat) = l0.map (fun a => Value.int .u8 a) := List.map_congr_left fun x hx => (hq0 x hx).symm
    rw [e]; exact hRA0
  obtain ⟨l1, hRA1, hRv1, hwf1, hdl1⟩ := open_ints13 Try.underlying22 Try.underlying5 (by kernel_rfl) (hval 1 22 v1 rfl rfl) h1
  have hq1 : ∀ x ∈ l1, Value.int .u8 x = cB x.toNat := fun x hx => by have := u8_bd (hwf1 x hx); unfold cB; congr 1; omega
  have hRv1' := hRv1.map13 Int.toNat hq1
  have hRA1' : RowA W 1 v1 (l1.map Int.toNat).length ((l1.map Int.toNat).map cB) := by
    rw [List.length_map, List.map_map]
    have e : l1.map (cB ∘ Int.toNat) = l1.map (fun a => Value.int .u8 a) := List.map_congr_left fun x hx => (hq1 x hx).symm
    rw [e]; exact hRA1
  clear hA0 hval0
  simp only [List.append_nil, List.nil_append] at hW'
  have hlt0 : ∀ x ∈ p0, x.block < W.heap.size := fun x hx => by simpa using hW'.lt x (by simp [hx])
  have hlt1 : ∀ x ∈ p1, x.block < W.heap.size := fun x hx => by simpa using hW'.lt x (by simp [hx])
  have hwalk := deltaOwn_any v0 (l0.map Int.toNat) v1 (l1.map Int.toNat) W hRA0' hRv0' (by intro x hx; obtain ⟨y, hy, rfl⟩ := List.mem_map.1 hx; have := u8_bd (hwf0 y hy); omega) hRA1' hRv1' (by intro x hx; obtain ⟨y, hy, rfl⟩ := List.mem_map.1 hx; have := u8_bd (hwf1 y hy); omega)
  refine hwalk.mono fun e W' ⟨he, hb⟩ => ?_
  subst he
  exact ⟨_, rfl, _, _, _, [], _, [], hW', trodAll_mk1 (shut_bool Try.underlying4 true), trodAll_mk2 (Below.trod Try.laidOut (by kernel_rfl) (of_decide_eq_true (by kernel_rfl)) h0 hb hlt0) (Below.trod Try.laidOut (by kernel_rfl) (of_decide_eq_true (by kernel_rfl)) h1 hb hlt1), rfl, hb.frame _, fun h => by cases h⟩

theorem deltaOwn_holds : Rows.DeltaOwnSaid :=
  OpenClaim.holds_of_wide 3 Try.f3 rfl rfl rfl rfl rfl rfl rfl ⟨rfl, rfl, rfl, rfl, rfl⟩ rfl rfl rfl rfl rfl (by kernel_rfl) Try.func3 (by kernel_rfl)
    (of_decide_eq_true (by kernel_rfl)) (by unfold Func.isWrapper; first | (rw [if_pos (by decide +kernel)]; kernel_rfl) | (rw [if_neg (by decide +kernel)]; exact ⟨rfl, rfl⟩))
    (fun os started H enc _ => deltaOwn_lifted os started H enc)
#print axioms deltaOwn_holds
end Go.Proofs.Ytiachojhnbicaab
