/-
  Code that is taken answers every address without an error, in no more steps than its depth asks, what its tree answers (P1804); of code that is not, the depth is 0.
-/
import Derived.Test.YtjgpbahglkaijaaPart32
import Derived.ProofKit
import Derived.Lib.SmallJoins
namespace Go.Proofs.Ytjgpbahglkaijaa
open Go.ChangeShapes Go.WideShapes Go.ChangeAt Go.RowKit Go.Joins
set_option linter.unusedSimpArgs false
set_option linter.unusedVariables false

theorem Try.own : ownKnob Try.prog.godebug = none := by kernel_rfl
theorem u8_bd {a : Int} (h : (Lit.int .u8 a).wf = true) : 0 ≤ a ∧ a < 256 := by
  simp [Lit.wf, IntKind.min, IntKind.max, IntKind.signed, IntKind.bits] at h; omega
set_option maxRecDepth 100000 in
theorem verifyRuns_lifted (os : Os) (started : os.Started) (H : Type) (enc : TypeId × Value → H) :
    ReturnsInHanded {} Try.checked os 6 .any (Rows.verifyRunsSpec.pre6 enc Try.prog Try.f6 Rows.verifyRunsRow.domain false) (Rows.verifyRunsSpec.post enc Try.prog Try.f6 false true false false) := by
  refine returnsInHanded_of_change (C := Try.checked) Try.own started (by kernel_rfl) Try.func6
    (ChangeSpec.witness6 (enc := enc) (C := Try.checked) false ⟨#[], #[.int .i64 0, .slice none 0 0, .agg #[.int .u64 0, .int .u64 0]], []⟩ 8 (by kernel_rfl) (by kernel_rfl) (by kernel_rfl) (by kernel_rfl)) ?_
  intro W base args ds gs before hval0 hW _ _
  have hval : ∀ (j : Nat) t v, Try.f6.params[j]? = some t → args[j]? = some v → Value.okWide Try.prog W .any base t v := hval0
  have hW' := hW
  obtain ⟨p, q, hA0, hV, rfl, hfz, hnd⟩ := hW
  have hA : DataW.TrodAll enc Try.prog W 0 (fun _ => true) true Try.f6.params.toList args.toList ds p := hA0
  rw [Try.params6] at hA hval
  obtain ⟨v0, v1, v2, d0, d1, d2, p0, p1, p2, rfl, rfl, rfl, h0, h1, h2⟩ := trodAll_three hA
  obtain ⟨rfl, rfl⟩ := trodVars_none hV
  obtain ⟨a0, rfl, rfl, rfl, wa0⟩ := open_int Try.underlying3 (hval 0 3 v0 rfl rfl) h0
  obtain ⟨l1, hRA1, hRv1, hwf1, hdl1⟩ := open_ints13 Try.underlying27 Try.underlying5 (by kernel_rfl) (hval 1 27 v1 rfl rfl) h1
  have hq1 : ∀ x ∈ l1, Value.int .u8 x = cB x.toNat := fun x hx => by have := u8_bd (hwf1 x hx); unfold cB; congr 1; omega
  have hRv1' := hRv1.map13 Int.toNat hq1
  have hRA1' : RowA W 1 v1 (l1.map Int.toNat).length ((l1.map Int.toNat).map cB) := by
    rw [List.length_map, List.map_map]
    have e : l1.map (cB ∘ Int.toNat) = l1.map (fun a => Value.int .u8 a) := List.map_congr_left fun x hx => (hq1 x hx).symm
    rw [e]; exact hRA1
  obtain ⟨c20, c21, y20, y21, m2, rfl, rfl, rfl, hy20, hy21⟩ := open_agg2 Try.underlying47 (by kernel_rfl) Try.cellsW (hval 2 47 v2 rfl rfl) h2
  obtain ⟨a2, e20, rfl, wa2⟩ := DataW.trod_int Try.underlying45 hy20
  obtain ⟨b2, e21, rfl, wb2⟩ := DataW.trod_int Try.underlying45 hy21
  simp at e20 e21
  subst e20 e21
  clear hA0 hval0
  simp only [List.append_nil, List.nil_append] at hW'
  have hlt1 : ∀ x ∈ p1, x.block < W.heap.size := fun x hx => by simpa using hW'.lt x (by simp [hx])
  have s2 : ∀ (W' : World) (sp : Nat → Bool), DataW.Trod enc Try.prog W' 0 sp true 47 (.agg #[.int .u64 a2, .int .u64 b2]) (.agg [.lit (.int .u64 a2), .lit (.int .u64 b2)]) [] := fun W' sp =>
    shut_agg2 (y0 := (.lit (.int .u64 a2), [])) (y1 := (.lit (.int .u64 b2), [])) Try.underlying47 (by kernel_rfl) Try.cellsW ⟨1, by simp [DataW.trod, Try.underlying45, wa2]⟩ ⟨1, by simp [DataW.trod, Try.underlying45, wb2]⟩
  have hwalk := verifyRuns_any a0 v1 (l1.map Int.toNat) (mkW a2 b2) W (i64_bd14 wa0).1 (i64_bd14 wa0).2 hRA1' hRv1' (by intro x hx; obtain ⟨y, hy, rfl⟩ := List.mem_map.1 hx; have := u8_bd (hwf1 y hy); omega)
  rw [hI_mk a2 b2 (u64_bd19 wa2).1 (u64_bd19 wa2).2, lI_mk a2 b2 (u64_bd19 wb2).1 (u64_bd19 wb2).2] at hwalk
  refine hwalk.mono fun e W' ⟨he, hb⟩ => ?_
  subst he
  exact ⟨_, rfl, _, _, _, [], _, [], hW', trodAll_mk1 (shut_bool Try.underlying4 true), trodAll_mk3 (shut_int Try.underlying3 wa0) (Below.trod Try.laidOut (by kernel_rfl) (of_decide_eq_true (by kernel_rfl)) h1 hb hlt1) (s2 _ _), rfl, hb.frame _, fun h => by cases h⟩

theorem verifyRuns_holds : Rows.VerifyRunsSaid :=
  OpenClaim.holds_of_wide 6 Try.f6 rfl rfl rfl rfl rfl rfl rfl ⟨rfl, rfl, rfl, rfl, rfl⟩ rfl rfl rfl rfl rfl (by kernel_rfl) Try.func6 (by kernel_rfl)
    (of_decide_eq_true (by kernel_rfl)) (by unfold Func.isWrapper; first | (rw [if_pos (by decide +kernel)]; kernel_rfl) | (rw [if_neg (by decide +kernel)]; exact ⟨rfl, rfl⟩))
    (fun os started H enc _ => verifyRuns_lifted os started H enc)
#print axioms verifyRuns_holds
end Go.Proofs.Ytjgpbahglkaijaa
