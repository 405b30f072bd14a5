/-
  Whatever the row of numbers: the law CostLeast returns true, and what was handed in reads as before.
-/
import Derived.Test.YtnaamkkjledllaaPart8
import Derived.ProofKit
import Derived.Lib.SmallJoins
namespace Go.Proofs.Ytnaamkkjledllaa
open Go.ChangeShapes Go.WideShapes Go.ChangeAt Go.RowKit Go.Joins
set_option linter.unusedSimpArgs false
set_option linter.unusedVariables false

theorem Try.own : ownKnob Try.prog.godebug = none := by kernel_rfl
theorem bytesC : Try.prog.bytesOf 24 = 24 := by kernel_rfl
set_option maxRecDepth 100000 in
theorem costLeast_lifted (os : Os) (started : os.Started) (H : Type) (enc : TypeId × Value → H) :
    ReturnsInHanded {} Try.checked os 4 .any (Rows.costLeastSpec.pre6 enc Try.prog Try.f4 Rows.costLeastRow.domain false) (Rows.costLeastSpec.post enc Try.prog Try.f4 false true false false) := by
  refine returnsInHanded_of_change_sized (C := Try.checked) Try.own started (by kernel_rfl) Try.func4
    (ChangeSpec.witness6 (enc := enc) (C := Try.checked) false ⟨#[], #[.slice none 0 0], []⟩ 8 (by kernel_rfl) (by kernel_rfl) (by kernel_rfl) (by kernel_rfl)) ?_
  intro W base args ds gs before hval0 hW _ hsz _
  have hval : ∀ (j : Nat) t v, Try.f4.params[j]? = some t → args[j]? = some v → Value.okWide Try.prog W .any base t v := hval0
  have hW' := hW
  obtain ⟨p, q, hA0, hV, rfl, hfz, hnd⟩ := hW
  have hA : DataW.TrodAll enc Try.prog W 0 (fun _ => true) true Try.f4.params.toList args.toList ds p := hA0
  rw [Try.params4] at hA hval
  obtain ⟨v0, d0, rfl, rfl, h0⟩ := trodAll_one hA
  obtain ⟨rfl, rfl⟩ := trodVars_none hV
  obtain ⟨l0, hRA, hRv, hdl⟩ := open_costs (hval 0 38 v0 rfl rfl) h0
  have hlen : l0.length * 24 ≤ 140737488355328 := by
    rcases hdl with rfl | ⟨el, sp, rfl, hel⟩
    · simp
    · have hs := sized_slice (j := 0) (t := 38) (e := 24) hsz (by rfl) (by rfl) Try.underlying38
      rw [show Try.checked.prog.bytesOf 24 = 24 from bytesC] at hs
      have := reachBytes_lt
      have : (2 : Nat) ^ 47 = 140737488355328 := by decide
      have : el.length * 24 ≤ (el.length + sp.length) * 24 := Nat.mul_le_mul_right _ (by omega)
      rw [← hel]; omega
  clear hA0 hval0
  simp only [List.append_nil, List.nil_append] at hW'
  have hlt0 : ∀ x ∈ p, x.block < W.heap.size := fun x hx => by simpa using hW'.lt x (by simp [hx])
  have hwalk := costLeast_any v0 l0 W hlen hRA hRv
  refine hwalk.mono fun e W' ⟨he, hb⟩ => ?_
  subst he
  exact ⟨_, rfl, _, _, _, [], _, [], hW', trodAll_mk1 (shut_bool Try.underlying4 true), trodAll_mk1 (Below.trod Try.laidOut (by kernel_rfl) (of_decide_eq_true (by kernel_rfl)) h0 hb hlt0), rfl, hb.frame _, fun h => by cases h⟩

theorem costLeast_holds : Rows.CostLeastSaid :=
  OpenClaim.holds_of_wide 4 Try.f4 rfl rfl rfl rfl rfl rfl rfl ⟨rfl, rfl, rfl, rfl, rfl⟩ rfl rfl rfl rfl rfl (by kernel_rfl) Try.func4 (by kernel_rfl)
    (of_decide_eq_true (by kernel_rfl)) (by unfold Func.isWrapper; first | (rw [if_pos (by decide +kernel)]; kernel_rfl) | (rw [if_neg (by decide +kernel)]; exact ⟨rfl, rfl⟩))
    (fun os started H enc _ => costLeast_lifted os started H enc)
#print axioms costLeast_holds
end Go.Proofs.Ytnaamkkjledllaa
