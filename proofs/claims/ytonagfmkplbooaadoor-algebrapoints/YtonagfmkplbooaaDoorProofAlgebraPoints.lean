/-
  Of any two right tables of one family, any prefix and address made right: Over leads the address where the first leads it, else where the second does; Less where the first does and the second nowhere; Only where the table does, if the prefix has it; none tells an error (a tied card over math/bits.deBruijn64tab).
-/
import Derived.Test.YtonagfmkplbooaaDoorPart32
import Derived.ProofKit
import Derived.Lib.SmallJoins
import Derived.Test.YtonagfmkplbooaaDoorCards
import Derived.Test.YtonagfmkplbooaaDoorTie
import Derived.LaidMore
import Derived.OpenShut
import Derived.Stop.Joined
import Derived.Stop.LaidErr
import Derived.SevenTiedAt
namespace Go.Proofs.YtonagfmkplbooaaDoor
open Go.ChangeShapes Go.WideShapes Go.ChangeAt Go.RowKit Go.Joins
set_option linter.unusedSimpArgs false
set_option linter.unusedVariables false

theorem Tryd.own : ownKnob Tryd.prog.godebug = none := by kernel_rfl
theorem u64_bd {a : Int} (h : (Lit.int .u64 a).wf = true) : 0 ≤ a ∧ a < 18446744073709551616 := by
  simp [Lit.wf, IntKind.min, IntKind.max, IntKind.signed, IntKind.bits] at h; omega
theorem i64_bd {a : Int} (h : (Lit.int .i64 a).wf = true) : -9223372036854775808 ≤ a ∧ a ≤ 9223372036854775807 := by
  simp [Lit.wf, IntKind.min, IntKind.max, IntKind.signed, IntKind.bits] at h; omega

/-- The door's own heap meets the condition. -/
theorem door_met (os : Os) (args : Array Value) : laidMetH Tryd.prog Rows.algebraPointsRow.laid ((World.doorLaid Tryd.prog 4000 os).forCall (fun _ _ => 0) ⟨#[], args, []⟩).memory :=
  laidMetH_of_parts3 (fuel := 8) (laidMet_of_run' 8 (by kernel_rfl) (by kernel_rfl)) (by kernel_rfl) (by kernel_rfl)

theorem laid_deb {H : Type} : (Rows.laid_math_bits_deBruijn64tab : DataW H) = Lib.tabData .u8 (Lib.deBruijn64tab.map fun n => ((n : Nat) : Int)) := rfl
theorem tab_len : Lib.deBruijn64tab.length = 64 := by decide
theorem tab_of_laid {W : World} (h : laidMetH Tryd.prog Rows.algebraPointsRow.laid W) : Tab W := by
  rw [MakeChecks.laidMetH_plain _ _ _ (by kernel_rfl)] at h
  have h2 := (show laidMet Tryd.prog [(_, Rows.laid_math_bits_deBruijn64tab)] W from h)
  rw [laid_deb] at h2
  have hT := Lib.tabIs_of_head (g := 0) (t := 122) (e := 5) (n := 64) (by kernel_rfl) (by kernel_rfl) Tryd.underlying122 Tryd.underlying5 (by kernel_rfl) (by kernel_rfl) h2
  intro j hj
  have hc := World.var?_cell (g := 0) (by kernel_rfl) hT j
  rw [hc]
  have hl : j < Lib.deBruijn64tab.length := by rw [tab_len]; exact hj
  simp [List.getD, hl]

set_option maxRecDepth 100000 in
theorem algebraPoints_lifted (os : Os) (started : os.Started) (H : Type) (enc : TypeId × Value → H) :
    ReturnsInHanded {} Tryd.checked os 3 .any (fun w args => (Rows.algebraPointsSpec.pre enc Tryd.prog Tryd.f3 [] false w args ∧ laidMetH Tryd.prog Rows.algebraPointsRow.laid w) ∧ sizedMet enc Tryd.prog Tryd.f3 (OpenSpec.ofChange Rows.algebraPointsSpec) false w args)
      (Rows.algebraPointsSpec.post enc Tryd.prog Tryd.f3 false true false false) := by
  refine returnsInHanded_of_change_and (C := Tryd.checked) (X := fun w _ => laidMetH Tryd.prog Rows.algebraPointsRow.laid w) (fun _ _ _ hh h => h.of_heap hh) Tryd.own started (by kernel_rfl) Tryd.func3
    (ChangeSpec.witness_shaped (enc := enc) (C := Tryd.checked) (os := os) (X := fun w _ => laidMetH Tryd.prog Rows.algebraPointsRow.laid w) false (World.doorLaid Tryd.prog 4000 os) #[.agg #[.int .i64 0, .slice none 0 0], .agg #[.int .i64 0, .slice none 0 0], .agg #[.int .u64 0, .int .u64 0, .int .i64 0], .agg #[.int .u64 0, .int .u64 0]] 8 rfl (World.shaped_of_RefB (by kernel_rfl) (by kernel_rfl)) (by kernel_rfl) (by kernel_rfl) (by kernel_rfl) (door_met os _)) ?_
  intro W base args ds gs before hval0 hW _ _ hL _
  have hval : ∀ (j : Nat) t v, Tryd.f3.params[j]? = some t → args[j]? = some v → Value.okWide Tryd.prog W .any base t v := hval0
  have hW' := hW
  obtain ⟨p, q, hA0, hV, rfl, hfz, hnd⟩ := hW
  have hA : DataW.TrodAll enc Tryd.prog W 0 (fun _ => true) true Tryd.f3.params.toList args.toList ds p := hA0
  rw [Tryd.params3] at hA hval
  obtain ⟨v0, v1, v2, v3, d0, d1, d2, d3, p0, p1, p2, p3, rfl, rfl, rfl, h0, h1, h2, h3⟩ := trodAll_four hA
  obtain ⟨rfl, rfl⟩ := trodVars_none hV
  obtain ⟨f0, u0, l0, rfl, hRv0⟩ := open_tab (hval 0 24 v0 rfl rfl) h0
  obtain ⟨f1, u1, l1, rfl, hRv1⟩ := open_tab (hval 1 24 v1 rfl rfl) h1
  obtain ⟨a2, b2, n2, rfl, rfl, rfl, wa2, wb2, wn2⟩ := open_pfx (hval 2 29 v2 rfl rfl) h2
  obtain ⟨c30, c31, y30, y31, m3, rfl, rfl, rfl, hy30, hy31⟩ := open_agg2 Tryd.underlying27 (by kernel_rfl) Tryd.cellsW (hval 3 27 v3 rfl rfl) h3
  obtain ⟨a3, e30, rfl, wa3⟩ := DataW.trod_int Tryd.underlying25 hy30
  obtain ⟨b3, e31, rfl, wb3⟩ := DataW.trod_int Tryd.underlying25 hy31
  simp at e30 e31
  subst e30 e31
  clear hA0 hval0
  simp only [List.append_nil, List.nil_append] at hW'
  have hlt0 : ∀ x ∈ p0, x.block < W.heap.size := fun x hx => by simpa using hW'.lt x (by simp [hx])
  have hlt1 : ∀ x ∈ p1, x.block < W.heap.size := fun x hx => by simpa using hW'.lt x (by simp [hx])
  have s3 : ∀ (W' : World) (sp : Nat → Bool), DataW.Trod enc Tryd.prog W' 0 sp true 27 (.agg #[.int .u64 a3, .int .u64 b3]) (.agg [.lit (.int .u64 a3), .lit (.int .u64 b3)]) [] := fun W' sp =>
    shut_agg2 (y0 := (.lit (.int .u64 a3), [])) (y1 := (.lit (.int .u64 b3), [])) Tryd.underlying27 (by kernel_rfl) Tryd.cellsW ⟨1, by simp [DataW.trod, Tryd.underlying25, wa3]⟩ ⟨1, by simp [DataW.trod, Tryd.underlying25, wb3]⟩
  have hwalk := algebraPoints_any f0 u0 l0 f1 u1 l1 (mkW a2 b2) n2 (mkW a3 b3) W (tab_of_laid hL) hRv0 hRv1
  rw [hI_mk a2 b2 (u64_bd wa2).1 (u64_bd wa2).2, lI_mk a2 b2 (u64_bd wb2).1 (u64_bd wb2).2, hI_mk a3 b3 (u64_bd wa3).1 (u64_bd wa3).2, lI_mk a3 b3 (u64_bd wb3).1 (u64_bd wb3).2] at hwalk
  refine hwalk.mono fun e W' ⟨he, hb⟩ => ?_
  subst he
  exact ⟨_, rfl, _, _, _, [], _, [], hW', trodAll_mk1 (shut_bool Tryd.underlying4 true), trodAll_mk4 (Below.trod Tryd.laidOut (by kernel_rfl) (of_decide_eq_true (by kernel_rfl)) h0 hb hlt0) (Below.trod Tryd.laidOut (by kernel_rfl) (of_decide_eq_true (by kernel_rfl)) h1 hb hlt1) (shut_pfx wa2 wb2 wn2) (s3 _ _), rfl, hb.frame _, fun h => by cases h⟩

theorem algebraPoints_row : Rows.AlgebraPointsSaid :=
  OpenClaim.holds_of_wide 3 Tryd.f3 rfl rfl rfl rfl rfl rfl rfl ⟨rfl, rfl, rfl, rfl, rfl⟩ rfl rfl rfl rfl rfl (by kernel_rfl) Tryd.func3 (by kernel_rfl)
    (of_decide_eq_true (by kernel_rfl)) (by unfold Func.isWrapper; first | (rw [if_pos (by decide +kernel)]; kernel_rfl) | (rw [if_neg (by decide +kernel)]; exact ⟨rfl, rfl⟩))
    (fun os started H enc _ => algebraPoints_lifted os started H enc)

theorem algebraPoints_holds : Rows.AlgebraPointsCardSaid :=
  Claim7.holds_tied_plain_at .later [] [.data] true Rows.algebraPointsCard.stood.harness false
    algebraPoints_row (fun _ h => by cases h) (by kernel_rfl) (fun _ h => by cases h) algebraPoints_row_tie rfl ⟨rfl, rfl⟩ (by kernel_rfl) rfl
    (fun f fn hf hfn => by
      obtain rfl : f = 3 := Option.some.inj ((show Tryd.prog.funcNamed Rows.algebraPointsRow.func = some 3 by kernel_rfl).symm.trans hf) |>.symm
      obtain rfl : fn = Tryd.f3 := (Option.some.inj (Tryd.func3.symm.trans hfn)).symm
      exact ⟨by kernel_rfl, fun j t ht => by
        rw [Tryd.params3] at ht
        have hm : t ∈ [24, 24, 29, 27] := by simpa using Array.mem_of_getElem? ht
        have hall : ([24, 24, 29, 27].all fun u => !Tryd.prog.wantsStandIn u) = true := by kernel_rfl
        exact (show Tryd.prog.wantsStandIn t = false by simpa using List.all_eq_true.1 hall t hm)⟩)
    (by kernel_rfl)
#print axioms algebraPoints_holds
end Go.Proofs.YtonagfmkplbooaaDoor
