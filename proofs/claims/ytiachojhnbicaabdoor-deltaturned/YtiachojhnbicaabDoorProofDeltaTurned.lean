/-
  DeltaTurned: what a delta tells when its bytes are turned.
-/
import Derived.Test.YtiachojhnbicaabDoorPart17
import Derived.Test.YtiachojhnbicaabDoorPart18
import Derived.ProofKit
import Derived.Lib.SmallJoins
import Derived.Test.YtiachojhnbicaabDoorCards
import Derived.Test.YtiachojhnbicaabDoorTie
import Derived.LaidMore
import Derived.OpenShut
import Derived.Stop.Joined
import Derived.Stop.LaidErr
import Derived.SevenTiedAt
namespace Go.Proofs.YtiachojhnbicaabDoor
open Go.ChangeShapes Go.WideShapes Go.ChangeAt Go.RowKit Go.Joins
set_option linter.unusedSimpArgs false
set_option linter.unusedVariables false

theorem Tryd.own : ownKnob Tryd.prog.godebug = none := by kernel_rfl
theorem u32_bd {a : Int} (h : (Lit.int .u32 a).wf = true) : 0 ≤ a ∧ a < 4294967296 := by
  simp [Lit.wf, IntKind.min, IntKind.max, IntKind.signed, IntKind.bits] at h; omega
theorem u8_bd {a : Int} (h : (Lit.int .u8 a).wf = true) : 0 ≤ a ∧ a < 256 := by
  simp [Lit.wf, IntKind.min, IntKind.max, IntKind.signed, IntKind.bits] at h; omega
theorem i64_bd {a : Int} (h : (Lit.int .i64 a).wf = true) : -9223372036854775808 ≤ a ∧ a ≤ 9223372036854775807 := by
  simp [Lit.wf, IntKind.min, IntKind.max, IntKind.signed, IntKind.bits] at h; omega

/-- The door's own heap meets the condition. -/
theorem door_met (os : Os) (args : Array Value) : laidMetH Tryd.prog Rows.deltaTurnedRow.laid ((World.doorLaid Tryd.prog 4000 os).forCall (fun _ _ => 0) ⟨#[], args, []⟩).memory :=
  laidMetH_of_parts3 (fuel := 8) (laidMet_of_run' 8 (by kernel_rfl) (by kernel_rfl)) (by kernel_rfl) (by kernel_rfl)
def ofHalfL : List Int := [0, 274646895, 549293790, 820201905, 1098587580, 1361435347, 1640403810, 1905808397, 2197175160, 2460548119, 2722870694, 2987750089, 3280807620, 3553878443, 3811616794, 4084100981]
theorem laid_half {H : Type} : (Rows.laid_turnpike_wire_ofHalf : DataW H) = Lib.tabData .u32 ofHalfL := rfl
theorem half_at : ∀ j : Fin 16, ofHalfL[j.val]? = some (((cT j.val).toNat : Nat) : Int) := by decide +kernel
theorem hf_of_laid {W : World} (h : laidMetH Tryd.prog Rows.deltaTurnedRow.laid W) : Hf W := by
  rw [MakeChecks.laidMetH_plain _ _ _ (by kernel_rfl)] at h
  have h2 := (show laidMet Tryd.prog [(_, Rows.laid_turnpike_wire_ofHalf)] W from h)
  rw [laid_half] at h2
  have hT := Lib.tabIs_of_head (g := 0) (t := 66) (e := 31) (n := 16) (by kernel_rfl) (by kernel_rfl) Tryd.underlying66 Tryd.underlying31 (by kernel_rfl) (by kernel_rfl) h2
  intro j hj
  have hc := World.var?_cell (g := 0) (by kernel_rfl) hT j
  rw [hc]
  have := half_at ⟨j, hj⟩
  simp only at this
  rw [uI_eq]
  simp [List.getElem?_map, this]

set_option maxRecDepth 100000 in
theorem deltaTurned_lifted (os : Os) (started : os.Started) (H : Type) (enc : TypeId × Value → H) :
    ReturnsInHanded {} Tryd.checked os 3 .any (fun w args => (Rows.deltaTurnedSpec.pre enc Tryd.prog Tryd.f3 [] false w args ∧ laidMetH Tryd.prog Rows.deltaTurnedRow.laid w) ∧ sizedMet enc Tryd.prog Tryd.f3 (OpenSpec.ofChange Rows.deltaTurnedSpec) false w args)
      (Rows.deltaTurnedSpec.post enc Tryd.prog Tryd.f3 false true false false) := by
  refine returnsInHanded_of_change_and (C := Tryd.checked) (X := fun w _ => laidMetH Tryd.prog Rows.deltaTurnedRow.laid w) (fun _ _ _ hh h => h.of_heap hh) Tryd.own started (by kernel_rfl) Tryd.func3
    (ChangeSpec.witness_shaped (enc := enc) (C := Tryd.checked) (os := os) (X := fun w _ => laidMetH Tryd.prog Rows.deltaTurnedRow.laid w) false (World.doorLaid Tryd.prog 4000 os) #[.slice none 0 0, .slice none 0 0, .int .i64 0, .int .u8 0, .bool false] 8 rfl (World.shaped_of_RefB (by kernel_rfl) (by kernel_rfl)) (by kernel_rfl) (by kernel_rfl) (by kernel_rfl) (door_met os _)) ?_
  intro W base args ds gs before hval0 hW _ hsz hL _
  have hval : ∀ (j : Nat) t v, Tryd.f3.params[j]? = some t → args[j]? = some v → Value.okWide Tryd.prog W .any base t v := hval0
  have hW' := hW
  obtain ⟨p, q, hA0, hV, rfl, hfz, hnd⟩ := hW
  have hA : DataW.TrodAll enc Tryd.prog W 0 (fun _ => true) true Tryd.f3.params.toList args.toList ds p := hA0
  rw [Tryd.params3] at hA hval
  obtain ⟨v0, v1, v2, v3, v4, d0, d1, d2, d3, d4, p0, p1, p2, p3, p4, rfl, rfl, rfl, h0, h1, h2, h3, h4⟩ := tr5 hA
  obtain ⟨rfl, rfl⟩ := trodVars_none hV
  obtain ⟨l0, hRA0, hRv0, hwf0, hdl0⟩ := open_ints13 Tryd.underlying22 Tryd.underlying5 (by kernel_rfl) (hval 0 22 v0 rfl rfl) h0
  have hlen0 : l0.length * 1 ≤ 140737488351232 := by
    rcases hdl0 with rfl | ⟨el, sp, rfl, hel⟩
    · simp
    · have hs := sized_slice (j := 0) (t := 22) (e := 5) hsz (by rfl) (by rfl) Tryd.underlying22
      rw [show Tryd.checked.prog.bytesOf 5 = 1 from by kernel_rfl] at hs
      have := reach13
      have : el.length * 1 ≤ (el.length + sp.length) * 1 := Nat.mul_le_mul_right _ (by omega)
      rw [← hel]; omega
  have hq0 : ∀ x ∈ l0, Value.int .u8 x = cB x.toNat := fun x hx => by have := u8_bd (hwf0 x hx); unfold cB; congr 1; omega
  have hRv0' := hRv0.map13 Int.toNat hq0
  have hRA0' : RowA W 1 v0 (l0.map Int.toNat).length ((l0.map Int.toNat).map cB) := by
    rw [List.length_map, List.map_map]
    have e : l0.map (cB ∘ Int.toNat) = l0.map (fun a => Value.int .u8 a) := List.map_congr_left fun x hx => (hq0 x hx).symm
    rw [e]; exact hRA0
  obtain ⟨l1, hRA1, hRv1, hwf1, hdl1⟩ := open_ints13 Tryd.underlying22 Tryd.underlying5 (by kernel_rfl) (hval 1 22 v1 rfl rfl) h1
  have hlen1 : l1.length * 1 ≤ 140737488351232 := by
    rcases hdl1 with rfl | ⟨el, sp, rfl, hel⟩
    · simp
    · have hs := sized_slice (j := 1) (t := 22) (e := 5) hsz (by rfl) (by rfl) Tryd.underlying22
      rw [show Tryd.checked.prog.bytesOf 5 = 1 from by kernel_rfl] at hs
      have := reach13
      have : el.length * 1 ≤ (el.length + sp.length) * 1 := Nat.mul_le_mul_right _ (by omega)
      rw [← hel]; omega
  have hq1 : ∀ x ∈ l1, Value.int .u8 x = cB x.toNat := fun x hx => by have := u8_bd (hwf1 x hx); unfold cB; congr 1; omega
  have hRv1' := hRv1.map13 Int.toNat hq1
  have hRA1' : RowA W 1 v1 (l1.map Int.toNat).length ((l1.map Int.toNat).map cB) := by
    rw [List.length_map, List.map_map]
    have e : l1.map (cB ∘ Int.toNat) = l1.map (fun a => Value.int .u8 a) := List.map_congr_left fun x hx => (hq1 x hx).symm
    rw [e]; exact hRA1
  obtain ⟨a2, rfl, rfl, rfl, wa2⟩ := open_int Tryd.underlying3 (hval 2 3 v2 rfl rfl) h2
  obtain ⟨a3, rfl, rfl, rfl, wa3⟩ := open_int Tryd.underlying5 (hval 3 5 v3 rfl rfl) h3
  obtain ⟨y3, hy3⟩ : ∃ n : Nat, a3 = (n : Int) := ⟨a3.toNat, by have := u8_bd wa3; omega⟩
  subst hy3
  obtain ⟨b4, rfl, rfl, rfl⟩ := open_bool Tryd.underlying4 (hval 4 4 v4 rfl rfl) h4
  clear hA0 hval0
  simp only [List.append_nil, List.nil_append] at hW'
  have hlt0 : ∀ x ∈ p0, x.block < W.heap.size := fun x hx => by simpa using hW'.lt x (by simp [hx])
  have hlt1 : ∀ x ∈ p1, x.block < W.heap.size := fun x hx => by simpa using hW'.lt x (by simp [hx])
  have hwalk := deltaTurned_any v0 (l0.map Int.toNat) v1 (l1.map Int.toNat) a2 y3 b4 W hRA0' hRv0' (by rw [List.length_map]; exact hlen0) (by intro x hx; obtain ⟨y, hy, rfl⟩ := List.mem_map.1 hx; have := u8_bd (hwf0 y hy); omega) hRA1' hRv1' (by rw [List.length_map]; exact hlen1) (by intro x hx; obtain ⟨y, hy, rfl⟩ := List.mem_map.1 hx; have := u8_bd (hwf1 y hy); omega) (i64_bd wa2).1 (i64_bd wa2).2 (by have := u8_bd wa3; omega) (hf_of_laid hL)
  refine hwalk.mono fun e W' ⟨he, hb⟩ => ?_
  subst he
  exact ⟨_, rfl, _, _, _, [], _, [], hW', trodAll_mk1 (shut_bool Tryd.underlying4 true), mk5 (Below.trod Tryd.laidOut (by kernel_rfl) (of_decide_eq_true (by kernel_rfl)) h0 hb hlt0) (Below.trod Tryd.laidOut (by kernel_rfl) (of_decide_eq_true (by kernel_rfl)) h1 hb hlt1) (shut_int Tryd.underlying3 wa2) (shut_int Tryd.underlying5 wa3) (shut_bool Tryd.underlying4 b4), rfl, hb.frame _, fun h => by cases h⟩

theorem deltaTurned_row : Rows.DeltaTurnedSaid :=
  OpenClaim.holds_of_wide 3 Tryd.f3 rfl rfl rfl rfl rfl rfl rfl ⟨rfl, rfl, rfl, rfl, rfl⟩ rfl rfl rfl rfl rfl (by kernel_rfl) Tryd.func3 (by kernel_rfl)
    (of_decide_eq_true (by kernel_rfl)) (by unfold Func.isWrapper; first | (rw [if_pos (by decide +kernel)]; kernel_rfl) | (rw [if_neg (by decide +kernel)]; exact ⟨rfl, rfl⟩))
    (fun os started H enc _ => deltaTurned_lifted os started H enc)

theorem deltaTurned_holds : Rows.DeltaTurnedCardSaid :=
  Claim7.holds_tied_plain_at .later [] [.data] true Rows.deltaTurnedCard.stood.harness true
    deltaTurned_row (fun _ h => by cases h) (by kernel_rfl) (fun _ h => by cases h) deltaTurned_row_tie rfl ⟨rfl, rfl⟩ (by kernel_rfl) rfl
    (fun f fn hf hfn => by
      obtain rfl : f = 3 := Option.some.inj ((show Tryd.prog.funcNamed Rows.deltaTurnedRow.func = some 3 by kernel_rfl).symm.trans hf) |>.symm
      obtain rfl : fn = Tryd.f3 := (Option.some.inj (Tryd.func3.symm.trans hfn)).symm
      exact ⟨by kernel_rfl, fun j t ht => by
        rw [Tryd.params3] at ht
        have hm : t ∈ [22, 22, 3, 5, 4] := by simpa using Array.mem_of_getElem? ht
        have hall : ([22, 22, 3, 5, 4].all fun u => !Tryd.prog.wantsStandIn u) = true := by kernel_rfl
        exact (show Tryd.prog.wantsStandIn t = false by simpa using List.all_eq_true.1 hall t hm)⟩)
    (by kernel_rfl)
#print axioms deltaTurned_holds
end Go.Proofs.YtiachojhnbicaabDoor
