/-
  An image is opened as what it was packed of, wherever it stands, and it is the first that is found, if none begins ahead.
-/
import Derived.Test.YtgbhbooogofmbaaDoorPart12
import Derived.ProofKit
import Derived.Lib.SmallJoins
import Derived.Test.YtgbhbooogofmbaaDoorCards
import Derived.Test.YtgbhbooogofmbaaDoorTie
import Derived.LaidMore
import Derived.OpenShut
import Derived.Stop.Joined
import Derived.Stop.LaidErr
import Derived.SevenTiedAt
namespace Go.Proofs.YtgbhbooogofmbaaDoor
open Go.ChangeShapes Go.WideShapes Go.ChangeAt Go.RowKit Go.Joins
set_option linter.unusedSimpArgs false
set_option linter.unusedVariables false

theorem Tryd.own : ownKnob Tryd.prog.godebug = none := by kernel_rfl
theorem u32_bd {a : Int} (h : (Lit.int .u32 a).wf = true) : 0 ≤ a ∧ a < 4294967296 := by
  simp [Lit.wf, IntKind.min, IntKind.max, IntKind.signed, IntKind.bits] at h; omega
theorem u8_bd {a : Int} (h : (Lit.int .u8 a).wf = true) : 0 ≤ a ∧ a < 256 := by
  simp [Lit.wf, IntKind.min, IntKind.max, IntKind.signed, IntKind.bits] at h; omega
theorem i64_bd {a : Int} (h : (Lit.int .i64 a).wf = true) : -9223372036854775808 ≤ a ∧ a ≤ 9223372036854775807 := by
  simp [Lit.wf, IntKind.min, IntKind.max, IntKind.signed, IntKind.bits] at h; omega

/-- The door's own heap meets the condition. -/
theorem door_met (os : Os) (args : Array Value) : laidMetH Tryd.prog Rows.imageBackRow.laid ((World.doorLaid Tryd.prog 4000 os).forCall (fun _ _ => 0) ⟨#[], args, []⟩).memory :=
  laidMetH_of_parts3 (fuel := 8) (laidMet_of_run' 8 (by kernel_rfl) (by kernel_rfl)) (by kernel_rfl) (by kernel_rfl)
def ofHalfL : List Int := [0, 274646895, 549293790, 820201905, 1098587580, 1361435347, 1640403810, 1905808397, 2197175160, 2460548119, 2722870694, 2987750089, 3280807620, 3553878443, 3811616794, 4084100981]
theorem laid_half {H : Type} : (Rows.laid_turnpike_wire_ofHalf : DataW H) = Lib.tabData .u32 ofHalfL := rfl
theorem half_at : ∀ j : Fin 16, ofHalfL[j.val]? = some (((cT j.val).toNat : Nat) : Int) := by decide +kernel
theorem hf_of_laid {W : World} (h : laidMetH Tryd.prog Rows.imageBackRow.laid W) : Hf W := by
  rw [MakeChecks.laidMetH_plain _ _ _ (by kernel_rfl)] at h
  have h2 := (show laidMet Tryd.prog [(_, Rows.laid_turnpike_wire_ofHalf)] W from h)
  rw [laid_half] at h2
  have hT := Lib.tabIs_of_head (g := 0) (t := 83) (e := 50) (n := 16) (by kernel_rfl) (by kernel_rfl) Tryd.underlying83 Tryd.underlying50 (by kernel_rfl) (by kernel_rfl) h2
  intro j hj
  have hc := World.var?_cell (g := 0) (by kernel_rfl) hT j
  rw [hc]
  have := half_at ⟨j, hj⟩
  simp only at this
  rw [uI_eq]
  simp [List.getElem?_map, this]

set_option maxRecDepth 100000 in
theorem imageBack_lifted (os : Os) (started : os.Started) (H : Type) (enc : TypeId × Value → H) :
    ReturnsInHanded {} Tryd.checked os 6 .any (fun w args => (Rows.imageBackSpec.pre enc Tryd.prog Tryd.f6 [] false w args ∧ laidMetH Tryd.prog Rows.imageBackRow.laid w) ∧ sizedMet enc Tryd.prog Tryd.f6 (OpenSpec.ofChange Rows.imageBackSpec) false w args)
      (Rows.imageBackSpec.post enc Tryd.prog Tryd.f6 false true false false) := by
  refine returnsInHanded_of_change_and (C := Tryd.checked) (X := fun w _ => laidMetH Tryd.prog Rows.imageBackRow.laid w) (fun _ _ _ hh h => h.of_heap hh) Tryd.own started (by kernel_rfl) Tryd.func6
    (ChangeSpec.witness_shaped (enc := enc) (C := Tryd.checked) (os := os) (X := fun w _ => laidMetH Tryd.prog Rows.imageBackRow.laid w) false (World.doorLaid Tryd.prog 4000 os) #[.bool false, .int .i64 0, .slice none 0 0, .slice none 0 0, .slice none 0 0] 8 rfl (World.shaped_of_RefB (by kernel_rfl) (by kernel_rfl)) (by kernel_rfl) (by kernel_rfl) (by kernel_rfl) (door_met os _)) ?_
  intro W base args ds gs before hval0 hW _ hsz hL _
  have hval : ∀ (j : Nat) t v, Tryd.f6.params[j]? = some t → args[j]? = some v → Value.okWide Tryd.prog W .any base t v := hval0
  have hW' := hW
  obtain ⟨p, q, hA0, hV, rfl, hfz, hnd⟩ := hW
  have hA : DataW.TrodAll enc Tryd.prog W 0 (fun _ => true) true Tryd.f6.params.toList args.toList ds p := hA0
  rw [Tryd.params6] at hA hval
  obtain ⟨v0, v1, v2, v3, v4, d0, d1, d2, d3, d4, p0, p1, p2, p3, p4, rfl, rfl, rfl, h0, h1, h2, h3, h4⟩ := tr5 hA
  obtain ⟨rfl, rfl⟩ := trodVars_none hV
  obtain ⟨a0, rfl, rfl, rfl⟩ := open_bool Tryd.underlying4 (hval 0 4 v0 rfl rfl) h0
  obtain ⟨a1, rfl, rfl, rfl, wa1⟩ := open_int Tryd.underlying3 (hval 1 3 v1 rfl rfl) h1
  obtain ⟨l2, hRA2, hRv2, hwf2, hdl2⟩ := open_ints13 Tryd.underlying24 Tryd.underlying5 (by kernel_rfl) (hval 2 24 v2 rfl rfl) h2
  have hlen2 : l2.length * 1 ≤ 140737488351232 := by
    rcases hdl2 with rfl | ⟨el, sp, rfl, hel⟩
    · simp
    · have hs := sized_slice (j := 2) (t := 24) (e := 5) hsz (by rfl) (by rfl) Tryd.underlying24
      rw [show Tryd.checked.prog.bytesOf 5 = 1 from by kernel_rfl] at hs
      have := reach13
      have : el.length * 1 ≤ (el.length + sp.length) * 1 := Nat.mul_le_mul_right _ (by omega)
      rw [← hel]; omega
  have hq2 : ∀ x ∈ l2, Value.int .u8 x = cB x.toNat := fun x hx => by have := u8_bd (hwf2 x hx); unfold cB; congr 1; omega
  have hRv2' := hRv2.map13 Int.toNat hq2
  have hRA2' : RowA W 1 v2 (l2.map Int.toNat).length ((l2.map Int.toNat).map cB) := by
    rw [List.length_map, List.map_map]
    have e : l2.map (cB ∘ Int.toNat) = l2.map (fun a => Value.int .u8 a) := List.map_congr_left fun x hx => (hq2 x hx).symm
    rw [e]; exact hRA2
  obtain ⟨l3, hRA3, hRv3, hwf3, hdl3⟩ := open_ints13 Tryd.underlying24 Tryd.underlying5 (by kernel_rfl) (hval 3 24 v3 rfl rfl) h3
  have hlen3 : l3.length * 1 ≤ 140737488351232 := by
    rcases hdl3 with rfl | ⟨el, sp, rfl, hel⟩
    · simp
    · have hs := sized_slice (j := 3) (t := 24) (e := 5) hsz (by rfl) (by rfl) Tryd.underlying24
      rw [show Tryd.checked.prog.bytesOf 5 = 1 from by kernel_rfl] at hs
      have := reach13
      have : el.length * 1 ≤ (el.length + sp.length) * 1 := Nat.mul_le_mul_right _ (by omega)
      rw [← hel]; omega
  have hq3 : ∀ x ∈ l3, Value.int .u8 x = cB x.toNat := fun x hx => by have := u8_bd (hwf3 x hx); unfold cB; congr 1; omega
  have hRv3' := hRv3.map13 Int.toNat hq3
  have hRA3' : RowA W 1 v3 (l3.map Int.toNat).length ((l3.map Int.toNat).map cB) := by
    rw [List.length_map, List.map_map]
    have e : l3.map (cB ∘ Int.toNat) = l3.map (fun a => Value.int .u8 a) := List.map_congr_left fun x hx => (hq3 x hx).symm
    rw [e]; exact hRA3
  obtain ⟨l4, hRA4, hRv4, hwf4, hdl4⟩ := open_ints13 Tryd.underlying24 Tryd.underlying5 (by kernel_rfl) (hval 4 24 v4 rfl rfl) h4
  have hlen4 : l4.length * 1 ≤ 140737488351232 := by
    rcases hdl4 with rfl | ⟨el, sp, rfl, hel⟩
    · simp
    · have hs := sized_slice (j := 4) (t := 24) (e := 5) hsz (by rfl) (by rfl) Tryd.underlying24
      rw [show Tryd.checked.prog.bytesOf 5 = 1 from by kernel_rfl] at hs
      have := reach13
      have : el.length * 1 ≤ (el.length + sp.length) * 1 := Nat.mul_le_mul_right _ (by omega)
      rw [← hel]; omega
  have hq4 : ∀ x ∈ l4, Value.int .u8 x = cB x.toNat := fun x hx => by have := u8_bd (hwf4 x hx); unfold cB; congr 1; omega
  have hRv4' := hRv4.map13 Int.toNat hq4
  have hRA4' : RowA W 1 v4 (l4.map Int.toNat).length ((l4.map Int.toNat).map cB) := by
    rw [List.length_map, List.map_map]
    have e : l4.map (cB ∘ Int.toNat) = l4.map (fun a => Value.int .u8 a) := List.map_congr_left fun x hx => (hq4 x hx).symm
    rw [e]; exact hRA4
  clear hA0 hval0
  simp only [List.append_nil, List.nil_append] at hW'
  have hlt2 : ∀ x ∈ p2, x.block < W.heap.size := fun x hx => by simpa using hW'.lt x (by simp [hx])
  have hlt3 : ∀ x ∈ p3, x.block < W.heap.size := fun x hx => by simpa using hW'.lt x (by simp [hx])
  have hlt4 : ∀ x ∈ p4, x.block < W.heap.size := fun x hx => by simpa using hW'.lt x (by simp [hx])
  have hwalk := imageBack_any a0 a1 v2 (l2.map Int.toNat) v3 (l3.map Int.toNat) v4 (l4.map Int.toNat) W (i64_bd wa1).1 (i64_bd wa1).2 hRA2' hRv2' (by rw [List.length_map]; exact hlen2) (by intro x hx; obtain ⟨y, hy, rfl⟩ := List.mem_map.1 hx; have := u8_bd (hwf2 y hy); omega) hRA3' hRv3' (by rw [List.length_map]; exact hlen3) (by intro x hx; obtain ⟨y, hy, rfl⟩ := List.mem_map.1 hx; have := u8_bd (hwf3 y hy); omega) hRA4' hRv4' (by rw [List.length_map]; exact hlen4) (by intro x hx; obtain ⟨y, hy, rfl⟩ := List.mem_map.1 hx; have := u8_bd (hwf4 y hy); omega) (hf_of_laid hL)
  refine hwalk.mono fun e W' ⟨he, hb⟩ => ?_
  subst he
  exact ⟨_, rfl, _, _, _, [], _, [], hW', trodAll_mk1 (shut_bool Tryd.underlying4 true), mk5 (shut_bool Tryd.underlying4 a0) (shut_int Tryd.underlying3 wa1) (Below.trod Tryd.laidOut (by kernel_rfl) (of_decide_eq_true (by kernel_rfl)) h2 hb hlt2) (Below.trod Tryd.laidOut (by kernel_rfl) (of_decide_eq_true (by kernel_rfl)) h3 hb hlt3) (Below.trod Tryd.laidOut (by kernel_rfl) (of_decide_eq_true (by kernel_rfl)) h4 hb hlt4), rfl, hb.frame _, fun h => by cases h⟩

theorem imageBack_row : Rows.ImageBackSaid :=
  OpenClaim.holds_of_wide 6 Tryd.f6 rfl rfl rfl rfl rfl rfl rfl ⟨rfl, rfl, rfl, rfl, rfl⟩ rfl rfl rfl rfl rfl (by kernel_rfl) Tryd.func6 (by kernel_rfl)
    (of_decide_eq_true (by kernel_rfl)) (by unfold Func.isWrapper; first | (rw [if_pos (by decide +kernel)]; kernel_rfl) | (rw [if_neg (by decide +kernel)]; exact ⟨rfl, rfl⟩))
    (fun os started H enc _ => imageBack_lifted os started H enc)

theorem imageBack_holds : Rows.ImageBackCardSaid :=
  Claim7.holds_tied_plain_at .later [] [.data] true Rows.imageBackCard.stood.harness false
    imageBack_row (fun _ h => by cases h) (by kernel_rfl) (fun _ h => by cases h) imageBack_row_tie rfl ⟨rfl, rfl⟩ (by kernel_rfl) rfl
    (fun f fn hf hfn => by
      obtain rfl : f = 6 := Option.some.inj ((show Tryd.prog.funcNamed Rows.imageBackRow.func = some 6 by kernel_rfl).symm.trans hf) |>.symm
      obtain rfl : fn = Tryd.f6 := (Option.some.inj (Tryd.func6.symm.trans hfn)).symm
      exact ⟨by kernel_rfl, fun j t ht => by
        rw [Tryd.params6] at ht
        have hm : t ∈ [4, 3, 24, 24, 24] := by simpa using Array.mem_of_getElem? ht
        have hall : ([4, 3, 24, 24, 24].all fun u => !Tryd.prog.wantsStandIn u) = true := by kernel_rfl
        exact (show Tryd.prog.wantsStandIn t = false by simpa using List.all_eq_true.1 hall t hm)⟩)
    (by kernel_rfl)
#print axioms imageBack_holds
end Go.Proofs.YtgbhbooogofmbaaDoor
