/-
  Print writes just what the document says, and leaves its argument: for every row of bytes; asm.names and the tables of the library hold what the text lays.
-/
import Derived.Test.YtologchdnjnadaaDoorPart17
import Derived.ProofKit
import Derived.Lib.SmallJoins
import Derived.Test.YtologchdnjnadaaDoorCards
import Derived.Test.YtologchdnjnadaaDoorTie
import Derived.LaidMore
import Derived.OpenShut
import Derived.Stop.Joined
import Derived.Stop.LaidErr
import Derived.SevenTiedAt
namespace Go.Proofs.YtologchdnjnadaaDoor
open Go.ChangeShapes Go.WideShapes Go.ChangeAt Go.RowKit Go.Joins
open Go.ChangeMaps (open_string shut_string)
set_option linter.unusedSimpArgs false
set_option linter.unusedVariables false

theorem Tryd.own : ownKnob Tryd.prog.godebug = none := by kernel_rfl
theorem u8_bd {a : Int} (h : (Lit.int .u8 a).wf = true) : 0 ≤ a ∧ a < 256 := by
  simp [Lit.wf, IntKind.min, IntKind.max, IntKind.signed, IntKind.bits] at h; omega
theorem i64_bd {a : Int} (h : (Lit.int .i64 a).wf = true) : -9223372036854775808 ≤ a ∧ a ≤ 9223372036854775807 := by
  simp [Lit.wf, IntKind.min, IntKind.max, IntKind.signed, IntKind.bits] at h; omega

/-- The door's own heap meets the condition. -/
theorem door_met (os : Os) (args : Array Value) : laidMetH Tryd.prog Rows.asmPrintsRow.laid ((World.doorLaid Tryd.prog 4000 os).forCall (fun _ _ => 0) ⟨#[], args, []⟩).memory :=
  laidMetH_of_parts3 (fuel := 8) (laidMet_of_run' 8 (by kernel_rfl) (by kernel_rfl)) (by kernel_rfl) (by kernel_rfl)
theorem laid_pow {H : Type} : (Rows.laid_internal_strconv_uint64pow10 : DataW H) = Lib.tabData .u64 Lib.pow10Tab := rfl
theorem pow_of_laid {W : World} (h : laidMetH Tryd.prog Rows.asmPrintsRow.laid W) : Pow15 W := by
  rw [MakeChecks.laidMetH_plain _ _ _ (by kernel_rfl)] at h
  have h3 := laidMet.tail (laidMet.tail (show laidMet Tryd.prog [(_, _), (_, _), (_, Rows.laid_internal_strconv_uint64pow10), (_, _)] W from h))
  rw [laid_pow] at h3
  exact Lib.tabIs_of_head (g := 1) (t := 119) (e := 113) (n := 20) (by kernel_rfl) (by kernel_rfl) Tryd.underlying119 Tryd.underlying113 (by kernel_rfl) (by kernel_rfl) h3
theorem laid_nm {H : Type} : (Rows.laid_turnpike_asm_names : DataW H) = .agg ((List.range 5).map fun j => .lit (.string (nmL j))) := rfl
theorem nm_of_laid {W : World} (h : laidMetH Tryd.prog Rows.asmPrintsRow.laid W) : Nm W := by
  rw [MakeChecks.laidMetH_plain _ _ _ (by kernel_rfl)] at h
  have h4 := laidMet.tail (laidMet.tail (laidMet.tail (show laidMet Tryd.prog [(_, _), (_, _), (_, _), ("turnpike/asm.names", Rows.laid_turnpike_asm_names)] W from h)))
  rw [laid_nm] at h4
  obtain ⟨ps, ⟨g', t', cs, fuel, p, q, hg', ht', hvar, hd, _, _⟩, _⟩ := h4
  have hg : Tryd.prog.globalNamed "turnpike/asm.names" = some 0 := by kernel_rfl
  have hty : (Tryd.prog.globals[0]?).map (·.type) = some 67 := by kernel_rfl
  obtain rfl := Option.some.inj (hg.symm.trans hg')
  obtain rfl := Option.some.inj (hty.symm.trans ht')
  obtain ⟨xs, m, -, hx, hl, hn, hi⟩ := DataW.trod_array Tryd.underlying67 hd
  have hxs : xs.map (·.1) = (List.range 5).map fun j => DataW.lit (.string (nmL j)) := by
    have := congrArg Prod.fst hx
    simp only at this
    injection this with this
    exact this.symm
  intro j hj
  have hc := World.var?_cell hg hvar j
  rw [hc]
  have hce : Tryd.prog.cellsOf 9 = 1 := by kernel_rfl
  have h5 := hi j hj
  rw [hce, Nat.mul_one] at h5
  obtain ⟨x, hxj⟩ : ∃ x, xs[j]? = some x := ⟨xs[j], by simp [show j < xs.length by omega]⟩
  rw [hxj] at h5
  obtain ⟨s, e1, e2, -⟩ := DataW.trod_string Tryd.underlying9 h5
  have e3 : (xs.map (·.1))[j]? = some (DataW.lit (.string s.data.toList)) := by rw [List.getElem?_map, hxj, e2]; rfl
  rw [hxs] at e3
  have e4 : s.data.toList = nmL j := by
    rw [List.getElem?_map, List.getElem?_range hj] at e3
    simp only [Option.map_some, Option.some.injEq, DataW.lit.injEq, Lit.string.injEq] at e3
    exact e3.symm
  have e5 : cs[j]? = some (.string s) := by
    have := congrArg (·[0]?) e1
    simpa [List.getElem?_take, List.getElem?_drop] using this
  rw [e5]
  have : s = nmS j := by
    apply ByteArray.ext
    apply Array.toList_inj.1
    rw [e4]
    rfl
  rw [this]

set_option maxRecDepth 100000 in
theorem asmPrints_lifted (os : Os) (started : os.Started) (H : Type) (enc : TypeId × Value → H) :
    ReturnsInHanded {} Tryd.checked os 3 .any (fun w args => (Rows.asmPrintsSpec.pre enc Tryd.prog Tryd.f3 [] false w args ∧ laidMetH Tryd.prog Rows.asmPrintsRow.laid w) ∧ sizedMet enc Tryd.prog Tryd.f3 (OpenSpec.ofChange Rows.asmPrintsSpec) false w args)
      (Rows.asmPrintsSpec.post enc Tryd.prog Tryd.f3 false true false false) := by
  refine returnsInHanded_of_change_and (C := Tryd.checked) (X := fun w _ => laidMetH Tryd.prog Rows.asmPrintsRow.laid w) (fun _ _ _ hh h => h.of_heap hh) Tryd.own started (by kernel_rfl) Tryd.func3
    (ChangeSpec.witness_shaped (enc := enc) (C := Tryd.checked) (os := os) (X := fun w _ => laidMetH Tryd.prog Rows.asmPrintsRow.laid w) false (World.doorLaid Tryd.prog 4000 os) #[.slice none 0 0] 8 rfl (World.shaped_of_RefB (by kernel_rfl) (by kernel_rfl)) (by kernel_rfl) (by kernel_rfl) (by kernel_rfl) (door_met os _)) ?_
  intro W base args ds gs before hval0 hW _ hsz hL _
  have hval : ∀ (j : Nat) t v, Tryd.f3.params[j]? = some t → args[j]? = some v → Value.okWide Tryd.prog W .any base t v := hval0
  have hW' := hW
  obtain ⟨p, q, hA0, hV, rfl, hfz, hnd⟩ := hW
  have hA : DataW.TrodAll enc Tryd.prog W 0 (fun _ => true) true Tryd.f3.params.toList args.toList ds p := hA0
  rw [Tryd.params3] at hA hval
  obtain ⟨v0, d0, rfl, rfl, h0⟩ := trodAll_one hA
  obtain ⟨rfl, rfl⟩ := trodVars_none hV
  obtain ⟨l0, hRA0, hRv0, hwf0, hdl0⟩ := open_ints13 Tryd.underlying22 Tryd.underlying5 (by kernel_rfl) (hval 0 22 v0 rfl rfl) h0
  have hlen0 : l0.length * 1 ≤ 140737488351232 := by
    rcases hdl0 with rfl | ⟨el, sp, rfl, hel⟩
    · simp
    · have hs := sized_slice (j := 0) (t := 22) (e := 5) hsz (by rfl) (by rfl) Tryd.underlying22
      rw [show Tryd.checked.prog.bytesOf 5 = 1 from by kernel_rfl] at hs
      have := reach13
      have : el.length * 1 ≤ (el.length + sp.length) * 1 := Nat.mul_le_mul_right _ (by omega)
      rw [← hel]; omega
  have hq0 : ∀ x ∈ l0, Value.int .u8 x = cB x.toNat := fun x hx => by have := u8_bd (hwf0 x hx); unfold cB; congr 1; omega
  have hRv0' := hRv0.map13 Int.toNat hq0
  have hRA0' : RowA W 1 v0 (l0.map Int.toNat).length ((l0.map Int.toNat).map cB) := by
    rw [List.length_map, List.map_map]
    have e : l0.map (cB ∘ Int.toNat) = l0.map (fun a => Value.int .u8 a) := List.map_congr_left fun x hx => (hq0 x hx).symm
    rw [e]; exact hRA0
  clear hA0 hval0
  simp only [List.append_nil, List.nil_append] at hW'
  have hlt0 : ∀ x ∈ p, x.block < W.heap.size := fun x hx => by simpa using hW'.lt x (by simp [hx])
  have hwalk := asmPrints_any v0 (l0.map Int.toNat) W hRA0' hRv0' (by rw [List.length_map]; omega) (by intro x hx; obtain ⟨y, hy, rfl⟩ := List.mem_map.1 hx; have := u8_bd (hwf0 y hy); omega) (nm_of_laid hL) (pow_of_laid hL)
  refine hwalk.mono fun e W' ⟨he, hb⟩ => ?_
  subst he
  exact ⟨_, rfl, _, _, _, [], _, [], hW', trodAll_mk1 (shut_bool Tryd.underlying4 true), trodAll_mk1 (Below.trod Tryd.laidOut (by kernel_rfl) (of_decide_eq_true (by kernel_rfl)) h0 hb hlt0), rfl, hb.frame _, fun h => by cases h⟩

theorem asmPrints_row : Rows.AsmPrintsSaid :=
  OpenClaim.holds_of_wide 3 Tryd.f3 rfl rfl rfl rfl rfl rfl rfl ⟨rfl, rfl, rfl, rfl, rfl⟩ rfl rfl rfl rfl rfl (by kernel_rfl) Tryd.func3 (by kernel_rfl)
    (of_decide_eq_true (by kernel_rfl)) (by unfold Func.isWrapper; first | (rw [if_pos (by decide +kernel)]; kernel_rfl) | (rw [if_neg (by decide +kernel)]; exact ⟨rfl, rfl⟩))
    (fun os started H enc _ => asmPrints_lifted os started H enc)

theorem asmPrints_holds : Rows.AsmPrintsCardSaid :=
  Claim7.holds_tied_plain_at .later [] [.data, .data, .data, .data] true Rows.asmPrintsCard.stood.harness false
    asmPrints_row (fun _ h => by cases h) (by kernel_rfl) (fun _ h => by cases h) asmPrints_row_tie rfl ⟨rfl, rfl⟩ (by kernel_rfl) rfl
    (fun f fn hf hfn => by
      obtain rfl : f = 3 := Option.some.inj ((show Tryd.prog.funcNamed Rows.asmPrintsRow.func = some 3 by kernel_rfl).symm.trans hf) |>.symm
      obtain rfl : fn = Tryd.f3 := (Option.some.inj (Tryd.func3.symm.trans hfn)).symm
      exact ⟨by kernel_rfl, fun j t ht => by
        rw [Tryd.params3] at ht
        have hm : t ∈ [22] := by simpa using Array.mem_of_getElem? ht
        have hall : ([22].all fun u => !Tryd.prog.wantsStandIn u) = true := by kernel_rfl
        exact (show Tryd.prog.wantsStandIn t = false by simpa using List.all_eq_true.1 hall t hm)⟩)
    (by kernel_rfl)
#print axioms asmPrints_holds
end Go.Proofs.YtologchdnjnadaaDoor
