/-
  WireSums: the sum of rows, one behind the other, is the sum of all their bytes.
-/
import Derived.Test.YthhdaadbcogfnaaDoorPart6
import Derived.ProofKit
import Derived.Lib.SmallJoins
import Derived.Test.YthhdaadbcogfnaaDoorCards
import Derived.Test.YthhdaadbcogfnaaDoorTie
import Derived.LaidMore
import Derived.OpenShut
import Derived.Stop.Joined
import Derived.Stop.LaidErr
import Derived.SevenTiedAt
import Derived.Deep.DeepHandedRow
namespace Go.Proofs.YthhdaadbcogfnaaDoor
open Go.ChangeShapes Go.WideShapes Go.ChangeAt Go.RowKit Go.Joins
set_option linter.unusedSimpArgs false
set_option linter.unusedVariables false

theorem Tryd.own : ownKnob Tryd.prog.godebug = none := by kernel_rfl
theorem u8_bd {a : Int} (h : (Lit.int .u8 a).wf = true) : 0 ≤ a ∧ a < 256 := by
  simp [Lit.wf, IntKind.min, IntKind.max, IntKind.signed, IntKind.bits] at h; omega
def ofHalfL : List Int := [0, 274646895, 549293790, 820201905, 1098587580, 1361435347, 1640403810, 1905808397, 2197175160, 2460548119, 2722870694, 2987750089, 3280807620, 3553878443, 3811616794, 4084100981]
theorem laid_half {H : Type} : (Rows.laid_turnpike_wire_ofHalf : DataW H) = Lib.tabData .u32 ofHalfL := rfl
theorem half_at : ∀ j : Fin 16, ofHalfL[j.val]? = some (((cT j.val).toNat : Nat) : Int) := by decide +kernel
theorem hf_of_laid {W : World} (h : laidMetH Tryd.prog Rows.wireSumsUptoRow.laid W) : Hf W := by
  rw [MakeChecks.laidMetH_plain _ _ _ (by kernel_rfl)] at h
  have h2 := (show laidMet Tryd.prog [(_, Rows.laid_turnpike_wire_ofHalf)] W from h)
  rw [laid_half] at h2
  have hT := Lib.tabIs_of_head (g := 0) (t := 58) (e := 26) (n := 16) (by kernel_rfl) (by kernel_rfl) Tryd.underlying58 Tryd.underlying26 (by kernel_rfl) (by kernel_rfl) h2
  intro j hj
  have hc := World.var?_cell (g := 0) (by kernel_rfl) hT j
  rw [hc]
  have := half_at ⟨j, hj⟩
  simp only at this
  rw [uI_eq]
  simp [List.getElem?_map, this]

theorem bulk_one {H : Type} (d : DataW H) : 1 ≤ Rows.uptoBulk d := by
  cases d with
  | lit l => cases l <;> simp [Rows.uptoBulk]
  | _ => simp [Rows.uptoBulk]
theorem bulk_len {H : Type} : ∀ (l : List (DataW H)), l.length ≤ Rows.uptoBulkAll l
  | [] => by simp [Rows.uptoBulkAll]
  | x :: r => by have := bulk_one x; have := bulk_len r; simp only [Rows.uptoBulkAll, List.length_cons]; omega
theorem bulk_part {H : Type} {d : DataW H} : ∀ {l : List (DataW H)}, d ∈ l → Rows.uptoBulk d ≤ Rows.uptoBulkAll l
  | x :: r, h => by
    simp only [Rows.uptoBulkAll]
    rcases List.mem_cons.1 h with rfl | h
    · omega
    · have := bulk_part h; omega
theorem bulk_els {H : Type} (d : DataW H) : Rows.uptoBulkAll (elsOf d) ≤ Rows.uptoBulk d := by
  cases d with
  | slice el sp => simp only [elsOf, Rows.uptoBulk]; omega
  | _ => simp [elsOf, Rows.uptoBulkAll]
theorem met_door (os : Os) : laidMet Tryd.prog Rows.wireSumsUptoRow.laid ((World.doorLaid Tryd.prog 4000 os).forCall (fun _ _ => 0) ⟨#[], #[.slice none 0 0], []⟩).memory :=
  laidMet_of_run' 8 (by kernel_rfl) (by kernel_rfl)
theorem reads_door (os : Os) {H : Type} (enc : TypeId × Value → H) : ∃ places, DataW.whole enc Tryd.prog ((World.doorLaid Tryd.prog 4000 os).forCall (fun _ _ => 0) ⟨#[], #[.slice none 0 0], []⟩).memory Tryd.f3.params.toList Rows.wireSumsSpec.vars false #[Value.slice none 0 0].toList 8 = some ([.nil], [], places) :=
  ⟨[], by kernel_rfl⟩
set_option maxRecDepth 100000 in
theorem wireSums_lifted (os : Os) (started : os.Started) (H : Type) (enc : TypeId × Value → H) (F : Stop.Interp) :
    ReturnsInHanded {} Tryd.checked os 3 .any ((Rows.OpenSpec.upto Rows.wireSumsSpec).preRow enc Tryd.prog Tryd.f3 Rows.wireSumsUptoRow.domain false Rows.wireSumsUptoRow.laid) (((Rows.OpenSpec.upto Rows.wireSumsSpec).at F).post enc Tryd.prog Tryd.f3 false true false false) := by
  obtain ⟨places, hx⟩ := reads_door os enc
  refine returnsInHanded_of_row (C := Tryd.checked) (s := Rows.OpenSpec.upto Rows.wireSumsSpec) Tryd.own started (by kernel_rfl) Tryd.func3
    (witness_row_at (enc := enc) (C := Tryd.checked) false (World.doorLaid Tryd.prog 4000 os) #[.slice none 0 0] rfl (by kernel_rfl) (by kernel_rfl) (by kernel_rfl)
      (OpenSpec.preRow_of_cond 8 hx (by kernel_rfl) (fun k hk => by cases hk; kernel_rfl) (by kernel_rfl) (met_door os))) ?_
  intro W base args ds gs before hval0 hW hc1 hc2 hc3 hL hc4 hc5
  have hval : ∀ (j : Nat) t v, Tryd.f3.params[j]? = some t → args[j]? = some v → Value.okWide Tryd.prog W .any base t v := hval0
  have hW' := hW
  obtain ⟨p, q, hA0, hV, rfl, hfz, hnd⟩ := hW
  have hA : DataW.TrodAll enc Tryd.prog W 0 (fun _ => true) true Tryd.f3.params.toList args.toList ds p := hA0
  rw [Tryd.params3] at hA hval
  obtain ⟨v0, d0, rfl, rfl, h0⟩ := trodAll_one hA
  obtain ⟨rfl, rfl⟩ := trodVars_none hV
  obtain ⟨P, hRv, hP, hdl⟩ := open_rows13 Tryd.underlying22 Tryd.underlying24 Tryd.underlying5 (by kernel_rfl) (by kernel_rfl) (hval 0 22 v0 rfl rfl) h0
  have hk := of_decide_eq_true (hc2 _ rfl)
  have hd : Rows.uptoBulk d0 ≤ 1048576 := by
    simp only [List.append_nil, List.cons_append, List.nil_append, Rows.uptoBulkAll] at hk
    omega
  have hPl : P.length ≤ 1048576 := by
    rcases hdl with rfl | ⟨el, sp, rfl, e⟩
    · simp
    · have := bulk_len el
      simp only [Rows.uptoBulk] at hd
      omega
  have hin : ∀ x ∈ P, x.2.length ≤ 1048576 := fun x hx => by
    rcases (hP x hx).2.2.2 with h | ⟨el, sp, hm, e⟩
    · rw [h]; simp
    · have h1 := bulk_part hm
      have h2 := bulk_els d0
      have h3 := bulk_len el
      simp only [Rows.uptoBulk] at h1
      omega
  have hq : ∀ y ∈ P, ∀ x ∈ y.2, Value.int .u8 x = cB x.toNat := fun y hy x hx => by have := u8_bd ((hP y hy).2.2.1 x hx); unfold cB; congr 1; omega
  clear hA0 hval0
  simp only [List.append_nil, List.nil_append] at hW'
  have hlt0 : ∀ x ∈ p, x.block < W.heap.size := fun x hx => by simpa using hW'.lt x (by simp [hx])
  have hwalk := wireSums_any v0 (P.map fun y => (y.1, y.2.map Int.toNat)) W (hRv.map13 (fun y => (y.1, y.2.map Int.toNat)) (fun x _ => rfl)) (fun y' hy' => by
    obtain ⟨y, hy, rfl⟩ := List.mem_map.1 hy'
    refine ⟨?_, (hP y hy).2.1.map13 Int.toNat (hq y hy), by rw [List.length_map]; have := hin y hy; omega, fun b hb => ?_⟩
    · simp only
      rw [List.length_map, List.map_map]
      have e : y.2.map (cB ∘ Int.toNat) = y.2.map (fun a => Value.int .u8 a) := List.map_congr_left fun x hx => (hq y hy x hx).symm
      rw [e]; exact (hP y hy).1
    · obtain ⟨x, hx, rfl⟩ := List.mem_map.1 hb
      have := u8_bd ((hP y hy).2.2.1 x hx)
      omega) (by rw [List.length_map]; omega) (hf_of_laid hL)
  refine hwalk.mono fun e W' ⟨he, hb⟩ => ?_
  subst he
  exact ⟨_, rfl, _, _, _, [], _, [], hW', trodAll_mk1 (shut_bool Tryd.underlying4 true), trodAll_mk1 (Below.trod Tryd.laidOut (by kernel_rfl) (of_decide_eq_true (by kernel_rfl)) h0 hb hlt0), rfl, hb.frame _, fun h => by cases h⟩
theorem wireSums_row : Rows.WireSumsUptoSaid :=
  OpenClaim.holds_of_cond 3 Tryd.f3 rfl rfl rfl rfl rfl rfl rfl ⟨rfl, rfl, rfl, rfl, rfl⟩ rfl rfl rfl rfl rfl (by kernel_rfl) Tryd.func3 (by kernel_rfl)
    (of_decide_eq_true (by kernel_rfl)) (by unfold Func.isWrapper; first | (rw [if_pos (by decide +kernel)]; kernel_rfl) | (rw [if_neg (by decide +kernel)]; exact ⟨rfl, rfl⟩))
    (fun os started H enc _ F => by rw [OpenClaim.pre_eq_preRow]; exact wireSums_lifted os started H enc F)
theorem wireSums_plain (f : FuncId) (fn : Func) (hf : Tryd.pinned.checked.prog.funcNamed "turnpike/turnpikelaw13.WireSums" = some f) (hfn : Tryd.pinned.checked.prog.funcs[f]? = some fn) :
    false = Tryd.pinned.checked.prog.looks [] ∧ ∀ (j : Nat) t, fn.params[j]? = some t → Tryd.pinned.checked.prog.wantsStandIn t = false := by
  obtain rfl : f = 3 := Option.some.inj ((show Tryd.prog.funcNamed "turnpike/turnpikelaw13.WireSums" = some 3 by kernel_rfl).symm.trans hf) |>.symm
  obtain rfl : fn = Tryd.f3 := (Option.some.inj (Tryd.func3.symm.trans hfn)).symm
  refine ⟨by kernel_rfl, fun j t ht => ?_⟩
  rw [Tryd.params3] at ht
  obtain rfl : t = 22 := by simpa using Array.mem_of_getElem? ht
  exact (show Tryd.prog.wantsStandIn 22 = false by kernel_rfl)
theorem wireSums_holds : Rows.WireSumsUptoCardSaid :=
  Claim7.holds_tied_plain_at .later [] _ _ _ _ wireSums_row (fun _ h => by cases h) (by kernel_rfl) (fun _ h => by cases h) wireSumsUpto_row_tie rfl ⟨rfl, rfl⟩ (by kernel_rfl) rfl wireSums_plain (by kernel_rfl)
#print axioms wireSums_holds
end Go.Proofs.YthhdaadbcogfnaaDoor
