/-
  Part 17 of the proof: 24 texts, one behind the other.
-/
import Derived.Test.YtjgpbahglkaijaaDoorPart16
import Derived.Test.YtjgpbahglkaijaaDoorPart6
import Derived.Test.YtjgpbahglkaijaaDoorPart5
import Derived.Test.YtjgpbahglkaijaaDoorPart1
import Derived.Test.YtjgpbahglkaijaaDoorPart2
import Derived.Test.YtjgpbahglkaijaaDoorPart4
import Derived.Deep.CutBlock
import Derived.Deep.DeepCutAuto
import Derived.Deep.RegionHeld3
import Derived.BigQuiet
import Derived.WalkMore
import Derived.Deep.LoopGhost
namespace Go.Proofs.YtjgpbahglkaijaaDoor
open Go.RowKit
set_option linter.unusedSimpArgs false
set_option linter.unusedVariables false

set_option maxRecDepth 100000 in
set_option maxHeartbeats 16000000 in
theorem rdecode_in (v : Value) (l : List Nat) (k : Nat) (w : World) (hv : RwX cB w v l) (hl : l.length ≤ 100000) (hx : ∀ b ∈ l, b < 256) (hk : k < l.length / 4) :
    Calls Tryd.prog 33 #[v, .int .i64 (k : Int)] w fun e w' => ∃ v', e = .returned (.tuple #[insV (dcI l (k : Int)) v', .int .i64 (dcZ l (k : Int)), .int .i64 (dcE l (k : Int))]) ∧ w'.ownsRow w.heap.size 52 1 v' (dcI l (k : Int)).m.length ((dcI l (k : Int)).m.map cU) ∧ Below w.heap.size w w' := by
  obtain ⟨ao, cc, hvf, -⟩ := id hv
  have q1 := bl1 w (.cells #[.int .i64 0, .int .i64 0, .slice none 0 0] 66)
  have K1 := rget13 v l (4 * (k : Int)) 4 4 rfl (by decide) (by decide) _ (hv.below q1) (by omega) hx (by omega) (by omega)
  have hyes : 0 ≤ 4 * (k : Int) ∧ 4 * (k : Int) ≤ (l.length : Int) - ((4 : Nat) : Int) := ⟨by omega, by omega⟩
  have e1 : ((gtN l (4 * (k : Int)) 4 : Nat) : Int) = uI (wdV l k) := by
    rw [wd_uI l k hx]
    unfold gtN
    rw [if_pos hyes, show (4 * (k : Int)).toNat = 4 * k by omega]
  rw [decide_eq_true hyes, e1] at K1
  obtain ⟨A4, hA4⟩ : ∃ A4 : Nat, 4 * (k : Int) = (A4 : Int) := ⟨4 * k, by omega⟩
  have mw : IntKind.i64.wrap (4 * (k : Int)) = (A4 : Int) := by rw [IntKind.wrap_i64]; omega
  rw [hA4] at K1
  have HV := hid13 hv
  have HX := hid13 hx
  have HK : Hid (k < l.length / 4 ∧ l.length ≤ 100000) := ⟨hk, hl⟩
  have hX0 := uI_lo (wdV l k)
  have hX1 := uI_up (wdV l k)
  have han := and24 (wdV l k)
  obtain ⟨X, hX⟩ : ∃ X, X = uI (wdV l k) := ⟨_, rfl⟩
  obtain ⟨O, hO⟩ : ∃ O : Nat, (O : Int) = insO l k := ⟨(insO l k).toNat, by unfold insO; omega⟩
  obtain ⟨N, hN⟩ : ∃ N : Nat, (N : Int) = insN l k := ⟨(insN l k).toNat, by unfold insN; omega⟩
  have HR : Hid (rdP l k = if isOp (O : Int) = true then (if (N : Int) ≤ kRm (O : Int) then (if tkB (O : Int) (N : Int) = true then (if (O : Int) = 2 then rmP l (k + 1) N else ([], (0 : Int))) else ([], 1)) else ([], 24)) else ([], 24)) := by
    show _ = _
    unfold rdP
    rw [← hO, ← hN, Int.toNat_natCast]
  have HQ : Hid (((O : Nat) : Int) = insO l k ∧ ((N : Nat) : Int) = insN l k) := ⟨hO, hN⟩
  have x1 : X / 16777216 = (O : Int) := by rw [hX, hO]; rfl
  have x2 : bits .and .u32 X 16777215 = (N : Int) := by rw [hX, han, hN]; rfl
  have hNb : (N : Int) < 16777216 := by rw [hN]; unfold insN; omega
  have hOw : IntKind.i64.wrap (O : Int) = (O : Int) := by rw [IntKind.wrap_i64]; have : (O : Int) < 256 := by rw [hO]; unfold insO; omega
                                                          omega
  have hNw : IntKind.i64.wrap (N : Int) = (N : Int) := by rw [IntKind.wrap_i64]; omega
  rw [← hX] at K1
  have d0 : ¬ (k : Int) < 0 := by omega
  have d1 : ¬ (l.length : Int) ≤ (k : Int) := by omega
  subst hvf
  have HNb := hid13 hNb
  have HAnd : Hid (∀ W : World, (binOp .and 52 (.int .u32 X) (.int .u32 16777215)).run Tryd.prog W = .ok (.int .u32 (N : Int)) W) := by
    intro W
    rw [binOp_and]
    show Result.ok (Value.int .u32 (bits .and .u32 X 16777215)) W = _
    rw [x2]
  clear hyes e1 hv hx hX han q1 hO hN hNb hl hk hX0 hX1 hA4 x2
  cases ho : isOp (O : Int) with
  | false =>
    have HR2 : Hid (rdP l k = ([], 24)) := by show _ = _; rw [HR.out, if_neg (by rw [ho]; decide)]
    obtain ⟨h1, h2, h3, h4⟩ := isOp_none ho
    clear ho HR
    go_enter Tryd.func33, Tryd.ntmps33
    go_wp2_with (first | (go_at_call 17; refine K1.mono ?_; rintro e w2 ⟨rfl, hw2⟩; replace hw2 := hw2.symm; subst hw2) | (with_reducible apply stopAnd14))
    refine (show wpList _ _ _ _ _ _ from ?_)
    refine sw_run14 (v := .int .u32 (N : Int)) rfl (ex14b (HAnd.out _)) ?_
    simp only [Act.put, List.setIfInBounds_toArray, List.set_cons_zero, List.set_cons_succ]
    clear HAnd HNb K1
    go_wp2_with fail
    exact bodyPost_ret (v := .tuple #[.agg #[.int .i64 0, .int .i64 0, .slice none 0 0], .int .i64 0, .int .i64 24]) (by simp [results, Tryd.results33, go_sem]) rfl (rd_fin l k w HK.out.1 24 [] (by decide) HR2.out _ (keepb (bl1 _ _) (bl1 _ _)))
  | true =>
    have hR1 := HR.out
    rw [if_pos ho] at hR1
    rcases isOp_cases ho with hO1 | hO1 | hO1 | hO1
    · obtain rfl : O = 1 := by omega
      have cO : ((1 : Nat) : Int) = 1 := rfl
      rw [cO] at x1 HQ hR1 hOw
      clear ho HR hO1
      rw [show kRm (1 : Int) = 255 from rfl] at hR1
      by_cases r1 : (N : Int) ≤ 255
      · rw [if_pos r1] at hR1
        have r2 : ¬ 255 < (N : Int) := by omega
        by_cases t1 : (N : Int) < 1
        · rw [if_neg (by have := HNb.out; unfold tkB kLo kHi; simp; omega)] at hR1
          have HR2 : Hid (rdP l k = ([], 1)) := hR1
          clear hR1
          go_enter Tryd.func33, Tryd.ntmps33
          go_wp2_with (first | (go_at_call 17; refine K1.mono ?_; rintro e w2 ⟨rfl, hw2⟩; replace hw2 := hw2.symm; subst hw2) | (with_reducible apply stopAnd14))
          refine (show wpList _ _ _ _ _ _ from ?_)
          refine sw_run14 (v := .int .u32 (N : Int)) rfl (ex14b (HAnd.out _)) ?_
          simp only [Act.put, List.setIfInBounds_toArray, List.set_cons_zero, List.set_cons_succ]
          clear HAnd HNb K1
          go_wp2_with fail
          exact bodyPost_ret (v := .tuple #[.agg #[.int .i64 0, .int .i64 0, .slice none 0 0], .int .i64 0, .int .i64 1]) (by simp [results, Tryd.results33, go_sem]) rfl (rd_fin l k w HK.out.1 1 [] (by decide) HR2.out _ (keepb (bl1 _ _) (bl1 _ _)))
        by_cases t2 : 24 < (N : Int)
        · rw [if_neg (by have := HNb.out; unfold tkB kLo kHi; simp; omega)] at hR1
          have HR2 : Hid (rdP l k = ([], 1)) := hR1
          clear hR1
          go_enter Tryd.func33, Tryd.ntmps33
          go_wp2_with (first | (go_at_call 17; refine K1.mono ?_; rintro e w2 ⟨rfl, hw2⟩; replace hw2 := hw2.symm; subst hw2) | (with_reducible apply stopAnd14))
          refine (show wpList _ _ _ _ _ _ from ?_)
          refine sw_run14 (v := .int .u32 (N : Int)) rfl (ex14b (HAnd.out _)) ?_
          simp only [Act.put, List.setIfInBounds_toArray, List.set_cons_zero, List.set_cons_succ]
          clear HAnd HNb K1
          go_wp2_with fail
          exact bodyPost_ret (v := .tuple #[.agg #[.int .i64 0, .int .i64 0, .slice none 0 0], .int .i64 0, .int .i64 1]) (by simp [results, Tryd.results33, go_sem]) rfl (rd_fin l k w HK.out.1 1 [] (by decide) HR2.out _ (keepb (bl1 _ _) (bl1 _ _)))
        rw [if_pos (by have := HNb.out; unfold tkB kLo kHi; simp; omega)] at hR1
        rw [if_neg (by decide)] at hR1
        have HR2 : Hid (rdP l k = ([], 0)) := hR1
        clear hR1
        go_enter Tryd.func33, Tryd.ntmps33
        go_wp2_with (first | (go_at_call 17; refine K1.mono ?_; rintro e w2 ⟨rfl, hw2⟩; replace hw2 := hw2.symm; subst hw2) | (with_reducible apply stopAnd14))
        refine (show wpList _ _ _ _ _ _ from ?_)
        refine sw_run14 (v := .int .u32 (N : Int)) rfl (ex14b (HAnd.out _)) ?_
        simp only [Act.put, List.setIfInBounds_toArray, List.set_cons_zero, List.set_cons_succ]
        clear HAnd HNb K1
        go_wp2_with fail
        obtain ⟨g1, g2, g3⟩ := dc_ok HK.out.1 HR2.out
        exact bodyPost_ret (v := .tuple #[.agg #[.int .i64 1, .int .i64 (N : Int), .slice none 0 0], .int .i64 1, .int .i64 0]) (by simp [results, Tryd.results33, go_sem]) rfl ⟨.slice none 0 0, by rw [g1, g2, g3, ← HQ.out.1, ← HQ.out.2]; rfl, by rw [g1]; exact World.ownsRow_nil _ _ _ _, keepb (bl1 _ _) (bl1 _ _)⟩
      · rw [if_neg r1] at hR1
        have r2 : 255 < (N : Int) := by omega
        have HR2 : Hid (rdP l k = ([], 24)) := hR1
        clear hR1
        go_enter Tryd.func33, Tryd.ntmps33
        go_wp2_with (first | (go_at_call 17; refine K1.mono ?_; rintro e w2 ⟨rfl, hw2⟩; replace hw2 := hw2.symm; subst hw2) | (with_reducible apply stopAnd14))
        refine (show wpList _ _ _ _ _ _ from ?_)
        refine sw_run14 (v := .int .u32 (N : Int)) rfl (ex14b (HAnd.out _)) ?_
        simp only [Act.put, List.setIfInBounds_toArray, List.set_cons_zero, List.set_cons_succ]
        clear HAnd HNb K1
        go_wp2_with fail
        exact bodyPost_ret (v := .tuple #[.agg #[.int .i64 0, .int .i64 0, .slice none 0 0], .int .i64 0, .int .i64 24]) (by simp [results, Tryd.results33, go_sem]) rfl (rd_fin l k w HK.out.1 24 [] (by decide) HR2.out _ (keepb (bl1 _ _) (bl1 _ _)))
    · obtain rfl : O = 2 := by omega
      have cO : ((2 : Nat) : Int) = 2 := rfl
      rw [cO] at x1 HQ hR1 hOw
      clear ho HR hO1
      rw [show kRm (2 : Int) = 255 from rfl] at hR1
      by_cases r1 : (N : Int) ≤ 255
      · rw [if_pos r1] at hR1
        have r2 : ¬ 255 < (N : Int) := by omega
        by_cases t1 : (N : Int) < 1
        · rw [if_neg (by have := HNb.out; unfold tkB kLo kHi; simp; omega)] at hR1
          have HR2 : Hid (rdP l k = ([], 1)) := hR1
          clear hR1
          go_enter Tryd.func33, Tryd.ntmps33
          go_wp2_with (first | (go_at_call 17; refine K1.mono ?_; rintro e w2 ⟨rfl, hw2⟩; replace hw2 := hw2.symm; subst hw2) | (with_reducible apply stopAnd14))
          refine (show wpList _ _ _ _ _ _ from ?_)
          refine sw_run14 (v := .int .u32 (N : Int)) rfl (ex14b (HAnd.out _)) ?_
          simp only [Act.put, List.setIfInBounds_toArray, List.set_cons_zero, List.set_cons_succ]
          clear HAnd HNb K1
          go_wp2_with fail
          exact bodyPost_ret (v := .tuple #[.agg #[.int .i64 0, .int .i64 0, .slice none 0 0], .int .i64 0, .int .i64 1]) (by simp [results, Tryd.results33, go_sem]) rfl (rd_fin l k w HK.out.1 1 [] (by decide) HR2.out _ (keepb (bl1 _ _) (bl1 _ _)))
        by_cases t2 : 24 < (N : Int)
        · rw [if_neg (by have := HNb.out; unfold tkB kLo kHi; simp; omega)] at hR1
          have HR2 : Hid (rdP l k = ([], 1)) := hR1
          clear hR1
          go_enter Tryd.func33, Tryd.ntmps33
          go_wp2_with (first | (go_at_call 17; refine K1.mono ?_; rintro e w2 ⟨rfl, hw2⟩; replace hw2 := hw2.symm; subst hw2) | (with_reducible apply stopAnd14))
          refine (show wpList _ _ _ _ _ _ from ?_)
          refine sw_run14 (v := .int .u32 (N : Int)) rfl (ex14b (HAnd.out _)) ?_
          simp only [Act.put, List.setIfInBounds_toArray, List.set_cons_zero, List.set_cons_succ]
          clear HAnd HNb K1
          go_wp2_with fail
          exact bodyPost_ret (v := .tuple #[.agg #[.int .i64 0, .int .i64 0, .slice none 0 0], .int .i64 0, .int .i64 1]) (by simp [results, Tryd.results33, go_sem]) rfl (rd_fin l k w HK.out.1 1 [] (by decide) HR2.out _ (keepb (bl1 _ _) (bl1 _ _)))
        rw [if_pos (by have := HNb.out; unfold tkB kLo kHi; simp; omega)] at hR1
        rw [if_pos rfl] at hR1
        exact rdecode_map (.slice ao l.length cc) l k N w HV.out HK.out.2 HX.out HK.out.1 HQ.out.1.symm HQ.out.2.symm (by omega) (by omega)
      · rw [if_neg r1] at hR1
        have r2 : 255 < (N : Int) := by omega
        have HR2 : Hid (rdP l k = ([], 24)) := hR1
        clear hR1
        go_enter Tryd.func33, Tryd.ntmps33
        go_wp2_with (first | (go_at_call 17; refine K1.mono ?_; rintro e w2 ⟨rfl, hw2⟩; replace hw2 := hw2.symm; subst hw2) | (with_reducible apply stopAnd14))
        refine (show wpList _ _ _ _ _ _ from ?_)
        refine sw_run14 (v := .int .u32 (N : Int)) rfl (ex14b (HAnd.out _)) ?_
        simp only [Act.put, List.setIfInBounds_toArray, List.set_cons_zero, List.set_cons_succ]
        clear HAnd HNb K1
        go_wp2_with fail
        exact bodyPost_ret (v := .tuple #[.agg #[.int .i64 0, .int .i64 0, .slice none 0 0], .int .i64 0, .int .i64 24]) (by simp [results, Tryd.results33, go_sem]) rfl (rd_fin l k w HK.out.1 24 [] (by decide) HR2.out _ (keepb (bl1 _ _) (bl1 _ _)))
    · obtain rfl : O = 3 := by omega
      have cO : ((3 : Nat) : Int) = 3 := rfl
      rw [cO] at x1 HQ hR1 hOw
      clear ho HR hO1
      rw [show kRm (3 : Int) = 16777215 from rfl] at hR1
      rw [if_pos (by have := HNb.out; omega)] at hR1
      by_cases t1 : (N : Int) < 1
      · rw [if_neg (by have := HNb.out; unfold tkB kLo kHi; simp; omega)] at hR1
        have HR2 : Hid (rdP l k = ([], 1)) := hR1
        clear hR1
        go_enter Tryd.func33, Tryd.ntmps33
        go_wp2_with (first | (go_at_call 17; refine K1.mono ?_; rintro e w2 ⟨rfl, hw2⟩; replace hw2 := hw2.symm; subst hw2) | (with_reducible apply stopAnd14))
        refine (show wpList _ _ _ _ _ _ from ?_)
        refine sw_run14 (v := .int .u32 (N : Int)) rfl (ex14b (HAnd.out _)) ?_
        simp only [Act.put, List.setIfInBounds_toArray, List.set_cons_zero, List.set_cons_succ]
        clear HAnd HNb K1
        go_wp2_with fail
        exact bodyPost_ret (v := .tuple #[.agg #[.int .i64 0, .int .i64 0, .slice none 0 0], .int .i64 0, .int .i64 1]) (by simp [results, Tryd.results33, go_sem]) rfl (rd_fin l k w HK.out.1 1 [] (by decide) HR2.out _ (keepb (bl1 _ _) (bl1 _ _)))
      rw [if_pos (by have := HNb.out; unfold tkB kLo kHi; simp; omega)] at hR1
      rw [if_neg (by decide)] at hR1
      have HR2 : Hid (rdP l k = ([], 0)) := hR1
      clear hR1
      go_enter Tryd.func33, Tryd.ntmps33
      go_wp2_with (first | (go_at_call 17; refine K1.mono ?_; rintro e w2 ⟨rfl, hw2⟩; replace hw2 := hw2.symm; subst hw2) | (with_reducible apply stopAnd14))
      refine (show wpList _ _ _ _ _ _ from ?_)
      refine sw_run14 (v := .int .u32 (N : Int)) rfl (ex14b (HAnd.out _)) ?_
      simp only [Act.put, List.setIfInBounds_toArray, List.set_cons_zero, List.set_cons_succ]
      clear HAnd HNb K1
      go_wp2_with fail
      obtain ⟨g1, g2, g3⟩ := dc_ok HK.out.1 HR2.out
      exact bodyPost_ret (v := .tuple #[.agg #[.int .i64 3, .int .i64 (N : Int), .slice none 0 0], .int .i64 1, .int .i64 0]) (by simp [results, Tryd.results33, go_sem]) rfl ⟨.slice none 0 0, by rw [g1, g2, g3, ← HQ.out.1, ← HQ.out.2]; rfl, by rw [g1]; exact World.ownsRow_nil _ _ _ _, keepb (bl1 _ _) (bl1 _ _)⟩
    · obtain rfl : O = 4 := by omega
      have cO : ((4 : Nat) : Int) = 4 := rfl
      rw [cO] at x1 HQ hR1 hOw
      clear ho HR hO1
      rw [show kRm (4 : Int) = 65535 from rfl] at hR1
      by_cases r1 : (N : Int) ≤ 65535
      · rw [if_pos r1] at hR1
        have r2 : ¬ 65535 < (N : Int) := by omega
        rw [if_pos (by have := HNb.out; unfold tkB kLo kHi; simp; omega), if_neg (by decide)] at hR1
        have HR2 : Hid (rdP l k = ([], 0)) := hR1
        clear hR1
        go_enter Tryd.func33, Tryd.ntmps33
        go_wp2_with (first | (go_at_call 17; refine K1.mono ?_; rintro e w2 ⟨rfl, hw2⟩; replace hw2 := hw2.symm; subst hw2) | (with_reducible apply stopAnd14))
        refine (show wpList _ _ _ _ _ _ from ?_)
        refine sw_run14 (v := .int .u32 (N : Int)) rfl (ex14b (HAnd.out _)) ?_
        simp only [Act.put, List.setIfInBounds_toArray, List.set_cons_zero, List.set_cons_succ]
        clear HAnd HNb K1
        go_wp2_with fail
        obtain ⟨g1, g2, g3⟩ := dc_ok HK.out.1 HR2.out
        exact bodyPost_ret (v := .tuple #[.agg #[.int .i64 4, .int .i64 (N : Int), .slice none 0 0], .int .i64 1, .int .i64 0]) (by simp [results, Tryd.results33, go_sem]) rfl ⟨.slice none 0 0, by rw [g1, g2, g3, ← HQ.out.1, ← HQ.out.2]; rfl, by rw [g1]; exact World.ownsRow_nil _ _ _ _, keepb (bl1 _ _) (bl1 _ _)⟩
      · rw [if_neg r1] at hR1
        have r2 : 65535 < (N : Int) := by omega
        have HR2 : Hid (rdP l k = ([], 24)) := hR1
        clear hR1
        go_enter Tryd.func33, Tryd.ntmps33
        go_wp2_with (first | (go_at_call 17; refine K1.mono ?_; rintro e w2 ⟨rfl, hw2⟩; replace hw2 := hw2.symm; subst hw2) | (with_reducible apply stopAnd14))
        refine (show wpList _ _ _ _ _ _ from ?_)
        refine sw_run14 (v := .int .u32 (N : Int)) rfl (ex14b (HAnd.out _)) ?_
        simp only [Act.put, List.setIfInBounds_toArray, List.set_cons_zero, List.set_cons_succ]
        clear HAnd HNb K1
        go_wp2_with fail
        exact bodyPost_ret (v := .tuple #[.agg #[.int .i64 0, .int .i64 0, .slice none 0 0], .int .i64 0, .int .i64 24]) (by simp [results, Tryd.results33, go_sem]) rfl (rd_fin l k w HK.out.1 24 [] (by decide) HR2.out _ (keepb (bl1 _ _) (bl1 _ _)))
end Go.Proofs.YtjgpbahglkaijaaDoor
namespace Go.Proofs.YtjgpbahglkaijaaDoor
open Go.RowKit
set_option linter.unusedSimpArgs false
set_option linter.unusedVariables false

def TwI (W : World) (B : Nat) (i j : Ins) (v u : Value) : Prop := AtI W B i.op i.n v ∧ AtI W (B + 1) j.op j.n u ∧ RwX cU W v i.m ∧ RwX cU W u j.m
theorem TwI.below {W W' : World} {B : Nat} {i j : Ins} {v u : Value} (h : TwI W B i j v u) (hb : Below W.heap.size W W') : TwI W' B i j v u := ⟨h.1.below hb, h.2.1.below hb, h.2.2.1.below hb, h.2.2.2.below hb⟩
end Go.Proofs.YtjgpbahglkaijaaDoor
namespace Go.Proofs.YtjgpbahglkaijaaDoor
open Go.RowKit
set_option linter.unusedSimpArgs false
set_option linter.unusedVariables false

end Go.Proofs.YtjgpbahglkaijaaDoor
namespace Go.Proofs.YtjgpbahglkaijaaDoor
open Go.RowKit
set_option linter.unusedSimpArgs false
set_option linter.unusedVariables false

end Go.Proofs.YtjgpbahglkaijaaDoor
namespace Go.Proofs.YtjgpbahglkaijaaDoor
open Go.RowKit
set_option linter.unusedSimpArgs false
set_option linter.unusedVariables false

theorem rdecode14 (v : Value) (l : List Nat) (a : Int) (w : World) (hv : RwX cB w v l) (hl : l.length ≤ 100000) (hx : ∀ b ∈ l, b < 256) :
    Calls Tryd.prog 33 #[v, .int .i64 a] w fun e w' => ∃ v', e = .returned (.tuple #[insV (dcI l a) v', .int .i64 (dcZ l a), .int .i64 (dcE l a)]) ∧ w'.ownsRow w.heap.size 52 1 v' (dcI l a).m.length ((dcI l a).m.map cU) ∧ Below w.heap.size w w' := by
  cases hs : stB l.length a 1 with
  | false => exact rdecode_out v l a w hv hl hx hs
  | true =>
    have h2 : 0 ≤ a ∧ a.toNat < l.length / 4 := by unfold stB at hs; simp at hs; constructor <;> omega
    obtain ⟨k, rfl⟩ : ∃ k : Nat, a = (k : Int) := ⟨a.toNat, by omega⟩
    rw [Int.toNat_natCast] at h2
    exact rdecode_in v l k w hv hl hx h2.2
theorem dcI_len14 (l : List Nat) (a : Int) : (dcI l a).m.length ≤ 524288 := by
  unfold dcI
  split
  · exact rdP_len _ _
  · simp
end Go.Proofs.YtjgpbahglkaijaaDoor
namespace Go.Proofs.YtjgpbahglkaijaaDoor
open Go.RowKit
set_option linter.unusedSimpArgs false
set_option linter.unusedVariables false

end Go.Proofs.YtjgpbahglkaijaaDoor
namespace Go.Proofs.YtjgpbahglkaijaaDoor
open Go.RowKit
set_option linter.unusedSimpArgs false
set_option linter.unusedVariables false

set_option maxRecDepth 100000 in
theorem halved_any (x : BitVec 32) (w : World) :
    Calls Tryd.prog 71 #[.int .u32 (uI x)] w fun e w' => e = .returned (.int .u32 (uI (hb x))) ∧ w' = w := by
  have h1 := odd32 x
  have h2 := half32 x
  cases c : x.getLsbD 0
  · rw [hb_even x c]
    rw [c] at h1
    simp only [Bool.false_eq_true, if_false] at h1
    clear c
    go_enter Tryd.func71, Tryd.ntmps71
    go_wp2
    go_ret
    exact ⟨rfl, rfl⟩
  · rw [hb_odd x c]
    rw [c] at h1
    simp only [if_true] at h1
    have h3 := xorM (x >>> 1)
    clear c
    go_enter Tryd.func71, Tryd.ntmps71
    go_wp2
    go_ret
    exact ⟨rfl, rfl⟩
set_option maxRecDepth 100000 in
set_option maxHeartbeats 4000000 in
theorem times_any (x y : BitVec 32) (w : World) :
    Calls Tryd.prog 60 #[.int .u32 (uI x), .int .u32 (uI y)] w fun e w' => e = .returned (.int .u32 (uI (prd 32 x y 0#32))) ∧ w' = w := by
  go_enter Tryd.func60, Tryd.ntmps60
  go_wp2_with fail
  go_loopg [0, 1, 5] 32 (fun k a b p wr => wr = w ∧ k ≤ 32 ∧ ∃ A B P : BitVec 32, a = .int .u32 (uI A) ∧ b = .int .u32 (uI B) ∧ p = .int .u32 (uI P) ∧ Hid (prd k A B P = prd 32 x y 0#32 ∧ A <<< k = 0#32))
  case atStart => exact ⟨rfl, by omega, x, y, 0#32, rfl, rfl, by rw [uI_zero], rfl, by simp⟩
  case round =>
    obtain ⟨rfl, hk, A, B, P, rfl, rfl, rfl, HP⟩ := hrel
    by_cases h0 : A = 0#32
    · subst h0
      have hz := uI_zero
      obtain ⟨e1, -⟩ := HP.out
      rw [prd_zero] at e1
      rw [hz]
      clear HP hz
      go_wp2_with fail
      go_ret
      exact ⟨congrArg Ending.returned (congrArg (Value.int .u32) (congrArg uI e1)), rfl⟩
    · have hz : ¬ uI A = 0 := fun h => h0 ((uI_is0 A).mp h)
      obtain ⟨j, rfl⟩ : ∃ j, gk = j + 1 := by
        cases gk with
        | zero => exact absurd (by have := HP.out.2; simpa using this) h0
        | succ j => exact ⟨j, rfl⟩
      have htop := top32 A
      have HD := HP.out
      have hN : Hid (prd j (A <<< 1) (hb B) (if A.getLsbD 31 then P ^^^ B else P) = prd 32 x y 0#32 ∧ (A <<< 1) <<< j = 0#32) := ⟨HD.1, by rw [← BitVec.shiftLeft_add, Nat.add_comm]; exact HD.2⟩
      clear HP HD h0
      cases c : A.getLsbD 31
      · rw [c] at htop hN
        simp only [Bool.false_eq_true, if_false] at htop hN
        clear c
        go_wp2_with (go_at_call 71; refine (halved_any B _).mono ?_; rintro e w1 ⟨rfl, rfl⟩)
        go_roundg j
        case measure => omega
        case rel => exact ⟨rfl, by omega, _, _, _, congrArg (Value.int .u32) (dbl32 A), rfl, rfl, hN⟩
      · rw [c] at htop hN
        simp only [if_true] at htop hN
        clear c
        have hxx := xor32 P B
        go_wp2_with (go_at_call 71; refine (halved_any B _).mono ?_; rintro e w1 ⟨rfl, rfl⟩)
        go_roundg j
        case measure => omega
        case rel => exact ⟨rfl, by omega, _, _, _, congrArg (Value.int .u32) (dbl32 A), rfl, rfl, hN⟩
theorem oddN (n : Nat) (h : n < 9223372036854775808) : bits .and .i64 (n : Int) 1 = ((n % 2 : Nat) : Int) := by
  unfold bits
  simp only [IntKind.bits]
  have e : (BitVec.ofInt 64 (n : Int) &&& BitVec.ofInt 64 1).toNat = n % 2 := by
    rw [BitVec.toNat_and]
    have e1 : (BitVec.ofInt 64 (n : Int)).toNat = n := by rw [BitVec.toNat_ofInt]; omega
    have e2 : (BitVec.ofInt 64 1).toNat = 1 := by decide
    rw [e1, e2]
    exact Nat.and_one_is_mod n
  show IntKind.i64.wrap (((BitVec.ofInt 64 (n : Int) &&& BitVec.ofInt 64 1).toNat : Nat) : Int) = _
  rw [e, IntKind.wrap_i64]
  omega
set_option maxRecDepth 100000 in
set_option maxHeartbeats 4000000 in
theorem byBytes_any (n : Nat) (hn : n < 9223372036854775808) (w : World) :
    Calls Tryd.prog 61 #[.int .i64 (n : Int)] w fun e w' => e = .returned (.int .u32 (uI (hbN (8 * n) cOne))) ∧ w' = w := by
  go_enter Tryd.func61, Tryd.ntmps61
  go_wp2_with fail
  go_loopg [0, 3, 4] n (fun k a b p wr => wr = w ∧ k ≤ n ∧ ∃ P Q : Nat, a = .int .i64 (k : Int) ∧ b = .int .u32 (uI (hbN P cOne)) ∧ p = .int .u32 (uI (hbN Q cOne)) ∧ Hid (P + Q * k = 8 * n))
  case atStart =>
    refine ⟨rfl, Nat.le_refl _, 0, 8, rfl, ?_, ?_, by show 0 + 8 * n = 8 * n; omega⟩
    · exact congrArg (Value.int .u32) (lit32 2147483648 (by decide))
    · rw [byByte_eq]; exact congrArg (Value.int .u32) (lit32 8388608 (by decide))
  case round =>
    obtain ⟨rfl, hk, P, Q, rfl, rfl, rfl, HP⟩ := hrel
    by_cases h0 : gk = 0
    · subst h0
      go_wp2_with fail
      go_ret
      refine ⟨congrArg Ending.returned (congrArg (Value.int .u32) (congrArg uI ?_)), rfl⟩
      have := HP.out
      rw [show 8 * n = P by omega]
    · have hpos : 0 < (gk : Int) := by omega
      have hodd := oddN gk (by omega)
      have hhalf : Hid ((gk : Int) / (2 : Int) = ((gk / 2 : Nat) : Int)) := by show (gk : Int) / (2 : Int) = ((gk / 2 : Nat) : Int); omega
      have hd := Nat.div_add_mod gk 2
      have hq : Q * gk = Q * (2 * (gk / 2)) + Q * (gk % 2) := by rw [← Nat.mul_add, hd]
      have hq2 : Q * (2 * (gk / 2)) = (Q + Q) * (gk / 2) := by rw [← Nat.mul_assoc, Nat.mul_comm Q 2, Nat.two_mul]
      have E := HP.out
      rcases (show gk % 2 = 0 ∨ gk % 2 = 1 by omega) with c | c
      · rw [c] at hodd hq
        have HN : Hid (P + (Q + Q) * (gk / 2) = 8 * n) := by show P + (Q + Q) * (gk / 2) = 8 * n; omega
        have HK : Hid (gk / 2 < gk ∧ gk / 2 ≤ n) := by constructor <;> omega
        clear hd hq hq2 E c HP hk h0
        go_wp2_with (go_at_call 60; refine (times_any _ _ _).mono ?_; rintro e w1 ⟨rfl, rfl⟩)
        go_roundg (gk / 2)
        case measure => exact HK.out.1
        case rel => exact ⟨rfl, HK.out.2, P, Q + Q, congrArg (Value.int .i64) hhalf.out, rfl, congrArg (Value.int .u32) (congrArg uI (prd_pow Q Q)), HN⟩
      · rw [c] at hodd hq
        have HN : Hid (P + Q + (Q + Q) * (gk / 2) = 8 * n) := by show P + Q + (Q + Q) * (gk / 2) = 8 * n; omega
        have HK : Hid (gk / 2 < gk ∧ gk / 2 ≤ n) := by constructor <;> omega
        clear hd hq hq2 E c HP hk h0
        go_wp2_with (go_at_call 60; refine (times_any _ _ _).mono ?_; rintro e w1 ⟨rfl, rfl⟩)
        go_roundg (gk / 2)
        case measure => exact HK.out.1
        case rel => exact ⟨rfl, HK.out.2, P + Q, Q + Q, congrArg (Value.int .i64) hhalf.out, congrArg (Value.int .u32) (congrArg uI (prd_pow P Q)), congrArg (Value.int .u32) (congrArg uI (prd_pow Q Q)), HN⟩
def jnU (a b : BitVec 32) (n : Int) : BitVec 32 := if n < 0 then 0#32 else hbN (8 * n.toNat) a ^^^ b
def jnE (n : Int) : Int := if n < 0 then 1 else 0
set_option maxRecDepth 100000 in
theorem join_any (a b : BitVec 32) (n : Int) (hn : n ≤ 9223372036854775807) (w : World) :
    Calls Tryd.prog 45 #[.int .u32 (uI a), .int .u32 (uI b), .int .i64 n] w fun e w' => e = .returned (.tuple #[.int .u32 (uI (jnU a b n)), .int .i64 (jnE n)]) ∧ w' = w := by
  unfold jnU jnE
  by_cases h : n < 0
  · rw [if_pos h, if_pos h, uI_zero]
    go_enter Tryd.func45, Tryd.ntmps45
    go_wp2
    exact bodyPost_ret (v := .tuple #[.int .u32 0, .int .i64 1]) (by simp [results, Tryd.results45, go_sem]) rfl ⟨rfl, rfl⟩
  · rw [if_neg h, if_neg h]
    obtain ⟨k, rfl⟩ : ∃ k : Nat, n = (k : Int) := ⟨n.toNat, by omega⟩
    have hk : k < 9223372036854775808 := by omega
    have hx := xor32 (hbN (8 * k) a) b
    have hp := congrArg uI (prd_hbN a (8 * k))
    simp only [Int.toNat_natCast]
    clear hn
    go_enter Tryd.func45, Tryd.ntmps45
    go_wp2_with (first | (go_at_call 61; refine (byBytes_any k hk _).mono ?_; rintro e w1 ⟨rfl, rfl⟩) | (go_at_call 60; refine (times_any _ _ _).mono ?_; rintro e w1 ⟨rfl, rfl⟩))
    exact bodyPost_ret (v := .tuple #[.int .u32 (uI (hbN (8 * k) a ^^^ b)), .int .i64 0]) (by simp [results, Tryd.results45, go_sem, hx, hp]) rfl ⟨rfl, rfl⟩
end Go.Proofs.YtjgpbahglkaijaaDoor
namespace Go.Proofs.YtjgpbahglkaijaaDoor
open Go.RowKit
set_option linter.unusedSimpArgs false
set_option linter.unusedVariables false

theorem byX2 (c : BitVec 32) (b : Nat) (h : b < 256) : bits .xor .u32 (uI c) (b : Int) = uI (c ^^^ BitVec.ofNat 32 b) := by
  rw [← xor32, uI_of b (by omega)]
set_option maxRecDepth 100000 in
set_option maxHeartbeats 4000000 in
theorem rstep13 (c : BitVec 32) (b : Nat) (hb : b < 256) (w : World) :
    Calls Tryd.prog 32 #[.int .u32 (uI c), .int .u8 (b : Int)] w fun e w' => e = .returned (.int .u32 (uI (stp c b))) ∧ w' = w := by
  have hx := byX2 c b hb
  have hbi : ((b : Nat) : Int) < 256 := by omega
  obtain ⟨X, hX⟩ : ∃ X, X = c ^^^ BitVec.ofNat 32 b := ⟨_, rfl⟩
  have HS : Hid (stp c b = hbN 8 X) := by show _ = _; rw [hX]; rfl
  rw [← hX] at hx
  clear hX hb
  go_enter Tryd.func32, Tryd.ntmps32
  go_wp2_with fail
  clear hx
  go_loopg [0, 5, 6] 8 (fun k a i o wr => wr = w ∧ ∃ (C : BitVec 32) (j : Nat), j + k = 8 ∧ a = .int .u32 (uI C) ∧ i = .int .i64 (j : Int) ∧ Hid (hbN k C = hbN 8 X))
  case atStart => exact ⟨rfl, X, 0, rfl, rfl, rfl, rfl⟩
  case round =>
    obtain ⟨rfl, C, j, hk, rfl, rfl, HC⟩ := hrel
    by_cases hj : j < 8
    · have hji : (j : Int) < 8 := by omega
      obtain ⟨g, rfl⟩ : ∃ g, gk = g + 1 := ⟨gk - 1, by omega⟩
      have h1 := odd32 C
      have h2 := half32 C
      have mk : IntKind.i64.wrap ((j : Int) + 1) = (j : Int) + 1 := by rw [IntKind.wrap_i64]; omega
      have HN : Hid (hbN g (hb C) = hbN 8 X) := HC.out
      have HJ : Hid (j + 1 + g = 8) := by show j + 1 + g = 8; omega
      clear HC hk hj
      cases c : C.getLsbD 0
      · rw [hb_even C c] at HN
        rw [c] at h1
        simp only [Bool.false_eq_true, if_false] at h1
        clear c
        go_wp2_with fail
        go_roundg g
        case measure => omega
        case rel => exact ⟨rfl, _, j + 1, HJ.out, rfl, rfl, HN⟩
      · rw [hb_odd C c] at HN
        rw [c] at h1
        simp only [if_true] at h1
        have h3 := xorM (C >>> 1)
        clear c
        go_wp2_with fail
        go_roundg g
        case measure => omega
        case rel => exact ⟨rfl, _, j + 1, HJ.out, rfl, rfl, HN⟩
    · have hji : ¬ (j : Int) < 8 := by omega
      obtain rfl : gk = 0 := by omega
      have HN : Hid (C = hbN 8 X) := HC.out
      go_wp2_with fail
      go_ret
      exact ⟨congrArg Ending.returned (congrArg (Value.int .u32) (congrArg uI (HN.out.trans HS.out.symm))), rfl⟩
end Go.Proofs.YtjgpbahglkaijaaDoor
namespace Go.Proofs.YtjgpbahglkaijaaDoor
open Go.RowKit
set_option linter.unusedSimpArgs false
set_option linter.unusedVariables false

section
variable {W W' : World} {S k : Nat} {f : Nat → BitVec 32}
end
end Go.Proofs.YtjgpbahglkaijaaDoor
namespace Go.Proofs.YtjgpbahglkaijaaDoor
open Go.RowKit
set_option linter.unusedSimpArgs false
set_option linter.unusedVariables false

end Go.Proofs.YtjgpbahglkaijaaDoor
namespace Go.Proofs.YtjgpbahglkaijaaDoor
open Go.RowKit
set_option linter.unusedSimpArgs false
set_option linter.unusedVariables false

theorem and_pred (n : Nat) (h0 : 0 < n) (h : n < 4294967296) : bits .and .u32 (n : Int) ((n : Int) - 1) = ((n &&& (n - 1) : Nat) : Int) := by
  have h1 : (n : Int) = uI (BitVec.ofNat 32 n) := lit32 n h
  have h2 : (n : Int) - 1 = uI (BitVec.ofNat 32 (n - 1)) := by rw [uI_of _ (by omega)]; omega
  rw [h2, h1, and32, uI_eq, BitVec.toNat_and, BitVec.toNat_ofNat, BitVec.toNat_ofNat]
  have h3 : (2 : Nat) ^ 32 = 4294967296 := by decide
  rw [h3, Nat.mod_eq_of_lt h, Nat.mod_eq_of_lt (by omega)]
set_option maxRecDepth 100000 in
set_option maxHeartbeats 8000000 in
theorem rones13 (v : Value) (U : List (BitVec 32)) (w : World) (hv : RwX cU w v U) (hl : U.length ≤ 100000000000000) :
    Calls Tryd.prog 48 #[v] w fun e w' => e = .returned (.int .i64 ((sumW U U.length : Nat) : Int)) ∧ w' = w := by
  obtain ⟨ao, cc, rfl, -, hv⟩ := hv
  have HV := hid13 hv
  have HL := hid13 hl
  clear hv hl
  go_enter Tryd.func48, Tryd.ntmps48
  go_wp2_with fail
  go_loopg [3, 4, 5] U.length (fun g n i x wr => wr = w ∧ ∃ k m : Nat, k + g = U.length ∧ i = .int .i64 (k : Int) ∧ n = .int .i64 (m : Int) ∧ Hid (m = sumW U k))
  case atStart => exact ⟨rfl, 0, 0, by omega, rfl, rfl, rfl⟩
  case round =>
    obtain ⟨hw, k, m, hk, rfl, rfl, HM⟩ := hrel
    replace hw := hw.symm
    subst hw
    by_cases hlt : k < U.length
    · have hli : (k : Int) < (U.length : Int) := by omega
      obtain ⟨bo, off, rfl, hc1⟩ : ∃ bo off, ao = some ⟨bo, off, none⟩ ∧ ∀ j x, U[j]? = some x → w.cell? ⟨bo, off + j, none⟩ = some (cU x) := by
        rcases HV.out with h | h
        · rw [h] at hlt; simp at hlt
        · exact h
      obtain ⟨x, hx⟩ : ∃ x, U[k]? = some x := ⟨U[k], by simp [hlt]⟩
      have r1 : w.cell? ⟨bo, off + k, none⟩ = some (.int .u32 (uI x)) := hc1 k x hx
      have mk : IntKind.i64.wrap ((k : Int) + 1) = (k : Int) + 1 := by have := HL.out; rw [IntKind.wrap_i64]; omega
      have HE : Hid (m + bsN 32 x.toNat = sumW U (k + 1) ∧ sumW U (k + 1) ≤ 3200000000000000) := by
        have h1 := sumW_le U (k + 1)
        have h2 := HL.out
        refine ⟨?_, by omega⟩
        simp only [sumW]
        rw [List.getD_eq_getElem?_getD, hx, Option.getD_some, HM.out]; rfl
      have HK : Hid (k + gk = U.length ∧ k < U.length) := ⟨hk, hlt⟩
      have HX : Hid (uI x = (x.toNat : Int) ∧ x.toNat < 4294967296) := ⟨uI_eq x, x.isLt⟩
      clear hc1 hx hk HM
      go_wp2_with fail
      obtain ⟨gk0, hgk0⟩ : ∃ g, g = gk := ⟨_, rfl⟩
      rw [← hgk0] at HK
      go_loopg [3, 5] 33 (fun g n v wr => wr = w ∧ ∃ (a : Nat) (B : Int), n = .int .i64 (a : Int) ∧ v = .int .u32 B ∧ Hid (∃ b : Nat, B = (b : Int) ∧ bsN 32 b < g ∧ b < 4294967296 ∧ a + bsN 32 b = sumW U (k + 1)))
      case atStart => exact ⟨rfl, m, uI x, rfl, rfl, x.toNat, HX.out.1, by have := bsN_le 32 x.toNat; omega, HX.out.2, HE.out.1⟩
      case round =>
        obtain ⟨hw, a, B, rfl, rfl, HA⟩ := hrel
        replace hw := hw.symm
        subst hw
        obtain ⟨b, hBb, hbg, hb32, hab⟩ := HA.out
        by_cases hz : b = 0
        · have hB0 : B = 0 := by omega
          subst hB0
          have HN : Hid (a = sumW U (k + 1)) := by show _ = _; rw [hz, bsN_zero] at hab; omega
          clear hbg HA hz hBb hb32 hab
          go_wp2_with fail
          go_roundg (gk0 - 1)
          case measure => rw [← hgk0]; have := HK.out; omega
          case rel => exact ⟨rfl, k + 1, a, by have := HK.out; omega, rfl, rfl, HN⟩
        · have hzi : 0 < B := by omega
          have hcl := clear_low 32 b (by omega) (by have : (2 : Nat) ^ 32 = 4294967296 := by decide
                                                    omega)
          obtain ⟨c, hc⟩ : ∃ c, c = b &&& (b - 1) := ⟨_, rfl⟩
          have han := and_pred b (by omega) hb32
          rw [← hc] at hcl han
          have hcb : c ≤ b := by rw [hc]; exact Nat.and_le_left
          obtain ⟨C, hC⟩ : ∃ C : Int, C = (c : Int) := ⟨_, rfl⟩
          rw [← hC, ← hBb] at han
          have HN : Hid (∃ b : Nat, C = (b : Int) ∧ bsN 32 b < gk - 1 ∧ b < 4294967296 ∧ a + 1 + bsN 32 b = sumW U (k + 1)) := ⟨c, hC, by omega, by omega, by omega⟩
          have ma : IntKind.i64.wrap ((a : Int) + 1) = (a : Int) + 1 := by have h2 := HE.out.2; rw [IntKind.wrap_i64]; omega
          have hb1 : B < 4294967296 := by omega
          have HG : Hid (0 < gk) := by show 0 < gk; omega
          clear hc hcl hz hC hBb hbg hb32 hab hcb HA
          go_wp2_with fail
          go_roundg (gk - 1)
          case measure => have := HG.out; omega
          case rel => exact ⟨rfl, a + 1, C, rfl, rfl, HN⟩
    · have hli : ¬ (k : Int) < (U.length : Int) := by omega
      obtain rfl : k = U.length := by omega
      go_wp2_with fail
      go_ret
      exact ⟨by rw [← HM.out]; rfl, rfl⟩
end Go.Proofs.YtjgpbahglkaijaaDoor
namespace Go.Proofs.YtjgpbahglkaijaaDoor
open Go.RowKit
set_option linter.unusedSimpArgs false
set_option linter.unusedVariables false

end Go.Proofs.YtjgpbahglkaijaaDoor
namespace Go.Proofs.YtjgpbahglkaijaaDoor
open Go.RowKit
set_option linter.unusedSimpArgs false
set_option linter.unusedVariables false

def At (w : World) (B : Nat) (x : BitVec 128) : Prop := w.cell? ⟨B, 0, none⟩ = some (.int .u64 (hI x)) ∧ w.cell? ⟨B, 1, none⟩ = some (.int .u64 (lI x)) ∧ w.frozen? ⟨B, 0, none⟩ = false ∧ w.frozen? ⟨B, 1, none⟩ = false ∧ B < w.heap.size
theorem At.below {w w' : World} {B : Nat} {x : BitVec 128} (h : At w B x) (hb : Below w.heap.size w w') : At w' B x := by
  obtain ⟨h0, h1, h2, h3, h4⟩ := h
  obtain ⟨hc, hf⟩ := bcell hb
  exact ⟨by rw [hc _ _ h4]; exact h0, by rw [hc _ _ h4]; exact h1, by rw [hf _ _ h4]; exact h2, by rw [hf _ _ h4]; exact h3, Nat.lt_of_lt_of_le h4 hb.size⟩
theorem At.set {w : World} {B : Nat} {x : BitVec 128} (y : BitVec 128) (h : At w B x) : At ((w.setCell ⟨B, 0, none⟩ (.int .u64 (hI y))).setCell ⟨B, 1, none⟩ (.int .u64 (lI y))) B y := by
  obtain ⟨h0, h1, h2, h3, h4⟩ := h
  refine ⟨?_, ?_, ?_, ?_, ?_⟩ <;> simp [go_sem, *]

end Go.Proofs.YtjgpbahglkaijaaDoor
namespace Go.Proofs.YtjgpbahglkaijaaDoor
open Go.RowKit
set_option linter.unusedSimpArgs false
set_option linter.unusedVariables false

end Go.Proofs.YtjgpbahglkaijaaDoor
namespace Go.Proofs.YtjgpbahglkaijaaDoor
open Go.RowKit
set_option linter.unusedSimpArgs false
set_option linter.unusedVariables false

end Go.Proofs.YtjgpbahglkaijaaDoor
namespace Go.Proofs.YtjgpbahglkaijaaDoor
open Go.RowKit
set_option linter.unusedSimpArgs false
set_option linter.unusedVariables false

end Go.Proofs.YtjgpbahglkaijaaDoor
namespace Go.Proofs.YtjgpbahglkaijaaDoor
open Go.RowKit
set_option linter.unusedSimpArgs false
set_option linter.unusedVariables false

def fam (F : Int) : Bool := decide (F = 32) || decide (F = 128)
end Go.Proofs.YtjgpbahglkaijaaDoor
namespace Go.Proofs.YtjgpbahglkaijaaDoor
open Go.RowKit
set_option linter.unusedSimpArgs false
set_option linter.unusedVariables false

end Go.Proofs.YtjgpbahglkaijaaDoor
namespace Go.Proofs.YtjgpbahglkaijaaDoor
open Go.RowKit
set_option linter.unusedSimpArgs false
set_option linter.unusedVariables false

def AtP (w : World) (B : Nat) (x : BitVec 128) (n : Int) : Prop := w.cell? ⟨B, 0, none⟩ = some (.int .u64 (hI x)) ∧ w.cell? ⟨B, 1, none⟩ = some (.int .u64 (lI x)) ∧ w.cell? ⟨B, 2, none⟩ = some (.int .i64 n) ∧ w.frozen? ⟨B, 0, none⟩ = false ∧ w.frozen? ⟨B, 1, none⟩ = false ∧ w.frozen? ⟨B, 2, none⟩ = false
theorem AtP.below {w w' : World} {B : Nat} {x : BitVec 128} {n : Int} (h : AtP w B x n) (hb : Below w.heap.size w w') : AtP w' B x n := by
  obtain ⟨h0, h1, h2, h3, h4, h5⟩ := h
  exact ⟨keepc hb h0, keepc hb h1, keepc hb h2, keepf hb h0 h3, keepf hb h1 h4, keepf hb h2 h5⟩
end Go.Proofs.YtjgpbahglkaijaaDoor
namespace Go.Proofs.YtjgpbahglkaijaaDoor
open Go.RowKit
set_option linter.unusedSimpArgs false
set_option linter.unusedVariables false

end Go.Proofs.YtjgpbahglkaijaaDoor
namespace Go.Proofs.YtjgpbahglkaijaaDoor
open Go.RowKit
set_option linter.unusedSimpArgs false
set_option linter.unusedVariables false

structure Rn where
  f : BitVec 128
  k : Bool
  n : Int
structure Nde where
  b : Int
  r : List Rn
def RnAt (w : World) (b o : Nat) (r : Rn) : Prop := w.cell? ⟨b, o, none⟩ = some (.int .u64 (hI r.f)) ∧ w.cell? ⟨b, o + 1, none⟩ = some (.int .u64 (lI r.f)) ∧ w.cell? ⟨b, o + 2, none⟩ = some (.bool r.k) ∧ w.cell? ⟨b, o + 3, none⟩ = some (.int .i64 r.n)
theorem RnAt.below {w w' : World} {b o : Nat} {r : Rn} (h : RnAt w b o r) (hb : Below w.heap.size w w') : RnAt w' b o r := ⟨keepc hb h.1, keepc hb h.2.1, keepc hb h.2.2.1, keepc hb h.2.2.2⟩
def RwN (w : World) (v : Value) (l : List Rn) : Prop := ∃ ao c, v = .slice ao l.length c ∧ l.length ≤ c ∧ (l = [] ∨ ∃ b off, ao = some ⟨b, off, none⟩ ∧ ∀ j r, l[j]? = some r → RnAt w b (off + j * 4) r)
theorem RwN.below {w w' : World} {v : Value} {l : List Rn} (h : RwN w v l) (hb : Below w.heap.size w w') : RwN w' v l := by
  obtain ⟨ao, c, e, hc, h⟩ := h
  refine ⟨ao, c, e, hc, h.imp id ?_⟩
  rintro ⟨b, off, e, h⟩
  exact ⟨b, off, e, fun j r hj => (h j r hj).below hb⟩
def RwD (w : World) (v : Value) (L : List Nde) : Prop := ∃ ao c, v = .slice ao L.length c ∧ L.length ≤ c ∧ (L = [] ∨ ∃ b off, ao = some ⟨b, off, none⟩ ∧ ∀ j d, L[j]? = some d → ∃ vr, w.cell? ⟨b, off + j * 2, none⟩ = some (.int .i64 d.b) ∧ w.cell? ⟨b, off + j * 2 + 1, none⟩ = some vr ∧ RwN w vr d.r)
theorem RwD.below {w w' : World} {v : Value} {L : List Nde} (h : RwD w v L) (hb : Below w.heap.size w w') : RwD w' v L := by
  obtain ⟨ao, c, e, hc, h⟩ := h
  refine ⟨ao, c, e, hc, h.imp id ?_⟩
  rintro ⟨b, off, e, h⟩
  refine ⟨b, off, e, fun j d hj => ?_⟩
  obtain ⟨vr, h1, h2, h3⟩ := h j d hj
  exact ⟨vr, keepc hb h1, keepc hb h2, h3.below hb⟩
def smR (r s : Rn) : Bool := (r.k == s.k) && (r.n == s.n)
end Go.Proofs.YtjgpbahglkaijaaDoor
namespace Go.Proofs.YtjgpbahglkaijaaDoor
open Go.RowKit
set_option linter.unusedSimpArgs false
set_option linter.unusedVariables false
attribute [local go_sem] Oper.semAt_some

def adjG : List Rn → Bool
  | a :: b :: t => (decide (cmpZ a.f b.f < 0) && !smR a b) && adjG (b :: t)
  | _ => true
def ioB (d : Nde) : Bool := match d.r.head?, d.r.getLast? with
  | some a, some z => (a.f == 0#128) && (adjG d.r && (z.f >>> d.b.toNat == 0#128))
  | _, _ => false
def AtD (w : World) (B : Nat) (b : Int) (v : Value) : Prop := w.cell? ⟨B, 0, none⟩ = some (.int .i64 b) ∧ w.cell? ⟨B, 1, none⟩ = some v
theorem AtD.below {w w' : World} {B : Nat} {b : Int} {v : Value} (h : AtD w B b v) (hb : Below w.heap.size w w') : AtD w' B b v := ⟨keepc hb h.1, keepc hb h.2⟩
end Go.Proofs.YtjgpbahglkaijaaDoor
namespace Go.Proofs.YtjgpbahglkaijaaDoor
open Go.RowKit
set_option linter.unusedSimpArgs false
set_option linter.unusedVariables false
attribute [local go_sem] Oper.semAt_some

end Go.Proofs.YtjgpbahglkaijaaDoor
namespace Go.Proofs.YtjgpbahglkaijaaDoor
open Go.RowKit Go.Shelf
set_option linter.unusedSimpArgs false
set_option linter.unusedVariables false
attribute [local go_sem] Oper.semAt_some

end Go.Proofs.YtjgpbahglkaijaaDoor
