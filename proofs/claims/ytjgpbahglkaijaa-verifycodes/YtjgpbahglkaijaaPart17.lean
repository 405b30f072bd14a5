/-
  Part 17 of the proof: 27 texts, one behind the other.
-/
import Derived.Test.YtjgpbahglkaijaaPart16
import Derived.Test.YtjgpbahglkaijaaPart6
import Derived.Test.YtjgpbahglkaijaaPart5
import Derived.Test.YtjgpbahglkaijaaPart1
import Derived.Test.YtjgpbahglkaijaaPart4
import Derived.Deep.CutBlock
import Derived.Deep.DeepCutAuto
import Derived.Deep.RegionHeld3
import Derived.BigQuiet
import Derived.WalkMore
import Derived.Deep.LoopGhost
import Derived.Test.YtjgpbahglkaijaaPart10
namespace Go.Proofs.Ytjgpbahglkaijaa
open Go.RowKit
set_option linter.unusedSimpArgs false
set_option linter.unusedVariables false

set_option maxRecDepth 100000 in
set_option maxHeartbeats 16000000 in
theorem rdecode_in (v : Value) (l : List Nat) (k : Nat) (w : World) (hv : RwX cB w v l) (hl : l.length ≤ 100000) (hx : ∀ b ∈ l, b < 256) (hk : k < l.length / 4) :
    Calls Try.prog 29 #[v, .int .i64 (k : Int)] w fun e w' => ∃ v', e = .returned (.tuple #[insV (dcI l (k : Int)) v', .int .i64 (dcZ l (k : Int)), .int .i64 (dcE l (k : Int))]) ∧ w'.ownsRow w.heap.size 110 1 v' (dcI l (k : Int)).m.length ((dcI l (k : Int)).m.map cU) ∧ Below w.heap.size w w' := by
  obtain ⟨ao, cc, hvf, -⟩ := id hv
  have q1 := bl1 w (.cells #[.int .i64 0, .int .i64 0, .slice none 0 0] 75)
  have K1 := rget13 v l (4 * (k : Int)) 4 4 rfl (by decide) (by decide) _ (hv.below q1) (by omega) hx (by omega) (by omega)
  have hyes : 0 ≤ 4 * (k : Int) ∧ 4 * (k : Int) ≤ (l.length : Int) - ((4 : Nat) : Int) := ⟨by omega, by omega⟩
  have e1 : ((gtN l (4 * (k : Int)) 4 : Nat) : Int) = uI (wdV l k) := by
    rw [wd_uI l k hx]
    unfold gtN
    rw [if_pos hyes, show (4 * (k : Int)).toNat = 4 * k by omega]
  rw [decide_eq_true hyes, e1] at K1
  obtain ⟨A4, hA4⟩ : ∃ A4 : Nat, 4 * (k : Int) = (A4 : Int) := ⟨4 * k, by omega⟩
  have mw : IntKind.i64.wrap (4 * (k : Int)) = (A4 : Int) := by rw [IntKind.wrap_i64]; omega
  rw [hA4] at K1
  have HV := hid13 hv
  have HX := hid13 hx
  have HK : Hid (k < l.length / 4 ∧ l.length ≤ 100000) := ⟨hk, hl⟩
  have hX0 := uI_lo (wdV l k)
  have hX1 := uI_up (wdV l k)
  have han := and24 (wdV l k)
  obtain ⟨X, hX⟩ : ∃ X, X = uI (wdV l k) := ⟨_, rfl⟩
  obtain ⟨O, hO⟩ : ∃ O : Nat, (O : Int) = insO l k := ⟨(insO l k).toNat, by unfold insO; omega⟩
  obtain ⟨N, hN⟩ : ∃ N : Nat, (N : Int) = insN l k := ⟨(insN l k).toNat, by unfold insN; omega⟩
  have HR : Hid (rdP l k = if isOp (O : Int) = true then (if (N : Int) ≤ kRm (O : Int) then (if tkB (O : Int) (N : Int) = true then (if (O : Int) = 2 then rmP l (k + 1) N else ([], (0 : Int))) else ([], 1)) else ([], 24)) else ([], 24)) := by
    show _ = _
    unfold rdP
    rw [← hO, ← hN, Int.toNat_natCast]
  have HQ : Hid (((O : Nat) : Int) = insO l k ∧ ((N : Nat) : Int) = insN l k) := ⟨hO, hN⟩
  have x1 : X / 16777216 = (O : Int) := by rw [hX, hO]; rfl
  have x2 : bits .and .u32 X 16777215 = (N : Int) := by rw [hX, han, hN]; rfl
  have hNb : (N : Int) < 16777216 := by rw [hN]; unfold insN; omega
  have hOw : IntKind.i64.wrap (O : Int) = (O : Int) := by rw [IntKind.wrap_i64]; have : (O : Int) < 256 := by rw [hO]; unfold insO; omega
                                                          omega
  have hNw : IntKind.i64.wrap (N : Int) = (N : Int) := by rw [IntKind.wrap_i64]; omega
  rw [← hX] at K1
  have d0 : ¬ (k : Int) < 0 := by omega
  have d1 : ¬ (l.length : Int) ≤ (k : Int) := by omega
  subst hvf
  have HNb := hid13 hNb
  have HAnd : Hid (∀ W : World, (binOp .and 110 (.int .u32 X) (.int .u32 16777215)).run Try.prog W = .ok (.int .u32 (N : Int)) W) := by
    intro W
    rw [binOp_and]
    show Result.ok (Value.int .u32 (bits .and .u32 X 16777215)) W = _
    rw [x2]
  clear hyes e1 hv hx hX han q1 hO hN hNb hl hk hX0 hX1 hA4 x2
  cases ho : isOp (O : Int) with
  | false =>
    have HR2 : Hid (rdP l k = ([], 24)) := by show _ = _; rw [HR.out, if_neg (by rw [ho]; decide)]
    obtain ⟨h1, h2, h3, h4⟩ := isOp_none ho
    clear ho HR
    go_enter Try.func29, Try.ntmps29
    go_wp2_with (first | (go_at_call 50; refine K1.mono ?_; rintro e w2 ⟨rfl, hw2⟩; replace hw2 := hw2.symm; subst hw2) | (with_reducible apply stopAnd14))
    refine (show wpList _ _ _ _ _ _ from ?_)
    refine sw_run14 (v := .int .u32 (N : Int)) rfl (ex14b (HAnd.out _)) ?_
    simp only [Act.put, List.setIfInBounds_toArray, List.set_cons_zero, List.set_cons_succ]
    clear HAnd HNb K1
    go_wp2_with fail
    exact bodyPost_ret (v := .tuple #[.agg #[.int .i64 0, .int .i64 0, .slice none 0 0], .int .i64 0, .int .i64 24]) (by simp [results, Try.results29, go_sem]) rfl (rd_fin l k w HK.out.1 24 [] (by decide) HR2.out _ (keepb (bl1 _ _) (bl1 _ _)))
  | true =>
    have hR1 := HR.out
    rw [if_pos ho] at hR1
    rcases isOp_cases ho with hO1 | hO1 | hO1 | hO1
    · obtain rfl : O = 1 := by omega
      have cO : ((1 : Nat) : Int) = 1 := rfl
      rw [cO] at x1 HQ hR1 hOw
      clear ho HR hO1
      rw [show kRm (1 : Int) = 255 from rfl] at hR1
      by_cases r1 : (N : Int) ≤ 255
      · rw [if_pos r1] at hR1
        have r2 : ¬ 255 < (N : Int) := by omega
        by_cases t1 : (N : Int) < 1
        · rw [if_neg (by have := HNb.out; unfold tkB kLo kHi; simp; omega)] at hR1
          have HR2 : Hid (rdP l k = ([], 1)) := hR1
          clear hR1
          go_enter Try.func29, Try.ntmps29
          go_wp2_with (first | (go_at_call 50; refine K1.mono ?_; rintro e w2 ⟨rfl, hw2⟩; replace hw2 := hw2.symm; subst hw2) | (with_reducible apply stopAnd14))
          refine (show wpList _ _ _ _ _ _ from ?_)
          refine sw_run14 (v := .int .u32 (N : Int)) rfl (ex14b (HAnd.out _)) ?_
          simp only [Act.put, List.setIfInBounds_toArray, List.set_cons_zero, List.set_cons_succ]
          clear HAnd HNb K1
          go_wp2_with fail
          exact bodyPost_ret (v := .tuple #[.agg #[.int .i64 0, .int .i64 0, .slice none 0 0], .int .i64 0, .int .i64 1]) (by simp [results, Try.results29, go_sem]) rfl (rd_fin l k w HK.out.1 1 [] (by decide) HR2.out _ (keepb (bl1 _ _) (bl1 _ _)))
        by_cases t2 : 24 < (N : Int)
        · rw [if_neg (by have := HNb.out; unfold tkB kLo kHi; simp; omega)] at hR1
          have HR2 : Hid (rdP l k = ([], 1)) := hR1
          clear hR1
          go_enter Try.func29, Try.ntmps29
          go_wp2_with (first | (go_at_call 50; refine K1.mono ?_; rintro e w2 ⟨rfl, hw2⟩; replace hw2 := hw2.symm; subst hw2) | (with_reducible apply stopAnd14))
          refine (show wpList _ _ _ _ _ _ from ?_)
          refine sw_run14 (v := .int .u32 (N : Int)) rfl (ex14b (HAnd.out _)) ?_
          simp only [Act.put, List.setIfInBounds_toArray, List.set_cons_zero, List.set_cons_succ]
          clear HAnd HNb K1
          go_wp2_with fail
          exact bodyPost_ret (v := .tuple #[.agg #[.int .i64 0, .int .i64 0, .slice none 0 0], .int .i64 0, .int .i64 1]) (by simp [results, Try.results29, go_sem]) rfl (rd_fin l k w HK.out.1 1 [] (by decide) HR2.out _ (keepb (bl1 _ _) (bl1 _ _)))
        rw [if_pos (by have := HNb.out; unfold tkB kLo kHi; simp; omega)] at hR1
        rw [if_neg (by decide)] at hR1
        have HR2 : Hid (rdP l k = ([], 0)) := hR1
        clear hR1
        go_enter Try.func29, Try.ntmps29
        go_wp2_with (first | (go_at_call 50; refine K1.mono ?_; rintro e w2 ⟨rfl, hw2⟩; replace hw2 := hw2.symm; subst hw2) | (with_reducible apply stopAnd14))
        refine (show wpList _ _ _ _ _ _ from ?_)
        refine sw_run14 (v := .int .u32 (N : Int)) rfl (ex14b (HAnd.out _)) ?_
        simp only [Act.put, List.setIfInBounds_toArray, List.set_cons_zero, List.set_cons_succ]
        clear HAnd HNb K1
        go_wp2_with fail
        obtain ⟨g1, g2, g3⟩ := dc_ok HK.out.1 HR2.out
        exact bodyPost_ret (v := .tuple #[.agg #[.int .i64 1, .int .i64 (N : Int), .slice none 0 0], .int .i64 1, .int .i64 0]) (by simp [results, Try.results29, go_sem]) rfl ⟨.slice none 0 0, by rw [g1, g2, g3, ← HQ.out.1, ← HQ.out.2]; rfl, by rw [g1]; exact World.ownsRow_nil _ _ _ _, keepb (bl1 _ _) (bl1 _ _)⟩
      · rw [if_neg r1] at hR1
        have r2 : 255 < (N : Int) := by omega
        have HR2 : Hid (rdP l k = ([], 24)) := hR1
        clear hR1
        go_enter Try.func29, Try.ntmps29
        go_wp2_with (first | (go_at_call 50; refine K1.mono ?_; rintro e w2 ⟨rfl, hw2⟩; replace hw2 := hw2.symm; subst hw2) | (with_reducible apply stopAnd14))
        refine (show wpList _ _ _ _ _ _ from ?_)
        refine sw_run14 (v := .int .u32 (N : Int)) rfl (ex14b (HAnd.out _)) ?_
        simp only [Act.put, List.setIfInBounds_toArray, List.set_cons_zero, List.set_cons_succ]
        clear HAnd HNb K1
        go_wp2_with fail
        exact bodyPost_ret (v := .tuple #[.agg #[.int .i64 0, .int .i64 0, .slice none 0 0], .int .i64 0, .int .i64 24]) (by simp [results, Try.results29, go_sem]) rfl (rd_fin l k w HK.out.1 24 [] (by decide) HR2.out _ (keepb (bl1 _ _) (bl1 _ _)))
    · obtain rfl : O = 2 := by omega
      have cO : ((2 : Nat) : Int) = 2 := rfl
      rw [cO] at x1 HQ hR1 hOw
      clear ho HR hO1
      rw [show kRm (2 : Int) = 255 from rfl] at hR1
      by_cases r1 : (N : Int) ≤ 255
      · rw [if_pos r1] at hR1
        have r2 : ¬ 255 < (N : Int) := by omega
        by_cases t1 : (N : Int) < 1
        · rw [if_neg (by have := HNb.out; unfold tkB kLo kHi; simp; omega)] at hR1
          have HR2 : Hid (rdP l k = ([], 1)) := hR1
          clear hR1
          go_enter Try.func29, Try.ntmps29
          go_wp2_with (first | (go_at_call 50; refine K1.mono ?_; rintro e w2 ⟨rfl, hw2⟩; replace hw2 := hw2.symm; subst hw2) | (with_reducible apply stopAnd14))
          refine (show wpList _ _ _ _ _ _ from ?_)
          refine sw_run14 (v := .int .u32 (N : Int)) rfl (ex14b (HAnd.out _)) ?_
          simp only [Act.put, List.setIfInBounds_toArray, List.set_cons_zero, List.set_cons_succ]
          clear HAnd HNb K1
          go_wp2_with fail
          exact bodyPost_ret (v := .tuple #[.agg #[.int .i64 0, .int .i64 0, .slice none 0 0], .int .i64 0, .int .i64 1]) (by simp [results, Try.results29, go_sem]) rfl (rd_fin l k w HK.out.1 1 [] (by decide) HR2.out _ (keepb (bl1 _ _) (bl1 _ _)))
        by_cases t2 : 24 < (N : Int)
        · rw [if_neg (by have := HNb.out; unfold tkB kLo kHi; simp; omega)] at hR1
          have HR2 : Hid (rdP l k = ([], 1)) := hR1
          clear hR1
          go_enter Try.func29, Try.ntmps29
          go_wp2_with (first | (go_at_call 50; refine K1.mono ?_; rintro e w2 ⟨rfl, hw2⟩; replace hw2 := hw2.symm; subst hw2) | (with_reducible apply stopAnd14))
          refine (show wpList _ _ _ _ _ _ from ?_)
          refine sw_run14 (v := .int .u32 (N : Int)) rfl (ex14b (HAnd.out _)) ?_
          simp only [Act.put, List.setIfInBounds_toArray, List.set_cons_zero, List.set_cons_succ]
          clear HAnd HNb K1
          go_wp2_with fail
          exact bodyPost_ret (v := .tuple #[.agg #[.int .i64 0, .int .i64 0, .slice none 0 0], .int .i64 0, .int .i64 1]) (by simp [results, Try.results29, go_sem]) rfl (rd_fin l k w HK.out.1 1 [] (by decide) HR2.out _ (keepb (bl1 _ _) (bl1 _ _)))
        rw [if_pos (by have := HNb.out; unfold tkB kLo kHi; simp; omega)] at hR1
        rw [if_pos rfl] at hR1
        exact rdecode_map (.slice ao l.length cc) l k N w HV.out HK.out.2 HX.out HK.out.1 HQ.out.1.symm HQ.out.2.symm (by omega) (by omega)
      · rw [if_neg r1] at hR1
        have r2 : 255 < (N : Int) := by omega
        have HR2 : Hid (rdP l k = ([], 24)) := hR1
        clear hR1
        go_enter Try.func29, Try.ntmps29
        go_wp2_with (first | (go_at_call 50; refine K1.mono ?_; rintro e w2 ⟨rfl, hw2⟩; replace hw2 := hw2.symm; subst hw2) | (with_reducible apply stopAnd14))
        refine (show wpList _ _ _ _ _ _ from ?_)
        refine sw_run14 (v := .int .u32 (N : Int)) rfl (ex14b (HAnd.out _)) ?_
        simp only [Act.put, List.setIfInBounds_toArray, List.set_cons_zero, List.set_cons_succ]
        clear HAnd HNb K1
        go_wp2_with fail
        exact bodyPost_ret (v := .tuple #[.agg #[.int .i64 0, .int .i64 0, .slice none 0 0], .int .i64 0, .int .i64 24]) (by simp [results, Try.results29, go_sem]) rfl (rd_fin l k w HK.out.1 24 [] (by decide) HR2.out _ (keepb (bl1 _ _) (bl1 _ _)))
    · obtain rfl : O = 3 := by omega
      have cO : ((3 : Nat) : Int) = 3 := rfl
      rw [cO] at x1 HQ hR1 hOw
      clear ho HR hO1
      rw [show kRm (3 : Int) = 16777215 from rfl] at hR1
      rw [if_pos (by have := HNb.out; omega)] at hR1
      by_cases t1 : (N : Int) < 1
      · rw [if_neg (by have := HNb.out; unfold tkB kLo kHi; simp; omega)] at hR1
        have HR2 : Hid (rdP l k = ([], 1)) := hR1
        clear hR1
        go_enter Try.func29, Try.ntmps29
        go_wp2_with (first | (go_at_call 50; refine K1.mono ?_; rintro e w2 ⟨rfl, hw2⟩; replace hw2 := hw2.symm; subst hw2) | (with_reducible apply stopAnd14))
        refine (show wpList _ _ _ _ _ _ from ?_)
        refine sw_run14 (v := .int .u32 (N : Int)) rfl (ex14b (HAnd.out _)) ?_
        simp only [Act.put, List.setIfInBounds_toArray, List.set_cons_zero, List.set_cons_succ]
        clear HAnd HNb K1
        go_wp2_with fail
        exact bodyPost_ret (v := .tuple #[.agg #[.int .i64 0, .int .i64 0, .slice none 0 0], .int .i64 0, .int .i64 1]) (by simp [results, Try.results29, go_sem]) rfl (rd_fin l k w HK.out.1 1 [] (by decide) HR2.out _ (keepb (bl1 _ _) (bl1 _ _)))
      rw [if_pos (by have := HNb.out; unfold tkB kLo kHi; simp; omega)] at hR1
      rw [if_neg (by decide)] at hR1
      have HR2 : Hid (rdP l k = ([], 0)) := hR1
      clear hR1
      go_enter Try.func29, Try.ntmps29
      go_wp2_with (first | (go_at_call 50; refine K1.mono ?_; rintro e w2 ⟨rfl, hw2⟩; replace hw2 := hw2.symm; subst hw2) | (with_reducible apply stopAnd14))
      refine (show wpList _ _ _ _ _ _ from ?_)
      refine sw_run14 (v := .int .u32 (N : Int)) rfl (ex14b (HAnd.out _)) ?_
      simp only [Act.put, List.setIfInBounds_toArray, List.set_cons_zero, List.set_cons_succ]
      clear HAnd HNb K1
      go_wp2_with fail
      obtain ⟨g1, g2, g3⟩ := dc_ok HK.out.1 HR2.out
      exact bodyPost_ret (v := .tuple #[.agg #[.int .i64 3, .int .i64 (N : Int), .slice none 0 0], .int .i64 1, .int .i64 0]) (by simp [results, Try.results29, go_sem]) rfl ⟨.slice none 0 0, by rw [g1, g2, g3, ← HQ.out.1, ← HQ.out.2]; rfl, by rw [g1]; exact World.ownsRow_nil _ _ _ _, keepb (bl1 _ _) (bl1 _ _)⟩
    · obtain rfl : O = 4 := by omega
      have cO : ((4 : Nat) : Int) = 4 := rfl
      rw [cO] at x1 HQ hR1 hOw
      clear ho HR hO1
      rw [show kRm (4 : Int) = 65535 from rfl] at hR1
      by_cases r1 : (N : Int) ≤ 65535
      · rw [if_pos r1] at hR1
        have r2 : ¬ 65535 < (N : Int) := by omega
        rw [if_pos (by have := HNb.out; unfold tkB kLo kHi; simp; omega), if_neg (by decide)] at hR1
        have HR2 : Hid (rdP l k = ([], 0)) := hR1
        clear hR1
        go_enter Try.func29, Try.ntmps29
        go_wp2_with (first | (go_at_call 50; refine K1.mono ?_; rintro e w2 ⟨rfl, hw2⟩; replace hw2 := hw2.symm; subst hw2) | (with_reducible apply stopAnd14))
        refine (show wpList _ _ _ _ _ _ from ?_)
        refine sw_run14 (v := .int .u32 (N : Int)) rfl (ex14b (HAnd.out _)) ?_
        simp only [Act.put, List.setIfInBounds_toArray, List.set_cons_zero, List.set_cons_succ]
        clear HAnd HNb K1
        go_wp2_with fail
        obtain ⟨g1, g2, g3⟩ := dc_ok HK.out.1 HR2.out
        exact bodyPost_ret (v := .tuple #[.agg #[.int .i64 4, .int .i64 (N : Int), .slice none 0 0], .int .i64 1, .int .i64 0]) (by simp [results, Try.results29, go_sem]) rfl ⟨.slice none 0 0, by rw [g1, g2, g3, ← HQ.out.1, ← HQ.out.2]; rfl, by rw [g1]; exact World.ownsRow_nil _ _ _ _, keepb (bl1 _ _) (bl1 _ _)⟩
      · rw [if_neg r1] at hR1
        have r2 : 65535 < (N : Int) := by omega
        have HR2 : Hid (rdP l k = ([], 24)) := hR1
        clear hR1
        go_enter Try.func29, Try.ntmps29
        go_wp2_with (first | (go_at_call 50; refine K1.mono ?_; rintro e w2 ⟨rfl, hw2⟩; replace hw2 := hw2.symm; subst hw2) | (with_reducible apply stopAnd14))
        refine (show wpList _ _ _ _ _ _ from ?_)
        refine sw_run14 (v := .int .u32 (N : Int)) rfl (ex14b (HAnd.out _)) ?_
        simp only [Act.put, List.setIfInBounds_toArray, List.set_cons_zero, List.set_cons_succ]
        clear HAnd HNb K1
        go_wp2_with fail
        exact bodyPost_ret (v := .tuple #[.agg #[.int .i64 0, .int .i64 0, .slice none 0 0], .int .i64 0, .int .i64 24]) (by simp [results, Try.results29, go_sem]) rfl (rd_fin l k w HK.out.1 24 [] (by decide) HR2.out _ (keepb (bl1 _ _) (bl1 _ _)))
end Go.Proofs.Ytjgpbahglkaijaa
namespace Go.Proofs.Ytjgpbahglkaijaa
open Go.RowKit
set_option linter.unusedSimpArgs false
set_option linter.unusedVariables false

def TwI (W : World) (B : Nat) (i j : Ins) (v u : Value) : Prop := AtI W B i.op i.n v ∧ AtI W (B + 1) j.op j.n u ∧ RwX cU W v i.m ∧ RwX cU W u j.m
theorem TwI.below {W W' : World} {B : Nat} {i j : Ins} {v u : Value} (h : TwI W B i j v u) (hb : Below W.heap.size W W') : TwI W' B i j v u := ⟨h.1.below hb, h.2.1.below hb, h.2.2.1.below hb, h.2.2.2.below hb⟩
end Go.Proofs.Ytjgpbahglkaijaa
namespace Go.Proofs.Ytjgpbahglkaijaa
open Go.RowKit
set_option linter.unusedSimpArgs false
set_option linter.unusedVariables false

end Go.Proofs.Ytjgpbahglkaijaa
namespace Go.Proofs.Ytjgpbahglkaijaa
open Go.RowKit
set_option linter.unusedSimpArgs false
set_option linter.unusedVariables false

end Go.Proofs.Ytjgpbahglkaijaa
namespace Go.Proofs.Ytjgpbahglkaijaa
open Go.RowKit
set_option linter.unusedSimpArgs false
set_option linter.unusedVariables false

theorem rdecode14 (v : Value) (l : List Nat) (a : Int) (w : World) (hv : RwX cB w v l) (hl : l.length ≤ 100000) (hx : ∀ b ∈ l, b < 256) :
    Calls Try.prog 29 #[v, .int .i64 a] w fun e w' => ∃ v', e = .returned (.tuple #[insV (dcI l a) v', .int .i64 (dcZ l a), .int .i64 (dcE l a)]) ∧ w'.ownsRow w.heap.size 110 1 v' (dcI l a).m.length ((dcI l a).m.map cU) ∧ Below w.heap.size w w' := by
  cases hs : stB l.length a 1 with
  | false => exact rdecode_out v l a w hv hl hx hs
  | true =>
    have h2 : 0 ≤ a ∧ a.toNat < l.length / 4 := by unfold stB at hs; simp at hs; constructor <;> omega
    obtain ⟨k, rfl⟩ : ∃ k : Nat, a = (k : Int) := ⟨a.toNat, by omega⟩
    rw [Int.toNat_natCast] at h2
    exact rdecode_in v l k w hv hl hx h2.2
theorem dcI_len14 (l : List Nat) (a : Int) : (dcI l a).m.length ≤ 524288 := by
  unfold dcI
  split
  · exact rdP_len _ _
  · simp
end Go.Proofs.Ytjgpbahglkaijaa
namespace Go.Proofs.Ytjgpbahglkaijaa
open Go.RowKit
set_option linter.unusedSimpArgs false
set_option linter.unusedVariables false

end Go.Proofs.Ytjgpbahglkaijaa
namespace Go.Proofs.Ytjgpbahglkaijaa
open Go.RowKit
set_option linter.unusedSimpArgs false
set_option linter.unusedVariables false

end Go.Proofs.Ytjgpbahglkaijaa
namespace Go.Proofs.Ytjgpbahglkaijaa
open Go.RowKit
set_option linter.unusedSimpArgs false
set_option linter.unusedVariables false

end Go.Proofs.Ytjgpbahglkaijaa
namespace Go.Proofs.Ytjgpbahglkaijaa
open Go.RowKit
set_option linter.unusedSimpArgs false
set_option linter.unusedVariables false

section
variable {W W' : World} {S k : Nat} {f : Nat → BitVec 32}
end
end Go.Proofs.Ytjgpbahglkaijaa
namespace Go.Proofs.Ytjgpbahglkaijaa
open Go.RowKit
set_option linter.unusedSimpArgs false
set_option linter.unusedVariables false

end Go.Proofs.Ytjgpbahglkaijaa
namespace Go.Proofs.Ytjgpbahglkaijaa
open Go.RowKit
set_option linter.unusedSimpArgs false
set_option linter.unusedVariables false

theorem and_pred (n : Nat) (h0 : 0 < n) (h : n < 4294967296) : bits .and .u32 (n : Int) ((n : Int) - 1) = ((n &&& (n - 1) : Nat) : Int) := by
  have h1 : (n : Int) = uI (BitVec.ofNat 32 n) := lit32 n h
  have h2 : (n : Int) - 1 = uI (BitVec.ofNat 32 (n - 1)) := by rw [uI_of _ (by omega)]; omega
  rw [h2, h1, and32, uI_eq, BitVec.toNat_and, BitVec.toNat_ofNat, BitVec.toNat_ofNat]
  have h3 : (2 : Nat) ^ 32 = 4294967296 := by decide
  rw [h3, Nat.mod_eq_of_lt h, Nat.mod_eq_of_lt (by omega)]
set_option maxRecDepth 100000 in
set_option maxHeartbeats 8000000 in
theorem rones13 (v : Value) (U : List (BitVec 32)) (w : World) (hv : RwX cU w v U) (hl : U.length ≤ 100000000000000) :
    Calls Try.prog 73 #[v] w fun e w' => e = .returned (.int .i64 ((sumW U U.length : Nat) : Int)) ∧ w' = w := by
  obtain ⟨ao, cc, rfl, -, hv⟩ := hv
  have HV := hid13 hv
  have HL := hid13 hl
  clear hv hl
  go_enter Try.func73, Try.ntmps73
  go_wp2_with fail
  go_loopg [3, 4, 5] U.length (fun g n i x wr => wr = w ∧ ∃ k m : Nat, k + g = U.length ∧ i = .int .i64 (k : Int) ∧ n = .int .i64 (m : Int) ∧ Hid (m = sumW U k))
  case atStart => exact ⟨rfl, 0, 0, by omega, rfl, rfl, rfl⟩
  case round =>
    obtain ⟨hw, k, m, hk, rfl, rfl, HM⟩ := hrel
    replace hw := hw.symm
    subst hw
    by_cases hlt : k < U.length
    · have hli : (k : Int) < (U.length : Int) := by omega
      obtain ⟨bo, off, rfl, hc1⟩ : ∃ bo off, ao = some ⟨bo, off, none⟩ ∧ ∀ j x, U[j]? = some x → w.cell? ⟨bo, off + j, none⟩ = some (cU x) := by
        rcases HV.out with h | h
        · rw [h] at hlt; simp at hlt
        · exact h
      obtain ⟨x, hx⟩ : ∃ x, U[k]? = some x := ⟨U[k], by simp [hlt]⟩
      have r1 : w.cell? ⟨bo, off + k, none⟩ = some (.int .u32 (uI x)) := hc1 k x hx
      have mk : IntKind.i64.wrap ((k : Int) + 1) = (k : Int) + 1 := by have := HL.out; rw [IntKind.wrap_i64]; omega
      have HE : Hid (m + bsN 32 x.toNat = sumW U (k + 1) ∧ sumW U (k + 1) ≤ 3200000000000000) := by
        have h1 := sumW_le U (k + 1)
        have h2 := HL.out
        refine ⟨?_, by omega⟩
        simp only [sumW]
        rw [List.getD_eq_getElem?_getD, hx, Option.getD_some, HM.out]; rfl
      have HK : Hid (k + gk = U.length ∧ k < U.length) := ⟨hk, hlt⟩
      have HX : Hid (uI x = (x.toNat : Int) ∧ x.toNat < 4294967296) := ⟨uI_eq x, x.isLt⟩
      clear hc1 hx hk HM
      go_wp2_with fail
      obtain ⟨gk0, hgk0⟩ : ∃ g, g = gk := ⟨_, rfl⟩
      rw [← hgk0] at HK
      go_loopg [3, 5] 33 (fun g n v wr => wr = w ∧ ∃ (a : Nat) (B : Int), n = .int .i64 (a : Int) ∧ v = .int .u32 B ∧ Hid (∃ b : Nat, B = (b : Int) ∧ bsN 32 b < g ∧ b < 4294967296 ∧ a + bsN 32 b = sumW U (k + 1)))
      case atStart => exact ⟨rfl, m, uI x, rfl, rfl, x.toNat, HX.out.1, by have := bsN_le 32 x.toNat; omega, HX.out.2, HE.out.1⟩
      case round =>
        obtain ⟨hw, a, B, rfl, rfl, HA⟩ := hrel
        replace hw := hw.symm
        subst hw
        obtain ⟨b, hBb, hbg, hb32, hab⟩ := HA.out
        by_cases hz : b = 0
        · have hB0 : B = 0 := by omega
          subst hB0
          have HN : Hid (a = sumW U (k + 1)) := by show _ = _; rw [hz, bsN_zero] at hab; omega
          clear hbg HA hz hBb hb32 hab
          go_wp2_with fail
          go_roundg (gk0 - 1)
          case measure => rw [← hgk0]; have := HK.out; omega
          case rel => exact ⟨rfl, k + 1, a, by have := HK.out; omega, rfl, rfl, HN⟩
        · have hzi : 0 < B := by omega
          have hcl := clear_low 32 b (by omega) (by have : (2 : Nat) ^ 32 = 4294967296 := by decide
                                                    omega)
          obtain ⟨c, hc⟩ : ∃ c, c = b &&& (b - 1) := ⟨_, rfl⟩
          have han := and_pred b (by omega) hb32
          rw [← hc] at hcl han
          have hcb : c ≤ b := by rw [hc]; exact Nat.and_le_left
          obtain ⟨C, hC⟩ : ∃ C : Int, C = (c : Int) := ⟨_, rfl⟩
          rw [← hC, ← hBb] at han
          have HN : Hid (∃ b : Nat, C = (b : Int) ∧ bsN 32 b < gk - 1 ∧ b < 4294967296 ∧ a + 1 + bsN 32 b = sumW U (k + 1)) := ⟨c, hC, by omega, by omega, by omega⟩
          have ma : IntKind.i64.wrap ((a : Int) + 1) = (a : Int) + 1 := by have h2 := HE.out.2; rw [IntKind.wrap_i64]; omega
          have hb1 : B < 4294967296 := by omega
          have HG : Hid (0 < gk) := by show 0 < gk; omega
          clear hc hcl hz hC hBb hbg hb32 hab hcb HA
          go_wp2_with fail
          go_roundg (gk - 1)
          case measure => have := HG.out; omega
          case rel => exact ⟨rfl, a + 1, C, rfl, rfl, HN⟩
    · have hli : ¬ (k : Int) < (U.length : Int) := by omega
      obtain rfl : k = U.length := by omega
      go_wp2_with fail
      go_ret
      exact ⟨by rw [← HM.out]; rfl, rfl⟩
end Go.Proofs.Ytjgpbahglkaijaa
namespace Go.Proofs.Ytjgpbahglkaijaa
open Go.RowKit
set_option linter.unusedSimpArgs false
set_option linter.unusedVariables false

end Go.Proofs.Ytjgpbahglkaijaa
namespace Go.Proofs.Ytjgpbahglkaijaa
open Go.RowKit
set_option linter.unusedSimpArgs false
set_option linter.unusedVariables false

def At (w : World) (B : Nat) (x : BitVec 128) : Prop := w.cell? ⟨B, 0, none⟩ = some (.int .u64 (hI x)) ∧ w.cell? ⟨B, 1, none⟩ = some (.int .u64 (lI x)) ∧ w.frozen? ⟨B, 0, none⟩ = false ∧ w.frozen? ⟨B, 1, none⟩ = false ∧ B < w.heap.size
theorem At.below {w w' : World} {B : Nat} {x : BitVec 128} (h : At w B x) (hb : Below w.heap.size w w') : At w' B x := by
  obtain ⟨h0, h1, h2, h3, h4⟩ := h
  obtain ⟨hc, hf⟩ := bcell hb
  exact ⟨by rw [hc _ _ h4]; exact h0, by rw [hc _ _ h4]; exact h1, by rw [hf _ _ h4]; exact h2, by rw [hf _ _ h4]; exact h3, Nat.lt_of_lt_of_le h4 hb.size⟩
theorem At.set {w : World} {B : Nat} {x : BitVec 128} (y : BitVec 128) (h : At w B x) : At ((w.setCell ⟨B, 0, none⟩ (.int .u64 (hI y))).setCell ⟨B, 1, none⟩ (.int .u64 (lI y))) B y := by
  obtain ⟨h0, h1, h2, h3, h4⟩ := h
  refine ⟨?_, ?_, ?_, ?_, ?_⟩ <;> simp [go_sem, *]

end Go.Proofs.Ytjgpbahglkaijaa
namespace Go.Proofs.Ytjgpbahglkaijaa
open Go.RowKit
set_option linter.unusedSimpArgs false
set_option linter.unusedVariables false

end Go.Proofs.Ytjgpbahglkaijaa
namespace Go.Proofs.Ytjgpbahglkaijaa
open Go.RowKit
set_option linter.unusedSimpArgs false
set_option linter.unusedVariables false

end Go.Proofs.Ytjgpbahglkaijaa
namespace Go.Proofs.Ytjgpbahglkaijaa
open Go.RowKit
set_option linter.unusedSimpArgs false
set_option linter.unusedVariables false

end Go.Proofs.Ytjgpbahglkaijaa
namespace Go.Proofs.Ytjgpbahglkaijaa
open Go.RowKit
set_option linter.unusedSimpArgs false
set_option linter.unusedVariables false

def fam (F : Int) : Bool := decide (F = 32) || decide (F = 128)
end Go.Proofs.Ytjgpbahglkaijaa
namespace Go.Proofs.Ytjgpbahglkaijaa
open Go.RowKit
set_option linter.unusedSimpArgs false
set_option linter.unusedVariables false

end Go.Proofs.Ytjgpbahglkaijaa
namespace Go.Proofs.Ytjgpbahglkaijaa
open Go.RowKit
set_option linter.unusedSimpArgs false
set_option linter.unusedVariables false

def AtP (w : World) (B : Nat) (x : BitVec 128) (n : Int) : Prop := w.cell? ⟨B, 0, none⟩ = some (.int .u64 (hI x)) ∧ w.cell? ⟨B, 1, none⟩ = some (.int .u64 (lI x)) ∧ w.cell? ⟨B, 2, none⟩ = some (.int .i64 n) ∧ w.frozen? ⟨B, 0, none⟩ = false ∧ w.frozen? ⟨B, 1, none⟩ = false ∧ w.frozen? ⟨B, 2, none⟩ = false
theorem AtP.below {w w' : World} {B : Nat} {x : BitVec 128} {n : Int} (h : AtP w B x n) (hb : Below w.heap.size w w') : AtP w' B x n := by
  obtain ⟨h0, h1, h2, h3, h4, h5⟩ := h
  exact ⟨keepc hb h0, keepc hb h1, keepc hb h2, keepf hb h0 h3, keepf hb h1 h4, keepf hb h2 h5⟩
end Go.Proofs.Ytjgpbahglkaijaa
namespace Go.Proofs.Ytjgpbahglkaijaa
open Go.RowKit
set_option linter.unusedSimpArgs false
set_option linter.unusedVariables false

end Go.Proofs.Ytjgpbahglkaijaa
namespace Go.Proofs.Ytjgpbahglkaijaa
open Go.RowKit
set_option linter.unusedSimpArgs false
set_option linter.unusedVariables false

structure Rn where
  f : BitVec 128
  k : Bool
  n : Int
structure Nde where
  b : Int
  r : List Rn
def RnAt (w : World) (b o : Nat) (r : Rn) : Prop := w.cell? ⟨b, o, none⟩ = some (.int .u64 (hI r.f)) ∧ w.cell? ⟨b, o + 1, none⟩ = some (.int .u64 (lI r.f)) ∧ w.cell? ⟨b, o + 2, none⟩ = some (.bool r.k) ∧ w.cell? ⟨b, o + 3, none⟩ = some (.int .i64 r.n)
theorem RnAt.below {w w' : World} {b o : Nat} {r : Rn} (h : RnAt w b o r) (hb : Below w.heap.size w w') : RnAt w' b o r := ⟨keepc hb h.1, keepc hb h.2.1, keepc hb h.2.2.1, keepc hb h.2.2.2⟩
def RwN (w : World) (v : Value) (l : List Rn) : Prop := ∃ ao c, v = .slice ao l.length c ∧ l.length ≤ c ∧ (l = [] ∨ ∃ b off, ao = some ⟨b, off, none⟩ ∧ ∀ j r, l[j]? = some r → RnAt w b (off + j * 4) r)
theorem RwN.below {w w' : World} {v : Value} {l : List Rn} (h : RwN w v l) (hb : Below w.heap.size w w') : RwN w' v l := by
  obtain ⟨ao, c, e, hc, h⟩ := h
  refine ⟨ao, c, e, hc, h.imp id ?_⟩
  rintro ⟨b, off, e, h⟩
  exact ⟨b, off, e, fun j r hj => (h j r hj).below hb⟩
def RwD (w : World) (v : Value) (L : List Nde) : Prop := ∃ ao c, v = .slice ao L.length c ∧ L.length ≤ c ∧ (L = [] ∨ ∃ b off, ao = some ⟨b, off, none⟩ ∧ ∀ j d, L[j]? = some d → ∃ vr, w.cell? ⟨b, off + j * 2, none⟩ = some (.int .i64 d.b) ∧ w.cell? ⟨b, off + j * 2 + 1, none⟩ = some vr ∧ RwN w vr d.r)
theorem RwD.below {w w' : World} {v : Value} {L : List Nde} (h : RwD w v L) (hb : Below w.heap.size w w') : RwD w' v L := by
  obtain ⟨ao, c, e, hc, h⟩ := h
  refine ⟨ao, c, e, hc, h.imp id ?_⟩
  rintro ⟨b, off, e, h⟩
  refine ⟨b, off, e, fun j d hj => ?_⟩
  obtain ⟨vr, h1, h2, h3⟩ := h j d hj
  exact ⟨vr, keepc hb h1, keepc hb h2, h3.below hb⟩
def smR (r s : Rn) : Bool := (r.k == s.k) && (r.n == s.n)
end Go.Proofs.Ytjgpbahglkaijaa
namespace Go.Proofs.Ytjgpbahglkaijaa
open Go.RowKit
set_option linter.unusedSimpArgs false
set_option linter.unusedVariables false
attribute [local go_sem] Oper.semAt_some

def adjG : List Rn → Bool
  | a :: b :: t => (decide (cmpZ a.f b.f < 0) && !smR a b) && adjG (b :: t)
  | _ => true
def ioB (d : Nde) : Bool := match d.r.head?, d.r.getLast? with
  | some a, some z => (a.f == 0#128) && (adjG d.r && (z.f >>> d.b.toNat == 0#128))
  | _, _ => false
def AtD (w : World) (B : Nat) (b : Int) (v : Value) : Prop := w.cell? ⟨B, 0, none⟩ = some (.int .i64 b) ∧ w.cell? ⟨B, 1, none⟩ = some v
theorem AtD.below {w w' : World} {B : Nat} {b : Int} {v : Value} (h : AtD w B b v) (hb : Below w.heap.size w w') : AtD w' B b v := ⟨keepc hb h.1, keepc hb h.2⟩
end Go.Proofs.Ytjgpbahglkaijaa
namespace Go.Proofs.Ytjgpbahglkaijaa
open Go.RowKit
set_option linter.unusedSimpArgs false
set_option linter.unusedVariables false
attribute [local go_sem] Oper.semAt_some

end Go.Proofs.Ytjgpbahglkaijaa
namespace Go.Proofs.Ytjgpbahglkaijaa
open Go.RowKit Go.Shelf
set_option linter.unusedSimpArgs false
set_option linter.unusedVariables false
attribute [local go_sem] Oper.semAt_some

end Go.Proofs.Ytjgpbahglkaijaa
namespace Go.Proofs.Ytjgpbahglkaijaa
open Go.RowKit Go.Shelf
set_option linter.unusedSimpArgs false
set_option linter.unusedVariables false
attribute [local go_sem] Oper.semAt_some

def cBo (b : Bool) : Value := .bool b
structure UsV (w : World) (N : Nat) (s : List Bool × Nat) (W : World) : Prop where
  g : W.heap[w.heap.size]? = some (.cells (s.1.map cBo).toArray 4)
  u : W.heap[w.heap.size + 1]? = some (.cells #[.slice (some ⟨w.heap.size, 0, none⟩) N N] 63)
  c : W.heap[w.heap.size + 1 + 1]? = some (.cells #[.int .i64 (s.2 : Int)] 3)
  b : Below w.heap.size w W
  l : s.1.length = N
section
variable {w W W' : World} {N : Nat} {s : List Bool × Nat}
theorem UsV.below (h : UsV w N s W) (hb : Below W.heap.size W W') : UsV w N s W' := ⟨(hb.block _ (lt_16 h.g)).trans h.g, (hb.block _ (lt_16 h.u)).trans h.u, (hb.block _ (lt_16 h.c)).trans h.c, keepb hb h.b, h.l⟩
theorem UsV.kept {row : Option Nat} (h : UsV w N s W) (hg : W.grownBy W' row) (hr : ∀ r, row = some r → w.heap.size ≤ r ∧ ∃ o : Obj, W.heap[r]? = some o ∧ o.isCells = false) : UsV w N s W' :=
  ⟨blk_16 hg (fun r e => (hr r e).2) h.g, blk_16 hg (fun r e => (hr r e).2) h.u, blk_16 hg (fun r e => (hr r e).2) h.c, h.b.grown hg h.b.size (fun r e => (hr r e).1), h.l⟩
theorem map_set16 (l : List Bool) (k : Nat) (b : Bool) : (l.map cBo).toArray.setIfInBounds k (.bool b) = ((l.set k b).map cBo).toArray := by
  rw [List.setIfInBounds_toArray, List.map_set]; rfl
theorem UsV.put (h : UsV w N s W) (k : Nat) : UsV w N (s.1.set k true, s.2) (W.setCell ⟨w.heap.size, k, none⟩ (.bool true)) := by
  refine ⟨?_, (far_16 (by omega)).trans h.u, (far_16 (by omega)).trans h.c, h.b.setCell (p := ⟨w.heap.size, k, none⟩) (Nat.le_refl _) _, by simp [h.l]⟩
  rw [set_16 h.g, map_set16]
theorem UsV.cell (h : UsV w N s W) {k : Nat} (hk : k < N) : W.cell? ⟨w.heap.size, k, none⟩ = some (.bool (s.1.getD k false)) := by
  refine at_16 h.g k _ ?_
  rw [List.getElem?_toArray, List.getElem?_map, List.getElem?_eq_getElem (by rw [h.l]; exact hk), List.getD_eq_getElem?_getD, List.getElem?_eq_getElem (by rw [h.l]; exact hk)]
  rfl
end
end Go.Proofs.Ytjgpbahglkaijaa
namespace Go.Proofs.Ytjgpbahglkaijaa
open Go.RowKit Go.Shelf
set_option linter.unusedSimpArgs false
set_option linter.unusedVariables false
attribute [local go_sem] Oper.semAt_some

abbrev Prs := List (Int × Int)
def upR (b m : Int) (P : Prs) (k : Int) : Prs := P.set k.toNat (max (P.getD k.toNat (0, 0)).1 b, max (P.getD k.toNat (0, 0)).2 m)
def InP (N i : Nat) (P : Prs) : Prop := P.length = N ∧ ∀ p ∈ P, 0 ≤ p.1 ∧ p.1 ≤ 128 ∧ 0 ≤ p.2 ∧ p.2 ≤ i
theorem InP.at {N i : Nat} {P : Prs} (h : InP N i P) (k : Nat) : 0 ≤ (P.getD k (0, 0)).1 ∧ (P.getD k (0, 0)).1 ≤ 128 ∧ 0 ≤ (P.getD k (0, 0)).2 ∧ (P.getD k (0, 0)).2 ≤ i := by
  rw [List.getD_eq_getElem?_getD]
  cases hk : P[k]? with
  | none => simp
  | some p => exact h.2 p (List.mem_of_getElem? hk)
theorem InP.up {N i : Nat} {P : Prs} (h : InP N i P) (b m : Int) (hb0 : 0 ≤ b) (hb : b ≤ 128) (hm0 : 0 ≤ m) (hm : m ≤ i) (k : Int) : InP N i (upR b m P k) := by
  unfold upR
  refine ⟨by simp [h.1], fun p hp => ?_⟩
  rcases List.mem_or_eq_of_mem_set hp with q | rfl
  · exact h.2 p q
  · have := h.at k.toNat
    dsimp only
    omega
theorem InP.ups {N i : Nat} (b m : Int) (hb0 : 0 ≤ b) (hb : b ≤ 128) (hm0 : 0 ≤ m) (hm : m ≤ i) : ∀ (ks : List Int) {P : Prs}, InP N i P → InP N i (ks.foldl (upR b m) P)
  | [], _, h => h
  | k :: ks, _, h => InP.ups b m hb0 hb hm0 hm ks (h.up b m hb0 hb hm0 hm k)
theorem InP.more {N i j : Nat} {P : Prs} (h : InP N i P) (hij : i ≤ j) : InP N j P := ⟨h.1, fun p hp => by have := h.2 p hp; omega⟩
def flatP (P : Prs) : List Value := P.flatMap fun p => [.int .i64 p.1, .int .i64 p.2]
theorem flp_at : ∀ (P : Prs) (k : Nat) (h : k < P.length), (flatP P)[k * 2]? = some (.int .i64 P[k].1) ∧ (flatP P)[k * 2 + 1]? = some (.int .i64 P[k].2)
  | p :: P, 0, h => ⟨rfl, rfl⟩
  | p :: P, k + 1, h => by
    have := flp_at P k (by simpa using h)
    rw [show (k + 1) * 2 = k * 2 + 2 by omega, show k * 2 + 2 + 1 = k * 2 + 1 + 2 by omega]
    simpa [flatP] using this
structure DpV (w : World) (N : Nat) (P : Prs) (W : World) : Prop where
  g : W.heap[w.heap.size]? = some (.cells (flatP P).toArray 190)
  u : W.heap[w.heap.size + 1]? = some (.cells #[.slice (some ⟨w.heap.size, 0, none⟩) N N] 188)
  b : Below w.heap.size w W
  l : P.length = N
section
variable {w W W' : World} {N : Nat} {P : Prs}
theorem DpV.below (h : DpV w N P W) (hb : Below W.heap.size W W') : DpV w N P W' := ⟨(hb.block _ (lt_16 h.g)).trans h.g, (hb.block _ (lt_16 h.u)).trans h.u, keepb hb h.b, h.l⟩
theorem DpV.kept {row : Option Nat} (h : DpV w N P W) (hg : W.grownBy W' row) (hr : ∀ r, row = some r → w.heap.size ≤ r ∧ ∃ o : Obj, W.heap[r]? = some o ∧ o.isCells = false) : DpV w N P W' :=
  ⟨blk_16 hg (fun r e => (hr r e).2) h.g, blk_16 hg (fun r e => (hr r e).2) h.u, h.b.grown hg h.b.size (fun r e => (hr r e).1), h.l⟩
theorem DpV.cell (h : DpV w N P W) {k : Nat} (hk : k < N) : W.cell? ⟨w.heap.size, k * 2, none⟩ = some (.int .i64 (P.getD k (0, 0)).1) ∧ W.cell? ⟨w.heap.size, k * 2 + 1, none⟩ = some (.int .i64 (P.getD k (0, 0)).2) := by
  have hk' : k < P.length := by rw [h.l]; exact hk
  obtain ⟨a, b⟩ := flp_at P k hk'
  rw [List.getD_eq_getElem?_getD, List.getElem?_eq_getElem hk']
  exact ⟨at_16 h.g _ _ (by rw [List.getElem?_toArray, a]; rfl), at_16 h.g _ _ (by rw [List.getElem?_toArray, b]; rfl)⟩
end
end Go.Proofs.Ytjgpbahglkaijaa
namespace Go.Proofs.Ytjgpbahglkaijaa
open Go.RowKit
set_option linter.unusedSimpArgs false
set_option linter.unusedVariables false

end Go.Proofs.Ytjgpbahglkaijaa
