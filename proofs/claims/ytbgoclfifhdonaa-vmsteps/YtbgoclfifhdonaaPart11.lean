/-
  Part 11 of the proof: 12 texts, one behind the other.
-/
import Derived.Test.YtbgoclfifhdonaaPart10
import Derived.Test.YtbgoclfifhdonaaPart7
import Derived.Test.YtbgoclfifhdonaaPart5
import Derived.Test.YtbgoclfifhdonaaPart1
import Derived.Test.YtbgoclfifhdonaaPart2
import Derived.Test.YtbgoclfifhdonaaPart4
import Derived.Deep.CutBlock
import Derived.Deep.DeepCutAuto
import Derived.Test.YtbgoclfifhdonaaPart6
import Derived.Deep.QuietTactic
import Derived.BigQuiet
namespace Go.Proofs.Ytbgoclfifhdonaa
open Go.RowKit
set_option linter.unusedSimpArgs false
set_option linter.unusedVariables false

set_option maxRecDepth 100000 in
set_option maxHeartbeats 16000000 in
theorem rdecode_in (v : Value) (l : List Nat) (k : Nat) (w : World) (hv : RwX cB w v l) (hl : l.length ≤ 100000) (hx : ∀ b ∈ l, b < 256) (hk : k < l.length / 4) :
    Calls Try.prog 26 #[v, .int .i64 (k : Int)] w fun e w' => ∃ v', e = .returned (.tuple #[insV (dcI l (k : Int)) v', .int .i64 (dcZ l (k : Int)), .int .i64 (dcE l (k : Int))]) ∧ w'.ownsRow w.heap.size 71 1 v' (dcI l (k : Int)).m.length ((dcI l (k : Int)).m.map cU) ∧ Below w.heap.size w w' := by
  obtain ⟨ao, cc, hvf, -⟩ := id hv
  have q1 := bl1 w (.cells #[.int .i64 0, .int .i64 0, .slice none 0 0] 56)
  have K1 := rget13 v l (4 * (k : Int)) 4 4 rfl (by decide) (by decide) _ (hv.below q1) (by omega) hx (by omega) (by omega)
  have hyes : 0 ≤ 4 * (k : Int) ∧ 4 * (k : Int) ≤ (l.length : Int) - ((4 : Nat) : Int) := ⟨by omega, by omega⟩
  have e1 : ((gtN l (4 * (k : Int)) 4 : Nat) : Int) = uI (wdV l k) := by
    rw [wd_uI l k hx]
    unfold gtN
    rw [if_pos hyes, show (4 * (k : Int)).toNat = 4 * k by omega]
  rw [decide_eq_true hyes, e1] at K1
  obtain ⟨A4, hA4⟩ : ∃ A4 : Nat, 4 * (k : Int) = (A4 : Int) := ⟨4 * k, by omega⟩
  have mw : IntKind.i64.wrap (4 * (k : Int)) = (A4 : Int) := by rw [IntKind.wrap_i64]; omega
  rw [hA4] at K1
  have HV := hid13 hv
  have HX := hid13 hx
  have HK : Hid (k < l.length / 4 ∧ l.length ≤ 100000) := ⟨hk, hl⟩
  have hX0 := uI_lo (wdV l k)
  have hX1 := uI_up (wdV l k)
  have han := and24 (wdV l k)
  obtain ⟨X, hX⟩ : ∃ X, X = uI (wdV l k) := ⟨_, rfl⟩
  obtain ⟨O, hO⟩ : ∃ O : Nat, (O : Int) = insO l k := ⟨(insO l k).toNat, by unfold insO; omega⟩
  obtain ⟨N, hN⟩ : ∃ N : Nat, (N : Int) = insN l k := ⟨(insN l k).toNat, by unfold insN; omega⟩
  have HR : Hid (rdP l k = if isOp (O : Int) = true then (if (N : Int) ≤ kRm (O : Int) then (if tkB (O : Int) (N : Int) = true then (if (O : Int) = 2 then rmP l (k + 1) N else ([], (0 : Int))) else ([], 1)) else ([], 24)) else ([], 24)) := by
    show _ = _
    unfold rdP
    rw [← hO, ← hN, Int.toNat_natCast]
  have HQ : Hid (((O : Nat) : Int) = insO l k ∧ ((N : Nat) : Int) = insN l k) := ⟨hO, hN⟩
  have x1 : X / 16777216 = (O : Int) := by rw [hX, hO]; rfl
  have x2 : bits .and .u32 X 16777215 = (N : Int) := by rw [hX, han, hN]; rfl
  have hNb : (N : Int) < 16777216 := by rw [hN]; unfold insN; omega
  have hOw : IntKind.i64.wrap (O : Int) = (O : Int) := by rw [IntKind.wrap_i64]; have : (O : Int) < 256 := by rw [hO]; unfold insO; omega
                                                          omega
  have hNw : IntKind.i64.wrap (N : Int) = (N : Int) := by rw [IntKind.wrap_i64]; omega
  rw [← hX] at K1
  have d0 : ¬ (k : Int) < 0 := by omega
  have d1 : ¬ (l.length : Int) ≤ (k : Int) := by omega
  subst hvf
  have HNb := hid13 hNb
  have HAnd : Hid (∀ W : World, (binOp .and 71 (.int .u32 X) (.int .u32 16777215)).run Try.prog W = .ok (.int .u32 (N : Int)) W) := by
    intro W
    rw [binOp_and]
    show Result.ok (Value.int .u32 (bits .and .u32 X 16777215)) W = _
    rw [x2]
  clear hyes e1 hv hx hX han q1 hO hN hNb hl hk hX0 hX1 hA4 x2
  cases ho : isOp (O : Int) with
  | false =>
    have HR2 : Hid (rdP l k = ([], 24)) := by show _ = _; rw [HR.out, if_neg (by rw [ho]; decide)]
    obtain ⟨h1, h2, h3, h4⟩ := isOp_none ho
    clear ho HR
    go_enter Try.func26, Try.ntmps26
    go_wp2_with (first | (go_at_call 36; refine K1.mono ?_; rintro e w2 ⟨rfl, hw2⟩; replace hw2 := hw2.symm; subst hw2) | (with_reducible apply stopAnd14))
    refine (show wpList _ _ _ _ _ _ from ?_)
    refine sw_run14 (v := .int .u32 (N : Int)) rfl (ex14b (HAnd.out _)) ?_
    simp only [Act.put, List.setIfInBounds_toArray, List.set_cons_zero, List.set_cons_succ]
    clear HAnd HNb K1
    go_wp2_with fail
    exact bodyPost_ret (v := .tuple #[.agg #[.int .i64 0, .int .i64 0, .slice none 0 0], .int .i64 0, .int .i64 24]) (by simp [results, Try.results26, go_sem]) rfl (rd_fin l k w HK.out.1 24 [] (by decide) HR2.out _ (keepb (bl1 _ _) (bl1 _ _)))
  | true =>
    have hR1 := HR.out
    rw [if_pos ho] at hR1
    rcases isOp_cases ho with hO1 | hO1 | hO1 | hO1
    · obtain rfl : O = 1 := by omega
      have cO : ((1 : Nat) : Int) = 1 := rfl
      rw [cO] at x1 HQ hR1 hOw
      clear ho HR hO1
      rw [show kRm (1 : Int) = 255 from rfl] at hR1
      by_cases r1 : (N : Int) ≤ 255
      · rw [if_pos r1] at hR1
        have r2 : ¬ 255 < (N : Int) := by omega
        by_cases t1 : (N : Int) < 1
        · rw [if_neg (by have := HNb.out; unfold tkB kLo kHi; simp; omega)] at hR1
          have HR2 : Hid (rdP l k = ([], 1)) := hR1
          clear hR1
          go_enter Try.func26, Try.ntmps26
          go_wp2_with (first | (go_at_call 36; refine K1.mono ?_; rintro e w2 ⟨rfl, hw2⟩; replace hw2 := hw2.symm; subst hw2) | (with_reducible apply stopAnd14))
          refine (show wpList _ _ _ _ _ _ from ?_)
          refine sw_run14 (v := .int .u32 (N : Int)) rfl (ex14b (HAnd.out _)) ?_
          simp only [Act.put, List.setIfInBounds_toArray, List.set_cons_zero, List.set_cons_succ]
          clear HAnd HNb K1
          go_wp2_with fail
          exact bodyPost_ret (v := .tuple #[.agg #[.int .i64 0, .int .i64 0, .slice none 0 0], .int .i64 0, .int .i64 1]) (by simp [results, Try.results26, go_sem]) rfl (rd_fin l k w HK.out.1 1 [] (by decide) HR2.out _ (keepb (bl1 _ _) (bl1 _ _)))
        by_cases t2 : 24 < (N : Int)
        · rw [if_neg (by have := HNb.out; unfold tkB kLo kHi; simp; omega)] at hR1
          have HR2 : Hid (rdP l k = ([], 1)) := hR1
          clear hR1
          go_enter Try.func26, Try.ntmps26
          go_wp2_with (first | (go_at_call 36; refine K1.mono ?_; rintro e w2 ⟨rfl, hw2⟩; replace hw2 := hw2.symm; subst hw2) | (with_reducible apply stopAnd14))
          refine (show wpList _ _ _ _ _ _ from ?_)
          refine sw_run14 (v := .int .u32 (N : Int)) rfl (ex14b (HAnd.out _)) ?_
          simp only [Act.put, List.setIfInBounds_toArray, List.set_cons_zero, List.set_cons_succ]
          clear HAnd HNb K1
          go_wp2_with fail
          exact bodyPost_ret (v := .tuple #[.agg #[.int .i64 0, .int .i64 0, .slice none 0 0], .int .i64 0, .int .i64 1]) (by simp [results, Try.results26, go_sem]) rfl (rd_fin l k w HK.out.1 1 [] (by decide) HR2.out _ (keepb (bl1 _ _) (bl1 _ _)))
        rw [if_pos (by have := HNb.out; unfold tkB kLo kHi; simp; omega)] at hR1
        rw [if_neg (by decide)] at hR1
        have HR2 : Hid (rdP l k = ([], 0)) := hR1
        clear hR1
        go_enter Try.func26, Try.ntmps26
        go_wp2_with (first | (go_at_call 36; refine K1.mono ?_; rintro e w2 ⟨rfl, hw2⟩; replace hw2 := hw2.symm; subst hw2) | (with_reducible apply stopAnd14))
        refine (show wpList _ _ _ _ _ _ from ?_)
        refine sw_run14 (v := .int .u32 (N : Int)) rfl (ex14b (HAnd.out _)) ?_
        simp only [Act.put, List.setIfInBounds_toArray, List.set_cons_zero, List.set_cons_succ]
        clear HAnd HNb K1
        go_wp2_with fail
        obtain ⟨g1, g2, g3⟩ := dc_ok HK.out.1 HR2.out
        exact bodyPost_ret (v := .tuple #[.agg #[.int .i64 1, .int .i64 (N : Int), .slice none 0 0], .int .i64 1, .int .i64 0]) (by simp [results, Try.results26, go_sem]) rfl ⟨.slice none 0 0, by rw [g1, g2, g3, ← HQ.out.1, ← HQ.out.2]; rfl, by rw [g1]; exact World.ownsRow_nil _ _ _ _, keepb (bl1 _ _) (bl1 _ _)⟩
      · rw [if_neg r1] at hR1
        have r2 : 255 < (N : Int) := by omega
        have HR2 : Hid (rdP l k = ([], 24)) := hR1
        clear hR1
        go_enter Try.func26, Try.ntmps26
        go_wp2_with (first | (go_at_call 36; refine K1.mono ?_; rintro e w2 ⟨rfl, hw2⟩; replace hw2 := hw2.symm; subst hw2) | (with_reducible apply stopAnd14))
        refine (show wpList _ _ _ _ _ _ from ?_)
        refine sw_run14 (v := .int .u32 (N : Int)) rfl (ex14b (HAnd.out _)) ?_
        simp only [Act.put, List.setIfInBounds_toArray, List.set_cons_zero, List.set_cons_succ]
        clear HAnd HNb K1
        go_wp2_with fail
        exact bodyPost_ret (v := .tuple #[.agg #[.int .i64 0, .int .i64 0, .slice none 0 0], .int .i64 0, .int .i64 24]) (by simp [results, Try.results26, go_sem]) rfl (rd_fin l k w HK.out.1 24 [] (by decide) HR2.out _ (keepb (bl1 _ _) (bl1 _ _)))
    · obtain rfl : O = 2 := by omega
      have cO : ((2 : Nat) : Int) = 2 := rfl
      rw [cO] at x1 HQ hR1 hOw
      clear ho HR hO1
      rw [show kRm (2 : Int) = 255 from rfl] at hR1
      by_cases r1 : (N : Int) ≤ 255
      · rw [if_pos r1] at hR1
        have r2 : ¬ 255 < (N : Int) := by omega
        by_cases t1 : (N : Int) < 1
        · rw [if_neg (by have := HNb.out; unfold tkB kLo kHi; simp; omega)] at hR1
          have HR2 : Hid (rdP l k = ([], 1)) := hR1
          clear hR1
          go_enter Try.func26, Try.ntmps26
          go_wp2_with (first | (go_at_call 36; refine K1.mono ?_; rintro e w2 ⟨rfl, hw2⟩; replace hw2 := hw2.symm; subst hw2) | (with_reducible apply stopAnd14))
          refine (show wpList _ _ _ _ _ _ from ?_)
          refine sw_run14 (v := .int .u32 (N : Int)) rfl (ex14b (HAnd.out _)) ?_
          simp only [Act.put, List.setIfInBounds_toArray, List.set_cons_zero, List.set_cons_succ]
          clear HAnd HNb K1
          go_wp2_with fail
          exact bodyPost_ret (v := .tuple #[.agg #[.int .i64 0, .int .i64 0, .slice none 0 0], .int .i64 0, .int .i64 1]) (by simp [results, Try.results26, go_sem]) rfl (rd_fin l k w HK.out.1 1 [] (by decide) HR2.out _ (keepb (bl1 _ _) (bl1 _ _)))
        by_cases t2 : 24 < (N : Int)
        · rw [if_neg (by have := HNb.out; unfold tkB kLo kHi; simp; omega)] at hR1
          have HR2 : Hid (rdP l k = ([], 1)) := hR1
          clear hR1
          go_enter Try.func26, Try.ntmps26
          go_wp2_with (first | (go_at_call 36; refine K1.mono ?_; rintro e w2 ⟨rfl, hw2⟩; replace hw2 := hw2.symm; subst hw2) | (with_reducible apply stopAnd14))
          refine (show wpList _ _ _ _ _ _ from ?_)
          refine sw_run14 (v := .int .u32 (N : Int)) rfl (ex14b (HAnd.out _)) ?_
          simp only [Act.put, List.setIfInBounds_toArray, List.set_cons_zero, List.set_cons_succ]
          clear HAnd HNb K1
          go_wp2_with fail
          exact bodyPost_ret (v := .tuple #[.agg #[.int .i64 0, .int .i64 0, .slice none 0 0], .int .i64 0, .int .i64 1]) (by simp [results, Try.results26, go_sem]) rfl (rd_fin l k w HK.out.1 1 [] (by decide) HR2.out _ (keepb (bl1 _ _) (bl1 _ _)))
        rw [if_pos (by have := HNb.out; unfold tkB kLo kHi; simp; omega)] at hR1
        rw [if_pos rfl] at hR1
        exact rdecode_map (.slice ao l.length cc) l k N w HV.out HK.out.2 HX.out HK.out.1 HQ.out.1.symm HQ.out.2.symm (by omega) (by omega)
      · rw [if_neg r1] at hR1
        have r2 : 255 < (N : Int) := by omega
        have HR2 : Hid (rdP l k = ([], 24)) := hR1
        clear hR1
        go_enter Try.func26, Try.ntmps26
        go_wp2_with (first | (go_at_call 36; refine K1.mono ?_; rintro e w2 ⟨rfl, hw2⟩; replace hw2 := hw2.symm; subst hw2) | (with_reducible apply stopAnd14))
        refine (show wpList _ _ _ _ _ _ from ?_)
        refine sw_run14 (v := .int .u32 (N : Int)) rfl (ex14b (HAnd.out _)) ?_
        simp only [Act.put, List.setIfInBounds_toArray, List.set_cons_zero, List.set_cons_succ]
        clear HAnd HNb K1
        go_wp2_with fail
        exact bodyPost_ret (v := .tuple #[.agg #[.int .i64 0, .int .i64 0, .slice none 0 0], .int .i64 0, .int .i64 24]) (by simp [results, Try.results26, go_sem]) rfl (rd_fin l k w HK.out.1 24 [] (by decide) HR2.out _ (keepb (bl1 _ _) (bl1 _ _)))
    · obtain rfl : O = 3 := by omega
      have cO : ((3 : Nat) : Int) = 3 := rfl
      rw [cO] at x1 HQ hR1 hOw
      clear ho HR hO1
      rw [show kRm (3 : Int) = 16777215 from rfl] at hR1
      rw [if_pos (by have := HNb.out; omega)] at hR1
      by_cases t1 : (N : Int) < 1
      · rw [if_neg (by have := HNb.out; unfold tkB kLo kHi; simp; omega)] at hR1
        have HR2 : Hid (rdP l k = ([], 1)) := hR1
        clear hR1
        go_enter Try.func26, Try.ntmps26
        go_wp2_with (first | (go_at_call 36; refine K1.mono ?_; rintro e w2 ⟨rfl, hw2⟩; replace hw2 := hw2.symm; subst hw2) | (with_reducible apply stopAnd14))
        refine (show wpList _ _ _ _ _ _ from ?_)
        refine sw_run14 (v := .int .u32 (N : Int)) rfl (ex14b (HAnd.out _)) ?_
        simp only [Act.put, List.setIfInBounds_toArray, List.set_cons_zero, List.set_cons_succ]
        clear HAnd HNb K1
        go_wp2_with fail
        exact bodyPost_ret (v := .tuple #[.agg #[.int .i64 0, .int .i64 0, .slice none 0 0], .int .i64 0, .int .i64 1]) (by simp [results, Try.results26, go_sem]) rfl (rd_fin l k w HK.out.1 1 [] (by decide) HR2.out _ (keepb (bl1 _ _) (bl1 _ _)))
      rw [if_pos (by have := HNb.out; unfold tkB kLo kHi; simp; omega)] at hR1
      rw [if_neg (by decide)] at hR1
      have HR2 : Hid (rdP l k = ([], 0)) := hR1
      clear hR1
      go_enter Try.func26, Try.ntmps26
      go_wp2_with (first | (go_at_call 36; refine K1.mono ?_; rintro e w2 ⟨rfl, hw2⟩; replace hw2 := hw2.symm; subst hw2) | (with_reducible apply stopAnd14))
      refine (show wpList _ _ _ _ _ _ from ?_)
      refine sw_run14 (v := .int .u32 (N : Int)) rfl (ex14b (HAnd.out _)) ?_
      simp only [Act.put, List.setIfInBounds_toArray, List.set_cons_zero, List.set_cons_succ]
      clear HAnd HNb K1
      go_wp2_with fail
      obtain ⟨g1, g2, g3⟩ := dc_ok HK.out.1 HR2.out
      exact bodyPost_ret (v := .tuple #[.agg #[.int .i64 3, .int .i64 (N : Int), .slice none 0 0], .int .i64 1, .int .i64 0]) (by simp [results, Try.results26, go_sem]) rfl ⟨.slice none 0 0, by rw [g1, g2, g3, ← HQ.out.1, ← HQ.out.2]; rfl, by rw [g1]; exact World.ownsRow_nil _ _ _ _, keepb (bl1 _ _) (bl1 _ _)⟩
    · obtain rfl : O = 4 := by omega
      have cO : ((4 : Nat) : Int) = 4 := rfl
      rw [cO] at x1 HQ hR1 hOw
      clear ho HR hO1
      rw [show kRm (4 : Int) = 65535 from rfl] at hR1
      by_cases r1 : (N : Int) ≤ 65535
      · rw [if_pos r1] at hR1
        have r2 : ¬ 65535 < (N : Int) := by omega
        rw [if_pos (by have := HNb.out; unfold tkB kLo kHi; simp; omega), if_neg (by decide)] at hR1
        have HR2 : Hid (rdP l k = ([], 0)) := hR1
        clear hR1
        go_enter Try.func26, Try.ntmps26
        go_wp2_with (first | (go_at_call 36; refine K1.mono ?_; rintro e w2 ⟨rfl, hw2⟩; replace hw2 := hw2.symm; subst hw2) | (with_reducible apply stopAnd14))
        refine (show wpList _ _ _ _ _ _ from ?_)
        refine sw_run14 (v := .int .u32 (N : Int)) rfl (ex14b (HAnd.out _)) ?_
        simp only [Act.put, List.setIfInBounds_toArray, List.set_cons_zero, List.set_cons_succ]
        clear HAnd HNb K1
        go_wp2_with fail
        obtain ⟨g1, g2, g3⟩ := dc_ok HK.out.1 HR2.out
        exact bodyPost_ret (v := .tuple #[.agg #[.int .i64 4, .int .i64 (N : Int), .slice none 0 0], .int .i64 1, .int .i64 0]) (by simp [results, Try.results26, go_sem]) rfl ⟨.slice none 0 0, by rw [g1, g2, g3, ← HQ.out.1, ← HQ.out.2]; rfl, by rw [g1]; exact World.ownsRow_nil _ _ _ _, keepb (bl1 _ _) (bl1 _ _)⟩
      · rw [if_neg r1] at hR1
        have r2 : 65535 < (N : Int) := by omega
        have HR2 : Hid (rdP l k = ([], 24)) := hR1
        clear hR1
        go_enter Try.func26, Try.ntmps26
        go_wp2_with (first | (go_at_call 36; refine K1.mono ?_; rintro e w2 ⟨rfl, hw2⟩; replace hw2 := hw2.symm; subst hw2) | (with_reducible apply stopAnd14))
        refine (show wpList _ _ _ _ _ _ from ?_)
        refine sw_run14 (v := .int .u32 (N : Int)) rfl (ex14b (HAnd.out _)) ?_
        simp only [Act.put, List.setIfInBounds_toArray, List.set_cons_zero, List.set_cons_succ]
        clear HAnd HNb K1
        go_wp2_with fail
        exact bodyPost_ret (v := .tuple #[.agg #[.int .i64 0, .int .i64 0, .slice none 0 0], .int .i64 0, .int .i64 24]) (by simp [results, Try.results26, go_sem]) rfl (rd_fin l k w HK.out.1 24 [] (by decide) HR2.out _ (keepb (bl1 _ _) (bl1 _ _)))
end Go.Proofs.Ytbgoclfifhdonaa
namespace Go.Proofs.Ytbgoclfifhdonaa
open Go.RowKit
set_option linter.unusedSimpArgs false
set_option linter.unusedVariables false

def TwI (W : World) (B : Nat) (i j : Ins) (v u : Value) : Prop := AtI W B i.op i.n v ∧ AtI W (B + 1) j.op j.n u ∧ RwX cU W v i.m ∧ RwX cU W u j.m
theorem TwI.below {W W' : World} {B : Nat} {i j : Ins} {v u : Value} (h : TwI W B i j v u) (hb : Below W.heap.size W W') : TwI W' B i j v u := ⟨h.1.below hb, h.2.1.below hb, h.2.2.1.below hb, h.2.2.2.below hb⟩
end Go.Proofs.Ytbgoclfifhdonaa
namespace Go.Proofs.Ytbgoclfifhdonaa
open Go.RowKit
set_option linter.unusedSimpArgs false
set_option linter.unusedVariables false

end Go.Proofs.Ytbgoclfifhdonaa
namespace Go.Proofs.Ytbgoclfifhdonaa
open Go.RowKit
set_option linter.unusedSimpArgs false
set_option linter.unusedVariables false

end Go.Proofs.Ytbgoclfifhdonaa
namespace Go.Proofs.Ytbgoclfifhdonaa
open Go.RowKit
set_option linter.unusedSimpArgs false
set_option linter.unusedVariables false

theorem rdecode14 (v : Value) (l : List Nat) (a : Int) (w : World) (hv : RwX cB w v l) (hl : l.length ≤ 100000) (hx : ∀ b ∈ l, b < 256) :
    Calls Try.prog 26 #[v, .int .i64 a] w fun e w' => ∃ v', e = .returned (.tuple #[insV (dcI l a) v', .int .i64 (dcZ l a), .int .i64 (dcE l a)]) ∧ w'.ownsRow w.heap.size 71 1 v' (dcI l a).m.length ((dcI l a).m.map cU) ∧ Below w.heap.size w w' := by
  cases hs : stB l.length a 1 with
  | false => exact rdecode_out v l a w hv hl hx hs
  | true =>
    have h2 : 0 ≤ a ∧ a.toNat < l.length / 4 := by unfold stB at hs; simp at hs; constructor <;> omega
    obtain ⟨k, rfl⟩ : ∃ k : Nat, a = (k : Int) := ⟨a.toNat, by omega⟩
    rw [Int.toNat_natCast] at h2
    exact rdecode_in v l k w hv hl hx h2.2
end Go.Proofs.Ytbgoclfifhdonaa
namespace Go.Proofs.Ytbgoclfifhdonaa
open Go.RowKit
set_option linter.unusedSimpArgs false
set_option linter.unusedVariables false

end Go.Proofs.Ytbgoclfifhdonaa
namespace Go.Proofs.Ytbgoclfifhdonaa
open Go.RowKit
set_option linter.unusedSimpArgs false
set_option linter.unusedVariables false

end Go.Proofs.Ytbgoclfifhdonaa
namespace Go.Proofs.Ytbgoclfifhdonaa
open Go.RowKit
set_option linter.unusedSimpArgs false
set_option linter.unusedVariables false

theorem bitI (c : BitVec 32) (i : Nat) (h : i < 32) : bits .and .u32 (uI c / 2 ^ i) 1 = if c.getLsbD i then 1 else 0 := by
  rw [shr32, odd32, BitVec.getLsbD_ushiftRight, Nat.add_zero]
end Go.Proofs.Ytbgoclfifhdonaa
namespace Go.Proofs.Ytbgoclfifhdonaa
open Go.RowKit
set_option linter.unusedSimpArgs false
set_option linter.unusedVariables false

section
variable {W W' : World} {S k : Nat} {f : Nat → BitVec 32}
end
end Go.Proofs.Ytbgoclfifhdonaa
namespace Go.Proofs.Ytbgoclfifhdonaa
open Go.RowKit
set_option linter.unusedSimpArgs false
set_option linter.unusedVariables false

end Go.Proofs.Ytbgoclfifhdonaa
namespace Go.Proofs.Ytbgoclfifhdonaa
open Go.RowKit
set_option linter.unusedSimpArgs false
set_option linter.unusedVariables false

set_option maxRecDepth 100000 in
theorem is13 (v : Value) (U : List (BitVec 32)) (k : Nat) (w : World) (hv : RwX cU w v U) (hk : k < 32 * U.length) (hl : U.length ≤ 100000000000000) :
    Calls Try.prog 42 #[v, .int .i64 (k : Int)] w fun e w' => e = .returned (.bool (plc U k)) ∧ w' = w := by
  obtain ⟨ao, cc, rfl, -, hv⟩ := hv
  obtain ⟨q, hq⟩ : ∃ q, q = k / 32 := ⟨_, rfl⟩
  obtain ⟨r, hr⟩ : ∃ r, r = k % 32 := ⟨_, rfl⟩
  have hql : q < U.length := by omega
  obtain ⟨x, hx⟩ : ∃ x, U[q]? = some x := ⟨U[q], by simp [hql]⟩
  obtain ⟨bo, off, rfl, hc1⟩ : ∃ bo off, ao = some ⟨bo, off, none⟩ ∧ ∀ j x, U[j]? = some x → w.cell? ⟨bo, off + j, none⟩ = some (cU x) := by
    rcases hv with h | h
    · rw [h] at hql; simp at hql
    · exact h
  have r1 : w.cell? ⟨bo, off + q, none⟩ = some (.int .u32 (uI x)) := hc1 q x hx
  obtain ⟨s, hs⟩ : ∃ s, s + r = 31 := ⟨31 - r, by omega⟩
  have hq1 : (k : Int) / 32 = (q : Int) := by omega
  have hr1 : (k : Int) % 32 = (r : Int) := by omega
  have hs1 : 31 - (r : Int) = (s : Int) := by omega
  have hb := bitI x s (by omega)
  have hqi : ((q : Nat) : Int) < (U.length : Int) := by omega
  have HP : Hid (plc U k = x.getLsbD s) := by
    show _ = _
    unfold plc bt
    rw [← hq, ← hr, List.getD_eq_getElem?_getD, hx, Option.getD_some, show 31 - r = s by omega]
  rw [HP.out]
  have hs32 : s < 32 := by omega
  clear hc1 hx hq hr hs hv hk HP hql
  cases c : x.getLsbD s
  · rw [c] at hb
    simp only [Bool.false_eq_true, if_false] at hb
    clear c
    go_enter Try.func42, Try.ntmps42
    go_wp2
    go_ret
    exact ⟨rfl, rfl⟩
  · rw [c] at hb
    simp only [if_true] at hb
    clear c
    go_enter Try.func42, Try.ntmps42
    go_wp2
    go_ret
    exact ⟨rfl, rfl⟩
set_option maxRecDepth 100000 in
set_option maxHeartbeats 8000000 in
theorem rrank13 (v : Value) (U : List (BitVec 32)) (i : Int) (w : World) (hv : RwX cU w v U) (hl : U.length ≤ 100000000000000) (h0 : -9223372036854775808 ≤ i) (h1 : i ≤ 9223372036854775807) :
    Calls Try.prog 28 #[v, .int .i64 i] w fun e w' => e = .returned (.tuple #[.int .i64 ((rkN U i : Nat) : Int), .int .i64 (rkE U i)]) ∧ w' = w := by
  have HV := hid13 hv
  obtain ⟨ao, cc, rfl, -, -⟩ := hv
  have hl0 : (U.length : Int) ≤ 100000000000000 := by omega
  have HL := hid13 hl
  unfold rkN rkE
  by_cases h : 0 ≤ i ∧ i < 32 * (U.length : Int)
  · rw [if_pos h, if_pos h]
    obtain ⟨j, rfl⟩ : ∃ j : Nat, i = (j : Int) := ⟨i.toNat, by omega⟩
    rw [Int.toNat_natCast]
    have hj : (j : Int) < 32 * (U.length : Int) := h.2
    have hjn : ¬ (32 * (U.length : Int) ≤ (j : Int)) := by omega
    have HJ : Hid (j < 32 * U.length) := by show _ < _; omega
    clear h hl h0 h1
    go_enter Try.func28, Try.ntmps28
    go_wp2_with fail
    go_loopg [6, 7] (j + 1) (fun g n i wr => wr = w ∧ ∃ k m : Nat, k + g = j + 1 ∧ i = .int .i64 (k : Int) ∧ n = .int .i64 (m : Int) ∧ m ≤ k ∧ Hid (m = cnt U k))
    case atStart => exact ⟨rfl, 0, 0, by omega, rfl, rfl, Nat.le_refl _, rfl⟩
    case round =>
      obtain ⟨hw, k, m, hk, rfl, rfl, hmk, HM⟩ := hrel
      replace hw := hw.symm
      subst hw
      by_cases hlt : k ≤ j
      · have hli : (k : Int) ≤ (j : Int) := by omega
        have KI := is13 _ U k w HV.out (by have := HJ.out; omega) HL.out
        have mk : IntKind.i64.wrap ((k : Int) + 1) = (k : Int) + 1 := by rw [IntKind.wrap_i64]; omega
        have mm : IntKind.i64.wrap ((m : Int) + 1) = (m : Int) + 1 := by rw [IntKind.wrap_i64]; omega
        have HS : Hid (cnt U (k + 1) = m + (plc U k).toNat) := by show _ = _; simp only [cnt]; rw [HM.out]
        have HK : Hid (k + gk = j + 1 ∧ k ≤ j ∧ m ≤ k) := ⟨hk, hlt, hmk⟩
        clear hk hmk HM
        cases c : plc U k
        · rw [c] at KI HS
          simp only [Bool.toNat_false, Nat.add_zero] at HS
          clear c
          go_wp2_with (go_at_call 42; refine KI.mono ?_; rintro e w1 ⟨rfl, hw1⟩; replace hw1 := hw1.symm; subst hw1)
          go_roundg (gk - 1)
          case measure => have := HK.out; omega
          case rel => exact ⟨rfl, k + 1, m, by have := HK.out; omega, rfl, rfl, by have := HK.out; omega, HS.out.symm⟩
        · rw [c] at KI HS
          simp only [Bool.toNat_true] at HS
          clear c
          go_wp2_with (go_at_call 42; refine KI.mono ?_; rintro e w1 ⟨rfl, hw1⟩; replace hw1 := hw1.symm; subst hw1)
          go_roundg (gk - 1)
          case measure => have := HK.out; omega
          case rel => exact ⟨rfl, k + 1, m + 1, by have := HK.out; omega, rfl, rfl, by have := HK.out; omega, HS.out.symm⟩
      · have hli : ¬ (k : Int) ≤ (j : Int) := by omega
        obtain rfl : k = j + 1 := by omega
        go_wp2_with fail
        exact bodyPost_ret (v := .tuple #[.int .i64 (m : Int), .int .i64 0]) (by simp [results, Try.results28, go_sem]) rfl ⟨by rw [HM.out], rfl⟩
  · rw [if_neg h, if_neg h]
    by_cases hn : i < 0
    · go_enter Try.func28, Try.ntmps28
      go_wp2_with fail
      exact bodyPost_ret (v := .tuple #[.int .i64 0, .int .i64 30]) (by simp [results, Try.results28, go_sem]) rfl ⟨rfl, rfl⟩
    · have hge : 32 * (U.length : Int) ≤ i := by omega
      clear h
      go_enter Try.func28, Try.ntmps28
      go_wp2_with fail
      exact bodyPost_ret (v := .tuple #[.int .i64 0, .int .i64 30]) (by simp [results, Try.results28, go_sem]) rfl ⟨rfl, rfl⟩
end Go.Proofs.Ytbgoclfifhdonaa
namespace Go.Proofs.Ytbgoclfifhdonaa
open Go.RowKit
set_option linter.unusedSimpArgs false
set_option linter.unusedVariables false

def Rd (w : World) (B : Nat) (x : BitVec 128) : Prop := w.cell? ⟨B, 0, none⟩ = some (.int .u64 (hI x)) ∧ w.cell? ⟨B, 1, none⟩ = some (.int .u64 (lI x))
theorem Rd.keep {W w' : World} {B : Nat} {x : BitVec 128} (h : Rd W B x) (hb : Below W.heap.size W w') : Rd w' B x := ⟨keepc hb h.1, keepc hb h.2⟩
theorem Rd.alloc {W : World} {B : Nat} {x : BitVec 128} (h : Rd W B x) (o : Obj) : Rd (W.alloc o) B x := h.keep (bl1 W o)
set_option maxHeartbeats 1000000 in
theorem fits_any (f n : Int) (w : World) (hf : -9223372036854775808 ≤ f) (hf' : f ≤ 9223372036854775807) :
    Calls Try.prog 39 #[.int .i64 f, .int .i64 n] w fun e w' => e = .returned (.bool (fitB f n)) ∧ w' = w := by
  unfold fitB
  by_cases h0 : 0 ≤ f
  · by_cases h1 : f ≤ 128
    · by_cases h2 : 0 ≤ n
      · by_cases h3 : n ≤ 128 - f
        · go_enter Try.func39, Try.ntmps39
          go_wp2
          go_ret
          exact ⟨by simp [h0, h1, h2, h3] <;> omega, rfl⟩
        · go_enter Try.func39, Try.ntmps39
          go_wp2
          go_ret
          exact ⟨by simp [h0, h1, h2, h3] <;> omega, rfl⟩
      · go_enter Try.func39, Try.ntmps39
        go_wp2
        go_ret
        exact ⟨by simp [h0, h1, h2] <;> omega, rfl⟩
    · go_enter Try.func39, Try.ntmps39
      go_wp2
      go_ret
      exact ⟨by simp [h0, h1] <;> omega, rfl⟩
  · go_enter Try.func39, Try.ntmps39
    go_wp2
    go_ret
    exact ⟨by simp [h0] <;> omega, rfl⟩

set_option maxHeartbeats 1000000 in
theorem rfield_in (x : BitVec 128) (f n : Int) (w : World) (h : fitB f n = true) :
    Calls Try.prog 27 #[.agg #[.int .u64 (hI x), .int .u64 (lI x)], .int .i64 f, .int .i64 n] w fun e w' => e = .returned (.tuple #[.agg #[.int .u64 (hI (readW x f n)), .int .u64 (lI (readW x f n))], .int .i64 0]) ∧ Below w.heap.size w w' := by
  unfold readW
  obtain ⟨h0, h1, h2, h3⟩ := fitB_t h
  have hf := fun w => fits_any f n w (by omega) (by omega)
  rw [h] at hf
  clear h
  go_enter Try.func27, Try.ntmps27
  go_wp2_with fail
  refine (hf _).mono ?_
  rintro e w1 ⟨rfl, rfl⟩
  clear hf
  go_wp2_with fail
  refine (rshl_any _ _ _).mono ?_
  rintro e w2 ⟨rfl, hb2⟩
  go_wp2_with fail
  refine (rshr_any _ _ _).mono ?_
  rintro e w3 ⟨rfl, hb3⟩
  have hb := keepb hb3 hb2
  have e0 : w3.cell? ⟨w.heap.size + 1, 0, none⟩ = some (.int .u64 0) := keepc hb (by simp [go_sem])
  have e1 : w3.cell? ⟨w.heap.size + 1, 1, none⟩ = some (.int .u64 0) := keepc hb (by simp [go_sem])
  have e2 : w3.frozen? ⟨w.heap.size + 1, 0, none⟩ = false := keepf hb (v := .int .u64 0) (by simp [go_sem]) (by simp [go_sem])
  have e3 : w3.frozen? ⟨w.heap.size + 1, 1, none⟩ = false := keepf hb (v := .int .u64 0) (by simp [go_sem]) (by simp [go_sem])
  have kB : Below w.heap.size w w3 := keepb hb (bl2 _ _ _)
  clear hb hb2 hb3
  go_wp2
  exact bodyPost_ret (v := .tuple #[.agg #[.int .u64 (hI ((x <<< f.toNat) >>> (128 - n).toNat)), .int .u64 (lI ((x <<< f.toNat) >>> (128 - n).toNat))], .int .i64 0]) (by simp [results, Try.results27, go_sem, e0, e1]) rfl ⟨rfl, (kB.setCell (by simp) _).setCell (by simp) _⟩

end Go.Proofs.Ytbgoclfifhdonaa
