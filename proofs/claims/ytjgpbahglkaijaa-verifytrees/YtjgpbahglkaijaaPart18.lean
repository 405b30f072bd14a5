/-
  Part 18 of the proof: 24 texts, one behind the other.
-/
import Derived.Test.YtjgpbahglkaijaaPart17
import Derived.Test.YtjgpbahglkaijaaPart6
import Derived.Test.YtjgpbahglkaijaaPart7
import Derived.Test.YtjgpbahglkaijaaPart5
import Derived.Test.YtjgpbahglkaijaaPart1
import Derived.Test.YtjgpbahglkaijaaPart4
import Derived.Deep.CutBlock
import Derived.Deep.DeepCutAuto
import Derived.Deep.RegionHeld3
import Derived.BigQuiet
import Derived.WalkMore
import Derived.Deep.LoopGhost
namespace Go.Proofs.Ytjgpbahglkaijaa
open Go.RowKit
set_option linter.unusedSimpArgs false
set_option linter.unusedVariables false

set_option maxRecDepth 100000 in
set_option maxHeartbeats 16000000 in
theorem rdecode_in (v : Value) (l : List Nat) (k : Nat) (w : World) (hv : RwX cB w v l) (hl : l.length ≤ 100000) (hx : ∀ b ∈ l, b < 256) (hk : k < l.length / 4) :
    Calls Try.prog 29 #[v, .int .i64 (k : Int)] w fun e w' => ∃ v', e = .returned (.tuple #[insV (dcI l (k : Int)) v', .int .i64 (dcZ l (k : Int)), .int .i64 (dcE l (k : Int))]) ∧ w'.ownsRow w.heap.size 110 1 v' (dcI l (k : Int)).m.length ((dcI l (k : Int)).m.map cU) ∧ Below w.heap.size w w' := by
  obtain ⟨ao, cc, hvf, -⟩ := id hv
  have q1 := bl1 w (.cells #[.int .i64 0, .int .i64 0, .slice none 0 0] 75)
  have K1 := rget13 v l (4 * (k : Int)) 4 4 rfl (by decide) (by decide) _ (hv.below q1) (by omega) hx (by omega) (by omega)
  have hyes : 0 ≤ 4 * (k : Int) ∧ 4 * (k : Int) ≤ (l.length : Int) - ((4 : Nat) : Int) := ⟨by omega, by omega⟩
  have e1 : ((gtN l (4 * (k : Int)) 4 : Nat) : Int) = uI (wdV l k) := by
    rw [wd_uI l k hx]
    unfold gtN
    rw [if_pos hyes, show (4 * (k : Int)).toNat = 4 * k by omega]
  rw [decide_eq_true hyes, e1] at K1
  obtain ⟨A4, hA4⟩ : ∃ A4 : Nat, 4 * (k : Int) = (A4 : Int) := ⟨4 * k, by omega⟩
  have mw : IntKind.i64.wrap (4 * (k : Int)) = (A4 : Int) := by rw [IntKind.wrap_i64]; omega
  rw [hA4] at K1
  have HV := hid13 hv
  have HX := hid13 hx
  have HK : Hid (k < l.length / 4 ∧ l.length ≤ 100000) := ⟨hk, hl⟩
  have hX0 := uI_lo (wdV l k)
  have hX1 := uI_up (wdV l k)
  have han := and24 (wdV l k)
  obtain ⟨X, hX⟩ : ∃ X, X = uI (wdV l k) := ⟨_, rfl⟩
  obtain ⟨O, hO⟩ : ∃ O : Nat, (O : Int) = insO l k := ⟨(insO l k).toNat, by unfold insO; omega⟩
  obtain ⟨N, hN⟩ : ∃ N : Nat, (N : Int) = insN l k := ⟨(insN l k).toNat, by unfold insN; omega⟩
  have HR : Hid (rdP l k = if isOp (O : Int) = true then (if (N : Int) ≤ kRm (O : Int) then (if tkB (O : Int) (N : Int) = true then (if (O : Int) = 2 then rmP l (k + 1) N else ([], (0 : Int))) else ([], 1)) else ([], 24)) else ([], 24)) := by
    show _ = _
    unfold rdP
    rw [← hO, ← hN, Int.toNat_natCast]
  have HQ : Hid (((O : Nat) : Int) = insO l k ∧ ((N : Nat) : Int) = insN l k) := ⟨hO, hN⟩
  have x1 : X / 16777216 = (O : Int) := by rw [hX, hO]; rfl
  have x2 : bits .and .u32 X 16777215 = (N : Int) := by rw [hX, han, hN]; rfl
  have hNb : (N : Int) < 16777216 := by rw [hN]; unfold insN; omega
  have hOw : IntKind.i64.wrap (O : Int) = (O : Int) := by rw [IntKind.wrap_i64]; have : (O : Int) < 256 := by rw [hO]; unfold insO; omega
                                                          omega
  have hNw : IntKind.i64.wrap (N : Int) = (N : Int) := by rw [IntKind.wrap_i64]; omega
  rw [← hX] at K1
  have d0 : ¬ (k : Int) < 0 := by omega
  have d1 : ¬ (l.length : Int) ≤ (k : Int) := by omega
  subst hvf
  have HNb := hid13 hNb
  have HAnd : Hid (∀ W : World, (binOp .and 110 (.int .u32 X) (.int .u32 16777215)).run Try.prog W = .ok (.int .u32 (N : Int)) W) := by
    intro W
    rw [binOp_and]
    show Result.ok (Value.int .u32 (bits .and .u32 X 16777215)) W = _
    rw [x2]
  clear hyes e1 hv hx hX han q1 hO hN hNb hl hk hX0 hX1 hA4 x2
  cases ho : isOp (O : Int) with
  | false =>
    have HR2 : Hid (rdP l k = ([], 24)) := by show _ = _; rw [HR.out, if_neg (by rw [ho]; decide)]
    obtain ⟨h1, h2, h3, h4⟩ := isOp_none ho
    clear ho HR
    go_enter Try.func29, Try.ntmps29
    go_wp2_with (first | (go_at_call 50; refine K1.mono ?_; rintro e w2 ⟨rfl, hw2⟩; replace hw2 := hw2.symm; subst hw2) | (with_reducible apply stopAnd14))
    refine (show wpList _ _ _ _ _ _ from ?_)
    refine sw_run14 (v := .int .u32 (N : Int)) rfl (ex14b (HAnd.out _)) ?_
    simp only [Act.put, List.setIfInBounds_toArray, List.set_cons_zero, List.set_cons_succ]
    clear HAnd HNb K1
    go_wp2_with fail
    exact bodyPost_ret (v := .tuple #[.agg #[.int .i64 0, .int .i64 0, .slice none 0 0], .int .i64 0, .int .i64 24]) (by simp [results, Try.results29, go_sem]) rfl (rd_fin l k w HK.out.1 24 [] (by decide) HR2.out _ (keepb (bl1 _ _) (bl1 _ _)))
  | true =>
    have hR1 := HR.out
    rw [if_pos ho] at hR1
    rcases isOp_cases ho with hO1 | hO1 | hO1 | hO1
    · obtain rfl : O = 1 := by omega
      have cO : ((1 : Nat) : Int) = 1 := rfl
      rw [cO] at x1 HQ hR1 hOw
      clear ho HR hO1
      rw [show kRm (1 : Int) = 255 from rfl] at hR1
      by_cases r1 : (N : Int) ≤ 255
      · rw [if_pos r1] at hR1
        have r2 : ¬ 255 < (N : Int) := by omega
        by_cases t1 : (N : Int) < 1
        · rw [if_neg (by have := HNb.out; unfold tkB kLo kHi; simp; omega)] at hR1
          have HR2 : Hid (rdP l k = ([], 1)) := hR1
          clear hR1
          go_enter Try.func29, Try.ntmps29
          go_wp2_with (first | (go_at_call 50; refine K1.mono ?_; rintro e w2 ⟨rfl, hw2⟩; replace hw2 := hw2.symm; subst hw2) | (with_reducible apply stopAnd14))
          refine (show wpList _ _ _ _ _ _ from ?_)
          refine sw_run14 (v := .int .u32 (N : Int)) rfl (ex14b (HAnd.out _)) ?_
          simp only [Act.put, List.setIfInBounds_toArray, List.set_cons_zero, List.set_cons_succ]
          clear HAnd HNb K1
          go_wp2_with fail
          exact bodyPost_ret (v := .tuple #[.agg #[.int .i64 0, .int .i64 0, .slice none 0 0], .int .i64 0, .int .i64 1]) (by simp [results, Try.results29, go_sem]) rfl (rd_fin l k w HK.out.1 1 [] (by decide) HR2.out _ (keepb (bl1 _ _) (bl1 _ _)))
        by_cases t2 : 24 < (N : Int)
        · rw [if_neg (by have := HNb.out; unfold tkB kLo kHi; simp; omega)] at hR1
          have HR2 : Hid (rdP l k = ([], 1)) := hR1
          clear hR1
          go_enter Try.func29, Try.ntmps29
          go_wp2_with (first | (go_at_call 50; refine K1.mono ?_; rintro e w2 ⟨rfl, hw2⟩; replace hw2 := hw2.symm; subst hw2) | (with_reducible apply stopAnd14))
          refine (show wpList _ _ _ _ _ _ from ?_)
          refine sw_run14 (v := .int .u32 (N : Int)) rfl (ex14b (HAnd.out _)) ?_
          simp only [Act.put, List.setIfInBounds_toArray, List.set_cons_zero, List.set_cons_succ]
          clear HAnd HNb K1
          go_wp2_with fail
          exact bodyPost_ret (v := .tuple #[.agg #[.int .i64 0, .int .i64 0, .slice none 0 0], .int .i64 0, .int .i64 1]) (by simp [results, Try.results29, go_sem]) rfl (rd_fin l k w HK.out.1 1 [] (by decide) HR2.out _ (keepb (bl1 _ _) (bl1 _ _)))
        rw [if_pos (by have := HNb.out; unfold tkB kLo kHi; simp; omega)] at hR1
        rw [if_neg (by decide)] at hR1
        have HR2 : Hid (rdP l k = ([], 0)) := hR1
        clear hR1
        go_enter Try.func29, Try.ntmps29
        go_wp2_with (first | (go_at_call 50; refine K1.mono ?_; rintro e w2 ⟨rfl, hw2⟩; replace hw2 := hw2.symm; subst hw2) | (with_reducible apply stopAnd14))
        refine (show wpList _ _ _ _ _ _ from ?_)
        refine sw_run14 (v := .int .u32 (N : Int)) rfl (ex14b (HAnd.out _)) ?_
        simp only [Act.put, List.setIfInBounds_toArray, List.set_cons_zero, List.set_cons_succ]
        clear HAnd HNb K1
        go_wp2_with fail
        obtain ⟨g1, g2, g3⟩ := dc_ok HK.out.1 HR2.out
        exact bodyPost_ret (v := .tuple #[.agg #[.int .i64 1, .int .i64 (N : Int), .slice none 0 0], .int .i64 1, .int .i64 0]) (by simp [results, Try.results29, go_sem]) rfl ⟨.slice none 0 0, by rw [g1, g2, g3, ← HQ.out.1, ← HQ.out.2]; rfl, by rw [g1]; exact World.ownsRow_nil _ _ _ _, keepb (bl1 _ _) (bl1 _ _)⟩
      · rw [if_neg r1] at hR1
        have r2 : 255 < (N : Int) := by omega
        have HR2 : Hid (rdP l k = ([], 24)) := hR1
        clear hR1
        go_enter Try.func29, Try.ntmps29
        go_wp2_with (first | (go_at_call 50; refine K1.mono ?_; rintro e w2 ⟨rfl, hw2⟩; replace hw2 := hw2.symm; subst hw2) | (with_reducible apply stopAnd14))
        refine (show wpList _ _ _ _ _ _ from ?_)
        refine sw_run14 (v := .int .u32 (N : Int)) rfl (ex14b (HAnd.out _)) ?_
        simp only [Act.put, List.setIfInBounds_toArray, List.set_cons_zero, List.set_cons_succ]
        clear HAnd HNb K1
        go_wp2_with fail
        exact bodyPost_ret (v := .tuple #[.agg #[.int .i64 0, .int .i64 0, .slice none 0 0], .int .i64 0, .int .i64 24]) (by simp [results, Try.results29, go_sem]) rfl (rd_fin l k w HK.out.1 24 [] (by decide) HR2.out _ (keepb (bl1 _ _) (bl1 _ _)))
    · obtain rfl : O = 2 := by omega
      have cO : ((2 : Nat) : Int) = 2 := rfl
      rw [cO] at x1 HQ hR1 hOw
      clear ho HR hO1
      rw [show kRm (2 : Int) = 255 from rfl] at hR1
      by_cases r1 : (N : Int) ≤ 255
      · rw [if_pos r1] at hR1
        have r2 : ¬ 255 < (N : Int) := by omega
        by_cases t1 : (N : Int) < 1
        · rw [if_neg (by have := HNb.out; unfold tkB kLo kHi; simp; omega)] at hR1
          have HR2 : Hid (rdP l k = ([], 1)) := hR1
          clear hR1
          go_enter Try.func29, Try.ntmps29
          go_wp2_with (first | (go_at_call 50; refine K1.mono ?_; rintro e w2 ⟨rfl, hw2⟩; replace hw2 := hw2.symm; subst hw2) | (with_reducible apply stopAnd14))
          refine (show wpList _ _ _ _ _ _ from ?_)
          refine sw_run14 (v := .int .u32 (N : Int)) rfl (ex14b (HAnd.out _)) ?_
          simp only [Act.put, List.setIfInBounds_toArray, List.set_cons_zero, List.set_cons_succ]
          clear HAnd HNb K1
          go_wp2_with fail
          exact bodyPost_ret (v := .tuple #[.agg #[.int .i64 0, .int .i64 0, .slice none 0 0], .int .i64 0, .int .i64 1]) (by simp [results, Try.results29, go_sem]) rfl (rd_fin l k w HK.out.1 1 [] (by decide) HR2.out _ (keepb (bl1 _ _) (bl1 _ _)))
        by_cases t2 : 24 < (N : Int)
        · rw [if_neg (by have := HNb.out; unfold tkB kLo kHi; simp; omega)] at hR1
          have HR2 : Hid (rdP l k = ([], 1)) := hR1
          clear hR1
          go_enter Try.func29, Try.ntmps29
          go_wp2_with (first | (go_at_call 50; refine K1.mono ?_; rintro e w2 ⟨rfl, hw2⟩; replace hw2 := hw2.symm; subst hw2) | (with_reducible apply stopAnd14))
          refine (show wpList _ _ _ _ _ _ from ?_)
          refine sw_run14 (v := .int .u32 (N : Int)) rfl (ex14b (HAnd.out _)) ?_
          simp only [Act.put, List.setIfInBounds_toArray, List.set_cons_zero, List.set_cons_succ]
          clear HAnd HNb K1
          go_wp2_with fail
          exact bodyPost_ret (v := .tuple #[.agg #[.int .i64 0, .int .i64 0, .slice none 0 0], .int .i64 0, .int .i64 1]) (by simp [results, Try.results29, go_sem]) rfl (rd_fin l k w HK.out.1 1 [] (by decide) HR2.out _ (keepb (bl1 _ _) (bl1 _ _)))
        rw [if_pos (by have := HNb.out; unfold tkB kLo kHi; simp; omega)] at hR1
        rw [if_pos rfl] at hR1
        exact rdecode_map (.slice ao l.length cc) l k N w HV.out HK.out.2 HX.out HK.out.1 HQ.out.1.symm HQ.out.2.symm (by omega) (by omega)
      · rw [if_neg r1] at hR1
        have r2 : 255 < (N : Int) := by omega
        have HR2 : Hid (rdP l k = ([], 24)) := hR1
        clear hR1
        go_enter Try.func29, Try.ntmps29
        go_wp2_with (first | (go_at_call 50; refine K1.mono ?_; rintro e w2 ⟨rfl, hw2⟩; replace hw2 := hw2.symm; subst hw2) | (with_reducible apply stopAnd14))
        refine (show wpList _ _ _ _ _ _ from ?_)
        refine sw_run14 (v := .int .u32 (N : Int)) rfl (ex14b (HAnd.out _)) ?_
        simp only [Act.put, List.setIfInBounds_toArray, List.set_cons_zero, List.set_cons_succ]
        clear HAnd HNb K1
        go_wp2_with fail
        exact bodyPost_ret (v := .tuple #[.agg #[.int .i64 0, .int .i64 0, .slice none 0 0], .int .i64 0, .int .i64 24]) (by simp [results, Try.results29, go_sem]) rfl (rd_fin l k w HK.out.1 24 [] (by decide) HR2.out _ (keepb (bl1 _ _) (bl1 _ _)))
    · obtain rfl : O = 3 := by omega
      have cO : ((3 : Nat) : Int) = 3 := rfl
      rw [cO] at x1 HQ hR1 hOw
      clear ho HR hO1
      rw [show kRm (3 : Int) = 16777215 from rfl] at hR1
      rw [if_pos (by have := HNb.out; omega)] at hR1
      by_cases t1 : (N : Int) < 1
      · rw [if_neg (by have := HNb.out; unfold tkB kLo kHi; simp; omega)] at hR1
        have HR2 : Hid (rdP l k = ([], 1)) := hR1
        clear hR1
        go_enter Try.func29, Try.ntmps29
        go_wp2_with (first | (go_at_call 50; refine K1.mono ?_; rintro e w2 ⟨rfl, hw2⟩; replace hw2 := hw2.symm; subst hw2) | (with_reducible apply stopAnd14))
        refine (show wpList _ _ _ _ _ _ from ?_)
        refine sw_run14 (v := .int .u32 (N : Int)) rfl (ex14b (HAnd.out _)) ?_
        simp only [Act.put, List.setIfInBounds_toArray, List.set_cons_zero, List.set_cons_succ]
        clear HAnd HNb K1
        go_wp2_with fail
        exact bodyPost_ret (v := .tuple #[.agg #[.int .i64 0, .int .i64 0, .slice none 0 0], .int .i64 0, .int .i64 1]) (by simp [results, Try.results29, go_sem]) rfl (rd_fin l k w HK.out.1 1 [] (by decide) HR2.out _ (keepb (bl1 _ _) (bl1 _ _)))
      rw [if_pos (by have := HNb.out; unfold tkB kLo kHi; simp; omega)] at hR1
      rw [if_neg (by decide)] at hR1
      have HR2 : Hid (rdP l k = ([], 0)) := hR1
      clear hR1
      go_enter Try.func29, Try.ntmps29
      go_wp2_with (first | (go_at_call 50; refine K1.mono ?_; rintro e w2 ⟨rfl, hw2⟩; replace hw2 := hw2.symm; subst hw2) | (with_reducible apply stopAnd14))
      refine (show wpList _ _ _ _ _ _ from ?_)
      refine sw_run14 (v := .int .u32 (N : Int)) rfl (ex14b (HAnd.out _)) ?_
      simp only [Act.put, List.setIfInBounds_toArray, List.set_cons_zero, List.set_cons_succ]
      clear HAnd HNb K1
      go_wp2_with fail
      obtain ⟨g1, g2, g3⟩ := dc_ok HK.out.1 HR2.out
      exact bodyPost_ret (v := .tuple #[.agg #[.int .i64 3, .int .i64 (N : Int), .slice none 0 0], .int .i64 1, .int .i64 0]) (by simp [results, Try.results29, go_sem]) rfl ⟨.slice none 0 0, by rw [g1, g2, g3, ← HQ.out.1, ← HQ.out.2]; rfl, by rw [g1]; exact World.ownsRow_nil _ _ _ _, keepb (bl1 _ _) (bl1 _ _)⟩
    · obtain rfl : O = 4 := by omega
      have cO : ((4 : Nat) : Int) = 4 := rfl
      rw [cO] at x1 HQ hR1 hOw
      clear ho HR hO1
      rw [show kRm (4 : Int) = 65535 from rfl] at hR1
      by_cases r1 : (N : Int) ≤ 65535
      · rw [if_pos r1] at hR1
        have r2 : ¬ 65535 < (N : Int) := by omega
        rw [if_pos (by have := HNb.out; unfold tkB kLo kHi; simp; omega), if_neg (by decide)] at hR1
        have HR2 : Hid (rdP l k = ([], 0)) := hR1
        clear hR1
        go_enter Try.func29, Try.ntmps29
        go_wp2_with (first | (go_at_call 50; refine K1.mono ?_; rintro e w2 ⟨rfl, hw2⟩; replace hw2 := hw2.symm; subst hw2) | (with_reducible apply stopAnd14))
        refine (show wpList _ _ _ _ _ _ from ?_)
        refine sw_run14 (v := .int .u32 (N : Int)) rfl (ex14b (HAnd.out _)) ?_
        simp only [Act.put, List.setIfInBounds_toArray, List.set_cons_zero, List.set_cons_succ]
        clear HAnd HNb K1
        go_wp2_with fail
        obtain ⟨g1, g2, g3⟩ := dc_ok HK.out.1 HR2.out
        exact bodyPost_ret (v := .tuple #[.agg #[.int .i64 4, .int .i64 (N : Int), .slice none 0 0], .int .i64 1, .int .i64 0]) (by simp [results, Try.results29, go_sem]) rfl ⟨.slice none 0 0, by rw [g1, g2, g3, ← HQ.out.1, ← HQ.out.2]; rfl, by rw [g1]; exact World.ownsRow_nil _ _ _ _, keepb (bl1 _ _) (bl1 _ _)⟩
      · rw [if_neg r1] at hR1
        have r2 : 65535 < (N : Int) := by omega
        have HR2 : Hid (rdP l k = ([], 24)) := hR1
        clear hR1
        go_enter Try.func29, Try.ntmps29
        go_wp2_with (first | (go_at_call 50; refine K1.mono ?_; rintro e w2 ⟨rfl, hw2⟩; replace hw2 := hw2.symm; subst hw2) | (with_reducible apply stopAnd14))
        refine (show wpList _ _ _ _ _ _ from ?_)
        refine sw_run14 (v := .int .u32 (N : Int)) rfl (ex14b (HAnd.out _)) ?_
        simp only [Act.put, List.setIfInBounds_toArray, List.set_cons_zero, List.set_cons_succ]
        clear HAnd HNb K1
        go_wp2_with fail
        exact bodyPost_ret (v := .tuple #[.agg #[.int .i64 0, .int .i64 0, .slice none 0 0], .int .i64 0, .int .i64 24]) (by simp [results, Try.results29, go_sem]) rfl (rd_fin l k w HK.out.1 24 [] (by decide) HR2.out _ (keepb (bl1 _ _) (bl1 _ _)))
end Go.Proofs.Ytjgpbahglkaijaa
namespace Go.Proofs.Ytjgpbahglkaijaa
open Go.RowKit
set_option linter.unusedSimpArgs false
set_option linter.unusedVariables false

def TwI (W : World) (B : Nat) (i j : Ins) (v u : Value) : Prop := AtI W B i.op i.n v ∧ AtI W (B + 1) j.op j.n u ∧ RwX cU W v i.m ∧ RwX cU W u j.m
theorem TwI.below {W W' : World} {B : Nat} {i j : Ins} {v u : Value} (h : TwI W B i j v u) (hb : Below W.heap.size W W') : TwI W' B i j v u := ⟨h.1.below hb, h.2.1.below hb, h.2.2.1.below hb, h.2.2.2.below hb⟩
end Go.Proofs.Ytjgpbahglkaijaa
namespace Go.Proofs.Ytjgpbahglkaijaa
open Go.RowKit
set_option linter.unusedSimpArgs false
set_option linter.unusedVariables false

end Go.Proofs.Ytjgpbahglkaijaa
namespace Go.Proofs.Ytjgpbahglkaijaa
open Go.RowKit
set_option linter.unusedSimpArgs false
set_option linter.unusedVariables false

end Go.Proofs.Ytjgpbahglkaijaa
namespace Go.Proofs.Ytjgpbahglkaijaa
open Go.RowKit
set_option linter.unusedSimpArgs false
set_option linter.unusedVariables false

theorem rdecode14 (v : Value) (l : List Nat) (a : Int) (w : World) (hv : RwX cB w v l) (hl : l.length ≤ 100000) (hx : ∀ b ∈ l, b < 256) :
    Calls Try.prog 29 #[v, .int .i64 a] w fun e w' => ∃ v', e = .returned (.tuple #[insV (dcI l a) v', .int .i64 (dcZ l a), .int .i64 (dcE l a)]) ∧ w'.ownsRow w.heap.size 110 1 v' (dcI l a).m.length ((dcI l a).m.map cU) ∧ Below w.heap.size w w' := by
  cases hs : stB l.length a 1 with
  | false => exact rdecode_out v l a w hv hl hx hs
  | true =>
    have h2 : 0 ≤ a ∧ a.toNat < l.length / 4 := by unfold stB at hs; simp at hs; constructor <;> omega
    obtain ⟨k, rfl⟩ : ∃ k : Nat, a = (k : Int) := ⟨a.toNat, by omega⟩
    rw [Int.toNat_natCast] at h2
    exact rdecode_in v l k w hv hl hx h2.2
theorem dcI_len14 (l : List Nat) (a : Int) : (dcI l a).m.length ≤ 524288 := by
  unfold dcI
  split
  · exact rdP_len _ _
  · simp
end Go.Proofs.Ytjgpbahglkaijaa
namespace Go.Proofs.Ytjgpbahglkaijaa
open Go.RowKit
set_option linter.unusedSimpArgs false
set_option linter.unusedVariables false

theorem len8_bd : ∀ b : Fin 256, b.val ≠ 0 → 1 ≤ Lib.bitLen b.val ∧ Lib.bitLen b.val ≤ 8 ∧ 2 ^ (Lib.bitLen b.val - 1) ≤ b.val ∧ b.val < 2 ^ Lib.bitLen b.val := by decide +kernel
def LenQ (n L : Nat) : Prop := 1 ≤ L ∧ L ≤ 32 ∧ 2 ^ (L - 1) ≤ n ∧ n < 2 ^ L
theorem lenQ_at (n s b : Nat) (hb : b = n / 2 ^ s) (h0 : b ≠ 0) (h1 : b < 256) (hs : s + 8 ≤ 32) : LenQ n (s + Lib.bitLen b) := by
  obtain ⟨e1, e2, e3, e4⟩ := len8_bd ⟨b, h1⟩ h0
  simp only at e1 e2 e3 e4
  refine ⟨by omega, by omega, ?_, ?_⟩
  · rw [show s + Lib.bitLen b - 1 = s + (Lib.bitLen b - 1) by omega, Nat.pow_add, Nat.mul_comm]
    have : b * 2 ^ s ≤ n := by rw [hb]; exact Nat.div_mul_le_self n (2 ^ s)
    exact Nat.le_trans (Nat.mul_le_mul_right _ e3) this
  · rw [Nat.pow_add, Nat.mul_comm]
    have e5 : n / 2 ^ s < 2 ^ Lib.bitLen b := by rw [← hb]; exact e4
    exact (Nat.div_lt_iff_lt_mul (Nat.two_pow_pos s)).1 e5
theorem len8_at (b : Nat) (h : b < 256) : Lib.len8 (b : Int) = ((Lib.bitLen b : Nat) : Int) := Lib.len8_eq ⟨b, h⟩
set_option maxRecDepth 100000 in
set_option maxHeartbeats 8000000 in
theorem len32_any (n : Nat) (h0 : n ≠ 0) (h1 : n < 4294967296) (w : World) :
    Calls Try.prog 124 #[.int .u32 (n : Int)] w fun e w' => (∃ L : Nat, e = .returned (.int .i64 (L : Int)) ∧ LenQ n L) ∧ w' = w := by
  have main : ∀ (s b : Nat), b = n / 2 ^ s → b ≠ 0 → b < 256 → s + 8 ≤ 32 → ∃ q : Nat, Lib.len8 (b : Int) = (q : Int) ∧ q ≤ 8 ∧ LenQ n (s + q) := fun s b hb hb0 hb1 hs =>
    ⟨Lib.bitLen b, len8_at b hb1, (len8_bd ⟨b, hb1⟩ hb0).2.1, lenQ_at n s b hb hb0 hb1 hs⟩
  obtain ⟨N, hN⟩ : ∃ N : Int, N = (n : Int) := ⟨_, rfl⟩
  rw [← hN]
  by_cases c1 : 65536 ≤ n
  · have d1 : 65536 ≤ N := by omega
    by_cases c2 : 256 ≤ n / 65536
    · obtain ⟨q, hq, hq8, hL⟩ := main 24 (n / 16777216) rfl (by omega) (by omega) (by omega)
      have d2 : 256 ≤ N / 65536 := by omega
      obtain ⟨B, hB⟩ : ∃ B : Int, B = ((n / 16777216 : Nat) : Int) := ⟨_, rfl⟩
      rw [← hB] at hq
      have d3 : N / 65536 / 256 = B := by omega
      have d4 : 0 ≤ B := by omega
      have d5 : B ≤ 255 := by omega
      have hq0 : ((q : Nat) : Int) ≤ 8 := by omega
      have HL := hid13 hL
      clear main hB hL c1 c2 h0 h1 hN
      go_enter Try.func124, Try.ntmps124
      go_wp2
      go_ret
      exact ⟨⟨24 + q, rfl, HL.out⟩, rfl⟩
    · obtain ⟨q, hq, hq8, hL⟩ := main 16 (n / 65536) rfl (by omega) (by omega) (by omega)
      have d2 : ¬ 256 ≤ N / 65536 := by omega
      obtain ⟨B, hB⟩ : ∃ B : Int, B = ((n / 65536 : Nat) : Int) := ⟨_, rfl⟩
      rw [← hB] at hq
      have d3 : N / 65536 = B := by omega
      have d4 : 0 ≤ B := by omega
      have d5 : B ≤ 255 := by omega
      rw [d3] at d2
      have hq0 : ((q : Nat) : Int) ≤ 8 := by omega
      have HL := hid13 hL
      clear main hB hL c1 c2 h0 h1 hN
      go_enter Try.func124, Try.ntmps124
      go_wp2
      go_ret
      exact ⟨⟨16 + q, rfl, HL.out⟩, rfl⟩
  · have d1 : ¬ 65536 ≤ N := by omega
    by_cases c2 : 256 ≤ n
    · obtain ⟨q, hq, hq8, hL⟩ := main 8 (n / 256) rfl (by omega) (by omega) (by omega)
      have d2 : 256 ≤ N := by omega
      obtain ⟨B, hB⟩ : ∃ B : Int, B = ((n / 256 : Nat) : Int) := ⟨_, rfl⟩
      rw [← hB] at hq
      have d3 : N / 256 = B := by omega
      have d4 : 0 ≤ B := by omega
      have d5 : B ≤ 255 := by omega
      have hq0 : ((q : Nat) : Int) ≤ 8 := by omega
      have HL := hid13 hL
      clear main hB hL c1 c2 h0 h1 hN
      go_enter Try.func124, Try.ntmps124
      go_wp2
      go_ret
      exact ⟨⟨8 + q, rfl, HL.out⟩, rfl⟩
    · obtain ⟨q, hq, hq8, hL⟩ := main 0 n (by simp) (by omega) (by omega) (by omega)
      have d2 : ¬ 256 ≤ N := by omega
      rw [← hN] at hq
      have d4 : 0 ≤ N := by omega
      have d5 : N ≤ 255 := by omega
      have hq0 : ((q : Nat) : Int) ≤ 8 := by omega
      have HL := hid13 hL
      clear main hL c1 c2 h0 h1 hN
      go_enter Try.func124, Try.ntmps124
      go_wp2
      go_ret
      refine ⟨⟨0 + q, ?_, HL.out⟩, rfl⟩
      rw [Nat.zero_add]; rfl
def FstP (x : BitVec 32) (p : Nat) : Prop := p < 32 ∧ bt x p = true ∧ ∀ j, j < p → bt x j = false
theorem fst_len (x : BitVec 32) (L : Nat) (h : LenQ x.toNat L) : FstP x (32 - L) := by
  obtain ⟨h1, h2, h3, h4⟩ := h
  have key : ∀ j, j < 32 → bt x j = decide (x.toNat / 2 ^ (31 - j) % 2 = 1) := fun j _ => by
    unfold bt BitVec.getLsbD; rw [Nat.testBit_eq_decide_div_mod_eq]
  refine ⟨by omega, ?_, fun j hj => ?_⟩
  · rw [key _ (by omega), show 31 - (32 - L) = L - 1 by omega, decide_eq_true_eq]
    have a1 : x.toNat / 2 ^ (L - 1) < 2 := by
      rw [Nat.div_lt_iff_lt_mul (Nat.two_pow_pos _), Nat.mul_comm, ← Nat.pow_succ, show (L - 1).succ = L by omega]; exact h4
    have a2 : 1 ≤ x.toNat / 2 ^ (L - 1) := (Nat.le_div_iff_mul_le (Nat.two_pow_pos _)).2 (by omega)
    omega
  · rw [key _ (by omega), decide_eq_false_iff_not]
    have : x.toNat / 2 ^ (31 - j) = 0 := Nat.div_eq_of_lt (Nat.lt_of_lt_of_le h4 (Nat.pow_le_pow_right (by decide) (by omega)))
    omega
set_option maxRecDepth 100000 in
theorem lead13_any (x : BitVec 32) (h0 : x ≠ 0#32) (w : World) :
    Calls Try.prog 104 #[.int .u32 (uI x)] w fun e w' => (∃ p : Nat, e = .returned (.int .i64 (p : Int)) ∧ FstP x p) ∧ w' = w := by
  have hne : x.toNat ≠ 0 := fun e => h0 (BitVec.eq_of_toNat_eq (by rw [e]; rfl))
  have K := len32_any x.toNat hne x.isLt w
  rw [← uI_eq] at K
  go_enter Try.func104, Try.ntmps104
  go_wp2_with fail
  refine K.mono ?_
  rintro e w1 ⟨⟨L, rfl, hL⟩, rfl⟩
  have HP := hid13 (fst_len x L hL)
  obtain ⟨p, hp⟩ : ∃ p, p = 32 - L := ⟨_, rfl⟩
  have hpi : 32 - (L : Int) = (p : Int) := by have := hL.2.1; omega
  have hpl : ((L : Nat) : Int) ≤ 32 := by have := hL.2.1; omega
  rw [← hp] at HP
  clear hL hp K
  go_wp2
  go_ret
  exact ⟨⟨p, rfl, HP.out⟩, rfl⟩
end Go.Proofs.Ytjgpbahglkaijaa
namespace Go.Proofs.Ytjgpbahglkaijaa
open Go.RowKit
set_option linter.unusedSimpArgs false
set_option linter.unusedVariables false

end Go.Proofs.Ytjgpbahglkaijaa
namespace Go.Proofs.Ytjgpbahglkaijaa
open Go.RowKit
set_option linter.unusedSimpArgs false
set_option linter.unusedVariables false

theorem bitI (c : BitVec 32) (i : Nat) (h : i < 32) : bits .and .u32 (uI c / 2 ^ i) 1 = if c.getLsbD i then 1 else 0 := by
  rw [shr32, odd32, BitVec.getLsbD_ushiftRight, Nat.add_zero]
end Go.Proofs.Ytjgpbahglkaijaa
namespace Go.Proofs.Ytjgpbahglkaijaa
open Go.RowKit
set_option linter.unusedSimpArgs false
set_option linter.unusedVariables false

section
variable {W W' : World} {S k : Nat} {f : Nat → BitVec 32}
end
end Go.Proofs.Ytjgpbahglkaijaa
namespace Go.Proofs.Ytjgpbahglkaijaa
open Go.RowKit
set_option linter.unusedSimpArgs false
set_option linter.unusedVariables false

end Go.Proofs.Ytjgpbahglkaijaa
namespace Go.Proofs.Ytjgpbahglkaijaa
open Go.RowKit
set_option linter.unusedSimpArgs false
set_option linter.unusedVariables false

set_option maxRecDepth 100000 in
theorem is13 (v : Value) (U : List (BitVec 32)) (k : Nat) (w : World) (hv : RwX cU w v U) (hk : k < 32 * U.length) (hl : U.length ≤ 100000000000000) :
    Calls Try.prog 30 #[v, .int .i64 (k : Int)] w fun e w' => e = .returned (.bool (plc U k)) ∧ w' = w := by
  obtain ⟨ao, cc, rfl, -, hv⟩ := hv
  obtain ⟨q, hq⟩ : ∃ q, q = k / 32 := ⟨_, rfl⟩
  obtain ⟨r, hr⟩ : ∃ r, r = k % 32 := ⟨_, rfl⟩
  have hql : q < U.length := by omega
  obtain ⟨x, hx⟩ : ∃ x, U[q]? = some x := ⟨U[q], by simp [hql]⟩
  obtain ⟨bo, off, rfl, hc1⟩ : ∃ bo off, ao = some ⟨bo, off, none⟩ ∧ ∀ j x, U[j]? = some x → w.cell? ⟨bo, off + j, none⟩ = some (cU x) := by
    rcases hv with h | h
    · rw [h] at hql; simp at hql
    · exact h
  have r1 : w.cell? ⟨bo, off + q, none⟩ = some (.int .u32 (uI x)) := hc1 q x hx
  obtain ⟨s, hs⟩ : ∃ s, s + r = 31 := ⟨31 - r, by omega⟩
  have hq1 : (k : Int) / 32 = (q : Int) := by omega
  have hr1 : (k : Int) % 32 = (r : Int) := by omega
  have hs1 : 31 - (r : Int) = (s : Int) := by omega
  have hb := bitI x s (by omega)
  have hqi : ((q : Nat) : Int) < (U.length : Int) := by omega
  have HP : Hid (plc U k = x.getLsbD s) := by
    show _ = _
    unfold plc bt
    rw [← hq, ← hr, List.getD_eq_getElem?_getD, hx, Option.getD_some, show 31 - r = s by omega]
  rw [HP.out]
  have hs32 : s < 32 := by omega
  clear hc1 hx hq hr hs hv hk HP hql
  cases c : x.getLsbD s
  · rw [c] at hb
    simp only [Bool.false_eq_true, if_false] at hb
    clear c
    go_enter Try.func30, Try.ntmps30
    go_wp2
    go_ret
    exact ⟨rfl, rfl⟩
  · rw [c] at hb
    simp only [if_true] at hb
    clear c
    go_enter Try.func30, Try.ntmps30
    go_wp2
    go_ret
    exact ⟨rfl, rfl⟩
theorem and_pred (n : Nat) (h0 : 0 < n) (h : n < 4294967296) : bits .and .u32 (n : Int) ((n : Int) - 1) = ((n &&& (n - 1) : Nat) : Int) := by
  have h1 : (n : Int) = uI (BitVec.ofNat 32 n) := lit32 n h
  have h2 : (n : Int) - 1 = uI (BitVec.ofNat 32 (n - 1)) := by rw [uI_of _ (by omega)]; omega
  rw [h2, h1, and32, uI_eq, BitVec.toNat_and, BitVec.toNat_ofNat, BitVec.toNat_ofNat]
  have h3 : (2 : Nat) ^ 32 = 4294967296 := by decide
  rw [h3, Nat.mod_eq_of_lt h, Nat.mod_eq_of_lt (by omega)]
set_option maxRecDepth 100000 in
set_option maxHeartbeats 8000000 in
theorem rones13 (v : Value) (U : List (BitVec 32)) (w : World) (hv : RwX cU w v U) (hl : U.length ≤ 100000000000000) :
    Calls Try.prog 73 #[v] w fun e w' => e = .returned (.int .i64 ((sumW U U.length : Nat) : Int)) ∧ w' = w := by
  obtain ⟨ao, cc, rfl, -, hv⟩ := hv
  have HV := hid13 hv
  have HL := hid13 hl
  clear hv hl
  go_enter Try.func73, Try.ntmps73
  go_wp2_with fail
  go_loopg [3, 4, 5] U.length (fun g n i x wr => wr = w ∧ ∃ k m : Nat, k + g = U.length ∧ i = .int .i64 (k : Int) ∧ n = .int .i64 (m : Int) ∧ Hid (m = sumW U k))
  case atStart => exact ⟨rfl, 0, 0, by omega, rfl, rfl, rfl⟩
  case round =>
    obtain ⟨hw, k, m, hk, rfl, rfl, HM⟩ := hrel
    replace hw := hw.symm
    subst hw
    by_cases hlt : k < U.length
    · have hli : (k : Int) < (U.length : Int) := by omega
      obtain ⟨bo, off, rfl, hc1⟩ : ∃ bo off, ao = some ⟨bo, off, none⟩ ∧ ∀ j x, U[j]? = some x → w.cell? ⟨bo, off + j, none⟩ = some (cU x) := by
        rcases HV.out with h | h
        · rw [h] at hlt; simp at hlt
        · exact h
      obtain ⟨x, hx⟩ : ∃ x, U[k]? = some x := ⟨U[k], by simp [hlt]⟩
      have r1 : w.cell? ⟨bo, off + k, none⟩ = some (.int .u32 (uI x)) := hc1 k x hx
      have mk : IntKind.i64.wrap ((k : Int) + 1) = (k : Int) + 1 := by have := HL.out; rw [IntKind.wrap_i64]; omega
      have HE : Hid (m + bsN 32 x.toNat = sumW U (k + 1) ∧ sumW U (k + 1) ≤ 3200000000000000) := by
        have h1 := sumW_le U (k + 1)
        have h2 := HL.out
        refine ⟨?_, by omega⟩
        simp only [sumW]
        rw [List.getD_eq_getElem?_getD, hx, Option.getD_some, HM.out]; rfl
      have HK : Hid (k + gk = U.length ∧ k < U.length) := ⟨hk, hlt⟩
      have HX : Hid (uI x = (x.toNat : Int) ∧ x.toNat < 4294967296) := ⟨uI_eq x, x.isLt⟩
      clear hc1 hx hk HM
      go_wp2_with fail
      obtain ⟨gk0, hgk0⟩ : ∃ g, g = gk := ⟨_, rfl⟩
      rw [← hgk0] at HK
      go_loopg [3, 5] 33 (fun g n v wr => wr = w ∧ ∃ (a : Nat) (B : Int), n = .int .i64 (a : Int) ∧ v = .int .u32 B ∧ Hid (∃ b : Nat, B = (b : Int) ∧ bsN 32 b < g ∧ b < 4294967296 ∧ a + bsN 32 b = sumW U (k + 1)))
      case atStart => exact ⟨rfl, m, uI x, rfl, rfl, x.toNat, HX.out.1, by have := bsN_le 32 x.toNat; omega, HX.out.2, HE.out.1⟩
      case round =>
        obtain ⟨hw, a, B, rfl, rfl, HA⟩ := hrel
        replace hw := hw.symm
        subst hw
        obtain ⟨b, hBb, hbg, hb32, hab⟩ := HA.out
        by_cases hz : b = 0
        · have hB0 : B = 0 := by omega
          subst hB0
          have HN : Hid (a = sumW U (k + 1)) := by show _ = _; rw [hz, bsN_zero] at hab; omega
          clear hbg HA hz hBb hb32 hab
          go_wp2_with fail
          go_roundg (gk0 - 1)
          case measure => rw [← hgk0]; have := HK.out; omega
          case rel => exact ⟨rfl, k + 1, a, by have := HK.out; omega, rfl, rfl, HN⟩
        · have hzi : 0 < B := by omega
          have hcl := clear_low 32 b (by omega) (by have : (2 : Nat) ^ 32 = 4294967296 := by decide
                                                    omega)
          obtain ⟨c, hc⟩ : ∃ c, c = b &&& (b - 1) := ⟨_, rfl⟩
          have han := and_pred b (by omega) hb32
          rw [← hc] at hcl han
          have hcb : c ≤ b := by rw [hc]; exact Nat.and_le_left
          obtain ⟨C, hC⟩ : ∃ C : Int, C = (c : Int) := ⟨_, rfl⟩
          rw [← hC, ← hBb] at han
          have HN : Hid (∃ b : Nat, C = (b : Int) ∧ bsN 32 b < gk - 1 ∧ b < 4294967296 ∧ a + 1 + bsN 32 b = sumW U (k + 1)) := ⟨c, hC, by omega, by omega, by omega⟩
          have ma : IntKind.i64.wrap ((a : Int) + 1) = (a : Int) + 1 := by have h2 := HE.out.2; rw [IntKind.wrap_i64]; omega
          have hb1 : B < 4294967296 := by omega
          have HG : Hid (0 < gk) := by show 0 < gk; omega
          clear hc hcl hz hC hBb hbg hb32 hab hcb HA
          go_wp2_with fail
          go_roundg (gk - 1)
          case measure => have := HG.out; omega
          case rel => exact ⟨rfl, a + 1, C, rfl, rfl, HN⟩
    · have hli : ¬ (k : Int) < (U.length : Int) := by omega
      obtain rfl : k = U.length := by omega
      go_wp2_with fail
      go_ret
      exact ⟨by rw [← HM.out]; rfl, rfl⟩
end Go.Proofs.Ytjgpbahglkaijaa
namespace Go.Proofs.Ytjgpbahglkaijaa
open Go.RowKit
set_option linter.unusedSimpArgs false
set_option linter.unusedVariables false

end Go.Proofs.Ytjgpbahglkaijaa
namespace Go.Proofs.Ytjgpbahglkaijaa
open Go.RowKit
set_option linter.unusedSimpArgs false
set_option linter.unusedVariables false

def At (w : World) (B : Nat) (x : BitVec 128) : Prop := w.cell? ⟨B, 0, none⟩ = some (.int .u64 (hI x)) ∧ w.cell? ⟨B, 1, none⟩ = some (.int .u64 (lI x)) ∧ w.frozen? ⟨B, 0, none⟩ = false ∧ w.frozen? ⟨B, 1, none⟩ = false ∧ B < w.heap.size
theorem At.below {w w' : World} {B : Nat} {x : BitVec 128} (h : At w B x) (hb : Below w.heap.size w w') : At w' B x := by
  obtain ⟨h0, h1, h2, h3, h4⟩ := h
  obtain ⟨hc, hf⟩ := bcell hb
  exact ⟨by rw [hc _ _ h4]; exact h0, by rw [hc _ _ h4]; exact h1, by rw [hf _ _ h4]; exact h2, by rw [hf _ _ h4]; exact h3, Nat.lt_of_lt_of_le h4 hb.size⟩
theorem At.set {w : World} {B : Nat} {x : BitVec 128} (y : BitVec 128) (h : At w B x) : At ((w.setCell ⟨B, 0, none⟩ (.int .u64 (hI y))).setCell ⟨B, 1, none⟩ (.int .u64 (lI y))) B y := by
  obtain ⟨h0, h1, h2, h3, h4⟩ := h
  refine ⟨?_, ?_, ?_, ?_, ?_⟩ <;> simp [go_sem, *]

end Go.Proofs.Ytjgpbahglkaijaa
namespace Go.Proofs.Ytjgpbahglkaijaa
open Go.RowKit
set_option linter.unusedSimpArgs false
set_option linter.unusedVariables false

end Go.Proofs.Ytjgpbahglkaijaa
namespace Go.Proofs.Ytjgpbahglkaijaa
open Go.RowKit
set_option linter.unusedSimpArgs false
set_option linter.unusedVariables false

end Go.Proofs.Ytjgpbahglkaijaa
namespace Go.Proofs.Ytjgpbahglkaijaa
open Go.RowKit
set_option linter.unusedSimpArgs false
set_option linter.unusedVariables false

end Go.Proofs.Ytjgpbahglkaijaa
namespace Go.Proofs.Ytjgpbahglkaijaa
open Go.RowKit
set_option linter.unusedSimpArgs false
set_option linter.unusedVariables false

def fam (F : Int) : Bool := decide (F = 32) || decide (F = 128)
end Go.Proofs.Ytjgpbahglkaijaa
namespace Go.Proofs.Ytjgpbahglkaijaa
open Go.RowKit
set_option linter.unusedSimpArgs false
set_option linter.unusedVariables false

end Go.Proofs.Ytjgpbahglkaijaa
namespace Go.Proofs.Ytjgpbahglkaijaa
open Go.RowKit
set_option linter.unusedSimpArgs false
set_option linter.unusedVariables false

def AtP (w : World) (B : Nat) (x : BitVec 128) (n : Int) : Prop := w.cell? ⟨B, 0, none⟩ = some (.int .u64 (hI x)) ∧ w.cell? ⟨B, 1, none⟩ = some (.int .u64 (lI x)) ∧ w.cell? ⟨B, 2, none⟩ = some (.int .i64 n) ∧ w.frozen? ⟨B, 0, none⟩ = false ∧ w.frozen? ⟨B, 1, none⟩ = false ∧ w.frozen? ⟨B, 2, none⟩ = false
theorem AtP.below {w w' : World} {B : Nat} {x : BitVec 128} {n : Int} (h : AtP w B x n) (hb : Below w.heap.size w w') : AtP w' B x n := by
  obtain ⟨h0, h1, h2, h3, h4, h5⟩ := h
  exact ⟨keepc hb h0, keepc hb h1, keepc hb h2, keepf hb h0 h3, keepf hb h1 h4, keepf hb h2 h5⟩
end Go.Proofs.Ytjgpbahglkaijaa
namespace Go.Proofs.Ytjgpbahglkaijaa
open Go.RowKit
set_option linter.unusedSimpArgs false
set_option linter.unusedVariables false

end Go.Proofs.Ytjgpbahglkaijaa
namespace Go.Proofs.Ytjgpbahglkaijaa
open Go.RowKit
set_option linter.unusedSimpArgs false
set_option linter.unusedVariables false

structure Rn where
  f : BitVec 128
  k : Bool
  n : Int
structure Nde where
  b : Int
  r : List Rn
def RnAt (w : World) (b o : Nat) (r : Rn) : Prop := w.cell? ⟨b, o, none⟩ = some (.int .u64 (hI r.f)) ∧ w.cell? ⟨b, o + 1, none⟩ = some (.int .u64 (lI r.f)) ∧ w.cell? ⟨b, o + 2, none⟩ = some (.bool r.k) ∧ w.cell? ⟨b, o + 3, none⟩ = some (.int .i64 r.n)
theorem RnAt.below {w w' : World} {b o : Nat} {r : Rn} (h : RnAt w b o r) (hb : Below w.heap.size w w') : RnAt w' b o r := ⟨keepc hb h.1, keepc hb h.2.1, keepc hb h.2.2.1, keepc hb h.2.2.2⟩
def RwN (w : World) (v : Value) (l : List Rn) : Prop := ∃ ao c, v = .slice ao l.length c ∧ l.length ≤ c ∧ (l = [] ∨ ∃ b off, ao = some ⟨b, off, none⟩ ∧ ∀ j r, l[j]? = some r → RnAt w b (off + j * 4) r)
theorem RwN.below {w w' : World} {v : Value} {l : List Rn} (h : RwN w v l) (hb : Below w.heap.size w w') : RwN w' v l := by
  obtain ⟨ao, c, e, hc, h⟩ := h
  refine ⟨ao, c, e, hc, h.imp id ?_⟩
  rintro ⟨b, off, e, h⟩
  exact ⟨b, off, e, fun j r hj => (h j r hj).below hb⟩
def RwD (w : World) (v : Value) (L : List Nde) : Prop := ∃ ao c, v = .slice ao L.length c ∧ L.length ≤ c ∧ (L = [] ∨ ∃ b off, ao = some ⟨b, off, none⟩ ∧ ∀ j d, L[j]? = some d → ∃ vr, w.cell? ⟨b, off + j * 2, none⟩ = some (.int .i64 d.b) ∧ w.cell? ⟨b, off + j * 2 + 1, none⟩ = some vr ∧ RwN w vr d.r)
theorem RwD.below {w w' : World} {v : Value} {L : List Nde} (h : RwD w v L) (hb : Below w.heap.size w w') : RwD w' v L := by
  obtain ⟨ao, c, e, hc, h⟩ := h
  refine ⟨ao, c, e, hc, h.imp id ?_⟩
  rintro ⟨b, off, e, h⟩
  refine ⟨b, off, e, fun j d hj => ?_⟩
  obtain ⟨vr, h1, h2, h3⟩ := h j d hj
  exact ⟨vr, keepc hb h1, keepc hb h2, h3.below hb⟩
def smR (r s : Rn) : Bool := (r.k == s.k) && (r.n == s.n)
end Go.Proofs.Ytjgpbahglkaijaa
namespace Go.Proofs.Ytjgpbahglkaijaa
open Go.RowKit
set_option linter.unusedSimpArgs false
set_option linter.unusedVariables false
attribute [local go_sem] Oper.semAt_some

def adjG : List Rn → Bool
  | a :: b :: t => (decide (cmpZ a.f b.f < 0) && !smR a b) && adjG (b :: t)
  | _ => true
def ioB (d : Nde) : Bool := match d.r.head?, d.r.getLast? with
  | some a, some z => (a.f == 0#128) && (adjG d.r && (z.f >>> d.b.toNat == 0#128))
  | _, _ => false
def AtD (w : World) (B : Nat) (b : Int) (v : Value) : Prop := w.cell? ⟨B, 0, none⟩ = some (.int .i64 b) ∧ w.cell? ⟨B, 1, none⟩ = some v
theorem AtD.below {w w' : World} {B : Nat} {b : Int} {v : Value} (h : AtD w B b v) (hb : Below w.heap.size w w') : AtD w' B b v := ⟨keepc hb h.1, keepc hb h.2⟩
end Go.Proofs.Ytjgpbahglkaijaa
namespace Go.Proofs.Ytjgpbahglkaijaa
open Go.RowKit
set_option linter.unusedSimpArgs false
set_option linter.unusedVariables false
attribute [local go_sem] Oper.semAt_some

end Go.Proofs.Ytjgpbahglkaijaa
namespace Go.Proofs.Ytjgpbahglkaijaa
open Go.RowKit Go.Shelf
set_option linter.unusedSimpArgs false
set_option linter.unusedVariables false
attribute [local go_sem] Oper.semAt_some

structure KdM (Z : Nat → Prop) (A : Nat) (b : Int) (ao : Option Addr) (c : Nat) (l : List Rn) (W : World) : Prop where
  a : AtD W A b (.slice ao l.length c)
  za : Z A
  r : RwN W (.slice ao l.length c) l
  zr : l ≠ [] → ∀ ad, ao = some ad → Z ad.block
theorem rn_kz {Z : Nat → Prop} {W W' : World} {b o : Nat} {r : Rn} (h : RnAt W b o r) (g : KZ Z W W') (hz : Z b) : RnAt W' b o r := ⟨kz_cell g hz h.1, kz_cell g hz h.2.1, kz_cell g hz h.2.2.1, kz_cell g hz h.2.2.2⟩
theorem KdM.kz {Z : Nat → Prop} {A : Nat} {b : Int} {ao : Option Addr} {c : Nat} {l : List Rn} {W W' : World} (h : KdM Z A b ao c l W) (g : KZ Z W W') : KdM Z A b ao c l W' := by
  refine ⟨⟨kz_cell g h.za h.a.1, kz_cell g h.za h.a.2⟩, h.za, ?_, h.zr⟩
  obtain ⟨ao', c', e, hc, hr⟩ := h.r
  injection e with e1 e2 e3
  subst e1 e3
  refine ⟨ao, c, rfl, hc, ?_⟩
  rcases hr with hr | ⟨b, off, e, hr⟩
  · exact .inl hr
  · exact .inr ⟨b, off, e, fun j x hj => rn_kz (hr j x hj) g (h.zr (by rintro rfl; cases hj) _ e)⟩
end Go.Proofs.Ytjgpbahglkaijaa
