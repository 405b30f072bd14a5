/-
  Part 16 of the proof: 6 texts, one behind the other.
-/
import Derived.Test.YtologchdnjnadaaDoorPart15
import Derived.Test.YtologchdnjnadaaDoorPart9
import Derived.Test.YtologchdnjnadaaDoorPart13
import Derived.Test.YtologchdnjnadaaDoorPart7
/-
  What the document's Decode does at a word that stands there.
-/
namespace Go.Proofs.YtologchdnjnadaaDoor
open Go.RowKit
set_option linter.unusedSimpArgs false
set_option linter.unusedVariables false

set_option maxRecDepth 100000 in
set_option maxHeartbeats 16000000 in
theorem rdecode_in (v : Value) (l : List Nat) (k : Nat) (w : World) (hv : RwX cB w v l) (hl : l.length ≤ 100000) (hx : ∀ b ∈ l, b < 256) (hk : k < l.length / 4) :
    Calls Tryd.prog 16 #[v, .int .i64 (k : Int)] w fun e w' => ∃ v', e = .returned (.tuple #[insV (dcI l (k : Int)) v', .int .i64 (dcZ l (k : Int)), .int .i64 (dcE l (k : Int))]) ∧ w'.ownsRow w.heap.size 48 1 v' (dcI l (k : Int)).m.length ((dcI l (k : Int)).m.map cU) ∧ Below w.heap.size w w' := by
  obtain ⟨ao, cc, hvf, -⟩ := id hv
  have q1 := bl1 w (.cells #[.int .i64 0, .int .i64 0, .slice none 0 0] 45)
  have K1 := rget13 v l (4 * (k : Int)) 4 4 rfl (by decide) (by decide) _ (hv.below q1) (by omega) hx (by omega) (by omega)
  have hyes : 0 ≤ 4 * (k : Int) ∧ 4 * (k : Int) ≤ (l.length : Int) - ((4 : Nat) : Int) := ⟨by omega, by omega⟩
  have e1 : ((gtN l (4 * (k : Int)) 4 : Nat) : Int) = uI (wdV l k) := by
    rw [wd_uI l k hx]
    unfold gtN
    rw [if_pos hyes, show (4 * (k : Int)).toNat = 4 * k by omega]
  rw [decide_eq_true hyes, e1] at K1
  obtain ⟨A4, hA4⟩ : ∃ A4 : Nat, 4 * (k : Int) = (A4 : Int) := ⟨4 * k, by omega⟩
  have mw : IntKind.i64.wrap (4 * (k : Int)) = (A4 : Int) := by rw [IntKind.wrap_i64]; omega
  rw [hA4] at K1
  have HV := hid13 hv
  have HX := hid13 hx
  have HK : Hid (k < l.length / 4 ∧ l.length ≤ 100000) := ⟨hk, hl⟩
  have hX0 := uI_lo (wdV l k)
  have hX1 := uI_up (wdV l k)
  have han := and24 (wdV l k)
  obtain ⟨X, hX⟩ : ∃ X, X = uI (wdV l k) := ⟨_, rfl⟩
  obtain ⟨O, hO⟩ : ∃ O : Nat, (O : Int) = insO l k := ⟨(insO l k).toNat, by unfold insO; omega⟩
  obtain ⟨N, hN⟩ : ∃ N : Nat, (N : Int) = insN l k := ⟨(insN l k).toNat, by unfold insN; omega⟩
  have HR : Hid (rdP l k = if isOp (O : Int) = true then (if (N : Int) ≤ kRm (O : Int) then (if tkB (O : Int) (N : Int) = true then (if (O : Int) = 2 then rmP l (k + 1) N else ([], (0 : Int))) else ([], 1)) else ([], 24)) else ([], 24)) := by
    show _ = _
    unfold rdP
    rw [← hO, ← hN, Int.toNat_natCast]
  have HQ : Hid (((O : Nat) : Int) = insO l k ∧ ((N : Nat) : Int) = insN l k) := ⟨hO, hN⟩
  have x1 : X / 16777216 = (O : Int) := by rw [hX, hO]; rfl
  have x2 : bits .and .u32 X 16777215 = (N : Int) := by rw [hX, han, hN]; rfl
  have hNb : (N : Int) < 16777216 := by rw [hN]; unfold insN; omega
  have hOw : IntKind.i64.wrap (O : Int) = (O : Int) := by rw [IntKind.wrap_i64]; have : (O : Int) < 256 := by rw [hO]; unfold insO; omega
                                                          omega
  have hNw : IntKind.i64.wrap (N : Int) = (N : Int) := by rw [IntKind.wrap_i64]; omega
  rw [← hX] at K1
  have d0 : ¬ (k : Int) < 0 := by omega
  have d1 : ¬ (l.length : Int) ≤ (k : Int) := by omega
  subst hvf
  have HNb := hid13 hNb
  have HAnd : Hid (∀ W : World, (binOp .and 48 (.int .u32 X) (.int .u32 16777215)).run Tryd.prog W = .ok (.int .u32 (N : Int)) W) := by
    intro W
    rw [binOp_and]
    show Result.ok (Value.int .u32 (bits .and .u32 X 16777215)) W = _
    rw [x2]
  clear hyes e1 hv hx hX han q1 hO hN hNb hl hk hX0 hX1 hA4 x2
  cases ho : isOp (O : Int) with
  | false =>
    have HR2 : Hid (rdP l k = ([], 24)) := by show _ = _; rw [HR.out, if_neg (by rw [ho]; decide)]
    obtain ⟨h1, h2, h3, h4⟩ := isOp_none ho
    clear ho HR
    go_enter Tryd.func16, Tryd.ntmps16
    go_wp2_with (first | (go_at_call 17; refine K1.mono ?_; rintro e w2 ⟨rfl, hw2⟩; replace hw2 := hw2.symm; subst hw2) | (with_reducible apply stopAnd14))
    refine (show wpList _ _ _ _ _ _ from ?_)
    refine sw_run14 (v := .int .u32 (N : Int)) rfl (ex14b (HAnd.out _)) ?_
    simp only [Act.put, List.setIfInBounds_toArray, List.set_cons_zero, List.set_cons_succ]
    clear HAnd HNb K1
    go_wp2_with fail
    exact bodyPost_ret (v := .tuple #[.agg #[.int .i64 0, .int .i64 0, .slice none 0 0], .int .i64 0, .int .i64 24]) (by simp [results, Tryd.results16, go_sem]) rfl (rd_fin l k w HK.out.1 24 [] (by decide) HR2.out _ (keepb (bl1 _ _) (bl1 _ _)))
  | true =>
    have hR1 := HR.out
    rw [if_pos ho] at hR1
    rcases isOp_cases ho with hO1 | hO1 | hO1 | hO1
    · obtain rfl : O = 1 := by omega
      have cO : ((1 : Nat) : Int) = 1 := rfl
      rw [cO] at x1 HQ hR1 hOw
      clear ho HR hO1
      rw [show kRm (1 : Int) = 255 from rfl] at hR1
      by_cases r1 : (N : Int) ≤ 255
      · rw [if_pos r1] at hR1
        have r2 : ¬ 255 < (N : Int) := by omega
        by_cases t1 : (N : Int) < 1
        · rw [if_neg (by have := HNb.out; unfold tkB kLo kHi; simp; omega)] at hR1
          have HR2 : Hid (rdP l k = ([], 1)) := hR1
          clear hR1
          go_enter Tryd.func16, Tryd.ntmps16
          go_wp2_with (first | (go_at_call 17; refine K1.mono ?_; rintro e w2 ⟨rfl, hw2⟩; replace hw2 := hw2.symm; subst hw2) | (with_reducible apply stopAnd14))
          refine (show wpList _ _ _ _ _ _ from ?_)
          refine sw_run14 (v := .int .u32 (N : Int)) rfl (ex14b (HAnd.out _)) ?_
          simp only [Act.put, List.setIfInBounds_toArray, List.set_cons_zero, List.set_cons_succ]
          clear HAnd HNb K1
          go_wp2_with fail
          exact bodyPost_ret (v := .tuple #[.agg #[.int .i64 0, .int .i64 0, .slice none 0 0], .int .i64 0, .int .i64 1]) (by simp [results, Tryd.results16, go_sem]) rfl (rd_fin l k w HK.out.1 1 [] (by decide) HR2.out _ (keepb (bl1 _ _) (bl1 _ _)))
        by_cases t2 : 24 < (N : Int)
        · rw [if_neg (by have := HNb.out; unfold tkB kLo kHi; simp; omega)] at hR1
          have HR2 : Hid (rdP l k = ([], 1)) := hR1
          clear hR1
          go_enter Tryd.func16, Tryd.ntmps16
          go_wp2_with (first | (go_at_call 17; refine K1.mono ?_; rintro e w2 ⟨rfl, hw2⟩; replace hw2 := hw2.symm; subst hw2) | (with_reducible apply stopAnd14))
          refine (show wpList _ _ _ _ _ _ from ?_)
          refine sw_run14 (v := .int .u32 (N : Int)) rfl (ex14b (HAnd.out _)) ?_
          simp only [Act.put, List.setIfInBounds_toArray, List.set_cons_zero, List.set_cons_succ]
          clear HAnd HNb K1
          go_wp2_with fail
          exact bodyPost_ret (v := .tuple #[.agg #[.int .i64 0, .int .i64 0, .slice none 0 0], .int .i64 0, .int .i64 1]) (by simp [results, Tryd.results16, go_sem]) rfl (rd_fin l k w HK.out.1 1 [] (by decide) HR2.out _ (keepb (bl1 _ _) (bl1 _ _)))
        rw [if_pos (by have := HNb.out; unfold tkB kLo kHi; simp; omega)] at hR1
        rw [if_neg (by decide)] at hR1
        have HR2 : Hid (rdP l k = ([], 0)) := hR1
        clear hR1
        go_enter Tryd.func16, Tryd.ntmps16
        go_wp2_with (first | (go_at_call 17; refine K1.mono ?_; rintro e w2 ⟨rfl, hw2⟩; replace hw2 := hw2.symm; subst hw2) | (with_reducible apply stopAnd14))
        refine (show wpList _ _ _ _ _ _ from ?_)
        refine sw_run14 (v := .int .u32 (N : Int)) rfl (ex14b (HAnd.out _)) ?_
        simp only [Act.put, List.setIfInBounds_toArray, List.set_cons_zero, List.set_cons_succ]
        clear HAnd HNb K1
        go_wp2_with fail
        obtain ⟨g1, g2, g3⟩ := dc_ok HK.out.1 HR2.out
        exact bodyPost_ret (v := .tuple #[.agg #[.int .i64 1, .int .i64 (N : Int), .slice none 0 0], .int .i64 1, .int .i64 0]) (by simp [results, Tryd.results16, go_sem]) rfl ⟨.slice none 0 0, by rw [g1, g2, g3, ← HQ.out.1, ← HQ.out.2]; rfl, by rw [g1]; exact World.ownsRow_nil _ _ _ _, keepb (bl1 _ _) (bl1 _ _)⟩
      · rw [if_neg r1] at hR1
        have r2 : 255 < (N : Int) := by omega
        have HR2 : Hid (rdP l k = ([], 24)) := hR1
        clear hR1
        go_enter Tryd.func16, Tryd.ntmps16
        go_wp2_with (first | (go_at_call 17; refine K1.mono ?_; rintro e w2 ⟨rfl, hw2⟩; replace hw2 := hw2.symm; subst hw2) | (with_reducible apply stopAnd14))
        refine (show wpList _ _ _ _ _ _ from ?_)
        refine sw_run14 (v := .int .u32 (N : Int)) rfl (ex14b (HAnd.out _)) ?_
        simp only [Act.put, List.setIfInBounds_toArray, List.set_cons_zero, List.set_cons_succ]
        clear HAnd HNb K1
        go_wp2_with fail
        exact bodyPost_ret (v := .tuple #[.agg #[.int .i64 0, .int .i64 0, .slice none 0 0], .int .i64 0, .int .i64 24]) (by simp [results, Tryd.results16, go_sem]) rfl (rd_fin l k w HK.out.1 24 [] (by decide) HR2.out _ (keepb (bl1 _ _) (bl1 _ _)))
    · obtain rfl : O = 2 := by omega
      have cO : ((2 : Nat) : Int) = 2 := rfl
      rw [cO] at x1 HQ hR1 hOw
      clear ho HR hO1
      rw [show kRm (2 : Int) = 255 from rfl] at hR1
      by_cases r1 : (N : Int) ≤ 255
      · rw [if_pos r1] at hR1
        have r2 : ¬ 255 < (N : Int) := by omega
        by_cases t1 : (N : Int) < 1
        · rw [if_neg (by have := HNb.out; unfold tkB kLo kHi; simp; omega)] at hR1
          have HR2 : Hid (rdP l k = ([], 1)) := hR1
          clear hR1
          go_enter Tryd.func16, Tryd.ntmps16
          go_wp2_with (first | (go_at_call 17; refine K1.mono ?_; rintro e w2 ⟨rfl, hw2⟩; replace hw2 := hw2.symm; subst hw2) | (with_reducible apply stopAnd14))
          refine (show wpList _ _ _ _ _ _ from ?_)
          refine sw_run14 (v := .int .u32 (N : Int)) rfl (ex14b (HAnd.out _)) ?_
          simp only [Act.put, List.setIfInBounds_toArray, List.set_cons_zero, List.set_cons_succ]
          clear HAnd HNb K1
          go_wp2_with fail
          exact bodyPost_ret (v := .tuple #[.agg #[.int .i64 0, .int .i64 0, .slice none 0 0], .int .i64 0, .int .i64 1]) (by simp [results, Tryd.results16, go_sem]) rfl (rd_fin l k w HK.out.1 1 [] (by decide) HR2.out _ (keepb (bl1 _ _) (bl1 _ _)))
        by_cases t2 : 24 < (N : Int)
        · rw [if_neg (by have := HNb.out; unfold tkB kLo kHi; simp; omega)] at hR1
          have HR2 : Hid (rdP l k = ([], 1)) := hR1
          clear hR1
          go_enter Tryd.func16, Tryd.ntmps16
          go_wp2_with (first | (go_at_call 17; refine K1.mono ?_; rintro e w2 ⟨rfl, hw2⟩; replace hw2 := hw2.symm; subst hw2) | (with_reducible apply stopAnd14))
          refine (show wpList _ _ _ _ _ _ from ?_)
          refine sw_run14 (v := .int .u32 (N : Int)) rfl (ex14b (HAnd.out _)) ?_
          simp only [Act.put, List.setIfInBounds_toArray, List.set_cons_zero, List.set_cons_succ]
          clear HAnd HNb K1
          go_wp2_with fail
          exact bodyPost_ret (v := .tuple #[.agg #[.int .i64 0, .int .i64 0, .slice none 0 0], .int .i64 0, .int .i64 1]) (by simp [results, Tryd.results16, go_sem]) rfl (rd_fin l k w HK.out.1 1 [] (by decide) HR2.out _ (keepb (bl1 _ _) (bl1 _ _)))
        rw [if_pos (by have := HNb.out; unfold tkB kLo kHi; simp; omega)] at hR1
        rw [if_pos rfl] at hR1
        exact rdecode_map (.slice ao l.length cc) l k N w HV.out HK.out.2 HX.out HK.out.1 HQ.out.1.symm HQ.out.2.symm (by omega) (by omega)
      · rw [if_neg r1] at hR1
        have r2 : 255 < (N : Int) := by omega
        have HR2 : Hid (rdP l k = ([], 24)) := hR1
        clear hR1
        go_enter Tryd.func16, Tryd.ntmps16
        go_wp2_with (first | (go_at_call 17; refine K1.mono ?_; rintro e w2 ⟨rfl, hw2⟩; replace hw2 := hw2.symm; subst hw2) | (with_reducible apply stopAnd14))
        refine (show wpList _ _ _ _ _ _ from ?_)
        refine sw_run14 (v := .int .u32 (N : Int)) rfl (ex14b (HAnd.out _)) ?_
        simp only [Act.put, List.setIfInBounds_toArray, List.set_cons_zero, List.set_cons_succ]
        clear HAnd HNb K1
        go_wp2_with fail
        exact bodyPost_ret (v := .tuple #[.agg #[.int .i64 0, .int .i64 0, .slice none 0 0], .int .i64 0, .int .i64 24]) (by simp [results, Tryd.results16, go_sem]) rfl (rd_fin l k w HK.out.1 24 [] (by decide) HR2.out _ (keepb (bl1 _ _) (bl1 _ _)))
    · obtain rfl : O = 3 := by omega
      have cO : ((3 : Nat) : Int) = 3 := rfl
      rw [cO] at x1 HQ hR1 hOw
      clear ho HR hO1
      rw [show kRm (3 : Int) = 16777215 from rfl] at hR1
      rw [if_pos (by have := HNb.out; omega)] at hR1
      by_cases t1 : (N : Int) < 1
      · rw [if_neg (by have := HNb.out; unfold tkB kLo kHi; simp; omega)] at hR1
        have HR2 : Hid (rdP l k = ([], 1)) := hR1
        clear hR1
        go_enter Tryd.func16, Tryd.ntmps16
        go_wp2_with (first | (go_at_call 17; refine K1.mono ?_; rintro e w2 ⟨rfl, hw2⟩; replace hw2 := hw2.symm; subst hw2) | (with_reducible apply stopAnd14))
        refine (show wpList _ _ _ _ _ _ from ?_)
        refine sw_run14 (v := .int .u32 (N : Int)) rfl (ex14b (HAnd.out _)) ?_
        simp only [Act.put, List.setIfInBounds_toArray, List.set_cons_zero, List.set_cons_succ]
        clear HAnd HNb K1
        go_wp2_with fail
        exact bodyPost_ret (v := .tuple #[.agg #[.int .i64 0, .int .i64 0, .slice none 0 0], .int .i64 0, .int .i64 1]) (by simp [results, Tryd.results16, go_sem]) rfl (rd_fin l k w HK.out.1 1 [] (by decide) HR2.out _ (keepb (bl1 _ _) (bl1 _ _)))
      rw [if_pos (by have := HNb.out; unfold tkB kLo kHi; simp; omega)] at hR1
      rw [if_neg (by decide)] at hR1
      have HR2 : Hid (rdP l k = ([], 0)) := hR1
      clear hR1
      go_enter Tryd.func16, Tryd.ntmps16
      go_wp2_with (first | (go_at_call 17; refine K1.mono ?_; rintro e w2 ⟨rfl, hw2⟩; replace hw2 := hw2.symm; subst hw2) | (with_reducible apply stopAnd14))
      refine (show wpList _ _ _ _ _ _ from ?_)
      refine sw_run14 (v := .int .u32 (N : Int)) rfl (ex14b (HAnd.out _)) ?_
      simp only [Act.put, List.setIfInBounds_toArray, List.set_cons_zero, List.set_cons_succ]
      clear HAnd HNb K1
      go_wp2_with fail
      obtain ⟨g1, g2, g3⟩ := dc_ok HK.out.1 HR2.out
      exact bodyPost_ret (v := .tuple #[.agg #[.int .i64 3, .int .i64 (N : Int), .slice none 0 0], .int .i64 1, .int .i64 0]) (by simp [results, Tryd.results16, go_sem]) rfl ⟨.slice none 0 0, by rw [g1, g2, g3, ← HQ.out.1, ← HQ.out.2]; rfl, by rw [g1]; exact World.ownsRow_nil _ _ _ _, keepb (bl1 _ _) (bl1 _ _)⟩
    · obtain rfl : O = 4 := by omega
      have cO : ((4 : Nat) : Int) = 4 := rfl
      rw [cO] at x1 HQ hR1 hOw
      clear ho HR hO1
      rw [show kRm (4 : Int) = 65535 from rfl] at hR1
      by_cases r1 : (N : Int) ≤ 65535
      · rw [if_pos r1] at hR1
        have r2 : ¬ 65535 < (N : Int) := by omega
        rw [if_pos (by have := HNb.out; unfold tkB kLo kHi; simp; omega), if_neg (by decide)] at hR1
        have HR2 : Hid (rdP l k = ([], 0)) := hR1
        clear hR1
        go_enter Tryd.func16, Tryd.ntmps16
        go_wp2_with (first | (go_at_call 17; refine K1.mono ?_; rintro e w2 ⟨rfl, hw2⟩; replace hw2 := hw2.symm; subst hw2) | (with_reducible apply stopAnd14))
        refine (show wpList _ _ _ _ _ _ from ?_)
        refine sw_run14 (v := .int .u32 (N : Int)) rfl (ex14b (HAnd.out _)) ?_
        simp only [Act.put, List.setIfInBounds_toArray, List.set_cons_zero, List.set_cons_succ]
        clear HAnd HNb K1
        go_wp2_with fail
        obtain ⟨g1, g2, g3⟩ := dc_ok HK.out.1 HR2.out
        exact bodyPost_ret (v := .tuple #[.agg #[.int .i64 4, .int .i64 (N : Int), .slice none 0 0], .int .i64 1, .int .i64 0]) (by simp [results, Tryd.results16, go_sem]) rfl ⟨.slice none 0 0, by rw [g1, g2, g3, ← HQ.out.1, ← HQ.out.2]; rfl, by rw [g1]; exact World.ownsRow_nil _ _ _ _, keepb (bl1 _ _) (bl1 _ _)⟩
      · rw [if_neg r1] at hR1
        have r2 : 65535 < (N : Int) := by omega
        have HR2 : Hid (rdP l k = ([], 24)) := hR1
        clear hR1
        go_enter Tryd.func16, Tryd.ntmps16
        go_wp2_with (first | (go_at_call 17; refine K1.mono ?_; rintro e w2 ⟨rfl, hw2⟩; replace hw2 := hw2.symm; subst hw2) | (with_reducible apply stopAnd14))
        refine (show wpList _ _ _ _ _ _ from ?_)
        refine sw_run14 (v := .int .u32 (N : Int)) rfl (ex14b (HAnd.out _)) ?_
        simp only [Act.put, List.setIfInBounds_toArray, List.set_cons_zero, List.set_cons_succ]
        clear HAnd HNb K1
        go_wp2_with fail
        exact bodyPost_ret (v := .tuple #[.agg #[.int .i64 0, .int .i64 0, .slice none 0 0], .int .i64 0, .int .i64 24]) (by simp [results, Tryd.results16, go_sem]) rfl (rd_fin l k w HK.out.1 24 [] (by decide) HR2.out _ (keepb (bl1 _ _) (bl1 _ _)))
end Go.Proofs.YtologchdnjnadaaDoor
/-
  What the law's Same and within do.
-/
namespace Go.Proofs.YtologchdnjnadaaDoor
open Go.RowKit
set_option linter.unusedSimpArgs false
set_option linter.unusedVariables false

/-- Two instructions are the same. -/
def sameB (i j : Ins) : Bool := decide (i.op = j.op) && (decide (i.n = j.n) && decide (i.m = j.m))
theorem sameB_iff (i j : Ins) : sameB i j = true ↔ i = j := by
  unfold sameB
  cases i; cases j
  simp
/-- Two boxes in memory. -/
def TwI (W : World) (B : Nat) (i j : Ins) (v u : Value) : Prop := AtI W B i.op i.n v ∧ AtI W (B + 1) j.op j.n u ∧ RwX cU W v i.m ∧ RwX cU W u j.m
theorem TwI.below {W W' : World} {B : Nat} {i j : Ins} {v u : Value} (h : TwI W B i j v u) (hb : Below W.heap.size W W') : TwI W' B i j v u := ⟨h.1.below hb, h.2.1.below hb, h.2.2.1.below hb, h.2.2.2.below hb⟩
/-- A number from 0 to n - 1. -/
def wth (a n : Int) : Int := if a.tmod n < 0 then a.tmod n + n else a.tmod n
theorem wth_in (a n : Int) (hn : 0 < n) : 0 ≤ wth a n ∧ wth a n < n := by
  unfold wth
  have h1 := Int.tmod_lt_of_pos a hn
  have h2 := Int.lt_tmod_of_pos a hn
  split <;> constructor <;> omega
end Go.Proofs.YtologchdnjnadaaDoor
/-
  The law's known.
-/
namespace Go.Proofs.YtologchdnjnadaaDoor
open Go.RowKit
set_option linter.unusedSimpArgs false
set_option linter.unusedVariables false

theorem kn_chk : chkE 4 258 [] = 0 := by decide +kernel
theorem kn_en : enL [] 4 258 [] = [4, 0, 1, 2] := by decide +kernel
theorem kn_dc : dcE [4, 0, 1, 2] 0 = 0 ∧ dcI [4, 0, 1, 2] 0 = ⟨4, 258, []⟩ ∧ dcZ [4, 0, 1, 2] 0 = 1 := by
  have h := dec_enc [] [] 0 4 258 [] rfl kn_chk
  have e : ([] ++ wdB (4 : Int).toNat (258 : Int).toNat [] ++ []) = [4, 0, 1, 2] := by decide +kernel
  rw [e] at h
  exact h
theorem rowA_nil (w : World) (s : Nat) : RowA w s (.slice none 0 0) 0 [] := ⟨by simp, none, 0, rfl, Nat.le_refl _, .inl ⟨rfl, rfl, rfl⟩⟩
theorem rwx_nil {α : Type} {f : α → Value} (w : World) : RwX f w (.slice none 0 0) [] := ⟨none, 0, rfl, Nat.le_refl _, .inl rfl⟩
end Go.Proofs.YtologchdnjnadaaDoor
/-
  The law CodeTurned.
-/
namespace Go.Proofs.YtologchdnjnadaaDoor
open Go.RowKit
set_option linter.unusedSimpArgs false
set_option linter.unusedVariables false

theorem fm_lt : ∀ (m : List (BitVec 32)), ∀ b ∈ (m.flatMap fun x => by4 x.toNat), b < 256
  | [], b, h => by simp at h
  | x :: m, b, h => by
    rw [List.flatMap_cons, List.mem_append] at h
    rcases h with h | h
    · exact by4_lt _ x.isLt b h
    · exact fm_lt m b h
theorem wdB_lt (o k : Nat) (m : List (BitVec 32)) : ∀ b ∈ wdB o k m, b < 256 := fm_lt _
/-- One byte turned: none, or another one. -/
theorem turned_ne (o n : Int) (m : List (BitVec 32)) (K x b : Nat) (hK : (wdB o.toNat n.toNat m)[K]? = some x) (hb : b < 256) (hne : b ≠ x) (h : dcE ((wdB o.toNat n.toNat m).set K b) 0 = 0) : dcI ((wdB o.toNat n.toNat m).set K b) 0 ≠ ⟨o, n, m⟩ := by
  intro he
  obtain ⟨Y, hY⟩ : ∃ Y, Y = wdB o.toNat n.toNat m := ⟨_, rfl⟩
  rw [← hY] at hK h he
  have hx : ∀ c ∈ Y.set K b, c < 256 := by
    intro c hc
    rcases List.mem_or_eq_of_mem_set hc with q | q
    · rw [hY] at q; exact wdB_lt _ _ _ c q
    · rw [q]; exact hb
  obtain ⟨-, h2, -⟩ := enc_dec _ 0 hx h
  rw [he] at h2
  simp only at h2
  rw [← hY, show (0 : Int).toNat = 0 from rfl, Nat.mul_zero, List.drop_zero, List.take_of_length_le (by rw [List.length_set, hY, wdB_len]; exact Nat.le_refl _)] at h2
  have h3 : (Y.set K b)[K]? = some x := by rw [← h2]; exact hK
  rw [List.getElem?_set_self (List.getElem?_eq_some_iff.1 hK).1] at h3
  injection h3 with h3
  exact hne h3
theorem rwx_cut {α : Type} {f : α → Value} {W : World} {ao : Option Addr} {n c : Nat} {l : List α} (h : RwX f W (.slice ao n c) l) (k : Nat) (hk : k ≤ l.length) : RwX f W (.slice ao k c) (l.take k) := by
  have := rwx_take (l := l.take k) (m := l.drop k) (n := n) (by rw [List.take_append_drop]; exact h)
  rw [List.length_take, Nat.min_eq_left hk] at this
  exact this
end Go.Proofs.YtologchdnjnadaaDoor
/-
  The law CodeReads.
-/
namespace Go.Proofs.YtologchdnjnadaaDoor
open Go.RowKit
set_option linter.unusedSimpArgs false
set_option linter.unusedVariables false

theorem rdecode14 (v : Value) (l : List Nat) (a : Int) (w : World) (hv : RwX cB w v l) (hl : l.length ≤ 100000) (hx : ∀ b ∈ l, b < 256) :
    Calls Tryd.prog 16 #[v, .int .i64 a] w fun e w' => ∃ v', e = .returned (.tuple #[insV (dcI l a) v', .int .i64 (dcZ l a), .int .i64 (dcE l a)]) ∧ w'.ownsRow w.heap.size 48 1 v' (dcI l a).m.length ((dcI l a).m.map cU) ∧ Below w.heap.size w w' := by
  cases hs : stB l.length a 1 with
  | false => exact rdecode_out v l a w hv hl hx hs
  | true =>
    have h2 : 0 ≤ a ∧ a.toNat < l.length / 4 := by unfold stB at hs; simp at hs; constructor <;> omega
    obtain ⟨k, rfl⟩ : ∃ k : Nat, a = (k : Int) := ⟨a.toNat, by omega⟩
    rw [Int.toNat_natCast] at h2
    exact rdecode_in v l k w hv hl hx h2.2
theorem dcI_len14 (l : List Nat) (a : Int) : (dcI l a).m.length ≤ 524288 := by
  unfold dcI
  split
  · exact rdP_len _ _
  · simp
end Go.Proofs.YtologchdnjnadaaDoor
/-
  A drawn region with one call in its midst that changes memory: one walk of the text's order, the call's answer a letter.
-/
namespace Go.Proofs.YtologchdnjnadaaDoor
open Go.RowKit
set_option linter.unusedSimpArgs false
set_option linter.unusedVariables false
section
variable {P : Program}
theorem cl_region {id : Nat} {l : List Oper} (m j : Nat) {oj : Oper} (ok : AlOk l m j oj) {D : World → Prop} {C1 : Nat → World → Prop} {Q : Exit → Act → World → Prop} {a : Act} {w : World} (ds : List (Option Tmp)) (vals : Nat → List Value) (val : Nat → Value) (d : Nat) (rd : List Nat) (hm : P.follows .mixedOrders = true)
    (hd : oj.dst = some d) (hA : ∀ N, (putAll a ds (vals N)).tmps.toList.eraseIdx d = (putAll a ds (vals 0)).tmps.toList.eraseIdx d) (hrd : readB l m oj rd = true)
    (hal : ∀ w (a' : Act), D w → (∀ s ∈ rd, a'.tmps[s]? = (putAll a ds (vals 0)).tmps[s]?) → ∀ (K : Act → World → Prop) Q', (∀ N w', C1 N w' → K (a'.put oj.dst (val N)) w') → oj.wp P a' w K Q')
    (hD : D w.drew)
    (hwalk : ∀ N (X : World → Prop), (X = D ∨ X = C1 N) → wpQuiet P (rep (l.take m) j (val N)).toArray X (fun a' => a' = putAll a ds (vals N)) (rep (l.take m) j (val N)) a)
    (hpost : ∀ N w, C1 N w → wpList P l.toArray Q (l.drop m) (putAll a ds (vals N)) w) : (Code.region id l.toArray true).wp P Q a w :=
  sp_region m j ok (A := fun N => putAll a ds (vals N)) val rd hm (alA ok d hd hA) (read_of hrd) hal hD hwalk hpost
end
/-- All pairs of numbers, one behind the other. -/
def decN : Nat → Nat × Nat
  | 0 => (0, 0)
  | n + 1 => if (decN n).2 = 0 then (0, (decN n).1 + 1) else ((decN n).1 + 1, (decN n).2 - 1)
theorem decN_all (s : Nat) : ∀ a b : Nat, a + b = s → ∃ n, decN n = (a, b) := by
  induction s with
  | zero =>
    intro a b h
    have ha : a = 0 := by omega
    have hb : b = 0 := by omega
    subst ha; subst hb
    exact ⟨0, rfl⟩
  | succ s ih =>
    intro a
    induction a with
    | zero =>
      intro b h
      obtain ⟨n, hn⟩ := ih s 0 (by omega)
      refine ⟨n + 1, ?_⟩
      rw [decN, hn, if_pos rfl]
      simp; omega
    | succ a iha =>
      intro b h
      obtain ⟨n, hn⟩ := iha (b + 1) (by omega)
      refine ⟨n + 1, ?_⟩
      rw [decN, hn, if_neg (by simp)]
      simp
theorem decN_ex (a b : Nat) : ∃ n, decN n = (a, b) := decN_all (a + b) a b rfl
end Go.Proofs.YtologchdnjnadaaDoor
