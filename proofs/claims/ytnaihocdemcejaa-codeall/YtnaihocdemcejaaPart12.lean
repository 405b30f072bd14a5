/-
  Part 12 of the proof: 4 texts, one behind the other.
-/
import Derived.Test.YtnaihocdemcejaaPart11
import Derived.Test.YtnaihocdemcejaaPart10
/-
  What the document's Decode does at a word that stands there.
-/
namespace Go.Proofs.Ytnaihocdemcejaa
open Go.RowKit
set_option linter.unusedSimpArgs false
set_option linter.unusedVariables false

set_option maxRecDepth 100000 in
set_option maxHeartbeats 16000000 in
theorem rdecode_in (v : Value) (l : List Nat) (k : Nat) (w : World) (hv : RwX cB w v l) (hl : l.length ≤ 100000) (hx : ∀ b ∈ l, b < 256) (hk : k < l.length / 4) :
    Calls Try.prog 18 #[v, .int .i64 (k : Int)] w fun e w' => ∃ v', e = .returned (.tuple #[insV (dcI l (k : Int)) v', .int .i64 (dcZ l (k : Int)), .int .i64 (dcE l (k : Int))]) ∧ w'.ownsRow w.heap.size 56 1 v' (dcI l (k : Int)).m.length ((dcI l (k : Int)).m.map cU) ∧ Below w.heap.size w w' := by
  obtain ⟨ao, cc, hvf, -⟩ := id hv
  have q1 := bl1 w (.cells #[.int .i64 0, .int .i64 0, .slice none 0 0] 24)
  have K1 := rget13 v l (4 * (k : Int)) 4 4 rfl (by decide) (by decide) _ (hv.below q1) (by omega) hx (by omega) (by omega)
  have hyes : 0 ≤ 4 * (k : Int) ∧ 4 * (k : Int) ≤ (l.length : Int) - ((4 : Nat) : Int) := ⟨by omega, by omega⟩
  have e1 : ((gtN l (4 * (k : Int)) 4 : Nat) : Int) = uI (wdV l k) := by
    rw [wd_uI l k hx]
    unfold gtN
    rw [if_pos hyes, show (4 * (k : Int)).toNat = 4 * k by omega]
  rw [decide_eq_true hyes, e1] at K1
  obtain ⟨A4, hA4⟩ : ∃ A4 : Nat, 4 * (k : Int) = (A4 : Int) := ⟨4 * k, by omega⟩
  have mw : IntKind.i64.wrap (4 * (k : Int)) = (A4 : Int) := by rw [IntKind.wrap_i64]; omega
  rw [hA4] at K1
  have HV := hid13 hv
  have HX := hid13 hx
  have HK : Hid (k < l.length / 4 ∧ l.length ≤ 100000) := ⟨hk, hl⟩
  have hX0 := uI_lo (wdV l k)
  have hX1 := uI_up (wdV l k)
  have han := and24 (wdV l k)
  obtain ⟨X, hX⟩ : ∃ X, X = uI (wdV l k) := ⟨_, rfl⟩
  obtain ⟨O, hO⟩ : ∃ O : Nat, (O : Int) = insO l k := ⟨(insO l k).toNat, by unfold insO; omega⟩
  obtain ⟨N, hN⟩ : ∃ N : Nat, (N : Int) = insN l k := ⟨(insN l k).toNat, by unfold insN; omega⟩
  have HR : Hid (rdP l k = if isOp (O : Int) = true then (if (N : Int) ≤ kRm (O : Int) then (if tkB (O : Int) (N : Int) = true then (if (O : Int) = 2 then rmP l (k + 1) N else ([], (0 : Int))) else ([], 1)) else ([], 24)) else ([], 24)) := by
    show _ = _
    unfold rdP
    rw [← hO, ← hN, Int.toNat_natCast]
  have HQ : Hid (((O : Nat) : Int) = insO l k ∧ ((N : Nat) : Int) = insN l k) := ⟨hO, hN⟩
  have x1 : X / 16777216 = (O : Int) := by rw [hX, hO]; rfl
  have x2 : bits .and .u32 X 16777215 = (N : Int) := by rw [hX, han, hN]; rfl
  have hNb : (N : Int) < 16777216 := by rw [hN]; unfold insN; omega
  have hOw : IntKind.i64.wrap (O : Int) = (O : Int) := by rw [IntKind.wrap_i64]; have : (O : Int) < 256 := by rw [hO]; unfold insO; omega
                                                          omega
  have hNw : IntKind.i64.wrap (N : Int) = (N : Int) := by rw [IntKind.wrap_i64]; omega
  rw [← hX] at K1
  have d0 : ¬ (k : Int) < 0 := by omega
  have d1 : ¬ (l.length : Int) ≤ (k : Int) := by omega
  subst hvf
  have HNb := hid13 hNb
  have HAnd : Hid (∀ W : World, (binOp .and 56 (.int .u32 X) (.int .u32 16777215)).run Try.prog W = .ok (.int .u32 (N : Int)) W) := by
    intro W
    rw [binOp_and]
    show Result.ok (Value.int .u32 (bits .and .u32 X 16777215)) W = _
    rw [x2]
  clear hyes e1 hv hx hX han q1 hO hN hNb hl hk hX0 hX1 hA4 x2
  cases ho : isOp (O : Int) with
  | false =>
    have HR2 : Hid (rdP l k = ([], 24)) := by show _ = _; rw [HR.out, if_neg (by rw [ho]; decide)]
    obtain ⟨h1, h2, h3, h4⟩ := isOp_none ho
    clear ho HR
    go_enter Try.func18, Try.ntmps18
    go_wp2_with (first | (go_at_call 29; refine K1.mono ?_; rintro e w2 ⟨rfl, hw2⟩; replace hw2 := hw2.symm; subst hw2) | (with_reducible apply stopAnd14))
    refine (show wpList _ _ _ _ _ _ from ?_)
    refine sw_run14 (v := .int .u32 (N : Int)) rfl (ex14b (HAnd.out _)) ?_
    simp only [Act.put, List.setIfInBounds_toArray, List.set_cons_zero, List.set_cons_succ]
    clear HAnd HNb K1
    go_wp2_with fail
    exact bodyPost_ret (v := .tuple #[.agg #[.int .i64 0, .int .i64 0, .slice none 0 0], .int .i64 0, .int .i64 24]) (by simp [results, Try.results18, go_sem]) rfl (rd_fin l k w HK.out.1 24 [] (by decide) HR2.out _ (keepb (bl1 _ _) (bl1 _ _)))
  | true =>
    have hR1 := HR.out
    rw [if_pos ho] at hR1
    rcases isOp_cases ho with hO1 | hO1 | hO1 | hO1
    · obtain rfl : O = 1 := by omega
      have cO : ((1 : Nat) : Int) = 1 := rfl
      rw [cO] at x1 HQ hR1 hOw
      clear ho HR hO1
      rw [show kRm (1 : Int) = 255 from rfl] at hR1
      by_cases r1 : (N : Int) ≤ 255
      · rw [if_pos r1] at hR1
        have r2 : ¬ 255 < (N : Int) := by omega
        by_cases t1 : (N : Int) < 1
        · rw [if_neg (by have := HNb.out; unfold tkB kLo kHi; simp; omega)] at hR1
          have HR2 : Hid (rdP l k = ([], 1)) := hR1
          clear hR1
          go_enter Try.func18, Try.ntmps18
          go_wp2_with (first | (go_at_call 29; refine K1.mono ?_; rintro e w2 ⟨rfl, hw2⟩; replace hw2 := hw2.symm; subst hw2) | (with_reducible apply stopAnd14))
          refine (show wpList _ _ _ _ _ _ from ?_)
          refine sw_run14 (v := .int .u32 (N : Int)) rfl (ex14b (HAnd.out _)) ?_
          simp only [Act.put, List.setIfInBounds_toArray, List.set_cons_zero, List.set_cons_succ]
          clear HAnd HNb K1
          go_wp2_with fail
          exact bodyPost_ret (v := .tuple #[.agg #[.int .i64 0, .int .i64 0, .slice none 0 0], .int .i64 0, .int .i64 1]) (by simp [results, Try.results18, go_sem]) rfl (rd_fin l k w HK.out.1 1 [] (by decide) HR2.out _ (keepb (bl1 _ _) (bl1 _ _)))
        by_cases t2 : 24 < (N : Int)
        · rw [if_neg (by have := HNb.out; unfold tkB kLo kHi; simp; omega)] at hR1
          have HR2 : Hid (rdP l k = ([], 1)) := hR1
          clear hR1
          go_enter Try.func18, Try.ntmps18
          go_wp2_with (first | (go_at_call 29; refine K1.mono ?_; rintro e w2 ⟨rfl, hw2⟩; replace hw2 := hw2.symm; subst hw2) | (with_reducible apply stopAnd14))
          refine (show wpList _ _ _ _ _ _ from ?_)
          refine sw_run14 (v := .int .u32 (N : Int)) rfl (ex14b (HAnd.out _)) ?_
          simp only [Act.put, List.setIfInBounds_toArray, List.set_cons_zero, List.set_cons_succ]
          clear HAnd HNb K1
          go_wp2_with fail
          exact bodyPost_ret (v := .tuple #[.agg #[.int .i64 0, .int .i64 0, .slice none 0 0], .int .i64 0, .int .i64 1]) (by simp [results, Try.results18, go_sem]) rfl (rd_fin l k w HK.out.1 1 [] (by decide) HR2.out _ (keepb (bl1 _ _) (bl1 _ _)))
        rw [if_pos (by have := HNb.out; unfold tkB kLo kHi; simp; omega)] at hR1
        rw [if_neg (by decide)] at hR1
        have HR2 : Hid (rdP l k = ([], 0)) := hR1
        clear hR1
        go_enter Try.func18, Try.ntmps18
        go_wp2_with (first | (go_at_call 29; refine K1.mono ?_; rintro e w2 ⟨rfl, hw2⟩; replace hw2 := hw2.symm; subst hw2) | (with_reducible apply stopAnd14))
        refine (show wpList _ _ _ _ _ _ from ?_)
        refine sw_run14 (v := .int .u32 (N : Int)) rfl (ex14b (HAnd.out _)) ?_
        simp only [Act.put, List.setIfInBounds_toArray, List.set_cons_zero, List.set_cons_succ]
        clear HAnd HNb K1
        go_wp2_with fail
        obtain ⟨g1, g2, g3⟩ := dc_ok HK.out.1 HR2.out
        exact bodyPost_ret (v := .tuple #[.agg #[.int .i64 1, .int .i64 (N : Int), .slice none 0 0], .int .i64 1, .int .i64 0]) (by simp [results, Try.results18, go_sem]) rfl ⟨.slice none 0 0, by rw [g1, g2, g3, ← HQ.out.1, ← HQ.out.2]; rfl, by rw [g1]; exact World.ownsRow_nil _ _ _ _, keepb (bl1 _ _) (bl1 _ _)⟩
      · rw [if_neg r1] at hR1
        have r2 : 255 < (N : Int) := by omega
        have HR2 : Hid (rdP l k = ([], 24)) := hR1
        clear hR1
        go_enter Try.func18, Try.ntmps18
        go_wp2_with (first | (go_at_call 29; refine K1.mono ?_; rintro e w2 ⟨rfl, hw2⟩; replace hw2 := hw2.symm; subst hw2) | (with_reducible apply stopAnd14))
        refine (show wpList _ _ _ _ _ _ from ?_)
        refine sw_run14 (v := .int .u32 (N : Int)) rfl (ex14b (HAnd.out _)) ?_
        simp only [Act.put, List.setIfInBounds_toArray, List.set_cons_zero, List.set_cons_succ]
        clear HAnd HNb K1
        go_wp2_with fail
        exact bodyPost_ret (v := .tuple #[.agg #[.int .i64 0, .int .i64 0, .slice none 0 0], .int .i64 0, .int .i64 24]) (by simp [results, Try.results18, go_sem]) rfl (rd_fin l k w HK.out.1 24 [] (by decide) HR2.out _ (keepb (bl1 _ _) (bl1 _ _)))
    · obtain rfl : O = 2 := by omega
      have cO : ((2 : Nat) : Int) = 2 := rfl
      rw [cO] at x1 HQ hR1 hOw
      clear ho HR hO1
      rw [show kRm (2 : Int) = 255 from rfl] at hR1
      by_cases r1 : (N : Int) ≤ 255
      · rw [if_pos r1] at hR1
        have r2 : ¬ 255 < (N : Int) := by omega
        by_cases t1 : (N : Int) < 1
        · rw [if_neg (by have := HNb.out; unfold tkB kLo kHi; simp; omega)] at hR1
          have HR2 : Hid (rdP l k = ([], 1)) := hR1
          clear hR1
          go_enter Try.func18, Try.ntmps18
          go_wp2_with (first | (go_at_call 29; refine K1.mono ?_; rintro e w2 ⟨rfl, hw2⟩; replace hw2 := hw2.symm; subst hw2) | (with_reducible apply stopAnd14))
          refine (show wpList _ _ _ _ _ _ from ?_)
          refine sw_run14 (v := .int .u32 (N : Int)) rfl (ex14b (HAnd.out _)) ?_
          simp only [Act.put, List.setIfInBounds_toArray, List.set_cons_zero, List.set_cons_succ]
          clear HAnd HNb K1
          go_wp2_with fail
          exact bodyPost_ret (v := .tuple #[.agg #[.int .i64 0, .int .i64 0, .slice none 0 0], .int .i64 0, .int .i64 1]) (by simp [results, Try.results18, go_sem]) rfl (rd_fin l k w HK.out.1 1 [] (by decide) HR2.out _ (keepb (bl1 _ _) (bl1 _ _)))
        by_cases t2 : 24 < (N : Int)
        · rw [if_neg (by have := HNb.out; unfold tkB kLo kHi; simp; omega)] at hR1
          have HR2 : Hid (rdP l k = ([], 1)) := hR1
          clear hR1
          go_enter Try.func18, Try.ntmps18
          go_wp2_with (first | (go_at_call 29; refine K1.mono ?_; rintro e w2 ⟨rfl, hw2⟩; replace hw2 := hw2.symm; subst hw2) | (with_reducible apply stopAnd14))
          refine (show wpList _ _ _ _ _ _ from ?_)
          refine sw_run14 (v := .int .u32 (N : Int)) rfl (ex14b (HAnd.out _)) ?_
          simp only [Act.put, List.setIfInBounds_toArray, List.set_cons_zero, List.set_cons_succ]
          clear HAnd HNb K1
          go_wp2_with fail
          exact bodyPost_ret (v := .tuple #[.agg #[.int .i64 0, .int .i64 0, .slice none 0 0], .int .i64 0, .int .i64 1]) (by simp [results, Try.results18, go_sem]) rfl (rd_fin l k w HK.out.1 1 [] (by decide) HR2.out _ (keepb (bl1 _ _) (bl1 _ _)))
        rw [if_pos (by have := HNb.out; unfold tkB kLo kHi; simp; omega)] at hR1
        rw [if_pos rfl] at hR1
        exact rdecode_map (.slice ao l.length cc) l k N w HV.out HK.out.2 HX.out HK.out.1 HQ.out.1.symm HQ.out.2.symm (by omega) (by omega)
      · rw [if_neg r1] at hR1
        have r2 : 255 < (N : Int) := by omega
        have HR2 : Hid (rdP l k = ([], 24)) := hR1
        clear hR1
        go_enter Try.func18, Try.ntmps18
        go_wp2_with (first | (go_at_call 29; refine K1.mono ?_; rintro e w2 ⟨rfl, hw2⟩; replace hw2 := hw2.symm; subst hw2) | (with_reducible apply stopAnd14))
        refine (show wpList _ _ _ _ _ _ from ?_)
        refine sw_run14 (v := .int .u32 (N : Int)) rfl (ex14b (HAnd.out _)) ?_
        simp only [Act.put, List.setIfInBounds_toArray, List.set_cons_zero, List.set_cons_succ]
        clear HAnd HNb K1
        go_wp2_with fail
        exact bodyPost_ret (v := .tuple #[.agg #[.int .i64 0, .int .i64 0, .slice none 0 0], .int .i64 0, .int .i64 24]) (by simp [results, Try.results18, go_sem]) rfl (rd_fin l k w HK.out.1 24 [] (by decide) HR2.out _ (keepb (bl1 _ _) (bl1 _ _)))
    · obtain rfl : O = 3 := by omega
      have cO : ((3 : Nat) : Int) = 3 := rfl
      rw [cO] at x1 HQ hR1 hOw
      clear ho HR hO1
      rw [show kRm (3 : Int) = 16777215 from rfl] at hR1
      rw [if_pos (by have := HNb.out; omega)] at hR1
      by_cases t1 : (N : Int) < 1
      · rw [if_neg (by have := HNb.out; unfold tkB kLo kHi; simp; omega)] at hR1
        have HR2 : Hid (rdP l k = ([], 1)) := hR1
        clear hR1
        go_enter Try.func18, Try.ntmps18
        go_wp2_with (first | (go_at_call 29; refine K1.mono ?_; rintro e w2 ⟨rfl, hw2⟩; replace hw2 := hw2.symm; subst hw2) | (with_reducible apply stopAnd14))
        refine (show wpList _ _ _ _ _ _ from ?_)
        refine sw_run14 (v := .int .u32 (N : Int)) rfl (ex14b (HAnd.out _)) ?_
        simp only [Act.put, List.setIfInBounds_toArray, List.set_cons_zero, List.set_cons_succ]
        clear HAnd HNb K1
        go_wp2_with fail
        exact bodyPost_ret (v := .tuple #[.agg #[.int .i64 0, .int .i64 0, .slice none 0 0], .int .i64 0, .int .i64 1]) (by simp [results, Try.results18, go_sem]) rfl (rd_fin l k w HK.out.1 1 [] (by decide) HR2.out _ (keepb (bl1 _ _) (bl1 _ _)))
      rw [if_pos (by have := HNb.out; unfold tkB kLo kHi; simp; omega)] at hR1
      rw [if_neg (by decide)] at hR1
      have HR2 : Hid (rdP l k = ([], 0)) := hR1
      clear hR1
      go_enter Try.func18, Try.ntmps18
      go_wp2_with (first | (go_at_call 29; refine K1.mono ?_; rintro e w2 ⟨rfl, hw2⟩; replace hw2 := hw2.symm; subst hw2) | (with_reducible apply stopAnd14))
      refine (show wpList _ _ _ _ _ _ from ?_)
      refine sw_run14 (v := .int .u32 (N : Int)) rfl (ex14b (HAnd.out _)) ?_
      simp only [Act.put, List.setIfInBounds_toArray, List.set_cons_zero, List.set_cons_succ]
      clear HAnd HNb K1
      go_wp2_with fail
      obtain ⟨g1, g2, g3⟩ := dc_ok HK.out.1 HR2.out
      exact bodyPost_ret (v := .tuple #[.agg #[.int .i64 3, .int .i64 (N : Int), .slice none 0 0], .int .i64 1, .int .i64 0]) (by simp [results, Try.results18, go_sem]) rfl ⟨.slice none 0 0, by rw [g1, g2, g3, ← HQ.out.1, ← HQ.out.2]; rfl, by rw [g1]; exact World.ownsRow_nil _ _ _ _, keepb (bl1 _ _) (bl1 _ _)⟩
    · obtain rfl : O = 4 := by omega
      have cO : ((4 : Nat) : Int) = 4 := rfl
      rw [cO] at x1 HQ hR1 hOw
      clear ho HR hO1
      rw [show kRm (4 : Int) = 65535 from rfl] at hR1
      by_cases r1 : (N : Int) ≤ 65535
      · rw [if_pos r1] at hR1
        have r2 : ¬ 65535 < (N : Int) := by omega
        rw [if_pos (by have := HNb.out; unfold tkB kLo kHi; simp; omega), if_neg (by decide)] at hR1
        have HR2 : Hid (rdP l k = ([], 0)) := hR1
        clear hR1
        go_enter Try.func18, Try.ntmps18
        go_wp2_with (first | (go_at_call 29; refine K1.mono ?_; rintro e w2 ⟨rfl, hw2⟩; replace hw2 := hw2.symm; subst hw2) | (with_reducible apply stopAnd14))
        refine (show wpList _ _ _ _ _ _ from ?_)
        refine sw_run14 (v := .int .u32 (N : Int)) rfl (ex14b (HAnd.out _)) ?_
        simp only [Act.put, List.setIfInBounds_toArray, List.set_cons_zero, List.set_cons_succ]
        clear HAnd HNb K1
        go_wp2_with fail
        obtain ⟨g1, g2, g3⟩ := dc_ok HK.out.1 HR2.out
        exact bodyPost_ret (v := .tuple #[.agg #[.int .i64 4, .int .i64 (N : Int), .slice none 0 0], .int .i64 1, .int .i64 0]) (by simp [results, Try.results18, go_sem]) rfl ⟨.slice none 0 0, by rw [g1, g2, g3, ← HQ.out.1, ← HQ.out.2]; rfl, by rw [g1]; exact World.ownsRow_nil _ _ _ _, keepb (bl1 _ _) (bl1 _ _)⟩
      · rw [if_neg r1] at hR1
        have r2 : 65535 < (N : Int) := by omega
        have HR2 : Hid (rdP l k = ([], 24)) := hR1
        clear hR1
        go_enter Try.func18, Try.ntmps18
        go_wp2_with (first | (go_at_call 29; refine K1.mono ?_; rintro e w2 ⟨rfl, hw2⟩; replace hw2 := hw2.symm; subst hw2) | (with_reducible apply stopAnd14))
        refine (show wpList _ _ _ _ _ _ from ?_)
        refine sw_run14 (v := .int .u32 (N : Int)) rfl (ex14b (HAnd.out _)) ?_
        simp only [Act.put, List.setIfInBounds_toArray, List.set_cons_zero, List.set_cons_succ]
        clear HAnd HNb K1
        go_wp2_with fail
        exact bodyPost_ret (v := .tuple #[.agg #[.int .i64 0, .int .i64 0, .slice none 0 0], .int .i64 0, .int .i64 24]) (by simp [results, Try.results18, go_sem]) rfl (rd_fin l k w HK.out.1 24 [] (by decide) HR2.out _ (keepb (bl1 _ _) (bl1 _ _)))
end Go.Proofs.Ytnaihocdemcejaa
/-
  What the law's Same and within do.
-/
namespace Go.Proofs.Ytnaihocdemcejaa
open Go.RowKit
set_option linter.unusedSimpArgs false
set_option linter.unusedVariables false

/-- Two instructions are the same. -/
def sameB (i j : Ins) : Bool := decide (i.op = j.op) && (decide (i.n = j.n) && decide (i.m = j.m))
theorem sameB_iff (i j : Ins) : sameB i j = true ↔ i = j := by
  unfold sameB
  cases i; cases j
  simp
/-- Two boxes in memory. -/
def TwI (W : World) (B : Nat) (i j : Ins) (v u : Value) : Prop := AtI W B i.op i.n v ∧ AtI W (B + 1) j.op j.n u ∧ RwX cU W v i.m ∧ RwX cU W u j.m
theorem TwI.below {W W' : World} {B : Nat} {i j : Ins} {v u : Value} (h : TwI W B i j v u) (hb : Below W.heap.size W W') : TwI W' B i j v u := ⟨h.1.below hb, h.2.1.below hb, h.2.2.1.below hb, h.2.2.2.below hb⟩
set_option maxRecDepth 100000 in
set_option maxHeartbeats 8000000 in
theorem same_any (i j : Ins) (v u : Value) (w : World) (hv : RwX cU w v i.m) (hu : RwX cU w u j.m) (hl : i.m.length ≤ 140737488355328) :
    Calls Try.prog 14 #[insV i v, insV j u] w fun e w' => e = .returned (.bool (sameB i j)) ∧ Below w.heap.size w w' := by
  unfold insV
  obtain ⟨ao, c, hvf, -⟩ := id hv
  obtain ⟨bo, d, huf, -⟩ := id hu
  have q1 := bl1 w (.cells #[.int .i64 i.op, .int .i64 i.n, v] 24)
  have q2 := bl1 (w.alloc (.cells #[.int .i64 i.op, .int .i64 i.n, v] 24)) (.cells #[.int .i64 j.op, .int .i64 j.n, u] 24)
  have a1 := (ati_new w i.op i.n v 24).below q2
  have a2 := ati_new (w.alloc (.cells #[.int .i64 i.op, .int .i64 i.n, v] 24)) j.op j.n u 24
  rw [show (w.alloc (.cells #[.int .i64 i.op, .int .i64 i.n, v] 24)).heap.size = w.heap.size + 1 by simp] at a2
  have HB := hid13 (keepb q2 q1)
  have HT : Hid (TwI _ w.heap.size i j v u) := ⟨a1, a2, hv.below (keepb q2 q1), hu.below (keepb q2 q1)⟩
  obtain ⟨w2, hw2⟩ : ∃ w2, w2 = (w.alloc (.cells #[.int .i64 i.op, .int .i64 i.n, v] 24)).alloc (.cells #[.int .i64 j.op, .int .i64 j.n, u] 24) := ⟨_, rfl⟩
  rw [← hw2] at HB HT a1 a2
  subst hvf huf
  obtain ⟨a10, a11, a12⟩ := a1
  obtain ⟨a20, a21, a22⟩ := a2
  clear q1 q2 hv hu
  have fin : ∀ b, sameB i j = b → Calls Try.prog 14 #[.agg #[.int .i64 i.op, .int .i64 i.n, .slice ao i.m.length c], .agg #[.int .i64 j.op, .int .i64 j.n, .slice bo j.m.length d]] w (fun e w' => e = .returned (.bool b) ∧ Below w.heap.size w w') → Calls Try.prog 14 #[.agg #[.int .i64 i.op, .int .i64 i.n, .slice ao i.m.length c], .agg #[.int .i64 j.op, .int .i64 j.n, .slice bo j.m.length d]] w (fun e w' => e = .returned (.bool (sameB i j)) ∧ Below w.heap.size w w') := fun b h k => by rw [h]; exact k
  by_cases h1 : i.op = j.op
  · by_cases h2 : i.n = j.n
    · by_cases h3 : i.m.length = j.m.length
      · have e1 : (i.op != j.op) = false := by simpa using h1
        have e2 : (i.n != j.n) = false := by simpa using h2
        have e3 : (((i.m.length : Nat) : Int) != ((j.m.length : Nat) : Int)) = false := by simp; omega
        have HH : Hid (i.op = j.op ∧ i.n = j.n ∧ i.m.length = j.m.length ∧ i.m.length ≤ 140737488355328) := ⟨h1, h2, h3, hl⟩
        have HS : Hid (∀ b, decide (i.m = j.m) = b → sameB i j = b) := by
          intro b hb
          unfold sameB
          rw [decide_eq_true h1, decide_eq_true h2, hb]
          simp
        clear h1 h2 h3 hl fin
        go_enter Try.func14, Try.ntmps14
        go_wp2
        rw [← hw2]
        clear hw2 a10 a11 a12 a20 a21 a22 e1 e2 e3
        go_loopg [5] i.m.length (fun g x wr => ∃ (k : Nat), k + g = i.m.length ∧ x = .int .i64 (k : Int) ∧ Hid (TwI wr w.heap.size i j (.slice ao i.m.length c) (.slice bo j.m.length d) ∧ Below w.heap.size w wr) ∧ Hid (i.m.take k = j.m.take k))
        case atStart => exact ⟨0, by omega, rfl, ⟨HT.out, HB.out⟩, by show _ = _; simp⟩
        case round =>
          clear HT HB
          obtain ⟨k, hk, rfl, HW, HP⟩ := hrel
          obtain ⟨⟨⟨-, -, a12⟩, ⟨-, -, a22⟩, -⟩, -⟩ := id HW.out
          by_cases hlt : k < i.m.length
          · have hlt2 : k < j.m.length := by have := HH.out; omega
            have l1 : (k : Int) < (i.m.length : Int) := by omega
            have l2 : (k : Int) < (j.m.length : Int) := by omega
            obtain ⟨x, hx⟩ : ∃ x, i.m[k]? = some x := ⟨i.m[k], by simp [hlt]⟩
            obtain ⟨y, hy⟩ : ∃ y, j.m[k]? = some y := ⟨j.m[k], by simp [hlt2]⟩
            obtain ⟨b1, f1, hao, hc1⟩ : ∃ b off, ao = some ⟨b, off, none⟩ ∧ ∀ t z, i.m[t]? = some z → wr.cell? ⟨b, off + t, none⟩ = some (cU z) := by
              obtain ⟨ao', c', e, hc, hr⟩ := HW.out.1.2.2.1
              injection e with e1 e2 e3
              subst e1
              rcases hr with h | h
              · rw [h] at hlt; simp at hlt
              · exact h
            obtain ⟨b2, f2, hbo, hc2⟩ : ∃ b off, bo = some ⟨b, off, none⟩ ∧ ∀ t z, j.m[t]? = some z → wr.cell? ⟨b, off + t, none⟩ = some (cU z) := by
              obtain ⟨ao', c', e, hc, hr⟩ := HW.out.1.2.2.2
              injection e with e1 e2 e3
              subst e1
              rcases hr with h | h
              · rw [h] at hlt2; simp at hlt2
              · exact h
            subst hao hbo
            have r1 : wr.cell? ⟨b1, f1 + k, none⟩ = some (.int .u32 (uI x)) := hc1 k x hx
            have r2 : wr.cell? ⟨b2, f2 + k, none⟩ = some (.int .u32 (uI y)) := hc2 k y hy
            have mk : IntKind.i64.wrap ((k : Int) + 1) = (k : Int) + 1 := by rw [IntKind.wrap_i64]; have := HH.out; omega
            have HX : Hid (i.m[k]? = some x ∧ j.m[k]? = some y ∧ k < i.m.length ∧ k + gk = i.m.length) := ⟨hx, hy, hlt, hk⟩
            clear hc1 hc2 hx hy hlt hlt2 hk
            by_cases hxy : x = y
            · have eb : (uI x != uI y) = false := by rw [hxy]; simp
              have HP2 : Hid (i.m.take (k + 1) = j.m.take (k + 1)) := by
                show _ = _
                rw [List.take_add_one, List.take_add_one, HX.out.1, HX.out.2.1, HP.out, hxy]
              clear hxy HP
              go_wp2
              go_quiet (fail)
              have HW2 : Hid (TwI (wr.drewN nq) w.heap.size i j _ _ ∧ Below w.heap.size w (wr.drewN nq)) := ⟨HW.out.1.below (below_drewN (Below.refl _ _) nq), below_drewN HW.out.2 nq⟩
              clear HW r1 r2 a12 a22
              go_wp2
              go_roundg (gk - 1)
              case measure => have := HX.out; omega
              case rel => exact ⟨k + 1, by have := HX.out; omega, rfl, HW2, HP2⟩
            · have eb : (uI x != uI y) = true := by simp; exact fun e => hxy (uI_inj e)
              have HF : Hid (sameB i j = false) := HS.out false (decide_eq_false (fun e => hxy (by
                have h1 := HX.out.1
                rw [e, HX.out.2.1] at h1
                injection h1 with h1
                exact h1.symm)))
              clear hxy HP
              go_wp2
              go_quiet (fail)
              have HW2 : Hid (Below w.heap.size w (wr.drewN nq)) := below_drewN HW.out.2 nq
              clear HW r1 r2 a12 a22
              go_wp2
              go_ret
              exact ⟨by rw [HF.out]; rfl, HW2.out⟩
          · have l1 : ¬ (k : Int) < (i.m.length : Int) := by omega
            have HF : Hid (sameB i j = true) := HS.out true (decide_eq_true (by
              have := HP.out
              rw [List.take_of_length_le (by omega), List.take_of_length_le (by have := HH.out; omega)] at this
              exact this))
            clear HP hlt
            go_wp2
            go_ret
            exact ⟨by rw [HF.out]; rfl, HW.out.2⟩
      · refine fin false ?_ ?_
        · unfold sameB
          rw [decide_eq_false (fun e => h3 (by rw [e]) : ¬ i.m = j.m)]
          simp
        · have e1 : (i.op != j.op) = false := by simpa using h1
          have e2 : (i.n != j.n) = false := by simpa using h2
          have e3 : (((i.m.length : Nat) : Int) != ((j.m.length : Nat) : Int)) = true := by simp; omega
          clear h1 h2 h3
          go_enter Try.func14, Try.ntmps14
          go_wp2
          go_ret
          exact ⟨rfl, by rw [← hw2]; exact HB.out⟩
    · refine fin false ?_ ?_
      · unfold sameB
        rw [decide_eq_false h2]
        simp
      · have e1 : (i.op != j.op) = false := by simpa using h1
        have e2 : (i.n != j.n) = true := by simpa using h2
        clear h1 h2
        go_enter Try.func14, Try.ntmps14
        go_wp2
        go_ret
        exact ⟨rfl, by rw [← hw2]; exact HB.out⟩
  · refine fin false ?_ ?_
    · unfold sameB
      rw [decide_eq_false h1]
      simp
    · have e1 : (i.op != j.op) = true := by simpa using h1
      clear h1
      go_enter Try.func14, Try.ntmps14
      go_wp2
      go_ret
      exact ⟨rfl, by rw [← hw2]; exact HB.out⟩
/-- A number from 0 to n - 1. -/
def wth (a n : Int) : Int := if a.tmod n < 0 then a.tmod n + n else a.tmod n
theorem wth_in (a n : Int) (hn : 0 < n) : 0 ≤ wth a n ∧ wth a n < n := by
  unfold wth
  have h1 := Int.tmod_lt_of_pos a hn
  have h2 := Int.lt_tmod_of_pos a hn
  split <;> constructor <;> omega
theorem within14 (a n : Int) (hn : 0 < n) (hm : n ≤ 1000000000000000000) (w : World) :
    Calls Try.prog 20 #[.int .i64 a, .int .i64 n] w fun e w' => e = .returned (.int .i64 (wth a n)) ∧ w' = w := by
  have h1 := Int.tmod_lt_of_pos a hn
  have h2 := Int.lt_tmod_of_pos a hn
  have hne : ¬ n = 0 := by omega
  have hne1 : ¬ n = -1 := by omega
  obtain ⟨r, hr⟩ : ∃ r, r = a.tmod n := ⟨_, rfl⟩
  have HR := hid13 hr
  rw [← hr] at h1 h2
  have hr' := hr.symm
  clear hr
  by_cases c : r < 0
  · have w2 : IntKind.i64.wrap (r + n) = r + n := by rw [IntKind.wrap_i64]; omega
    have HE : Hid (wth a n = r + n) := by show _ = _; unfold wth; rw [← HR.out, if_pos c]
    go_enter Try.func20, Try.ntmps20
    go_wp2
    go_ret
    exact ⟨by rw [HE.out]; rfl, rfl⟩
  · have HE : Hid (wth a n = r) := by show _ = _; unfold wth; rw [← HR.out, if_neg c]
    go_enter Try.func20, Try.ntmps20
    go_wp2
    go_ret
    exact ⟨by rw [HE.out]; rfl, rfl⟩
end Go.Proofs.Ytnaihocdemcejaa
/-
  The law's known.
-/
namespace Go.Proofs.Ytnaihocdemcejaa
open Go.RowKit
set_option linter.unusedSimpArgs false
set_option linter.unusedVariables false

theorem kn_chk : chkE 4 258 [] = 0 := by decide +kernel
theorem kn_en : enL [] 4 258 [] = [4, 0, 1, 2] := by decide +kernel
theorem kn_dc : dcE [4, 0, 1, 2] 0 = 0 ∧ dcI [4, 0, 1, 2] 0 = ⟨4, 258, []⟩ ∧ dcZ [4, 0, 1, 2] 0 = 1 := by
  have h := dec_enc [] [] 0 4 258 [] rfl kn_chk
  have e : ([] ++ wdB (4 : Int).toNat (258 : Int).toNat [] ++ []) = [4, 0, 1, 2] := by decide +kernel
  rw [e] at h
  exact h
theorem rowA_nil (w : World) (s : Nat) : RowA w s (.slice none 0 0) 0 [] := ⟨by simp, none, 0, rfl, Nat.le_refl _, .inl ⟨rfl, rfl, rfl⟩⟩
theorem rwx_nil {α : Type} {f : α → Value} (w : World) : RwX f w (.slice none 0 0) [] := ⟨none, 0, rfl, Nat.le_refl _, .inl rfl⟩
set_option maxRecDepth 100000 in
set_option maxHeartbeats 8000000 in
theorem known14 (w : World) :
    Calls Try.prog 9 #[] w fun e w' => e = .returned (.bool true) ∧ Below w.heap.size w w' := by
  have K1 := encode_any (.slice none 0 0) [] 4 258 (.slice none 0 0) [] w (rowA_nil w 1) (rwx_nil w) (by simp) (by simp)
  rw [kn_chk, kn_en] at K1
  go_enter Try.func9, Try.ntmps9
  go_wp2_with fail
  refine K1.mono ?_
  rintro e w1 ⟨v1, rfl, hO1, hb1⟩
  obtain ⟨ao, c, hv⟩ := own_form hO1
  subst hv
  have hR1 : RwX cB w1 (.slice ao 4 c) [4, 0, 1, 2] := own_rwx (l := [4, 0, 1, 2]) hO1
  have hby : ∀ b ∈ [4, 0, 1, 2], b < 256 := by decide
  have K2 := decode_any (.slice ao 4 c) [4, 0, 1, 2] 0 w1 hR1 (by simp) hby
  rw [kn_dc.1, kn_dc.2.1, kn_dc.2.2] at K2
  have HB1 := hid13 hb1
  have HR1 := hid13 hR1
  have HBy := hid13 hby
  clear K1 hO1 hb1 hR1 hby
  go_wp2_with fail
  refine K2.mono ?_
  rintro e w2 ⟨v2, rfl, hO2, hb2⟩
  obtain ⟨ao2, c2, hv2⟩ := own_form hO2
  subst hv2
  unfold insV
  have HB2 := hid13 (keepb hb2 HB1.out)
  have q3 := bl1 w2 (.cells #[.int .i64 4, .int .i64 258, .slice ao2 0 c2] 24)
  have hcv := conv13 ((HR1.out.below hb2).below q3) HBy.out
  have HB3 := hid13 (keepb q3 HB2.out)
  have hs : bsA [4, 0, 1, 2] = ⟨#[4, 0, 1, 2]⟩ := rfl
  rw [hs] at hcv
  clear K2 hO2 hb2 HB1 HR1 q3 HB2
  go_wp2
  go_ret
  exact ⟨rfl, HB3.out⟩
end Go.Proofs.Ytnaihocdemcejaa
/-
  The law CodeTurned.
-/
namespace Go.Proofs.Ytnaihocdemcejaa
open Go.RowKit
set_option linter.unusedSimpArgs false
set_option linter.unusedVariables false

theorem fm_lt : ∀ (m : List (BitVec 32)), ∀ b ∈ (m.flatMap fun x => by4 x.toNat), b < 256
  | [], b, h => by simp at h
  | x :: m, b, h => by
    rw [List.flatMap_cons, List.mem_append] at h
    rcases h with h | h
    · exact by4_lt _ x.isLt b h
    · exact fm_lt m b h
theorem wdB_lt (o k : Nat) (m : List (BitVec 32)) : ∀ b ∈ wdB o k m, b < 256 := fm_lt _
/-- One byte turned: none, or another one. -/
theorem turned_ne (o n : Int) (m : List (BitVec 32)) (K x b : Nat) (hK : (wdB o.toNat n.toNat m)[K]? = some x) (hb : b < 256) (hne : b ≠ x) (h : dcE ((wdB o.toNat n.toNat m).set K b) 0 = 0) : dcI ((wdB o.toNat n.toNat m).set K b) 0 ≠ ⟨o, n, m⟩ := by
  intro he
  obtain ⟨Y, hY⟩ : ∃ Y, Y = wdB o.toNat n.toNat m := ⟨_, rfl⟩
  rw [← hY] at hK h he
  have hx : ∀ c ∈ Y.set K b, c < 256 := by
    intro c hc
    rcases List.mem_or_eq_of_mem_set hc with q | q
    · rw [hY] at q; exact wdB_lt _ _ _ c q
    · rw [q]; exact hb
  obtain ⟨-, h2, -⟩ := enc_dec _ 0 hx h
  rw [he] at h2
  simp only at h2
  rw [← hY, show (0 : Int).toNat = 0 from rfl, Nat.mul_zero, List.drop_zero, List.take_of_length_le (by rw [List.length_set, hY, wdB_len]; exact Nat.le_refl _)] at h2
  have h3 : (Y.set K b)[K]? = some x := by rw [← h2]; exact hK
  rw [List.getElem?_set_self (List.getElem?_eq_some_iff.1 hK).1] at h3
  injection h3 with h3
  exact hne h3
theorem rwx_cut {α : Type} {f : α → Value} {W : World} {ao : Option Addr} {n c : Nat} {l : List α} (h : RwX f W (.slice ao n c) l) (k : Nat) (hk : k ≤ l.length) : RwX f W (.slice ao k c) (l.take k) := by
  have := rwx_take (l := l.take k) (m := l.drop k) (n := n) (by rw [List.take_append_drop]; exact h)
  rw [List.length_take, Nat.min_eq_left hk] at this
  exact this
set_option maxRecDepth 100000 in
set_option maxHeartbeats 16000000 in
theorem codeTurned_any (o n : Int) (vm : Value) (m : List (BitVec 32)) (a : Int) (y : Nat) (w : World) (hm : RwX cU w vm m) (ha0 : -9223372036854775808 ≤ a) (ha1 : a ≤ 9223372036854775807) (hy : y < 256) :
    Calls Try.prog 8 #[.agg #[.int .i64 o, .int .i64 n, vm], .int .i64 a, .int .u8 (y : Int)] w fun e w' => e = .returned (.bool true) ∧ Below w.heap.size w w' := by
  obtain ⟨i0, hi, hz0, hz1, hz2⟩ := info13 Try.infoB13
  obtain ⟨ao, c, hvm, -⟩ := id hm
  have q1 := bl1 w (.cells #[.int .i64 o, .int .i64 n, vm] 24)
  have HA1 := hid13 (ati_new w o n vm 24)
  have HB1 := hid13 q1
  have HM := hid13 hm
  subst hvm
  clear q1 hm ha0 ha1
  go_enter Try.func8, Try.ntmps8
  go_wp2_with fail
  refine (known14 _).mono ?_
  rintro e w2 ⟨rfl, hb2⟩
  have HB2 := hid13 (keepb hb2 HB1.out)
  have HA2 := hid13 (HA1.out.below hb2)
  obtain ⟨b0, b1, b2⟩ := HA2.out
  clear HA1 HB1 hb2
  by_cases h1 : (4096 : Int) < (m.length : Int)
  · go_wp2
    go_ret
    exact ⟨rfl, HB2.out⟩
  by_cases h2 : y = 0
  · subst h2
    go_wp2
    go_ret
    exact ⟨rfl, HB2.out⟩
  have h2' : ((y : Int) == 0) = false := by simp; omega
  have K3 := encode_any (.slice none 0 0) [] o n (.slice ao m.length c) m w2 (rowA_nil w2 1) (HM.out.below HB2.out) (by simp) (by omega)
  go_wp2_with fail
  refine K3.mono ?_
  rintro e w3 ⟨v3, rfl, hO3, hb3⟩
  have HB3 := hid13 (keepb hb3 HB2.out)
  have HA3 := hid13 (HA2.out.below hb3)
  clear b0 b1 b2 K3 hb3 HA2
  by_cases h0 : chkE o n m = 0
  · have e3 : enL [] o n m = wdB o.toNat n.toNat m := by unfold enL; rw [if_pos h0]; rfl
    rw [e3] at hO3
    rw [h0]
    obtain ⟨Y, hY⟩ : ∃ Y, Y = wdB o.toNat n.toNat m := ⟨_, rfl⟩
    have hYl : Y.length = 4 * (1 + m.length) := by rw [hY, wdB_len]
    have hml : m.length ≤ 4096 := by omega
    have hYx : ∀ b ∈ Y, b < 256 := by rw [hY]; exact wdB_lt _ _ _
    rw [← hY] at hO3
    have hO3' := hO3
    obtain ⟨g3, c3, hv3, -, -⟩ := hO3'.form (by omega)
    subst hv3
    obtain ⟨L, hLd⟩ : ∃ L, L = Y.length := ⟨_, rfl⟩
    rw [← hLd] at hO3 ⊢
    have hLi : (L : Int) ≤ 100000 := by omega
    have hL4 : 4 ≤ L := by omega
    have HY : Hid (Y = wdB o.toNat n.toNat m ∧ L = Y.length ∧ L = 4 * (1 + m.length) ∧ m.length ≤ 4096 ∧ chkE o n m = 0) := ⟨hY, hLd, by omega, hml, h0⟩
    have HYx := hid13 hYx
    have hq4 := bl1 w3 (.cells #[] 5)
    have hR3 : RowA w3 1 (.slice (some ⟨g3, 0, none⟩) L c3) L (Y.map cB) := own_rowA hO3
    have HR4 := hid13 (hR3.below hq4)
    have HO4 : Hid ((w3.alloc (.cells #[] 5)).ownsRow w3.heap.size 5 1 (.slice (some ⟨w3.heap.size, 0, none⟩) 0 0) 0 []) := World.ownsRow_made w3 #[] 0 (Nat.le_refl _) (by unfold maxLen; omega) (by simp)
    have HO3 := hid13 hO3
    clear hO3 hO3' hR3 hY hYx hYl h0 e3 hml hLd h1
    go_wp2_with (at_builtin; apply stopHere9)
    refine (show wpList _ _ _ _ _ _ from ?_)
    refine wpList_append_rowA rfl _ _ 25 rfl w3.heap.size 5 i0 (.int .u8 0) 1 1 Try.underlying25 hi hz0 hz1 hz2 rfl (by decide) _ 0 [] rfl HO4.out _ L (Y.map cB) rfl HR4.out (cB_one Y) (by unfold maxLen; omega) (by omega) hq4.size ?_
    intro ao5 c5 w5 hO5 hg5
    rw [Nat.zero_add, List.nil_append] at hO5
    rw [Nat.zero_add]
    have hB5 : Below w3.heap.size w3 w5 := hq4.grown hg5 hq4.size (fun z hz => (HO4.out.lt z hz).1)
    obtain ⟨g5, c5', hv5, hg5a, hg5b⟩ := hO5.form (by omega)
    injection hv5 with e1 e2 e3
    subst e1 e3
    have HO5 := hid13 hO5
    have HB5 := hid13 hB5
    have hW := wth_in a (L : Int) (by omega)
    obtain ⟨k, hk⟩ : ∃ k : Nat, wth a (L : Int) = (k : Int) := ⟨(wth a (L : Int)).toNat, by omega⟩
    have K6 := within14 a (L : Int) (by omega) (by omega) w5
    rw [hk] at K6 hW
    have hkL : k < L := by omega
    have hkL' : (k : Int) < (L : Int) := by omega
    obtain ⟨x, hx⟩ : ∃ x, Y[k]? = some x := ⟨Y[k]'(by have := HY.out.2.1; omega), by simp [show k < Y.length by have := HY.out.2.1; omega]⟩
    have hx8 : x < 256 := HYx.out x (List.mem_of_getElem? hx)
    obtain ⟨b, hbd⟩ : ∃ b, b = (x + y) % 256 := ⟨_, rfl⟩
    have hw8 : IntKind.u8.wrap ((x : Int) + (y : Int)) = (b : Int) := by simp [IntKind.wrap, IntKind.bits, IntKind.signed]; omega
    have hbx : b ≠ x := by omega
    have hb8 : b < 256 := by omega
    have c6 : w5.cell? ⟨g5, k, none⟩ = some (.int .u8 (x : Int)) := by
      rw [hO5.cellAt k (by omega), List.getElem?_map, hx]; rfl
    have f6 := hO5.frozenAt k
    have HX : Hid (Y[k]? = some x ∧ b < 256 ∧ b ≠ x) := ⟨hx, hb8, hbx⟩
    have hst := (hO5.stored k (.int .u8 (b : Int))).1
    have e7 : (Y.map cB).set k (.int .u8 (b : Int)) = (Y.set k b).map cB := by rw [List.map_set]; rfl
    rw [e7] at hst
    have HO7 := hid13 hst
    have HB7 : Hid (Below w3.heap.size w3 (w5.setCell ⟨g5, k, none⟩ (.int .u8 (b : Int)))) := hB5.setCell (p := ⟨g5, k, none⟩) hg5a _
    clear hO5 hg5 hB5 HR4 HO4 hq4 hW hk hx hbd hbx hst e7 hg5a hg5b HO5 HB5
    go_wp2_with (go_at_call 20; refine K6.mono ?_; rintro e w6 ⟨rfl, hw6⟩; replace hw6 := hw6.symm; subst hw6)
    obtain ⟨w7, hw7⟩ : ∃ w7, w7 = w5.setCell ⟨g5, k, none⟩ (.int .u8 (b : Int)) := ⟨_, rfl⟩
    rw [← hw7] at HO7 HB7 ⊢
    have hl7 : (Y.set k b).length = L := by rw [List.length_set]; exact HY.out.2.1.symm
    have hR7 : RwX cB w7 (.slice (some ⟨g5, 0, none⟩) L c5) (Y.set k b) := by
      have := own_rwx (l := Y.set k b) (f := cB) (w := w7) (v := .slice (some ⟨g5, 0, none⟩) L c5) (by rw [hl7]; exact HO7.out)
      exact this
    have hx7 : ∀ z ∈ Y.set k b, z < 256 := by
      intro z hz
      rcases List.mem_or_eq_of_mem_set hz with q | q
      · exact HYx.out z q
      · rw [q]; exact hb8
    have K7 := decode_any _ (Y.set k b) 0 w7 hR7 (by omega) hx7
    have HB7w := hid13 (keepb HB7.out HB3.out)
    have HA7 := hid13 (HA3.out.below HB7.out)
    have HO37 := hid13 (own_b13 HB7.out HO3.out)
    clear HO7 hR7 hx7 hl7 hw7 c6 f6 hw8 hb8 hx8 K6 HO3 HA3 HB3
    refine K7.mono ?_
    rintro e w8 ⟨v8, rfl, hO8, hb8⟩
    have HB8 := hid13 (keepb hb8 HB7w.out)
    have HA8 := hid13 (HA7.out.below hb8)
    have HO38 := hid13 (own_b13 hb8 HO37.out)
    have HO8 := hid13 hO8
    have HTn := hid13 (fun h => turned_ne o n m k x b (by rw [← HY.out.1]; exact HX.out.1) HX.out.2.1 HX.out.2.2 (by rw [← HY.out.1]; exact h))
    rw [← HY.out.1] at HTn
    obtain ⟨I, hI⟩ : ∃ I, I = dcI (Y.set k b) 0 := ⟨_, rfl⟩
    obtain ⟨E, hE⟩ : ∃ E, E = dcE (Y.set k b) 0 := ⟨_, rfl⟩
    obtain ⟨Z, hZ⟩ : ∃ Z, Z = dcZ (Y.set k b) 0 := ⟨_, rfl⟩
    rw [← hI] at HO8 HTn ⊢
    rw [← hE] at HTn ⊢
    rw [← hZ]
    have hIm : Hid (I.m.length ≤ 524288) := by
      show _ ≤ _
      rw [hI]
      unfold dcI
      split
      · exact rdP_len _ _
      · simp
    obtain ⟨ao8, c8, hv8⟩ := own_form HO8.out
    subst hv8
    unfold insV
    have q9 := bl1 w8 (.cells #[.int .i64 I.op, .int .i64 I.n, .slice ao8 I.m.length c8] 24)
    have HI9 := hid13 (ati_new w8 I.op I.n (.slice ao8 I.m.length c8) 24)
    have HB9 := hid13 (keepb q9 HB8.out)
    have HA9 := hid13 (HA8.out.below q9)
    have HO39 := hid13 (own_b13 q9 HO38.out)
    have HO9 := hid13 (own_rwx (own_b13 q9 HO8.out))
    obtain ⟨w9, hw9⟩ : ∃ w9, w9 = w8.alloc (.cells #[.int .i64 I.op, .int .i64 I.n, .slice ao8 I.m.length c8] 24) := ⟨_, rfl⟩
    rw [← hw9] at HI9 HB9 HA9 HO39 HO9
    obtain ⟨L1, hL1⟩ : ∃ L1 : Nat, (L : Int) - 1 = (L1 : Int) := ⟨L - 1, by omega⟩
    have wL1 : IntKind.i64.wrap ((L : Int) - 1) = (L1 : Int) := by rw [IntKind.wrap_i64]; omega
    have hc3 : (L1 : Int) ≤ (c3 : Int) := by
      obtain ⟨-, ao', c', e, hc, -⟩ := own_row HO39.out
      injection e with e1 e2 e3
      subst e3
      omega
    have hR10 : RwX cB w9 (.slice (some ⟨g3, 0, none⟩) L1 c3) (Y.take L1) := by
      have h2 : w9.ownsRow w2.heap.size 5 1 (.slice (some ⟨g3, 0, none⟩) L c3) Y.length (Y.map cB) := by rw [← HY.out.2.1]; exact HO39.out
      exact rwx_cut (own_rwx h2) L1 (by have := HY.out.2.1; omega)
    have hT10 : (Y.take L1).length = L1 := by rw [List.length_take]; have := HY.out.2.1; omega
    have K10 := decode_any _ (Y.take L1) 0 w9 hR10 (by omega) (fun z hz => HYx.out z (List.mem_of_mem_take hz))
    have hcut : dcE (Y.take L1) 0 = 30 := by
      have := dec_cut o n m HY.out.2.2.2.2
      rw [← HY.out.1, show 4 * (1 + m.length) - 1 = L1 by have := HY.out.2.2.1; omega] at this
      exact this
    have hcI : dcI (Y.take L1) 0 = ⟨0, 0, []⟩ := by unfold dcI; rw [if_neg (by rw [hcut]; decide)]
    have hcZ : dcZ (Y.take L1) 0 = 0 := by unfold dcZ; rw [if_neg (by rw [hcut]; decide)]
    rw [hcut, hcI, hcZ] at K10
    clear q9 hR10 hT10 hcut hcI hcZ HO8 HO38 HA8 HB8 hO8 hb8 K7 HO37 HA7 HB7w HB7 hI hE hZ HYx HX
    go_wp2_with fail
    rw [← hw9]
    refine K10.mono ?_
    rintro e w11 ⟨v11, rfl, hO11, hb11⟩
    obtain ⟨ao11, c11, hv11⟩ := own_form hO11
    subst hv11
    unfold insV
    have q12 := bl1 w11 (.cells #[.int .i64 0, .int .i64 0, .slice ao11 0 c11] 24)
    have HB12 := hid13 (keepb q12 (keepb hb11 HB9.out))
    have HA12 := hid13 ((HA9.out.below hb11).below q12)
    have HI12 := hid13 ((HI9.out.below hb11).below q12)
    have HO12 := hid13 ((HO9.out.below hb11).below q12)
    have HM12 := hid13 (HM.out.below HB12.out)
    obtain ⟨a0, a1, a2⟩ := HA12.out
    obtain ⟨i0', i1', i2'⟩ := HI12.out
    have KS := same_any I ⟨o, n, m⟩ (.slice ao8 I.m.length c8) (.slice ao m.length c) _ HO12.out HM12.out (by have := hIm.out; omega)
    unfold insV at KS
    clear q12 hb11 hO11 K10 HO39 HA9 HI9 HO9 HB9 hw9 HA12 HI12 HO12 HM12 hIm
    by_cases hE : E = 0
    · have hsb : sameB I ⟨o, n, m⟩ = false := by
        cases hh : sameB I ⟨o, n, m⟩ with
        | false => rfl
        | true => exact absurd ((sameB_iff _ _).1 hh) (HTn.out hE)
      rw [hsb] at KS
      subst hE
      clear HTn hsb
      go_wp2_with fail
      refine KS.mono ?_
      rintro e w13 ⟨rfl, hb13⟩
      have HB13 := hid13 (keepb hb13 HB12.out)
      clear hb13 KS a0 a1 a2 i0' i1' i2'
      go_wp2
      go_ret
      exact ⟨rfl, HB13.out⟩
    · have hE' : (E != 0) = true := by simpa using hE
      clear HTn KS hE
      go_wp2
      go_ret
      exact ⟨rfl, HB12.out⟩
  · go_wp2
    go_ret
    exact ⟨rfl, HB3.out⟩
end Go.Proofs.Ytnaihocdemcejaa
