/-
  Part 19 of the proof: 3 texts, one behind the other.
-/
import Derived.Test.YtpiicdpipjjenaaGreatDoorPart18
import Derived.Test.YtpiicdpipjjenaaGreatDoorPart8
import Derived.ArgAppend
namespace Go.Proofs.YtpiicdpipjjenaaGreatDoor
open Go.RowKit
set_option linter.unusedSimpArgs false
set_option linter.unusedVariables false
attribute [local go_sem] Oper.semAt_some

set_option maxRecDepth 20000 in
set_option maxHeartbeats 4000000 in
theorem stableS_any (base g c n : Nat) (D : List Rte) (w : World) (h : RwO w base g c n D) (hn : n < 20) :
    Calls Tryz.prog 75 #[.slice (some ⟨g, 0, none⟩) n c, .int .i64 (n : Int), .func (.func 27) #[] #[]] w fun e w' => e = .returned (.tuple #[]) ∧ RwO w' base g c n (isrt D) ∧ Bo g w w' := by
  have KI := insSort_any base g c n 0 n D w h (Nat.zero_le _) (Nat.le_refl _) (by omega)
  have e : D.take 0 ++ isrt ((D.drop 0).take (n - 0)) ++ D.drop n = isrt D := by
    have := h.1
    rw [List.take_zero, List.drop_zero, Nat.sub_zero, List.take_of_length_le (by omega), List.drop_eq_nil_of_le (by omega)]
    simp
  rw [e] at KI
  have hn2 : (n : Int) < 20 := by omega
  have hn3 : ¬ (20 : Int) ≤ (n : Int) := by omega
  have hn4 : ¬ 20 ≤ n := by omega
  have hn5 : ¬ 20 < n := by omega
  clear h e
  go_enter Tryz.func75, Tryz.ntmps75
  go_wp2_with fail
  go_loopw [7, 8] (fun a b wr => a = .int .i64 0 ∧ b = .int .i64 20 ∧ wr = w) (fun _ _ _ => 0)
  case atStart => exact ⟨rfl, rfl, rfl⟩
  case round =>
    obtain ⟨rfl, rfl, rfl⟩ := hrel
    go_wp2_with fail
    refine KI.mono ?_
    rintro e w1 ⟨rfl, hR, hB⟩
    have HR := hidR hR
    have HB := hidR hB
    clear KI hR hB
    go_wp2_with fail
    go_loopw [6, 7, 8, 9] (fun s a b m wr => s = .int .i64 20 ∧ wr = w1) (fun _ _ _ _ _ => 0)
    case atStart => exact ⟨rfl, rfl⟩
    case round =>
      obtain ⟨rfl, rfl⟩ := hrel
      go_wp2
      exact bodyPost_end (v := .tuple #[]) (by simp [results, Tryz.results75, go_sem]) rfl ⟨rfl, HR.out, HB.out⟩
set_option maxHeartbeats 4000000 in
theorem sortS_any (base g c n : Nat) (D : List Rte) (w : World) (h : RwO w base g c n D) (hn : n < 20) :
    Calls Tryz.prog 50 #[.slice (some ⟨g, 0, none⟩) n c, .func (.func 27) #[] #[]] w fun e w' => e = .returned (.tuple #[]) ∧ RwO w' base g c n (isrt D) ∧ Bo g w w' := by
  have KS := stableS_any base g c n D w h hn
  go_enter Tryz.func50, Tryz.ntmps50
  go_wp2_with fail
  refine KS.mono ?_
  rintro e w1 ⟨rfl, hR, hB⟩
  have HR := hidR hR
  have HB := hidR hB
  clear KS hR hB h
  go_wp2
  exact bodyPost_end (v := .tuple #[]) (by simp [results, Tryz.results50, go_sem]) rfl ⟨rfl, HR.out, HB.out⟩
end Go.Proofs.YtpiicdpipjjenaaGreatDoor
namespace Go.Proofs.YtpiicdpipjjenaaGreatDoor
open Go.RowKit
set_option linter.unusedSimpArgs false
set_option linter.unusedVariables false
attribute [local go_sem] Oper.semAt_some

def tellR (st : List Rte) (r : Rte) : List Rte := match st with
  | [] => [r]
  | y :: t => if ((y.1.1 == r.1.1) && (y.1.2 == r.1.2)) = true then r :: t else r :: y :: t
def ltL (l : List Rte) : List Rte := (l.foldl tellR []).reverse
theorem set_take {D : List Rte} {k : Nat} {st : List Rte} {r : Rte} (h : D.take k = st.reverse) (hk : k < D.length) : (D.set k r).take (k + 1) = (r :: st).reverse := by
  rw [List.take_succ_eq_append_getElem (by rw [List.length_set]; exact hk), List.getElem_set_self, List.take_set_of_le (Nat.le_refl _), h, List.reverse_cons]
theorem set_take2 {D : List Rte} {k : Nat} {y r : Rte} {t : List Rte} (h : D.take (k + 1) = (y :: t).reverse) (hk : k < D.length) : (D.set k r).take (k + 1) = (r :: t).reverse := by
  have h2 : D.take k = t.reverse := by
    have hl : t.reverse.length = k := by
      have := congrArg List.length h
      simp at this ⊢; omega
    have e : (D.take (k + 1)).take k = ((y :: t).reverse).take k := by rw [h]
    rw [List.take_take, Nat.min_eq_left (by omega), List.reverse_cons, List.take_left' hl] at e
    exact e
  exact set_take h2 hk
theorem set_drop {D : List Rte} {k i : Nat} {r : Rte} (h : k < i) : (D.set k r).drop i = D.drop i := by
  rw [List.drop_set_of_lt h]
theorem newsR6 (Z : World) (B : Nat) (hB : B = Z.heap.size) (a b c d : Value) (t : TypeId) : ∀ j u, [a, b, c, d][j]? = some u → (Z.alloc (.cells #[a, b, c, d] t)).cell? ((⟨B, 0, none⟩ : Addr).add j) = some u := by
  subst hB
  intro j u hj
  match j, hj with
  | 0, hj => simp at hj; subst hj; simp [Addr.add, go_sem]
  | 1, hj => simp at hj; subst hj; simp [Addr.add, go_sem]
  | 2, hj => simp at hj; subst hj; simp [Addr.add, go_sem]
  | 3, hj => simp at hj; subst hj; simp [Addr.add, go_sem]
theorem fourR6' (a b c d : Int) : ∀ u ∈ [Value.int .u64 a, Value.int .u64 b, Value.int .i64 c, Value.int .i64 d], u.oneCell' = true := by
  intro u hu; simp at hu; rcases hu with rfl | rfl | rfl | rfl <;> rfl
theorem setCells4 (w : World) (b o : Nat) (x y z t : Value) : w.setCells b o [x, y, z, t] = (((w.setCell ⟨b, o, none⟩ x).setCell ⟨b, o + 1, none⟩ y).setCell ⟨b, o + 2, none⟩ z).setCell ⟨b, o + 3, none⟩ t := rfl
set_option maxRecDepth 20000 in
set_option maxHeartbeats 16000000 in
theorem lastTold_any (base g c n : Nat) (D : List Rte) (w : World) (h : RwO w base g c n D) (hn0 : 0 < n) (hn : n ≤ 1000000000) :
    Calls Tryz.prog 51 #[.slice (some ⟨g, 0, none⟩) n c] w fun e w' => e = .returned (.slice (some ⟨g, 0, none⟩) (ltL D).length c) ∧ (∃ D', RwO w' base g c n D' ∧ D'.take (ltL D).length = ltL D ∧ (ltL D).length ≤ n) ∧ Bo g w w' := by
  obtain ⟨i0, hi, hz0, hz1, hz2⟩ := info_parts Tryz.infoR
  have hnc : n ≤ c := by
    rcases h.2.2 with ⟨e0, _⟩ | ⟨g', cap', cur, e0, hb, hg, hnc, _⟩
    · cases e0
    · injection e0 with _ _ e3
      omega
  have hnc2 : ¬ c = 0 := by omega
  have hc0 : 0 < c := by omega
  have H0 := hidR h
  have HD := hidR h.1
  clear h
  go_enter Tryz.func51, Tryz.ntmps51
  go_wp2_with fail
  go_loopw [3, 11] (fun lv iv wr => ∃ (i : Nat) (st D' : List Rte), lv = .slice (some ⟨g, 0, none⟩) st.length c ∧ iv = .int .i64 (i : Int) ∧ i ≤ n ∧ Hid (st = (D.take i).foldl tellR []) ∧ Hid (st.length ≤ i) ∧ Hid (RwO wr base g c n D') ∧ Hid (D'.take st.length = st.reverse) ∧ Hid (D'.drop i = D.drop i) ∧ Hid (Bo g w wr)) (fun _ iv _ => n - (intOf iv).toNat)
  case atStart => exact ⟨0, [], D, rfl, rfl, by omega, hidR rfl, hidR (Nat.le_refl _), H0, hidR rfl, hidR rfl, hidR (Bt.refl _ _)⟩
  case round =>
    clear H0
    obtain ⟨i, st, D', rfl, rfl, hin, Hst, Hsl, HR, Htk, Hdr, HB⟩ := hrel
    by_cases hlt : (i : Int) < (n : Int)
    · have hiD : i < D.length := by have := HD.out; omega
      obtain ⟨⟨⟨rx, rn⟩, rh⟩, hr⟩ : ∃ r : Rte, r = D[i] := ⟨_, rfl⟩
      have hr2 : D'[i]? = some ((rx, rn), rh) := by
        have e : (D'.drop i)[0]? = (D.drop i)[0]? := by rw [Hdr.out]
        rw [List.getElem?_drop, List.getElem?_drop, Nat.add_zero, List.getElem?_eq_getElem hiD, ← hr] at e
        exact e
      have Hst2 : Hid (tellR st ((rx, rn), rh) = (D.take (i + 1)).foldl tellR []) := hidR (by rw [List.take_succ_eq_append_getElem hiD, List.foldl_append, ← Hst.out, hr]; rfl)
      have Hdr2 : Hid (∀ k r, k < i + 1 → (D'.set k r).drop (i + 1) = D.drop (i + 1)) := hidR (fun k r hk => by
        rw [set_drop hk, show i + 1 = i + 1 from rfl, ← List.drop_drop, ← List.drop_drop, Hdr.out])
      have HD2 := hidR HR.out.1
      have wst : IntKind.i64.wrap ((st.length : Int) - 1) = (st.length : Int) - 1 := by have := Hsl.out; rw [IntKind.wrap_i64]; omega
      have wi : IntKind.i64.wrap ((i : Int) + 1) = ((i + 1 : Nat) : Int) := by rw [IntKind.wrap_i64]; push_cast; omega
      obtain ⟨x0, x1, x2, x3⟩ := HR.out.cells hr2
      have hi0 : (0 : Int) ≤ (i : Int) := by omega
      have q9 := bl1 wr (.cells #[.int .u64 (hI rx), .int .u64 (lI rx), .int .i64 rn, .int .i64 rh] 47)
      have HRb := hidR (HR.out.below q9)
      have HBb := hidR (HB.out.trans (Bt.ofB q9))
      have HXb : Hid ((wr.alloc (.cells #[.int .u64 (hI rx), .int .u64 (lI rx), .int .i64 rn, .int .i64 rh] 47)).heap[wr.heap.size]? = some (.cells #[.int .u64 (hI rx), .int .u64 (lI rx), .int .i64 rn, .int .i64 rh] 47)) := hidR Array.getElem?_push_size
      have hgw : g < wr.heap.size := HR.out.lt.1
      clear hr hr2 q9 HR HB Hst Hdr
      go_wp2_with fail
      clear x0 x1 x2 x3
      revert HRb HBb HXb hgw
      generalize wr.alloc (.cells #[.int .u64 (hI rx), .int .u64 (lI rx), .int .i64 rn, .int .i64 rh] 47) = W1
      generalize wr.heap.size = B5
      intro HRb HBb HXb hgw
      have HC : Hid ((RwO W1.drew base g c n D' ∧ W1.drew.heap[B5]? = some (.cells #[.int .u64 (hI rx), .int .u64 (lI rx), .int .i64 rn, .int .i64 rh] 47)) ∧ Bo g w W1.drew) := hidR ⟨⟨HRb.out.below (below_drewN (Below.refl _ _) 1), HXb.out⟩, HBb.out.trans (Bt.ofB (below_drewN (Below.refl _ _) 1))⟩
      clear HRb HBb HXb
      clear wst
      match st, Hsl, Htk, Hst2 with
      | [], Hsl, Htk, Hst2 =>
        refine qw_region (C := (fun X => (RwO X base g c n D' ∧ X.heap[B5]? = some (.cells #[.int .u64 (hI rx), .int .u64 (lI rx), .int .i64 rn, .int .i64 rh] 47)) ∧ Bo g w X)) (by kernel_rfl) (by kernel_rfl) HC.out ?_
        clear HC
        refine qw_run (v := .int .i64 (-1)) (by rfl) ?_ ?_
        · (intro w1 hC; clear hC; go_simp; first | done | (simp; done) | (simp [*]; done) | omega | (simp; omega) | rfl)
        simp only [Act.put, List.setIfInBounds_toArray, List.set_cons_zero, List.set_cons_succ]
        refine qw_run (v := .bool false) (by rfl) ?_ ?_
        · (intro w1 hC; clear hC; go_simp; first | done | (simp; done) | (simp [*]; done) | omega | (simp; omega) | rfl)
        simp only [Act.put, List.setIfInBounds_toArray, List.set_cons_zero, List.set_cons_succ]
        refine qw_run (v := .bool false) (by rfl) ?_ ?_
        · (intro w1 hC; clear hC; go_simp; first | done | (simp; done) | (simp [*]; done) | omega | (simp; omega) | rfl)
        simp only [Act.put, List.setIfInBounds_toArray, List.set_cons_zero, List.set_cons_succ]
        refine qw_skip (by rfl) ?_
        simp only [Act.put, List.setIfInBounds_toArray, List.set_cons_zero, List.set_cons_succ]
        refine qw_skip (by rfl) ?_
        simp only [Act.put, List.setIfInBounds_toArray, List.set_cons_zero, List.set_cons_succ]
        refine qw_skip (by rfl) ?_
        simp only [Act.put, List.setIfInBounds_toArray, List.set_cons_zero, List.set_cons_succ]
        refine qw_skip (by rfl) ?_
        simp only [Act.put, List.setIfInBounds_toArray, List.set_cons_zero, List.set_cons_succ]
        refine qw_skip (by rfl) ?_
        simp only [Act.put, List.setIfInBounds_toArray, List.set_cons_zero, List.set_cons_succ]
        refine qw_skip (by rfl) ?_
        simp only [Act.put, List.setIfInBounds_toArray, List.set_cons_zero, List.set_cons_succ]
        refine qw_skip (by rfl) ?_
        simp only [Act.put, List.setIfInBounds_toArray, List.set_cons_zero, List.set_cons_succ]
        refine qw_skip (by rfl) ?_
        simp only [Act.put, List.setIfInBounds_toArray, List.set_cons_zero, List.set_cons_succ]
        refine qw_run (v := .bool false) (by rfl) ?_ ?_
        · (intro w1 hC; clear hC; go_simp; first | done | (simp; done) | (simp [*]; done) | omega | (simp; omega) | rfl)
        simp only [Act.put, List.setIfInBounds_toArray, List.set_cons_zero, List.set_cons_succ]
        refine qw_nil ?_
        intro W2 hC
        have hDn : D'.length = n := HD2.out
        have hKi : 0 ≤ i := by have := Hsl.out; simp only [List.length_cons, List.length_nil] at this; omega
        have r0 := at_blk hC.1.2 0 (.int .u64 (hI rx)) rfl
        have r1 := at_blk hC.1.2 1 (.int .u64 (lI rx)) rfl
        have r2 := at_blk hC.1.2 2 (.int .i64 rn) rfl
        have r3 := at_blk hC.1.2 3 (.int .i64 rh) rfl
        have hB5 : B5 < W2.heap.size := blk_lt5 hC.1.2
        have q9 := bl1 W2 (.cells #[.int .u64 (hI rx), .int .u64 (lI rx), .int .i64 rn, .int .i64 rh] 47)
        have HRr := hidR (hC.1.1.below q9)
        have HBr := hidR (hC.2.trans (Bt.ofB q9))
        clear hC
        go_wp2_with (at_builtin; apply stopHereU)
        refine (show wpList _ _ _ _ _ _ from ?_)
        clear r0 r1 r2 r3 q9
        refine wpList_append_arg _ rfl _ _ 22 rfl 47 i0 (.agg #[.int .u64 0, .int .u64 0, .int .i64 0, .int .i64 0]) 4 32 Tryz.underlying22 hi hz0 hz1 hz2 rfl (by decide) g 0 (0) c ((rowR D').take ((0) * 4)) rfl (by rw [List.length_take, rowR_len]; omega) (fun j u hj => by
            have hj2 : (rowR D')[j]? = some u := by
              have := (List.getElem?_eq_some_iff.mp hj).1
              rw [List.length_take] at this
              rw [← hj, List.getElem?_take_of_lt (by omega)]
            have := HRr.out.2.cells (g := g) rfl j u hj2
            rw [addA] at this
            exact this) ⟨W2.heap.size, 0, none⟩ 1 1 [.int .u64 (hI rx), .int .u64 (lI rx), .int .i64 rn, .int .i64 rh] rfl rfl (newsR6 W2 _ rfl _ _ _ _ _) (fourR6' _ _ _ _) (fun _ j hj => by
            have hj4 : j < 4 := hj
            have q := own_any HRr.out.2 (0 + (0) * 4 + j) (by omega)
            obtain ⟨⟨u, hu⟩, hf⟩ := q
            exact ⟨by rw [hu]; rfl, hf⟩) (by unfold maxLen; omega) (by omega) ?room (fun q => absurd q (by omega))
        case room =>
          intro _
          rw [setCells4]
          have HN := hidR (HRr.out.set (j := 0) (show 0 < n by omega) ((rx, rn), rh))
          have HNb := hidR (Bo.set (Bo.set (Bo.set (Bo.set HBr.out ((0) * 4) (.int .u64 (hI rx))) ((0) * 4 + 1) (.int .u64 (lI rx))) ((0) * 4 + 2) (.int .i64 rn)) ((0) * 4 + 3) (.int .i64 rh))
          have HNt : Hid ((D'.set (0) ((rx, rn), rh)).take (0 + 1) = (((rx, rn), rh) :: []).reverse) := hidR (set_take Htk.out (by omega))
          rw [show 0 + (0) * 4 = (0) * 4 by omega]
          clear HRr HBr
          go_wp2
          go_roundw
          case rel => exact ⟨i + 1, ((rx, rn), rh) :: [], _, by first | rfl | simp, by first | rfl | simp, by omega, Hst2, hidR (by simp only [List.length_cons, List.length_nil]; omega), HN, HNt, hidR (Hdr2.out _ _ (by omega)), HNb⟩
          case measure => simp [intOf]; omega
      | ((yx, yn), yh) :: t, Hsl, Htk, Hst2 =>
        have hkl : t.length + 1 ≤ i := by have := Hsl.out; simpa using this
        have hDl : D'.length = n := HD2.out
        have hyk : D'[t.length]? = some ((yx, yn), yh) := by
          have e : (D'.take (t.length + 1))[t.length]? = (((yx, yn), yh) :: t).reverse[t.length]? := by
            have := Htk.out
            simp only [List.length_cons] at this
            rw [this]
          rw [List.getElem?_take_of_lt (by omega), List.reverse_cons, List.getElem?_append_right (by simp)] at e
          simpa using e
        have Hyk := hidR hyk
        have we : IntKind.i64.wrap ((t.length : Int) + 1 - 1) = (t.length : Int) := by rw [IntKind.wrap_i64]; omega
        have we2 : IntKind.i64.wrap (t.length : Int) = (t.length : Int) := by rw [IntKind.wrap_i64]; omega
        have ht0 : (0 : Int) ≤ (t.length : Int) := by omega
        have ht1 : (t.length : Int) < (t.length : Int) + 1 := by omega
        have E0 := fun w => eqP_run yx yn rx rn w
        cases hb : ((yx == rx) && (yn == rn)) with
        | true =>
          rw [hb] at E0
          have HT : Hid (tellR (((yx, yn), yh) :: t) ((rx, rn), rh) = ((rx, rn), rh) :: t) := hidR (show (if ((yx == rx) && (yn == rn)) = true then ((rx, rn), rh) :: t else ((rx, rn), rh) :: ((yx, yn), yh) :: t) = _ from if_pos hb)
          rw [HT.out] at Hst2
          clear hyk hb
          refine qw_region (C := (fun X => (RwO X base g c n D' ∧ X.heap[B5]? = some (.cells #[.int .u64 (hI rx), .int .u64 (lI rx), .int .i64 rn, .int .i64 rh] 47)) ∧ Bo g w X)) (by kernel_rfl) (by kernel_rfl) HC.out ?_
          clear HC
          refine qw_run (v := .int .i64 (t.length : Int)) (by rfl) ?_ ?_
          · (intro w1 hC; clear hC; go_simp; first | done | (simp; done) | (simp [*]; done) | omega | (simp; omega) | rfl)
          simp only [Act.put, List.setIfInBounds_toArray, List.set_cons_zero, List.set_cons_succ]
          refine qw_run (v := .bool true) (by rfl) ?_ ?_
          · (intro w1 hC; clear hC; go_simp; first | done | (simp; done) | (simp [*]; done) | omega | (simp; omega) | rfl)
          simp only [Act.put, List.setIfInBounds_toArray, List.set_cons_zero, List.set_cons_succ]
          refine qw_run (v := .bool true) (by rfl) ?_ ?_
          · (intro w1 hC; clear hC; go_simp; first | done | (simp; done) | (simp [*]; done) | omega | (simp; omega) | rfl)
          simp only [Act.put, List.setIfInBounds_toArray, List.set_cons_zero, List.set_cons_succ]
          refine qw_run (v := .slice (some ⟨g, 0, none⟩) (t.length + 1) c) (by rfl) ?_ ?_
          · (intro w1 hC; clear hC; go_simp; first | done | (simp; done) | (simp [*]; done) | omega | (simp; omega) | rfl)
          simp only [Act.put, List.setIfInBounds_toArray, List.set_cons_zero, List.set_cons_succ]
          refine qw_run (v := .int .i64 (t.length : Int)) (by rfl) ?_ ?_
          · (intro w1 hC; clear hC; go_simp; first | done | (simp; done) | (simp [*]; done) | omega | (simp; omega) | rfl)
          simp only [Act.put, List.setIfInBounds_toArray, List.set_cons_zero, List.set_cons_succ]
          refine qw_run (v := .pointer (some ⟨g, t.length * 4, none⟩)) (by rfl) ?_ ?_
          · (intro w1 hC; clear hC; go_simp; first | done | (simp; done) | (simp [*]; done) | omega | (simp; omega) | rfl)
          simp only [Act.put, List.setIfInBounds_toArray, List.set_cons_zero, List.set_cons_succ]
          refine qw_run (v := .pointer (some ⟨g, t.length * 4, none⟩)) (by rfl) ?_ ?_
          · (intro w1 hC; clear hC; go_simp; first | done | (simp; done) | (simp [*]; done) | omega | (simp; omega) | rfl)
          simp only [Act.put, List.setIfInBounds_toArray, List.set_cons_zero, List.set_cons_succ]
          refine qw_run (v := .agg #[.int .u64 (hI yx), .int .u64 (lI yx), .int .i64 yn]) (by rfl) ?_ ?_
          · (intro w1 hC; have f0 := (hC.1.1.cells Hyk.out).1; have f1 := (hC.1.1.cells Hyk.out).2.1; have f2 := (hC.1.1.cells Hyk.out).2.2.1; clear hC; go_simp; first | done | (simp; done) | (simp [*]; done) | omega | (simp; omega) | rfl)
          simp only [Act.put, List.setIfInBounds_toArray, List.set_cons_zero, List.set_cons_succ]
          refine qw_run (v := .pointer (some ⟨B5, 0, none⟩)) (by rfl) ?_ ?_
          · (intro w1 hC; clear hC; go_simp; first | done | (simp; done) | (simp [*]; done) | omega | (simp; omega) | rfl)
          simp only [Act.put, List.setIfInBounds_toArray, List.set_cons_zero, List.set_cons_succ]
          refine qw_run (v := .agg #[.int .u64 (hI rx), .int .u64 (lI rx), .int .i64 rn]) (by rfl) ?_ ?_
          · (intro w1 hC; have f0 := at_blk hC.1.2 0 (.int .u64 (hI rx)) rfl; have f1 := at_blk hC.1.2 1 (.int .u64 (lI rx)) rfl; have f2 := at_blk hC.1.2 2 (.int .i64 rn) rfl; clear hC; go_simp; first | done | (simp; done) | (simp [*]; done) | omega | (simp; omega) | rfl)
          simp only [Act.put, List.setIfInBounds_toArray, List.set_cons_zero, List.set_cons_succ]
          refine qw_run (v := .bool true) (by rfl) ?_ ?_
          · (intro w1 hC; clear hC; go_simp; first | done | (simp; done) | (simp [*]; done) | omega | (simp; omega) | rfl)
          simp only [Act.put, List.setIfInBounds_toArray, List.set_cons_zero, List.set_cons_succ]
          refine qw_run (v := .bool true) (by rfl) ?_ ?_
          · (intro w1 hC; clear hC; go_simp; first | done | (simp; done) | (simp [*]; done) | omega | (simp; omega) | rfl)
          simp only [Act.put, List.setIfInBounds_toArray, List.set_cons_zero, List.set_cons_succ]
          refine qw_nil ?_
          intro W2 hC
          obtain ⟨c0, c1, c2, c3⟩ := hC.1.1.cells Hyk.out
          have r0 := at_blk hC.1.2 0 (.int .u64 (hI rx)) rfl
          have r1 := at_blk hC.1.2 1 (.int .u64 (lI rx)) rfl
          have r2 := at_blk hC.1.2 2 (.int .i64 rn) rfl
          have r3 := at_blk hC.1.2 3 (.int .i64 rh) rfl
          have g0 := hC.1.1.free (j := t.length * 4) (by omega)
          have g1 := hC.1.1.free (j := t.length * 4 + 1) (by omega)
          have g2 := hC.1.1.free (j := t.length * 4 + 2) (by omega)
          have g3 := hC.1.1.free (j := t.length * 4 + 3) (by omega)
          have HN := hidR (hC.1.1.set (show t.length < n by omega) ((rx, rn), rh))
          have HNb := hidR (Bo.set (Bo.set (Bo.set (Bo.set hC.2 (t.length * 4) (.int .u64 (hI rx))) (t.length * 4 + 1) (.int .u64 (lI rx))) (t.length * 4 + 2) (.int .i64 rn)) (t.length * 4 + 3) (.int .i64 rh))
          have HNt : Hid ((D'.set t.length ((rx, rn), rh)).take (t.length + 1) = (((rx, rn), rh) :: t).reverse) := hidR (set_take2 Htk.out (by omega))
          clear hC E0
          go_wp2
          go_roundw
          case rel => exact ⟨i + 1, ((rx, rn), rh) :: t, _, by first | rfl | simp, by first | rfl | simp, by omega, Hst2, hidR (by simp only [List.length_cons, List.length_nil]; omega), HN, HNt, hidR (Hdr2.out _ _ (by omega)), HNb⟩
          case measure => simp [intOf]; omega
        | false =>
          rw [hb] at E0
          have HT : Hid (tellR (((yx, yn), yh) :: t) ((rx, rn), rh) = ((rx, rn), rh) :: ((yx, yn), yh) :: t) := hidR (show (if ((yx == rx) && (yn == rn)) = true then ((rx, rn), rh) :: t else ((rx, rn), rh) :: ((yx, yn), yh) :: t) = _ from if_neg (by rw [hb]; simp))
          rw [HT.out] at Hst2
          clear hyk hb
          refine qw_region (C := (fun X => (RwO X base g c n D' ∧ X.heap[B5]? = some (.cells #[.int .u64 (hI rx), .int .u64 (lI rx), .int .i64 rn, .int .i64 rh] 47)) ∧ Bo g w X)) (by kernel_rfl) (by kernel_rfl) HC.out ?_
          clear HC
          refine qw_run (v := .int .i64 (t.length : Int)) (by rfl) ?_ ?_
          · (intro w1 hC; clear hC; go_simp; first | done | (simp; done) | (simp [*]; done) | omega | (simp; omega) | rfl)
          simp only [Act.put, List.setIfInBounds_toArray, List.set_cons_zero, List.set_cons_succ]
          refine qw_run (v := .bool true) (by rfl) ?_ ?_
          · (intro w1 hC; clear hC; go_simp; first | done | (simp; done) | (simp [*]; done) | omega | (simp; omega) | rfl)
          simp only [Act.put, List.setIfInBounds_toArray, List.set_cons_zero, List.set_cons_succ]
          refine qw_run (v := .bool true) (by rfl) ?_ ?_
          · (intro w1 hC; clear hC; go_simp; first | done | (simp; done) | (simp [*]; done) | omega | (simp; omega) | rfl)
          simp only [Act.put, List.setIfInBounds_toArray, List.set_cons_zero, List.set_cons_succ]
          refine qw_run (v := .slice (some ⟨g, 0, none⟩) (t.length + 1) c) (by rfl) ?_ ?_
          · (intro w1 hC; clear hC; go_simp; first | done | (simp; done) | (simp [*]; done) | omega | (simp; omega) | rfl)
          simp only [Act.put, List.setIfInBounds_toArray, List.set_cons_zero, List.set_cons_succ]
          refine qw_run (v := .int .i64 (t.length : Int)) (by rfl) ?_ ?_
          · (intro w1 hC; clear hC; go_simp; first | done | (simp; done) | (simp [*]; done) | omega | (simp; omega) | rfl)
          simp only [Act.put, List.setIfInBounds_toArray, List.set_cons_zero, List.set_cons_succ]
          refine qw_run (v := .pointer (some ⟨g, t.length * 4, none⟩)) (by rfl) ?_ ?_
          · (intro w1 hC; clear hC; go_simp; first | done | (simp; done) | (simp [*]; done) | omega | (simp; omega) | rfl)
          simp only [Act.put, List.setIfInBounds_toArray, List.set_cons_zero, List.set_cons_succ]
          refine qw_run (v := .pointer (some ⟨g, t.length * 4, none⟩)) (by rfl) ?_ ?_
          · (intro w1 hC; clear hC; go_simp; first | done | (simp; done) | (simp [*]; done) | omega | (simp; omega) | rfl)
          simp only [Act.put, List.setIfInBounds_toArray, List.set_cons_zero, List.set_cons_succ]
          refine qw_run (v := .agg #[.int .u64 (hI yx), .int .u64 (lI yx), .int .i64 yn]) (by rfl) ?_ ?_
          · (intro w1 hC; have f0 := (hC.1.1.cells Hyk.out).1; have f1 := (hC.1.1.cells Hyk.out).2.1; have f2 := (hC.1.1.cells Hyk.out).2.2.1; clear hC; go_simp; first | done | (simp; done) | (simp [*]; done) | omega | (simp; omega) | rfl)
          simp only [Act.put, List.setIfInBounds_toArray, List.set_cons_zero, List.set_cons_succ]
          refine qw_run (v := .pointer (some ⟨B5, 0, none⟩)) (by rfl) ?_ ?_
          · (intro w1 hC; clear hC; go_simp; first | done | (simp; done) | (simp [*]; done) | omega | (simp; omega) | rfl)
          simp only [Act.put, List.setIfInBounds_toArray, List.set_cons_zero, List.set_cons_succ]
          refine qw_run (v := .agg #[.int .u64 (hI rx), .int .u64 (lI rx), .int .i64 rn]) (by rfl) ?_ ?_
          · (intro w1 hC; have f0 := at_blk hC.1.2 0 (.int .u64 (hI rx)) rfl; have f1 := at_blk hC.1.2 1 (.int .u64 (lI rx)) rfl; have f2 := at_blk hC.1.2 2 (.int .i64 rn) rfl; clear hC; go_simp; first | done | (simp; done) | (simp [*]; done) | omega | (simp; omega) | rfl)
          simp only [Act.put, List.setIfInBounds_toArray, List.set_cons_zero, List.set_cons_succ]
          refine qw_run (v := .bool false) (by rfl) ?_ ?_
          · (intro w1 hC; clear hC; go_simp; first | done | (simp; done) | (simp [*]; done) | omega | (simp; omega) | rfl)
          simp only [Act.put, List.setIfInBounds_toArray, List.set_cons_zero, List.set_cons_succ]
          refine qw_run (v := .bool false) (by rfl) ?_ ?_
          · (intro w1 hC; clear hC; go_simp; first | done | (simp; done) | (simp [*]; done) | omega | (simp; omega) | rfl)
          simp only [Act.put, List.setIfInBounds_toArray, List.set_cons_zero, List.set_cons_succ]
          refine qw_nil ?_
          intro W2 hC
          have hDn : D'.length = n := HD2.out
          have hKi : t.length + 1 ≤ i := by have := Hsl.out; simp only [List.length_cons, List.length_nil] at this; omega
          have r0 := at_blk hC.1.2 0 (.int .u64 (hI rx)) rfl
          have r1 := at_blk hC.1.2 1 (.int .u64 (lI rx)) rfl
          have r2 := at_blk hC.1.2 2 (.int .i64 rn) rfl
          have r3 := at_blk hC.1.2 3 (.int .i64 rh) rfl
          have hB5 : B5 < W2.heap.size := blk_lt5 hC.1.2
          have q9 := bl1 W2 (.cells #[.int .u64 (hI rx), .int .u64 (lI rx), .int .i64 rn, .int .i64 rh] 47)
          have HRr := hidR (hC.1.1.below q9)
          have HBr := hidR (hC.2.trans (Bt.ofB q9))
          clear hC E0
          go_wp2_with (at_builtin; apply stopHereU)
          refine (show wpList _ _ _ _ _ _ from ?_)
          clear r0 r1 r2 r3 q9
          refine wpList_append_arg _ rfl _ _ 22 rfl 47 i0 (.agg #[.int .u64 0, .int .u64 0, .int .i64 0, .int .i64 0]) 4 32 Tryz.underlying22 hi hz0 hz1 hz2 rfl (by decide) g 0 (t.length + 1) c ((rowR D').take ((t.length + 1) * 4)) rfl (by rw [List.length_take, rowR_len]; omega) (fun j u hj => by
              have hj2 : (rowR D')[j]? = some u := by
                have := (List.getElem?_eq_some_iff.mp hj).1
                rw [List.length_take] at this
                rw [← hj, List.getElem?_take_of_lt (by omega)]
              have := HRr.out.2.cells (g := g) rfl j u hj2
              rw [addA] at this
              exact this) ⟨W2.heap.size, 0, none⟩ 1 1 [.int .u64 (hI rx), .int .u64 (lI rx), .int .i64 rn, .int .i64 rh] rfl rfl (newsR6 W2 _ rfl _ _ _ _ _) (fourR6' _ _ _ _) (fun _ j hj => by
              have hj4 : j < 4 := hj
              have q := own_any HRr.out.2 (0 + (t.length + 1) * 4 + j) (by omega)
              obtain ⟨⟨u, hu⟩, hf⟩ := q
              exact ⟨by rw [hu]; rfl, hf⟩) (by unfold maxLen; omega) (by omega) ?room (fun q => absurd q (by omega))
          case room =>
            intro _
            rw [setCells4]
            have HN := hidR (HRr.out.set (j := t.length + 1) (show t.length + 1 < n by omega) ((rx, rn), rh))
            have HNb := hidR (Bo.set (Bo.set (Bo.set (Bo.set HBr.out ((t.length + 1) * 4) (.int .u64 (hI rx))) ((t.length + 1) * 4 + 1) (.int .u64 (lI rx))) ((t.length + 1) * 4 + 2) (.int .i64 rn)) ((t.length + 1) * 4 + 3) (.int .i64 rh))
            have HNt : Hid ((D'.set (t.length + 1) ((rx, rn), rh)).take (t.length + 1 + 1) = (((rx, rn), rh) :: (((yx,yn),yh)::t)).reverse) := hidR (set_take Htk.out (by omega))
            rw [show 0 + (t.length + 1) * 4 = (t.length + 1) * 4 by omega]
            clear HRr HBr
            go_wp2
            go_roundw
            case rel => exact ⟨i + 1, ((rx, rn), rh) :: (((yx,yn),yh)::t), _, by first | rfl | simp, by first | rfl | simp, by omega, Hst2, hidR (by simp only [List.length_cons, List.length_nil]; omega), HN, HNt, hidR (Hdr2.out _ _ (by omega)), HNb⟩
            case measure => simp [intOf]; omega
    · have hie : i = n := by omega
      have HF : Hid (st.reverse = ltL D) := hidR (by
        unfold ltL
        rw [Hst.out, List.take_of_length_le (by have := HD.out; omega)])
      have HL : Hid (st.length = (ltL D).length) := hidR (by rw [← HF.out, List.length_reverse])
      have HQ : Hid (∃ D', RwO wr base g c n D' ∧ D'.take (ltL D).length = ltL D ∧ (ltL D).length ≤ n) := hidR ⟨D', HR.out, by rw [← HL.out, ← HF.out]; exact Htk.out, by have := HL.out; have := Hsl.out; omega⟩
      have hd : ¬ i < n := by omega
      clear Hst Hsl HR Htk Hdr HD
      go_wp2
      exact bodyPost_ret (v := .slice (some ⟨g, 0, none⟩) st.length c) (by simp [results, Tryz.results51, go_sem]) rfl ⟨by rw [HL.out], HQ.out, HB.out⟩
end Go.Proofs.YtpiicdpipjjenaaGreatDoor
namespace Go.Proofs.YtpiicdpipjjenaaGreatDoor
open Go.RowKit
set_option linter.unusedSimpArgs false
set_option linter.unusedVariables false
attribute [local go_sem] Oper.semAt_some

set_option maxHeartbeats 4000000 in
theorem inOrder_any (F : Int) (base g c n : Nat) (D S : List Rte) (w : World) (h : RwO w base g c n D) (hn0 : 0 < n) (hn : n ≤ 1000000000)
    (KS : ∀ W, RwO W base g c n D → Calls Tryz.prog 50 #[.slice (some ⟨g, 0, none⟩) n c, .func (.func 27) #[] #[]] W fun e w' => e = .returned (.tuple #[]) ∧ RwO w' base g c n S ∧ Bo g W w') :
    Calls Tryz.prog 34 #[.int .i64 F, .slice (some ⟨g, 0, none⟩) n c] w fun e w' => e = .returned (.agg #[.int .i64 F, .slice (some ⟨g, 0, none⟩) (ltL S).length c]) ∧ (∃ D', RwO w' base g c n D' ∧ D'.take (ltL S).length = ltL S ∧ (ltL S).length ≤ n) ∧ Bo g w w' := by
  have q1 := bl1 w (.cells #[.int .i64 0, .slice none 0 0] 24)
  have hgw : g < w.heap.size := h.lt.1
  have HR1 := hidR (h.below q1)
  have HB1 := hidR (Bt.ofB q1 : Bo g w _)
  have HT1 : Hid ((w.alloc (.cells #[.int .i64 0, .slice none 0 0] 24)).heap[w.heap.size]? = some (.cells #[.int .i64 0, .slice none 0 0] 24)) := hidR Array.getElem?_push_size
  clear q1 h
  go_enter Tryz.func34, Tryz.ntmps34
  go_wp2_with fail
  revert HR1 HB1 HT1
  generalize w.alloc (.cells #[.int .i64 0, .slice none 0 0] 24) = W1
  intro HR1 HB1 HT1
  refine (KS W1 HR1.out).mono ?_
  rintro e W2 ⟨rfl, hR, hB⟩
  have HR2 := hidR hR
  have HB2 := hidR (HB1.out.trans hB)
  have HT2 := hidR ((hB.blk _ (blk_lt5 HT1.out) (by omega)).trans HT1.out)
  clear hR hB HR1 HB1 HT1 KS
  have KL := lastTold_any base g c n S W2 HR2.out hn0 hn
  go_wp2_with fail
  refine KL.mono ?_
  rintro e W3 ⟨rfl, hD, hB⟩
  have HB3 := hidR (HB2.out.trans hB)
  have hT3 := (hB.blk _ (blk_lt5 HT2.out) (by omega)).trans HT2.out
  have c0 := at_blk hT3 0 (.int .i64 0) rfl
  have c1 := at_blk hT3 1 (.slice none 0 0) rfl
  have d0 := fr_blk5 (j := 0) hT3
  have d1 := fr_blk5 (j := 1) hT3
  have HF : Hid ((∃ D', RwO ((W3.setCell ⟨w.heap.size, 0, none⟩ (.int .i64 F)).setCell ⟨w.heap.size, 1, none⟩ (.slice (some ⟨g, 0, none⟩) (ltL S).length c)) base g c n D' ∧ D'.take (ltL S).length = ltL S ∧ (ltL S).length ≤ n) ∧ Bo g w ((W3.setCell ⟨w.heap.size, 0, none⟩ (.int .i64 F)).setCell ⟨w.heap.size, 1, none⟩ (.slice (some ⟨g, 0, none⟩) (ltL S).length c))) := hidR (by
    obtain ⟨D', h1, h2, h3⟩ := hD
    refine ⟨⟨D', h1.heap (by rw [hSet _ (by omega), hSet _ (by omega)]), h2, h3⟩, Bt.set (Bt.set HB3.out (.inr (Nat.le_refl _)) _ _) (.inr (Nat.le_refl _)) _ _⟩)
  clear KL hD hB HR2 HB2 HT2 hT3
  go_wp2
  exact bodyPost_ret (v := .agg #[.int .i64 F, .slice (some ⟨g, 0, none⟩) (ltL S).length c]) (by simp [results, Tryz.results34, go_sem, c0, c1]) rfl ⟨rfl, HF.out⟩
end Go.Proofs.YtpiicdpipjjenaaGreatDoor
