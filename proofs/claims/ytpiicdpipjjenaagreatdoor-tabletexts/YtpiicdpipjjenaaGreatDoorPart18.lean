/-
  Part 18 of the proof: 1 texts, one behind the other.
-/
import Derived.Test.YtpiicdpipjjenaaGreatDoorPart17
namespace Go.Proofs.YtpiicdpipjjenaaGreatDoor
open Go.RowKit
set_option linter.unusedSimpArgs false
set_option linter.unusedVariables false
attribute [local go_sem] Oper.semAt_some

theorem nil_or_end (A : List Rte) : A = [] ∨ ∃ A' y, A = A' ++ [y] := by
  rcases List.eq_nil_or_concat A with h | ⟨A', y, h⟩
  · exact .inl h
  · exact .inr ⟨A', y, by rw [h, List.concat_eq_append]⟩
theorem seg_one (D : List Rte) (a : Nat) : D.take a ++ (((D.drop a).take 1).foldl revIns []).reverse ++ D.drop (a + 1) = D := by
  by_cases q : a < D.length
  · rw [List.drop_eq_getElem_cons q]
    show D.take a ++ [D[a]] ++ D.drop (a + 1) = D
    rw [List.append_assoc]
    show D.take a ++ (D[a] :: D.drop (a + 1)) = D
    rw [← List.drop_eq_getElem_cons q, List.take_append_drop]
  · rw [List.drop_eq_nil_of_le (show D.length ≤ a by omega), List.drop_eq_nil_of_le (show D.length ≤ a + 1 by omega), List.take_of_length_le (show D.length ≤ a by omega)]
    simp
theorem drop_at {D : List Rte} {k : Nat} (h : k < D.length) : D.drop k = D[k] :: D.drop (k + 1) := List.drop_eq_getElem_cons h
set_option maxRecDepth 20000 in
set_option maxHeartbeats 16000000 in
theorem insSort_any (base g c n a b : Nat) (D : List Rte) (w : World) (h : RwO w base g c n D) (hab : a ≤ b) (hbn : b ≤ n) (hn : n ≤ 1000000000) :
    Calls Tryz.prog 99 #[.slice (some ⟨g, 0, none⟩) n c, .int .i64 (a : Int), .int .i64 (b : Int), .func (.func 27) #[] #[]] w fun e w' => e = .returned (.tuple #[]) ∧ RwO w' base g c n (D.take a ++ isrt ((D.drop a).take (b - a)) ++ D.drop b) ∧ Bo g w w' := by
  have hDl : D.length = n := h.1
  have wa : IntKind.i64.wrap ((a : Int) + 1) = ((a + 1 : Nat) : Int) := by rw [IntKind.wrap_i64]; push_cast; omega
  have HD := hidR hDl
  have H0 := hidR h
  clear h hDl
  go_enter Tryz.func99, Tryz.ntmps99
  go_wp2_with fail
  go_loopw [8] (fun i wr => ∃ (k : Nat) (st : List Rte), i = .int .i64 (k : Int) ∧ a + 1 ≤ k ∧ (k ≤ b ∨ k = a + 1) ∧ Hid (st = ((D.drop a).take (k - a)).foldl revIns []) ∧ Hid (RwO wr base g c n (D.take a ++ st.reverse ++ D.drop k)) ∧ Hid (Bo g w wr)) (fun i _ => b - (intOf i).toNat)
  case atStart =>
    refine ⟨a + 1, ((D.drop a).take 1).foldl revIns [], by first | rfl | simp, Nat.le_refl _, .inr rfl, hidR (by rw [show a + 1 - a = 1 by omega]), hidR ?_, hidR (Bt.refl _ _)⟩
    rw [seg_one D a]; exact H0.out
  case round =>
    obtain ⟨k, st, rfl, hk1, hk2, Hst, HR, HB⟩ := hrel
    have Hsl : Hid (k ≤ b → st.length = k - a) := hidR (fun q => by rw [Hst.out, foldl_len, List.length_take, List.length_drop]; have := HD.out; simp; omega)
    clear H0
    by_cases hlt : (k : Int) < (b : Int)
    · have hkD : k < D.length := by have := HD.out; omega
      obtain ⟨⟨⟨xx, xn⟩, xh⟩, hx⟩ : ∃ r : Rte, r = D[k] := ⟨_, rfl⟩
      have Hx : Hid (D.drop k = ((xx, xn), xh) :: D.drop (k + 1)) := hidR (by rw [drop_at hkD, ← hx])
      have Hst2 : Hid (revIns st ((xx, xn), xh) = ((D.drop a).take (k + 1 - a)).foldl revIns []) := hidR (by
        have e : (D.drop a).take (k + 1 - a) = (D.drop a).take (k - a) ++ [((xx, xn), xh)] := by
          rw [show k + 1 - a = (k - a) + 1 by omega, List.take_succ_eq_append_getElem (by rw [List.length_drop]; omega), List.getElem_drop, hx]
          simp only [show a + (k - a) = k by omega]
        rw [e, List.foldl_append, ← Hst.out]; rfl)
      have hsl := Hsl.out (by omega)
      have HR1 : Hid (RwO wr base g c n (D.take a ++ st.reverse ++ ((xx, xn), xh) :: ([] ++ D.drop (k + 1)))) := hidR (by have := HR.out; rw [Hx.out] at this; exact this)
      have wk : IntKind.i64.wrap ((k : Int) + 1) = ((k + 1 : Nat) : Int) := by rw [IntKind.wrap_i64]; push_cast; omega
      clear hx HR
      go_wp2_with fail
      go_loopw [9] (fun j9 wr2 => ∃ (A9 B9 : List Rte) (j : Nat), j9 = .int .i64 (j : Int) ∧ Hid (j = a + A9.length) ∧ A9.length + B9.length = k - a ∧ Hid (revIns st ((xx, xn), xh) = B9.reverse ++ revIns A9.reverse ((xx, xn), xh)) ∧ Hid (RwO wr2 base g c n (D.take a ++ A9 ++ ((xx, xn), xh) :: (B9 ++ D.drop (k + 1)))) ∧ Hid (Bo g w wr2)) (fun j9 _ => (intOf j9).toNat)
      case atStart => exact ⟨st.reverse, [], k, rfl, hidR (by rw [List.length_reverse]; omega), by simp; omega, hidR (by simp), HR1, HB⟩
      case round =>
        clear HR1 HB
        obtain ⟨A9, B, j, rfl, Hj, hAB, HRv0, HR, HB⟩ := hrel
        rcases nil_or_end A9 with rfl | ⟨A', ⟨⟨yx, yn⟩, yh⟩, rfl⟩
        · have hja : a = j := by have := Hj.out; simp at this; omega
          subst hja
          have HF : Hid (RwO wr base g c n (D.take a ++ (revIns st ((xx, xn), xh)).reverse ++ D.drop (k + 1))) := hidR (by
            have e := HR.out
            rw [HRv0.out]
            simpa [revIns] using e)
          have HC : Hid (RwO wr.drew base g c n (D.take a ++ (revIns st ((xx, xn), xh)).reverse ++ D.drop (k + 1)) ∧ Bo g w wr.drew) := hidR ⟨HF.out.below (below_drewN (Below.refl _ _) 1), HB.out.trans (Bt.ofB (below_drewN (Below.refl _ _) 1))⟩
          clear HR HB HF Hj HRv0
          go_wp2_with fail
          refine qw_region (C := fun X => RwO X base g c n (D.take a ++ (revIns st ((xx, xn), xh)).reverse ++ D.drop (k + 1)) ∧ Bo g w X) (by kernel_rfl) (by kernel_rfl) HC.out ?_
          clear HC
          refine qw_run (v := .int .i64 (a : Int)) (by rfl) ?_ ?_
          · (intro w1 hC; clear hC; go_simp; first | done | (simp; done) | (simp [*]; done) | omega | (simp; omega) | rfl)
          simp only [Act.put, List.setIfInBounds_toArray, List.set_cons_zero, List.set_cons_succ]
          refine qw_run (v := .int .i64 (a : Int)) (by rfl) ?_ ?_
          · (intro w1 hC; clear hC; go_simp; first | done | (simp; done) | (simp [*]; done) | omega | (simp; omega) | rfl)
          simp only [Act.put, List.setIfInBounds_toArray, List.set_cons_zero, List.set_cons_succ]
          refine qw_run (v := .bool false) (by rfl) ?_ ?_
          · (intro w1 hC; clear hC; go_simp; first | done | (simp; done) | (simp [*]; done) | omega | (simp; omega) | rfl)
          simp only [Act.put, List.setIfInBounds_toArray, List.set_cons_zero, List.set_cons_succ]
          refine qw_run (v := .bool false) (by rfl) ?_ ?_
          · (intro w1 hC; clear hC; go_simp; first | done | (simp; done) | (simp [*]; done) | omega | (simp; omega) | rfl)
          simp only [Act.put, List.setIfInBounds_toArray, List.set_cons_zero, List.set_cons_succ]
          refine qw_skip (by rfl) ?_
          simp only [Act.put, List.setIfInBounds_toArray, List.set_cons_zero, List.set_cons_succ]
          refine qw_skip (by rfl) ?_
          simp only [Act.put, List.setIfInBounds_toArray, List.set_cons_zero, List.set_cons_succ]
          refine qw_skip (by rfl) ?_
          simp only [Act.put, List.setIfInBounds_toArray, List.set_cons_zero, List.set_cons_succ]
          refine qw_skip (by rfl) ?_
          simp only [Act.put, List.setIfInBounds_toArray, List.set_cons_zero, List.set_cons_succ]
          refine qw_skip (by rfl) ?_
          simp only [Act.put, List.setIfInBounds_toArray, List.set_cons_zero, List.set_cons_succ]
          refine qw_skip (by rfl) ?_
          simp only [Act.put, List.setIfInBounds_toArray, List.set_cons_zero, List.set_cons_succ]
          refine qw_skip (by rfl) ?_
          simp only [Act.put, List.setIfInBounds_toArray, List.set_cons_zero, List.set_cons_succ]
          refine qw_skip (by rfl) ?_
          simp only [Act.put, List.setIfInBounds_toArray, List.set_cons_zero, List.set_cons_succ]
          refine qw_skip (by rfl) ?_
          simp only [Act.put, List.setIfInBounds_toArray, List.set_cons_zero, List.set_cons_succ]
          refine qw_skip (by rfl) ?_
          simp only [Act.put, List.setIfInBounds_toArray, List.set_cons_zero, List.set_cons_succ]
          refine qw_skip (by rfl) ?_
          simp only [Act.put, List.setIfInBounds_toArray, List.set_cons_zero, List.set_cons_succ]
          refine qw_skip (by rfl) ?_
          simp only [Act.put, List.setIfInBounds_toArray, List.set_cons_zero, List.set_cons_succ]
          refine qw_run (v := .bool false) (by rfl) ?_ ?_
          · (intro w1 hC; clear hC; go_simp; first | done | (simp; done) | (simp [*]; done) | omega | (simp; omega) | rfl)
          simp only [Act.put, List.setIfInBounds_toArray, List.set_cons_zero, List.set_cons_succ]
          refine qw_nil ?_
          intro w3 hC
          have HC := hidR hC
          clear hC
          go_wp2
          go_roundw
          case rel => exact ⟨k + 1, revIns st ((xx, xn), xh), by first | rfl | simp, by omega, .inl (by omega), Hst2, hidR HC.out.1, hidR HC.out.2⟩
          case measure => simp [intOf]; omega
        · obtain ⟨i, hi⟩ : ∃ i, i = a + A'.length := ⟨_, rfl⟩
          have hji : j = i + 1 := by have := Hj.out; simp at this; omega
          have hAl : A'.length + 1 + B.length = k - a := by simp at hAB; omega
          have Hil : Hid (i = a + A'.length) := hidR hi
          have hin : i < n := by omega
          have hjn : j < n := by omega
          have htl : (D.take a).length = a := by rw [List.length_take]; have := HD.out; omega
          have hT : D.take a ++ (A' ++ [((yx, yn), yh)]) ++ ((xx, xn), xh) :: (B ++ D.drop (k + 1)) = ((D.take a ++ A') ++ [((yx, yn), yh)]) ++ ((xx, xn), xh) :: (B ++ D.drop (k + 1)) := by simp
          have Hjx : Hid ((D.take a ++ (A' ++ [((yx, yn), yh)]) ++ ((xx, xn), xh) :: (B ++ D.drop (k + 1)))[j]? = some ((xx, xn), xh)) := hidR (by
            rw [List.getElem?_append_right (by simp [htl]; omega)]
            have : j - (D.take a ++ (A' ++ [((yx, yn), yh)])).length = 0 := by simp [htl]; omega
            rw [this]; rfl)
          have Hjy : Hid ((D.take a ++ (A' ++ [((yx, yn), yh)]) ++ ((xx, xn), xh) :: (B ++ D.drop (k + 1)))[i]? = some ((yx, yn), yh)) := hidR (by
            rw [hT, List.getElem?_append_left (by simp [htl]; omega), List.getElem?_append_right (by simp [htl]; omega)]
            have : i - (D.take a ++ A').length = 0 := by simp [htl]; omega
            rw [this]; rfl)
          have HSw : Hid (((D.take a ++ (A' ++ [((yx, yn), yh)]) ++ ((xx, xn), xh) :: (B ++ D.drop (k + 1))).set j ((yx, yn), yh)).set i ((xx, xn), xh) = D.take a ++ A' ++ ((xx, xn), xh) :: (((yx, yn), yh) :: B ++ D.drop (k + 1))) := hidR (by
            have e := swap_mid ((yx, yn), yh) ((xx, xn), xh) (B ++ D.drop (k + 1)) (D.take a ++ A')
            have l : (D.take a ++ A').length = i := by simp [htl]; omega
            rw [l] at e
            rw [hT, hji]; exact e)
          have Hjm : Hid (((D.take a ++ (A' ++ [((yx, yn), yh)]) ++ ((xx, xn), xh) :: (B ++ D.drop (k + 1))).set j ((yx, yn), yh))[i]? = some ((yx, yn), yh)) := hidR (by rw [List.getElem?_set_ne (by omega)]; exact Hjy.out)
          have KB := fun w => byPrefix_any xx xn xh yx yn yh w
          obtain ⟨z, hz⟩ : ∃ z, z = pcmpZ xx xn yx yn := ⟨_, rfl⟩
          rw [← hz] at KB
          have HRv : Hid (z < 0 → revIns st ((xx, xn), xh) = (((yx, yn), yh) :: B).reverse ++ revIns A'.reverse ((xx, xn), xh)) := hidR (fun q => by
            have e := HRv0.out
            rw [List.reverse_append] at e
            simp only [List.reverse_cons, List.reverse_nil, List.nil_append, List.singleton_append, revIns] at e
            rw [if_pos (show cmR ((xx, xn), xh) ((yx, yn), yh) < 0 by show pcmpZ xx xn yx yn < 0; omega)] at e
            rw [e]; simp)
          have HRn : Hid (¬ z < 0 → revIns st ((xx, xn), xh) = B.reverse ++ ((xx, xn), xh) :: (A' ++ [((yx, yn), yh)]).reverse) := hidR (fun q => by
            have e := HRv0.out
            rw [List.reverse_append] at e ⊢
            simp only [List.reverse_cons, List.reverse_nil, List.nil_append, List.singleton_append, revIns] at e ⊢
            rw [if_neg (show ¬ cmR ((xx, xn), xh) ((yx, yn), yh) < 0 by show ¬ pcmpZ xx xn yx yn < 0; omega)] at e
            rw [e])
          have wj : IntKind.i64.wrap ((j : Int) - 1) = (i : Int) := by rw [IntKind.wrap_i64]; omega
          have hja : (a : Int) < (j : Int) := by omega
          have hj1 : (j : Int) < (n : Int) := by omega
          have hi0 : (0 : Int) ≤ (i : Int) := by omega
          have hi1 : (i : Int) < (n : Int) := by omega
          have hj0 : (0 : Int) ≤ (j : Int) := by omega
          have HC : Hid (RwO wr.drew base g c n (D.take a ++ (A' ++ [((yx, yn), yh)]) ++ ((xx, xn), xh) :: (B ++ D.drop (k + 1))) ∧ Bo g w wr.drew) := hidR ⟨HR.out.below (below_drewN (Below.refl _ _) 1), HB.out.trans (Bt.ofB (below_drewN (Below.refl _ _) 1))⟩
          have Hji := hidR hji
          clear HR HB Hj HRv0 hz hT htl hAB hi hji
          go_wp2_with fail
          by_cases hzl : z < 0
          · have HRv := hidR (HRv.out (by omega))
            refine qw_region (C := fun X => RwO X base g c n (D.take a ++ (A' ++ [((yx, yn), yh)]) ++ ((xx, xn), xh) :: (B ++ D.drop (k + 1))) ∧ Bo g w X) (by kernel_rfl) (by kernel_rfl) HC.out ?_
            clear HC HRn
            refine qw_run (v := .int .i64 (j : Int)) (by rfl) ?_ ?_
            · (intro w1 hC; clear hC; go_simp; first | done | (simp; done) | (simp [*]; done) | omega | (simp; omega) | rfl)
            simp only [Act.put, List.setIfInBounds_toArray, List.set_cons_zero, List.set_cons_succ]
            refine qw_run (v := .int .i64 (a : Int)) (by rfl) ?_ ?_
            · (intro w1 hC; clear hC; go_simp; first | done | (simp; done) | (simp [*]; done) | omega | (simp; omega) | rfl)
            simp only [Act.put, List.setIfInBounds_toArray, List.set_cons_zero, List.set_cons_succ]
            refine qw_run (v := .bool true) (by rfl) ?_ ?_
            · (intro w1 hC; clear hC; go_simp; first | done | (simp; done) | (simp [*]; done) | omega | (simp; omega) | rfl)
            simp only [Act.put, List.setIfInBounds_toArray, List.set_cons_zero, List.set_cons_succ]
            refine qw_run (v := .bool true) (by rfl) ?_ ?_
            · (intro w1 hC; clear hC; go_simp; first | done | (simp; done) | (simp [*]; done) | omega | (simp; omega) | rfl)
            simp only [Act.put, List.setIfInBounds_toArray, List.set_cons_zero, List.set_cons_succ]
            refine qw_run (v := .func (.func 27) #[] #[]) (by rfl) ?_ ?_
            · (intro w1 hC; clear hC; go_simp; first | done | (simp; done) | (simp [*]; done) | omega | (simp; omega) | rfl)
            simp only [Act.put, List.setIfInBounds_toArray, List.set_cons_zero, List.set_cons_succ]
            refine qw_run (v := .slice (some ⟨g, 0, none⟩) n c) (by rfl) ?_ ?_
            · (intro w1 hC; clear hC; go_simp; first | done | (simp; done) | (simp [*]; done) | omega | (simp; omega) | rfl)
            simp only [Act.put, List.setIfInBounds_toArray, List.set_cons_zero, List.set_cons_succ]
            refine qw_run (v := .int .i64 (j : Int)) (by rfl) ?_ ?_
            · (intro w1 hC; clear hC; go_simp; first | done | (simp; done) | (simp [*]; done) | omega | (simp; omega) | rfl)
            simp only [Act.put, List.setIfInBounds_toArray, List.set_cons_zero, List.set_cons_succ]
            refine qw_run (v := .pointer (some ⟨g, j * 4, none⟩)) (by rfl) ?_ ?_
            · (intro w1 hC; clear hC; go_simp; first | done | (simp; done) | (simp [*]; done) | omega | (simp; omega) | rfl)
            simp only [Act.put, List.setIfInBounds_toArray, List.set_cons_zero, List.set_cons_succ]
            refine qw_run (v := .agg #[.int .u64 (hI xx), .int .u64 (lI xx), .int .i64 xn, .int .i64 xh]) (by rfl) ?_ ?_
            · (intro w1 hC; have f0 := (hC.1.cells Hjx.out).1; have f1 := (hC.1.cells Hjx.out).2.1; have f2 := (hC.1.cells Hjx.out).2.2.1; have f3 := (hC.1.cells Hjx.out).2.2.2; clear hC; go_simp; first | done | (simp; done) | (simp [*]; done) | omega | (simp; omega) | rfl)
            simp only [Act.put, List.setIfInBounds_toArray, List.set_cons_zero, List.set_cons_succ]
            refine qw_run (v := .slice (some ⟨g, 0, none⟩) n c) (by rfl) ?_ ?_
            · (intro w1 hC; clear hC; go_simp; first | done | (simp; done) | (simp [*]; done) | omega | (simp; omega) | rfl)
            simp only [Act.put, List.setIfInBounds_toArray, List.set_cons_zero, List.set_cons_succ]
            refine qw_run (v := .int .i64 (j : Int)) (by rfl) ?_ ?_
            · (intro w1 hC; clear hC; go_simp; first | done | (simp; done) | (simp [*]; done) | omega | (simp; omega) | rfl)
            simp only [Act.put, List.setIfInBounds_toArray, List.set_cons_zero, List.set_cons_succ]
            refine qw_run (v := .int .i64 (i : Int)) (by rfl) ?_ ?_
            · (intro w1 hC; clear hC; go_simp; first | done | (simp; done) | (simp [*]; done) | omega | (simp; omega) | rfl)
            simp only [Act.put, List.setIfInBounds_toArray, List.set_cons_zero, List.set_cons_succ]
            refine qw_run (v := .pointer (some ⟨g, i * 4, none⟩)) (by rfl) ?_ ?_
            · (intro w1 hC; clear hC; go_simp; first | done | (simp; done) | (simp [*]; done) | omega | (simp; omega) | rfl)
            simp only [Act.put, List.setIfInBounds_toArray, List.set_cons_zero, List.set_cons_succ]
            refine qw_run (v := .agg #[.int .u64 (hI yx), .int .u64 (lI yx), .int .i64 yn, .int .i64 yh]) (by rfl) ?_ ?_
            · (intro w1 hC; have f0 := (hC.1.cells Hjy.out).1; have f1 := (hC.1.cells Hjy.out).2.1; have f2 := (hC.1.cells Hjy.out).2.2.1; have f3 := (hC.1.cells Hjy.out).2.2.2; clear hC; go_simp; first | done | (simp; done) | (simp [*]; done) | omega | (simp; omega) | rfl)
            simp only [Act.put, List.setIfInBounds_toArray, List.set_cons_zero, List.set_cons_succ]
            refine qw_call (v := .int .i64 z) (f := 27) (args := #[.agg #[.int .u64 (hI xx), .int .u64 (lI xx), .int .i64 xn, .int .i64 xh], .agg #[.int .u64 (hI yx), .int .u64 (lI yx), .int .i64 yn, .int .i64 yh]]) (by rfl) ?_ ?_ ?_
            · (intro w1 hC; clear hC; go_simp)
            · exact fun w1 hC => (KB w1).mono fun e w' ⟨he, hb⟩ => ⟨he, ⟨hC.1.below hb, hC.2.trans (Bt.ofB hb)⟩⟩
            simp only [Act.put, List.setIfInBounds_toArray, List.set_cons_zero, List.set_cons_succ]
            refine qw_run (v := .bool true) (by rfl) ?_ ?_
            · (intro w1 hC; clear hC; go_simp; first | done | (simp; done) | (simp [*]; done) | omega | (simp; omega) | rfl)
            simp only [Act.put, List.setIfInBounds_toArray, List.set_cons_zero, List.set_cons_succ]
            refine qw_run (v := .bool true) (by rfl) ?_ ?_
            · (intro w1 hC; clear hC; go_simp; first | done | (simp; done) | (simp [*]; done) | omega | (simp; omega) | rfl)
            simp only [Act.put, List.setIfInBounds_toArray, List.set_cons_zero, List.set_cons_succ]
            refine qw_nil ?_
            intro w3 hC
            have HC0 : Hid (RwO w3.drew base g c n (D.take a ++ (A' ++ [((yx, yn), yh)]) ++ ((xx, xn), xh) :: (B ++ D.drop (k + 1))) ∧ Bo g w w3.drew) := hidR ⟨hC.1.below (below_drewN (Below.refl _ _) 1), hC.2.trans (Bt.ofB (below_drewN (Below.refl _ _) 1))⟩
            clear hC
            go_wp2_with fail
            refine gh_region (γ := Unit) (qpOk 18 18 (by decide) (fun N => by kernel_rfl) (by kernel_rfl) (by kernel_rfl) (by kernel_rfl) (by kernel_rfl)) (by kernel_rfl) (by kernel_rfl) [some 37, some 38, some 39, some 40, some 41, some 42, some 43, some 44, some 45, some 46, some 47, some 48, some 49, some 50, some 51, none, some 52, none] (fun _ => [.slice (some ⟨g, 0, none⟩) n c, .int .i64 (j : Int), .slice (some ⟨g, 0, none⟩) n c, .int .i64 (j : Int), .int .i64 (i : Int), .slice (some ⟨g, 0, none⟩) n c, .int .i64 (j : Int), .int .i64 (i : Int), .pointer (some ⟨g, i * 4, none⟩), .agg #[.int .u64 (hI yx), .int .u64 (lI yx), .int .i64 yn, .int .i64 yh], .slice (some ⟨g, 0, none⟩) n c, .int .i64 (j : Int), .pointer (some ⟨g, j * 4, none⟩), .agg #[.int .u64 (hI xx), .int .u64 (lI xx), .int .i64 xn, .int .i64 xh], .pointer (some ⟨g, j * 4, none⟩), undef, .pointer (some ⟨g, i * 4, none⟩), undef]) (by kernel_rfl) (by simp) (fun lp _ W => R17 (fun X => RwO X base g c n (D.take a ++ (A' ++ [((yx, yn), yh)]) ++ ((xx, xn), xh) :: (B ++ D.drop (k + 1))) ∧ Bo g w X) (fun X => RwO X base g c n ((D.take a ++ (A' ++ [((yx, yn), yh)]) ++ ((xx, xn), xh) :: (B ++ D.drop (k + 1))).set j ((yx, yn), yh)) ∧ Bo g w X) (fun X => RwO X base g c n (D.take a ++ A' ++ ((xx, xn), xh) :: (((yx, yn), yh) :: B ++ D.drop (k + 1))) ∧ Bo g w X) (fun j => lp.getD j false) W) () (R17.start HC0.out (fun j => by simp [Array.getElem?_replicate]; split <;> rfl)) ?step ?fin
            case step =>
              intro q o lp g9 w' a' ho hsz hun hdep hR hS K Q' hK
              have hfl : ∀ j, j ≠ q → (lp.setIfInBounds q true).getD j false = lp.getD j false := fun j hj => by rw [Array.getD_eq_getD_getElem?, Array.getD_eq_getD_getElem?, Array.getElem?_setIfInBounds_ne (by omega)]
              have hq : q < 18 := (List.getElem?_eq_some_iff.mp ho).1
              have hft : (lp.setIfInBounds q true).getD q false = true := getD_set_same (by rw [hsz]; exact hq)
              match q, ho, hun, hdep, hK, hfl, hft, hq with
              | 0, ho, hun, hdep, hK, hfl, hft, _ =>
                obtain rfl := Option.some.inj ho
                have o0 : a'.tmps[0]? = some (.slice (some ⟨g, 0, none⟩) n c) := (hS.old5 0 (by simp)).trans rfl
                have hK' := hK g9 w' (fun _ _ _ _ _ _ => rfl) (hR.quiet (i := 0) (by decide) (by decide) hft hfl) (.slice (some ⟨g, 0, none⟩) n c) (by simp only [valO, Option.bind_some]; simp only [putAll, Act.put, List.setIfInBounds_toArray, List.set_cons_zero, List.set_cons_succ]; rfl)
                clear hS hdep hR
                refine gh_quiet5 (v := .slice (some ⟨g, 0, none⟩) n c) ?_ ?_
                · (simp only [execOp, Act.eval, o0]; go_simp; first | done | (simp; done) | (simp [*]; done) | omega | (simp; omega))
                · exact hK'
              | 1, ho, hun, hdep, hK, hfl, hft, _ =>
                obtain rfl := Option.some.inj ho
                have o9 : a'.tmps[9]? = some (.int .i64 (j : Int)) := (hS.old5 9 (by simp)).trans rfl
                have hK' := hK g9 w' (fun _ _ _ _ _ _ => rfl) (hR.quiet (i := 1) (by decide) (by decide) hft hfl) (.int .i64 (j : Int)) (by simp only [valO, Option.bind_some]; simp only [putAll, Act.put, List.setIfInBounds_toArray, List.set_cons_zero, List.set_cons_succ]; rfl)
                clear hS hdep hR
                refine gh_quiet5 (v := .int .i64 (j : Int)) ?_ ?_
                · (simp only [execOp, Act.eval, o9]; go_simp; first | done | (simp; done) | (simp [*]; done) | omega | (simp; omega))
                · exact hK'
              | 2, ho, hun, hdep, hK, hfl, hft, _ =>
                obtain rfl := Option.some.inj ho
                have o0 : a'.tmps[0]? = some (.slice (some ⟨g, 0, none⟩) n c) := (hS.old5 0 (by simp)).trans rfl
                have hK' := hK g9 w' (fun _ _ _ _ _ _ => rfl) (hR.quiet (i := 2) (by decide) (by decide) hft hfl) (.slice (some ⟨g, 0, none⟩) n c) (by simp only [valO, Option.bind_some]; simp only [putAll, Act.put, List.setIfInBounds_toArray, List.set_cons_zero, List.set_cons_succ]; rfl)
                clear hS hdep hR
                refine gh_quiet5 (v := .slice (some ⟨g, 0, none⟩) n c) ?_ ?_
                · (simp only [execOp, Act.eval, o0]; go_simp; first | done | (simp; done) | (simp [*]; done) | omega | (simp; omega))
                · exact hK'
              | 3, ho, hun, hdep, hK, hfl, hft, _ =>
                obtain rfl := Option.some.inj ho
                have o9 : a'.tmps[9]? = some (.int .i64 (j : Int)) := (hS.old5 9 (by simp)).trans rfl
                have hK' := hK g9 w' (fun _ _ _ _ _ _ => rfl) (hR.quiet (i := 3) (by decide) (by decide) hft hfl) (.int .i64 (j : Int)) (by simp only [valO, Option.bind_some]; simp only [putAll, Act.put, List.setIfInBounds_toArray, List.set_cons_zero, List.set_cons_succ]; rfl)
                clear hS hdep hR
                refine gh_quiet5 (v := .int .i64 (j : Int)) ?_ ?_
                · (simp only [execOp, Act.eval, o9]; go_simp; first | done | (simp; done) | (simp [*]; done) | omega | (simp; omega))
                · exact hK'
              | 4, ho, hun, hdep, hK, hfl, hft, _ =>
                obtain rfl := Option.some.inj ho
                have d3 : lp.getD 3 false = true := hdep { on := 3, ground := .data } (by simp) rfl
                have e40 : a'.tmps[40]? = some (.int .i64 (j : Int)) := (hS.don 3 _ 40 rfl d3 rfl).trans (by simp only [putAll, Act.put, List.setIfInBounds_toArray, List.set_cons_zero, List.set_cons_succ]; rfl)
                have hK' := hK g9 w' (fun _ _ _ _ _ _ => rfl) (hR.quiet (i := 4) (by decide) (by decide) hft hfl) (.int .i64 (i : Int)) (by simp only [valO, Option.bind_some]; simp only [putAll, Act.put, List.setIfInBounds_toArray, List.set_cons_zero, List.set_cons_succ]; rfl)
                clear hS hdep hR
                refine gh_quiet5 (v := .int .i64 (i : Int)) ?_ ?_
                · (simp only [execOp, Act.eval, e40]; go_simp; first | done | (simp; done) | (simp [*]; done) | omega | (simp; omega))
                · exact hK'
              | 5, ho, hun, hdep, hK, hfl, hft, _ =>
                obtain rfl := Option.some.inj ho
                have o0 : a'.tmps[0]? = some (.slice (some ⟨g, 0, none⟩) n c) := (hS.old5 0 (by simp)).trans rfl
                have hK' := hK g9 w' (fun _ _ _ _ _ _ => rfl) (hR.quiet (i := 5) (by decide) (by decide) hft hfl) (.slice (some ⟨g, 0, none⟩) n c) (by simp only [valO, Option.bind_some]; simp only [putAll, Act.put, List.setIfInBounds_toArray, List.set_cons_zero, List.set_cons_succ]; rfl)
                clear hS hdep hR
                refine gh_quiet5 (v := .slice (some ⟨g, 0, none⟩) n c) ?_ ?_
                · (simp only [execOp, Act.eval, o0]; go_simp; first | done | (simp; done) | (simp [*]; done) | omega | (simp; omega))
                · exact hK'
              | 6, ho, hun, hdep, hK, hfl, hft, _ =>
                obtain rfl := Option.some.inj ho
                have o9 : a'.tmps[9]? = some (.int .i64 (j : Int)) := (hS.old5 9 (by simp)).trans rfl
                have hK' := hK g9 w' (fun _ _ _ _ _ _ => rfl) (hR.quiet (i := 6) (by decide) (by decide) hft hfl) (.int .i64 (j : Int)) (by simp only [valO, Option.bind_some]; simp only [putAll, Act.put, List.setIfInBounds_toArray, List.set_cons_zero, List.set_cons_succ]; rfl)
                clear hS hdep hR
                refine gh_quiet5 (v := .int .i64 (j : Int)) ?_ ?_
                · (simp only [execOp, Act.eval, o9]; go_simp; first | done | (simp; done) | (simp [*]; done) | omega | (simp; omega))
                · exact hK'
              | 7, ho, hun, hdep, hK, hfl, hft, _ =>
                obtain rfl := Option.some.inj ho
                have d6 : lp.getD 6 false = true := hdep { on := 6, ground := .data } (by simp) rfl
                have e43 : a'.tmps[43]? = some (.int .i64 (j : Int)) := (hS.don 6 _ 43 rfl d6 rfl).trans (by simp only [putAll, Act.put, List.setIfInBounds_toArray, List.set_cons_zero, List.set_cons_succ]; rfl)
                have hK' := hK g9 w' (fun _ _ _ _ _ _ => rfl) (hR.quiet (i := 7) (by decide) (by decide) hft hfl) (.int .i64 (i : Int)) (by simp only [valO, Option.bind_some]; simp only [putAll, Act.put, List.setIfInBounds_toArray, List.set_cons_zero, List.set_cons_succ]; rfl)
                clear hS hdep hR
                refine gh_quiet5 (v := .int .i64 (i : Int)) ?_ ?_
                · (simp only [execOp, Act.eval, e43]; go_simp; first | done | (simp; done) | (simp [*]; done) | omega | (simp; omega))
                · exact hK'
              | 8, ho, hun, hdep, hK, hfl, hft, _ =>
                obtain rfl := Option.some.inj ho
                have d5 : lp.getD 5 false = true := hdep { on := 5, ground := .data } (by simp) rfl
                have e42 : a'.tmps[42]? = some (.slice (some ⟨g, 0, none⟩) n c) := (hS.don 5 _ 42 rfl d5 rfl).trans (by simp only [putAll, Act.put, List.setIfInBounds_toArray, List.set_cons_zero, List.set_cons_succ]; rfl)
                have d7 : lp.getD 7 false = true := hdep { on := 7, ground := .data } (by simp) rfl
                have e44 : a'.tmps[44]? = some (.int .i64 (i : Int)) := (hS.don 7 _ 44 rfl d7 rfl).trans (by simp only [putAll, Act.put, List.setIfInBounds_toArray, List.set_cons_zero, List.set_cons_succ]; rfl)
                have hK' := hK g9 w' (fun _ _ _ _ _ _ => rfl) (hR.quiet (i := 8) (by decide) (by decide) hft hfl) (.pointer (some ⟨g, i * 4, none⟩)) (by simp only [valO, Option.bind_some]; simp only [putAll, Act.put, List.setIfInBounds_toArray, List.set_cons_zero, List.set_cons_succ]; rfl)
                clear hS hdep hR
                refine gh_quiet5 (v := .pointer (some ⟨g, i * 4, none⟩)) ?_ ?_
                · (simp only [execOp, Act.eval, e42, e44]; go_simp; first | done | (simp; done) | (simp [*]; done) | omega | (simp; omega))
                · exact hK'
              | 9, ho, hun, hdep, hK, hfl, hft, _ =>
                obtain rfl := Option.some.inj ho
                have d8 : lp.getD 8 false = true := hdep { on := 8, ground := .data } (by simp) rfl
                have e45 : a'.tmps[45]? = some (.pointer (some ⟨g, i * 4, none⟩)) := (hS.don 8 _ 45 rfl d8 rfl).trans (by simp only [putAll, Act.put, List.setIfInBounds_toArray, List.set_cons_zero, List.set_cons_succ]; rfl)
                have hB := hR.load9 hun
                have u0 := (hB.1.cells Hjy.out).1
                have u1 := (hB.1.cells Hjy.out).2.1
                have u2 := (hB.1.cells Hjy.out).2.2.1
                have u3 := (hB.1.cells Hjy.out).2.2.2
                clear hB
                have hK' := hK g9 w' (fun _ _ _ _ _ _ => rfl) (hR.quiet (i := 9) (by decide) (by decide) hft hfl) (.agg #[.int .u64 (hI yx), .int .u64 (lI yx), .int .i64 yn, .int .i64 yh]) (by simp only [valO, Option.bind_some]; simp only [putAll, Act.put, List.setIfInBounds_toArray, List.set_cons_zero, List.set_cons_succ]; rfl)
                clear hS hdep hR
                refine gh_quiet5 (v := .agg #[.int .u64 (hI yx), .int .u64 (lI yx), .int .i64 yn, .int .i64 yh]) ?_ ?_
                · (simp only [execOp, Act.eval, e45]; go_simp; first | done | (simp; done) | (simp [*]; done) | omega | (simp; omega))
                · exact hK'
              | 10, ho, hun, hdep, hK, hfl, hft, _ =>
                obtain rfl := Option.some.inj ho
                have o0 : a'.tmps[0]? = some (.slice (some ⟨g, 0, none⟩) n c) := (hS.old5 0 (by simp)).trans rfl
                have hK' := hK g9 w' (fun _ _ _ _ _ _ => rfl) (hR.quiet (i := 10) (by decide) (by decide) hft hfl) (.slice (some ⟨g, 0, none⟩) n c) (by simp only [valO, Option.bind_some]; simp only [putAll, Act.put, List.setIfInBounds_toArray, List.set_cons_zero, List.set_cons_succ]; rfl)
                clear hS hdep hR
                refine gh_quiet5 (v := .slice (some ⟨g, 0, none⟩) n c) ?_ ?_
                · (simp only [execOp, Act.eval, o0]; go_simp; first | done | (simp; done) | (simp [*]; done) | omega | (simp; omega))
                · exact hK'
              | 11, ho, hun, hdep, hK, hfl, hft, _ =>
                obtain rfl := Option.some.inj ho
                have o9 : a'.tmps[9]? = some (.int .i64 (j : Int)) := (hS.old5 9 (by simp)).trans rfl
                have hK' := hK g9 w' (fun _ _ _ _ _ _ => rfl) (hR.quiet (i := 11) (by decide) (by decide) hft hfl) (.int .i64 (j : Int)) (by simp only [valO, Option.bind_some]; simp only [putAll, Act.put, List.setIfInBounds_toArray, List.set_cons_zero, List.set_cons_succ]; rfl)
                clear hS hdep hR
                refine gh_quiet5 (v := .int .i64 (j : Int)) ?_ ?_
                · (simp only [execOp, Act.eval, o9]; go_simp; first | done | (simp; done) | (simp [*]; done) | omega | (simp; omega))
                · exact hK'
              | 12, ho, hun, hdep, hK, hfl, hft, _ =>
                obtain rfl := Option.some.inj ho
                have d10 : lp.getD 10 false = true := hdep { on := 10, ground := .data } (by simp) rfl
                have e47 : a'.tmps[47]? = some (.slice (some ⟨g, 0, none⟩) n c) := (hS.don 10 _ 47 rfl d10 rfl).trans (by simp only [putAll, Act.put, List.setIfInBounds_toArray, List.set_cons_zero, List.set_cons_succ]; rfl)
                have d11 : lp.getD 11 false = true := hdep { on := 11, ground := .data } (by simp) rfl
                have e48 : a'.tmps[48]? = some (.int .i64 (j : Int)) := (hS.don 11 _ 48 rfl d11 rfl).trans (by simp only [putAll, Act.put, List.setIfInBounds_toArray, List.set_cons_zero, List.set_cons_succ]; rfl)
                have hK' := hK g9 w' (fun _ _ _ _ _ _ => rfl) (hR.quiet (i := 12) (by decide) (by decide) hft hfl) (.pointer (some ⟨g, j * 4, none⟩)) (by simp only [valO, Option.bind_some]; simp only [putAll, Act.put, List.setIfInBounds_toArray, List.set_cons_zero, List.set_cons_succ]; rfl)
                clear hS hdep hR
                refine gh_quiet5 (v := .pointer (some ⟨g, j * 4, none⟩)) ?_ ?_
                · (simp only [execOp, Act.eval, e47, e48]; go_simp; first | done | (simp; done) | (simp [*]; done) | omega | (simp; omega))
                · exact hK'
              | 13, ho, hun, hdep, hK, hfl, hft, _ =>
                obtain rfl := Option.some.inj ho
                have d12 : lp.getD 12 false = true := hdep { on := 12, ground := .data } (by simp) rfl
                have e49 : a'.tmps[49]? = some (.pointer (some ⟨g, j * 4, none⟩)) := (hS.don 12 _ 49 rfl d12 rfl).trans (by simp only [putAll, Act.put, List.setIfInBounds_toArray, List.set_cons_zero, List.set_cons_succ]; rfl)
                have hB := hR.load13 hun
                have u0 := (hB.1.cells Hjx.out).1
                have u1 := (hB.1.cells Hjx.out).2.1
                have u2 := (hB.1.cells Hjx.out).2.2.1
                have u3 := (hB.1.cells Hjx.out).2.2.2
                clear hB
                have hK' := hK g9 w' (fun _ _ _ _ _ _ => rfl) (hR.quiet (i := 13) (by decide) (by decide) hft hfl) (.agg #[.int .u64 (hI xx), .int .u64 (lI xx), .int .i64 xn, .int .i64 xh]) (by simp only [valO, Option.bind_some]; simp only [putAll, Act.put, List.setIfInBounds_toArray, List.set_cons_zero, List.set_cons_succ]; rfl)
                clear hS hdep hR
                refine gh_quiet5 (v := .agg #[.int .u64 (hI xx), .int .u64 (lI xx), .int .i64 xn, .int .i64 xh]) ?_ ?_
                · (simp only [execOp, Act.eval, e49]; go_simp; first | done | (simp; done) | (simp [*]; done) | omega | (simp; omega))
                · exact hK'
              | 14, ho, hun, hdep, hK, hfl, hft, _ =>
                obtain rfl := Option.some.inj ho
                have d0 : lp.getD 0 false = true := hdep { on := 0, ground := .data } (by simp) rfl
                have e37 : a'.tmps[37]? = some (.slice (some ⟨g, 0, none⟩) n c) := (hS.don 0 _ 37 rfl d0 rfl).trans (by simp only [putAll, Act.put, List.setIfInBounds_toArray, List.set_cons_zero, List.set_cons_succ]; rfl)
                have d1 : lp.getD 1 false = true := hdep { on := 1, ground := .data } (by simp) rfl
                have e38 : a'.tmps[38]? = some (.int .i64 (j : Int)) := (hS.don 1 _ 38 rfl d1 rfl).trans (by simp only [putAll, Act.put, List.setIfInBounds_toArray, List.set_cons_zero, List.set_cons_succ]; rfl)
                have hK' := hK g9 w' (fun _ _ _ _ _ _ => rfl) (hR.quiet (i := 14) (by decide) (by decide) hft hfl) (.pointer (some ⟨g, j * 4, none⟩)) (by simp only [valO, Option.bind_some]; simp only [putAll, Act.put, List.setIfInBounds_toArray, List.set_cons_zero, List.set_cons_succ]; rfl)
                clear hS hdep hR
                refine gh_quiet5 (v := .pointer (some ⟨g, j * 4, none⟩)) ?_ ?_
                · (simp only [execOp, Act.eval, e37, e38]; go_simp; first | done | (simp; done) | (simp [*]; done) | omega | (simp; omega))
                · exact hK'
              | 15, ho, hun, hdep, hK, hfl, hft, _ =>
                obtain rfl := Option.some.inj ho
                have d14 : lp.getD 14 false = true := hdep { on := 14, ground := .data } (by simp) rfl
                have e51 : a'.tmps[51]? = some (.pointer (some ⟨g, j * 4, none⟩)) := (hS.don 14 _ 51 rfl d14 rfl).trans (by simp only [putAll, Act.put, List.setIfInBounds_toArray, List.set_cons_zero, List.set_cons_succ]; rfl)
                have d9 : lp.getD 9 false = true := hdep { on := 9, ground := .data } (by simp) rfl
                have e46 : a'.tmps[46]? = some (.agg #[.int .u64 (hI yx), .int .u64 (lI yx), .int .i64 yn, .int .i64 yh]) := (hS.don 9 _ 46 rfl d9 rfl).trans (by simp only [putAll, Act.put, List.setIfInBounds_toArray, List.set_cons_zero, List.set_cons_succ]; rfl)
                have d13 : lp.getD 13 false = true := hdep { on := 13, ground := .phase } (by simp) rfl
                have hB := hR.bef hun
                have u0 := (hB.1.cells Hjx.out).1
                have u1 := (hB.1.cells Hjx.out).2.1
                have u2 := (hB.1.cells Hjx.out).2.2.1
                have u3 := (hB.1.cells Hjx.out).2.2.2
                have u4 := hB.1.free (j := j * 4) (by omega)
                have u5 := hB.1.free (j := j * 4 + 1) (by omega)
                have u6 := hB.1.free (j := j * 4 + 2) (by omega)
                have u7 := hB.1.free (j := j * 4 + 3) (by omega)
                have hK' := hK g9 _ (fun _ _ _ _ _ _ => rfl) (hR.st1 (⟨hB.1.set hjn ((yx, yn), yh), Bo.set (Bo.set (Bo.set (Bo.set hB.2 _ _) _ _) _ _) _ _⟩) d9 d13 hun hft hfl) undef rfl
                clear hS hdep hR hB
                unfold Oper.wp
                simp [execOp, Act.eval, e51, e46, go_sem, Oper.upon, u0, u1, u2, u3, u4, u5, u6, u7, *]
                exact hK'
              | 16, ho, hun, hdep, hK, hfl, hft, _ =>
                obtain rfl := Option.some.inj ho
                have d2 : lp.getD 2 false = true := hdep { on := 2, ground := .data } (by simp) rfl
                have e39 : a'.tmps[39]? = some (.slice (some ⟨g, 0, none⟩) n c) := (hS.don 2 _ 39 rfl d2 rfl).trans (by simp only [putAll, Act.put, List.setIfInBounds_toArray, List.set_cons_zero, List.set_cons_succ]; rfl)
                have d4 : lp.getD 4 false = true := hdep { on := 4, ground := .data } (by simp) rfl
                have e41 : a'.tmps[41]? = some (.int .i64 (i : Int)) := (hS.don 4 _ 41 rfl d4 rfl).trans (by simp only [putAll, Act.put, List.setIfInBounds_toArray, List.set_cons_zero, List.set_cons_succ]; rfl)
                have hK' := hK g9 w' (fun _ _ _ _ _ _ => rfl) (hR.quiet (i := 16) (by decide) (by decide) hft hfl) (.pointer (some ⟨g, i * 4, none⟩)) (by simp only [valO, Option.bind_some]; simp only [putAll, Act.put, List.setIfInBounds_toArray, List.set_cons_zero, List.set_cons_succ]; rfl)
                clear hS hdep hR
                refine gh_quiet5 (v := .pointer (some ⟨g, i * 4, none⟩)) ?_ ?_
                · (simp only [execOp, Act.eval, e39, e41]; go_simp; first | done | (simp; done) | (simp [*]; done) | omega | (simp; omega))
                · exact hK'
              | 17, ho, hun, hdep, hK, hfl, hft, _ =>
                obtain rfl := Option.some.inj ho
                have d16 : lp.getD 16 false = true := hdep { on := 16, ground := .data } (by simp) rfl
                have e52 : a'.tmps[52]? = some (.pointer (some ⟨g, i * 4, none⟩)) := (hS.don 16 _ 52 rfl d16 rfl).trans (by simp only [putAll, Act.put, List.setIfInBounds_toArray, List.set_cons_zero, List.set_cons_succ]; rfl)
                have d13 : lp.getD 13 false = true := hdep { on := 13, ground := .data } (by simp) rfl
                have e50 : a'.tmps[50]? = some (.agg #[.int .u64 (hI xx), .int .u64 (lI xx), .int .i64 xn, .int .i64 xh]) := (hS.don 13 _ 50 rfl d13 rfl).trans (by simp only [putAll, Act.put, List.setIfInBounds_toArray, List.set_cons_zero, List.set_cons_succ]; rfl)
                have d15 : lp.getD 15 false = true := hdep { on := 15, ground := .chain } (by simp) rfl
                have hB := hR.mid d15 hun
                have u0 := (hB.1.cells Hjm.out).1
                have u1 := (hB.1.cells Hjm.out).2.1
                have u2 := (hB.1.cells Hjm.out).2.2.1
                have u3 := (hB.1.cells Hjm.out).2.2.2
                have u4 := hB.1.free (j := i * 4) (by omega)
                have u5 := hB.1.free (j := i * 4 + 1) (by omega)
                have u6 := hB.1.free (j := i * 4 + 2) (by omega)
                have u7 := hB.1.free (j := i * 4 + 3) (by omega)
                have hK' := hK g9 _ (fun _ _ _ _ _ _ => rfl) (hR.st2 (⟨by have q := hB.1.set hin ((xx, xn), xh); rw [HSw.out] at q; exact q, Bo.set (Bo.set (Bo.set (Bo.set hB.2 _ _) _ _) _ _) _ _⟩) d15 hun hft hfl) undef rfl
                clear hS hdep hR hB
                unfold Oper.wp
                simp [execOp, Act.eval, e52, e50, go_sem, Oper.upon, u0, u1, u2, u3, u4, u5, u6, u7, *]
                exact hK'
              | m9 + 18, ho, hun, hdep, hK, hfl, hft, hq => exact absurd hq (by omega)
            case fin =>
              intro g9 W hR
              have hN := hR.aft (by simp)
              simp only [putAll, Act.put, List.setIfInBounds_toArray, List.set_cons_zero, List.set_cons_succ]
              clear hR
              have HN := hidR hN
              clear hN HC0
              refine wl_nil5 (P := Tryz.prog) (ops := #[]) ?_
              go_wp2
              go_roundw
              case rel => exact ⟨A', ((yx, yn), yh) :: B, i, by first | rfl | omega | (simp; omega), Hil, by first | omega | (simp; omega), HRv, hidR HN.out.1, hidR HN.out.2⟩
              case measure => clear wj wk; have hh := Hji.out; simp [intOf]; omega
          · have HRn := hidR (HRn.out (by omega))
            have HF : Hid (∀ X, RwO X base g c n (D.take a ++ (A' ++ [((yx, yn), yh)]) ++ ((xx, xn), xh) :: (B ++ D.drop (k + 1))) → RwO X base g c n (D.take a ++ (revIns st ((xx, xn), xh)).reverse ++ D.drop (k + 1))) := hidR (fun X h => by rw [HRn.out]; simpa using h)
            refine qw_region (C := fun X => RwO X base g c n (D.take a ++ (A' ++ [((yx, yn), yh)]) ++ ((xx, xn), xh) :: (B ++ D.drop (k + 1))) ∧ Bo g w X) (by kernel_rfl) (by kernel_rfl) HC.out ?_
            clear HC HRv
            refine qw_run (v := .int .i64 (j : Int)) (by rfl) ?_ ?_
            · (intro w1 hC; clear hC; go_simp; first | done | (simp; done) | (simp [*]; done) | omega | (simp; omega) | rfl)
            simp only [Act.put, List.setIfInBounds_toArray, List.set_cons_zero, List.set_cons_succ]
            refine qw_run (v := .int .i64 (a : Int)) (by rfl) ?_ ?_
            · (intro w1 hC; clear hC; go_simp; first | done | (simp; done) | (simp [*]; done) | omega | (simp; omega) | rfl)
            simp only [Act.put, List.setIfInBounds_toArray, List.set_cons_zero, List.set_cons_succ]
            refine qw_run (v := .bool true) (by rfl) ?_ ?_
            · (intro w1 hC; clear hC; go_simp; first | done | (simp; done) | (simp [*]; done) | omega | (simp; omega) | rfl)
            simp only [Act.put, List.setIfInBounds_toArray, List.set_cons_zero, List.set_cons_succ]
            refine qw_run (v := .bool true) (by rfl) ?_ ?_
            · (intro w1 hC; clear hC; go_simp; first | done | (simp; done) | (simp [*]; done) | omega | (simp; omega) | rfl)
            simp only [Act.put, List.setIfInBounds_toArray, List.set_cons_zero, List.set_cons_succ]
            refine qw_run (v := .func (.func 27) #[] #[]) (by rfl) ?_ ?_
            · (intro w1 hC; clear hC; go_simp; first | done | (simp; done) | (simp [*]; done) | omega | (simp; omega) | rfl)
            simp only [Act.put, List.setIfInBounds_toArray, List.set_cons_zero, List.set_cons_succ]
            refine qw_run (v := .slice (some ⟨g, 0, none⟩) n c) (by rfl) ?_ ?_
            · (intro w1 hC; clear hC; go_simp; first | done | (simp; done) | (simp [*]; done) | omega | (simp; omega) | rfl)
            simp only [Act.put, List.setIfInBounds_toArray, List.set_cons_zero, List.set_cons_succ]
            refine qw_run (v := .int .i64 (j : Int)) (by rfl) ?_ ?_
            · (intro w1 hC; clear hC; go_simp; first | done | (simp; done) | (simp [*]; done) | omega | (simp; omega) | rfl)
            simp only [Act.put, List.setIfInBounds_toArray, List.set_cons_zero, List.set_cons_succ]
            refine qw_run (v := .pointer (some ⟨g, j * 4, none⟩)) (by rfl) ?_ ?_
            · (intro w1 hC; clear hC; go_simp; first | done | (simp; done) | (simp [*]; done) | omega | (simp; omega) | rfl)
            simp only [Act.put, List.setIfInBounds_toArray, List.set_cons_zero, List.set_cons_succ]
            refine qw_run (v := .agg #[.int .u64 (hI xx), .int .u64 (lI xx), .int .i64 xn, .int .i64 xh]) (by rfl) ?_ ?_
            · (intro w1 hC; have f0 := (hC.1.cells Hjx.out).1; have f1 := (hC.1.cells Hjx.out).2.1; have f2 := (hC.1.cells Hjx.out).2.2.1; have f3 := (hC.1.cells Hjx.out).2.2.2; clear hC; go_simp; first | done | (simp; done) | (simp [*]; done) | omega | (simp; omega) | rfl)
            simp only [Act.put, List.setIfInBounds_toArray, List.set_cons_zero, List.set_cons_succ]
            refine qw_run (v := .slice (some ⟨g, 0, none⟩) n c) (by rfl) ?_ ?_
            · (intro w1 hC; clear hC; go_simp; first | done | (simp; done) | (simp [*]; done) | omega | (simp; omega) | rfl)
            simp only [Act.put, List.setIfInBounds_toArray, List.set_cons_zero, List.set_cons_succ]
            refine qw_run (v := .int .i64 (j : Int)) (by rfl) ?_ ?_
            · (intro w1 hC; clear hC; go_simp; first | done | (simp; done) | (simp [*]; done) | omega | (simp; omega) | rfl)
            simp only [Act.put, List.setIfInBounds_toArray, List.set_cons_zero, List.set_cons_succ]
            refine qw_run (v := .int .i64 (i : Int)) (by rfl) ?_ ?_
            · (intro w1 hC; clear hC; go_simp; first | done | (simp; done) | (simp [*]; done) | omega | (simp; omega) | rfl)
            simp only [Act.put, List.setIfInBounds_toArray, List.set_cons_zero, List.set_cons_succ]
            refine qw_run (v := .pointer (some ⟨g, i * 4, none⟩)) (by rfl) ?_ ?_
            · (intro w1 hC; clear hC; go_simp; first | done | (simp; done) | (simp [*]; done) | omega | (simp; omega) | rfl)
            simp only [Act.put, List.setIfInBounds_toArray, List.set_cons_zero, List.set_cons_succ]
            refine qw_run (v := .agg #[.int .u64 (hI yx), .int .u64 (lI yx), .int .i64 yn, .int .i64 yh]) (by rfl) ?_ ?_
            · (intro w1 hC; have f0 := (hC.1.cells Hjy.out).1; have f1 := (hC.1.cells Hjy.out).2.1; have f2 := (hC.1.cells Hjy.out).2.2.1; have f3 := (hC.1.cells Hjy.out).2.2.2; clear hC; go_simp; first | done | (simp; done) | (simp [*]; done) | omega | (simp; omega) | rfl)
            simp only [Act.put, List.setIfInBounds_toArray, List.set_cons_zero, List.set_cons_succ]
            refine qw_call (v := .int .i64 z) (f := 27) (args := #[.agg #[.int .u64 (hI xx), .int .u64 (lI xx), .int .i64 xn, .int .i64 xh], .agg #[.int .u64 (hI yx), .int .u64 (lI yx), .int .i64 yn, .int .i64 yh]]) (by rfl) ?_ ?_ ?_
            · (intro w1 hC; clear hC; go_simp)
            · exact fun w1 hC => (KB w1).mono fun e w' ⟨he, hb⟩ => ⟨he, ⟨hC.1.below hb, hC.2.trans (Bt.ofB hb)⟩⟩
            simp only [Act.put, List.setIfInBounds_toArray, List.set_cons_zero, List.set_cons_succ]
            refine qw_run (v := .bool false) (by rfl) ?_ ?_
            · (intro w1 hC; clear hC; go_simp; first | done | (simp; done) | (simp [*]; done) | omega | (simp; omega) | rfl)
            simp only [Act.put, List.setIfInBounds_toArray, List.set_cons_zero, List.set_cons_succ]
            refine qw_run (v := .bool false) (by rfl) ?_ ?_
            · (intro w1 hC; clear hC; go_simp; first | done | (simp; done) | (simp [*]; done) | omega | (simp; omega) | rfl)
            simp only [Act.put, List.setIfInBounds_toArray, List.set_cons_zero, List.set_cons_succ]
            refine qw_nil ?_
            intro w3 hC
            have HC := hidR (And.intro (HF.out _ hC.1) hC.2)
            clear hC HF
            go_wp2
            go_roundw
            case rel => exact ⟨k + 1, revIns st ((xx, xn), xh), by first | rfl | simp, by omega, .inl (by omega), Hst2, hidR HC.out.1, hidR HC.out.2⟩
            case measure => simp [intOf]; omega
    · have HF : Hid (RwO wr base g c n (D.take a ++ isrt ((D.drop a).take (b - a)) ++ D.drop b)) := hidR (by
        have e := HR.out
        by_cases q : k = b
        · subst q
          rw [Hst.out] at e
          exact e
        · have hka : k = a + 1 := by omega
          have hbe : b = a := by omega
          subst hbe
          rw [Hst.out, hka, show b + 1 - b = 1 by omega] at e
          rw [seg_one D b] at e
          have e2 : D.take b ++ isrt ((D.drop b).take (b - b)) ++ D.drop b = D := by
            rw [Nat.sub_self, List.take_zero]
            show D.take b ++ [] ++ D.drop b = _
            rw [List.append_nil, List.take_append_drop]
          rw [e2]; exact e)
      clear HR Hst
      go_wp2
      exact bodyPost_end (v := .tuple #[]) (by simp [results, Tryz.results99, go_sem]) rfl ⟨rfl, by first | exact HF.out | (rw [← List.append_assoc]; exact HF.out), HB.out⟩
end Go.Proofs.YtpiicdpipjjenaaGreatDoor
