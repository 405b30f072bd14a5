/-
  Part 20 of the proof: 1 texts, one behind the other.
-/
import Derived.Test.YtohnhpicjedfeaaPart19
namespace Go.Proofs.Ytohnhpicjedfeaa
open Go.RowKit
set_option linter.unusedSimpArgs false
set_option linter.unusedVariables false
attribute [local go_sem] Oper.semAt_some

theorem at_fst {P X R : List Rte} {t : Nat} (ht : t < X.length) : (P ++ (X ++ R))[P.length + t]? = some X[t] := by
  rw [List.getElem?_append_right (by omega), show P.length + t - P.length = t by omega, List.getElem?_append_left ht]
  exact List.getElem?_eq_getElem ht
set_option maxRecDepth 20000 in
set_option maxHeartbeats 16000000 in
theorem sym2_any (base g c n a m b : Nat) (P X R : List Rte) (y : Rte) (w : World) (h : RwO w base g c n (P ++ (X ++ (y :: R)))) (ha : P.length = a) (hm : a + X.length = m) (hb : b = m + 1) (hX : SrtL X) (hX1 : X.length ≠ 1) (hn : n ≤ 1000000000) :
    Calls Try.prog 71 #[.slice (some ⟨g, 0, none⟩) n c, .int .i64 (a : Int), .int .i64 (m : Int), .int .i64 (b : Int), .func (.func 37) #[] #[]] w fun e w' => e = .returned (.tuple #[]) ∧ (∃ S, RwO w' base g c n (P ++ (S ++ R)) ∧ S.length = X.length + 1 ∧ SrtL S ∧ SameK (X ++ [y]) S) ∧ Bo g w w' := by
  have hl := h.1
  simp only [List.length_append, List.length_cons] at hl
  obtain ⟨xl, hxl⟩ : ∃ xl, xl = X.length := ⟨_, rfl⟩
  rw [← hxl] at hm hX1
  have wm : IntKind.i64.wrap ((m : Int) - (a : Int)) = (xl : Int) := by rw [IntKind.wrap_i64]; omega
  have dm : ((xl : Int) == 1) = false := by simp; omega
  have wb : IntKind.i64.wrap ((b : Int) - (m : Int)) = 1 := by rw [IntKind.wrap_i64]; omega
  have H0 := hidR h
  have HX := hidR hX
  have HL : Hid (xl = X.length ∧ P.length = a) := hidR ⟨hxl, ha⟩
  have Hy : Hid ((P ++ (X ++ (y :: R)))[m]? = some y) := hidR (by
    rw [List.getElem?_append_right (by omega), List.getElem?_append_right (by omega), show m - P.length - X.length = 0 by omega]; rfl)
  have hmn : m < n := by omega
  have Hm : Hid (m = a + xl) := hidR hm.symm
  clear h hl hxl ha hX
  go_enter Try.func71, Try.ntmps71
  clear hm hb hX1
  go_wp2_with fail
  go_loopw [14, 15] (fun iv jv wr => ∃ i j : Nat, iv = .int .i64 ((a + i : Nat) : Int) ∧ jv = .int .i64 ((a + j : Nat) : Int) ∧ i ≤ j ∧ j ≤ xl ∧ Hid ((∀ (t : Nat) (ht : t < X.length), t < i → ¬ kl y X[t]) ∧ (∀ (t : Nat) (ht : t < X.length), j ≤ t → kl y X[t])) ∧ Hid (RwO wr base g c n (P ++ (X ++ (y :: R)))) ∧ Hid (Bo g w wr)) (fun iv jv _ => (intOf jv).toNat - (intOf iv).toNat)
  case atStart => exact ⟨0, xl, rfl, by rw [Hm.out], by omega, by omega, hidR ⟨fun t ht q => by omega, fun t ht q => by have := HL.out.1; omega⟩, H0, hidR (Bt.refl _ _)⟩
  case round =>
    clear H0
    obtain ⟨i, j, rfl, rfl, hij, hjy, HI, HR, HB⟩ := hrel
    obtain ⟨mi, hmi⟩ : ∃ mi, mi = a + i := ⟨_, rfl⟩
    obtain ⟨mj, hmj⟩ : ∃ mj, mj = a + j := ⟨_, rfl⟩
    rw [← hmi, ← hmj]
    by_cases hlt : (mi : Int) < (mj : Int)
    · obtain ⟨q, hq⟩ : ∃ q, q = (mi + mj) / 2 - a := ⟨_, rfl⟩
      obtain ⟨h, hh⟩ : ∃ h, h = (mi + mj) / 2 := ⟨_, rfl⟩
      have hqy : q < X.length := by have := HL.out.1; have := Hm.out; omega
      have hhn : h < n := by have := Hm.out; omega
      have hw1 : IntKind.i64.wrap ((mi : Int) + (mj : Int)) = (mi : Int) + (mj : Int) := by rw [IntKind.wrap_i64]; have := Hm.out; omega
      have hw2 : IntKind.u64.wrap ((mi : Int) + (mj : Int)) = (mi : Int) + (mj : Int) := by rw [IntKind.wrap_u64]; have := Hm.out; omega
      have hqi : ((mi : Int) + (mj : Int)) / 2 = (h : Int) := by omega
      have h0 : (0 : Int) ≤ (h : Int) := by omega
      have h1 : (h : Int) < (n : Int) := by omega
      have a0 : (0 : Int) ≤ (m : Int) := by omega
      have a1 : (m : Int) < (n : Int) := by omega
      have whz : IntKind.i64.wrap (h : Int) = (h : Int) := by rw [IntKind.wrap_i64]; omega
      have wh1 : IntKind.i64.wrap ((h : Int) + 1) = ((h + 1 : Nat) : Int) := by rw [IntKind.wrap_i64]; push_cast; omega
      have Hh : Hid ((P ++ (X ++ (y :: R)))[h]? = some X[q]) := hidR (by
        have := at_fst (P := P) (X := X) (R := y :: R) hqy
        have e := HL.out.2
        rw [show P.length + q = h by omega] at this
        exact this)
      have Hge : Hid (¬ kl y X[q] → ∀ (t : Nat) (ht : t < X.length), t < q + 1 → ¬ kl y X[t]) := hidR (fun k t ht h q2 => k (kl_lt_le q2 (srt_get HX.out (by omega) hqy)))
      have Hlt : Hid (kl y X[q] → ∀ (t : Nat) (ht : t < X.length), q ≤ t → kl y X[t]) := hidR (fun k t ht h => kl_lt_le k (srt_get HX.out h ht))
      have KB := fun w => byPrefix_any y.1.1 y.1.2 y.2 X[q].1.1 X[q].1.2 X[q].2 w
      have Hz : Hid (pcmpZ y.1.1 y.1.2 X[q].1.1 X[q].1.2 < 0 ↔ kl y X[q]) := hidR (cm_kl y X[q])
      have HQ : Hid (h = a + q ∧ i ≤ q ∧ q < j ∧ mi = a + i ∧ mj = a + j) := hidR ⟨by omega, by omega, by omega, hmi, hmj⟩
      have HC : Hid (RwO wr.drew base g c n (P ++ (X ++ (y :: R))) ∧ Bo g w wr.drew) := hidR ⟨HR.out.below (below_drewN (Below.refl _ _) 1), HB.out.trans (Bt.ofB (below_drewN (Below.refl _ _) 1))⟩
      clear HR HB hq hh hmi hmj
      revert Hh Hlt Hge KB Hz
      generalize pcmpZ y.1.1 y.1.2 X[q].1.1 X[q].1.2 = z
      generalize X[q] = rh
      intro Hh Hge Hlt KB Hz
      go_wp2_with fail
      by_cases hz : z < 0
      · have HI2 := hidR (And.intro HI.out.1 (Hlt.out (Hz.out.1 hz)))
        refine qw_region (C := fun X9 => RwO X9 base g c n (P ++ (X ++ (y :: R))) ∧ Bo g w X9) (by kernel_rfl) (by kernel_rfl) HC.out ?_
        clear HC Hlt Hge HI
        refine qw_run (v := .func (.func 37) #[] #[]) (by rfl) ?_ ?_
        · (intro w1 hC; clear hC; go_simp; first | done | (simp; done) | (simp [*]; done) | omega | (simp; omega) | rfl)
        simp only [Act.put, List.setIfInBounds_toArray, List.set_cons_zero, List.set_cons_succ]
        refine qw_run (v := .slice (some ⟨g, 0, none⟩) n c) (by rfl) ?_ ?_
        · (intro w1 hC; clear hC; go_simp; first | done | (simp; done) | (simp [*]; done) | omega | (simp; omega) | rfl)
        simp only [Act.put, List.setIfInBounds_toArray, List.set_cons_zero, List.set_cons_succ]
        refine qw_run (v := .int .i64 (m : Int)) (by rfl) ?_ ?_
        · (intro w1 hC; clear hC; go_simp; first | done | (simp; done) | (simp [*]; done) | omega | (simp; omega) | rfl)
        simp only [Act.put, List.setIfInBounds_toArray, List.set_cons_zero, List.set_cons_succ]
        refine qw_run (v := .pointer (some ⟨g, m * 4, none⟩)) (by rfl) ?_ ?_
        · (intro w1 hC; clear hC; go_simp; first | done | (simp; done) | (simp [*]; done) | omega | (simp; omega) | rfl)
        simp only [Act.put, List.setIfInBounds_toArray, List.set_cons_zero, List.set_cons_succ]
        refine qw_run (v := .agg #[.int .u64 (hI y.1.1), .int .u64 (lI y.1.1), .int .i64 y.1.2, .int .i64 y.2]) (by rfl) ?_ ?_
        · (intro w1 hC; have f0 := (hC.1.cells Hy.out).1; have f1 := (hC.1.cells Hy.out).2.1; have f2 := (hC.1.cells Hy.out).2.2.1; have f3 := (hC.1.cells Hy.out).2.2.2; clear hC; go_simp; first | done | (simp; done) | (simp [*]; done) | omega | (simp; omega) | rfl)
        simp only [Act.put, List.setIfInBounds_toArray, List.set_cons_zero, List.set_cons_succ]
        refine qw_run (v := .slice (some ⟨g, 0, none⟩) n c) (by rfl) ?_ ?_
        · (intro w1 hC; clear hC; go_simp; first | done | (simp; done) | (simp [*]; done) | omega | (simp; omega) | rfl)
        simp only [Act.put, List.setIfInBounds_toArray, List.set_cons_zero, List.set_cons_succ]
        refine qw_run (v := .int .i64 (h : Int)) (by rfl) ?_ ?_
        · (intro w1 hC; clear hC; go_simp; first | done | (simp; done) | (simp [*]; done) | omega | (simp; omega) | rfl)
        simp only [Act.put, List.setIfInBounds_toArray, List.set_cons_zero, List.set_cons_succ]
        refine qw_run (v := .pointer (some ⟨g, h * 4, none⟩)) (by rfl) ?_ ?_
        · (intro w1 hC; clear hC; go_simp; first | done | (simp; done) | (simp [*]; done) | omega | (simp; omega) | rfl)
        simp only [Act.put, List.setIfInBounds_toArray, List.set_cons_zero, List.set_cons_succ]
        refine qw_run (v := .agg #[.int .u64 (hI rh.1.1), .int .u64 (lI rh.1.1), .int .i64 rh.1.2, .int .i64 rh.2]) (by rfl) ?_ ?_
        · (intro w1 hC; have f0 := (hC.1.cells Hh.out).1; have f1 := (hC.1.cells Hh.out).2.1; have f2 := (hC.1.cells Hh.out).2.2.1; have f3 := (hC.1.cells Hh.out).2.2.2; clear hC; go_simp; first | done | (simp; done) | (simp [*]; done) | omega | (simp; omega) | rfl)
        simp only [Act.put, List.setIfInBounds_toArray, List.set_cons_zero, List.set_cons_succ]
        refine qw_call (v := .int .i64 z) (f := 37) (args := #[.agg #[.int .u64 (hI y.1.1), .int .u64 (lI y.1.1), .int .i64 y.1.2, .int .i64 y.2], .agg #[.int .u64 (hI rh.1.1), .int .u64 (lI rh.1.1), .int .i64 rh.1.2, .int .i64 rh.2]]) (by rfl) ?_ ?_ ?_
        · (intro w1 hC; clear hC; go_simp)
        · exact fun w1 hC => (KB w1).mono fun e w' ⟨he, hb⟩ => ⟨he, ⟨hC.1.below hb, hC.2.trans (Bt.ofB hb)⟩⟩
        simp only [Act.put, List.setIfInBounds_toArray, List.set_cons_zero, List.set_cons_succ]
        refine qw_run (v := .bool true) (by rfl) ?_ ?_
        · (intro w1 hC; clear hC; go_simp; first | done | (simp; done) | (simp [*]; done) | omega | (simp; omega) | rfl)
        simp only [Act.put, List.setIfInBounds_toArray, List.set_cons_zero, List.set_cons_succ]
        refine qw_run (v := .bool false) (by rfl) ?_ ?_
        · (intro w1 hC; clear hC; go_simp; first | done | (simp; done) | (simp [*]; done) | omega | (simp; omega) | rfl)
        simp only [Act.put, List.setIfInBounds_toArray, List.set_cons_zero, List.set_cons_succ]
        refine qw_nil ?_
        intro w3 hC
        have HR3 := hidR hC.1
        have HB3 := hidR hC.2
        clear hC KB hz
        go_wp2
        go_roundw
        case rel => exact ⟨i, q, by rw [HQ.out.2.2.2.1], by rw [HQ.out.1], by have := HQ.out; omega, by have := HQ.out; omega, HI2, HR3, HB3⟩
        case measure => have := HQ.out; simp [intOf]; omega
      · have HI2 := hidR (And.intro (Hge.out (fun k => hz (Hz.out.2 k))) HI.out.2)
        refine qw_region (C := fun X9 => RwO X9 base g c n (P ++ (X ++ (y :: R))) ∧ Bo g w X9) (by kernel_rfl) (by kernel_rfl) HC.out ?_
        clear HC Hlt Hge HI
        refine qw_run (v := .func (.func 37) #[] #[]) (by rfl) ?_ ?_
        · (intro w1 hC; clear hC; go_simp; first | done | (simp; done) | (simp [*]; done) | omega | (simp; omega) | rfl)
        simp only [Act.put, List.setIfInBounds_toArray, List.set_cons_zero, List.set_cons_succ]
        refine qw_run (v := .slice (some ⟨g, 0, none⟩) n c) (by rfl) ?_ ?_
        · (intro w1 hC; clear hC; go_simp; first | done | (simp; done) | (simp [*]; done) | omega | (simp; omega) | rfl)
        simp only [Act.put, List.setIfInBounds_toArray, List.set_cons_zero, List.set_cons_succ]
        refine qw_run (v := .int .i64 (m : Int)) (by rfl) ?_ ?_
        · (intro w1 hC; clear hC; go_simp; first | done | (simp; done) | (simp [*]; done) | omega | (simp; omega) | rfl)
        simp only [Act.put, List.setIfInBounds_toArray, List.set_cons_zero, List.set_cons_succ]
        refine qw_run (v := .pointer (some ⟨g, m * 4, none⟩)) (by rfl) ?_ ?_
        · (intro w1 hC; clear hC; go_simp; first | done | (simp; done) | (simp [*]; done) | omega | (simp; omega) | rfl)
        simp only [Act.put, List.setIfInBounds_toArray, List.set_cons_zero, List.set_cons_succ]
        refine qw_run (v := .agg #[.int .u64 (hI y.1.1), .int .u64 (lI y.1.1), .int .i64 y.1.2, .int .i64 y.2]) (by rfl) ?_ ?_
        · (intro w1 hC; have f0 := (hC.1.cells Hy.out).1; have f1 := (hC.1.cells Hy.out).2.1; have f2 := (hC.1.cells Hy.out).2.2.1; have f3 := (hC.1.cells Hy.out).2.2.2; clear hC; go_simp; first | done | (simp; done) | (simp [*]; done) | omega | (simp; omega) | rfl)
        simp only [Act.put, List.setIfInBounds_toArray, List.set_cons_zero, List.set_cons_succ]
        refine qw_run (v := .slice (some ⟨g, 0, none⟩) n c) (by rfl) ?_ ?_
        · (intro w1 hC; clear hC; go_simp; first | done | (simp; done) | (simp [*]; done) | omega | (simp; omega) | rfl)
        simp only [Act.put, List.setIfInBounds_toArray, List.set_cons_zero, List.set_cons_succ]
        refine qw_run (v := .int .i64 (h : Int)) (by rfl) ?_ ?_
        · (intro w1 hC; clear hC; go_simp; first | done | (simp; done) | (simp [*]; done) | omega | (simp; omega) | rfl)
        simp only [Act.put, List.setIfInBounds_toArray, List.set_cons_zero, List.set_cons_succ]
        refine qw_run (v := .pointer (some ⟨g, h * 4, none⟩)) (by rfl) ?_ ?_
        · (intro w1 hC; clear hC; go_simp; first | done | (simp; done) | (simp [*]; done) | omega | (simp; omega) | rfl)
        simp only [Act.put, List.setIfInBounds_toArray, List.set_cons_zero, List.set_cons_succ]
        refine qw_run (v := .agg #[.int .u64 (hI rh.1.1), .int .u64 (lI rh.1.1), .int .i64 rh.1.2, .int .i64 rh.2]) (by rfl) ?_ ?_
        · (intro w1 hC; have f0 := (hC.1.cells Hh.out).1; have f1 := (hC.1.cells Hh.out).2.1; have f2 := (hC.1.cells Hh.out).2.2.1; have f3 := (hC.1.cells Hh.out).2.2.2; clear hC; go_simp; first | done | (simp; done) | (simp [*]; done) | omega | (simp; omega) | rfl)
        simp only [Act.put, List.setIfInBounds_toArray, List.set_cons_zero, List.set_cons_succ]
        refine qw_call (v := .int .i64 z) (f := 37) (args := #[.agg #[.int .u64 (hI y.1.1), .int .u64 (lI y.1.1), .int .i64 y.1.2, .int .i64 y.2], .agg #[.int .u64 (hI rh.1.1), .int .u64 (lI rh.1.1), .int .i64 rh.1.2, .int .i64 rh.2]]) (by rfl) ?_ ?_ ?_
        · (intro w1 hC; clear hC; go_simp)
        · exact fun w1 hC => (KB w1).mono fun e w' ⟨he, hb⟩ => ⟨he, ⟨hC.1.below hb, hC.2.trans (Bt.ofB hb)⟩⟩
        simp only [Act.put, List.setIfInBounds_toArray, List.set_cons_zero, List.set_cons_succ]
        refine qw_run (v := .bool false) (by rfl) ?_ ?_
        · (intro w1 hC; clear hC; go_simp; first | done | (simp; done) | (simp [*]; done) | omega | (simp; omega) | rfl)
        simp only [Act.put, List.setIfInBounds_toArray, List.set_cons_zero, List.set_cons_succ]
        refine qw_run (v := .bool true) (by rfl) ?_ ?_
        · (intro w1 hC; clear hC; go_simp; first | done | (simp; done) | (simp [*]; done) | omega | (simp; omega) | rfl)
        simp only [Act.put, List.setIfInBounds_toArray, List.set_cons_zero, List.set_cons_succ]
        refine qw_nil ?_
        intro w3 hC
        have HR3 := hidR hC.1
        have HB3 := hidR hC.2
        clear hC KB hz
        go_wp2
        go_roundw
        case rel => exact ⟨q + 1, j, by rw [HQ.out.1]; first | rfl | simp | (push_cast; rw [Int.add_assoc]), by rw [HQ.out.2.2.2.2], by have := HQ.out; omega, hjy, HI2, HR3, HB3⟩
        case measure => have := HQ.out; simp [intOf]; omega
    · obtain rfl : i = j := by omega
      have HS : Hid ((∀ x ∈ X.take i, ¬ kl y x) ∧ (∀ x ∈ X.drop i, kl y x)) := hidR (by
        refine ⟨fun x hx => ?_, fun x hx => ?_⟩
        · obtain ⟨t, ht, e⟩ := List.mem_iff_getElem.mp hx
          rw [List.getElem_take] at e
          rw [List.length_take] at ht
          rw [← e]; exact HI.out.1 t (by omega) (by omega)
        · obtain ⟨t, ht, e⟩ := List.mem_iff_getElem.mp hx
          rw [List.getElem_drop] at e
          rw [List.length_drop] at ht
          rw [← e]; exact HI.out.2 (i + t) (by omega) (by omega))
      have Hi : Hid (mi = a + i ∧ i ≤ X.length) := hidR ⟨hmi, by have := HL.out.1; omega⟩
      have hmm : mj = mi := by omega
      subst hmm
      have HR1 : Hid (RwO wr base g c n (P ++ (X.take xl ++ (y :: (X.drop xl ++ R))))) := hidR (by
        rw [HL.out.1, List.take_length, List.drop_length, List.nil_append]; exact HR.out)
      clear hmi hmj HI hlt HR
      go_wp2_with fail
      go_loopw [17] (fun kv wr => ∃ s : Nat, s ≤ xl ∧ i ≤ s ∧ kv = .int .i64 ((a + s : Nat) : Int) ∧ Hid (RwO wr base g c n (P ++ (X.take s ++ (y :: (X.drop s ++ R))))) ∧ Hid (Bo g w wr)) (fun kv _ => (intOf kv).toNat)
      case atStart => exact ⟨xl, Nat.le_refl _, hjy, by rw [Hm.out], HR1, HB⟩
      case round =>
        clear HR1 HB
        obtain ⟨s1, hs1, hs2, rfl, HR, HB⟩ := hrel
        by_cases hsi : s1 = i
        · subst hsi
          obtain ⟨i1, i2⟩ := ins_right (X1 := X.take s1) (X2 := X.drop s1) (y := y) (by rw [List.take_append_drop]; exact HX.out) HS.out.2 HS.out.1
          rw [List.take_append_drop] at i2
          have HF : Hid (∃ S, RwO wr base g c n (P ++ (S ++ R)) ∧ S.length = X.length + 1 ∧ SrtL S ∧ SameK (X ++ [y]) S) := hidR ⟨X.take s1 ++ y :: X.drop s1, by have := HR.out; simpa using this, by simp; have := Hi.out.2; omega, i1, i2⟩
          rw [← Hi.out.1]
          have hk : ¬ (mj : Int) < (mj : Int) := by omega
          clear HR i1 i2
          go_wp2
          exact bodyPost_ret (v := .tuple #[]) (by simp [results, Try.results71, go_sem]) rfl ⟨rfl, HF.out, HB.out⟩
        · obtain ⟨s, rfl⟩ : ∃ s, s1 = s + 1 := ⟨s1 - 1, by omega⟩
          obtain ⟨kq, hkq⟩ : ∃ kq, kq = a + s := ⟨_, rfl⟩
          obtain ⟨kp, hkp⟩ : ∃ kp, kp = kq + 1 := ⟨_, rfl⟩
          rw [show a + (s + 1) = kp by omega]
          have hka : (mj : Int) < (kp : Int) := by have := Hi.out; omega
          have hsy : s < X.length := by have := HL.out.1; omega
          obtain ⟨rx, hrx⟩ : ∃ rx, rx = y := ⟨_, rfl⟩
          obtain ⟨ry, hry⟩ : ∃ ry, ry = X[s] := ⟨_, rfl⟩
          have htl : (X.take s).length = s := by rw [List.length_take]; omega
          have htk : X.take (s + 1) = X.take s ++ [ry] := by rw [hry]; exact List.take_succ_eq_append_getElem hsy
          have hdr : X.drop s = ry :: X.drop (s + 1) := by rw [hry]; exact List.drop_eq_getElem_cons hsy
          have hpn : kp < n := by have := Hm.out; omega
          have hqn : kq < n := by omega
          have e1 : P ++ (X.take (s + 1) ++ (y :: (X.drop (s + 1) ++ R))) = ((P ++ X.take s) ++ [ry]) ++ (rx :: (X.drop (s + 1) ++ R)) := by rw [htk, hrx]; simp
          have hpl : (P ++ X.take s).length = kq := by rw [List.length_append, htl]; have := HL.out.2; omega
          have Hqy : Hid ((P ++ (X.take (s + 1) ++ (y :: (X.drop (s + 1) ++ R))))[kq]? = some ry) := hidR (by
            rw [e1, List.getElem?_append_left (by simp only [List.length_append, List.length_singleton] at hpl ⊢; omega), List.getElem?_append_right (by omega), hpl, Nat.sub_self]; rfl)
          have Hpx : Hid ((P ++ (X.take (s + 1) ++ (y :: (X.drop (s + 1) ++ R))))[kp]? = some rx) := hidR (by
            rw [e1, List.getElem?_append_right (by rw [List.length_append, hpl]; simp; omega), List.length_append, hpl, hkp]; simp)
          have Hqm : Hid (((P ++ (X.take (s + 1) ++ (y :: (X.drop (s + 1) ++ R)))).set kp ry)[kq]? = some ry) := hidR (by rw [List.getElem?_set_ne (by omega)]; exact Hqy.out)
          have HSw : Hid (((P ++ (X.take (s + 1) ++ (y :: (X.drop (s + 1) ++ R)))).set kp ry).set kq rx = P ++ (X.take s ++ (y :: (X.drop s ++ R)))) := hidR (by
            have e2 : P ++ (X.take s ++ (y :: (X.drop s ++ R))) = (P ++ X.take s) ++ rx :: ry :: (X.drop (s + 1) ++ R) := by rw [hdr, hrx]; simp
            rw [e2, e1, hkp, ← hpl]
            rw [List.append_assoc]
            rw [List.set_append_right _ _ (by omega), List.set_append_right _ _ (Nat.le_refl _)]
            simp)
          have wk : IntKind.i64.wrap ((kp : Int) - 1) = (kq : Int) := by rw [IntKind.wrap_i64]; omega
          have p0 : (0 : Int) ≤ (kp : Int) := by omega
          have q0 : (0 : Int) ≤ (kq : Int) := by omega
          have p1 : (kp : Int) < (n : Int) := by omega
          have q1 : (kq : Int) < (n : Int) := by omega
          have HC0 : Hid (RwO wr.drew base g c n (P ++ (X.take (s + 1) ++ (y :: (X.drop (s + 1) ++ R)))) ∧ Bo g w wr.drew) := hidR ⟨HR.out.below (below_drewN (Below.refl _ _) 1), HB.out.trans (Bt.ofB (below_drewN (Below.refl _ _) 1))⟩
          have Hkp : Hid (kp = kq + 1 ∧ kq = a + s) := hidR ⟨hkp, hkq⟩
          clear HR HB hrx hry htl htk hdr e1 hpl hkp hkq
          go_wp2_with fail
          refine gh_region (γ := Unit) (qpOk 18 18 (by decide) (fun N => by kernel_rfl) (by kernel_rfl) (by kernel_rfl) (by kernel_rfl) (by kernel_rfl)) (by kernel_rfl) (by kernel_rfl) [some 113, some 114, some 115, some 116, some 117, some 118, some 119, some 120, some 121, some 122, some 123, some 124, some 125, some 126, some 127, none, some 128, none] (fun _ => [.slice (some ⟨g, 0, none⟩) n c, .int .i64 (kp : Int), .slice (some ⟨g, 0, none⟩) n c, .int .i64 (kp : Int), .int .i64 (kq : Int), .slice (some ⟨g, 0, none⟩) n c, .int .i64 (kp : Int), .int .i64 (kq : Int), .pointer (some ⟨g, kq * 4, none⟩), .agg #[.int .u64 (hI ry.1.1), .int .u64 (lI ry.1.1), .int .i64 ry.1.2, .int .i64 ry.2], .slice (some ⟨g, 0, none⟩) n c, .int .i64 (kp : Int), .pointer (some ⟨g, kp * 4, none⟩), .agg #[.int .u64 (hI rx.1.1), .int .u64 (lI rx.1.1), .int .i64 rx.1.2, .int .i64 rx.2], .pointer (some ⟨g, kp * 4, none⟩), undef, .pointer (some ⟨g, kq * 4, none⟩), undef]) (by kernel_rfl) (by simp) (fun lp _ W => R4 9 13 15 17 (fun X9 => RwO X9 base g c n (P ++ (X.take (s + 1) ++ (y :: (X.drop (s + 1) ++ R)))) ∧ Bo g w X9) (fun X9 => RwO X9 base g c n ((P ++ (X.take (s + 1) ++ (y :: (X.drop (s + 1) ++ R)))).set kp ry) ∧ Bo g w X9) (fun X9 => RwO X9 base g c n (((P ++ (X.take (s + 1) ++ (y :: (X.drop (s + 1) ++ R)))).set kp ry).set kq rx) ∧ Bo g w X9) (fun j => lp.getD j false) W) () (R4.start HC0.out (fun j => by simp [Array.getElem?_replicate]; split <;> rfl)) ?step ?fin
          case step =>
            intro q o lp g9 w' a' ho hsz hun hdep hR hS K Q' hK
            have hfl : ∀ j, j ≠ q → (lp.setIfInBounds q true).getD j false = lp.getD j false := fun j hj => by rw [Array.getD_eq_getD_getElem?, Array.getD_eq_getD_getElem?, Array.getElem?_setIfInBounds_ne (by omega)]
            have hq : q < 18 := (List.getElem?_eq_some_iff.mp ho).1
            have hft : (lp.setIfInBounds q true).getD q false = true := getD_set_same (by rw [hsz]; exact hq)
            match q, ho, hun, hdep, hK, hfl, hft, hq with
            | 0, ho, hun, hdep, hK, hfl, hft, _ =>
              obtain rfl := Option.some.inj ho
              have o0 : a'.tmps[0]? = some (.slice (some ⟨g, 0, none⟩) n c) := (hS.old5 0 (by simp)).trans rfl
              have hK' := hK g9 w' (fun _ _ _ _ _ _ => rfl) (hR.quiet (i := 0) (by decide) (by decide) hft hfl) (.slice (some ⟨g, 0, none⟩) n c) (by simp only [valO, Option.bind_some]; simp only [putAll, Act.put, List.setIfInBounds_toArray, List.set_cons_zero, List.set_cons_succ]; rfl)
              clear hS hdep hR
              refine gh_quiet5 (v := .slice (some ⟨g, 0, none⟩) n c) ?_ ?_
              · (simp only [execOp, Act.eval, o0]; go_simp; first | done | (simp; done) | (simp [*]; done) | omega | (simp; omega))
              · exact hK'
            | 1, ho, hun, hdep, hK, hfl, hft, _ =>
              obtain rfl := Option.some.inj ho
              have o17 : a'.tmps[17]? = some (.int .i64 (kp : Int)) := (hS.old5 17 (by simp)).trans rfl
              have hK' := hK g9 w' (fun _ _ _ _ _ _ => rfl) (hR.quiet (i := 1) (by decide) (by decide) hft hfl) (.int .i64 (kp : Int)) (by simp only [valO, Option.bind_some]; simp only [putAll, Act.put, List.setIfInBounds_toArray, List.set_cons_zero, List.set_cons_succ]; rfl)
              clear hS hdep hR
              refine gh_quiet5 (v := .int .i64 (kp : Int)) ?_ ?_
              · (simp only [execOp, Act.eval, o17]; go_simp; first | done | (simp; done) | (simp [*]; done) | omega | (simp; omega))
              · exact hK'
            | 2, ho, hun, hdep, hK, hfl, hft, _ =>
              obtain rfl := Option.some.inj ho
              have o0 : a'.tmps[0]? = some (.slice (some ⟨g, 0, none⟩) n c) := (hS.old5 0 (by simp)).trans rfl
              have hK' := hK g9 w' (fun _ _ _ _ _ _ => rfl) (hR.quiet (i := 2) (by decide) (by decide) hft hfl) (.slice (some ⟨g, 0, none⟩) n c) (by simp only [valO, Option.bind_some]; simp only [putAll, Act.put, List.setIfInBounds_toArray, List.set_cons_zero, List.set_cons_succ]; rfl)
              clear hS hdep hR
              refine gh_quiet5 (v := .slice (some ⟨g, 0, none⟩) n c) ?_ ?_
              · (simp only [execOp, Act.eval, o0]; go_simp; first | done | (simp; done) | (simp [*]; done) | omega | (simp; omega))
              · exact hK'
            | 3, ho, hun, hdep, hK, hfl, hft, _ =>
              obtain rfl := Option.some.inj ho
              have o17 : a'.tmps[17]? = some (.int .i64 (kp : Int)) := (hS.old5 17 (by simp)).trans rfl
              have hK' := hK g9 w' (fun _ _ _ _ _ _ => rfl) (hR.quiet (i := 3) (by decide) (by decide) hft hfl) (.int .i64 (kp : Int)) (by simp only [valO, Option.bind_some]; simp only [putAll, Act.put, List.setIfInBounds_toArray, List.set_cons_zero, List.set_cons_succ]; rfl)
              clear hS hdep hR
              refine gh_quiet5 (v := .int .i64 (kp : Int)) ?_ ?_
              · (simp only [execOp, Act.eval, o17]; go_simp; first | done | (simp; done) | (simp [*]; done) | omega | (simp; omega))
              · exact hK'
            | 4, ho, hun, hdep, hK, hfl, hft, _ =>
              obtain rfl := Option.some.inj ho
              have d3 : lp.getD 3 false = true := hdep { on := 3, ground := .data } (by simp) rfl
              have e116 : a'.tmps[116]? = some (.int .i64 (kp : Int)) := (hS.don 3 _ 116 rfl d3 rfl).trans (by simp only [putAll, Act.put, List.setIfInBounds_toArray, List.set_cons_zero, List.set_cons_succ]; rfl)
              have hK' := hK g9 w' (fun _ _ _ _ _ _ => rfl) (hR.quiet (i := 4) (by decide) (by decide) hft hfl) (.int .i64 (kq : Int)) (by simp only [valO, Option.bind_some]; simp only [putAll, Act.put, List.setIfInBounds_toArray, List.set_cons_zero, List.set_cons_succ]; rfl)
              clear hS hdep hR
              refine gh_quiet5 (v := .int .i64 (kq : Int)) ?_ ?_
              · (simp only [execOp, Act.eval, e116]; go_simp; first | done | (simp; done) | (simp [*]; done) | omega | (simp; omega))
              · exact hK'
            | 5, ho, hun, hdep, hK, hfl, hft, _ =>
              obtain rfl := Option.some.inj ho
              have o0 : a'.tmps[0]? = some (.slice (some ⟨g, 0, none⟩) n c) := (hS.old5 0 (by simp)).trans rfl
              have hK' := hK g9 w' (fun _ _ _ _ _ _ => rfl) (hR.quiet (i := 5) (by decide) (by decide) hft hfl) (.slice (some ⟨g, 0, none⟩) n c) (by simp only [valO, Option.bind_some]; simp only [putAll, Act.put, List.setIfInBounds_toArray, List.set_cons_zero, List.set_cons_succ]; rfl)
              clear hS hdep hR
              refine gh_quiet5 (v := .slice (some ⟨g, 0, none⟩) n c) ?_ ?_
              · (simp only [execOp, Act.eval, o0]; go_simp; first | done | (simp; done) | (simp [*]; done) | omega | (simp; omega))
              · exact hK'
            | 6, ho, hun, hdep, hK, hfl, hft, _ =>
              obtain rfl := Option.some.inj ho
              have o17 : a'.tmps[17]? = some (.int .i64 (kp : Int)) := (hS.old5 17 (by simp)).trans rfl
              have hK' := hK g9 w' (fun _ _ _ _ _ _ => rfl) (hR.quiet (i := 6) (by decide) (by decide) hft hfl) (.int .i64 (kp : Int)) (by simp only [valO, Option.bind_some]; simp only [putAll, Act.put, List.setIfInBounds_toArray, List.set_cons_zero, List.set_cons_succ]; rfl)
              clear hS hdep hR
              refine gh_quiet5 (v := .int .i64 (kp : Int)) ?_ ?_
              · (simp only [execOp, Act.eval, o17]; go_simp; first | done | (simp; done) | (simp [*]; done) | omega | (simp; omega))
              · exact hK'
            | 7, ho, hun, hdep, hK, hfl, hft, _ =>
              obtain rfl := Option.some.inj ho
              have d6 : lp.getD 6 false = true := hdep { on := 6, ground := .data } (by simp) rfl
              have e119 : a'.tmps[119]? = some (.int .i64 (kp : Int)) := (hS.don 6 _ 119 rfl d6 rfl).trans (by simp only [putAll, Act.put, List.setIfInBounds_toArray, List.set_cons_zero, List.set_cons_succ]; rfl)
              have hK' := hK g9 w' (fun _ _ _ _ _ _ => rfl) (hR.quiet (i := 7) (by decide) (by decide) hft hfl) (.int .i64 (kq : Int)) (by simp only [valO, Option.bind_some]; simp only [putAll, Act.put, List.setIfInBounds_toArray, List.set_cons_zero, List.set_cons_succ]; rfl)
              clear hS hdep hR
              refine gh_quiet5 (v := .int .i64 (kq : Int)) ?_ ?_
              · (simp only [execOp, Act.eval, e119]; go_simp; first | done | (simp; done) | (simp [*]; done) | omega | (simp; omega))
              · exact hK'
            | 8, ho, hun, hdep, hK, hfl, hft, _ =>
              obtain rfl := Option.some.inj ho
              have d5 : lp.getD 5 false = true := hdep { on := 5, ground := .data } (by simp) rfl
              have e118 : a'.tmps[118]? = some (.slice (some ⟨g, 0, none⟩) n c) := (hS.don 5 _ 118 rfl d5 rfl).trans (by simp only [putAll, Act.put, List.setIfInBounds_toArray, List.set_cons_zero, List.set_cons_succ]; rfl)
              have d7 : lp.getD 7 false = true := hdep { on := 7, ground := .data } (by simp) rfl
              have e120 : a'.tmps[120]? = some (.int .i64 (kq : Int)) := (hS.don 7 _ 120 rfl d7 rfl).trans (by simp only [putAll, Act.put, List.setIfInBounds_toArray, List.set_cons_zero, List.set_cons_succ]; rfl)
              have hK' := hK g9 w' (fun _ _ _ _ _ _ => rfl) (hR.quiet (i := 8) (by decide) (by decide) hft hfl) (.pointer (some ⟨g, kq * 4, none⟩)) (by simp only [valO, Option.bind_some]; simp only [putAll, Act.put, List.setIfInBounds_toArray, List.set_cons_zero, List.set_cons_succ]; rfl)
              clear hS hdep hR
              refine gh_quiet5 (v := .pointer (some ⟨g, kq * 4, none⟩)) ?_ ?_
              · (simp only [execOp, Act.eval, e118, e120]; go_simp; first | done | (simp; done) | (simp [*]; done) | omega | (simp; omega))
              · exact hK'
            | 9, ho, hun, hdep, hK, hfl, hft, _ =>
              obtain rfl := Option.some.inj ho
              have d8 : lp.getD 8 false = true := hdep { on := 8, ground := .data } (by simp) rfl
              have e121 : a'.tmps[121]? = some (.pointer (some ⟨g, kq * 4, none⟩)) := (hS.don 8 _ 121 rfl d8 rfl).trans (by simp only [putAll, Act.put, List.setIfInBounds_toArray, List.set_cons_zero, List.set_cons_succ]; rfl)
              have hB := hR.loadm hun
              have u0 := (hB.1.cells Hqy.out).1
              have u1 := (hB.1.cells Hqy.out).2.1
              have u2 := (hB.1.cells Hqy.out).2.2.1
              have u3 := (hB.1.cells Hqy.out).2.2.2
              clear hB
              have hK' := hK g9 w' (fun _ _ _ _ _ _ => rfl) (hR.quiet (i := 9) (by decide) (by decide) hft hfl) (.agg #[.int .u64 (hI ry.1.1), .int .u64 (lI ry.1.1), .int .i64 ry.1.2, .int .i64 ry.2]) (by simp only [valO, Option.bind_some]; simp only [putAll, Act.put, List.setIfInBounds_toArray, List.set_cons_zero, List.set_cons_succ]; rfl)
              clear hS hdep hR
              refine gh_quiet5 (v := .agg #[.int .u64 (hI ry.1.1), .int .u64 (lI ry.1.1), .int .i64 ry.1.2, .int .i64 ry.2]) ?_ ?_
              · (simp only [execOp, Act.eval, e121]; go_simp; first | done | (simp; done) | (simp [*]; done) | omega | (simp; omega))
              · exact hK'
            | 10, ho, hun, hdep, hK, hfl, hft, _ =>
              obtain rfl := Option.some.inj ho
              have o0 : a'.tmps[0]? = some (.slice (some ⟨g, 0, none⟩) n c) := (hS.old5 0 (by simp)).trans rfl
              have hK' := hK g9 w' (fun _ _ _ _ _ _ => rfl) (hR.quiet (i := 10) (by decide) (by decide) hft hfl) (.slice (some ⟨g, 0, none⟩) n c) (by simp only [valO, Option.bind_some]; simp only [putAll, Act.put, List.setIfInBounds_toArray, List.set_cons_zero, List.set_cons_succ]; rfl)
              clear hS hdep hR
              refine gh_quiet5 (v := .slice (some ⟨g, 0, none⟩) n c) ?_ ?_
              · (simp only [execOp, Act.eval, o0]; go_simp; first | done | (simp; done) | (simp [*]; done) | omega | (simp; omega))
              · exact hK'
            | 11, ho, hun, hdep, hK, hfl, hft, _ =>
              obtain rfl := Option.some.inj ho
              have o17 : a'.tmps[17]? = some (.int .i64 (kp : Int)) := (hS.old5 17 (by simp)).trans rfl
              have hK' := hK g9 w' (fun _ _ _ _ _ _ => rfl) (hR.quiet (i := 11) (by decide) (by decide) hft hfl) (.int .i64 (kp : Int)) (by simp only [valO, Option.bind_some]; simp only [putAll, Act.put, List.setIfInBounds_toArray, List.set_cons_zero, List.set_cons_succ]; rfl)
              clear hS hdep hR
              refine gh_quiet5 (v := .int .i64 (kp : Int)) ?_ ?_
              · (simp only [execOp, Act.eval, o17]; go_simp; first | done | (simp; done) | (simp [*]; done) | omega | (simp; omega))
              · exact hK'
            | 12, ho, hun, hdep, hK, hfl, hft, _ =>
              obtain rfl := Option.some.inj ho
              have d10 : lp.getD 10 false = true := hdep { on := 10, ground := .data } (by simp) rfl
              have e123 : a'.tmps[123]? = some (.slice (some ⟨g, 0, none⟩) n c) := (hS.don 10 _ 123 rfl d10 rfl).trans (by simp only [putAll, Act.put, List.setIfInBounds_toArray, List.set_cons_zero, List.set_cons_succ]; rfl)
              have d11 : lp.getD 11 false = true := hdep { on := 11, ground := .data } (by simp) rfl
              have e124 : a'.tmps[124]? = some (.int .i64 (kp : Int)) := (hS.don 11 _ 124 rfl d11 rfl).trans (by simp only [putAll, Act.put, List.setIfInBounds_toArray, List.set_cons_zero, List.set_cons_succ]; rfl)
              have hK' := hK g9 w' (fun _ _ _ _ _ _ => rfl) (hR.quiet (i := 12) (by decide) (by decide) hft hfl) (.pointer (some ⟨g, kp * 4, none⟩)) (by simp only [valO, Option.bind_some]; simp only [putAll, Act.put, List.setIfInBounds_toArray, List.set_cons_zero, List.set_cons_succ]; rfl)
              clear hS hdep hR
              refine gh_quiet5 (v := .pointer (some ⟨g, kp * 4, none⟩)) ?_ ?_
              · (simp only [execOp, Act.eval, e123, e124]; go_simp; first | done | (simp; done) | (simp [*]; done) | omega | (simp; omega))
              · exact hK'
            | 13, ho, hun, hdep, hK, hfl, hft, _ =>
              obtain rfl := Option.some.inj ho
              have d12 : lp.getD 12 false = true := hdep { on := 12, ground := .data } (by simp) rfl
              have e125 : a'.tmps[125]? = some (.pointer (some ⟨g, kp * 4, none⟩)) := (hS.don 12 _ 125 rfl d12 rfl).trans (by simp only [putAll, Act.put, List.setIfInBounds_toArray, List.set_cons_zero, List.set_cons_succ]; rfl)
              have hB := hR.loadn hun
              have u0 := (hB.1.cells Hpx.out).1
              have u1 := (hB.1.cells Hpx.out).2.1
              have u2 := (hB.1.cells Hpx.out).2.2.1
              have u3 := (hB.1.cells Hpx.out).2.2.2
              clear hB
              have hK' := hK g9 w' (fun _ _ _ _ _ _ => rfl) (hR.quiet (i := 13) (by decide) (by decide) hft hfl) (.agg #[.int .u64 (hI rx.1.1), .int .u64 (lI rx.1.1), .int .i64 rx.1.2, .int .i64 rx.2]) (by simp only [valO, Option.bind_some]; simp only [putAll, Act.put, List.setIfInBounds_toArray, List.set_cons_zero, List.set_cons_succ]; rfl)
              clear hS hdep hR
              refine gh_quiet5 (v := .agg #[.int .u64 (hI rx.1.1), .int .u64 (lI rx.1.1), .int .i64 rx.1.2, .int .i64 rx.2]) ?_ ?_
              · (simp only [execOp, Act.eval, e125]; go_simp; first | done | (simp; done) | (simp [*]; done) | omega | (simp; omega))
              · exact hK'
            | 14, ho, hun, hdep, hK, hfl, hft, _ =>
              obtain rfl := Option.some.inj ho
              have d0 : lp.getD 0 false = true := hdep { on := 0, ground := .data } (by simp) rfl
              have e113 : a'.tmps[113]? = some (.slice (some ⟨g, 0, none⟩) n c) := (hS.don 0 _ 113 rfl d0 rfl).trans (by simp only [putAll, Act.put, List.setIfInBounds_toArray, List.set_cons_zero, List.set_cons_succ]; rfl)
              have d1 : lp.getD 1 false = true := hdep { on := 1, ground := .data } (by simp) rfl
              have e114 : a'.tmps[114]? = some (.int .i64 (kp : Int)) := (hS.don 1 _ 114 rfl d1 rfl).trans (by simp only [putAll, Act.put, List.setIfInBounds_toArray, List.set_cons_zero, List.set_cons_succ]; rfl)
              have hK' := hK g9 w' (fun _ _ _ _ _ _ => rfl) (hR.quiet (i := 14) (by decide) (by decide) hft hfl) (.pointer (some ⟨g, kp * 4, none⟩)) (by simp only [valO, Option.bind_some]; simp only [putAll, Act.put, List.setIfInBounds_toArray, List.set_cons_zero, List.set_cons_succ]; rfl)
              clear hS hdep hR
              refine gh_quiet5 (v := .pointer (some ⟨g, kp * 4, none⟩)) ?_ ?_
              · (simp only [execOp, Act.eval, e113, e114]; go_simp; first | done | (simp; done) | (simp [*]; done) | omega | (simp; omega))
              · exact hK'
            | 15, ho, hun, hdep, hK, hfl, hft, _ =>
              obtain rfl := Option.some.inj ho
              have d14 : lp.getD 14 false = true := hdep { on := 14, ground := .data } (by simp) rfl
              have e127 : a'.tmps[127]? = some (.pointer (some ⟨g, kp * 4, none⟩)) := (hS.don 14 _ 127 rfl d14 rfl).trans (by simp only [putAll, Act.put, List.setIfInBounds_toArray, List.set_cons_zero, List.set_cons_succ]; rfl)
              have d9 : lp.getD 9 false = true := hdep { on := 9, ground := .data } (by simp) rfl
              have e122 : a'.tmps[122]? = some (.agg #[.int .u64 (hI ry.1.1), .int .u64 (lI ry.1.1), .int .i64 ry.1.2, .int .i64 ry.2]) := (hS.don 9 _ 122 rfl d9 rfl).trans (by simp only [putAll, Act.put, List.setIfInBounds_toArray, List.set_cons_zero, List.set_cons_succ]; rfl)
              have d13 : lp.getD 13 false = true := hdep { on := 13, ground := .phase } (by simp) rfl
              have hB := hR.bef hun
              have u0 := (hB.1.cells Hpx.out).1
              have u1 := (hB.1.cells Hpx.out).2.1
              have u2 := (hB.1.cells Hpx.out).2.2.1
              have u3 := (hB.1.cells Hpx.out).2.2.2
              have u4 := hB.1.free (j := kp * 4) (by omega)
              have u5 := hB.1.free (j := kp * 4 + 1) (by omega)
              have u6 := hB.1.free (j := kp * 4 + 2) (by omega)
              have u7 := hB.1.free (j := kp * 4 + 3) (by omega)
              have hK' := hK g9 _ (fun _ _ _ _ _ _ => rfl) (hR.st1 (by decide) (by decide) (by decide) (⟨hB.1.set hpn ry, Bo.set (Bo.set (Bo.set (Bo.set hB.2 _ _) _ _) _ _) _ _⟩) d9 d13 hun hft hfl) undef rfl
              clear hS hdep hR hB
              unfold Oper.wp
              simp [execOp, Act.eval, e127, e122, go_sem, Oper.upon, u0, u1, u2, u3, u4, u5, u6, u7, *]
              exact hK'
            | 16, ho, hun, hdep, hK, hfl, hft, _ =>
              obtain rfl := Option.some.inj ho
              have d2 : lp.getD 2 false = true := hdep { on := 2, ground := .data } (by simp) rfl
              have e115 : a'.tmps[115]? = some (.slice (some ⟨g, 0, none⟩) n c) := (hS.don 2 _ 115 rfl d2 rfl).trans (by simp only [putAll, Act.put, List.setIfInBounds_toArray, List.set_cons_zero, List.set_cons_succ]; rfl)
              have d4 : lp.getD 4 false = true := hdep { on := 4, ground := .data } (by simp) rfl
              have e117 : a'.tmps[117]? = some (.int .i64 (kq : Int)) := (hS.don 4 _ 117 rfl d4 rfl).trans (by simp only [putAll, Act.put, List.setIfInBounds_toArray, List.set_cons_zero, List.set_cons_succ]; rfl)
              have hK' := hK g9 w' (fun _ _ _ _ _ _ => rfl) (hR.quiet (i := 16) (by decide) (by decide) hft hfl) (.pointer (some ⟨g, kq * 4, none⟩)) (by simp only [valO, Option.bind_some]; simp only [putAll, Act.put, List.setIfInBounds_toArray, List.set_cons_zero, List.set_cons_succ]; rfl)
              clear hS hdep hR
              refine gh_quiet5 (v := .pointer (some ⟨g, kq * 4, none⟩)) ?_ ?_
              · (simp only [execOp, Act.eval, e115, e117]; go_simp; first | done | (simp; done) | (simp [*]; done) | omega | (simp; omega))
              · exact hK'
            | 17, ho, hun, hdep, hK, hfl, hft, _ =>
              obtain rfl := Option.some.inj ho
              have d16 : lp.getD 16 false = true := hdep { on := 16, ground := .data } (by simp) rfl
              have e128 : a'.tmps[128]? = some (.pointer (some ⟨g, kq * 4, none⟩)) := (hS.don 16 _ 128 rfl d16 rfl).trans (by simp only [putAll, Act.put, List.setIfInBounds_toArray, List.set_cons_zero, List.set_cons_succ]; rfl)
              have d13 : lp.getD 13 false = true := hdep { on := 13, ground := .data } (by simp) rfl
              have e126 : a'.tmps[126]? = some (.agg #[.int .u64 (hI rx.1.1), .int .u64 (lI rx.1.1), .int .i64 rx.1.2, .int .i64 rx.2]) := (hS.don 13 _ 126 rfl d13 rfl).trans (by simp only [putAll, Act.put, List.setIfInBounds_toArray, List.set_cons_zero, List.set_cons_succ]; rfl)
              have d15 : lp.getD 15 false = true := hdep { on := 15, ground := .chain } (by simp) rfl
              have hB := hR.mid d15 hun
              have u0 := (hB.1.cells Hqm.out).1
              have u1 := (hB.1.cells Hqm.out).2.1
              have u2 := (hB.1.cells Hqm.out).2.2.1
              have u3 := (hB.1.cells Hqm.out).2.2.2
              have u4 := hB.1.free (j := kq * 4) (by omega)
              have u5 := hB.1.free (j := kq * 4 + 1) (by omega)
              have u6 := hB.1.free (j := kq * 4 + 2) (by omega)
              have u7 := hB.1.free (j := kq * 4 + 3) (by omega)
              have hK' := hK g9 _ (fun _ _ _ _ _ _ => rfl) (hR.st2 (by decide) (by decide) (by decide) (⟨hB.1.set hqn rx, Bo.set (Bo.set (Bo.set (Bo.set hB.2 _ _) _ _) _ _) _ _⟩) d15 hun hft hfl) undef rfl
              clear hS hdep hR hB
              unfold Oper.wp
              simp [execOp, Act.eval, e128, e126, go_sem, Oper.upon, u0, u1, u2, u3, u4, u5, u6, u7, *]
              exact hK'
            | m9 + 18, ho, hun, hdep, hK, hfl, hft, hq => exact absurd hq (by omega)
          case fin =>
            intro g9 W hR
            have hN := hR.aft (by simp)
            simp only [putAll, Act.put, List.setIfInBounds_toArray, List.set_cons_zero, List.set_cons_succ]
            clear hR
            have HN := hidR hN
            clear hN HC0
            refine wl_nil5 (P := Try.prog) (ops := #[]) ?_
            go_wp2
            go_roundw
            case rel => exact ⟨s, by omega, by omega, by rw [Hkp.out.2], hidR (by rw [← HSw.out]; exact HN.out.1), hidR HN.out.2⟩
            case measure => have hh := Hkp.out; clear wk; simp [intOf]; omega
end Go.Proofs.Ytohnhpicjedfeaa
