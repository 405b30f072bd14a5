/-
  Part 19 of the proof: 1 texts, one behind the other.
-/
import Derived.Test.YtohnhpicjedfeaaPart18
import Derived.Test.YtohnhpicjedfeaaPart10
namespace Go.Proofs.Ytohnhpicjedfeaa
open Go.RowKit
set_option linter.unusedSimpArgs false
set_option linter.unusedVariables false
attribute [local go_sem] Oper.semAt_some

theorem srt_get {Y : List Rte} (h : SrtL Y) {i j : Nat} (hi : i ≤ j) (hj : j < Y.length) : ¬ kl Y[j] (Y[i]'(by omega)) := by
  by_cases c : i = j
  · subst c; exact kl_irr _
  · exact List.pairwise_iff_getElem.mp h i j (by omega) hj (by omega)
theorem at_mid {P Y R : List Rte} {x : Rte} {t : Nat} (ht : t < Y.length) : (P ++ (x :: (Y ++ R)))[P.length + 1 + t]? = some Y[t] := by
  rw [List.getElem?_append_right (by omega), show P.length + 1 + t - P.length = t + 1 by omega, List.getElem?_cons_succ, List.getElem?_append_left ht]
  exact List.getElem?_eq_getElem ht
set_option maxRecDepth 20000 in
set_option maxHeartbeats 16000000 in
theorem sym1_any (base g c n a m b : Nat) (P Y R : List Rte) (x : Rte) (w : World) (h : RwO w base g c n (P ++ (x :: (Y ++ R)))) (ha : P.length = a) (hm : m = a + 1) (hb : m + Y.length = b) (hY : SrtL Y) (hn : n ≤ 1000000000) :
    Calls Try.prog 71 #[.slice (some ⟨g, 0, none⟩) n c, .int .i64 (a : Int), .int .i64 (m : Int), .int .i64 (b : Int), .func (.func 37) #[] #[]] w fun e w' => e = .returned (.tuple #[]) ∧ (∃ S, RwO w' base g c n (P ++ (S ++ R)) ∧ S.length = 1 + Y.length ∧ SrtL S ∧ SameK ([x] ++ Y) S) ∧ Bo g w w' := by
  have hl := h.1
  simp only [List.length_append, List.length_cons] at hl
  have wm : IntKind.i64.wrap ((m : Int) - (a : Int)) = 1 := by rw [IntKind.wrap_i64]; omega
  have H0 := hidR h
  have HY := hidR hY
  obtain ⟨yl, hyl⟩ : ∃ yl, yl = Y.length := ⟨_, rfl⟩
  have HL : Hid (yl = Y.length ∧ P.length = a) := hidR ⟨hyl, ha⟩
  have Ha : Hid ((P ++ (x :: (Y ++ R)))[a]? = some x) := hidR (by rw [← ha, List.getElem?_append_right (Nat.le_refl _), Nat.sub_self]; rfl)
  have hbm : b = m + yl := by omega
  have hbn : b ≤ n := by omega
  have Hm : Hid (m = a + 1) := hidR hm
  have han : a < n := by omega
  clear h hl hyl ha hY hb
  go_enter Try.func71, Try.ntmps71
  clear hm
  have Hb := hidR hbm
  clear hbm
  go_wp2_with fail
  go_loopw [10, 11] (fun iv jv wr => ∃ i j : Nat, iv = .int .i64 ((m + i : Nat) : Int) ∧ jv = .int .i64 ((m + j : Nat) : Int) ∧ i ≤ j ∧ j ≤ yl ∧ Hid ((∀ (t : Nat) (ht : t < Y.length), t < i → kl Y[t] x) ∧ (∀ (t : Nat) (ht : t < Y.length), j ≤ t → ¬ kl Y[t] x)) ∧ Hid (RwO wr base g c n (P ++ (x :: (Y ++ R)))) ∧ Hid (Bo g w wr)) (fun iv jv _ => (intOf jv).toNat - (intOf iv).toNat)
  case atStart => exact ⟨0, yl, rfl, by rw [Hb.out], by omega, by omega, hidR ⟨fun t ht q => by omega, fun t ht q => by have := HL.out.1; omega⟩, H0, hidR (Bt.refl _ _)⟩
  case round =>
    clear H0
    obtain ⟨i, j, rfl, rfl, hij, hjy, HI, HR, HB⟩ := hrel
    obtain ⟨mi, hmi⟩ : ∃ mi, mi = m + i := ⟨_, rfl⟩
    obtain ⟨mj, hmj⟩ : ∃ mj, mj = m + j := ⟨_, rfl⟩
    rw [← hmi, ← hmj]
    by_cases hlt : (mi : Int) < (mj : Int)
    · obtain ⟨q, hq⟩ : ∃ q, q = (mi + mj) / 2 - m := ⟨_, rfl⟩
      obtain ⟨h, hh⟩ : ∃ h, h = (mi + mj) / 2 := ⟨_, rfl⟩
      have hqy : q < Y.length := by have := HL.out.1; have := Hb.out; omega
      have hhn : h < n := by have := Hb.out; omega
      have hw1 : IntKind.i64.wrap ((mi : Int) + (mj : Int)) = (mi : Int) + (mj : Int) := by rw [IntKind.wrap_i64]; have := Hb.out; omega
      have hw2 : IntKind.u64.wrap ((mi : Int) + (mj : Int)) = (mi : Int) + (mj : Int) := by rw [IntKind.wrap_u64]; have := Hb.out; omega
      have hqi : ((mi : Int) + (mj : Int)) / 2 = (h : Int) := by omega
      have h0 : (0 : Int) ≤ (h : Int) := by omega
      have h1 : (h : Int) < (n : Int) := by omega
      have a0 : (0 : Int) ≤ (a : Int) := by omega
      have a1 : (a : Int) < (n : Int) := by omega
      have whz : IntKind.i64.wrap (h : Int) = (h : Int) := by rw [IntKind.wrap_i64]; omega
      have wh1 : IntKind.i64.wrap ((h : Int) + 1) = ((h + 1 : Nat) : Int) := by rw [IntKind.wrap_i64]; push_cast; omega
      have Hh : Hid ((P ++ (x :: (Y ++ R)))[h]? = some Y[q]) := hidR (by
        have := at_mid (P := P) (Y := Y) (R := R) (x := x) hqy
        have e := HL.out.2
        rw [show P.length + 1 + q = h by have := Hm.out; omega] at this
        exact this)
      have Hlt : Hid (kl Y[q] x → ∀ (t : Nat) (ht : t < Y.length), t < q + 1 → kl Y[t] x) := hidR (fun k t ht h => kl_le_lt (srt_get HY.out (by omega) hqy) k)
      have Hge : Hid (¬ kl Y[q] x → ∀ (t : Nat) (ht : t < Y.length), q ≤ t → ¬ kl Y[t] x) := hidR (fun k t ht h q2 => k (kl_le_lt (srt_get HY.out h ht) q2))
      have KB := fun w => byPrefix_any Y[q].1.1 Y[q].1.2 Y[q].2 x.1.1 x.1.2 x.2 w
      have Hz : Hid (pcmpZ Y[q].1.1 Y[q].1.2 x.1.1 x.1.2 < 0 ↔ kl Y[q] x) := hidR (cm_kl Y[q] x)
      have HQ : Hid (h = m + q ∧ i ≤ q ∧ q < j ∧ mi = m + i ∧ mj = m + j) := hidR ⟨by omega, by omega, by omega, hmi, hmj⟩
      have HC : Hid (RwO wr.drew base g c n (P ++ (x :: (Y ++ R))) ∧ Bo g w wr.drew) := hidR ⟨HR.out.below (below_drewN (Below.refl _ _) 1), HB.out.trans (Bt.ofB (below_drewN (Below.refl _ _) 1))⟩
      clear HR HB hq hh hmi hmj
      revert Hh Hlt Hge KB Hz
      generalize pcmpZ Y[q].1.1 Y[q].1.2 x.1.1 x.1.2 = z
      generalize Y[q] = rh
      intro Hh Hlt Hge KB Hz
      go_wp2_with fail
      by_cases hz : z < 0
      · have HI2 := hidR (And.intro (Hlt.out (Hz.out.1 hz)) HI.out.2)
        refine qw_region (C := fun X => RwO X base g c n (P ++ (x :: (Y ++ R))) ∧ Bo g w X) (by kernel_rfl) (by kernel_rfl) HC.out ?_
        clear HC Hlt Hge HI
        refine qw_run (v := .func (.func 37) #[] #[]) (by rfl) ?_ ?_
        · (intro w1 hC; clear hC; go_simp; first | done | (simp; done) | (simp [*]; done) | omega | (simp; omega) | rfl)
        simp only [Act.put, List.setIfInBounds_toArray, List.set_cons_zero, List.set_cons_succ]
        refine qw_run (v := .slice (some ⟨g, 0, none⟩) n c) (by rfl) ?_ ?_
        · (intro w1 hC; clear hC; go_simp; first | done | (simp; done) | (simp [*]; done) | omega | (simp; omega) | rfl)
        simp only [Act.put, List.setIfInBounds_toArray, List.set_cons_zero, List.set_cons_succ]
        refine qw_run (v := .int .i64 (h : Int)) (by rfl) ?_ ?_
        · (intro w1 hC; clear hC; go_simp; first | done | (simp; done) | (simp [*]; done) | omega | (simp; omega) | rfl)
        simp only [Act.put, List.setIfInBounds_toArray, List.set_cons_zero, List.set_cons_succ]
        refine qw_run (v := .pointer (some ⟨g, h * 4, none⟩)) (by rfl) ?_ ?_
        · (intro w1 hC; clear hC; go_simp; first | done | (simp; done) | (simp [*]; done) | omega | (simp; omega) | rfl)
        simp only [Act.put, List.setIfInBounds_toArray, List.set_cons_zero, List.set_cons_succ]
        refine qw_run (v := .agg #[.int .u64 (hI rh.1.1), .int .u64 (lI rh.1.1), .int .i64 rh.1.2, .int .i64 rh.2]) (by rfl) ?_ ?_
        · (intro w1 hC; have f0 := (hC.1.cells Hh.out).1; have f1 := (hC.1.cells Hh.out).2.1; have f2 := (hC.1.cells Hh.out).2.2.1; have f3 := (hC.1.cells Hh.out).2.2.2; clear hC; go_simp; first | done | (simp; done) | (simp [*]; done) | omega | (simp; omega) | rfl)
        simp only [Act.put, List.setIfInBounds_toArray, List.set_cons_zero, List.set_cons_succ]
        refine qw_run (v := .slice (some ⟨g, 0, none⟩) n c) (by rfl) ?_ ?_
        · (intro w1 hC; clear hC; go_simp; first | done | (simp; done) | (simp [*]; done) | omega | (simp; omega) | rfl)
        simp only [Act.put, List.setIfInBounds_toArray, List.set_cons_zero, List.set_cons_succ]
        refine qw_run (v := .int .i64 (a : Int)) (by rfl) ?_ ?_
        · (intro w1 hC; clear hC; go_simp; first | done | (simp; done) | (simp [*]; done) | omega | (simp; omega) | rfl)
        simp only [Act.put, List.setIfInBounds_toArray, List.set_cons_zero, List.set_cons_succ]
        refine qw_run (v := .pointer (some ⟨g, a * 4, none⟩)) (by rfl) ?_ ?_
        · (intro w1 hC; clear hC; go_simp; first | done | (simp; done) | (simp [*]; done) | omega | (simp; omega) | rfl)
        simp only [Act.put, List.setIfInBounds_toArray, List.set_cons_zero, List.set_cons_succ]
        refine qw_run (v := .agg #[.int .u64 (hI x.1.1), .int .u64 (lI x.1.1), .int .i64 x.1.2, .int .i64 x.2]) (by rfl) ?_ ?_
        · (intro w1 hC; have f0 := (hC.1.cells Ha.out).1; have f1 := (hC.1.cells Ha.out).2.1; have f2 := (hC.1.cells Ha.out).2.2.1; have f3 := (hC.1.cells Ha.out).2.2.2; clear hC; go_simp; first | done | (simp; done) | (simp [*]; done) | omega | (simp; omega) | rfl)
        simp only [Act.put, List.setIfInBounds_toArray, List.set_cons_zero, List.set_cons_succ]
        refine qw_call (v := .int .i64 z) (f := 37) (args := #[.agg #[.int .u64 (hI rh.1.1), .int .u64 (lI rh.1.1), .int .i64 rh.1.2, .int .i64 rh.2], .agg #[.int .u64 (hI x.1.1), .int .u64 (lI x.1.1), .int .i64 x.1.2, .int .i64 x.2]]) (by rfl) ?_ ?_ ?_
        · (intro w1 hC; clear hC; go_simp)
        · exact fun w1 hC => (KB w1).mono fun e w' ⟨he, hb⟩ => ⟨he, ⟨hC.1.below hb, hC.2.trans (Bt.ofB hb)⟩⟩
        simp only [Act.put, List.setIfInBounds_toArray, List.set_cons_zero, List.set_cons_succ]
        refine qw_run (v := .bool true) (by rfl) ?_ ?_
        · (intro w1 hC; clear hC; go_simp; first | done | (simp; done) | (simp [*]; done) | omega | (simp; omega) | rfl)
        simp only [Act.put, List.setIfInBounds_toArray, List.set_cons_zero, List.set_cons_succ]
        refine qw_nil ?_
        intro w3 hC
        have HR3 := hidR hC.1
        have HB3 := hidR hC.2
        clear hC KB hz
        go_wp2
        go_roundw
        case rel => exact ⟨q + 1, j, by rw [HQ.out.1]; first | rfl | simp | (push_cast; rw [Int.add_assoc]), by rw [HQ.out.2.2.2.2], by have := HQ.out; omega, hjy, HI2, HR3, HB3⟩
        case measure => have := HQ.out; simp [intOf]; omega
      · have HI2 := hidR (And.intro HI.out.1 (Hge.out (fun k => hz (Hz.out.2 k))))
        refine qw_region (C := fun X => RwO X base g c n (P ++ (x :: (Y ++ R))) ∧ Bo g w X) (by kernel_rfl) (by kernel_rfl) HC.out ?_
        clear HC Hlt Hge HI
        refine qw_run (v := .func (.func 37) #[] #[]) (by rfl) ?_ ?_
        · (intro w1 hC; clear hC; go_simp; first | done | (simp; done) | (simp [*]; done) | omega | (simp; omega) | rfl)
        simp only [Act.put, List.setIfInBounds_toArray, List.set_cons_zero, List.set_cons_succ]
        refine qw_run (v := .slice (some ⟨g, 0, none⟩) n c) (by rfl) ?_ ?_
        · (intro w1 hC; clear hC; go_simp; first | done | (simp; done) | (simp [*]; done) | omega | (simp; omega) | rfl)
        simp only [Act.put, List.setIfInBounds_toArray, List.set_cons_zero, List.set_cons_succ]
        refine qw_run (v := .int .i64 (h : Int)) (by rfl) ?_ ?_
        · (intro w1 hC; clear hC; go_simp; first | done | (simp; done) | (simp [*]; done) | omega | (simp; omega) | rfl)
        simp only [Act.put, List.setIfInBounds_toArray, List.set_cons_zero, List.set_cons_succ]
        refine qw_run (v := .pointer (some ⟨g, h * 4, none⟩)) (by rfl) ?_ ?_
        · (intro w1 hC; clear hC; go_simp; first | done | (simp; done) | (simp [*]; done) | omega | (simp; omega) | rfl)
        simp only [Act.put, List.setIfInBounds_toArray, List.set_cons_zero, List.set_cons_succ]
        refine qw_run (v := .agg #[.int .u64 (hI rh.1.1), .int .u64 (lI rh.1.1), .int .i64 rh.1.2, .int .i64 rh.2]) (by rfl) ?_ ?_
        · (intro w1 hC; have f0 := (hC.1.cells Hh.out).1; have f1 := (hC.1.cells Hh.out).2.1; have f2 := (hC.1.cells Hh.out).2.2.1; have f3 := (hC.1.cells Hh.out).2.2.2; clear hC; go_simp; first | done | (simp; done) | (simp [*]; done) | omega | (simp; omega) | rfl)
        simp only [Act.put, List.setIfInBounds_toArray, List.set_cons_zero, List.set_cons_succ]
        refine qw_run (v := .slice (some ⟨g, 0, none⟩) n c) (by rfl) ?_ ?_
        · (intro w1 hC; clear hC; go_simp; first | done | (simp; done) | (simp [*]; done) | omega | (simp; omega) | rfl)
        simp only [Act.put, List.setIfInBounds_toArray, List.set_cons_zero, List.set_cons_succ]
        refine qw_run (v := .int .i64 (a : Int)) (by rfl) ?_ ?_
        · (intro w1 hC; clear hC; go_simp; first | done | (simp; done) | (simp [*]; done) | omega | (simp; omega) | rfl)
        simp only [Act.put, List.setIfInBounds_toArray, List.set_cons_zero, List.set_cons_succ]
        refine qw_run (v := .pointer (some ⟨g, a * 4, none⟩)) (by rfl) ?_ ?_
        · (intro w1 hC; clear hC; go_simp; first | done | (simp; done) | (simp [*]; done) | omega | (simp; omega) | rfl)
        simp only [Act.put, List.setIfInBounds_toArray, List.set_cons_zero, List.set_cons_succ]
        refine qw_run (v := .agg #[.int .u64 (hI x.1.1), .int .u64 (lI x.1.1), .int .i64 x.1.2, .int .i64 x.2]) (by rfl) ?_ ?_
        · (intro w1 hC; have f0 := (hC.1.cells Ha.out).1; have f1 := (hC.1.cells Ha.out).2.1; have f2 := (hC.1.cells Ha.out).2.2.1; have f3 := (hC.1.cells Ha.out).2.2.2; clear hC; go_simp; first | done | (simp; done) | (simp [*]; done) | omega | (simp; omega) | rfl)
        simp only [Act.put, List.setIfInBounds_toArray, List.set_cons_zero, List.set_cons_succ]
        refine qw_call (v := .int .i64 z) (f := 37) (args := #[.agg #[.int .u64 (hI rh.1.1), .int .u64 (lI rh.1.1), .int .i64 rh.1.2, .int .i64 rh.2], .agg #[.int .u64 (hI x.1.1), .int .u64 (lI x.1.1), .int .i64 x.1.2, .int .i64 x.2]]) (by rfl) ?_ ?_ ?_
        · (intro w1 hC; clear hC; go_simp)
        · exact fun w1 hC => (KB w1).mono fun e w' ⟨he, hb⟩ => ⟨he, ⟨hC.1.below hb, hC.2.trans (Bt.ofB hb)⟩⟩
        simp only [Act.put, List.setIfInBounds_toArray, List.set_cons_zero, List.set_cons_succ]
        refine qw_run (v := .bool false) (by rfl) ?_ ?_
        · (intro w1 hC; clear hC; go_simp; first | done | (simp; done) | (simp [*]; done) | omega | (simp; omega) | rfl)
        simp only [Act.put, List.setIfInBounds_toArray, List.set_cons_zero, List.set_cons_succ]
        refine qw_nil ?_
        intro w3 hC
        have HR3 := hidR hC.1
        have HB3 := hidR hC.2
        clear hC KB hz
        go_wp2
        go_roundw
        case rel => exact ⟨i, q, by rw [HQ.out.2.2.2.1], by rw [HQ.out.1], by have := HQ.out; omega, by have := HQ.out; omega, HI2, HR3, HB3⟩
        case measure => have := HQ.out; simp [intOf]; omega
    · obtain rfl : i = j := by omega
      have HS : Hid ((∀ y ∈ Y.take i, kl y x) ∧ (∀ y ∈ Y.drop i, ¬ kl y x)) := hidR (by
        refine ⟨fun y hy => ?_, fun y hy => ?_⟩
        · obtain ⟨t, ht, e⟩ := List.mem_iff_getElem.mp hy
          rw [List.getElem_take] at e
          rw [List.length_take] at ht
          rw [← e]; exact HI.out.1 t (by omega) (by omega)
        · obtain ⟨t, ht, e⟩ := List.mem_iff_getElem.mp hy
          rw [List.getElem_drop] at e
          rw [List.length_drop] at ht
          rw [← e]; exact HI.out.2 (i + t) (by omega) (by omega))
      have Hi : Hid (mi = m + i ∧ i ≤ Y.length) := hidR ⟨hmi, by have := HL.out.1; omega⟩
      have w1 : IntKind.i64.wrap ((mi : Int) - 1) = ((a + i : Nat) : Int) := by rw [IntKind.wrap_i64]; have := Hm.out; have := Hb.out; omega
      obtain ⟨ai, hai⟩ : ∃ ai, ai = a + i := ⟨_, rfl⟩
      rw [← hai] at w1
      have Hai := hidR hai
      have hain : ai < n := by have := Hm.out; have := Hb.out; omega
      have hmj2 : ¬ (mi : Int) < (mj : Int) := hlt
      have hmm : mj = mi := by omega
      subst hmm
      clear hai hmi hmj HI hlt
      go_wp2_with fail
      go_loopw [13] (fun kv wr => ∃ s : Nat, s ≤ i ∧ kv = .int .i64 ((a + s : Nat) : Int) ∧ Hid (RwO wr base g c n (P ++ (Y.take s ++ (x :: (Y.drop s ++ R))))) ∧ Hid (Bo g w wr)) (fun kv _ => ai - (intOf kv).toNat)
      case atStart => exact ⟨0, Nat.zero_le _, rfl, HR, HB⟩
      case round =>
        clear HR HB
        obtain ⟨s, hs, rfl, HR, HB⟩ := hrel
        obtain ⟨kp, hkp⟩ : ∃ kp, kp = a + s := ⟨_, rfl⟩
        obtain ⟨kq, hkq⟩ : ∃ kq, kq = kp + 1 := ⟨_, rfl⟩
        rw [← hkp]
        by_cases hka : (kp : Int) < (ai : Int)
        · have hsi : s < i := by have := Hai.out; omega
          have hsy : s < Y.length := by have := Hi.out; omega
          obtain ⟨rx, hrx⟩ : ∃ rx, rx = x := ⟨_, rfl⟩
          obtain ⟨ry, hry⟩ : ∃ ry, ry = Y[s] := ⟨_, rfl⟩
          have htl : (Y.take s).length = s := by rw [List.length_take]; omega
          have hdr : Y.drop s = ry :: Y.drop (s + 1) := by rw [hry]; exact List.drop_eq_getElem_cons hsy
          have hpn : kp < n := by omega
          have hqn : kq < n := by omega
          have e1 : P ++ (Y.take s ++ (x :: (Y.drop s ++ R))) = ((P ++ Y.take s) ++ [rx]) ++ (ry :: (Y.drop (s + 1) ++ R)) := by rw [hdr, hrx]; simp
          have hpl : (P ++ Y.take s).length = kp := by rw [List.length_append, htl]; have := HL.out.2; omega
          have Hpx : Hid ((P ++ (Y.take s ++ (x :: (Y.drop s ++ R))))[kp]? = some rx) := hidR (by
            rw [e1, List.getElem?_append_left (by simp only [List.length_append, List.length_singleton] at hpl ⊢; omega), List.getElem?_append_right (by omega), hpl, Nat.sub_self]; rfl)
          have Hqy : Hid ((P ++ (Y.take s ++ (x :: (Y.drop s ++ R))))[kq]? = some ry) := hidR (by
            rw [e1, List.getElem?_append_right (by rw [List.length_append, hpl]; simp; omega), List.length_append, hpl, hkq]; simp)
          have Hqm : Hid (((P ++ (Y.take s ++ (x :: (Y.drop s ++ R)))).set kp ry)[kq]? = some ry) := hidR (by rw [List.getElem?_set_ne (by omega)]; exact Hqy.out)
          have HSw : Hid (((P ++ (Y.take s ++ (x :: (Y.drop s ++ R)))).set kp ry).set kq rx = P ++ (Y.take (s + 1) ++ (x :: (Y.drop (s + 1) ++ R)))) := hidR (by
            have e2 : P ++ (Y.take (s + 1) ++ (x :: (Y.drop (s + 1) ++ R))) = (P ++ Y.take s) ++ ry :: rx :: (Y.drop (s + 1) ++ R) := by rw [List.take_succ_eq_append_getElem hsy, ← hry, hrx]; simp
            rw [e2, e1, ← hpl, hkq, ← hpl]
            rw [List.append_assoc]
            rw [List.set_append_right _ _ (Nat.le_refl _), List.set_append_right _ _ (by omega)]
            simp)
          have wk : IntKind.i64.wrap ((kp : Int) + 1) = (kq : Int) := by rw [IntKind.wrap_i64]; omega
          have p0 : (0 : Int) ≤ (kp : Int) := by omega
          have q0 : (0 : Int) ≤ (kq : Int) := by omega
          have p1 : (kp : Int) < (n : Int) := by omega
          have q1 : (kq : Int) < (n : Int) := by omega
          have HC0 : Hid (RwO wr.drew base g c n (P ++ (Y.take s ++ (x :: (Y.drop s ++ R)))) ∧ Bo g w wr.drew) := hidR ⟨HR.out.below (below_drewN (Below.refl _ _) 1), HB.out.trans (Bt.ofB (below_drewN (Below.refl _ _) 1))⟩
          have Hkp : Hid (kp = a + s ∧ kq = kp + 1) := hidR ⟨hkp, hkq⟩
          clear HR HB hrx hry htl hdr e1 hpl hkp hkq
          go_wp2_with fail
          refine gh_region (γ := Unit) (qpOk 18 18 (by decide) (fun N => by kernel_rfl) (by kernel_rfl) (by kernel_rfl) (by kernel_rfl) (by kernel_rfl)) (by kernel_rfl) (by kernel_rfl) [some 61, some 62, some 63, some 64, some 65, some 66, some 67, some 68, some 69, some 70, some 71, some 72, some 73, some 74, some 75, none, some 76, none] (fun _ => [.slice (some ⟨g, 0, none⟩) n c, .int .i64 (kp : Int), .slice (some ⟨g, 0, none⟩) n c, .int .i64 (kp : Int), .int .i64 (kq : Int), .slice (some ⟨g, 0, none⟩) n c, .int .i64 (kp : Int), .int .i64 (kq : Int), .pointer (some ⟨g, kq * 4, none⟩), .agg #[.int .u64 (hI ry.1.1), .int .u64 (lI ry.1.1), .int .i64 ry.1.2, .int .i64 ry.2], .slice (some ⟨g, 0, none⟩) n c, .int .i64 (kp : Int), .pointer (some ⟨g, kp * 4, none⟩), .agg #[.int .u64 (hI rx.1.1), .int .u64 (lI rx.1.1), .int .i64 rx.1.2, .int .i64 rx.2], .pointer (some ⟨g, kp * 4, none⟩), undef, .pointer (some ⟨g, kq * 4, none⟩), undef]) (by kernel_rfl) (by simp) (fun lp _ W => R4 9 13 15 17 (fun X => RwO X base g c n (P ++ (Y.take s ++ (x :: (Y.drop s ++ R)))) ∧ Bo g w X) (fun X => RwO X base g c n ((P ++ (Y.take s ++ (x :: (Y.drop s ++ R)))).set kp ry) ∧ Bo g w X) (fun X => RwO X base g c n (((P ++ (Y.take s ++ (x :: (Y.drop s ++ R)))).set kp ry).set kq rx) ∧ Bo g w X) (fun j => lp.getD j false) W) () (R4.start HC0.out (fun j => by simp [Array.getElem?_replicate]; split <;> rfl)) ?step ?fin
          case step =>
            intro q o lp g9 w' a' ho hsz hun hdep hR hS K Q' hK
            have hfl : ∀ j, j ≠ q → (lp.setIfInBounds q true).getD j false = lp.getD j false := fun j hj => by rw [Array.getD_eq_getD_getElem?, Array.getD_eq_getD_getElem?, Array.getElem?_setIfInBounds_ne (by omega)]
            have hq : q < 18 := (List.getElem?_eq_some_iff.mp ho).1
            have hft : (lp.setIfInBounds q true).getD q false = true := getD_set_same (by rw [hsz]; exact hq)
            match q, ho, hun, hdep, hK, hfl, hft, hq with
            | 0, ho, hun, hdep, hK, hfl, hft, _ =>
              obtain rfl := Option.some.inj ho
              have o0 : a'.tmps[0]? = some (.slice (some ⟨g, 0, none⟩) n c) := (hS.old5 0 (by simp)).trans rfl
              have hK' := hK g9 w' (fun _ _ _ _ _ _ => rfl) (hR.quiet (i := 0) (by decide) (by decide) hft hfl) (.slice (some ⟨g, 0, none⟩) n c) (by simp only [valO, Option.bind_some]; simp only [putAll, Act.put, List.setIfInBounds_toArray, List.set_cons_zero, List.set_cons_succ]; rfl)
              clear hS hdep hR
              refine gh_quiet5 (v := .slice (some ⟨g, 0, none⟩) n c) ?_ ?_
              · (simp only [execOp, Act.eval, o0]; go_simp; first | done | (simp; done) | (simp [*]; done) | omega | (simp; omega))
              · exact hK'
            | 1, ho, hun, hdep, hK, hfl, hft, _ =>
              obtain rfl := Option.some.inj ho
              have o13 : a'.tmps[13]? = some (.int .i64 (kp : Int)) := (hS.old5 13 (by simp)).trans rfl
              have hK' := hK g9 w' (fun _ _ _ _ _ _ => rfl) (hR.quiet (i := 1) (by decide) (by decide) hft hfl) (.int .i64 (kp : Int)) (by simp only [valO, Option.bind_some]; simp only [putAll, Act.put, List.setIfInBounds_toArray, List.set_cons_zero, List.set_cons_succ]; rfl)
              clear hS hdep hR
              refine gh_quiet5 (v := .int .i64 (kp : Int)) ?_ ?_
              · (simp only [execOp, Act.eval, o13]; go_simp; first | done | (simp; done) | (simp [*]; done) | omega | (simp; omega))
              · exact hK'
            | 2, ho, hun, hdep, hK, hfl, hft, _ =>
              obtain rfl := Option.some.inj ho
              have o0 : a'.tmps[0]? = some (.slice (some ⟨g, 0, none⟩) n c) := (hS.old5 0 (by simp)).trans rfl
              have hK' := hK g9 w' (fun _ _ _ _ _ _ => rfl) (hR.quiet (i := 2) (by decide) (by decide) hft hfl) (.slice (some ⟨g, 0, none⟩) n c) (by simp only [valO, Option.bind_some]; simp only [putAll, Act.put, List.setIfInBounds_toArray, List.set_cons_zero, List.set_cons_succ]; rfl)
              clear hS hdep hR
              refine gh_quiet5 (v := .slice (some ⟨g, 0, none⟩) n c) ?_ ?_
              · (simp only [execOp, Act.eval, o0]; go_simp; first | done | (simp; done) | (simp [*]; done) | omega | (simp; omega))
              · exact hK'
            | 3, ho, hun, hdep, hK, hfl, hft, _ =>
              obtain rfl := Option.some.inj ho
              have o13 : a'.tmps[13]? = some (.int .i64 (kp : Int)) := (hS.old5 13 (by simp)).trans rfl
              have hK' := hK g9 w' (fun _ _ _ _ _ _ => rfl) (hR.quiet (i := 3) (by decide) (by decide) hft hfl) (.int .i64 (kp : Int)) (by simp only [valO, Option.bind_some]; simp only [putAll, Act.put, List.setIfInBounds_toArray, List.set_cons_zero, List.set_cons_succ]; rfl)
              clear hS hdep hR
              refine gh_quiet5 (v := .int .i64 (kp : Int)) ?_ ?_
              · (simp only [execOp, Act.eval, o13]; go_simp; first | done | (simp; done) | (simp [*]; done) | omega | (simp; omega))
              · exact hK'
            | 4, ho, hun, hdep, hK, hfl, hft, _ =>
              obtain rfl := Option.some.inj ho
              have d3 : lp.getD 3 false = true := hdep { on := 3, ground := .data } (by simp) rfl
              have e64 : a'.tmps[64]? = some (.int .i64 (kp : Int)) := (hS.don 3 _ 64 rfl d3 rfl).trans (by simp only [putAll, Act.put, List.setIfInBounds_toArray, List.set_cons_zero, List.set_cons_succ]; rfl)
              have hK' := hK g9 w' (fun _ _ _ _ _ _ => rfl) (hR.quiet (i := 4) (by decide) (by decide) hft hfl) (.int .i64 (kq : Int)) (by simp only [valO, Option.bind_some]; simp only [putAll, Act.put, List.setIfInBounds_toArray, List.set_cons_zero, List.set_cons_succ]; rfl)
              clear hS hdep hR
              refine gh_quiet5 (v := .int .i64 (kq : Int)) ?_ ?_
              · (simp only [execOp, Act.eval, e64]; go_simp; first | done | (simp; done) | (simp [*]; done) | omega | (simp; omega))
              · exact hK'
            | 5, ho, hun, hdep, hK, hfl, hft, _ =>
              obtain rfl := Option.some.inj ho
              have o0 : a'.tmps[0]? = some (.slice (some ⟨g, 0, none⟩) n c) := (hS.old5 0 (by simp)).trans rfl
              have hK' := hK g9 w' (fun _ _ _ _ _ _ => rfl) (hR.quiet (i := 5) (by decide) (by decide) hft hfl) (.slice (some ⟨g, 0, none⟩) n c) (by simp only [valO, Option.bind_some]; simp only [putAll, Act.put, List.setIfInBounds_toArray, List.set_cons_zero, List.set_cons_succ]; rfl)
              clear hS hdep hR
              refine gh_quiet5 (v := .slice (some ⟨g, 0, none⟩) n c) ?_ ?_
              · (simp only [execOp, Act.eval, o0]; go_simp; first | done | (simp; done) | (simp [*]; done) | omega | (simp; omega))
              · exact hK'
            | 6, ho, hun, hdep, hK, hfl, hft, _ =>
              obtain rfl := Option.some.inj ho
              have o13 : a'.tmps[13]? = some (.int .i64 (kp : Int)) := (hS.old5 13 (by simp)).trans rfl
              have hK' := hK g9 w' (fun _ _ _ _ _ _ => rfl) (hR.quiet (i := 6) (by decide) (by decide) hft hfl) (.int .i64 (kp : Int)) (by simp only [valO, Option.bind_some]; simp only [putAll, Act.put, List.setIfInBounds_toArray, List.set_cons_zero, List.set_cons_succ]; rfl)
              clear hS hdep hR
              refine gh_quiet5 (v := .int .i64 (kp : Int)) ?_ ?_
              · (simp only [execOp, Act.eval, o13]; go_simp; first | done | (simp; done) | (simp [*]; done) | omega | (simp; omega))
              · exact hK'
            | 7, ho, hun, hdep, hK, hfl, hft, _ =>
              obtain rfl := Option.some.inj ho
              have d6 : lp.getD 6 false = true := hdep { on := 6, ground := .data } (by simp) rfl
              have e67 : a'.tmps[67]? = some (.int .i64 (kp : Int)) := (hS.don 6 _ 67 rfl d6 rfl).trans (by simp only [putAll, Act.put, List.setIfInBounds_toArray, List.set_cons_zero, List.set_cons_succ]; rfl)
              have hK' := hK g9 w' (fun _ _ _ _ _ _ => rfl) (hR.quiet (i := 7) (by decide) (by decide) hft hfl) (.int .i64 (kq : Int)) (by simp only [valO, Option.bind_some]; simp only [putAll, Act.put, List.setIfInBounds_toArray, List.set_cons_zero, List.set_cons_succ]; rfl)
              clear hS hdep hR
              refine gh_quiet5 (v := .int .i64 (kq : Int)) ?_ ?_
              · (simp only [execOp, Act.eval, e67]; go_simp; first | done | (simp; done) | (simp [*]; done) | omega | (simp; omega))
              · exact hK'
            | 8, ho, hun, hdep, hK, hfl, hft, _ =>
              obtain rfl := Option.some.inj ho
              have d5 : lp.getD 5 false = true := hdep { on := 5, ground := .data } (by simp) rfl
              have e66 : a'.tmps[66]? = some (.slice (some ⟨g, 0, none⟩) n c) := (hS.don 5 _ 66 rfl d5 rfl).trans (by simp only [putAll, Act.put, List.setIfInBounds_toArray, List.set_cons_zero, List.set_cons_succ]; rfl)
              have d7 : lp.getD 7 false = true := hdep { on := 7, ground := .data } (by simp) rfl
              have e68 : a'.tmps[68]? = some (.int .i64 (kq : Int)) := (hS.don 7 _ 68 rfl d7 rfl).trans (by simp only [putAll, Act.put, List.setIfInBounds_toArray, List.set_cons_zero, List.set_cons_succ]; rfl)
              have hK' := hK g9 w' (fun _ _ _ _ _ _ => rfl) (hR.quiet (i := 8) (by decide) (by decide) hft hfl) (.pointer (some ⟨g, kq * 4, none⟩)) (by simp only [valO, Option.bind_some]; simp only [putAll, Act.put, List.setIfInBounds_toArray, List.set_cons_zero, List.set_cons_succ]; rfl)
              clear hS hdep hR
              refine gh_quiet5 (v := .pointer (some ⟨g, kq * 4, none⟩)) ?_ ?_
              · (simp only [execOp, Act.eval, e66, e68]; go_simp; first | done | (simp; done) | (simp [*]; done) | omega | (simp; omega))
              · exact hK'
            | 9, ho, hun, hdep, hK, hfl, hft, _ =>
              obtain rfl := Option.some.inj ho
              have d8 : lp.getD 8 false = true := hdep { on := 8, ground := .data } (by simp) rfl
              have e69 : a'.tmps[69]? = some (.pointer (some ⟨g, kq * 4, none⟩)) := (hS.don 8 _ 69 rfl d8 rfl).trans (by simp only [putAll, Act.put, List.setIfInBounds_toArray, List.set_cons_zero, List.set_cons_succ]; rfl)
              have hB := hR.loadm hun
              have u0 := (hB.1.cells Hqy.out).1
              have u1 := (hB.1.cells Hqy.out).2.1
              have u2 := (hB.1.cells Hqy.out).2.2.1
              have u3 := (hB.1.cells Hqy.out).2.2.2
              clear hB
              have hK' := hK g9 w' (fun _ _ _ _ _ _ => rfl) (hR.quiet (i := 9) (by decide) (by decide) hft hfl) (.agg #[.int .u64 (hI ry.1.1), .int .u64 (lI ry.1.1), .int .i64 ry.1.2, .int .i64 ry.2]) (by simp only [valO, Option.bind_some]; simp only [putAll, Act.put, List.setIfInBounds_toArray, List.set_cons_zero, List.set_cons_succ]; rfl)
              clear hS hdep hR
              refine gh_quiet5 (v := .agg #[.int .u64 (hI ry.1.1), .int .u64 (lI ry.1.1), .int .i64 ry.1.2, .int .i64 ry.2]) ?_ ?_
              · (simp only [execOp, Act.eval, e69]; go_simp; first | done | (simp; done) | (simp [*]; done) | omega | (simp; omega))
              · exact hK'
            | 10, ho, hun, hdep, hK, hfl, hft, _ =>
              obtain rfl := Option.some.inj ho
              have o0 : a'.tmps[0]? = some (.slice (some ⟨g, 0, none⟩) n c) := (hS.old5 0 (by simp)).trans rfl
              have hK' := hK g9 w' (fun _ _ _ _ _ _ => rfl) (hR.quiet (i := 10) (by decide) (by decide) hft hfl) (.slice (some ⟨g, 0, none⟩) n c) (by simp only [valO, Option.bind_some]; simp only [putAll, Act.put, List.setIfInBounds_toArray, List.set_cons_zero, List.set_cons_succ]; rfl)
              clear hS hdep hR
              refine gh_quiet5 (v := .slice (some ⟨g, 0, none⟩) n c) ?_ ?_
              · (simp only [execOp, Act.eval, o0]; go_simp; first | done | (simp; done) | (simp [*]; done) | omega | (simp; omega))
              · exact hK'
            | 11, ho, hun, hdep, hK, hfl, hft, _ =>
              obtain rfl := Option.some.inj ho
              have o13 : a'.tmps[13]? = some (.int .i64 (kp : Int)) := (hS.old5 13 (by simp)).trans rfl
              have hK' := hK g9 w' (fun _ _ _ _ _ _ => rfl) (hR.quiet (i := 11) (by decide) (by decide) hft hfl) (.int .i64 (kp : Int)) (by simp only [valO, Option.bind_some]; simp only [putAll, Act.put, List.setIfInBounds_toArray, List.set_cons_zero, List.set_cons_succ]; rfl)
              clear hS hdep hR
              refine gh_quiet5 (v := .int .i64 (kp : Int)) ?_ ?_
              · (simp only [execOp, Act.eval, o13]; go_simp; first | done | (simp; done) | (simp [*]; done) | omega | (simp; omega))
              · exact hK'
            | 12, ho, hun, hdep, hK, hfl, hft, _ =>
              obtain rfl := Option.some.inj ho
              have d10 : lp.getD 10 false = true := hdep { on := 10, ground := .data } (by simp) rfl
              have e71 : a'.tmps[71]? = some (.slice (some ⟨g, 0, none⟩) n c) := (hS.don 10 _ 71 rfl d10 rfl).trans (by simp only [putAll, Act.put, List.setIfInBounds_toArray, List.set_cons_zero, List.set_cons_succ]; rfl)
              have d11 : lp.getD 11 false = true := hdep { on := 11, ground := .data } (by simp) rfl
              have e72 : a'.tmps[72]? = some (.int .i64 (kp : Int)) := (hS.don 11 _ 72 rfl d11 rfl).trans (by simp only [putAll, Act.put, List.setIfInBounds_toArray, List.set_cons_zero, List.set_cons_succ]; rfl)
              have hK' := hK g9 w' (fun _ _ _ _ _ _ => rfl) (hR.quiet (i := 12) (by decide) (by decide) hft hfl) (.pointer (some ⟨g, kp * 4, none⟩)) (by simp only [valO, Option.bind_some]; simp only [putAll, Act.put, List.setIfInBounds_toArray, List.set_cons_zero, List.set_cons_succ]; rfl)
              clear hS hdep hR
              refine gh_quiet5 (v := .pointer (some ⟨g, kp * 4, none⟩)) ?_ ?_
              · (simp only [execOp, Act.eval, e71, e72]; go_simp; first | done | (simp; done) | (simp [*]; done) | omega | (simp; omega))
              · exact hK'
            | 13, ho, hun, hdep, hK, hfl, hft, _ =>
              obtain rfl := Option.some.inj ho
              have d12 : lp.getD 12 false = true := hdep { on := 12, ground := .data } (by simp) rfl
              have e73 : a'.tmps[73]? = some (.pointer (some ⟨g, kp * 4, none⟩)) := (hS.don 12 _ 73 rfl d12 rfl).trans (by simp only [putAll, Act.put, List.setIfInBounds_toArray, List.set_cons_zero, List.set_cons_succ]; rfl)
              have hB := hR.loadn hun
              have u0 := (hB.1.cells Hpx.out).1
              have u1 := (hB.1.cells Hpx.out).2.1
              have u2 := (hB.1.cells Hpx.out).2.2.1
              have u3 := (hB.1.cells Hpx.out).2.2.2
              clear hB
              have hK' := hK g9 w' (fun _ _ _ _ _ _ => rfl) (hR.quiet (i := 13) (by decide) (by decide) hft hfl) (.agg #[.int .u64 (hI rx.1.1), .int .u64 (lI rx.1.1), .int .i64 rx.1.2, .int .i64 rx.2]) (by simp only [valO, Option.bind_some]; simp only [putAll, Act.put, List.setIfInBounds_toArray, List.set_cons_zero, List.set_cons_succ]; rfl)
              clear hS hdep hR
              refine gh_quiet5 (v := .agg #[.int .u64 (hI rx.1.1), .int .u64 (lI rx.1.1), .int .i64 rx.1.2, .int .i64 rx.2]) ?_ ?_
              · (simp only [execOp, Act.eval, e73]; go_simp; first | done | (simp; done) | (simp [*]; done) | omega | (simp; omega))
              · exact hK'
            | 14, ho, hun, hdep, hK, hfl, hft, _ =>
              obtain rfl := Option.some.inj ho
              have d0 : lp.getD 0 false = true := hdep { on := 0, ground := .data } (by simp) rfl
              have e61 : a'.tmps[61]? = some (.slice (some ⟨g, 0, none⟩) n c) := (hS.don 0 _ 61 rfl d0 rfl).trans (by simp only [putAll, Act.put, List.setIfInBounds_toArray, List.set_cons_zero, List.set_cons_succ]; rfl)
              have d1 : lp.getD 1 false = true := hdep { on := 1, ground := .data } (by simp) rfl
              have e62 : a'.tmps[62]? = some (.int .i64 (kp : Int)) := (hS.don 1 _ 62 rfl d1 rfl).trans (by simp only [putAll, Act.put, List.setIfInBounds_toArray, List.set_cons_zero, List.set_cons_succ]; rfl)
              have hK' := hK g9 w' (fun _ _ _ _ _ _ => rfl) (hR.quiet (i := 14) (by decide) (by decide) hft hfl) (.pointer (some ⟨g, kp * 4, none⟩)) (by simp only [valO, Option.bind_some]; simp only [putAll, Act.put, List.setIfInBounds_toArray, List.set_cons_zero, List.set_cons_succ]; rfl)
              clear hS hdep hR
              refine gh_quiet5 (v := .pointer (some ⟨g, kp * 4, none⟩)) ?_ ?_
              · (simp only [execOp, Act.eval, e61, e62]; go_simp; first | done | (simp; done) | (simp [*]; done) | omega | (simp; omega))
              · exact hK'
            | 15, ho, hun, hdep, hK, hfl, hft, _ =>
              obtain rfl := Option.some.inj ho
              have d14 : lp.getD 14 false = true := hdep { on := 14, ground := .data } (by simp) rfl
              have e75 : a'.tmps[75]? = some (.pointer (some ⟨g, kp * 4, none⟩)) := (hS.don 14 _ 75 rfl d14 rfl).trans (by simp only [putAll, Act.put, List.setIfInBounds_toArray, List.set_cons_zero, List.set_cons_succ]; rfl)
              have d9 : lp.getD 9 false = true := hdep { on := 9, ground := .data } (by simp) rfl
              have e70 : a'.tmps[70]? = some (.agg #[.int .u64 (hI ry.1.1), .int .u64 (lI ry.1.1), .int .i64 ry.1.2, .int .i64 ry.2]) := (hS.don 9 _ 70 rfl d9 rfl).trans (by simp only [putAll, Act.put, List.setIfInBounds_toArray, List.set_cons_zero, List.set_cons_succ]; rfl)
              have d13 : lp.getD 13 false = true := hdep { on := 13, ground := .phase } (by simp) rfl
              have hB := hR.bef hun
              have u0 := (hB.1.cells Hpx.out).1
              have u1 := (hB.1.cells Hpx.out).2.1
              have u2 := (hB.1.cells Hpx.out).2.2.1
              have u3 := (hB.1.cells Hpx.out).2.2.2
              have u4 := hB.1.free (j := kp * 4) (by omega)
              have u5 := hB.1.free (j := kp * 4 + 1) (by omega)
              have u6 := hB.1.free (j := kp * 4 + 2) (by omega)
              have u7 := hB.1.free (j := kp * 4 + 3) (by omega)
              have hK' := hK g9 _ (fun _ _ _ _ _ _ => rfl) (hR.st1 (by decide) (by decide) (by decide) (⟨hB.1.set hpn ry, Bo.set (Bo.set (Bo.set (Bo.set hB.2 _ _) _ _) _ _) _ _⟩) d9 d13 hun hft hfl) undef rfl
              clear hS hdep hR hB
              unfold Oper.wp
              simp [execOp, Act.eval, e75, e70, go_sem, Oper.upon, u0, u1, u2, u3, u4, u5, u6, u7, *]
              exact hK'
            | 16, ho, hun, hdep, hK, hfl, hft, _ =>
              obtain rfl := Option.some.inj ho
              have d2 : lp.getD 2 false = true := hdep { on := 2, ground := .data } (by simp) rfl
              have e63 : a'.tmps[63]? = some (.slice (some ⟨g, 0, none⟩) n c) := (hS.don 2 _ 63 rfl d2 rfl).trans (by simp only [putAll, Act.put, List.setIfInBounds_toArray, List.set_cons_zero, List.set_cons_succ]; rfl)
              have d4 : lp.getD 4 false = true := hdep { on := 4, ground := .data } (by simp) rfl
              have e65 : a'.tmps[65]? = some (.int .i64 (kq : Int)) := (hS.don 4 _ 65 rfl d4 rfl).trans (by simp only [putAll, Act.put, List.setIfInBounds_toArray, List.set_cons_zero, List.set_cons_succ]; rfl)
              have hK' := hK g9 w' (fun _ _ _ _ _ _ => rfl) (hR.quiet (i := 16) (by decide) (by decide) hft hfl) (.pointer (some ⟨g, kq * 4, none⟩)) (by simp only [valO, Option.bind_some]; simp only [putAll, Act.put, List.setIfInBounds_toArray, List.set_cons_zero, List.set_cons_succ]; rfl)
              clear hS hdep hR
              refine gh_quiet5 (v := .pointer (some ⟨g, kq * 4, none⟩)) ?_ ?_
              · (simp only [execOp, Act.eval, e63, e65]; go_simp; first | done | (simp; done) | (simp [*]; done) | omega | (simp; omega))
              · exact hK'
            | 17, ho, hun, hdep, hK, hfl, hft, _ =>
              obtain rfl := Option.some.inj ho
              have d16 : lp.getD 16 false = true := hdep { on := 16, ground := .data } (by simp) rfl
              have e76 : a'.tmps[76]? = some (.pointer (some ⟨g, kq * 4, none⟩)) := (hS.don 16 _ 76 rfl d16 rfl).trans (by simp only [putAll, Act.put, List.setIfInBounds_toArray, List.set_cons_zero, List.set_cons_succ]; rfl)
              have d13 : lp.getD 13 false = true := hdep { on := 13, ground := .data } (by simp) rfl
              have e74 : a'.tmps[74]? = some (.agg #[.int .u64 (hI rx.1.1), .int .u64 (lI rx.1.1), .int .i64 rx.1.2, .int .i64 rx.2]) := (hS.don 13 _ 74 rfl d13 rfl).trans (by simp only [putAll, Act.put, List.setIfInBounds_toArray, List.set_cons_zero, List.set_cons_succ]; rfl)
              have d15 : lp.getD 15 false = true := hdep { on := 15, ground := .chain } (by simp) rfl
              have hB := hR.mid d15 hun
              have u0 := (hB.1.cells Hqm.out).1
              have u1 := (hB.1.cells Hqm.out).2.1
              have u2 := (hB.1.cells Hqm.out).2.2.1
              have u3 := (hB.1.cells Hqm.out).2.2.2
              have u4 := hB.1.free (j := kq * 4) (by omega)
              have u5 := hB.1.free (j := kq * 4 + 1) (by omega)
              have u6 := hB.1.free (j := kq * 4 + 2) (by omega)
              have u7 := hB.1.free (j := kq * 4 + 3) (by omega)
              have hK' := hK g9 _ (fun _ _ _ _ _ _ => rfl) (hR.st2 (by decide) (by decide) (by decide) (⟨hB.1.set hqn rx, Bo.set (Bo.set (Bo.set (Bo.set hB.2 _ _) _ _) _ _) _ _⟩) d15 hun hft hfl) undef rfl
              clear hS hdep hR hB
              unfold Oper.wp
              simp [execOp, Act.eval, e76, e74, go_sem, Oper.upon, u0, u1, u2, u3, u4, u5, u6, u7, *]
              exact hK'
            | m9 + 18, ho, hun, hdep, hK, hfl, hft, hq => exact absurd hq (by omega)
          case fin =>
            intro g9 W hR
            have hN := hR.aft (by simp)
            simp only [putAll, Act.put, List.setIfInBounds_toArray, List.set_cons_zero, List.set_cons_succ]
            clear hR
            have HN := hidR hN
            clear hN HC0
            refine wl_nil5 (P := Try.prog) (ops := #[]) ?_
            go_wp2
            go_roundw
            case rel => exact ⟨s + 1, by omega, by rw [Hkp.out.2, Hkp.out.1]; first | rfl | (push_cast; rw [Int.add_assoc]) | (simp; omega), hidR (by rw [← HSw.out]; exact HN.out.1), hidR HN.out.2⟩
            case measure => have hh := Hkp.out; clear wk; simp [intOf]; omega
        · obtain rfl : s = i := by have := Hai.out; omega
          obtain ⟨i1, i2⟩ := ins_left (Y1 := Y.take s) (Y2 := Y.drop s) (x := x) (by rw [List.take_append_drop]; exact HY.out) HS.out.1 HS.out.2
          rw [List.take_append_drop] at i2
          have HF : Hid (∃ S, RwO wr base g c n (P ++ (S ++ R)) ∧ S.length = 1 + Y.length ∧ SrtL S ∧ SameK ([x] ++ Y) S) := hidR ⟨Y.take s ++ x :: Y.drop s, by have := HR.out; simpa using this, by simp; have := Hi.out.2; omega, i1, i2⟩
          clear HR i1 i2
          go_wp2
          exact bodyPost_ret (v := .tuple #[]) (by simp [results, Try.results71, go_sem]) rfl ⟨rfl, HF.out, HB.out⟩
end Go.Proofs.Ytohnhpicjedfeaa
