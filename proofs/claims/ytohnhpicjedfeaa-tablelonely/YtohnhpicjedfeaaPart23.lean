/-
  Part 23 of the proof: 1 texts, one behind the other.
-/
import Derived.Test.YtohnhpicjedfeaaPart21
namespace Go.Proofs.Ytohnhpicjedfeaa
open Go.RowKit
set_option linter.unusedSimpArgs false
set_option linter.unusedVariables false
attribute [local go_sem] Oper.semAt_some

set_option maxRecDepth 20000 in
set_option maxHeartbeats 64000000 in
theorem sym3b_any (d : Nat) (base g c n : Nat) (hn : n ≤ 1000000000)
    (IH : ∀ (a m b : Nat) (P X Y R : List Rte) (w : World), b - a < d → RwO w base g c n (P ++ (X ++ (Y ++ R))) → P.length = a → a + X.length = m → m + Y.length = b → 0 < X.length → 0 < Y.length → SrtL X → SrtL Y → Calls Try.prog 71 #[.slice (some ⟨g, 0, none⟩) n c, .int .i64 (a : Int), .int .i64 (m : Int), .int .i64 (b : Int), .func (.func 37) #[] #[]] w (SymR base g c n P X Y R w))
    (a m b : Nat) (P X Y R : List Rte) (w : World) (hd : b - a ≤ d) (h : RwO w base g c n (P ++ (X ++ (Y ++ R)))) (ha : P.length = a) (hm : a + X.length = m) (hb : m + Y.length = b) (hX2 : 2 ≤ X.length) (hY2 : 2 ≤ Y.length) (hX : SrtL X) (hY : SrtL Y) (hcm : ¬ (X.length + Y.length) / 2 < X.length) :
    Calls Try.prog 71 #[.slice (some ⟨g, 0, none⟩) n c, .int .i64 (a : Int), .int .i64 (m : Int), .int .i64 (b : Int), .func (.func 37) #[] #[]] w (SymR base g c n P X Y R w) := by
  have hl := h.1
  simp only [List.length_append] at hl
  obtain ⟨xl, hxl⟩ : ∃ xl, xl = X.length := ⟨_, rfl⟩
  obtain ⟨yl, hyl⟩ : ∃ yl, yl = Y.length := ⟨_, rfl⟩
  rw [← hxl] at hm hX2 hl
  rw [← hyl] at hb hY2 hl
  rw [← hxl, ← hyl] at hcm
  obtain ⟨K, hK⟩ : ∃ K, K = (xl + yl) / 2 := ⟨_, rfl⟩
  obtain ⟨md, hmd⟩ : ∃ md, md = a + K := ⟨_, rfl⟩
  obtain ⟨nn, hnn⟩ : ∃ nn, nn = md + m := ⟨_, rfl⟩
  obtain ⟨pp, hpp⟩ : ∃ pp, pp = nn - 1 := ⟨_, rfl⟩
  have wm : IntKind.i64.wrap ((m : Int) - (a : Int)) = (xl : Int) := by rw [IntKind.wrap_i64]; omega
  have dm : ((xl : Int) == 1) = false := by simp; omega
  have wb : IntKind.i64.wrap ((b : Int) - (m : Int)) = (yl : Int) := by rw [IntKind.wrap_i64]; omega
  have db : ((yl : Int) == 1) = false := by simp; omega
  have w1 : IntKind.i64.wrap ((a : Int) + (b : Int)) = (a : Int) + (b : Int) := by rw [IntKind.wrap_i64]; omega
  have w2 : IntKind.u64.wrap ((a : Int) + (b : Int)) = (a : Int) + (b : Int) := by rw [IntKind.wrap_u64]; omega
  have w3 : ((a : Int) + (b : Int)) / 2 = (md : Int) := by omega
  have w4 : IntKind.i64.wrap (md : Int) = (md : Int) := by rw [IntKind.wrap_i64]; omega
  have w5 : IntKind.i64.wrap ((md : Int) + (m : Int)) = (nn : Int) := by rw [IntKind.wrap_i64]; omega
  have w6 : IntKind.i64.wrap ((nn : Int) - 1) = (pp : Int) := by rw [IntKind.wrap_i64]; omega
  have cm : ¬ (md : Int) < (m : Int) := by omega
  have HN : Hid (K = (xl + yl) / 2 ∧ md = a + K ∧ nn = md + m ∧ pp + 1 = nn ∧ m = a + xl ∧ b = m + yl ∧ b ≤ n ∧ 2 ≤ xl ∧ 2 ≤ yl) := hidR ⟨hK, hmd, hnn, by omega, by omega, by omega, by omega, hX2, hY2⟩
  have HL : Hid (xl = X.length ∧ yl = Y.length ∧ P.length = a) := hidR ⟨hxl, hyl, ha⟩
  have HXY : Hid (SrtL X ∧ SrtL Y) := hidR ⟨hX, hY⟩
  have HIH := hidR IH
  have Hd := hidR hd
  have H0 := hidR h
  clear h hl hxl hyl ha hX hY IH hd hcm
  go_enter Try.func71, Try.ntmps71
  have HS : Hid (CutS K X Y 0 xl ∧ xl ≤ K ∧ K ≤ yl) := hidR ⟨⟨by have := HL.out; omega, by omega, by have := HL.out; omega, by omega, fun t x y h1 h2 h3 h4 => by omega, fun t x y h1 h2 h3 h4 => by
    have := (List.getElem?_eq_some_iff.mp h1).1
    have := HL.out
    omega⟩, by omega, by omega⟩
  have HE := hidR hm
  clear hm hb hX2 hY2 hK hmd hnn hpp
  go_wp2_with fail
  go_loopw [20, 21] (fun sv rv wr => ∃ u r : Nat, sv = .int .i64 ((a + u : Nat) : Int) ∧ rv = .int .i64 ((a + r : Nat) : Int) ∧ Hid (CutS K X Y u r) ∧ Hid (RwO wr base g c n (P ++ (X ++ (Y ++ R)))) ∧ Hid (Bo g w wr)) (fun sv rv _ => (intOf rv).toNat - (intOf sv).toNat)
  case atStart => exact ⟨0, xl, rfl, by rw [HE.out], hidR HS.out.1, H0, hidR (Bt.refl _ _)⟩
  case round =>
    clear H0
    obtain ⟨u, r, rfl, rfl, HC9, HR, HB⟩ := hrel
    have hN := HN.out
    have hL := HL.out
    obtain ⟨st, hst⟩ : ∃ st, st = a + u := ⟨_, rfl⟩
    obtain ⟨rr, hrr⟩ : ∃ rr, rr = a + r := ⟨_, rfl⟩
    rw [← hst, ← hrr]
    have k1 := HC9.out.lo
    have k2 := HC9.out.ur
    have k3 := HC9.out.hi
    have k4 := HC9.out.hk
    by_cases hlt : (st : Int) < (rr : Int)
    · obtain ⟨q, hq⟩ : ∃ q, q = (u + r + a + a) / 2 - a := ⟨_, rfl⟩
      obtain ⟨cc, hcc⟩ : ∃ cc, cc = a + q := ⟨_, rfl⟩
      obtain ⟨pc, hpc⟩ : ∃ pc, pc = m + (K - 1 - q) := ⟨_, rfl⟩
      have hqx : q < X.length := by omega
      have hqy : K - 1 - q < Y.length := by omega
      have hw1 : IntKind.i64.wrap ((st : Int) + (rr : Int)) = (st : Int) + (rr : Int) := by rw [IntKind.wrap_i64]; omega
      have hw2 : IntKind.u64.wrap ((st : Int) + (rr : Int)) = (st : Int) + (rr : Int) := by rw [IntKind.wrap_u64]; omega
      have hqi : ((st : Int) + (rr : Int)) / 2 = (cc : Int) := by omega
      have whz : IntKind.i64.wrap (cc : Int) = (cc : Int) := by rw [IntKind.wrap_i64]; omega
      have wc1 : IntKind.i64.wrap ((cc : Int) + 1) = ((cc + 1 : Nat) : Int) := by rw [IntKind.wrap_i64]; push_cast; omega
      have wpc : IntKind.i64.wrap ((pp : Int) - (cc : Int)) = (pc : Int) := by rw [IntKind.wrap_i64]; omega
      have c0 : (0 : Int) ≤ (cc : Int) := by omega
      have c1 : (cc : Int) < (n : Int) := by omega
      have p0 : (0 : Int) ≤ (pc : Int) := by omega
      have p1 : (pc : Int) < (n : Int) := by omega
      have Hcc : Hid ((P ++ (X ++ (Y ++ R)))[cc]? = some X[q]) := hidR (by
        have := at_fst (P := P) (X := X) (R := Y ++ R) hqx
        rw [show P.length + q = cc by omega] at this
        exact this)
      have Hpc : Hid ((P ++ (X ++ (Y ++ R)))[pc]? = some Y[K - 1 - q]) := hidR (by
        rw [List.getElem?_append_right (by omega), List.getElem?_append_right (by omega), List.getElem?_append_left (by omega), show pc - P.length - X.length = K - 1 - q by omega]
        exact List.getElem?_eq_getElem hqy)
      have Hup : Hid (¬ kl Y[K - 1 - q] X[q] → CutS K X Y (q + 1) r) := hidR (HC9.out.up HXY.out.1 HXY.out.2 (by omega) (by omega) (List.getElem?_eq_getElem hqx) (List.getElem?_eq_getElem hqy))
      have Hdn : Hid (kl Y[K - 1 - q] X[q] → CutS K X Y u q) := hidR (HC9.out.down HXY.out.1 HXY.out.2 (by omega) (by omega) (List.getElem?_eq_getElem hqx) (List.getElem?_eq_getElem hqy))
      have KB := fun w => byPrefix_any Y[K - 1 - q].1.1 Y[K - 1 - q].1.2 Y[K - 1 - q].2 X[q].1.1 X[q].1.2 X[q].2 w
      have Hz : Hid (pcmpZ Y[K - 1 - q].1.1 Y[K - 1 - q].1.2 X[q].1.1 X[q].1.2 < 0 ↔ kl Y[K - 1 - q] X[q]) := hidR (cm_kl _ _)
      have HQ : Hid (cc = a + q ∧ u ≤ q ∧ q < r ∧ st = a + u ∧ rr = a + r) := hidR ⟨hcc, by omega, by omega, hst, hrr⟩
      have HC : Hid (RwO wr.drew base g c n (P ++ (X ++ (Y ++ R))) ∧ Bo g w wr.drew) := hidR ⟨HR.out.below (below_drewN (Below.refl _ _) 1), HB.out.trans (Bt.ofB (below_drewN (Below.refl _ _) 1))⟩
      clear HR HB hq hcc hpc hst hrr hN hL k1 k2 k3 k4 HC9
      revert Hcc Hpc Hup Hdn KB Hz
      generalize pcmpZ Y[K - 1 - q].1.1 Y[K - 1 - q].1.2 X[q].1.1 X[q].1.2 = z
      generalize Y[K - 1 - q] = ry
      generalize X[q] = rx
      intro Hcc Hpc Hup Hdn KB Hz
      go_wp2_with fail
      by_cases hz : z < 0
      · have HI2 := hidR (Hdn.out (Hz.out.1 hz))
        refine qw_region (C := fun X9 => RwO X9 base g c n (P ++ (X ++ (Y ++ R))) ∧ Bo g w X9) (by kernel_rfl) (by kernel_rfl) HC.out ?_
        clear HC Hup Hdn
        refine qw_run (v := .func (.func 37) #[] #[]) (by rfl) ?_ ?_
        · (intro w1 hC; clear hC; go_simp; first | done | (simp; done) | (simp [*]; done) | omega | (simp; omega) | rfl)
        simp only [Act.put, List.setIfInBounds_toArray, List.set_cons_zero, List.set_cons_succ]
        refine qw_run (v := .slice (some ⟨g, 0, none⟩) n c) (by rfl) ?_ ?_
        · (intro w1 hC; clear hC; go_simp; first | done | (simp; done) | (simp [*]; done) | omega | (simp; omega) | rfl)
        simp only [Act.put, List.setIfInBounds_toArray, List.set_cons_zero, List.set_cons_succ]
        refine qw_run (v := .int .i64 (pp : Int)) (by rfl) ?_ ?_
        · (intro w1 hC; clear hC; go_simp; first | done | (simp; done) | (simp [*]; done) | omega | (simp; omega) | rfl)
        simp only [Act.put, List.setIfInBounds_toArray, List.set_cons_zero, List.set_cons_succ]
        refine qw_run (v := .int .i64 (cc : Int)) (by rfl) ?_ ?_
        · (intro w1 hC; clear hC; go_simp; first | done | (simp; done) | (simp [*]; done) | omega | (simp; omega) | rfl)
        simp only [Act.put, List.setIfInBounds_toArray, List.set_cons_zero, List.set_cons_succ]
        refine qw_run (v := .int .i64 (pc : Int)) (by rfl) ?_ ?_
        · (intro w1 hC; clear hC; go_simp; first | done | (simp; done) | (simp [*]; done) | omega | (simp; omega) | rfl)
        simp only [Act.put, List.setIfInBounds_toArray, List.set_cons_zero, List.set_cons_succ]
        refine qw_run (v := .pointer (some ⟨g, pc * 4, none⟩)) (by rfl) ?_ ?_
        · (intro w1 hC; clear hC; go_simp; first | done | (simp; done) | (simp [*]; done) | omega | (simp; omega) | rfl)
        simp only [Act.put, List.setIfInBounds_toArray, List.set_cons_zero, List.set_cons_succ]
        refine qw_run (v := .agg #[.int .u64 (hI ry.1.1), .int .u64 (lI ry.1.1), .int .i64 ry.1.2, .int .i64 ry.2]) (by rfl) ?_ ?_
        · (intro w1 hC; have f0 := (hC.1.cells Hpc.out).1; have f1 := (hC.1.cells Hpc.out).2.1; have f2 := (hC.1.cells Hpc.out).2.2.1; have f3 := (hC.1.cells Hpc.out).2.2.2; clear hC; go_simp; first | done | (simp; done) | (simp [*]; done) | omega | (simp; omega) | rfl)
        simp only [Act.put, List.setIfInBounds_toArray, List.set_cons_zero, List.set_cons_succ]
        refine qw_run (v := .slice (some ⟨g, 0, none⟩) n c) (by rfl) ?_ ?_
        · (intro w1 hC; clear hC; go_simp; first | done | (simp; done) | (simp [*]; done) | omega | (simp; omega) | rfl)
        simp only [Act.put, List.setIfInBounds_toArray, List.set_cons_zero, List.set_cons_succ]
        refine qw_run (v := .int .i64 (cc : Int)) (by rfl) ?_ ?_
        · (intro w1 hC; clear hC; go_simp; first | done | (simp; done) | (simp [*]; done) | omega | (simp; omega) | rfl)
        simp only [Act.put, List.setIfInBounds_toArray, List.set_cons_zero, List.set_cons_succ]
        refine qw_run (v := .pointer (some ⟨g, cc * 4, none⟩)) (by rfl) ?_ ?_
        · (intro w1 hC; clear hC; go_simp; first | done | (simp; done) | (simp [*]; done) | omega | (simp; omega) | rfl)
        simp only [Act.put, List.setIfInBounds_toArray, List.set_cons_zero, List.set_cons_succ]
        refine qw_run (v := .agg #[.int .u64 (hI rx.1.1), .int .u64 (lI rx.1.1), .int .i64 rx.1.2, .int .i64 rx.2]) (by rfl) ?_ ?_
        · (intro w1 hC; have f0 := (hC.1.cells Hcc.out).1; have f1 := (hC.1.cells Hcc.out).2.1; have f2 := (hC.1.cells Hcc.out).2.2.1; have f3 := (hC.1.cells Hcc.out).2.2.2; clear hC; go_simp; first | done | (simp; done) | (simp [*]; done) | omega | (simp; omega) | rfl)
        simp only [Act.put, List.setIfInBounds_toArray, List.set_cons_zero, List.set_cons_succ]
        refine qw_call (v := .int .i64 z) (f := 37) (args := #[.agg #[.int .u64 (hI ry.1.1), .int .u64 (lI ry.1.1), .int .i64 ry.1.2, .int .i64 ry.2], .agg #[.int .u64 (hI rx.1.1), .int .u64 (lI rx.1.1), .int .i64 rx.1.2, .int .i64 rx.2]]) (by rfl) ?_ ?_ ?_
        · (intro w1 hC; clear hC; go_simp)
        · exact fun w1 hC => (KB w1).mono fun e w' ⟨he, hb⟩ => ⟨he, ⟨hC.1.below hb, hC.2.trans (Bt.ofB hb)⟩⟩
        simp only [Act.put, List.setIfInBounds_toArray, List.set_cons_zero, List.set_cons_succ]
        refine qw_run (v := .bool true) (by rfl) ?_ ?_
        · (intro w1 hC; clear hC; go_simp; first | done | (simp; done) | (simp [*]; done) | omega | (simp; omega) | rfl)
        simp only [Act.put, List.setIfInBounds_toArray, List.set_cons_zero, List.set_cons_succ]
        refine qw_run (v := .bool false) (by rfl) ?_ ?_
        · (intro w1 hC; clear hC; go_simp; first | done | (simp; done) | (simp [*]; done) | omega | (simp; omega) | rfl)
        simp only [Act.put, List.setIfInBounds_toArray, List.set_cons_zero, List.set_cons_succ]
        refine qw_nil ?_
        intro w3 hC
        have HR3 := hidR hC.1
        have HB3 := hidR hC.2
        clear hC KB hz
        go_wp2
        go_roundw
        case rel => exact ⟨u, q, by rw [HQ.out.2.2.2.1], by rw [HQ.out.1], HI2, HR3, HB3⟩
        case measure => have := HQ.out; simp [intOf]; omega
      · have HI2 := hidR (Hup.out (fun k => hz (Hz.out.2 k)))
        refine qw_region (C := fun X9 => RwO X9 base g c n (P ++ (X ++ (Y ++ R))) ∧ Bo g w X9) (by kernel_rfl) (by kernel_rfl) HC.out ?_
        clear HC Hup Hdn
        refine qw_run (v := .func (.func 37) #[] #[]) (by rfl) ?_ ?_
        · (intro w1 hC; clear hC; go_simp; first | done | (simp; done) | (simp [*]; done) | omega | (simp; omega) | rfl)
        simp only [Act.put, List.setIfInBounds_toArray, List.set_cons_zero, List.set_cons_succ]
        refine qw_run (v := .slice (some ⟨g, 0, none⟩) n c) (by rfl) ?_ ?_
        · (intro w1 hC; clear hC; go_simp; first | done | (simp; done) | (simp [*]; done) | omega | (simp; omega) | rfl)
        simp only [Act.put, List.setIfInBounds_toArray, List.set_cons_zero, List.set_cons_succ]
        refine qw_run (v := .int .i64 (pp : Int)) (by rfl) ?_ ?_
        · (intro w1 hC; clear hC; go_simp; first | done | (simp; done) | (simp [*]; done) | omega | (simp; omega) | rfl)
        simp only [Act.put, List.setIfInBounds_toArray, List.set_cons_zero, List.set_cons_succ]
        refine qw_run (v := .int .i64 (cc : Int)) (by rfl) ?_ ?_
        · (intro w1 hC; clear hC; go_simp; first | done | (simp; done) | (simp [*]; done) | omega | (simp; omega) | rfl)
        simp only [Act.put, List.setIfInBounds_toArray, List.set_cons_zero, List.set_cons_succ]
        refine qw_run (v := .int .i64 (pc : Int)) (by rfl) ?_ ?_
        · (intro w1 hC; clear hC; go_simp; first | done | (simp; done) | (simp [*]; done) | omega | (simp; omega) | rfl)
        simp only [Act.put, List.setIfInBounds_toArray, List.set_cons_zero, List.set_cons_succ]
        refine qw_run (v := .pointer (some ⟨g, pc * 4, none⟩)) (by rfl) ?_ ?_
        · (intro w1 hC; clear hC; go_simp; first | done | (simp; done) | (simp [*]; done) | omega | (simp; omega) | rfl)
        simp only [Act.put, List.setIfInBounds_toArray, List.set_cons_zero, List.set_cons_succ]
        refine qw_run (v := .agg #[.int .u64 (hI ry.1.1), .int .u64 (lI ry.1.1), .int .i64 ry.1.2, .int .i64 ry.2]) (by rfl) ?_ ?_
        · (intro w1 hC; have f0 := (hC.1.cells Hpc.out).1; have f1 := (hC.1.cells Hpc.out).2.1; have f2 := (hC.1.cells Hpc.out).2.2.1; have f3 := (hC.1.cells Hpc.out).2.2.2; clear hC; go_simp; first | done | (simp; done) | (simp [*]; done) | omega | (simp; omega) | rfl)
        simp only [Act.put, List.setIfInBounds_toArray, List.set_cons_zero, List.set_cons_succ]
        refine qw_run (v := .slice (some ⟨g, 0, none⟩) n c) (by rfl) ?_ ?_
        · (intro w1 hC; clear hC; go_simp; first | done | (simp; done) | (simp [*]; done) | omega | (simp; omega) | rfl)
        simp only [Act.put, List.setIfInBounds_toArray, List.set_cons_zero, List.set_cons_succ]
        refine qw_run (v := .int .i64 (cc : Int)) (by rfl) ?_ ?_
        · (intro w1 hC; clear hC; go_simp; first | done | (simp; done) | (simp [*]; done) | omega | (simp; omega) | rfl)
        simp only [Act.put, List.setIfInBounds_toArray, List.set_cons_zero, List.set_cons_succ]
        refine qw_run (v := .pointer (some ⟨g, cc * 4, none⟩)) (by rfl) ?_ ?_
        · (intro w1 hC; clear hC; go_simp; first | done | (simp; done) | (simp [*]; done) | omega | (simp; omega) | rfl)
        simp only [Act.put, List.setIfInBounds_toArray, List.set_cons_zero, List.set_cons_succ]
        refine qw_run (v := .agg #[.int .u64 (hI rx.1.1), .int .u64 (lI rx.1.1), .int .i64 rx.1.2, .int .i64 rx.2]) (by rfl) ?_ ?_
        · (intro w1 hC; have f0 := (hC.1.cells Hcc.out).1; have f1 := (hC.1.cells Hcc.out).2.1; have f2 := (hC.1.cells Hcc.out).2.2.1; have f3 := (hC.1.cells Hcc.out).2.2.2; clear hC; go_simp; first | done | (simp; done) | (simp [*]; done) | omega | (simp; omega) | rfl)
        simp only [Act.put, List.setIfInBounds_toArray, List.set_cons_zero, List.set_cons_succ]
        refine qw_call (v := .int .i64 z) (f := 37) (args := #[.agg #[.int .u64 (hI ry.1.1), .int .u64 (lI ry.1.1), .int .i64 ry.1.2, .int .i64 ry.2], .agg #[.int .u64 (hI rx.1.1), .int .u64 (lI rx.1.1), .int .i64 rx.1.2, .int .i64 rx.2]]) (by rfl) ?_ ?_ ?_
        · (intro w1 hC; clear hC; go_simp)
        · exact fun w1 hC => (KB w1).mono fun e w' ⟨he, hb⟩ => ⟨he, ⟨hC.1.below hb, hC.2.trans (Bt.ofB hb)⟩⟩
        simp only [Act.put, List.setIfInBounds_toArray, List.set_cons_zero, List.set_cons_succ]
        refine qw_run (v := .bool false) (by rfl) ?_ ?_
        · (intro w1 hC; clear hC; go_simp; first | done | (simp; done) | (simp [*]; done) | omega | (simp; omega) | rfl)
        simp only [Act.put, List.setIfInBounds_toArray, List.set_cons_zero, List.set_cons_succ]
        refine qw_run (v := .bool true) (by rfl) ?_ ?_
        · (intro w1 hC; clear hC; go_simp; first | done | (simp; done) | (simp [*]; done) | omega | (simp; omega) | rfl)
        simp only [Act.put, List.setIfInBounds_toArray, List.set_cons_zero, List.set_cons_succ]
        refine qw_nil ?_
        intro w3 hC
        have HR3 := hidR hC.1
        have HB3 := hidR hC.2
        clear hC KB hz
        go_wp2
        go_roundw
        case rel => exact ⟨q + 1, r, by rw [HQ.out.1]; first | rfl | simp | (push_cast; rw [Int.add_assoc]), by rw [HQ.out.2.2.2.2], HI2, HR3, HB3⟩
        case measure => have := HQ.out; simp [intOf]; omega
    · obtain rfl : u = r := by omega
      obtain rfl : rr = st := by omega
      obtain ⟨en, hen⟩ : ∃ en, en = m + (K - u) := ⟨_, rfl⟩
      have we : IntKind.i64.wrap ((nn : Int) - (rr : Int)) = (en : Int) := by rw [IntKind.wrap_i64]; omega
      have HF := hidR (HC9.out.fin (r0 := K) (.inr rfl) HXY.out.1 HXY.out.2)
      have HT : Hid (X.take u ++ X.drop u = X ∧ Y.take (K - u) ++ Y.drop (K - u) = Y ∧ (X.take u).length = u ∧ (X.drop u).length = xl - u ∧ (Y.take (K - u)).length = K - u ∧ (Y.drop (K - u)).length = yl - (K - u)) := hidR ⟨List.take_append_drop _ _, List.take_append_drop _ _, by rw [List.length_take]; omega, by rw [List.length_drop]; omega, by rw [List.length_take]; omega, by rw [List.length_drop]; omega⟩
      have HU : Hid (u ≤ xl ∧ u ≤ K ∧ K - u ≤ yl ∧ rr = a + u ∧ en = m + (K - u)) := hidR ⟨by omega, k4, by omega, hst, hen⟩
      clear hlt hst hrr hN hL k1 k2 k3 k4 HC9 hen
      revert HF HT
      generalize X.take u = X1
      generalize X.drop u = X2
      generalize Y.take (K - u) = Y1
      generalize Y.drop (K - u) = Y2
      intro HF HT
      have HR0 : Hid (RwO wr base g c n ((P ++ X1) ++ (X2 ++ (Y1 ++ (Y2 ++ R))))) := hidR (by
        have := HR.out
        rw [← HT.out.1, ← HT.out.2.1] at this
        simpa using this)
      have HSX : Hid (SrtL (X1 ++ X2) ∧ SrtL (Y1 ++ Y2)) := hidR (by rw [HT.out.1, HT.out.2.1]; exact HXY.out)
      clear HR
      have hU := HU.out
      have hN := HN.out
      have hT := HT.out
      have hL := HL.out
      by_cases q1 : (rr : Int) < (m : Int)
      · by_cases q2 : (m : Int) < (en : Int)
        · have HP1 := hidR (And.intro q1 q2)
          first
          | (exfalso; have := HU.out; have := HN.out; have := HP1.out; omega)
          | (
            have KR := rotate_any base g c n rr m en (P ++ X1) X2 Y1 (Y2 ++ R) wr HR0.out (by rw [List.length_append]; omega) (by omega) (by omega) (by omega) (by omega) hn
            clear hU hN hT hL HR0
            go_wp2_with fail
            refine KR.mono ?_
            rintro e wa ⟨rfl, hr, hbo⟩
            have HR1 : Hid (RwO wa base g c n (P ++ (X1 ++ (Y1 ++ (X2 ++ (Y2 ++ R)))))) := hidR (by simpa using hr)
            have HB1 := hidR (HB.out.trans hbo)
            clear KR hr hbo HB q1 q2
            have hU := HU.out
            have hN := HN.out
            have hT := HT.out
            have hL := HL.out
            by_cases q3 : (a : Int) < (rr : Int)
            · by_cases q4 : (rr : Int) < (md : Int)
              · have HP2 := hidR (And.intro q3 q4)
                first
                | (exfalso; have := HU.out; have := HN.out; have := HP1.out; have := HP2.out; omega)
                | (
                  have KR := HIH.out a rr md P X1 Y1 (X2 ++ (Y2 ++ R)) wa (by have := Hd.out; omega) HR1.out hL.2.2 (by omega) (by omega) (by omega) (by omega) (List.pairwise_append.mp HSX.out.1).1 (List.pairwise_append.mp HSX.out.2).1
                  clear hU hN hT hL HR1
                  go_wp2_with fail
                  refine KR.mono ?_
                  rintro e wb ⟨rfl, ⟨S1, hr, hsl, hs1, hs2⟩, hbo⟩
                  have HR2 := hidR hr
                  have HB2 := hidR (HB1.out.trans hbo)
                  have HS1 : Hid (SrtL S1 ∧ SameK (X1 ++ Y1) S1 ∧ S1.length = K) := hidR ⟨hs1, hs2, by have := HT.out; have := HU.out; omega⟩
                  clear KR hr hsl hs1 hs2 hbo HB1 q3 q4
                  have hU := HU.out
                  have hN := HN.out
                  have hT := HT.out
                  have hL := HL.out
                  by_cases q5 : (md : Int) < (en : Int)
                  · by_cases q6 : (en : Int) < (b : Int)
                    · have HP3 := hidR (And.intro q5 q6)
                      first
                      | (exfalso; have := HU.out; have := HN.out; have := HP1.out; have := HP2.out; have := HP3.out; omega)
                      | (
                        have KR := HIH.out md en b (P ++ S1) X2 Y2 R wb (by have := Hd.out; omega) (by have := HR2.out; simpa using this) (by rw [List.length_append, HS1.out.2.2]; omega) (by omega) (by omega) (by omega) (by omega) (List.pairwise_append.mp HSX.out.1).2.1 (List.pairwise_append.mp HSX.out.2).2.1
                        clear hU hN hT hL HR2
                        go_wp2_with fail
                        refine KR.mono ?_
                        rintro e wc ⟨rfl, ⟨S2, hr, hsl, hs1, hs2⟩, hbo⟩
                        have HR3 : Hid (RwO wc base g c n (P ++ ((S1 ++ S2) ++ R))) := hidR (by simpa using hr)
                        have HB3 := hidR (HB2.out.trans hbo)
                        have HS2 : Hid (SrtL S2 ∧ SameK (X2 ++ Y2) S2 ∧ S2.length = X2.length + Y2.length) := hidR ⟨hs1, hs2, hsl⟩
                        clear KR hr hsl hs1 hs2 hbo HB2 q5 q6
                        have HZ : Hid (∃ S, RwO wc base g c n (P ++ (S ++ R)) ∧ S.length = X.length + Y.length ∧ SrtL S ∧ SameK (X ++ Y) S) := hidR (by
                          obtain ⟨z1, z2⟩ := sym_split HSX.out.1 HSX.out.2 HF.out.1 HF.out.2 HS1.out.1 HS1.out.2.1 HS2.out.1 HS2.out.2.1
                          rw [HT.out.1, HT.out.2.1] at z2
                          refine ⟨S1 ++ S2, HR3.out, ?_, z1, z2⟩
                          rw [List.length_append, HS1.out.2.2, HS2.out.2.2]
                          have := HT.out; have := HU.out; have := HL.out; omega)
                        clear HR3 HS1 HS2
                        go_wp2
                        exact bodyPost_end (v := .tuple #[]) (by simp [results, Try.results71, go_sem]) rfl ⟨rfl, HZ.out, HB3.out⟩)
                    · have HP3 := hidR (And.intro q5 q6)
                      first
                      | (exfalso; have := HU.out; have := HN.out; have := HP1.out; have := HP2.out; have := HP3.out; omega)
                      | (
                        obtain ⟨S2, HS2, HR3⟩ : ∃ S2, Hid (SrtL S2 ∧ SameK (X2 ++ Y2) S2 ∧ S2.length = X2.length + Y2.length) ∧ Hid (RwO wb base g c n (P ++ ((S1 ++ S2) ++ R))) := by
                          have e : Y2 = [] := List.length_eq_zero_iff.mp (by omega)
                          refine ⟨X2, hidR ⟨(List.pairwise_append.mp HSX.out.1).2.1, by rw [e, List.append_nil]; exact SameK.refl _, by rw [e]; simp⟩, hidR ?_⟩
                          have h := HR2.out
                          rw [e] at h
                          simpa using h
                        have HB3 := HB2
                        obtain ⟨wc, hwc⟩ : ∃ wc, wc = wb := ⟨_, rfl⟩
                        rw [← hwc] at HR3 HB3 ⊢
                        clear hU hN hT hL HR2 HB2 hwc
                        have HZ : Hid (∃ S, RwO wc base g c n (P ++ (S ++ R)) ∧ S.length = X.length + Y.length ∧ SrtL S ∧ SameK (X ++ Y) S) := hidR (by
                          obtain ⟨z1, z2⟩ := sym_split HSX.out.1 HSX.out.2 HF.out.1 HF.out.2 HS1.out.1 HS1.out.2.1 HS2.out.1 HS2.out.2.1
                          rw [HT.out.1, HT.out.2.1] at z2
                          refine ⟨S1 ++ S2, HR3.out, ?_, z1, z2⟩
                          rw [List.length_append, HS1.out.2.2, HS2.out.2.2]
                          have := HT.out; have := HU.out; have := HL.out; omega)
                        clear HR3 HS1 HS2
                        go_wp2
                        exact bodyPost_end (v := .tuple #[]) (by simp [results, Try.results71, go_sem]) rfl ⟨rfl, HZ.out, HB3.out⟩)
                  · have HP3 := hidR (And.intro q5 True.intro)
                    first
                    | (exfalso; have := HU.out; have := HN.out; have := HP1.out; have := HP2.out; have := HP3.out; omega)
                    | (
                      obtain ⟨S2, HS2, HR3⟩ : ∃ S2, Hid (SrtL S2 ∧ SameK (X2 ++ Y2) S2 ∧ S2.length = X2.length + Y2.length) ∧ Hid (RwO wb base g c n (P ++ ((S1 ++ S2) ++ R))) := by
                        have e : X2 = [] := List.length_eq_zero_iff.mp (by omega)
                        refine ⟨Y2, hidR ⟨(List.pairwise_append.mp HSX.out.2).2.1, by rw [e, List.nil_append]; exact SameK.refl _, by rw [e]; simp⟩, hidR ?_⟩
                        have h := HR2.out
                        rw [e] at h
                        simpa using h
                      have HB3 := HB2
                      obtain ⟨wc, hwc⟩ : ∃ wc, wc = wb := ⟨_, rfl⟩
                      rw [← hwc] at HR3 HB3 ⊢
                      clear hU hN hT hL HR2 HB2 hwc
                      have HZ : Hid (∃ S, RwO wc base g c n (P ++ (S ++ R)) ∧ S.length = X.length + Y.length ∧ SrtL S ∧ SameK (X ++ Y) S) := hidR (by
                        obtain ⟨z1, z2⟩ := sym_split HSX.out.1 HSX.out.2 HF.out.1 HF.out.2 HS1.out.1 HS1.out.2.1 HS2.out.1 HS2.out.2.1
                        rw [HT.out.1, HT.out.2.1] at z2
                        refine ⟨S1 ++ S2, HR3.out, ?_, z1, z2⟩
                        rw [List.length_append, HS1.out.2.2, HS2.out.2.2]
                        have := HT.out; have := HU.out; have := HL.out; omega)
                      clear HR3 HS1 HS2
                      go_wp2
                      exact bodyPost_end (v := .tuple #[]) (by simp [results, Try.results71, go_sem]) rfl ⟨rfl, HZ.out, HB3.out⟩))
              · have HP2 := hidR (And.intro q3 q4)
                first
                | (exfalso; have := HU.out; have := HN.out; have := HP1.out; have := HP2.out; omega)
                | (
                  obtain ⟨S1, HS1, HR2⟩ : ∃ S1, Hid (SrtL S1 ∧ SameK (X1 ++ Y1) S1 ∧ S1.length = K) ∧ Hid (RwO wa base g c n (P ++ (S1 ++ (X2 ++ (Y2 ++ R))))) := by
                    have e : Y1 = [] := List.length_eq_zero_iff.mp (by omega)
                    refine ⟨X1, hidR ⟨(List.pairwise_append.mp HSX.out.1).1, by rw [e, List.append_nil]; exact SameK.refl _, by omega⟩, hidR ?_⟩
                    have h := HR1.out
                    rw [e] at h
                    simpa using h
                  have HB2 := HB1
                  obtain ⟨wb, hwb⟩ : ∃ wb, wb = wa := ⟨_, rfl⟩
                  rw [← hwb] at HR2 HB2 ⊢
                  clear hU hN hT hL HR1 HB1 hwb
                  have hU := HU.out
                  have hN := HN.out
                  have hT := HT.out
                  have hL := HL.out
                  by_cases q5 : (md : Int) < (en : Int)
                  · by_cases q6 : (en : Int) < (b : Int)
                    · have HP3 := hidR (And.intro q5 q6)
                      first
                      | (exfalso; have := HU.out; have := HN.out; have := HP1.out; have := HP2.out; have := HP3.out; omega)
                      | (
                        have KR := HIH.out md en b (P ++ S1) X2 Y2 R wb (by have := Hd.out; omega) (by have := HR2.out; simpa using this) (by rw [List.length_append, HS1.out.2.2]; omega) (by omega) (by omega) (by omega) (by omega) (List.pairwise_append.mp HSX.out.1).2.1 (List.pairwise_append.mp HSX.out.2).2.1
                        clear hU hN hT hL HR2
                        go_wp2_with fail
                        refine KR.mono ?_
                        rintro e wc ⟨rfl, ⟨S2, hr, hsl, hs1, hs2⟩, hbo⟩
                        have HR3 : Hid (RwO wc base g c n (P ++ ((S1 ++ S2) ++ R))) := hidR (by simpa using hr)
                        have HB3 := hidR (HB2.out.trans hbo)
                        have HS2 : Hid (SrtL S2 ∧ SameK (X2 ++ Y2) S2 ∧ S2.length = X2.length + Y2.length) := hidR ⟨hs1, hs2, hsl⟩
                        clear KR hr hsl hs1 hs2 hbo HB2 q5 q6
                        have HZ : Hid (∃ S, RwO wc base g c n (P ++ (S ++ R)) ∧ S.length = X.length + Y.length ∧ SrtL S ∧ SameK (X ++ Y) S) := hidR (by
                          obtain ⟨z1, z2⟩ := sym_split HSX.out.1 HSX.out.2 HF.out.1 HF.out.2 HS1.out.1 HS1.out.2.1 HS2.out.1 HS2.out.2.1
                          rw [HT.out.1, HT.out.2.1] at z2
                          refine ⟨S1 ++ S2, HR3.out, ?_, z1, z2⟩
                          rw [List.length_append, HS1.out.2.2, HS2.out.2.2]
                          have := HT.out; have := HU.out; have := HL.out; omega)
                        clear HR3 HS1 HS2
                        go_wp2
                        exact bodyPost_end (v := .tuple #[]) (by simp [results, Try.results71, go_sem]) rfl ⟨rfl, HZ.out, HB3.out⟩)
                    · have HP3 := hidR (And.intro q5 q6)
                      first
                      | (exfalso; have := HU.out; have := HN.out; have := HP1.out; have := HP2.out; have := HP3.out; omega)
                      | (
                        obtain ⟨S2, HS2, HR3⟩ : ∃ S2, Hid (SrtL S2 ∧ SameK (X2 ++ Y2) S2 ∧ S2.length = X2.length + Y2.length) ∧ Hid (RwO wb base g c n (P ++ ((S1 ++ S2) ++ R))) := by
                          have e : Y2 = [] := List.length_eq_zero_iff.mp (by omega)
                          refine ⟨X2, hidR ⟨(List.pairwise_append.mp HSX.out.1).2.1, by rw [e, List.append_nil]; exact SameK.refl _, by rw [e]; simp⟩, hidR ?_⟩
                          have h := HR2.out
                          rw [e] at h
                          simpa using h
                        have HB3 := HB2
                        obtain ⟨wc, hwc⟩ : ∃ wc, wc = wb := ⟨_, rfl⟩
                        rw [← hwc] at HR3 HB3 ⊢
                        clear hU hN hT hL HR2 HB2 hwc
                        have HZ : Hid (∃ S, RwO wc base g c n (P ++ (S ++ R)) ∧ S.length = X.length + Y.length ∧ SrtL S ∧ SameK (X ++ Y) S) := hidR (by
                          obtain ⟨z1, z2⟩ := sym_split HSX.out.1 HSX.out.2 HF.out.1 HF.out.2 HS1.out.1 HS1.out.2.1 HS2.out.1 HS2.out.2.1
                          rw [HT.out.1, HT.out.2.1] at z2
                          refine ⟨S1 ++ S2, HR3.out, ?_, z1, z2⟩
                          rw [List.length_append, HS1.out.2.2, HS2.out.2.2]
                          have := HT.out; have := HU.out; have := HL.out; omega)
                        clear HR3 HS1 HS2
                        go_wp2
                        exact bodyPost_end (v := .tuple #[]) (by simp [results, Try.results71, go_sem]) rfl ⟨rfl, HZ.out, HB3.out⟩)
                  · have HP3 := hidR (And.intro q5 True.intro)
                    first
                    | (exfalso; have := HU.out; have := HN.out; have := HP1.out; have := HP2.out; have := HP3.out; omega)
                    | (
                      obtain ⟨S2, HS2, HR3⟩ : ∃ S2, Hid (SrtL S2 ∧ SameK (X2 ++ Y2) S2 ∧ S2.length = X2.length + Y2.length) ∧ Hid (RwO wb base g c n (P ++ ((S1 ++ S2) ++ R))) := by
                        have e : X2 = [] := List.length_eq_zero_iff.mp (by omega)
                        refine ⟨Y2, hidR ⟨(List.pairwise_append.mp HSX.out.2).2.1, by rw [e, List.nil_append]; exact SameK.refl _, by rw [e]; simp⟩, hidR ?_⟩
                        have h := HR2.out
                        rw [e] at h
                        simpa using h
                      have HB3 := HB2
                      obtain ⟨wc, hwc⟩ : ∃ wc, wc = wb := ⟨_, rfl⟩
                      rw [← hwc] at HR3 HB3 ⊢
                      clear hU hN hT hL HR2 HB2 hwc
                      have HZ : Hid (∃ S, RwO wc base g c n (P ++ (S ++ R)) ∧ S.length = X.length + Y.length ∧ SrtL S ∧ SameK (X ++ Y) S) := hidR (by
                        obtain ⟨z1, z2⟩ := sym_split HSX.out.1 HSX.out.2 HF.out.1 HF.out.2 HS1.out.1 HS1.out.2.1 HS2.out.1 HS2.out.2.1
                        rw [HT.out.1, HT.out.2.1] at z2
                        refine ⟨S1 ++ S2, HR3.out, ?_, z1, z2⟩
                        rw [List.length_append, HS1.out.2.2, HS2.out.2.2]
                        have := HT.out; have := HU.out; have := HL.out; omega)
                      clear HR3 HS1 HS2
                      go_wp2
                      exact bodyPost_end (v := .tuple #[]) (by simp [results, Try.results71, go_sem]) rfl ⟨rfl, HZ.out, HB3.out⟩))
            · have HP2 := hidR (And.intro q3 True.intro)
              first
              | (exfalso; have := HU.out; have := HN.out; have := HP1.out; have := HP2.out; omega)
              | (
                obtain ⟨S1, HS1, HR2⟩ : ∃ S1, Hid (SrtL S1 ∧ SameK (X1 ++ Y1) S1 ∧ S1.length = K) ∧ Hid (RwO wa base g c n (P ++ (S1 ++ (X2 ++ (Y2 ++ R))))) := by
                  have e : X1 = [] := List.length_eq_zero_iff.mp (by omega)
                  refine ⟨Y1, hidR ⟨(List.pairwise_append.mp HSX.out.2).1, by rw [e, List.nil_append]; exact SameK.refl _, by omega⟩, hidR ?_⟩
                  have h := HR1.out
                  rw [e] at h
                  simpa using h
                have HB2 := HB1
                obtain ⟨wb, hwb⟩ : ∃ wb, wb = wa := ⟨_, rfl⟩
                rw [← hwb] at HR2 HB2 ⊢
                clear hU hN hT hL HR1 HB1 hwb
                have hU := HU.out
                have hN := HN.out
                have hT := HT.out
                have hL := HL.out
                by_cases q5 : (md : Int) < (en : Int)
                · by_cases q6 : (en : Int) < (b : Int)
                  · have HP3 := hidR (And.intro q5 q6)
                    first
                    | (exfalso; have := HU.out; have := HN.out; have := HP1.out; have := HP2.out; have := HP3.out; omega)
                    | (
                      have KR := HIH.out md en b (P ++ S1) X2 Y2 R wb (by have := Hd.out; omega) (by have := HR2.out; simpa using this) (by rw [List.length_append, HS1.out.2.2]; omega) (by omega) (by omega) (by omega) (by omega) (List.pairwise_append.mp HSX.out.1).2.1 (List.pairwise_append.mp HSX.out.2).2.1
                      clear hU hN hT hL HR2
                      go_wp2_with fail
                      refine KR.mono ?_
                      rintro e wc ⟨rfl, ⟨S2, hr, hsl, hs1, hs2⟩, hbo⟩
                      have HR3 : Hid (RwO wc base g c n (P ++ ((S1 ++ S2) ++ R))) := hidR (by simpa using hr)
                      have HB3 := hidR (HB2.out.trans hbo)
                      have HS2 : Hid (SrtL S2 ∧ SameK (X2 ++ Y2) S2 ∧ S2.length = X2.length + Y2.length) := hidR ⟨hs1, hs2, hsl⟩
                      clear KR hr hsl hs1 hs2 hbo HB2 q5 q6
                      have HZ : Hid (∃ S, RwO wc base g c n (P ++ (S ++ R)) ∧ S.length = X.length + Y.length ∧ SrtL S ∧ SameK (X ++ Y) S) := hidR (by
                        obtain ⟨z1, z2⟩ := sym_split HSX.out.1 HSX.out.2 HF.out.1 HF.out.2 HS1.out.1 HS1.out.2.1 HS2.out.1 HS2.out.2.1
                        rw [HT.out.1, HT.out.2.1] at z2
                        refine ⟨S1 ++ S2, HR3.out, ?_, z1, z2⟩
                        rw [List.length_append, HS1.out.2.2, HS2.out.2.2]
                        have := HT.out; have := HU.out; have := HL.out; omega)
                      clear HR3 HS1 HS2
                      go_wp2
                      exact bodyPost_end (v := .tuple #[]) (by simp [results, Try.results71, go_sem]) rfl ⟨rfl, HZ.out, HB3.out⟩)
                  · have HP3 := hidR (And.intro q5 q6)
                    first
                    | (exfalso; have := HU.out; have := HN.out; have := HP1.out; have := HP2.out; have := HP3.out; omega)
                    | (
                      obtain ⟨S2, HS2, HR3⟩ : ∃ S2, Hid (SrtL S2 ∧ SameK (X2 ++ Y2) S2 ∧ S2.length = X2.length + Y2.length) ∧ Hid (RwO wb base g c n (P ++ ((S1 ++ S2) ++ R))) := by
                        have e : Y2 = [] := List.length_eq_zero_iff.mp (by omega)
                        refine ⟨X2, hidR ⟨(List.pairwise_append.mp HSX.out.1).2.1, by rw [e, List.append_nil]; exact SameK.refl _, by rw [e]; simp⟩, hidR ?_⟩
                        have h := HR2.out
                        rw [e] at h
                        simpa using h
                      have HB3 := HB2
                      obtain ⟨wc, hwc⟩ : ∃ wc, wc = wb := ⟨_, rfl⟩
                      rw [← hwc] at HR3 HB3 ⊢
                      clear hU hN hT hL HR2 HB2 hwc
                      have HZ : Hid (∃ S, RwO wc base g c n (P ++ (S ++ R)) ∧ S.length = X.length + Y.length ∧ SrtL S ∧ SameK (X ++ Y) S) := hidR (by
                        obtain ⟨z1, z2⟩ := sym_split HSX.out.1 HSX.out.2 HF.out.1 HF.out.2 HS1.out.1 HS1.out.2.1 HS2.out.1 HS2.out.2.1
                        rw [HT.out.1, HT.out.2.1] at z2
                        refine ⟨S1 ++ S2, HR3.out, ?_, z1, z2⟩
                        rw [List.length_append, HS1.out.2.2, HS2.out.2.2]
                        have := HT.out; have := HU.out; have := HL.out; omega)
                      clear HR3 HS1 HS2
                      go_wp2
                      exact bodyPost_end (v := .tuple #[]) (by simp [results, Try.results71, go_sem]) rfl ⟨rfl, HZ.out, HB3.out⟩)
                · have HP3 := hidR (And.intro q5 True.intro)
                  first
                  | (exfalso; have := HU.out; have := HN.out; have := HP1.out; have := HP2.out; have := HP3.out; omega)
                  | (
                    obtain ⟨S2, HS2, HR3⟩ : ∃ S2, Hid (SrtL S2 ∧ SameK (X2 ++ Y2) S2 ∧ S2.length = X2.length + Y2.length) ∧ Hid (RwO wb base g c n (P ++ ((S1 ++ S2) ++ R))) := by
                      have e : X2 = [] := List.length_eq_zero_iff.mp (by omega)
                      refine ⟨Y2, hidR ⟨(List.pairwise_append.mp HSX.out.2).2.1, by rw [e, List.nil_append]; exact SameK.refl _, by rw [e]; simp⟩, hidR ?_⟩
                      have h := HR2.out
                      rw [e] at h
                      simpa using h
                    have HB3 := HB2
                    obtain ⟨wc, hwc⟩ : ∃ wc, wc = wb := ⟨_, rfl⟩
                    rw [← hwc] at HR3 HB3 ⊢
                    clear hU hN hT hL HR2 HB2 hwc
                    have HZ : Hid (∃ S, RwO wc base g c n (P ++ (S ++ R)) ∧ S.length = X.length + Y.length ∧ SrtL S ∧ SameK (X ++ Y) S) := hidR (by
                      obtain ⟨z1, z2⟩ := sym_split HSX.out.1 HSX.out.2 HF.out.1 HF.out.2 HS1.out.1 HS1.out.2.1 HS2.out.1 HS2.out.2.1
                      rw [HT.out.1, HT.out.2.1] at z2
                      refine ⟨S1 ++ S2, HR3.out, ?_, z1, z2⟩
                      rw [List.length_append, HS1.out.2.2, HS2.out.2.2]
                      have := HT.out; have := HU.out; have := HL.out; omega)
                    clear HR3 HS1 HS2
                    go_wp2
                    exact bodyPost_end (v := .tuple #[]) (by simp [results, Try.results71, go_sem]) rfl ⟨rfl, HZ.out, HB3.out⟩)))
        · have HP1 := hidR (And.intro q1 q2)
          first
          | (exfalso; have := HU.out; have := HN.out; have := HP1.out; omega)
          | (
            have HR1 : Hid (RwO wr base g c n (P ++ (X1 ++ (Y1 ++ (X2 ++ (Y2 ++ R)))))) := hidR (by
              have : Y1 = [] := List.length_eq_zero_iff.mp (by omega)
              have h := HR0.out
              rw [this] at h ⊢
              simpa using h)
            have HB1 := HB
            obtain ⟨wa, hwa⟩ : ∃ wa, wa = wr := ⟨_, rfl⟩
            rw [← hwa] at HR1 HB1 ⊢
            clear hU hN hT hL HR0 HB hwa
            have hU := HU.out
            have hN := HN.out
            have hT := HT.out
            have hL := HL.out
            by_cases q3 : (a : Int) < (rr : Int)
            · by_cases q4 : (rr : Int) < (md : Int)
              · have HP2 := hidR (And.intro q3 q4)
                first
                | (exfalso; have := HU.out; have := HN.out; have := HP1.out; have := HP2.out; omega)
                | (
                  have KR := HIH.out a rr md P X1 Y1 (X2 ++ (Y2 ++ R)) wa (by have := Hd.out; omega) HR1.out hL.2.2 (by omega) (by omega) (by omega) (by omega) (List.pairwise_append.mp HSX.out.1).1 (List.pairwise_append.mp HSX.out.2).1
                  clear hU hN hT hL HR1
                  go_wp2_with fail
                  refine KR.mono ?_
                  rintro e wb ⟨rfl, ⟨S1, hr, hsl, hs1, hs2⟩, hbo⟩
                  have HR2 := hidR hr
                  have HB2 := hidR (HB1.out.trans hbo)
                  have HS1 : Hid (SrtL S1 ∧ SameK (X1 ++ Y1) S1 ∧ S1.length = K) := hidR ⟨hs1, hs2, by have := HT.out; have := HU.out; omega⟩
                  clear KR hr hsl hs1 hs2 hbo HB1 q3 q4
                  have hU := HU.out
                  have hN := HN.out
                  have hT := HT.out
                  have hL := HL.out
                  by_cases q5 : (md : Int) < (en : Int)
                  · by_cases q6 : (en : Int) < (b : Int)
                    · have HP3 := hidR (And.intro q5 q6)
                      first
                      | (exfalso; have := HU.out; have := HN.out; have := HP1.out; have := HP2.out; have := HP3.out; omega)
                      | (
                        have KR := HIH.out md en b (P ++ S1) X2 Y2 R wb (by have := Hd.out; omega) (by have := HR2.out; simpa using this) (by rw [List.length_append, HS1.out.2.2]; omega) (by omega) (by omega) (by omega) (by omega) (List.pairwise_append.mp HSX.out.1).2.1 (List.pairwise_append.mp HSX.out.2).2.1
                        clear hU hN hT hL HR2
                        go_wp2_with fail
                        refine KR.mono ?_
                        rintro e wc ⟨rfl, ⟨S2, hr, hsl, hs1, hs2⟩, hbo⟩
                        have HR3 : Hid (RwO wc base g c n (P ++ ((S1 ++ S2) ++ R))) := hidR (by simpa using hr)
                        have HB3 := hidR (HB2.out.trans hbo)
                        have HS2 : Hid (SrtL S2 ∧ SameK (X2 ++ Y2) S2 ∧ S2.length = X2.length + Y2.length) := hidR ⟨hs1, hs2, hsl⟩
                        clear KR hr hsl hs1 hs2 hbo HB2 q5 q6
                        have HZ : Hid (∃ S, RwO wc base g c n (P ++ (S ++ R)) ∧ S.length = X.length + Y.length ∧ SrtL S ∧ SameK (X ++ Y) S) := hidR (by
                          obtain ⟨z1, z2⟩ := sym_split HSX.out.1 HSX.out.2 HF.out.1 HF.out.2 HS1.out.1 HS1.out.2.1 HS2.out.1 HS2.out.2.1
                          rw [HT.out.1, HT.out.2.1] at z2
                          refine ⟨S1 ++ S2, HR3.out, ?_, z1, z2⟩
                          rw [List.length_append, HS1.out.2.2, HS2.out.2.2]
                          have := HT.out; have := HU.out; have := HL.out; omega)
                        clear HR3 HS1 HS2
                        go_wp2
                        exact bodyPost_end (v := .tuple #[]) (by simp [results, Try.results71, go_sem]) rfl ⟨rfl, HZ.out, HB3.out⟩)
                    · have HP3 := hidR (And.intro q5 q6)
                      first
                      | (exfalso; have := HU.out; have := HN.out; have := HP1.out; have := HP2.out; have := HP3.out; omega)
                      | (
                        obtain ⟨S2, HS2, HR3⟩ : ∃ S2, Hid (SrtL S2 ∧ SameK (X2 ++ Y2) S2 ∧ S2.length = X2.length + Y2.length) ∧ Hid (RwO wb base g c n (P ++ ((S1 ++ S2) ++ R))) := by
                          have e : Y2 = [] := List.length_eq_zero_iff.mp (by omega)
                          refine ⟨X2, hidR ⟨(List.pairwise_append.mp HSX.out.1).2.1, by rw [e, List.append_nil]; exact SameK.refl _, by rw [e]; simp⟩, hidR ?_⟩
                          have h := HR2.out
                          rw [e] at h
                          simpa using h
                        have HB3 := HB2
                        obtain ⟨wc, hwc⟩ : ∃ wc, wc = wb := ⟨_, rfl⟩
                        rw [← hwc] at HR3 HB3 ⊢
                        clear hU hN hT hL HR2 HB2 hwc
                        have HZ : Hid (∃ S, RwO wc base g c n (P ++ (S ++ R)) ∧ S.length = X.length + Y.length ∧ SrtL S ∧ SameK (X ++ Y) S) := hidR (by
                          obtain ⟨z1, z2⟩ := sym_split HSX.out.1 HSX.out.2 HF.out.1 HF.out.2 HS1.out.1 HS1.out.2.1 HS2.out.1 HS2.out.2.1
                          rw [HT.out.1, HT.out.2.1] at z2
                          refine ⟨S1 ++ S2, HR3.out, ?_, z1, z2⟩
                          rw [List.length_append, HS1.out.2.2, HS2.out.2.2]
                          have := HT.out; have := HU.out; have := HL.out; omega)
                        clear HR3 HS1 HS2
                        go_wp2
                        exact bodyPost_end (v := .tuple #[]) (by simp [results, Try.results71, go_sem]) rfl ⟨rfl, HZ.out, HB3.out⟩)
                  · have HP3 := hidR (And.intro q5 True.intro)
                    first
                    | (exfalso; have := HU.out; have := HN.out; have := HP1.out; have := HP2.out; have := HP3.out; omega)
                    | (
                      obtain ⟨S2, HS2, HR3⟩ : ∃ S2, Hid (SrtL S2 ∧ SameK (X2 ++ Y2) S2 ∧ S2.length = X2.length + Y2.length) ∧ Hid (RwO wb base g c n (P ++ ((S1 ++ S2) ++ R))) := by
                        have e : X2 = [] := List.length_eq_zero_iff.mp (by omega)
                        refine ⟨Y2, hidR ⟨(List.pairwise_append.mp HSX.out.2).2.1, by rw [e, List.nil_append]; exact SameK.refl _, by rw [e]; simp⟩, hidR ?_⟩
                        have h := HR2.out
                        rw [e] at h
                        simpa using h
                      have HB3 := HB2
                      obtain ⟨wc, hwc⟩ : ∃ wc, wc = wb := ⟨_, rfl⟩
                      rw [← hwc] at HR3 HB3 ⊢
                      clear hU hN hT hL HR2 HB2 hwc
                      have HZ : Hid (∃ S, RwO wc base g c n (P ++ (S ++ R)) ∧ S.length = X.length + Y.length ∧ SrtL S ∧ SameK (X ++ Y) S) := hidR (by
                        obtain ⟨z1, z2⟩ := sym_split HSX.out.1 HSX.out.2 HF.out.1 HF.out.2 HS1.out.1 HS1.out.2.1 HS2.out.1 HS2.out.2.1
                        rw [HT.out.1, HT.out.2.1] at z2
                        refine ⟨S1 ++ S2, HR3.out, ?_, z1, z2⟩
                        rw [List.length_append, HS1.out.2.2, HS2.out.2.2]
                        have := HT.out; have := HU.out; have := HL.out; omega)
                      clear HR3 HS1 HS2
                      go_wp2
                      exact bodyPost_end (v := .tuple #[]) (by simp [results, Try.results71, go_sem]) rfl ⟨rfl, HZ.out, HB3.out⟩))
              · have HP2 := hidR (And.intro q3 q4)
                first
                | (exfalso; have := HU.out; have := HN.out; have := HP1.out; have := HP2.out; omega)
                | (
                  obtain ⟨S1, HS1, HR2⟩ : ∃ S1, Hid (SrtL S1 ∧ SameK (X1 ++ Y1) S1 ∧ S1.length = K) ∧ Hid (RwO wa base g c n (P ++ (S1 ++ (X2 ++ (Y2 ++ R))))) := by
                    have e : Y1 = [] := List.length_eq_zero_iff.mp (by omega)
                    refine ⟨X1, hidR ⟨(List.pairwise_append.mp HSX.out.1).1, by rw [e, List.append_nil]; exact SameK.refl _, by omega⟩, hidR ?_⟩
                    have h := HR1.out
                    rw [e] at h
                    simpa using h
                  have HB2 := HB1
                  obtain ⟨wb, hwb⟩ : ∃ wb, wb = wa := ⟨_, rfl⟩
                  rw [← hwb] at HR2 HB2 ⊢
                  clear hU hN hT hL HR1 HB1 hwb
                  have hU := HU.out
                  have hN := HN.out
                  have hT := HT.out
                  have hL := HL.out
                  by_cases q5 : (md : Int) < (en : Int)
                  · by_cases q6 : (en : Int) < (b : Int)
                    · have HP3 := hidR (And.intro q5 q6)
                      first
                      | (exfalso; have := HU.out; have := HN.out; have := HP1.out; have := HP2.out; have := HP3.out; omega)
                      | (
                        have KR := HIH.out md en b (P ++ S1) X2 Y2 R wb (by have := Hd.out; omega) (by have := HR2.out; simpa using this) (by rw [List.length_append, HS1.out.2.2]; omega) (by omega) (by omega) (by omega) (by omega) (List.pairwise_append.mp HSX.out.1).2.1 (List.pairwise_append.mp HSX.out.2).2.1
                        clear hU hN hT hL HR2
                        go_wp2_with fail
                        refine KR.mono ?_
                        rintro e wc ⟨rfl, ⟨S2, hr, hsl, hs1, hs2⟩, hbo⟩
                        have HR3 : Hid (RwO wc base g c n (P ++ ((S1 ++ S2) ++ R))) := hidR (by simpa using hr)
                        have HB3 := hidR (HB2.out.trans hbo)
                        have HS2 : Hid (SrtL S2 ∧ SameK (X2 ++ Y2) S2 ∧ S2.length = X2.length + Y2.length) := hidR ⟨hs1, hs2, hsl⟩
                        clear KR hr hsl hs1 hs2 hbo HB2 q5 q6
                        have HZ : Hid (∃ S, RwO wc base g c n (P ++ (S ++ R)) ∧ S.length = X.length + Y.length ∧ SrtL S ∧ SameK (X ++ Y) S) := hidR (by
                          obtain ⟨z1, z2⟩ := sym_split HSX.out.1 HSX.out.2 HF.out.1 HF.out.2 HS1.out.1 HS1.out.2.1 HS2.out.1 HS2.out.2.1
                          rw [HT.out.1, HT.out.2.1] at z2
                          refine ⟨S1 ++ S2, HR3.out, ?_, z1, z2⟩
                          rw [List.length_append, HS1.out.2.2, HS2.out.2.2]
                          have := HT.out; have := HU.out; have := HL.out; omega)
                        clear HR3 HS1 HS2
                        go_wp2
                        exact bodyPost_end (v := .tuple #[]) (by simp [results, Try.results71, go_sem]) rfl ⟨rfl, HZ.out, HB3.out⟩)
                    · have HP3 := hidR (And.intro q5 q6)
                      first
                      | (exfalso; have := HU.out; have := HN.out; have := HP1.out; have := HP2.out; have := HP3.out; omega)
                      | (
                        obtain ⟨S2, HS2, HR3⟩ : ∃ S2, Hid (SrtL S2 ∧ SameK (X2 ++ Y2) S2 ∧ S2.length = X2.length + Y2.length) ∧ Hid (RwO wb base g c n (P ++ ((S1 ++ S2) ++ R))) := by
                          have e : Y2 = [] := List.length_eq_zero_iff.mp (by omega)
                          refine ⟨X2, hidR ⟨(List.pairwise_append.mp HSX.out.1).2.1, by rw [e, List.append_nil]; exact SameK.refl _, by rw [e]; simp⟩, hidR ?_⟩
                          have h := HR2.out
                          rw [e] at h
                          simpa using h
                        have HB3 := HB2
                        obtain ⟨wc, hwc⟩ : ∃ wc, wc = wb := ⟨_, rfl⟩
                        rw [← hwc] at HR3 HB3 ⊢
                        clear hU hN hT hL HR2 HB2 hwc
                        have HZ : Hid (∃ S, RwO wc base g c n (P ++ (S ++ R)) ∧ S.length = X.length + Y.length ∧ SrtL S ∧ SameK (X ++ Y) S) := hidR (by
                          obtain ⟨z1, z2⟩ := sym_split HSX.out.1 HSX.out.2 HF.out.1 HF.out.2 HS1.out.1 HS1.out.2.1 HS2.out.1 HS2.out.2.1
                          rw [HT.out.1, HT.out.2.1] at z2
                          refine ⟨S1 ++ S2, HR3.out, ?_, z1, z2⟩
                          rw [List.length_append, HS1.out.2.2, HS2.out.2.2]
                          have := HT.out; have := HU.out; have := HL.out; omega)
                        clear HR3 HS1 HS2
                        go_wp2
                        exact bodyPost_end (v := .tuple #[]) (by simp [results, Try.results71, go_sem]) rfl ⟨rfl, HZ.out, HB3.out⟩)
                  · have HP3 := hidR (And.intro q5 True.intro)
                    first
                    | (exfalso; have := HU.out; have := HN.out; have := HP1.out; have := HP2.out; have := HP3.out; omega)
                    | (
                      obtain ⟨S2, HS2, HR3⟩ : ∃ S2, Hid (SrtL S2 ∧ SameK (X2 ++ Y2) S2 ∧ S2.length = X2.length + Y2.length) ∧ Hid (RwO wb base g c n (P ++ ((S1 ++ S2) ++ R))) := by
                        have e : X2 = [] := List.length_eq_zero_iff.mp (by omega)
                        refine ⟨Y2, hidR ⟨(List.pairwise_append.mp HSX.out.2).2.1, by rw [e, List.nil_append]; exact SameK.refl _, by rw [e]; simp⟩, hidR ?_⟩
                        have h := HR2.out
                        rw [e] at h
                        simpa using h
                      have HB3 := HB2
                      obtain ⟨wc, hwc⟩ : ∃ wc, wc = wb := ⟨_, rfl⟩
                      rw [← hwc] at HR3 HB3 ⊢
                      clear hU hN hT hL HR2 HB2 hwc
                      have HZ : Hid (∃ S, RwO wc base g c n (P ++ (S ++ R)) ∧ S.length = X.length + Y.length ∧ SrtL S ∧ SameK (X ++ Y) S) := hidR (by
                        obtain ⟨z1, z2⟩ := sym_split HSX.out.1 HSX.out.2 HF.out.1 HF.out.2 HS1.out.1 HS1.out.2.1 HS2.out.1 HS2.out.2.1
                        rw [HT.out.1, HT.out.2.1] at z2
                        refine ⟨S1 ++ S2, HR3.out, ?_, z1, z2⟩
                        rw [List.length_append, HS1.out.2.2, HS2.out.2.2]
                        have := HT.out; have := HU.out; have := HL.out; omega)
                      clear HR3 HS1 HS2
                      go_wp2
                      exact bodyPost_end (v := .tuple #[]) (by simp [results, Try.results71, go_sem]) rfl ⟨rfl, HZ.out, HB3.out⟩))
            · have HP2 := hidR (And.intro q3 True.intro)
              first
              | (exfalso; have := HU.out; have := HN.out; have := HP1.out; have := HP2.out; omega)
              | (
                obtain ⟨S1, HS1, HR2⟩ : ∃ S1, Hid (SrtL S1 ∧ SameK (X1 ++ Y1) S1 ∧ S1.length = K) ∧ Hid (RwO wa base g c n (P ++ (S1 ++ (X2 ++ (Y2 ++ R))))) := by
                  have e : X1 = [] := List.length_eq_zero_iff.mp (by omega)
                  refine ⟨Y1, hidR ⟨(List.pairwise_append.mp HSX.out.2).1, by rw [e, List.nil_append]; exact SameK.refl _, by omega⟩, hidR ?_⟩
                  have h := HR1.out
                  rw [e] at h
                  simpa using h
                have HB2 := HB1
                obtain ⟨wb, hwb⟩ : ∃ wb, wb = wa := ⟨_, rfl⟩
                rw [← hwb] at HR2 HB2 ⊢
                clear hU hN hT hL HR1 HB1 hwb
                have hU := HU.out
                have hN := HN.out
                have hT := HT.out
                have hL := HL.out
                by_cases q5 : (md : Int) < (en : Int)
                · by_cases q6 : (en : Int) < (b : Int)
                  · have HP3 := hidR (And.intro q5 q6)
                    first
                    | (exfalso; have := HU.out; have := HN.out; have := HP1.out; have := HP2.out; have := HP3.out; omega)
                    | (
                      have KR := HIH.out md en b (P ++ S1) X2 Y2 R wb (by have := Hd.out; omega) (by have := HR2.out; simpa using this) (by rw [List.length_append, HS1.out.2.2]; omega) (by omega) (by omega) (by omega) (by omega) (List.pairwise_append.mp HSX.out.1).2.1 (List.pairwise_append.mp HSX.out.2).2.1
                      clear hU hN hT hL HR2
                      go_wp2_with fail
                      refine KR.mono ?_
                      rintro e wc ⟨rfl, ⟨S2, hr, hsl, hs1, hs2⟩, hbo⟩
                      have HR3 : Hid (RwO wc base g c n (P ++ ((S1 ++ S2) ++ R))) := hidR (by simpa using hr)
                      have HB3 := hidR (HB2.out.trans hbo)
                      have HS2 : Hid (SrtL S2 ∧ SameK (X2 ++ Y2) S2 ∧ S2.length = X2.length + Y2.length) := hidR ⟨hs1, hs2, hsl⟩
                      clear KR hr hsl hs1 hs2 hbo HB2 q5 q6
                      have HZ : Hid (∃ S, RwO wc base g c n (P ++ (S ++ R)) ∧ S.length = X.length + Y.length ∧ SrtL S ∧ SameK (X ++ Y) S) := hidR (by
                        obtain ⟨z1, z2⟩ := sym_split HSX.out.1 HSX.out.2 HF.out.1 HF.out.2 HS1.out.1 HS1.out.2.1 HS2.out.1 HS2.out.2.1
                        rw [HT.out.1, HT.out.2.1] at z2
                        refine ⟨S1 ++ S2, HR3.out, ?_, z1, z2⟩
                        rw [List.length_append, HS1.out.2.2, HS2.out.2.2]
                        have := HT.out; have := HU.out; have := HL.out; omega)
                      clear HR3 HS1 HS2
                      go_wp2
                      exact bodyPost_end (v := .tuple #[]) (by simp [results, Try.results71, go_sem]) rfl ⟨rfl, HZ.out, HB3.out⟩)
                  · have HP3 := hidR (And.intro q5 q6)
                    first
                    | (exfalso; have := HU.out; have := HN.out; have := HP1.out; have := HP2.out; have := HP3.out; omega)
                    | (
                      obtain ⟨S2, HS2, HR3⟩ : ∃ S2, Hid (SrtL S2 ∧ SameK (X2 ++ Y2) S2 ∧ S2.length = X2.length + Y2.length) ∧ Hid (RwO wb base g c n (P ++ ((S1 ++ S2) ++ R))) := by
                        have e : Y2 = [] := List.length_eq_zero_iff.mp (by omega)
                        refine ⟨X2, hidR ⟨(List.pairwise_append.mp HSX.out.1).2.1, by rw [e, List.append_nil]; exact SameK.refl _, by rw [e]; simp⟩, hidR ?_⟩
                        have h := HR2.out
                        rw [e] at h
                        simpa using h
                      have HB3 := HB2
                      obtain ⟨wc, hwc⟩ : ∃ wc, wc = wb := ⟨_, rfl⟩
                      rw [← hwc] at HR3 HB3 ⊢
                      clear hU hN hT hL HR2 HB2 hwc
                      have HZ : Hid (∃ S, RwO wc base g c n (P ++ (S ++ R)) ∧ S.length = X.length + Y.length ∧ SrtL S ∧ SameK (X ++ Y) S) := hidR (by
                        obtain ⟨z1, z2⟩ := sym_split HSX.out.1 HSX.out.2 HF.out.1 HF.out.2 HS1.out.1 HS1.out.2.1 HS2.out.1 HS2.out.2.1
                        rw [HT.out.1, HT.out.2.1] at z2
                        refine ⟨S1 ++ S2, HR3.out, ?_, z1, z2⟩
                        rw [List.length_append, HS1.out.2.2, HS2.out.2.2]
                        have := HT.out; have := HU.out; have := HL.out; omega)
                      clear HR3 HS1 HS2
                      go_wp2
                      exact bodyPost_end (v := .tuple #[]) (by simp [results, Try.results71, go_sem]) rfl ⟨rfl, HZ.out, HB3.out⟩)
                · have HP3 := hidR (And.intro q5 True.intro)
                  first
                  | (exfalso; have := HU.out; have := HN.out; have := HP1.out; have := HP2.out; have := HP3.out; omega)
                  | (
                    obtain ⟨S2, HS2, HR3⟩ : ∃ S2, Hid (SrtL S2 ∧ SameK (X2 ++ Y2) S2 ∧ S2.length = X2.length + Y2.length) ∧ Hid (RwO wb base g c n (P ++ ((S1 ++ S2) ++ R))) := by
                      have e : X2 = [] := List.length_eq_zero_iff.mp (by omega)
                      refine ⟨Y2, hidR ⟨(List.pairwise_append.mp HSX.out.2).2.1, by rw [e, List.nil_append]; exact SameK.refl _, by rw [e]; simp⟩, hidR ?_⟩
                      have h := HR2.out
                      rw [e] at h
                      simpa using h
                    have HB3 := HB2
                    obtain ⟨wc, hwc⟩ : ∃ wc, wc = wb := ⟨_, rfl⟩
                    rw [← hwc] at HR3 HB3 ⊢
                    clear hU hN hT hL HR2 HB2 hwc
                    have HZ : Hid (∃ S, RwO wc base g c n (P ++ (S ++ R)) ∧ S.length = X.length + Y.length ∧ SrtL S ∧ SameK (X ++ Y) S) := hidR (by
                      obtain ⟨z1, z2⟩ := sym_split HSX.out.1 HSX.out.2 HF.out.1 HF.out.2 HS1.out.1 HS1.out.2.1 HS2.out.1 HS2.out.2.1
                      rw [HT.out.1, HT.out.2.1] at z2
                      refine ⟨S1 ++ S2, HR3.out, ?_, z1, z2⟩
                      rw [List.length_append, HS1.out.2.2, HS2.out.2.2]
                      have := HT.out; have := HU.out; have := HL.out; omega)
                    clear HR3 HS1 HS2
                    go_wp2
                    exact bodyPost_end (v := .tuple #[]) (by simp [results, Try.results71, go_sem]) rfl ⟨rfl, HZ.out, HB3.out⟩)))
      · have HP1 := hidR (And.intro q1 True.intro)
        first
        | (exfalso; have := HU.out; have := HN.out; have := HP1.out; omega)
        | (
          have HR1 : Hid (RwO wr base g c n (P ++ (X1 ++ (Y1 ++ (X2 ++ (Y2 ++ R)))))) := hidR (by
            have : X2 = [] := List.length_eq_zero_iff.mp (by omega)
            have h := HR0.out
            rw [this] at h ⊢
            simpa using h)
          have HB1 := HB
          obtain ⟨wa, hwa⟩ : ∃ wa, wa = wr := ⟨_, rfl⟩
          rw [← hwa] at HR1 HB1 ⊢
          clear hU hN hT hL HR0 HB hwa
          have hU := HU.out
          have hN := HN.out
          have hT := HT.out
          have hL := HL.out
          by_cases q3 : (a : Int) < (rr : Int)
          · by_cases q4 : (rr : Int) < (md : Int)
            · have HP2 := hidR (And.intro q3 q4)
              first
              | (exfalso; have := HU.out; have := HN.out; have := HP1.out; have := HP2.out; omega)
              | (
                have KR := HIH.out a rr md P X1 Y1 (X2 ++ (Y2 ++ R)) wa (by have := Hd.out; omega) HR1.out hL.2.2 (by omega) (by omega) (by omega) (by omega) (List.pairwise_append.mp HSX.out.1).1 (List.pairwise_append.mp HSX.out.2).1
                clear hU hN hT hL HR1
                go_wp2_with fail
                refine KR.mono ?_
                rintro e wb ⟨rfl, ⟨S1, hr, hsl, hs1, hs2⟩, hbo⟩
                have HR2 := hidR hr
                have HB2 := hidR (HB1.out.trans hbo)
                have HS1 : Hid (SrtL S1 ∧ SameK (X1 ++ Y1) S1 ∧ S1.length = K) := hidR ⟨hs1, hs2, by have := HT.out; have := HU.out; omega⟩
                clear KR hr hsl hs1 hs2 hbo HB1 q3 q4
                have hU := HU.out
                have hN := HN.out
                have hT := HT.out
                have hL := HL.out
                by_cases q5 : (md : Int) < (en : Int)
                · by_cases q6 : (en : Int) < (b : Int)
                  · have HP3 := hidR (And.intro q5 q6)
                    first
                    | (exfalso; have := HU.out; have := HN.out; have := HP1.out; have := HP2.out; have := HP3.out; omega)
                    | (
                      have KR := HIH.out md en b (P ++ S1) X2 Y2 R wb (by have := Hd.out; omega) (by have := HR2.out; simpa using this) (by rw [List.length_append, HS1.out.2.2]; omega) (by omega) (by omega) (by omega) (by omega) (List.pairwise_append.mp HSX.out.1).2.1 (List.pairwise_append.mp HSX.out.2).2.1
                      clear hU hN hT hL HR2
                      go_wp2_with fail
                      refine KR.mono ?_
                      rintro e wc ⟨rfl, ⟨S2, hr, hsl, hs1, hs2⟩, hbo⟩
                      have HR3 : Hid (RwO wc base g c n (P ++ ((S1 ++ S2) ++ R))) := hidR (by simpa using hr)
                      have HB3 := hidR (HB2.out.trans hbo)
                      have HS2 : Hid (SrtL S2 ∧ SameK (X2 ++ Y2) S2 ∧ S2.length = X2.length + Y2.length) := hidR ⟨hs1, hs2, hsl⟩
                      clear KR hr hsl hs1 hs2 hbo HB2 q5 q6
                      have HZ : Hid (∃ S, RwO wc base g c n (P ++ (S ++ R)) ∧ S.length = X.length + Y.length ∧ SrtL S ∧ SameK (X ++ Y) S) := hidR (by
                        obtain ⟨z1, z2⟩ := sym_split HSX.out.1 HSX.out.2 HF.out.1 HF.out.2 HS1.out.1 HS1.out.2.1 HS2.out.1 HS2.out.2.1
                        rw [HT.out.1, HT.out.2.1] at z2
                        refine ⟨S1 ++ S2, HR3.out, ?_, z1, z2⟩
                        rw [List.length_append, HS1.out.2.2, HS2.out.2.2]
                        have := HT.out; have := HU.out; have := HL.out; omega)
                      clear HR3 HS1 HS2
                      go_wp2
                      exact bodyPost_end (v := .tuple #[]) (by simp [results, Try.results71, go_sem]) rfl ⟨rfl, HZ.out, HB3.out⟩)
                  · have HP3 := hidR (And.intro q5 q6)
                    first
                    | (exfalso; have := HU.out; have := HN.out; have := HP1.out; have := HP2.out; have := HP3.out; omega)
                    | (
                      obtain ⟨S2, HS2, HR3⟩ : ∃ S2, Hid (SrtL S2 ∧ SameK (X2 ++ Y2) S2 ∧ S2.length = X2.length + Y2.length) ∧ Hid (RwO wb base g c n (P ++ ((S1 ++ S2) ++ R))) := by
                        have e : Y2 = [] := List.length_eq_zero_iff.mp (by omega)
                        refine ⟨X2, hidR ⟨(List.pairwise_append.mp HSX.out.1).2.1, by rw [e, List.append_nil]; exact SameK.refl _, by rw [e]; simp⟩, hidR ?_⟩
                        have h := HR2.out
                        rw [e] at h
                        simpa using h
                      have HB3 := HB2
                      obtain ⟨wc, hwc⟩ : ∃ wc, wc = wb := ⟨_, rfl⟩
                      rw [← hwc] at HR3 HB3 ⊢
                      clear hU hN hT hL HR2 HB2 hwc
                      have HZ : Hid (∃ S, RwO wc base g c n (P ++ (S ++ R)) ∧ S.length = X.length + Y.length ∧ SrtL S ∧ SameK (X ++ Y) S) := hidR (by
                        obtain ⟨z1, z2⟩ := sym_split HSX.out.1 HSX.out.2 HF.out.1 HF.out.2 HS1.out.1 HS1.out.2.1 HS2.out.1 HS2.out.2.1
                        rw [HT.out.1, HT.out.2.1] at z2
                        refine ⟨S1 ++ S2, HR3.out, ?_, z1, z2⟩
                        rw [List.length_append, HS1.out.2.2, HS2.out.2.2]
                        have := HT.out; have := HU.out; have := HL.out; omega)
                      clear HR3 HS1 HS2
                      go_wp2
                      exact bodyPost_end (v := .tuple #[]) (by simp [results, Try.results71, go_sem]) rfl ⟨rfl, HZ.out, HB3.out⟩)
                · have HP3 := hidR (And.intro q5 True.intro)
                  first
                  | (exfalso; have := HU.out; have := HN.out; have := HP1.out; have := HP2.out; have := HP3.out; omega)
                  | (
                    obtain ⟨S2, HS2, HR3⟩ : ∃ S2, Hid (SrtL S2 ∧ SameK (X2 ++ Y2) S2 ∧ S2.length = X2.length + Y2.length) ∧ Hid (RwO wb base g c n (P ++ ((S1 ++ S2) ++ R))) := by
                      have e : X2 = [] := List.length_eq_zero_iff.mp (by omega)
                      refine ⟨Y2, hidR ⟨(List.pairwise_append.mp HSX.out.2).2.1, by rw [e, List.nil_append]; exact SameK.refl _, by rw [e]; simp⟩, hidR ?_⟩
                      have h := HR2.out
                      rw [e] at h
                      simpa using h
                    have HB3 := HB2
                    obtain ⟨wc, hwc⟩ : ∃ wc, wc = wb := ⟨_, rfl⟩
                    rw [← hwc] at HR3 HB3 ⊢
                    clear hU hN hT hL HR2 HB2 hwc
                    have HZ : Hid (∃ S, RwO wc base g c n (P ++ (S ++ R)) ∧ S.length = X.length + Y.length ∧ SrtL S ∧ SameK (X ++ Y) S) := hidR (by
                      obtain ⟨z1, z2⟩ := sym_split HSX.out.1 HSX.out.2 HF.out.1 HF.out.2 HS1.out.1 HS1.out.2.1 HS2.out.1 HS2.out.2.1
                      rw [HT.out.1, HT.out.2.1] at z2
                      refine ⟨S1 ++ S2, HR3.out, ?_, z1, z2⟩
                      rw [List.length_append, HS1.out.2.2, HS2.out.2.2]
                      have := HT.out; have := HU.out; have := HL.out; omega)
                    clear HR3 HS1 HS2
                    go_wp2
                    exact bodyPost_end (v := .tuple #[]) (by simp [results, Try.results71, go_sem]) rfl ⟨rfl, HZ.out, HB3.out⟩))
            · have HP2 := hidR (And.intro q3 q4)
              first
              | (exfalso; have := HU.out; have := HN.out; have := HP1.out; have := HP2.out; omega)
              | (
                obtain ⟨S1, HS1, HR2⟩ : ∃ S1, Hid (SrtL S1 ∧ SameK (X1 ++ Y1) S1 ∧ S1.length = K) ∧ Hid (RwO wa base g c n (P ++ (S1 ++ (X2 ++ (Y2 ++ R))))) := by
                  have e : Y1 = [] := List.length_eq_zero_iff.mp (by omega)
                  refine ⟨X1, hidR ⟨(List.pairwise_append.mp HSX.out.1).1, by rw [e, List.append_nil]; exact SameK.refl _, by omega⟩, hidR ?_⟩
                  have h := HR1.out
                  rw [e] at h
                  simpa using h
                have HB2 := HB1
                obtain ⟨wb, hwb⟩ : ∃ wb, wb = wa := ⟨_, rfl⟩
                rw [← hwb] at HR2 HB2 ⊢
                clear hU hN hT hL HR1 HB1 hwb
                have hU := HU.out
                have hN := HN.out
                have hT := HT.out
                have hL := HL.out
                by_cases q5 : (md : Int) < (en : Int)
                · by_cases q6 : (en : Int) < (b : Int)
                  · have HP3 := hidR (And.intro q5 q6)
                    first
                    | (exfalso; have := HU.out; have := HN.out; have := HP1.out; have := HP2.out; have := HP3.out; omega)
                    | (
                      have KR := HIH.out md en b (P ++ S1) X2 Y2 R wb (by have := Hd.out; omega) (by have := HR2.out; simpa using this) (by rw [List.length_append, HS1.out.2.2]; omega) (by omega) (by omega) (by omega) (by omega) (List.pairwise_append.mp HSX.out.1).2.1 (List.pairwise_append.mp HSX.out.2).2.1
                      clear hU hN hT hL HR2
                      go_wp2_with fail
                      refine KR.mono ?_
                      rintro e wc ⟨rfl, ⟨S2, hr, hsl, hs1, hs2⟩, hbo⟩
                      have HR3 : Hid (RwO wc base g c n (P ++ ((S1 ++ S2) ++ R))) := hidR (by simpa using hr)
                      have HB3 := hidR (HB2.out.trans hbo)
                      have HS2 : Hid (SrtL S2 ∧ SameK (X2 ++ Y2) S2 ∧ S2.length = X2.length + Y2.length) := hidR ⟨hs1, hs2, hsl⟩
                      clear KR hr hsl hs1 hs2 hbo HB2 q5 q6
                      have HZ : Hid (∃ S, RwO wc base g c n (P ++ (S ++ R)) ∧ S.length = X.length + Y.length ∧ SrtL S ∧ SameK (X ++ Y) S) := hidR (by
                        obtain ⟨z1, z2⟩ := sym_split HSX.out.1 HSX.out.2 HF.out.1 HF.out.2 HS1.out.1 HS1.out.2.1 HS2.out.1 HS2.out.2.1
                        rw [HT.out.1, HT.out.2.1] at z2
                        refine ⟨S1 ++ S2, HR3.out, ?_, z1, z2⟩
                        rw [List.length_append, HS1.out.2.2, HS2.out.2.2]
                        have := HT.out; have := HU.out; have := HL.out; omega)
                      clear HR3 HS1 HS2
                      go_wp2
                      exact bodyPost_end (v := .tuple #[]) (by simp [results, Try.results71, go_sem]) rfl ⟨rfl, HZ.out, HB3.out⟩)
                  · have HP3 := hidR (And.intro q5 q6)
                    first
                    | (exfalso; have := HU.out; have := HN.out; have := HP1.out; have := HP2.out; have := HP3.out; omega)
                    | (
                      obtain ⟨S2, HS2, HR3⟩ : ∃ S2, Hid (SrtL S2 ∧ SameK (X2 ++ Y2) S2 ∧ S2.length = X2.length + Y2.length) ∧ Hid (RwO wb base g c n (P ++ ((S1 ++ S2) ++ R))) := by
                        have e : Y2 = [] := List.length_eq_zero_iff.mp (by omega)
                        refine ⟨X2, hidR ⟨(List.pairwise_append.mp HSX.out.1).2.1, by rw [e, List.append_nil]; exact SameK.refl _, by rw [e]; simp⟩, hidR ?_⟩
                        have h := HR2.out
                        rw [e] at h
                        simpa using h
                      have HB3 := HB2
                      obtain ⟨wc, hwc⟩ : ∃ wc, wc = wb := ⟨_, rfl⟩
                      rw [← hwc] at HR3 HB3 ⊢
                      clear hU hN hT hL HR2 HB2 hwc
                      have HZ : Hid (∃ S, RwO wc base g c n (P ++ (S ++ R)) ∧ S.length = X.length + Y.length ∧ SrtL S ∧ SameK (X ++ Y) S) := hidR (by
                        obtain ⟨z1, z2⟩ := sym_split HSX.out.1 HSX.out.2 HF.out.1 HF.out.2 HS1.out.1 HS1.out.2.1 HS2.out.1 HS2.out.2.1
                        rw [HT.out.1, HT.out.2.1] at z2
                        refine ⟨S1 ++ S2, HR3.out, ?_, z1, z2⟩
                        rw [List.length_append, HS1.out.2.2, HS2.out.2.2]
                        have := HT.out; have := HU.out; have := HL.out; omega)
                      clear HR3 HS1 HS2
                      go_wp2
                      exact bodyPost_end (v := .tuple #[]) (by simp [results, Try.results71, go_sem]) rfl ⟨rfl, HZ.out, HB3.out⟩)
                · have HP3 := hidR (And.intro q5 True.intro)
                  first
                  | (exfalso; have := HU.out; have := HN.out; have := HP1.out; have := HP2.out; have := HP3.out; omega)
                  | (
                    obtain ⟨S2, HS2, HR3⟩ : ∃ S2, Hid (SrtL S2 ∧ SameK (X2 ++ Y2) S2 ∧ S2.length = X2.length + Y2.length) ∧ Hid (RwO wb base g c n (P ++ ((S1 ++ S2) ++ R))) := by
                      have e : X2 = [] := List.length_eq_zero_iff.mp (by omega)
                      refine ⟨Y2, hidR ⟨(List.pairwise_append.mp HSX.out.2).2.1, by rw [e, List.nil_append]; exact SameK.refl _, by rw [e]; simp⟩, hidR ?_⟩
                      have h := HR2.out
                      rw [e] at h
                      simpa using h
                    have HB3 := HB2
                    obtain ⟨wc, hwc⟩ : ∃ wc, wc = wb := ⟨_, rfl⟩
                    rw [← hwc] at HR3 HB3 ⊢
                    clear hU hN hT hL HR2 HB2 hwc
                    have HZ : Hid (∃ S, RwO wc base g c n (P ++ (S ++ R)) ∧ S.length = X.length + Y.length ∧ SrtL S ∧ SameK (X ++ Y) S) := hidR (by
                      obtain ⟨z1, z2⟩ := sym_split HSX.out.1 HSX.out.2 HF.out.1 HF.out.2 HS1.out.1 HS1.out.2.1 HS2.out.1 HS2.out.2.1
                      rw [HT.out.1, HT.out.2.1] at z2
                      refine ⟨S1 ++ S2, HR3.out, ?_, z1, z2⟩
                      rw [List.length_append, HS1.out.2.2, HS2.out.2.2]
                      have := HT.out; have := HU.out; have := HL.out; omega)
                    clear HR3 HS1 HS2
                    go_wp2
                    exact bodyPost_end (v := .tuple #[]) (by simp [results, Try.results71, go_sem]) rfl ⟨rfl, HZ.out, HB3.out⟩))
          · have HP2 := hidR (And.intro q3 True.intro)
            first
            | (exfalso; have := HU.out; have := HN.out; have := HP1.out; have := HP2.out; omega)
            | (
              obtain ⟨S1, HS1, HR2⟩ : ∃ S1, Hid (SrtL S1 ∧ SameK (X1 ++ Y1) S1 ∧ S1.length = K) ∧ Hid (RwO wa base g c n (P ++ (S1 ++ (X2 ++ (Y2 ++ R))))) := by
                have e : X1 = [] := List.length_eq_zero_iff.mp (by omega)
                refine ⟨Y1, hidR ⟨(List.pairwise_append.mp HSX.out.2).1, by rw [e, List.nil_append]; exact SameK.refl _, by omega⟩, hidR ?_⟩
                have h := HR1.out
                rw [e] at h
                simpa using h
              have HB2 := HB1
              obtain ⟨wb, hwb⟩ : ∃ wb, wb = wa := ⟨_, rfl⟩
              rw [← hwb] at HR2 HB2 ⊢
              clear hU hN hT hL HR1 HB1 hwb
              have hU := HU.out
              have hN := HN.out
              have hT := HT.out
              have hL := HL.out
              by_cases q5 : (md : Int) < (en : Int)
              · by_cases q6 : (en : Int) < (b : Int)
                · have HP3 := hidR (And.intro q5 q6)
                  first
                  | (exfalso; have := HU.out; have := HN.out; have := HP1.out; have := HP2.out; have := HP3.out; omega)
                  | (
                    have KR := HIH.out md en b (P ++ S1) X2 Y2 R wb (by have := Hd.out; omega) (by have := HR2.out; simpa using this) (by rw [List.length_append, HS1.out.2.2]; omega) (by omega) (by omega) (by omega) (by omega) (List.pairwise_append.mp HSX.out.1).2.1 (List.pairwise_append.mp HSX.out.2).2.1
                    clear hU hN hT hL HR2
                    go_wp2_with fail
                    refine KR.mono ?_
                    rintro e wc ⟨rfl, ⟨S2, hr, hsl, hs1, hs2⟩, hbo⟩
                    have HR3 : Hid (RwO wc base g c n (P ++ ((S1 ++ S2) ++ R))) := hidR (by simpa using hr)
                    have HB3 := hidR (HB2.out.trans hbo)
                    have HS2 : Hid (SrtL S2 ∧ SameK (X2 ++ Y2) S2 ∧ S2.length = X2.length + Y2.length) := hidR ⟨hs1, hs2, hsl⟩
                    clear KR hr hsl hs1 hs2 hbo HB2 q5 q6
                    have HZ : Hid (∃ S, RwO wc base g c n (P ++ (S ++ R)) ∧ S.length = X.length + Y.length ∧ SrtL S ∧ SameK (X ++ Y) S) := hidR (by
                      obtain ⟨z1, z2⟩ := sym_split HSX.out.1 HSX.out.2 HF.out.1 HF.out.2 HS1.out.1 HS1.out.2.1 HS2.out.1 HS2.out.2.1
                      rw [HT.out.1, HT.out.2.1] at z2
                      refine ⟨S1 ++ S2, HR3.out, ?_, z1, z2⟩
                      rw [List.length_append, HS1.out.2.2, HS2.out.2.2]
                      have := HT.out; have := HU.out; have := HL.out; omega)
                    clear HR3 HS1 HS2
                    go_wp2
                    exact bodyPost_end (v := .tuple #[]) (by simp [results, Try.results71, go_sem]) rfl ⟨rfl, HZ.out, HB3.out⟩)
                · have HP3 := hidR (And.intro q5 q6)
                  first
                  | (exfalso; have := HU.out; have := HN.out; have := HP1.out; have := HP2.out; have := HP3.out; omega)
                  | (
                    obtain ⟨S2, HS2, HR3⟩ : ∃ S2, Hid (SrtL S2 ∧ SameK (X2 ++ Y2) S2 ∧ S2.length = X2.length + Y2.length) ∧ Hid (RwO wb base g c n (P ++ ((S1 ++ S2) ++ R))) := by
                      have e : Y2 = [] := List.length_eq_zero_iff.mp (by omega)
                      refine ⟨X2, hidR ⟨(List.pairwise_append.mp HSX.out.1).2.1, by rw [e, List.append_nil]; exact SameK.refl _, by rw [e]; simp⟩, hidR ?_⟩
                      have h := HR2.out
                      rw [e] at h
                      simpa using h
                    have HB3 := HB2
                    obtain ⟨wc, hwc⟩ : ∃ wc, wc = wb := ⟨_, rfl⟩
                    rw [← hwc] at HR3 HB3 ⊢
                    clear hU hN hT hL HR2 HB2 hwc
                    have HZ : Hid (∃ S, RwO wc base g c n (P ++ (S ++ R)) ∧ S.length = X.length + Y.length ∧ SrtL S ∧ SameK (X ++ Y) S) := hidR (by
                      obtain ⟨z1, z2⟩ := sym_split HSX.out.1 HSX.out.2 HF.out.1 HF.out.2 HS1.out.1 HS1.out.2.1 HS2.out.1 HS2.out.2.1
                      rw [HT.out.1, HT.out.2.1] at z2
                      refine ⟨S1 ++ S2, HR3.out, ?_, z1, z2⟩
                      rw [List.length_append, HS1.out.2.2, HS2.out.2.2]
                      have := HT.out; have := HU.out; have := HL.out; omega)
                    clear HR3 HS1 HS2
                    go_wp2
                    exact bodyPost_end (v := .tuple #[]) (by simp [results, Try.results71, go_sem]) rfl ⟨rfl, HZ.out, HB3.out⟩)
              · have HP3 := hidR (And.intro q5 True.intro)
                first
                | (exfalso; have := HU.out; have := HN.out; have := HP1.out; have := HP2.out; have := HP3.out; omega)
                | (
                  obtain ⟨S2, HS2, HR3⟩ : ∃ S2, Hid (SrtL S2 ∧ SameK (X2 ++ Y2) S2 ∧ S2.length = X2.length + Y2.length) ∧ Hid (RwO wb base g c n (P ++ ((S1 ++ S2) ++ R))) := by
                    have e : X2 = [] := List.length_eq_zero_iff.mp (by omega)
                    refine ⟨Y2, hidR ⟨(List.pairwise_append.mp HSX.out.2).2.1, by rw [e, List.nil_append]; exact SameK.refl _, by rw [e]; simp⟩, hidR ?_⟩
                    have h := HR2.out
                    rw [e] at h
                    simpa using h
                  have HB3 := HB2
                  obtain ⟨wc, hwc⟩ : ∃ wc, wc = wb := ⟨_, rfl⟩
                  rw [← hwc] at HR3 HB3 ⊢
                  clear hU hN hT hL HR2 HB2 hwc
                  have HZ : Hid (∃ S, RwO wc base g c n (P ++ (S ++ R)) ∧ S.length = X.length + Y.length ∧ SrtL S ∧ SameK (X ++ Y) S) := hidR (by
                    obtain ⟨z1, z2⟩ := sym_split HSX.out.1 HSX.out.2 HF.out.1 HF.out.2 HS1.out.1 HS1.out.2.1 HS2.out.1 HS2.out.2.1
                    rw [HT.out.1, HT.out.2.1] at z2
                    refine ⟨S1 ++ S2, HR3.out, ?_, z1, z2⟩
                    rw [List.length_append, HS1.out.2.2, HS2.out.2.2]
                    have := HT.out; have := HU.out; have := HL.out; omega)
                  clear HR3 HS1 HS2
                  go_wp2
                  exact bodyPost_end (v := .tuple #[]) (by simp [results, Try.results71, go_sem]) rfl ⟨rfl, HZ.out, HB3.out⟩)))
end Go.Proofs.Ytohnhpicjedfeaa
