/-
  Part 8 of the proof: 5 texts, one behind the other.
-/
import Derived.Test.YtiachojhnbicaaaDoorPart6
import Derived.Test.YtiachojhnbicaaaDoorPart3
import Derived.Test.YtiachojhnbicaaaDoorPart1
import Derived.Test.YtiachojhnbicaaaDoorPart2
import Derived.Deep.CutBlock
import Derived.Deep.DeepCutAuto
import Derived.Test.YtiachojhnbicaaaDoorPart5
import Derived.Lib.SlBytesConst
import Derived.Lib.SmallJoins
namespace Go.Proofs.YtiachojhnbicaaaDoor
open Go.RowKit Go.Shelf
set_option linter.unusedSimpArgs false
set_option linter.unusedVariables false
attribute [local go_sem] Oper.semAt_some

set_option maxRecDepth 100000 in
set_option maxHeartbeats 8000000 in
theorem rfit21 (n : Int) (v : Value) (L : List Pt) (w : World) (hn : 0 ≤ n) (hn2 : n ≤ 9223372036854775807) (hv : PtR21 w v L) (hl : L.length ≤ 140737488355328) :
    Calls Tryd.prog 19 #[.int .i64 n, v] w fun e w' => e = .returned (.bool (fitB n L)) ∧ Below w.heap.size w w' := by
  obtain ⟨ao, c, hvf, -⟩ := id hv
  subst hvf
  have HT := hid13 hv
  have HB : Hid (Below w.heap.size w w) := Below.refl _ _
  have HL : Hid (L.length ≤ 140737488355328 ∧ 0 ≤ n ∧ n ≤ 9223372036854775807) := ⟨hl, hn, hn2⟩
  clear hv hl hn hn2
  go_enter Tryd.func19, Tryd.ntmps19
  go_wp2
  go_loopg [0, 5] L.length (fun g s x wr => ∃ (k : Nat) (m : Int), k + g = L.length ∧ s = .int .i64 m ∧ x = .int .i64 (k : Int) ∧ Hid (ftS n (L.take k) = some m) ∧ Hid (PtR21 wr (.slice ao L.length c) L ∧ Below w.heap.size w wr))
  case atStart => exact ⟨0, n, by omega, rfl, rfl, rfl, ⟨HT.out, HB.out⟩⟩
  case round =>
    clear HT HB
    obtain ⟨k, m, hk, rfl, rfl, HM, HW⟩ := hrel
    by_cases hlt : k < L.length
    rotate_left 1
    · have l1 : ¬ (k : Int) < (L.length : Int) := by omega
      have HE : Hid (fitB n L = true) := ftS_all (by omega) HM.out
      clear hlt hk
      go_wp2
      go_ret
      exact ⟨by rw [HE.out]; rfl, HW.out.2⟩
    have l1 : (k : Int) < (L.length : Int) := by omega
    obtain ⟨p, hp⟩ : ∃ p, L[k]? = some p := ⟨L[k], by simp [hlt]⟩
    obtain ⟨b1, f1, xo, xc, hao, r0, r1, r2, -, -⟩ := ptr_at HW.out.1 hp
    subst hao
    have wk : IntKind.i64.wrap ((k : Int) + 1) = (k : Int) + 1 := by rw [IntKind.wrap_i64]; have := HL.out; omega
    have hm := ftS_bd HL.out.2.1 _ _ HM.out
    have HX : Hid (k < L.length ∧ k + gk = L.length ∧ 0 ≤ m ∧ m ≤ n) := ⟨hlt, hk, hm.1, hm.2⟩
    have HBad : Hid (¬ okP m p → fitB n L = false) := hid13 (ftS_bad hp HM.out)
    have HGo : Hid (okP m p → ftS n (L.take (k + 1)) = some (m - p.k - p.d)) := hid13 (ftS_go hp HM.out)
    clear hp hlt hk hm HM
    by_cases k0 : p.k < 0
    · have d0 : decide (p.k < 0) = true := decide_eq_true k0
      have HF := hid13 (HBad.out (fun h => by have := h.1; omega))
      clear k0
      go_wp2
      go_ret
      exact ⟨by rw [HF.out]; rfl, HW.out.2⟩
    have d0 : decide (p.k < 0) = false := decide_eq_false k0
    by_cases k1 : m < p.k
    · have d1 : decide (m < p.k) = true := decide_eq_true k1
      have HF := hid13 (HBad.out (fun h => by have := h.2.1; omega))
      clear k0 k1
      go_wp2
      go_ret
      exact ⟨by rw [HF.out]; rfl, HW.out.2⟩
    have d1 : decide (m < p.k) = false := decide_eq_false k1
    have w1 : IntKind.i64.wrap (m - p.k) = m - p.k := by rw [IntKind.wrap_i64]; have := HX.out; have := HL.out; omega
    by_cases k2 : p.d < 0
    · have d2 : decide (p.d < 0) = true := decide_eq_true k2
      have HF := hid13 (HBad.out (fun h => by have := h.2.2.1; omega))
      clear k0 k1 k2
      go_wp2
      go_ret
      exact ⟨by rw [HF.out]; rfl, HW.out.2⟩
    have d2 : decide (p.d < 0) = false := decide_eq_false k2
    by_cases k3 : m - p.k < p.d
    · have d3 : decide (m - p.k < p.d) = true := decide_eq_true k3
      have HF := hid13 (HBad.out (fun h => by have := h.2.2.2; omega))
      clear k0 k1 k2 k3
      go_wp2
      go_ret
      exact ⟨by rw [HF.out]; rfl, HW.out.2⟩
    have d3 : decide (m - p.k < p.d) = false := decide_eq_false k3
    have w2 : IntKind.i64.wrap (m - p.k - p.d) = m - p.k - p.d := by rw [IntKind.wrap_i64]; have := HX.out; have := HL.out; omega
    have HM2 := hid13 (HGo.out ⟨by omega, by omega, by omega, by omega⟩)
    clear k0 k1 k2 k3
    go_wp2
    go_roundg (gk - 1)
    case measure => have := HX.out; omega
    case rel => exact ⟨k + 1, m - p.k - p.d, by have := HX.out; omega, rfl, rfl, HM2, HW⟩
set_option maxRecDepth 100000 in
set_option maxHeartbeats 16000000 in
theorem rapply21 (u : Value) (a : List Nat) (v : Value) (L : List Pt) (w : World) (hA : RowA w 1 u a.length (a.map cB)) (hv : PtR21 w v L) (hl : L.length ≤ 140737488355328) (hw : a.length + wt21 L ≤ 140737480000000) :
    Calls Tryd.prog 13 #[u, v] w fun e w' => ∃ v', e = .returned (.tuple #[v', .int .i64 (apE a L)]) ∧ w'.ownsRow w.heap.size 5 1 v' (apL a L).length ((apL a L).map cB) ∧ Below w.heap.size w w' := by
  obtain ⟨i0, ji, jz0, jz1, jz2⟩ := info13 Tryd.infoB13
  obtain ⟨-, uo, uc, huf, huc, -⟩ := id hA
  obtain ⟨ao, c, hvf, -⟩ := id hv
  subst huf hvf
  have K1 := rfit21 (a.length : Int) (.slice ao L.length c) L w (by omega) (by omega) hv hl
  have HA := hid13 hA
  have HT := hid13 hv
  have HL : Hid (L.length ≤ 140737488355328 ∧ a.length + wt21 L ≤ 140737480000000) := ⟨hl, hw⟩
  have HC : Hid (a.length ≤ uc) := huc
  clear hA hv hl hw huc
  cases hfb : fitB (a.length : Int) L with
  | false =>
    have HE : Hid (apE a L = 33 ∧ apL a L = []) := ⟨by unfold apE; rw [hfb]; rfl, by unfold apL; rw [hfb]; rfl⟩
    rw [hfb] at K1
    rw [HE.out.1, HE.out.2]
    clear hfb
    go_enter Tryd.func13, Tryd.ntmps13
    go_wp2_with fail
    refine K1.mono ?_
    rintro e w1 ⟨rfl, hb⟩
    have HB1 := hid13 hb
    clear hb K1
    go_wp2
    exact bodyPost_ret (v := .tuple #[.slice none 0 0, .int .i64 33]) (by simp [results, Tryd.results13, go_sem, *]) rfl ⟨_, rfl, World.ownsRow_nil _ _ _ _, HB1.out⟩
  | true =>
    have HF : Hid (fitB (a.length : Int) L = true) := hfb
    have HE : Hid (apE a L = 0 ∧ apL a L = (apS a L).1 ++ (apS a L).2) := ⟨by unfold apE; rw [hfb]; rfl, by unfold apL; rw [hfb]; rfl⟩
    rw [hfb] at K1
    rw [HE.out.1]
    clear hfb
    go_enter Tryd.func13, Tryd.ntmps13
    go_wp2_with fail
    refine K1.mono ?_
    rintro e w1 ⟨rfl, hb⟩
    have HB1 := hid13 hb
    clear hb K1
    go_wp2
    go_loopg [0, 6, 7] L.length (fun g va vo x wr => ∃ (k : Nat) (m : Nat) (O R : List Nat) (ro : Option Addr) (rc : Nat) (oo : Option Addr) (oc : Nat), k + g = L.length ∧ va = .slice ro R.length rc ∧ vo = .slice oo O.length oc ∧ x = .int .i64 (k : Int) ∧ Hid (R.length ≤ rc) ∧ Hid (apS a (L.take k) = (O, R) ∧ ftS (a.length : Int) (L.take k) = some (m : Int) ∧ R.length = m) ∧ Hid (RowA w 1 (.slice ro R.length rc) R.length (R.map cB)) ∧ Hid (wr.ownsRow w.heap.size 5 1 (.slice oo O.length oc) O.length (O.map cB)) ∧ Hid (Below w.heap.size w wr))
    case atStart => exact ⟨0, a.length, [], a, uo, uc, none, 0, by omega, rfl, rfl, rfl, HC.out, ⟨rfl, rfl, rfl⟩, HA.out, World.ownsRow_nil _ _ _ _, HB1.out⟩
    case round =>
      clear HB1
      obtain ⟨k, m, O, R, ro, rc, oo, oc, hk, rfl, rfl, rfl, HRc, HS, HR, HO, HB⟩ := hrel
      have hbd : ((O.length : Nat) : Int) + (R.length : Int) ≤ (a.length : Int) + (wt21 L : Nat) := by
        have h1 := apS_out a k L m HS.out.2.1
        have h2 := wt21_le (L := L) k
        rw [HS.out.1] at h1
        have h3 := HS.out.2.2
        show ((O.length : Nat) : Int) + _ ≤ _
        unfold wt21 at h2 ⊢
        simp only at h1
        omega
      by_cases hlt : k < L.length
      rotate_left 1
      · have l1 : ¬ (k : Int) < (L.length : Int) := by omega
        have HEa : Hid (apL a L = O ++ R) := by
          show _ = _
          rw [HE.out.2]
          have := HS.out.1
          rw [List.take_of_length_le (by omega)] at this
          rw [this]
        have HL2 : Hid (O.length + R.length ≤ 140737480000000) := by have := HL.out; show _ ≤ _; omega
        clear hlt hk hbd
        go_wp2_with (at_builtin; apply stopHere9)
        refine (show wpList _ _ _ _ _ _ from ?_)
        refine wpList_append_rowA rfl _ _ 22 rfl w.heap.size 5 i0 (.int .u8 0) 1 1 Tryd.underlying22 ji jz0 jz1 jz2 rfl (by decide) _ O.length (O.map cB) rfl HO.out _ R.length (R.map cB) rfl (HR.out.below HB.out) (cB_one R) (by have := HL2.out; unfold maxLen; omega) (by have := HL2.out; omega) HB.out.size ?_
        intro ao4 c4 w4 hO4 hg4
        have HB4 : Hid (Below w.heap.size w w4) := hid13 (HB.out.grown hg4 HB.out.size (fun z hz => (HO.out.lt z hz).1))
        have HO4 : Hid (w4.ownsRow w.heap.size 5 1 (.slice ao4 (O.length + R.length) c4) (O ++ R).length ((O ++ R).map cB)) := by
          rw [List.length_append, List.map_append]; exact hO4
        clear hO4 hg4 HO HR HB HS HRc
        go_wp2
        exact bodyPost_ret (v := .tuple #[.slice ao4 (O.length + R.length) c4, .int .i64 0]) (by simp [results, Tryd.results13, go_sem, *]) rfl ⟨_, rfl, by rw [HEa.out]; exact HO4.out, HB4.out⟩
      have l1 : (k : Int) < (L.length : Int) := by omega
      obtain ⟨p, hp⟩ : ∃ p, L[k]? = some p := ⟨L[k], by simp [hlt]⟩
      obtain ⟨b1, f1, xo, xc, hao, s0, s1, s2, -, hpx⟩ := ptr_at HT.out hp
      subst hao
      obtain ⟨hok, hnx⟩ := ftS_ok HF.out hp HS.out.2.1
      obtain ⟨kp, hkp⟩ : ∃ z : Nat, p.k = (z : Int) := ⟨p.k.toNat, by have := hok.1; omega⟩
      obtain ⟨dp, hdp⟩ : ∃ z : Nat, p.d = (z : Int) := ⟨p.d.toNat, by have := hok.2.2.1; omega⟩
      have hkm : kp + dp ≤ R.length := by have h1 := hok.2.1; have h2 := hok.2.2.2; have := HS.out.2.2; omega
      have hap : apS a (L.take (k + 1)) = (O ++ R.take kp ++ p.x, R.drop (kp + dp)) := by
        rw [apS_take hp, HS.out.1]
        unfold apF
        dsimp only
        rw [show (p.k + p.d).toNat = kp + dp by omega, show p.k.toNat = kp by omega]
      have hbd2 : O.length + kp + p.x.length ≤ 140737480000000 := by
        have h1 := apS_out a (k + 1) L _ hnx
        have h2 := wt21_le (L := L) (k + 1)
        rw [hap] at h1
        unfold wt21 at h2
        simp only [List.length_append, List.length_take] at h1
        have h4 := HL.out.2
        unfold wt21 at h4
        have h5 : min kp R.length = kp := by omega
        rw [h5] at h1
        have h6 : 0 ≤ (m : Int) - p.k - p.d := by have := hok.2.2.2; omega
        omega
      rw [hkp] at s0
      rw [hdp] at s1
      have HCc : Hid (w.cell? ⟨b1, f1 + k * 3, none⟩ = some (.int .i64 (kp : Int)) ∧ w.cell? ⟨b1, f1 + k * 3 + 1, none⟩ = some (.int .i64 (dp : Int)) ∧ w.cell? ⟨b1, f1 + k * 3 + 2, none⟩ = some (.slice xo p.x.length xc)) := ⟨s0, s1, s2⟩
      have wk : IntKind.i64.wrap ((k : Int) + 1) = (k : Int) + 1 := by rw [IntKind.wrap_i64]; have := HL.out; omega
      have wd : IntKind.i64.wrap ((kp : Int) + (dp : Int)) = ((kp + dp : Nat) : Int) := by rw [IntKind.wrap_i64]; have := HL.out; omega
      have hrl : R.length ≤ rc := HRc.out
      have hs1 : ∀ X, Sem.run Tryd.prog (Instr.sliceAt 22 (.slice ro R.length rc) none (some (.int .i64 (kp : Int))) none) X = .ok (.slice ro kp rc) X := fun X => run_slice_to (P := Tryd.prog) (w := X) Tryd.underlying22 ji ro R.length rc kp (by omega)
      obtain ⟨q, hq⟩ : ∃ q : Nat, q = kp + dp := ⟨_, rfl⟩
      rw [← hq] at wd hap hkm
      have HS2 : Hid (∀ X, Sem.run Tryd.prog (Instr.sliceAt 22 (.slice ro R.length rc) (some (.int .i64 (q : Int))) none none) X = .ok (.slice (if rc = q then ro else ro.map (·.add (q * 1))) (R.length - q) (rc - q)) X) := fun X => run_slice_from (P := Tryd.prog) (w := X) Tryd.underlying22 ji jz1 ro R.length rc q (by omega)
      obtain ⟨x, hx⟩ : ∃ x, x = R.take kp := ⟨_, rfl⟩
      have hxl : x.length = kp := by rw [hx, List.length_take]; omega
      have HX1 : Hid (RowA w 1 (.slice ro kp rc) x.length (x.map cB)) := by rw [hxl, hx]; exact rowA_take21 HR.out (by omega)
      have HX2 : Hid (RowA w 1 (.slice xo p.x.length xc) p.x.length (p.x.map cB)) := hpx
      have HR2 : Hid (RowA w 1 (.slice (if rc = q then ro else ro.map (·.add (q * 1))) (R.length - q) (rc - q)) (R.length - q) ((R.drop q).map cB)) := rowA_from21 HR.out (by omega)
      have HN : Hid (apS a (L.take (k + 1)) = (O ++ x ++ p.x, R.drop q) ∧ ftS (a.length : Int) (L.take (k + 1)) = some ((m - kp - dp : Nat) : Int) ∧ (R.drop q).length = m - kp - dp ∧ R.length - q = (R.drop q).length ∧ k < L.length ∧ k + gk = L.length ∧ q ≤ rc ∧ (R.drop q).length ≤ rc - q) := by
        have h3 := HS.out.2.2
        refine ⟨by rw [hx]; exact hap, by rw [hnx, hkp, hdp]; congr 1; omega, by rw [List.length_drop]; omega, by rw [List.length_drop], hlt, hk, by omega, by rw [List.length_drop]; omega⟩
      have HLx : Hid (O.length + x.length + p.x.length ≤ 140737480000000) := by show _ ≤ _; omega
      generalize hzo : (if rc = q then ro else ro.map (·.add (q * 1))) = zro at *
      have r0 := keepc HB.out s0
      have r1 := keepc HB.out s1
      have r2 := keepc HB.out s2
      clear hp hlt hk HS HR hok hnx hpx hkp hdp hkm hap hbd hbd2 hx hxl hq hzo HRc hrl HF s0 s1 s2
      go_wp2_with (at_builtin; apply stopHere9)
      refine (show wpList _ _ _ _ _ _ from ?_)
      refine wpList_append_rowA rfl _ _ 22 rfl w.heap.size 5 i0 (.int .u8 0) 1 1 Tryd.underlying22 ji jz0 jz1 jz2 rfl (by decide) _ O.length (O.map cB) rfl HO.out _ x.length (x.map cB) (by simp [Act.eval]) (HX1.out.below HB.out) (cB_one x) (by have := HLx.out; unfold maxLen; omega) (by have := HLx.out; omega) HB.out.size ?_
      intro ao4 c4 w4 hO4 hg4
      have HB4 : Hid (Below w.heap.size w w4) := hid13 (HB.out.grown hg4 HB.out.size (fun z hz => (HO.out.lt z hz).1))
      obtain ⟨O1, hO1⟩ : ∃ O1, O1 = O ++ x := ⟨_, rfl⟩
      have hl1 : O.length + x.length = O1.length := by rw [hO1, List.length_append]
      rw [← List.map_append, ← hO1, hl1] at hO4
      rw [hl1]
      have HO4 := hid13 hO4
      have HE1 : Hid (O.length + x.length = O1.length ∧ O ++ x = O1) := ⟨hl1, hO1.symm⟩
      have q0 := keepc HB4.out HCc.out.1
      have q1 := keepc HB4.out HCc.out.2.1
      have q2 := keepc HB4.out HCc.out.2.2
      clear hO4 hg4 HO HB hO1 hl1 HX1 r0 r1 r2
      go_wp2_with (at_builtin; apply stopHere9)
      refine (show wpList _ _ _ _ _ _ from ?_)
      refine wpList_append_rowA rfl _ _ 22 rfl w.heap.size 5 i0 (.int .u8 0) 1 1 Tryd.underlying22 ji jz0 jz1 jz2 rfl (by decide) _ O1.length (O1.map cB) rfl HO4.out _ p.x.length (p.x.map cB) (by simp [Act.eval]) (HX2.out.below HB4.out) (cB_one _) (by have := HLx.out; have := HE1.out.1; unfold maxLen; omega) (by have := HLx.out; have := HE1.out.1; omega) HB4.out.size ?_
      intro ao5 c5 w5 hO5 hg5
      have HB5 : Hid (Below w.heap.size w w5) := hid13 (HB4.out.grown hg5 HB4.out.size (fun z hz => (HO4.out.lt z hz).1))
      obtain ⟨O2, hO2⟩ : ∃ O2, O2 = O1 ++ p.x := ⟨_, rfl⟩
      have hl2 : O1.length + p.x.length = O2.length := by rw [hO2, List.length_append]
      rw [← List.map_append, ← hO2, hl2] at hO5
      rw [hl2]
      have HO5 := hid13 hO5
      have HN1 : Hid (apS a (L.take (k + 1)) = (O2, R.drop q)) := by have := HN.out.1; rw [HE1.out.2, ← hO2] at this; exact this
      have t0 := keepc HB5.out HCc.out.1
      have t1 := keepc HB5.out HCc.out.2.1
      have hs2 := HS2.out
      clear hO5 hg5 HO4 HB4 hO2 hl2 HX2 q0 q1 q2 hs1 HS2 HCc
      go_wp2
      go_quiet (fail)
      have HB6 : Hid (Below w.heap.size w (w5.drewN nq)) := below_drewN HB5.out nq
      have HO6 := hid13 (own_b13 (below_drewN (Below.refl w5.heap.size w5) nq) HO5.out)
      clear t0 t1 HB5 HO5
      go_wp2
      go_roundg (gk - 1)
      case measure => have := HN.out; omega
      case rel => exact ⟨k + 1, m - kp - dp, O2, R.drop q, zro, rc - q, ao5, c5, by have := HN.out; omega, by rw [List.length_drop], rfl, rfl, HN.out.2.2.2.2.2.2.2, ⟨HN1.out, HN.out.2.1, HN.out.2.2.1⟩, by rw [← HN.out.2.2.2.1]; exact HR2.out, HO6, HB6⟩
end Go.Proofs.YtiachojhnbicaaaDoor
namespace Go.Proofs.YtiachojhnbicaaaDoor
open Go.RowKit
set_option linter.unusedSimpArgs false
set_option linter.unusedVariables false

theorem byX2 (c : BitVec 32) (b : Nat) (h : b < 256) : bits .xor .u32 (uI c) (b : Int) = uI (c ^^^ BitVec.ofNat 32 b) := by
  rw [← xor32, uI_of b (by omega)]
set_option maxRecDepth 100000 in
set_option maxHeartbeats 4000000 in
theorem rstep13 (c : BitVec 32) (b : Nat) (hb : b < 256) (w : World) :
    Calls Tryd.prog 35 #[.int .u32 (uI c), .int .u8 (b : Int)] w fun e w' => e = .returned (.int .u32 (uI (stp c b))) ∧ w' = w := by
  have hx := byX2 c b hb
  have hbi : ((b : Nat) : Int) < 256 := by omega
  obtain ⟨X, hX⟩ : ∃ X, X = c ^^^ BitVec.ofNat 32 b := ⟨_, rfl⟩
  have HS : Hid (stp c b = hbN 8 X) := by show _ = _; rw [hX]; rfl
  rw [← hX] at hx
  clear hX hb
  go_enter Tryd.func35, Tryd.ntmps35
  go_wp2_with fail
  clear hx
  go_loopg [0, 5, 6] 8 (fun k a i o wr => wr = w ∧ ∃ (C : BitVec 32) (j : Nat), j + k = 8 ∧ a = .int .u32 (uI C) ∧ i = .int .i64 (j : Int) ∧ Hid (hbN k C = hbN 8 X))
  case atStart => exact ⟨rfl, X, 0, rfl, rfl, rfl, rfl⟩
  case round =>
    obtain ⟨rfl, C, j, hk, rfl, rfl, HC⟩ := hrel
    by_cases hj : j < 8
    · have hji : (j : Int) < 8 := by omega
      obtain ⟨g, rfl⟩ : ∃ g, gk = g + 1 := ⟨gk - 1, by omega⟩
      have h1 := odd32 C
      have h2 := half32 C
      have mk : IntKind.i64.wrap ((j : Int) + 1) = (j : Int) + 1 := by rw [IntKind.wrap_i64]; omega
      have HN : Hid (hbN g (hb C) = hbN 8 X) := HC.out
      have HJ : Hid (j + 1 + g = 8) := by show j + 1 + g = 8; omega
      clear HC hk hj
      cases c : C.getLsbD 0
      · rw [hb_even C c] at HN
        rw [c] at h1
        simp only [Bool.false_eq_true, if_false] at h1
        clear c
        go_wp2_with fail
        go_roundg g
        case measure => omega
        case rel => exact ⟨rfl, _, j + 1, HJ.out, rfl, rfl, HN⟩
      · rw [hb_odd C c] at HN
        rw [c] at h1
        simp only [if_true] at h1
        have h3 := xorM (C >>> 1)
        clear c
        go_wp2_with fail
        go_roundg g
        case measure => omega
        case rel => exact ⟨rfl, _, j + 1, HJ.out, rfl, rfl, HN⟩
    · have hji : ¬ (j : Int) < 8 := by omega
      obtain rfl : gk = 0 := by omega
      have HN : Hid (C = hbN 8 X) := HC.out
      go_wp2_with fail
      go_ret
      exact ⟨congrArg Ending.returned (congrArg (Value.int .u32) (congrArg uI (HN.out.trans HS.out.symm))), rfl⟩
end Go.Proofs.YtiachojhnbicaaaDoor
namespace Go.Proofs.YtiachojhnbicaaaDoor
open Go.RowKit
set_option linter.unusedSimpArgs false
set_option linter.unusedVariables false

theorem rsum13 (v : Value) (l : List Nat) (w : World) (hv : RwX cB w v l) (hl : l.length ≤ 9223372036854775806) (hx : ∀ b ∈ l, b < 256) :
    Calls Tryd.prog 25 #[v] w fun e w' => e = .returned (.int .u32 (uI (crS l))) ∧ w' = w := by
  obtain ⟨ao, cc, rfl, hc, hv⟩ := hv
  have HV := hid13 hv
  have HX := hid13 hx
  have HL := hid13 hl
  clear hv hc hl hx
  go_enter Tryd.func25, Tryd.ntmps25
  go_wp2_with fail
  go_loopg [3, 4] l.length (fun g a i wr => wr = w ∧ ∃ (k : Nat) (C : BitVec 32), k + g = l.length ∧ a = .int .u32 (uI C) ∧ i = .int .i64 (k : Int) ∧ Hid (crF C (l.drop k) = crF (BitVec.allOnes 32) l))
  case atStart =>
    refine ⟨rfl, 0, BitVec.allOnes 32, by omega, ?_, rfl, rfl⟩
    exact congrArg (Value.int .u32) (by rw [uI_eq]; decide)
  case round =>
    obtain ⟨rfl, k, C, hk, rfl, rfl, HC⟩ := hrel
    by_cases hlt : k < l.length
    · have hli : (k : Int) < (l.length : Int) := by omega
      obtain ⟨bo, off, rfl, hcell⟩ : ∃ bo off, ao = some ⟨bo, off, none⟩ ∧ ∀ j x, l[j]? = some x → wr.cell? ⟨bo, off + j, none⟩ = some (cB x) := by
        rcases HV.out with h | h
        · rw [h] at hlt; simp at hlt
        · exact h
      obtain ⟨q, hq⟩ : ∃ q, q = l[k] := ⟨_, rfl⟩
      have hrd : wr.cell? ⟨bo, off + k, none⟩ = some (.int .u8 (q : Int)) := hcell k q (by rw [hq]; simp [hlt])
      have HE : Hid (crF (stp C q) (l.drop (k + 1)) = crF (BitVec.allOnes 32) l) := hid13 (by rw [hq, ← crF_at hlt]; exact HC.out)
      have KS := fun W => rstep13 C q (HX.out q (by rw [hq]; exact List.getElem_mem hlt)) W
      have mk : IntKind.i64.wrap ((k : Int) + 1) = (k : Int) + 1 := by have := HL.out; rw [IntKind.wrap_i64]; omega
      have HK : Hid (k + gk = l.length ∧ k < l.length) := ⟨hk, hlt⟩
      clear hq hcell HC hk hlt
      go_wp2_with (go_at_call 35; refine (KS _).mono ?_; rintro e w1 ⟨rfl, hw1⟩; replace hw1 := hw1.symm; subst hw1)
      go_roundg (gk - 1)
      case measure => have := HK.out; omega
      case rel => exact ⟨rfl, k + 1, _, by have := HK.out; omega, rfl, rfl, HE⟩
    · have hli : ¬ (k : Int) < (l.length : Int) := by omega
      have HE : Hid (~~~ C = crS l) := hid13 (by
        have := HC.out
        rw [List.drop_eq_nil_of_le (by omega), crF_nil] at this
        show ~~~ C = crS _
        unfold crS
        rw [this])
      have hn := notU C
      go_wp2_with fail
      go_ret
      exact ⟨congrArg Ending.returned (congrArg (Value.int .u32) (by first | exact congrArg uI HE.out | (rw [← HE.out]; exact hn))), rfl⟩
end Go.Proofs.YtiachojhnbicaaaDoor
namespace Go.Proofs.YtiachojhnbicaaaDoor
open Go.RowKit
set_option linter.unusedSimpArgs false
set_option linter.unusedVariables false

set_option maxRecDepth 100000 in
set_option maxHeartbeats 8000000 in
theorem rput17 (w0 : World) (v : Value) (l : List Nat) (x : Nat) (K : Int) (k : Nat) (hK : K = (k : Int)) (hk0 : 0 < k) (hk : k ≤ 4) (w : World) (hS : PS13 w0 w v l) (hl : l.length ≤ 140737488355000) (hx : x < 4294967296) :
    Calls Tryd.prog 24 #[v, .int .u32 (x : Int), .int .i64 K] w fun e w' => ∃ v', e = .returned v' ∧ w'.ownsRow w0.heap.size 5 1 v' (l ++ lastB x k).length ((l ++ lastB x k).map cB) ∧ Below w0.heap.size w0 w' := by
  subst hK
  have HS0 := hid13 hS
  obtain ⟨N, hN⟩ : ∃ N : Int, N = (x : Int) := ⟨_, rfl⟩
  have HN := hid13 hN
  have hN0 : 0 ≤ N := by omega
  have hN1 : N < 4294967296 := by omega
  have hq : N / 16777216 < 256 := by omega
  have hq0 : 0 ≤ N / 16777216 := by omega
  rw [← hN]
  have hki : (k : Int) ≤ 4 := by omega
  have HK0 : Hid (0 < k ∧ k ≤ 4 ∧ l.length ≤ 140737488355000) := ⟨hk0, hk, hl⟩
  clear hN hS hx hk0 hk hl
  go_enter Tryd.func24, Tryd.ntmps24
  go_wp2_with fail
  go_loopg [0, 7] k (fun g vb i wr => ∃ (c : Nat) (v : Value) (R : List Nat), c = g ∧ c ≤ k ∧ vb = v ∧ i = .int .i64 ((c : Int) - 1) ∧ Hid (PS13 w0 wr v R) ∧ (c < k → wr.ownsRow w0.heap.size 5 1 v R.length (R.map cB)) ∧ Hid (R ++ lastB x c = l ++ lastB x k))
  case atStart => exact ⟨k, _, l, rfl, Nat.le_refl _, rfl, rfl, HS0, fun h => by omega, rfl⟩
  case round =>
    clear HS0
    obtain ⟨c, vb, R, rfl, hck, hvb, rfl, HS, HO, HR0⟩ := hrel
    subst hvb
    cases c with
    | zero =>
      have HO2 := hid13 (HO HK0.out.1)
      have e : R = l ++ lastB x k := by have := HR0.out; simp only [lastB, List.append_nil] at this; exact this
      subst e
      clear HO
      go_wp2_with fail
      exact bodyPost_ret (v := u0) (by simp [results, Tryd.results24, go_sem]) rfl ⟨_, rfl, HO2.out, HS.out.1⟩
    | succ c =>
      have HR : Hid (R.length ≤ 140737488355200) := by
        have h1 := congrArg List.length HR0.out
        have h2 : ∀ c, (lastB x c).length = c := by intro c; induction c with | zero => rfl | succ c ih => simp [lastB, ih]
        rw [List.length_append, List.length_append, h2, h2] at h1
        have := HK0.out
        show _ ≤ _
        omega
      obtain ⟨b, hb⟩ : ∃ b, b = x / 256 ^ c % 256 := ⟨_, rfl⟩
      have HP : Hid ((R ++ [b]) ++ lastB x c = l ++ lastB x k) := by
        have := HR0.out
        simp only [lastB] at this
        rw [List.append_assoc, hb]; exact this
      obtain ⟨y, hyb⟩ : ∃ y : Int, y = (b : Int) := ⟨_, rfl⟩
      have HY : Hid (N = (x : Int) ∧ x < 4294967296 ∧ y = ((x / 256 ^ c % 256 : Nat) : Int)) := ⟨HN.out, by have := HN.out; omega, by rw [hyb, hb]⟩
      have HK : Hid (c < c + 1 ∧ c ≤ k) := ⟨by omega, by omega⟩
      have hc4 : c < 4 := by have := HK0.out; omega
      have hp1 : ((c + 1 : Nat) : Int) - 1 = (c : Int) := by omega
      rw [hp1]
      clear HO HR0 hb hp1 hck
      rcases c with _ | _ | _ | _ | c
      · have hy : N % 256 = y := by have := HY.out; simp at this; omega
        go_wp2_with (at_builtin; apply stopHere9)
        refine (show wpList _ _ _ _ _ _ from ?_)
        try rw [hyb]
        refine wpList_put13 rfl _ _ rfl w0 wr u0 R HS.out b HR.out rfl rfl ?_
        intro v5 w5 ho5 hb5
        have HS5 : Hid (PS13 w0 w5 v5 (R ++ [b])) := ⟨hb5, .inl ho5⟩
        have HW5 := hid13 ho5
        clear ho5 hb5 HS
        go_wp2
        go_roundg 0
        case measure => exact HK.out.1
        case rel => exact ⟨0, v5, R ++ [b], rfl, HK.out.2, rfl, rfl, HS5, fun _ => HW5.out, HP.out⟩
      · have hy : N / 256 % 256 = y := by have := HY.out; simp at this; omega
        go_wp2_with (at_builtin; apply stopHere9)
        refine (show wpList _ _ _ _ _ _ from ?_)
        try rw [hyb]
        refine wpList_put13 rfl _ _ rfl w0 wr u0 R HS.out b HR.out rfl rfl ?_
        intro v5 w5 ho5 hb5
        have HS5 : Hid (PS13 w0 w5 v5 (R ++ [b])) := ⟨hb5, .inl ho5⟩
        have HW5 := hid13 ho5
        clear ho5 hb5 HS
        go_wp2
        go_roundg 1
        case measure => exact HK.out.1
        case rel => exact ⟨1, v5, R ++ [b], rfl, HK.out.2, rfl, rfl, HS5, fun _ => HW5.out, HP.out⟩
      · have hy : N / 65536 % 256 = y := by have := HY.out; simp at this; omega
        go_wp2_with (at_builtin; apply stopHere9)
        refine (show wpList _ _ _ _ _ _ from ?_)
        try rw [hyb]
        refine wpList_put13 rfl _ _ rfl w0 wr u0 R HS.out b HR.out rfl rfl ?_
        intro v5 w5 ho5 hb5
        have HS5 : Hid (PS13 w0 w5 v5 (R ++ [b])) := ⟨hb5, .inl ho5⟩
        have HW5 := hid13 ho5
        clear ho5 hb5 HS
        go_wp2
        go_roundg 2
        case measure => exact HK.out.1
        case rel => exact ⟨2, v5, R ++ [b], rfl, HK.out.2, rfl, rfl, HS5, fun _ => HW5.out, HP.out⟩
      · have hy : N / 16777216 = y := by have := HY.out; simp at this; omega
        go_wp2_with (at_builtin; apply stopHere9)
        refine (show wpList _ _ _ _ _ _ from ?_)
        try rw [hyb]
        refine wpList_put13 rfl _ _ rfl w0 wr u0 R HS.out b HR.out rfl rfl ?_
        intro v5 w5 ho5 hb5
        have HS5 : Hid (PS13 w0 w5 v5 (R ++ [b])) := ⟨hb5, .inl ho5⟩
        have HW5 := hid13 ho5
        clear ho5 hb5 HS
        go_wp2
        go_roundg 3
        case measure => exact HK.out.1
        case rel => exact ⟨3, v5, R ++ [b], rfl, HK.out.2, rfl, rfl, HS5, fun _ => HW5.out, HP.out⟩
      · omega

end Go.Proofs.YtiachojhnbicaaaDoor
namespace Go.Proofs.YtiachojhnbicaaaDoor
open Go.RowKit Go.Shelf
set_option linter.unusedSimpArgs false
set_option linter.unusedVariables false
attribute [local go_sem] Oper.semAt_some

theorem rput21 (w0 : World) (v : Value) (l : List Nat) (x : Nat) (w : World) (hS : PS13 w0 w v l) (hl : l.length ≤ 140737488355000) (hx : x < 4294967296) :
    Calls Tryd.prog 24 #[v, .int .u32 (x : Int), .int .i64 4] w fun e w' => ∃ v', e = .returned v' ∧ w'.ownsRow w0.heap.size 5 1 v' (ld21 l [x]).length ((ld21 l [x]).map cB) ∧ Below w0.heap.size w0 w' := by
  have h := rput17 w0 v l x 4 4 rfl (by decide) (by decide) w hS hl hx
  rw [lastB_four x hx] at h
  have e : l ++ by4 x = ld21 l [x] := by unfold ld21; simp
  rw [e] at h
  exact h
theorem ld21_cons (l : List Nat) (x : Nat) (ns : List Nat) : ld21 l (x :: ns) = ld21 (ld21 l [x]) ns := by unfold ld21; simp
set_option maxRecDepth 100000 in
set_option maxHeartbeats 32000000 in
theorem rbytes21 (u : Value) (a : List Nat) (v : Value) (L : List Pt) (w : World) (hA : RwX cB w u a) (hx : ∀ z ∈ a, z < 256) (hv : PtR21 w v L) (hpb : ∀ p ∈ L, ∀ z ∈ p.x, z < 256) (ha : a.length < 4294967296) (hl : L.length < 4294967296) (hw : wt21 L < 4294967296) :
    Calls Tryd.prog 14 #[u, v] w fun e w' => ∃ v', e = .returned (.tuple #[v', .int .i64 (byE a L)]) ∧ w'.ownsRow w.heap.size 5 1 v' (byB a L).length ((byB a L).map cB) ∧ Below w.heap.size w w' := by
  obtain ⟨i0, ji, jz0, jz1, jz2⟩ := info13 Tryd.infoB13
  obtain ⟨uo, uc, huf, huc, -⟩ := id hA
  obtain ⟨ao, c, hvf, -⟩ := id hv
  subst huf hvf
  have K1 := rfit21 (a.length : Int) (.slice ao L.length c) L w (by omega) (by omega) hv (by omega)
  have HA := hid13 (And.intro hA hx)
  have HT := hid13 hv
  have HPb := hid13 hpb
  have HL : Hid (a.length < 4294967296 ∧ L.length < 4294967296 ∧ wt21 L < 4294967296) := ⟨ha, hl, hw⟩
  clear hA hv hl hw huc ha hx hpb
  cases hfb : fitB (a.length : Int) L with
  | false =>
    have HE : Hid (byE a L = 33 ∧ byB a L = []) := ⟨by unfold byE; rw [hfb]; rfl, by unfold byB; rw [hfb]; rfl⟩
    rw [hfb] at K1
    rw [HE.out.1, HE.out.2]
    clear hfb
    go_enter Tryd.func14, Tryd.ntmps14
    go_wp2_with fail
    refine K1.mono ?_
    rintro e w1 ⟨rfl, hb⟩
    have HB1 := hid13 hb
    clear hb K1
    go_wp2
    exact bodyPost_ret (v := .tuple #[.slice none 0 0, .int .i64 33]) (by simp [results, Tryd.results14, go_sem, *]) rfl ⟨_, rfl, World.ownsRow_nil _ _ _ _, HB1.out⟩
  | true =>
    have HF : Hid (fitB (a.length : Int) L = true) := hfb
    have HPl : Hid (∀ p ∈ L, p.k.toNat < 4294967296 ∧ p.d.toNat < 4294967296 ∧ p.x.length < 4294967296) := by
      intro p hp
      obtain ⟨j, hj⟩ := List.getElem?_of_mem hp
      obtain ⟨m, hm⟩ := ftS_some j hfb
      have h1 := (ftS_ok hfb hj hm).1
      have h2 := ftS_bd (Int.natCast_nonneg a.length) _ _ hm
      have h3 := len_le_wt21 hj
      have h4 := HL.out
      obtain ⟨o1, o2, o3, o4⟩ := h1
      exact ⟨by omega, by omega, by omega⟩
    have HE : Hid (byE a L = 0 ∧ byB a L = bySum (byS a L.length L)) := ⟨by unfold byE; rw [hfb]; rfl, by unfold byB; rw [hfb]; rfl⟩
    rw [hfb] at K1
    rw [HE.out.1]
    clear hfb
    go_enter Tryd.func14, Tryd.ntmps14
    go_wp2_with fail
    refine K1.mono ?_
    rintro e w1 ⟨rfl, hb⟩
    have HB1 := hid13 hb
    clear hb K1
    have c1 : IntKind.u32.wrap (a.length : Int) = (a.length : Int) := by rw [IntKind.wrap_u32]; have := HL.out; omega
    have c2 : IntKind.u32.wrap (L.length : Int) = (L.length : Int) := by rw [IntKind.wrap_u32]; have := HL.out; omega
    have kc1 := Go.Joins.run_convert_bytes_const_at (P := Tryd.prog) w1 22 5 #[.int .u8 84, .int .u8 80, .int .u8 68, .int .u8 49] 4 4 w1.heap.size rfl Tryd.underlying22 Tryd.underlying5
    have q1 := bl1 w1 (.cells #[.int .u8 84, .int .u8 80, .int .u8 68, .int .u8 49] 5 (4, 5))
    have o1 := lit_rwx21 (f := cB) w1 #[.int .u8 84, .int .u8 80, .int .u8 68, .int .u8 49] 5 (4, 5) [84, 80, 68, 49] rfl
    obtain ⟨w2, hw2⟩ : ∃ w2, w2 = w1.alloc (.cells #[.int .u8 84, .int .u8 80, .int .u8 68, .int .u8 49] 5 (4, 5)) := ⟨_, rfl⟩
    rw [← hw2] at q1 o1
    have HB2 : Hid (Below w.heap.size w w2) := hid13 (keepb q1 HB1.out)
    have HW2 : Hid (w2 = w1.alloc (.cells #[.int .u8 84, .int .u8 80, .int .u8 68, .int .u8 49] 5 (4, 5))) := hw2
    have K2 := rput21 w (.slice (some ⟨w1.heap.size, 0, none⟩) 4 4) [84, 80, 68, 49] a.length w2 ⟨HB2.out, .inr ⟨o1.row (fun h => by cases h), _, rfl⟩⟩ (by decide) HL.out.1
    clear q1 o1 hw2
    go_wp2_with fail
    rw [← HW2.out]
    refine K2.mono ?_
    rintro e w3 ⟨v3, rfl, ho3, hb3⟩
    have HO3 := hid13 ho3
    have HB3 := hid13 hb3
    have hl3 : (ld21 [84, 80, 68, 49] [a.length]).length = 8 := by rw [ld21_len]; rfl
    have HL3 := hid13 hl3
    obtain ⟨o3, k3, hv3⟩ := own_form ho3
    subst hv3
    clear K2 ho3 hb3 HB2 HW2 kc1 hl3
    have K3 := rsum13 (.slice uo a.length uc) a w3 (HA.out.1.below HB3.out) (by have := HL.out; omega) HA.out.2
    go_wp2_with fail
    refine K3.mono ?_
    rintro e w4 ⟨rfl, hw4⟩
    replace hw4 := hw4.symm
    subst hw4
    obtain ⟨sa, hsa⟩ : ∃ sa : Nat, (sa : Int) = uI (crS a) ∧ sa = (crS a).toNat := ⟨(crS a).toNat, by rw [uI_eq], rfl⟩
    have HSa : Hid (sa = (crS a).toNat) := hsa.2
    rw [← hsa.1]
    clear hsa K3
    have K4 := rput21 w _ _ sa w3 ⟨HB3.out, .inl HO3.out⟩ (by rw [HL3.out]; decide) (by have := (crS a).isLt; have := HSa.out; omega)
    rw [← ld21_cons] at K4
    go_wp2_with fail
    refine K4.mono ?_
    rintro e w4 ⟨v4, rfl, ho4, hb4⟩
    have HO4 := hid13 ho4
    have HB4 := hid13 hb4
    have hl4 : (ld21 [84, 80, 68, 49] [a.length, sa]).length = 12 := by rw [ld21_len]; rfl
    have HL4 := hid13 hl4
    obtain ⟨o4, k4, hv4⟩ := own_form ho4
    subst hv4
    clear K4 ho4 hb4 HB3 HO3 HL3 hl4
    have K5 := rput21 w _ _ L.length w4 ⟨HB4.out, .inl HO4.out⟩ (by rw [HL4.out]; decide) HL.out.2.1
    have e5 : ld21 (ld21 [84, 80, 68, 49] [a.length, sa]) [L.length] = byH a L.length := by unfold byH; rw [← HSa.out]; unfold ld21; simp
    rw [e5] at K5
    clear e5
    go_wp2_with fail
    refine K5.mono ?_
    rintro e w5 ⟨v5, rfl, ho5, hb5⟩
    have HO5 := hid13 ho5
    have HB5 := hid13 hb5
    obtain ⟨o5, k5, hv5⟩ := own_form ho5
    subst hv5
    clear K5 ho5 hb5 HB4 HO4 HL4 HSa c1 c2 HB1
    go_wp2
    go_loopg [6, 7] L.length (fun g vo x wr => ∃ (k : Nat) (O : List Nat) (oo : Option Addr) (oc : Nat), k + g = L.length ∧ vo = .slice oo O.length oc ∧ x = .int .i64 (k : Int) ∧ Hid (O = byS a L.length (L.take k)) ∧ Hid (wr.ownsRow w.heap.size 5 1 (.slice oo O.length oc) O.length (O.map cB)) ∧ Hid (Below w.heap.size w wr))
    case atStart => exact ⟨0, byH a L.length, o5, k5, by omega, rfl, rfl, rfl, HO5.out, HB5.out⟩
    case round =>
      clear HB5 HO5
      obtain ⟨k, O, oo, oc, hk, rfl, rfl, HS, HO, HB⟩ := hrel
      have hol : O.length = 16 + 12 * (L.take k).length + wt21 (L.take k) := by rw [HS.out]; exact byS_len _ _ _
      have hwl := wt21_le (L := L) k
      have HOl : Hid (O.length ≤ 70000000000) := by
        show _ ≤ _
        have := HL.out
        rw [List.length_take] at hol
        omega
      by_cases hlt : k < L.length
      rotate_left 1
      · have l1 : ¬ (k : Int) < (L.length : Int) := by omega
        have HEa : Hid (O = byS a L.length L) := by
          have := HS.out
          rw [List.take_of_length_le (by omega)] at this
          exact this
        have HOx : Hid (∀ z ∈ O, z < 256) := by rw [HEa.out]; exact byS_lt _ _ _ HPb.out (by have := HL.out; omega) (by have := HL.out; omega) (fun p hp => HPl.out p hp)
        clear hlt hk hol hwl
        have K5 := rsum13 _ O wr (own_rwx HO.out) (by have := HOl.out; omega) HOx.out
        go_wp2_with fail
        refine K5.mono ?_
        rintro e w6 ⟨rfl, hw6⟩
        replace hw6 := hw6.symm
        subst hw6
        obtain ⟨sa, hsa⟩ : ∃ sa : Nat, (sa : Int) = uI (crS O) ∧ sa = (crS O).toNat := ⟨(crS O).toNat, by rw [uI_eq], rfl⟩
        have HSa : Hid (sa = (crS O).toNat) := hsa.2
        rw [← hsa.1]
        clear hsa K5
        have K6 := rput21 w _ O sa wr ⟨HB.out, .inl HO.out⟩ (by have := HOl.out; omega) (by have := (crS O).isLt; have := HSa.out; omega)
        have HP : Hid (ld21 O [sa] = byB a L) := by show _ = _; rw [HE.out.2, ← HEa.out]; unfold bySum; rw [HSa.out]
        rw [HP.out] at K6
        clear HP HSa
        go_wp2_with fail
        refine K6.mono ?_
        rintro e w7 ⟨v7, rfl, ho7, hb7⟩
        have HB7 := hid13 hb7
        have HO7 := hid13 ho7
        clear K6 ho7 hb7
        go_wp2
        exact bodyPost_ret (v := .tuple #[v7, .int .i64 0]) (by simp [results, Tryd.results14, go_sem, *]) rfl ⟨_, rfl, HO7.out, HB7.out⟩
      have l1 : (k : Int) < (L.length : Int) := by omega
      obtain ⟨p, hp⟩ : ∃ p, L[k]? = some p := ⟨L[k], by simp [hlt]⟩
      obtain ⟨b1, f1, xo, xc, hao, s0, s1, s2, -, hpx⟩ := ptr_at HT.out hp
      subst hao
      obtain ⟨m, hm⟩ := ftS_some k HF.out
      obtain ⟨hok, hnx⟩ := ftS_ok HF.out hp hm
      have hmb := ftS_bd (Int.natCast_nonneg a.length) _ _ hm
      obtain ⟨kp, hkp⟩ : ∃ z : Nat, p.k = (z : Int) := ⟨p.k.toNat, by have := hok.1; omega⟩
      obtain ⟨dp, hdp⟩ : ∃ z : Nat, p.d = (z : Int) := ⟨p.d.toNat, by have := hok.2.2.1; omega⟩
      have hxl := len_le_wt21 hp
      have c3 : IntKind.u32.wrap (kp : Int) = (kp : Int) := by rw [IntKind.wrap_u32]; have := HL.out; have := hok.2.1; omega
      have c4 : IntKind.u32.wrap (dp : Int) = (dp : Int) := by rw [IntKind.wrap_u32]; have := HL.out; have := hok.2.1; have := hok.1; have := hok.2.2.2; omega
      have c5 : IntKind.u32.wrap (p.x.length : Int) = (p.x.length : Int) := by rw [IntKind.wrap_u32]; have := HL.out; omega
      have HNs : Hid (kp < 4294967296 ∧ dp < 4294967296 ∧ p.x.length < 4294967296) := by
        have := HL.out
        obtain ⟨o1, o2, o3, o4⟩ := hok
        exact ⟨by omega, by omega, by omega⟩
      have HO2 : Hid (ld21 (ld21 (ld21 O [kp]) [dp]) [p.x.length] ++ p.x = byS a L.length (L.take (k + 1))) := by
        show _ = _
        rw [byS_take hp, ← HS.out]
        unfold byF
        rw [hkp, hdp, Int.toNat_natCast, Int.toNat_natCast, ← ld21_cons, ← ld21_cons]
      rw [hkp] at s0
      rw [hdp] at s1
      have HCc : Hid (w.cell? ⟨b1, f1 + k * 3, none⟩ = some (.int .i64 (kp : Int)) ∧ w.cell? ⟨b1, f1 + k * 3 + 1, none⟩ = some (.int .i64 (dp : Int)) ∧ w.cell? ⟨b1, f1 + k * 3 + 2, none⟩ = some (.slice xo p.x.length xc)) := ⟨s0, s1, s2⟩
      have wk : IntKind.i64.wrap ((k : Int) + 1) = (k : Int) + 1 := by rw [IntKind.wrap_i64]; have := HL.out; omega
      have HX2 : Hid (RowA w 1 (.slice xo p.x.length xc) p.x.length (p.x.map cB)) := hpx
      have HK : Hid (k < L.length ∧ k + gk = L.length) := ⟨hlt, hk⟩
      have r0 := keepc HB.out s0
      clear hp hlt hk HS hok hnx hpx hkp hdp hm hmb hxl hol hwl HF s0 s1 s2
      have HB0p := HB
      have HO0p := HO
      have HQ0p : Hid (O.length ≤ 70000000000 + 4 * 0) := by show _ ≤ _; have := HOl.out; omega
      clear HB HO HOl
      have K0 := rput21 w _ O kp wr ⟨HB0p.out, .inl HO0p.out⟩ (by have := HQ0p.out; omega) HNs.out.1
      go_wp2_with fail
      refine K0.mono ?_
      rintro e w5 ⟨v0, rfl, ho, hb⟩
      obtain ⟨P0, hP0⟩ : ∃ P, P = ld21 O [kp] := ⟨_, rfl⟩
      have HQ1p : Hid (P0.length ≤ 70000000000 + 4 * 1) := by show _ ≤ _; rw [hP0, ld21_len]; have := HQ0p.out; show O.length + 4 * 1 ≤ _; omega
      rw [← hP0] at ho
      have HP0 : Hid (P0 = ld21 O [kp]) := hP0
      have HO1p := hid13 ho
      have HB1p := hid13 hb
      obtain ⟨oo0, oc0, hv0⟩ := own_form ho
      subst hv0
      clear K0 ho hb hP0 HO0p HB0p HQ0p
      have r1 := keepc HB1p.out HCc.out.2.1
      clear r0
      have K1 := rput21 w _ P0 dp w5 ⟨HB1p.out, .inl HO1p.out⟩ (by have := HQ1p.out; omega) HNs.out.2.1
      go_wp2_with fail
      refine K1.mono ?_
      rintro e w6 ⟨v1, rfl, ho, hb⟩
      obtain ⟨P1, hP1⟩ : ∃ P, P = ld21 P0 [dp] := ⟨_, rfl⟩
      have HQ2p : Hid (P1.length ≤ 70000000000 + 4 * 2) := by show _ ≤ _; rw [hP1, ld21_len]; have := HQ1p.out; show P0.length + 4 * 1 ≤ _; omega
      rw [← hP1] at ho
      have HP1 : Hid (P1 = ld21 P0 [dp]) := hP1
      have HO2p := hid13 ho
      have HB2p := hid13 hb
      obtain ⟨oo1, oc1, hv1⟩ := own_form ho
      subst hv1
      clear K1 ho hb hP1 HO1p HB1p HQ1p
      have r2 := keepc HB2p.out HCc.out.2.2
      clear r1
      have K2 := rput21 w _ P1 p.x.length w6 ⟨HB2p.out, .inl HO2p.out⟩ (by have := HQ2p.out; omega) HNs.out.2.2
      go_wp2_with fail
      refine K2.mono ?_
      rintro e w7 ⟨v2, rfl, ho, hb⟩
      obtain ⟨P2, hP2⟩ : ∃ P, P = ld21 P1 [p.x.length] := ⟨_, rfl⟩
      have HQ3p : Hid (P2.length ≤ 70000000000 + 4 * 3) := by show _ ≤ _; rw [hP2, ld21_len]; have := HQ2p.out; show P1.length + 4 * 1 ≤ _; omega
      rw [← hP2] at ho
      have HP2 : Hid (P2 = ld21 P1 [p.x.length]) := hP2
      have HO3p := hid13 ho
      have HB3p := hid13 hb
      obtain ⟨oo2, oc2, hv2⟩ := own_form ho
      subst hv2
      clear K2 ho hb hP2 HO2p HB2p HQ2p
      have r3 := keepc HB3p.out HCc.out.2.2
      clear r2
      go_wp2_with (at_builtin; apply stopHere9)
      refine (show wpList _ _ _ _ _ _ from ?_)
      refine wpList_append_rowA rfl _ _ 22 rfl w.heap.size 5 i0 (.int .u8 0) 1 1 Tryd.underlying22 ji jz0 jz1 jz2 rfl (by decide) _ P2.length (P2.map cB) rfl HO3p.out _ p.x.length (p.x.map cB) (by simp [Act.eval]) (HX2.out.below HB3p.out) (cB_one _) (by have := HQ3p.out; have := HNs.out; unfold maxLen; omega) (by have := HQ3p.out; have := HNs.out; omega) HB3p.out.size ?_
      intro ao8 c8 w8 hO8 hg8
      have HB8 : Hid (Below w.heap.size w w8) := hid13 (HB3p.out.grown hg8 HB3p.out.size (fun z hz => (HO3p.out.lt z hz).1))
      obtain ⟨O8, hO8e⟩ : ∃ O8, O8 = P2 ++ p.x := ⟨_, rfl⟩
      have hl8 : P2.length + p.x.length = O8.length := by rw [hO8e, List.length_append]
      rw [← List.map_append, ← hO8e, hl8] at hO8
      rw [hl8]
      have HO8 := hid13 hO8
      have HE8 : Hid (O8 = byS a L.length (L.take (k + 1))) := by show _ = _; rw [hO8e, HP2.out, HP1.out, HP0.out]; exact HO2.out
      clear hO8 hg8 hO8e hl8 HO3p HB3p HX2 r3 HP0 HP1 HP2 HO2 HCc
      go_wp2
      go_roundg (gk - 1)
      case measure => have := HK.out; omega
      case rel => exact ⟨k + 1, O8, ao8, c8, by have := HK.out; omega, rfl, rfl, HE8, HO8, HB8⟩
end Go.Proofs.YtiachojhnbicaaaDoor
