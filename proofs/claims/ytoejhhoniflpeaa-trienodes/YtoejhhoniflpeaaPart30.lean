/-
  Part 30 of the proof: 2 texts, one behind the other.
-/
import Derived.Test.YtoejhhoniflpeaaPart29
import Derived.Test.YtoejhhoniflpeaaPart26
import Derived.Test.YtoejhhoniflpeaaPart11
import Derived.Test.YtoejhhoniflpeaaRows
import Derived.ProofKit
import Derived.Lib.SmallJoins
/-
  The law TrieNodes.
-/
namespace Go.Proofs.Ytoejhhoniflpeaa
open Go.RowKit Go.Shelf
set_option linter.unusedSimpArgs false
set_option linter.unusedVariables false
attribute [local go_sem] Oper.semAt_some

set_option maxRecDepth 100000 in
set_option maxHeartbeats 16000000 in
theorem trieNodes_any (F : Int) (v : Value) (l : List Rte) (n bit : Int) (w : World) (hv : RwR w v l) :
    Calls Try.prog 3 #[.agg #[.int .i64 F, v], .int .i64 n, .int .i64 bit] w fun e w' => e = .returned (.bool true) ∧ Below w.heap.size w w' := by
  have q0 := bl1 w (.cells #[.int .i64 F, v] 24)
  have KK := known8_any (w.alloc (.cells #[.int .i64 F, v] 24))
  have HT := hidR (att_new w w.heap.size F v 24 rfl)
  have HV0 := hidR (hv.below q0)
  have HB0 := hidR q0
  obtain ⟨ao, c, rfl, -⟩ := hv
  clear q0
  go_enter Try.func3, Try.ntmps3
  go_wp2_with fail
  refine KK.mono ?_
  rintro e w1 ⟨rfl, hb⟩
  have HT1 := hidR (HT.out.below hb)
  have HV1 := hidR (HV0.out.below hb)
  have HB1 := hidR (keepb hb HB0.out)
  have KM := both8_any F (.slice ao l.length c) l w1 HV1.out
  obtain ⟨t0, t1⟩ := HT1.out
  clear KK hb HT HV0 HB0
  go_wp2_with fail
  refine KM.mono ?_
  rintro e w2 ⟨hM, hb⟩
  have HT2 := hidR (HT1.out.below hb)
  have HB2 := hidR (keepb hb HB1.out)
  clear KM hb HT1 HV1 HB1 t0 t1
  obtain ⟨t0, t1⟩ := HT2.out
  rcases hM with rfl | ⟨B, g, cap, wg, wc, ws, L, D, P, Z, gp, cp, gz, cz, rfl, k1, k2, k3, k4, hl3⟩
  · go_wp2
    exact bodyPost_ret (v := .bool true) (by simp [results, Try.results3, go_sem]) rfl ⟨rfl, HB2.out⟩
  · have HC := hidR (show CN8 w F (.slice ao l.length c) B g cap wg wc L ws D P Z gp cp gz cz w2 from ⟨k1, k4, HT2.out, HB2.out⟩)
    have Hx := hidR k2
    have Hd := hidR k3
    have hpl : L.length = P.length := k3.pl.symm
    have Hpl := hidR hpl
    have hpm := k3.sm k2
    have HE : Hid (∀ x m w, (Op.equalIn 10000 39 (.agg #[.int .u64 (hI x), .int .u64 (lI x), .int .i64 m]) (.agg #[.int .u64 (hI x), .int .u64 (lI x), .int .i64 m])).run Try.prog w = .ok true w) := hidR (fun x m w => by simpa using eqP_run x m x m w)
    have HCb : Hid (∀ X Y, (CN8 w F (.slice ao l.length c) B g cap wg wc L ws D P Z gp cp gz cz) X → Below X.heap.size X Y → (CN8 w F (.slice ao l.length c) B g cap wg wc L ws D P Z gp cp gz cz) Y) := hidR (fun X Y a b => a.below b)
    have HKl : Hid (∀ X, (CN8 w F (.slice ao l.length c) B g cap wg wc L ws D P Z gp cp gz cz) X → Calls Try.prog 11 #[.pointer (some ⟨B, 0, none⟩)] X fun e w' => e = .returned (.int .i64 (P.length : Int)) ∧ Below X.heap.size X w') := hidR (fun X k => (tlen_any B F g cap (.slice (some ⟨wg, 0, none⟩) ws.length wc) L X k.t.tn).mono (fun e w' ⟨h1, h2⟩ => ⟨by rw [h1, Hpl.out], by rw [h2]; exact Below.refl _ _⟩))
    have HKw : Hid (∀ X, (CN8 w F (.slice ao l.length c) B g cap wg wc L ws D P Z gp cp gz cz) X → Calls Try.prog 12 #[.pointer (some ⟨B, 0, none⟩)] X fun e w' => e = .returned (.int .i64 F) ∧ Below X.heap.size X w') := hidR (fun X k => (tw_any B F g cap (.slice (some ⟨wg, 0, none⟩) ws.length wc) L X k.t.tn).mono (fun e w' ⟨h1, h2⟩ => ⟨h1, by rw [h2]; exact Below.refl _ _⟩))
    clear k1 k2 k3 k4 HT2 HB2 t0 t1 hpl
    have HD := hidR (HC.out.below (below_drewN (Below.refl _ _) 1))
    clear HC
    go_wp2_with fail
    refine qw_region (C := (CN8 w F (.slice ao l.length c) B g cap wg wc L ws D P Z gp cp gz cz)) (by kernel_rfl) (by kernel_rfl) HD.out ?_
    clear HD
    refine qw_run (v := .pointer (some ⟨B, 0, none⟩)) (by rfl) ?_ ?_
    · (intro w1 hC; clear hC; go_simp; first | done | (simp; done) | (simp [*]; done) | omega | (simp; omega) | rfl)
    simp only [Act.put, List.setIfInBounds_toArray, List.set_cons_zero, List.set_cons_succ]
    refine qw_call (v := .int .i64 (P.length : Int)) (f := 11) (args := #[.pointer (some ⟨B, 0, none⟩)]) (by rfl) ?_ ?_ ?_
    · (intro w1 hC; clear hC; go_simp)
    · exact fun w1 hC => (HKl.out w1 hC).mono fun e w' ⟨he, hb⟩ => ⟨he, HCb.out _ _ hC hb⟩
    simp only [Act.put, List.setIfInBounds_toArray, List.set_cons_zero, List.set_cons_succ]
    refine qw_run (v := .pointer (some ⟨D, 0, none⟩)) (by rfl) ?_ ?_
    · (intro w1 hC; clear hC; go_simp; first | done | (simp; done) | (simp [*]; done) | omega | (simp; omega) | rfl)
    simp only [Act.put, List.setIfInBounds_toArray, List.set_cons_zero, List.set_cons_succ]
    refine qw_run (v := .pointer (some ⟨D, 0, none⟩)) (by rfl) ?_ ?_
    · (intro w1 hC; clear hC; go_simp; first | done | (simp; done) | (simp [*]; done) | omega | (simp; omega) | rfl)
    simp only [Act.put, List.setIfInBounds_toArray, List.set_cons_zero, List.set_cons_succ]
    refine qw_run (v := .pointer (some ⟨D, 1, none⟩)) (by rfl) ?_ ?_
    · (intro w1 hC; clear hC; go_simp; first | done | (simp; done) | (simp [*]; done) | omega | (simp; omega) | rfl)
    simp only [Act.put, List.setIfInBounds_toArray, List.set_cons_zero, List.set_cons_succ]
    refine qw_run (v := .slice (some ⟨gp, 0, none⟩) P.length cp) (by rfl) ?_ ?_
    · (intro w1 hC; have f0 := hC.d.ps; clear hC; go_simp; first | done | (simp; done) | (simp [*]; done) | omega | (simp; omega) | rfl)
    simp only [Act.put, List.setIfInBounds_toArray, List.set_cons_zero, List.set_cons_succ]
    refine qw_run (v := .int .i64 (P.length : Int)) (by rfl) ?_ ?_
    · (intro w1 hC; clear hC; go_simp; first | done | (simp; done) | (simp [*]; done) | omega | (simp; omega) | rfl)
    simp only [Act.put, List.setIfInBounds_toArray, List.set_cons_zero, List.set_cons_succ]
    refine qw_run (v := .bool false) (by rfl) ?_ ?_
    · (intro w1 hC; clear hC; go_simp; first | done | (simp; done) | (simp [*]; done) | omega | (simp; omega) | rfl)
    simp only [Act.put, List.setIfInBounds_toArray, List.set_cons_zero, List.set_cons_succ]
    refine qw_run (v := .bool false) (by rfl) ?_ ?_
    · (intro w1 hC; clear hC; go_simp; first | done | (simp; done) | (simp [*]; done) | omega | (simp; omega) | rfl)
    simp only [Act.put, List.setIfInBounds_toArray, List.set_cons_zero, List.set_cons_succ]
    refine qw_run (v := .pointer (some ⟨B, 0, none⟩)) (by rfl) ?_ ?_
    · (intro w1 hC; clear hC; go_simp; first | done | (simp; done) | (simp [*]; done) | omega | (simp; omega) | rfl)
    simp only [Act.put, List.setIfInBounds_toArray, List.set_cons_zero, List.set_cons_succ]
    refine qw_call (v := .int .i64 F) (f := 12) (args := #[.pointer (some ⟨B, 0, none⟩)]) (by rfl) ?_ ?_ ?_
    · (intro w1 hC; clear hC; go_simp)
    · exact fun w1 hC => (HKw.out w1 hC).mono fun e w' ⟨he, hb⟩ => ⟨he, HCb.out _ _ hC hb⟩
    simp only [Act.put, List.setIfInBounds_toArray, List.set_cons_zero, List.set_cons_succ]
    refine qw_run (v := .pointer (some ⟨w.heap.size, 0, none⟩)) (by rfl) ?_ ?_
    · (intro w1 hC; clear hC; go_simp; first | done | (simp; done) | (simp [*]; done) | omega | (simp; omega) | rfl)
    simp only [Act.put, List.setIfInBounds_toArray, List.set_cons_zero, List.set_cons_succ]
    refine qw_run (v := .int .i64 F) (by rfl) ?_ ?_
    · (intro w1 hC; have f0 := hC.a.1; clear hC; go_simp; first | done | (simp; done) | (simp [*]; done) | omega | (simp; omega) | rfl)
    simp only [Act.put, List.setIfInBounds_toArray, List.set_cons_zero, List.set_cons_succ]
    refine qw_run (v := .bool false) (by rfl) ?_ ?_
    · (intro w1 hC; clear hC; go_simp; first | done | (simp; done) | (simp [*]; done) | omega | (simp; omega) | rfl)
    simp only [Act.put, List.setIfInBounds_toArray, List.set_cons_zero, List.set_cons_succ]
    refine qw_run (v := .bool false) (by rfl) ?_ ?_
    · (intro w1 hC; clear hC; go_simp; first | done | (simp; done) | (simp [*]; done) | omega | (simp; omega) | rfl)
    simp only [Act.put, List.setIfInBounds_toArray, List.set_cons_zero, List.set_cons_succ]
    refine qw_nil ?_
    clear HKl HKw
    intro w3 hC
    have HC := hidR hC
    clear hC
    go_wp2_with fail
    go_loopw [10] (fun i wr => ∃ k : Nat, k ≤ P.length ∧ i = .int .i64 (k : Int) ∧ Hid ((CN8 w F (.slice ao l.length c) B g cap wg wc L ws D P Z gp cp gz cz) wr)) (fun i _ => P.length - (intOf i).toNat)
    case atStart => exact ⟨0, by omega, rfl, HC⟩
    case round =>
      clear HC
      obtain ⟨k, hk, rfl, HC⟩ := hrel
      have p0 := HC.out.d.ps
      by_cases hlt : (k : Int) < (P.length : Int)
      · have hkL : k < L.length := by have := Hpl.out; omega
        have KX := tat8_any Hx.out B g cap wg wc k _ HC.out.t hkL
        have Hpk := hidR (Hd.out.pf hkL)
        have Hzk : Hid (Z[k]? = some (ndAt L (k : Int)).hop) := hidR (by rw [nd8_at hkL]; exact Hd.out.z k hkL)
        have hzl : k < Z.length := by have := Hd.out.zl; omega
        have wk : IntKind.i64.wrap ((k : Int) + 1) = ((k + 1 : Nat) : Int) := by rw [IntKind.wrap_i64]; push_cast; omega
        go_wp2_with fail
        refine KX.mono ?_
        rintro e w5 ⟨rfl, hb⟩
        have HC5 := hidR (HC.out.below hb)
        clear KX hb HC p0
        revert Hpk
        generalize pfA ws L k = x
        generalize ln L k = m
        intro Hpk
        have u0 := bl1 w5 (.cells #[.int .u64 (hI x), .int .u64 (lI x), .int .i64 m] 39)
        have HD := hidR (show (CN8 w F (.slice ao l.length c) B g cap wg wc L ws D P Z gp cp gz cz) (w5.alloc (.cells #[.int .u64 (hI x), .int .u64 (lI x), .int .i64 m] 39)).drew ∧ AtP (w5.alloc (.cells #[.int .u64 (hI x), .int .u64 (lI x), .int .i64 m] 39)).drew w5.heap.size x m from ⟨(HC5.out.below u0).below (below_drewN (Below.refl _ _) 1), (atp_new w5 w5.heap.size x m 39 rfl).below (below_drewN (Below.refl _ _) 1)⟩)
        clear u0 HC5
        have E1 := HE.out x m
        have Hc2 : Hid (∀ X Y, ((CN8 w F (.slice ao l.length c) B g cap wg wc L ws D P Z gp cp gz cz) X ∧ AtP X w5.heap.size x m) → Below X.heap.size X Y → ((CN8 w F (.slice ao l.length c) B g cap wg wc L ws D P Z gp cp gz cz) Y ∧ AtP Y w5.heap.size x m)) := hidR (fun X Y a b => ⟨a.1.below b, a.2.below b⟩)
        have Hk1 := hidR (fun X (k1 : (CN8 w F (.slice ao l.length c) B g cap wg wc L ws D P Z gp cp gz cz) X) => thop_any B F g cap (.slice (some ⟨wg, 0, none⟩) ws.length wc) L (k : Int) X k1.t.tn Hx.out.ok)
        have Hk2 := hidR (fun b X (k1 : (CN8 w F (.slice ao l.length c) B g cap wg wc L ws D P Z gp cp gz cz) X) => tkid_any B F g cap (.slice (some ⟨wg, 0, none⟩) ws.length wc) L (k : Int) b X k1.t.tn Hx.out.ok (by have := Hx.out.len; omega))
        have Hk3 := hidR (fun b X (k1 : (CN8 w F (.slice ao l.length c) B g cap wg wc L ws D P Z gp cp gz cz) X) => rkid8_eq Hx.out Hd.out (k : Int) b X k1.d)
        have Hk4 := hidR (fun X (k1 : (CN8 w F (.slice ao l.length c) B g cap wg wc L ws D P Z gp cp gz cz) X) => thei_any B F g cap (.slice (some ⟨wg, 0, none⟩) ws.length wc) L (k : Int) X k1.t.tn Hx.out.ok)
        have Hk5 := hidR (fun X (k1 : (CN8 w F (.slice ao l.length c) B g cap wg wc L ws D P Z gp cp gz cz) X) => rheight8_eq Hx.out Hd.out (k : Int) X k1.d)
        have Hk6 := hidR (fun X (k1 : (CN8 w F (.slice ao l.length c) B g cap wg wc L ws D P Z gp cp gz cz) X) => tcnt_any B F g cap (.slice (some ⟨wg, 0, none⟩) ws.length wc) L (k : Int) X k1.t.tn Hx.out.ok)
        have Hk7 := hidR (fun X (k1 : (CN8 w F (.slice ao l.length c) B g cap wg wc L ws D P Z gp cp gz cz) X) => rcount8_eq Hx.out Hd.out (k : Int) X k1.d)
        revert Hk1 Hk2 Hk3 Hk4 Hk5 Hk6 Hk7 Hzk
        generalize (ndAt L (k : Int)).hop = hv
        generalize (ndAt L (k : Int)).height = th
        generalize (ndAt L (k : Int)).count = tc
        intro Hzk Hk1 Hk2 Hk3 Hk4 Hk5 Hk6 Hk7
        have Hk20 := hidR (Hk2.out 0)
        have Hk21 := hidR (Hk2.out 1)
        have Hk30 := hidR (Hk3.out 0)
        have Hk31 := hidR (Hk3.out 1)
        revert Hk20 Hk21 Hk30 Hk31
        generalize kidV L (k : Int) 0 = qa
        generalize kidV L (k : Int) 1 = qb
        intro Hk20 Hk21 Hk30 Hk31
        clear Hk2 Hk3
        go_wp2_with fail
        refine qw_region (C := fun X => (CN8 w F (.slice ao l.length c) B g cap wg wc L ws D P Z gp cp gz cz) X ∧ AtP X w5.heap.size x m) (by kernel_rfl) (by kernel_rfl) HD.out ?_
        clear HD
        refine qw_run (v := .bool true) (by rfl) ?_ ?_
        · (intro w1 hC; clear hC; go_simp; first | done | (simp; done) | (simp [*]; done) | omega | (simp; omega) | rfl)
        simp only [Act.put, List.setIfInBounds_toArray, List.set_cons_zero, List.set_cons_succ]
        refine qw_run (v := .bool false) (by rfl) ?_ ?_
        · (intro w1 hC; clear hC; go_simp; first | done | (simp; done) | (simp [*]; done) | omega | (simp; omega) | rfl)
        simp only [Act.put, List.setIfInBounds_toArray, List.set_cons_zero, List.set_cons_succ]
        refine qw_run (v := .bool false) (by rfl) ?_ ?_
        · (intro w1 hC; clear hC; go_simp; first | done | (simp; done) | (simp [*]; done) | omega | (simp; omega) | rfl)
        simp only [Act.put, List.setIfInBounds_toArray, List.set_cons_zero, List.set_cons_succ]
        refine qw_run (v := .agg #[.int .u64 (hI x), .int .u64 (lI x), .int .i64 m]) (by rfl) ?_ ?_
        · (intro w1 hC; have f0 := hC.2.1; have f1 := hC.2.2.1; have f2 := hC.2.2.2.1; clear hC; go_simp; first | done | (simp; done) | (simp [*]; done) | omega | (simp; omega) | rfl)
        simp only [Act.put, List.setIfInBounds_toArray, List.set_cons_zero, List.set_cons_succ]
        refine qw_run (v := .pointer (some ⟨D, 0, none⟩)) (by rfl) ?_ ?_
        · (intro w1 hC; clear hC; go_simp; first | done | (simp; done) | (simp [*]; done) | omega | (simp; omega) | rfl)
        simp only [Act.put, List.setIfInBounds_toArray, List.set_cons_zero, List.set_cons_succ]
        refine qw_run (v := .pointer (some ⟨D, 0, none⟩)) (by rfl) ?_ ?_
        · (intro w1 hC; clear hC; go_simp; first | done | (simp; done) | (simp [*]; done) | omega | (simp; omega) | rfl)
        simp only [Act.put, List.setIfInBounds_toArray, List.set_cons_zero, List.set_cons_succ]
        refine qw_run (v := .pointer (some ⟨D, 1, none⟩)) (by rfl) ?_ ?_
        · (intro w1 hC; clear hC; go_simp; first | done | (simp; done) | (simp [*]; done) | omega | (simp; omega) | rfl)
        simp only [Act.put, List.setIfInBounds_toArray, List.set_cons_zero, List.set_cons_succ]
        refine qw_run (v := .slice (some ⟨gp, 0, none⟩) P.length cp) (by rfl) ?_ ?_
        · (intro w1 hC; have f0 := hC.1.d.ps; clear hC; go_simp; first | done | (simp; done) | (simp [*]; done) | omega | (simp; omega) | rfl)
        simp only [Act.put, List.setIfInBounds_toArray, List.set_cons_zero, List.set_cons_succ]
        refine qw_run (v := .int .i64 (k : Int)) (by rfl) ?_ ?_
        · (intro w1 hC; clear hC; go_simp; first | done | (simp; done) | (simp [*]; done) | omega | (simp; omega) | rfl)
        simp only [Act.put, List.setIfInBounds_toArray, List.set_cons_zero, List.set_cons_succ]
        refine qw_run (v := .pointer (some ⟨gp, k * 3, none⟩)) (by rfl) ?_ ?_
        · (intro w1 hC; clear hC; go_simp; first | done | (simp; done) | (simp [*]; done) | omega | (simp; omega) | rfl)
        simp only [Act.put, List.setIfInBounds_toArray, List.set_cons_zero, List.set_cons_succ]
        refine qw_run (v := .agg #[.int .u64 (hI x), .int .u64 (lI x), .int .i64 m]) (by rfl) ?_ ?_
        · (intro w1 hC; have f0 := (hC.1.d.p _ _ _ Hpk.out).1; have f1 := (hC.1.d.p _ _ _ Hpk.out).2.1; have f2 := (hC.1.d.p _ _ _ Hpk.out).2.2; clear hC; go_simp; first | done | (simp; done) | (simp [*]; done) | omega | (simp; omega) | rfl)
        simp only [Act.put, List.setIfInBounds_toArray, List.set_cons_zero, List.set_cons_succ]
        refine qw_run (v := .bool false) (by rfl) ?_ ?_
        · (intro w1 hC; clear hC; go_simp; first | done | (simp; done) | (simp [*]; done) | omega | (simp; omega) | rfl)
        simp only [Act.put, List.setIfInBounds_toArray, List.set_cons_zero, List.set_cons_succ]
        refine qw_run (v := .bool false) (by rfl) ?_ ?_
        · (intro w1 hC; clear hC; go_simp; first | done | (simp; done) | (simp [*]; done) | omega | (simp; omega) | rfl)
        simp only [Act.put, List.setIfInBounds_toArray, List.set_cons_zero, List.set_cons_succ]
        refine qw_run (v := .bool false) (by rfl) ?_ ?_
        · (intro w1 hC; clear hC; go_simp; first | done | (simp; done) | (simp [*]; done) | omega | (simp; omega) | rfl)
        simp only [Act.put, List.setIfInBounds_toArray, List.set_cons_zero, List.set_cons_succ]
        refine qw_run (v := .pointer (some ⟨B, 0, none⟩)) (by rfl) ?_ ?_
        · (intro w1 hC; clear hC; go_simp; first | done | (simp; done) | (simp [*]; done) | omega | (simp; omega) | rfl)
        simp only [Act.put, List.setIfInBounds_toArray, List.set_cons_zero, List.set_cons_succ]
        refine qw_run (v := .int .i64 (k : Int)) (by rfl) ?_ ?_
        · (intro w1 hC; clear hC; go_simp; first | done | (simp; done) | (simp [*]; done) | omega | (simp; omega) | rfl)
        simp only [Act.put, List.setIfInBounds_toArray, List.set_cons_zero, List.set_cons_succ]
        refine qw_call (v := .int .i64 hv) (f := 14) (args := #[.pointer (some ⟨B, 0, none⟩), .int .i64 (k : Int)]) (by rfl) ?_ ?_ ?_
        · (intro w1 hC; clear hC; go_simp)
        · exact fun w1 hC => (Hk1.out w1 hC.1).mono fun e w' ⟨he, hb⟩ => ⟨he, Hc2.out _ _ hC hb⟩
        simp only [Act.put, List.setIfInBounds_toArray, List.set_cons_zero, List.set_cons_succ]
        refine qw_run (v := .pointer (some ⟨D, 0, none⟩)) (by rfl) ?_ ?_
        · (intro w1 hC; clear hC; go_simp; first | done | (simp; done) | (simp [*]; done) | omega | (simp; omega) | rfl)
        simp only [Act.put, List.setIfInBounds_toArray, List.set_cons_zero, List.set_cons_succ]
        refine qw_run (v := .pointer (some ⟨D, 0, none⟩)) (by rfl) ?_ ?_
        · (intro w1 hC; clear hC; go_simp; first | done | (simp; done) | (simp [*]; done) | omega | (simp; omega) | rfl)
        simp only [Act.put, List.setIfInBounds_toArray, List.set_cons_zero, List.set_cons_succ]
        refine qw_run (v := .pointer (some ⟨D, 2, none⟩)) (by rfl) ?_ ?_
        · (intro w1 hC; clear hC; go_simp; first | done | (simp; done) | (simp [*]; done) | omega | (simp; omega) | rfl)
        simp only [Act.put, List.setIfInBounds_toArray, List.set_cons_zero, List.set_cons_succ]
        refine qw_run (v := .slice (some ⟨gz, 0, none⟩) Z.length cz) (by rfl) ?_ ?_
        · (intro w1 hC; have f0 := hC.1.d.zs; clear hC; go_simp; first | done | (simp; done) | (simp [*]; done) | omega | (simp; omega) | rfl)
        simp only [Act.put, List.setIfInBounds_toArray, List.set_cons_zero, List.set_cons_succ]
        refine qw_run (v := .int .i64 (k : Int)) (by rfl) ?_ ?_
        · (intro w1 hC; clear hC; go_simp; first | done | (simp; done) | (simp [*]; done) | omega | (simp; omega) | rfl)
        simp only [Act.put, List.setIfInBounds_toArray, List.set_cons_zero, List.set_cons_succ]
        refine qw_run (v := .pointer (some ⟨gz, k, none⟩)) (by rfl) ?_ ?_
        · (intro w1 hC; clear hC; go_simp; first | done | (simp; done) | (simp [*]; done) | omega | (simp; omega) | rfl)
        simp only [Act.put, List.setIfInBounds_toArray, List.set_cons_zero, List.set_cons_succ]
        refine qw_run (v := .int .i64 hv) (by rfl) ?_ ?_
        · (intro w1 hC; have f0 := hC.1.d.z _ _ Hzk.out; clear hC; go_simp; first | done | (simp; done) | (simp [*]; done) | omega | (simp; omega) | rfl)
        simp only [Act.put, List.setIfInBounds_toArray, List.set_cons_zero, List.set_cons_succ]
        refine qw_run (v := .bool false) (by rfl) ?_ ?_
        · (intro w1 hC; clear hC; go_simp; first | done | (simp; done) | (simp [*]; done) | omega | (simp; omega) | rfl)
        simp only [Act.put, List.setIfInBounds_toArray, List.set_cons_zero, List.set_cons_succ]
        refine qw_run (v := .bool false) (by rfl) ?_ ?_
        · (intro w1 hC; clear hC; go_simp; first | done | (simp; done) | (simp [*]; done) | omega | (simp; omega) | rfl)
        simp only [Act.put, List.setIfInBounds_toArray, List.set_cons_zero, List.set_cons_succ]
        refine qw_run (v := .bool false) (by rfl) ?_ ?_
        · (intro w1 hC; clear hC; go_simp; first | done | (simp; done) | (simp [*]; done) | omega | (simp; omega) | rfl)
        simp only [Act.put, List.setIfInBounds_toArray, List.set_cons_zero, List.set_cons_succ]
        refine qw_run (v := .pointer (some ⟨B, 0, none⟩)) (by rfl) ?_ ?_
        · (intro w1 hC; clear hC; go_simp; first | done | (simp; done) | (simp [*]; done) | omega | (simp; omega) | rfl)
        simp only [Act.put, List.setIfInBounds_toArray, List.set_cons_zero, List.set_cons_succ]
        refine qw_run (v := .int .i64 (k : Int)) (by rfl) ?_ ?_
        · (intro w1 hC; clear hC; go_simp; first | done | (simp; done) | (simp [*]; done) | omega | (simp; omega) | rfl)
        simp only [Act.put, List.setIfInBounds_toArray, List.set_cons_zero, List.set_cons_succ]
        refine qw_call (v := .int .i64 qa) (f := 15) (args := #[.pointer (some ⟨B, 0, none⟩), .int .i64 (k : Int), .int .i64 0]) (by rfl) ?_ ?_ ?_
        · (intro w1 hC; clear hC; go_simp)
        · exact fun w1 hC => (Hk20.out w1 hC.1).mono fun e w' ⟨he, hb⟩ => ⟨he, Hc2.out _ _ hC hb⟩
        simp only [Act.put, List.setIfInBounds_toArray, List.set_cons_zero, List.set_cons_succ]
        refine qw_run (v := .pointer (some ⟨D, 0, none⟩)) (by rfl) ?_ ?_
        · (intro w1 hC; clear hC; go_simp; first | done | (simp; done) | (simp [*]; done) | omega | (simp; omega) | rfl)
        simp only [Act.put, List.setIfInBounds_toArray, List.set_cons_zero, List.set_cons_succ]
        refine qw_run (v := .int .i64 (k : Int)) (by rfl) ?_ ?_
        · (intro w1 hC; clear hC; go_simp; first | done | (simp; done) | (simp [*]; done) | omega | (simp; omega) | rfl)
        simp only [Act.put, List.setIfInBounds_toArray, List.set_cons_zero, List.set_cons_succ]
        refine qw_call (v := .int .i64 qa) (f := 16) (args := #[.pointer (some ⟨D, 0, none⟩), .int .i64 (k : Int), .int .i64 0]) (by rfl) ?_ ?_ ?_
        · (intro w1 hC; clear hC; go_simp)
        · exact fun w1 hC => (Hk30.out w1 hC.1).mono fun e w' ⟨he, hb⟩ => ⟨he, Hc2.out _ _ hC hb⟩
        simp only [Act.put, List.setIfInBounds_toArray, List.set_cons_zero, List.set_cons_succ]
        refine qw_run (v := .bool false) (by rfl) ?_ ?_
        · (intro w1 hC; clear hC; go_simp; first | done | (simp; done) | (simp [*]; done) | omega | (simp; omega) | rfl)
        simp only [Act.put, List.setIfInBounds_toArray, List.set_cons_zero, List.set_cons_succ]
        refine qw_run (v := .bool false) (by rfl) ?_ ?_
        · (intro w1 hC; clear hC; go_simp; first | done | (simp; done) | (simp [*]; done) | omega | (simp; omega) | rfl)
        simp only [Act.put, List.setIfInBounds_toArray, List.set_cons_zero, List.set_cons_succ]
        refine qw_run (v := .bool false) (by rfl) ?_ ?_
        · (intro w1 hC; clear hC; go_simp; first | done | (simp; done) | (simp [*]; done) | omega | (simp; omega) | rfl)
        simp only [Act.put, List.setIfInBounds_toArray, List.set_cons_zero, List.set_cons_succ]
        refine qw_run (v := .pointer (some ⟨B, 0, none⟩)) (by rfl) ?_ ?_
        · (intro w1 hC; clear hC; go_simp; first | done | (simp; done) | (simp [*]; done) | omega | (simp; omega) | rfl)
        simp only [Act.put, List.setIfInBounds_toArray, List.set_cons_zero, List.set_cons_succ]
        refine qw_run (v := .int .i64 (k : Int)) (by rfl) ?_ ?_
        · (intro w1 hC; clear hC; go_simp; first | done | (simp; done) | (simp [*]; done) | omega | (simp; omega) | rfl)
        simp only [Act.put, List.setIfInBounds_toArray, List.set_cons_zero, List.set_cons_succ]
        refine qw_call (v := .int .i64 qb) (f := 15) (args := #[.pointer (some ⟨B, 0, none⟩), .int .i64 (k : Int), .int .i64 1]) (by rfl) ?_ ?_ ?_
        · (intro w1 hC; clear hC; go_simp)
        · exact fun w1 hC => (Hk21.out w1 hC.1).mono fun e w' ⟨he, hb⟩ => ⟨he, Hc2.out _ _ hC hb⟩
        simp only [Act.put, List.setIfInBounds_toArray, List.set_cons_zero, List.set_cons_succ]
        refine qw_run (v := .pointer (some ⟨D, 0, none⟩)) (by rfl) ?_ ?_
        · (intro w1 hC; clear hC; go_simp; first | done | (simp; done) | (simp [*]; done) | omega | (simp; omega) | rfl)
        simp only [Act.put, List.setIfInBounds_toArray, List.set_cons_zero, List.set_cons_succ]
        refine qw_run (v := .int .i64 (k : Int)) (by rfl) ?_ ?_
        · (intro w1 hC; clear hC; go_simp; first | done | (simp; done) | (simp [*]; done) | omega | (simp; omega) | rfl)
        simp only [Act.put, List.setIfInBounds_toArray, List.set_cons_zero, List.set_cons_succ]
        refine qw_call (v := .int .i64 qb) (f := 16) (args := #[.pointer (some ⟨D, 0, none⟩), .int .i64 (k : Int), .int .i64 1]) (by rfl) ?_ ?_ ?_
        · (intro w1 hC; clear hC; go_simp)
        · exact fun w1 hC => (Hk31.out w1 hC.1).mono fun e w' ⟨he, hb⟩ => ⟨he, Hc2.out _ _ hC hb⟩
        simp only [Act.put, List.setIfInBounds_toArray, List.set_cons_zero, List.set_cons_succ]
        refine qw_run (v := .bool false) (by rfl) ?_ ?_
        · (intro w1 hC; clear hC; go_simp; first | done | (simp; done) | (simp [*]; done) | omega | (simp; omega) | rfl)
        simp only [Act.put, List.setIfInBounds_toArray, List.set_cons_zero, List.set_cons_succ]
        refine qw_run (v := .bool false) (by rfl) ?_ ?_
        · (intro w1 hC; clear hC; go_simp; first | done | (simp; done) | (simp [*]; done) | omega | (simp; omega) | rfl)
        simp only [Act.put, List.setIfInBounds_toArray, List.set_cons_zero, List.set_cons_succ]
        refine qw_nil ?_
        clear Hk20 Hk21 Hk30 Hk31 Hk1 Hc2 E1
        intro w6 hC
        have HC6 := hidR hC.1
        clear hC
        by_cases hk3 : (k : Int) < 300
        · have KA := Hk4.out w6 HC6.out
          go_wp2_with fail
          refine KA.mono ?_
          rintro e w7 ⟨rfl, hb⟩
          have HC7 := hidR (HC6.out.below hb)
          clear KA hb HC6
          have KA := Hk5.out w7 HC7.out
          go_wp2_with fail
          refine KA.mono ?_
          rintro e w8 ⟨rfl, hb⟩
          have HC8 := hidR (HC7.out.below hb)
          clear KA hb HC7
          have KA := Hk6.out w8 HC8.out
          go_wp2_with fail
          refine KA.mono ?_
          rintro e w9 ⟨rfl, hb⟩
          have HC9 := hidR (HC8.out.below hb)
          clear KA hb HC8
          have KA := Hk7.out w9 HC9.out
          go_wp2_with fail
          refine KA.mono ?_
          rintro e w10 ⟨rfl, hb⟩
          have HC10 := hidR (HC9.out.below hb)
          clear KA hb HC9
          go_wp2
          go_roundw
          case rel => exact ⟨k + 1, by omega, rfl, HC10⟩
          case measure => simp [intOf]; omega
        · go_wp2
          go_roundw
          case rel => exact ⟨k + 1, by omega, rfl, HC6⟩
          case measure => simp [intOf]; omega
      · have Hk1 := hidR (fun X (k1 : (CN8 w F (.slice ao l.length c) B g cap wg wc L ws D P Z gp cp gz cz) X) => thop_any B F g cap (.slice (some ⟨wg, 0, none⟩) ws.length wc) L n X k1.t.tn Hx.out.ok)
        have Hk1b := hidR (fun X (k1 : (CN8 w F (.slice ao l.length c) B g cap wg wc L ws D P Z gp cp gz cz) X) => rhop8_eq Hx.out Hd.out n X k1.d)
        have Hk2 := hidR (fun X (k1 : (CN8 w F (.slice ao l.length c) B g cap wg wc L ws D P Z gp cp gz cz) X) => tkid_any B F g cap (.slice (some ⟨wg, 0, none⟩) ws.length wc) L n bit X k1.t.tn Hx.out.ok (by have := Hx.out.len; omega))
        have Hk3 := hidR (fun X (k1 : (CN8 w F (.slice ao l.length c) B g cap wg wc L ws D P Z gp cp gz cz) X) => rkid8_eq Hx.out Hd.out n bit X k1.d)
        have Hk4 := hidR (fun X (k1 : (CN8 w F (.slice ao l.length c) B g cap wg wc L ws D P Z gp cp gz cz) X) => thei_any B F g cap (.slice (some ⟨wg, 0, none⟩) ws.length wc) L n X k1.t.tn Hx.out.ok)
        have Hk5 := hidR (fun X (k1 : (CN8 w F (.slice ao l.length c) B g cap wg wc L ws D P Z gp cp gz cz) X) => rheight8_eq Hx.out Hd.out n X k1.d)
        have Hk6 := hidR (fun X (k1 : (CN8 w F (.slice ao l.length c) B g cap wg wc L ws D P Z gp cp gz cz) X) => tcnt_any B F g cap (.slice (some ⟨wg, 0, none⟩) ws.length wc) L n X k1.t.tn Hx.out.ok)
        have Hk7 := hidR (fun X (k1 : (CN8 w F (.slice ao l.length c) B g cap wg wc L ws D P Z gp cp gz cz) X) => rcount8_eq Hx.out Hd.out n X k1.d)
        revert Hk1 Hk1b Hk2 Hk3 Hk4 Hk5 Hk6 Hk7
        generalize (ndAt L n).hop = hv
        generalize (ndAt L n).height = th
        generalize (ndAt L n).count = tc
        generalize kidV L n bit = qa
        intro Hk1 Hk1b Hk2 Hk3 Hk4 Hk5 Hk6 Hk7
        by_cases hn : 0 ≤ n ∧ n < L.length
        · obtain ⟨i, rfl⟩ : ∃ i : Nat, n = (i : Int) := ⟨n.toNat, by omega⟩
          have hiL : i < L.length := by omega
          have hiP : (i : Int) < (P.length : Int) := by have := Hpl.out; omega
          have KX := tat8_any Hx.out B g cap wg wc i _ HC.out.t hiL
          clear hn
          go_wp2_with fail
          refine KX.mono ?_
          rintro e w5 ⟨rfl, hb⟩
          have u0 := bl1 w5 (.cells #[.int .u64 (hI (pfA ws L i)), .int .u64 (lI (pfA ws L i)), .int .i64 (ln L i)] 39)
          have HC5 := hidR ((HC.out.below hb).below u0)
          clear KX hb HC p0 u0
          have p0 := HC5.out.d.ps
          have KA := Hk2.out _ HC5.out
          go_wp2_with fail
          refine KA.mono ?_
          rintro e w6 ⟨rfl, hb⟩
          have HC6 := hidR (HC5.out.below hb)
          clear KA hb HC5
          have KA := Hk3.out _ HC6.out
          go_wp2_with fail
          refine KA.mono ?_
          rintro e w7 ⟨rfl, hb⟩
          have HC7 := hidR (HC6.out.below hb)
          clear KA hb HC6
          have KA := Hk1.out _ HC7.out
          go_wp2_with fail
          refine KA.mono ?_
          rintro e w8 ⟨rfl, hb⟩
          have HC8 := hidR (HC7.out.below hb)
          clear KA hb HC7
          have KA := Hk1b.out _ HC8.out
          go_wp2_with fail
          refine KA.mono ?_
          rintro e w9 ⟨rfl, hb⟩
          have HC9 := hidR (HC8.out.below hb)
          clear KA hb HC8
          have KA := Hk4.out _ HC9.out
          go_wp2_with fail
          refine KA.mono ?_
          rintro e w10 ⟨rfl, hb⟩
          have HC10 := hidR (HC9.out.below hb)
          clear KA hb HC9
          have KA := Hk5.out _ HC10.out
          go_wp2_with fail
          refine KA.mono ?_
          rintro e w11 ⟨rfl, hb⟩
          have HC11 := hidR (HC10.out.below hb)
          clear KA hb HC10
          have KA := Hk6.out _ HC11.out
          go_wp2_with fail
          refine KA.mono ?_
          rintro e w12 ⟨rfl, hb⟩
          have HC12 := hidR (HC11.out.below hb)
          clear KA hb HC11
          have KA := Hk7.out _ HC12.out
          go_wp2_with fail
          refine KA.mono ?_
          rintro e w13 ⟨rfl, hb⟩
          have HC13 := hidR (HC12.out.below hb)
          clear KA hb HC12
          go_wp2
          exact bodyPost_ret (v := .bool true) (by first | (simp [results, Try.results3, go_sem]; done) | (simp [results, Try.results3, go_sem]; omega)) rfl ⟨rfl, HC13.out.b⟩
        · have KX := tat_out B F g cap (.slice (some ⟨wg, 0, none⟩) ws.length wc) L n _ HC.out.t.tn (by unfold isN; rw [Bool.and_eq_false_iff, decide_eq_false_iff_not, decide_eq_false_iff_not]; omega)
          have E0 : ∀ w, (Op.equalIn 10000 39 (.agg #[.int .u64 0, .int .u64 0, .int .i64 0]) (.agg #[.int .u64 0, .int .u64 0, .int .i64 0])).run Try.prog w = .ok true w := fun w => by have := HE.out 0#128 0 w; rwa [hI_zero, lI_zero] at this
          have u0 : ∀ w5 : World, Below w5.heap.size w5 (w5.alloc (.cells #[.int .u64 0, .int .u64 0, .int .i64 0] 39)) := fun w5 => bl1 w5 (.cells #[.int .u64 0, .int .u64 0, .int .i64 0] 39)
          have Hu0 := hidR u0
          clear u0
          by_cases hn0 : 0 ≤ n
          · have hnP : ¬ n < (P.length : Int) := by have := Hpl.out; omega
            clear hn
            go_wp2_with fail
            refine KX.mono ?_
            rintro e w5 ⟨rfl, hb⟩
            have HC5 := hidR ((HC.out.below hb).below (Hu0.out w5))
            clear KX hb HC p0 Hu0
            have p0 := HC5.out.d.ps
            have KA := Hk2.out _ HC5.out
            go_wp2_with fail
            refine KA.mono ?_
            rintro e w6 ⟨rfl, hb⟩
            have HC6 := hidR (HC5.out.below hb)
            clear KA hb HC5
            have KA := Hk3.out _ HC6.out
            go_wp2_with fail
            refine KA.mono ?_
            rintro e w7 ⟨rfl, hb⟩
            have HC7 := hidR (HC6.out.below hb)
            clear KA hb HC6
            have KA := Hk1.out _ HC7.out
            go_wp2_with fail
            refine KA.mono ?_
            rintro e w8 ⟨rfl, hb⟩
            have HC8 := hidR (HC7.out.below hb)
            clear KA hb HC7
            have KA := Hk1b.out _ HC8.out
            go_wp2_with fail
            refine KA.mono ?_
            rintro e w9 ⟨rfl, hb⟩
            have HC9 := hidR (HC8.out.below hb)
            clear KA hb HC8
            have KA := Hk4.out _ HC9.out
            go_wp2_with fail
            refine KA.mono ?_
            rintro e w10 ⟨rfl, hb⟩
            have HC10 := hidR (HC9.out.below hb)
            clear KA hb HC9
            have KA := Hk5.out _ HC10.out
            go_wp2_with fail
            refine KA.mono ?_
            rintro e w11 ⟨rfl, hb⟩
            have HC11 := hidR (HC10.out.below hb)
            clear KA hb HC10
            have KA := Hk6.out _ HC11.out
            go_wp2_with fail
            refine KA.mono ?_
            rintro e w12 ⟨rfl, hb⟩
            have HC12 := hidR (HC11.out.below hb)
            clear KA hb HC11
            have KA := Hk7.out _ HC12.out
            go_wp2_with fail
            refine KA.mono ?_
            rintro e w13 ⟨rfl, hb⟩
            have HC13 := hidR (HC12.out.below hb)
            clear KA hb HC12
            go_wp2
            exact bodyPost_ret (v := .bool true) (by first | (simp [results, Try.results3, go_sem]; done) | (simp [results, Try.results3, go_sem]; omega)) rfl ⟨rfl, HC13.out.b⟩
          · clear hn
            go_wp2_with fail
            refine KX.mono ?_
            rintro e w5 ⟨rfl, hb⟩
            have HC5 := hidR ((HC.out.below hb).below (Hu0.out w5))
            clear KX hb HC p0 Hu0
            have KA := Hk2.out _ HC5.out
            go_wp2_with fail
            refine KA.mono ?_
            rintro e w6 ⟨rfl, hb⟩
            have HC6 := hidR (HC5.out.below hb)
            clear KA hb HC5
            have KA := Hk3.out _ HC6.out
            go_wp2_with fail
            refine KA.mono ?_
            rintro e w7 ⟨rfl, hb⟩
            have HC7 := hidR (HC6.out.below hb)
            clear KA hb HC6
            have KA := Hk1.out _ HC7.out
            go_wp2_with fail
            refine KA.mono ?_
            rintro e w8 ⟨rfl, hb⟩
            have HC8 := hidR (HC7.out.below hb)
            clear KA hb HC7
            have KA := Hk1b.out _ HC8.out
            go_wp2_with fail
            refine KA.mono ?_
            rintro e w9 ⟨rfl, hb⟩
            have HC9 := hidR (HC8.out.below hb)
            clear KA hb HC8
            have KA := Hk4.out _ HC9.out
            go_wp2_with fail
            refine KA.mono ?_
            rintro e w10 ⟨rfl, hb⟩
            have HC10 := hidR (HC9.out.below hb)
            clear KA hb HC9
            have KA := Hk5.out _ HC10.out
            go_wp2_with fail
            refine KA.mono ?_
            rintro e w11 ⟨rfl, hb⟩
            have HC11 := hidR (HC10.out.below hb)
            clear KA hb HC10
            have KA := Hk6.out _ HC11.out
            go_wp2_with fail
            refine KA.mono ?_
            rintro e w12 ⟨rfl, hb⟩
            have HC12 := hidR (HC11.out.below hb)
            clear KA hb HC11
            have KA := Hk7.out _ HC12.out
            go_wp2_with fail
            refine KA.mono ?_
            rintro e w13 ⟨rfl, hb⟩
            have HC13 := hidR (HC12.out.below hb)
            clear KA hb HC12
            go_wp2
            exact bodyPost_ret (v := .bool true) (by first | (simp [results, Try.results3, go_sem]; done) | (simp [results, Try.results3, go_sem]; omega)) rfl ⟨rfl, HC13.out.b⟩
end Go.Proofs.Ytoejhhoniflpeaa
/-
  How a prefix that is handed in reads as data.
-/
namespace Go.Proofs.Ytoejhhoniflpeaa
open Go.ChangeShapes Go.WideShapes Go.ChangeAt Go.RowKit Go.Joins
set_option linter.unusedSimpArgs false
set_option linter.unusedVariables false

theorem Try.cellsW : Try.prog.cellsOf 37 = 2 := by kernel_rfl
theorem Try.cellsP : Try.prog.cellsOf 39 = 3 := by kernel_rfl
theorem Try.cellsI : Try.prog.cellsOf 3 = 1 := by kernel_rfl
theorem Try.cellsU : Try.prog.cellsOf 35 = 1 := by kernel_rfl
section
variable {H : Type} {enc : TypeId × Value → H} {w : World} {base : Nat} {spare : Nat → Bool} {held : Bool}
set_option maxRecDepth 100000 in
theorem open_pfx {r : Reach} {b0 : Nat} {v : Value} {d : DataW H} {p : List MemPlace} (hv : Value.okWide Try.prog w r b0 39 v) (h : DataW.Trod enc Try.prog w base spare held 39 v d p) :
    ∃ a b n : Int, v = .agg #[.int .u64 a, .int .u64 b, .int .i64 n] ∧ d = .agg [.agg [.lit (.int .u64 a), .lit (.int .u64 b)], .lit (.int .i64 n)] ∧ p = [] ∧ (Lit.int .u64 a).wf = true ∧ (Lit.int .u64 b).wf = true ∧ (Lit.int .i64 n).wf = true := by
  obtain ⟨cs, rfl, hsz⟩ := okWide_struct Try.underlying39 hv
  obtain ⟨c0, c1, c2, rfl⟩ := array3 (hsz.trans Try.cellsP)
  obtain ⟨fuel, hf⟩ := h
  obtain ⟨y0, y1, n, hx, _, h0, h1⟩ := trod_struct2 Try.underlying39 hf
  have h0' : DataW.trod enc Try.prog w base spare held n 37 [c0, c1] = some y0 := by simpa [Value.cells, Try.cellsW] using h0
  have h1' : DataW.trod enc Try.prog w base spare held n 3 [c2] = some y1 := by simpa [Value.cells, Try.cellsI] using h1
  obtain ⟨u0, u1, m, hu, _, g0, g1⟩ := trod_struct2 Try.underlying37 h0'
  have g0' : DataW.trod enc Try.prog w base spare held m 35 [c0] = some u0 := by simpa [Value.cells, Try.cellsU] using g0
  have g1' : DataW.trod enc Try.prog w base spare held m 35 [c1] = some u1 := by simpa [Value.cells, Try.cellsU] using g1
  obtain ⟨a, ea, rfl, wa⟩ := DataW.trod_int Try.underlying35 g0'
  obtain ⟨b, eb, rfl, wb⟩ := DataW.trod_int Try.underlying35 g1'
  obtain ⟨k, ek, rfl, wk⟩ := DataW.trod_int Try.underlying3 h1'
  simp at ea eb ek
  subst ea eb ek hu
  simp only [Prod.mk.injEq] at hx
  exact ⟨a, b, k, rfl, hx.1, by simpa using hx.2, wa, wb, wk⟩
set_option maxRecDepth 100000 in
theorem shut_pfx {a b n : Int} (wa : (Lit.int .u64 a).wf = true) (wb : (Lit.int .u64 b).wf = true) (wn : (Lit.int .i64 n).wf = true) :
    DataW.Trod enc Try.prog w base spare held 39 (.agg #[.int .u64 a, .int .u64 b, .int .i64 n]) (.agg [.agg [.lit (.int .u64 a), .lit (.int .u64 b)], .lit (.int .i64 n)]) [] := by
  have f : ∀ {z : Int}, (Lit.int .u64 z).wf = true → DataW.trod enc Try.prog w base spare held 1 35 [.int .u64 z] = some (.lit (.int .u64 z), []) := fun hz => by simp [DataW.trod, Try.underlying35, hz]
  have g : DataW.trod enc Try.prog w base spare held 2 3 [.int .i64 n] = some (.lit (.int .i64 n), []) := by simp [DataW.trod, Try.underlying3, wn]
  have s : DataW.trod enc Try.prog w base spare held 2 37 [.int .u64 a, .int .u64 b] = some (.agg [.lit (.int .u64 a), .lit (.int .u64 b)], []) := by
    have := trod_struct2_mk (enc := enc) (w := w) (base := base) (spare := spare) (held := held) (n := 1) (cs := [.int .u64 a, .int .u64 b]) Try.underlying37 (by simp [Try.cellsW]) (by simpa [Try.cellsU] using f wa) (by simpa [Try.cellsU] using f wb)
    simpa using this
  have := trod_struct2_mk (enc := enc) (w := w) (base := base) (spare := spare) (held := held) (n := 2) (cs := [.int .u64 a, .int .u64 b, .int .i64 n]) Try.underlying39 (by simp [Try.cellsP]) (by simpa [Try.cellsW] using s) (by simpa [Try.cellsI] using g)
  exact ⟨3, by simpa [Value.cells] using this⟩
end
end Go.Proofs.Ytoejhhoniflpeaa
