/-
  Part 17 of the proof: 1 texts, one behind the other.
-/
import Derived.Test.YthichmlcfoafpaaDoorPart9
import Derived.Test.YthichmlcfoafpaaDoorPart16
import Derived.Test.YthichmlcfoafpaaDoorPart4
/-
  The law PrefixHalves, walked.
-/
namespace Go.Proofs.YthichmlcfoafpaaDoor
open Go.RowKit
set_option linter.unusedSimpArgs false
set_option linter.unusedVariables false

def H3 (w : World) (p a b : Nat) (X : BitVec 128) (N : Int) (Y : BitVec 128) (M : Int) (W : World) : Prop := AtP W p X N ∧ AtP W a X M ∧ AtP W b Y M ∧ Below w.heap.size w W
theorem H3.keep {w W W' : World} {p a b : Nat} {X Y : BitVec 128} {N M : Int} (h : H3 w p a b X N Y M W) (hb : Below W.heap.size W W') : H3 w p a b X N Y M W' := ⟨h.1.below hb, h.2.1.below hb, h.2.2.1.below hb, keepb hb h.2.2.2⟩
theorem H3.drew {w W : World} {p a b : Nat} {X Y : BitVec 128} {N M : Int} (h : H3 w p a b X N Y M W) : H3 w p a b X N Y M W.drew := ⟨h.1, h.2.1, h.2.2.1, h.2.2.2.drew⟩
def H8 (w : World) (p a b c x y s t : Nat) (X : BitVec 128) (N : Int) (Y : BitVec 128) (M : Int) (W : World) : Prop := H3 w p a b X N Y M W ∧ At W c Y ∧ AtP W x X N ∧ AtP W y X N ∧ AtP W s Y M ∧ AtP W t X M
theorem H8.keep {w W W' : World} {p a b c x y s t : Nat} {X Y : BitVec 128} {N M : Int} (h : H8 w p a b c x y s t X N Y M W) (hb : Below W.heap.size W W') : H8 w p a b c x y s t X N Y M W' := ⟨h.1.keep hb, h.2.1.below hb, h.2.2.1.below hb, h.2.2.2.1.below hb, h.2.2.2.2.1.below hb, h.2.2.2.2.2.below hb⟩

set_option maxHeartbeats 8000000 in
set_option maxRecDepth 20000 in
theorem prefixHalves_any (six : Bool) (v : BitVec 128) (n : Int) (w : World) (hP : Pow w) :
    Calls Tryd.prog 6 #[.bool six, .agg #[.int .u64 (hI v), .int .u64 (lI v)], .int .i64 n] w fun e w' => e = .returned (.bool true) ∧ Below w.heap.size w w' := by
  have KF := fun w => family3_any six w
  obtain ⟨f0, f1⟩ := famZ_bd six
  have ff := famZ_fam six
  generalize famZ six = F at *
  have KS := fun w => some_any F v n w (by omega) (by omega)
  have rt := some_rt F v n (by omega)
  generalize someW F v n = X at *
  generalize n % (F + 1) = N at *
  have V := at_new w w.heap.size v 24 rfl
  have kB := bl1 w (.cells #[.int .u64 (hI v), .int .u64 (lI v)] 24)
  have KN := known3_any _ (hP.keep kB)
  clear hP
  by_cases hN : N = F
  · have KK := fun w => kids_no F X N w (by omega)
    have hd : (N == F) = true := by simp [hN]
    clear rt ff f0 f1 hN
    go_enter Tryd.func6, Tryd.ntmps6
    go_wp2_with fail
    refine KN.mono ?_
    rintro e w0 ⟨rfl, hb⟩
    have V := V.below hb
    have kB := keepb hb kB
    clear hb KN
    obtain ⟨v0, v1, -, -, -⟩ := id V
    go_wp2_with fail
    refine (KF _).mono ?_
    rintro e w9 ⟨rfl, rfl⟩
    go_wp2_with fail
    refine (KS _).mono ?_
    rintro e w1 ⟨rfl, hb⟩
    have hA := bl1 w1 (.cells #[.int .u64 (hI X), .int .u64 (lI X), .int .i64 N] 27)
    have P := atp_new w1 w1.heap.size X N 27 rfl
    have kB := keepb hA (keepb hb kB)
    clear hb hA KS v0 v1 V KF
    obtain ⟨p0, p1, p2, -, -, -⟩ := id P
    go_wp2_with fail
    refine (KK _).mono ?_
    rintro e w2 ⟨rfl, hb⟩
    have hA := keepb (bl1 w2 (.cells #[.int .u64 0, .int .u64 0, .int .i64 0] 27)) hb
    have hA := hA.alloc hA.size (.cells #[.int .u64 0, .int .u64 0, .int .i64 0] 27)
    have P := P.below hA
    have kB := keepb hA kB
    clear hb hA KK p0 p1 p2
    obtain ⟨p0, p1, p2, -, -, -⟩ := id P
    go_wp2
    go_ret
    exact ⟨rfl, kB⟩
  · have hlt : N < F := by have := rt.2.1; omega
    have h0 := rt.1
    have KK := fun w => pkids_any F X N w h0 (by omega)
    rw [show kidL F X N = X by unfold kidL; rw [if_neg (by omega)], show kidH F X N = X ||| bit1 N by unfold kidH; rw [if_neg (by omega)], show kidN F N = N + 1 by unfold kidN; rw [if_neg (by omega)], show decide (N < F) = true by simpa using hlt] at KK
    have KLb := fun w => plast_any F (X ||| bit1 N) (N + 1) w
    rw [kid_last F X N rt hlt f1] at KLb
    have KLp := fun w => plast_any F X N w
    have KLa := fun w => plast_any F X (N + 1) w
    have KPt := fun w => put0K (F - 1) w (by omega) (by omega)
    have KAd := fun w => radd_any (lastW F X (N + 1)) (putW 0#128 (F - 1) 1) w
    rw [(kid_next F X N rt hlt ff).1, (kid_next F X N rt hlt ff).2] at KAd
    have KPa := fun w => pparent_any X (N + 1) w (by omega) (by omega)
    rw [(kid_upL F X N rt).1, (kid_upL F X N rt).2, show decide (0 < N + 1) = true by simp; omega] at KPa
    have KPb := fun w => pparent_any (X ||| bit1 N) (N + 1) w (by omega) (by omega)
    rw [kid_upH F X N rt hlt f1, (kid_upL F X N rt).2, show decide (0 < N + 1) = true by simp; omega] at KPb
    have KSa := fun w => psib_any X (N + 1) w (by omega) (by omega)
    rw [(kid_sibL F X N rt hlt f1).1, (kid_sibL F X N rt hlt f1).2, show decide (0 < N + 1) = true by simp; omega] at KSa
    have KSb := fun w => psib_any (X ||| bit1 N) (N + 1) w (by omega) (by omega)
    rw [kid_sibH F X N rt hlt f1, (kid_sibL F X N rt hlt f1).2, show decide (0 < N + 1) = true by simp; omega] at KSb
    have KC1 := fun w => pcmp_any X N X (N + 1) w
    rw [kid_cmpL F X N] at KC1
    have KC2 := fun w => pcmp_any X (N + 1) (X ||| bit1 N) (N + 1) w
    rw [kid_cmpH F X N rt hlt f1] at KC2
    have hd : (N == F) = false := by simpa using hN
    have hfw : IntKind.i64.wrap (F - 1) = F - 1 := by rw [IntKind.wrap_i64]; omega
    clear rt ff f0 f1 hN hlt h0
    generalize X ||| bit1 N = Y at *
    generalize lastW F X (N + 1) = La at *
    generalize lastW F X N = Lp at *
    generalize putW 0#128 (F - 1) 1 = S at *
    generalize N + 1 = M at *
    go_enter Tryd.func6, Tryd.ntmps6
    go_wp2_with fail
    refine KN.mono ?_
    rintro e w0 ⟨rfl, hb⟩
    have V := V.below hb
    have kB := keepb hb kB
    clear hb KN
    obtain ⟨v0, v1, -, -, -⟩ := id V
    go_wp2_with fail
    refine (KF _).mono ?_
    rintro e w9 ⟨rfl, rfl⟩
    go_wp2_with fail
    refine (KS _).mono ?_
    rintro e w1 ⟨rfl, hb⟩
    have hA := bl1 w1 (.cells #[.int .u64 (hI X), .int .u64 (lI X), .int .i64 N] 27)
    have P := atp_new w1 w1.heap.size X N 27 rfl
    have kB := keepb hA (keepb hb kB)
    clear hb hA KS v0 v1 V KF
    obtain ⟨p0, p1, p2, -, -, -⟩ := id P
    go_wp2_with fail
    refine (KK _).mono ?_
    rintro e w2 ⟨rfl, hb⟩
    have A := (atp_new w2 w2.heap.size X M 27 rfl).below (bl1 _ (.cells #[.int .u64 (hI Y), .int .u64 (lI Y), .int .i64 M] 27))
    have B := atp_new (w2.alloc (.cells #[.int .u64 (hI X), .int .u64 (lI X), .int .i64 M] 27)) (w2.heap.size + 1) Y M 27 (by simp)
    have hA := keepb (bl1 w2 (.cells #[.int .u64 (hI X), .int .u64 (lI X), .int .i64 M] 27)) hb
    have hA := hA.alloc hA.size (.cells #[.int .u64 (hI Y), .int .u64 (lI Y), .int .i64 M] 27)
    have P := P.below hA
    have kB := keepb hA kB
    clear hb hA KK p0 p1 p2
    obtain ⟨p0, p1, p2, -, -, -⟩ := id P
    go_wp2_with fail
    have hC : H3 w w1.heap.size w2.heap.size (w2.heap.size + 1) X N Y M ((w2.alloc (.cells #[.int .u64 (hI X), .int .u64 (lI X), .int .i64 M] 27)).alloc (.cells #[.int .u64 (hI Y), .int .u64 (lI Y), .int .i64 M] 27)).drew := H3.drew ⟨P, A, B, kB⟩
    clear P A B kB p0 p1 p2
    refine q_region (C := H3 w w1.heap.size w2.heap.size (w2.heap.size + 1) X N Y M) (by kernel_rfl) (by kernel_rfl) hC ?_
    clear hC
    refine q_run (v := .bool true) (by rfl) ?_ ?_
    · (intro w1 hC; obtain ⟨⟨p0, p1, p2, -, -, -⟩, ⟨q0, q1, q2, -, -, -⟩, ⟨r0, r1, r2, -, -, -⟩, -⟩ := hC; go_simp; first | done | (simp; done) | (simp [*]; done) | omega | (simp; omega) | (rw [IntKind.wrap_i64]; omega) | (intro hx; omega) | rfl)
    simp only [Act.put, List.setIfInBounds_toArray, List.set_cons_zero, List.set_cons_succ]
    refine q_run (v := .bool false) (by rfl) ?_ ?_
    · (intro w1 hC; obtain ⟨⟨p0, p1, p2, -, -, -⟩, ⟨q0, q1, q2, -, -, -⟩, ⟨r0, r1, r2, -, -, -⟩, -⟩ := hC; go_simp; first | done | (simp; done) | (simp [*]; done) | omega | (simp; omega) | (rw [IntKind.wrap_i64]; omega) | (intro hx; omega) | rfl)
    simp only [Act.put, List.setIfInBounds_toArray, List.set_cons_zero, List.set_cons_succ]
    refine q_run (v := .bool false) (by rfl) ?_ ?_
    · (intro w1 hC; obtain ⟨⟨p0, p1, p2, -, -, -⟩, ⟨q0, q1, q2, -, -, -⟩, ⟨r0, r1, r2, -, -, -⟩, -⟩ := hC; go_simp; first | done | (simp; done) | (simp [*]; done) | omega | (simp; omega) | (rw [IntKind.wrap_i64]; omega) | (intro hx; omega) | rfl)
    simp only [Act.put, List.setIfInBounds_toArray, List.set_cons_zero, List.set_cons_succ]
    refine q_run (v := .agg #[.int .u64 (hI X), .int .u64 (lI X), .int .i64 (M)]) (by rfl) ?_ ?_
    · (intro w1 hC; obtain ⟨⟨p0, p1, p2, -, -, -⟩, ⟨q0, q1, q2, -, -, -⟩, ⟨r0, r1, r2, -, -, -⟩, -⟩ := hC; go_simp; first | done | (simp; done) | (simp [*]; done) | omega | (simp; omega) | (rw [IntKind.wrap_i64]; omega) | (intro hx; omega) | rfl)
    simp only [Act.put, List.setIfInBounds_toArray, List.set_cons_zero, List.set_cons_succ]
    refine q_call (v := .agg #[.int .u64 (hI X), .int .u64 (lI X)]) (f := 24) (args := #[.agg #[.int .u64 (hI X), .int .u64 (lI X), .int .i64 (M)]]) (by rfl) ?_ ?_ ?_
    · (intro w1 hC; clear hC; go_simp)
    · exact fun w1 hC => (pfirst_any X M w1).mono fun e w' ⟨he, hb⟩ => ⟨he, hC.keep hb⟩
    simp only [Act.put, List.setIfInBounds_toArray, List.set_cons_zero, List.set_cons_succ]
    refine q_run (v := .agg #[.int .u64 (hI X), .int .u64 (lI X), .int .i64 (N)]) (by rfl) ?_ ?_
    · (intro w1 hC; obtain ⟨⟨p0, p1, p2, -, -, -⟩, ⟨q0, q1, q2, -, -, -⟩, ⟨r0, r1, r2, -, -, -⟩, -⟩ := hC; go_simp; first | done | (simp; done) | (simp [*]; done) | omega | (simp; omega) | (rw [IntKind.wrap_i64]; omega) | (intro hx; omega) | rfl)
    simp only [Act.put, List.setIfInBounds_toArray, List.set_cons_zero, List.set_cons_succ]
    refine q_call (v := .agg #[.int .u64 (hI X), .int .u64 (lI X)]) (f := 24) (args := #[.agg #[.int .u64 (hI X), .int .u64 (lI X), .int .i64 (N)]]) (by rfl) ?_ ?_ ?_
    · (intro w1 hC; clear hC; go_simp)
    · exact fun w1 hC => (pfirst_any X N w1).mono fun e w' ⟨he, hb⟩ => ⟨he, hC.keep hb⟩
    simp only [Act.put, List.setIfInBounds_toArray, List.set_cons_zero, List.set_cons_succ]
    refine q_run (v := .bool false) (by rfl) ?_ ?_
    · (intro w1 hC; obtain ⟨⟨p0, p1, p2, -, -, -⟩, ⟨q0, q1, q2, -, -, -⟩, ⟨r0, r1, r2, -, -, -⟩, -⟩ := hC; go_simp; first | done | (simp; done) | (simp [*]; done) | omega | (simp; omega) | (rw [IntKind.wrap_i64]; omega) | (intro hx; omega) | rfl)
    simp only [Act.put, List.setIfInBounds_toArray, List.set_cons_zero, List.set_cons_succ]
    refine q_run (v := .bool false) (by rfl) ?_ ?_
    · (intro w1 hC; obtain ⟨⟨p0, p1, p2, -, -, -⟩, ⟨q0, q1, q2, -, -, -⟩, ⟨r0, r1, r2, -, -, -⟩, -⟩ := hC; go_simp; first | done | (simp; done) | (simp [*]; done) | omega | (simp; omega) | (rw [IntKind.wrap_i64]; omega) | (intro hx; omega) | rfl)
    simp only [Act.put, List.setIfInBounds_toArray, List.set_cons_zero, List.set_cons_succ]
    refine q_run (v := .bool false) (by rfl) ?_ ?_
    · (intro w1 hC; obtain ⟨⟨p0, p1, p2, -, -, -⟩, ⟨q0, q1, q2, -, -, -⟩, ⟨r0, r1, r2, -, -, -⟩, -⟩ := hC; go_simp; first | done | (simp; done) | (simp [*]; done) | omega | (simp; omega) | (rw [IntKind.wrap_i64]; omega) | (intro hx; omega) | rfl)
    simp only [Act.put, List.setIfInBounds_toArray, List.set_cons_zero, List.set_cons_succ]
    refine q_run (v := .int .i64 (F)) (by rfl) ?_ ?_
    · (intro w1 hC; obtain ⟨⟨p0, p1, p2, -, -, -⟩, ⟨q0, q1, q2, -, -, -⟩, ⟨r0, r1, r2, -, -, -⟩, -⟩ := hC; go_simp; first | done | (simp; done) | (simp [*]; done) | omega | (simp; omega) | (rw [IntKind.wrap_i64]; omega) | (intro hx; omega) | rfl)
    simp only [Act.put, List.setIfInBounds_toArray, List.set_cons_zero, List.set_cons_succ]
    refine q_run (v := .agg #[.int .u64 (hI Y), .int .u64 (lI Y), .int .i64 (M)]) (by rfl) ?_ ?_
    · (intro w1 hC; obtain ⟨⟨p0, p1, p2, -, -, -⟩, ⟨q0, q1, q2, -, -, -⟩, ⟨r0, r1, r2, -, -, -⟩, -⟩ := hC; go_simp; first | done | (simp; done) | (simp [*]; done) | omega | (simp; omega) | (rw [IntKind.wrap_i64]; omega) | (intro hx; omega) | rfl)
    simp only [Act.put, List.setIfInBounds_toArray, List.set_cons_zero, List.set_cons_succ]
    refine q_call (v := .agg #[.int .u64 (hI Lp), .int .u64 (lI Lp)]) (f := 25) (args := #[.int .i64 (F), .agg #[.int .u64 (hI Y), .int .u64 (lI Y), .int .i64 (M)]]) (by rfl) ?_ ?_ ?_
    · (intro w1 hC; clear hC; go_simp)
    · exact fun w1 hC => (KLb w1).mono fun e w' ⟨he, hb⟩ => ⟨he, hC.keep hb⟩
    simp only [Act.put, List.setIfInBounds_toArray, List.set_cons_zero, List.set_cons_succ]
    refine q_run (v := .int .i64 (F)) (by rfl) ?_ ?_
    · (intro w1 hC; obtain ⟨⟨p0, p1, p2, -, -, -⟩, ⟨q0, q1, q2, -, -, -⟩, ⟨r0, r1, r2, -, -, -⟩, -⟩ := hC; go_simp; first | done | (simp; done) | (simp [*]; done) | omega | (simp; omega) | (rw [IntKind.wrap_i64]; omega) | (intro hx; omega) | rfl)
    simp only [Act.put, List.setIfInBounds_toArray, List.set_cons_zero, List.set_cons_succ]
    refine q_run (v := .agg #[.int .u64 (hI X), .int .u64 (lI X), .int .i64 (N)]) (by rfl) ?_ ?_
    · (intro w1 hC; obtain ⟨⟨p0, p1, p2, -, -, -⟩, ⟨q0, q1, q2, -, -, -⟩, ⟨r0, r1, r2, -, -, -⟩, -⟩ := hC; go_simp; first | done | (simp; done) | (simp [*]; done) | omega | (simp; omega) | (rw [IntKind.wrap_i64]; omega) | (intro hx; omega) | rfl)
    simp only [Act.put, List.setIfInBounds_toArray, List.set_cons_zero, List.set_cons_succ]
    refine q_call (v := .agg #[.int .u64 (hI Lp), .int .u64 (lI Lp)]) (f := 25) (args := #[.int .i64 (F), .agg #[.int .u64 (hI X), .int .u64 (lI X), .int .i64 (N)]]) (by rfl) ?_ ?_ ?_
    · (intro w1 hC; clear hC; go_simp)
    · exact fun w1 hC => (KLp w1).mono fun e w' ⟨he, hb⟩ => ⟨he, hC.keep hb⟩
    simp only [Act.put, List.setIfInBounds_toArray, List.set_cons_zero, List.set_cons_succ]
    refine q_run (v := .bool false) (by rfl) ?_ ?_
    · (intro w1 hC; obtain ⟨⟨p0, p1, p2, -, -, -⟩, ⟨q0, q1, q2, -, -, -⟩, ⟨r0, r1, r2, -, -, -⟩, -⟩ := hC; go_simp; first | done | (simp; done) | (simp [*]; done) | omega | (simp; omega) | (rw [IntKind.wrap_i64]; omega) | (intro hx; omega) | rfl)
    simp only [Act.put, List.setIfInBounds_toArray, List.set_cons_zero, List.set_cons_succ]
    refine q_run (v := .bool false) (by rfl) ?_ ?_
    · (intro w1 hC; obtain ⟨⟨p0, p1, p2, -, -, -⟩, ⟨q0, q1, q2, -, -, -⟩, ⟨r0, r1, r2, -, -, -⟩, -⟩ := hC; go_simp; first | done | (simp; done) | (simp [*]; done) | omega | (simp; omega) | (rw [IntKind.wrap_i64]; omega) | (intro hx; omega) | rfl)
    simp only [Act.put, List.setIfInBounds_toArray, List.set_cons_zero, List.set_cons_succ]
    refine wpQuiet_nil ?_
    intro W8 hC
    clear KLb KLp
    obtain ⟨⟨p0, p1, p2, -, -, -⟩, ⟨q0, q1, q2, -, -, -⟩, ⟨r0, r1, r2, -, -, -⟩, -⟩ := id hC
    go_wp2_with fail
    refine (KLa _).mono ?_
    rintro e W9 ⟨rfl, hb⟩
    replace hC := hC.keep hb
    clear hb KLa p0 p1 p2 q0 q1 q2 r0 r1 r2
    go_wp2_with fail
    refine (KPt _).mono ?_
    rintro e W10 ⟨rfl, hb⟩
    replace hC := hC.keep hb
    clear hb KPt
    go_wp2_with fail
    refine (KAd _).mono ?_
    rintro e W11 ⟨rfl, hb⟩
    have hA := keepb (bl1 W11 (.cells #[.int .u64 (hI Y), .int .u64 (lI Y)] 24)) hb
    have Z := at_new W11 W11.heap.size Y 24 rfl
    replace hC := hC.keep hA
    clear hb hA KAd
    obtain ⟨⟨p0, p1, p2, -, -, -⟩, ⟨q0, q1, q2, -, -, -⟩, ⟨r0, r1, r2, -, -, -⟩, -⟩ := id hC
    go_wp2_with fail
    refine (KPa _).mono ?_
    rintro e W12 ⟨rfl, hb⟩
    have hA := keepb (bl1 W12 (.cells #[.int .u64 (hI X), .int .u64 (lI X), .int .i64 N] 27)) hb
    replace hC := hC.keep hA
    have Z := Z.below hA
    have PA := atp_new W12 W12.heap.size X N 27 rfl
    clear hb hA KPa p0 p1 p2 q0 q1 q2 r0 r1 r2
    obtain ⟨⟨p0, p1, p2, -, -, -⟩, ⟨q0, q1, q2, -, -, -⟩, ⟨r0, r1, r2, -, -, -⟩, -⟩ := id hC
    go_wp2_with fail
    refine (KPb _).mono ?_
    rintro e W13 ⟨rfl, hb⟩
    have hA := keepb (bl1 W13 (.cells #[.int .u64 (hI X), .int .u64 (lI X), .int .i64 N] 27)) hb
    replace hC := hC.keep hA
    have Z := Z.below hA
    have PA := PA.below hA
    have PB := atp_new W13 W13.heap.size X N 27 rfl
    clear hb hA KPb p0 p1 p2 q0 q1 q2 r0 r1 r2
    obtain ⟨⟨p0, p1, p2, -, -, -⟩, ⟨q0, q1, q2, -, -, -⟩, ⟨r0, r1, r2, -, -, -⟩, -⟩ := id hC
    go_wp2_with fail
    refine (KSa _).mono ?_
    rintro e W14 ⟨rfl, hb⟩
    have hA := keepb (bl1 W14 (.cells #[.int .u64 (hI Y), .int .u64 (lI Y), .int .i64 M] 27)) hb
    replace hC := hC.keep hA
    have Z := Z.below hA
    have PA := PA.below hA
    have PB := PB.below hA
    have SA := atp_new W14 W14.heap.size Y M 27 rfl
    clear hb hA KSa p0 p1 p2 q0 q1 q2 r0 r1 r2
    obtain ⟨⟨p0, p1, p2, -, -, -⟩, ⟨q0, q1, q2, -, -, -⟩, ⟨r0, r1, r2, -, -, -⟩, -⟩ := id hC
    go_wp2_with fail
    refine (KSb _).mono ?_
    rintro e W15 ⟨rfl, hb⟩
    have hA := keepb (bl1 W15 (.cells #[.int .u64 (hI X), .int .u64 (lI X), .int .i64 M] 27)) hb
    replace hC := hC.keep hA
    have Z := Z.below hA
    have PA := PA.below hA
    have PB := PB.below hA
    have SA := SA.below hA
    have SB := atp_new W15 W15.heap.size X M 27 rfl
    clear hb hA KSb p0 p1 p2 q0 q1 q2 r0 r1 r2
    obtain ⟨⟨p0, p1, p2, -, -, -⟩, ⟨q0, q1, q2, -, -, -⟩, ⟨r0, r1, r2, -, -, -⟩, -⟩ := id hC
    go_wp2_with fail
    have hD : H8 w w1.heap.size w2.heap.size (w2.heap.size + 1) W11.heap.size W12.heap.size W13.heap.size W14.heap.size W15.heap.size X N Y M (W15.alloc (.cells #[.int .u64 (hI X), .int .u64 (lI X), .int .i64 M] 27)).drew := ⟨hC.drew, Z, PA, PB, SA, SB⟩
    clear hC Z PA PB SA SB p0 p1 p2 q0 q1 q2 r0 r1 r2
    refine q_region (C := H8 w w1.heap.size w2.heap.size (w2.heap.size + 1) W11.heap.size W12.heap.size W13.heap.size W14.heap.size W15.heap.size X N Y M) (by kernel_rfl) (by kernel_rfl) hD ?_
    clear hD
    refine q_run (v := .bool false) (by rfl) ?_ ?_
    · (intro w1 hC; obtain ⟨⟨⟨p0, p1, p2, -, -, -⟩, ⟨q0, q1, q2, -, -, -⟩, ⟨r0, r1, r2, -, -, -⟩, -⟩, ⟨c0, c1, -, -, -⟩, ⟨x0, x1, x2, -, -, -⟩, ⟨y0, y1, y2, -, -, -⟩, ⟨s0, s1, s2, -, -, -⟩, ⟨t0, t1, t2, -, -, -⟩⟩ := hC; go_simp; first | done | (simp; done) | (simp [*]; done) | omega | (simp; omega) | (rw [IntKind.wrap_i64]; omega) | (intro hx; omega) | rfl)
    simp only [Act.put, List.setIfInBounds_toArray, List.set_cons_zero, List.set_cons_succ]
    refine q_run (v := .bool true) (by rfl) ?_ ?_
    · (intro w1 hC; obtain ⟨⟨⟨p0, p1, p2, -, -, -⟩, ⟨q0, q1, q2, -, -, -⟩, ⟨r0, r1, r2, -, -, -⟩, -⟩, ⟨c0, c1, -, -, -⟩, ⟨x0, x1, x2, -, -, -⟩, ⟨y0, y1, y2, -, -, -⟩, ⟨s0, s1, s2, -, -, -⟩, ⟨t0, t1, t2, -, -, -⟩⟩ := hC; go_simp; first | done | (simp; done) | (simp [*]; done) | omega | (simp; omega) | (rw [IntKind.wrap_i64]; omega) | (intro hx; omega) | rfl)
    simp only [Act.put, List.setIfInBounds_toArray, List.set_cons_zero, List.set_cons_succ]
    refine q_run (v := .bool true) (by rfl) ?_ ?_
    · (intro w1 hC; obtain ⟨⟨⟨p0, p1, p2, -, -, -⟩, ⟨q0, q1, q2, -, -, -⟩, ⟨r0, r1, r2, -, -, -⟩, -⟩, ⟨c0, c1, -, -, -⟩, ⟨x0, x1, x2, -, -, -⟩, ⟨y0, y1, y2, -, -, -⟩, ⟨s0, s1, s2, -, -, -⟩, ⟨t0, t1, t2, -, -, -⟩⟩ := hC; go_simp; first | done | (simp; done) | (simp [*]; done) | omega | (simp; omega) | (rw [IntKind.wrap_i64]; omega) | (intro hx; omega) | rfl)
    simp only [Act.put, List.setIfInBounds_toArray, List.set_cons_zero, List.set_cons_succ]
    refine q_run (v := .agg #[.int .u64 (hI Y), .int .u64 (lI Y)]) (by rfl) ?_ ?_
    · (intro w1 hC; obtain ⟨⟨⟨p0, p1, p2, -, -, -⟩, ⟨q0, q1, q2, -, -, -⟩, ⟨r0, r1, r2, -, -, -⟩, -⟩, ⟨c0, c1, -, -, -⟩, ⟨x0, x1, x2, -, -, -⟩, ⟨y0, y1, y2, -, -, -⟩, ⟨s0, s1, s2, -, -, -⟩, ⟨t0, t1, t2, -, -, -⟩⟩ := hC; go_simp; first | done | (simp; done) | (simp [*]; done) | omega | (simp; omega) | (rw [IntKind.wrap_i64]; omega) | (intro hx; omega) | rfl)
    simp only [Act.put, List.setIfInBounds_toArray, List.set_cons_zero, List.set_cons_succ]
    refine q_run (v := .agg #[.int .u64 (hI Y), .int .u64 (lI Y), .int .i64 (M)]) (by rfl) ?_ ?_
    · (intro w1 hC; obtain ⟨⟨⟨p0, p1, p2, -, -, -⟩, ⟨q0, q1, q2, -, -, -⟩, ⟨r0, r1, r2, -, -, -⟩, -⟩, ⟨c0, c1, -, -, -⟩, ⟨x0, x1, x2, -, -, -⟩, ⟨y0, y1, y2, -, -, -⟩, ⟨s0, s1, s2, -, -, -⟩, ⟨t0, t1, t2, -, -, -⟩⟩ := hC; go_simp; first | done | (simp; done) | (simp [*]; done) | omega | (simp; omega) | (rw [IntKind.wrap_i64]; omega) | (intro hx; omega) | rfl)
    simp only [Act.put, List.setIfInBounds_toArray, List.set_cons_zero, List.set_cons_succ]
    refine q_call (v := .agg #[.int .u64 (hI Y), .int .u64 (lI Y)]) (f := 24) (args := #[.agg #[.int .u64 (hI Y), .int .u64 (lI Y), .int .i64 (M)]]) (by rfl) ?_ ?_ ?_
    · (intro w1 hC; clear hC; go_simp)
    · exact fun w1 hC => (pfirst_any Y M w1).mono fun e w' ⟨he, hb⟩ => ⟨he, hC.keep hb⟩
    simp only [Act.put, List.setIfInBounds_toArray, List.set_cons_zero, List.set_cons_succ]
    refine q_run (v := .bool true) (by rfl) ?_ ?_
    · (intro w1 hC; obtain ⟨⟨⟨p0, p1, p2, -, -, -⟩, ⟨q0, q1, q2, -, -, -⟩, ⟨r0, r1, r2, -, -, -⟩, -⟩, ⟨c0, c1, -, -, -⟩, ⟨x0, x1, x2, -, -, -⟩, ⟨y0, y1, y2, -, -, -⟩, ⟨s0, s1, s2, -, -, -⟩, ⟨t0, t1, t2, -, -, -⟩⟩ := hC; go_simp; first | done | (simp; done) | (simp [*]; done) | omega | (simp; omega) | (rw [IntKind.wrap_i64]; omega) | (intro hx; omega) | rfl)
    simp only [Act.put, List.setIfInBounds_toArray, List.set_cons_zero, List.set_cons_succ]
    refine q_run (v := .bool true) (by rfl) ?_ ?_
    · (intro w1 hC; obtain ⟨⟨⟨p0, p1, p2, -, -, -⟩, ⟨q0, q1, q2, -, -, -⟩, ⟨r0, r1, r2, -, -, -⟩, -⟩, ⟨c0, c1, -, -, -⟩, ⟨x0, x1, x2, -, -, -⟩, ⟨y0, y1, y2, -, -, -⟩, ⟨s0, s1, s2, -, -, -⟩, ⟨t0, t1, t2, -, -, -⟩⟩ := hC; go_simp; first | done | (simp; done) | (simp [*]; done) | omega | (simp; omega) | (rw [IntKind.wrap_i64]; omega) | (intro hx; omega) | rfl)
    simp only [Act.put, List.setIfInBounds_toArray, List.set_cons_zero, List.set_cons_succ]
    refine q_run (v := .bool true) (by rfl) ?_ ?_
    · (intro w1 hC; obtain ⟨⟨⟨p0, p1, p2, -, -, -⟩, ⟨q0, q1, q2, -, -, -⟩, ⟨r0, r1, r2, -, -, -⟩, -⟩, ⟨c0, c1, -, -, -⟩, ⟨x0, x1, x2, -, -, -⟩, ⟨y0, y1, y2, -, -, -⟩, ⟨s0, s1, s2, -, -, -⟩, ⟨t0, t1, t2, -, -, -⟩⟩ := hC; go_simp; first | done | (simp; done) | (simp [*]; done) | omega | (simp; omega) | (rw [IntKind.wrap_i64]; omega) | (intro hx; omega) | rfl)
    simp only [Act.put, List.setIfInBounds_toArray, List.set_cons_zero, List.set_cons_succ]
    refine q_run (v := .bool true) (by rfl) ?_ ?_
    · (intro w1 hC; obtain ⟨⟨⟨p0, p1, p2, -, -, -⟩, ⟨q0, q1, q2, -, -, -⟩, ⟨r0, r1, r2, -, -, -⟩, -⟩, ⟨c0, c1, -, -, -⟩, ⟨x0, x1, x2, -, -, -⟩, ⟨y0, y1, y2, -, -, -⟩, ⟨s0, s1, s2, -, -, -⟩, ⟨t0, t1, t2, -, -, -⟩⟩ := hC; go_simp; first | done | (simp; done) | (simp [*]; done) | omega | (simp; omega) | (rw [IntKind.wrap_i64]; omega) | (intro hx; omega) | rfl)
    simp only [Act.put, List.setIfInBounds_toArray, List.set_cons_zero, List.set_cons_succ]
    refine q_run (v := .bool true) (by rfl) ?_ ?_
    · (intro w1 hC; obtain ⟨⟨⟨p0, p1, p2, -, -, -⟩, ⟨q0, q1, q2, -, -, -⟩, ⟨r0, r1, r2, -, -, -⟩, -⟩, ⟨c0, c1, -, -, -⟩, ⟨x0, x1, x2, -, -, -⟩, ⟨y0, y1, y2, -, -, -⟩, ⟨s0, s1, s2, -, -, -⟩, ⟨t0, t1, t2, -, -, -⟩⟩ := hC; go_simp; first | done | (simp; done) | (simp [*]; done) | omega | (simp; omega) | (rw [IntKind.wrap_i64]; omega) | (intro hx; omega) | rfl)
    simp only [Act.put, List.setIfInBounds_toArray, List.set_cons_zero, List.set_cons_succ]
    refine q_run (v := .bool true) (by rfl) ?_ ?_
    · (intro w1 hC; obtain ⟨⟨⟨p0, p1, p2, -, -, -⟩, ⟨q0, q1, q2, -, -, -⟩, ⟨r0, r1, r2, -, -, -⟩, -⟩, ⟨c0, c1, -, -, -⟩, ⟨x0, x1, x2, -, -, -⟩, ⟨y0, y1, y2, -, -, -⟩, ⟨s0, s1, s2, -, -, -⟩, ⟨t0, t1, t2, -, -, -⟩⟩ := hC; go_simp; first | done | (simp; done) | (simp [*]; done) | omega | (simp; omega) | (rw [IntKind.wrap_i64]; omega) | (intro hx; omega) | rfl)
    simp only [Act.put, List.setIfInBounds_toArray, List.set_cons_zero, List.set_cons_succ]
    refine q_run (v := .bool true) (by rfl) ?_ ?_
    · (intro w1 hC; obtain ⟨⟨⟨p0, p1, p2, -, -, -⟩, ⟨q0, q1, q2, -, -, -⟩, ⟨r0, r1, r2, -, -, -⟩, -⟩, ⟨c0, c1, -, -, -⟩, ⟨x0, x1, x2, -, -, -⟩, ⟨y0, y1, y2, -, -, -⟩, ⟨s0, s1, s2, -, -, -⟩, ⟨t0, t1, t2, -, -, -⟩⟩ := hC; go_simp; first | done | (simp; done) | (simp [*]; done) | omega | (simp; omega) | (rw [IntKind.wrap_i64]; omega) | (intro hx; omega) | rfl)
    simp only [Act.put, List.setIfInBounds_toArray, List.set_cons_zero, List.set_cons_succ]
    refine q_run (v := .bool true) (by rfl) ?_ ?_
    · (intro w1 hC; obtain ⟨⟨⟨p0, p1, p2, -, -, -⟩, ⟨q0, q1, q2, -, -, -⟩, ⟨r0, r1, r2, -, -, -⟩, -⟩, ⟨c0, c1, -, -, -⟩, ⟨x0, x1, x2, -, -, -⟩, ⟨y0, y1, y2, -, -, -⟩, ⟨s0, s1, s2, -, -, -⟩, ⟨t0, t1, t2, -, -, -⟩⟩ := hC; go_simp; first | done | (simp; done) | (simp [*]; done) | omega | (simp; omega) | (rw [IntKind.wrap_i64]; omega) | (intro hx; omega) | rfl)
    simp only [Act.put, List.setIfInBounds_toArray, List.set_cons_zero, List.set_cons_succ]
    refine q_run (v := .bool true) (by rfl) ?_ ?_
    · (intro w1 hC; obtain ⟨⟨⟨p0, p1, p2, -, -, -⟩, ⟨q0, q1, q2, -, -, -⟩, ⟨r0, r1, r2, -, -, -⟩, -⟩, ⟨c0, c1, -, -, -⟩, ⟨x0, x1, x2, -, -, -⟩, ⟨y0, y1, y2, -, -, -⟩, ⟨s0, s1, s2, -, -, -⟩, ⟨t0, t1, t2, -, -, -⟩⟩ := hC; go_simp; first | done | (simp; done) | (simp [*]; done) | omega | (simp; omega) | (rw [IntKind.wrap_i64]; omega) | (intro hx; omega) | rfl)
    simp only [Act.put, List.setIfInBounds_toArray, List.set_cons_zero, List.set_cons_succ]
    refine q_run (v := .agg #[.int .u64 (hI X), .int .u64 (lI X), .int .i64 (N)]) (by rfl) ?_ ?_
    · (intro w1 hC; obtain ⟨⟨⟨p0, p1, p2, -, -, -⟩, ⟨q0, q1, q2, -, -, -⟩, ⟨r0, r1, r2, -, -, -⟩, -⟩, ⟨c0, c1, -, -, -⟩, ⟨x0, x1, x2, -, -, -⟩, ⟨y0, y1, y2, -, -, -⟩, ⟨s0, s1, s2, -, -, -⟩, ⟨t0, t1, t2, -, -, -⟩⟩ := hC; go_simp; first | done | (simp; done) | (simp [*]; done) | omega | (simp; omega) | (rw [IntKind.wrap_i64]; omega) | (intro hx; omega) | rfl)
    simp only [Act.put, List.setIfInBounds_toArray, List.set_cons_zero, List.set_cons_succ]
    refine q_run (v := .agg #[.int .u64 (hI X), .int .u64 (lI X), .int .i64 (N)]) (by rfl) ?_ ?_
    · (intro w1 hC; obtain ⟨⟨⟨p0, p1, p2, -, -, -⟩, ⟨q0, q1, q2, -, -, -⟩, ⟨r0, r1, r2, -, -, -⟩, -⟩, ⟨c0, c1, -, -, -⟩, ⟨x0, x1, x2, -, -, -⟩, ⟨y0, y1, y2, -, -, -⟩, ⟨s0, s1, s2, -, -, -⟩, ⟨t0, t1, t2, -, -, -⟩⟩ := hC; go_simp; first | done | (simp; done) | (simp [*]; done) | omega | (simp; omega) | (rw [IntKind.wrap_i64]; omega) | (intro hx; omega) | rfl)
    simp only [Act.put, List.setIfInBounds_toArray, List.set_cons_zero, List.set_cons_succ]
    refine q_run (v := .bool true) (by rfl) ?_ ?_
    · (intro w1 hC; obtain ⟨⟨⟨p0, p1, p2, -, -, -⟩, ⟨q0, q1, q2, -, -, -⟩, ⟨r0, r1, r2, -, -, -⟩, -⟩, ⟨c0, c1, -, -, -⟩, ⟨x0, x1, x2, -, -, -⟩, ⟨y0, y1, y2, -, -, -⟩, ⟨s0, s1, s2, -, -, -⟩, ⟨t0, t1, t2, -, -, -⟩⟩ := hC; go_simp; first | done | (simp; done) | (simp [*]; done) | omega | (simp; omega) | (rw [IntKind.wrap_i64]; omega) | (intro hx; omega) | rfl)
    simp only [Act.put, List.setIfInBounds_toArray, List.set_cons_zero, List.set_cons_succ]
    refine q_run (v := .bool true) (by rfl) ?_ ?_
    · (intro w1 hC; obtain ⟨⟨⟨p0, p1, p2, -, -, -⟩, ⟨q0, q1, q2, -, -, -⟩, ⟨r0, r1, r2, -, -, -⟩, -⟩, ⟨c0, c1, -, -, -⟩, ⟨x0, x1, x2, -, -, -⟩, ⟨y0, y1, y2, -, -, -⟩, ⟨s0, s1, s2, -, -, -⟩, ⟨t0, t1, t2, -, -, -⟩⟩ := hC; go_simp; first | done | (simp; done) | (simp [*]; done) | omega | (simp; omega) | (rw [IntKind.wrap_i64]; omega) | (intro hx; omega) | rfl)
    simp only [Act.put, List.setIfInBounds_toArray, List.set_cons_zero, List.set_cons_succ]
    refine q_run (v := .bool true) (by rfl) ?_ ?_
    · (intro w1 hC; obtain ⟨⟨⟨p0, p1, p2, -, -, -⟩, ⟨q0, q1, q2, -, -, -⟩, ⟨r0, r1, r2, -, -, -⟩, -⟩, ⟨c0, c1, -, -, -⟩, ⟨x0, x1, x2, -, -, -⟩, ⟨y0, y1, y2, -, -, -⟩, ⟨s0, s1, s2, -, -, -⟩, ⟨t0, t1, t2, -, -, -⟩⟩ := hC; go_simp; first | done | (simp; done) | (simp [*]; done) | omega | (simp; omega) | (rw [IntKind.wrap_i64]; omega) | (intro hx; omega) | rfl)
    simp only [Act.put, List.setIfInBounds_toArray, List.set_cons_zero, List.set_cons_succ]
    refine q_run (v := .agg #[.int .u64 (hI X), .int .u64 (lI X), .int .i64 (N)]) (by rfl) ?_ ?_
    · (intro w1 hC; obtain ⟨⟨⟨p0, p1, p2, -, -, -⟩, ⟨q0, q1, q2, -, -, -⟩, ⟨r0, r1, r2, -, -, -⟩, -⟩, ⟨c0, c1, -, -, -⟩, ⟨x0, x1, x2, -, -, -⟩, ⟨y0, y1, y2, -, -, -⟩, ⟨s0, s1, s2, -, -, -⟩, ⟨t0, t1, t2, -, -, -⟩⟩ := hC; go_simp; first | done | (simp; done) | (simp [*]; done) | omega | (simp; omega) | (rw [IntKind.wrap_i64]; omega) | (intro hx; omega) | rfl)
    simp only [Act.put, List.setIfInBounds_toArray, List.set_cons_zero, List.set_cons_succ]
    refine q_run (v := .agg #[.int .u64 (hI X), .int .u64 (lI X), .int .i64 (N)]) (by rfl) ?_ ?_
    · (intro w1 hC; obtain ⟨⟨⟨p0, p1, p2, -, -, -⟩, ⟨q0, q1, q2, -, -, -⟩, ⟨r0, r1, r2, -, -, -⟩, -⟩, ⟨c0, c1, -, -, -⟩, ⟨x0, x1, x2, -, -, -⟩, ⟨y0, y1, y2, -, -, -⟩, ⟨s0, s1, s2, -, -, -⟩, ⟨t0, t1, t2, -, -, -⟩⟩ := hC; go_simp; first | done | (simp; done) | (simp [*]; done) | omega | (simp; omega) | (rw [IntKind.wrap_i64]; omega) | (intro hx; omega) | rfl)
    simp only [Act.put, List.setIfInBounds_toArray, List.set_cons_zero, List.set_cons_succ]
    refine q_run (v := .bool true) (by rfl) ?_ ?_
    · (intro w1 hC; obtain ⟨⟨⟨p0, p1, p2, -, -, -⟩, ⟨q0, q1, q2, -, -, -⟩, ⟨r0, r1, r2, -, -, -⟩, -⟩, ⟨c0, c1, -, -, -⟩, ⟨x0, x1, x2, -, -, -⟩, ⟨y0, y1, y2, -, -, -⟩, ⟨s0, s1, s2, -, -, -⟩, ⟨t0, t1, t2, -, -, -⟩⟩ := hC; go_simp; first | done | (simp; done) | (simp [*]; done) | omega | (simp; omega) | (rw [IntKind.wrap_i64]; omega) | (intro hx; omega) | rfl)
    simp only [Act.put, List.setIfInBounds_toArray, List.set_cons_zero, List.set_cons_succ]
    refine q_run (v := .bool true) (by rfl) ?_ ?_
    · (intro w1 hC; obtain ⟨⟨⟨p0, p1, p2, -, -, -⟩, ⟨q0, q1, q2, -, -, -⟩, ⟨r0, r1, r2, -, -, -⟩, -⟩, ⟨c0, c1, -, -, -⟩, ⟨x0, x1, x2, -, -, -⟩, ⟨y0, y1, y2, -, -, -⟩, ⟨s0, s1, s2, -, -, -⟩, ⟨t0, t1, t2, -, -, -⟩⟩ := hC; go_simp; first | done | (simp; done) | (simp [*]; done) | omega | (simp; omega) | (rw [IntKind.wrap_i64]; omega) | (intro hx; omega) | rfl)
    simp only [Act.put, List.setIfInBounds_toArray, List.set_cons_zero, List.set_cons_succ]
    refine q_run (v := .bool true) (by rfl) ?_ ?_
    · (intro w1 hC; obtain ⟨⟨⟨p0, p1, p2, -, -, -⟩, ⟨q0, q1, q2, -, -, -⟩, ⟨r0, r1, r2, -, -, -⟩, -⟩, ⟨c0, c1, -, -, -⟩, ⟨x0, x1, x2, -, -, -⟩, ⟨y0, y1, y2, -, -, -⟩, ⟨s0, s1, s2, -, -, -⟩, ⟨t0, t1, t2, -, -, -⟩⟩ := hC; go_simp; first | done | (simp; done) | (simp [*]; done) | omega | (simp; omega) | (rw [IntKind.wrap_i64]; omega) | (intro hx; omega) | rfl)
    simp only [Act.put, List.setIfInBounds_toArray, List.set_cons_zero, List.set_cons_succ]
    refine q_run (v := .bool true) (by rfl) ?_ ?_
    · (intro w1 hC; obtain ⟨⟨⟨p0, p1, p2, -, -, -⟩, ⟨q0, q1, q2, -, -, -⟩, ⟨r0, r1, r2, -, -, -⟩, -⟩, ⟨c0, c1, -, -, -⟩, ⟨x0, x1, x2, -, -, -⟩, ⟨y0, y1, y2, -, -, -⟩, ⟨s0, s1, s2, -, -, -⟩, ⟨t0, t1, t2, -, -, -⟩⟩ := hC; go_simp; first | done | (simp; done) | (simp [*]; done) | omega | (simp; omega) | (rw [IntKind.wrap_i64]; omega) | (intro hx; omega) | rfl)
    simp only [Act.put, List.setIfInBounds_toArray, List.set_cons_zero, List.set_cons_succ]
    refine q_run (v := .bool true) (by rfl) ?_ ?_
    · (intro w1 hC; obtain ⟨⟨⟨p0, p1, p2, -, -, -⟩, ⟨q0, q1, q2, -, -, -⟩, ⟨r0, r1, r2, -, -, -⟩, -⟩, ⟨c0, c1, -, -, -⟩, ⟨x0, x1, x2, -, -, -⟩, ⟨y0, y1, y2, -, -, -⟩, ⟨s0, s1, s2, -, -, -⟩, ⟨t0, t1, t2, -, -, -⟩⟩ := hC; go_simp; first | done | (simp; done) | (simp [*]; done) | omega | (simp; omega) | (rw [IntKind.wrap_i64]; omega) | (intro hx; omega) | rfl)
    simp only [Act.put, List.setIfInBounds_toArray, List.set_cons_zero, List.set_cons_succ]
    refine q_run (v := .bool true) (by rfl) ?_ ?_
    · (intro w1 hC; obtain ⟨⟨⟨p0, p1, p2, -, -, -⟩, ⟨q0, q1, q2, -, -, -⟩, ⟨r0, r1, r2, -, -, -⟩, -⟩, ⟨c0, c1, -, -, -⟩, ⟨x0, x1, x2, -, -, -⟩, ⟨y0, y1, y2, -, -, -⟩, ⟨s0, s1, s2, -, -, -⟩, ⟨t0, t1, t2, -, -, -⟩⟩ := hC; go_simp; first | done | (simp; done) | (simp [*]; done) | omega | (simp; omega) | (rw [IntKind.wrap_i64]; omega) | (intro hx; omega) | rfl)
    simp only [Act.put, List.setIfInBounds_toArray, List.set_cons_zero, List.set_cons_succ]
    refine q_run (v := .bool true) (by rfl) ?_ ?_
    · (intro w1 hC; obtain ⟨⟨⟨p0, p1, p2, -, -, -⟩, ⟨q0, q1, q2, -, -, -⟩, ⟨r0, r1, r2, -, -, -⟩, -⟩, ⟨c0, c1, -, -, -⟩, ⟨x0, x1, x2, -, -, -⟩, ⟨y0, y1, y2, -, -, -⟩, ⟨s0, s1, s2, -, -, -⟩, ⟨t0, t1, t2, -, -, -⟩⟩ := hC; go_simp; first | done | (simp; done) | (simp [*]; done) | omega | (simp; omega) | (rw [IntKind.wrap_i64]; omega) | (intro hx; omega) | rfl)
    simp only [Act.put, List.setIfInBounds_toArray, List.set_cons_zero, List.set_cons_succ]
    refine q_run (v := .bool true) (by rfl) ?_ ?_
    · (intro w1 hC; obtain ⟨⟨⟨p0, p1, p2, -, -, -⟩, ⟨q0, q1, q2, -, -, -⟩, ⟨r0, r1, r2, -, -, -⟩, -⟩, ⟨c0, c1, -, -, -⟩, ⟨x0, x1, x2, -, -, -⟩, ⟨y0, y1, y2, -, -, -⟩, ⟨s0, s1, s2, -, -, -⟩, ⟨t0, t1, t2, -, -, -⟩⟩ := hC; go_simp; first | done | (simp; done) | (simp [*]; done) | omega | (simp; omega) | (rw [IntKind.wrap_i64]; omega) | (intro hx; omega) | rfl)
    simp only [Act.put, List.setIfInBounds_toArray, List.set_cons_zero, List.set_cons_succ]
    refine q_run (v := .bool true) (by rfl) ?_ ?_
    · (intro w1 hC; obtain ⟨⟨⟨p0, p1, p2, -, -, -⟩, ⟨q0, q1, q2, -, -, -⟩, ⟨r0, r1, r2, -, -, -⟩, -⟩, ⟨c0, c1, -, -, -⟩, ⟨x0, x1, x2, -, -, -⟩, ⟨y0, y1, y2, -, -, -⟩, ⟨s0, s1, s2, -, -, -⟩, ⟨t0, t1, t2, -, -, -⟩⟩ := hC; go_simp; first | done | (simp; done) | (simp [*]; done) | omega | (simp; omega) | (rw [IntKind.wrap_i64]; omega) | (intro hx; omega) | rfl)
    simp only [Act.put, List.setIfInBounds_toArray, List.set_cons_zero, List.set_cons_succ]
    refine q_run (v := .agg #[.int .u64 (hI Y), .int .u64 (lI Y), .int .i64 (M)]) (by rfl) ?_ ?_
    · (intro w1 hC; obtain ⟨⟨⟨p0, p1, p2, -, -, -⟩, ⟨q0, q1, q2, -, -, -⟩, ⟨r0, r1, r2, -, -, -⟩, -⟩, ⟨c0, c1, -, -, -⟩, ⟨x0, x1, x2, -, -, -⟩, ⟨y0, y1, y2, -, -, -⟩, ⟨s0, s1, s2, -, -, -⟩, ⟨t0, t1, t2, -, -, -⟩⟩ := hC; go_simp; first | done | (simp; done) | (simp [*]; done) | omega | (simp; omega) | (rw [IntKind.wrap_i64]; omega) | (intro hx; omega) | rfl)
    simp only [Act.put, List.setIfInBounds_toArray, List.set_cons_zero, List.set_cons_succ]
    refine q_run (v := .agg #[.int .u64 (hI Y), .int .u64 (lI Y), .int .i64 (M)]) (by rfl) ?_ ?_
    · (intro w1 hC; obtain ⟨⟨⟨p0, p1, p2, -, -, -⟩, ⟨q0, q1, q2, -, -, -⟩, ⟨r0, r1, r2, -, -, -⟩, -⟩, ⟨c0, c1, -, -, -⟩, ⟨x0, x1, x2, -, -, -⟩, ⟨y0, y1, y2, -, -, -⟩, ⟨s0, s1, s2, -, -, -⟩, ⟨t0, t1, t2, -, -, -⟩⟩ := hC; go_simp; first | done | (simp; done) | (simp [*]; done) | omega | (simp; omega) | (rw [IntKind.wrap_i64]; omega) | (intro hx; omega) | rfl)
    simp only [Act.put, List.setIfInBounds_toArray, List.set_cons_zero, List.set_cons_succ]
    refine q_run (v := .bool true) (by rfl) ?_ ?_
    · (intro w1 hC; obtain ⟨⟨⟨p0, p1, p2, -, -, -⟩, ⟨q0, q1, q2, -, -, -⟩, ⟨r0, r1, r2, -, -, -⟩, -⟩, ⟨c0, c1, -, -, -⟩, ⟨x0, x1, x2, -, -, -⟩, ⟨y0, y1, y2, -, -, -⟩, ⟨s0, s1, s2, -, -, -⟩, ⟨t0, t1, t2, -, -, -⟩⟩ := hC; go_simp; first | done | (simp; done) | (simp [*]; done) | omega | (simp; omega) | (rw [IntKind.wrap_i64]; omega) | (intro hx; omega) | rfl)
    simp only [Act.put, List.setIfInBounds_toArray, List.set_cons_zero, List.set_cons_succ]
    refine q_run (v := .bool true) (by rfl) ?_ ?_
    · (intro w1 hC; obtain ⟨⟨⟨p0, p1, p2, -, -, -⟩, ⟨q0, q1, q2, -, -, -⟩, ⟨r0, r1, r2, -, -, -⟩, -⟩, ⟨c0, c1, -, -, -⟩, ⟨x0, x1, x2, -, -, -⟩, ⟨y0, y1, y2, -, -, -⟩, ⟨s0, s1, s2, -, -, -⟩, ⟨t0, t1, t2, -, -, -⟩⟩ := hC; go_simp; first | done | (simp; done) | (simp [*]; done) | omega | (simp; omega) | (rw [IntKind.wrap_i64]; omega) | (intro hx; omega) | rfl)
    simp only [Act.put, List.setIfInBounds_toArray, List.set_cons_zero, List.set_cons_succ]
    refine q_run (v := .bool true) (by rfl) ?_ ?_
    · (intro w1 hC; obtain ⟨⟨⟨p0, p1, p2, -, -, -⟩, ⟨q0, q1, q2, -, -, -⟩, ⟨r0, r1, r2, -, -, -⟩, -⟩, ⟨c0, c1, -, -, -⟩, ⟨x0, x1, x2, -, -, -⟩, ⟨y0, y1, y2, -, -, -⟩, ⟨s0, s1, s2, -, -, -⟩, ⟨t0, t1, t2, -, -, -⟩⟩ := hC; go_simp; first | done | (simp; done) | (simp [*]; done) | omega | (simp; omega) | (rw [IntKind.wrap_i64]; omega) | (intro hx; omega) | rfl)
    simp only [Act.put, List.setIfInBounds_toArray, List.set_cons_zero, List.set_cons_succ]
    refine q_run (v := .agg #[.int .u64 (hI X), .int .u64 (lI X), .int .i64 (M)]) (by rfl) ?_ ?_
    · (intro w1 hC; obtain ⟨⟨⟨p0, p1, p2, -, -, -⟩, ⟨q0, q1, q2, -, -, -⟩, ⟨r0, r1, r2, -, -, -⟩, -⟩, ⟨c0, c1, -, -, -⟩, ⟨x0, x1, x2, -, -, -⟩, ⟨y0, y1, y2, -, -, -⟩, ⟨s0, s1, s2, -, -, -⟩, ⟨t0, t1, t2, -, -, -⟩⟩ := hC; go_simp; first | done | (simp; done) | (simp [*]; done) | omega | (simp; omega) | (rw [IntKind.wrap_i64]; omega) | (intro hx; omega) | rfl)
    simp only [Act.put, List.setIfInBounds_toArray, List.set_cons_zero, List.set_cons_succ]
    refine q_run (v := .agg #[.int .u64 (hI X), .int .u64 (lI X), .int .i64 (M)]) (by rfl) ?_ ?_
    · (intro w1 hC; obtain ⟨⟨⟨p0, p1, p2, -, -, -⟩, ⟨q0, q1, q2, -, -, -⟩, ⟨r0, r1, r2, -, -, -⟩, -⟩, ⟨c0, c1, -, -, -⟩, ⟨x0, x1, x2, -, -, -⟩, ⟨y0, y1, y2, -, -, -⟩, ⟨s0, s1, s2, -, -, -⟩, ⟨t0, t1, t2, -, -, -⟩⟩ := hC; go_simp; first | done | (simp; done) | (simp [*]; done) | omega | (simp; omega) | (rw [IntKind.wrap_i64]; omega) | (intro hx; omega) | rfl)
    simp only [Act.put, List.setIfInBounds_toArray, List.set_cons_zero, List.set_cons_succ]
    refine q_run (v := .bool true) (by rfl) ?_ ?_
    · (intro w1 hC; obtain ⟨⟨⟨p0, p1, p2, -, -, -⟩, ⟨q0, q1, q2, -, -, -⟩, ⟨r0, r1, r2, -, -, -⟩, -⟩, ⟨c0, c1, -, -, -⟩, ⟨x0, x1, x2, -, -, -⟩, ⟨y0, y1, y2, -, -, -⟩, ⟨s0, s1, s2, -, -, -⟩, ⟨t0, t1, t2, -, -, -⟩⟩ := hC; go_simp; first | done | (simp; done) | (simp [*]; done) | omega | (simp; omega) | (rw [IntKind.wrap_i64]; omega) | (intro hx; omega) | rfl)
    simp only [Act.put, List.setIfInBounds_toArray, List.set_cons_zero, List.set_cons_succ]
    refine q_run (v := .bool true) (by rfl) ?_ ?_
    · (intro w1 hC; obtain ⟨⟨⟨p0, p1, p2, -, -, -⟩, ⟨q0, q1, q2, -, -, -⟩, ⟨r0, r1, r2, -, -, -⟩, -⟩, ⟨c0, c1, -, -, -⟩, ⟨x0, x1, x2, -, -, -⟩, ⟨y0, y1, y2, -, -, -⟩, ⟨s0, s1, s2, -, -, -⟩, ⟨t0, t1, t2, -, -, -⟩⟩ := hC; go_simp; first | done | (simp; done) | (simp [*]; done) | omega | (simp; omega) | (rw [IntKind.wrap_i64]; omega) | (intro hx; omega) | rfl)
    simp only [Act.put, List.setIfInBounds_toArray, List.set_cons_zero, List.set_cons_succ]
    refine q_run (v := .bool true) (by rfl) ?_ ?_
    · (intro w1 hC; obtain ⟨⟨⟨p0, p1, p2, -, -, -⟩, ⟨q0, q1, q2, -, -, -⟩, ⟨r0, r1, r2, -, -, -⟩, -⟩, ⟨c0, c1, -, -, -⟩, ⟨x0, x1, x2, -, -, -⟩, ⟨y0, y1, y2, -, -, -⟩, ⟨s0, s1, s2, -, -, -⟩, ⟨t0, t1, t2, -, -, -⟩⟩ := hC; go_simp; first | done | (simp; done) | (simp [*]; done) | omega | (simp; omega) | (rw [IntKind.wrap_i64]; omega) | (intro hx; omega) | rfl)
    simp only [Act.put, List.setIfInBounds_toArray, List.set_cons_zero, List.set_cons_succ]
    refine q_run (v := .agg #[.int .u64 (hI X), .int .u64 (lI X), .int .i64 (N)]) (by rfl) ?_ ?_
    · (intro w1 hC; obtain ⟨⟨⟨p0, p1, p2, -, -, -⟩, ⟨q0, q1, q2, -, -, -⟩, ⟨r0, r1, r2, -, -, -⟩, -⟩, ⟨c0, c1, -, -, -⟩, ⟨x0, x1, x2, -, -, -⟩, ⟨y0, y1, y2, -, -, -⟩, ⟨s0, s1, s2, -, -, -⟩, ⟨t0, t1, t2, -, -, -⟩⟩ := hC; go_simp; first | done | (simp; done) | (simp [*]; done) | omega | (simp; omega) | (rw [IntKind.wrap_i64]; omega) | (intro hx; omega) | rfl)
    simp only [Act.put, List.setIfInBounds_toArray, List.set_cons_zero, List.set_cons_succ]
    refine q_run (v := .agg #[.int .u64 (hI X), .int .u64 (lI X), .int .i64 (M)]) (by rfl) ?_ ?_
    · (intro w1 hC; obtain ⟨⟨⟨p0, p1, p2, -, -, -⟩, ⟨q0, q1, q2, -, -, -⟩, ⟨r0, r1, r2, -, -, -⟩, -⟩, ⟨c0, c1, -, -, -⟩, ⟨x0, x1, x2, -, -, -⟩, ⟨y0, y1, y2, -, -, -⟩, ⟨s0, s1, s2, -, -, -⟩, ⟨t0, t1, t2, -, -, -⟩⟩ := hC; go_simp; first | done | (simp; done) | (simp [*]; done) | omega | (simp; omega) | (rw [IntKind.wrap_i64]; omega) | (intro hx; omega) | rfl)
    simp only [Act.put, List.setIfInBounds_toArray, List.set_cons_zero, List.set_cons_succ]
    refine q_call (v := .int .i64 (-1)) (f := 29) (args := #[.agg #[.int .u64 (hI X), .int .u64 (lI X), .int .i64 (N)], .agg #[.int .u64 (hI X), .int .u64 (lI X), .int .i64 (M)]]) (by rfl) ?_ ?_ ?_
    · (intro w1 hC; clear hC; go_simp)
    · exact fun w1 hC => (KC1 w1).mono fun e w' ⟨he, hb⟩ => ⟨he, hC.keep hb⟩
    simp only [Act.put, List.setIfInBounds_toArray, List.set_cons_zero, List.set_cons_succ]
    refine q_run (v := .bool true) (by rfl) ?_ ?_
    · (intro w1 hC; obtain ⟨⟨⟨p0, p1, p2, -, -, -⟩, ⟨q0, q1, q2, -, -, -⟩, ⟨r0, r1, r2, -, -, -⟩, -⟩, ⟨c0, c1, -, -, -⟩, ⟨x0, x1, x2, -, -, -⟩, ⟨y0, y1, y2, -, -, -⟩, ⟨s0, s1, s2, -, -, -⟩, ⟨t0, t1, t2, -, -, -⟩⟩ := hC; go_simp)
    simp only [Act.put, List.setIfInBounds_toArray, List.set_cons_zero, List.set_cons_succ]
    refine q_run (v := .bool true) (by rfl) ?_ ?_
    · (intro w1 hC; obtain ⟨⟨⟨p0, p1, p2, -, -, -⟩, ⟨q0, q1, q2, -, -, -⟩, ⟨r0, r1, r2, -, -, -⟩, -⟩, ⟨c0, c1, -, -, -⟩, ⟨x0, x1, x2, -, -, -⟩, ⟨y0, y1, y2, -, -, -⟩, ⟨s0, s1, s2, -, -, -⟩, ⟨t0, t1, t2, -, -, -⟩⟩ := hC; go_simp; first | done | (simp; done) | (simp [*]; done) | omega | (simp; omega) | (rw [IntKind.wrap_i64]; omega) | (intro hx; omega) | rfl)
    simp only [Act.put, List.setIfInBounds_toArray, List.set_cons_zero, List.set_cons_succ]
    refine q_run (v := .bool true) (by rfl) ?_ ?_
    · (intro w1 hC; obtain ⟨⟨⟨p0, p1, p2, -, -, -⟩, ⟨q0, q1, q2, -, -, -⟩, ⟨r0, r1, r2, -, -, -⟩, -⟩, ⟨c0, c1, -, -, -⟩, ⟨x0, x1, x2, -, -, -⟩, ⟨y0, y1, y2, -, -, -⟩, ⟨s0, s1, s2, -, -, -⟩, ⟨t0, t1, t2, -, -, -⟩⟩ := hC; go_simp; first | done | (simp; done) | (simp [*]; done) | omega | (simp; omega) | (rw [IntKind.wrap_i64]; omega) | (intro hx; omega) | rfl)
    simp only [Act.put, List.setIfInBounds_toArray, List.set_cons_zero, List.set_cons_succ]
    refine q_run (v := .agg #[.int .u64 (hI X), .int .u64 (lI X), .int .i64 (M)]) (by rfl) ?_ ?_
    · (intro w1 hC; obtain ⟨⟨⟨p0, p1, p2, -, -, -⟩, ⟨q0, q1, q2, -, -, -⟩, ⟨r0, r1, r2, -, -, -⟩, -⟩, ⟨c0, c1, -, -, -⟩, ⟨x0, x1, x2, -, -, -⟩, ⟨y0, y1, y2, -, -, -⟩, ⟨s0, s1, s2, -, -, -⟩, ⟨t0, t1, t2, -, -, -⟩⟩ := hC; go_simp; first | done | (simp; done) | (simp [*]; done) | omega | (simp; omega) | (rw [IntKind.wrap_i64]; omega) | (intro hx; omega) | rfl)
    simp only [Act.put, List.setIfInBounds_toArray, List.set_cons_zero, List.set_cons_succ]
    refine q_run (v := .agg #[.int .u64 (hI Y), .int .u64 (lI Y), .int .i64 (M)]) (by rfl) ?_ ?_
    · (intro w1 hC; obtain ⟨⟨⟨p0, p1, p2, -, -, -⟩, ⟨q0, q1, q2, -, -, -⟩, ⟨r0, r1, r2, -, -, -⟩, -⟩, ⟨c0, c1, -, -, -⟩, ⟨x0, x1, x2, -, -, -⟩, ⟨y0, y1, y2, -, -, -⟩, ⟨s0, s1, s2, -, -, -⟩, ⟨t0, t1, t2, -, -, -⟩⟩ := hC; go_simp; first | done | (simp; done) | (simp [*]; done) | omega | (simp; omega) | (rw [IntKind.wrap_i64]; omega) | (intro hx; omega) | rfl)
    simp only [Act.put, List.setIfInBounds_toArray, List.set_cons_zero, List.set_cons_succ]
    refine q_call (v := .int .i64 (-1)) (f := 29) (args := #[.agg #[.int .u64 (hI X), .int .u64 (lI X), .int .i64 (M)], .agg #[.int .u64 (hI Y), .int .u64 (lI Y), .int .i64 (M)]]) (by rfl) ?_ ?_ ?_
    · (intro w1 hC; clear hC; go_simp)
    · exact fun w1 hC => (KC2 w1).mono fun e w' ⟨he, hb⟩ => ⟨he, hC.keep hb⟩
    simp only [Act.put, List.setIfInBounds_toArray, List.set_cons_zero, List.set_cons_succ]
    refine q_run (v := .bool true) (by rfl) ?_ ?_
    · (intro w1 hC; obtain ⟨⟨⟨p0, p1, p2, -, -, -⟩, ⟨q0, q1, q2, -, -, -⟩, ⟨r0, r1, r2, -, -, -⟩, -⟩, ⟨c0, c1, -, -, -⟩, ⟨x0, x1, x2, -, -, -⟩, ⟨y0, y1, y2, -, -, -⟩, ⟨s0, s1, s2, -, -, -⟩, ⟨t0, t1, t2, -, -, -⟩⟩ := hC; go_simp)
    simp only [Act.put, List.setIfInBounds_toArray, List.set_cons_zero, List.set_cons_succ]
    refine q_run (v := .bool true) (by rfl) ?_ ?_
    · (intro w1 hC; obtain ⟨⟨⟨p0, p1, p2, -, -, -⟩, ⟨q0, q1, q2, -, -, -⟩, ⟨r0, r1, r2, -, -, -⟩, -⟩, ⟨c0, c1, -, -, -⟩, ⟨x0, x1, x2, -, -, -⟩, ⟨y0, y1, y2, -, -, -⟩, ⟨s0, s1, s2, -, -, -⟩, ⟨t0, t1, t2, -, -, -⟩⟩ := hC; go_simp; first | done | (simp; done) | (simp [*]; done) | omega | (simp; omega) | (rw [IntKind.wrap_i64]; omega) | (intro hx; omega) | rfl)
    simp only [Act.put, List.setIfInBounds_toArray, List.set_cons_zero, List.set_cons_succ]
    refine q_run (v := .bool true) (by rfl) ?_ ?_
    · (intro w1 hC; obtain ⟨⟨⟨p0, p1, p2, -, -, -⟩, ⟨q0, q1, q2, -, -, -⟩, ⟨r0, r1, r2, -, -, -⟩, -⟩, ⟨c0, c1, -, -, -⟩, ⟨x0, x1, x2, -, -, -⟩, ⟨y0, y1, y2, -, -, -⟩, ⟨s0, s1, s2, -, -, -⟩, ⟨t0, t1, t2, -, -, -⟩⟩ := hC; go_simp; first | done | (simp; done) | (simp [*]; done) | omega | (simp; omega) | (rw [IntKind.wrap_i64]; omega) | (intro hx; omega) | rfl)
    simp only [Act.put, List.setIfInBounds_toArray, List.set_cons_zero, List.set_cons_succ]
    refine wpQuiet_nil ?_
    intro W16 hC
    have kB := hC.1.2.2.2
    clear hC
    go_wp2
    go_ret
    exact ⟨rfl, kB⟩
end Go.Proofs.YthichmlcfoafpaaDoor
