/-
  Part 14 of the proof: 1 texts, one behind the other.
-/
import Derived.Test.YthichmlcfoafpaaDoorPart6
import Derived.Test.YthichmlcfoafpaaDoorPart13
/-
  The law PrefixApart, walked.
-/
namespace Go.Proofs.YthichmlcfoafpaaDoor
open Go.RowKit
set_option linter.unusedSimpArgs false
set_option linter.unusedVariables false

def CA (w : World) (a b : Nat) (X : BitVec 128) (N : Int) (Y : BitVec 128) (M : Int) (c : BitVec 128) (W : World) : Prop := AtP W a X N ∧ AtP W b Y M ∧ At W (w.heap.size + 1 + 1) c ∧ Below w.heap.size w W
theorem CA.keep {w W W' : World} {a b : Nat} {X Y c : BitVec 128} {N M : Int} (h : CA w a b X N Y M c W) (hb : Below W.heap.size W W') : CA w a b X N Y M c W' := ⟨h.1.below hb, h.2.1.below hb, h.2.2.1.below hb, keepb hb h.2.2.2⟩
theorem CA.drew {w W : World} {a b : Nat} {X Y c : BitVec 128} {N M : Int} (h : CA w a b X N Y M c W) : CA w a b X N Y M c W.drew := ⟨h.1, h.2.1, h.2.2.1, h.2.2.2.drew⟩

set_option maxHeartbeats 16000000 in
set_option maxRecDepth 20000 in
theorem prefixApart_any (six : Bool) (v : BitVec 128) (n : Int) (u : BitVec 128) (m : Int) (z : BitVec 128) (w : World) (hP : Pow w) :
    Calls Tryd.prog 5 #[.bool six, .agg #[.int .u64 (hI v), .int .u64 (lI v)], .int .i64 n, .agg #[.int .u64 (hI u), .int .u64 (lI u)], .int .i64 m, .agg #[.int .u64 (hI z), .int .u64 (lI z)]] w fun e w' => e = .returned (.bool true) ∧ Below w.heap.size w w' := by
  have KF := fun w => family3_any six w
  obtain ⟨f0, f1⟩ := famZ_bd six
  generalize famZ six = F at *
  have KS := fun w => some_any F v n w (by omega) (by omega)
  have KT := fun w => some_any F u m w (by omega) (by omega)
  have KC := fun w => clip_any F z w
  have r1 := some_rt F v n (by omega)
  have r2 := some_rt F u m (by omega)
  have hcF : cutW (cutW z F) F = cutW z F := maskW_idem z F
  generalize someW F v n = X at *
  generalize someW F u m = Y at *
  generalize n % (F + 1) = N at *
  generalize m % (F + 1) = M at *
  generalize (rightE F (cutW z F) == 0) = rr at *
  generalize cutW z F = c at *
  have KH := fun w => has_any X N c w
  have KHq := fun w => has_any Y M c w
  have KA := fun w => pwithin_any X N Y M w
  have KB := fun w => pwithin_any Y M X N w
  have KLP := fun w => plast_any F X N w
  have KLQ := fun w => plast_any F Y M w
  have KFP := fun w => pfirst_any X N w
  have KFQ := fun w => pfirst_any Y M w
  have KD1 := fun w => rcmp_any X c w
  have KD2 := fun w => rcmp_any c (lastW F X N) w
  have KE1 := fun w => rcmp_any (lastW F X N) Y w
  have KE2 := fun w => rcmp_any (lastW F Y M) X w
  have KG1 := fun w => rcmp_any Y X w
  have KG2 := fun w => rcmp_any (lastW F X N) (lastW F Y M) w
  have hEq := fun w => eqP_run X N Y M w
  have H1 : Hid ((cutW c N == X) = (decide (cmpZ X c ≤ 0) && decide (cmpZ c (lastW F X N) ≤ 0))) := by
    show _ = _
    rw [Bool.eq_iff_iff]
    simp only [beq_iff_eq, Bool.and_eq_true, decide_eq_true_iff, cmp_le]
    exact has_ends F X N r1 c hcF
  have H2 : Hid ((decide (cmpZ (lastW F X N) Y < 0) || decide (cmpZ (lastW F Y M) X < 0)) = (!withinB X N Y M && !withinB Y M X N)) := by
    show _ = _
    rw [Bool.eq_iff_iff]
    simp only [Bool.or_eq_true, Bool.and_eq_true, decide_eq_true_iff, cmp_lt0, Bool.not_eq_true']
    exact apart_iff F X N Y M r1 r2
  have H3 : Hid ((withinB X N Y M && withinB Y M X N) = ((X == Y) && (N == M))) := both_eq F X N Y M r1 r2
  have H4 : Hid (withinB X N Y M = true → ¬ 0 < cmpZ Y X ∧ ¬ 0 < cmpZ (lastW F X N) (lastW F Y M)) := within_ends F X N Y M r1 r2
  have H5 : Hid (withinB X N Y M = true → (cutW c N == X) = true → (cutW c M == Y) = true) := fun h1 h2 => within_has F X N Y M c r2 h1 h2
  clear r1 r2 hcF f0 f1
  generalize cmpZ X c = d1 at *
  generalize cmpZ c (lastW F X N) = d2 at *
  generalize cmpZ (lastW F X N) Y = e1 at *
  generalize cmpZ (lastW F Y M) X = e2 at *
  generalize cmpZ Y X = g1 at *
  generalize cmpZ (lastW F X N) (lastW F Y M) = g2 at *
  generalize lastW F X N = Lp at *
  generalize lastW F Y M = Lq at *
  generalize (cutW c N == X) = h at *
  generalize (cutW c M == Y) = hq at *
  generalize withinB X N Y M = a1 at *
  generalize withinB Y M X N = b1 at *
  generalize ((X == Y) && (N == M)) = eq1 at *
  have hbl := bl3 w (.cells #[.int .u64 (hI v), .int .u64 (lI v)] 24) (.cells #[.int .u64 (hI u), .int .u64 (lI u)] 24) (.cells #[.int .u64 (hI z), .int .u64 (lI z)] 24)
  go_enter Tryd.func5, Tryd.ntmps5
  go_wp2_with fail
  refine (known3_any _ (hP.keep hbl)).mono ?_
  rintro e w0 ⟨rfl, hb⟩
  have V0 := (((at_new w w.heap.size v 24 rfl).below (bl1 _ (.cells #[.int .u64 (hI u), .int .u64 (lI u)] 24))).below (bl1 _ (.cells #[.int .u64 (hI z), .int .u64 (lI z)] 24))).below hb
  have U0 := ((at_new (w.alloc (.cells #[.int .u64 (hI v), .int .u64 (lI v)] 24)) (w.heap.size + 1) u 24 (by simp)).below (bl1 _ (.cells #[.int .u64 (hI z), .int .u64 (lI z)] 24))).below hb
  have Z0 := (at_new ((w.alloc (.cells #[.int .u64 (hI v), .int .u64 (lI v)] 24)).alloc (.cells #[.int .u64 (hI u), .int .u64 (lI u)] 24)) (w.heap.size + 1 + 1) z 24 (by simp)).below hb
  have kB0 := keepb hb hbl
  clear hb hbl hP
  go_wp2_with fail
  refine (KF _).mono ?_
  rintro e w9 ⟨rfl, rfl⟩
  obtain ⟨x0, x1, -, -, -⟩ := id V0
  go_wp2_with fail
  refine (KS _).mono ?_
  rintro e w1 ⟨rfl, hb⟩
  have hA := bl1 w1 (.cells #[.int .u64 (hI X), .int .u64 (lI X), .int .i64 N] 27)
  have U1 := (U0.below hb).below hA
  have Z1 := (Z0.below hb).below hA
  have P1 := atp_new w1 w1.heap.size X N 27 rfl
  have kB1 := keepb hA (keepb hb kB0)
  have s1 : w.heap.size + 1 + 1 < w1.heap.size := Nat.lt_of_lt_of_le Z0.2.2.2.2 hb.size
  clear x0 x1 V0 U0 Z0 kB0 hb hA KS KF
  obtain ⟨u0, u1, -, -, -⟩ := id U1
  go_wp2_with fail
  refine (KT _).mono ?_
  rintro e w2 ⟨rfl, hb⟩
  have hA := bl1 w2 (.cells #[.int .u64 (hI Y), .int .u64 (lI Y), .int .i64 M] 27)
  have Z2 := (Z1.below hb).below hA
  have P2 := (P1.below hb).below hA
  have Q2 := atp_new w2 w2.heap.size Y M 27 rfl
  have kB2 := keepb hA (keepb hb kB1)
  have s2 : w1.heap.size < w2.heap.size := by have := hb.size; simp at this; omega
  clear u0 u1 U1 Z1 P1 kB1 hb hA KT
  obtain ⟨z0, z1, -, -, -⟩ := id Z2
  go_wp2_with fail
  refine (KC _).mono ?_
  rintro e w3 ⟨rfl, hb⟩
  have Z3 := Z2.below hb
  have P3 := P2.below hb
  have Q3 := Q2.below hb
  have kB3 := keepb hb kB2
  have n1 : ¬ w1.heap.size = w.heap.size + 1 + 1 := by omega
  have n2 : ¬ w2.heap.size = w.heap.size + 1 + 1 := by omega
  clear z0 z1 Z2 P2 Q2 kB2 hb KC
  obtain ⟨z0, z1, z2, z3, z4⟩ := id Z3
  have hCd : CA w w1.heap.size w2.heap.size X N Y M c ((w3.setCell ⟨w.heap.size + 1 + 1, 0, none⟩ (.int .u64 (hI c))).setCell ⟨w.heap.size + 1 + 1, 1, none⟩ (.int .u64 (lI c))).drew := CA.drew ⟨P3.other _ _ n1, Q3.other _ _ n2, Z3.set c, bset2 kB3 (show w.heap.size ≤ w.heap.size + 1 + 1 by omega) _ _⟩
  go_wp2_with fail
  clear z0 z1 z2 z3 z4 Z3 P3 Q3 kB3 n1 n2 s1 s2
  generalize w1.heap.size = a at *
  generalize w2.heap.size = b at *
  by_cases hd1 : d1 ≤ 0
  · have hd2 : decide (d2 ≤ 0) = h := by have := H1.out; simp [hd1] at this; simp [this]
    clear H1
    refine qw_region (C := CA w a b X N Y M c) (by kernel_rfl) (by kernel_rfl) hCd ?_
    clear hCd
    refine qw_run (v := .agg #[.int .u64 (hI X), .int .u64 (lI X), .int .i64 (N)]) (by rfl) ?_ ?_
    · (intro w1 hC; obtain ⟨⟨p0, p1, p2, -, -, -⟩, ⟨q0, q1, q2, -, -, -⟩, ⟨z0, z1, -, -, -⟩, -⟩ := hC; go_simp; first | done | (simp; done) | (simp [*]; done) | omega | (simp; omega) | (rw [IntKind.wrap_i64]; omega) | (intro hx; omega) | rfl)
    simp only [Act.put, List.setIfInBounds_toArray, List.set_cons_zero, List.set_cons_succ]
    refine qw_run (v := .agg #[.int .u64 (hI c), .int .u64 (lI c)]) (by rfl) ?_ ?_
    · (intro w1 hC; obtain ⟨⟨p0, p1, p2, -, -, -⟩, ⟨q0, q1, q2, -, -, -⟩, ⟨z0, z1, -, -, -⟩, -⟩ := hC; go_simp; first | done | (simp; done) | (simp [*]; done) | omega | (simp; omega) | (rw [IntKind.wrap_i64]; omega) | (intro hx; omega) | rfl)
    simp only [Act.put, List.setIfInBounds_toArray, List.set_cons_zero, List.set_cons_succ]
    refine qw_call (v := .bool (h)) (f := 22) (args := #[.agg #[.int .u64 (hI X), .int .u64 (lI X), .int .i64 (N)], .agg #[.int .u64 (hI c), .int .u64 (lI c)]]) (by rfl) ?_ ?_ ?_
    · (intro w1 hC; clear hC; go_simp)
    · exact fun w1 hC => (KH w1).mono fun e w' ⟨he, hb⟩ => ⟨he, hC.keep hb⟩
    simp only [Act.put, List.setIfInBounds_toArray, List.set_cons_zero, List.set_cons_succ]
    refine qw_run (v := .agg #[.int .u64 (hI X), .int .u64 (lI X), .int .i64 (N)]) (by rfl) ?_ ?_
    · (intro w1 hC; obtain ⟨⟨p0, p1, p2, -, -, -⟩, ⟨q0, q1, q2, -, -, -⟩, ⟨z0, z1, -, -, -⟩, -⟩ := hC; go_simp; first | done | (simp; done) | (simp [*]; done) | omega | (simp; omega) | (rw [IntKind.wrap_i64]; omega) | (intro hx; omega) | rfl)
    simp only [Act.put, List.setIfInBounds_toArray, List.set_cons_zero, List.set_cons_succ]
    refine qw_call (v := .agg #[.int .u64 (hI X), .int .u64 (lI X)]) (f := 24) (args := #[.agg #[.int .u64 (hI X), .int .u64 (lI X), .int .i64 (N)]]) (by rfl) ?_ ?_ ?_
    · (intro w1 hC; clear hC; go_simp)
    · exact fun w1 hC => (KFP w1).mono fun e w' ⟨he, hb⟩ => ⟨he, hC.keep hb⟩
    simp only [Act.put, List.setIfInBounds_toArray, List.set_cons_zero, List.set_cons_succ]
    refine qw_run (v := .agg #[.int .u64 (hI c), .int .u64 (lI c)]) (by rfl) ?_ ?_
    · (intro w1 hC; obtain ⟨⟨p0, p1, p2, -, -, -⟩, ⟨q0, q1, q2, -, -, -⟩, ⟨z0, z1, -, -, -⟩, -⟩ := hC; go_simp; first | done | (simp; done) | (simp [*]; done) | omega | (simp; omega) | (rw [IntKind.wrap_i64]; omega) | (intro hx; omega) | rfl)
    simp only [Act.put, List.setIfInBounds_toArray, List.set_cons_zero, List.set_cons_succ]
    refine qw_call (v := .int .i64 (d1)) (f := 23) (args := #[.agg #[.int .u64 (hI X), .int .u64 (lI X)], .agg #[.int .u64 (hI c), .int .u64 (lI c)]]) (by rfl) ?_ ?_ ?_
    · (intro w1 hC; clear hC; go_simp)
    · exact fun w1 hC => (KD1 w1).mono fun e w' ⟨he, hb⟩ => ⟨he, hC.keep hb⟩
    simp only [Act.put, List.setIfInBounds_toArray, List.set_cons_zero, List.set_cons_succ]
    refine qw_run (v := .bool true) (by rfl) ?_ ?_
    · (intro w1 hC; obtain ⟨⟨p0, p1, p2, -, -, -⟩, ⟨q0, q1, q2, -, -, -⟩, ⟨z0, z1, -, -, -⟩, -⟩ := hC; go_simp; first | done | (simp; done) | (simp [*]; done) | omega | (simp; omega) | (rw [IntKind.wrap_i64]; omega) | (intro hx; omega) | rfl)
    simp only [Act.put, List.setIfInBounds_toArray, List.set_cons_zero, List.set_cons_succ]
    refine qw_run (v := .bool true) (by rfl) ?_ ?_
    · (intro w1 hC; obtain ⟨⟨p0, p1, p2, -, -, -⟩, ⟨q0, q1, q2, -, -, -⟩, ⟨z0, z1, -, -, -⟩, -⟩ := hC; go_simp; first | done | (simp; done) | (simp [*]; done) | omega | (simp; omega) | (rw [IntKind.wrap_i64]; omega) | (intro hx; omega) | rfl)
    simp only [Act.put, List.setIfInBounds_toArray, List.set_cons_zero, List.set_cons_succ]
    refine qw_run (v := .agg #[.int .u64 (hI c), .int .u64 (lI c)]) (by rfl) ?_ ?_
    · (intro w1 hC; obtain ⟨⟨p0, p1, p2, -, -, -⟩, ⟨q0, q1, q2, -, -, -⟩, ⟨z0, z1, -, -, -⟩, -⟩ := hC; go_simp; first | done | (simp; done) | (simp [*]; done) | omega | (simp; omega) | (rw [IntKind.wrap_i64]; omega) | (intro hx; omega) | rfl)
    simp only [Act.put, List.setIfInBounds_toArray, List.set_cons_zero, List.set_cons_succ]
    refine qw_run (v := .int .i64 (F)) (by rfl) ?_ ?_
    · (intro w1 hC; obtain ⟨⟨p0, p1, p2, -, -, -⟩, ⟨q0, q1, q2, -, -, -⟩, ⟨z0, z1, -, -, -⟩, -⟩ := hC; go_simp; first | done | (simp; done) | (simp [*]; done) | omega | (simp; omega) | (rw [IntKind.wrap_i64]; omega) | (intro hx; omega) | rfl)
    simp only [Act.put, List.setIfInBounds_toArray, List.set_cons_zero, List.set_cons_succ]
    refine qw_run (v := .agg #[.int .u64 (hI X), .int .u64 (lI X), .int .i64 (N)]) (by rfl) ?_ ?_
    · (intro w1 hC; obtain ⟨⟨p0, p1, p2, -, -, -⟩, ⟨q0, q1, q2, -, -, -⟩, ⟨z0, z1, -, -, -⟩, -⟩ := hC; go_simp; first | done | (simp; done) | (simp [*]; done) | omega | (simp; omega) | (rw [IntKind.wrap_i64]; omega) | (intro hx; omega) | rfl)
    simp only [Act.put, List.setIfInBounds_toArray, List.set_cons_zero, List.set_cons_succ]
    refine qw_call (v := .agg #[.int .u64 (hI Lp), .int .u64 (lI Lp)]) (f := 25) (args := #[.int .i64 (F), .agg #[.int .u64 (hI X), .int .u64 (lI X), .int .i64 (N)]]) (by rfl) ?_ ?_ ?_
    · (intro w1 hC; clear hC; go_simp)
    · exact fun w1 hC => (KLP w1).mono fun e w' ⟨he, hb⟩ => ⟨he, hC.keep hb⟩
    simp only [Act.put, List.setIfInBounds_toArray, List.set_cons_zero, List.set_cons_succ]
    refine qw_call (v := .int .i64 (d2)) (f := 23) (args := #[.agg #[.int .u64 (hI c), .int .u64 (lI c)], .agg #[.int .u64 (hI Lp), .int .u64 (lI Lp)]]) (by rfl) ?_ ?_ ?_
    · (intro w1 hC; clear hC; go_simp)
    · exact fun w1 hC => (KD2 w1).mono fun e w' ⟨he, hb⟩ => ⟨he, hC.keep hb⟩
    simp only [Act.put, List.setIfInBounds_toArray, List.set_cons_zero, List.set_cons_succ]
    refine qw_run (v := .bool (h)) (by rfl) ?_ ?_
    · (intro w1 hC; obtain ⟨⟨p0, p1, p2, -, -, -⟩, ⟨q0, q1, q2, -, -, -⟩, ⟨z0, z1, -, -, -⟩, -⟩ := hC; go_simp; first | done | (simp; done) | (simp [*]; done) | omega | (simp; omega) | (rw [IntKind.wrap_i64]; omega) | (intro hx; omega) | rfl)
    simp only [Act.put, List.setIfInBounds_toArray, List.set_cons_zero, List.set_cons_succ]
    refine qw_run (v := .bool (h)) (by rfl) ?_ ?_
    · (intro w1 hC; obtain ⟨⟨p0, p1, p2, -, -, -⟩, ⟨q0, q1, q2, -, -, -⟩, ⟨z0, z1, -, -, -⟩, -⟩ := hC; go_simp; first | done | (simp; done) | (simp [*]; done) | omega | (simp; omega) | (rw [IntKind.wrap_i64]; omega) | (intro hx; omega) | rfl)
    simp only [Act.put, List.setIfInBounds_toArray, List.set_cons_zero, List.set_cons_succ]
    refine qw_run (v := .bool false) (by rfl) ?_ ?_
    · (intro w1 hC; obtain ⟨⟨p0, p1, p2, -, -, -⟩, ⟨q0, q1, q2, -, -, -⟩, ⟨z0, z1, -, -, -⟩, -⟩ := hC; go_simp; first | done | (simp; done) | (simp [*]; done) | omega | (simp; omega) | (rw [IntKind.wrap_i64]; omega) | (intro hx; omega) | rfl)
    simp only [Act.put, List.setIfInBounds_toArray, List.set_cons_zero, List.set_cons_succ]
    refine qw_nil ?_
    intro W7 hC
    clear hd2
    obtain ⟨⟨p0, p1, p2, -, -, -⟩, ⟨q0, q1, q2, -, -, -⟩, ⟨z0, z1, -, -, -⟩, -⟩ := id hC
    go_wp2_with fail
    refine (KA _).mono ?_
    rintro e W' ⟨rfl, hb⟩
    replace hC := hC.keep hb
    clear p0 p1 p2 q0 q1 q2 z0 z1 hb
    obtain ⟨⟨p0, p1, p2, -, -, -⟩, ⟨q0, q1, q2, -, -, -⟩, ⟨z0, z1, -, -, -⟩, -⟩ := id hC
    go_wp2_with fail
    refine (KB _).mono ?_
    rintro e W' ⟨rfl, hb⟩
    replace hC := hC.keep hb
    clear p0 p1 p2 q0 q1 q2 z0 z1 hb
    have hCd2 := hC.drew
    clear hC
    go_wp2_with fail
    by_cases he1 : e1 < 0
    · have hab : a1 = false ∧ b1 = false := by have := H2.out; simp [he1] at this; exact this
      refine qw_region (C := CA w a b X N Y M c) (by kernel_rfl) (by kernel_rfl) hCd2 ?_
      clear hCd2
      refine qw_run (v := .int .i64 (F)) (by rfl) ?_ ?_
      · (intro w1 hC; obtain ⟨⟨p0, p1, p2, -, -, -⟩, ⟨q0, q1, q2, -, -, -⟩, ⟨z0, z1, -, -, -⟩, -⟩ := hC; go_simp; first | done | (simp; done) | (simp [*]; done) | omega | (simp; omega) | (rw [IntKind.wrap_i64]; omega) | (intro hx; omega) | rfl)
      simp only [Act.put, List.setIfInBounds_toArray, List.set_cons_zero, List.set_cons_succ]
      refine qw_run (v := .agg #[.int .u64 (hI X), .int .u64 (lI X), .int .i64 (N)]) (by rfl) ?_ ?_
      · (intro w1 hC; obtain ⟨⟨p0, p1, p2, -, -, -⟩, ⟨q0, q1, q2, -, -, -⟩, ⟨z0, z1, -, -, -⟩, -⟩ := hC; go_simp; first | done | (simp; done) | (simp [*]; done) | omega | (simp; omega) | (rw [IntKind.wrap_i64]; omega) | (intro hx; omega) | rfl)
      simp only [Act.put, List.setIfInBounds_toArray, List.set_cons_zero, List.set_cons_succ]
      refine qw_call (v := .agg #[.int .u64 (hI Lp), .int .u64 (lI Lp)]) (f := 25) (args := #[.int .i64 (F), .agg #[.int .u64 (hI X), .int .u64 (lI X), .int .i64 (N)]]) (by rfl) ?_ ?_ ?_
      · (intro w1 hC; clear hC; go_simp)
      · exact fun w1 hC => (KLP w1).mono fun e w' ⟨he, hb⟩ => ⟨he, hC.keep hb⟩
      simp only [Act.put, List.setIfInBounds_toArray, List.set_cons_zero, List.set_cons_succ]
      refine qw_run (v := .agg #[.int .u64 (hI Y), .int .u64 (lI Y), .int .i64 (M)]) (by rfl) ?_ ?_
      · (intro w1 hC; obtain ⟨⟨p0, p1, p2, -, -, -⟩, ⟨q0, q1, q2, -, -, -⟩, ⟨z0, z1, -, -, -⟩, -⟩ := hC; go_simp; first | done | (simp; done) | (simp [*]; done) | omega | (simp; omega) | (rw [IntKind.wrap_i64]; omega) | (intro hx; omega) | rfl)
      simp only [Act.put, List.setIfInBounds_toArray, List.set_cons_zero, List.set_cons_succ]
      refine qw_call (v := .agg #[.int .u64 (hI Y), .int .u64 (lI Y)]) (f := 24) (args := #[.agg #[.int .u64 (hI Y), .int .u64 (lI Y), .int .i64 (M)]]) (by rfl) ?_ ?_ ?_
      · (intro w1 hC; clear hC; go_simp)
      · exact fun w1 hC => (KFQ w1).mono fun e w' ⟨he, hb⟩ => ⟨he, hC.keep hb⟩
      simp only [Act.put, List.setIfInBounds_toArray, List.set_cons_zero, List.set_cons_succ]
      refine qw_call (v := .int .i64 (e1)) (f := 23) (args := #[.agg #[.int .u64 (hI Lp), .int .u64 (lI Lp)], .agg #[.int .u64 (hI Y), .int .u64 (lI Y)]]) (by rfl) ?_ ?_ ?_
      · (intro w1 hC; clear hC; go_simp)
      · exact fun w1 hC => (KE1 w1).mono fun e w' ⟨he, hb⟩ => ⟨he, hC.keep hb⟩
      simp only [Act.put, List.setIfInBounds_toArray, List.set_cons_zero, List.set_cons_succ]
      refine qw_run (v := .bool true) (by rfl) ?_ ?_
      · (intro w1 hC; obtain ⟨⟨p0, p1, p2, -, -, -⟩, ⟨q0, q1, q2, -, -, -⟩, ⟨z0, z1, -, -, -⟩, -⟩ := hC; go_simp; first | done | (simp; done) | (simp [*]; done) | omega | (simp; omega) | (rw [IntKind.wrap_i64]; omega) | (intro hx; omega) | rfl)
      simp only [Act.put, List.setIfInBounds_toArray, List.set_cons_zero, List.set_cons_succ]
      refine qw_run (v := .bool true) (by rfl) ?_ ?_
      · (intro w1 hC; obtain ⟨⟨p0, p1, p2, -, -, -⟩, ⟨q0, q1, q2, -, -, -⟩, ⟨z0, z1, -, -, -⟩, -⟩ := hC; go_simp; first | done | (simp; done) | (simp [*]; done) | omega | (simp; omega) | (rw [IntKind.wrap_i64]; omega) | (intro hx; omega) | rfl)
      simp only [Act.put, List.setIfInBounds_toArray, List.set_cons_zero, List.set_cons_succ]
      refine qw_skip (by rfl) ?_
      simp only [Act.put, List.setIfInBounds_toArray, List.set_cons_zero, List.set_cons_succ]
      refine qw_skip (by rfl) ?_
      simp only [Act.put, List.setIfInBounds_toArray, List.set_cons_zero, List.set_cons_succ]
      refine qw_skip (by rfl) ?_
      simp only [Act.put, List.setIfInBounds_toArray, List.set_cons_zero, List.set_cons_succ]
      refine qw_skip (by rfl) ?_
      simp only [Act.put, List.setIfInBounds_toArray, List.set_cons_zero, List.set_cons_succ]
      refine qw_skip (by rfl) ?_
      simp only [Act.put, List.setIfInBounds_toArray, List.set_cons_zero, List.set_cons_succ]
      refine qw_skip (by rfl) ?_
      simp only [Act.put, List.setIfInBounds_toArray, List.set_cons_zero, List.set_cons_succ]
      refine qw_skip (by rfl) ?_
      simp only [Act.put, List.setIfInBounds_toArray, List.set_cons_zero, List.set_cons_succ]
      refine qw_run (v := .bool true) (by rfl) ?_ ?_
      · (intro w1 hC; obtain ⟨⟨p0, p1, p2, -, -, -⟩, ⟨q0, q1, q2, -, -, -⟩, ⟨z0, z1, -, -, -⟩, -⟩ := hC; go_simp; first | done | (simp; done) | (simp [*]; done) | omega | (simp; omega) | (rw [IntKind.wrap_i64]; omega) | (intro hx; omega) | rfl)
      simp only [Act.put, List.setIfInBounds_toArray, List.set_cons_zero, List.set_cons_succ]
      refine qw_run (v := .bool true) (by rfl) ?_ ?_
      · (intro w1 hC; obtain ⟨⟨p0, p1, p2, -, -, -⟩, ⟨q0, q1, q2, -, -, -⟩, ⟨z0, z1, -, -, -⟩, -⟩ := hC; go_simp; first | done | (simp; done) | (simp [*]; done) | omega | (simp; omega) | (rw [IntKind.wrap_i64]; omega) | (intro hx; omega) | rfl)
      simp only [Act.put, List.setIfInBounds_toArray, List.set_cons_zero, List.set_cons_succ]
      refine qw_nil ?_
      intro W7 hC
      obtain ⟨rfl, rfl⟩ := hab
      · have h3 := H3.out
        clear H3
        obtain ⟨⟨p0, p1, p2, -, -, -⟩, ⟨q0, q1, q2, -, -, -⟩, ⟨z0, z1, -, -, -⟩, -⟩ := id hC
        simp at h3
        have heq1 : eq1 = false := by cases eq1 <;> simp_all
        rw [heq1] at hEq
        clear h3 heq1
        go_wp2_with fail
        clear p0 p1 p2 q0 q1 q2 z0 z1 hEq
        have hCe := hC.drew
        clear hC
        go_wp2_with fail
        refine qw_region (C := CA w a b X N Y M c) (by kernel_rfl) (by kernel_rfl) hCe ?_
        clear hCe
        refine qw_run (v := .bool false) (by rfl) ?_ ?_
        · (intro w1 hC; obtain ⟨⟨p0, p1, p2, -, -, -⟩, ⟨q0, q1, q2, -, -, -⟩, ⟨z0, z1, -, -, -⟩, -⟩ := hC; go_simp; first | done | (simp; done) | (simp [*]; done) | omega | (simp; omega) | (rw [IntKind.wrap_i64]; omega) | (intro hx; omega) | rfl)
        simp only [Act.put, List.setIfInBounds_toArray, List.set_cons_zero, List.set_cons_succ]
        refine qw_run (v := .bool false) (by rfl) ?_ ?_
        · (intro w1 hC; obtain ⟨⟨p0, p1, p2, -, -, -⟩, ⟨q0, q1, q2, -, -, -⟩, ⟨z0, z1, -, -, -⟩, -⟩ := hC; go_simp; first | done | (simp; done) | (simp [*]; done) | omega | (simp; omega) | (rw [IntKind.wrap_i64]; omega) | (intro hx; omega) | rfl)
        simp only [Act.put, List.setIfInBounds_toArray, List.set_cons_zero, List.set_cons_succ]
        refine qw_skip (by rfl) ?_
        simp only [Act.put, List.setIfInBounds_toArray, List.set_cons_zero, List.set_cons_succ]
        refine qw_skip (by rfl) ?_
        simp only [Act.put, List.setIfInBounds_toArray, List.set_cons_zero, List.set_cons_succ]
        refine qw_skip (by rfl) ?_
        simp only [Act.put, List.setIfInBounds_toArray, List.set_cons_zero, List.set_cons_succ]
        refine qw_skip (by rfl) ?_
        simp only [Act.put, List.setIfInBounds_toArray, List.set_cons_zero, List.set_cons_succ]
        refine qw_skip (by rfl) ?_
        simp only [Act.put, List.setIfInBounds_toArray, List.set_cons_zero, List.set_cons_succ]
        refine qw_skip (by rfl) ?_
        simp only [Act.put, List.setIfInBounds_toArray, List.set_cons_zero, List.set_cons_succ]
        refine qw_skip (by rfl) ?_
        simp only [Act.put, List.setIfInBounds_toArray, List.set_cons_zero, List.set_cons_succ]
        refine qw_skip (by rfl) ?_
        simp only [Act.put, List.setIfInBounds_toArray, List.set_cons_zero, List.set_cons_succ]
        refine qw_skip (by rfl) ?_
        simp only [Act.put, List.setIfInBounds_toArray, List.set_cons_zero, List.set_cons_succ]
        refine qw_skip (by rfl) ?_
        simp only [Act.put, List.setIfInBounds_toArray, List.set_cons_zero, List.set_cons_succ]
        refine qw_skip (by rfl) ?_
        simp only [Act.put, List.setIfInBounds_toArray, List.set_cons_zero, List.set_cons_succ]
        refine qw_skip (by rfl) ?_
        simp only [Act.put, List.setIfInBounds_toArray, List.set_cons_zero, List.set_cons_succ]
        refine qw_skip (by rfl) ?_
        simp only [Act.put, List.setIfInBounds_toArray, List.set_cons_zero, List.set_cons_succ]
        refine qw_skip (by rfl) ?_
        simp only [Act.put, List.setIfInBounds_toArray, List.set_cons_zero, List.set_cons_succ]
        refine qw_skip (by rfl) ?_
        simp only [Act.put, List.setIfInBounds_toArray, List.set_cons_zero, List.set_cons_succ]
        refine qw_skip (by rfl) ?_
        simp only [Act.put, List.setIfInBounds_toArray, List.set_cons_zero, List.set_cons_succ]
        refine qw_run (v := .bool false) (by rfl) ?_ ?_
        · (intro w1 hC; obtain ⟨⟨p0, p1, p2, -, -, -⟩, ⟨q0, q1, q2, -, -, -⟩, ⟨z0, z1, -, -, -⟩, -⟩ := hC; go_simp; first | done | (simp; done) | (simp [*]; done) | omega | (simp; omega) | (rw [IntKind.wrap_i64]; omega) | (intro hx; omega) | rfl)
        simp only [Act.put, List.setIfInBounds_toArray, List.set_cons_zero, List.set_cons_succ]
        refine qw_nil ?_
        intro W7 hC
        go_wp2
        go_ret
        exact ⟨rfl, hC.2.2.2⟩
    · have hap : decide (e2 < 0) = (!a1 && !b1) := by have := H2.out; simp [he1] at this; simp [this]
      cases a1 <;> cases b1
      · have hap2 : decide (e2 < 0) = true := by rw [hap]; rfl
        have hap3 : e2 < 0 := by simpa using hap2
        clear hap hap2
        refine qw_region (C := CA w a b X N Y M c) (by kernel_rfl) (by kernel_rfl) hCd2 ?_
        clear hCd2
        refine qw_run (v := .int .i64 (F)) (by rfl) ?_ ?_
        · (intro w1 hC; obtain ⟨⟨p0, p1, p2, -, -, -⟩, ⟨q0, q1, q2, -, -, -⟩, ⟨z0, z1, -, -, -⟩, -⟩ := hC; go_simp; first | done | (simp; done) | (simp [*]; done) | omega | (simp; omega) | (rw [IntKind.wrap_i64]; omega) | (intro hx; omega) | rfl)
        simp only [Act.put, List.setIfInBounds_toArray, List.set_cons_zero, List.set_cons_succ]
        refine qw_run (v := .agg #[.int .u64 (hI X), .int .u64 (lI X), .int .i64 (N)]) (by rfl) ?_ ?_
        · (intro w1 hC; obtain ⟨⟨p0, p1, p2, -, -, -⟩, ⟨q0, q1, q2, -, -, -⟩, ⟨z0, z1, -, -, -⟩, -⟩ := hC; go_simp; first | done | (simp; done) | (simp [*]; done) | omega | (simp; omega) | (rw [IntKind.wrap_i64]; omega) | (intro hx; omega) | rfl)
        simp only [Act.put, List.setIfInBounds_toArray, List.set_cons_zero, List.set_cons_succ]
        refine qw_call (v := .agg #[.int .u64 (hI Lp), .int .u64 (lI Lp)]) (f := 25) (args := #[.int .i64 (F), .agg #[.int .u64 (hI X), .int .u64 (lI X), .int .i64 (N)]]) (by rfl) ?_ ?_ ?_
        · (intro w1 hC; clear hC; go_simp)
        · exact fun w1 hC => (KLP w1).mono fun e w' ⟨he, hb⟩ => ⟨he, hC.keep hb⟩
        simp only [Act.put, List.setIfInBounds_toArray, List.set_cons_zero, List.set_cons_succ]
        refine qw_run (v := .agg #[.int .u64 (hI Y), .int .u64 (lI Y), .int .i64 (M)]) (by rfl) ?_ ?_
        · (intro w1 hC; obtain ⟨⟨p0, p1, p2, -, -, -⟩, ⟨q0, q1, q2, -, -, -⟩, ⟨z0, z1, -, -, -⟩, -⟩ := hC; go_simp; first | done | (simp; done) | (simp [*]; done) | omega | (simp; omega) | (rw [IntKind.wrap_i64]; omega) | (intro hx; omega) | rfl)
        simp only [Act.put, List.setIfInBounds_toArray, List.set_cons_zero, List.set_cons_succ]
        refine qw_call (v := .agg #[.int .u64 (hI Y), .int .u64 (lI Y)]) (f := 24) (args := #[.agg #[.int .u64 (hI Y), .int .u64 (lI Y), .int .i64 (M)]]) (by rfl) ?_ ?_ ?_
        · (intro w1 hC; clear hC; go_simp)
        · exact fun w1 hC => (KFQ w1).mono fun e w' ⟨he, hb⟩ => ⟨he, hC.keep hb⟩
        simp only [Act.put, List.setIfInBounds_toArray, List.set_cons_zero, List.set_cons_succ]
        refine qw_call (v := .int .i64 (e1)) (f := 23) (args := #[.agg #[.int .u64 (hI Lp), .int .u64 (lI Lp)], .agg #[.int .u64 (hI Y), .int .u64 (lI Y)]]) (by rfl) ?_ ?_ ?_
        · (intro w1 hC; clear hC; go_simp)
        · exact fun w1 hC => (KE1 w1).mono fun e w' ⟨he, hb⟩ => ⟨he, hC.keep hb⟩
        simp only [Act.put, List.setIfInBounds_toArray, List.set_cons_zero, List.set_cons_succ]
        refine qw_run (v := .bool false) (by rfl) ?_ ?_
        · (intro w1 hC; obtain ⟨⟨p0, p1, p2, -, -, -⟩, ⟨q0, q1, q2, -, -, -⟩, ⟨z0, z1, -, -, -⟩, -⟩ := hC; go_simp; first | done | (simp; done) | (simp [*]; done) | omega | (simp; omega) | (rw [IntKind.wrap_i64]; omega) | (intro hx; omega) | rfl)
        simp only [Act.put, List.setIfInBounds_toArray, List.set_cons_zero, List.set_cons_succ]
        refine qw_run (v := .bool false) (by rfl) ?_ ?_
        · (intro w1 hC; obtain ⟨⟨p0, p1, p2, -, -, -⟩, ⟨q0, q1, q2, -, -, -⟩, ⟨z0, z1, -, -, -⟩, -⟩ := hC; go_simp; first | done | (simp; done) | (simp [*]; done) | omega | (simp; omega) | (rw [IntKind.wrap_i64]; omega) | (intro hx; omega) | rfl)
        simp only [Act.put, List.setIfInBounds_toArray, List.set_cons_zero, List.set_cons_succ]
        refine qw_run (v := .int .i64 (F)) (by rfl) ?_ ?_
        · (intro w1 hC; obtain ⟨⟨p0, p1, p2, -, -, -⟩, ⟨q0, q1, q2, -, -, -⟩, ⟨z0, z1, -, -, -⟩, -⟩ := hC; go_simp; first | done | (simp; done) | (simp [*]; done) | omega | (simp; omega) | (rw [IntKind.wrap_i64]; omega) | (intro hx; omega) | rfl)
        simp only [Act.put, List.setIfInBounds_toArray, List.set_cons_zero, List.set_cons_succ]
        refine qw_run (v := .agg #[.int .u64 (hI Y), .int .u64 (lI Y), .int .i64 (M)]) (by rfl) ?_ ?_
        · (intro w1 hC; obtain ⟨⟨p0, p1, p2, -, -, -⟩, ⟨q0, q1, q2, -, -, -⟩, ⟨z0, z1, -, -, -⟩, -⟩ := hC; go_simp; first | done | (simp; done) | (simp [*]; done) | omega | (simp; omega) | (rw [IntKind.wrap_i64]; omega) | (intro hx; omega) | rfl)
        simp only [Act.put, List.setIfInBounds_toArray, List.set_cons_zero, List.set_cons_succ]
        refine qw_call (v := .agg #[.int .u64 (hI Lq), .int .u64 (lI Lq)]) (f := 25) (args := #[.int .i64 (F), .agg #[.int .u64 (hI Y), .int .u64 (lI Y), .int .i64 (M)]]) (by rfl) ?_ ?_ ?_
        · (intro w1 hC; clear hC; go_simp)
        · exact fun w1 hC => (KLQ w1).mono fun e w' ⟨he, hb⟩ => ⟨he, hC.keep hb⟩
        simp only [Act.put, List.setIfInBounds_toArray, List.set_cons_zero, List.set_cons_succ]
        refine qw_run (v := .agg #[.int .u64 (hI X), .int .u64 (lI X), .int .i64 (N)]) (by rfl) ?_ ?_
        · (intro w1 hC; obtain ⟨⟨p0, p1, p2, -, -, -⟩, ⟨q0, q1, q2, -, -, -⟩, ⟨z0, z1, -, -, -⟩, -⟩ := hC; go_simp; first | done | (simp; done) | (simp [*]; done) | omega | (simp; omega) | (rw [IntKind.wrap_i64]; omega) | (intro hx; omega) | rfl)
        simp only [Act.put, List.setIfInBounds_toArray, List.set_cons_zero, List.set_cons_succ]
        refine qw_call (v := .agg #[.int .u64 (hI X), .int .u64 (lI X)]) (f := 24) (args := #[.agg #[.int .u64 (hI X), .int .u64 (lI X), .int .i64 (N)]]) (by rfl) ?_ ?_ ?_
        · (intro w1 hC; clear hC; go_simp)
        · exact fun w1 hC => (KFP w1).mono fun e w' ⟨he, hb⟩ => ⟨he, hC.keep hb⟩
        simp only [Act.put, List.setIfInBounds_toArray, List.set_cons_zero, List.set_cons_succ]
        refine qw_call (v := .int .i64 (e2)) (f := 23) (args := #[.agg #[.int .u64 (hI Lq), .int .u64 (lI Lq)], .agg #[.int .u64 (hI X), .int .u64 (lI X)]]) (by rfl) ?_ ?_ ?_
        · (intro w1 hC; clear hC; go_simp)
        · exact fun w1 hC => (KE2 w1).mono fun e w' ⟨he, hb⟩ => ⟨he, hC.keep hb⟩
        simp only [Act.put, List.setIfInBounds_toArray, List.set_cons_zero, List.set_cons_succ]
        refine qw_run (v := .bool true) (by rfl) ?_ ?_
        · (intro w1 hC; obtain ⟨⟨p0, p1, p2, -, -, -⟩, ⟨q0, q1, q2, -, -, -⟩, ⟨z0, z1, -, -, -⟩, -⟩ := hC; go_simp; first | done | (simp; done) | (simp [*]; done) | omega | (simp; omega) | (rw [IntKind.wrap_i64]; omega) | (intro hx; omega) | rfl)
        simp only [Act.put, List.setIfInBounds_toArray, List.set_cons_zero, List.set_cons_succ]
        refine qw_run (v := .bool true) (by rfl) ?_ ?_
        · (intro w1 hC; obtain ⟨⟨p0, p1, p2, -, -, -⟩, ⟨q0, q1, q2, -, -, -⟩, ⟨z0, z1, -, -, -⟩, -⟩ := hC; go_simp; first | done | (simp; done) | (simp [*]; done) | omega | (simp; omega) | (rw [IntKind.wrap_i64]; omega) | (intro hx; omega) | rfl)
        simp only [Act.put, List.setIfInBounds_toArray, List.set_cons_zero, List.set_cons_succ]
        refine qw_run (v := .bool true) (by rfl) ?_ ?_
        · (intro w1 hC; obtain ⟨⟨p0, p1, p2, -, -, -⟩, ⟨q0, q1, q2, -, -, -⟩, ⟨z0, z1, -, -, -⟩, -⟩ := hC; go_simp; first | done | (simp; done) | (simp [*]; done) | omega | (simp; omega) | (rw [IntKind.wrap_i64]; omega) | (intro hx; omega) | rfl)
        simp only [Act.put, List.setIfInBounds_toArray, List.set_cons_zero, List.set_cons_succ]
        refine qw_nil ?_
        intro W7 hC
        · have h3 := H3.out
          clear H3
          obtain ⟨⟨p0, p1, p2, -, -, -⟩, ⟨q0, q1, q2, -, -, -⟩, ⟨z0, z1, -, -, -⟩, -⟩ := id hC
          simp at h3
          have heq1 : eq1 = false := by cases eq1 <;> simp_all
          rw [heq1] at hEq
          clear h3 heq1
          go_wp2_with fail
          clear p0 p1 p2 q0 q1 q2 z0 z1 hEq
          have hCe := hC.drew
          clear hC
          go_wp2_with fail
          refine qw_region (C := CA w a b X N Y M c) (by kernel_rfl) (by kernel_rfl) hCe ?_
          clear hCe
          refine qw_run (v := .bool false) (by rfl) ?_ ?_
          · (intro w1 hC; obtain ⟨⟨p0, p1, p2, -, -, -⟩, ⟨q0, q1, q2, -, -, -⟩, ⟨z0, z1, -, -, -⟩, -⟩ := hC; go_simp; first | done | (simp; done) | (simp [*]; done) | omega | (simp; omega) | (rw [IntKind.wrap_i64]; omega) | (intro hx; omega) | rfl)
          simp only [Act.put, List.setIfInBounds_toArray, List.set_cons_zero, List.set_cons_succ]
          refine qw_run (v := .bool false) (by rfl) ?_ ?_
          · (intro w1 hC; obtain ⟨⟨p0, p1, p2, -, -, -⟩, ⟨q0, q1, q2, -, -, -⟩, ⟨z0, z1, -, -, -⟩, -⟩ := hC; go_simp; first | done | (simp; done) | (simp [*]; done) | omega | (simp; omega) | (rw [IntKind.wrap_i64]; omega) | (intro hx; omega) | rfl)
          simp only [Act.put, List.setIfInBounds_toArray, List.set_cons_zero, List.set_cons_succ]
          refine qw_skip (by rfl) ?_
          simp only [Act.put, List.setIfInBounds_toArray, List.set_cons_zero, List.set_cons_succ]
          refine qw_skip (by rfl) ?_
          simp only [Act.put, List.setIfInBounds_toArray, List.set_cons_zero, List.set_cons_succ]
          refine qw_skip (by rfl) ?_
          simp only [Act.put, List.setIfInBounds_toArray, List.set_cons_zero, List.set_cons_succ]
          refine qw_skip (by rfl) ?_
          simp only [Act.put, List.setIfInBounds_toArray, List.set_cons_zero, List.set_cons_succ]
          refine qw_skip (by rfl) ?_
          simp only [Act.put, List.setIfInBounds_toArray, List.set_cons_zero, List.set_cons_succ]
          refine qw_skip (by rfl) ?_
          simp only [Act.put, List.setIfInBounds_toArray, List.set_cons_zero, List.set_cons_succ]
          refine qw_skip (by rfl) ?_
          simp only [Act.put, List.setIfInBounds_toArray, List.set_cons_zero, List.set_cons_succ]
          refine qw_skip (by rfl) ?_
          simp only [Act.put, List.setIfInBounds_toArray, List.set_cons_zero, List.set_cons_succ]
          refine qw_skip (by rfl) ?_
          simp only [Act.put, List.setIfInBounds_toArray, List.set_cons_zero, List.set_cons_succ]
          refine qw_skip (by rfl) ?_
          simp only [Act.put, List.setIfInBounds_toArray, List.set_cons_zero, List.set_cons_succ]
          refine qw_skip (by rfl) ?_
          simp only [Act.put, List.setIfInBounds_toArray, List.set_cons_zero, List.set_cons_succ]
          refine qw_skip (by rfl) ?_
          simp only [Act.put, List.setIfInBounds_toArray, List.set_cons_zero, List.set_cons_succ]
          refine qw_skip (by rfl) ?_
          simp only [Act.put, List.setIfInBounds_toArray, List.set_cons_zero, List.set_cons_succ]
          refine qw_skip (by rfl) ?_
          simp only [Act.put, List.setIfInBounds_toArray, List.set_cons_zero, List.set_cons_succ]
          refine qw_skip (by rfl) ?_
          simp only [Act.put, List.setIfInBounds_toArray, List.set_cons_zero, List.set_cons_succ]
          refine qw_skip (by rfl) ?_
          simp only [Act.put, List.setIfInBounds_toArray, List.set_cons_zero, List.set_cons_succ]
          refine qw_run (v := .bool false) (by rfl) ?_ ?_
          · (intro w1 hC; obtain ⟨⟨p0, p1, p2, -, -, -⟩, ⟨q0, q1, q2, -, -, -⟩, ⟨z0, z1, -, -, -⟩, -⟩ := hC; go_simp; first | done | (simp; done) | (simp [*]; done) | omega | (simp; omega) | (rw [IntKind.wrap_i64]; omega) | (intro hx; omega) | rfl)
          simp only [Act.put, List.setIfInBounds_toArray, List.set_cons_zero, List.set_cons_succ]
          refine qw_nil ?_
          intro W7 hC
          go_wp2
          go_ret
          exact ⟨rfl, hC.2.2.2⟩
      · have hap2 : decide (e2 < 0) = false := by rw [hap]; rfl
        have hap3 : ¬ e2 < 0 := by simpa using hap2
        clear hap hap2
        refine qw_region (C := CA w a b X N Y M c) (by kernel_rfl) (by kernel_rfl) hCd2 ?_
        clear hCd2
        refine qw_run (v := .int .i64 (F)) (by rfl) ?_ ?_
        · (intro w1 hC; obtain ⟨⟨p0, p1, p2, -, -, -⟩, ⟨q0, q1, q2, -, -, -⟩, ⟨z0, z1, -, -, -⟩, -⟩ := hC; go_simp; first | done | (simp; done) | (simp [*]; done) | omega | (simp; omega) | (rw [IntKind.wrap_i64]; omega) | (intro hx; omega) | rfl)
        simp only [Act.put, List.setIfInBounds_toArray, List.set_cons_zero, List.set_cons_succ]
        refine qw_run (v := .agg #[.int .u64 (hI X), .int .u64 (lI X), .int .i64 (N)]) (by rfl) ?_ ?_
        · (intro w1 hC; obtain ⟨⟨p0, p1, p2, -, -, -⟩, ⟨q0, q1, q2, -, -, -⟩, ⟨z0, z1, -, -, -⟩, -⟩ := hC; go_simp; first | done | (simp; done) | (simp [*]; done) | omega | (simp; omega) | (rw [IntKind.wrap_i64]; omega) | (intro hx; omega) | rfl)
        simp only [Act.put, List.setIfInBounds_toArray, List.set_cons_zero, List.set_cons_succ]
        refine qw_call (v := .agg #[.int .u64 (hI Lp), .int .u64 (lI Lp)]) (f := 25) (args := #[.int .i64 (F), .agg #[.int .u64 (hI X), .int .u64 (lI X), .int .i64 (N)]]) (by rfl) ?_ ?_ ?_
        · (intro w1 hC; clear hC; go_simp)
        · exact fun w1 hC => (KLP w1).mono fun e w' ⟨he, hb⟩ => ⟨he, hC.keep hb⟩
        simp only [Act.put, List.setIfInBounds_toArray, List.set_cons_zero, List.set_cons_succ]
        refine qw_run (v := .agg #[.int .u64 (hI Y), .int .u64 (lI Y), .int .i64 (M)]) (by rfl) ?_ ?_
        · (intro w1 hC; obtain ⟨⟨p0, p1, p2, -, -, -⟩, ⟨q0, q1, q2, -, -, -⟩, ⟨z0, z1, -, -, -⟩, -⟩ := hC; go_simp; first | done | (simp; done) | (simp [*]; done) | omega | (simp; omega) | (rw [IntKind.wrap_i64]; omega) | (intro hx; omega) | rfl)
        simp only [Act.put, List.setIfInBounds_toArray, List.set_cons_zero, List.set_cons_succ]
        refine qw_call (v := .agg #[.int .u64 (hI Y), .int .u64 (lI Y)]) (f := 24) (args := #[.agg #[.int .u64 (hI Y), .int .u64 (lI Y), .int .i64 (M)]]) (by rfl) ?_ ?_ ?_
        · (intro w1 hC; clear hC; go_simp)
        · exact fun w1 hC => (KFQ w1).mono fun e w' ⟨he, hb⟩ => ⟨he, hC.keep hb⟩
        simp only [Act.put, List.setIfInBounds_toArray, List.set_cons_zero, List.set_cons_succ]
        refine qw_call (v := .int .i64 (e1)) (f := 23) (args := #[.agg #[.int .u64 (hI Lp), .int .u64 (lI Lp)], .agg #[.int .u64 (hI Y), .int .u64 (lI Y)]]) (by rfl) ?_ ?_ ?_
        · (intro w1 hC; clear hC; go_simp)
        · exact fun w1 hC => (KE1 w1).mono fun e w' ⟨he, hb⟩ => ⟨he, hC.keep hb⟩
        simp only [Act.put, List.setIfInBounds_toArray, List.set_cons_zero, List.set_cons_succ]
        refine qw_run (v := .bool false) (by rfl) ?_ ?_
        · (intro w1 hC; obtain ⟨⟨p0, p1, p2, -, -, -⟩, ⟨q0, q1, q2, -, -, -⟩, ⟨z0, z1, -, -, -⟩, -⟩ := hC; go_simp; first | done | (simp; done) | (simp [*]; done) | omega | (simp; omega) | (rw [IntKind.wrap_i64]; omega) | (intro hx; omega) | rfl)
        simp only [Act.put, List.setIfInBounds_toArray, List.set_cons_zero, List.set_cons_succ]
        refine qw_run (v := .bool false) (by rfl) ?_ ?_
        · (intro w1 hC; obtain ⟨⟨p0, p1, p2, -, -, -⟩, ⟨q0, q1, q2, -, -, -⟩, ⟨z0, z1, -, -, -⟩, -⟩ := hC; go_simp; first | done | (simp; done) | (simp [*]; done) | omega | (simp; omega) | (rw [IntKind.wrap_i64]; omega) | (intro hx; omega) | rfl)
        simp only [Act.put, List.setIfInBounds_toArray, List.set_cons_zero, List.set_cons_succ]
        refine qw_run (v := .int .i64 (F)) (by rfl) ?_ ?_
        · (intro w1 hC; obtain ⟨⟨p0, p1, p2, -, -, -⟩, ⟨q0, q1, q2, -, -, -⟩, ⟨z0, z1, -, -, -⟩, -⟩ := hC; go_simp; first | done | (simp; done) | (simp [*]; done) | omega | (simp; omega) | (rw [IntKind.wrap_i64]; omega) | (intro hx; omega) | rfl)
        simp only [Act.put, List.setIfInBounds_toArray, List.set_cons_zero, List.set_cons_succ]
        refine qw_run (v := .agg #[.int .u64 (hI Y), .int .u64 (lI Y), .int .i64 (M)]) (by rfl) ?_ ?_
        · (intro w1 hC; obtain ⟨⟨p0, p1, p2, -, -, -⟩, ⟨q0, q1, q2, -, -, -⟩, ⟨z0, z1, -, -, -⟩, -⟩ := hC; go_simp; first | done | (simp; done) | (simp [*]; done) | omega | (simp; omega) | (rw [IntKind.wrap_i64]; omega) | (intro hx; omega) | rfl)
        simp only [Act.put, List.setIfInBounds_toArray, List.set_cons_zero, List.set_cons_succ]
        refine qw_call (v := .agg #[.int .u64 (hI Lq), .int .u64 (lI Lq)]) (f := 25) (args := #[.int .i64 (F), .agg #[.int .u64 (hI Y), .int .u64 (lI Y), .int .i64 (M)]]) (by rfl) ?_ ?_ ?_
        · (intro w1 hC; clear hC; go_simp)
        · exact fun w1 hC => (KLQ w1).mono fun e w' ⟨he, hb⟩ => ⟨he, hC.keep hb⟩
        simp only [Act.put, List.setIfInBounds_toArray, List.set_cons_zero, List.set_cons_succ]
        refine qw_run (v := .agg #[.int .u64 (hI X), .int .u64 (lI X), .int .i64 (N)]) (by rfl) ?_ ?_
        · (intro w1 hC; obtain ⟨⟨p0, p1, p2, -, -, -⟩, ⟨q0, q1, q2, -, -, -⟩, ⟨z0, z1, -, -, -⟩, -⟩ := hC; go_simp; first | done | (simp; done) | (simp [*]; done) | omega | (simp; omega) | (rw [IntKind.wrap_i64]; omega) | (intro hx; omega) | rfl)
        simp only [Act.put, List.setIfInBounds_toArray, List.set_cons_zero, List.set_cons_succ]
        refine qw_call (v := .agg #[.int .u64 (hI X), .int .u64 (lI X)]) (f := 24) (args := #[.agg #[.int .u64 (hI X), .int .u64 (lI X), .int .i64 (N)]]) (by rfl) ?_ ?_ ?_
        · (intro w1 hC; clear hC; go_simp)
        · exact fun w1 hC => (KFP w1).mono fun e w' ⟨he, hb⟩ => ⟨he, hC.keep hb⟩
        simp only [Act.put, List.setIfInBounds_toArray, List.set_cons_zero, List.set_cons_succ]
        refine qw_call (v := .int .i64 (e2)) (f := 23) (args := #[.agg #[.int .u64 (hI Lq), .int .u64 (lI Lq)], .agg #[.int .u64 (hI X), .int .u64 (lI X)]]) (by rfl) ?_ ?_ ?_
        · (intro w1 hC; clear hC; go_simp)
        · exact fun w1 hC => (KE2 w1).mono fun e w' ⟨he, hb⟩ => ⟨he, hC.keep hb⟩
        simp only [Act.put, List.setIfInBounds_toArray, List.set_cons_zero, List.set_cons_succ]
        refine qw_run (v := .bool false) (by rfl) ?_ ?_
        · (intro w1 hC; obtain ⟨⟨p0, p1, p2, -, -, -⟩, ⟨q0, q1, q2, -, -, -⟩, ⟨z0, z1, -, -, -⟩, -⟩ := hC; go_simp; first | done | (simp; done) | (simp [*]; done) | omega | (simp; omega) | (rw [IntKind.wrap_i64]; omega) | (intro hx; omega) | rfl)
        simp only [Act.put, List.setIfInBounds_toArray, List.set_cons_zero, List.set_cons_succ]
        refine qw_run (v := .bool false) (by rfl) ?_ ?_
        · (intro w1 hC; obtain ⟨⟨p0, p1, p2, -, -, -⟩, ⟨q0, q1, q2, -, -, -⟩, ⟨z0, z1, -, -, -⟩, -⟩ := hC; go_simp; first | done | (simp; done) | (simp [*]; done) | omega | (simp; omega) | (rw [IntKind.wrap_i64]; omega) | (intro hx; omega) | rfl)
        simp only [Act.put, List.setIfInBounds_toArray, List.set_cons_zero, List.set_cons_succ]
        refine qw_run (v := .bool false) (by rfl) ?_ ?_
        · (intro w1 hC; obtain ⟨⟨p0, p1, p2, -, -, -⟩, ⟨q0, q1, q2, -, -, -⟩, ⟨z0, z1, -, -, -⟩, -⟩ := hC; go_simp; first | done | (simp; done) | (simp [*]; done) | omega | (simp; omega) | (rw [IntKind.wrap_i64]; omega) | (intro hx; omega) | rfl)
        simp only [Act.put, List.setIfInBounds_toArray, List.set_cons_zero, List.set_cons_succ]
        refine qw_nil ?_
        intro W7 hC
        · have h3 := H3.out
          clear H3
          obtain ⟨⟨p0, p1, p2, -, -, -⟩, ⟨q0, q1, q2, -, -, -⟩, ⟨z0, z1, -, -, -⟩, -⟩ := id hC
          simp at h3
          have heq1 : eq1 = false := by cases eq1 <;> simp_all
          rw [heq1] at hEq
          clear h3 heq1
          go_wp2_with fail
          clear p0 p1 p2 q0 q1 q2 z0 z1 hEq
          have hCe := hC.drew
          clear hC
          go_wp2_with fail
          refine qw_region (C := CA w a b X N Y M c) (by kernel_rfl) (by kernel_rfl) hCe ?_
          clear hCe
          refine qw_run (v := .bool false) (by rfl) ?_ ?_
          · (intro w1 hC; obtain ⟨⟨p0, p1, p2, -, -, -⟩, ⟨q0, q1, q2, -, -, -⟩, ⟨z0, z1, -, -, -⟩, -⟩ := hC; go_simp; first | done | (simp; done) | (simp [*]; done) | omega | (simp; omega) | (rw [IntKind.wrap_i64]; omega) | (intro hx; omega) | rfl)
          simp only [Act.put, List.setIfInBounds_toArray, List.set_cons_zero, List.set_cons_succ]
          refine qw_run (v := .bool false) (by rfl) ?_ ?_
          · (intro w1 hC; obtain ⟨⟨p0, p1, p2, -, -, -⟩, ⟨q0, q1, q2, -, -, -⟩, ⟨z0, z1, -, -, -⟩, -⟩ := hC; go_simp; first | done | (simp; done) | (simp [*]; done) | omega | (simp; omega) | (rw [IntKind.wrap_i64]; omega) | (intro hx; omega) | rfl)
          simp only [Act.put, List.setIfInBounds_toArray, List.set_cons_zero, List.set_cons_succ]
          refine qw_skip (by rfl) ?_
          simp only [Act.put, List.setIfInBounds_toArray, List.set_cons_zero, List.set_cons_succ]
          refine qw_skip (by rfl) ?_
          simp only [Act.put, List.setIfInBounds_toArray, List.set_cons_zero, List.set_cons_succ]
          refine qw_skip (by rfl) ?_
          simp only [Act.put, List.setIfInBounds_toArray, List.set_cons_zero, List.set_cons_succ]
          refine qw_skip (by rfl) ?_
          simp only [Act.put, List.setIfInBounds_toArray, List.set_cons_zero, List.set_cons_succ]
          refine qw_skip (by rfl) ?_
          simp only [Act.put, List.setIfInBounds_toArray, List.set_cons_zero, List.set_cons_succ]
          refine qw_skip (by rfl) ?_
          simp only [Act.put, List.setIfInBounds_toArray, List.set_cons_zero, List.set_cons_succ]
          refine qw_skip (by rfl) ?_
          simp only [Act.put, List.setIfInBounds_toArray, List.set_cons_zero, List.set_cons_succ]
          refine qw_skip (by rfl) ?_
          simp only [Act.put, List.setIfInBounds_toArray, List.set_cons_zero, List.set_cons_succ]
          refine qw_skip (by rfl) ?_
          simp only [Act.put, List.setIfInBounds_toArray, List.set_cons_zero, List.set_cons_succ]
          refine qw_skip (by rfl) ?_
          simp only [Act.put, List.setIfInBounds_toArray, List.set_cons_zero, List.set_cons_succ]
          refine qw_skip (by rfl) ?_
          simp only [Act.put, List.setIfInBounds_toArray, List.set_cons_zero, List.set_cons_succ]
          refine qw_skip (by rfl) ?_
          simp only [Act.put, List.setIfInBounds_toArray, List.set_cons_zero, List.set_cons_succ]
          refine qw_skip (by rfl) ?_
          simp only [Act.put, List.setIfInBounds_toArray, List.set_cons_zero, List.set_cons_succ]
          refine qw_skip (by rfl) ?_
          simp only [Act.put, List.setIfInBounds_toArray, List.set_cons_zero, List.set_cons_succ]
          refine qw_skip (by rfl) ?_
          simp only [Act.put, List.setIfInBounds_toArray, List.set_cons_zero, List.set_cons_succ]
          refine qw_skip (by rfl) ?_
          simp only [Act.put, List.setIfInBounds_toArray, List.set_cons_zero, List.set_cons_succ]
          refine qw_run (v := .bool false) (by rfl) ?_ ?_
          · (intro w1 hC; obtain ⟨⟨p0, p1, p2, -, -, -⟩, ⟨q0, q1, q2, -, -, -⟩, ⟨z0, z1, -, -, -⟩, -⟩ := hC; go_simp; first | done | (simp; done) | (simp [*]; done) | omega | (simp; omega) | (rw [IntKind.wrap_i64]; omega) | (intro hx; omega) | rfl)
          simp only [Act.put, List.setIfInBounds_toArray, List.set_cons_zero, List.set_cons_succ]
          refine qw_nil ?_
          intro W7 hC
          go_wp2
          go_ret
          exact ⟨rfl, hC.2.2.2⟩
      · have hap2 : decide (e2 < 0) = false := by rw [hap]; rfl
        have hap3 : ¬ e2 < 0 := by simpa using hap2
        clear hap hap2
        refine qw_region (C := CA w a b X N Y M c) (by kernel_rfl) (by kernel_rfl) hCd2 ?_
        clear hCd2
        refine qw_run (v := .int .i64 (F)) (by rfl) ?_ ?_
        · (intro w1 hC; obtain ⟨⟨p0, p1, p2, -, -, -⟩, ⟨q0, q1, q2, -, -, -⟩, ⟨z0, z1, -, -, -⟩, -⟩ := hC; go_simp; first | done | (simp; done) | (simp [*]; done) | omega | (simp; omega) | (rw [IntKind.wrap_i64]; omega) | (intro hx; omega) | rfl)
        simp only [Act.put, List.setIfInBounds_toArray, List.set_cons_zero, List.set_cons_succ]
        refine qw_run (v := .agg #[.int .u64 (hI X), .int .u64 (lI X), .int .i64 (N)]) (by rfl) ?_ ?_
        · (intro w1 hC; obtain ⟨⟨p0, p1, p2, -, -, -⟩, ⟨q0, q1, q2, -, -, -⟩, ⟨z0, z1, -, -, -⟩, -⟩ := hC; go_simp; first | done | (simp; done) | (simp [*]; done) | omega | (simp; omega) | (rw [IntKind.wrap_i64]; omega) | (intro hx; omega) | rfl)
        simp only [Act.put, List.setIfInBounds_toArray, List.set_cons_zero, List.set_cons_succ]
        refine qw_call (v := .agg #[.int .u64 (hI Lp), .int .u64 (lI Lp)]) (f := 25) (args := #[.int .i64 (F), .agg #[.int .u64 (hI X), .int .u64 (lI X), .int .i64 (N)]]) (by rfl) ?_ ?_ ?_
        · (intro w1 hC; clear hC; go_simp)
        · exact fun w1 hC => (KLP w1).mono fun e w' ⟨he, hb⟩ => ⟨he, hC.keep hb⟩
        simp only [Act.put, List.setIfInBounds_toArray, List.set_cons_zero, List.set_cons_succ]
        refine qw_run (v := .agg #[.int .u64 (hI Y), .int .u64 (lI Y), .int .i64 (M)]) (by rfl) ?_ ?_
        · (intro w1 hC; obtain ⟨⟨p0, p1, p2, -, -, -⟩, ⟨q0, q1, q2, -, -, -⟩, ⟨z0, z1, -, -, -⟩, -⟩ := hC; go_simp; first | done | (simp; done) | (simp [*]; done) | omega | (simp; omega) | (rw [IntKind.wrap_i64]; omega) | (intro hx; omega) | rfl)
        simp only [Act.put, List.setIfInBounds_toArray, List.set_cons_zero, List.set_cons_succ]
        refine qw_call (v := .agg #[.int .u64 (hI Y), .int .u64 (lI Y)]) (f := 24) (args := #[.agg #[.int .u64 (hI Y), .int .u64 (lI Y), .int .i64 (M)]]) (by rfl) ?_ ?_ ?_
        · (intro w1 hC; clear hC; go_simp)
        · exact fun w1 hC => (KFQ w1).mono fun e w' ⟨he, hb⟩ => ⟨he, hC.keep hb⟩
        simp only [Act.put, List.setIfInBounds_toArray, List.set_cons_zero, List.set_cons_succ]
        refine qw_call (v := .int .i64 (e1)) (f := 23) (args := #[.agg #[.int .u64 (hI Lp), .int .u64 (lI Lp)], .agg #[.int .u64 (hI Y), .int .u64 (lI Y)]]) (by rfl) ?_ ?_ ?_
        · (intro w1 hC; clear hC; go_simp)
        · exact fun w1 hC => (KE1 w1).mono fun e w' ⟨he, hb⟩ => ⟨he, hC.keep hb⟩
        simp only [Act.put, List.setIfInBounds_toArray, List.set_cons_zero, List.set_cons_succ]
        refine qw_run (v := .bool false) (by rfl) ?_ ?_
        · (intro w1 hC; obtain ⟨⟨p0, p1, p2, -, -, -⟩, ⟨q0, q1, q2, -, -, -⟩, ⟨z0, z1, -, -, -⟩, -⟩ := hC; go_simp; first | done | (simp; done) | (simp [*]; done) | omega | (simp; omega) | (rw [IntKind.wrap_i64]; omega) | (intro hx; omega) | rfl)
        simp only [Act.put, List.setIfInBounds_toArray, List.set_cons_zero, List.set_cons_succ]
        refine qw_run (v := .bool false) (by rfl) ?_ ?_
        · (intro w1 hC; obtain ⟨⟨p0, p1, p2, -, -, -⟩, ⟨q0, q1, q2, -, -, -⟩, ⟨z0, z1, -, -, -⟩, -⟩ := hC; go_simp; first | done | (simp; done) | (simp [*]; done) | omega | (simp; omega) | (rw [IntKind.wrap_i64]; omega) | (intro hx; omega) | rfl)
        simp only [Act.put, List.setIfInBounds_toArray, List.set_cons_zero, List.set_cons_succ]
        refine qw_run (v := .int .i64 (F)) (by rfl) ?_ ?_
        · (intro w1 hC; obtain ⟨⟨p0, p1, p2, -, -, -⟩, ⟨q0, q1, q2, -, -, -⟩, ⟨z0, z1, -, -, -⟩, -⟩ := hC; go_simp; first | done | (simp; done) | (simp [*]; done) | omega | (simp; omega) | (rw [IntKind.wrap_i64]; omega) | (intro hx; omega) | rfl)
        simp only [Act.put, List.setIfInBounds_toArray, List.set_cons_zero, List.set_cons_succ]
        refine qw_run (v := .agg #[.int .u64 (hI Y), .int .u64 (lI Y), .int .i64 (M)]) (by rfl) ?_ ?_
        · (intro w1 hC; obtain ⟨⟨p0, p1, p2, -, -, -⟩, ⟨q0, q1, q2, -, -, -⟩, ⟨z0, z1, -, -, -⟩, -⟩ := hC; go_simp; first | done | (simp; done) | (simp [*]; done) | omega | (simp; omega) | (rw [IntKind.wrap_i64]; omega) | (intro hx; omega) | rfl)
        simp only [Act.put, List.setIfInBounds_toArray, List.set_cons_zero, List.set_cons_succ]
        refine qw_call (v := .agg #[.int .u64 (hI Lq), .int .u64 (lI Lq)]) (f := 25) (args := #[.int .i64 (F), .agg #[.int .u64 (hI Y), .int .u64 (lI Y), .int .i64 (M)]]) (by rfl) ?_ ?_ ?_
        · (intro w1 hC; clear hC; go_simp)
        · exact fun w1 hC => (KLQ w1).mono fun e w' ⟨he, hb⟩ => ⟨he, hC.keep hb⟩
        simp only [Act.put, List.setIfInBounds_toArray, List.set_cons_zero, List.set_cons_succ]
        refine qw_run (v := .agg #[.int .u64 (hI X), .int .u64 (lI X), .int .i64 (N)]) (by rfl) ?_ ?_
        · (intro w1 hC; obtain ⟨⟨p0, p1, p2, -, -, -⟩, ⟨q0, q1, q2, -, -, -⟩, ⟨z0, z1, -, -, -⟩, -⟩ := hC; go_simp; first | done | (simp; done) | (simp [*]; done) | omega | (simp; omega) | (rw [IntKind.wrap_i64]; omega) | (intro hx; omega) | rfl)
        simp only [Act.put, List.setIfInBounds_toArray, List.set_cons_zero, List.set_cons_succ]
        refine qw_call (v := .agg #[.int .u64 (hI X), .int .u64 (lI X)]) (f := 24) (args := #[.agg #[.int .u64 (hI X), .int .u64 (lI X), .int .i64 (N)]]) (by rfl) ?_ ?_ ?_
        · (intro w1 hC; clear hC; go_simp)
        · exact fun w1 hC => (KFP w1).mono fun e w' ⟨he, hb⟩ => ⟨he, hC.keep hb⟩
        simp only [Act.put, List.setIfInBounds_toArray, List.set_cons_zero, List.set_cons_succ]
        refine qw_call (v := .int .i64 (e2)) (f := 23) (args := #[.agg #[.int .u64 (hI Lq), .int .u64 (lI Lq)], .agg #[.int .u64 (hI X), .int .u64 (lI X)]]) (by rfl) ?_ ?_ ?_
        · (intro w1 hC; clear hC; go_simp)
        · exact fun w1 hC => (KE2 w1).mono fun e w' ⟨he, hb⟩ => ⟨he, hC.keep hb⟩
        simp only [Act.put, List.setIfInBounds_toArray, List.set_cons_zero, List.set_cons_succ]
        refine qw_run (v := .bool false) (by rfl) ?_ ?_
        · (intro w1 hC; obtain ⟨⟨p0, p1, p2, -, -, -⟩, ⟨q0, q1, q2, -, -, -⟩, ⟨z0, z1, -, -, -⟩, -⟩ := hC; go_simp; first | done | (simp; done) | (simp [*]; done) | omega | (simp; omega) | (rw [IntKind.wrap_i64]; omega) | (intro hx; omega) | rfl)
        simp only [Act.put, List.setIfInBounds_toArray, List.set_cons_zero, List.set_cons_succ]
        refine qw_run (v := .bool false) (by rfl) ?_ ?_
        · (intro w1 hC; obtain ⟨⟨p0, p1, p2, -, -, -⟩, ⟨q0, q1, q2, -, -, -⟩, ⟨z0, z1, -, -, -⟩, -⟩ := hC; go_simp; first | done | (simp; done) | (simp [*]; done) | omega | (simp; omega) | (rw [IntKind.wrap_i64]; omega) | (intro hx; omega) | rfl)
        simp only [Act.put, List.setIfInBounds_toArray, List.set_cons_zero, List.set_cons_succ]
        refine qw_run (v := .bool false) (by rfl) ?_ ?_
        · (intro w1 hC; obtain ⟨⟨p0, p1, p2, -, -, -⟩, ⟨q0, q1, q2, -, -, -⟩, ⟨z0, z1, -, -, -⟩, -⟩ := hC; go_simp; first | done | (simp; done) | (simp [*]; done) | omega | (simp; omega) | (rw [IntKind.wrap_i64]; omega) | (intro hx; omega) | rfl)
        simp only [Act.put, List.setIfInBounds_toArray, List.set_cons_zero, List.set_cons_succ]
        refine qw_nil ?_
        intro W7 hC
        · have h3 := H3.out
          clear H3
          obtain ⟨⟨p0, p1, p2, -, -, -⟩, ⟨q0, q1, q2, -, -, -⟩, ⟨z0, z1, -, -, -⟩, -⟩ := id hC
          simp at h3
          have heq1 : eq1 = false := by cases eq1 <;> simp_all
          rw [heq1] at hEq
          clear h3 heq1
          go_wp2_with fail
          clear p0 p1 p2 q0 q1 q2 z0 z1 hEq
          have hCe := hC.drew
          clear hC
          go_wp2_with fail
          obtain ⟨hg1, hg2⟩ := H4.out (by simp)
          refine qw_region (C := CA w a b X N Y M c) (by kernel_rfl) (by kernel_rfl) hCe ?_
          clear hCe
          refine qw_run (v := .bool true) (by rfl) ?_ ?_
          · (intro w1 hC; obtain ⟨⟨p0, p1, p2, -, -, -⟩, ⟨q0, q1, q2, -, -, -⟩, ⟨z0, z1, -, -, -⟩, -⟩ := hC; go_simp; first | done | (simp; done) | (simp [*]; done) | omega | (simp; omega) | (rw [IntKind.wrap_i64]; omega) | (intro hx; omega) | rfl)
          simp only [Act.put, List.setIfInBounds_toArray, List.set_cons_zero, List.set_cons_succ]
          refine qw_run (v := .bool true) (by rfl) ?_ ?_
          · (intro w1 hC; obtain ⟨⟨p0, p1, p2, -, -, -⟩, ⟨q0, q1, q2, -, -, -⟩, ⟨z0, z1, -, -, -⟩, -⟩ := hC; go_simp; first | done | (simp; done) | (simp [*]; done) | omega | (simp; omega) | (rw [IntKind.wrap_i64]; omega) | (intro hx; omega) | rfl)
          simp only [Act.put, List.setIfInBounds_toArray, List.set_cons_zero, List.set_cons_succ]
          refine qw_run (v := .agg #[.int .u64 (hI Y), .int .u64 (lI Y), .int .i64 (M)]) (by rfl) ?_ ?_
          · (intro w1 hC; obtain ⟨⟨p0, p1, p2, -, -, -⟩, ⟨q0, q1, q2, -, -, -⟩, ⟨z0, z1, -, -, -⟩, -⟩ := hC; go_simp; first | done | (simp; done) | (simp [*]; done) | omega | (simp; omega) | (rw [IntKind.wrap_i64]; omega) | (intro hx; omega) | rfl)
          simp only [Act.put, List.setIfInBounds_toArray, List.set_cons_zero, List.set_cons_succ]
          refine qw_call (v := .agg #[.int .u64 (hI Y), .int .u64 (lI Y)]) (f := 24) (args := #[.agg #[.int .u64 (hI Y), .int .u64 (lI Y), .int .i64 (M)]]) (by rfl) ?_ ?_ ?_
          · (intro w1 hC; clear hC; go_simp)
          · exact fun w1 hC => (KFQ w1).mono fun e w' ⟨he, hb⟩ => ⟨he, hC.keep hb⟩
          simp only [Act.put, List.setIfInBounds_toArray, List.set_cons_zero, List.set_cons_succ]
          refine qw_run (v := .agg #[.int .u64 (hI X), .int .u64 (lI X), .int .i64 (N)]) (by rfl) ?_ ?_
          · (intro w1 hC; obtain ⟨⟨p0, p1, p2, -, -, -⟩, ⟨q0, q1, q2, -, -, -⟩, ⟨z0, z1, -, -, -⟩, -⟩ := hC; go_simp; first | done | (simp; done) | (simp [*]; done) | omega | (simp; omega) | (rw [IntKind.wrap_i64]; omega) | (intro hx; omega) | rfl)
          simp only [Act.put, List.setIfInBounds_toArray, List.set_cons_zero, List.set_cons_succ]
          refine qw_call (v := .agg #[.int .u64 (hI X), .int .u64 (lI X)]) (f := 24) (args := #[.agg #[.int .u64 (hI X), .int .u64 (lI X), .int .i64 (N)]]) (by rfl) ?_ ?_ ?_
          · (intro w1 hC; clear hC; go_simp)
          · exact fun w1 hC => (KFP w1).mono fun e w' ⟨he, hb⟩ => ⟨he, hC.keep hb⟩
          simp only [Act.put, List.setIfInBounds_toArray, List.set_cons_zero, List.set_cons_succ]
          refine qw_call (v := .int .i64 (g1)) (f := 23) (args := #[.agg #[.int .u64 (hI Y), .int .u64 (lI Y)], .agg #[.int .u64 (hI X), .int .u64 (lI X)]]) (by rfl) ?_ ?_ ?_
          · (intro w1 hC; clear hC; go_simp)
          · exact fun w1 hC => (KG1 w1).mono fun e w' ⟨he, hb⟩ => ⟨he, hC.keep hb⟩
          simp only [Act.put, List.setIfInBounds_toArray, List.set_cons_zero, List.set_cons_succ]
          refine qw_run (v := .bool false) (by rfl) ?_ ?_
          · (intro w1 hC; obtain ⟨⟨p0, p1, p2, -, -, -⟩, ⟨q0, q1, q2, -, -, -⟩, ⟨z0, z1, -, -, -⟩, -⟩ := hC; go_simp; first | done | (simp; done) | (simp [*]; done) | omega | (simp; omega) | (rw [IntKind.wrap_i64]; omega) | (intro hx; omega) | rfl)
          simp only [Act.put, List.setIfInBounds_toArray, List.set_cons_zero, List.set_cons_succ]
          refine qw_run (v := .bool false) (by rfl) ?_ ?_
          · (intro w1 hC; obtain ⟨⟨p0, p1, p2, -, -, -⟩, ⟨q0, q1, q2, -, -, -⟩, ⟨z0, z1, -, -, -⟩, -⟩ := hC; go_simp; first | done | (simp; done) | (simp [*]; done) | omega | (simp; omega) | (rw [IntKind.wrap_i64]; omega) | (intro hx; omega) | rfl)
          simp only [Act.put, List.setIfInBounds_toArray, List.set_cons_zero, List.set_cons_succ]
          refine qw_run (v := .int .i64 (F)) (by rfl) ?_ ?_
          · (intro w1 hC; obtain ⟨⟨p0, p1, p2, -, -, -⟩, ⟨q0, q1, q2, -, -, -⟩, ⟨z0, z1, -, -, -⟩, -⟩ := hC; go_simp; first | done | (simp; done) | (simp [*]; done) | omega | (simp; omega) | (rw [IntKind.wrap_i64]; omega) | (intro hx; omega) | rfl)
          simp only [Act.put, List.setIfInBounds_toArray, List.set_cons_zero, List.set_cons_succ]
          refine qw_run (v := .agg #[.int .u64 (hI X), .int .u64 (lI X), .int .i64 (N)]) (by rfl) ?_ ?_
          · (intro w1 hC; obtain ⟨⟨p0, p1, p2, -, -, -⟩, ⟨q0, q1, q2, -, -, -⟩, ⟨z0, z1, -, -, -⟩, -⟩ := hC; go_simp; first | done | (simp; done) | (simp [*]; done) | omega | (simp; omega) | (rw [IntKind.wrap_i64]; omega) | (intro hx; omega) | rfl)
          simp only [Act.put, List.setIfInBounds_toArray, List.set_cons_zero, List.set_cons_succ]
          refine qw_call (v := .agg #[.int .u64 (hI Lp), .int .u64 (lI Lp)]) (f := 25) (args := #[.int .i64 (F), .agg #[.int .u64 (hI X), .int .u64 (lI X), .int .i64 (N)]]) (by rfl) ?_ ?_ ?_
          · (intro w1 hC; clear hC; go_simp)
          · exact fun w1 hC => (KLP w1).mono fun e w' ⟨he, hb⟩ => ⟨he, hC.keep hb⟩
          simp only [Act.put, List.setIfInBounds_toArray, List.set_cons_zero, List.set_cons_succ]
          refine qw_run (v := .int .i64 (F)) (by rfl) ?_ ?_
          · (intro w1 hC; obtain ⟨⟨p0, p1, p2, -, -, -⟩, ⟨q0, q1, q2, -, -, -⟩, ⟨z0, z1, -, -, -⟩, -⟩ := hC; go_simp; first | done | (simp; done) | (simp [*]; done) | omega | (simp; omega) | (rw [IntKind.wrap_i64]; omega) | (intro hx; omega) | rfl)
          simp only [Act.put, List.setIfInBounds_toArray, List.set_cons_zero, List.set_cons_succ]
          refine qw_run (v := .agg #[.int .u64 (hI Y), .int .u64 (lI Y), .int .i64 (M)]) (by rfl) ?_ ?_
          · (intro w1 hC; obtain ⟨⟨p0, p1, p2, -, -, -⟩, ⟨q0, q1, q2, -, -, -⟩, ⟨z0, z1, -, -, -⟩, -⟩ := hC; go_simp; first | done | (simp; done) | (simp [*]; done) | omega | (simp; omega) | (rw [IntKind.wrap_i64]; omega) | (intro hx; omega) | rfl)
          simp only [Act.put, List.setIfInBounds_toArray, List.set_cons_zero, List.set_cons_succ]
          refine qw_call (v := .agg #[.int .u64 (hI Lq), .int .u64 (lI Lq)]) (f := 25) (args := #[.int .i64 (F), .agg #[.int .u64 (hI Y), .int .u64 (lI Y), .int .i64 (M)]]) (by rfl) ?_ ?_ ?_
          · (intro w1 hC; clear hC; go_simp)
          · exact fun w1 hC => (KLQ w1).mono fun e w' ⟨he, hb⟩ => ⟨he, hC.keep hb⟩
          simp only [Act.put, List.setIfInBounds_toArray, List.set_cons_zero, List.set_cons_succ]
          refine qw_call (v := .int .i64 (g2)) (f := 23) (args := #[.agg #[.int .u64 (hI Lp), .int .u64 (lI Lp)], .agg #[.int .u64 (hI Lq), .int .u64 (lI Lq)]]) (by rfl) ?_ ?_ ?_
          · (intro w1 hC; clear hC; go_simp)
          · exact fun w1 hC => (KG2 w1).mono fun e w' ⟨he, hb⟩ => ⟨he, hC.keep hb⟩
          simp only [Act.put, List.setIfInBounds_toArray, List.set_cons_zero, List.set_cons_succ]
          refine qw_run (v := .bool false) (by rfl) ?_ ?_
          · (intro w1 hC; obtain ⟨⟨p0, p1, p2, -, -, -⟩, ⟨q0, q1, q2, -, -, -⟩, ⟨z0, z1, -, -, -⟩, -⟩ := hC; go_simp; first | done | (simp; done) | (simp [*]; done) | omega | (simp; omega) | (rw [IntKind.wrap_i64]; omega) | (intro hx; omega) | rfl)
          simp only [Act.put, List.setIfInBounds_toArray, List.set_cons_zero, List.set_cons_succ]
          refine qw_run (v := .bool false) (by rfl) ?_ ?_
          · (intro w1 hC; obtain ⟨⟨p0, p1, p2, -, -, -⟩, ⟨q0, q1, q2, -, -, -⟩, ⟨z0, z1, -, -, -⟩, -⟩ := hC; go_simp; first | done | (simp; done) | (simp [*]; done) | omega | (simp; omega) | (rw [IntKind.wrap_i64]; omega) | (intro hx; omega) | rfl)
          simp only [Act.put, List.setIfInBounds_toArray, List.set_cons_zero, List.set_cons_succ]
          refine qw_run (v := .bool false) (by rfl) ?_ ?_
          · (intro w1 hC; obtain ⟨⟨p0, p1, p2, -, -, -⟩, ⟨q0, q1, q2, -, -, -⟩, ⟨z0, z1, -, -, -⟩, -⟩ := hC; go_simp; first | done | (simp; done) | (simp [*]; done) | omega | (simp; omega) | (rw [IntKind.wrap_i64]; omega) | (intro hx; omega) | rfl)
          simp only [Act.put, List.setIfInBounds_toArray, List.set_cons_zero, List.set_cons_succ]
          refine qw_nil ?_
          intro W7 hC
          obtain ⟨⟨p0, p1, p2, -, -, -⟩, ⟨q0, q1, q2, -, -, -⟩, ⟨z0, z1, -, -, -⟩, -⟩ := id hC
          go_wp2_with fail
          refine (KH _).mono ?_
          rintro e W' ⟨rfl, hb⟩
          replace hC := hC.keep hb
          clear p0 p1 p2 q0 q1 q2 z0 z1 hb
          cases h
          · go_wp2
            go_ret
            exact ⟨rfl, hC.2.2.2⟩
          · have hhq := H5.out (by simp) (by simp)
            rw [hhq] at KHq
            obtain ⟨⟨p0, p1, p2, -, -, -⟩, ⟨q0, q1, q2, -, -, -⟩, ⟨z0, z1, -, -, -⟩, -⟩ := id hC
            go_wp2_with fail
            refine (KHq _).mono ?_
            rintro e W' ⟨rfl, hb⟩
            replace hC := hC.keep hb
            clear p0 p1 p2 q0 q1 q2 z0 z1 hb
            go_wp2
            go_ret
            exact ⟨rfl, hC.2.2.2⟩
      · have hap2 : decide (e2 < 0) = false := by rw [hap]; rfl
        have hap3 : ¬ e2 < 0 := by simpa using hap2
        clear hap hap2
        refine qw_region (C := CA w a b X N Y M c) (by kernel_rfl) (by kernel_rfl) hCd2 ?_
        clear hCd2
        refine qw_run (v := .int .i64 (F)) (by rfl) ?_ ?_
        · (intro w1 hC; obtain ⟨⟨p0, p1, p2, -, -, -⟩, ⟨q0, q1, q2, -, -, -⟩, ⟨z0, z1, -, -, -⟩, -⟩ := hC; go_simp; first | done | (simp; done) | (simp [*]; done) | omega | (simp; omega) | (rw [IntKind.wrap_i64]; omega) | (intro hx; omega) | rfl)
        simp only [Act.put, List.setIfInBounds_toArray, List.set_cons_zero, List.set_cons_succ]
        refine qw_run (v := .agg #[.int .u64 (hI X), .int .u64 (lI X), .int .i64 (N)]) (by rfl) ?_ ?_
        · (intro w1 hC; obtain ⟨⟨p0, p1, p2, -, -, -⟩, ⟨q0, q1, q2, -, -, -⟩, ⟨z0, z1, -, -, -⟩, -⟩ := hC; go_simp; first | done | (simp; done) | (simp [*]; done) | omega | (simp; omega) | (rw [IntKind.wrap_i64]; omega) | (intro hx; omega) | rfl)
        simp only [Act.put, List.setIfInBounds_toArray, List.set_cons_zero, List.set_cons_succ]
        refine qw_call (v := .agg #[.int .u64 (hI Lp), .int .u64 (lI Lp)]) (f := 25) (args := #[.int .i64 (F), .agg #[.int .u64 (hI X), .int .u64 (lI X), .int .i64 (N)]]) (by rfl) ?_ ?_ ?_
        · (intro w1 hC; clear hC; go_simp)
        · exact fun w1 hC => (KLP w1).mono fun e w' ⟨he, hb⟩ => ⟨he, hC.keep hb⟩
        simp only [Act.put, List.setIfInBounds_toArray, List.set_cons_zero, List.set_cons_succ]
        refine qw_run (v := .agg #[.int .u64 (hI Y), .int .u64 (lI Y), .int .i64 (M)]) (by rfl) ?_ ?_
        · (intro w1 hC; obtain ⟨⟨p0, p1, p2, -, -, -⟩, ⟨q0, q1, q2, -, -, -⟩, ⟨z0, z1, -, -, -⟩, -⟩ := hC; go_simp; first | done | (simp; done) | (simp [*]; done) | omega | (simp; omega) | (rw [IntKind.wrap_i64]; omega) | (intro hx; omega) | rfl)
        simp only [Act.put, List.setIfInBounds_toArray, List.set_cons_zero, List.set_cons_succ]
        refine qw_call (v := .agg #[.int .u64 (hI Y), .int .u64 (lI Y)]) (f := 24) (args := #[.agg #[.int .u64 (hI Y), .int .u64 (lI Y), .int .i64 (M)]]) (by rfl) ?_ ?_ ?_
        · (intro w1 hC; clear hC; go_simp)
        · exact fun w1 hC => (KFQ w1).mono fun e w' ⟨he, hb⟩ => ⟨he, hC.keep hb⟩
        simp only [Act.put, List.setIfInBounds_toArray, List.set_cons_zero, List.set_cons_succ]
        refine qw_call (v := .int .i64 (e1)) (f := 23) (args := #[.agg #[.int .u64 (hI Lp), .int .u64 (lI Lp)], .agg #[.int .u64 (hI Y), .int .u64 (lI Y)]]) (by rfl) ?_ ?_ ?_
        · (intro w1 hC; clear hC; go_simp)
        · exact fun w1 hC => (KE1 w1).mono fun e w' ⟨he, hb⟩ => ⟨he, hC.keep hb⟩
        simp only [Act.put, List.setIfInBounds_toArray, List.set_cons_zero, List.set_cons_succ]
        refine qw_run (v := .bool false) (by rfl) ?_ ?_
        · (intro w1 hC; obtain ⟨⟨p0, p1, p2, -, -, -⟩, ⟨q0, q1, q2, -, -, -⟩, ⟨z0, z1, -, -, -⟩, -⟩ := hC; go_simp; first | done | (simp; done) | (simp [*]; done) | omega | (simp; omega) | (rw [IntKind.wrap_i64]; omega) | (intro hx; omega) | rfl)
        simp only [Act.put, List.setIfInBounds_toArray, List.set_cons_zero, List.set_cons_succ]
        refine qw_run (v := .bool false) (by rfl) ?_ ?_
        · (intro w1 hC; obtain ⟨⟨p0, p1, p2, -, -, -⟩, ⟨q0, q1, q2, -, -, -⟩, ⟨z0, z1, -, -, -⟩, -⟩ := hC; go_simp; first | done | (simp; done) | (simp [*]; done) | omega | (simp; omega) | (rw [IntKind.wrap_i64]; omega) | (intro hx; omega) | rfl)
        simp only [Act.put, List.setIfInBounds_toArray, List.set_cons_zero, List.set_cons_succ]
        refine qw_run (v := .int .i64 (F)) (by rfl) ?_ ?_
        · (intro w1 hC; obtain ⟨⟨p0, p1, p2, -, -, -⟩, ⟨q0, q1, q2, -, -, -⟩, ⟨z0, z1, -, -, -⟩, -⟩ := hC; go_simp; first | done | (simp; done) | (simp [*]; done) | omega | (simp; omega) | (rw [IntKind.wrap_i64]; omega) | (intro hx; omega) | rfl)
        simp only [Act.put, List.setIfInBounds_toArray, List.set_cons_zero, List.set_cons_succ]
        refine qw_run (v := .agg #[.int .u64 (hI Y), .int .u64 (lI Y), .int .i64 (M)]) (by rfl) ?_ ?_
        · (intro w1 hC; obtain ⟨⟨p0, p1, p2, -, -, -⟩, ⟨q0, q1, q2, -, -, -⟩, ⟨z0, z1, -, -, -⟩, -⟩ := hC; go_simp; first | done | (simp; done) | (simp [*]; done) | omega | (simp; omega) | (rw [IntKind.wrap_i64]; omega) | (intro hx; omega) | rfl)
        simp only [Act.put, List.setIfInBounds_toArray, List.set_cons_zero, List.set_cons_succ]
        refine qw_call (v := .agg #[.int .u64 (hI Lq), .int .u64 (lI Lq)]) (f := 25) (args := #[.int .i64 (F), .agg #[.int .u64 (hI Y), .int .u64 (lI Y), .int .i64 (M)]]) (by rfl) ?_ ?_ ?_
        · (intro w1 hC; clear hC; go_simp)
        · exact fun w1 hC => (KLQ w1).mono fun e w' ⟨he, hb⟩ => ⟨he, hC.keep hb⟩
        simp only [Act.put, List.setIfInBounds_toArray, List.set_cons_zero, List.set_cons_succ]
        refine qw_run (v := .agg #[.int .u64 (hI X), .int .u64 (lI X), .int .i64 (N)]) (by rfl) ?_ ?_
        · (intro w1 hC; obtain ⟨⟨p0, p1, p2, -, -, -⟩, ⟨q0, q1, q2, -, -, -⟩, ⟨z0, z1, -, -, -⟩, -⟩ := hC; go_simp; first | done | (simp; done) | (simp [*]; done) | omega | (simp; omega) | (rw [IntKind.wrap_i64]; omega) | (intro hx; omega) | rfl)
        simp only [Act.put, List.setIfInBounds_toArray, List.set_cons_zero, List.set_cons_succ]
        refine qw_call (v := .agg #[.int .u64 (hI X), .int .u64 (lI X)]) (f := 24) (args := #[.agg #[.int .u64 (hI X), .int .u64 (lI X), .int .i64 (N)]]) (by rfl) ?_ ?_ ?_
        · (intro w1 hC; clear hC; go_simp)
        · exact fun w1 hC => (KFP w1).mono fun e w' ⟨he, hb⟩ => ⟨he, hC.keep hb⟩
        simp only [Act.put, List.setIfInBounds_toArray, List.set_cons_zero, List.set_cons_succ]
        refine qw_call (v := .int .i64 (e2)) (f := 23) (args := #[.agg #[.int .u64 (hI Lq), .int .u64 (lI Lq)], .agg #[.int .u64 (hI X), .int .u64 (lI X)]]) (by rfl) ?_ ?_ ?_
        · (intro w1 hC; clear hC; go_simp)
        · exact fun w1 hC => (KE2 w1).mono fun e w' ⟨he, hb⟩ => ⟨he, hC.keep hb⟩
        simp only [Act.put, List.setIfInBounds_toArray, List.set_cons_zero, List.set_cons_succ]
        refine qw_run (v := .bool false) (by rfl) ?_ ?_
        · (intro w1 hC; obtain ⟨⟨p0, p1, p2, -, -, -⟩, ⟨q0, q1, q2, -, -, -⟩, ⟨z0, z1, -, -, -⟩, -⟩ := hC; go_simp; first | done | (simp; done) | (simp [*]; done) | omega | (simp; omega) | (rw [IntKind.wrap_i64]; omega) | (intro hx; omega) | rfl)
        simp only [Act.put, List.setIfInBounds_toArray, List.set_cons_zero, List.set_cons_succ]
        refine qw_run (v := .bool false) (by rfl) ?_ ?_
        · (intro w1 hC; obtain ⟨⟨p0, p1, p2, -, -, -⟩, ⟨q0, q1, q2, -, -, -⟩, ⟨z0, z1, -, -, -⟩, -⟩ := hC; go_simp; first | done | (simp; done) | (simp [*]; done) | omega | (simp; omega) | (rw [IntKind.wrap_i64]; omega) | (intro hx; omega) | rfl)
        simp only [Act.put, List.setIfInBounds_toArray, List.set_cons_zero, List.set_cons_succ]
        refine qw_run (v := .bool false) (by rfl) ?_ ?_
        · (intro w1 hC; obtain ⟨⟨p0, p1, p2, -, -, -⟩, ⟨q0, q1, q2, -, -, -⟩, ⟨z0, z1, -, -, -⟩, -⟩ := hC; go_simp; first | done | (simp; done) | (simp [*]; done) | omega | (simp; omega) | (rw [IntKind.wrap_i64]; omega) | (intro hx; omega) | rfl)
        simp only [Act.put, List.setIfInBounds_toArray, List.set_cons_zero, List.set_cons_succ]
        refine qw_nil ?_
        intro W7 hC
        · have h3 := H3.out
          clear H3
          obtain ⟨⟨p0, p1, p2, -, -, -⟩, ⟨q0, q1, q2, -, -, -⟩, ⟨z0, z1, -, -, -⟩, -⟩ := id hC
          simp at h3
          have heq1 : eq1 = true := by cases eq1 <;> simp_all
          rw [heq1] at hEq
          clear h3 heq1
          go_wp2_with fail
          clear p0 p1 p2 q0 q1 q2 z0 z1 hEq
          have hCe := hC.drew
          clear hC
          go_wp2_with fail
          obtain ⟨hg1, hg2⟩ := H4.out (by simp)
          refine qw_region (C := CA w a b X N Y M c) (by kernel_rfl) (by kernel_rfl) hCe ?_
          clear hCe
          refine qw_run (v := .bool true) (by rfl) ?_ ?_
          · (intro w1 hC; obtain ⟨⟨p0, p1, p2, -, -, -⟩, ⟨q0, q1, q2, -, -, -⟩, ⟨z0, z1, -, -, -⟩, -⟩ := hC; go_simp; first | done | (simp; done) | (simp [*]; done) | omega | (simp; omega) | (rw [IntKind.wrap_i64]; omega) | (intro hx; omega) | rfl)
          simp only [Act.put, List.setIfInBounds_toArray, List.set_cons_zero, List.set_cons_succ]
          refine qw_run (v := .bool true) (by rfl) ?_ ?_
          · (intro w1 hC; obtain ⟨⟨p0, p1, p2, -, -, -⟩, ⟨q0, q1, q2, -, -, -⟩, ⟨z0, z1, -, -, -⟩, -⟩ := hC; go_simp; first | done | (simp; done) | (simp [*]; done) | omega | (simp; omega) | (rw [IntKind.wrap_i64]; omega) | (intro hx; omega) | rfl)
          simp only [Act.put, List.setIfInBounds_toArray, List.set_cons_zero, List.set_cons_succ]
          refine qw_run (v := .agg #[.int .u64 (hI Y), .int .u64 (lI Y), .int .i64 (M)]) (by rfl) ?_ ?_
          · (intro w1 hC; obtain ⟨⟨p0, p1, p2, -, -, -⟩, ⟨q0, q1, q2, -, -, -⟩, ⟨z0, z1, -, -, -⟩, -⟩ := hC; go_simp; first | done | (simp; done) | (simp [*]; done) | omega | (simp; omega) | (rw [IntKind.wrap_i64]; omega) | (intro hx; omega) | rfl)
          simp only [Act.put, List.setIfInBounds_toArray, List.set_cons_zero, List.set_cons_succ]
          refine qw_call (v := .agg #[.int .u64 (hI Y), .int .u64 (lI Y)]) (f := 24) (args := #[.agg #[.int .u64 (hI Y), .int .u64 (lI Y), .int .i64 (M)]]) (by rfl) ?_ ?_ ?_
          · (intro w1 hC; clear hC; go_simp)
          · exact fun w1 hC => (KFQ w1).mono fun e w' ⟨he, hb⟩ => ⟨he, hC.keep hb⟩
          simp only [Act.put, List.setIfInBounds_toArray, List.set_cons_zero, List.set_cons_succ]
          refine qw_run (v := .agg #[.int .u64 (hI X), .int .u64 (lI X), .int .i64 (N)]) (by rfl) ?_ ?_
          · (intro w1 hC; obtain ⟨⟨p0, p1, p2, -, -, -⟩, ⟨q0, q1, q2, -, -, -⟩, ⟨z0, z1, -, -, -⟩, -⟩ := hC; go_simp; first | done | (simp; done) | (simp [*]; done) | omega | (simp; omega) | (rw [IntKind.wrap_i64]; omega) | (intro hx; omega) | rfl)
          simp only [Act.put, List.setIfInBounds_toArray, List.set_cons_zero, List.set_cons_succ]
          refine qw_call (v := .agg #[.int .u64 (hI X), .int .u64 (lI X)]) (f := 24) (args := #[.agg #[.int .u64 (hI X), .int .u64 (lI X), .int .i64 (N)]]) (by rfl) ?_ ?_ ?_
          · (intro w1 hC; clear hC; go_simp)
          · exact fun w1 hC => (KFP w1).mono fun e w' ⟨he, hb⟩ => ⟨he, hC.keep hb⟩
          simp only [Act.put, List.setIfInBounds_toArray, List.set_cons_zero, List.set_cons_succ]
          refine qw_call (v := .int .i64 (g1)) (f := 23) (args := #[.agg #[.int .u64 (hI Y), .int .u64 (lI Y)], .agg #[.int .u64 (hI X), .int .u64 (lI X)]]) (by rfl) ?_ ?_ ?_
          · (intro w1 hC; clear hC; go_simp)
          · exact fun w1 hC => (KG1 w1).mono fun e w' ⟨he, hb⟩ => ⟨he, hC.keep hb⟩
          simp only [Act.put, List.setIfInBounds_toArray, List.set_cons_zero, List.set_cons_succ]
          refine qw_run (v := .bool false) (by rfl) ?_ ?_
          · (intro w1 hC; obtain ⟨⟨p0, p1, p2, -, -, -⟩, ⟨q0, q1, q2, -, -, -⟩, ⟨z0, z1, -, -, -⟩, -⟩ := hC; go_simp; first | done | (simp; done) | (simp [*]; done) | omega | (simp; omega) | (rw [IntKind.wrap_i64]; omega) | (intro hx; omega) | rfl)
          simp only [Act.put, List.setIfInBounds_toArray, List.set_cons_zero, List.set_cons_succ]
          refine qw_run (v := .bool false) (by rfl) ?_ ?_
          · (intro w1 hC; obtain ⟨⟨p0, p1, p2, -, -, -⟩, ⟨q0, q1, q2, -, -, -⟩, ⟨z0, z1, -, -, -⟩, -⟩ := hC; go_simp; first | done | (simp; done) | (simp [*]; done) | omega | (simp; omega) | (rw [IntKind.wrap_i64]; omega) | (intro hx; omega) | rfl)
          simp only [Act.put, List.setIfInBounds_toArray, List.set_cons_zero, List.set_cons_succ]
          refine qw_run (v := .int .i64 (F)) (by rfl) ?_ ?_
          · (intro w1 hC; obtain ⟨⟨p0, p1, p2, -, -, -⟩, ⟨q0, q1, q2, -, -, -⟩, ⟨z0, z1, -, -, -⟩, -⟩ := hC; go_simp; first | done | (simp; done) | (simp [*]; done) | omega | (simp; omega) | (rw [IntKind.wrap_i64]; omega) | (intro hx; omega) | rfl)
          simp only [Act.put, List.setIfInBounds_toArray, List.set_cons_zero, List.set_cons_succ]
          refine qw_run (v := .agg #[.int .u64 (hI X), .int .u64 (lI X), .int .i64 (N)]) (by rfl) ?_ ?_
          · (intro w1 hC; obtain ⟨⟨p0, p1, p2, -, -, -⟩, ⟨q0, q1, q2, -, -, -⟩, ⟨z0, z1, -, -, -⟩, -⟩ := hC; go_simp; first | done | (simp; done) | (simp [*]; done) | omega | (simp; omega) | (rw [IntKind.wrap_i64]; omega) | (intro hx; omega) | rfl)
          simp only [Act.put, List.setIfInBounds_toArray, List.set_cons_zero, List.set_cons_succ]
          refine qw_call (v := .agg #[.int .u64 (hI Lp), .int .u64 (lI Lp)]) (f := 25) (args := #[.int .i64 (F), .agg #[.int .u64 (hI X), .int .u64 (lI X), .int .i64 (N)]]) (by rfl) ?_ ?_ ?_
          · (intro w1 hC; clear hC; go_simp)
          · exact fun w1 hC => (KLP w1).mono fun e w' ⟨he, hb⟩ => ⟨he, hC.keep hb⟩
          simp only [Act.put, List.setIfInBounds_toArray, List.set_cons_zero, List.set_cons_succ]
          refine qw_run (v := .int .i64 (F)) (by rfl) ?_ ?_
          · (intro w1 hC; obtain ⟨⟨p0, p1, p2, -, -, -⟩, ⟨q0, q1, q2, -, -, -⟩, ⟨z0, z1, -, -, -⟩, -⟩ := hC; go_simp; first | done | (simp; done) | (simp [*]; done) | omega | (simp; omega) | (rw [IntKind.wrap_i64]; omega) | (intro hx; omega) | rfl)
          simp only [Act.put, List.setIfInBounds_toArray, List.set_cons_zero, List.set_cons_succ]
          refine qw_run (v := .agg #[.int .u64 (hI Y), .int .u64 (lI Y), .int .i64 (M)]) (by rfl) ?_ ?_
          · (intro w1 hC; obtain ⟨⟨p0, p1, p2, -, -, -⟩, ⟨q0, q1, q2, -, -, -⟩, ⟨z0, z1, -, -, -⟩, -⟩ := hC; go_simp; first | done | (simp; done) | (simp [*]; done) | omega | (simp; omega) | (rw [IntKind.wrap_i64]; omega) | (intro hx; omega) | rfl)
          simp only [Act.put, List.setIfInBounds_toArray, List.set_cons_zero, List.set_cons_succ]
          refine qw_call (v := .agg #[.int .u64 (hI Lq), .int .u64 (lI Lq)]) (f := 25) (args := #[.int .i64 (F), .agg #[.int .u64 (hI Y), .int .u64 (lI Y), .int .i64 (M)]]) (by rfl) ?_ ?_ ?_
          · (intro w1 hC; clear hC; go_simp)
          · exact fun w1 hC => (KLQ w1).mono fun e w' ⟨he, hb⟩ => ⟨he, hC.keep hb⟩
          simp only [Act.put, List.setIfInBounds_toArray, List.set_cons_zero, List.set_cons_succ]
          refine qw_call (v := .int .i64 (g2)) (f := 23) (args := #[.agg #[.int .u64 (hI Lp), .int .u64 (lI Lp)], .agg #[.int .u64 (hI Lq), .int .u64 (lI Lq)]]) (by rfl) ?_ ?_ ?_
          · (intro w1 hC; clear hC; go_simp)
          · exact fun w1 hC => (KG2 w1).mono fun e w' ⟨he, hb⟩ => ⟨he, hC.keep hb⟩
          simp only [Act.put, List.setIfInBounds_toArray, List.set_cons_zero, List.set_cons_succ]
          refine qw_run (v := .bool false) (by rfl) ?_ ?_
          · (intro w1 hC; obtain ⟨⟨p0, p1, p2, -, -, -⟩, ⟨q0, q1, q2, -, -, -⟩, ⟨z0, z1, -, -, -⟩, -⟩ := hC; go_simp; first | done | (simp; done) | (simp [*]; done) | omega | (simp; omega) | (rw [IntKind.wrap_i64]; omega) | (intro hx; omega) | rfl)
          simp only [Act.put, List.setIfInBounds_toArray, List.set_cons_zero, List.set_cons_succ]
          refine qw_run (v := .bool false) (by rfl) ?_ ?_
          · (intro w1 hC; obtain ⟨⟨p0, p1, p2, -, -, -⟩, ⟨q0, q1, q2, -, -, -⟩, ⟨z0, z1, -, -, -⟩, -⟩ := hC; go_simp; first | done | (simp; done) | (simp [*]; done) | omega | (simp; omega) | (rw [IntKind.wrap_i64]; omega) | (intro hx; omega) | rfl)
          simp only [Act.put, List.setIfInBounds_toArray, List.set_cons_zero, List.set_cons_succ]
          refine qw_run (v := .bool false) (by rfl) ?_ ?_
          · (intro w1 hC; obtain ⟨⟨p0, p1, p2, -, -, -⟩, ⟨q0, q1, q2, -, -, -⟩, ⟨z0, z1, -, -, -⟩, -⟩ := hC; go_simp; first | done | (simp; done) | (simp [*]; done) | omega | (simp; omega) | (rw [IntKind.wrap_i64]; omega) | (intro hx; omega) | rfl)
          simp only [Act.put, List.setIfInBounds_toArray, List.set_cons_zero, List.set_cons_succ]
          refine qw_nil ?_
          intro W7 hC
          obtain ⟨⟨p0, p1, p2, -, -, -⟩, ⟨q0, q1, q2, -, -, -⟩, ⟨z0, z1, -, -, -⟩, -⟩ := id hC
          go_wp2_with fail
          refine (KH _).mono ?_
          rintro e W' ⟨rfl, hb⟩
          replace hC := hC.keep hb
          clear p0 p1 p2 q0 q1 q2 z0 z1 hb
          cases h
          · go_wp2
            go_ret
            exact ⟨rfl, hC.2.2.2⟩
          · have hhq := H5.out (by simp) (by simp)
            rw [hhq] at KHq
            obtain ⟨⟨p0, p1, p2, -, -, -⟩, ⟨q0, q1, q2, -, -, -⟩, ⟨z0, z1, -, -, -⟩, -⟩ := id hC
            go_wp2_with fail
            refine (KHq _).mono ?_
            rintro e W' ⟨rfl, hb⟩
            replace hC := hC.keep hb
            clear p0 p1 p2 q0 q1 q2 z0 z1 hb
            go_wp2
            go_ret
            exact ⟨rfl, hC.2.2.2⟩
  · have hh : h = false := by have := H1.out; simp [hd1] at this; exact this
    subst hh
    clear H1
    refine qw_region (C := CA w a b X N Y M c) (by kernel_rfl) (by kernel_rfl) hCd ?_
    clear hCd
    refine qw_run (v := .agg #[.int .u64 (hI X), .int .u64 (lI X), .int .i64 (N)]) (by rfl) ?_ ?_
    · (intro w1 hC; obtain ⟨⟨p0, p1, p2, -, -, -⟩, ⟨q0, q1, q2, -, -, -⟩, ⟨z0, z1, -, -, -⟩, -⟩ := hC; go_simp; first | done | (simp; done) | (simp [*]; done) | omega | (simp; omega) | (rw [IntKind.wrap_i64]; omega) | (intro hx; omega) | rfl)
    simp only [Act.put, List.setIfInBounds_toArray, List.set_cons_zero, List.set_cons_succ]
    refine qw_run (v := .agg #[.int .u64 (hI c), .int .u64 (lI c)]) (by rfl) ?_ ?_
    · (intro w1 hC; obtain ⟨⟨p0, p1, p2, -, -, -⟩, ⟨q0, q1, q2, -, -, -⟩, ⟨z0, z1, -, -, -⟩, -⟩ := hC; go_simp; first | done | (simp; done) | (simp [*]; done) | omega | (simp; omega) | (rw [IntKind.wrap_i64]; omega) | (intro hx; omega) | rfl)
    simp only [Act.put, List.setIfInBounds_toArray, List.set_cons_zero, List.set_cons_succ]
    refine qw_call (v := .bool false) (f := 22) (args := #[.agg #[.int .u64 (hI X), .int .u64 (lI X), .int .i64 (N)], .agg #[.int .u64 (hI c), .int .u64 (lI c)]]) (by rfl) ?_ ?_ ?_
    · (intro w1 hC; clear hC; go_simp)
    · exact fun w1 hC => (KH w1).mono fun e w' ⟨he, hb⟩ => ⟨he, hC.keep hb⟩
    simp only [Act.put, List.setIfInBounds_toArray, List.set_cons_zero, List.set_cons_succ]
    refine qw_run (v := .agg #[.int .u64 (hI X), .int .u64 (lI X), .int .i64 (N)]) (by rfl) ?_ ?_
    · (intro w1 hC; obtain ⟨⟨p0, p1, p2, -, -, -⟩, ⟨q0, q1, q2, -, -, -⟩, ⟨z0, z1, -, -, -⟩, -⟩ := hC; go_simp; first | done | (simp; done) | (simp [*]; done) | omega | (simp; omega) | (rw [IntKind.wrap_i64]; omega) | (intro hx; omega) | rfl)
    simp only [Act.put, List.setIfInBounds_toArray, List.set_cons_zero, List.set_cons_succ]
    refine qw_call (v := .agg #[.int .u64 (hI X), .int .u64 (lI X)]) (f := 24) (args := #[.agg #[.int .u64 (hI X), .int .u64 (lI X), .int .i64 (N)]]) (by rfl) ?_ ?_ ?_
    · (intro w1 hC; clear hC; go_simp)
    · exact fun w1 hC => (KFP w1).mono fun e w' ⟨he, hb⟩ => ⟨he, hC.keep hb⟩
    simp only [Act.put, List.setIfInBounds_toArray, List.set_cons_zero, List.set_cons_succ]
    refine qw_run (v := .agg #[.int .u64 (hI c), .int .u64 (lI c)]) (by rfl) ?_ ?_
    · (intro w1 hC; obtain ⟨⟨p0, p1, p2, -, -, -⟩, ⟨q0, q1, q2, -, -, -⟩, ⟨z0, z1, -, -, -⟩, -⟩ := hC; go_simp; first | done | (simp; done) | (simp [*]; done) | omega | (simp; omega) | (rw [IntKind.wrap_i64]; omega) | (intro hx; omega) | rfl)
    simp only [Act.put, List.setIfInBounds_toArray, List.set_cons_zero, List.set_cons_succ]
    refine qw_call (v := .int .i64 (d1)) (f := 23) (args := #[.agg #[.int .u64 (hI X), .int .u64 (lI X)], .agg #[.int .u64 (hI c), .int .u64 (lI c)]]) (by rfl) ?_ ?_ ?_
    · (intro w1 hC; clear hC; go_simp)
    · exact fun w1 hC => (KD1 w1).mono fun e w' ⟨he, hb⟩ => ⟨he, hC.keep hb⟩
    simp only [Act.put, List.setIfInBounds_toArray, List.set_cons_zero, List.set_cons_succ]
    refine qw_run (v := .bool false) (by rfl) ?_ ?_
    · (intro w1 hC; obtain ⟨⟨p0, p1, p2, -, -, -⟩, ⟨q0, q1, q2, -, -, -⟩, ⟨z0, z1, -, -, -⟩, -⟩ := hC; go_simp; first | done | (simp; done) | (simp [*]; done) | omega | (simp; omega) | (rw [IntKind.wrap_i64]; omega) | (intro hx; omega) | rfl)
    simp only [Act.put, List.setIfInBounds_toArray, List.set_cons_zero, List.set_cons_succ]
    refine qw_run (v := .bool false) (by rfl) ?_ ?_
    · (intro w1 hC; obtain ⟨⟨p0, p1, p2, -, -, -⟩, ⟨q0, q1, q2, -, -, -⟩, ⟨z0, z1, -, -, -⟩, -⟩ := hC; go_simp; first | done | (simp; done) | (simp [*]; done) | omega | (simp; omega) | (rw [IntKind.wrap_i64]; omega) | (intro hx; omega) | rfl)
    simp only [Act.put, List.setIfInBounds_toArray, List.set_cons_zero, List.set_cons_succ]
    refine qw_skip (by rfl) ?_
    simp only [Act.put, List.setIfInBounds_toArray, List.set_cons_zero, List.set_cons_succ]
    refine qw_skip (by rfl) ?_
    simp only [Act.put, List.setIfInBounds_toArray, List.set_cons_zero, List.set_cons_succ]
    refine qw_skip (by rfl) ?_
    simp only [Act.put, List.setIfInBounds_toArray, List.set_cons_zero, List.set_cons_succ]
    refine qw_skip (by rfl) ?_
    simp only [Act.put, List.setIfInBounds_toArray, List.set_cons_zero, List.set_cons_succ]
    refine qw_skip (by rfl) ?_
    simp only [Act.put, List.setIfInBounds_toArray, List.set_cons_zero, List.set_cons_succ]
    refine qw_skip (by rfl) ?_
    simp only [Act.put, List.setIfInBounds_toArray, List.set_cons_zero, List.set_cons_succ]
    refine qw_run (v := .bool false) (by rfl) ?_ ?_
    · (intro w1 hC; obtain ⟨⟨p0, p1, p2, -, -, -⟩, ⟨q0, q1, q2, -, -, -⟩, ⟨z0, z1, -, -, -⟩, -⟩ := hC; go_simp; first | done | (simp; done) | (simp [*]; done) | omega | (simp; omega) | (rw [IntKind.wrap_i64]; omega) | (intro hx; omega) | rfl)
    simp only [Act.put, List.setIfInBounds_toArray, List.set_cons_zero, List.set_cons_succ]
    refine qw_run (v := .bool false) (by rfl) ?_ ?_
    · (intro w1 hC; obtain ⟨⟨p0, p1, p2, -, -, -⟩, ⟨q0, q1, q2, -, -, -⟩, ⟨z0, z1, -, -, -⟩, -⟩ := hC; go_simp; first | done | (simp; done) | (simp [*]; done) | omega | (simp; omega) | (rw [IntKind.wrap_i64]; omega) | (intro hx; omega) | rfl)
    simp only [Act.put, List.setIfInBounds_toArray, List.set_cons_zero, List.set_cons_succ]
    refine qw_nil ?_
    intro W7 hC
    obtain ⟨⟨p0, p1, p2, -, -, -⟩, ⟨q0, q1, q2, -, -, -⟩, ⟨z0, z1, -, -, -⟩, -⟩ := id hC
    go_wp2_with fail
    refine (KA _).mono ?_
    rintro e W' ⟨rfl, hb⟩
    replace hC := hC.keep hb
    clear p0 p1 p2 q0 q1 q2 z0 z1 hb
    obtain ⟨⟨p0, p1, p2, -, -, -⟩, ⟨q0, q1, q2, -, -, -⟩, ⟨z0, z1, -, -, -⟩, -⟩ := id hC
    go_wp2_with fail
    refine (KB _).mono ?_
    rintro e W' ⟨rfl, hb⟩
    replace hC := hC.keep hb
    clear p0 p1 p2 q0 q1 q2 z0 z1 hb
    have hCd2 := hC.drew
    clear hC
    go_wp2_with fail
    by_cases he1 : e1 < 0
    · have hab : a1 = false ∧ b1 = false := by have := H2.out; simp [he1] at this; exact this
      refine qw_region (C := CA w a b X N Y M c) (by kernel_rfl) (by kernel_rfl) hCd2 ?_
      clear hCd2
      refine qw_run (v := .int .i64 (F)) (by rfl) ?_ ?_
      · (intro w1 hC; obtain ⟨⟨p0, p1, p2, -, -, -⟩, ⟨q0, q1, q2, -, -, -⟩, ⟨z0, z1, -, -, -⟩, -⟩ := hC; go_simp; first | done | (simp; done) | (simp [*]; done) | omega | (simp; omega) | (rw [IntKind.wrap_i64]; omega) | (intro hx; omega) | rfl)
      simp only [Act.put, List.setIfInBounds_toArray, List.set_cons_zero, List.set_cons_succ]
      refine qw_run (v := .agg #[.int .u64 (hI X), .int .u64 (lI X), .int .i64 (N)]) (by rfl) ?_ ?_
      · (intro w1 hC; obtain ⟨⟨p0, p1, p2, -, -, -⟩, ⟨q0, q1, q2, -, -, -⟩, ⟨z0, z1, -, -, -⟩, -⟩ := hC; go_simp; first | done | (simp; done) | (simp [*]; done) | omega | (simp; omega) | (rw [IntKind.wrap_i64]; omega) | (intro hx; omega) | rfl)
      simp only [Act.put, List.setIfInBounds_toArray, List.set_cons_zero, List.set_cons_succ]
      refine qw_call (v := .agg #[.int .u64 (hI Lp), .int .u64 (lI Lp)]) (f := 25) (args := #[.int .i64 (F), .agg #[.int .u64 (hI X), .int .u64 (lI X), .int .i64 (N)]]) (by rfl) ?_ ?_ ?_
      · (intro w1 hC; clear hC; go_simp)
      · exact fun w1 hC => (KLP w1).mono fun e w' ⟨he, hb⟩ => ⟨he, hC.keep hb⟩
      simp only [Act.put, List.setIfInBounds_toArray, List.set_cons_zero, List.set_cons_succ]
      refine qw_run (v := .agg #[.int .u64 (hI Y), .int .u64 (lI Y), .int .i64 (M)]) (by rfl) ?_ ?_
      · (intro w1 hC; obtain ⟨⟨p0, p1, p2, -, -, -⟩, ⟨q0, q1, q2, -, -, -⟩, ⟨z0, z1, -, -, -⟩, -⟩ := hC; go_simp; first | done | (simp; done) | (simp [*]; done) | omega | (simp; omega) | (rw [IntKind.wrap_i64]; omega) | (intro hx; omega) | rfl)
      simp only [Act.put, List.setIfInBounds_toArray, List.set_cons_zero, List.set_cons_succ]
      refine qw_call (v := .agg #[.int .u64 (hI Y), .int .u64 (lI Y)]) (f := 24) (args := #[.agg #[.int .u64 (hI Y), .int .u64 (lI Y), .int .i64 (M)]]) (by rfl) ?_ ?_ ?_
      · (intro w1 hC; clear hC; go_simp)
      · exact fun w1 hC => (KFQ w1).mono fun e w' ⟨he, hb⟩ => ⟨he, hC.keep hb⟩
      simp only [Act.put, List.setIfInBounds_toArray, List.set_cons_zero, List.set_cons_succ]
      refine qw_call (v := .int .i64 (e1)) (f := 23) (args := #[.agg #[.int .u64 (hI Lp), .int .u64 (lI Lp)], .agg #[.int .u64 (hI Y), .int .u64 (lI Y)]]) (by rfl) ?_ ?_ ?_
      · (intro w1 hC; clear hC; go_simp)
      · exact fun w1 hC => (KE1 w1).mono fun e w' ⟨he, hb⟩ => ⟨he, hC.keep hb⟩
      simp only [Act.put, List.setIfInBounds_toArray, List.set_cons_zero, List.set_cons_succ]
      refine qw_run (v := .bool true) (by rfl) ?_ ?_
      · (intro w1 hC; obtain ⟨⟨p0, p1, p2, -, -, -⟩, ⟨q0, q1, q2, -, -, -⟩, ⟨z0, z1, -, -, -⟩, -⟩ := hC; go_simp; first | done | (simp; done) | (simp [*]; done) | omega | (simp; omega) | (rw [IntKind.wrap_i64]; omega) | (intro hx; omega) | rfl)
      simp only [Act.put, List.setIfInBounds_toArray, List.set_cons_zero, List.set_cons_succ]
      refine qw_run (v := .bool true) (by rfl) ?_ ?_
      · (intro w1 hC; obtain ⟨⟨p0, p1, p2, -, -, -⟩, ⟨q0, q1, q2, -, -, -⟩, ⟨z0, z1, -, -, -⟩, -⟩ := hC; go_simp; first | done | (simp; done) | (simp [*]; done) | omega | (simp; omega) | (rw [IntKind.wrap_i64]; omega) | (intro hx; omega) | rfl)
      simp only [Act.put, List.setIfInBounds_toArray, List.set_cons_zero, List.set_cons_succ]
      refine qw_skip (by rfl) ?_
      simp only [Act.put, List.setIfInBounds_toArray, List.set_cons_zero, List.set_cons_succ]
      refine qw_skip (by rfl) ?_
      simp only [Act.put, List.setIfInBounds_toArray, List.set_cons_zero, List.set_cons_succ]
      refine qw_skip (by rfl) ?_
      simp only [Act.put, List.setIfInBounds_toArray, List.set_cons_zero, List.set_cons_succ]
      refine qw_skip (by rfl) ?_
      simp only [Act.put, List.setIfInBounds_toArray, List.set_cons_zero, List.set_cons_succ]
      refine qw_skip (by rfl) ?_
      simp only [Act.put, List.setIfInBounds_toArray, List.set_cons_zero, List.set_cons_succ]
      refine qw_skip (by rfl) ?_
      simp only [Act.put, List.setIfInBounds_toArray, List.set_cons_zero, List.set_cons_succ]
      refine qw_skip (by rfl) ?_
      simp only [Act.put, List.setIfInBounds_toArray, List.set_cons_zero, List.set_cons_succ]
      refine qw_run (v := .bool true) (by rfl) ?_ ?_
      · (intro w1 hC; obtain ⟨⟨p0, p1, p2, -, -, -⟩, ⟨q0, q1, q2, -, -, -⟩, ⟨z0, z1, -, -, -⟩, -⟩ := hC; go_simp; first | done | (simp; done) | (simp [*]; done) | omega | (simp; omega) | (rw [IntKind.wrap_i64]; omega) | (intro hx; omega) | rfl)
      simp only [Act.put, List.setIfInBounds_toArray, List.set_cons_zero, List.set_cons_succ]
      refine qw_run (v := .bool true) (by rfl) ?_ ?_
      · (intro w1 hC; obtain ⟨⟨p0, p1, p2, -, -, -⟩, ⟨q0, q1, q2, -, -, -⟩, ⟨z0, z1, -, -, -⟩, -⟩ := hC; go_simp; first | done | (simp; done) | (simp [*]; done) | omega | (simp; omega) | (rw [IntKind.wrap_i64]; omega) | (intro hx; omega) | rfl)
      simp only [Act.put, List.setIfInBounds_toArray, List.set_cons_zero, List.set_cons_succ]
      refine qw_nil ?_
      intro W7 hC
      obtain ⟨rfl, rfl⟩ := hab
      · have h3 := H3.out
        clear H3
        obtain ⟨⟨p0, p1, p2, -, -, -⟩, ⟨q0, q1, q2, -, -, -⟩, ⟨z0, z1, -, -, -⟩, -⟩ := id hC
        simp at h3
        have heq1 : eq1 = false := by cases eq1 <;> simp_all
        rw [heq1] at hEq
        clear h3 heq1
        go_wp2_with fail
        clear p0 p1 p2 q0 q1 q2 z0 z1 hEq
        have hCe := hC.drew
        clear hC
        go_wp2_with fail
        refine qw_region (C := CA w a b X N Y M c) (by kernel_rfl) (by kernel_rfl) hCe ?_
        clear hCe
        refine qw_run (v := .bool false) (by rfl) ?_ ?_
        · (intro w1 hC; obtain ⟨⟨p0, p1, p2, -, -, -⟩, ⟨q0, q1, q2, -, -, -⟩, ⟨z0, z1, -, -, -⟩, -⟩ := hC; go_simp; first | done | (simp; done) | (simp [*]; done) | omega | (simp; omega) | (rw [IntKind.wrap_i64]; omega) | (intro hx; omega) | rfl)
        simp only [Act.put, List.setIfInBounds_toArray, List.set_cons_zero, List.set_cons_succ]
        refine qw_run (v := .bool false) (by rfl) ?_ ?_
        · (intro w1 hC; obtain ⟨⟨p0, p1, p2, -, -, -⟩, ⟨q0, q1, q2, -, -, -⟩, ⟨z0, z1, -, -, -⟩, -⟩ := hC; go_simp; first | done | (simp; done) | (simp [*]; done) | omega | (simp; omega) | (rw [IntKind.wrap_i64]; omega) | (intro hx; omega) | rfl)
        simp only [Act.put, List.setIfInBounds_toArray, List.set_cons_zero, List.set_cons_succ]
        refine qw_skip (by rfl) ?_
        simp only [Act.put, List.setIfInBounds_toArray, List.set_cons_zero, List.set_cons_succ]
        refine qw_skip (by rfl) ?_
        simp only [Act.put, List.setIfInBounds_toArray, List.set_cons_zero, List.set_cons_succ]
        refine qw_skip (by rfl) ?_
        simp only [Act.put, List.setIfInBounds_toArray, List.set_cons_zero, List.set_cons_succ]
        refine qw_skip (by rfl) ?_
        simp only [Act.put, List.setIfInBounds_toArray, List.set_cons_zero, List.set_cons_succ]
        refine qw_skip (by rfl) ?_
        simp only [Act.put, List.setIfInBounds_toArray, List.set_cons_zero, List.set_cons_succ]
        refine qw_skip (by rfl) ?_
        simp only [Act.put, List.setIfInBounds_toArray, List.set_cons_zero, List.set_cons_succ]
        refine qw_skip (by rfl) ?_
        simp only [Act.put, List.setIfInBounds_toArray, List.set_cons_zero, List.set_cons_succ]
        refine qw_skip (by rfl) ?_
        simp only [Act.put, List.setIfInBounds_toArray, List.set_cons_zero, List.set_cons_succ]
        refine qw_skip (by rfl) ?_
        simp only [Act.put, List.setIfInBounds_toArray, List.set_cons_zero, List.set_cons_succ]
        refine qw_skip (by rfl) ?_
        simp only [Act.put, List.setIfInBounds_toArray, List.set_cons_zero, List.set_cons_succ]
        refine qw_skip (by rfl) ?_
        simp only [Act.put, List.setIfInBounds_toArray, List.set_cons_zero, List.set_cons_succ]
        refine qw_skip (by rfl) ?_
        simp only [Act.put, List.setIfInBounds_toArray, List.set_cons_zero, List.set_cons_succ]
        refine qw_skip (by rfl) ?_
        simp only [Act.put, List.setIfInBounds_toArray, List.set_cons_zero, List.set_cons_succ]
        refine qw_skip (by rfl) ?_
        simp only [Act.put, List.setIfInBounds_toArray, List.set_cons_zero, List.set_cons_succ]
        refine qw_skip (by rfl) ?_
        simp only [Act.put, List.setIfInBounds_toArray, List.set_cons_zero, List.set_cons_succ]
        refine qw_skip (by rfl) ?_
        simp only [Act.put, List.setIfInBounds_toArray, List.set_cons_zero, List.set_cons_succ]
        refine qw_run (v := .bool false) (by rfl) ?_ ?_
        · (intro w1 hC; obtain ⟨⟨p0, p1, p2, -, -, -⟩, ⟨q0, q1, q2, -, -, -⟩, ⟨z0, z1, -, -, -⟩, -⟩ := hC; go_simp; first | done | (simp; done) | (simp [*]; done) | omega | (simp; omega) | (rw [IntKind.wrap_i64]; omega) | (intro hx; omega) | rfl)
        simp only [Act.put, List.setIfInBounds_toArray, List.set_cons_zero, List.set_cons_succ]
        refine qw_nil ?_
        intro W7 hC
        go_wp2
        go_ret
        exact ⟨rfl, hC.2.2.2⟩
    · have hap : decide (e2 < 0) = (!a1 && !b1) := by have := H2.out; simp [he1] at this; simp [this]
      cases a1 <;> cases b1
      · have hap2 : decide (e2 < 0) = true := by rw [hap]; rfl
        have hap3 : e2 < 0 := by simpa using hap2
        clear hap hap2
        refine qw_region (C := CA w a b X N Y M c) (by kernel_rfl) (by kernel_rfl) hCd2 ?_
        clear hCd2
        refine qw_run (v := .int .i64 (F)) (by rfl) ?_ ?_
        · (intro w1 hC; obtain ⟨⟨p0, p1, p2, -, -, -⟩, ⟨q0, q1, q2, -, -, -⟩, ⟨z0, z1, -, -, -⟩, -⟩ := hC; go_simp; first | done | (simp; done) | (simp [*]; done) | omega | (simp; omega) | (rw [IntKind.wrap_i64]; omega) | (intro hx; omega) | rfl)
        simp only [Act.put, List.setIfInBounds_toArray, List.set_cons_zero, List.set_cons_succ]
        refine qw_run (v := .agg #[.int .u64 (hI X), .int .u64 (lI X), .int .i64 (N)]) (by rfl) ?_ ?_
        · (intro w1 hC; obtain ⟨⟨p0, p1, p2, -, -, -⟩, ⟨q0, q1, q2, -, -, -⟩, ⟨z0, z1, -, -, -⟩, -⟩ := hC; go_simp; first | done | (simp; done) | (simp [*]; done) | omega | (simp; omega) | (rw [IntKind.wrap_i64]; omega) | (intro hx; omega) | rfl)
        simp only [Act.put, List.setIfInBounds_toArray, List.set_cons_zero, List.set_cons_succ]
        refine qw_call (v := .agg #[.int .u64 (hI Lp), .int .u64 (lI Lp)]) (f := 25) (args := #[.int .i64 (F), .agg #[.int .u64 (hI X), .int .u64 (lI X), .int .i64 (N)]]) (by rfl) ?_ ?_ ?_
        · (intro w1 hC; clear hC; go_simp)
        · exact fun w1 hC => (KLP w1).mono fun e w' ⟨he, hb⟩ => ⟨he, hC.keep hb⟩
        simp only [Act.put, List.setIfInBounds_toArray, List.set_cons_zero, List.set_cons_succ]
        refine qw_run (v := .agg #[.int .u64 (hI Y), .int .u64 (lI Y), .int .i64 (M)]) (by rfl) ?_ ?_
        · (intro w1 hC; obtain ⟨⟨p0, p1, p2, -, -, -⟩, ⟨q0, q1, q2, -, -, -⟩, ⟨z0, z1, -, -, -⟩, -⟩ := hC; go_simp; first | done | (simp; done) | (simp [*]; done) | omega | (simp; omega) | (rw [IntKind.wrap_i64]; omega) | (intro hx; omega) | rfl)
        simp only [Act.put, List.setIfInBounds_toArray, List.set_cons_zero, List.set_cons_succ]
        refine qw_call (v := .agg #[.int .u64 (hI Y), .int .u64 (lI Y)]) (f := 24) (args := #[.agg #[.int .u64 (hI Y), .int .u64 (lI Y), .int .i64 (M)]]) (by rfl) ?_ ?_ ?_
        · (intro w1 hC; clear hC; go_simp)
        · exact fun w1 hC => (KFQ w1).mono fun e w' ⟨he, hb⟩ => ⟨he, hC.keep hb⟩
        simp only [Act.put, List.setIfInBounds_toArray, List.set_cons_zero, List.set_cons_succ]
        refine qw_call (v := .int .i64 (e1)) (f := 23) (args := #[.agg #[.int .u64 (hI Lp), .int .u64 (lI Lp)], .agg #[.int .u64 (hI Y), .int .u64 (lI Y)]]) (by rfl) ?_ ?_ ?_
        · (intro w1 hC; clear hC; go_simp)
        · exact fun w1 hC => (KE1 w1).mono fun e w' ⟨he, hb⟩ => ⟨he, hC.keep hb⟩
        simp only [Act.put, List.setIfInBounds_toArray, List.set_cons_zero, List.set_cons_succ]
        refine qw_run (v := .bool false) (by rfl) ?_ ?_
        · (intro w1 hC; obtain ⟨⟨p0, p1, p2, -, -, -⟩, ⟨q0, q1, q2, -, -, -⟩, ⟨z0, z1, -, -, -⟩, -⟩ := hC; go_simp; first | done | (simp; done) | (simp [*]; done) | omega | (simp; omega) | (rw [IntKind.wrap_i64]; omega) | (intro hx; omega) | rfl)
        simp only [Act.put, List.setIfInBounds_toArray, List.set_cons_zero, List.set_cons_succ]
        refine qw_run (v := .bool false) (by rfl) ?_ ?_
        · (intro w1 hC; obtain ⟨⟨p0, p1, p2, -, -, -⟩, ⟨q0, q1, q2, -, -, -⟩, ⟨z0, z1, -, -, -⟩, -⟩ := hC; go_simp; first | done | (simp; done) | (simp [*]; done) | omega | (simp; omega) | (rw [IntKind.wrap_i64]; omega) | (intro hx; omega) | rfl)
        simp only [Act.put, List.setIfInBounds_toArray, List.set_cons_zero, List.set_cons_succ]
        refine qw_run (v := .int .i64 (F)) (by rfl) ?_ ?_
        · (intro w1 hC; obtain ⟨⟨p0, p1, p2, -, -, -⟩, ⟨q0, q1, q2, -, -, -⟩, ⟨z0, z1, -, -, -⟩, -⟩ := hC; go_simp; first | done | (simp; done) | (simp [*]; done) | omega | (simp; omega) | (rw [IntKind.wrap_i64]; omega) | (intro hx; omega) | rfl)
        simp only [Act.put, List.setIfInBounds_toArray, List.set_cons_zero, List.set_cons_succ]
        refine qw_run (v := .agg #[.int .u64 (hI Y), .int .u64 (lI Y), .int .i64 (M)]) (by rfl) ?_ ?_
        · (intro w1 hC; obtain ⟨⟨p0, p1, p2, -, -, -⟩, ⟨q0, q1, q2, -, -, -⟩, ⟨z0, z1, -, -, -⟩, -⟩ := hC; go_simp; first | done | (simp; done) | (simp [*]; done) | omega | (simp; omega) | (rw [IntKind.wrap_i64]; omega) | (intro hx; omega) | rfl)
        simp only [Act.put, List.setIfInBounds_toArray, List.set_cons_zero, List.set_cons_succ]
        refine qw_call (v := .agg #[.int .u64 (hI Lq), .int .u64 (lI Lq)]) (f := 25) (args := #[.int .i64 (F), .agg #[.int .u64 (hI Y), .int .u64 (lI Y), .int .i64 (M)]]) (by rfl) ?_ ?_ ?_
        · (intro w1 hC; clear hC; go_simp)
        · exact fun w1 hC => (KLQ w1).mono fun e w' ⟨he, hb⟩ => ⟨he, hC.keep hb⟩
        simp only [Act.put, List.setIfInBounds_toArray, List.set_cons_zero, List.set_cons_succ]
        refine qw_run (v := .agg #[.int .u64 (hI X), .int .u64 (lI X), .int .i64 (N)]) (by rfl) ?_ ?_
        · (intro w1 hC; obtain ⟨⟨p0, p1, p2, -, -, -⟩, ⟨q0, q1, q2, -, -, -⟩, ⟨z0, z1, -, -, -⟩, -⟩ := hC; go_simp; first | done | (simp; done) | (simp [*]; done) | omega | (simp; omega) | (rw [IntKind.wrap_i64]; omega) | (intro hx; omega) | rfl)
        simp only [Act.put, List.setIfInBounds_toArray, List.set_cons_zero, List.set_cons_succ]
        refine qw_call (v := .agg #[.int .u64 (hI X), .int .u64 (lI X)]) (f := 24) (args := #[.agg #[.int .u64 (hI X), .int .u64 (lI X), .int .i64 (N)]]) (by rfl) ?_ ?_ ?_
        · (intro w1 hC; clear hC; go_simp)
        · exact fun w1 hC => (KFP w1).mono fun e w' ⟨he, hb⟩ => ⟨he, hC.keep hb⟩
        simp only [Act.put, List.setIfInBounds_toArray, List.set_cons_zero, List.set_cons_succ]
        refine qw_call (v := .int .i64 (e2)) (f := 23) (args := #[.agg #[.int .u64 (hI Lq), .int .u64 (lI Lq)], .agg #[.int .u64 (hI X), .int .u64 (lI X)]]) (by rfl) ?_ ?_ ?_
        · (intro w1 hC; clear hC; go_simp)
        · exact fun w1 hC => (KE2 w1).mono fun e w' ⟨he, hb⟩ => ⟨he, hC.keep hb⟩
        simp only [Act.put, List.setIfInBounds_toArray, List.set_cons_zero, List.set_cons_succ]
        refine qw_run (v := .bool true) (by rfl) ?_ ?_
        · (intro w1 hC; obtain ⟨⟨p0, p1, p2, -, -, -⟩, ⟨q0, q1, q2, -, -, -⟩, ⟨z0, z1, -, -, -⟩, -⟩ := hC; go_simp; first | done | (simp; done) | (simp [*]; done) | omega | (simp; omega) | (rw [IntKind.wrap_i64]; omega) | (intro hx; omega) | rfl)
        simp only [Act.put, List.setIfInBounds_toArray, List.set_cons_zero, List.set_cons_succ]
        refine qw_run (v := .bool true) (by rfl) ?_ ?_
        · (intro w1 hC; obtain ⟨⟨p0, p1, p2, -, -, -⟩, ⟨q0, q1, q2, -, -, -⟩, ⟨z0, z1, -, -, -⟩, -⟩ := hC; go_simp; first | done | (simp; done) | (simp [*]; done) | omega | (simp; omega) | (rw [IntKind.wrap_i64]; omega) | (intro hx; omega) | rfl)
        simp only [Act.put, List.setIfInBounds_toArray, List.set_cons_zero, List.set_cons_succ]
        refine qw_run (v := .bool true) (by rfl) ?_ ?_
        · (intro w1 hC; obtain ⟨⟨p0, p1, p2, -, -, -⟩, ⟨q0, q1, q2, -, -, -⟩, ⟨z0, z1, -, -, -⟩, -⟩ := hC; go_simp; first | done | (simp; done) | (simp [*]; done) | omega | (simp; omega) | (rw [IntKind.wrap_i64]; omega) | (intro hx; omega) | rfl)
        simp only [Act.put, List.setIfInBounds_toArray, List.set_cons_zero, List.set_cons_succ]
        refine qw_nil ?_
        intro W7 hC
        · have h3 := H3.out
          clear H3
          obtain ⟨⟨p0, p1, p2, -, -, -⟩, ⟨q0, q1, q2, -, -, -⟩, ⟨z0, z1, -, -, -⟩, -⟩ := id hC
          simp at h3
          have heq1 : eq1 = false := by cases eq1 <;> simp_all
          rw [heq1] at hEq
          clear h3 heq1
          go_wp2_with fail
          clear p0 p1 p2 q0 q1 q2 z0 z1 hEq
          have hCe := hC.drew
          clear hC
          go_wp2_with fail
          refine qw_region (C := CA w a b X N Y M c) (by kernel_rfl) (by kernel_rfl) hCe ?_
          clear hCe
          refine qw_run (v := .bool false) (by rfl) ?_ ?_
          · (intro w1 hC; obtain ⟨⟨p0, p1, p2, -, -, -⟩, ⟨q0, q1, q2, -, -, -⟩, ⟨z0, z1, -, -, -⟩, -⟩ := hC; go_simp; first | done | (simp; done) | (simp [*]; done) | omega | (simp; omega) | (rw [IntKind.wrap_i64]; omega) | (intro hx; omega) | rfl)
          simp only [Act.put, List.setIfInBounds_toArray, List.set_cons_zero, List.set_cons_succ]
          refine qw_run (v := .bool false) (by rfl) ?_ ?_
          · (intro w1 hC; obtain ⟨⟨p0, p1, p2, -, -, -⟩, ⟨q0, q1, q2, -, -, -⟩, ⟨z0, z1, -, -, -⟩, -⟩ := hC; go_simp; first | done | (simp; done) | (simp [*]; done) | omega | (simp; omega) | (rw [IntKind.wrap_i64]; omega) | (intro hx; omega) | rfl)
          simp only [Act.put, List.setIfInBounds_toArray, List.set_cons_zero, List.set_cons_succ]
          refine qw_skip (by rfl) ?_
          simp only [Act.put, List.setIfInBounds_toArray, List.set_cons_zero, List.set_cons_succ]
          refine qw_skip (by rfl) ?_
          simp only [Act.put, List.setIfInBounds_toArray, List.set_cons_zero, List.set_cons_succ]
          refine qw_skip (by rfl) ?_
          simp only [Act.put, List.setIfInBounds_toArray, List.set_cons_zero, List.set_cons_succ]
          refine qw_skip (by rfl) ?_
          simp only [Act.put, List.setIfInBounds_toArray, List.set_cons_zero, List.set_cons_succ]
          refine qw_skip (by rfl) ?_
          simp only [Act.put, List.setIfInBounds_toArray, List.set_cons_zero, List.set_cons_succ]
          refine qw_skip (by rfl) ?_
          simp only [Act.put, List.setIfInBounds_toArray, List.set_cons_zero, List.set_cons_succ]
          refine qw_skip (by rfl) ?_
          simp only [Act.put, List.setIfInBounds_toArray, List.set_cons_zero, List.set_cons_succ]
          refine qw_skip (by rfl) ?_
          simp only [Act.put, List.setIfInBounds_toArray, List.set_cons_zero, List.set_cons_succ]
          refine qw_skip (by rfl) ?_
          simp only [Act.put, List.setIfInBounds_toArray, List.set_cons_zero, List.set_cons_succ]
          refine qw_skip (by rfl) ?_
          simp only [Act.put, List.setIfInBounds_toArray, List.set_cons_zero, List.set_cons_succ]
          refine qw_skip (by rfl) ?_
          simp only [Act.put, List.setIfInBounds_toArray, List.set_cons_zero, List.set_cons_succ]
          refine qw_skip (by rfl) ?_
          simp only [Act.put, List.setIfInBounds_toArray, List.set_cons_zero, List.set_cons_succ]
          refine qw_skip (by rfl) ?_
          simp only [Act.put, List.setIfInBounds_toArray, List.set_cons_zero, List.set_cons_succ]
          refine qw_skip (by rfl) ?_
          simp only [Act.put, List.setIfInBounds_toArray, List.set_cons_zero, List.set_cons_succ]
          refine qw_skip (by rfl) ?_
          simp only [Act.put, List.setIfInBounds_toArray, List.set_cons_zero, List.set_cons_succ]
          refine qw_skip (by rfl) ?_
          simp only [Act.put, List.setIfInBounds_toArray, List.set_cons_zero, List.set_cons_succ]
          refine qw_run (v := .bool false) (by rfl) ?_ ?_
          · (intro w1 hC; obtain ⟨⟨p0, p1, p2, -, -, -⟩, ⟨q0, q1, q2, -, -, -⟩, ⟨z0, z1, -, -, -⟩, -⟩ := hC; go_simp; first | done | (simp; done) | (simp [*]; done) | omega | (simp; omega) | (rw [IntKind.wrap_i64]; omega) | (intro hx; omega) | rfl)
          simp only [Act.put, List.setIfInBounds_toArray, List.set_cons_zero, List.set_cons_succ]
          refine qw_nil ?_
          intro W7 hC
          go_wp2
          go_ret
          exact ⟨rfl, hC.2.2.2⟩
      · have hap2 : decide (e2 < 0) = false := by rw [hap]; rfl
        have hap3 : ¬ e2 < 0 := by simpa using hap2
        clear hap hap2
        refine qw_region (C := CA w a b X N Y M c) (by kernel_rfl) (by kernel_rfl) hCd2 ?_
        clear hCd2
        refine qw_run (v := .int .i64 (F)) (by rfl) ?_ ?_
        · (intro w1 hC; obtain ⟨⟨p0, p1, p2, -, -, -⟩, ⟨q0, q1, q2, -, -, -⟩, ⟨z0, z1, -, -, -⟩, -⟩ := hC; go_simp; first | done | (simp; done) | (simp [*]; done) | omega | (simp; omega) | (rw [IntKind.wrap_i64]; omega) | (intro hx; omega) | rfl)
        simp only [Act.put, List.setIfInBounds_toArray, List.set_cons_zero, List.set_cons_succ]
        refine qw_run (v := .agg #[.int .u64 (hI X), .int .u64 (lI X), .int .i64 (N)]) (by rfl) ?_ ?_
        · (intro w1 hC; obtain ⟨⟨p0, p1, p2, -, -, -⟩, ⟨q0, q1, q2, -, -, -⟩, ⟨z0, z1, -, -, -⟩, -⟩ := hC; go_simp; first | done | (simp; done) | (simp [*]; done) | omega | (simp; omega) | (rw [IntKind.wrap_i64]; omega) | (intro hx; omega) | rfl)
        simp only [Act.put, List.setIfInBounds_toArray, List.set_cons_zero, List.set_cons_succ]
        refine qw_call (v := .agg #[.int .u64 (hI Lp), .int .u64 (lI Lp)]) (f := 25) (args := #[.int .i64 (F), .agg #[.int .u64 (hI X), .int .u64 (lI X), .int .i64 (N)]]) (by rfl) ?_ ?_ ?_
        · (intro w1 hC; clear hC; go_simp)
        · exact fun w1 hC => (KLP w1).mono fun e w' ⟨he, hb⟩ => ⟨he, hC.keep hb⟩
        simp only [Act.put, List.setIfInBounds_toArray, List.set_cons_zero, List.set_cons_succ]
        refine qw_run (v := .agg #[.int .u64 (hI Y), .int .u64 (lI Y), .int .i64 (M)]) (by rfl) ?_ ?_
        · (intro w1 hC; obtain ⟨⟨p0, p1, p2, -, -, -⟩, ⟨q0, q1, q2, -, -, -⟩, ⟨z0, z1, -, -, -⟩, -⟩ := hC; go_simp; first | done | (simp; done) | (simp [*]; done) | omega | (simp; omega) | (rw [IntKind.wrap_i64]; omega) | (intro hx; omega) | rfl)
        simp only [Act.put, List.setIfInBounds_toArray, List.set_cons_zero, List.set_cons_succ]
        refine qw_call (v := .agg #[.int .u64 (hI Y), .int .u64 (lI Y)]) (f := 24) (args := #[.agg #[.int .u64 (hI Y), .int .u64 (lI Y), .int .i64 (M)]]) (by rfl) ?_ ?_ ?_
        · (intro w1 hC; clear hC; go_simp)
        · exact fun w1 hC => (KFQ w1).mono fun e w' ⟨he, hb⟩ => ⟨he, hC.keep hb⟩
        simp only [Act.put, List.setIfInBounds_toArray, List.set_cons_zero, List.set_cons_succ]
        refine qw_call (v := .int .i64 (e1)) (f := 23) (args := #[.agg #[.int .u64 (hI Lp), .int .u64 (lI Lp)], .agg #[.int .u64 (hI Y), .int .u64 (lI Y)]]) (by rfl) ?_ ?_ ?_
        · (intro w1 hC; clear hC; go_simp)
        · exact fun w1 hC => (KE1 w1).mono fun e w' ⟨he, hb⟩ => ⟨he, hC.keep hb⟩
        simp only [Act.put, List.setIfInBounds_toArray, List.set_cons_zero, List.set_cons_succ]
        refine qw_run (v := .bool false) (by rfl) ?_ ?_
        · (intro w1 hC; obtain ⟨⟨p0, p1, p2, -, -, -⟩, ⟨q0, q1, q2, -, -, -⟩, ⟨z0, z1, -, -, -⟩, -⟩ := hC; go_simp; first | done | (simp; done) | (simp [*]; done) | omega | (simp; omega) | (rw [IntKind.wrap_i64]; omega) | (intro hx; omega) | rfl)
        simp only [Act.put, List.setIfInBounds_toArray, List.set_cons_zero, List.set_cons_succ]
        refine qw_run (v := .bool false) (by rfl) ?_ ?_
        · (intro w1 hC; obtain ⟨⟨p0, p1, p2, -, -, -⟩, ⟨q0, q1, q2, -, -, -⟩, ⟨z0, z1, -, -, -⟩, -⟩ := hC; go_simp; first | done | (simp; done) | (simp [*]; done) | omega | (simp; omega) | (rw [IntKind.wrap_i64]; omega) | (intro hx; omega) | rfl)
        simp only [Act.put, List.setIfInBounds_toArray, List.set_cons_zero, List.set_cons_succ]
        refine qw_run (v := .int .i64 (F)) (by rfl) ?_ ?_
        · (intro w1 hC; obtain ⟨⟨p0, p1, p2, -, -, -⟩, ⟨q0, q1, q2, -, -, -⟩, ⟨z0, z1, -, -, -⟩, -⟩ := hC; go_simp; first | done | (simp; done) | (simp [*]; done) | omega | (simp; omega) | (rw [IntKind.wrap_i64]; omega) | (intro hx; omega) | rfl)
        simp only [Act.put, List.setIfInBounds_toArray, List.set_cons_zero, List.set_cons_succ]
        refine qw_run (v := .agg #[.int .u64 (hI Y), .int .u64 (lI Y), .int .i64 (M)]) (by rfl) ?_ ?_
        · (intro w1 hC; obtain ⟨⟨p0, p1, p2, -, -, -⟩, ⟨q0, q1, q2, -, -, -⟩, ⟨z0, z1, -, -, -⟩, -⟩ := hC; go_simp; first | done | (simp; done) | (simp [*]; done) | omega | (simp; omega) | (rw [IntKind.wrap_i64]; omega) | (intro hx; omega) | rfl)
        simp only [Act.put, List.setIfInBounds_toArray, List.set_cons_zero, List.set_cons_succ]
        refine qw_call (v := .agg #[.int .u64 (hI Lq), .int .u64 (lI Lq)]) (f := 25) (args := #[.int .i64 (F), .agg #[.int .u64 (hI Y), .int .u64 (lI Y), .int .i64 (M)]]) (by rfl) ?_ ?_ ?_
        · (intro w1 hC; clear hC; go_simp)
        · exact fun w1 hC => (KLQ w1).mono fun e w' ⟨he, hb⟩ => ⟨he, hC.keep hb⟩
        simp only [Act.put, List.setIfInBounds_toArray, List.set_cons_zero, List.set_cons_succ]
        refine qw_run (v := .agg #[.int .u64 (hI X), .int .u64 (lI X), .int .i64 (N)]) (by rfl) ?_ ?_
        · (intro w1 hC; obtain ⟨⟨p0, p1, p2, -, -, -⟩, ⟨q0, q1, q2, -, -, -⟩, ⟨z0, z1, -, -, -⟩, -⟩ := hC; go_simp; first | done | (simp; done) | (simp [*]; done) | omega | (simp; omega) | (rw [IntKind.wrap_i64]; omega) | (intro hx; omega) | rfl)
        simp only [Act.put, List.setIfInBounds_toArray, List.set_cons_zero, List.set_cons_succ]
        refine qw_call (v := .agg #[.int .u64 (hI X), .int .u64 (lI X)]) (f := 24) (args := #[.agg #[.int .u64 (hI X), .int .u64 (lI X), .int .i64 (N)]]) (by rfl) ?_ ?_ ?_
        · (intro w1 hC; clear hC; go_simp)
        · exact fun w1 hC => (KFP w1).mono fun e w' ⟨he, hb⟩ => ⟨he, hC.keep hb⟩
        simp only [Act.put, List.setIfInBounds_toArray, List.set_cons_zero, List.set_cons_succ]
        refine qw_call (v := .int .i64 (e2)) (f := 23) (args := #[.agg #[.int .u64 (hI Lq), .int .u64 (lI Lq)], .agg #[.int .u64 (hI X), .int .u64 (lI X)]]) (by rfl) ?_ ?_ ?_
        · (intro w1 hC; clear hC; go_simp)
        · exact fun w1 hC => (KE2 w1).mono fun e w' ⟨he, hb⟩ => ⟨he, hC.keep hb⟩
        simp only [Act.put, List.setIfInBounds_toArray, List.set_cons_zero, List.set_cons_succ]
        refine qw_run (v := .bool false) (by rfl) ?_ ?_
        · (intro w1 hC; obtain ⟨⟨p0, p1, p2, -, -, -⟩, ⟨q0, q1, q2, -, -, -⟩, ⟨z0, z1, -, -, -⟩, -⟩ := hC; go_simp; first | done | (simp; done) | (simp [*]; done) | omega | (simp; omega) | (rw [IntKind.wrap_i64]; omega) | (intro hx; omega) | rfl)
        simp only [Act.put, List.setIfInBounds_toArray, List.set_cons_zero, List.set_cons_succ]
        refine qw_run (v := .bool false) (by rfl) ?_ ?_
        · (intro w1 hC; obtain ⟨⟨p0, p1, p2, -, -, -⟩, ⟨q0, q1, q2, -, -, -⟩, ⟨z0, z1, -, -, -⟩, -⟩ := hC; go_simp; first | done | (simp; done) | (simp [*]; done) | omega | (simp; omega) | (rw [IntKind.wrap_i64]; omega) | (intro hx; omega) | rfl)
        simp only [Act.put, List.setIfInBounds_toArray, List.set_cons_zero, List.set_cons_succ]
        refine qw_run (v := .bool false) (by rfl) ?_ ?_
        · (intro w1 hC; obtain ⟨⟨p0, p1, p2, -, -, -⟩, ⟨q0, q1, q2, -, -, -⟩, ⟨z0, z1, -, -, -⟩, -⟩ := hC; go_simp; first | done | (simp; done) | (simp [*]; done) | omega | (simp; omega) | (rw [IntKind.wrap_i64]; omega) | (intro hx; omega) | rfl)
        simp only [Act.put, List.setIfInBounds_toArray, List.set_cons_zero, List.set_cons_succ]
        refine qw_nil ?_
        intro W7 hC
        · have h3 := H3.out
          clear H3
          obtain ⟨⟨p0, p1, p2, -, -, -⟩, ⟨q0, q1, q2, -, -, -⟩, ⟨z0, z1, -, -, -⟩, -⟩ := id hC
          simp at h3
          have heq1 : eq1 = false := by cases eq1 <;> simp_all
          rw [heq1] at hEq
          clear h3 heq1
          go_wp2_with fail
          clear p0 p1 p2 q0 q1 q2 z0 z1 hEq
          have hCe := hC.drew
          clear hC
          go_wp2_with fail
          refine qw_region (C := CA w a b X N Y M c) (by kernel_rfl) (by kernel_rfl) hCe ?_
          clear hCe
          refine qw_run (v := .bool false) (by rfl) ?_ ?_
          · (intro w1 hC; obtain ⟨⟨p0, p1, p2, -, -, -⟩, ⟨q0, q1, q2, -, -, -⟩, ⟨z0, z1, -, -, -⟩, -⟩ := hC; go_simp; first | done | (simp; done) | (simp [*]; done) | omega | (simp; omega) | (rw [IntKind.wrap_i64]; omega) | (intro hx; omega) | rfl)
          simp only [Act.put, List.setIfInBounds_toArray, List.set_cons_zero, List.set_cons_succ]
          refine qw_run (v := .bool false) (by rfl) ?_ ?_
          · (intro w1 hC; obtain ⟨⟨p0, p1, p2, -, -, -⟩, ⟨q0, q1, q2, -, -, -⟩, ⟨z0, z1, -, -, -⟩, -⟩ := hC; go_simp; first | done | (simp; done) | (simp [*]; done) | omega | (simp; omega) | (rw [IntKind.wrap_i64]; omega) | (intro hx; omega) | rfl)
          simp only [Act.put, List.setIfInBounds_toArray, List.set_cons_zero, List.set_cons_succ]
          refine qw_skip (by rfl) ?_
          simp only [Act.put, List.setIfInBounds_toArray, List.set_cons_zero, List.set_cons_succ]
          refine qw_skip (by rfl) ?_
          simp only [Act.put, List.setIfInBounds_toArray, List.set_cons_zero, List.set_cons_succ]
          refine qw_skip (by rfl) ?_
          simp only [Act.put, List.setIfInBounds_toArray, List.set_cons_zero, List.set_cons_succ]
          refine qw_skip (by rfl) ?_
          simp only [Act.put, List.setIfInBounds_toArray, List.set_cons_zero, List.set_cons_succ]
          refine qw_skip (by rfl) ?_
          simp only [Act.put, List.setIfInBounds_toArray, List.set_cons_zero, List.set_cons_succ]
          refine qw_skip (by rfl) ?_
          simp only [Act.put, List.setIfInBounds_toArray, List.set_cons_zero, List.set_cons_succ]
          refine qw_skip (by rfl) ?_
          simp only [Act.put, List.setIfInBounds_toArray, List.set_cons_zero, List.set_cons_succ]
          refine qw_skip (by rfl) ?_
          simp only [Act.put, List.setIfInBounds_toArray, List.set_cons_zero, List.set_cons_succ]
          refine qw_skip (by rfl) ?_
          simp only [Act.put, List.setIfInBounds_toArray, List.set_cons_zero, List.set_cons_succ]
          refine qw_skip (by rfl) ?_
          simp only [Act.put, List.setIfInBounds_toArray, List.set_cons_zero, List.set_cons_succ]
          refine qw_skip (by rfl) ?_
          simp only [Act.put, List.setIfInBounds_toArray, List.set_cons_zero, List.set_cons_succ]
          refine qw_skip (by rfl) ?_
          simp only [Act.put, List.setIfInBounds_toArray, List.set_cons_zero, List.set_cons_succ]
          refine qw_skip (by rfl) ?_
          simp only [Act.put, List.setIfInBounds_toArray, List.set_cons_zero, List.set_cons_succ]
          refine qw_skip (by rfl) ?_
          simp only [Act.put, List.setIfInBounds_toArray, List.set_cons_zero, List.set_cons_succ]
          refine qw_skip (by rfl) ?_
          simp only [Act.put, List.setIfInBounds_toArray, List.set_cons_zero, List.set_cons_succ]
          refine qw_skip (by rfl) ?_
          simp only [Act.put, List.setIfInBounds_toArray, List.set_cons_zero, List.set_cons_succ]
          refine qw_run (v := .bool false) (by rfl) ?_ ?_
          · (intro w1 hC; obtain ⟨⟨p0, p1, p2, -, -, -⟩, ⟨q0, q1, q2, -, -, -⟩, ⟨z0, z1, -, -, -⟩, -⟩ := hC; go_simp; first | done | (simp; done) | (simp [*]; done) | omega | (simp; omega) | (rw [IntKind.wrap_i64]; omega) | (intro hx; omega) | rfl)
          simp only [Act.put, List.setIfInBounds_toArray, List.set_cons_zero, List.set_cons_succ]
          refine qw_nil ?_
          intro W7 hC
          go_wp2
          go_ret
          exact ⟨rfl, hC.2.2.2⟩
      · have hap2 : decide (e2 < 0) = false := by rw [hap]; rfl
        have hap3 : ¬ e2 < 0 := by simpa using hap2
        clear hap hap2
        refine qw_region (C := CA w a b X N Y M c) (by kernel_rfl) (by kernel_rfl) hCd2 ?_
        clear hCd2
        refine qw_run (v := .int .i64 (F)) (by rfl) ?_ ?_
        · (intro w1 hC; obtain ⟨⟨p0, p1, p2, -, -, -⟩, ⟨q0, q1, q2, -, -, -⟩, ⟨z0, z1, -, -, -⟩, -⟩ := hC; go_simp; first | done | (simp; done) | (simp [*]; done) | omega | (simp; omega) | (rw [IntKind.wrap_i64]; omega) | (intro hx; omega) | rfl)
        simp only [Act.put, List.setIfInBounds_toArray, List.set_cons_zero, List.set_cons_succ]
        refine qw_run (v := .agg #[.int .u64 (hI X), .int .u64 (lI X), .int .i64 (N)]) (by rfl) ?_ ?_
        · (intro w1 hC; obtain ⟨⟨p0, p1, p2, -, -, -⟩, ⟨q0, q1, q2, -, -, -⟩, ⟨z0, z1, -, -, -⟩, -⟩ := hC; go_simp; first | done | (simp; done) | (simp [*]; done) | omega | (simp; omega) | (rw [IntKind.wrap_i64]; omega) | (intro hx; omega) | rfl)
        simp only [Act.put, List.setIfInBounds_toArray, List.set_cons_zero, List.set_cons_succ]
        refine qw_call (v := .agg #[.int .u64 (hI Lp), .int .u64 (lI Lp)]) (f := 25) (args := #[.int .i64 (F), .agg #[.int .u64 (hI X), .int .u64 (lI X), .int .i64 (N)]]) (by rfl) ?_ ?_ ?_
        · (intro w1 hC; clear hC; go_simp)
        · exact fun w1 hC => (KLP w1).mono fun e w' ⟨he, hb⟩ => ⟨he, hC.keep hb⟩
        simp only [Act.put, List.setIfInBounds_toArray, List.set_cons_zero, List.set_cons_succ]
        refine qw_run (v := .agg #[.int .u64 (hI Y), .int .u64 (lI Y), .int .i64 (M)]) (by rfl) ?_ ?_
        · (intro w1 hC; obtain ⟨⟨p0, p1, p2, -, -, -⟩, ⟨q0, q1, q2, -, -, -⟩, ⟨z0, z1, -, -, -⟩, -⟩ := hC; go_simp; first | done | (simp; done) | (simp [*]; done) | omega | (simp; omega) | (rw [IntKind.wrap_i64]; omega) | (intro hx; omega) | rfl)
        simp only [Act.put, List.setIfInBounds_toArray, List.set_cons_zero, List.set_cons_succ]
        refine qw_call (v := .agg #[.int .u64 (hI Y), .int .u64 (lI Y)]) (f := 24) (args := #[.agg #[.int .u64 (hI Y), .int .u64 (lI Y), .int .i64 (M)]]) (by rfl) ?_ ?_ ?_
        · (intro w1 hC; clear hC; go_simp)
        · exact fun w1 hC => (KFQ w1).mono fun e w' ⟨he, hb⟩ => ⟨he, hC.keep hb⟩
        simp only [Act.put, List.setIfInBounds_toArray, List.set_cons_zero, List.set_cons_succ]
        refine qw_call (v := .int .i64 (e1)) (f := 23) (args := #[.agg #[.int .u64 (hI Lp), .int .u64 (lI Lp)], .agg #[.int .u64 (hI Y), .int .u64 (lI Y)]]) (by rfl) ?_ ?_ ?_
        · (intro w1 hC; clear hC; go_simp)
        · exact fun w1 hC => (KE1 w1).mono fun e w' ⟨he, hb⟩ => ⟨he, hC.keep hb⟩
        simp only [Act.put, List.setIfInBounds_toArray, List.set_cons_zero, List.set_cons_succ]
        refine qw_run (v := .bool false) (by rfl) ?_ ?_
        · (intro w1 hC; obtain ⟨⟨p0, p1, p2, -, -, -⟩, ⟨q0, q1, q2, -, -, -⟩, ⟨z0, z1, -, -, -⟩, -⟩ := hC; go_simp; first | done | (simp; done) | (simp [*]; done) | omega | (simp; omega) | (rw [IntKind.wrap_i64]; omega) | (intro hx; omega) | rfl)
        simp only [Act.put, List.setIfInBounds_toArray, List.set_cons_zero, List.set_cons_succ]
        refine qw_run (v := .bool false) (by rfl) ?_ ?_
        · (intro w1 hC; obtain ⟨⟨p0, p1, p2, -, -, -⟩, ⟨q0, q1, q2, -, -, -⟩, ⟨z0, z1, -, -, -⟩, -⟩ := hC; go_simp; first | done | (simp; done) | (simp [*]; done) | omega | (simp; omega) | (rw [IntKind.wrap_i64]; omega) | (intro hx; omega) | rfl)
        simp only [Act.put, List.setIfInBounds_toArray, List.set_cons_zero, List.set_cons_succ]
        refine qw_run (v := .int .i64 (F)) (by rfl) ?_ ?_
        · (intro w1 hC; obtain ⟨⟨p0, p1, p2, -, -, -⟩, ⟨q0, q1, q2, -, -, -⟩, ⟨z0, z1, -, -, -⟩, -⟩ := hC; go_simp; first | done | (simp; done) | (simp [*]; done) | omega | (simp; omega) | (rw [IntKind.wrap_i64]; omega) | (intro hx; omega) | rfl)
        simp only [Act.put, List.setIfInBounds_toArray, List.set_cons_zero, List.set_cons_succ]
        refine qw_run (v := .agg #[.int .u64 (hI Y), .int .u64 (lI Y), .int .i64 (M)]) (by rfl) ?_ ?_
        · (intro w1 hC; obtain ⟨⟨p0, p1, p2, -, -, -⟩, ⟨q0, q1, q2, -, -, -⟩, ⟨z0, z1, -, -, -⟩, -⟩ := hC; go_simp; first | done | (simp; done) | (simp [*]; done) | omega | (simp; omega) | (rw [IntKind.wrap_i64]; omega) | (intro hx; omega) | rfl)
        simp only [Act.put, List.setIfInBounds_toArray, List.set_cons_zero, List.set_cons_succ]
        refine qw_call (v := .agg #[.int .u64 (hI Lq), .int .u64 (lI Lq)]) (f := 25) (args := #[.int .i64 (F), .agg #[.int .u64 (hI Y), .int .u64 (lI Y), .int .i64 (M)]]) (by rfl) ?_ ?_ ?_
        · (intro w1 hC; clear hC; go_simp)
        · exact fun w1 hC => (KLQ w1).mono fun e w' ⟨he, hb⟩ => ⟨he, hC.keep hb⟩
        simp only [Act.put, List.setIfInBounds_toArray, List.set_cons_zero, List.set_cons_succ]
        refine qw_run (v := .agg #[.int .u64 (hI X), .int .u64 (lI X), .int .i64 (N)]) (by rfl) ?_ ?_
        · (intro w1 hC; obtain ⟨⟨p0, p1, p2, -, -, -⟩, ⟨q0, q1, q2, -, -, -⟩, ⟨z0, z1, -, -, -⟩, -⟩ := hC; go_simp; first | done | (simp; done) | (simp [*]; done) | omega | (simp; omega) | (rw [IntKind.wrap_i64]; omega) | (intro hx; omega) | rfl)
        simp only [Act.put, List.setIfInBounds_toArray, List.set_cons_zero, List.set_cons_succ]
        refine qw_call (v := .agg #[.int .u64 (hI X), .int .u64 (lI X)]) (f := 24) (args := #[.agg #[.int .u64 (hI X), .int .u64 (lI X), .int .i64 (N)]]) (by rfl) ?_ ?_ ?_
        · (intro w1 hC; clear hC; go_simp)
        · exact fun w1 hC => (KFP w1).mono fun e w' ⟨he, hb⟩ => ⟨he, hC.keep hb⟩
        simp only [Act.put, List.setIfInBounds_toArray, List.set_cons_zero, List.set_cons_succ]
        refine qw_call (v := .int .i64 (e2)) (f := 23) (args := #[.agg #[.int .u64 (hI Lq), .int .u64 (lI Lq)], .agg #[.int .u64 (hI X), .int .u64 (lI X)]]) (by rfl) ?_ ?_ ?_
        · (intro w1 hC; clear hC; go_simp)
        · exact fun w1 hC => (KE2 w1).mono fun e w' ⟨he, hb⟩ => ⟨he, hC.keep hb⟩
        simp only [Act.put, List.setIfInBounds_toArray, List.set_cons_zero, List.set_cons_succ]
        refine qw_run (v := .bool false) (by rfl) ?_ ?_
        · (intro w1 hC; obtain ⟨⟨p0, p1, p2, -, -, -⟩, ⟨q0, q1, q2, -, -, -⟩, ⟨z0, z1, -, -, -⟩, -⟩ := hC; go_simp; first | done | (simp; done) | (simp [*]; done) | omega | (simp; omega) | (rw [IntKind.wrap_i64]; omega) | (intro hx; omega) | rfl)
        simp only [Act.put, List.setIfInBounds_toArray, List.set_cons_zero, List.set_cons_succ]
        refine qw_run (v := .bool false) (by rfl) ?_ ?_
        · (intro w1 hC; obtain ⟨⟨p0, p1, p2, -, -, -⟩, ⟨q0, q1, q2, -, -, -⟩, ⟨z0, z1, -, -, -⟩, -⟩ := hC; go_simp; first | done | (simp; done) | (simp [*]; done) | omega | (simp; omega) | (rw [IntKind.wrap_i64]; omega) | (intro hx; omega) | rfl)
        simp only [Act.put, List.setIfInBounds_toArray, List.set_cons_zero, List.set_cons_succ]
        refine qw_run (v := .bool false) (by rfl) ?_ ?_
        · (intro w1 hC; obtain ⟨⟨p0, p1, p2, -, -, -⟩, ⟨q0, q1, q2, -, -, -⟩, ⟨z0, z1, -, -, -⟩, -⟩ := hC; go_simp; first | done | (simp; done) | (simp [*]; done) | omega | (simp; omega) | (rw [IntKind.wrap_i64]; omega) | (intro hx; omega) | rfl)
        simp only [Act.put, List.setIfInBounds_toArray, List.set_cons_zero, List.set_cons_succ]
        refine qw_nil ?_
        intro W7 hC
        · have h3 := H3.out
          clear H3
          obtain ⟨⟨p0, p1, p2, -, -, -⟩, ⟨q0, q1, q2, -, -, -⟩, ⟨z0, z1, -, -, -⟩, -⟩ := id hC
          simp at h3
          have heq1 : eq1 = false := by cases eq1 <;> simp_all
          rw [heq1] at hEq
          clear h3 heq1
          go_wp2_with fail
          clear p0 p1 p2 q0 q1 q2 z0 z1 hEq
          have hCe := hC.drew
          clear hC
          go_wp2_with fail
          obtain ⟨hg1, hg2⟩ := H4.out (by simp)
          refine qw_region (C := CA w a b X N Y M c) (by kernel_rfl) (by kernel_rfl) hCe ?_
          clear hCe
          refine qw_run (v := .bool true) (by rfl) ?_ ?_
          · (intro w1 hC; obtain ⟨⟨p0, p1, p2, -, -, -⟩, ⟨q0, q1, q2, -, -, -⟩, ⟨z0, z1, -, -, -⟩, -⟩ := hC; go_simp; first | done | (simp; done) | (simp [*]; done) | omega | (simp; omega) | (rw [IntKind.wrap_i64]; omega) | (intro hx; omega) | rfl)
          simp only [Act.put, List.setIfInBounds_toArray, List.set_cons_zero, List.set_cons_succ]
          refine qw_run (v := .bool true) (by rfl) ?_ ?_
          · (intro w1 hC; obtain ⟨⟨p0, p1, p2, -, -, -⟩, ⟨q0, q1, q2, -, -, -⟩, ⟨z0, z1, -, -, -⟩, -⟩ := hC; go_simp; first | done | (simp; done) | (simp [*]; done) | omega | (simp; omega) | (rw [IntKind.wrap_i64]; omega) | (intro hx; omega) | rfl)
          simp only [Act.put, List.setIfInBounds_toArray, List.set_cons_zero, List.set_cons_succ]
          refine qw_run (v := .agg #[.int .u64 (hI Y), .int .u64 (lI Y), .int .i64 (M)]) (by rfl) ?_ ?_
          · (intro w1 hC; obtain ⟨⟨p0, p1, p2, -, -, -⟩, ⟨q0, q1, q2, -, -, -⟩, ⟨z0, z1, -, -, -⟩, -⟩ := hC; go_simp; first | done | (simp; done) | (simp [*]; done) | omega | (simp; omega) | (rw [IntKind.wrap_i64]; omega) | (intro hx; omega) | rfl)
          simp only [Act.put, List.setIfInBounds_toArray, List.set_cons_zero, List.set_cons_succ]
          refine qw_call (v := .agg #[.int .u64 (hI Y), .int .u64 (lI Y)]) (f := 24) (args := #[.agg #[.int .u64 (hI Y), .int .u64 (lI Y), .int .i64 (M)]]) (by rfl) ?_ ?_ ?_
          · (intro w1 hC; clear hC; go_simp)
          · exact fun w1 hC => (KFQ w1).mono fun e w' ⟨he, hb⟩ => ⟨he, hC.keep hb⟩
          simp only [Act.put, List.setIfInBounds_toArray, List.set_cons_zero, List.set_cons_succ]
          refine qw_run (v := .agg #[.int .u64 (hI X), .int .u64 (lI X), .int .i64 (N)]) (by rfl) ?_ ?_
          · (intro w1 hC; obtain ⟨⟨p0, p1, p2, -, -, -⟩, ⟨q0, q1, q2, -, -, -⟩, ⟨z0, z1, -, -, -⟩, -⟩ := hC; go_simp; first | done | (simp; done) | (simp [*]; done) | omega | (simp; omega) | (rw [IntKind.wrap_i64]; omega) | (intro hx; omega) | rfl)
          simp only [Act.put, List.setIfInBounds_toArray, List.set_cons_zero, List.set_cons_succ]
          refine qw_call (v := .agg #[.int .u64 (hI X), .int .u64 (lI X)]) (f := 24) (args := #[.agg #[.int .u64 (hI X), .int .u64 (lI X), .int .i64 (N)]]) (by rfl) ?_ ?_ ?_
          · (intro w1 hC; clear hC; go_simp)
          · exact fun w1 hC => (KFP w1).mono fun e w' ⟨he, hb⟩ => ⟨he, hC.keep hb⟩
          simp only [Act.put, List.setIfInBounds_toArray, List.set_cons_zero, List.set_cons_succ]
          refine qw_call (v := .int .i64 (g1)) (f := 23) (args := #[.agg #[.int .u64 (hI Y), .int .u64 (lI Y)], .agg #[.int .u64 (hI X), .int .u64 (lI X)]]) (by rfl) ?_ ?_ ?_
          · (intro w1 hC; clear hC; go_simp)
          · exact fun w1 hC => (KG1 w1).mono fun e w' ⟨he, hb⟩ => ⟨he, hC.keep hb⟩
          simp only [Act.put, List.setIfInBounds_toArray, List.set_cons_zero, List.set_cons_succ]
          refine qw_run (v := .bool false) (by rfl) ?_ ?_
          · (intro w1 hC; obtain ⟨⟨p0, p1, p2, -, -, -⟩, ⟨q0, q1, q2, -, -, -⟩, ⟨z0, z1, -, -, -⟩, -⟩ := hC; go_simp; first | done | (simp; done) | (simp [*]; done) | omega | (simp; omega) | (rw [IntKind.wrap_i64]; omega) | (intro hx; omega) | rfl)
          simp only [Act.put, List.setIfInBounds_toArray, List.set_cons_zero, List.set_cons_succ]
          refine qw_run (v := .bool false) (by rfl) ?_ ?_
          · (intro w1 hC; obtain ⟨⟨p0, p1, p2, -, -, -⟩, ⟨q0, q1, q2, -, -, -⟩, ⟨z0, z1, -, -, -⟩, -⟩ := hC; go_simp; first | done | (simp; done) | (simp [*]; done) | omega | (simp; omega) | (rw [IntKind.wrap_i64]; omega) | (intro hx; omega) | rfl)
          simp only [Act.put, List.setIfInBounds_toArray, List.set_cons_zero, List.set_cons_succ]
          refine qw_run (v := .int .i64 (F)) (by rfl) ?_ ?_
          · (intro w1 hC; obtain ⟨⟨p0, p1, p2, -, -, -⟩, ⟨q0, q1, q2, -, -, -⟩, ⟨z0, z1, -, -, -⟩, -⟩ := hC; go_simp; first | done | (simp; done) | (simp [*]; done) | omega | (simp; omega) | (rw [IntKind.wrap_i64]; omega) | (intro hx; omega) | rfl)
          simp only [Act.put, List.setIfInBounds_toArray, List.set_cons_zero, List.set_cons_succ]
          refine qw_run (v := .agg #[.int .u64 (hI X), .int .u64 (lI X), .int .i64 (N)]) (by rfl) ?_ ?_
          · (intro w1 hC; obtain ⟨⟨p0, p1, p2, -, -, -⟩, ⟨q0, q1, q2, -, -, -⟩, ⟨z0, z1, -, -, -⟩, -⟩ := hC; go_simp; first | done | (simp; done) | (simp [*]; done) | omega | (simp; omega) | (rw [IntKind.wrap_i64]; omega) | (intro hx; omega) | rfl)
          simp only [Act.put, List.setIfInBounds_toArray, List.set_cons_zero, List.set_cons_succ]
          refine qw_call (v := .agg #[.int .u64 (hI Lp), .int .u64 (lI Lp)]) (f := 25) (args := #[.int .i64 (F), .agg #[.int .u64 (hI X), .int .u64 (lI X), .int .i64 (N)]]) (by rfl) ?_ ?_ ?_
          · (intro w1 hC; clear hC; go_simp)
          · exact fun w1 hC => (KLP w1).mono fun e w' ⟨he, hb⟩ => ⟨he, hC.keep hb⟩
          simp only [Act.put, List.setIfInBounds_toArray, List.set_cons_zero, List.set_cons_succ]
          refine qw_run (v := .int .i64 (F)) (by rfl) ?_ ?_
          · (intro w1 hC; obtain ⟨⟨p0, p1, p2, -, -, -⟩, ⟨q0, q1, q2, -, -, -⟩, ⟨z0, z1, -, -, -⟩, -⟩ := hC; go_simp; first | done | (simp; done) | (simp [*]; done) | omega | (simp; omega) | (rw [IntKind.wrap_i64]; omega) | (intro hx; omega) | rfl)
          simp only [Act.put, List.setIfInBounds_toArray, List.set_cons_zero, List.set_cons_succ]
          refine qw_run (v := .agg #[.int .u64 (hI Y), .int .u64 (lI Y), .int .i64 (M)]) (by rfl) ?_ ?_
          · (intro w1 hC; obtain ⟨⟨p0, p1, p2, -, -, -⟩, ⟨q0, q1, q2, -, -, -⟩, ⟨z0, z1, -, -, -⟩, -⟩ := hC; go_simp; first | done | (simp; done) | (simp [*]; done) | omega | (simp; omega) | (rw [IntKind.wrap_i64]; omega) | (intro hx; omega) | rfl)
          simp only [Act.put, List.setIfInBounds_toArray, List.set_cons_zero, List.set_cons_succ]
          refine qw_call (v := .agg #[.int .u64 (hI Lq), .int .u64 (lI Lq)]) (f := 25) (args := #[.int .i64 (F), .agg #[.int .u64 (hI Y), .int .u64 (lI Y), .int .i64 (M)]]) (by rfl) ?_ ?_ ?_
          · (intro w1 hC; clear hC; go_simp)
          · exact fun w1 hC => (KLQ w1).mono fun e w' ⟨he, hb⟩ => ⟨he, hC.keep hb⟩
          simp only [Act.put, List.setIfInBounds_toArray, List.set_cons_zero, List.set_cons_succ]
          refine qw_call (v := .int .i64 (g2)) (f := 23) (args := #[.agg #[.int .u64 (hI Lp), .int .u64 (lI Lp)], .agg #[.int .u64 (hI Lq), .int .u64 (lI Lq)]]) (by rfl) ?_ ?_ ?_
          · (intro w1 hC; clear hC; go_simp)
          · exact fun w1 hC => (KG2 w1).mono fun e w' ⟨he, hb⟩ => ⟨he, hC.keep hb⟩
          simp only [Act.put, List.setIfInBounds_toArray, List.set_cons_zero, List.set_cons_succ]
          refine qw_run (v := .bool false) (by rfl) ?_ ?_
          · (intro w1 hC; obtain ⟨⟨p0, p1, p2, -, -, -⟩, ⟨q0, q1, q2, -, -, -⟩, ⟨z0, z1, -, -, -⟩, -⟩ := hC; go_simp; first | done | (simp; done) | (simp [*]; done) | omega | (simp; omega) | (rw [IntKind.wrap_i64]; omega) | (intro hx; omega) | rfl)
          simp only [Act.put, List.setIfInBounds_toArray, List.set_cons_zero, List.set_cons_succ]
          refine qw_run (v := .bool false) (by rfl) ?_ ?_
          · (intro w1 hC; obtain ⟨⟨p0, p1, p2, -, -, -⟩, ⟨q0, q1, q2, -, -, -⟩, ⟨z0, z1, -, -, -⟩, -⟩ := hC; go_simp; first | done | (simp; done) | (simp [*]; done) | omega | (simp; omega) | (rw [IntKind.wrap_i64]; omega) | (intro hx; omega) | rfl)
          simp only [Act.put, List.setIfInBounds_toArray, List.set_cons_zero, List.set_cons_succ]
          refine qw_run (v := .bool false) (by rfl) ?_ ?_
          · (intro w1 hC; obtain ⟨⟨p0, p1, p2, -, -, -⟩, ⟨q0, q1, q2, -, -, -⟩, ⟨z0, z1, -, -, -⟩, -⟩ := hC; go_simp; first | done | (simp; done) | (simp [*]; done) | omega | (simp; omega) | (rw [IntKind.wrap_i64]; omega) | (intro hx; omega) | rfl)
          simp only [Act.put, List.setIfInBounds_toArray, List.set_cons_zero, List.set_cons_succ]
          refine qw_nil ?_
          intro W7 hC
          obtain ⟨⟨p0, p1, p2, -, -, -⟩, ⟨q0, q1, q2, -, -, -⟩, ⟨z0, z1, -, -, -⟩, -⟩ := id hC
          go_wp2_with fail
          refine (KH _).mono ?_
          rintro e W' ⟨rfl, hb⟩
          replace hC := hC.keep hb
          clear p0 p1 p2 q0 q1 q2 z0 z1 hb
          go_wp2
          go_ret
          exact ⟨rfl, hC.2.2.2⟩
      · have hap2 : decide (e2 < 0) = false := by rw [hap]; rfl
        have hap3 : ¬ e2 < 0 := by simpa using hap2
        clear hap hap2
        refine qw_region (C := CA w a b X N Y M c) (by kernel_rfl) (by kernel_rfl) hCd2 ?_
        clear hCd2
        refine qw_run (v := .int .i64 (F)) (by rfl) ?_ ?_
        · (intro w1 hC; obtain ⟨⟨p0, p1, p2, -, -, -⟩, ⟨q0, q1, q2, -, -, -⟩, ⟨z0, z1, -, -, -⟩, -⟩ := hC; go_simp; first | done | (simp; done) | (simp [*]; done) | omega | (simp; omega) | (rw [IntKind.wrap_i64]; omega) | (intro hx; omega) | rfl)
        simp only [Act.put, List.setIfInBounds_toArray, List.set_cons_zero, List.set_cons_succ]
        refine qw_run (v := .agg #[.int .u64 (hI X), .int .u64 (lI X), .int .i64 (N)]) (by rfl) ?_ ?_
        · (intro w1 hC; obtain ⟨⟨p0, p1, p2, -, -, -⟩, ⟨q0, q1, q2, -, -, -⟩, ⟨z0, z1, -, -, -⟩, -⟩ := hC; go_simp; first | done | (simp; done) | (simp [*]; done) | omega | (simp; omega) | (rw [IntKind.wrap_i64]; omega) | (intro hx; omega) | rfl)
        simp only [Act.put, List.setIfInBounds_toArray, List.set_cons_zero, List.set_cons_succ]
        refine qw_call (v := .agg #[.int .u64 (hI Lp), .int .u64 (lI Lp)]) (f := 25) (args := #[.int .i64 (F), .agg #[.int .u64 (hI X), .int .u64 (lI X), .int .i64 (N)]]) (by rfl) ?_ ?_ ?_
        · (intro w1 hC; clear hC; go_simp)
        · exact fun w1 hC => (KLP w1).mono fun e w' ⟨he, hb⟩ => ⟨he, hC.keep hb⟩
        simp only [Act.put, List.setIfInBounds_toArray, List.set_cons_zero, List.set_cons_succ]
        refine qw_run (v := .agg #[.int .u64 (hI Y), .int .u64 (lI Y), .int .i64 (M)]) (by rfl) ?_ ?_
        · (intro w1 hC; obtain ⟨⟨p0, p1, p2, -, -, -⟩, ⟨q0, q1, q2, -, -, -⟩, ⟨z0, z1, -, -, -⟩, -⟩ := hC; go_simp; first | done | (simp; done) | (simp [*]; done) | omega | (simp; omega) | (rw [IntKind.wrap_i64]; omega) | (intro hx; omega) | rfl)
        simp only [Act.put, List.setIfInBounds_toArray, List.set_cons_zero, List.set_cons_succ]
        refine qw_call (v := .agg #[.int .u64 (hI Y), .int .u64 (lI Y)]) (f := 24) (args := #[.agg #[.int .u64 (hI Y), .int .u64 (lI Y), .int .i64 (M)]]) (by rfl) ?_ ?_ ?_
        · (intro w1 hC; clear hC; go_simp)
        · exact fun w1 hC => (KFQ w1).mono fun e w' ⟨he, hb⟩ => ⟨he, hC.keep hb⟩
        simp only [Act.put, List.setIfInBounds_toArray, List.set_cons_zero, List.set_cons_succ]
        refine qw_call (v := .int .i64 (e1)) (f := 23) (args := #[.agg #[.int .u64 (hI Lp), .int .u64 (lI Lp)], .agg #[.int .u64 (hI Y), .int .u64 (lI Y)]]) (by rfl) ?_ ?_ ?_
        · (intro w1 hC; clear hC; go_simp)
        · exact fun w1 hC => (KE1 w1).mono fun e w' ⟨he, hb⟩ => ⟨he, hC.keep hb⟩
        simp only [Act.put, List.setIfInBounds_toArray, List.set_cons_zero, List.set_cons_succ]
        refine qw_run (v := .bool false) (by rfl) ?_ ?_
        · (intro w1 hC; obtain ⟨⟨p0, p1, p2, -, -, -⟩, ⟨q0, q1, q2, -, -, -⟩, ⟨z0, z1, -, -, -⟩, -⟩ := hC; go_simp; first | done | (simp; done) | (simp [*]; done) | omega | (simp; omega) | (rw [IntKind.wrap_i64]; omega) | (intro hx; omega) | rfl)
        simp only [Act.put, List.setIfInBounds_toArray, List.set_cons_zero, List.set_cons_succ]
        refine qw_run (v := .bool false) (by rfl) ?_ ?_
        · (intro w1 hC; obtain ⟨⟨p0, p1, p2, -, -, -⟩, ⟨q0, q1, q2, -, -, -⟩, ⟨z0, z1, -, -, -⟩, -⟩ := hC; go_simp; first | done | (simp; done) | (simp [*]; done) | omega | (simp; omega) | (rw [IntKind.wrap_i64]; omega) | (intro hx; omega) | rfl)
        simp only [Act.put, List.setIfInBounds_toArray, List.set_cons_zero, List.set_cons_succ]
        refine qw_run (v := .int .i64 (F)) (by rfl) ?_ ?_
        · (intro w1 hC; obtain ⟨⟨p0, p1, p2, -, -, -⟩, ⟨q0, q1, q2, -, -, -⟩, ⟨z0, z1, -, -, -⟩, -⟩ := hC; go_simp; first | done | (simp; done) | (simp [*]; done) | omega | (simp; omega) | (rw [IntKind.wrap_i64]; omega) | (intro hx; omega) | rfl)
        simp only [Act.put, List.setIfInBounds_toArray, List.set_cons_zero, List.set_cons_succ]
        refine qw_run (v := .agg #[.int .u64 (hI Y), .int .u64 (lI Y), .int .i64 (M)]) (by rfl) ?_ ?_
        · (intro w1 hC; obtain ⟨⟨p0, p1, p2, -, -, -⟩, ⟨q0, q1, q2, -, -, -⟩, ⟨z0, z1, -, -, -⟩, -⟩ := hC; go_simp; first | done | (simp; done) | (simp [*]; done) | omega | (simp; omega) | (rw [IntKind.wrap_i64]; omega) | (intro hx; omega) | rfl)
        simp only [Act.put, List.setIfInBounds_toArray, List.set_cons_zero, List.set_cons_succ]
        refine qw_call (v := .agg #[.int .u64 (hI Lq), .int .u64 (lI Lq)]) (f := 25) (args := #[.int .i64 (F), .agg #[.int .u64 (hI Y), .int .u64 (lI Y), .int .i64 (M)]]) (by rfl) ?_ ?_ ?_
        · (intro w1 hC; clear hC; go_simp)
        · exact fun w1 hC => (KLQ w1).mono fun e w' ⟨he, hb⟩ => ⟨he, hC.keep hb⟩
        simp only [Act.put, List.setIfInBounds_toArray, List.set_cons_zero, List.set_cons_succ]
        refine qw_run (v := .agg #[.int .u64 (hI X), .int .u64 (lI X), .int .i64 (N)]) (by rfl) ?_ ?_
        · (intro w1 hC; obtain ⟨⟨p0, p1, p2, -, -, -⟩, ⟨q0, q1, q2, -, -, -⟩, ⟨z0, z1, -, -, -⟩, -⟩ := hC; go_simp; first | done | (simp; done) | (simp [*]; done) | omega | (simp; omega) | (rw [IntKind.wrap_i64]; omega) | (intro hx; omega) | rfl)
        simp only [Act.put, List.setIfInBounds_toArray, List.set_cons_zero, List.set_cons_succ]
        refine qw_call (v := .agg #[.int .u64 (hI X), .int .u64 (lI X)]) (f := 24) (args := #[.agg #[.int .u64 (hI X), .int .u64 (lI X), .int .i64 (N)]]) (by rfl) ?_ ?_ ?_
        · (intro w1 hC; clear hC; go_simp)
        · exact fun w1 hC => (KFP w1).mono fun e w' ⟨he, hb⟩ => ⟨he, hC.keep hb⟩
        simp only [Act.put, List.setIfInBounds_toArray, List.set_cons_zero, List.set_cons_succ]
        refine qw_call (v := .int .i64 (e2)) (f := 23) (args := #[.agg #[.int .u64 (hI Lq), .int .u64 (lI Lq)], .agg #[.int .u64 (hI X), .int .u64 (lI X)]]) (by rfl) ?_ ?_ ?_
        · (intro w1 hC; clear hC; go_simp)
        · exact fun w1 hC => (KE2 w1).mono fun e w' ⟨he, hb⟩ => ⟨he, hC.keep hb⟩
        simp only [Act.put, List.setIfInBounds_toArray, List.set_cons_zero, List.set_cons_succ]
        refine qw_run (v := .bool false) (by rfl) ?_ ?_
        · (intro w1 hC; obtain ⟨⟨p0, p1, p2, -, -, -⟩, ⟨q0, q1, q2, -, -, -⟩, ⟨z0, z1, -, -, -⟩, -⟩ := hC; go_simp; first | done | (simp; done) | (simp [*]; done) | omega | (simp; omega) | (rw [IntKind.wrap_i64]; omega) | (intro hx; omega) | rfl)
        simp only [Act.put, List.setIfInBounds_toArray, List.set_cons_zero, List.set_cons_succ]
        refine qw_run (v := .bool false) (by rfl) ?_ ?_
        · (intro w1 hC; obtain ⟨⟨p0, p1, p2, -, -, -⟩, ⟨q0, q1, q2, -, -, -⟩, ⟨z0, z1, -, -, -⟩, -⟩ := hC; go_simp; first | done | (simp; done) | (simp [*]; done) | omega | (simp; omega) | (rw [IntKind.wrap_i64]; omega) | (intro hx; omega) | rfl)
        simp only [Act.put, List.setIfInBounds_toArray, List.set_cons_zero, List.set_cons_succ]
        refine qw_run (v := .bool false) (by rfl) ?_ ?_
        · (intro w1 hC; obtain ⟨⟨p0, p1, p2, -, -, -⟩, ⟨q0, q1, q2, -, -, -⟩, ⟨z0, z1, -, -, -⟩, -⟩ := hC; go_simp; first | done | (simp; done) | (simp [*]; done) | omega | (simp; omega) | (rw [IntKind.wrap_i64]; omega) | (intro hx; omega) | rfl)
        simp only [Act.put, List.setIfInBounds_toArray, List.set_cons_zero, List.set_cons_succ]
        refine qw_nil ?_
        intro W7 hC
        · have h3 := H3.out
          clear H3
          obtain ⟨⟨p0, p1, p2, -, -, -⟩, ⟨q0, q1, q2, -, -, -⟩, ⟨z0, z1, -, -, -⟩, -⟩ := id hC
          simp at h3
          have heq1 : eq1 = true := by cases eq1 <;> simp_all
          rw [heq1] at hEq
          clear h3 heq1
          go_wp2_with fail
          clear p0 p1 p2 q0 q1 q2 z0 z1 hEq
          have hCe := hC.drew
          clear hC
          go_wp2_with fail
          obtain ⟨hg1, hg2⟩ := H4.out (by simp)
          refine qw_region (C := CA w a b X N Y M c) (by kernel_rfl) (by kernel_rfl) hCe ?_
          clear hCe
          refine qw_run (v := .bool true) (by rfl) ?_ ?_
          · (intro w1 hC; obtain ⟨⟨p0, p1, p2, -, -, -⟩, ⟨q0, q1, q2, -, -, -⟩, ⟨z0, z1, -, -, -⟩, -⟩ := hC; go_simp; first | done | (simp; done) | (simp [*]; done) | omega | (simp; omega) | (rw [IntKind.wrap_i64]; omega) | (intro hx; omega) | rfl)
          simp only [Act.put, List.setIfInBounds_toArray, List.set_cons_zero, List.set_cons_succ]
          refine qw_run (v := .bool true) (by rfl) ?_ ?_
          · (intro w1 hC; obtain ⟨⟨p0, p1, p2, -, -, -⟩, ⟨q0, q1, q2, -, -, -⟩, ⟨z0, z1, -, -, -⟩, -⟩ := hC; go_simp; first | done | (simp; done) | (simp [*]; done) | omega | (simp; omega) | (rw [IntKind.wrap_i64]; omega) | (intro hx; omega) | rfl)
          simp only [Act.put, List.setIfInBounds_toArray, List.set_cons_zero, List.set_cons_succ]
          refine qw_run (v := .agg #[.int .u64 (hI Y), .int .u64 (lI Y), .int .i64 (M)]) (by rfl) ?_ ?_
          · (intro w1 hC; obtain ⟨⟨p0, p1, p2, -, -, -⟩, ⟨q0, q1, q2, -, -, -⟩, ⟨z0, z1, -, -, -⟩, -⟩ := hC; go_simp; first | done | (simp; done) | (simp [*]; done) | omega | (simp; omega) | (rw [IntKind.wrap_i64]; omega) | (intro hx; omega) | rfl)
          simp only [Act.put, List.setIfInBounds_toArray, List.set_cons_zero, List.set_cons_succ]
          refine qw_call (v := .agg #[.int .u64 (hI Y), .int .u64 (lI Y)]) (f := 24) (args := #[.agg #[.int .u64 (hI Y), .int .u64 (lI Y), .int .i64 (M)]]) (by rfl) ?_ ?_ ?_
          · (intro w1 hC; clear hC; go_simp)
          · exact fun w1 hC => (KFQ w1).mono fun e w' ⟨he, hb⟩ => ⟨he, hC.keep hb⟩
          simp only [Act.put, List.setIfInBounds_toArray, List.set_cons_zero, List.set_cons_succ]
          refine qw_run (v := .agg #[.int .u64 (hI X), .int .u64 (lI X), .int .i64 (N)]) (by rfl) ?_ ?_
          · (intro w1 hC; obtain ⟨⟨p0, p1, p2, -, -, -⟩, ⟨q0, q1, q2, -, -, -⟩, ⟨z0, z1, -, -, -⟩, -⟩ := hC; go_simp; first | done | (simp; done) | (simp [*]; done) | omega | (simp; omega) | (rw [IntKind.wrap_i64]; omega) | (intro hx; omega) | rfl)
          simp only [Act.put, List.setIfInBounds_toArray, List.set_cons_zero, List.set_cons_succ]
          refine qw_call (v := .agg #[.int .u64 (hI X), .int .u64 (lI X)]) (f := 24) (args := #[.agg #[.int .u64 (hI X), .int .u64 (lI X), .int .i64 (N)]]) (by rfl) ?_ ?_ ?_
          · (intro w1 hC; clear hC; go_simp)
          · exact fun w1 hC => (KFP w1).mono fun e w' ⟨he, hb⟩ => ⟨he, hC.keep hb⟩
          simp only [Act.put, List.setIfInBounds_toArray, List.set_cons_zero, List.set_cons_succ]
          refine qw_call (v := .int .i64 (g1)) (f := 23) (args := #[.agg #[.int .u64 (hI Y), .int .u64 (lI Y)], .agg #[.int .u64 (hI X), .int .u64 (lI X)]]) (by rfl) ?_ ?_ ?_
          · (intro w1 hC; clear hC; go_simp)
          · exact fun w1 hC => (KG1 w1).mono fun e w' ⟨he, hb⟩ => ⟨he, hC.keep hb⟩
          simp only [Act.put, List.setIfInBounds_toArray, List.set_cons_zero, List.set_cons_succ]
          refine qw_run (v := .bool false) (by rfl) ?_ ?_
          · (intro w1 hC; obtain ⟨⟨p0, p1, p2, -, -, -⟩, ⟨q0, q1, q2, -, -, -⟩, ⟨z0, z1, -, -, -⟩, -⟩ := hC; go_simp; first | done | (simp; done) | (simp [*]; done) | omega | (simp; omega) | (rw [IntKind.wrap_i64]; omega) | (intro hx; omega) | rfl)
          simp only [Act.put, List.setIfInBounds_toArray, List.set_cons_zero, List.set_cons_succ]
          refine qw_run (v := .bool false) (by rfl) ?_ ?_
          · (intro w1 hC; obtain ⟨⟨p0, p1, p2, -, -, -⟩, ⟨q0, q1, q2, -, -, -⟩, ⟨z0, z1, -, -, -⟩, -⟩ := hC; go_simp; first | done | (simp; done) | (simp [*]; done) | omega | (simp; omega) | (rw [IntKind.wrap_i64]; omega) | (intro hx; omega) | rfl)
          simp only [Act.put, List.setIfInBounds_toArray, List.set_cons_zero, List.set_cons_succ]
          refine qw_run (v := .int .i64 (F)) (by rfl) ?_ ?_
          · (intro w1 hC; obtain ⟨⟨p0, p1, p2, -, -, -⟩, ⟨q0, q1, q2, -, -, -⟩, ⟨z0, z1, -, -, -⟩, -⟩ := hC; go_simp; first | done | (simp; done) | (simp [*]; done) | omega | (simp; omega) | (rw [IntKind.wrap_i64]; omega) | (intro hx; omega) | rfl)
          simp only [Act.put, List.setIfInBounds_toArray, List.set_cons_zero, List.set_cons_succ]
          refine qw_run (v := .agg #[.int .u64 (hI X), .int .u64 (lI X), .int .i64 (N)]) (by rfl) ?_ ?_
          · (intro w1 hC; obtain ⟨⟨p0, p1, p2, -, -, -⟩, ⟨q0, q1, q2, -, -, -⟩, ⟨z0, z1, -, -, -⟩, -⟩ := hC; go_simp; first | done | (simp; done) | (simp [*]; done) | omega | (simp; omega) | (rw [IntKind.wrap_i64]; omega) | (intro hx; omega) | rfl)
          simp only [Act.put, List.setIfInBounds_toArray, List.set_cons_zero, List.set_cons_succ]
          refine qw_call (v := .agg #[.int .u64 (hI Lp), .int .u64 (lI Lp)]) (f := 25) (args := #[.int .i64 (F), .agg #[.int .u64 (hI X), .int .u64 (lI X), .int .i64 (N)]]) (by rfl) ?_ ?_ ?_
          · (intro w1 hC; clear hC; go_simp)
          · exact fun w1 hC => (KLP w1).mono fun e w' ⟨he, hb⟩ => ⟨he, hC.keep hb⟩
          simp only [Act.put, List.setIfInBounds_toArray, List.set_cons_zero, List.set_cons_succ]
          refine qw_run (v := .int .i64 (F)) (by rfl) ?_ ?_
          · (intro w1 hC; obtain ⟨⟨p0, p1, p2, -, -, -⟩, ⟨q0, q1, q2, -, -, -⟩, ⟨z0, z1, -, -, -⟩, -⟩ := hC; go_simp; first | done | (simp; done) | (simp [*]; done) | omega | (simp; omega) | (rw [IntKind.wrap_i64]; omega) | (intro hx; omega) | rfl)
          simp only [Act.put, List.setIfInBounds_toArray, List.set_cons_zero, List.set_cons_succ]
          refine qw_run (v := .agg #[.int .u64 (hI Y), .int .u64 (lI Y), .int .i64 (M)]) (by rfl) ?_ ?_
          · (intro w1 hC; obtain ⟨⟨p0, p1, p2, -, -, -⟩, ⟨q0, q1, q2, -, -, -⟩, ⟨z0, z1, -, -, -⟩, -⟩ := hC; go_simp; first | done | (simp; done) | (simp [*]; done) | omega | (simp; omega) | (rw [IntKind.wrap_i64]; omega) | (intro hx; omega) | rfl)
          simp only [Act.put, List.setIfInBounds_toArray, List.set_cons_zero, List.set_cons_succ]
          refine qw_call (v := .agg #[.int .u64 (hI Lq), .int .u64 (lI Lq)]) (f := 25) (args := #[.int .i64 (F), .agg #[.int .u64 (hI Y), .int .u64 (lI Y), .int .i64 (M)]]) (by rfl) ?_ ?_ ?_
          · (intro w1 hC; clear hC; go_simp)
          · exact fun w1 hC => (KLQ w1).mono fun e w' ⟨he, hb⟩ => ⟨he, hC.keep hb⟩
          simp only [Act.put, List.setIfInBounds_toArray, List.set_cons_zero, List.set_cons_succ]
          refine qw_call (v := .int .i64 (g2)) (f := 23) (args := #[.agg #[.int .u64 (hI Lp), .int .u64 (lI Lp)], .agg #[.int .u64 (hI Lq), .int .u64 (lI Lq)]]) (by rfl) ?_ ?_ ?_
          · (intro w1 hC; clear hC; go_simp)
          · exact fun w1 hC => (KG2 w1).mono fun e w' ⟨he, hb⟩ => ⟨he, hC.keep hb⟩
          simp only [Act.put, List.setIfInBounds_toArray, List.set_cons_zero, List.set_cons_succ]
          refine qw_run (v := .bool false) (by rfl) ?_ ?_
          · (intro w1 hC; obtain ⟨⟨p0, p1, p2, -, -, -⟩, ⟨q0, q1, q2, -, -, -⟩, ⟨z0, z1, -, -, -⟩, -⟩ := hC; go_simp; first | done | (simp; done) | (simp [*]; done) | omega | (simp; omega) | (rw [IntKind.wrap_i64]; omega) | (intro hx; omega) | rfl)
          simp only [Act.put, List.setIfInBounds_toArray, List.set_cons_zero, List.set_cons_succ]
          refine qw_run (v := .bool false) (by rfl) ?_ ?_
          · (intro w1 hC; obtain ⟨⟨p0, p1, p2, -, -, -⟩, ⟨q0, q1, q2, -, -, -⟩, ⟨z0, z1, -, -, -⟩, -⟩ := hC; go_simp; first | done | (simp; done) | (simp [*]; done) | omega | (simp; omega) | (rw [IntKind.wrap_i64]; omega) | (intro hx; omega) | rfl)
          simp only [Act.put, List.setIfInBounds_toArray, List.set_cons_zero, List.set_cons_succ]
          refine qw_run (v := .bool false) (by rfl) ?_ ?_
          · (intro w1 hC; obtain ⟨⟨p0, p1, p2, -, -, -⟩, ⟨q0, q1, q2, -, -, -⟩, ⟨z0, z1, -, -, -⟩, -⟩ := hC; go_simp; first | done | (simp; done) | (simp [*]; done) | omega | (simp; omega) | (rw [IntKind.wrap_i64]; omega) | (intro hx; omega) | rfl)
          simp only [Act.put, List.setIfInBounds_toArray, List.set_cons_zero, List.set_cons_succ]
          refine qw_nil ?_
          intro W7 hC
          obtain ⟨⟨p0, p1, p2, -, -, -⟩, ⟨q0, q1, q2, -, -, -⟩, ⟨z0, z1, -, -, -⟩, -⟩ := id hC
          go_wp2_with fail
          refine (KH _).mono ?_
          rintro e W' ⟨rfl, hb⟩
          replace hC := hC.keep hb
          clear p0 p1 p2 q0 q1 q2 z0 z1 hb
          go_wp2
          go_ret
          exact ⟨rfl, hC.2.2.2⟩
end Go.Proofs.YthichmlcfoafpaaDoor
