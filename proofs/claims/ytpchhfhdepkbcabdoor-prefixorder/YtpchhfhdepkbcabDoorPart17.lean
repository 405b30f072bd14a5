/-
  Part 17 of the proof: 1 texts, one behind the other.
-/
import Derived.Test.YtpchhfhdepkbcabDoorPart6
import Derived.Test.YtpchhfhdepkbcabDoorPart16
import Derived.Test.YtpchhfhdepkbcabDoorPart4
/-
  The law PrefixOrder, walked.
-/
namespace Go.Proofs.YtpchhfhdepkbcabDoor
open Go.RowKit
set_option linter.unusedSimpArgs false
set_option linter.unusedVariables false

theorem eq3 (x : BitVec 128) (n : Int) (y : BitVec 128) (m : Int) (b : Bool) (hb : b = true ↔ (x = y ∧ n = m)) : ((hI x == hI y) = true ∧ (lI x == lI y) = true ∧ (n == m) = true ∧ b = true) ∨ ((hI x == hI y) = false ∧ b = false) ∨ ((hI x == hI y) = true ∧ (lI x == lI y) = false ∧ b = false) ∨ ((hI x == hI y) = true ∧ (lI x == lI y) = true ∧ (n == m) = false ∧ b = false) := by
  have hf : ¬ (x = y ∧ n = m) → b = false := fun h => by cases b; rfl; exact absurd (hb.mp rfl) h
  rcases eqw x y with ⟨q1, q2, q3⟩ | ⟨q1, q3⟩ | ⟨q1, q2, q3⟩
  · have e : x = y := by simpa using q3
    by_cases h : n = m
    · left; exact ⟨q1, q2, by simp [h], hb.mpr ⟨e, h⟩⟩
    · right; right; right; exact ⟨q1, q2, by simp [h], hf (fun z => h z.2)⟩
  · right; left; exact ⟨q1, hf (fun z => by rw [z.1] at q3; simp at q3)⟩
  · right; right; left; exact ⟨q1, q2, hf (fun z => by rw [z.1] at q3; simp at q3)⟩
def C3 (w : World) (a b c : Nat) (X : BitVec 128) (N : Int) (Y : BitVec 128) (M : Int) (Z : BitVec 128) (K : Int) (W : World) : Prop := AtP W a X N ∧ AtP W b Y M ∧ AtP W c Z K ∧ Below w.heap.size w W
theorem C3.keep {w W W' : World} {a b c : Nat} {X Y Z : BitVec 128} {N M K : Int} (h : C3 w a b c X N Y M Z K W) (hb : Below W.heap.size W W') : C3 w a b c X N Y M Z K W' := ⟨h.1.below hb, h.2.1.below hb, h.2.2.1.below hb, keepb hb h.2.2.2⟩
theorem C3.drew {w W : World} {a b c : Nat} {X Y Z : BitVec 128} {N M K : Int} (h : C3 w a b c X N Y M Z K W) : C3 w a b c X N Y M Z K W.drew := ⟨h.1, h.2.1, h.2.2.1, h.2.2.2.drew⟩
def C4 (w : World) (a b c d : Nat) (X : BitVec 128) (N : Int) (Y : BitVec 128) (M : Int) (Z : BitVec 128) (K : Int) (C : BitVec 128) (k : Int) (W : World) : Prop := C3 w a b c X N Y M Z K W ∧ AtP W d C k
theorem C4.keep {w W W' : World} {a b c d : Nat} {X Y Z C : BitVec 128} {N M K k : Int} (h : C4 w a b c d X N Y M Z K C k W) (hb : Below W.heap.size W W') : C4 w a b c d X N Y M Z K C k W' := ⟨h.1.keep hb, h.2.below hb⟩
theorem C4.drew {w W : World} {a b c d : Nat} {X Y Z C : BitVec 128} {N M K k : Int} (h : C4 w a b c d X N Y M Z K C k W) : C4 w a b c d X N Y M Z K C k W.drew := ⟨h.1.drew, h.2⟩

set_option maxHeartbeats 16000000 in
set_option maxRecDepth 20000 in
theorem prefixOrder_any (six : Bool) (v1 : BitVec 128) (n1 : Int) (v2 : BitVec 128) (n2 : Int) (v3 : BitVec 128) (n3 : Int) (w : World) (hP : Pow w) :
    Calls Tryd.prog 7 #[.bool six, .agg #[.int .u64 (hI v1), .int .u64 (lI v1)], .int .i64 n1, .agg #[.int .u64 (hI v2), .int .u64 (lI v2)], .int .i64 n2, .agg #[.int .u64 (hI v3), .int .u64 (lI v3)], .int .i64 n3] w fun e w' => e = .returned (.bool true) ∧ Below w.heap.size w w' := by
  have KF := fun w => family3_any six w
  obtain ⟨f0, f1⟩ := famZ_bd six
  generalize famZ six = F at *
  have KS1 := fun w => some_any F v1 n1 w (by omega) (by omega)
  have KS2 := fun w => some_any F v2 n2 w (by omega) (by omega)
  have KS3 := fun w => some_any F v3 n3 w (by omega) (by omega)
  have r1 := some_rt F v1 n1 (by omega)
  have r2 := some_rt F v2 n2 (by omega)
  have r3 := some_rt F v3 n3 (by omega)
  generalize someW F v1 n1 = X at *
  generalize someW F v2 n2 = Y at *
  generalize someW F v3 n3 = Z at *
  generalize n1 % (F + 1) = N at *
  generalize n2 % (F + 1) = M at *
  generalize n3 % (F + 1) = K at *
  have K12 := fun w => pcmp_any X N Y M w
  have K21 := fun w => pcmp_any Y M X N w
  have K23 := fun w => pcmp_any Y M Z K w
  have K13 := fun w => pcmp_any X N Z K w
  have KRP := fun w => pwithin_any Z K X N w
  have KQP := fun w => pwithin_any Y M X N w
  have KM1 := fun w => pmeet_any X N Y M w
  have KM2 := fun w => pmeet_any Y M X N w
  have KPM := fun w => pwithin_any X N (cutW X (meetN X N Y M)) (meetN X N Y M) w
  have KQM := fun w => pwithin_any Y M (cutW X (meetN X N Y M)) (meetN X N Y M) w
  have KPR := fun w => pwithin_any X N Z K w
  have KQR := fun w => pwithin_any Y M Z K w
  have KMR := fun w => pwithin_any (cutW X (meetN X N Y M)) (meetN X N Y M) Z K w
  rw [meetN_comm, meet_cut X N Y M r1.1 r2.1 (by have := r1.2.1; omega)] at KM2
  rw [(meet_in X N Y M r1.1 r2.1 (by have := r1.2.1; omega)).1] at KPM
  rw [(meet_in X N Y M r1.1 r2.1 (by have := r1.2.1; omega)).2] at KQM
  have hEm := eq3 (cutW X (meetN X N Y M)) (meetN X N Y M) X N (withinB Y M X N) (meet_is X N Y M r1.1 (by have := r1.2.1; omega) r1.2.2).symm
  have hE12 := eq3 X N Y M (pcmpZ X N Y M == 0) (by rw [beq_iff_eq]; exact pcmp_eq0 X N Y M)
  have hw : IntKind.i64.wrap (-pcmpZ Y M X N) = pcmpZ X N Y M := by
    rw [pcmp_neg X N Y M]
    rcases pcmp_ways X N Y M with ⟨-, e⟩ | ⟨-, e⟩ | ⟨-, e⟩ <;> rw [e] <;> decide
  have ht := pcmp_trans X N Y M Z K
  have hbt := fun h1 h2 h3 => between F X N Y M Z K r1 r2 h1 h2 h3
  have hab := fun h1 h2 => meet_above X N Y M Z K r3.1 (by have := r1.2.1; omega) h1 h2
  clear r1 r2 r3 f0 f1
  generalize withinB (cutW X (meetN X N Y M)) (meetN X N Y M) Z K = wmr at *
  generalize cutW X (meetN X N Y M) = C at *
  generalize meetN X N Y M = k at *
  generalize h48 : (pcmpZ X N Y M == 0) = b12 at *
  generalize pcmpZ X N Y M = c12 at *
  generalize pcmpZ Y M X N = c21 at *
  generalize pcmpZ Y M Z K = c23 at *
  generalize pcmpZ X N Z K = c13 at *
  generalize withinB Y M X N = bm at *
  generalize withinB Z K X N = wrp at *
  generalize withinB X N Z K = wpr at *
  generalize withinB Y M Z K = wqr at *
  have HT : Hid (c12 ≤ 0 → c23 ≤ 0 → ¬ 0 < c13) := ht
  have HBT : Hid (c12 ≤ 0 → c23 ≤ 0 → wrp = true → bm = true) := hbt
  have HAB : Hid (wpr = true → wqr = true → wmr = true) := hab
  have HEM : Hid (((hI C == hI X) = true ∧ (lI C == lI X) = true ∧ (k == N) = true ∧ bm = true) ∨ ((hI C == hI X) = false ∧ bm = false) ∨ ((hI C == hI X) = true ∧ (lI C == lI X) = false ∧ bm = false) ∨ ((hI C == hI X) = true ∧ (lI C == lI X) = true ∧ (k == N) = false ∧ bm = false)) := hEm
  clear ht hbt hab hEm
  have hbl := bl3 w (.cells #[.int .u64 (hI v1), .int .u64 (lI v1)] 24) (.cells #[.int .u64 (hI v2), .int .u64 (lI v2)] 24) (.cells #[.int .u64 (hI v3), .int .u64 (lI v3)] 24)
  go_enter Tryd.func7, Tryd.ntmps7
  go_wp2_with fail
  refine (known3_any _ (hP.keep hbl)).mono ?_
  rintro e w0 ⟨rfl, hb⟩
  have A0 := (((at_new w w.heap.size v1 24 rfl).below (bl1 _ (.cells #[.int .u64 (hI v2), .int .u64 (lI v2)] 24))).below (bl1 _ (.cells #[.int .u64 (hI v3), .int .u64 (lI v3)] 24))).below hb
  have B0 := ((at_new (w.alloc (.cells #[.int .u64 (hI v1), .int .u64 (lI v1)] 24)) (w.heap.size + 1) v2 24 (by simp)).below (bl1 _ (.cells #[.int .u64 (hI v3), .int .u64 (lI v3)] 24))).below hb
  have D0 := (at_new ((w.alloc (.cells #[.int .u64 (hI v1), .int .u64 (lI v1)] 24)).alloc (.cells #[.int .u64 (hI v2), .int .u64 (lI v2)] 24)) (w.heap.size + 1 + 1) v3 24 (by simp)).below hb
  have kB0 := keepb hb hbl
  clear hb hbl hP
  go_wp2_with fail
  refine (KF _).mono ?_
  rintro e w9 ⟨rfl, rfl⟩
  obtain ⟨x0, x1, -, -, -⟩ := id A0
  go_wp2_with fail
  refine (KS1 _).mono ?_
  rintro e w1 ⟨rfl, hb⟩
  have hA := bl1 w1 (.cells #[.int .u64 (hI X), .int .u64 (lI X), .int .i64 N] 26)
  have P1 := atp_new w1 w1.heap.size X N 26 rfl
  have B1 := (B0.below hb).below hA
  have D1 := (D0.below hb).below hA
  have kB1 := keepb hA (keepb hb kB0)
  clear x0 x1 A0 B0 D0 kB0 hb hA KS1 KF
  obtain ⟨x0, x1, -, -, -⟩ := id B1
  go_wp2_with fail
  refine (KS2 _).mono ?_
  rintro e w2 ⟨rfl, hb⟩
  have hA := bl1 w2 (.cells #[.int .u64 (hI Y), .int .u64 (lI Y), .int .i64 M] 26)
  have P2 := (P1.below hb).below hA
  have Q2 := atp_new w2 w2.heap.size Y M 26 rfl
  have D2 := (D1.below hb).below hA
  have kB2 := keepb hA (keepb hb kB1)
  clear x0 x1 B1 D1 P1 kB1 hb hA KS2
  obtain ⟨x0, x1, -, -, -⟩ := id D2
  go_wp2_with fail
  refine (KS3 _).mono ?_
  rintro e w3 ⟨rfl, hb⟩
  have hA := bl1 w3 (.cells #[.int .u64 (hI Z), .int .u64 (lI Z), .int .i64 K] 26)
  have hC : C3 w w1.heap.size w2.heap.size w3.heap.size X N Y M Z K (w3.alloc (.cells #[.int .u64 (hI Z), .int .u64 (lI Z), .int .i64 K] 26)) := ⟨(P2.below hb).below hA, (Q2.below hb).below hA, atp_new w3 w3.heap.size Z K 26 rfl, keepb hA (keepb hb kB2)⟩
  clear x0 x1 D2 P2 Q2 kB2 hb hA KS3
  have hCd := hC.drew
  clear hC
  go_wp2_with fail
  generalize w1.heap.size = a at *
  generalize w2.heap.size = b at *
  generalize w3.heap.size = c at *
  refine q_region (C := C3 w a b c X N Y M Z K) (by kernel_rfl) (by kernel_rfl) hCd ?_
  clear hCd
  refine q_run (v := .agg #[.int .u64 (hI X), .int .u64 (lI X), .int .i64 (N)]) (by rfl) ?_ ?_
  · (intro w1 hC; obtain ⟨⟨p0, p1, p2, -, -, -⟩, ⟨q0, q1, q2, -, -, -⟩, ⟨r0, r1, r2, -, -, -⟩, -⟩ := hC; go_simp; first | done | (simp; done) | (simp [*]; done) | omega | (simp; omega) | (rw [IntKind.wrap_i64]; omega) | (intro hx; omega) | rfl)
  simp only [Act.put, List.setIfInBounds_toArray, List.set_cons_zero, List.set_cons_succ]
  refine q_run (v := .agg #[.int .u64 (hI Y), .int .u64 (lI Y), .int .i64 (M)]) (by rfl) ?_ ?_
  · (intro w1 hC; obtain ⟨⟨p0, p1, p2, -, -, -⟩, ⟨q0, q1, q2, -, -, -⟩, ⟨r0, r1, r2, -, -, -⟩, -⟩ := hC; go_simp; first | done | (simp; done) | (simp [*]; done) | omega | (simp; omega) | (rw [IntKind.wrap_i64]; omega) | (intro hx; omega) | rfl)
  simp only [Act.put, List.setIfInBounds_toArray, List.set_cons_zero, List.set_cons_succ]
  refine q_call (v := .int .i64 (c12)) (f := 30) (args := #[.agg #[.int .u64 (hI X), .int .u64 (lI X), .int .i64 (N)], .agg #[.int .u64 (hI Y), .int .u64 (lI Y), .int .i64 (M)]]) (by rfl) ?_ ?_ ?_
  · (intro w1 hC; clear hC; go_simp)
  · exact fun w1 hC => (K12 w1).mono fun e w' ⟨he, hb⟩ => ⟨he, hC.keep hb⟩
  simp only [Act.put, List.setIfInBounds_toArray, List.set_cons_zero, List.set_cons_succ]
  refine q_run (v := .agg #[.int .u64 (hI Y), .int .u64 (lI Y), .int .i64 (M)]) (by rfl) ?_ ?_
  · (intro w1 hC; obtain ⟨⟨p0, p1, p2, -, -, -⟩, ⟨q0, q1, q2, -, -, -⟩, ⟨r0, r1, r2, -, -, -⟩, -⟩ := hC; go_simp; first | done | (simp; done) | (simp [*]; done) | omega | (simp; omega) | (rw [IntKind.wrap_i64]; omega) | (intro hx; omega) | rfl)
  simp only [Act.put, List.setIfInBounds_toArray, List.set_cons_zero, List.set_cons_succ]
  refine q_run (v := .agg #[.int .u64 (hI X), .int .u64 (lI X), .int .i64 (N)]) (by rfl) ?_ ?_
  · (intro w1 hC; obtain ⟨⟨p0, p1, p2, -, -, -⟩, ⟨q0, q1, q2, -, -, -⟩, ⟨r0, r1, r2, -, -, -⟩, -⟩ := hC; go_simp; first | done | (simp; done) | (simp [*]; done) | omega | (simp; omega) | (rw [IntKind.wrap_i64]; omega) | (intro hx; omega) | rfl)
  simp only [Act.put, List.setIfInBounds_toArray, List.set_cons_zero, List.set_cons_succ]
  refine q_call (v := .int .i64 (c21)) (f := 30) (args := #[.agg #[.int .u64 (hI Y), .int .u64 (lI Y), .int .i64 (M)], .agg #[.int .u64 (hI X), .int .u64 (lI X), .int .i64 (N)]]) (by rfl) ?_ ?_ ?_
  · (intro w1 hC; clear hC; go_simp)
  · exact fun w1 hC => (K21 w1).mono fun e w' ⟨he, hb⟩ => ⟨he, hC.keep hb⟩
  simp only [Act.put, List.setIfInBounds_toArray, List.set_cons_zero, List.set_cons_succ]
  refine q_run (v := .int .i64 (c12)) (by rfl) ?_ ?_
  · (intro w1 hC; obtain ⟨⟨p0, p1, p2, -, -, -⟩, ⟨q0, q1, q2, -, -, -⟩, ⟨r0, r1, r2, -, -, -⟩, -⟩ := hC; go_simp; first | done | (simp; done) | (simp [*]; done) | omega | (simp; omega) | (rw [IntKind.wrap_i64]; omega) | (intro hx; omega) | rfl)
  simp only [Act.put, List.setIfInBounds_toArray, List.set_cons_zero, List.set_cons_succ]
  refine q_run (v := .bool false) (by rfl) ?_ ?_
  · (intro w1 hC; obtain ⟨⟨p0, p1, p2, -, -, -⟩, ⟨q0, q1, q2, -, -, -⟩, ⟨r0, r1, r2, -, -, -⟩, -⟩ := hC; go_simp; first | done | (simp; done) | (simp [*]; done) | omega | (simp; omega) | (rw [IntKind.wrap_i64]; omega) | (intro hx; omega) | rfl)
  simp only [Act.put, List.setIfInBounds_toArray, List.set_cons_zero, List.set_cons_succ]
  refine q_run (v := .bool false) (by rfl) ?_ ?_
  · (intro w1 hC; obtain ⟨⟨p0, p1, p2, -, -, -⟩, ⟨q0, q1, q2, -, -, -⟩, ⟨r0, r1, r2, -, -, -⟩, -⟩ := hC; go_simp; first | done | (simp; done) | (simp [*]; done) | omega | (simp; omega) | (rw [IntKind.wrap_i64]; omega) | (intro hx; omega) | rfl)
  simp only [Act.put, List.setIfInBounds_toArray, List.set_cons_zero, List.set_cons_succ]
  refine q_run (v := .agg #[.int .u64 (hI X), .int .u64 (lI X), .int .i64 (N)]) (by rfl) ?_ ?_
  · (intro w1 hC; obtain ⟨⟨p0, p1, p2, -, -, -⟩, ⟨q0, q1, q2, -, -, -⟩, ⟨r0, r1, r2, -, -, -⟩, -⟩ := hC; go_simp; first | done | (simp; done) | (simp [*]; done) | omega | (simp; omega) | (rw [IntKind.wrap_i64]; omega) | (intro hx; omega) | rfl)
  simp only [Act.put, List.setIfInBounds_toArray, List.set_cons_zero, List.set_cons_succ]
  refine q_run (v := .agg #[.int .u64 (hI Y), .int .u64 (lI Y), .int .i64 (M)]) (by rfl) ?_ ?_
  · (intro w1 hC; obtain ⟨⟨p0, p1, p2, -, -, -⟩, ⟨q0, q1, q2, -, -, -⟩, ⟨r0, r1, r2, -, -, -⟩, -⟩ := hC; go_simp; first | done | (simp; done) | (simp [*]; done) | omega | (simp; omega) | (rw [IntKind.wrap_i64]; omega) | (intro hx; omega) | rfl)
  simp only [Act.put, List.setIfInBounds_toArray, List.set_cons_zero, List.set_cons_succ]
  refine q_call (v := .int .i64 (c12)) (f := 30) (args := #[.agg #[.int .u64 (hI X), .int .u64 (lI X), .int .i64 (N)], .agg #[.int .u64 (hI Y), .int .u64 (lI Y), .int .i64 (M)]]) (by rfl) ?_ ?_ ?_
  · (intro w1 hC; clear hC; go_simp)
  · exact fun w1 hC => (K12 w1).mono fun e w' ⟨he, hb⟩ => ⟨he, hC.keep hb⟩
  simp only [Act.put, List.setIfInBounds_toArray, List.set_cons_zero, List.set_cons_succ]
  refine q_run (v := .bool (b12)) (by rfl) ?_ ?_
  · (intro w1 hC; obtain ⟨⟨p0, p1, p2, -, -, -⟩, ⟨q0, q1, q2, -, -, -⟩, ⟨r0, r1, r2, -, -, -⟩, -⟩ := hC; go_simp; first | done | (simp; done) | (simp [*]; done) | omega | (simp; omega) | (rw [IntKind.wrap_i64]; omega) | (intro hx; omega) | rfl)
  simp only [Act.put, List.setIfInBounds_toArray, List.set_cons_zero, List.set_cons_succ]
  refine q_run (v := .agg #[.int .u64 (hI X), .int .u64 (lI X), .int .i64 (N)]) (by rfl) ?_ ?_
  · (intro w1 hC; obtain ⟨⟨p0, p1, p2, -, -, -⟩, ⟨q0, q1, q2, -, -, -⟩, ⟨r0, r1, r2, -, -, -⟩, -⟩ := hC; go_simp; first | done | (simp; done) | (simp [*]; done) | omega | (simp; omega) | (rw [IntKind.wrap_i64]; omega) | (intro hx; omega) | rfl)
  simp only [Act.put, List.setIfInBounds_toArray, List.set_cons_zero, List.set_cons_succ]
  refine q_run (v := .agg #[.int .u64 (hI Y), .int .u64 (lI Y), .int .i64 (M)]) (by rfl) ?_ ?_
  · (intro w1 hC; obtain ⟨⟨p0, p1, p2, -, -, -⟩, ⟨q0, q1, q2, -, -, -⟩, ⟨r0, r1, r2, -, -, -⟩, -⟩ := hC; go_simp; first | done | (simp; done) | (simp [*]; done) | omega | (simp; omega) | (rw [IntKind.wrap_i64]; omega) | (intro hx; omega) | rfl)
  simp only [Act.put, List.setIfInBounds_toArray, List.set_cons_zero, List.set_cons_succ]
  refine q_run (v := .bool (b12)) (by rfl) ?_ ?_
  · (intro w1 hC; obtain ⟨⟨p0, p1, p2, -, -, -⟩, ⟨q0, q1, q2, -, -, -⟩, ⟨r0, r1, r2, -, -, -⟩, -⟩ := hC; rcases hE12 with ⟨g1, g2, g3, g4⟩ | ⟨g1, g4⟩ | ⟨g1, g2, g4⟩ | ⟨g1, g2, g3, g4⟩ <;> rw [g4] <;> go_simp <;> first | done | (simp [*]; done))
  simp only [Act.put, List.setIfInBounds_toArray, List.set_cons_zero, List.set_cons_succ]
  refine q_run (v := .bool false) (by rfl) ?_ ?_
  · (intro w1 hC; obtain ⟨⟨p0, p1, p2, -, -, -⟩, ⟨q0, q1, q2, -, -, -⟩, ⟨r0, r1, r2, -, -, -⟩, -⟩ := hC; go_simp; first | done | (simp; done) | (simp [*]; done) | omega | (simp; omega) | (rw [IntKind.wrap_i64]; omega) | (intro hx; omega) | rfl)
  simp only [Act.put, List.setIfInBounds_toArray, List.set_cons_zero, List.set_cons_succ]
  refine q_run (v := .bool false) (by rfl) ?_ ?_
  · (intro w1 hC; obtain ⟨⟨p0, p1, p2, -, -, -⟩, ⟨q0, q1, q2, -, -, -⟩, ⟨r0, r1, r2, -, -, -⟩, -⟩ := hC; go_simp; first | done | (simp; done) | (simp [*]; done) | omega | (simp; omega) | (rw [IntKind.wrap_i64]; omega) | (intro hx; omega) | rfl)
  simp only [Act.put, List.setIfInBounds_toArray, List.set_cons_zero, List.set_cons_succ]
  refine wpQuiet_nil ?_
  intro W7 hC
  clear hE12 h48 hw K21
  obtain ⟨⟨p0, p1, p2, -, -, -⟩, ⟨q0, q1, q2, -, -, -⟩, ⟨r0, r1, r2, -, -, -⟩, -⟩ := id hC
  go_wp2_with fail
  refine (K12 _).mono ?_
  rintro e W' ⟨rfl, hb⟩
  replace hC := hC.keep hb
  clear p0 p1 p2 q0 q1 q2 r0 r1 r2 hb
  by_cases h12 : c12 ≤ 0
  · obtain ⟨⟨p0, p1, p2, -, -, -⟩, ⟨q0, q1, q2, -, -, -⟩, ⟨r0, r1, r2, -, -, -⟩, -⟩ := id hC
    go_wp2_with fail
    refine (K23 _).mono ?_
    rintro e W' ⟨rfl, hb⟩
    replace hC := hC.keep hb
    clear p0 p1 p2 q0 q1 q2 r0 r1 r2 hb
    by_cases h23 : c23 ≤ 0
    · have h13 := HT.out h12 h23
      obtain ⟨⟨p0, p1, p2, -, -, -⟩, ⟨q0, q1, q2, -, -, -⟩, ⟨r0, r1, r2, -, -, -⟩, -⟩ := id hC
      go_wp2_with fail
      refine (K13 _).mono ?_
      rintro e W' ⟨rfl, hb⟩
      replace hC := hC.keep hb
      clear p0 p1 p2 q0 q1 q2 r0 r1 r2 hb
      obtain ⟨⟨p0, p1, p2, -, -, -⟩, ⟨q0, q1, q2, -, -, -⟩, ⟨r0, r1, r2, -, -, -⟩, -⟩ := id hC
      go_wp2_with fail
      refine (K12 _).mono ?_
      rintro e W' ⟨rfl, hb⟩
      replace hC := hC.keep hb
      clear p0 p1 p2 q0 q1 q2 r0 r1 r2 hb
      obtain ⟨⟨p0, p1, p2, -, -, -⟩, ⟨q0, q1, q2, -, -, -⟩, ⟨r0, r1, r2, -, -, -⟩, -⟩ := id hC
      go_wp2_with fail
      refine (K23 _).mono ?_
      rintro e W' ⟨rfl, hb⟩
      replace hC := hC.keep hb
      clear p0 p1 p2 q0 q1 q2 r0 r1 r2 hb
      obtain ⟨⟨p0, p1, p2, -, -, -⟩, ⟨q0, q1, q2, -, -, -⟩, ⟨r0, r1, r2, -, -, -⟩, -⟩ := id hC
      go_wp2_with fail
      refine (KRP _).mono ?_
      rintro e W' ⟨rfl, hb⟩
      replace hC := hC.keep hb
      clear p0 p1 p2 q0 q1 q2 r0 r1 r2 hb
      cases wrp
      · obtain ⟨⟨p0, p1, p2, -, -, -⟩, ⟨q0, q1, q2, -, -, -⟩, ⟨r0, r1, r2, -, -, -⟩, -⟩ := id hC
        go_wp2_with fail
        refine (KM1 _).mono ?_
        rintro e W8 ⟨rfl, hb⟩
        have hA := bl1 W8 (.cells #[.int .u64 (hI C), .int .u64 (lI C), .int .i64 k] 26)
        have hCm : C4 w a b c W8.heap.size X N Y M Z K C k (W8.alloc (.cells #[.int .u64 (hI C), .int .u64 (lI C), .int .i64 k] 26)).drew := C4.drew ⟨(hC.keep hb).keep hA, atp_new W8 W8.heap.size C k 26 rfl⟩
        clear p0 p1 p2 q0 q1 q2 r0 r1 r2 hb hA hC KM1
        go_wp2_with fail
        generalize W8.heap.size = d at *
        have hEM := HEM.out
        refine q_region (C := C4 w a b c d X N Y M Z K C k) (by kernel_rfl) (by kernel_rfl) hCm ?_
        clear hCm
        refine q_run (v := .agg #[.int .u64 (hI C), .int .u64 (lI C), .int .i64 (k)]) (by rfl) ?_ ?_
        · (intro w1 hC; obtain ⟨⟨⟨p0, p1, p2, -, -, -⟩, ⟨q0, q1, q2, -, -, -⟩, ⟨r0, r1, r2, -, -, -⟩, -⟩, ⟨m0, m1, m2, -, -, -⟩⟩ := hC; go_simp; first | done | (simp; done) | (simp [*]; done) | omega | (simp; omega) | (rw [IntKind.wrap_i64]; omega) | (intro hx; omega) | rfl)
        simp only [Act.put, List.setIfInBounds_toArray, List.set_cons_zero, List.set_cons_succ]
        refine q_run (v := .agg #[.int .u64 (hI Y), .int .u64 (lI Y), .int .i64 (M)]) (by rfl) ?_ ?_
        · (intro w1 hC; obtain ⟨⟨⟨p0, p1, p2, -, -, -⟩, ⟨q0, q1, q2, -, -, -⟩, ⟨r0, r1, r2, -, -, -⟩, -⟩, ⟨m0, m1, m2, -, -, -⟩⟩ := hC; go_simp; first | done | (simp; done) | (simp [*]; done) | omega | (simp; omega) | (rw [IntKind.wrap_i64]; omega) | (intro hx; omega) | rfl)
        simp only [Act.put, List.setIfInBounds_toArray, List.set_cons_zero, List.set_cons_succ]
        refine q_run (v := .agg #[.int .u64 (hI X), .int .u64 (lI X), .int .i64 (N)]) (by rfl) ?_ ?_
        · (intro w1 hC; obtain ⟨⟨⟨p0, p1, p2, -, -, -⟩, ⟨q0, q1, q2, -, -, -⟩, ⟨r0, r1, r2, -, -, -⟩, -⟩, ⟨m0, m1, m2, -, -, -⟩⟩ := hC; go_simp; first | done | (simp; done) | (simp [*]; done) | omega | (simp; omega) | (rw [IntKind.wrap_i64]; omega) | (intro hx; omega) | rfl)
        simp only [Act.put, List.setIfInBounds_toArray, List.set_cons_zero, List.set_cons_succ]
        refine q_call (v := .agg #[.int .u64 (hI C), .int .u64 (lI C), .int .i64 (k)]) (f := 31) (args := #[.agg #[.int .u64 (hI Y), .int .u64 (lI Y), .int .i64 (M)], .agg #[.int .u64 (hI X), .int .u64 (lI X), .int .i64 (N)]]) (by rfl) ?_ ?_ ?_
        · (intro w1 hC; clear hC; go_simp)
        · exact fun w1 hC => (KM2 w1).mono fun e w' ⟨he, hb⟩ => ⟨he, hC.keep hb⟩
        simp only [Act.put, List.setIfInBounds_toArray, List.set_cons_zero, List.set_cons_succ]
        refine q_run (v := .bool false) (by rfl) ?_ ?_
        · (intro w1 hC; obtain ⟨⟨⟨p0, p1, p2, -, -, -⟩, ⟨q0, q1, q2, -, -, -⟩, ⟨r0, r1, r2, -, -, -⟩, -⟩, ⟨m0, m1, m2, -, -, -⟩⟩ := hC; go_simp; first | done | (simp; done) | (simp [*]; done) | omega | (simp; omega) | (rw [IntKind.wrap_i64]; omega) | (intro hx; omega) | rfl)
        simp only [Act.put, List.setIfInBounds_toArray, List.set_cons_zero, List.set_cons_succ]
        refine q_run (v := .bool false) (by rfl) ?_ ?_
        · (intro w1 hC; obtain ⟨⟨⟨p0, p1, p2, -, -, -⟩, ⟨q0, q1, q2, -, -, -⟩, ⟨r0, r1, r2, -, -, -⟩, -⟩, ⟨m0, m1, m2, -, -, -⟩⟩ := hC; go_simp; first | done | (simp; done) | (simp [*]; done) | omega | (simp; omega) | (rw [IntKind.wrap_i64]; omega) | (intro hx; omega) | rfl)
        simp only [Act.put, List.setIfInBounds_toArray, List.set_cons_zero, List.set_cons_succ]
        refine q_run (v := .agg #[.int .u64 (hI X), .int .u64 (lI X), .int .i64 (N)]) (by rfl) ?_ ?_
        · (intro w1 hC; obtain ⟨⟨⟨p0, p1, p2, -, -, -⟩, ⟨q0, q1, q2, -, -, -⟩, ⟨r0, r1, r2, -, -, -⟩, -⟩, ⟨m0, m1, m2, -, -, -⟩⟩ := hC; go_simp; first | done | (simp; done) | (simp [*]; done) | omega | (simp; omega) | (rw [IntKind.wrap_i64]; omega) | (intro hx; omega) | rfl)
        simp only [Act.put, List.setIfInBounds_toArray, List.set_cons_zero, List.set_cons_succ]
        refine q_run (v := .agg #[.int .u64 (hI C), .int .u64 (lI C), .int .i64 (k)]) (by rfl) ?_ ?_
        · (intro w1 hC; obtain ⟨⟨⟨p0, p1, p2, -, -, -⟩, ⟨q0, q1, q2, -, -, -⟩, ⟨r0, r1, r2, -, -, -⟩, -⟩, ⟨m0, m1, m2, -, -, -⟩⟩ := hC; go_simp; first | done | (simp; done) | (simp [*]; done) | omega | (simp; omega) | (rw [IntKind.wrap_i64]; omega) | (intro hx; omega) | rfl)
        simp only [Act.put, List.setIfInBounds_toArray, List.set_cons_zero, List.set_cons_succ]
        refine q_call (v := .bool true) (f := 24) (args := #[.agg #[.int .u64 (hI X), .int .u64 (lI X), .int .i64 (N)], .agg #[.int .u64 (hI C), .int .u64 (lI C), .int .i64 (k)]]) (by rfl) ?_ ?_ ?_
        · (intro w1 hC; clear hC; go_simp)
        · exact fun w1 hC => (KPM w1).mono fun e w' ⟨he, hb⟩ => ⟨he, hC.keep hb⟩
        simp only [Act.put, List.setIfInBounds_toArray, List.set_cons_zero, List.set_cons_succ]
        refine q_run (v := .bool false) (by rfl) ?_ ?_
        · (intro w1 hC; obtain ⟨⟨⟨p0, p1, p2, -, -, -⟩, ⟨q0, q1, q2, -, -, -⟩, ⟨r0, r1, r2, -, -, -⟩, -⟩, ⟨m0, m1, m2, -, -, -⟩⟩ := hC; go_simp; first | done | (simp; done) | (simp [*]; done) | omega | (simp; omega) | (rw [IntKind.wrap_i64]; omega) | (intro hx; omega) | rfl)
        simp only [Act.put, List.setIfInBounds_toArray, List.set_cons_zero, List.set_cons_succ]
        refine q_run (v := .bool false) (by rfl) ?_ ?_
        · (intro w1 hC; obtain ⟨⟨⟨p0, p1, p2, -, -, -⟩, ⟨q0, q1, q2, -, -, -⟩, ⟨r0, r1, r2, -, -, -⟩, -⟩, ⟨m0, m1, m2, -, -, -⟩⟩ := hC; go_simp; first | done | (simp; done) | (simp [*]; done) | omega | (simp; omega) | (rw [IntKind.wrap_i64]; omega) | (intro hx; omega) | rfl)
        simp only [Act.put, List.setIfInBounds_toArray, List.set_cons_zero, List.set_cons_succ]
        refine q_run (v := .bool false) (by rfl) ?_ ?_
        · (intro w1 hC; obtain ⟨⟨⟨p0, p1, p2, -, -, -⟩, ⟨q0, q1, q2, -, -, -⟩, ⟨r0, r1, r2, -, -, -⟩, -⟩, ⟨m0, m1, m2, -, -, -⟩⟩ := hC; go_simp; first | done | (simp; done) | (simp [*]; done) | omega | (simp; omega) | (rw [IntKind.wrap_i64]; omega) | (intro hx; omega) | rfl)
        simp only [Act.put, List.setIfInBounds_toArray, List.set_cons_zero, List.set_cons_succ]
        refine q_run (v := .agg #[.int .u64 (hI Y), .int .u64 (lI Y), .int .i64 (M)]) (by rfl) ?_ ?_
        · (intro w1 hC; obtain ⟨⟨⟨p0, p1, p2, -, -, -⟩, ⟨q0, q1, q2, -, -, -⟩, ⟨r0, r1, r2, -, -, -⟩, -⟩, ⟨m0, m1, m2, -, -, -⟩⟩ := hC; go_simp; first | done | (simp; done) | (simp [*]; done) | omega | (simp; omega) | (rw [IntKind.wrap_i64]; omega) | (intro hx; omega) | rfl)
        simp only [Act.put, List.setIfInBounds_toArray, List.set_cons_zero, List.set_cons_succ]
        refine q_run (v := .agg #[.int .u64 (hI C), .int .u64 (lI C), .int .i64 (k)]) (by rfl) ?_ ?_
        · (intro w1 hC; obtain ⟨⟨⟨p0, p1, p2, -, -, -⟩, ⟨q0, q1, q2, -, -, -⟩, ⟨r0, r1, r2, -, -, -⟩, -⟩, ⟨m0, m1, m2, -, -, -⟩⟩ := hC; go_simp; first | done | (simp; done) | (simp [*]; done) | omega | (simp; omega) | (rw [IntKind.wrap_i64]; omega) | (intro hx; omega) | rfl)
        simp only [Act.put, List.setIfInBounds_toArray, List.set_cons_zero, List.set_cons_succ]
        refine q_call (v := .bool true) (f := 24) (args := #[.agg #[.int .u64 (hI Y), .int .u64 (lI Y), .int .i64 (M)], .agg #[.int .u64 (hI C), .int .u64 (lI C), .int .i64 (k)]]) (by rfl) ?_ ?_ ?_
        · (intro w1 hC; clear hC; go_simp)
        · exact fun w1 hC => (KQM w1).mono fun e w' ⟨he, hb⟩ => ⟨he, hC.keep hb⟩
        simp only [Act.put, List.setIfInBounds_toArray, List.set_cons_zero, List.set_cons_succ]
        refine q_run (v := .bool false) (by rfl) ?_ ?_
        · (intro w1 hC; obtain ⟨⟨⟨p0, p1, p2, -, -, -⟩, ⟨q0, q1, q2, -, -, -⟩, ⟨r0, r1, r2, -, -, -⟩, -⟩, ⟨m0, m1, m2, -, -, -⟩⟩ := hC; go_simp; first | done | (simp; done) | (simp [*]; done) | omega | (simp; omega) | (rw [IntKind.wrap_i64]; omega) | (intro hx; omega) | rfl)
        simp only [Act.put, List.setIfInBounds_toArray, List.set_cons_zero, List.set_cons_succ]
        refine q_run (v := .bool false) (by rfl) ?_ ?_
        · (intro w1 hC; obtain ⟨⟨⟨p0, p1, p2, -, -, -⟩, ⟨q0, q1, q2, -, -, -⟩, ⟨r0, r1, r2, -, -, -⟩, -⟩, ⟨m0, m1, m2, -, -, -⟩⟩ := hC; go_simp; first | done | (simp; done) | (simp [*]; done) | omega | (simp; omega) | (rw [IntKind.wrap_i64]; omega) | (intro hx; omega) | rfl)
        simp only [Act.put, List.setIfInBounds_toArray, List.set_cons_zero, List.set_cons_succ]
        refine q_run (v := .bool false) (by rfl) ?_ ?_
        · (intro w1 hC; obtain ⟨⟨⟨p0, p1, p2, -, -, -⟩, ⟨q0, q1, q2, -, -, -⟩, ⟨r0, r1, r2, -, -, -⟩, -⟩, ⟨m0, m1, m2, -, -, -⟩⟩ := hC; go_simp; first | done | (simp; done) | (simp [*]; done) | omega | (simp; omega) | (rw [IntKind.wrap_i64]; omega) | (intro hx; omega) | rfl)
        simp only [Act.put, List.setIfInBounds_toArray, List.set_cons_zero, List.set_cons_succ]
        refine q_run (v := .agg #[.int .u64 (hI C), .int .u64 (lI C), .int .i64 (k)]) (by rfl) ?_ ?_
        · (intro w1 hC; obtain ⟨⟨⟨p0, p1, p2, -, -, -⟩, ⟨q0, q1, q2, -, -, -⟩, ⟨r0, r1, r2, -, -, -⟩, -⟩, ⟨m0, m1, m2, -, -, -⟩⟩ := hC; go_simp; first | done | (simp; done) | (simp [*]; done) | omega | (simp; omega) | (rw [IntKind.wrap_i64]; omega) | (intro hx; omega) | rfl)
        simp only [Act.put, List.setIfInBounds_toArray, List.set_cons_zero, List.set_cons_succ]
        refine q_run (v := .agg #[.int .u64 (hI X), .int .u64 (lI X), .int .i64 (N)]) (by rfl) ?_ ?_
        · (intro w1 hC; obtain ⟨⟨⟨p0, p1, p2, -, -, -⟩, ⟨q0, q1, q2, -, -, -⟩, ⟨r0, r1, r2, -, -, -⟩, -⟩, ⟨m0, m1, m2, -, -, -⟩⟩ := hC; go_simp; first | done | (simp; done) | (simp [*]; done) | omega | (simp; omega) | (rw [IntKind.wrap_i64]; omega) | (intro hx; omega) | rfl)
        simp only [Act.put, List.setIfInBounds_toArray, List.set_cons_zero, List.set_cons_succ]
        refine q_run (v := .bool (bm)) (by rfl) ?_ ?_
        · (intro w1 hC; obtain ⟨⟨⟨p0, p1, p2, -, -, -⟩, ⟨q0, q1, q2, -, -, -⟩, ⟨r0, r1, r2, -, -, -⟩, -⟩, ⟨m0, m1, m2, -, -, -⟩⟩ := hC; rcases hEM with ⟨g1, g2, g3, g4⟩ | ⟨g1, g4⟩ | ⟨g1, g2, g4⟩ | ⟨g1, g2, g3, g4⟩ <;> rw [g4] <;> go_simp <;> first | done | (simp [*]; done))
        simp only [Act.put, List.setIfInBounds_toArray, List.set_cons_zero, List.set_cons_succ]
        refine q_run (v := .agg #[.int .u64 (hI Y), .int .u64 (lI Y), .int .i64 (M)]) (by rfl) ?_ ?_
        · (intro w1 hC; obtain ⟨⟨⟨p0, p1, p2, -, -, -⟩, ⟨q0, q1, q2, -, -, -⟩, ⟨r0, r1, r2, -, -, -⟩, -⟩, ⟨m0, m1, m2, -, -, -⟩⟩ := hC; go_simp; first | done | (simp; done) | (simp [*]; done) | omega | (simp; omega) | (rw [IntKind.wrap_i64]; omega) | (intro hx; omega) | rfl)
        simp only [Act.put, List.setIfInBounds_toArray, List.set_cons_zero, List.set_cons_succ]
        refine q_run (v := .agg #[.int .u64 (hI X), .int .u64 (lI X), .int .i64 (N)]) (by rfl) ?_ ?_
        · (intro w1 hC; obtain ⟨⟨⟨p0, p1, p2, -, -, -⟩, ⟨q0, q1, q2, -, -, -⟩, ⟨r0, r1, r2, -, -, -⟩, -⟩, ⟨m0, m1, m2, -, -, -⟩⟩ := hC; go_simp; first | done | (simp; done) | (simp [*]; done) | omega | (simp; omega) | (rw [IntKind.wrap_i64]; omega) | (intro hx; omega) | rfl)
        simp only [Act.put, List.setIfInBounds_toArray, List.set_cons_zero, List.set_cons_succ]
        refine q_call (v := .bool (bm)) (f := 24) (args := #[.agg #[.int .u64 (hI Y), .int .u64 (lI Y), .int .i64 (M)], .agg #[.int .u64 (hI X), .int .u64 (lI X), .int .i64 (N)]]) (by rfl) ?_ ?_ ?_
        · (intro w1 hC; clear hC; go_simp)
        · exact fun w1 hC => (KQP w1).mono fun e w' ⟨he, hb⟩ => ⟨he, hC.keep hb⟩
        simp only [Act.put, List.setIfInBounds_toArray, List.set_cons_zero, List.set_cons_succ]
        refine q_run (v := .bool false) (by rfl) ?_ ?_
        · (intro w1 hC; obtain ⟨⟨⟨p0, p1, p2, -, -, -⟩, ⟨q0, q1, q2, -, -, -⟩, ⟨r0, r1, r2, -, -, -⟩, -⟩, ⟨m0, m1, m2, -, -, -⟩⟩ := hC; go_simp; first | done | (simp; done) | (simp [*]; done) | omega | (simp; omega) | (rw [IntKind.wrap_i64]; omega) | (intro hx; omega) | rfl)
        simp only [Act.put, List.setIfInBounds_toArray, List.set_cons_zero, List.set_cons_succ]
        refine q_run (v := .bool false) (by rfl) ?_ ?_
        · (intro w1 hC; obtain ⟨⟨⟨p0, p1, p2, -, -, -⟩, ⟨q0, q1, q2, -, -, -⟩, ⟨r0, r1, r2, -, -, -⟩, -⟩, ⟨m0, m1, m2, -, -, -⟩⟩ := hC; go_simp; first | done | (simp; done) | (simp [*]; done) | omega | (simp; omega) | (rw [IntKind.wrap_i64]; omega) | (intro hx; omega) | rfl)
        simp only [Act.put, List.setIfInBounds_toArray, List.set_cons_zero, List.set_cons_succ]
        refine wpQuiet_nil ?_
        intro W9 hC
        clear hEM HEM KPM KQM KM2
        obtain ⟨⟨⟨p0, p1, p2, -, -, -⟩, ⟨q0, q1, q2, -, -, -⟩, ⟨r0, r1, r2, -, -, -⟩, -⟩, ⟨m0, m1, m2, -, -, -⟩⟩ := id hC
        go_wp2_with fail
        refine (KPR _).mono ?_
        rintro e W' ⟨rfl, hb⟩
        replace hC := hC.keep hb
        clear p0 p1 p2 q0 q1 q2 r0 r1 r2 m0 m1 m2 hb
        cases wpr
        · go_wp2
          go_ret
          exact ⟨rfl, hC.1.2.2.2⟩
        · obtain ⟨⟨⟨p0, p1, p2, -, -, -⟩, ⟨q0, q1, q2, -, -, -⟩, ⟨r0, r1, r2, -, -, -⟩, -⟩, ⟨m0, m1, m2, -, -, -⟩⟩ := id hC
          go_wp2_with fail
          refine (KQR _).mono ?_
          rintro e W' ⟨rfl, hb⟩
          replace hC := hC.keep hb
          clear p0 p1 p2 q0 q1 q2 r0 r1 r2 m0 m1 m2 hb
          cases wqr
          · go_wp2
            go_ret
            exact ⟨rfl, hC.1.2.2.2⟩
          · have hwm := HAB.out (by simp) (by simp)
            rw [hwm] at KMR
            obtain ⟨⟨⟨p0, p1, p2, -, -, -⟩, ⟨q0, q1, q2, -, -, -⟩, ⟨r0, r1, r2, -, -, -⟩, -⟩, ⟨m0, m1, m2, -, -, -⟩⟩ := id hC
            go_wp2_with fail
            refine (KMR _).mono ?_
            rintro e W' ⟨rfl, hb⟩
            replace hC := hC.keep hb
            clear p0 p1 p2 q0 q1 q2 r0 r1 r2 m0 m1 m2 hb
            go_wp2
            go_ret
            exact ⟨rfl, hC.1.2.2.2⟩
      · have hbm := HBT.out h12 h23 (by simp)
        have KQPt := KQP
        rw [hbm] at KQPt
        clear hbm
        obtain ⟨⟨p0, p1, p2, -, -, -⟩, ⟨q0, q1, q2, -, -, -⟩, ⟨r0, r1, r2, -, -, -⟩, -⟩ := id hC
        go_wp2_with fail
        refine (KQPt _).mono ?_
        rintro e W' ⟨rfl, hb⟩
        replace hC := hC.keep hb
        clear p0 p1 p2 q0 q1 q2 r0 r1 r2 hb
        clear KQPt
        obtain ⟨⟨p0, p1, p2, -, -, -⟩, ⟨q0, q1, q2, -, -, -⟩, ⟨r0, r1, r2, -, -, -⟩, -⟩ := id hC
        go_wp2_with fail
        refine (KM1 _).mono ?_
        rintro e W8 ⟨rfl, hb⟩
        have hA := bl1 W8 (.cells #[.int .u64 (hI C), .int .u64 (lI C), .int .i64 k] 26)
        have hCm : C4 w a b c W8.heap.size X N Y M Z K C k (W8.alloc (.cells #[.int .u64 (hI C), .int .u64 (lI C), .int .i64 k] 26)).drew := C4.drew ⟨(hC.keep hb).keep hA, atp_new W8 W8.heap.size C k 26 rfl⟩
        clear p0 p1 p2 q0 q1 q2 r0 r1 r2 hb hA hC KM1
        go_wp2_with fail
        generalize W8.heap.size = d at *
        have hEM := HEM.out
        refine q_region (C := C4 w a b c d X N Y M Z K C k) (by kernel_rfl) (by kernel_rfl) hCm ?_
        clear hCm
        refine q_run (v := .agg #[.int .u64 (hI C), .int .u64 (lI C), .int .i64 (k)]) (by rfl) ?_ ?_
        · (intro w1 hC; obtain ⟨⟨⟨p0, p1, p2, -, -, -⟩, ⟨q0, q1, q2, -, -, -⟩, ⟨r0, r1, r2, -, -, -⟩, -⟩, ⟨m0, m1, m2, -, -, -⟩⟩ := hC; go_simp; first | done | (simp; done) | (simp [*]; done) | omega | (simp; omega) | (rw [IntKind.wrap_i64]; omega) | (intro hx; omega) | rfl)
        simp only [Act.put, List.setIfInBounds_toArray, List.set_cons_zero, List.set_cons_succ]
        refine q_run (v := .agg #[.int .u64 (hI Y), .int .u64 (lI Y), .int .i64 (M)]) (by rfl) ?_ ?_
        · (intro w1 hC; obtain ⟨⟨⟨p0, p1, p2, -, -, -⟩, ⟨q0, q1, q2, -, -, -⟩, ⟨r0, r1, r2, -, -, -⟩, -⟩, ⟨m0, m1, m2, -, -, -⟩⟩ := hC; go_simp; first | done | (simp; done) | (simp [*]; done) | omega | (simp; omega) | (rw [IntKind.wrap_i64]; omega) | (intro hx; omega) | rfl)
        simp only [Act.put, List.setIfInBounds_toArray, List.set_cons_zero, List.set_cons_succ]
        refine q_run (v := .agg #[.int .u64 (hI X), .int .u64 (lI X), .int .i64 (N)]) (by rfl) ?_ ?_
        · (intro w1 hC; obtain ⟨⟨⟨p0, p1, p2, -, -, -⟩, ⟨q0, q1, q2, -, -, -⟩, ⟨r0, r1, r2, -, -, -⟩, -⟩, ⟨m0, m1, m2, -, -, -⟩⟩ := hC; go_simp; first | done | (simp; done) | (simp [*]; done) | omega | (simp; omega) | (rw [IntKind.wrap_i64]; omega) | (intro hx; omega) | rfl)
        simp only [Act.put, List.setIfInBounds_toArray, List.set_cons_zero, List.set_cons_succ]
        refine q_call (v := .agg #[.int .u64 (hI C), .int .u64 (lI C), .int .i64 (k)]) (f := 31) (args := #[.agg #[.int .u64 (hI Y), .int .u64 (lI Y), .int .i64 (M)], .agg #[.int .u64 (hI X), .int .u64 (lI X), .int .i64 (N)]]) (by rfl) ?_ ?_ ?_
        · (intro w1 hC; clear hC; go_simp)
        · exact fun w1 hC => (KM2 w1).mono fun e w' ⟨he, hb⟩ => ⟨he, hC.keep hb⟩
        simp only [Act.put, List.setIfInBounds_toArray, List.set_cons_zero, List.set_cons_succ]
        refine q_run (v := .bool false) (by rfl) ?_ ?_
        · (intro w1 hC; obtain ⟨⟨⟨p0, p1, p2, -, -, -⟩, ⟨q0, q1, q2, -, -, -⟩, ⟨r0, r1, r2, -, -, -⟩, -⟩, ⟨m0, m1, m2, -, -, -⟩⟩ := hC; go_simp; first | done | (simp; done) | (simp [*]; done) | omega | (simp; omega) | (rw [IntKind.wrap_i64]; omega) | (intro hx; omega) | rfl)
        simp only [Act.put, List.setIfInBounds_toArray, List.set_cons_zero, List.set_cons_succ]
        refine q_run (v := .bool false) (by rfl) ?_ ?_
        · (intro w1 hC; obtain ⟨⟨⟨p0, p1, p2, -, -, -⟩, ⟨q0, q1, q2, -, -, -⟩, ⟨r0, r1, r2, -, -, -⟩, -⟩, ⟨m0, m1, m2, -, -, -⟩⟩ := hC; go_simp; first | done | (simp; done) | (simp [*]; done) | omega | (simp; omega) | (rw [IntKind.wrap_i64]; omega) | (intro hx; omega) | rfl)
        simp only [Act.put, List.setIfInBounds_toArray, List.set_cons_zero, List.set_cons_succ]
        refine q_run (v := .agg #[.int .u64 (hI X), .int .u64 (lI X), .int .i64 (N)]) (by rfl) ?_ ?_
        · (intro w1 hC; obtain ⟨⟨⟨p0, p1, p2, -, -, -⟩, ⟨q0, q1, q2, -, -, -⟩, ⟨r0, r1, r2, -, -, -⟩, -⟩, ⟨m0, m1, m2, -, -, -⟩⟩ := hC; go_simp; first | done | (simp; done) | (simp [*]; done) | omega | (simp; omega) | (rw [IntKind.wrap_i64]; omega) | (intro hx; omega) | rfl)
        simp only [Act.put, List.setIfInBounds_toArray, List.set_cons_zero, List.set_cons_succ]
        refine q_run (v := .agg #[.int .u64 (hI C), .int .u64 (lI C), .int .i64 (k)]) (by rfl) ?_ ?_
        · (intro w1 hC; obtain ⟨⟨⟨p0, p1, p2, -, -, -⟩, ⟨q0, q1, q2, -, -, -⟩, ⟨r0, r1, r2, -, -, -⟩, -⟩, ⟨m0, m1, m2, -, -, -⟩⟩ := hC; go_simp; first | done | (simp; done) | (simp [*]; done) | omega | (simp; omega) | (rw [IntKind.wrap_i64]; omega) | (intro hx; omega) | rfl)
        simp only [Act.put, List.setIfInBounds_toArray, List.set_cons_zero, List.set_cons_succ]
        refine q_call (v := .bool true) (f := 24) (args := #[.agg #[.int .u64 (hI X), .int .u64 (lI X), .int .i64 (N)], .agg #[.int .u64 (hI C), .int .u64 (lI C), .int .i64 (k)]]) (by rfl) ?_ ?_ ?_
        · (intro w1 hC; clear hC; go_simp)
        · exact fun w1 hC => (KPM w1).mono fun e w' ⟨he, hb⟩ => ⟨he, hC.keep hb⟩
        simp only [Act.put, List.setIfInBounds_toArray, List.set_cons_zero, List.set_cons_succ]
        refine q_run (v := .bool false) (by rfl) ?_ ?_
        · (intro w1 hC; obtain ⟨⟨⟨p0, p1, p2, -, -, -⟩, ⟨q0, q1, q2, -, -, -⟩, ⟨r0, r1, r2, -, -, -⟩, -⟩, ⟨m0, m1, m2, -, -, -⟩⟩ := hC; go_simp; first | done | (simp; done) | (simp [*]; done) | omega | (simp; omega) | (rw [IntKind.wrap_i64]; omega) | (intro hx; omega) | rfl)
        simp only [Act.put, List.setIfInBounds_toArray, List.set_cons_zero, List.set_cons_succ]
        refine q_run (v := .bool false) (by rfl) ?_ ?_
        · (intro w1 hC; obtain ⟨⟨⟨p0, p1, p2, -, -, -⟩, ⟨q0, q1, q2, -, -, -⟩, ⟨r0, r1, r2, -, -, -⟩, -⟩, ⟨m0, m1, m2, -, -, -⟩⟩ := hC; go_simp; first | done | (simp; done) | (simp [*]; done) | omega | (simp; omega) | (rw [IntKind.wrap_i64]; omega) | (intro hx; omega) | rfl)
        simp only [Act.put, List.setIfInBounds_toArray, List.set_cons_zero, List.set_cons_succ]
        refine q_run (v := .bool false) (by rfl) ?_ ?_
        · (intro w1 hC; obtain ⟨⟨⟨p0, p1, p2, -, -, -⟩, ⟨q0, q1, q2, -, -, -⟩, ⟨r0, r1, r2, -, -, -⟩, -⟩, ⟨m0, m1, m2, -, -, -⟩⟩ := hC; go_simp; first | done | (simp; done) | (simp [*]; done) | omega | (simp; omega) | (rw [IntKind.wrap_i64]; omega) | (intro hx; omega) | rfl)
        simp only [Act.put, List.setIfInBounds_toArray, List.set_cons_zero, List.set_cons_succ]
        refine q_run (v := .agg #[.int .u64 (hI Y), .int .u64 (lI Y), .int .i64 (M)]) (by rfl) ?_ ?_
        · (intro w1 hC; obtain ⟨⟨⟨p0, p1, p2, -, -, -⟩, ⟨q0, q1, q2, -, -, -⟩, ⟨r0, r1, r2, -, -, -⟩, -⟩, ⟨m0, m1, m2, -, -, -⟩⟩ := hC; go_simp; first | done | (simp; done) | (simp [*]; done) | omega | (simp; omega) | (rw [IntKind.wrap_i64]; omega) | (intro hx; omega) | rfl)
        simp only [Act.put, List.setIfInBounds_toArray, List.set_cons_zero, List.set_cons_succ]
        refine q_run (v := .agg #[.int .u64 (hI C), .int .u64 (lI C), .int .i64 (k)]) (by rfl) ?_ ?_
        · (intro w1 hC; obtain ⟨⟨⟨p0, p1, p2, -, -, -⟩, ⟨q0, q1, q2, -, -, -⟩, ⟨r0, r1, r2, -, -, -⟩, -⟩, ⟨m0, m1, m2, -, -, -⟩⟩ := hC; go_simp; first | done | (simp; done) | (simp [*]; done) | omega | (simp; omega) | (rw [IntKind.wrap_i64]; omega) | (intro hx; omega) | rfl)
        simp only [Act.put, List.setIfInBounds_toArray, List.set_cons_zero, List.set_cons_succ]
        refine q_call (v := .bool true) (f := 24) (args := #[.agg #[.int .u64 (hI Y), .int .u64 (lI Y), .int .i64 (M)], .agg #[.int .u64 (hI C), .int .u64 (lI C), .int .i64 (k)]]) (by rfl) ?_ ?_ ?_
        · (intro w1 hC; clear hC; go_simp)
        · exact fun w1 hC => (KQM w1).mono fun e w' ⟨he, hb⟩ => ⟨he, hC.keep hb⟩
        simp only [Act.put, List.setIfInBounds_toArray, List.set_cons_zero, List.set_cons_succ]
        refine q_run (v := .bool false) (by rfl) ?_ ?_
        · (intro w1 hC; obtain ⟨⟨⟨p0, p1, p2, -, -, -⟩, ⟨q0, q1, q2, -, -, -⟩, ⟨r0, r1, r2, -, -, -⟩, -⟩, ⟨m0, m1, m2, -, -, -⟩⟩ := hC; go_simp; first | done | (simp; done) | (simp [*]; done) | omega | (simp; omega) | (rw [IntKind.wrap_i64]; omega) | (intro hx; omega) | rfl)
        simp only [Act.put, List.setIfInBounds_toArray, List.set_cons_zero, List.set_cons_succ]
        refine q_run (v := .bool false) (by rfl) ?_ ?_
        · (intro w1 hC; obtain ⟨⟨⟨p0, p1, p2, -, -, -⟩, ⟨q0, q1, q2, -, -, -⟩, ⟨r0, r1, r2, -, -, -⟩, -⟩, ⟨m0, m1, m2, -, -, -⟩⟩ := hC; go_simp; first | done | (simp; done) | (simp [*]; done) | omega | (simp; omega) | (rw [IntKind.wrap_i64]; omega) | (intro hx; omega) | rfl)
        simp only [Act.put, List.setIfInBounds_toArray, List.set_cons_zero, List.set_cons_succ]
        refine q_run (v := .bool false) (by rfl) ?_ ?_
        · (intro w1 hC; obtain ⟨⟨⟨p0, p1, p2, -, -, -⟩, ⟨q0, q1, q2, -, -, -⟩, ⟨r0, r1, r2, -, -, -⟩, -⟩, ⟨m0, m1, m2, -, -, -⟩⟩ := hC; go_simp; first | done | (simp; done) | (simp [*]; done) | omega | (simp; omega) | (rw [IntKind.wrap_i64]; omega) | (intro hx; omega) | rfl)
        simp only [Act.put, List.setIfInBounds_toArray, List.set_cons_zero, List.set_cons_succ]
        refine q_run (v := .agg #[.int .u64 (hI C), .int .u64 (lI C), .int .i64 (k)]) (by rfl) ?_ ?_
        · (intro w1 hC; obtain ⟨⟨⟨p0, p1, p2, -, -, -⟩, ⟨q0, q1, q2, -, -, -⟩, ⟨r0, r1, r2, -, -, -⟩, -⟩, ⟨m0, m1, m2, -, -, -⟩⟩ := hC; go_simp; first | done | (simp; done) | (simp [*]; done) | omega | (simp; omega) | (rw [IntKind.wrap_i64]; omega) | (intro hx; omega) | rfl)
        simp only [Act.put, List.setIfInBounds_toArray, List.set_cons_zero, List.set_cons_succ]
        refine q_run (v := .agg #[.int .u64 (hI X), .int .u64 (lI X), .int .i64 (N)]) (by rfl) ?_ ?_
        · (intro w1 hC; obtain ⟨⟨⟨p0, p1, p2, -, -, -⟩, ⟨q0, q1, q2, -, -, -⟩, ⟨r0, r1, r2, -, -, -⟩, -⟩, ⟨m0, m1, m2, -, -, -⟩⟩ := hC; go_simp; first | done | (simp; done) | (simp [*]; done) | omega | (simp; omega) | (rw [IntKind.wrap_i64]; omega) | (intro hx; omega) | rfl)
        simp only [Act.put, List.setIfInBounds_toArray, List.set_cons_zero, List.set_cons_succ]
        refine q_run (v := .bool (bm)) (by rfl) ?_ ?_
        · (intro w1 hC; obtain ⟨⟨⟨p0, p1, p2, -, -, -⟩, ⟨q0, q1, q2, -, -, -⟩, ⟨r0, r1, r2, -, -, -⟩, -⟩, ⟨m0, m1, m2, -, -, -⟩⟩ := hC; rcases hEM with ⟨g1, g2, g3, g4⟩ | ⟨g1, g4⟩ | ⟨g1, g2, g4⟩ | ⟨g1, g2, g3, g4⟩ <;> rw [g4] <;> go_simp <;> first | done | (simp [*]; done))
        simp only [Act.put, List.setIfInBounds_toArray, List.set_cons_zero, List.set_cons_succ]
        refine q_run (v := .agg #[.int .u64 (hI Y), .int .u64 (lI Y), .int .i64 (M)]) (by rfl) ?_ ?_
        · (intro w1 hC; obtain ⟨⟨⟨p0, p1, p2, -, -, -⟩, ⟨q0, q1, q2, -, -, -⟩, ⟨r0, r1, r2, -, -, -⟩, -⟩, ⟨m0, m1, m2, -, -, -⟩⟩ := hC; go_simp; first | done | (simp; done) | (simp [*]; done) | omega | (simp; omega) | (rw [IntKind.wrap_i64]; omega) | (intro hx; omega) | rfl)
        simp only [Act.put, List.setIfInBounds_toArray, List.set_cons_zero, List.set_cons_succ]
        refine q_run (v := .agg #[.int .u64 (hI X), .int .u64 (lI X), .int .i64 (N)]) (by rfl) ?_ ?_
        · (intro w1 hC; obtain ⟨⟨⟨p0, p1, p2, -, -, -⟩, ⟨q0, q1, q2, -, -, -⟩, ⟨r0, r1, r2, -, -, -⟩, -⟩, ⟨m0, m1, m2, -, -, -⟩⟩ := hC; go_simp; first | done | (simp; done) | (simp [*]; done) | omega | (simp; omega) | (rw [IntKind.wrap_i64]; omega) | (intro hx; omega) | rfl)
        simp only [Act.put, List.setIfInBounds_toArray, List.set_cons_zero, List.set_cons_succ]
        refine q_call (v := .bool (bm)) (f := 24) (args := #[.agg #[.int .u64 (hI Y), .int .u64 (lI Y), .int .i64 (M)], .agg #[.int .u64 (hI X), .int .u64 (lI X), .int .i64 (N)]]) (by rfl) ?_ ?_ ?_
        · (intro w1 hC; clear hC; go_simp)
        · exact fun w1 hC => (KQP w1).mono fun e w' ⟨he, hb⟩ => ⟨he, hC.keep hb⟩
        simp only [Act.put, List.setIfInBounds_toArray, List.set_cons_zero, List.set_cons_succ]
        refine q_run (v := .bool false) (by rfl) ?_ ?_
        · (intro w1 hC; obtain ⟨⟨⟨p0, p1, p2, -, -, -⟩, ⟨q0, q1, q2, -, -, -⟩, ⟨r0, r1, r2, -, -, -⟩, -⟩, ⟨m0, m1, m2, -, -, -⟩⟩ := hC; go_simp; first | done | (simp; done) | (simp [*]; done) | omega | (simp; omega) | (rw [IntKind.wrap_i64]; omega) | (intro hx; omega) | rfl)
        simp only [Act.put, List.setIfInBounds_toArray, List.set_cons_zero, List.set_cons_succ]
        refine q_run (v := .bool false) (by rfl) ?_ ?_
        · (intro w1 hC; obtain ⟨⟨⟨p0, p1, p2, -, -, -⟩, ⟨q0, q1, q2, -, -, -⟩, ⟨r0, r1, r2, -, -, -⟩, -⟩, ⟨m0, m1, m2, -, -, -⟩⟩ := hC; go_simp; first | done | (simp; done) | (simp [*]; done) | omega | (simp; omega) | (rw [IntKind.wrap_i64]; omega) | (intro hx; omega) | rfl)
        simp only [Act.put, List.setIfInBounds_toArray, List.set_cons_zero, List.set_cons_succ]
        refine wpQuiet_nil ?_
        intro W9 hC
        clear hEM HEM KPM KQM KM2
        obtain ⟨⟨⟨p0, p1, p2, -, -, -⟩, ⟨q0, q1, q2, -, -, -⟩, ⟨r0, r1, r2, -, -, -⟩, -⟩, ⟨m0, m1, m2, -, -, -⟩⟩ := id hC
        go_wp2_with fail
        refine (KPR _).mono ?_
        rintro e W' ⟨rfl, hb⟩
        replace hC := hC.keep hb
        clear p0 p1 p2 q0 q1 q2 r0 r1 r2 m0 m1 m2 hb
        cases wpr
        · go_wp2
          go_ret
          exact ⟨rfl, hC.1.2.2.2⟩
        · obtain ⟨⟨⟨p0, p1, p2, -, -, -⟩, ⟨q0, q1, q2, -, -, -⟩, ⟨r0, r1, r2, -, -, -⟩, -⟩, ⟨m0, m1, m2, -, -, -⟩⟩ := id hC
          go_wp2_with fail
          refine (KQR _).mono ?_
          rintro e W' ⟨rfl, hb⟩
          replace hC := hC.keep hb
          clear p0 p1 p2 q0 q1 q2 r0 r1 r2 m0 m1 m2 hb
          cases wqr
          · go_wp2
            go_ret
            exact ⟨rfl, hC.1.2.2.2⟩
          · have hwm := HAB.out (by simp) (by simp)
            rw [hwm] at KMR
            obtain ⟨⟨⟨p0, p1, p2, -, -, -⟩, ⟨q0, q1, q2, -, -, -⟩, ⟨r0, r1, r2, -, -, -⟩, -⟩, ⟨m0, m1, m2, -, -, -⟩⟩ := id hC
            go_wp2_with fail
            refine (KMR _).mono ?_
            rintro e W' ⟨rfl, hb⟩
            replace hC := hC.keep hb
            clear p0 p1 p2 q0 q1 q2 r0 r1 r2 m0 m1 m2 hb
            go_wp2
            go_ret
            exact ⟨rfl, hC.1.2.2.2⟩
    · obtain ⟨⟨p0, p1, p2, -, -, -⟩, ⟨q0, q1, q2, -, -, -⟩, ⟨r0, r1, r2, -, -, -⟩, -⟩ := id hC
      go_wp2_with fail
      refine (K12 _).mono ?_
      rintro e W' ⟨rfl, hb⟩
      replace hC := hC.keep hb
      clear p0 p1 p2 q0 q1 q2 r0 r1 r2 hb
      obtain ⟨⟨p0, p1, p2, -, -, -⟩, ⟨q0, q1, q2, -, -, -⟩, ⟨r0, r1, r2, -, -, -⟩, -⟩ := id hC
      go_wp2_with fail
      refine (K23 _).mono ?_
      rintro e W' ⟨rfl, hb⟩
      replace hC := hC.keep hb
      clear p0 p1 p2 q0 q1 q2 r0 r1 r2 hb
      obtain ⟨⟨p0, p1, p2, -, -, -⟩, ⟨q0, q1, q2, -, -, -⟩, ⟨r0, r1, r2, -, -, -⟩, -⟩ := id hC
      go_wp2_with fail
      refine (KM1 _).mono ?_
      rintro e W8 ⟨rfl, hb⟩
      have hA := bl1 W8 (.cells #[.int .u64 (hI C), .int .u64 (lI C), .int .i64 k] 26)
      have hCm : C4 w a b c W8.heap.size X N Y M Z K C k (W8.alloc (.cells #[.int .u64 (hI C), .int .u64 (lI C), .int .i64 k] 26)).drew := C4.drew ⟨(hC.keep hb).keep hA, atp_new W8 W8.heap.size C k 26 rfl⟩
      clear p0 p1 p2 q0 q1 q2 r0 r1 r2 hb hA hC KM1
      go_wp2_with fail
      generalize W8.heap.size = d at *
      have hEM := HEM.out
      refine q_region (C := C4 w a b c d X N Y M Z K C k) (by kernel_rfl) (by kernel_rfl) hCm ?_
      clear hCm
      refine q_run (v := .agg #[.int .u64 (hI C), .int .u64 (lI C), .int .i64 (k)]) (by rfl) ?_ ?_
      · (intro w1 hC; obtain ⟨⟨⟨p0, p1, p2, -, -, -⟩, ⟨q0, q1, q2, -, -, -⟩, ⟨r0, r1, r2, -, -, -⟩, -⟩, ⟨m0, m1, m2, -, -, -⟩⟩ := hC; go_simp; first | done | (simp; done) | (simp [*]; done) | omega | (simp; omega) | (rw [IntKind.wrap_i64]; omega) | (intro hx; omega) | rfl)
      simp only [Act.put, List.setIfInBounds_toArray, List.set_cons_zero, List.set_cons_succ]
      refine q_run (v := .agg #[.int .u64 (hI Y), .int .u64 (lI Y), .int .i64 (M)]) (by rfl) ?_ ?_
      · (intro w1 hC; obtain ⟨⟨⟨p0, p1, p2, -, -, -⟩, ⟨q0, q1, q2, -, -, -⟩, ⟨r0, r1, r2, -, -, -⟩, -⟩, ⟨m0, m1, m2, -, -, -⟩⟩ := hC; go_simp; first | done | (simp; done) | (simp [*]; done) | omega | (simp; omega) | (rw [IntKind.wrap_i64]; omega) | (intro hx; omega) | rfl)
      simp only [Act.put, List.setIfInBounds_toArray, List.set_cons_zero, List.set_cons_succ]
      refine q_run (v := .agg #[.int .u64 (hI X), .int .u64 (lI X), .int .i64 (N)]) (by rfl) ?_ ?_
      · (intro w1 hC; obtain ⟨⟨⟨p0, p1, p2, -, -, -⟩, ⟨q0, q1, q2, -, -, -⟩, ⟨r0, r1, r2, -, -, -⟩, -⟩, ⟨m0, m1, m2, -, -, -⟩⟩ := hC; go_simp; first | done | (simp; done) | (simp [*]; done) | omega | (simp; omega) | (rw [IntKind.wrap_i64]; omega) | (intro hx; omega) | rfl)
      simp only [Act.put, List.setIfInBounds_toArray, List.set_cons_zero, List.set_cons_succ]
      refine q_call (v := .agg #[.int .u64 (hI C), .int .u64 (lI C), .int .i64 (k)]) (f := 31) (args := #[.agg #[.int .u64 (hI Y), .int .u64 (lI Y), .int .i64 (M)], .agg #[.int .u64 (hI X), .int .u64 (lI X), .int .i64 (N)]]) (by rfl) ?_ ?_ ?_
      · (intro w1 hC; clear hC; go_simp)
      · exact fun w1 hC => (KM2 w1).mono fun e w' ⟨he, hb⟩ => ⟨he, hC.keep hb⟩
      simp only [Act.put, List.setIfInBounds_toArray, List.set_cons_zero, List.set_cons_succ]
      refine q_run (v := .bool false) (by rfl) ?_ ?_
      · (intro w1 hC; obtain ⟨⟨⟨p0, p1, p2, -, -, -⟩, ⟨q0, q1, q2, -, -, -⟩, ⟨r0, r1, r2, -, -, -⟩, -⟩, ⟨m0, m1, m2, -, -, -⟩⟩ := hC; go_simp; first | done | (simp; done) | (simp [*]; done) | omega | (simp; omega) | (rw [IntKind.wrap_i64]; omega) | (intro hx; omega) | rfl)
      simp only [Act.put, List.setIfInBounds_toArray, List.set_cons_zero, List.set_cons_succ]
      refine q_run (v := .bool false) (by rfl) ?_ ?_
      · (intro w1 hC; obtain ⟨⟨⟨p0, p1, p2, -, -, -⟩, ⟨q0, q1, q2, -, -, -⟩, ⟨r0, r1, r2, -, -, -⟩, -⟩, ⟨m0, m1, m2, -, -, -⟩⟩ := hC; go_simp; first | done | (simp; done) | (simp [*]; done) | omega | (simp; omega) | (rw [IntKind.wrap_i64]; omega) | (intro hx; omega) | rfl)
      simp only [Act.put, List.setIfInBounds_toArray, List.set_cons_zero, List.set_cons_succ]
      refine q_run (v := .agg #[.int .u64 (hI X), .int .u64 (lI X), .int .i64 (N)]) (by rfl) ?_ ?_
      · (intro w1 hC; obtain ⟨⟨⟨p0, p1, p2, -, -, -⟩, ⟨q0, q1, q2, -, -, -⟩, ⟨r0, r1, r2, -, -, -⟩, -⟩, ⟨m0, m1, m2, -, -, -⟩⟩ := hC; go_simp; first | done | (simp; done) | (simp [*]; done) | omega | (simp; omega) | (rw [IntKind.wrap_i64]; omega) | (intro hx; omega) | rfl)
      simp only [Act.put, List.setIfInBounds_toArray, List.set_cons_zero, List.set_cons_succ]
      refine q_run (v := .agg #[.int .u64 (hI C), .int .u64 (lI C), .int .i64 (k)]) (by rfl) ?_ ?_
      · (intro w1 hC; obtain ⟨⟨⟨p0, p1, p2, -, -, -⟩, ⟨q0, q1, q2, -, -, -⟩, ⟨r0, r1, r2, -, -, -⟩, -⟩, ⟨m0, m1, m2, -, -, -⟩⟩ := hC; go_simp; first | done | (simp; done) | (simp [*]; done) | omega | (simp; omega) | (rw [IntKind.wrap_i64]; omega) | (intro hx; omega) | rfl)
      simp only [Act.put, List.setIfInBounds_toArray, List.set_cons_zero, List.set_cons_succ]
      refine q_call (v := .bool true) (f := 24) (args := #[.agg #[.int .u64 (hI X), .int .u64 (lI X), .int .i64 (N)], .agg #[.int .u64 (hI C), .int .u64 (lI C), .int .i64 (k)]]) (by rfl) ?_ ?_ ?_
      · (intro w1 hC; clear hC; go_simp)
      · exact fun w1 hC => (KPM w1).mono fun e w' ⟨he, hb⟩ => ⟨he, hC.keep hb⟩
      simp only [Act.put, List.setIfInBounds_toArray, List.set_cons_zero, List.set_cons_succ]
      refine q_run (v := .bool false) (by rfl) ?_ ?_
      · (intro w1 hC; obtain ⟨⟨⟨p0, p1, p2, -, -, -⟩, ⟨q0, q1, q2, -, -, -⟩, ⟨r0, r1, r2, -, -, -⟩, -⟩, ⟨m0, m1, m2, -, -, -⟩⟩ := hC; go_simp; first | done | (simp; done) | (simp [*]; done) | omega | (simp; omega) | (rw [IntKind.wrap_i64]; omega) | (intro hx; omega) | rfl)
      simp only [Act.put, List.setIfInBounds_toArray, List.set_cons_zero, List.set_cons_succ]
      refine q_run (v := .bool false) (by rfl) ?_ ?_
      · (intro w1 hC; obtain ⟨⟨⟨p0, p1, p2, -, -, -⟩, ⟨q0, q1, q2, -, -, -⟩, ⟨r0, r1, r2, -, -, -⟩, -⟩, ⟨m0, m1, m2, -, -, -⟩⟩ := hC; go_simp; first | done | (simp; done) | (simp [*]; done) | omega | (simp; omega) | (rw [IntKind.wrap_i64]; omega) | (intro hx; omega) | rfl)
      simp only [Act.put, List.setIfInBounds_toArray, List.set_cons_zero, List.set_cons_succ]
      refine q_run (v := .bool false) (by rfl) ?_ ?_
      · (intro w1 hC; obtain ⟨⟨⟨p0, p1, p2, -, -, -⟩, ⟨q0, q1, q2, -, -, -⟩, ⟨r0, r1, r2, -, -, -⟩, -⟩, ⟨m0, m1, m2, -, -, -⟩⟩ := hC; go_simp; first | done | (simp; done) | (simp [*]; done) | omega | (simp; omega) | (rw [IntKind.wrap_i64]; omega) | (intro hx; omega) | rfl)
      simp only [Act.put, List.setIfInBounds_toArray, List.set_cons_zero, List.set_cons_succ]
      refine q_run (v := .agg #[.int .u64 (hI Y), .int .u64 (lI Y), .int .i64 (M)]) (by rfl) ?_ ?_
      · (intro w1 hC; obtain ⟨⟨⟨p0, p1, p2, -, -, -⟩, ⟨q0, q1, q2, -, -, -⟩, ⟨r0, r1, r2, -, -, -⟩, -⟩, ⟨m0, m1, m2, -, -, -⟩⟩ := hC; go_simp; first | done | (simp; done) | (simp [*]; done) | omega | (simp; omega) | (rw [IntKind.wrap_i64]; omega) | (intro hx; omega) | rfl)
      simp only [Act.put, List.setIfInBounds_toArray, List.set_cons_zero, List.set_cons_succ]
      refine q_run (v := .agg #[.int .u64 (hI C), .int .u64 (lI C), .int .i64 (k)]) (by rfl) ?_ ?_
      · (intro w1 hC; obtain ⟨⟨⟨p0, p1, p2, -, -, -⟩, ⟨q0, q1, q2, -, -, -⟩, ⟨r0, r1, r2, -, -, -⟩, -⟩, ⟨m0, m1, m2, -, -, -⟩⟩ := hC; go_simp; first | done | (simp; done) | (simp [*]; done) | omega | (simp; omega) | (rw [IntKind.wrap_i64]; omega) | (intro hx; omega) | rfl)
      simp only [Act.put, List.setIfInBounds_toArray, List.set_cons_zero, List.set_cons_succ]
      refine q_call (v := .bool true) (f := 24) (args := #[.agg #[.int .u64 (hI Y), .int .u64 (lI Y), .int .i64 (M)], .agg #[.int .u64 (hI C), .int .u64 (lI C), .int .i64 (k)]]) (by rfl) ?_ ?_ ?_
      · (intro w1 hC; clear hC; go_simp)
      · exact fun w1 hC => (KQM w1).mono fun e w' ⟨he, hb⟩ => ⟨he, hC.keep hb⟩
      simp only [Act.put, List.setIfInBounds_toArray, List.set_cons_zero, List.set_cons_succ]
      refine q_run (v := .bool false) (by rfl) ?_ ?_
      · (intro w1 hC; obtain ⟨⟨⟨p0, p1, p2, -, -, -⟩, ⟨q0, q1, q2, -, -, -⟩, ⟨r0, r1, r2, -, -, -⟩, -⟩, ⟨m0, m1, m2, -, -, -⟩⟩ := hC; go_simp; first | done | (simp; done) | (simp [*]; done) | omega | (simp; omega) | (rw [IntKind.wrap_i64]; omega) | (intro hx; omega) | rfl)
      simp only [Act.put, List.setIfInBounds_toArray, List.set_cons_zero, List.set_cons_succ]
      refine q_run (v := .bool false) (by rfl) ?_ ?_
      · (intro w1 hC; obtain ⟨⟨⟨p0, p1, p2, -, -, -⟩, ⟨q0, q1, q2, -, -, -⟩, ⟨r0, r1, r2, -, -, -⟩, -⟩, ⟨m0, m1, m2, -, -, -⟩⟩ := hC; go_simp; first | done | (simp; done) | (simp [*]; done) | omega | (simp; omega) | (rw [IntKind.wrap_i64]; omega) | (intro hx; omega) | rfl)
      simp only [Act.put, List.setIfInBounds_toArray, List.set_cons_zero, List.set_cons_succ]
      refine q_run (v := .bool false) (by rfl) ?_ ?_
      · (intro w1 hC; obtain ⟨⟨⟨p0, p1, p2, -, -, -⟩, ⟨q0, q1, q2, -, -, -⟩, ⟨r0, r1, r2, -, -, -⟩, -⟩, ⟨m0, m1, m2, -, -, -⟩⟩ := hC; go_simp; first | done | (simp; done) | (simp [*]; done) | omega | (simp; omega) | (rw [IntKind.wrap_i64]; omega) | (intro hx; omega) | rfl)
      simp only [Act.put, List.setIfInBounds_toArray, List.set_cons_zero, List.set_cons_succ]
      refine q_run (v := .agg #[.int .u64 (hI C), .int .u64 (lI C), .int .i64 (k)]) (by rfl) ?_ ?_
      · (intro w1 hC; obtain ⟨⟨⟨p0, p1, p2, -, -, -⟩, ⟨q0, q1, q2, -, -, -⟩, ⟨r0, r1, r2, -, -, -⟩, -⟩, ⟨m0, m1, m2, -, -, -⟩⟩ := hC; go_simp; first | done | (simp; done) | (simp [*]; done) | omega | (simp; omega) | (rw [IntKind.wrap_i64]; omega) | (intro hx; omega) | rfl)
      simp only [Act.put, List.setIfInBounds_toArray, List.set_cons_zero, List.set_cons_succ]
      refine q_run (v := .agg #[.int .u64 (hI X), .int .u64 (lI X), .int .i64 (N)]) (by rfl) ?_ ?_
      · (intro w1 hC; obtain ⟨⟨⟨p0, p1, p2, -, -, -⟩, ⟨q0, q1, q2, -, -, -⟩, ⟨r0, r1, r2, -, -, -⟩, -⟩, ⟨m0, m1, m2, -, -, -⟩⟩ := hC; go_simp; first | done | (simp; done) | (simp [*]; done) | omega | (simp; omega) | (rw [IntKind.wrap_i64]; omega) | (intro hx; omega) | rfl)
      simp only [Act.put, List.setIfInBounds_toArray, List.set_cons_zero, List.set_cons_succ]
      refine q_run (v := .bool (bm)) (by rfl) ?_ ?_
      · (intro w1 hC; obtain ⟨⟨⟨p0, p1, p2, -, -, -⟩, ⟨q0, q1, q2, -, -, -⟩, ⟨r0, r1, r2, -, -, -⟩, -⟩, ⟨m0, m1, m2, -, -, -⟩⟩ := hC; rcases hEM with ⟨g1, g2, g3, g4⟩ | ⟨g1, g4⟩ | ⟨g1, g2, g4⟩ | ⟨g1, g2, g3, g4⟩ <;> rw [g4] <;> go_simp <;> first | done | (simp [*]; done))
      simp only [Act.put, List.setIfInBounds_toArray, List.set_cons_zero, List.set_cons_succ]
      refine q_run (v := .agg #[.int .u64 (hI Y), .int .u64 (lI Y), .int .i64 (M)]) (by rfl) ?_ ?_
      · (intro w1 hC; obtain ⟨⟨⟨p0, p1, p2, -, -, -⟩, ⟨q0, q1, q2, -, -, -⟩, ⟨r0, r1, r2, -, -, -⟩, -⟩, ⟨m0, m1, m2, -, -, -⟩⟩ := hC; go_simp; first | done | (simp; done) | (simp [*]; done) | omega | (simp; omega) | (rw [IntKind.wrap_i64]; omega) | (intro hx; omega) | rfl)
      simp only [Act.put, List.setIfInBounds_toArray, List.set_cons_zero, List.set_cons_succ]
      refine q_run (v := .agg #[.int .u64 (hI X), .int .u64 (lI X), .int .i64 (N)]) (by rfl) ?_ ?_
      · (intro w1 hC; obtain ⟨⟨⟨p0, p1, p2, -, -, -⟩, ⟨q0, q1, q2, -, -, -⟩, ⟨r0, r1, r2, -, -, -⟩, -⟩, ⟨m0, m1, m2, -, -, -⟩⟩ := hC; go_simp; first | done | (simp; done) | (simp [*]; done) | omega | (simp; omega) | (rw [IntKind.wrap_i64]; omega) | (intro hx; omega) | rfl)
      simp only [Act.put, List.setIfInBounds_toArray, List.set_cons_zero, List.set_cons_succ]
      refine q_call (v := .bool (bm)) (f := 24) (args := #[.agg #[.int .u64 (hI Y), .int .u64 (lI Y), .int .i64 (M)], .agg #[.int .u64 (hI X), .int .u64 (lI X), .int .i64 (N)]]) (by rfl) ?_ ?_ ?_
      · (intro w1 hC; clear hC; go_simp)
      · exact fun w1 hC => (KQP w1).mono fun e w' ⟨he, hb⟩ => ⟨he, hC.keep hb⟩
      simp only [Act.put, List.setIfInBounds_toArray, List.set_cons_zero, List.set_cons_succ]
      refine q_run (v := .bool false) (by rfl) ?_ ?_
      · (intro w1 hC; obtain ⟨⟨⟨p0, p1, p2, -, -, -⟩, ⟨q0, q1, q2, -, -, -⟩, ⟨r0, r1, r2, -, -, -⟩, -⟩, ⟨m0, m1, m2, -, -, -⟩⟩ := hC; go_simp; first | done | (simp; done) | (simp [*]; done) | omega | (simp; omega) | (rw [IntKind.wrap_i64]; omega) | (intro hx; omega) | rfl)
      simp only [Act.put, List.setIfInBounds_toArray, List.set_cons_zero, List.set_cons_succ]
      refine q_run (v := .bool false) (by rfl) ?_ ?_
      · (intro w1 hC; obtain ⟨⟨⟨p0, p1, p2, -, -, -⟩, ⟨q0, q1, q2, -, -, -⟩, ⟨r0, r1, r2, -, -, -⟩, -⟩, ⟨m0, m1, m2, -, -, -⟩⟩ := hC; go_simp; first | done | (simp; done) | (simp [*]; done) | omega | (simp; omega) | (rw [IntKind.wrap_i64]; omega) | (intro hx; omega) | rfl)
      simp only [Act.put, List.setIfInBounds_toArray, List.set_cons_zero, List.set_cons_succ]
      refine wpQuiet_nil ?_
      intro W9 hC
      clear hEM HEM KPM KQM KM2
      obtain ⟨⟨⟨p0, p1, p2, -, -, -⟩, ⟨q0, q1, q2, -, -, -⟩, ⟨r0, r1, r2, -, -, -⟩, -⟩, ⟨m0, m1, m2, -, -, -⟩⟩ := id hC
      go_wp2_with fail
      refine (KPR _).mono ?_
      rintro e W' ⟨rfl, hb⟩
      replace hC := hC.keep hb
      clear p0 p1 p2 q0 q1 q2 r0 r1 r2 m0 m1 m2 hb
      cases wpr
      · go_wp2
        go_ret
        exact ⟨rfl, hC.1.2.2.2⟩
      · obtain ⟨⟨⟨p0, p1, p2, -, -, -⟩, ⟨q0, q1, q2, -, -, -⟩, ⟨r0, r1, r2, -, -, -⟩, -⟩, ⟨m0, m1, m2, -, -, -⟩⟩ := id hC
        go_wp2_with fail
        refine (KQR _).mono ?_
        rintro e W' ⟨rfl, hb⟩
        replace hC := hC.keep hb
        clear p0 p1 p2 q0 q1 q2 r0 r1 r2 m0 m1 m2 hb
        cases wqr
        · go_wp2
          go_ret
          exact ⟨rfl, hC.1.2.2.2⟩
        · have hwm := HAB.out (by simp) (by simp)
          rw [hwm] at KMR
          obtain ⟨⟨⟨p0, p1, p2, -, -, -⟩, ⟨q0, q1, q2, -, -, -⟩, ⟨r0, r1, r2, -, -, -⟩, -⟩, ⟨m0, m1, m2, -, -, -⟩⟩ := id hC
          go_wp2_with fail
          refine (KMR _).mono ?_
          rintro e W' ⟨rfl, hb⟩
          replace hC := hC.keep hb
          clear p0 p1 p2 q0 q1 q2 r0 r1 r2 m0 m1 m2 hb
          go_wp2
          go_ret
          exact ⟨rfl, hC.1.2.2.2⟩
  · obtain ⟨⟨p0, p1, p2, -, -, -⟩, ⟨q0, q1, q2, -, -, -⟩, ⟨r0, r1, r2, -, -, -⟩, -⟩ := id hC
    go_wp2_with fail
    refine (K12 _).mono ?_
    rintro e W' ⟨rfl, hb⟩
    replace hC := hC.keep hb
    clear p0 p1 p2 q0 q1 q2 r0 r1 r2 hb
    obtain ⟨⟨p0, p1, p2, -, -, -⟩, ⟨q0, q1, q2, -, -, -⟩, ⟨r0, r1, r2, -, -, -⟩, -⟩ := id hC
    go_wp2_with fail
    refine (KM1 _).mono ?_
    rintro e W8 ⟨rfl, hb⟩
    have hA := bl1 W8 (.cells #[.int .u64 (hI C), .int .u64 (lI C), .int .i64 k] 26)
    have hCm : C4 w a b c W8.heap.size X N Y M Z K C k (W8.alloc (.cells #[.int .u64 (hI C), .int .u64 (lI C), .int .i64 k] 26)).drew := C4.drew ⟨(hC.keep hb).keep hA, atp_new W8 W8.heap.size C k 26 rfl⟩
    clear p0 p1 p2 q0 q1 q2 r0 r1 r2 hb hA hC KM1
    go_wp2_with fail
    generalize W8.heap.size = d at *
    have hEM := HEM.out
    refine q_region (C := C4 w a b c d X N Y M Z K C k) (by kernel_rfl) (by kernel_rfl) hCm ?_
    clear hCm
    refine q_run (v := .agg #[.int .u64 (hI C), .int .u64 (lI C), .int .i64 (k)]) (by rfl) ?_ ?_
    · (intro w1 hC; obtain ⟨⟨⟨p0, p1, p2, -, -, -⟩, ⟨q0, q1, q2, -, -, -⟩, ⟨r0, r1, r2, -, -, -⟩, -⟩, ⟨m0, m1, m2, -, -, -⟩⟩ := hC; go_simp; first | done | (simp; done) | (simp [*]; done) | omega | (simp; omega) | (rw [IntKind.wrap_i64]; omega) | (intro hx; omega) | rfl)
    simp only [Act.put, List.setIfInBounds_toArray, List.set_cons_zero, List.set_cons_succ]
    refine q_run (v := .agg #[.int .u64 (hI Y), .int .u64 (lI Y), .int .i64 (M)]) (by rfl) ?_ ?_
    · (intro w1 hC; obtain ⟨⟨⟨p0, p1, p2, -, -, -⟩, ⟨q0, q1, q2, -, -, -⟩, ⟨r0, r1, r2, -, -, -⟩, -⟩, ⟨m0, m1, m2, -, -, -⟩⟩ := hC; go_simp; first | done | (simp; done) | (simp [*]; done) | omega | (simp; omega) | (rw [IntKind.wrap_i64]; omega) | (intro hx; omega) | rfl)
    simp only [Act.put, List.setIfInBounds_toArray, List.set_cons_zero, List.set_cons_succ]
    refine q_run (v := .agg #[.int .u64 (hI X), .int .u64 (lI X), .int .i64 (N)]) (by rfl) ?_ ?_
    · (intro w1 hC; obtain ⟨⟨⟨p0, p1, p2, -, -, -⟩, ⟨q0, q1, q2, -, -, -⟩, ⟨r0, r1, r2, -, -, -⟩, -⟩, ⟨m0, m1, m2, -, -, -⟩⟩ := hC; go_simp; first | done | (simp; done) | (simp [*]; done) | omega | (simp; omega) | (rw [IntKind.wrap_i64]; omega) | (intro hx; omega) | rfl)
    simp only [Act.put, List.setIfInBounds_toArray, List.set_cons_zero, List.set_cons_succ]
    refine q_call (v := .agg #[.int .u64 (hI C), .int .u64 (lI C), .int .i64 (k)]) (f := 31) (args := #[.agg #[.int .u64 (hI Y), .int .u64 (lI Y), .int .i64 (M)], .agg #[.int .u64 (hI X), .int .u64 (lI X), .int .i64 (N)]]) (by rfl) ?_ ?_ ?_
    · (intro w1 hC; clear hC; go_simp)
    · exact fun w1 hC => (KM2 w1).mono fun e w' ⟨he, hb⟩ => ⟨he, hC.keep hb⟩
    simp only [Act.put, List.setIfInBounds_toArray, List.set_cons_zero, List.set_cons_succ]
    refine q_run (v := .bool false) (by rfl) ?_ ?_
    · (intro w1 hC; obtain ⟨⟨⟨p0, p1, p2, -, -, -⟩, ⟨q0, q1, q2, -, -, -⟩, ⟨r0, r1, r2, -, -, -⟩, -⟩, ⟨m0, m1, m2, -, -, -⟩⟩ := hC; go_simp; first | done | (simp; done) | (simp [*]; done) | omega | (simp; omega) | (rw [IntKind.wrap_i64]; omega) | (intro hx; omega) | rfl)
    simp only [Act.put, List.setIfInBounds_toArray, List.set_cons_zero, List.set_cons_succ]
    refine q_run (v := .bool false) (by rfl) ?_ ?_
    · (intro w1 hC; obtain ⟨⟨⟨p0, p1, p2, -, -, -⟩, ⟨q0, q1, q2, -, -, -⟩, ⟨r0, r1, r2, -, -, -⟩, -⟩, ⟨m0, m1, m2, -, -, -⟩⟩ := hC; go_simp; first | done | (simp; done) | (simp [*]; done) | omega | (simp; omega) | (rw [IntKind.wrap_i64]; omega) | (intro hx; omega) | rfl)
    simp only [Act.put, List.setIfInBounds_toArray, List.set_cons_zero, List.set_cons_succ]
    refine q_run (v := .agg #[.int .u64 (hI X), .int .u64 (lI X), .int .i64 (N)]) (by rfl) ?_ ?_
    · (intro w1 hC; obtain ⟨⟨⟨p0, p1, p2, -, -, -⟩, ⟨q0, q1, q2, -, -, -⟩, ⟨r0, r1, r2, -, -, -⟩, -⟩, ⟨m0, m1, m2, -, -, -⟩⟩ := hC; go_simp; first | done | (simp; done) | (simp [*]; done) | omega | (simp; omega) | (rw [IntKind.wrap_i64]; omega) | (intro hx; omega) | rfl)
    simp only [Act.put, List.setIfInBounds_toArray, List.set_cons_zero, List.set_cons_succ]
    refine q_run (v := .agg #[.int .u64 (hI C), .int .u64 (lI C), .int .i64 (k)]) (by rfl) ?_ ?_
    · (intro w1 hC; obtain ⟨⟨⟨p0, p1, p2, -, -, -⟩, ⟨q0, q1, q2, -, -, -⟩, ⟨r0, r1, r2, -, -, -⟩, -⟩, ⟨m0, m1, m2, -, -, -⟩⟩ := hC; go_simp; first | done | (simp; done) | (simp [*]; done) | omega | (simp; omega) | (rw [IntKind.wrap_i64]; omega) | (intro hx; omega) | rfl)
    simp only [Act.put, List.setIfInBounds_toArray, List.set_cons_zero, List.set_cons_succ]
    refine q_call (v := .bool true) (f := 24) (args := #[.agg #[.int .u64 (hI X), .int .u64 (lI X), .int .i64 (N)], .agg #[.int .u64 (hI C), .int .u64 (lI C), .int .i64 (k)]]) (by rfl) ?_ ?_ ?_
    · (intro w1 hC; clear hC; go_simp)
    · exact fun w1 hC => (KPM w1).mono fun e w' ⟨he, hb⟩ => ⟨he, hC.keep hb⟩
    simp only [Act.put, List.setIfInBounds_toArray, List.set_cons_zero, List.set_cons_succ]
    refine q_run (v := .bool false) (by rfl) ?_ ?_
    · (intro w1 hC; obtain ⟨⟨⟨p0, p1, p2, -, -, -⟩, ⟨q0, q1, q2, -, -, -⟩, ⟨r0, r1, r2, -, -, -⟩, -⟩, ⟨m0, m1, m2, -, -, -⟩⟩ := hC; go_simp; first | done | (simp; done) | (simp [*]; done) | omega | (simp; omega) | (rw [IntKind.wrap_i64]; omega) | (intro hx; omega) | rfl)
    simp only [Act.put, List.setIfInBounds_toArray, List.set_cons_zero, List.set_cons_succ]
    refine q_run (v := .bool false) (by rfl) ?_ ?_
    · (intro w1 hC; obtain ⟨⟨⟨p0, p1, p2, -, -, -⟩, ⟨q0, q1, q2, -, -, -⟩, ⟨r0, r1, r2, -, -, -⟩, -⟩, ⟨m0, m1, m2, -, -, -⟩⟩ := hC; go_simp; first | done | (simp; done) | (simp [*]; done) | omega | (simp; omega) | (rw [IntKind.wrap_i64]; omega) | (intro hx; omega) | rfl)
    simp only [Act.put, List.setIfInBounds_toArray, List.set_cons_zero, List.set_cons_succ]
    refine q_run (v := .bool false) (by rfl) ?_ ?_
    · (intro w1 hC; obtain ⟨⟨⟨p0, p1, p2, -, -, -⟩, ⟨q0, q1, q2, -, -, -⟩, ⟨r0, r1, r2, -, -, -⟩, -⟩, ⟨m0, m1, m2, -, -, -⟩⟩ := hC; go_simp; first | done | (simp; done) | (simp [*]; done) | omega | (simp; omega) | (rw [IntKind.wrap_i64]; omega) | (intro hx; omega) | rfl)
    simp only [Act.put, List.setIfInBounds_toArray, List.set_cons_zero, List.set_cons_succ]
    refine q_run (v := .agg #[.int .u64 (hI Y), .int .u64 (lI Y), .int .i64 (M)]) (by rfl) ?_ ?_
    · (intro w1 hC; obtain ⟨⟨⟨p0, p1, p2, -, -, -⟩, ⟨q0, q1, q2, -, -, -⟩, ⟨r0, r1, r2, -, -, -⟩, -⟩, ⟨m0, m1, m2, -, -, -⟩⟩ := hC; go_simp; first | done | (simp; done) | (simp [*]; done) | omega | (simp; omega) | (rw [IntKind.wrap_i64]; omega) | (intro hx; omega) | rfl)
    simp only [Act.put, List.setIfInBounds_toArray, List.set_cons_zero, List.set_cons_succ]
    refine q_run (v := .agg #[.int .u64 (hI C), .int .u64 (lI C), .int .i64 (k)]) (by rfl) ?_ ?_
    · (intro w1 hC; obtain ⟨⟨⟨p0, p1, p2, -, -, -⟩, ⟨q0, q1, q2, -, -, -⟩, ⟨r0, r1, r2, -, -, -⟩, -⟩, ⟨m0, m1, m2, -, -, -⟩⟩ := hC; go_simp; first | done | (simp; done) | (simp [*]; done) | omega | (simp; omega) | (rw [IntKind.wrap_i64]; omega) | (intro hx; omega) | rfl)
    simp only [Act.put, List.setIfInBounds_toArray, List.set_cons_zero, List.set_cons_succ]
    refine q_call (v := .bool true) (f := 24) (args := #[.agg #[.int .u64 (hI Y), .int .u64 (lI Y), .int .i64 (M)], .agg #[.int .u64 (hI C), .int .u64 (lI C), .int .i64 (k)]]) (by rfl) ?_ ?_ ?_
    · (intro w1 hC; clear hC; go_simp)
    · exact fun w1 hC => (KQM w1).mono fun e w' ⟨he, hb⟩ => ⟨he, hC.keep hb⟩
    simp only [Act.put, List.setIfInBounds_toArray, List.set_cons_zero, List.set_cons_succ]
    refine q_run (v := .bool false) (by rfl) ?_ ?_
    · (intro w1 hC; obtain ⟨⟨⟨p0, p1, p2, -, -, -⟩, ⟨q0, q1, q2, -, -, -⟩, ⟨r0, r1, r2, -, -, -⟩, -⟩, ⟨m0, m1, m2, -, -, -⟩⟩ := hC; go_simp; first | done | (simp; done) | (simp [*]; done) | omega | (simp; omega) | (rw [IntKind.wrap_i64]; omega) | (intro hx; omega) | rfl)
    simp only [Act.put, List.setIfInBounds_toArray, List.set_cons_zero, List.set_cons_succ]
    refine q_run (v := .bool false) (by rfl) ?_ ?_
    · (intro w1 hC; obtain ⟨⟨⟨p0, p1, p2, -, -, -⟩, ⟨q0, q1, q2, -, -, -⟩, ⟨r0, r1, r2, -, -, -⟩, -⟩, ⟨m0, m1, m2, -, -, -⟩⟩ := hC; go_simp; first | done | (simp; done) | (simp [*]; done) | omega | (simp; omega) | (rw [IntKind.wrap_i64]; omega) | (intro hx; omega) | rfl)
    simp only [Act.put, List.setIfInBounds_toArray, List.set_cons_zero, List.set_cons_succ]
    refine q_run (v := .bool false) (by rfl) ?_ ?_
    · (intro w1 hC; obtain ⟨⟨⟨p0, p1, p2, -, -, -⟩, ⟨q0, q1, q2, -, -, -⟩, ⟨r0, r1, r2, -, -, -⟩, -⟩, ⟨m0, m1, m2, -, -, -⟩⟩ := hC; go_simp; first | done | (simp; done) | (simp [*]; done) | omega | (simp; omega) | (rw [IntKind.wrap_i64]; omega) | (intro hx; omega) | rfl)
    simp only [Act.put, List.setIfInBounds_toArray, List.set_cons_zero, List.set_cons_succ]
    refine q_run (v := .agg #[.int .u64 (hI C), .int .u64 (lI C), .int .i64 (k)]) (by rfl) ?_ ?_
    · (intro w1 hC; obtain ⟨⟨⟨p0, p1, p2, -, -, -⟩, ⟨q0, q1, q2, -, -, -⟩, ⟨r0, r1, r2, -, -, -⟩, -⟩, ⟨m0, m1, m2, -, -, -⟩⟩ := hC; go_simp; first | done | (simp; done) | (simp [*]; done) | omega | (simp; omega) | (rw [IntKind.wrap_i64]; omega) | (intro hx; omega) | rfl)
    simp only [Act.put, List.setIfInBounds_toArray, List.set_cons_zero, List.set_cons_succ]
    refine q_run (v := .agg #[.int .u64 (hI X), .int .u64 (lI X), .int .i64 (N)]) (by rfl) ?_ ?_
    · (intro w1 hC; obtain ⟨⟨⟨p0, p1, p2, -, -, -⟩, ⟨q0, q1, q2, -, -, -⟩, ⟨r0, r1, r2, -, -, -⟩, -⟩, ⟨m0, m1, m2, -, -, -⟩⟩ := hC; go_simp; first | done | (simp; done) | (simp [*]; done) | omega | (simp; omega) | (rw [IntKind.wrap_i64]; omega) | (intro hx; omega) | rfl)
    simp only [Act.put, List.setIfInBounds_toArray, List.set_cons_zero, List.set_cons_succ]
    refine q_run (v := .bool (bm)) (by rfl) ?_ ?_
    · (intro w1 hC; obtain ⟨⟨⟨p0, p1, p2, -, -, -⟩, ⟨q0, q1, q2, -, -, -⟩, ⟨r0, r1, r2, -, -, -⟩, -⟩, ⟨m0, m1, m2, -, -, -⟩⟩ := hC; rcases hEM with ⟨g1, g2, g3, g4⟩ | ⟨g1, g4⟩ | ⟨g1, g2, g4⟩ | ⟨g1, g2, g3, g4⟩ <;> rw [g4] <;> go_simp <;> first | done | (simp [*]; done))
    simp only [Act.put, List.setIfInBounds_toArray, List.set_cons_zero, List.set_cons_succ]
    refine q_run (v := .agg #[.int .u64 (hI Y), .int .u64 (lI Y), .int .i64 (M)]) (by rfl) ?_ ?_
    · (intro w1 hC; obtain ⟨⟨⟨p0, p1, p2, -, -, -⟩, ⟨q0, q1, q2, -, -, -⟩, ⟨r0, r1, r2, -, -, -⟩, -⟩, ⟨m0, m1, m2, -, -, -⟩⟩ := hC; go_simp; first | done | (simp; done) | (simp [*]; done) | omega | (simp; omega) | (rw [IntKind.wrap_i64]; omega) | (intro hx; omega) | rfl)
    simp only [Act.put, List.setIfInBounds_toArray, List.set_cons_zero, List.set_cons_succ]
    refine q_run (v := .agg #[.int .u64 (hI X), .int .u64 (lI X), .int .i64 (N)]) (by rfl) ?_ ?_
    · (intro w1 hC; obtain ⟨⟨⟨p0, p1, p2, -, -, -⟩, ⟨q0, q1, q2, -, -, -⟩, ⟨r0, r1, r2, -, -, -⟩, -⟩, ⟨m0, m1, m2, -, -, -⟩⟩ := hC; go_simp; first | done | (simp; done) | (simp [*]; done) | omega | (simp; omega) | (rw [IntKind.wrap_i64]; omega) | (intro hx; omega) | rfl)
    simp only [Act.put, List.setIfInBounds_toArray, List.set_cons_zero, List.set_cons_succ]
    refine q_call (v := .bool (bm)) (f := 24) (args := #[.agg #[.int .u64 (hI Y), .int .u64 (lI Y), .int .i64 (M)], .agg #[.int .u64 (hI X), .int .u64 (lI X), .int .i64 (N)]]) (by rfl) ?_ ?_ ?_
    · (intro w1 hC; clear hC; go_simp)
    · exact fun w1 hC => (KQP w1).mono fun e w' ⟨he, hb⟩ => ⟨he, hC.keep hb⟩
    simp only [Act.put, List.setIfInBounds_toArray, List.set_cons_zero, List.set_cons_succ]
    refine q_run (v := .bool false) (by rfl) ?_ ?_
    · (intro w1 hC; obtain ⟨⟨⟨p0, p1, p2, -, -, -⟩, ⟨q0, q1, q2, -, -, -⟩, ⟨r0, r1, r2, -, -, -⟩, -⟩, ⟨m0, m1, m2, -, -, -⟩⟩ := hC; go_simp; first | done | (simp; done) | (simp [*]; done) | omega | (simp; omega) | (rw [IntKind.wrap_i64]; omega) | (intro hx; omega) | rfl)
    simp only [Act.put, List.setIfInBounds_toArray, List.set_cons_zero, List.set_cons_succ]
    refine q_run (v := .bool false) (by rfl) ?_ ?_
    · (intro w1 hC; obtain ⟨⟨⟨p0, p1, p2, -, -, -⟩, ⟨q0, q1, q2, -, -, -⟩, ⟨r0, r1, r2, -, -, -⟩, -⟩, ⟨m0, m1, m2, -, -, -⟩⟩ := hC; go_simp; first | done | (simp; done) | (simp [*]; done) | omega | (simp; omega) | (rw [IntKind.wrap_i64]; omega) | (intro hx; omega) | rfl)
    simp only [Act.put, List.setIfInBounds_toArray, List.set_cons_zero, List.set_cons_succ]
    refine wpQuiet_nil ?_
    intro W9 hC
    clear hEM HEM KPM KQM KM2
    obtain ⟨⟨⟨p0, p1, p2, -, -, -⟩, ⟨q0, q1, q2, -, -, -⟩, ⟨r0, r1, r2, -, -, -⟩, -⟩, ⟨m0, m1, m2, -, -, -⟩⟩ := id hC
    go_wp2_with fail
    refine (KPR _).mono ?_
    rintro e W' ⟨rfl, hb⟩
    replace hC := hC.keep hb
    clear p0 p1 p2 q0 q1 q2 r0 r1 r2 m0 m1 m2 hb
    cases wpr
    · go_wp2
      go_ret
      exact ⟨rfl, hC.1.2.2.2⟩
    · obtain ⟨⟨⟨p0, p1, p2, -, -, -⟩, ⟨q0, q1, q2, -, -, -⟩, ⟨r0, r1, r2, -, -, -⟩, -⟩, ⟨m0, m1, m2, -, -, -⟩⟩ := id hC
      go_wp2_with fail
      refine (KQR _).mono ?_
      rintro e W' ⟨rfl, hb⟩
      replace hC := hC.keep hb
      clear p0 p1 p2 q0 q1 q2 r0 r1 r2 m0 m1 m2 hb
      cases wqr
      · go_wp2
        go_ret
        exact ⟨rfl, hC.1.2.2.2⟩
      · have hwm := HAB.out (by simp) (by simp)
        rw [hwm] at KMR
        obtain ⟨⟨⟨p0, p1, p2, -, -, -⟩, ⟨q0, q1, q2, -, -, -⟩, ⟨r0, r1, r2, -, -, -⟩, -⟩, ⟨m0, m1, m2, -, -, -⟩⟩ := id hC
        go_wp2_with fail
        refine (KMR _).mono ?_
        rintro e W' ⟨rfl, hb⟩
        replace hC := hC.keep hb
        clear p0 p1 p2 q0 q1 q2 r0 r1 r2 m0 m1 m2 hb
        go_wp2
        go_ret
        exact ⟨rfl, hC.1.2.2.2⟩
end Go.Proofs.YtpchhfhdepkbcabDoor
