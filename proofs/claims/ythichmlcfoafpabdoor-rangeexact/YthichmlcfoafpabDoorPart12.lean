/-
  Part 12 of the proof: 1 texts, one behind the other.
-/
import Derived.Test.YthichmlcfoafpabDoorPart9
import Derived.Test.YthichmlcfoafpabDoorPart10
import Derived.Test.YthichmlcfoafpabDoorPart11
import Derived.Test.YthichmlcfoafpabDoorPart7
/-
  The law RangeExact, walked.
-/
namespace Go.Proofs.YthichmlcfoafpabDoor
open Go.RowKit
set_option linter.unusedSimpArgs false
set_option linter.unusedVariables false

/-- Two words in memory, and a third one. -/
def E2 (w : World) (v u : BitVec 128) (W : World) : Prop := At W w.heap.size v ∧ At W (w.heap.size + 1) u ∧ Below w.heap.size w W
theorem E2.below {w W W' : World} {v u : BitVec 128} (h : E2 w v u W) (hb : Below W.heap.size W W') : E2 w v u W' := ⟨h.1.below hb, h.2.1.below hb, keepb hb h.2.2⟩
theorem E2.drew {w W : World} {v u : BitVec 128} (h : E2 w v u W) : E2 w v u W.drew := ⟨h.1, h.2.1, h.2.2.drew⟩
theorem E2.set {w W : World} {v u : BitVec 128} (h : E2 w v u W) {N : Nat} (hN : w.heap.size + 1 < N) (y z : Value) : E2 w v u ((W.setCell ⟨N, 0, none⟩ y).setCell ⟨N, 1, none⟩ z) := ⟨h.1.other y z (by omega), h.2.1.other y z (by omega), bset2 h.2.2 (by omega) y z⟩
def E3 (w : World) (v u : BitVec 128) (A : Nat) (a : BitVec 128) (W : World) : Prop := E2 w v u W ∧ At W A a
theorem E3.below {w W W' : World} {v u : BitVec 128} {A : Nat} {a : BitVec 128} (h : E3 w v u A a W) (hb : Below W.heap.size W W') : E3 w v u A a W' := ⟨h.1.below hb, h.2.below hb⟩
theorem E3.drew {w W : World} {v u : BitVec 128} {A : Nat} {a : BitVec 128} (h : E3 w v u A a W) : E3 w v u A a W.drew := ⟨h.1.drew, h.2⟩
theorem at_zero0 (w : World) : At (w.alloc (.cells #[.int .u64 0, .int .u64 0] 45)) w.heap.size 0#128 := at_new w w.heap.size 0#128 45 rfl

/-- What region 9 reads. -/
def EB (w : World) (A B g q : Nat) (x y lp : BitVec 128) (ln n0 : Int) (W : World) : Prop := At W A x ∧ At W B y ∧ (W.cell? ⟨g, 0 * 3, none⟩ = some (.int .u64 (hI x)) ∧ W.cell? ⟨g, 0 * 3 + 1, none⟩ = some (.int .u64 (lI x)) ∧ W.cell? ⟨g, 0 * 3 + 2, none⟩ = some (.int .i64 n0)) ∧
    (W.cell? ⟨g, q * 3, none⟩ = some (.int .u64 (hI lp)) ∧ W.cell? ⟨g, q * 3 + 1, none⟩ = some (.int .u64 (lI lp)) ∧ W.cell? ⟨g, q * 3 + 2, none⟩ = some (.int .i64 ln)) ∧ Below w.heap.size w W
theorem EB.below {w W W' : World} {A B g q : Nat} {x y lp : BitVec 128} {ln n0 : Int} (h : EB w A B g q x y lp ln n0 W) (hb : Below W.heap.size W W') : EB w A B g q x y lp ln n0 W' :=
  ⟨h.1.below hb, h.2.1.below hb, ⟨keepc hb h.2.2.1.1, keepc hb h.2.2.1.2.1, keepc hb h.2.2.1.2.2⟩, ⟨keepc hb h.2.2.2.1.1, keepc hb h.2.2.2.1.2.1, keepc hb h.2.2.2.1.2.2⟩, keepb hb h.2.2.2.2⟩
theorem EB.all {w W : World} {A B g q : Nat} {x y lp : BitVec 128} {ln n0 : Int} (h : EB w A B g q x y lp ln n0 W) : W.cell? ⟨A, 0, none⟩ = some (.int .u64 (hI x)) ∧ W.cell? ⟨A, 1, none⟩ = some (.int .u64 (lI x)) ∧ W.cell? ⟨B, 0, none⟩ = some (.int .u64 (hI y)) ∧ W.cell? ⟨B, 1, none⟩ = some (.int .u64 (lI y)) ∧ W.cell? ⟨g, 0, none⟩ = some (.int .u64 (hI x)) ∧ W.cell? ⟨g, 1, none⟩ = some (.int .u64 (lI x)) ∧ W.cell? ⟨g, q * 3, none⟩ = some (.int .u64 (hI lp)) ∧ W.cell? ⟨g, q * 3 + 1, none⟩ = some (.int .u64 (lI lp)) ∧ W.cell? ⟨g, q * 3 + 2, none⟩ = some (.int .i64 ln) ∧ Hid (EB w A B g q x y lp ln n0 W) := by
  obtain ⟨h1, h2, ⟨r0, r1, r2⟩, ⟨t0, t1, t2⟩, h5⟩ := id h
  exact ⟨h1.1, h1.2.1, h2.1, h2.2.1, by simpa using r0, by simpa using r1, t0, t1, t2, h⟩
theorem row_keep {W W' : World} {g : Nat} {T : List (BitVec 128 × Int)} (hb : Below W.heap.size W W') (h : Hid (∀ j (hj : j < T.length), W.cell? ⟨g, j * 3, none⟩ = some (.int .u64 (hI T[j].1)) ∧ W.cell? ⟨g, j * 3 + 1, none⟩ = some (.int .u64 (lI T[j].1)) ∧ W.cell? ⟨g, j * 3 + 2, none⟩ = some (.int .i64 T[j].2))) :
    Hid (∀ j (hj : j < T.length), W'.cell? ⟨g, j * 3, none⟩ = some (.int .u64 (hI T[j].1)) ∧ W'.cell? ⟨g, j * 3 + 1, none⟩ = some (.int .u64 (lI T[j].1)) ∧ W'.cell? ⟨g, j * 3 + 2, none⟩ = some (.int .i64 T[j].2)) :=
  fun j hj => ⟨keepc hb (h.out j hj).1, keepc hb (h.out j hj).2.1, keepc hb (h.out j hj).2.2⟩
/-- What the loop reads. -/
def EL (w : World) (D g : Nat) (T : List (BitVec 128 × Int)) (s : BitVec 128) (W : World) : Prop := At W D s ∧ (∀ j (hj : j < T.length), W.cell? ⟨g, j * 3, none⟩ = some (.int .u64 (hI T[j].1)) ∧ W.cell? ⟨g, j * 3 + 1, none⟩ = some (.int .u64 (lI T[j].1)) ∧ W.cell? ⟨g, j * 3 + 2, none⟩ = some (.int .i64 T[j].2)) ∧ Below w.heap.size w W
theorem EL.below {w W W' : World} {D g : Nat} {T : List (BitVec 128 × Int)} {s : BitVec 128} (h : EL w D g T s W) (hb : Below W.heap.size W W') : EL w D g T s W' := ⟨h.1.below hb, (row_keep hb h.2.1).out, keepb hb h.2.2⟩
theorem EL.drew {w W : World} {D g : Nat} {T : List (BitVec 128 × Int)} {s : BitVec 128} (h : EL w D g T s W) : EL w D g T s W.drew := ⟨h.1, h.2.1, h.2.2.drew⟩
/-- What a later round reads. -/
def ES (w : World) (D g : Nat) (T : List (BitVec 128 × Int)) (s : BitVec 128) (j : Nat) (px : BitVec 128) (pn : Int) (cx : BitVec 128) (cn : Int) (W : World) : Prop := EL w D g T s W ∧ (W.cell? ⟨g, j * 3, none⟩ = some (.int .u64 (hI px)) ∧ W.cell? ⟨g, j * 3 + 1, none⟩ = some (.int .u64 (lI px)) ∧ W.cell? ⟨g, j * 3 + 2, none⟩ = some (.int .i64 pn)) ∧
    (W.cell? ⟨g, (j + 1) * 3, none⟩ = some (.int .u64 (hI cx)) ∧ W.cell? ⟨g, (j + 1) * 3 + 1, none⟩ = some (.int .u64 (lI cx)) ∧ W.cell? ⟨g, (j + 1) * 3 + 2, none⟩ = some (.int .i64 cn))
theorem ES.below {w W W' : World} {D g j : Nat} {T : List (BitVec 128 × Int)} {s px cx : BitVec 128} {pn cn : Int} (h : ES w D g T s j px pn cx cn W) (hb : Below W.heap.size W W') : ES w D g T s j px pn cx cn W' :=
  ⟨h.1.below hb, ⟨keepc hb h.2.1.1, keepc hb h.2.1.2.1, keepc hb h.2.1.2.2⟩, ⟨keepc hb h.2.2.1, keepc hb h.2.2.2.1, keepc hb h.2.2.2.2⟩⟩
theorem ES.drew {w W : World} {D g j : Nat} {T : List (BitVec 128 × Int)} {s px cx : BitVec 128} {pn cn : Int} (h : ES w D g T s j px pn cx cn W) : ES w D g T s j px pn cx cn W.drew := ⟨h.1.drew, h.2.1, h.2.2⟩
theorem ES.set {w W : World} {D g j N : Nat} {T : List (BitVec 128 × Int)} {s px cx : BitVec 128} {pn cn : Int} (h : ES w D g T s j px pn cx cn W) (h1 : w.heap.size ≤ N) (h2 : ¬ g = N) (h3 : ¬ D = N) (y z : Value) : ES w D g T s j px pn cx cn ((W.setCell ⟨N, 0, none⟩ y).setCell ⟨N, 1, none⟩ z) := by
  have h2' : ¬ N = g := fun e => h2 e.symm
  have k : ∀ o, ((W.setCell ⟨N, 0, none⟩ y).setCell ⟨N, 1, none⟩ z).cell? ⟨g, o, none⟩ = W.cell? ⟨g, o, none⟩ := fun o => by simp [go_sem, h2, h2']
  obtain ⟨⟨a1, a2, a3⟩, ⟨b1, b2, b3⟩, ⟨c1, c2, c3⟩⟩ := h
  refine ⟨⟨a1.other y z h3, fun i hi => ?_, bset2 a3 h1 y z⟩, ⟨?_, ?_, ?_⟩, ⟨?_, ?_, ?_⟩⟩
  · rw [k, k, k]; exact a2 i hi
  all_goals rw [k]; assumption
theorem lnk_add (F : Int) (p q : BitVec 128 × Int) (h : Lnk F p q) : overB (lastW F p.1 p.2) (stepW F) = false ∧ lastW F p.1 p.2 + stepW F = q.1 ∧ (0 < p.2 → ((sibV p.1 p.2 == q.1) && (sibN p.2 == q.2)) = false) := by
  obtain ⟨h1, h2, h3⟩ := h
  refine ⟨?_, ?_, ?_⟩
  · unfold nextB at h1
    simp only [Bool.and_eq_true, Bool.not_eq_true'] at h1
    exact h1.2
  · rw [h2]; unfold nextV; rw [if_pos h1]
  · intro hp
    cases e : ((sibV p.1 p.2 == q.1) && (sibN p.2 == q.2))
    · rfl
    · simp only [Bool.and_eq_true, beq_iff_eq] at e
      exact absurd ⟨hp, e.1, e.2⟩ h3
theorem check_rt (F : Int) (x : BitVec 128) (n : Int) (hf : fam F = true) (h : Rt F x n) : checkE F x n = 0 := by
  unfold checkE
  rw [if_pos hf, if_neg (by have := h.1; omega), if_neg (by have := h.2.1; omega), if_pos (by simp [h.2.2])]

set_option maxHeartbeats 8000000 in
set_option maxRecDepth 20000 in
theorem rangeExact_any (six : Bool) (v u : BitVec 128) (w : World) (hT : Tab w) :
    Calls Tryd.prog 5 #[.bool six, .agg #[.int .u64 (hI v), .int .u64 (lI v)], .agg #[.int .u64 (hI u), .int .u64 (lI u)]] w fun e w' => e = .returned (.bool true) ∧ Below w.heap.size w w' := by
  have KF := fun w => family3_any six w
  obtain ⟨f0, f1⟩ := famZ_bd six
  have ff := famZ_fam six
  generalize famZ six = F at *
  have L0 : E2 w v u ((w.alloc (.cells #[.int .u64 (hI v), .int .u64 (lI v)] 45)).alloc (.cells #[.int .u64 (hI u), .int .u64 (lI u)] 45)) :=
    ⟨(at_new w w.heap.size v 45 rfl).al _, at_new (w.alloc (.cells #[.int .u64 (hI v), .int .u64 (lI v)] 45)) (w.heap.size + 1) u 45 (by simp), bl2 w _ _⟩
  have KN := known4_any _ (hT.keep L0.2.2)
  have KM := fun w => rmask_any F w
  have KA := fun w => rand_any v (maskW F) w
  have KB := fun w => rand_any u (maskW F) w
  have ca : cutW (cutW v F) F = cutW v F := maskW_idem v F
  have cb : cutW (cutW u F) F = cutW u F := maskW_idem u F
  have KA : ∀ w, Calls Tryd.prog 20 #[.agg #[.int .u64 (hI v), .int .u64 (lI v)], .agg #[.int .u64 (hI (maskW F)), .int .u64 (lI (maskW F))]] w fun e w' => e = .returned (.agg #[.int .u64 (hI (cutW v F)), .int .u64 (lI (cutW v F))]) ∧ Below w.heap.size w w' := KA
  have KB : ∀ w, Calls Tryd.prog 20 #[.agg #[.int .u64 (hI u), .int .u64 (lI u)], .agg #[.int .u64 (hI (maskW F)), .int .u64 (lI (maskW F))]] w fun e w' => e = .returned (.agg #[.int .u64 (hI (cutW u F)), .int .u64 (lI (cutW u F))]) ∧ Below w.heap.size w w' := KB
  generalize cutW v F = a at *
  generalize cutW u F = b at *
  generalize maskW F = mk at *
  go_enter Tryd.func5, Tryd.ntmps5
  go_wp2_with fail
  refine KN.mono ?_
  rintro e w0 ⟨rfl, hb⟩
  replace L0 := L0.below hb
  clear hb KN
  go_wp2_with fail
  refine (KF _).mono ?_
  rintro e w9 ⟨rfl, rfl⟩
  clear KF
  obtain ⟨⟨v0, v1, -, -, -⟩, -, -⟩ := id L0
  go_wp2_with fail
  clear v0 v1
  refine al_region 5 4 (alOk (qpOk 5 4 (by decide) (fun N => by kernel_rfl) (by kernel_rfl) (by kernel_rfl) (by kernel_rfl) (by kernel_rfl)) (by decide) rfl rfl (by kernel_rfl)) (D := E2 w v u) (C1 := fun N W => E2 w v u W ∧ At W N 0#128 ∧ w.heap.size + 1 < N) (obj := .cells #[.int .u64 0, .int .u64 0] 45) (A := fun N => { tmps := #[.bool (six), .agg #[.int .u64 (hI v), .int .u64 (lI v)], .agg #[.int .u64 (hI u), .int .u64 (lI u)], undef, .pointer (some ⟨w.heap.size, 0, none⟩), .pointer (some ⟨w.heap.size + 1, 0, none⟩), .bool false, .int .i64 (F), .pointer (some ⟨N, 0, none⟩), undef, undef, undef, undef, undef, undef, undef, undef, undef, .bool true, .bool false, .bool (six), .int .i64 (F), .agg #[.int .u64 (hI v), .int .u64 (lI v)], .int .i64 (F), .agg #[.int .u64 (hI mk), .int .u64 (lI mk)], .agg #[.int .u64 (hI a), .int .u64 (lI a)], undef, undef, undef, undef, undef, undef, undef, undef, undef, undef, undef, undef, undef, undef, undef, undef, undef, undef, undef, undef, undef, undef, undef, undef, undef, undef, undef, undef, undef, undef, undef, undef, undef, undef, undef, undef, undef, undef, undef, undef, undef, undef, undef, undef, undef, undef, undef, undef, undef, undef, undef, undef, undef, undef, undef, undef, undef, undef, undef, undef, undef, undef, undef, undef, undef, undef, undef, undef, undef, undef, undef, undef, undef, undef, undef, undef, undef, undef, undef, undef, undef, undef, undef, undef, undef, undef, undef, undef, undef, undef, undef, undef, undef, undef, undef, undef, undef, undef, undef, undef, undef, undef, undef, undef, undef, undef, undef, undef, undef, undef, undef, undef, undef], defers := [] }) (by kernel_rfl) ?hA4 ?hal4 ?hC14 L0.drew ?walk4 ?fin4
  case hA4 => exact alA (alOk (qpOk 5 4 (by decide) (fun N => by kernel_rfl) (by kernel_rfl) (by kernel_rfl) (by kernel_rfl) (by kernel_rfl)) (by decide) rfl rfl (by kernel_rfl)) 8 rfl (fun N => rfl)
  case hal4 => intro W a _; go_simp
  case hC14 => intro W h; exact ⟨h.below (bl1 W _), at_zero0 W, h.2.1.2.2.2.2⟩
  case walk4 =>
    intro N X hX
    have hXD : ∀ W, X W → E2 w v u W := by
      rcases hX with rfl | rfl
      · exact fun W h => h
      · exact fun W h => h.1
    have hXb : ∀ W W', X W → Below W.heap.size W W' → X W' := by
      rcases hX with rfl | rfl
      · exact fun W W' h hb => h.below hb
      · exact fun W W' h hb => ⟨h.1.below hb, h.2.1.below hb, h.2.2⟩
    clear hX L0 hT
    dsimp only [rep, List.take, List.modify, List.modifyTailIdx, List.modifyTailIdx.go, List.modifyHead]
    refine q_run (v := .agg #[.int .u64 (hI v), .int .u64 (lI v)]) (by rfl) ?_ ?_
    · (intro w1 hC; obtain ⟨⟨a0, a1, -, -, -⟩, ⟨b0, b1, -, -, -⟩, -⟩ := hXD w1 hC; go_simp; first | done | (simp; done) | (simp [*]; done) | omega | (simp; omega) | (rw [IntKind.wrap_i64]; omega) | (intro hx; omega) | rfl)
    simp only [Act.put, List.setIfInBounds_toArray, List.set_cons_zero, List.set_cons_succ]
    refine q_run (v := .int .i64 (F)) (by rfl) ?_ ?_
    · (intro w1 hC; obtain ⟨⟨a0, a1, -, -, -⟩, ⟨b0, b1, -, -, -⟩, -⟩ := hXD w1 hC; go_simp; first | done | (simp; done) | (simp [*]; done) | omega | (simp; omega) | (rw [IntKind.wrap_i64]; omega) | (intro hx; omega) | rfl)
    simp only [Act.put, List.setIfInBounds_toArray, List.set_cons_zero, List.set_cons_succ]
    refine q_call (v := .agg #[.int .u64 (hI mk), .int .u64 (lI mk)]) (f := 21) (args := #[.int .i64 (F)]) (by rfl) ?_ ?_ ?_
    · (intro w1 hC; clear hC; go_simp)
    · exact fun w1 hC => (KM w1).mono fun e w' ⟨he, hb⟩ => ⟨he, hXb w1 _ hC hb⟩
    simp only [Act.put, List.setIfInBounds_toArray, List.set_cons_zero, List.set_cons_succ]
    refine q_call (v := .agg #[.int .u64 (hI a), .int .u64 (lI a)]) (f := 20) (args := #[.agg #[.int .u64 (hI v), .int .u64 (lI v)], .agg #[.int .u64 (hI mk), .int .u64 (lI mk)]]) (by rfl) ?_ ?_ ?_
    · (intro w1 hC; clear hC; go_simp)
    · exact fun w1 hC => (KA w1).mono fun e w' ⟨he, hb⟩ => ⟨he, hXb w1 _ hC hb⟩
    simp only [Act.put, List.setIfInBounds_toArray, List.set_cons_zero, List.set_cons_succ]
    refine q_run (v := .pointer (some ⟨N, 0, none⟩)) (by rfl) ?_ ?_
    · (intro w1 hC; obtain ⟨⟨a0, a1, -, -, -⟩, ⟨b0, b1, -, -, -⟩, -⟩ := hXD w1 hC; go_simp; first | done | (simp; done) | (simp [*]; done) | omega | (simp; omega) | (rw [IntKind.wrap_i64]; omega) | (intro hx; omega) | rfl)
    simp only [Act.put, List.setIfInBounds_toArray, List.set_cons_zero, List.set_cons_succ]
    exact wpQuiet_nil rfl
  case fin4 =>
    intro A W hC
    obtain ⟨hE, hZ, hAl⟩ := hC
    have hE3 : E3 w v u A a ((W.setCell ⟨A, 0, none⟩ (.int .u64 (hI a))).setCell ⟨A, 1, none⟩ (.int .u64 (lI a))) := ⟨hE.set hAl _ _, hZ.set a⟩
    obtain ⟨z0, z1, z2, z3, z4⟩ := id hZ
    clear hE hZ L0 KA
    dsimp only [List.drop]
    go_wp2_with fail
    clear z0 z1 z2 z3 z4
    generalize ((W.setCell ⟨A, 0, none⟩ (.int .u64 (hI a))).setCell ⟨A, 1, none⟩ (.int .u64 (lI a))) = W4 at *
    refine al_region 5 4 (alOk (qpOk 5 4 (by decide) (fun N => by kernel_rfl) (by kernel_rfl) (by kernel_rfl) (by kernel_rfl) (by kernel_rfl)) (by decide) rfl rfl (by kernel_rfl)) (D := E3 w v u A a) (C1 := fun N W => E3 w v u A a W ∧ At W N 0#128 ∧ A < N) (obj := .cells #[.int .u64 0, .int .u64 0] 45) (A := fun N => { tmps := #[.bool (six), .agg #[.int .u64 (hI v), .int .u64 (lI v)], .agg #[.int .u64 (hI u), .int .u64 (lI u)], undef, .pointer (some ⟨w.heap.size, 0, none⟩), .pointer (some ⟨w.heap.size + 1, 0, none⟩), .bool false, .int .i64 (F), .pointer (some ⟨A, 0, none⟩), .pointer (some ⟨N, 0, none⟩), undef, undef, undef, undef, undef, undef, undef, undef, .bool true, .bool false, .bool (six), .int .i64 (F), .agg #[.int .u64 (hI v), .int .u64 (lI v)], .int .i64 (F), .agg #[.int .u64 (hI mk), .int .u64 (lI mk)], .agg #[.int .u64 (hI a), .int .u64 (lI a)], .agg #[.int .u64 (hI u), .int .u64 (lI u)], .int .i64 (F), .agg #[.int .u64 (hI mk), .int .u64 (lI mk)], .agg #[.int .u64 (hI b), .int .u64 (lI b)], undef, undef, undef, undef, undef, undef, undef, undef, undef, undef, undef, undef, undef, undef, undef, undef, undef, undef, undef, undef, undef, undef, undef, undef, undef, undef, undef, undef, undef, undef, undef, undef, undef, undef, undef, undef, undef, undef, undef, undef, undef, undef, undef, undef, undef, undef, undef, undef, undef, undef, undef, undef, undef, undef, undef, undef, undef, undef, undef, undef, undef, undef, undef, undef, undef, undef, undef, undef, undef, undef, undef, undef, undef, undef, undef, undef, undef, undef, undef, undef, undef, undef, undef, undef, undef, undef, undef, undef, undef, undef, undef, undef, undef, undef, undef, undef, undef, undef, undef, undef, undef, undef, undef, undef, undef, undef, undef, undef, undef], defers := [] }) (by kernel_rfl) ?hA5 ?hal5 ?hC15 hE3.drew ?walk5 ?fin5
    case hA5 => exact alA (alOk (qpOk 5 4 (by decide) (fun N => by kernel_rfl) (by kernel_rfl) (by kernel_rfl) (by kernel_rfl) (by kernel_rfl)) (by decide) rfl rfl (by kernel_rfl)) 9 rfl (fun N => rfl)
    case hal5 => intro W a _; go_simp
    case hC15 => intro W h; exact ⟨h.below (bl1 W _), at_zero0 W, h.2.2.2.2.2⟩
    case walk5 =>
      intro N X hX
      have hXD : ∀ W, X W → E3 w v u A a W := by
        rcases hX with rfl | rfl
        · exact fun W h => h
        · exact fun W h => h.1
      have hXb : ∀ W W', X W → Below W.heap.size W W' → X W' := by
        rcases hX with rfl | rfl
        · exact fun W W' h hb => h.below hb
        · exact fun W W' h hb => ⟨h.1.below hb, h.2.1.below hb, h.2.2⟩
      clear hX hE3 hT
      dsimp only [rep, List.take, List.modify, List.modifyTailIdx, List.modifyTailIdx.go, List.modifyHead]
      refine q_run (v := .agg #[.int .u64 (hI u), .int .u64 (lI u)]) (by rfl) ?_ ?_
      · (intro w1 hC; obtain ⟨⟨⟨a0, a1, -, -, -⟩, ⟨b0, b1, -, -, -⟩, -⟩, -⟩ := hXD w1 hC; go_simp; first | done | (simp; done) | (simp [*]; done) | omega | (simp; omega) | (rw [IntKind.wrap_i64]; omega) | (intro hx; omega) | rfl)
      simp only [Act.put, List.setIfInBounds_toArray, List.set_cons_zero, List.set_cons_succ]
      refine q_run (v := .int .i64 (F)) (by rfl) ?_ ?_
      · (intro w1 hC; obtain ⟨⟨⟨a0, a1, -, -, -⟩, ⟨b0, b1, -, -, -⟩, -⟩, -⟩ := hXD w1 hC; go_simp; first | done | (simp; done) | (simp [*]; done) | omega | (simp; omega) | (rw [IntKind.wrap_i64]; omega) | (intro hx; omega) | rfl)
      simp only [Act.put, List.setIfInBounds_toArray, List.set_cons_zero, List.set_cons_succ]
      refine q_call (v := .agg #[.int .u64 (hI mk), .int .u64 (lI mk)]) (f := 21) (args := #[.int .i64 (F)]) (by rfl) ?_ ?_ ?_
      · (intro w1 hC; clear hC; go_simp)
      · exact fun w1 hC => (KM w1).mono fun e w' ⟨he, hb⟩ => ⟨he, hXb w1 _ hC hb⟩
      simp only [Act.put, List.setIfInBounds_toArray, List.set_cons_zero, List.set_cons_succ]
      refine q_call (v := .agg #[.int .u64 (hI b), .int .u64 (lI b)]) (f := 20) (args := #[.agg #[.int .u64 (hI u), .int .u64 (lI u)], .agg #[.int .u64 (hI mk), .int .u64 (lI mk)]]) (by rfl) ?_ ?_ ?_
      · (intro w1 hC; clear hC; go_simp)
      · exact fun w1 hC => (KB w1).mono fun e w' ⟨he, hb⟩ => ⟨he, hXb w1 _ hC hb⟩
      simp only [Act.put, List.setIfInBounds_toArray, List.set_cons_zero, List.set_cons_succ]
      refine q_run (v := .pointer (some ⟨N, 0, none⟩)) (by rfl) ?_ ?_
      · (intro w1 hC; obtain ⟨⟨⟨a0, a1, -, -, -⟩, ⟨b0, b1, -, -, -⟩, -⟩, -⟩ := hXD w1 hC; go_simp; first | done | (simp; done) | (simp [*]; done) | omega | (simp; omega) | (rw [IntKind.wrap_i64]; omega) | (intro hx; omega) | rfl)
      simp only [Act.put, List.setIfInBounds_toArray, List.set_cons_zero, List.set_cons_succ]
      exact wpQuiet_nil rfl
    case fin5 =>
      intro B W hC
      obtain ⟨⟨hE, hA⟩, hZ, hBl⟩ := hC
      have kB := bset2 hE.2.2 (show w.heap.size ≤ B by omega) (.int .u64 (hI b)) (.int .u64 (lI b))
      have nAB : ¬ A = B := by omega
      have nBA : ¬ B = A := by omega
      have hA' := hA.other (.int .u64 (hI b)) (.int .u64 (lI b)) nAB
      have hB' := hZ.set b
      obtain ⟨z0, z1, z2, z3, z4⟩ := id hZ
      obtain ⟨x0, x1, -, -, -⟩ := id hA
      have KC := fun w => rcmp_any a b w
      have hcmp := cmp_le a b
      have LA : w.heap.size < A := by omega
      have LB : w.heap.size < B := by omega
      clear hE hZ hE3 KB KM hA KA hBl hAl
      revert KC hcmp
      generalize cmpZ a b = c
      intro KC hcmp
      dsimp only [List.drop]
      go_wp2_with fail
      refine (KC _).mono ?_
      rintro e W6 ⟨rfl, hb⟩
      replace hA' := hA'.below hb
      replace hB' := hB'.below hb
      replace kB := keepb hb kB
      clear hb KC z0 z1 z2 z3 z4 x0 x1
      obtain ⟨x0, x1, x2, x3, x4⟩ := id hA'
      obtain ⟨y0, y1, y2, y3, y4⟩ := id hB'
      by_cases hc : 0 < c
      · have hle : b.toNat ≤ a.toNat := by have := hcmp; omega
        have hA8 := (hA'.set b).other (.int .u64 (hI a)) (.int .u64 (lI a)) nAB
        have hB8 := (hB'.other (.int .u64 (hI b)) (.int .u64 (lI b)) nBA).set a
        have kB8 := bset2 (bset2 kB (show w.heap.size ≤ A from Nat.le_of_lt LA) (.int .u64 (hI b)) (.int .u64 (lI b))) (show w.heap.size ≤ B from Nat.le_of_lt LB) (.int .u64 (hI a)) (.int .u64 (lI a))
        clear hcmp
        have hR : Rng F b a := ⟨right_of F b ff cb, right_of F a ff ca, hle⟩
        have he : covE F b a = 0 := by unfold covE; rw [if_pos hR.1, if_pos hR.2.1, if_neg (by rw [cmp_lt0]; omega)]
        have hT0 : covT F b a = covL F a (a.toNat - b.toNat + 1) b := by unfold covT; rw [if_pos he]
        have hlen := cov_len F b a (a.toNat - b.toNat + 1) hR (by omega)
        obtain ⟨g1, g2, g3, g4, g5⟩ := cov_good F a (a.toNat - b.toNat + 1) b hR (by omega) _ hT0
        rw [← hT0] at hlen
        have KP := fun w h => cover_any F b a w h
        rw [he] at KP
        clear he hT0 hR
        generalize covT F b a = T at *
        obtain ⟨q, HQ⟩ : ∃ q, Hid (T.length = q + 1) := ⟨T.length - 1, by show _ = _; omega⟩
        have HLen : Hid (((T.length : Nat) : Int) ≤ 2 * F - 2) := hlen
        clear hlen
        have G1 : Hid (∀ (h : 0 < T.length), T[0].1 = b) := g2
        have G2 : Hid (∀ i (h : i < T.length), Rt F T[i].1 T[i].2) := g3
        have G3 : Hid (∀ i (h : i + 1 < T.length), Lnk F T[i] T[i + 1]) := g4
        have G4 : Hid (∀ i (h : i < T.length), i + 1 = T.length → lastW F T[i].1 T[i].2 = a) := g5
        clear g1 g2 g3 g4 g5
        go_wp2_with fail
        refine (KP _ (hT.keep kB8)).mono ?_
        rintro e W8 ⟨⟨vv, rfl, hown⟩, hb⟩
        replace hA8 := hA8.below hb
        replace hB8 := hB8.below hb
        replace kB8 := keepb hb kB8
        obtain ⟨g, cap, rfl, -, -⟩ := hown.form (by have := HQ.out; omega)
        have hrow : Hid (∀ j (hj : j < T.length), W8.cell? ⟨g, j * 3, none⟩ = some (.int .u64 (hI T[j].1)) ∧ W8.cell? ⟨g, j * 3 + 1, none⟩ = some (.int .u64 (lI T[j].1)) ∧ W8.cell? ⟨g, j * 3 + 2, none⟩ = some (.int .i64 T[j].2)) := fun j hj => row_cells hown rfl j hj
        clear hown KP hb
        rw [HQ.out]
        obtain ⟨r0, r1, r2⟩ := hrow.out 0 (by have := HQ.out; omega)
        rw [G1.out (by have := HQ.out; omega)] at r0 r1
        obtain ⟨t0, t1, t2⟩ := hrow.out q (by have := HQ.out; omega)
        have hqT : q < T.length := by have := HQ.out; omega
        have h0T : 0 < T.length := by have := HQ.out; omega
        have KL := fun w => rplast_any F T[q].1 T[q].2 w
        rw [last_eq F _ _ (G2.out q (by have := HQ.out; omega)).1 (G2.out q (by have := HQ.out; omega)).2.1, G4.out q (by have := HQ.out; omega) HQ.out.symm] at KL
        generalize T[q].1 = lp at t0 t1 KL
        generalize T[q].2 = ln at t2 KL
        generalize T[0].2 = n0 at r2
        clear hqT h0T
        have e1 := fun w => eqW_run b b w
        have e2 := fun w => eqW_run a a w
        simp only [beq_self_eq_true] at e1 e2
        have q0 : ((q : Int) + 1 == 0) = false := by simp; omega
        have m1 : IntKind.i64.wrap (2 * F) = 2 * F := by rw [IntKind.wrap_i64]; omega
        have m2 : IntKind.i64.wrap (2 * F - 2) = 2 * F - 2 := by rw [IntKind.wrap_i64]; omega
        have m3 : IntKind.i64.wrap ((q : Int) + 1 - 1) = (q : Int) := by rw [IntKind.wrap_i64]; have := HQ.out; have := HLen.out; omega
        have m5 : IntKind.i64.wrap (q : Int) = (q : Int) := by rw [IntKind.wrap_i64]; have := HQ.out; have := HLen.out; omega
        have i1 : (0 : Int) ≤ (q : Int) := by omega
        have i2 : (q : Int) < (q : Int) + 1 := by omega
        have i3 : q < q + 1 := by omega
        have i4 : ¬ (q : Int) < 0 := by omega
        have m4 : decide (2 * F - 2 < (q : Int) + 1) = false := by simp; have := HQ.out; have := HLen.out; omega
        obtain ⟨x0, x1, -, -, -⟩ := id hA8
        obtain ⟨y0, y1, -, -, -⟩ := id hB8
        go_wp2_with fail
        have hEB : EB w A B g q b a lp ln n0 W8.drew := ⟨hA8, hB8, ⟨r0, r1, r2⟩, ⟨t0, t1, t2⟩, kB8.drew⟩
        have hrow : Hid (∀ j (hj : j < T.length), W8.drew.cell? ⟨g, j * 3, none⟩ = some (.int .u64 (hI T[j].1)) ∧ W8.drew.cell? ⟨g, j * 3 + 1, none⟩ = some (.int .u64 (lI T[j].1)) ∧ W8.drew.cell? ⟨g, j * 3 + 2, none⟩ = some (.int .i64 T[j].2)) := hrow.out
        go_region_held3 (fun w' => w'.cell? ⟨A, 0, none⟩ = some (.int .u64 (hI b)) ∧ w'.cell? ⟨A, 1, none⟩ = some (.int .u64 (lI b)) ∧ w'.cell? ⟨B, 0, none⟩ = some (.int .u64 (hI a)) ∧ w'.cell? ⟨B, 1, none⟩ = some (.int .u64 (lI a)) ∧ w'.cell? ⟨g, 0, none⟩ = some (.int .u64 (hI b)) ∧ w'.cell? ⟨g, 1, none⟩ = some (.int .u64 (lI b)) ∧ w'.cell? ⟨g, q * 3, none⟩ = some (.int .u64 (hI lp)) ∧ w'.cell? ⟨g, q * 3 + 1, none⟩ = some (.int .u64 (lI lp)) ∧ w'.cell? ⟨g, q * 3 + 2, none⟩ = some (.int .i64 ln) ∧ Hid (EB w A B g q b a lp ln n0 w'))
          (first
            | exact hEB.all
            | (obtain ⟨-, -, -, -, -, -, -, -, -, k9⟩ := ‹_ ∧ _ ∧ _ ∧ _ ∧ _ ∧ _ ∧ _ ∧ _ ∧ _ ∧ _›; exact (k9.out.below hb9).all))
          (first | (go_at_call 24; refine (KL _).mono ?_; rintro e w9 ⟨rfl, hb9⟩; have hrow := row_keep hb9 hrow))
        obtain ⟨-, -, -, -, -, -, -, -, -, k9⟩ := ‹_ ∧ _ ∧ _ ∧ _ ∧ _ ∧ _ ∧ _ ∧ _ ∧ _ ∧ _›
        have kB9 := k9.out.2.2.2.2
        clear k9 hEB KL e1 e2 q0 m1 m2 m3 m4 m5 i1 i2 i3 i4 x0 x1 y0 y1 r0 r1 r2 t0 t1 t2 hA8 hB8 kB8 nAB nBA LA LB
        have KU := fun w => put0K (F - 1) w (by omega) (by omega)
        rw [put_step F ff] at KU
        have hfw : IntKind.i64.wrap (F - 1) = F - 1 := by rw [IntKind.wrap_i64]; omega
        go_wp2_with fail
        refine (KU _).mono ?_
        rintro e w10 ⟨rfl, hb⟩
        replace kB9 := keepb hb kB9
        have hrow := row_keep hb hrow
        have hrow := row_keep (bl1 w10 (.cells #[.int .u64 (hI (stepW F)), .int .u64 (lI (stepW F))] 45)) hrow
        have hS := at_new w10 w10.heap.size (stepW F) 45 rfl
        replace kB9 := kB9.alloc kB9.size (.cells #[.int .u64 (hI (stepW F)), .int .u64 (lI (stepW F))] 45)
        clear hb KU hfw
        go_wp2_with fail
        go_loopw [13] (fun i wr => ∃ k : Nat, k ≤ q + 1 ∧ i = .int .i64 k ∧ EL w w10.heap.size g T (stepW F) wr) (fun i _ => q + 1 - (intOf i).toNat)
        case atStart => exact ⟨0, by omega, rfl, hS, hrow.out, kB9⟩
        case round =>
          clear hS hrow kB9
          obtain ⟨k, hk, rfl, hEL⟩ := hrel
          by_cases hlt : (k : Int) < (q : Int) + 1
          · have hkT : k < T.length := by have := HQ.out; omega
            obtain ⟨p0, p1, p2⟩ := hEL.2.1 k hkT
            have KCk := fun w => rcheck_any F T[k].1 T[k].2 w
            rw [check_rt F _ _ ff (G2.out k hkT)] at KCk
            have hn0 := (G2.out k hkT).1
            have hn1 := (G2.out k hkT).2.1
            go_wp2_with fail
            refine (KCk _).mono ?_
            rintro e w11 ⟨rfl, hb⟩
            replace hEL := hEL.below hb
            clear hb KCk p0 p1 p2
            cases k with
            | zero =>
              go_wp2
              go_roundw
              case rel => exact ⟨1, by omega, by go_num, hEL⟩
              case measure => simp [intOf]
            | succ j =>
              have HJ : Hid (j + 1 < q + 1) := by show _ < _; have := HQ.out; omega
              have HJ2 : Hid (j ≤ 300) := by show _ ≤ _; have := HQ.out; have := HLen.out; omega
              have hjT : j < T.length := by omega
              have hj0 : (((j + 1 : Nat) : Int) == 0) = false := by simp; omega
              have hjw : IntKind.i64.wrap ((j : Int) + 1 - 1) = (j : Int) := by rw [IntKind.wrap_i64]; have := HQ.out; have := HLen.out; omega
              have hjw2 : IntKind.i64.wrap (j : Int) = (j : Int) := by rw [IntKind.wrap_i64]; have := HQ.out; have := HLen.out; omega
              have hl := G3.out j (by omega)
              obtain ⟨s0, s1, s2⟩ := G2.out j hjT
              have KL := fun w => rplast_any F T[j].1 T[j].2 w
              rw [last_eq F _ _ s0 s1] at KL
              have KAd := fun w => radd_any (lastW F T[j].1 T[j].2) (stepW F) w
              obtain ⟨o1, o2, o3⟩ := lnk_add F _ _ hl
              rw [o1, o2] at KAd
              have KSb := fun w => rsib_any T[j].1 T[j].2 w s0 (by omega)
              rw [sib_eq F _ _ ⟨s0, s1, s2⟩ f1] at KSb
              obtain ⟨c0, c1, c2⟩ := hEL.2.1 (j + 1) hkT
              obtain ⟨p0, p1, p2⟩ := hEL.2.1 j hjT
              have hES : ES w w10.heap.size g T (stepW F) j T[j].1 T[j].2 T[j + 1].1 T[j + 1].2 w11 := ⟨hEL, ⟨p0, p1, p2⟩, ⟨c0, c1, c2⟩⟩
              generalize lastW F T[j].1 T[j].2 = la at KL KAd
              generalize sibV T[j].1 T[j].2 = sv at KSb o3
              generalize sibN T[j].2 = sn at KSb o3
              generalize T[j + 1].1 = cx at *
              generalize T[j + 1].2 = cn at *
              generalize T[j].1 = px at *
              generalize T[j].2 = pn at *
              have e1 := fun w => eqW_run cx cx w
              simp only [beq_self_eq_true] at e1
              have e2 := fun w => eqP_run sv sn cx cn w
              have O3 : Hid (0 < pn → ((sv == cx) && (sn == cn)) = false) := o3
              clear hl s0 s1 s2 o1 o2 o3 p0 p1 p2 c0 c1 c2 hEL
              go_wp2_with fail
              refine two_region 14 12 13 (alOk (qpOk 14 12 (by decide) (fun N => by kernel_rfl) (by kernel_rfl) (by kernel_rfl) (by kernel_rfl) (by kernel_rfl)) (by decide) rfl rfl (by kernel_rfl)) (alOk (qpOk 14 13 (by decide) (fun N => by kernel_rfl) (by kernel_rfl) (by kernel_rfl) (by kernel_rfl) (by kernel_rfl)) (by decide) rfl rfl (by kernel_rfl)) (by decide) (by kernel_rfl) rfl (D := ES w w10.heap.size g T (stepW F) j px pn cx cn) (C1 := fun N W => ES w w10.heap.size g T (stepW F) j px pn cx cn W ∧ At W N 0#128 ∧ w.heap.size ≤ N ∧ g < N ∧ w10.heap.size < N) (C2 := fun N W => ES w w10.heap.size g T (stepW F) j px pn cx cn W ∧ At W N cx ∧ w.heap.size ≤ N ∧ g < N ∧ w10.heap.size < N) (obj := .cells #[.int .u64 0, .int .u64 0] 45) [some 98, some 99, some 100, some 101, some 102, some 103, some 104, some 105, some 106, some 97, some 107, some 108, some 14, none] (fun N => [.int .i64 (F), .slice (some ⟨g, 0, none⟩) (q + 1) cap, .int .i64 ((j : Int) + 1), .int .i64 ((j : Int)), .pointer (some ⟨g, j * 3, none⟩), .agg #[.int .u64 (hI px), .int .u64 (lI px), .int .i64 (pn)], .agg #[.int .u64 (hI la), .int .u64 (lI la)], .agg #[.int .u64 (hI (stepW F)), .int .u64 (lI (stepW F))], .tuple #[.agg #[.int .u64 (hI cx), .int .u64 (lI cx)], .bool false], .tuple #[.agg #[.int .u64 (hI cx), .int .u64 (lI cx)], .bool false], .agg #[.int .u64 (hI cx), .int .u64 (lI cx)], .bool false, .pointer (some ⟨N, 0, none⟩), undef]) 14 [14, 107] (by kernel_rfl) (fun N => by kernel_rfl) rfl ?hA18 ?hAd18 (by kernel_rfl) ?hal18 ?hC18 ?hst18 hES.drew ?walk18 ?fin18
              case hA18 => intro N; simp only [putAll, Act.put, List.setIfInBounds_toArray, List.set_cons_zero, List.set_cons_succ]; rfl
              case hAd18 => intro N; simp only [putAll, Act.put, List.setIfInBounds_toArray, List.set_cons_zero, List.set_cons_succ]; rfl
              case hal18 => intro W a _; go_simp
              case hC18 => intro W h; exact ⟨h.below (bl1 W _), at_zero0 W, h.1.2.2.size, cell_in h.2.1.1, h.1.1.2.2.2.2⟩
              case hst18 =>
                intro N W a' hC hr K Q' hK
                have e14 : a'.tmps[14]? = some (.pointer (some ⟨N, 0, none⟩)) := (hr 14 (by simp)).trans (by simp only [putAll, Act.put, List.setIfInBounds_toArray, List.set_cons_zero, List.set_cons_succ]; rfl)
                have e107 : a'.tmps[107]? = some (.agg #[.int .u64 (hI cx), .int .u64 (lI cx)]) := (hr 107 (by simp)).trans (by simp only [putAll, Act.put, List.setIfInBounds_toArray, List.set_cons_zero, List.set_cons_succ]; rfl)
                obtain ⟨hE, hZ, hN1, hN2, hN3⟩ := hC
                obtain ⟨z0, z1, z2, z3, z4⟩ := id hZ
                have hK' := hK _ ⟨hE.set (N := N) hN1 (by omega) (by omega) (.int .u64 (hI cx)) (.int .u64 (lI cx)), hZ.set cx, hN1, hN2, hN3⟩
                unfold Oper.wp
                simp [execOp, e14, e107, go_sem, z0, z1, z2, z3, Oper.upon]
                exact hK'
              case walk18 =>
                intro N X hX
                have hXD : ∀ W, X W → ES w w10.heap.size g T (stepW F) j px pn cx cn W := by
                  rcases hX with rfl | rfl | rfl
                  · exact fun W h => h
                  · exact fun W h => h.1
                  · exact fun W h => h.1
                have hXb : ∀ W W', X W → Below W.heap.size W W' → X W' := by
                  rcases hX with rfl | rfl | rfl
                  · exact fun W W' h hb => h.below hb
                  · exact fun W W' h hb => ⟨h.1.below hb, h.2.1.below hb, h.2.2⟩
                  · exact fun W W' h hb => ⟨h.1.below hb, h.2.1.below hb, h.2.2⟩
                clear hX hES G1 G2 G3 G4
                dsimp only [rep, List.take, List.modify, List.modifyTailIdx, List.modifyTailIdx.go, List.modifyHead]
                refine q_run (v := .int .i64 (F)) (by rfl) ?_ ?_
                · (intro w1 hC; obtain ⟨⟨⟨d0, d1, -, -, -⟩, -, -⟩, ⟨p0, p1, p2⟩, -⟩ := hXD w1 hC; go_simp; first | done | (simp; done) | (simp [*]; done) | omega | (simp; omega) | (rw [IntKind.wrap_i64]; omega) | (intro hx; omega) | rfl)
                simp only [Act.put, List.setIfInBounds_toArray, List.set_cons_zero, List.set_cons_succ]
                refine q_run (v := .slice (some ⟨g, 0, none⟩) (q + 1) cap) (by rfl) ?_ ?_
                · (intro w1 hC; obtain ⟨⟨⟨d0, d1, -, -, -⟩, -, -⟩, ⟨p0, p1, p2⟩, -⟩ := hXD w1 hC; go_simp; first | done | (simp; done) | (simp [*]; done) | omega | (simp; omega) | (rw [IntKind.wrap_i64]; omega) | (intro hx; omega) | rfl)
                simp only [Act.put, List.setIfInBounds_toArray, List.set_cons_zero, List.set_cons_succ]
                refine q_run (v := .int .i64 ((j : Int) + 1)) (by rfl) ?_ ?_
                · (intro w1 hC; obtain ⟨⟨⟨d0, d1, -, -, -⟩, -, -⟩, ⟨p0, p1, p2⟩, -⟩ := hXD w1 hC; go_simp; first | done | (simp; done) | (simp [*]; done) | omega | (simp; omega) | (rw [IntKind.wrap_i64]; omega) | (intro hx; omega) | rfl)
                simp only [Act.put, List.setIfInBounds_toArray, List.set_cons_zero, List.set_cons_succ]
                refine q_run (v := .int .i64 ((j : Int))) (by rfl) ?_ ?_
                · (intro w1 hC; obtain ⟨⟨⟨d0, d1, -, -, -⟩, -, -⟩, ⟨p0, p1, p2⟩, -⟩ := hXD w1 hC; go_simp)
                simp only [Act.put, List.setIfInBounds_toArray, List.set_cons_zero, List.set_cons_succ]
                refine q_run (v := .pointer (some ⟨g, j * 3, none⟩)) (by rfl) ?_ ?_
                · (intro w1 hC; obtain ⟨⟨⟨d0, d1, -, -, -⟩, -, -⟩, ⟨p0, p1, p2⟩, -⟩ := hXD w1 hC; go_simp; first | done | (simp; omega) | omega)
                simp only [Act.put, List.setIfInBounds_toArray, List.set_cons_zero, List.set_cons_succ]
                refine q_run (v := .agg #[.int .u64 (hI px), .int .u64 (lI px), .int .i64 (pn)]) (by rfl) ?_ ?_
                · (intro w1 hC; obtain ⟨⟨⟨d0, d1, -, -, -⟩, -, -⟩, ⟨p0, p1, p2⟩, -⟩ := hXD w1 hC; go_simp; first | done | (simp; done) | (simp [*]; done) | omega | (simp; omega) | (rw [IntKind.wrap_i64]; omega) | (intro hx; omega) | rfl)
                simp only [Act.put, List.setIfInBounds_toArray, List.set_cons_zero, List.set_cons_succ]
                refine q_call (v := .agg #[.int .u64 (hI la), .int .u64 (lI la)]) (f := 24) (args := #[.int .i64 (F), .agg #[.int .u64 (hI px), .int .u64 (lI px), .int .i64 (pn)]]) (by rfl) ?_ ?_ ?_
                · (intro w1 hC; clear hC; go_simp)
                · exact fun w1 hC => (KL w1).mono fun e w' ⟨he, hb⟩ => ⟨he, hXb w1 _ hC hb⟩
                simp only [Act.put, List.setIfInBounds_toArray, List.set_cons_zero, List.set_cons_succ]
                refine q_run (v := .agg #[.int .u64 (hI (stepW F)), .int .u64 (lI (stepW F))]) (by rfl) ?_ ?_
                · (intro w1 hC; obtain ⟨⟨⟨d0, d1, -, -, -⟩, -, -⟩, ⟨p0, p1, p2⟩, -⟩ := hXD w1 hC; go_simp; first | done | (simp; done) | (simp [*]; done) | omega | (simp; omega) | (rw [IntKind.wrap_i64]; omega) | (intro hx; omega) | rfl)
                simp only [Act.put, List.setIfInBounds_toArray, List.set_cons_zero, List.set_cons_succ]
                refine q_call (v := .tuple #[.agg #[.int .u64 (hI cx), .int .u64 (lI cx)], .bool false]) (f := 27) (args := #[.agg #[.int .u64 (hI la), .int .u64 (lI la)], .agg #[.int .u64 (hI (stepW F)), .int .u64 (lI (stepW F))]]) (by rfl) ?_ ?_ ?_
                · (intro w1 hC; clear hC; go_simp)
                · exact fun w1 hC => (KAd w1).mono fun e w' ⟨he, hb⟩ => ⟨he, hXb w1 _ hC hb⟩
                simp only [Act.put, List.setIfInBounds_toArray, List.set_cons_zero, List.set_cons_succ]
                refine q_run (v := .tuple #[.agg #[.int .u64 (hI cx), .int .u64 (lI cx)], .bool false]) (by rfl) ?_ ?_
                · (intro w1 hC; obtain ⟨⟨⟨d0, d1, -, -, -⟩, -, -⟩, ⟨p0, p1, p2⟩, -⟩ := hXD w1 hC; go_simp; first | done | (simp; done) | (simp [*]; done) | omega | (simp; omega) | (rw [IntKind.wrap_i64]; omega) | (intro hx; omega) | rfl)
                simp only [Act.put, List.setIfInBounds_toArray, List.set_cons_zero, List.set_cons_succ]
                refine q_run (v := .agg #[.int .u64 (hI cx), .int .u64 (lI cx)]) (by rfl) ?_ ?_
                · (intro w1 hC; obtain ⟨⟨⟨d0, d1, -, -, -⟩, -, -⟩, ⟨p0, p1, p2⟩, -⟩ := hXD w1 hC; go_simp; first | done | (simp; done) | (simp [*]; done) | omega | (simp; omega) | (rw [IntKind.wrap_i64]; omega) | (intro hx; omega) | rfl)
                simp only [Act.put, List.setIfInBounds_toArray, List.set_cons_zero, List.set_cons_succ]
                refine q_run (v := .bool false) (by rfl) ?_ ?_
                · (intro w1 hC; obtain ⟨⟨⟨d0, d1, -, -, -⟩, -, -⟩, ⟨p0, p1, p2⟩, -⟩ := hXD w1 hC; go_simp; first | done | (simp; done) | (simp [*]; done) | omega | (simp; omega) | (rw [IntKind.wrap_i64]; omega) | (intro hx; omega) | rfl)
                simp only [Act.put, List.setIfInBounds_toArray, List.set_cons_zero, List.set_cons_succ]
                refine q_run (v := .pointer (some ⟨N, 0, none⟩)) (by rfl) ?_ ?_
                · (intro w1 hC; obtain ⟨⟨⟨d0, d1, -, -, -⟩, -, -⟩, ⟨p0, p1, p2⟩, -⟩ := hXD w1 hC; go_simp; first | done | (simp; done) | (simp [*]; done) | omega | (simp; omega) | (rw [IntKind.wrap_i64]; omega) | (intro hx; omega) | rfl)
                simp only [Act.put, List.setIfInBounds_toArray, List.set_cons_zero, List.set_cons_succ]
                refine q_run (v := undef) (by rfl) ?_ ?_
                · (intro w1 hC; go_simp)
                refine wpQuiet_nil ?_
                simp only [putAll, Act.put, List.setIfInBounds_toArray, List.set_cons_zero, List.set_cons_succ]
              case fin18 =>
                intro N W hC
                obtain ⟨hE2, hX, hN1, hN2, hN3⟩ := hC
                simp only [putAll, Act.put, List.setIfInBounds_toArray, List.set_cons_zero, List.set_cons_succ]
                dsimp only [List.drop]
                obtain ⟨-, ⟨p0, p1, p2⟩, -⟩ := id hE2
                clear hES KL KAd
                go_wp2_with fail
                refine (KSb _).mono ?_
                rintro e w12 ⟨rfl, hb⟩
                replace hE2 := hE2.below hb
                replace hX := hX.below hb
                replace hE2 := hE2.below (bl1 w12 (.cells #[.int .u64 (hI sv), .int .u64 (lI sv), .int .i64 sn] 54))
                replace hX := hX.below (bl1 w12 (.cells #[.int .u64 (hI sv), .int .u64 (lI sv), .int .i64 sn] 54))
                have hS2 := atp_new w12 w12.heap.size sv sn 54 rfl
                clear hb KSb p0 p1 p2
                obtain ⟨x0, x1, -, -, -⟩ := id hX
                obtain ⟨y0, y1, y2, -, -, -⟩ := id hS2
                obtain ⟨-, -, ⟨c0, c1, c2⟩⟩ := id hE2
                have hj3 : IntKind.i64.wrap ((j : Int) + 1 + 1) = (j : Int) + 1 + 1 := by rw [IntKind.wrap_i64]; have := HJ2.out; omega
                clear hjw hjw2
                cases hp : decide (0 < pn)
                · go_wp2_with fail
                  go_quiet (fail)
                  go_wp2
                  go_roundw
                  case rel => exact ⟨j + 1 + 1, by have := HJ.out; omega, by simp, hE2.1.1, hE2.1.2.1, below_drewN hE2.1.2.2 _⟩
                  case measure => simp [intOf]; have := HJ.out; have := HJ2.out; omega
                · have o3 := O3.out (by simpa using hp)
                  rw [o3] at e2
                  go_wp2_with fail
                  go_quiet (fail)
                  go_wp2
                  go_roundw
                  case rel => exact ⟨j + 1 + 1, by have := HJ.out; omega, by simp, hE2.1.1, hE2.1.2.1, below_drewN hE2.1.2.2 _⟩
                  case measure => simp [intOf]; have := HJ.out; have := HJ2.out; omega
          · have hd : decide ((k : Int) < (q : Int) + 1) = false := by simpa using hlt
            go_wp2
            go_ret
            exact ⟨rfl, hEL.2.2⟩
      · have hle : a.toNat ≤ b.toNat := by have := hcmp; omega
        have hA8 := hA'
        have hB8 := hB'
        have kB8 := kB
        clear hcmp
        have hR : Rng F a b := ⟨right_of F a ff ca, right_of F b ff cb, hle⟩
        have he : covE F a b = 0 := by unfold covE; rw [if_pos hR.1, if_pos hR.2.1, if_neg (by rw [cmp_lt0]; omega)]
        have hT0 : covT F a b = covL F b (b.toNat - a.toNat + 1) a := by unfold covT; rw [if_pos he]
        have hlen := cov_len F a b (b.toNat - a.toNat + 1) hR (by omega)
        obtain ⟨g1, g2, g3, g4, g5⟩ := cov_good F b (b.toNat - a.toNat + 1) a hR (by omega) _ hT0
        rw [← hT0] at hlen
        have KP := fun w h => cover_any F a b w h
        rw [he] at KP
        clear he hT0 hR
        generalize covT F a b = T at *
        obtain ⟨q, HQ⟩ : ∃ q, Hid (T.length = q + 1) := ⟨T.length - 1, by show _ = _; omega⟩
        have HLen : Hid (((T.length : Nat) : Int) ≤ 2 * F - 2) := hlen
        clear hlen
        have G1 : Hid (∀ (h : 0 < T.length), T[0].1 = a) := g2
        have G2 : Hid (∀ i (h : i < T.length), Rt F T[i].1 T[i].2) := g3
        have G3 : Hid (∀ i (h : i + 1 < T.length), Lnk F T[i] T[i + 1]) := g4
        have G4 : Hid (∀ i (h : i < T.length), i + 1 = T.length → lastW F T[i].1 T[i].2 = b) := g5
        clear g1 g2 g3 g4 g5
        go_wp2_with fail
        refine (KP _ (hT.keep kB8)).mono ?_
        rintro e W8 ⟨⟨vv, rfl, hown⟩, hb⟩
        replace hA8 := hA8.below hb
        replace hB8 := hB8.below hb
        replace kB8 := keepb hb kB8
        obtain ⟨g, cap, rfl, -, -⟩ := hown.form (by have := HQ.out; omega)
        have hrow : Hid (∀ j (hj : j < T.length), W8.cell? ⟨g, j * 3, none⟩ = some (.int .u64 (hI T[j].1)) ∧ W8.cell? ⟨g, j * 3 + 1, none⟩ = some (.int .u64 (lI T[j].1)) ∧ W8.cell? ⟨g, j * 3 + 2, none⟩ = some (.int .i64 T[j].2)) := fun j hj => row_cells hown rfl j hj
        clear hown KP hb
        rw [HQ.out]
        obtain ⟨r0, r1, r2⟩ := hrow.out 0 (by have := HQ.out; omega)
        rw [G1.out (by have := HQ.out; omega)] at r0 r1
        obtain ⟨t0, t1, t2⟩ := hrow.out q (by have := HQ.out; omega)
        have hqT : q < T.length := by have := HQ.out; omega
        have h0T : 0 < T.length := by have := HQ.out; omega
        have KL := fun w => rplast_any F T[q].1 T[q].2 w
        rw [last_eq F _ _ (G2.out q (by have := HQ.out; omega)).1 (G2.out q (by have := HQ.out; omega)).2.1, G4.out q (by have := HQ.out; omega) HQ.out.symm] at KL
        generalize T[q].1 = lp at t0 t1 KL
        generalize T[q].2 = ln at t2 KL
        generalize T[0].2 = n0 at r2
        clear hqT h0T
        have e1 := fun w => eqW_run a a w
        have e2 := fun w => eqW_run b b w
        simp only [beq_self_eq_true] at e1 e2
        have q0 : ((q : Int) + 1 == 0) = false := by simp; omega
        have m1 : IntKind.i64.wrap (2 * F) = 2 * F := by rw [IntKind.wrap_i64]; omega
        have m2 : IntKind.i64.wrap (2 * F - 2) = 2 * F - 2 := by rw [IntKind.wrap_i64]; omega
        have m3 : IntKind.i64.wrap ((q : Int) + 1 - 1) = (q : Int) := by rw [IntKind.wrap_i64]; have := HQ.out; have := HLen.out; omega
        have m5 : IntKind.i64.wrap (q : Int) = (q : Int) := by rw [IntKind.wrap_i64]; have := HQ.out; have := HLen.out; omega
        have i1 : (0 : Int) ≤ (q : Int) := by omega
        have i2 : (q : Int) < (q : Int) + 1 := by omega
        have i3 : q < q + 1 := by omega
        have i4 : ¬ (q : Int) < 0 := by omega
        have m4 : decide (2 * F - 2 < (q : Int) + 1) = false := by simp; have := HQ.out; have := HLen.out; omega
        obtain ⟨x0, x1, -, -, -⟩ := id hA8
        obtain ⟨y0, y1, -, -, -⟩ := id hB8
        go_wp2_with fail
        have hEB : EB w A B g q a b lp ln n0 W8.drew := ⟨hA8, hB8, ⟨r0, r1, r2⟩, ⟨t0, t1, t2⟩, kB8.drew⟩
        have hrow : Hid (∀ j (hj : j < T.length), W8.drew.cell? ⟨g, j * 3, none⟩ = some (.int .u64 (hI T[j].1)) ∧ W8.drew.cell? ⟨g, j * 3 + 1, none⟩ = some (.int .u64 (lI T[j].1)) ∧ W8.drew.cell? ⟨g, j * 3 + 2, none⟩ = some (.int .i64 T[j].2)) := hrow.out
        go_region_held3 (fun w' => w'.cell? ⟨A, 0, none⟩ = some (.int .u64 (hI a)) ∧ w'.cell? ⟨A, 1, none⟩ = some (.int .u64 (lI a)) ∧ w'.cell? ⟨B, 0, none⟩ = some (.int .u64 (hI b)) ∧ w'.cell? ⟨B, 1, none⟩ = some (.int .u64 (lI b)) ∧ w'.cell? ⟨g, 0, none⟩ = some (.int .u64 (hI a)) ∧ w'.cell? ⟨g, 1, none⟩ = some (.int .u64 (lI a)) ∧ w'.cell? ⟨g, q * 3, none⟩ = some (.int .u64 (hI lp)) ∧ w'.cell? ⟨g, q * 3 + 1, none⟩ = some (.int .u64 (lI lp)) ∧ w'.cell? ⟨g, q * 3 + 2, none⟩ = some (.int .i64 ln) ∧ Hid (EB w A B g q a b lp ln n0 w'))
          (first
            | exact hEB.all
            | (obtain ⟨-, -, -, -, -, -, -, -, -, k9⟩ := ‹_ ∧ _ ∧ _ ∧ _ ∧ _ ∧ _ ∧ _ ∧ _ ∧ _ ∧ _›; exact (k9.out.below hb9).all))
          (first | (go_at_call 24; refine (KL _).mono ?_; rintro e w9 ⟨rfl, hb9⟩; have hrow := row_keep hb9 hrow))
        obtain ⟨-, -, -, -, -, -, -, -, -, k9⟩ := ‹_ ∧ _ ∧ _ ∧ _ ∧ _ ∧ _ ∧ _ ∧ _ ∧ _ ∧ _›
        have kB9 := k9.out.2.2.2.2
        clear k9 hEB KL e1 e2 q0 m1 m2 m3 m4 m5 i1 i2 i3 i4 x0 x1 y0 y1 r0 r1 r2 t0 t1 t2 hA8 hB8 kB8 nAB nBA LA LB
        have KU := fun w => put0K (F - 1) w (by omega) (by omega)
        rw [put_step F ff] at KU
        have hfw : IntKind.i64.wrap (F - 1) = F - 1 := by rw [IntKind.wrap_i64]; omega
        go_wp2_with fail
        refine (KU _).mono ?_
        rintro e w10 ⟨rfl, hb⟩
        replace kB9 := keepb hb kB9
        have hrow := row_keep hb hrow
        have hrow := row_keep (bl1 w10 (.cells #[.int .u64 (hI (stepW F)), .int .u64 (lI (stepW F))] 45)) hrow
        have hS := at_new w10 w10.heap.size (stepW F) 45 rfl
        replace kB9 := kB9.alloc kB9.size (.cells #[.int .u64 (hI (stepW F)), .int .u64 (lI (stepW F))] 45)
        clear hb KU hfw
        go_wp2_with fail
        go_loopw [13] (fun i wr => ∃ k : Nat, k ≤ q + 1 ∧ i = .int .i64 k ∧ EL w w10.heap.size g T (stepW F) wr) (fun i _ => q + 1 - (intOf i).toNat)
        case atStart => exact ⟨0, by omega, rfl, hS, hrow.out, kB9⟩
        case round =>
          clear hS hrow kB9
          obtain ⟨k, hk, rfl, hEL⟩ := hrel
          by_cases hlt : (k : Int) < (q : Int) + 1
          · have hkT : k < T.length := by have := HQ.out; omega
            obtain ⟨p0, p1, p2⟩ := hEL.2.1 k hkT
            have KCk := fun w => rcheck_any F T[k].1 T[k].2 w
            rw [check_rt F _ _ ff (G2.out k hkT)] at KCk
            have hn0 := (G2.out k hkT).1
            have hn1 := (G2.out k hkT).2.1
            go_wp2_with fail
            refine (KCk _).mono ?_
            rintro e w11 ⟨rfl, hb⟩
            replace hEL := hEL.below hb
            clear hb KCk p0 p1 p2
            cases k with
            | zero =>
              go_wp2
              go_roundw
              case rel => exact ⟨1, by omega, by go_num, hEL⟩
              case measure => simp [intOf]
            | succ j =>
              have HJ : Hid (j + 1 < q + 1) := by show _ < _; have := HQ.out; omega
              have HJ2 : Hid (j ≤ 300) := by show _ ≤ _; have := HQ.out; have := HLen.out; omega
              have hjT : j < T.length := by omega
              have hj0 : (((j + 1 : Nat) : Int) == 0) = false := by simp; omega
              have hjw : IntKind.i64.wrap ((j : Int) + 1 - 1) = (j : Int) := by rw [IntKind.wrap_i64]; have := HQ.out; have := HLen.out; omega
              have hjw2 : IntKind.i64.wrap (j : Int) = (j : Int) := by rw [IntKind.wrap_i64]; have := HQ.out; have := HLen.out; omega
              have hl := G3.out j (by omega)
              obtain ⟨s0, s1, s2⟩ := G2.out j hjT
              have KL := fun w => rplast_any F T[j].1 T[j].2 w
              rw [last_eq F _ _ s0 s1] at KL
              have KAd := fun w => radd_any (lastW F T[j].1 T[j].2) (stepW F) w
              obtain ⟨o1, o2, o3⟩ := lnk_add F _ _ hl
              rw [o1, o2] at KAd
              have KSb := fun w => rsib_any T[j].1 T[j].2 w s0 (by omega)
              rw [sib_eq F _ _ ⟨s0, s1, s2⟩ f1] at KSb
              obtain ⟨c0, c1, c2⟩ := hEL.2.1 (j + 1) hkT
              obtain ⟨p0, p1, p2⟩ := hEL.2.1 j hjT
              have hES : ES w w10.heap.size g T (stepW F) j T[j].1 T[j].2 T[j + 1].1 T[j + 1].2 w11 := ⟨hEL, ⟨p0, p1, p2⟩, ⟨c0, c1, c2⟩⟩
              generalize lastW F T[j].1 T[j].2 = la at KL KAd
              generalize sibV T[j].1 T[j].2 = sv at KSb o3
              generalize sibN T[j].2 = sn at KSb o3
              generalize T[j + 1].1 = cx at *
              generalize T[j + 1].2 = cn at *
              generalize T[j].1 = px at *
              generalize T[j].2 = pn at *
              have e1 := fun w => eqW_run cx cx w
              simp only [beq_self_eq_true] at e1
              have e2 := fun w => eqP_run sv sn cx cn w
              have O3 : Hid (0 < pn → ((sv == cx) && (sn == cn)) = false) := o3
              clear hl s0 s1 s2 o1 o2 o3 p0 p1 p2 c0 c1 c2 hEL
              go_wp2_with fail
              refine two_region 14 12 13 (alOk (qpOk 14 12 (by decide) (fun N => by kernel_rfl) (by kernel_rfl) (by kernel_rfl) (by kernel_rfl) (by kernel_rfl)) (by decide) rfl rfl (by kernel_rfl)) (alOk (qpOk 14 13 (by decide) (fun N => by kernel_rfl) (by kernel_rfl) (by kernel_rfl) (by kernel_rfl) (by kernel_rfl)) (by decide) rfl rfl (by kernel_rfl)) (by decide) (by kernel_rfl) rfl (D := ES w w10.heap.size g T (stepW F) j px pn cx cn) (C1 := fun N W => ES w w10.heap.size g T (stepW F) j px pn cx cn W ∧ At W N 0#128 ∧ w.heap.size ≤ N ∧ g < N ∧ w10.heap.size < N) (C2 := fun N W => ES w w10.heap.size g T (stepW F) j px pn cx cn W ∧ At W N cx ∧ w.heap.size ≤ N ∧ g < N ∧ w10.heap.size < N) (obj := .cells #[.int .u64 0, .int .u64 0] 45) [some 98, some 99, some 100, some 101, some 102, some 103, some 104, some 105, some 106, some 97, some 107, some 108, some 14, none] (fun N => [.int .i64 (F), .slice (some ⟨g, 0, none⟩) (q + 1) cap, .int .i64 ((j : Int) + 1), .int .i64 ((j : Int)), .pointer (some ⟨g, j * 3, none⟩), .agg #[.int .u64 (hI px), .int .u64 (lI px), .int .i64 (pn)], .agg #[.int .u64 (hI la), .int .u64 (lI la)], .agg #[.int .u64 (hI (stepW F)), .int .u64 (lI (stepW F))], .tuple #[.agg #[.int .u64 (hI cx), .int .u64 (lI cx)], .bool false], .tuple #[.agg #[.int .u64 (hI cx), .int .u64 (lI cx)], .bool false], .agg #[.int .u64 (hI cx), .int .u64 (lI cx)], .bool false, .pointer (some ⟨N, 0, none⟩), undef]) 14 [14, 107] (by kernel_rfl) (fun N => by kernel_rfl) rfl ?hA18 ?hAd18 (by kernel_rfl) ?hal18 ?hC18 ?hst18 hES.drew ?walk18 ?fin18
              case hA18 => intro N; simp only [putAll, Act.put, List.setIfInBounds_toArray, List.set_cons_zero, List.set_cons_succ]; rfl
              case hAd18 => intro N; simp only [putAll, Act.put, List.setIfInBounds_toArray, List.set_cons_zero, List.set_cons_succ]; rfl
              case hal18 => intro W a _; go_simp
              case hC18 => intro W h; exact ⟨h.below (bl1 W _), at_zero0 W, h.1.2.2.size, cell_in h.2.1.1, h.1.1.2.2.2.2⟩
              case hst18 =>
                intro N W a' hC hr K Q' hK
                have e14 : a'.tmps[14]? = some (.pointer (some ⟨N, 0, none⟩)) := (hr 14 (by simp)).trans (by simp only [putAll, Act.put, List.setIfInBounds_toArray, List.set_cons_zero, List.set_cons_succ]; rfl)
                have e107 : a'.tmps[107]? = some (.agg #[.int .u64 (hI cx), .int .u64 (lI cx)]) := (hr 107 (by simp)).trans (by simp only [putAll, Act.put, List.setIfInBounds_toArray, List.set_cons_zero, List.set_cons_succ]; rfl)
                obtain ⟨hE, hZ, hN1, hN2, hN3⟩ := hC
                obtain ⟨z0, z1, z2, z3, z4⟩ := id hZ
                have hK' := hK _ ⟨hE.set (N := N) hN1 (by omega) (by omega) (.int .u64 (hI cx)) (.int .u64 (lI cx)), hZ.set cx, hN1, hN2, hN3⟩
                unfold Oper.wp
                simp [execOp, e14, e107, go_sem, z0, z1, z2, z3, Oper.upon]
                exact hK'
              case walk18 =>
                intro N X hX
                have hXD : ∀ W, X W → ES w w10.heap.size g T (stepW F) j px pn cx cn W := by
                  rcases hX with rfl | rfl | rfl
                  · exact fun W h => h
                  · exact fun W h => h.1
                  · exact fun W h => h.1
                have hXb : ∀ W W', X W → Below W.heap.size W W' → X W' := by
                  rcases hX with rfl | rfl | rfl
                  · exact fun W W' h hb => h.below hb
                  · exact fun W W' h hb => ⟨h.1.below hb, h.2.1.below hb, h.2.2⟩
                  · exact fun W W' h hb => ⟨h.1.below hb, h.2.1.below hb, h.2.2⟩
                clear hX hES G1 G2 G3 G4
                dsimp only [rep, List.take, List.modify, List.modifyTailIdx, List.modifyTailIdx.go, List.modifyHead]
                refine q_run (v := .int .i64 (F)) (by rfl) ?_ ?_
                · (intro w1 hC; obtain ⟨⟨⟨d0, d1, -, -, -⟩, -, -⟩, ⟨p0, p1, p2⟩, -⟩ := hXD w1 hC; go_simp; first | done | (simp; done) | (simp [*]; done) | omega | (simp; omega) | (rw [IntKind.wrap_i64]; omega) | (intro hx; omega) | rfl)
                simp only [Act.put, List.setIfInBounds_toArray, List.set_cons_zero, List.set_cons_succ]
                refine q_run (v := .slice (some ⟨g, 0, none⟩) (q + 1) cap) (by rfl) ?_ ?_
                · (intro w1 hC; obtain ⟨⟨⟨d0, d1, -, -, -⟩, -, -⟩, ⟨p0, p1, p2⟩, -⟩ := hXD w1 hC; go_simp; first | done | (simp; done) | (simp [*]; done) | omega | (simp; omega) | (rw [IntKind.wrap_i64]; omega) | (intro hx; omega) | rfl)
                simp only [Act.put, List.setIfInBounds_toArray, List.set_cons_zero, List.set_cons_succ]
                refine q_run (v := .int .i64 ((j : Int) + 1)) (by rfl) ?_ ?_
                · (intro w1 hC; obtain ⟨⟨⟨d0, d1, -, -, -⟩, -, -⟩, ⟨p0, p1, p2⟩, -⟩ := hXD w1 hC; go_simp; first | done | (simp; done) | (simp [*]; done) | omega | (simp; omega) | (rw [IntKind.wrap_i64]; omega) | (intro hx; omega) | rfl)
                simp only [Act.put, List.setIfInBounds_toArray, List.set_cons_zero, List.set_cons_succ]
                refine q_run (v := .int .i64 ((j : Int))) (by rfl) ?_ ?_
                · (intro w1 hC; obtain ⟨⟨⟨d0, d1, -, -, -⟩, -, -⟩, ⟨p0, p1, p2⟩, -⟩ := hXD w1 hC; go_simp)
                simp only [Act.put, List.setIfInBounds_toArray, List.set_cons_zero, List.set_cons_succ]
                refine q_run (v := .pointer (some ⟨g, j * 3, none⟩)) (by rfl) ?_ ?_
                · (intro w1 hC; obtain ⟨⟨⟨d0, d1, -, -, -⟩, -, -⟩, ⟨p0, p1, p2⟩, -⟩ := hXD w1 hC; go_simp; first | done | (simp; omega) | omega)
                simp only [Act.put, List.setIfInBounds_toArray, List.set_cons_zero, List.set_cons_succ]
                refine q_run (v := .agg #[.int .u64 (hI px), .int .u64 (lI px), .int .i64 (pn)]) (by rfl) ?_ ?_
                · (intro w1 hC; obtain ⟨⟨⟨d0, d1, -, -, -⟩, -, -⟩, ⟨p0, p1, p2⟩, -⟩ := hXD w1 hC; go_simp; first | done | (simp; done) | (simp [*]; done) | omega | (simp; omega) | (rw [IntKind.wrap_i64]; omega) | (intro hx; omega) | rfl)
                simp only [Act.put, List.setIfInBounds_toArray, List.set_cons_zero, List.set_cons_succ]
                refine q_call (v := .agg #[.int .u64 (hI la), .int .u64 (lI la)]) (f := 24) (args := #[.int .i64 (F), .agg #[.int .u64 (hI px), .int .u64 (lI px), .int .i64 (pn)]]) (by rfl) ?_ ?_ ?_
                · (intro w1 hC; clear hC; go_simp)
                · exact fun w1 hC => (KL w1).mono fun e w' ⟨he, hb⟩ => ⟨he, hXb w1 _ hC hb⟩
                simp only [Act.put, List.setIfInBounds_toArray, List.set_cons_zero, List.set_cons_succ]
                refine q_run (v := .agg #[.int .u64 (hI (stepW F)), .int .u64 (lI (stepW F))]) (by rfl) ?_ ?_
                · (intro w1 hC; obtain ⟨⟨⟨d0, d1, -, -, -⟩, -, -⟩, ⟨p0, p1, p2⟩, -⟩ := hXD w1 hC; go_simp; first | done | (simp; done) | (simp [*]; done) | omega | (simp; omega) | (rw [IntKind.wrap_i64]; omega) | (intro hx; omega) | rfl)
                simp only [Act.put, List.setIfInBounds_toArray, List.set_cons_zero, List.set_cons_succ]
                refine q_call (v := .tuple #[.agg #[.int .u64 (hI cx), .int .u64 (lI cx)], .bool false]) (f := 27) (args := #[.agg #[.int .u64 (hI la), .int .u64 (lI la)], .agg #[.int .u64 (hI (stepW F)), .int .u64 (lI (stepW F))]]) (by rfl) ?_ ?_ ?_
                · (intro w1 hC; clear hC; go_simp)
                · exact fun w1 hC => (KAd w1).mono fun e w' ⟨he, hb⟩ => ⟨he, hXb w1 _ hC hb⟩
                simp only [Act.put, List.setIfInBounds_toArray, List.set_cons_zero, List.set_cons_succ]
                refine q_run (v := .tuple #[.agg #[.int .u64 (hI cx), .int .u64 (lI cx)], .bool false]) (by rfl) ?_ ?_
                · (intro w1 hC; obtain ⟨⟨⟨d0, d1, -, -, -⟩, -, -⟩, ⟨p0, p1, p2⟩, -⟩ := hXD w1 hC; go_simp; first | done | (simp; done) | (simp [*]; done) | omega | (simp; omega) | (rw [IntKind.wrap_i64]; omega) | (intro hx; omega) | rfl)
                simp only [Act.put, List.setIfInBounds_toArray, List.set_cons_zero, List.set_cons_succ]
                refine q_run (v := .agg #[.int .u64 (hI cx), .int .u64 (lI cx)]) (by rfl) ?_ ?_
                · (intro w1 hC; obtain ⟨⟨⟨d0, d1, -, -, -⟩, -, -⟩, ⟨p0, p1, p2⟩, -⟩ := hXD w1 hC; go_simp; first | done | (simp; done) | (simp [*]; done) | omega | (simp; omega) | (rw [IntKind.wrap_i64]; omega) | (intro hx; omega) | rfl)
                simp only [Act.put, List.setIfInBounds_toArray, List.set_cons_zero, List.set_cons_succ]
                refine q_run (v := .bool false) (by rfl) ?_ ?_
                · (intro w1 hC; obtain ⟨⟨⟨d0, d1, -, -, -⟩, -, -⟩, ⟨p0, p1, p2⟩, -⟩ := hXD w1 hC; go_simp; first | done | (simp; done) | (simp [*]; done) | omega | (simp; omega) | (rw [IntKind.wrap_i64]; omega) | (intro hx; omega) | rfl)
                simp only [Act.put, List.setIfInBounds_toArray, List.set_cons_zero, List.set_cons_succ]
                refine q_run (v := .pointer (some ⟨N, 0, none⟩)) (by rfl) ?_ ?_
                · (intro w1 hC; obtain ⟨⟨⟨d0, d1, -, -, -⟩, -, -⟩, ⟨p0, p1, p2⟩, -⟩ := hXD w1 hC; go_simp; first | done | (simp; done) | (simp [*]; done) | omega | (simp; omega) | (rw [IntKind.wrap_i64]; omega) | (intro hx; omega) | rfl)
                simp only [Act.put, List.setIfInBounds_toArray, List.set_cons_zero, List.set_cons_succ]
                refine q_run (v := undef) (by rfl) ?_ ?_
                · (intro w1 hC; go_simp)
                refine wpQuiet_nil ?_
                simp only [putAll, Act.put, List.setIfInBounds_toArray, List.set_cons_zero, List.set_cons_succ]
              case fin18 =>
                intro N W hC
                obtain ⟨hE2, hX, hN1, hN2, hN3⟩ := hC
                simp only [putAll, Act.put, List.setIfInBounds_toArray, List.set_cons_zero, List.set_cons_succ]
                dsimp only [List.drop]
                obtain ⟨-, ⟨p0, p1, p2⟩, -⟩ := id hE2
                clear hES KL KAd
                go_wp2_with fail
                refine (KSb _).mono ?_
                rintro e w12 ⟨rfl, hb⟩
                replace hE2 := hE2.below hb
                replace hX := hX.below hb
                replace hE2 := hE2.below (bl1 w12 (.cells #[.int .u64 (hI sv), .int .u64 (lI sv), .int .i64 sn] 54))
                replace hX := hX.below (bl1 w12 (.cells #[.int .u64 (hI sv), .int .u64 (lI sv), .int .i64 sn] 54))
                have hS2 := atp_new w12 w12.heap.size sv sn 54 rfl
                clear hb KSb p0 p1 p2
                obtain ⟨x0, x1, -, -, -⟩ := id hX
                obtain ⟨y0, y1, y2, -, -, -⟩ := id hS2
                obtain ⟨-, -, ⟨c0, c1, c2⟩⟩ := id hE2
                have hj3 : IntKind.i64.wrap ((j : Int) + 1 + 1) = (j : Int) + 1 + 1 := by rw [IntKind.wrap_i64]; have := HJ2.out; omega
                clear hjw hjw2
                cases hp : decide (0 < pn)
                · go_wp2_with fail
                  go_quiet (fail)
                  go_wp2
                  go_roundw
                  case rel => exact ⟨j + 1 + 1, by have := HJ.out; omega, by simp, hE2.1.1, hE2.1.2.1, below_drewN hE2.1.2.2 _⟩
                  case measure => simp [intOf]; have := HJ.out; have := HJ2.out; omega
                · have o3 := O3.out (by simpa using hp)
                  rw [o3] at e2
                  go_wp2_with fail
                  go_quiet (fail)
                  go_wp2
                  go_roundw
                  case rel => exact ⟨j + 1 + 1, by have := HJ.out; omega, by simp, hE2.1.1, hE2.1.2.1, below_drewN hE2.1.2.2 _⟩
                  case measure => simp [intOf]; have := HJ.out; have := HJ2.out; omega
          · have hd : decide ((k : Int) < (q : Int) + 1) = false := by simpa using hlt
            go_wp2
            go_ret
            exact ⟨rfl, hEL.2.2⟩
end Go.Proofs.YthichmlcfoafpabDoor
