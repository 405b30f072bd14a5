/-
  Part 17 of the proof: 1 texts, one behind the other.
-/
import Derived.Test.YtofpbommhklooaaPart16
import Derived.Test.YtofpbommhklooaaPart6
/-
  What a call of the reference's Kids does.
-/
namespace Go.Proofs.Ytofpbommhklooaa
open Go.RowKit
set_option linter.unusedSimpArgs false
set_option linter.unusedVariables false

theorem eval_of {a : Act} {s : Nat} {v : Value} (h : a.tmps[s]? = some v) : a.eval (.tmp s) = v := by
  show a.tmps.getD s undef = v
  rw [Array.getD_eq_getD_getElem?, h]; rfl
/-- The prefix and both answers in memory; the first one as it stands. -/
def RK (w : World) (x : BitVec 128) (n : Int) (y : BitVec 128) (m : Int) (W : World) : Prop := AtP W w.heap.size x n ∧ AtP W (w.heap.size + 1) y m ∧ AtP W (w.heap.size + 1 + 1) 0#128 0 ∧ Below w.heap.size w W
theorem RK.below {w W W' : World} {x y : BitVec 128} {n m : Int} (h : RK w x n y m W) (hb : Below W.heap.size W W') : RK w x n y m W' := ⟨h.1.below hb, h.2.1.below hb, h.2.2.1.below hb, keepb hb h.2.2.2⟩
theorem rkids_no (F : Int) (x : BitVec 128) (n : Int) (w : World) (h : F ≤ n) :
    Calls Try.prog 45 #[.int .i64 F, .agg #[.int .u64 (hI x), .int .u64 (lI x), .int .i64 n]] w fun e w' => e = .returned (.tuple #[.agg #[.int .u64 0, .int .u64 0, .int .i64 0], .agg #[.int .u64 0, .int .u64 0, .int .i64 0], .bool false]) ∧ Below w.heap.size w w' := by
  go_enter Try.func45, Try.ntmps45
  go_wp2
  exact bodyPost_ret (v := .tuple #[.agg #[.int .u64 0, .int .u64 0, .int .i64 0], .agg #[.int .u64 0, .int .u64 0, .int .i64 0], .bool false]) (by simp [results, Try.results45, go_sem, *]) rfl ⟨rfl, bl3 _ _ _ _⟩
set_option maxHeartbeats 4000000 in
set_option maxRecDepth 20000 in
theorem rkids_yes (F : Int) (x : BitVec 128) (n : Int) (w : World) (h : ¬ F ≤ n) (h0 : 0 ≤ n) (h1 : F ≤ 128) :
    Calls Try.prog 45 #[.int .i64 F, .agg #[.int .u64 (hI x), .int .u64 (lI x), .int .i64 n]] w fun e w' => e = .returned (.tuple #[.agg #[.int .u64 (hI x), .int .u64 (lI x), .int .i64 (n + 1)], .agg #[.int .u64 (hI (putW x n 1)), .int .u64 (lI (putW x n 1)), .int .i64 (n + 1)], .bool true]) ∧ Below w.heap.size w w' := by
  have hu : IntKind.i64.wrap (n + 1) = n + 1 := by rw [IntKind.wrap_i64]; omega
  have KB := fun w => put_any x n 1 w (by omega) h0 (by omega)
  revert KB
  generalize putW x n 1 = y
  intro KB
  have L0 : RK w x n 0#128 0 (((w.alloc (.cells #[.int .u64 (hI x), .int .u64 (lI x), .int .i64 n] 45)).alloc (.cells #[.int .u64 0, .int .u64 0, .int .i64 0] 45)).alloc (.cells #[.int .u64 0, .int .u64 0, .int .i64 0] 45)) :=
    by
      refine ⟨?_, ?_, ?_, bl3 _ _ _ _⟩
      · exact ((atp_new w w.heap.size x n 45 rfl).below (bl1 _ _)).below (bl1 _ _)
      · exact (atp_new (w.alloc (.cells #[.int .u64 (hI x), .int .u64 (lI x), .int .i64 n] 45)) (w.heap.size + 1) 0#128 0 45 (by simp)).below (bl1 _ _)
      · exact atp_new ((w.alloc (.cells #[.int .u64 (hI x), .int .u64 (lI x), .int .i64 n] 45)).alloc (.cells #[.int .u64 0, .int .u64 0, .int .i64 0] 45)) (w.heap.size + 1 + 1) 0#128 0 45 (by simp)
  go_enter Try.func45, Try.ntmps45
  go_wp2_with fail
  refine sp_region 16 15 (alOk (qpOk 16 15 (by decide) (fun N => by kernel_rfl) (by kernel_rfl) (by kernel_rfl) (by kernel_rfl) (by kernel_rfl)) (by decide) rfl rfl (by kernel_rfl)) (D := RK w x n 0#128 0) (C1 := fun _ W => RK w x n x (n + 1) W) (A := fun _ => { tmps := #[.int .i64 (F), .agg #[.int .u64 (hI x), .int .u64 (lI x), .int .i64 (n)], undef, .pointer (some ⟨w.heap.size, 0, none⟩), .pointer (some ⟨w.heap.size + 1, 0, none⟩), .pointer (some ⟨w.heap.size + 1 + 1, 0, none⟩), .bool false, .pointer (some ⟨w.heap.size, 2, none⟩), .int .i64 (n), .int .i64 (F), .bool false, undef, undef, .pointer (some ⟨w.heap.size, 0, none⟩), .agg #[.int .u64 (hI x), .int .u64 (lI x)], .pointer (some ⟨w.heap.size, 2, none⟩), .int .i64 (n), .int .i64 (n + 1), .agg #[.int .u64 (hI x), .int .u64 (lI x), .int .i64 (n + 1)], .pointer (some ⟨w.heap.size, 0, none⟩), .agg #[.int .u64 (hI x), .int .u64 (lI x)], .pointer (some ⟨w.heap.size, 2, none⟩), .int .i64 (n), .agg #[.int .u64 (hI y), .int .u64 (lI y)], .pointer (some ⟨w.heap.size, 2, none⟩), .int .i64 (n), .int .i64 (n + 1), .agg #[.int .u64 (hI y), .int .u64 (lI y), .int .i64 (n + 1)]], defers := [] }) (fun _ => undef) [4, 18] (by kernel_rfl) ?hA (read_of (by kernel_rfl)) ?hal ⟨L0.1, L0.2.1, L0.2.2.1, L0.2.2.2.drew⟩ ?walk ?fin
  case hA => intro i o s N _ _ _ _; rfl
  case hal =>
    intro W a hD hr K Q' hK
    have e4 : a.tmps[4]? = some (.pointer (some ⟨w.heap.size + 1, 0, none⟩)) := (hr 4 (by simp)).trans rfl
    have e18 : a.tmps[18]? = some (.agg #[.int .u64 (hI x), .int .u64 (lI x), .int .i64 (n + 1)]) := (hr 18 (by simp)).trans rfl
    have r0 := (hD.2.1).set x (n + 1)
    obtain ⟨q1, ⟨y0, y1, y2, y3, y4, y5⟩, q3, q4⟩ := hD
    have hw : RK w x n x (n + 1) (((W.setCell ⟨w.heap.size + 1, 0, none⟩ (.int .u64 (hI x))).setCell ⟨w.heap.size + 1, 1, none⟩ (.int .u64 (lI x))).setCell ⟨w.heap.size + 1, 2, none⟩ (.int .i64 (n + 1))) :=
      ⟨q1.setO (by omega) _ _ _, r0, q3.setO (by omega) _ _ _, bset3 q4 (by omega) _ _ _⟩
    have hK' := hK 0 _ hw
    unfold Oper.wp
    simp [execOp, e4, e18, go_sem, y0, y1, y2, y3, y4, y5, Oper.upon]
    exact hK'
  case walk =>
    intro N X hX
    have hXD : ∀ W, X W → W.cell? ⟨w.heap.size, 0, none⟩ = some (.int .u64 (hI x)) ∧ W.cell? ⟨w.heap.size, 1, none⟩ = some (.int .u64 (lI x)) ∧ W.cell? ⟨w.heap.size, 2, none⟩ = some (.int .i64 n) := by
      rcases hX with rfl | rfl
      · exact fun W h => ⟨h.1.1, h.1.2.1, h.1.2.2.1⟩
      · exact fun W h => ⟨h.1.1, h.1.2.1, h.1.2.2.1⟩
    have hXb : ∀ W W', X W → Below W.heap.size W W' → X W' := by
      rcases hX with rfl | rfl
      · exact fun W W' h hb => h.below hb
      · exact fun W W' h hb => RK.below h hb
    clear hX L0
    dsimp only [rep, List.take, List.modify, List.modifyTailIdx, List.modifyTailIdx.go, List.modifyHead]
    refine q_run (v := .pointer (some ⟨w.heap.size, 0, none⟩)) (by rfl) ?_ ?_
    · (intro w1 hC; obtain ⟨p0, p1, p2⟩ := hXD w1 hC; go_simp; first | done | (simp; done) | (simp [*]; done) | omega | (simp; omega) | (rw [IntKind.wrap_i64]; omega) | (intro hx; omega) | rfl)
    simp only [Act.put, List.setIfInBounds_toArray, List.set_cons_zero, List.set_cons_succ]
    refine q_run (v := .agg #[.int .u64 (hI x), .int .u64 (lI x)]) (by rfl) ?_ ?_
    · (intro w1 hC; obtain ⟨p0, p1, p2⟩ := hXD w1 hC; go_simp; first | done | (simp; done) | (simp [*]; done) | omega | (simp; omega) | (rw [IntKind.wrap_i64]; omega) | (intro hx; omega) | rfl)
    simp only [Act.put, List.setIfInBounds_toArray, List.set_cons_zero, List.set_cons_succ]
    refine q_run (v := .pointer (some ⟨w.heap.size, 2, none⟩)) (by rfl) ?_ ?_
    · (intro w1 hC; obtain ⟨p0, p1, p2⟩ := hXD w1 hC; go_simp; first | done | (simp; done) | (simp [*]; done) | omega | (simp; omega) | (rw [IntKind.wrap_i64]; omega) | (intro hx; omega) | rfl)
    simp only [Act.put, List.setIfInBounds_toArray, List.set_cons_zero, List.set_cons_succ]
    refine q_run (v := .int .i64 (n)) (by rfl) ?_ ?_
    · (intro w1 hC; obtain ⟨p0, p1, p2⟩ := hXD w1 hC; go_simp; first | done | (simp; done) | (simp [*]; done) | omega | (simp; omega) | (rw [IntKind.wrap_i64]; omega) | (intro hx; omega) | rfl)
    simp only [Act.put, List.setIfInBounds_toArray, List.set_cons_zero, List.set_cons_succ]
    refine q_run (v := .int .i64 (n + 1)) (by rfl) ?_ ?_
    · (intro w1 hC; obtain ⟨p0, p1, p2⟩ := hXD w1 hC; go_simp)
    simp only [Act.put, List.setIfInBounds_toArray, List.set_cons_zero, List.set_cons_succ]
    refine q_run (v := .agg #[.int .u64 (hI x), .int .u64 (lI x), .int .i64 (n + 1)]) (by rfl) ?_ ?_
    · (intro w1 hC; obtain ⟨p0, p1, p2⟩ := hXD w1 hC; go_simp; first | done | (simp; done) | (simp [*]; done) | omega | (simp; omega) | (rw [IntKind.wrap_i64]; omega) | (intro hx; omega) | rfl)
    simp only [Act.put, List.setIfInBounds_toArray, List.set_cons_zero, List.set_cons_succ]
    refine q_run (v := .pointer (some ⟨w.heap.size, 0, none⟩)) (by rfl) ?_ ?_
    · (intro w1 hC; obtain ⟨p0, p1, p2⟩ := hXD w1 hC; go_simp; first | done | (simp; done) | (simp [*]; done) | omega | (simp; omega) | (rw [IntKind.wrap_i64]; omega) | (intro hx; omega) | rfl)
    simp only [Act.put, List.setIfInBounds_toArray, List.set_cons_zero, List.set_cons_succ]
    refine q_run (v := .agg #[.int .u64 (hI x), .int .u64 (lI x)]) (by rfl) ?_ ?_
    · (intro w1 hC; obtain ⟨p0, p1, p2⟩ := hXD w1 hC; go_simp; first | done | (simp; done) | (simp [*]; done) | omega | (simp; omega) | (rw [IntKind.wrap_i64]; omega) | (intro hx; omega) | rfl)
    simp only [Act.put, List.setIfInBounds_toArray, List.set_cons_zero, List.set_cons_succ]
    refine q_run (v := .pointer (some ⟨w.heap.size, 2, none⟩)) (by rfl) ?_ ?_
    · (intro w1 hC; obtain ⟨p0, p1, p2⟩ := hXD w1 hC; go_simp; first | done | (simp; done) | (simp [*]; done) | omega | (simp; omega) | (rw [IntKind.wrap_i64]; omega) | (intro hx; omega) | rfl)
    simp only [Act.put, List.setIfInBounds_toArray, List.set_cons_zero, List.set_cons_succ]
    refine q_run (v := .int .i64 (n)) (by rfl) ?_ ?_
    · (intro w1 hC; obtain ⟨p0, p1, p2⟩ := hXD w1 hC; go_simp; first | done | (simp; done) | (simp [*]; done) | omega | (simp; omega) | (rw [IntKind.wrap_i64]; omega) | (intro hx; omega) | rfl)
    simp only [Act.put, List.setIfInBounds_toArray, List.set_cons_zero, List.set_cons_succ]
    refine q_call (v := .agg #[.int .u64 (hI y), .int .u64 (lI y)]) (f := 63) (args := #[.agg #[.int .u64 (hI x), .int .u64 (lI x)], .int .i64 (n), .int .i64 (1)]) (by rfl) ?_ ?_ ?_
    · (intro w1 hC; clear hC; go_simp)
    · exact fun w1 hC => (KB w1).mono fun e w' ⟨he, hb⟩ => ⟨he, hXb w1 _ hC hb⟩
    simp only [Act.put, List.setIfInBounds_toArray, List.set_cons_zero, List.set_cons_succ]
    refine q_run (v := .pointer (some ⟨w.heap.size, 2, none⟩)) (by rfl) ?_ ?_
    · (intro w1 hC; obtain ⟨p0, p1, p2⟩ := hXD w1 hC; go_simp; first | done | (simp; done) | (simp [*]; done) | omega | (simp; omega) | (rw [IntKind.wrap_i64]; omega) | (intro hx; omega) | rfl)
    simp only [Act.put, List.setIfInBounds_toArray, List.set_cons_zero, List.set_cons_succ]
    refine q_run (v := .int .i64 (n)) (by rfl) ?_ ?_
    · (intro w1 hC; obtain ⟨p0, p1, p2⟩ := hXD w1 hC; go_simp; first | done | (simp; done) | (simp [*]; done) | omega | (simp; omega) | (rw [IntKind.wrap_i64]; omega) | (intro hx; omega) | rfl)
    simp only [Act.put, List.setIfInBounds_toArray, List.set_cons_zero, List.set_cons_succ]
    refine q_run (v := .int .i64 (n + 1)) (by rfl) ?_ ?_
    · (intro w1 hC; obtain ⟨p0, p1, p2⟩ := hXD w1 hC; go_simp)
    simp only [Act.put, List.setIfInBounds_toArray, List.set_cons_zero, List.set_cons_succ]
    refine q_run (v := .agg #[.int .u64 (hI y), .int .u64 (lI y), .int .i64 (n + 1)]) (by rfl) ?_ ?_
    · (intro w1 hC; obtain ⟨p0, p1, p2⟩ := hXD w1 hC; go_simp; first | done | (simp; done) | (simp [*]; done) | omega | (simp; omega) | (rw [IntKind.wrap_i64]; omega) | (intro hx; omega) | rfl)
    simp only [Act.put, List.setIfInBounds_toArray, List.set_cons_zero, List.set_cons_succ]
    refine q_run (v := undef) (by rfl) ?_ ?_
    · (intro w1 hC; go_simp)
    exact wpQuiet_nil rfl
  case fin =>
    intro N W hC
    obtain ⟨-, ⟨y0, y1, y2, -, -, -⟩, hZ, kB⟩ := hC
    obtain ⟨z0, z1, z2, z3, z4, z5⟩ := id hZ
    dsimp only [List.drop]
    go_wp2
    exact bodyPost_ret (v := .tuple #[.agg #[.int .u64 (hI x), .int .u64 (lI x), .int .i64 (n + 1)], .agg #[.int .u64 (hI y), .int .u64 (lI y), .int .i64 (n + 1)], .bool true]) (by simp [results, Try.results45, go_sem, y0, y1, y2, z0, z1, z2]) rfl ⟨rfl, bset3 kB (by omega) _ _ _⟩
theorem rkids_any (F : Int) (x : BitVec 128) (n : Int) (w : World) (h0 : 0 ≤ n) (h1 : F ≤ 128) :
    Calls Try.prog 45 #[.int .i64 F, .agg #[.int .u64 (hI x), .int .u64 (lI x), .int .i64 n]] w fun e w' => e = .returned (.tuple #[.agg #[.int .u64 (hI (kidL F x n)), .int .u64 (lI (kidL F x n)), .int .i64 (kidN F n)], .agg #[.int .u64 (hI (if F ≤ n then 0#128 else putW x n 1)), .int .u64 (lI (if F ≤ n then 0#128 else putW x n 1)), .int .i64 (kidN F n)], .bool (decide (n < F))]) ∧ Below w.heap.size w w' := by
  unfold kidL kidN
  by_cases h : F ≤ n
  · have h' : ¬ n < F := by omega
    rw [if_pos h, if_pos h, if_pos h, hI_zero, lI_zero]
    simp only [h', decide_false]
    exact rkids_no F x n w h
  · have h' : n < F := by omega
    rw [if_neg h, if_neg h, if_neg h]
    simp only [h', decide_true]
    exact rkids_yes F x n w h h0 h1
end Go.Proofs.Ytofpbommhklooaa
