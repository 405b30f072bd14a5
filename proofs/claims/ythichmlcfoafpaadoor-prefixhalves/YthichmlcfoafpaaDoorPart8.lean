/-
  Part 8 of the proof: 5 texts, one behind the other.
-/
import Derived.Test.YthichmlcfoafpaaDoorPart4
import Derived.Test.YthichmlcfoafpaaDoorPart7
import Derived.Test.YthichmlcfoafpaaDoorPart2
import Derived.Test.YthichmlcfoafpaaDoorPart5
import Derived.Test.YthichmlcfoafpaaDoorPart3
import Derived.Test.YthichmlcfoafpaaDoorPart6
/-
  What a call of package prefix's Kids does.
-/
namespace Go.Proofs.YthichmlcfoafpaaDoor
open Go.RowKit
set_option linter.unusedSimpArgs false
set_option linter.unusedVariables false

def kidL (F : Int) (x : BitVec 128) (n : Int) : BitVec 128 := if F ≤ n then 0#128 else x
def kidH (F : Int) (x : BitVec 128) (n : Int) : BitVec 128 := if F ≤ n then 0#128 else x ||| bit1 n
def kidN (F : Int) (n : Int) : Int := if F ≤ n then 0 else n + 1
theorem kids_no (F : Int) (x : BitVec 128) (n : Int) (w : World) (h : F ≤ n) :
    Calls Tryd.prog 12 #[.int .i64 F, .agg #[.int .u64 (hI x), .int .u64 (lI x), .int .i64 n]] w fun e w' => e = .returned (.tuple #[.agg #[.int .u64 0, .int .u64 0, .int .i64 0], .agg #[.int .u64 0, .int .u64 0, .int .i64 0], .bool false]) ∧ Below w.heap.size w w' := by
  go_enter Tryd.func12, Tryd.ntmps12
  go_wp2
  exact bodyPost_ret (v := .tuple #[.agg #[.int .u64 0, .int .u64 0, .int .i64 0], .agg #[.int .u64 0, .int .u64 0, .int .i64 0], .bool false]) (by simp [results, Tryd.results12, go_sem, *]) rfl ⟨rfl, bl3 _ _ _ _⟩

/-- The prefix, the low kid, and the answers, in memory. -/
def KS (w : World) (x : BitVec 128) (n : Int) (W : World) : Prop := AtP W w.heap.size x n ∧ AtP W (w.heap.size + 1) 0#128 0 ∧ AtP W (w.heap.size + 1 + 1) 0#128 0 ∧ AtP W (w.heap.size + 1 + 1 + 1) x (n + 1) ∧ Below w.heap.size w W
theorem KS.below {w W W' : World} {x : BitVec 128} {n : Int} (h : KS w x n W) (hb : Below W.heap.size W W') : KS w x n W' := ⟨h.1.below hb, h.2.1.below hb, h.2.2.1.below hb, h.2.2.2.1.below hb, keepb hb h.2.2.2.2⟩
theorem KS.al {w W : World} {x : BitVec 128} {n : Int} (h : KS w x n W) (o : Obj) : KS w x n (W.alloc o) := h.below (bl1 W o)
theorem KS.drew {w W : World} {x : BitVec 128} {n : Int} (h : KS w x n W) : KS w x n W.drew := ⟨h.1, h.2.1, h.2.2.1, h.2.2.2.1, h.2.2.2.2.drew⟩
theorem AtP.setO {W : World} {B : Nat} {x : BitVec 128} {n : Int} (h : AtP W B x n) {N : Nat} (hN : ¬ N = B) (u v t : Value) : AtP (((W.setCell ⟨N, 0, none⟩ u).setCell ⟨N, 1, none⟩ v).setCell ⟨N, 2, none⟩ t) B x n := by
  obtain ⟨a0, a1, a2, a3, a4, a5⟩ := h
  have d1 : ¬ B = N := fun e => hN e.symm
  refine ⟨?_, ?_, ?_, ?_, ?_, ?_⟩ <;> simp [go_sem, *]
theorem AtP.set {W : World} {B : Nat} {x : BitVec 128} {n : Int} (h : AtP W B x n) (y : BitVec 128) (m : Int) : AtP (((W.setCell ⟨B, 0, none⟩ (.int .u64 (hI y))).setCell ⟨B, 1, none⟩ (.int .u64 (lI y))).setCell ⟨B, 2, none⟩ (.int .i64 m)) B y m := by
  obtain ⟨a0, a1, a2, a3, a4, a5⟩ := h
  refine ⟨?_, ?_, ?_, ?_, ?_, ?_⟩ <;> simp [go_sem, *]
theorem AtP.lt {W : World} {B : Nat} {x : BitVec 128} {n : Int} (h : AtP W B x n) : B < W.heap.size := cell_in h.1
theorem KS.set {w W : World} {x : BitVec 128} {n : Int} (h : KS w x n W) {N : Nat} (hN : w.heap.size + 1 + 1 + 1 < N) (u v t : Value) : KS w x n (((W.setCell ⟨N, 0, none⟩ u).setCell ⟨N, 1, none⟩ v).setCell ⟨N, 2, none⟩ t) :=
  ⟨h.1.setO (by omega) u v t, h.2.1.setO (by omega) u v t, h.2.2.1.setO (by omega) u v t, h.2.2.2.1.setO (by omega) u v t, bset3 h.2.2.2.2 (by omega) u v t⟩
theorem KS.first (w : World) (x : BitVec 128) (n : Int) : KS w x n ((((w.alloc (.cells #[.int .u64 (hI x), .int .u64 (lI x), .int .i64 n] 27)).alloc (.cells #[.int .u64 0, .int .u64 0, .int .i64 0] 27)).alloc (.cells #[.int .u64 0, .int .u64 0, .int .i64 0] 27)).alloc (.cells #[.int .u64 (hI x), .int .u64 (lI x), .int .i64 (n + 1)] 27)) := by
  refine ⟨?_, ?_, ?_, ?_, (bl3 _ _ _ _).alloc (by simp; omega) _⟩
  · exact (((atp_new w w.heap.size x n 27 rfl).below (bl1 _ _)).below (bl1 _ _)).below (bl1 _ _)
  · exact ((atp_new _ (w.heap.size + 1) 0#128 0 27 (by simp)).below (bl1 _ _)).below (bl1 _ _)
  · exact (atp_new _ (w.heap.size + 1 + 1) 0#128 0 27 (by simp)).below (bl1 _ _)
  · exact atp_new _ (w.heap.size + 1 + 1 + 1) x (n + 1) 27 (by simp)
theorem atp_new0 (w : World) : AtP (w.alloc (.cells #[.int .u64 0, .int .u64 0, .int .i64 0] 27)) w.heap.size 0#128 0 := atp_new w w.heap.size 0#128 0 27 rfl
theorem atp_new0d (w : World) (N : Nat) (h : N = w.heap.size) : AtP (w.alloc (.cells #[.int .u64 0, .int .u64 0, .int .i64 0] 27)).drew N 0#128 0 := atp_new w N 0#128 0 27 h

set_option maxHeartbeats 4000000 in
set_option maxRecDepth 20000 in
theorem kids_yes (F : Int) (x : BitVec 128) (n : Int) (w : World) (h : ¬ F ≤ n) (h0 : 0 ≤ n) (h1 : n ≤ 128) :
    Calls Tryd.prog 12 #[.int .i64 F, .agg #[.int .u64 (hI x), .int .u64 (lI x), .int .i64 n]] w fun e w' => e = .returned (.tuple #[.agg #[.int .u64 (hI x), .int .u64 (lI x), .int .i64 (n + 1)], .agg #[.int .u64 (hI (x ||| bit1 n)), .int .u64 (lI (x ||| bit1 n)), .int .i64 (n + 1)], .bool true]) ∧ Below w.heap.size w w' := by
  have hu : IntKind.i64.wrap (n + 1) = n + 1 := by rw [IntKind.wrap_i64]; omega
  have KB := fun w => pbit_any n w
  revert KB
  generalize bit1 n = b
  intro KB
  have L0 := KS.first w x n
  go_enter Tryd.func12, Tryd.ntmps12
  go_wp2
  rename_i Q' K hK
  have tail : ∀ (N : Nat) (W : World), AtP W N (x ||| b) (n + 1) → KS w x n W → w.heap.size + 1 + 1 + 1 < N → (Exit.then K Q') .normal { tmps := #[.int .i64 F, .agg #[.int .u64 (hI x), .int .u64 (lI x), .int .i64 n], undef, .pointer (some ⟨w.heap.size, 0, none⟩), .pointer (some ⟨w.heap.size + 1, 0, none⟩), .pointer (some ⟨w.heap.size + 1 + 1, 0, none⟩), .bool false, .pointer (some ⟨w.heap.size + 1 + 1 + 1, 0, none⟩), .pointer (some ⟨N, 0, none⟩), .pointer (some ⟨w.heap.size, 2, none⟩), .int .i64 n, .int .i64 F, .bool false, undef, undef, .pointer (some ⟨w.heap.size, 0, none⟩), .agg #[.int .u64 (hI x), .int .u64 (lI x)], .pointer (some ⟨w.heap.size, 2, none⟩), .int .i64 n, .int .i64 (n + 1), .agg #[.int .u64 (hI x), .int .u64 (lI x), .int .i64 (n + 1)], .pointer (some ⟨w.heap.size, 0, none⟩), .agg #[.int .u64 (hI x), .int .u64 (lI x)], .pointer (some ⟨w.heap.size, 2, none⟩), .int .i64 n, .agg #[.int .u64 (hI b), .int .u64 (lI b)], .agg #[.int .u64 (hI (x ||| b)), .int .u64 (lI (x ||| b))], .pointer (some ⟨w.heap.size, 2, none⟩), .int .i64 n, .int .i64 (n + 1), .agg #[.int .u64 (hI (x ||| b)), .int .u64 (lI (x ||| b)), .int .i64 (n + 1)], undef, undef], defers := [] } W := by
    intro N W hN hL hlt
    have m1 : ¬ N = w.heap.size + 1 := by omega
    have m2 : ¬ N = w.heap.size + 1 + 1 := by omega
    have m3 : ¬ w.heap.size + 1 = N := by omega
    have m4 : ¬ w.heap.size + 1 + 1 = N := by omega
    obtain ⟨a0, a1, a2, -, -, -⟩ := id hN
    obtain ⟨-, ⟨y0, y1, y2, y3, y4, y5⟩, ⟨z0, z1, z2, z3, z4, z5⟩, ⟨d0, d1, d2, -, -, -⟩, kB⟩ := id hL
    have hY := hL.2.1
    have hZ := hL.2.2.1
    clear L0 KB
    go_wp2
    go_region
    all_goals go_wp2
    all_goals
      have r1 := (hY.set x (n + 1)).setO (N := w.heap.size + 1 + 1) (by omega) (.int .u64 (hI (x ||| b))) (.int .u64 (lI (x ||| b))) (.int .i64 (n + 1))
      have r2 := (hZ.setO (N := w.heap.size + 1) (by omega) (.int .u64 (hI x)) (.int .u64 (lI x)) (.int .i64 (n + 1))).set (x ||| b) (n + 1)
      have r3 := bset3 (bset3 kB (show w.heap.size ≤ w.heap.size + 1 by omega) (.int .u64 (hI x)) (.int .u64 (lI x)) (.int .i64 (n + 1))) (show w.heap.size ≤ w.heap.size + 1 + 1 by omega) (.int .u64 (hI (x ||| b))) (.int .u64 (lI (x ||| b))) (.int .i64 (n + 1))
      clear a0 a1 a2 y0 y1 y2 y3 y4 y5 z0 z1 z2 z3 z4 z5 d0 d1 d2 kB hY hZ hL hN
      generalize ((((((W.setCell ⟨w.heap.size + 1, 0, none⟩ (.int .u64 (hI x))).setCell ⟨w.heap.size + 1, 1, none⟩ (.int .u64 (lI x))).setCell ⟨w.heap.size + 1, 2, none⟩ (.int .i64 (n + 1))).setCell ⟨w.heap.size + 1 + 1, 0, none⟩ (.int .u64 (hI (x ||| b)))).setCell ⟨w.heap.size + 1 + 1, 1, none⟩ (.int .u64 (lI (x ||| b)))).setCell ⟨w.heap.size + 1 + 1, 2, none⟩ (.int .i64 (n + 1))) = W6 at *
      obtain ⟨r10, r11, r12, -, -, -⟩ := r1
      obtain ⟨r20, r21, r22, -, -, -⟩ := r2
      exact bodyPost_ret (v := .tuple #[.agg #[.int .u64 (hI x), .int .u64 (lI x), .int .i64 (n + 1)], .agg #[.int .u64 (hI (x ||| b)), .int .u64 (lI (x ||| b)), .int .i64 (n + 1)], .bool true]) (by simp [results, Tryd.results12, go_sem, r10, r11, r12, r20, r21, r22]) rfl ⟨rfl, r3.drew⟩
  refine al_region 11 10 (alOk (qpOk 11 10 (by decide) (fun N => by kernel_rfl) (by kernel_rfl) (by kernel_rfl) (by kernel_rfl) (by kernel_rfl)) (by decide) rfl rfl (by kernel_rfl)) (D := KS w x n) (C1 := fun N W => KS w x n W ∧ AtP W N 0#128 0 ∧ w.heap.size + 1 + 1 + 1 < N) (obj := .cells #[.int .u64 0, .int .u64 0, .int .i64 0] 27) (A := fun N => { tmps := #[.int .i64 (F), .agg #[.int .u64 (hI x), .int .u64 (lI x), .int .i64 (n)], undef, .pointer (some ⟨w.heap.size, 0, none⟩), .pointer (some ⟨w.heap.size + 1, 0, none⟩), .pointer (some ⟨w.heap.size + 1 + 1, 0, none⟩), .bool false, .pointer (some ⟨w.heap.size + 1 + 1 + 1, 0, none⟩), .pointer (some ⟨N, 0, none⟩), .pointer (some ⟨w.heap.size, 2, none⟩), .int .i64 (n), .int .i64 (F), .bool false, undef, undef, .pointer (some ⟨w.heap.size, 0, none⟩), .agg #[.int .u64 (hI x), .int .u64 (lI x)], .pointer (some ⟨w.heap.size, 2, none⟩), .int .i64 (n), .int .i64 (n + 1), .agg #[.int .u64 (hI x), .int .u64 (lI x), .int .i64 (n + 1)], .pointer (some ⟨w.heap.size, 0, none⟩), .agg #[.int .u64 (hI x), .int .u64 (lI x)], .pointer (some ⟨w.heap.size, 2, none⟩), .int .i64 (n), .agg #[.int .u64 (hI b), .int .u64 (lI b)], .agg #[.int .u64 (hI (x ||| b)), .int .u64 (lI (x ||| b))], .pointer (some ⟨w.heap.size, 2, none⟩), .int .i64 (n), .int .i64 (n + 1), .agg #[.int .u64 (hI (x ||| b)), .int .u64 (lI (x ||| b)), .int .i64 (n + 1)], undef, undef], defers := [] }) (by kernel_rfl) ?hA ?hal ?hC1 L0.drew ?walk ?fin
  case walk =>
    intro N X hX
    have hXD : ∀ W, X W → KS w x n W := by rcases hX with rfl | rfl; exact fun W h => h; exact fun W h => h.1
    have hXb : ∀ W W', X W → Below W.heap.size W W' → X W' := by rcases hX with rfl | rfl; exact fun W W' h hb => h.below hb; exact fun W W' h hb => ⟨h.1.below hb, h.2.1.below hb, h.2.2⟩
    clear hX L0 tail
    dsimp only [rep, List.take, List.modify, List.modifyTailIdx, List.modifyTailIdx.go, List.modifyHead]
    refine q_run (v := .pointer (some ⟨w.heap.size, 0, none⟩)) (by rfl) ?_ ?_
    · (intro w1 hC; obtain ⟨⟨p0, p1, p2, -, -, -⟩, -, -, -, -⟩ := hXD w1 hC; go_simp; first | done | (simp; done) | (simp [*]; done) | omega | (simp; omega) | (rw [IntKind.wrap_i64]; omega) | (intro hx; omega) | rfl)
    simp only [Act.put, List.setIfInBounds_toArray, List.set_cons_zero, List.set_cons_succ]
    refine q_run (v := .agg #[.int .u64 (hI x), .int .u64 (lI x)]) (by rfl) ?_ ?_
    · (intro w1 hC; obtain ⟨⟨p0, p1, p2, -, -, -⟩, -, -, -, -⟩ := hXD w1 hC; go_simp; first | done | (simp; done) | (simp [*]; done) | omega | (simp; omega) | (rw [IntKind.wrap_i64]; omega) | (intro hx; omega) | rfl)
    simp only [Act.put, List.setIfInBounds_toArray, List.set_cons_zero, List.set_cons_succ]
    refine q_run (v := .pointer (some ⟨w.heap.size, 2, none⟩)) (by rfl) ?_ ?_
    · (intro w1 hC; obtain ⟨⟨p0, p1, p2, -, -, -⟩, -, -, -, -⟩ := hXD w1 hC; go_simp; first | done | (simp; done) | (simp [*]; done) | omega | (simp; omega) | (rw [IntKind.wrap_i64]; omega) | (intro hx; omega) | rfl)
    simp only [Act.put, List.setIfInBounds_toArray, List.set_cons_zero, List.set_cons_succ]
    refine q_run (v := .int .i64 (n)) (by rfl) ?_ ?_
    · (intro w1 hC; obtain ⟨⟨p0, p1, p2, -, -, -⟩, -, -, -, -⟩ := hXD w1 hC; go_simp; first | done | (simp; done) | (simp [*]; done) | omega | (simp; omega) | (rw [IntKind.wrap_i64]; omega) | (intro hx; omega) | rfl)
    simp only [Act.put, List.setIfInBounds_toArray, List.set_cons_zero, List.set_cons_succ]
    refine q_call (v := .agg #[.int .u64 (hI b), .int .u64 (lI b)]) (f := 37) (args := #[.int .i64 (n)]) (by rfl) ?_ ?_ ?_
    · (intro w1 hC; clear hC; go_simp)
    · exact fun w1 hC => (KB w1).mono fun e w' ⟨he, hb⟩ => ⟨he, hXb w1 _ hC hb⟩
    simp only [Act.put, List.setIfInBounds_toArray, List.set_cons_zero, List.set_cons_succ]
    refine q_call (v := .agg #[.int .u64 (hI (x ||| b)), .int .u64 (lI (x ||| b))]) (f := 36) (args := #[.agg #[.int .u64 (hI x), .int .u64 (lI x)], .agg #[.int .u64 (hI b), .int .u64 (lI b)]]) (by rfl) ?_ ?_ ?_
    · (intro w1 hC; clear hC; go_simp)
    · exact fun w1 hC => (or_any x b w1).mono fun e w' ⟨he, hb⟩ => ⟨he, hXb w1 _ hC hb⟩
    simp only [Act.put, List.setIfInBounds_toArray, List.set_cons_zero, List.set_cons_succ]
    refine q_run (v := .pointer (some ⟨w.heap.size, 2, none⟩)) (by rfl) ?_ ?_
    · (intro w1 hC; obtain ⟨⟨p0, p1, p2, -, -, -⟩, -, -, -, -⟩ := hXD w1 hC; go_simp; first | done | (simp; done) | (simp [*]; done) | omega | (simp; omega) | (rw [IntKind.wrap_i64]; omega) | (intro hx; omega) | rfl)
    simp only [Act.put, List.setIfInBounds_toArray, List.set_cons_zero, List.set_cons_succ]
    refine q_run (v := .int .i64 (n)) (by rfl) ?_ ?_
    · (intro w1 hC; obtain ⟨⟨p0, p1, p2, -, -, -⟩, -, -, -, -⟩ := hXD w1 hC; go_simp; first | done | (simp; done) | (simp [*]; done) | omega | (simp; omega) | (rw [IntKind.wrap_i64]; omega) | (intro hx; omega) | rfl)
    simp only [Act.put, List.setIfInBounds_toArray, List.set_cons_zero, List.set_cons_succ]
    refine q_run (v := .int .i64 (n + 1)) (by rfl) ?_ ?_
    · (intro w1 hC; obtain ⟨⟨p0, p1, p2, -, -, -⟩, -, -, -, -⟩ := hXD w1 hC; go_simp)
    simp only [Act.put, List.setIfInBounds_toArray, List.set_cons_zero, List.set_cons_succ]
    refine q_run (v := .agg #[.int .u64 (hI (x ||| b)), .int .u64 (lI (x ||| b)), .int .i64 (n + 1)]) (by rfl) ?_ ?_
    · (intro w1 hC; obtain ⟨⟨p0, p1, p2, -, -, -⟩, -, -, -, -⟩ := hXD w1 hC; go_simp; first | done | (simp; done) | (simp [*]; done) | omega | (simp; omega) | (rw [IntKind.wrap_i64]; omega) | (intro hx; omega) | rfl)
    simp only [Act.put, List.setIfInBounds_toArray, List.set_cons_zero, List.set_cons_succ]
    refine q_run (v := .pointer (some ⟨N, 0, none⟩)) (by rfl) ?_ ?_
    · (intro w1 hC; obtain ⟨⟨p0, p1, p2, -, -, -⟩, -, -, -, -⟩ := hXD w1 hC; go_simp; first | done | (simp; done) | (simp [*]; done) | omega | (simp; omega) | (rw [IntKind.wrap_i64]; omega) | (intro hx; omega) | rfl)
    simp only [Act.put, List.setIfInBounds_toArray, List.set_cons_zero, List.set_cons_succ]
    exact wpQuiet_nil rfl
  case hA => exact alA (alOk (qpOk 11 10 (by decide) (fun N => by kernel_rfl) (by kernel_rfl) (by kernel_rfl) (by kernel_rfl) (by kernel_rfl)) (by decide) rfl rfl (by kernel_rfl)) 8 rfl (fun N => rfl)
  case hal => intro W a _; go_simp
  case hC1 => intro W h; exact ⟨h.al _, atp_new0 W, h.2.2.2.1.lt⟩
  case fin =>
    intro N W hC
    obtain ⟨hK', hZ, hN⟩ := hC
    obtain ⟨z0, z1, z2, z3, z4, z5⟩ := id hZ
    clear L0 hK
    dsimp only [List.drop]
    go_wp2
    exact tail _ _ (hZ.set _ _) (hK'.set hN _ _ _) hN

theorem pkids_any (F : Int) (x : BitVec 128) (n : Int) (w : World) (h0 : 0 ≤ n) (h1 : n ≤ 128) :
    Calls Tryd.prog 12 #[.int .i64 F, .agg #[.int .u64 (hI x), .int .u64 (lI x), .int .i64 n]] w fun e w' => e = .returned (.tuple #[.agg #[.int .u64 (hI (kidL F x n)), .int .u64 (lI (kidL F x n)), .int .i64 (kidN F n)], .agg #[.int .u64 (hI (kidH F x n)), .int .u64 (lI (kidH F x n)), .int .i64 (kidN F n)], .bool (decide (n < F))]) ∧ Below w.heap.size w w' := by
  unfold kidL kidH kidN
  by_cases h : F ≤ n
  · have h' : ¬ n < F := by omega
    rw [if_pos h, if_pos h, if_pos h, hI_zero, lI_zero]
    simp only [h', decide_false]
    exact kids_no F x n w h
  · have h' : n < F := by omega
    rw [if_neg h, if_neg h, if_neg h]
    simp only [h', decide_true]
    exact kids_yes F x n w h h0 h1
end Go.Proofs.YthichmlcfoafpaaDoor
/-
  What a call of the reference's Kids does.
-/
namespace Go.Proofs.YthichmlcfoafpaaDoor
open Go.RowKit
set_option linter.unusedSimpArgs false
set_option linter.unusedVariables false

theorem eval_of {a : Act} {s : Nat} {v : Value} (h : a.tmps[s]? = some v) : a.eval (.tmp s) = v := by
  show a.tmps.getD s undef = v
  rw [Array.getD_eq_getD_getElem?, h]; rfl
/-- The prefix and both answers in memory; the first one as it stands. -/
def RK (w : World) (x : BitVec 128) (n : Int) (y : BitVec 128) (m : Int) (W : World) : Prop := AtP W w.heap.size x n ∧ AtP W (w.heap.size + 1) y m ∧ AtP W (w.heap.size + 1 + 1) 0#128 0 ∧ Below w.heap.size w W
theorem RK.below {w W W' : World} {x y : BitVec 128} {n m : Int} (h : RK w x n y m W) (hb : Below W.heap.size W W') : RK w x n y m W' := ⟨h.1.below hb, h.2.1.below hb, h.2.2.1.below hb, keepb hb h.2.2.2⟩
theorem rkids_no (F : Int) (x : BitVec 128) (n : Int) (w : World) (h : F ≤ n) :
    Calls Tryd.prog 15 #[.int .i64 F, .agg #[.int .u64 (hI x), .int .u64 (lI x), .int .i64 n]] w fun e w' => e = .returned (.tuple #[.agg #[.int .u64 0, .int .u64 0, .int .i64 0], .agg #[.int .u64 0, .int .u64 0, .int .i64 0], .bool false]) ∧ Below w.heap.size w w' := by
  go_enter Tryd.func15, Tryd.ntmps15
  go_wp2
  exact bodyPost_ret (v := .tuple #[.agg #[.int .u64 0, .int .u64 0, .int .i64 0], .agg #[.int .u64 0, .int .u64 0, .int .i64 0], .bool false]) (by simp [results, Tryd.results15, go_sem, *]) rfl ⟨rfl, bl3 _ _ _ _⟩
set_option maxHeartbeats 4000000 in
set_option maxRecDepth 20000 in
theorem rkids_yes (F : Int) (x : BitVec 128) (n : Int) (w : World) (h : ¬ F ≤ n) (h0 : 0 ≤ n) (h1 : F ≤ 128) :
    Calls Tryd.prog 15 #[.int .i64 F, .agg #[.int .u64 (hI x), .int .u64 (lI x), .int .i64 n]] w fun e w' => e = .returned (.tuple #[.agg #[.int .u64 (hI x), .int .u64 (lI x), .int .i64 (n + 1)], .agg #[.int .u64 (hI (putW x n 1)), .int .u64 (lI (putW x n 1)), .int .i64 (n + 1)], .bool true]) ∧ Below w.heap.size w w' := by
  have hu : IntKind.i64.wrap (n + 1) = n + 1 := by rw [IntKind.wrap_i64]; omega
  have KB := fun w => put_any x n 1 w (by omega) h0 (by omega)
  revert KB
  generalize putW x n 1 = y
  intro KB
  have L0 : RK w x n 0#128 0 (((w.alloc (.cells #[.int .u64 (hI x), .int .u64 (lI x), .int .i64 n] 27)).alloc (.cells #[.int .u64 0, .int .u64 0, .int .i64 0] 27)).alloc (.cells #[.int .u64 0, .int .u64 0, .int .i64 0] 27)) :=
    by
      refine ⟨?_, ?_, ?_, bl3 _ _ _ _⟩
      · exact ((atp_new w w.heap.size x n 27 rfl).below (bl1 _ _)).below (bl1 _ _)
      · exact (atp_new (w.alloc (.cells #[.int .u64 (hI x), .int .u64 (lI x), .int .i64 n] 27)) (w.heap.size + 1) 0#128 0 27 (by simp)).below (bl1 _ _)
      · exact atp_new ((w.alloc (.cells #[.int .u64 (hI x), .int .u64 (lI x), .int .i64 n] 27)).alloc (.cells #[.int .u64 0, .int .u64 0, .int .i64 0] 27)) (w.heap.size + 1 + 1) 0#128 0 27 (by simp)
  go_enter Tryd.func15, Tryd.ntmps15
  go_wp2_with fail
  refine sp_region 16 15 (alOk (qpOk 16 15 (by decide) (fun N => by kernel_rfl) (by kernel_rfl) (by kernel_rfl) (by kernel_rfl) (by kernel_rfl)) (by decide) rfl rfl (by kernel_rfl)) (D := RK w x n 0#128 0) (C1 := fun _ W => RK w x n x (n + 1) W) (A := fun _ => { tmps := #[.int .i64 (F), .agg #[.int .u64 (hI x), .int .u64 (lI x), .int .i64 (n)], undef, .pointer (some ⟨w.heap.size, 0, none⟩), .pointer (some ⟨w.heap.size + 1, 0, none⟩), .pointer (some ⟨w.heap.size + 1 + 1, 0, none⟩), .bool false, .pointer (some ⟨w.heap.size, 2, none⟩), .int .i64 (n), .int .i64 (F), .bool false, undef, undef, .pointer (some ⟨w.heap.size, 0, none⟩), .agg #[.int .u64 (hI x), .int .u64 (lI x)], .pointer (some ⟨w.heap.size, 2, none⟩), .int .i64 (n), .int .i64 (n + 1), .agg #[.int .u64 (hI x), .int .u64 (lI x), .int .i64 (n + 1)], .pointer (some ⟨w.heap.size, 0, none⟩), .agg #[.int .u64 (hI x), .int .u64 (lI x)], .pointer (some ⟨w.heap.size, 2, none⟩), .int .i64 (n), .agg #[.int .u64 (hI y), .int .u64 (lI y)], .pointer (some ⟨w.heap.size, 2, none⟩), .int .i64 (n), .int .i64 (n + 1), .agg #[.int .u64 (hI y), .int .u64 (lI y), .int .i64 (n + 1)]], defers := [] }) (fun _ => undef) [4, 18] (by kernel_rfl) ?hA (read_of (by kernel_rfl)) ?hal ⟨L0.1, L0.2.1, L0.2.2.1, L0.2.2.2.drew⟩ ?walk ?fin
  case hA => intro i o s N _ _ _ _; rfl
  case hal =>
    intro W a hD hr K Q' hK
    have e4 : a.tmps[4]? = some (.pointer (some ⟨w.heap.size + 1, 0, none⟩)) := (hr 4 (by simp)).trans rfl
    have e18 : a.tmps[18]? = some (.agg #[.int .u64 (hI x), .int .u64 (lI x), .int .i64 (n + 1)]) := (hr 18 (by simp)).trans rfl
    have r0 := (hD.2.1).set x (n + 1)
    obtain ⟨q1, ⟨y0, y1, y2, y3, y4, y5⟩, q3, q4⟩ := hD
    have hw : RK w x n x (n + 1) (((W.setCell ⟨w.heap.size + 1, 0, none⟩ (.int .u64 (hI x))).setCell ⟨w.heap.size + 1, 1, none⟩ (.int .u64 (lI x))).setCell ⟨w.heap.size + 1, 2, none⟩ (.int .i64 (n + 1))) :=
      ⟨q1.setO (by omega) _ _ _, r0, q3.setO (by omega) _ _ _, bset3 q4 (by omega) _ _ _⟩
    have hK' := hK 0 _ hw
    unfold Oper.wp
    simp [execOp, e4, e18, go_sem, y0, y1, y2, y3, y4, y5, Oper.upon]
    exact hK'
  case walk =>
    intro N X hX
    have hXD : ∀ W, X W → W.cell? ⟨w.heap.size, 0, none⟩ = some (.int .u64 (hI x)) ∧ W.cell? ⟨w.heap.size, 1, none⟩ = some (.int .u64 (lI x)) ∧ W.cell? ⟨w.heap.size, 2, none⟩ = some (.int .i64 n) := by
      rcases hX with rfl | rfl
      · exact fun W h => ⟨h.1.1, h.1.2.1, h.1.2.2.1⟩
      · exact fun W h => ⟨h.1.1, h.1.2.1, h.1.2.2.1⟩
    have hXb : ∀ W W', X W → Below W.heap.size W W' → X W' := by
      rcases hX with rfl | rfl
      · exact fun W W' h hb => h.below hb
      · exact fun W W' h hb => RK.below h hb
    clear hX L0
    dsimp only [rep, List.take, List.modify, List.modifyTailIdx, List.modifyTailIdx.go, List.modifyHead]
    refine q_run (v := .pointer (some ⟨w.heap.size, 0, none⟩)) (by rfl) ?_ ?_
    · (intro w1 hC; obtain ⟨p0, p1, p2⟩ := hXD w1 hC; go_simp; first | done | (simp; done) | (simp [*]; done) | omega | (simp; omega) | (rw [IntKind.wrap_i64]; omega) | (intro hx; omega) | rfl)
    simp only [Act.put, List.setIfInBounds_toArray, List.set_cons_zero, List.set_cons_succ]
    refine q_run (v := .agg #[.int .u64 (hI x), .int .u64 (lI x)]) (by rfl) ?_ ?_
    · (intro w1 hC; obtain ⟨p0, p1, p2⟩ := hXD w1 hC; go_simp; first | done | (simp; done) | (simp [*]; done) | omega | (simp; omega) | (rw [IntKind.wrap_i64]; omega) | (intro hx; omega) | rfl)
    simp only [Act.put, List.setIfInBounds_toArray, List.set_cons_zero, List.set_cons_succ]
    refine q_run (v := .pointer (some ⟨w.heap.size, 2, none⟩)) (by rfl) ?_ ?_
    · (intro w1 hC; obtain ⟨p0, p1, p2⟩ := hXD w1 hC; go_simp; first | done | (simp; done) | (simp [*]; done) | omega | (simp; omega) | (rw [IntKind.wrap_i64]; omega) | (intro hx; omega) | rfl)
    simp only [Act.put, List.setIfInBounds_toArray, List.set_cons_zero, List.set_cons_succ]
    refine q_run (v := .int .i64 (n)) (by rfl) ?_ ?_
    · (intro w1 hC; obtain ⟨p0, p1, p2⟩ := hXD w1 hC; go_simp; first | done | (simp; done) | (simp [*]; done) | omega | (simp; omega) | (rw [IntKind.wrap_i64]; omega) | (intro hx; omega) | rfl)
    simp only [Act.put, List.setIfInBounds_toArray, List.set_cons_zero, List.set_cons_succ]
    refine q_run (v := .int .i64 (n + 1)) (by rfl) ?_ ?_
    · (intro w1 hC; obtain ⟨p0, p1, p2⟩ := hXD w1 hC; go_simp)
    simp only [Act.put, List.setIfInBounds_toArray, List.set_cons_zero, List.set_cons_succ]
    refine q_run (v := .agg #[.int .u64 (hI x), .int .u64 (lI x), .int .i64 (n + 1)]) (by rfl) ?_ ?_
    · (intro w1 hC; obtain ⟨p0, p1, p2⟩ := hXD w1 hC; go_simp; first | done | (simp; done) | (simp [*]; done) | omega | (simp; omega) | (rw [IntKind.wrap_i64]; omega) | (intro hx; omega) | rfl)
    simp only [Act.put, List.setIfInBounds_toArray, List.set_cons_zero, List.set_cons_succ]
    refine q_run (v := .pointer (some ⟨w.heap.size, 0, none⟩)) (by rfl) ?_ ?_
    · (intro w1 hC; obtain ⟨p0, p1, p2⟩ := hXD w1 hC; go_simp; first | done | (simp; done) | (simp [*]; done) | omega | (simp; omega) | (rw [IntKind.wrap_i64]; omega) | (intro hx; omega) | rfl)
    simp only [Act.put, List.setIfInBounds_toArray, List.set_cons_zero, List.set_cons_succ]
    refine q_run (v := .agg #[.int .u64 (hI x), .int .u64 (lI x)]) (by rfl) ?_ ?_
    · (intro w1 hC; obtain ⟨p0, p1, p2⟩ := hXD w1 hC; go_simp; first | done | (simp; done) | (simp [*]; done) | omega | (simp; omega) | (rw [IntKind.wrap_i64]; omega) | (intro hx; omega) | rfl)
    simp only [Act.put, List.setIfInBounds_toArray, List.set_cons_zero, List.set_cons_succ]
    refine q_run (v := .pointer (some ⟨w.heap.size, 2, none⟩)) (by rfl) ?_ ?_
    · (intro w1 hC; obtain ⟨p0, p1, p2⟩ := hXD w1 hC; go_simp; first | done | (simp; done) | (simp [*]; done) | omega | (simp; omega) | (rw [IntKind.wrap_i64]; omega) | (intro hx; omega) | rfl)
    simp only [Act.put, List.setIfInBounds_toArray, List.set_cons_zero, List.set_cons_succ]
    refine q_run (v := .int .i64 (n)) (by rfl) ?_ ?_
    · (intro w1 hC; obtain ⟨p0, p1, p2⟩ := hXD w1 hC; go_simp; first | done | (simp; done) | (simp [*]; done) | omega | (simp; omega) | (rw [IntKind.wrap_i64]; omega) | (intro hx; omega) | rfl)
    simp only [Act.put, List.setIfInBounds_toArray, List.set_cons_zero, List.set_cons_succ]
    refine q_call (v := .agg #[.int .u64 (hI y), .int .u64 (lI y)]) (f := 28) (args := #[.agg #[.int .u64 (hI x), .int .u64 (lI x)], .int .i64 (n), .int .i64 (1)]) (by rfl) ?_ ?_ ?_
    · (intro w1 hC; clear hC; go_simp)
    · exact fun w1 hC => (KB w1).mono fun e w' ⟨he, hb⟩ => ⟨he, hXb w1 _ hC hb⟩
    simp only [Act.put, List.setIfInBounds_toArray, List.set_cons_zero, List.set_cons_succ]
    refine q_run (v := .pointer (some ⟨w.heap.size, 2, none⟩)) (by rfl) ?_ ?_
    · (intro w1 hC; obtain ⟨p0, p1, p2⟩ := hXD w1 hC; go_simp; first | done | (simp; done) | (simp [*]; done) | omega | (simp; omega) | (rw [IntKind.wrap_i64]; omega) | (intro hx; omega) | rfl)
    simp only [Act.put, List.setIfInBounds_toArray, List.set_cons_zero, List.set_cons_succ]
    refine q_run (v := .int .i64 (n)) (by rfl) ?_ ?_
    · (intro w1 hC; obtain ⟨p0, p1, p2⟩ := hXD w1 hC; go_simp; first | done | (simp; done) | (simp [*]; done) | omega | (simp; omega) | (rw [IntKind.wrap_i64]; omega) | (intro hx; omega) | rfl)
    simp only [Act.put, List.setIfInBounds_toArray, List.set_cons_zero, List.set_cons_succ]
    refine q_run (v := .int .i64 (n + 1)) (by rfl) ?_ ?_
    · (intro w1 hC; obtain ⟨p0, p1, p2⟩ := hXD w1 hC; go_simp)
    simp only [Act.put, List.setIfInBounds_toArray, List.set_cons_zero, List.set_cons_succ]
    refine q_run (v := .agg #[.int .u64 (hI y), .int .u64 (lI y), .int .i64 (n + 1)]) (by rfl) ?_ ?_
    · (intro w1 hC; obtain ⟨p0, p1, p2⟩ := hXD w1 hC; go_simp; first | done | (simp; done) | (simp [*]; done) | omega | (simp; omega) | (rw [IntKind.wrap_i64]; omega) | (intro hx; omega) | rfl)
    simp only [Act.put, List.setIfInBounds_toArray, List.set_cons_zero, List.set_cons_succ]
    refine q_run (v := undef) (by rfl) ?_ ?_
    · (intro w1 hC; go_simp)
    exact wpQuiet_nil rfl
  case fin =>
    intro N W hC
    obtain ⟨-, ⟨y0, y1, y2, -, -, -⟩, hZ, kB⟩ := hC
    obtain ⟨z0, z1, z2, z3, z4, z5⟩ := id hZ
    dsimp only [List.drop]
    go_wp2
    exact bodyPost_ret (v := .tuple #[.agg #[.int .u64 (hI x), .int .u64 (lI x), .int .i64 (n + 1)], .agg #[.int .u64 (hI y), .int .u64 (lI y), .int .i64 (n + 1)], .bool true]) (by simp [results, Tryd.results15, go_sem, y0, y1, y2, z0, z1, z2]) rfl ⟨rfl, bset3 kB (by omega) _ _ _⟩
theorem rkids_any (F : Int) (x : BitVec 128) (n : Int) (w : World) (h0 : 0 ≤ n) (h1 : F ≤ 128) :
    Calls Tryd.prog 15 #[.int .i64 F, .agg #[.int .u64 (hI x), .int .u64 (lI x), .int .i64 n]] w fun e w' => e = .returned (.tuple #[.agg #[.int .u64 (hI (kidL F x n)), .int .u64 (lI (kidL F x n)), .int .i64 (kidN F n)], .agg #[.int .u64 (hI (if F ≤ n then 0#128 else putW x n 1)), .int .u64 (lI (if F ≤ n then 0#128 else putW x n 1)), .int .i64 (kidN F n)], .bool (decide (n < F))]) ∧ Below w.heap.size w w' := by
  unfold kidL kidN
  by_cases h : F ≤ n
  · have h' : ¬ n < F := by omega
    rw [if_pos h, if_pos h, if_pos h, hI_zero, lI_zero]
    simp only [h', decide_false]
    exact rkids_no F x n w h
  · have h' : n < F := by omega
    rw [if_neg h, if_neg h, if_neg h]
    simp only [h', decide_true]
    exact rkids_yes F x n w h h0 h1
end Go.Proofs.YthichmlcfoafpaaDoor
/-
  What the calls of the reference's chapter 3 do: Sibling, Kids.
-/
namespace Go.Proofs.YthichmlcfoafpaaDoor
open Go.RowKit
set_option linter.unusedSimpArgs false
set_option linter.unusedVariables false

def rsibV (x : BitVec 128) (n : Int) : BitVec 128 := if n ≤ 0 then 0#128 else putW x (n - 1) (1 - bitZ x (n - 1))
set_option maxHeartbeats 2000000 in
set_option maxRecDepth 20000 in
theorem rsib_any (x : BitVec 128) (n : Int) (w : World) (h0 : 0 ≤ n) (h1 : n ≤ 128) :
    Calls Tryd.prog 16 #[.agg #[.int .u64 (hI x), .int .u64 (lI x), .int .i64 n]] w fun e w' => e = .returned (.tuple #[.agg #[.int .u64 (hI (rsibV x n)), .int .u64 (lI (rsibV x n)), .int .i64 (sibN n)], .bool (decide (0 < n))]) ∧ Below w.heap.size w w' := by
  unfold rsibV sibN
  by_cases h : n ≤ 0
  · have hz : n = 0 := by omega
    subst hz
    rw [if_pos h, if_pos h, hI_zero, lI_zero]
    go_enter Tryd.func16, Tryd.ntmps16
    go_wp2
    exact bodyPost_ret (v := .tuple #[.agg #[.int .u64 0, .int .u64 0, .int .i64 0], .bool false]) (by simp [results, Tryd.results16, go_sem, *]) rfl ⟨rfl, bl2 _ _ _⟩
  · have h' : 0 < n := by omega
    have hz : (n == 0) = false := by simp; omega
    have hu : IntKind.i64.wrap (n - 1) = n - 1 := by rw [IntKind.wrap_i64]; omega
    have hbl := fun o p => (bl2 w o p).drew
    rw [if_neg h, if_neg h]
    simp only [h', decide_true]
    have KB := fun w => rbit_any x (n - 1) w
    have hb01 := bitZ_01 x (n - 1)
    have KP := fun w => put_any x (n - 1) (1 - bitZ x (n - 1)) w (by omega) (by omega) (by omega)
    have hu2 : IntKind.i64.wrap (1 - bitZ x (n - 1)) = 1 - bitZ x (n - 1) := by rw [IntKind.wrap_i64]; omega
    generalize putW x (n - 1) (1 - bitZ x (n - 1)) = c at *
    generalize bitZ x (n - 1) = t at *
    clear hb01
    go_enter Tryd.func16, Tryd.ntmps16
    go_wp2
    go_region_held3 (fun w' => w'.cell? ⟨w.heap.size, 0, none⟩ = some (.int .u64 (hI x)) ∧ w'.cell? ⟨w.heap.size, 1, none⟩ = some (.int .u64 (lI x)) ∧ w'.cell? ⟨w.heap.size, 2, none⟩ = some (.int .i64 n) ∧ w'.cell? ⟨w.heap.size + 1, 0, none⟩ = some (cv w' (w.heap.size + 1) 0) ∧ w'.cell? ⟨w.heap.size + 1, 1, none⟩ = some (cv w' (w.heap.size + 1) 1) ∧ w'.cell? ⟨w.heap.size + 1, 2, none⟩ = some (cv w' (w.heap.size + 1) 2) ∧ w'.frozen? ⟨w.heap.size + 1, 0, none⟩ = false ∧ w'.frozen? ⟨w.heap.size + 1, 1, none⟩ = false ∧ w'.frozen? ⟨w.heap.size + 1, 2, none⟩ = false ∧ Below w.heap.size w w')
      (first
        | (obtain ⟨k1, k2, k0, k3, k4, k5, k6, k7, k8, k9⟩ := ‹_ ∧ _›; exact ⟨keepc hb2 k1, keepc hb2 k2, keepc hb2 k0, cv_of (keepc hb2 k3), cv_of (keepc hb2 k4), cv_of (keepc hb2 k5), keepf hb2 k3 k6, keepf hb2 k4 k7, keepf hb2 k5 k8, keepb hb2 k9⟩)
        | (obtain ⟨k1, k2, k0, k3, k4, k5, k6, k7, k8, k9⟩ := ‹_ ∧ _›; exact ⟨keepc hb1 k1, keepc hb1 k2, keepc hb1 k0, cv_of (keepc hb1 k3), cv_of (keepc hb1 k4), cv_of (keepc hb1 k5), keepf hb1 k3 k6, keepf hb1 k4 k7, keepf hb1 k5 k8, keepb hb1 k9⟩)
        | (refine ⟨?_, ?_, ?_, cv_new ?_, cv_new ?_, cv_new ?_, ?_, ?_, ?_, ?_⟩ <;> first | (simp [go_sem, *]; done) | exact bset3 (by simp [*]) (by simp) _ _ _))
      (first | (go_at_call 39; refine (KB _).mono ?_; rintro e w1 ⟨rfl, hb1⟩) | (go_at_call 28; refine (KP _).mono ?_; rintro e w2 ⟨rfl, hb2⟩))
    obtain ⟨-, -, -, -, -, -, -, -, -, kB⟩ := ‹_ ∧ _›
    have e0 : w2.cell? ⟨w.heap.size + 1, 0, none⟩ = some (.int .u64 0) := keepc hb2 (keepc hb1 (by simp [go_sem]))
    have e1 : w2.cell? ⟨w.heap.size + 1, 1, none⟩ = some (.int .u64 0) := keepc hb2 (keepc hb1 (by simp [go_sem]))
    have e2 : w2.cell? ⟨w.heap.size + 1, 2, none⟩ = some (.int .i64 0) := keepc hb2 (keepc hb1 (by simp [go_sem]))
    go_wp2
    exact bodyPost_ret (v := .tuple #[.agg #[.int .u64 (hI c), .int .u64 (lI c), .int .i64 n], .bool true]) (by simp [results, Tryd.results16, go_sem, e0, e1, e2]) rfl ⟨rfl, kB⟩
end Go.Proofs.YthichmlcfoafpaaDoor
/-
  Whole prefixes and words, compared: one answer, without parting the ways.
-/
namespace Go.Proofs.YthichmlcfoafpaaDoor
open Go.RowKit
set_option linter.unusedSimpArgs false
set_option linter.unusedVariables false

theorem eqP_run (x : BitVec 128) (n : Int) (y : BitVec 128) (m : Int) (w : World) :
    (Op.equalIn 10000 27 (.agg #[.int .u64 (hI x), .int .u64 (lI x), .int .i64 n]) (.agg #[.int .u64 (hI y), .int .u64 (lI y), .int .i64 m])).run Tryd.prog w = .ok ((x == y) && (n == m)) w := by
  rcases eqw x y with ⟨q1, q2, q3⟩ | ⟨q1, q3⟩ | ⟨q1, q2, q3⟩
  all_goals
    rw [q3]
    go_simp
    try simp [*]
    try (by_cases e : n = m <;> simp [e])
theorem eqW_run (x y : BitVec 128) (w : World) :
    (Op.equalIn 10000 24 (.agg #[.int .u64 (hI x), .int .u64 (lI x)]) (.agg #[.int .u64 (hI y), .int .u64 (lI y)])).run Tryd.prog w = .ok (x == y) w := by
  rcases eqw x y with ⟨q1, q2, q3⟩ | ⟨q1, q3⟩ | ⟨q1, q2, q3⟩
  all_goals
    rw [q3]
    go_simp
    try simp [*]
end Go.Proofs.YthichmlcfoafpaaDoor
/-
  Plain facts: kids and siblings, told by the program and by the reference, are the same.
-/
namespace Go.Proofs.YthichmlcfoafpaaDoor
open Go.RowKit
set_option linter.unusedSimpArgs false
set_option linter.unusedVariables false

theorem bit1_bit (i : Int) (h0 : 0 ≤ i) (j : Nat) (hj : j < 128) : (bit1 i).getLsbD j = decide ((j : Int) = 127 - i) := by
  unfold bit1
  rw [BitVec.getLsbD_ushiftRight]
  by_cases c : i.toNat + j < 128
  · rw [maskW_bit 1 _ c]
    congr 1
    apply propext
    constructor
    · intro h
      have : 128 - (1 : Int).toNat = 127 := by decide
      omega
    · intro h
      have : 128 - (1 : Int).toNat = 127 := by decide
      omega
  · rw [BitVec.getLsbD_of_ge _ _ (by omega)]
    symm
    simp
    omega
/-- Behind its length a right prefix has no bits. -/
theorem rt_bit (F : Int) (x : BitVec 128) (n : Int) (h : Rt F x n) (j : Nat) (hj : j < 128) (hn : (j : Int) < 128 - n) : x.getLsbD j = false := by
  have hx := congrArg (fun z => z.getLsbD j) h.2.2
  simp only [cut_bit x n j hj] at hx
  have h0 := h.1
  have c : ¬ 128 - n.toNat ≤ j := by omega
  simp [c] at hx
  exact hx.symm ▸ rfl
theorem kid_put (F : Int) (x : BitVec 128) (n : Int) (h : Rt F x n) (h1 : F ≤ 128) (hn : n < F) : putW x n 1 = x ||| bit1 n := by
  apply BitVec.eq_of_getLsbD_eq
  intro j hj
  have h0 := h.1
  rw [putW_bit x n 1 (by omega) h0 (by omega) j hj, BitVec.getLsbD_or, bit1_bit n h0 j hj]
  by_cases c : j = (127 - n).toNat
  · have d : (j : Int) = 127 - n := by omega
    simp [c, d]
    omega
  · have d : ¬ (j : Int) = 127 - n := by omega
    simp [c, d]
theorem kidH_eq (F : Int) (x : BitVec 128) (n : Int) (h : Rt F x n) (h1 : F ≤ 128) : (if F ≤ n then 0#128 else putW x n 1) = kidH F x n := by
  unfold kidH
  by_cases c : F ≤ n
  · rw [if_pos c, if_pos c]
  · rw [if_neg c, if_neg c, kid_put F x n h h1 (by omega)]
theorem sib_eq (F : Int) (x : BitVec 128) (n : Int) (h : Rt F x n) (h1 : F ≤ 128) : rsibV x n = sibV x n := by
  have h0 := h.1
  have h2 := h.2.1
  unfold rsibV sibV
  by_cases c : n ≤ 0
  · rw [if_pos c, if_pos c]
  · rw [if_neg c, if_neg c]
    have hz : bitZ x (n - 1) = if x.getLsbD (127 - (n - 1).toNat) = true then 1 else 0 := by
      unfold bitZ bitB
      have e : decide (0 ≤ n - 1) = true := by simp; omega
      rw [e, Bool.true_and, BitVec.getMsbD_eq_getLsbD]
      have : decide ((n - 1).toNat < 128) = true := by simp; omega
      rw [this, Bool.true_and]
    apply BitVec.eq_of_getLsbD_eq
    intro j hj
    rw [putW_bit x (n - 1) _ (by rw [hz]; split <;> omega) (by omega) (by omega) j hj, BitVec.getLsbD_xor, bit1_bit (n - 1) (by omega) j hj]
    by_cases d : j = (127 - (n - 1)).toNat
    · have e : (j : Int) = 127 - (n - 1) := by omega
      rw [if_pos d, hz, show 127 - (n - 1).toNat = j by omega]
      cases x.getLsbD j <;> simp [e]
    · have e : ¬ (j : Int) = 127 - (n - 1) := by omega
      rw [if_neg d]
      simp [e]
end Go.Proofs.YthichmlcfoafpaaDoor
