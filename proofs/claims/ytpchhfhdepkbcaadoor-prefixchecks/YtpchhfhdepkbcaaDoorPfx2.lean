/-
  What the calls of package prefix's Within, Check, Of, Parent, Sibling, Meet, Cmp do.
-/
import Derived.Test.YtpchhfhdepkbcaaDoorPfx
import Derived.Test.YtpchhfhdepkbcaaDoorCnt2
namespace Go.Proofs.YtpchhfhdepkbcaaDoor
open Go.RowKit
set_option linter.unusedSimpArgs false
set_option linter.unusedVariables false

def withinB (x : BitVec 128) (n : Int) (y : BitVec 128) (m : Int) : Bool := decide (m ≤ n) && (cutW x m == y)
set_option maxHeartbeats 1000000 in
theorem pwithin_any (x : BitVec 128) (n : Int) (y : BitVec 128) (m : Int) (w : World) :
    Calls Tryd.prog 28 #[.agg #[.int .u64 (hI x), .int .u64 (lI x), .int .i64 n], .agg #[.int .u64 (hI y), .int .u64 (lI y), .int .i64 m]] w fun e w' => e = .returned (.bool (withinB x n y m)) ∧ Below w.heap.size w w' := by
  have KH := fun w => has_any y m x w
  unfold withinB
  generalize (cutW x m == y) = b at *
  by_cases h : m ≤ n
  · simp only [h, decide_true, Bool.true_and]
    go_enter Tryd.func28, Tryd.ntmps28
    go_wp2_with fail
    refine (KH _).mono ?_
    rintro e w1 ⟨rfl, hb1⟩
    have kB := keepb hb1 (bl2 w _ _)
    clear hb1
    go_wp2
    go_ret
    exact ⟨rfl, kB⟩
  · simp only [h, decide_false, Bool.false_and]
    go_enter Tryd.func28, Tryd.ntmps28
    go_wp2
    go_ret
    exact ⟨rfl, bl2 _ _ _⟩

def checkE (F : Int) (x : BitVec 128) (n : Int) : Int := if fam F = true then (if n < 0 then 13 else if F < n then 13 else if (cutW x n == x) = true then 0 else 14) else 11
set_option maxHeartbeats 1000000 in
theorem pcheck_any (F : Int) (x : BitVec 128) (n : Int) (w : World) :
    Calls Tryd.prog 21 #[.int .i64 F, .agg #[.int .u64 (hI x), .int .u64 (lI x), .int .i64 n]] w fun e w' => e = .returned (.int .i64 (checkE F x n)) ∧ Below w.heap.size w w' := by
  have KL := fun w => alast_any F w
  unfold lastV lastE at KL
  unfold checkE
  cases h : fam F
  · rw [if_neg (by simp)]
    rw [h, if_neg (by simp), if_neg (by simp), hI_zero, lI_zero] at KL
    clear h
    go_enter Tryd.func21, Tryd.ntmps21
    go_wp2_with fail
    refine (KL _).mono ?_
    rintro e w1 ⟨rfl, hb1⟩
    have kB := keepb hb1 (bl1 w _)
    clear hb1 KL
    go_wp2
    go_ret
    exact ⟨rfl, kB.alloc (by have := kB.size; omega) _⟩
  · rw [if_pos rfl]
    rw [h, if_pos rfl, if_pos rfl] at KL
    clear h
    generalize maskW F = m at *
    have KC := fun w => cut_any x n w
    revert KC
    generalize cutW x n = c
    intro KC
    have hnn : (n == n) = true := by simp
    by_cases h0 : n < 0
    · rw [if_pos h0]
      go_enter Tryd.func21, Tryd.ntmps21
      go_wp2_with fail
      refine (KL _).mono ?_
      rintro e w1 ⟨rfl, hb1⟩
      have kB := keepb hb1 (bl1 w _)
      obtain ⟨p0, p1, p2, -, -, -⟩ := ((atp_new w w.heap.size x n 41 rfl).below hb1).below (bl1 _ (.cells #[.int .u64 (hI m), .int .u64 (lI m)] 24))
      clear hb1 KL
      go_wp2
      go_ret
      exact ⟨rfl, kB.alloc (by have := kB.size; omega) _⟩
    by_cases h1 : F < n
    · rw [if_neg h0, if_pos h1]
      go_enter Tryd.func21, Tryd.ntmps21
      go_wp2_with fail
      refine (KL _).mono ?_
      rintro e w1 ⟨rfl, hb1⟩
      have kB := keepb hb1 (bl1 w _)
      obtain ⟨p0, p1, p2, -, -, -⟩ := ((atp_new w w.heap.size x n 41 rfl).below hb1).below (bl1 _ (.cells #[.int .u64 (hI m), .int .u64 (lI m)] 24))
      clear hb1 KL
      go_wp2
      go_ret
      exact ⟨rfl, kB.alloc (by have := kB.size; omega) _⟩
    rw [if_neg h0, if_neg h1]
    rcases eqw c x with ⟨q1, q2, q3⟩ | ⟨q1, q3⟩ | ⟨q1, q2, q3⟩
    all_goals
      rw [q3]
      first | rw [if_pos rfl] | rw [if_neg (by simp)]
      clear q3
      go_enter Tryd.func21, Tryd.ntmps21
      go_wp2_with fail
      refine (KL _).mono ?_
      rintro e w1 ⟨rfl, hb1⟩
      have kB := keepb hb1 (bl1 w _)
      obtain ⟨p0, p1, p2, -, -, -⟩ := ((atp_new w w.heap.size x n 41 rfl).below hb1).below (bl1 _ (.cells #[.int .u64 (hI m), .int .u64 (lI m)] 24))
      have kB2 := (kB.alloc (by have := kB.size; omega) (.cells #[.int .u64 (hI m), .int .u64 (lI m)] 24)).drew
      clear hb1 KL kB
      go_wp2_with fail
      go_region_held3 (fun w' => w'.cell? ⟨w.heap.size, 0, none⟩ = some (.int .u64 (hI x)) ∧ w'.cell? ⟨w.heap.size, 1, none⟩ = some (.int .u64 (lI x)) ∧ w'.cell? ⟨w.heap.size, 2, none⟩ = some (.int .i64 n) ∧ Below w.heap.size w w')
        (first
          | (obtain ⟨k1, k2, k3, k9⟩ := ‹_ ∧ _›; exact ⟨keepc hb3 k1, keepc hb3 k2, keepc hb3 k3, keepb hb3 k9⟩)
          | exact ⟨p0, p1, p2, kB2⟩)
        (first | (go_at_call 56; refine (KC _).mono ?_; rintro e w3 ⟨rfl, hb3⟩))
      obtain ⟨-, -, -, kB3⟩ := ‹_ ∧ _›
      go_wp2
      go_ret
      exact ⟨rfl, kB3⟩

def ofE (F : Int) (x : BitVec 128) (n : Int) : Int := if rightE F x = 0 then checkE F (cutW x n) n else rightE F x
def ofV (F : Int) (x : BitVec 128) (n : Int) : BitVec 128 := if ofE F x n = 0 then cutW x n else 0#128
def ofN (F : Int) (x : BitVec 128) (n : Int) : Int := if ofE F x n = 0 then n else 0
set_option maxHeartbeats 1000000 in
theorem pof_any (F : Int) (x : BitVec 128) (n : Int) (w : World) :
    Calls Tryd.prog 18 #[.int .i64 F, .agg #[.int .u64 (hI x), .int .u64 (lI x)], .int .i64 n] w fun e w' => e = .returned (.tuple #[.agg #[.int .u64 (hI (ofV F x n)), .int .u64 (lI (ofV F x n)), .int .i64 (ofN F x n)], .int .i64 (ofE F x n)]) ∧ Below w.heap.size w w' := by
  have KR := fun w => aright_any F x w
  have KC := fun w => cut_any x n w
  have KK := fun w => pcheck_any F (cutW x n) n w
  unfold ofV ofN ofE
  generalize rightE F x = r at *
  generalize checkE F (cutW x n) n = k at *
  generalize cutW x n = c at *
  by_cases hr : r = 0
  · subst hr
    rw [if_pos rfl]
    by_cases hk : k = 0
    · subst hk
      rw [if_pos rfl, if_pos rfl]
      go_enter Tryd.func18, Tryd.ntmps18
      go_wp2_with fail
      refine (KR _).mono ?_
      rintro e w1 ⟨rfl, hb1⟩
      have X1 := ((at_new w w.heap.size x 24 rfl).below (bl1 _ (.cells #[.int .u64 0, .int .u64 0, .int .i64 0] 41))).below hb1
      have Z1 := (atp_new (w.alloc (.cells #[.int .u64 (hI x), .int .u64 (lI x)] 24)) (w.heap.size + 1) 0#128 0 41 (by simp)).below hb1
      have kB1 := keepb hb1 (bl2 w _ _)
      obtain ⟨x0, x1, -, -, -⟩ := id X1
      clear hb1 KR
      go_wp2_with fail
      refine (KC _).mono ?_
      rintro e w2 ⟨rfl, hb2⟩
      have Z2 := (Z1.below hb2).below (bl1 _ (.cells #[.int .u64 (hI c), .int .u64 (lI c), .int .i64 n] 41))
      have C2 := atp_new w2 w2.heap.size c n 41 rfl
      have kB2 := (keepb hb2 kB1).alloc (keepb hb2 kB1).size (.cells #[.int .u64 (hI c), .int .u64 (lI c), .int .i64 n] 41)
      clear x0 x1 X1 Z1 kB1 hb2 KC
      obtain ⟨c0, c1, c2, -, -, -⟩ := id C2
      go_wp2_with fail
      refine (KK _).mono ?_
      rintro e w3 ⟨rfl, hb3⟩
      obtain ⟨z0, z1, z2, z3, z4, z5⟩ := Z2.below hb3
      clear c0 c1 c2
      obtain ⟨c0, c1, c2, -, -, -⟩ := C2.below hb3
      have kB3 := keepb hb3 kB2
      clear Z2 C2 kB2 hb3 KK
      go_wp2
      exact bodyPost_ret (v := .tuple #[.agg #[.int .u64 (hI c), .int .u64 (lI c), .int .i64 n], .int .i64 0]) (by simp [results, Tryd.results18, go_sem, *]) rfl ⟨rfl, bset3 kB3 (by omega) _ _ _⟩
    · have hkb : (k != 0) = true := by simp [hk]
      rw [if_neg hk, if_neg hk, hI_zero, lI_zero]
      go_enter Tryd.func18, Tryd.ntmps18
      go_wp2_with fail
      refine (KR _).mono ?_
      rintro e w1 ⟨rfl, hb1⟩
      have X1 := ((at_new w w.heap.size x 24 rfl).below (bl1 _ (.cells #[.int .u64 0, .int .u64 0, .int .i64 0] 41))).below hb1
      have Z1 := (atp_new (w.alloc (.cells #[.int .u64 (hI x), .int .u64 (lI x)] 24)) (w.heap.size + 1) 0#128 0 41 (by simp)).below hb1
      have kB1 := keepb hb1 (bl2 w _ _)
      obtain ⟨x0, x1, -, -, -⟩ := id X1
      clear hb1 KR
      go_wp2_with fail
      refine (KC _).mono ?_
      rintro e w2 ⟨rfl, hb2⟩
      have Z2 := (Z1.below hb2).below (bl1 _ (.cells #[.int .u64 (hI c), .int .u64 (lI c), .int .i64 n] 41))
      have C2 := atp_new w2 w2.heap.size c n 41 rfl
      have kB2 := (keepb hb2 kB1).alloc (keepb hb2 kB1).size (.cells #[.int .u64 (hI c), .int .u64 (lI c), .int .i64 n] 41)
      clear x0 x1 X1 Z1 kB1 hb2 KC
      obtain ⟨c0, c1, c2, -, -, -⟩ := id C2
      go_wp2_with fail
      refine (KK _).mono ?_
      rintro e w3 ⟨rfl, hb3⟩
      obtain ⟨z0, z1, z2, z3, z4, z5⟩ := Z2.below hb3
      have kB3 := keepb hb3 kB2
      clear c0 c1 c2 Z2 C2 kB2 hb3 KK
      go_wp2
      exact bodyPost_ret (v := .tuple #[.agg #[.int .u64 0, .int .u64 0, .int .i64 0], .int .i64 k]) (by simp [results, Tryd.results18, go_sem, *]) rfl ⟨rfl, bset3 kB3 (by omega) _ _ _⟩
  · have hrb : (r != 0) = true := by simp [hr]
    rw [if_neg hr, if_neg hr, if_neg hr, hI_zero, lI_zero]
    go_enter Tryd.func18, Tryd.ntmps18
    go_wp2_with fail
    refine (KR _).mono ?_
    rintro e w1 ⟨rfl, hb1⟩
    obtain ⟨z0, z1, z2, z3, z4, z5⟩ := (atp_new (w.alloc (.cells #[.int .u64 (hI x), .int .u64 (lI x)] 24)) (w.heap.size + 1) 0#128 0 41 (by simp)).below hb1
    have kB1 := keepb hb1 (bl2 w _ _)
    clear hb1 KR
    go_wp2
    exact bodyPost_ret (v := .tuple #[.agg #[.int .u64 0, .int .u64 0, .int .i64 0], .int .i64 r]) (by simp [results, Tryd.results18, go_sem, *]) rfl ⟨rfl, bset3 kB1 (by omega) _ _ _⟩
end Go.Proofs.YtpchhfhdepkbcaaDoor
