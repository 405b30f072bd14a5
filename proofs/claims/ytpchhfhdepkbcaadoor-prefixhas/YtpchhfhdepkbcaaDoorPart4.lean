/-
  Part 4 of the proof: 8 texts, one behind the other.
-/
import Derived.Test.YtpchhfhdepkbcaaDoorPart3
import Derived.Test.YtpchhfhdepkbcaaDoorPart2
import Derived.Test.YtpchhfhdepkbcaaDoorPart1
import Derived.Deep.QuietTactic
import Derived.BigQuiet
/-
  What the calls of package prefix's Within, Check, Of, Parent, Sibling, Meet, Cmp do.
-/
namespace Go.Proofs.YtpchhfhdepkbcaaDoor
open Go.RowKit
set_option linter.unusedSimpArgs false
set_option linter.unusedVariables false

def withinB (x : BitVec 128) (n : Int) (y : BitVec 128) (m : Int) : Bool := decide (m ≤ n) && (cutW x m == y)
set_option maxHeartbeats 1000000 in
theorem pwithin_any (x : BitVec 128) (n : Int) (y : BitVec 128) (m : Int) (w : World) :
    Calls Tryd.prog 28 #[.agg #[.int .u64 (hI x), .int .u64 (lI x), .int .i64 n], .agg #[.int .u64 (hI y), .int .u64 (lI y), .int .i64 m]] w fun e w' => e = .returned (.bool (withinB x n y m)) ∧ Below w.heap.size w w' := by
  have KH := fun w => has_any y m x w
  unfold withinB
  generalize (cutW x m == y) = b at *
  by_cases h : m ≤ n
  · simp only [h, decide_true, Bool.true_and]
    go_enter Tryd.func28, Tryd.ntmps28
    go_wp2_with fail
    refine (KH _).mono ?_
    rintro e w1 ⟨rfl, hb1⟩
    have kB := keepb hb1 (bl2 w _ _)
    clear hb1
    go_wp2
    go_ret
    exact ⟨rfl, kB⟩
  · simp only [h, decide_false, Bool.false_and]
    go_enter Tryd.func28, Tryd.ntmps28
    go_wp2
    go_ret
    exact ⟨rfl, bl2 _ _ _⟩

def checkE (F : Int) (x : BitVec 128) (n : Int) : Int := if fam F = true then (if n < 0 then 13 else if F < n then 13 else if (cutW x n == x) = true then 0 else 14) else 11
set_option maxHeartbeats 1000000 in
theorem pcheck_any (F : Int) (x : BitVec 128) (n : Int) (w : World) :
    Calls Tryd.prog 21 #[.int .i64 F, .agg #[.int .u64 (hI x), .int .u64 (lI x), .int .i64 n]] w fun e w' => e = .returned (.int .i64 (checkE F x n)) ∧ Below w.heap.size w w' := by
  have KL := fun w => alast_any F w
  unfold lastV lastE at KL
  unfold checkE
  cases h : fam F
  · rw [if_neg (by simp)]
    rw [h, if_neg (by simp), if_neg (by simp), hI_zero, lI_zero] at KL
    clear h
    go_enter Tryd.func21, Tryd.ntmps21
    go_wp2_with fail
    refine (KL _).mono ?_
    rintro e w1 ⟨rfl, hb1⟩
    have kB := keepb hb1 (bl1 w _)
    clear hb1 KL
    go_wp2
    go_ret
    exact ⟨rfl, kB.alloc (by have := kB.size; omega) _⟩
  · rw [if_pos rfl]
    rw [h, if_pos rfl, if_pos rfl] at KL
    clear h
    generalize maskW F = m at *
    have KC := fun w => cut_any x n w
    revert KC
    generalize cutW x n = c
    intro KC
    have hnn : (n == n) = true := by simp
    by_cases h0 : n < 0
    · rw [if_pos h0]
      go_enter Tryd.func21, Tryd.ntmps21
      go_wp2_with fail
      refine (KL _).mono ?_
      rintro e w1 ⟨rfl, hb1⟩
      have kB := keepb hb1 (bl1 w _)
      obtain ⟨p0, p1, p2, -, -, -⟩ := ((atp_new w w.heap.size x n 41 rfl).below hb1).below (bl1 _ (.cells #[.int .u64 (hI m), .int .u64 (lI m)] 24))
      clear hb1 KL
      go_wp2
      go_ret
      exact ⟨rfl, kB.alloc (by have := kB.size; omega) _⟩
    by_cases h1 : F < n
    · rw [if_neg h0, if_pos h1]
      go_enter Tryd.func21, Tryd.ntmps21
      go_wp2_with fail
      refine (KL _).mono ?_
      rintro e w1 ⟨rfl, hb1⟩
      have kB := keepb hb1 (bl1 w _)
      obtain ⟨p0, p1, p2, -, -, -⟩ := ((atp_new w w.heap.size x n 41 rfl).below hb1).below (bl1 _ (.cells #[.int .u64 (hI m), .int .u64 (lI m)] 24))
      clear hb1 KL
      go_wp2
      go_ret
      exact ⟨rfl, kB.alloc (by have := kB.size; omega) _⟩
    rw [if_neg h0, if_neg h1]
    rcases eqw c x with ⟨q1, q2, q3⟩ | ⟨q1, q3⟩ | ⟨q1, q2, q3⟩
    all_goals
      rw [q3]
      first | rw [if_pos rfl] | rw [if_neg (by simp)]
      clear q3
      go_enter Tryd.func21, Tryd.ntmps21
      go_wp2_with fail
      refine (KL _).mono ?_
      rintro e w1 ⟨rfl, hb1⟩
      have kB := keepb hb1 (bl1 w _)
      obtain ⟨p0, p1, p2, -, -, -⟩ := ((atp_new w w.heap.size x n 41 rfl).below hb1).below (bl1 _ (.cells #[.int .u64 (hI m), .int .u64 (lI m)] 24))
      have kB2 := (kB.alloc (by have := kB.size; omega) (.cells #[.int .u64 (hI m), .int .u64 (lI m)] 24)).drew
      clear hb1 KL kB
      go_wp2_with fail
      go_region_held3 (fun w' => w'.cell? ⟨w.heap.size, 0, none⟩ = some (.int .u64 (hI x)) ∧ w'.cell? ⟨w.heap.size, 1, none⟩ = some (.int .u64 (lI x)) ∧ w'.cell? ⟨w.heap.size, 2, none⟩ = some (.int .i64 n) ∧ Below w.heap.size w w')
        (first
          | (obtain ⟨k1, k2, k3, k9⟩ := ‹_ ∧ _›; exact ⟨keepc hb3 k1, keepc hb3 k2, keepc hb3 k3, keepb hb3 k9⟩)
          | exact ⟨p0, p1, p2, kB2⟩)
        (first | (go_at_call 56; refine (KC _).mono ?_; rintro e w3 ⟨rfl, hb3⟩))
      obtain ⟨-, -, -, kB3⟩ := ‹_ ∧ _›
      go_wp2
      go_ret
      exact ⟨rfl, kB3⟩

def ofE (F : Int) (x : BitVec 128) (n : Int) : Int := if rightE F x = 0 then checkE F (cutW x n) n else rightE F x
def ofV (F : Int) (x : BitVec 128) (n : Int) : BitVec 128 := if ofE F x n = 0 then cutW x n else 0#128
def ofN (F : Int) (x : BitVec 128) (n : Int) : Int := if ofE F x n = 0 then n else 0
set_option maxHeartbeats 1000000 in
theorem pof_any (F : Int) (x : BitVec 128) (n : Int) (w : World) :
    Calls Tryd.prog 18 #[.int .i64 F, .agg #[.int .u64 (hI x), .int .u64 (lI x)], .int .i64 n] w fun e w' => e = .returned (.tuple #[.agg #[.int .u64 (hI (ofV F x n)), .int .u64 (lI (ofV F x n)), .int .i64 (ofN F x n)], .int .i64 (ofE F x n)]) ∧ Below w.heap.size w w' := by
  have KR := fun w => aright_any F x w
  have KC := fun w => cut_any x n w
  have KK := fun w => pcheck_any F (cutW x n) n w
  unfold ofV ofN ofE
  generalize rightE F x = r at *
  generalize checkE F (cutW x n) n = k at *
  generalize cutW x n = c at *
  by_cases hr : r = 0
  · subst hr
    rw [if_pos rfl]
    by_cases hk : k = 0
    · subst hk
      rw [if_pos rfl, if_pos rfl]
      go_enter Tryd.func18, Tryd.ntmps18
      go_wp2_with fail
      refine (KR _).mono ?_
      rintro e w1 ⟨rfl, hb1⟩
      have X1 := ((at_new w w.heap.size x 24 rfl).below (bl1 _ (.cells #[.int .u64 0, .int .u64 0, .int .i64 0] 41))).below hb1
      have Z1 := (atp_new (w.alloc (.cells #[.int .u64 (hI x), .int .u64 (lI x)] 24)) (w.heap.size + 1) 0#128 0 41 (by simp)).below hb1
      have kB1 := keepb hb1 (bl2 w _ _)
      obtain ⟨x0, x1, -, -, -⟩ := id X1
      clear hb1 KR
      go_wp2_with fail
      refine (KC _).mono ?_
      rintro e w2 ⟨rfl, hb2⟩
      have Z2 := (Z1.below hb2).below (bl1 _ (.cells #[.int .u64 (hI c), .int .u64 (lI c), .int .i64 n] 41))
      have C2 := atp_new w2 w2.heap.size c n 41 rfl
      have kB2 := (keepb hb2 kB1).alloc (keepb hb2 kB1).size (.cells #[.int .u64 (hI c), .int .u64 (lI c), .int .i64 n] 41)
      clear x0 x1 X1 Z1 kB1 hb2 KC
      obtain ⟨c0, c1, c2, -, -, -⟩ := id C2
      go_wp2_with fail
      refine (KK _).mono ?_
      rintro e w3 ⟨rfl, hb3⟩
      obtain ⟨z0, z1, z2, z3, z4, z5⟩ := Z2.below hb3
      clear c0 c1 c2
      obtain ⟨c0, c1, c2, -, -, -⟩ := C2.below hb3
      have kB3 := keepb hb3 kB2
      clear Z2 C2 kB2 hb3 KK
      go_wp2
      exact bodyPost_ret (v := .tuple #[.agg #[.int .u64 (hI c), .int .u64 (lI c), .int .i64 n], .int .i64 0]) (by simp [results, Tryd.results18, go_sem, *]) rfl ⟨rfl, bset3 kB3 (by omega) _ _ _⟩
    · have hkb : (k != 0) = true := by simp [hk]
      rw [if_neg hk, if_neg hk, hI_zero, lI_zero]
      go_enter Tryd.func18, Tryd.ntmps18
      go_wp2_with fail
      refine (KR _).mono ?_
      rintro e w1 ⟨rfl, hb1⟩
      have X1 := ((at_new w w.heap.size x 24 rfl).below (bl1 _ (.cells #[.int .u64 0, .int .u64 0, .int .i64 0] 41))).below hb1
      have Z1 := (atp_new (w.alloc (.cells #[.int .u64 (hI x), .int .u64 (lI x)] 24)) (w.heap.size + 1) 0#128 0 41 (by simp)).below hb1
      have kB1 := keepb hb1 (bl2 w _ _)
      obtain ⟨x0, x1, -, -, -⟩ := id X1
      clear hb1 KR
      go_wp2_with fail
      refine (KC _).mono ?_
      rintro e w2 ⟨rfl, hb2⟩
      have Z2 := (Z1.below hb2).below (bl1 _ (.cells #[.int .u64 (hI c), .int .u64 (lI c), .int .i64 n] 41))
      have C2 := atp_new w2 w2.heap.size c n 41 rfl
      have kB2 := (keepb hb2 kB1).alloc (keepb hb2 kB1).size (.cells #[.int .u64 (hI c), .int .u64 (lI c), .int .i64 n] 41)
      clear x0 x1 X1 Z1 kB1 hb2 KC
      obtain ⟨c0, c1, c2, -, -, -⟩ := id C2
      go_wp2_with fail
      refine (KK _).mono ?_
      rintro e w3 ⟨rfl, hb3⟩
      obtain ⟨z0, z1, z2, z3, z4, z5⟩ := Z2.below hb3
      have kB3 := keepb hb3 kB2
      clear c0 c1 c2 Z2 C2 kB2 hb3 KK
      go_wp2
      exact bodyPost_ret (v := .tuple #[.agg #[.int .u64 0, .int .u64 0, .int .i64 0], .int .i64 k]) (by simp [results, Tryd.results18, go_sem, *]) rfl ⟨rfl, bset3 kB3 (by omega) _ _ _⟩
  · have hrb : (r != 0) = true := by simp [hr]
    rw [if_neg hr, if_neg hr, if_neg hr, hI_zero, lI_zero]
    go_enter Tryd.func18, Tryd.ntmps18
    go_wp2_with fail
    refine (KR _).mono ?_
    rintro e w1 ⟨rfl, hb1⟩
    obtain ⟨z0, z1, z2, z3, z4, z5⟩ := (atp_new (w.alloc (.cells #[.int .u64 (hI x), .int .u64 (lI x)] 24)) (w.heap.size + 1) 0#128 0 41 (by simp)).below hb1
    have kB1 := keepb hb1 (bl2 w _ _)
    clear hb1 KR
    go_wp2
    exact bodyPost_ret (v := .tuple #[.agg #[.int .u64 0, .int .u64 0, .int .i64 0], .int .i64 r]) (by simp [results, Tryd.results18, go_sem, *]) rfl ⟨rfl, bset3 kB1 (by omega) _ _ _⟩
end Go.Proofs.YtpchhfhdepkbcaaDoor
/-
  What the calls of package prefix's Parent, Sibling, Cmp, Meet do, of right prefixes.
-/
namespace Go.Proofs.YtpchhfhdepkbcaaDoor
open Go.RowKit
set_option linter.unusedSimpArgs false
set_option linter.unusedVariables false

def parentV (x : BitVec 128) (n : Int) : BitVec 128 := if n ≤ 0 then 0#128 else cutW x (n - 1)
def parentN (n : Int) : Int := if n ≤ 0 then 0 else n - 1
set_option maxHeartbeats 1000000 in
theorem pparent_any (x : BitVec 128) (n : Int) (w : World) (h0 : 0 ≤ n) (h1 : n ≤ 128) :
    Calls Tryd.prog 33 #[.agg #[.int .u64 (hI x), .int .u64 (lI x), .int .i64 n]] w fun e w' => e = .returned (.tuple #[.agg #[.int .u64 (hI (parentV x n)), .int .u64 (lI (parentV x n)), .int .i64 (parentN n)], .bool (decide (0 < n))]) ∧ Below w.heap.size w w' := by
  unfold parentV parentN
  by_cases h : n ≤ 0
  · have h' : ¬ 0 < n := by omega
    rw [if_pos h, if_pos h, hI_zero, lI_zero]
    simp only [h', decide_false]
    go_enter Tryd.func33, Tryd.ntmps33
    go_wp2
    exact bodyPost_ret (v := .tuple #[.agg #[.int .u64 0, .int .u64 0, .int .i64 0], .bool false]) (by simp [results, Tryd.results33, go_sem, *]) rfl ⟨rfl, bl2 _ _ _⟩
  · have h' : 0 < n := by omega
    have hu : IntKind.i64.wrap (n - 1) = n - 1 := by rw [IntKind.wrap_i64]; omega
    rw [if_neg h, if_neg h]
    simp only [h', decide_true]
    have KC := fun w => cut_any x (n - 1) w
    generalize cutW x (n - 1) = c at *
    go_enter Tryd.func33, Tryd.ntmps33
    go_wp2_with fail
    refine (KC _).mono ?_
    rintro e w1 ⟨rfl, hb1⟩
    obtain ⟨z0, z1, z2, z3, z4, z5⟩ := (atp_new (w.alloc (.cells #[.int .u64 (hI x), .int .u64 (lI x), .int .i64 n] 41)) (w.heap.size + 1) 0#128 0 41 (by simp)).below hb1
    have kB1 := keepb hb1 (bl2 w _ _)
    clear hb1 KC
    go_wp2
    exact bodyPost_ret (v := .tuple #[.agg #[.int .u64 (hI c), .int .u64 (lI c), .int .i64 (n - 1)], .bool true]) (by simp [results, Tryd.results33, go_sem, *]) rfl ⟨rfl, bset3 kB1 (by omega) _ _ _⟩

def sibV (x : BitVec 128) (n : Int) : BitVec 128 := if n ≤ 0 then 0#128 else x ^^^ bit1 (n - 1)
def sibN (n : Int) : Int := if n ≤ 0 then 0 else n
set_option maxHeartbeats 1000000 in
theorem psib_any (x : BitVec 128) (n : Int) (w : World) (h0 : 0 ≤ n) (h1 : n ≤ 128) :
    Calls Tryd.prog 35 #[.agg #[.int .u64 (hI x), .int .u64 (lI x), .int .i64 n]] w fun e w' => e = .returned (.tuple #[.agg #[.int .u64 (hI (sibV x n)), .int .u64 (lI (sibV x n)), .int .i64 (sibN n)], .bool (decide (0 < n))]) ∧ Below w.heap.size w w' := by
  unfold sibV sibN
  by_cases h : n ≤ 0
  · have h' : ¬ 0 < n := by omega
    rw [if_pos h, if_pos h, hI_zero, lI_zero]
    simp only [h', decide_false]
    go_enter Tryd.func35, Tryd.ntmps35
    go_wp2
    exact bodyPost_ret (v := .tuple #[.agg #[.int .u64 0, .int .u64 0, .int .i64 0], .bool false]) (by simp [results, Tryd.results35, go_sem, *]) rfl ⟨rfl, bl2 _ _ _⟩
  · have h' : 0 < n := by omega
    have hu : IntKind.i64.wrap (n - 1) = n - 1 := by rw [IntKind.wrap_i64]; omega
    have hbl := fun o p => (bl2 w o p).drew
    rw [if_neg h, if_neg h]
    simp only [h', decide_true]
    have KB := fun w => pbit_any (n - 1) w
    revert KB
    generalize bit1 (n - 1) = b
    intro KB
    go_enter Tryd.func35, Tryd.ntmps35
    go_wp2
    go_region_held3 (fun w' => w'.cell? ⟨w.heap.size, 0, none⟩ = some (.int .u64 (hI x)) ∧ w'.cell? ⟨w.heap.size, 1, none⟩ = some (.int .u64 (lI x)) ∧ w'.cell? ⟨w.heap.size, 2, none⟩ = some (.int .i64 n) ∧ w'.cell? ⟨w.heap.size + 1, 0, none⟩ = some (cv w' (w.heap.size + 1) 0) ∧ w'.cell? ⟨w.heap.size + 1, 1, none⟩ = some (cv w' (w.heap.size + 1) 1) ∧ w'.cell? ⟨w.heap.size + 1, 2, none⟩ = some (cv w' (w.heap.size + 1) 2) ∧ w'.frozen? ⟨w.heap.size + 1, 0, none⟩ = false ∧ w'.frozen? ⟨w.heap.size + 1, 1, none⟩ = false ∧ w'.frozen? ⟨w.heap.size + 1, 2, none⟩ = false ∧ Below w.heap.size w w')
      (first
        | (obtain ⟨k1, k2, k0, k3, k4, k5, k6, k7, k8, k9⟩ := ‹_ ∧ _›; exact ⟨keepc hb2 k1, keepc hb2 k2, keepc hb2 k0, cv_of (keepc hb2 k3), cv_of (keepc hb2 k4), cv_of (keepc hb2 k5), keepf hb2 k3 k6, keepf hb2 k4 k7, keepf hb2 k5 k8, keepb hb2 k9⟩)
        | (obtain ⟨k1, k2, k0, k3, k4, k5, k6, k7, k8, k9⟩ := ‹_ ∧ _›; exact ⟨keepc hb1 k1, keepc hb1 k2, keepc hb1 k0, cv_of (keepc hb1 k3), cv_of (keepc hb1 k4), cv_of (keepc hb1 k5), keepf hb1 k3 k6, keepf hb1 k4 k7, keepf hb1 k5 k8, keepb hb1 k9⟩)
        | (refine ⟨?_, ?_, ?_, cv_new ?_, cv_new ?_, cv_new ?_, ?_, ?_, ?_, ?_⟩ <;> first | (simp [go_sem, *]; done) | exact bset3 (by simp [*]) (by simp) _ _ _))
      (first | (go_at_call 66; refine (KB _).mono ?_; rintro e w1 ⟨rfl, hb1⟩) | (go_at_call 62; refine (xor_any _ _ _).mono ?_; rintro e w2 ⟨rfl, hb2⟩))
    obtain ⟨-, -, -, -, -, -, -, -, -, kB⟩ := ‹_ ∧ _›
    have e0 : w2.cell? ⟨w.heap.size + 1, 0, none⟩ = some (.int .u64 0) := keepc hb2 (keepc hb1 (by simp [go_sem]))
    have e1 : w2.cell? ⟨w.heap.size + 1, 1, none⟩ = some (.int .u64 0) := keepc hb2 (keepc hb1 (by simp [go_sem]))
    have e2 : w2.cell? ⟨w.heap.size + 1, 2, none⟩ = some (.int .i64 0) := keepc hb2 (keepc hb1 (by simp [go_sem]))
    go_wp2
    exact bodyPost_ret (v := .tuple #[.agg #[.int .u64 (hI (x ^^^ b)), .int .u64 (lI (x ^^^ b)), .int .i64 n], .bool true]) (by simp [results, Tryd.results35, go_sem, e0, e1, e2]) rfl ⟨rfl, kB⟩

def cmpI (a b : Int) : Int := if a < b then -1 else if b < a then 1 else 0
theorem compare_any (a b : Int) (w : World) :
    Calls Tryd.prog 70 #[.int .i64 a, .int .i64 b] w fun e w' => e = .returned (.int .i64 (cmpI a b)) ∧ w' = w := by
  unfold cmpI
  have haa : (a != a) = false := by simp
  have hbb : (b != b) = false := by simp
  by_cases h : a < b
  · rw [if_pos h]
    go_enter Tryd.func70, Tryd.ntmps70
    go_wp2_with go_in
    go_ret
    exact ⟨rfl, rfl⟩
  · rw [if_neg h]
    by_cases h2 : b < a
    · rw [if_pos h2]
      go_enter Tryd.func70, Tryd.ntmps70
      go_wp2_with go_in
      go_ret
      exact ⟨rfl, rfl⟩
    · rw [if_neg h2]
      go_enter Tryd.func70, Tryd.ntmps70
      go_wp2_with go_in
      go_ret
      exact ⟨rfl, rfl⟩
def pcmpZ (x : BitVec 128) (n : Int) (y : BitVec 128) (m : Int) : Int := if cmpZ x y = 0 then cmpI n m else cmpZ x y
set_option maxHeartbeats 1000000 in
theorem pcmp_any (x : BitVec 128) (n : Int) (y : BitVec 128) (m : Int) (w : World) :
    Calls Tryd.prog 41 #[.agg #[.int .u64 (hI x), .int .u64 (lI x), .int .i64 n], .agg #[.int .u64 (hI y), .int .u64 (lI y), .int .i64 m]] w fun e w' => e = .returned (.int .i64 (pcmpZ x n y m)) ∧ Below w.heap.size w w' := by
  have KC := fun w => cmp_any x y w
  have KM := fun w => compare_any n m w
  unfold pcmpZ
  generalize cmpZ x y = c at *
  generalize cmpI n m = d at *
  by_cases h : c = 0
  · subst h
    rw [if_pos rfl]
    go_enter Tryd.func41, Tryd.ntmps41
    go_wp2_with fail
    refine (KC _).mono ?_
    rintro e w1 ⟨rfl, hb1⟩
    have kB := keepb hb1 (bl2 w _ _)
    obtain ⟨p0, p1, p2, -, -, -⟩ := ((atp_new w w.heap.size x n 41 rfl).below (bl1 _ (.cells #[.int .u64 (hI y), .int .u64 (lI y), .int .i64 m] 41))).below hb1
    obtain ⟨r0, r1, r2, -, -, -⟩ := (atp_new (w.alloc (.cells #[.int .u64 (hI x), .int .u64 (lI x), .int .i64 n] 41)) (w.heap.size + 1) y m 41 (by simp)).below hb1
    clear hb1 KC
    go_wp2_with fail
    refine (KM _).mono ?_
    rintro e w2 ⟨rfl, rfl⟩
    go_wp2
    go_ret
    exact ⟨rfl, kB⟩
  · have hb : (c != 0) = true := by simp [h]
    rw [if_neg h]
    go_enter Tryd.func41, Tryd.ntmps41
    go_wp2_with fail
    refine (KC _).mono ?_
    rintro e w1 ⟨rfl, hb1⟩
    have kB := keepb hb1 (bl2 w _ _)
    clear hb1 KC
    go_wp2
    go_ret
    exact ⟨rfl, kB⟩
end Go.Proofs.YtpchhfhdepkbcaaDoor
/-
  What the calls of package prefix's Meet, Last, Kids do, of right prefixes.
-/
namespace Go.Proofs.YtpchhfhdepkbcaaDoor
open Go.RowKit
set_option linter.unusedSimpArgs false
set_option linter.unusedVariables false

theorem run_min3 {P : Program} (w : World) (ts : Array TypeId) (t : TypeId) (x y z : Int) :
    (Builtin.min_ ts t #[.int .i64 x, .int .i64 y, .int .i64 z]).run P w = .ok (.int .i64 (min (min x y) z)) w := by
  have e : ∀ x y : Int, (if y < x then y else x) = min x y := fun x y => by
    rw [Int.min_def]
    split <;> split <;> omega
  simp [Builtin.min_, Builtin.min2, e]
def meetN (x : BitVec 128) (n : Int) (y : BitVec 128) (m : Int) : Int := min (min n m) ((leadN (x ^^^ y) : Nat) : Int)
set_option maxHeartbeats 1000000 in
set_option maxRecDepth 20000 in
theorem pmeet_any (x : BitVec 128) (n : Int) (y : BitVec 128) (m : Int) (w : World) :
    Calls Tryd.prog 39 #[.agg #[.int .u64 (hI x), .int .u64 (lI x), .int .i64 n], .agg #[.int .u64 (hI y), .int .u64 (lI y), .int .i64 m]] w fun e w' => e = .returned (.agg #[.int .u64 (hI (cutW x (meetN x n y m))), .int .u64 (lI (cutW x (meetN x n y m))), .int .i64 (meetN x n y m)]) ∧ Below w.heap.size w w' := by
  have KC := fun w => wcommon_any x y w
  unfold meetN
  generalize ((leadN (x ^^^ y) : Nat) : Int) = l at *
  have KM := fun w => cut_any x (min (min n m) l) w
  revert KM
  generalize hv : min (min n m) l = v
  generalize cutW x v = c
  intro KM
  have hmin : ∀ (w : World) (ts : Array TypeId) (t : TypeId), (Builtin.min_ ts t #[.int .i64 n, .int .i64 m, .int .i64 l]).run Tryd.prog w = .ok (.int .i64 v) w := fun w ts t => by rw [run_min3, hv]
  clear hv
  have hbl := fun o p q => (bl3 w o p q).drew
  go_enter Tryd.func39, Tryd.ntmps39
  go_wp2
  go_region_held3 (fun w' => w'.cell? ⟨w.heap.size, 0, none⟩ = some (.int .u64 (hI x)) ∧ w'.cell? ⟨w.heap.size, 1, none⟩ = some (.int .u64 (lI x)) ∧ w'.cell? ⟨w.heap.size, 2, none⟩ = some (.int .i64 n) ∧ w'.cell? ⟨w.heap.size + 1, 0, none⟩ = some (.int .u64 (hI y)) ∧ w'.cell? ⟨w.heap.size + 1, 1, none⟩ = some (.int .u64 (lI y)) ∧ w'.cell? ⟨w.heap.size + 1, 2, none⟩ = some (.int .i64 m) ∧ w'.cell? ⟨w.heap.size + 1 + 1, 0, none⟩ = some (cv w' (w.heap.size + 1 + 1) 0) ∧ w'.cell? ⟨w.heap.size + 1 + 1, 1, none⟩ = some (cv w' (w.heap.size + 1 + 1) 1) ∧ w'.cell? ⟨w.heap.size + 1 + 1, 2, none⟩ = some (cv w' (w.heap.size + 1 + 1) 2) ∧ w'.frozen? ⟨w.heap.size + 1 + 1, 0, none⟩ = false ∧ w'.frozen? ⟨w.heap.size + 1 + 1, 1, none⟩ = false ∧ w'.frozen? ⟨w.heap.size + 1 + 1, 2, none⟩ = false ∧ Below w.heap.size w w')
    (first
      | (obtain ⟨k1, k2, k0, j1, j2, j0, k3, k4, k5, k6, k7, k8, k9⟩ := ‹_ ∧ _›; exact ⟨keepc hb2 k1, keepc hb2 k2, keepc hb2 k0, keepc hb2 j1, keepc hb2 j2, keepc hb2 j0, cv_of (keepc hb2 k3), cv_of (keepc hb2 k4), cv_of (keepc hb2 k5), keepf hb2 k3 k6, keepf hb2 k4 k7, keepf hb2 k5 k8, keepb hb2 k9⟩)
      | (obtain ⟨k1, k2, k0, j1, j2, j0, k3, k4, k5, k6, k7, k8, k9⟩ := ‹_ ∧ _›; exact ⟨keepc hb1 k1, keepc hb1 k2, keepc hb1 k0, keepc hb1 j1, keepc hb1 j2, keepc hb1 j0, cv_of (keepc hb1 k3), cv_of (keepc hb1 k4), cv_of (keepc hb1 k5), keepf hb1 k3 k6, keepf hb1 k4 k7, keepf hb1 k5 k8, keepb hb1 k9⟩)
      | (refine ⟨?_, ?_, ?_, ?_, ?_, ?_, cv_new ?_, cv_new ?_, cv_new ?_, ?_, ?_, ?_, ?_⟩ <;> first | (simp [go_sem, *]; done) | exact bset3 (by simp [*]) (by omega) _ _ _))
    (first | (go_at_call 68; refine (KC _).mono ?_; rintro e w1 ⟨rfl, hb1⟩) | (go_at_call 56; refine (KM _).mono ?_; rintro e w2 ⟨rfl, hb2⟩))
  obtain ⟨-, -, -, -, -, -, -, -, -, -, -, -, kB⟩ := ‹_ ∧ _›
  have e0 : w2.cell? ⟨w.heap.size + 1 + 1, 0, none⟩ = some (.int .u64 0) := keepc hb2 (keepc hb1 (by simp [go_sem]))
  have e1 : w2.cell? ⟨w.heap.size + 1 + 1, 1, none⟩ = some (.int .u64 0) := keepc hb2 (keepc hb1 (by simp [go_sem]))
  have e2 : w2.cell? ⟨w.heap.size + 1 + 1, 2, none⟩ = some (.int .i64 0) := keepc hb2 (keepc hb1 (by simp [go_sem]))
  go_wp2
  exact bodyPost_ret (v := .agg #[.int .u64 (hI c), .int .u64 (lI c), .int .i64 v]) (by simp [results, Tryd.results39, go_sem, e0, e1, e2]) rfl ⟨rfl, kB⟩

end Go.Proofs.YtpchhfhdepkbcaaDoor
/-
  What the calls of package addr's beside, Next and Prev do.
-/
namespace Go.Proofs.YtpchhfhdepkbcaaDoor
open Go.RowKit
set_option linter.unusedSimpArgs false
set_option linter.unusedVariables false

theorem At.drew {w : World} {B : Nat} {x : BitVec 128} (h : At w B x) : At w.drew B x := h
theorem at_zero {w : World} {B : Nat} (h0 : w.cell? ⟨B, 0, none⟩ = some (.int .u64 0)) (h1 : w.cell? ⟨B, 1, none⟩ = some (.int .u64 0)) (f0 : w.frozen? ⟨B, 0, none⟩ = false) (f1 : w.frozen? ⟨B, 1, none⟩ = false) (z : BitVec 128) :
    At ((w.setCell ⟨B, 0, none⟩ (.int .u64 (hI z))).setCell ⟨B, 1, none⟩ (.int .u64 (lI z))) B z :=
  At.set (x := 0#128) z ⟨by rw [hI_zero]; exact h0, by rw [lI_zero]; exact h1, f0, f1, cell_in h0⟩

end Go.Proofs.YtpchhfhdepkbcaaDoor
/-
  What each call of turnpikeref1's Add and Sub does.
-/
namespace Go.Proofs.YtpchhfhdepkbcaaDoor
open Go.RowKit
set_option linter.unusedSimpArgs false
set_option linter.unusedVariables false

/-- The sum of the upper halves, as it wraps. -/
def hs (x y : BitVec 128) : Int := IntKind.u64.wrap (hI x + hI y)
theorem wrapu (n : Int) : IntKind.u64.wrap n = n % 18446744073709551616 := by simp [IntKind.wrap, IntKind.bits, IntKind.signed]
theorem lo_sum (x y : BitVec 128) : IntKind.u64.wrap (lI x + lI y) = lI (x + y) := by
  rw [wrapu, lIN, lIN, lIN, BitVec.toNat_add]; omega
theorem hi_sum1 (x y : BitVec 128) (h : lI (x + y) < lI x) : IntKind.u64.wrap (hs x y + 1) = hI (x + y) := by
  unfold hs; rw [wrapu, wrapu]; rw [lIN, lIN, BitVec.toNat_add] at h; rw [hIN, hIN, hIN, BitVec.toNat_add]
  have := x.isLt; have := y.isLt; omega
theorem hi_sum0 (x y : BitVec 128) (h : ¬ lI (x + y) < lI x) : IntKind.u64.wrap (hs x y) = hI (x + y) := by
  unfold hs; rw [wrapu, wrapu]; rw [lIN, lIN, BitVec.toNat_add] at h; rw [hIN, hIN, hIN, BitVec.toNat_add]
  have := x.isLt; have := y.isLt; omega
theorem over_of (x y : BitVec 128) : overB x y = (decide (hs x y < hI x) || decide (hI (x + y) < hs x y)) := by
  rw [Bool.eq_iff_iff]; simp only [Bool.or_eq_true, decide_eq_true_eq]
  unfold overB hs; simp only [decide_eq_true_eq]; rw [wrapu, hIN, hIN, hIN, BitVec.toNat_add]
  have := x.isLt; have := y.isLt; omega

/-- The difference of the upper halves, as it wraps. -/
def hd (x y : BitVec 128) : Int := IntKind.u64.wrap (hI x - hI y)
theorem lo_dif (x y : BitVec 128) : IntKind.u64.wrap (lI x - lI y) = lI (x - y) := by
  rw [wrapu, lIN, lIN, lIN, BitVec.toNat_sub]
  have := x.isLt; have := y.isLt; omega
theorem hi_dif1 (x y : BitVec 128) (h : lI x < lI y) : IntKind.u64.wrap (hd x y - 1) = hI (x - y) := by
  unfold hd; rw [wrapu, wrapu]; rw [lIN, lIN] at h; rw [hIN, hIN, hIN, BitVec.toNat_sub]
  have := x.isLt; have := y.isLt; omega
theorem hi_dif0 (x y : BitVec 128) (h : ¬ lI x < lI y) : IntKind.u64.wrap (hd x y) = hI (x - y) := by
  unfold hd; rw [wrapu, wrapu]; rw [lIN, lIN] at h; rw [hIN, hIN, hIN, BitVec.toNat_sub]
  have := x.isLt; have := y.isLt; omega
theorem cmp_under (x y : BitVec 128) : decide (cmpZ x y < 0) = underB x y := by
  rw [Bool.eq_iff_iff]; simp only [decide_eq_true_eq]; exact cmp_lt x y

end Go.Proofs.YtpchhfhdepkbcaaDoor
/-
  A region that draws its order and whose calls make memory: one walk of the text's order, in a class of worlds.
-/
namespace Go.Proofs.YtpchhfhdepkbcaaDoor
open Go.RowKit
set_option linter.unusedSimpArgs false
set_option linter.unusedVariables false

theorem q_run {P : Program} {ops : Array Oper} {C : World → Prop} {Q : Act → Prop} {a : Act} {o : Oper} {rest : List Oper} {v : Value}
    (hw : Region.wanted o (yielded ops a.tmps) = true) (h : ∀ w, C w → (execOp a.eval o).run P w = .ok (.value v) w) (k : wpQuiet P ops C Q rest (a.put o.dst v)) : wpQuiet P ops C Q (o :: rest) a := by
  refine wpQuiet_step (fun K hK => ?_)
  rw [if_pos hw]
  refine ⟨v, fun w hC => ?_, hK _ k⟩
  unfold Oper.quietAt; rw [h w hC]; exact ⟨rfl, rfl⟩
theorem q_skip {P : Program} {ops : Array Oper} {C : World → Prop} {Q : Act → Prop} {a : Act} {o : Oper} {rest : List Oper}
    (hw : Region.wanted o (yielded ops a.tmps) = false) (k : wpQuiet P ops C Q rest (a.put o.dst undef)) : wpQuiet P ops C Q (o :: rest) a := by
  refine wpQuiet_step (fun K hK => ?_)
  rw [if_neg (by rw [hw]; decide)]
  exact hK _ k
theorem q_call {P : Program} {ops : Array Oper} {C : World → Prop} {Q : Act → Prop} {a : Act} {o : Oper} {rest : List Oper} {v : Value} {f : FuncId} {args : Array Value}
    (hw : Region.wanted o (yielded ops a.tmps) = true) (h : ∀ w, C w → (execOp a.eval o).run P w = .ok (.enter f args) w) (hc : ∀ w, C w → Calls P f args w fun e w' => e = .returned v ∧ C w') (k : wpQuiet P ops C Q rest (a.put o.dst v)) : wpQuiet P ops C Q (o :: rest) a := by
  refine wpQuiet_step (fun K hK => ?_)
  rw [if_pos hw]
  refine ⟨v, fun w hC => ?_, hK _ k⟩
  unfold Oper.quietAt; rw [h w hC]; exact ⟨rfl, hc w hC⟩
theorem q_region {P : Program} {C : World → Prop} {id : Nat} {Q : Exit → Act → World → Prop} {a : Act} {w : World} {l : List Oper} (hm : P.follows .mixedOrders = true) (hB : Region.lexB .any l.toArray = true) (hC : C w.drew)
    (h : wpQuiet P l.toArray C (fun a' => ∀ w', C w' → Q .normal a' w') l a) : (Code.region id l.toArray true).wp P Q a w :=
  wp_region_quiet (C := C) hm hB hC (by simpa using h)
end Go.Proofs.YtpchhfhdepkbcaaDoor
/-
  What the calls of turnpikeref2's IsFamily, Right, Last, one, Next and Prev do.
-/
namespace Go.Proofs.YtpchhfhdepkbcaaDoor
open Go.RowKit
set_option linter.unusedSimpArgs false
set_option linter.unusedVariables false

theorem isFamily_any (F : Int) (w : World) :
    Calls Tryd.prog 50 #[.int .i64 F] w fun e w' => e = .returned (.bool (fam F)) ∧ w' = w := by
  unfold fam
  by_cases h1 : F = 32
  · subst h1
    go_enter Tryd.func50, Tryd.ntmps50
    go_wp2
    go_ret
    exact ⟨rfl, rfl⟩
  · have b1 : (F == 32) = false := by simp [h1]
    have b2 : (F == 128) = decide (F = 128) := by rw [Bool.eq_iff_iff]; simp
    rw [show decide (F = 32) = false by simp [h1], Bool.false_or]
    go_enter Tryd.func50, Tryd.ntmps50
    go_wp2
    go_ret
    exact ⟨rfl, rfl⟩

theorem put0K (i : Int) (w : World) (h0 : 0 ≤ i) (h1 : i ≤ 127) :
    Calls Tryd.prog 52 #[.agg #[.int .u64 0, .int .u64 0], .int .i64 i, .int .i64 1] w fun e w' => e = .returned (.agg #[.int .u64 (hI (putW 0#128 i 1)), .int .u64 (lI (putW 0#128 i 1))]) ∧ Below w.heap.size w w' := by
  have h := put_any 0#128 i 1 w (Or.inr rfl) h0 h1
  rw [hI_zero, lI_zero] at h
  exact h
theorem three (y x : BitVec 128) : ((hI y == hI x) = true ∧ (lI y == lI x) = true ∧ y = x) ∨ ((hI y == hI x) = false ∧ ¬ y = x) ∨ ((hI y == hI x) = true ∧ (lI y == lI x) = false ∧ ¬ y = x) := by
  by_cases e : y = x
  · exact Or.inl ⟨by simp [e], by simp [e], e⟩
  · by_cases e1 : hI y = hI x
    · exact Or.inr (Or.inr ⟨by simp [e1], by simp; exact fun e2 => e (eq_ints e1 e2), e⟩)
    · exact Or.inr (Or.inl ⟨by simp [e1], e⟩)
theorem three0 (y : BitVec 128) : ((hI y == 0) = true ∧ (lI y == 0) = true ∧ y = 0#128) ∨ ((hI y == 0) = false ∧ ¬ y = 0#128) ∨ ((hI y == 0) = true ∧ (lI y == 0) = false ∧ ¬ y = 0#128) := by
  have h := three y 0#128
  rw [hI_zero, lI_zero] at h; exact h

set_option maxHeartbeats 1000000 in
theorem rright_any (F : Int) (x : BitVec 128) (w : World) :
    Calls Tryd.prog 13 #[.int .i64 F, .agg #[.int .u64 (hI x), .int .u64 (lI x)]] w fun e w' => e = .returned (.int .i64 (rightE F x)) ∧ Below w.heap.size w w' := by
  have KI := fun w => isFamily_any F w
  unfold rightE
  cases h : fam F
  · rw [if_neg (by simp)]
    rw [h] at KI
    go_enter Tryd.func13, Tryd.ntmps13
    go_wp2_with fail
    refine (KI _).mono ?_
    rintro e w1 ⟨rfl, rfl⟩
    clear KI
    go_wp2
    go_ret
    exact ⟨rfl, bl1 _ _⟩
  · rw [if_pos rfl]
    rw [h] at KI
    have ha := and_not_mask F x
    have KA := fun w => rand_any x (~~~(maskW F)) w
    generalize x &&& ~~~(maskW F) = y at *
    have fin : ∀ (v : Int), v = (if x &&& maskW F = x then 0 else 6) → ((hI y == 0) = true ∧ (lI y == 0) = true ∧ v = 0 ∨ (hI y == 0) = false ∧ v = 6 ∨ (hI y == 0) = true ∧ (lI y == 0) = false ∧ v = 6) := by
      intro v hv
      rcases three0 y with ⟨a, b, c⟩ | ⟨a, c⟩ | ⟨a, b, c⟩
      · rw [if_pos (ha.mp c)] at hv; exact Or.inl ⟨a, b, hv⟩
      · rw [if_neg (fun q => c (ha.mpr q))] at hv; exact Or.inr (Or.inl ⟨a, hv⟩)
      · rw [if_neg (fun q => c (ha.mpr q))] at hv; exact Or.inr (Or.inr ⟨a, b, hv⟩)
    clear ha h
    generalize (if x &&& maskW F = x then (0 : Int) else 6) = v at *
    rcases fin v rfl with ⟨q1, q2, rfl⟩ | ⟨q1, rfl⟩ | ⟨q1, q2, rfl⟩
    all_goals
      clear fin
      go_enter Tryd.func13, Tryd.ntmps13
      go_wp2_with fail
      refine (KI _).mono ?_
      rintro e w1 ⟨rfl, rfl⟩
      clear KI
      have kB := (bl1 w (.cells #[.int .u64 (hI x), .int .u64 (lI x)] 24)).drew
      go_wp2_with fail
      go_region_held3 (fun w' => w'.cell? ⟨w.heap.size, 0, none⟩ = some (.int .u64 (hI x)) ∧ w'.cell? ⟨w.heap.size, 1, none⟩ = some (.int .u64 (lI x)) ∧ Below w.heap.size w w')
        (first
          | (obtain ⟨k1, k2, k9⟩ := ‹_ ∧ _›; exact ⟨keepc hb4 k1, keepc hb4 k2, keepb hb4 k9⟩)
          | (obtain ⟨k1, k2, k9⟩ := ‹_ ∧ _›; exact ⟨keepc hb3 k1, keepc hb3 k2, keepb hb3 k9⟩)
          | (obtain ⟨k1, k2, k9⟩ := ‹_ ∧ _›; exact ⟨keepc hb2 k1, keepc hb2 k2, keepb hb2 k9⟩)
          | exact ⟨by simp [go_sem], by simp [go_sem], kB⟩)
        (first
          | (go_at_call 16; refine (rmask_any _ _).mono ?_; rintro e w2 ⟨rfl, hb2⟩)
          | (go_at_call 51; refine (rnot_any _ _).mono ?_; rintro e w3 ⟨rfl, hb3⟩)
          | (go_at_call 15; refine (KA _).mono ?_; rintro e w4 ⟨rfl, hb4⟩))
      obtain ⟨-, -, kB3⟩ := ‹_ ∧ _›
      go_wp2
      go_ret
      exact ⟨rfl, kB3⟩
end Go.Proofs.YtpchhfhdepkbcaaDoor
/-
  What each call of turnpikeref1's Common, Lead, fits, Field and With does.
-/
namespace Go.Proofs.YtpchhfhdepkbcaaDoor
open Go.RowKit
set_option linter.unusedSimpArgs false
set_option linter.unusedVariables false

/-- The variable at block B reads as the word x. -/
def Rd (w : World) (B : Nat) (x : BitVec 128) : Prop := w.cell? ⟨B, 0, none⟩ = some (.int .u64 (hI x)) ∧ w.cell? ⟨B, 1, none⟩ = some (.int .u64 (lI x))
theorem Rd.keep {W w' : World} {B : Nat} {x : BitVec 128} (h : Rd W B x) (hb : Below W.heap.size W w') : Rd w' B x := ⟨keepc hb h.1, keepc hb h.2⟩
theorem Rd.alloc {W : World} {B : Nat} {x : BitVec 128} (h : Rd W B x) (o : Obj) : Rd (W.alloc o) B x := h.keep (bl1 W o)
theorem Rd.new (W : World) (x : BitVec 128) (t : TypeId) : Rd (W.alloc (.cells #[.int .u64 (hI x), .int .u64 (lI x)] t)) W.heap.size x := by
  constructor <;> simp [go_sem]
/-- The word that the variable at block B holds, under a name that no rule opens. -/
def rdW (w : World) (B : Nat) : BitVec 128 := mkW (intOf (cv w B 0)) (intOf (cv w B 1))
theorem Rd.word {w : World} {B : Nat} {x : BitVec 128} (h : Rd w B x) : rdW w B = x := by
  unfold rdW cv; rw [h.1, h.2]; exact mk_ints x

theorem Rd.self {w : World} {B : Nat} {x : BitVec 128} (h : Rd w B x) : Rd w B (rdW w B) := by rw [h.word]; exact h

set_option maxHeartbeats 2000000 in
theorem common_any (x y : BitVec 128) (w : World) :
    Calls Tryd.prog 61 #[.agg #[.int .u64 (hI x), .int .u64 (lI x)], .agg #[.int .u64 (hI y), .int .u64 (lI y)]] w fun e w' => e = .returned (.int .i64 ((leadN (x ^^^ y) : Nat) : Int)) ∧ Below w.heap.size w w' := by
  go_enter Tryd.func61, Tryd.ntmps61
  go_wp2
  go_loopw [5] (fun i wr => ∃ k : Nat, k ≤ 128 ∧ i = .int .i64 k ∧ Hid ((x ^^^ y).toNat < 2 ^ (128 - k)) ∧ Rd wr w.heap.size x ∧ Rd wr (w.heap.size + 1) y ∧ Below w.heap.size w wr)
    (fun i _ => 128 - (intOf i).toNat)
  case atStart =>
    refine ⟨0, by omega, rfl, (x ^^^ y).isLt, ?_, ?_, bl2 _ _ _⟩
    · exact (Rd.new w x _).alloc _
    · have := Rd.new (w.alloc (.cells #[.int .u64 (hI x), .int .u64 (lI x)] 24)) y 24
      simpa using this
  case round =>
    obtain ⟨k, hk, rfl, hz, X, Y, hB⟩ := hrel
    have hbl := hB.drew
    by_cases hlt : (k : Int) < 128
    · have hst := bit_step (x ^^^ y) k (by omega) hz.out
      have hbe := bitZ_eq x y k (by omega)
      by_cases c : bitZ x (k : Int) = bitZ y (k : Int)
      · have hz' : Hid ((x ^^^ y).toNat < 2 ^ (128 - (k + 1))) := hst.1 (hbe.mp c)
        have hc : (bitZ x (k : Int) == bitZ y (k : Int)) = true := by simpa using c
        clear hst hbe hz c
        go_wp2
        go_region_held3 (fun w' => w'.cell? ⟨w.heap.size, 0, none⟩ = some (.int .u64 (hI x)) ∧ w'.cell? ⟨w.heap.size, 1, none⟩ = some (.int .u64 (lI x)) ∧ w'.cell? ⟨w.heap.size + 1, 0, none⟩ = some (.int .u64 (hI y)) ∧ w'.cell? ⟨w.heap.size + 1, 1, none⟩ = some (.int .u64 (lI y)) ∧ Below w.heap.size w w')
          (first
            | (obtain ⟨k1, k2, k3, k4, k9⟩ := ‹_ ∧ _›; exact ⟨keepc hb1 k1, keepc hb1 k2, keepc hb1 k3, keepc hb1 k4, keepb hb1 k9⟩)
            | exact ⟨X.1, X.2, Y.1, Y.2, hbl⟩)
          (first | (go_at_call 67; refine (rbit_any _ _ _).mono ?_; rintro e w1 ⟨rfl, hb1⟩))
        obtain ⟨k1, k2, k3, k4, kB⟩ := ‹_ ∧ _›
        go_wp2
        go_roundw
        case rel => exact ⟨k + 1, by omega, by go_num, hz', ⟨k1, k2⟩, ⟨k3, k4⟩, kB⟩
        case measure => simp [intOf]; omega
      · have hz' : Hid (2 ^ (127 - k) ≤ (x ^^^ y).toNat) := by
          apply hst.2
          cases hh : (x ^^^ y).getLsbD (127 - k)
          · exact absurd (hbe.mpr hh) c
          · rfl
        have hc : (bitZ x (k : Int) == bitZ y (k : Int)) = false := by simpa using c
        have HL : Hid (leadN (x ^^^ y) = k) := lead_char _ _ hk hz.out (Or.inr hz'.out)
        clear hst hbe hz hz' c
        go_wp2
        go_region_held3 (fun w' => w'.cell? ⟨w.heap.size, 0, none⟩ = some (.int .u64 (hI x)) ∧ w'.cell? ⟨w.heap.size, 1, none⟩ = some (.int .u64 (lI x)) ∧ w'.cell? ⟨w.heap.size + 1, 0, none⟩ = some (.int .u64 (hI y)) ∧ w'.cell? ⟨w.heap.size + 1, 1, none⟩ = some (.int .u64 (lI y)) ∧ Below w.heap.size w w')
          (first
            | (obtain ⟨k1, k2, k3, k4, k9⟩ := ‹_ ∧ _›; exact ⟨keepc hb1 k1, keepc hb1 k2, keepc hb1 k3, keepc hb1 k4, keepb hb1 k9⟩)
            | exact ⟨X.1, X.2, Y.1, Y.2, hbl⟩)
          (first | (go_at_call 67; refine (rbit_any _ _ _).mono ?_; rintro e w1 ⟨rfl, hb1⟩))
        obtain ⟨k1, k2, k3, k4, kB⟩ := ‹_ ∧ _›
        go_wp2
        go_ret
        exact ⟨by rw [HL.out]; rfl, kB⟩
    · have hk8 : k = 128 := by omega
      have HL : Hid (leadN (x ^^^ y) = k) := lead_char _ _ hk hz.out (Or.inl hk8)
      have hd : decide ((k : Int) < 128) = false := by simpa using hlt
      clear hlt hz hk8
      go_wp2
      go_quiet (fail)
      go_wp2
      go_ret
      exact ⟨by rw [HL.out]; rfl, below_drewN hB _⟩

set_option maxHeartbeats 1000000 in
theorem fits_any (f n : Int) (w : World) (hf : -9223372036854775808 ≤ f) (hf' : f ≤ 9223372036854775807) :
    Calls Tryd.prog 76 #[.int .i64 f, .int .i64 n] w fun e w' => e = .returned (.bool (fitB f n)) ∧ w' = w := by
  unfold fitB
  by_cases h0 : 0 ≤ f
  · by_cases h1 : f ≤ 128
    · by_cases h2 : 0 ≤ n
      · by_cases h3 : n ≤ 128 - f
        · go_enter Tryd.func76, Tryd.ntmps76
          go_wp2
          go_ret
          exact ⟨by simp [h0, h1, h2, h3] <;> omega, rfl⟩
        · go_enter Tryd.func76, Tryd.ntmps76
          go_wp2
          go_ret
          exact ⟨by simp [h0, h1, h2, h3] <;> omega, rfl⟩
      · go_enter Tryd.func76, Tryd.ntmps76
        go_wp2
        go_ret
        exact ⟨by simp [h0, h1, h2] <;> omega, rfl⟩
    · go_enter Tryd.func76, Tryd.ntmps76
      go_wp2
      go_ret
      exact ⟨by simp [h0, h1] <;> omega, rfl⟩
  · go_enter Tryd.func76, Tryd.ntmps76
    go_wp2
    go_ret
    exact ⟨by simp [h0] <;> omega, rfl⟩

set_option maxHeartbeats 1000000 in
theorem rfield_in (x : BitVec 128) (f n : Int) (w : World) (h : fitB f n = true) :
    Calls Tryd.prog 46 #[.agg #[.int .u64 (hI x), .int .u64 (lI x)], .int .i64 f, .int .i64 n] w fun e w' => e = .returned (.tuple #[.agg #[.int .u64 (hI (readW x f n)), .int .u64 (lI (readW x f n))], .int .i64 0]) ∧ Below w.heap.size w w' := by
  unfold readW
  obtain ⟨h0, h1, h2, h3⟩ := fitB_t h
  have hf := fun w => fits_any f n w (by omega) (by omega)
  rw [h] at hf
  clear h
  go_enter Tryd.func46, Tryd.ntmps46
  go_wp2_with fail
  refine (hf _).mono ?_
  rintro e w1 ⟨rfl, rfl⟩
  clear hf
  go_wp2_with fail
  refine (rshl_any _ _ _).mono ?_
  rintro e w2 ⟨rfl, hb2⟩
  go_wp2_with fail
  refine (rshr_any _ _ _).mono ?_
  rintro e w3 ⟨rfl, hb3⟩
  have hb := keepb hb3 hb2
  have e0 : w3.cell? ⟨w.heap.size + 1, 0, none⟩ = some (.int .u64 0) := keepc hb (by simp [go_sem])
  have e1 : w3.cell? ⟨w.heap.size + 1, 1, none⟩ = some (.int .u64 0) := keepc hb (by simp [go_sem])
  have e2 : w3.frozen? ⟨w.heap.size + 1, 0, none⟩ = false := keepf hb (v := .int .u64 0) (by simp [go_sem]) (by simp [go_sem])
  have e3 : w3.frozen? ⟨w.heap.size + 1, 1, none⟩ = false := keepf hb (v := .int .u64 0) (by simp [go_sem]) (by simp [go_sem])
  have kB : Below w.heap.size w w3 := keepb hb (bl2 _ _ _)
  clear hb hb2 hb3
  go_wp2
  exact bodyPost_ret (v := .tuple #[.agg #[.int .u64 (hI ((x <<< f.toNat) >>> (128 - n).toNat)), .int .u64 (lI ((x <<< f.toNat) >>> (128 - n).toNat))], .int .i64 0]) (by simp [results, Tryd.results46, go_sem, e0, e1]) rfl ⟨rfl, (kB.setCell (by simp) _).setCell (by simp) _⟩

set_option maxHeartbeats 1000000 in
theorem rfield_out (x : BitVec 128) (f n : Int) (w : World) (hf : -9223372036854775808 ≤ f) (hf' : f ≤ 9223372036854775807) (h : fitB f n = false) :
    Calls Tryd.prog 46 #[.agg #[.int .u64 (hI x), .int .u64 (lI x)], .int .i64 f, .int .i64 n] w fun e w' => e = .returned (.tuple #[.agg #[.int .u64 0, .int .u64 0], .int .i64 1]) ∧ Below w.heap.size w w' := by
  have hf := fun w => fits_any f n w hf hf'
  rw [h] at hf
  clear h hf'
  go_enter Tryd.func46, Tryd.ntmps46
  go_wp2_with fail
  refine (hf _).mono ?_
  rintro e w1 ⟨rfl, rfl⟩
  clear hf
  go_wp2
  exact bodyPost_ret (v := .tuple #[.agg #[.int .u64 0, .int .u64 0], .int .i64 1]) (by simp [results, Tryd.results46, go_sem]) rfl ⟨rfl, bl2 _ _ _⟩

end Go.Proofs.YtpchhfhdepkbcaaDoor
