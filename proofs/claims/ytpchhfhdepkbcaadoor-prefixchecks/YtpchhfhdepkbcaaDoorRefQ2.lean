/-
  What the calls of the reference's chapter 3 do: Check, Of, Last.
-/
import Derived.Test.YtpchhfhdepkbcaaDoorRefQ
namespace Go.Proofs.YtpchhfhdepkbcaaDoor
open Go.RowKit
set_option linter.unusedSimpArgs false
set_option linter.unusedVariables false

set_option maxHeartbeats 1000000 in
theorem rcheck_any (F : Int) (x : BitVec 128) (n : Int) (w : World) :
    Calls Tryd.prog 22 #[.int .i64 F, .agg #[.int .u64 (hI x), .int .u64 (lI x), .int .i64 n]] w fun e w' => e = .returned (.int .i64 (checkE F x n)) ∧ Below w.heap.size w w' := by
  have KL := fun w => isFamily_any F w
  unfold checkE
  cases h : fam F
  · rw [if_neg (by simp)]
    rw [h] at KL
    clear h
    go_enter Tryd.func22, Tryd.ntmps22
    go_wp2_with fail
    refine (KL _).mono ?_
    rintro e w1 ⟨rfl, rfl⟩
    go_wp2
    go_ret
    exact ⟨rfl, bl1 _ _⟩
  · rw [if_pos rfl]
    rw [h] at KL
    clear h
    have KM := fun n w => rmask_any n w
    by_cases h0 : n < 0
    · rw [if_pos h0]
      go_enter Tryd.func22, Tryd.ntmps22
      go_wp2_with fail
      refine (KL _).mono ?_
      rintro e w1 ⟨rfl, rfl⟩
      go_wp2
      go_ret
      exact ⟨rfl, bl1 _ _⟩
    by_cases h1 : F < n
    · rw [if_neg h0, if_pos h1]
      go_enter Tryd.func22, Tryd.ntmps22
      go_wp2_with fail
      refine (KL _).mono ?_
      rintro e w1 ⟨rfl, rfl⟩
      go_wp2
      go_ret
      exact ⟨rfl, bl1 _ _⟩
    rw [if_neg h0, if_neg h1]
    have KC := fun w => rand_any x (maskW n) w
    have KN := fun w => rmask_any n w
    unfold cutW
    generalize maskW n = k at *
    revert KC
    generalize x &&& k = c
    intro KC
    have hbl := fun o => (bl1 w o).drew
    rcases eqw c x with ⟨q1, q2, q3⟩ | ⟨q1, q3⟩ | ⟨q1, q2, q3⟩
    all_goals
      rw [q3]
      first | rw [if_pos rfl] | rw [if_neg (by simp)]
      clear q3
      go_enter Tryd.func22, Tryd.ntmps22
      go_wp2_with fail
      refine (KL _).mono ?_
      rintro e w1 ⟨rfl, rfl⟩
      clear KL KM
      go_wp2_with fail
      go_region_held3 (fun w' => w'.cell? ⟨w.heap.size, 0, none⟩ = some (.int .u64 (hI x)) ∧ w'.cell? ⟨w.heap.size, 1, none⟩ = some (.int .u64 (lI x)) ∧ w'.cell? ⟨w.heap.size, 2, none⟩ = some (.int .i64 n) ∧ Below w.heap.size w w')
        (first
          | (obtain ⟨k1, k2, k3, k9⟩ := ‹_ ∧ _›; exact ⟨keepc hb3 k1, keepc hb3 k2, keepc hb3 k3, keepb hb3 k9⟩)
          | (obtain ⟨k1, k2, k3, k9⟩ := ‹_ ∧ _›; exact ⟨keepc hb2 k1, keepc hb2 k2, keepc hb2 k3, keepb hb2 k9⟩)
          | (refine ⟨?_, ?_, ?_, ?_⟩ <;> first | (simp [go_sem, *]; done) | exact hbl _))
        (first | (go_at_call 16; refine (KN _).mono ?_; rintro e w2 ⟨rfl, hb2⟩) | (go_at_call 15; refine (KC _).mono ?_; rintro e w3 ⟨rfl, hb3⟩))
      obtain ⟨-, -, -, kB3⟩ := ‹_ ∧ _›
      go_wp2
      go_ret
      exact ⟨rfl, kB3⟩

theorem maskW_idem (x : BitVec 128) (n : Int) : cutW (cutW x n) n = cutW x n := by
  unfold cutW
  rw [BitVec.and_assoc, BitVec.and_self]
theorem ofE_eq (F : Int) (x : BitVec 128) (n : Int) (h : rightE F x = 0) : checkE F (cutW x n) n = if n < 0 then 13 else if F < n then 13 else 0 := by
  have hf : fam F = true := by
    unfold rightE at h
    split at h
    · assumption
    · omega
  unfold checkE
  simp [hf, maskW_idem]
set_option maxHeartbeats 1000000 in
theorem rof_any (F : Int) (x : BitVec 128) (n : Int) (w : World) :
    Calls Tryd.prog 19 #[.int .i64 F, .agg #[.int .u64 (hI x), .int .u64 (lI x)], .int .i64 n] w fun e w' => e = .returned (.tuple #[.agg #[.int .u64 (hI (ofV F x n)), .int .u64 (lI (ofV F x n)), .int .i64 (ofN F x n)], .int .i64 (ofE F x n)]) ∧ Below w.heap.size w w' := by
  have KR := fun w => rright_any F x w
  have KC := fun w => rcut_any x n w
  unfold ofV ofN ofE
  have he := ofE_eq F x n
  generalize rightE F x = r at *
  by_cases hr : r = 0
  · subst hr
    rw [if_pos rfl, he rfl]
    clear he
    generalize cutW x n = c at *
    by_cases h0 : n < 0
    · rw [if_pos h0, if_neg (by omega), if_neg (by omega), hI_zero, lI_zero]
      go_enter Tryd.func19, Tryd.ntmps19
      go_wp2_with fail
      refine (KR _).mono ?_
      rintro e w1 ⟨rfl, hb1⟩
      obtain ⟨z0, z1, z2, z3, z4, z5⟩ := (atp_new (w.alloc (.cells #[.int .u64 (hI x), .int .u64 (lI x)] 24)) (w.heap.size + 1) 0#128 0 41 (by simp)).below hb1
      have kB1 := keepb hb1 (bl2 w _ _)
      clear hb1 KR
      go_wp2
      exact bodyPost_ret (v := .tuple #[.agg #[.int .u64 0, .int .u64 0, .int .i64 0], .int .i64 13]) (by simp [results, Tryd.results19, go_sem, *]) rfl ⟨rfl, bset3 kB1 (by omega) _ _ _⟩
    by_cases h1 : F < n
    · rw [if_neg h0, if_pos h1, if_neg (by omega), if_neg (by omega), hI_zero, lI_zero]
      go_enter Tryd.func19, Tryd.ntmps19
      go_wp2_with fail
      refine (KR _).mono ?_
      rintro e w1 ⟨rfl, hb1⟩
      obtain ⟨z0, z1, z2, z3, z4, z5⟩ := (atp_new (w.alloc (.cells #[.int .u64 (hI x), .int .u64 (lI x)] 24)) (w.heap.size + 1) 0#128 0 41 (by simp)).below hb1
      have kB1 := keepb hb1 (bl2 w _ _)
      clear hb1 KR
      go_wp2
      exact bodyPost_ret (v := .tuple #[.agg #[.int .u64 0, .int .u64 0, .int .i64 0], .int .i64 13]) (by simp [results, Tryd.results19, go_sem, *]) rfl ⟨rfl, bset3 kB1 (by omega) _ _ _⟩
    · rw [if_neg h0, if_neg h1, if_pos rfl, if_pos rfl]
      go_enter Tryd.func19, Tryd.ntmps19
      go_wp2_with fail
      refine (KR _).mono ?_
      rintro e w1 ⟨rfl, hb1⟩
      have Z1 := (atp_new (w.alloc (.cells #[.int .u64 (hI x), .int .u64 (lI x)] 24)) (w.heap.size + 1) 0#128 0 41 (by simp)).below hb1
      obtain ⟨x0, x1, -, -, -⟩ := ((at_new w w.heap.size x 24 rfl).below (bl1 _ (.cells #[.int .u64 0, .int .u64 0, .int .i64 0] 41))).below hb1
      have kB1 := keepb hb1 (bl2 w _ _)
      clear hb1 KR
      go_wp2_with fail
      refine (KC _).mono ?_
      rintro e w2 ⟨rfl, hb2⟩
      obtain ⟨z0, z1, z2, z3, z4, z5⟩ := Z1.below hb2
      have kB2 := keepb hb2 kB1
      clear x0 x1 hb2 KC Z1 kB1
      go_wp2
      exact bodyPost_ret (v := .tuple #[.agg #[.int .u64 (hI c), .int .u64 (lI c), .int .i64 n], .int .i64 0]) (by simp [results, Tryd.results19, go_sem, *]) rfl ⟨rfl, bset3 kB2 (by omega) _ _ _⟩
  · have hrb : (r != 0) = true := by simp [hr]
    rw [if_neg hr, if_neg hr, if_neg hr, hI_zero, lI_zero]
    go_enter Tryd.func19, Tryd.ntmps19
    go_wp2_with fail
    refine (KR _).mono ?_
    rintro e w1 ⟨rfl, hb1⟩
    obtain ⟨z0, z1, z2, z3, z4, z5⟩ := (atp_new (w.alloc (.cells #[.int .u64 (hI x), .int .u64 (lI x)] 24)) (w.heap.size + 1) 0#128 0 41 (by simp)).below hb1
    have kB1 := keepb hb1 (bl2 w _ _)
    clear hb1 KR
    go_wp2
    exact bodyPost_ret (v := .tuple #[.agg #[.int .u64 0, .int .u64 0, .int .i64 0], .int .i64 r]) (by simp [results, Tryd.results19, go_sem, *]) rfl ⟨rfl, bset3 kB1 (by omega) _ _ _⟩

def rlastW (F : Int) (x : BitVec 128) (n : Int) : BitVec 128 := x ||| (~~~(maskW n) &&& maskW F)
set_option maxHeartbeats 2000000 in
set_option maxRecDepth 20000 in
theorem rplast_any (F : Int) (x : BitVec 128) (n : Int) (w : World) :
    Calls Tryd.prog 32 #[.int .i64 F, .agg #[.int .u64 (hI x), .int .u64 (lI x), .int .i64 n]] w fun e w' => e = .returned (.agg #[.int .u64 (hI (rlastW F x n)), .int .u64 (lI (rlastW F x n))]) ∧ Below w.heap.size w w' := by
  have hbl := fun o p => (bl2 w o p).drew
  unfold rlastW
  go_enter Tryd.func32, Tryd.ntmps32
  go_wp2
  go_region_held3 (fun w' => w'.cell? ⟨w.heap.size, 0, none⟩ = some (.int .u64 (hI x)) ∧ w'.cell? ⟨w.heap.size, 1, none⟩ = some (.int .u64 (lI x)) ∧ w'.cell? ⟨w.heap.size, 2, none⟩ = some (.int .i64 n) ∧ w'.cell? ⟨w.heap.size + 1, 0, none⟩ = some (cv w' (w.heap.size + 1) 0) ∧ w'.cell? ⟨w.heap.size + 1, 1, none⟩ = some (cv w' (w.heap.size + 1) 1) ∧ w'.frozen? ⟨w.heap.size + 1, 0, none⟩ = false ∧ w'.frozen? ⟨w.heap.size + 1, 1, none⟩ = false ∧ Below w.heap.size w w')
    (first
      | (obtain ⟨k1, k2, k0, k3, k4, k6, k7, k9⟩ := ‹_ ∧ _›; exact ⟨keepc hb1 k1, keepc hb1 k2, keepc hb1 k0, cv_of (keepc hb1 k3), cv_of (keepc hb1 k4), keepf hb1 k3 k6, keepf hb1 k4 k7, keepb hb1 k9⟩)
      | (refine ⟨?_, ?_, ?_, cv_new ?_, cv_new ?_, ?_, ?_, ?_⟩ <;> first | (simp [go_sem, *]; done) | exact bset2 (by simp [*]) (by simp) _ _))
    (first | (go_at_call 16; refine (rmask_any _ _).mono ?_; rintro e w1 ⟨rfl, hb1⟩) | (go_at_call 51; refine (rnot_any _ _).mono ?_; rintro e w1 ⟨rfl, hb1⟩) | (go_at_call 15; refine (rand_any _ _ _).mono ?_; rintro e w1 ⟨rfl, hb1⟩) | (go_at_call 65; refine (ror_any _ _ _).mono ?_; rintro e w1 ⟨rfl, hb1⟩))
  rename_i wa ha wb hb wc hc wd hd hH
  obtain ⟨-, -, -, -, -, -, -, kB⟩ := hH
  have e0 : w1.cell? ⟨w.heap.size + 1, 0, none⟩ = some (.int .u64 0) := keepc hb1 (keepc hd (keepc hc (keepc hb (keepc ha (by simp [go_sem])))))
  have e1 : w1.cell? ⟨w.heap.size + 1, 1, none⟩ = some (.int .u64 0) := keepc hb1 (keepc hd (keepc hc (keepc hb (keepc ha (by simp [go_sem])))))
  clear ha hb hc hd hb1
  go_wp2
  exact bodyPost_ret (v := .agg #[.int .u64 (hI (x ||| (~~~(maskW n) &&& maskW F))), .int .u64 (lI (x ||| (~~~(maskW n) &&& maskW F)))]) (by simp [results, Tryd.results32, go_sem, e0, e1]) rfl ⟨rfl, kB⟩
end Go.Proofs.YtpchhfhdepkbcaaDoor
