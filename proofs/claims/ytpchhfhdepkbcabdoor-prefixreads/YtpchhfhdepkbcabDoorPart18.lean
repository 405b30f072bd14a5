/-
  Part 18 of the proof: 9 texts, one behind the other.
-/
import Derived.Test.YtpchhfhdepkbcabDoorPart17
import Derived.Test.YtpchhfhdepkbcabDoorPart11
import Derived.Test.YtpchhfhdepkbcabDoorPart14
import Derived.Test.YtpchhfhdepkbcabDoorPart16
import Derived.Test.YtpchhfhdepkbcabDoorPart10
import Derived.Test.YtpchhfhdepkbcabDoorPart5
/-
  What the calls of the reference's chapter 3 do: Check, Of, Last.
-/
namespace Go.Proofs.YtpchhfhdepkbcabDoor
open Go.RowKit
set_option linter.unusedSimpArgs false
set_option linter.unusedVariables false

set_option maxHeartbeats 1000000 in
theorem rcheck_any (F : Int) (x : BitVec 128) (n : Int) (w : World) :
    Calls Tryd.prog 38 #[.int .i64 F, .agg #[.int .u64 (hI x), .int .u64 (lI x), .int .i64 n]] w fun e w' => e = .returned (.int .i64 (checkE F x n)) ∧ Below w.heap.size w w' := by
  have KL := fun w => isFamily_any F w
  unfold checkE
  cases h : fam F
  · rw [if_neg (by simp)]
    rw [h] at KL
    clear h
    go_enter Tryd.func38, Tryd.ntmps38
    go_wp2_with fail
    refine (KL _).mono ?_
    rintro e w1 ⟨rfl, rfl⟩
    go_wp2
    go_ret
    exact ⟨rfl, bl1 _ _⟩
  · rw [if_pos rfl]
    rw [h] at KL
    clear h
    have KM := fun n w => rmask_any n w
    by_cases h0 : n < 0
    · rw [if_pos h0]
      go_enter Tryd.func38, Tryd.ntmps38
      go_wp2_with fail
      refine (KL _).mono ?_
      rintro e w1 ⟨rfl, rfl⟩
      go_wp2
      go_ret
      exact ⟨rfl, bl1 _ _⟩
    by_cases h1 : F < n
    · rw [if_neg h0, if_pos h1]
      go_enter Tryd.func38, Tryd.ntmps38
      go_wp2_with fail
      refine (KL _).mono ?_
      rintro e w1 ⟨rfl, rfl⟩
      go_wp2
      go_ret
      exact ⟨rfl, bl1 _ _⟩
    rw [if_neg h0, if_neg h1]
    have KC := fun w => rand_any x (maskW n) w
    have KN := fun w => rmask_any n w
    unfold cutW
    generalize maskW n = k at *
    revert KC
    generalize x &&& k = c
    intro KC
    have hbl := fun o => (bl1 w o).drew
    rcases eqw c x with ⟨q1, q2, q3⟩ | ⟨q1, q3⟩ | ⟨q1, q2, q3⟩
    all_goals
      rw [q3]
      first | rw [if_pos rfl] | rw [if_neg (by simp)]
      clear q3
      go_enter Tryd.func38, Tryd.ntmps38
      go_wp2_with fail
      refine (KL _).mono ?_
      rintro e w1 ⟨rfl, rfl⟩
      clear KL KM
      go_wp2_with fail
      go_region_held3 (fun w' => w'.cell? ⟨w.heap.size, 0, none⟩ = some (.int .u64 (hI x)) ∧ w'.cell? ⟨w.heap.size, 1, none⟩ = some (.int .u64 (lI x)) ∧ w'.cell? ⟨w.heap.size, 2, none⟩ = some (.int .i64 n) ∧ Below w.heap.size w w')
        (first
          | (obtain ⟨k1, k2, k3, k9⟩ := ‹_ ∧ _›; exact ⟨keepc hb3 k1, keepc hb3 k2, keepc hb3 k3, keepb hb3 k9⟩)
          | (obtain ⟨k1, k2, k3, k9⟩ := ‹_ ∧ _›; exact ⟨keepc hb2 k1, keepc hb2 k2, keepc hb2 k3, keepb hb2 k9⟩)
          | (refine ⟨?_, ?_, ?_, ?_⟩ <;> first | (simp [go_sem, *]; done) | exact hbl _))
        (first | (go_at_call 68; refine (KN _).mono ?_; rintro e w2 ⟨rfl, hb2⟩) | (go_at_call 67; refine (KC _).mono ?_; rintro e w3 ⟨rfl, hb3⟩))
      obtain ⟨-, -, -, kB3⟩ := ‹_ ∧ _›
      go_wp2
      go_ret
      exact ⟨rfl, kB3⟩

theorem maskW_idem (x : BitVec 128) (n : Int) : cutW (cutW x n) n = cutW x n := by
  unfold cutW
  rw [BitVec.and_assoc, BitVec.and_self]
theorem ofE_eq (F : Int) (x : BitVec 128) (n : Int) (h : rightE F x = 0) : checkE F (cutW x n) n = if n < 0 then 13 else if F < n then 13 else 0 := by
  have hf : fam F = true := by
    unfold rightE at h
    split at h
    · assumption
    · omega
  unfold checkE
  simp [hf, maskW_idem]
def rlastW (F : Int) (x : BitVec 128) (n : Int) : BitVec 128 := x ||| (~~~(maskW n) &&& maskW F)
set_option maxHeartbeats 2000000 in
set_option maxRecDepth 20000 in
theorem rplast_any (F : Int) (x : BitVec 128) (n : Int) (w : World) :
    Calls Tryd.prog 44 #[.int .i64 F, .agg #[.int .u64 (hI x), .int .u64 (lI x), .int .i64 n]] w fun e w' => e = .returned (.agg #[.int .u64 (hI (rlastW F x n)), .int .u64 (lI (rlastW F x n))]) ∧ Below w.heap.size w w' := by
  have hbl := fun o p => (bl2 w o p).drew
  unfold rlastW
  go_enter Tryd.func44, Tryd.ntmps44
  go_wp2
  go_region_held3 (fun w' => w'.cell? ⟨w.heap.size, 0, none⟩ = some (.int .u64 (hI x)) ∧ w'.cell? ⟨w.heap.size, 1, none⟩ = some (.int .u64 (lI x)) ∧ w'.cell? ⟨w.heap.size, 2, none⟩ = some (.int .i64 n) ∧ w'.cell? ⟨w.heap.size + 1, 0, none⟩ = some (cv w' (w.heap.size + 1) 0) ∧ w'.cell? ⟨w.heap.size + 1, 1, none⟩ = some (cv w' (w.heap.size + 1) 1) ∧ w'.frozen? ⟨w.heap.size + 1, 0, none⟩ = false ∧ w'.frozen? ⟨w.heap.size + 1, 1, none⟩ = false ∧ Below w.heap.size w w')
    (first
      | (obtain ⟨k1, k2, k0, k3, k4, k6, k7, k9⟩ := ‹_ ∧ _›; exact ⟨keepc hb1 k1, keepc hb1 k2, keepc hb1 k0, cv_of (keepc hb1 k3), cv_of (keepc hb1 k4), keepf hb1 k3 k6, keepf hb1 k4 k7, keepb hb1 k9⟩)
      | (refine ⟨?_, ?_, ?_, cv_new ?_, cv_new ?_, ?_, ?_, ?_⟩ <;> first | (simp [go_sem, *]; done) | exact bset2 (by simp [*]) (by simp) _ _))
    (first | (go_at_call 68; refine (rmask_any _ _).mono ?_; rintro e w1 ⟨rfl, hb1⟩) | (go_at_call 77; refine (rnot_any _ _).mono ?_; rintro e w1 ⟨rfl, hb1⟩) | (go_at_call 67; refine (rand_any _ _ _).mono ?_; rintro e w1 ⟨rfl, hb1⟩) | (go_at_call 76; refine (ror_any _ _ _).mono ?_; rintro e w1 ⟨rfl, hb1⟩))
  rename_i wa ha wb hb wc hc wd hd hH
  obtain ⟨-, -, -, -, -, -, -, kB⟩ := hH
  have e0 : w1.cell? ⟨w.heap.size + 1, 0, none⟩ = some (.int .u64 0) := keepc hb1 (keepc hd (keepc hc (keepc hb (keepc ha (by simp [go_sem])))))
  have e1 : w1.cell? ⟨w.heap.size + 1, 1, none⟩ = some (.int .u64 0) := keepc hb1 (keepc hd (keepc hc (keepc hb (keepc ha (by simp [go_sem])))))
  clear ha hb hc hd hb1
  go_wp2
  exact bodyPost_ret (v := .agg #[.int .u64 (hI (x ||| (~~~(maskW n) &&& maskW F))), .int .u64 (lI (x ||| (~~~(maskW n) &&& maskW F)))]) (by simp [results, Tryd.results44, go_sem, e0, e1]) rfl ⟨rfl, kB⟩
end Go.Proofs.YtpchhfhdepkbcabDoor
/-
  What the calls of the law's own helpers of chapter 3 do.
-/
namespace Go.Proofs.YtpchhfhdepkbcabDoor
open Go.RowKit
set_option linter.unusedSimpArgs false
set_option linter.unusedVariables false

def famZ (b : Bool) : Int := if b = true then 128 else 32
theorem famZ_fam (b : Bool) : fam (famZ b) = true := by cases b <;> decide
theorem famZ_bd (b : Bool) : 32 ≤ famZ b ∧ famZ b ≤ 128 := by cases b <;> decide
theorem family3_any (b : Bool) (w : World) :
    Calls Tryd.prog 17 #[.bool b] w fun e w' => e = .returned (.int .i64 (famZ b)) ∧ w' = w := by
  cases b
  · go_enter Tryd.func17, Tryd.ntmps17
    go_wp2
    go_ret
    exact ⟨rfl, rfl⟩
  · go_enter Tryd.func17, Tryd.ntmps17
    go_wp2
    go_ret
    exact ⟨rfl, rfl⟩
set_option maxHeartbeats 1000000 in
theorem within3_any (a n : Int) (w : World) (h0 : 0 < n) (h1 : n ≤ 9223372036854775807) :
    Calls Tryd.prog 14 #[.int .i64 a, .int .i64 n] w fun e w' => e = .returned (.int .i64 (a % n)) ∧ w' = w := by
  have b1 := Int.emod_nonneg a (b := n) (by omega)
  have b2 := Int.emod_lt_of_pos a h0
  have hn0 : ¬ n = 0 := by omega
  have hnb : (n == 0) = false := by simp; omega
  rcases tmod_ways a n h0 with ⟨c, e⟩ | ⟨c, e⟩
  · have hw : IntKind.i64.wrap (a.tmod n) = a.tmod n := by rw [IntKind.wrap_i64]; omega
    have hw2 : IntKind.i64.wrap (a.tmod n + n) = a.tmod n + n := by rw [IntKind.wrap_i64]; omega
    rw [← e]
    clear e b1 b2
    go_enter Tryd.func14, Tryd.ntmps14
    go_wp2
    go_ret
    exact ⟨rfl, rfl⟩
  · have hw : IntKind.i64.wrap (a.tmod n) = a.tmod n := by rw [IntKind.wrap_i64]; omega
    rw [← e]
    clear e b1 b2
    go_enter Tryd.func14, Tryd.ntmps14
    go_wp2
    go_ret
    exact ⟨rfl, rfl⟩

set_option maxHeartbeats 1000000 in
set_option maxRecDepth 20000 in
theorem clip_any (F : Int) (x : BitVec 128) (w : World) :
    Calls Tryd.prog 19 #[.int .i64 F, .agg #[.int .u64 (hI x), .int .u64 (lI x)]] w fun e w' => e = .returned (.tuple #[.agg #[.int .u64 (hI (cutW x F)), .int .u64 (lI (cutW x F))], .bool (rightE F (cutW x F) == 0)]) ∧ Below w.heap.size w w' := by
  have KC := fun w => rcut_any x F w
  have KR := fun w => rright_any F (cutW x F) w
  generalize rightE F (cutW x F) = r at *
  generalize cutW x F = c at *
  go_enter Tryd.func19, Tryd.ntmps19
  go_wp2_with fail
  refine (KC _).mono ?_
  rintro e w1 ⟨rfl, hb1⟩
  obtain ⟨z0, z1, z2, z3, z4⟩ := ((at_new (w.alloc (.cells #[.int .u64 (hI x), .int .u64 (lI x)] 24)) (w.heap.size + 1) 0#128 24 (by simp)).below hb1).below (bl1 _ (.cells #[.int .u64 (hI c), .int .u64 (lI c), .int .i64 F] 26))
  have hN : w.heap.size + 1 < w1.heap.size := by have := hb1.size; simp at this; omega
  have nn : ¬ w1.heap.size = w.heap.size + 1 := by omega
  have kB1 := keepb hb1 (bl2 w _ _)
  have kB2 := (kB1.alloc kB1.size (.cells #[.int .u64 (hI c), .int .u64 (lI c), .int .i64 F] 26)).drew
  obtain ⟨p0, p1, p2, -, -, -⟩ := atp_new w1 w1.heap.size c F 26 rfl
  clear hb1 KC kB1
  go_wp2_with fail
  go_region_held3 (fun w' => w'.cell? ⟨w1.heap.size, 0, none⟩ = some (.int .u64 (hI c)) ∧ w'.cell? ⟨w1.heap.size, 1, none⟩ = some (.int .u64 (lI c)) ∧ w'.cell? ⟨w.heap.size + 1, 0, none⟩ = some (cv w' (w.heap.size + 1) 0) ∧ w'.cell? ⟨w.heap.size + 1, 1, none⟩ = some (cv w' (w.heap.size + 1) 1) ∧ w'.frozen? ⟨w.heap.size + 1, 0, none⟩ = false ∧ w'.frozen? ⟨w.heap.size + 1, 1, none⟩ = false ∧ Below w.heap.size w w')
    (first
      | (obtain ⟨k1, k2, k3, k4, k6, k7, k9⟩ := ‹_ ∧ _›; exact ⟨keepc hb3 k1, keepc hb3 k2, cv_of (keepc hb3 k3), cv_of (keepc hb3 k4), keepf hb3 k3 k6, keepf hb3 k4 k7, keepb hb3 k9⟩)
      | exact ⟨p0, p1, cv_of z0, cv_of z1, z2, z3, kB2⟩
      | (refine ⟨?_, ?_, cv_new ?_, cv_new ?_, ?_, ?_, ?_⟩ <;> first | (simp [go_sem, *]; done) | exact bset2 (by simp [*]) (by omega) _ _))
    (first | (go_at_call 51; refine (KR _).mono ?_; rintro e w3 ⟨rfl, hb3⟩))
  obtain ⟨-, -, -, -, -, -, kB⟩ := ‹_ ∧ _›
  have e0 := keepc hb3 (show (World.drew _).cell? _ = _ from z0)
  have e1 := keepc hb3 (show (World.drew _).cell? _ = _ from z1)
  go_wp2
  exact bodyPost_ret (v := .tuple #[.agg #[.int .u64 (hI c), .int .u64 (lI c)], .bool (r == 0)]) (by simp [results, Tryd.results19, go_sem, e0, e1]) rfl ⟨rfl, kB⟩

def someW (F : Int) (x : BitVec 128) (n : Int) : BitVec 128 := cutW (cutW x F) (n % (F + 1))
set_option maxHeartbeats 1000000 in
set_option maxRecDepth 20000 in
theorem some_any (F : Int) (x : BitVec 128) (n : Int) (w : World) (h0 : 0 ≤ F) (h1 : F ≤ 128) :
    Calls Tryd.prog 18 #[.int .i64 F, .agg #[.int .u64 (hI x), .int .u64 (lI x)], .int .i64 n] w fun e w' => e = .returned (.agg #[.int .u64 (hI (someW F x n)), .int .u64 (lI (someW F x n)), .int .i64 (n % (F + 1))]) ∧ Below w.heap.size w w' := by
  have KC := fun w => clip_any F x w
  have KW := fun w => within3_any n (F + 1) w (by omega) (by omega)
  have KT := fun w => rcut_any (cutW x F) (n % (F + 1)) w
  have hu : IntKind.i64.wrap (F + 1) = F + 1 := by rw [IntKind.wrap_i64]; omega
  unfold someW
  generalize (rightE F (cutW x F) == 0) = r at *
  generalize n % (F + 1) = m at *
  revert KT
  generalize cutW (cutW x F) m = d
  intro KT
  generalize cutW x F = c at *
  go_enter Tryd.func18, Tryd.ntmps18
  go_wp2_with fail
  refine (KC _).mono ?_
  rintro e w1 ⟨rfl, hb1⟩
  have Z1 := (atp_new (w.alloc (.cells #[.int .u64 (hI x), .int .u64 (lI x)] 24)) (w.heap.size + 1) 0#128 0 26 (by simp)).below hb1
  have X1 := ((at_new w w.heap.size x 24 rfl).below (bl1 _ (.cells #[.int .u64 0, .int .u64 0, .int .i64 0] 26))).below hb1
  have kB1 := keepb hb1 (bl2 w _ _)
  obtain ⟨x0, x1, x2, x3, x4⟩ := id X1
  clear hb1 KC
  go_wp2_with fail
  have kB2 := (bset2 kB1 (Nat.le_refl _) (.int .u64 (hI c)) (.int .u64 (lI c))).drew
  have X2 := X1.set c
  obtain ⟨y0, y1, -, -, -⟩ := id X2
  have Z2 : AtP ((w1.setCell ⟨w.heap.size, 0, none⟩ (.int .u64 (hI c))).setCell ⟨w.heap.size, 1, none⟩ (.int .u64 (lI c))) (w.heap.size + 1) 0#128 0 := by
    obtain ⟨q0, q1, q2, q3, q4, q5⟩ := Z1
    refine ⟨?_, ?_, ?_, ?_, ?_, ?_⟩ <;> simp [go_sem, *]
  clear x0 x1 x2 x3 x4 X1 Z1 kB1
  obtain ⟨z0, z1, z2, z3, z4, z5⟩ := id Z2
  go_region_held3 (fun w' => w'.cell? ⟨w.heap.size, 0, none⟩ = some (.int .u64 (hI c)) ∧ w'.cell? ⟨w.heap.size, 1, none⟩ = some (.int .u64 (lI c)) ∧ w'.cell? ⟨w.heap.size + 1, 0, none⟩ = some (cv w' (w.heap.size + 1) 0) ∧ w'.cell? ⟨w.heap.size + 1, 1, none⟩ = some (cv w' (w.heap.size + 1) 1) ∧ w'.cell? ⟨w.heap.size + 1, 2, none⟩ = some (cv w' (w.heap.size + 1) 2) ∧ w'.frozen? ⟨w.heap.size + 1, 0, none⟩ = false ∧ w'.frozen? ⟨w.heap.size + 1, 1, none⟩ = false ∧ w'.frozen? ⟨w.heap.size + 1, 2, none⟩ = false ∧ Below w.heap.size w w')
    (first
      | (obtain ⟨k1, k2, k3, k4, k5, k6, k7, k8, k9⟩ := ‹_ ∧ _›; exact ⟨keepc hb3 k1, keepc hb3 k2, cv_of (keepc hb3 k3), cv_of (keepc hb3 k4), cv_of (keepc hb3 k5), keepf hb3 k3 k6, keepf hb3 k4 k7, keepf hb3 k5 k8, keepb hb3 k9⟩)
      | exact ⟨y0, y1, cv_of z0, cv_of z1, cv_of z2, z3, z4, z5, kB2⟩
      | (refine ⟨?_, ?_, cv_new ?_, cv_new ?_, cv_new ?_, ?_, ?_, ?_, ?_⟩ <;> first | (simp [go_sem, *]; done) | exact bset3 (by simp [*]) (by omega) _ _ _))
    (first | (go_at_call 14; refine (KW _).mono ?_; rintro e w2 ⟨rfl, rfl⟩) | (go_at_call 50; refine (KT _).mono ?_; rintro e w3 ⟨rfl, hb3⟩))
  obtain ⟨-, -, -, -, -, -, -, -, kB⟩ := ‹_ ∧ _›
  have e0 := keepc hb3 (show (World.drew _).cell? _ = _ from z0)
  have e1 := keepc hb3 (show (World.drew _).cell? _ = _ from z1)
  have e2 := keepc hb3 (show (World.drew _).cell? _ = _ from z2)
  go_wp2
  exact bodyPost_ret (v := .agg #[.int .u64 (hI d), .int .u64 (lI d), .int .i64 m]) (by simp [results, Tryd.results18, go_sem, e0, e1, e2]) rfl ⟨rfl, kB⟩
end Go.Proofs.YtpchhfhdepkbcabDoor
/-
  What a call of package prefix's Last does.
-/
namespace Go.Proofs.YtpchhfhdepkbcabDoor
open Go.RowKit
set_option linter.unusedSimpArgs false
set_option linter.unusedVariables false

/-- The prefix, and the word that is answered, in memory. -/
def LS (w : World) (x : BitVec 128) (n : Int) (W : World) : Prop := AtP W w.heap.size x n ∧ At W (w.heap.size + 1) 0#128 ∧ Below w.heap.size w W
theorem LS.below {w W W' : World} {x : BitVec 128} {n : Int} (h : LS w x n W) (hb : Below W.heap.size W W') : LS w x n W' := ⟨h.1.below hb, h.2.1.below hb, keepb hb h.2.2⟩
theorem LS.al {w W : World} {x : BitVec 128} {n : Int} (h : LS w x n W) (o : Obj) : LS w x n (W.alloc o) := h.below (bl1 W o)
theorem LS.drew {w W : World} {x : BitVec 128} {n : Int} (h : LS w x n W) : LS w x n W.drew := ⟨h.1, h.2.1, h.2.2.drew⟩
theorem LS.first (w : World) (x : BitVec 128) (n : Int) : LS w x n ((w.alloc (.cells #[.int .u64 (hI x), .int .u64 (lI x), .int .i64 n] 26)).alloc (.cells #[.int .u64 0, .int .u64 0] 24)) :=
  ⟨(atp_new w w.heap.size x n 26 rfl).below (bl1 _ _), at_new (w.alloc (.cells #[.int .u64 (hI x), .int .u64 (lI x), .int .i64 n] 26)) (w.heap.size + 1) 0#128 24 (by simp), bl2 _ _ _⟩
theorem LS.set {w W : World} {x : BitVec 128} {n : Int} (h : LS w x n W) {N : Nat} (hN : w.heap.size + 1 < N) (u v : Value) : LS w x n ((W.setCell ⟨N, 0, none⟩ u).setCell ⟨N, 1, none⟩ v) := by
  obtain ⟨⟨a0, a1, a2, a3, a4, a5⟩, h2, h3⟩ := h
  have d0 : ¬ N = w.heap.size := by omega
  have d1 : ¬ w.heap.size = N := by omega
  refine ⟨?_, h2.other u v (by omega), bset2 h3 (by omega) _ _⟩
  refine ⟨?_, ?_, ?_, ?_, ?_, ?_⟩ <;> simp [go_sem, *]
theorem at_new0 (w : World) : At (w.alloc (.cells #[.int .u64 0, .int .u64 0] 24)) w.heap.size 0#128 := at_new w w.heap.size 0#128 24 rfl
theorem at_new0d (w : World) (N : Nat) (h : N = w.heap.size) : At (w.alloc (.cells #[.int .u64 0, .int .u64 0] 24)).drew N 0#128 := at_new w N 0#128 24 h
def lastW (F : Int) (x : BitVec 128) (n : Int) : BitVec 128 := x ||| (maskW F ^^^ maskW n)
set_option maxHeartbeats 4000000 in
theorem plast_any (F : Int) (x : BitVec 128) (n : Int) (w : World) :
    Calls Tryd.prog 23 #[.int .i64 F, .agg #[.int .u64 (hI x), .int .u64 (lI x), .int .i64 n]] w fun e w' => e = .returned (.agg #[.int .u64 (hI (lastW F x n)), .int .u64 (lI (lastW F x n))]) ∧ Below w.heap.size w w' := by
  have KM := fun n w => mask_any n w
  have L0 := LS.first w x n
  unfold lastW
  go_enter Tryd.func23, Tryd.ntmps23
  go_wp2
  rename_i Q' K hK
  have tail : ∀ (N : Nat) (W : World), At W N (maskW F ^^^ maskW n) → LS w x n W → (Exit.then K Q') .normal { tmps := #[.int .i64 F, .agg #[.int .u64 (hI x), .int .u64 (lI x), .int .i64 n], undef, .pointer (some ⟨w.heap.size, 0, none⟩), .pointer (some ⟨w.heap.size + 1, 0, none⟩), .pointer (some ⟨N, 0, none⟩), .int .i64 F, .agg #[.int .u64 (hI (maskW F)), .int .u64 (lI (maskW F))], .pointer (some ⟨w.heap.size, 2, none⟩), .int .i64 n, .agg #[.int .u64 (hI (maskW n)), .int .u64 (lI (maskW n))], .agg #[.int .u64 (hI (maskW F ^^^ maskW n)), .int .u64 (lI (maskW F ^^^ maskW n))], undef, undef, undef, undef], defers := [] } W := by
    intro N W hN hL
    obtain ⟨a0, a1, -, -, -⟩ := hN
    obtain ⟨⟨p0, p1, p2, -, -, -⟩, hZ, kB⟩ := hL
    clear L0 KM
    go_wp2_with fail
    refine (or_any _ _ _).mono ?_
    rintro e w9 ⟨rfl, hb9⟩
    obtain ⟨z0, z1, z2, z3, z4⟩ := hZ.below hb9
    have kB := keepb hb9 kB
    clear a0 a1 p0 p1 p2 hZ hb9
    go_wp2
    exact bodyPost_ret (v := .agg #[.int .u64 (hI (x ||| (maskW F ^^^ maskW n))), .int .u64 (lI (x ||| (maskW F ^^^ maskW n)))]) (by simp [results, Tryd.results23, go_sem, *]) rfl ⟨rfl, bset2 kB (by omega) _ _⟩
  obtain ⟨⟨p0, p1, p2, -, -, -⟩, -, -⟩ := id L0
  go_region_with (first
    | (go_at_call 53; go_loud (skip; refine (KM _ _).mono ?_; rintro e w1 ⟨rfl, hb1⟩; have L1 : LS w x n w1 := LS.below (by first | exact L1 | exact L1.al _ | exact L0.drew | exact (L0.al _).drew) hb1; (try have Z1 := At.below Z1 hb1); (try have Z1 := At.below (at_new0 _) hb1); (try (refine (fun (Z1 : At w1 (w.heap.size + 1 + 1) 0#128) => ?_) (At.below (at_new0d _ _ ?_) hb1); rotate_left; (focus (simp; done)))); obtain ⟨p0, p1, p2, -, -, -⟩ := id L1.1; have g1 := L1.2.1.2.2.2.2; have l1 := cell_in p0; have n1 : ¬ w1.heap.size = w.heap.size := (by omega)))
    | (go_at_call 52; refine (xor_any _ _ _).mono ?_; rintro e w2 ⟨rfl, hb2⟩; have L2 : LS w x n w2 := LS.below (by first | exact L1 | exact L1.al _) hb2; (try have Z1 := At.below Z1 hb2); (try have Z1 := At.below (at_new0 _) hb2); (try obtain ⟨z0, z1, z2, z3, z4⟩ := id Z1)))
  all_goals first
    | exact tail _ _ (Z1.set _) (L2.set (by omega) _ _)
    | exact tail _ _ (at_new w2 _ _ _ rfl) (L2.al _)
end Go.Proofs.YtpchhfhdepkbcabDoor
/-
  Plain facts on prefixes: what the program tells and what the reference tells is the same.
-/
namespace Go.Proofs.YtpchhfhdepkbcabDoor
open Go.RowKit
set_option linter.unusedSimpArgs false
set_option linter.unusedVariables false

theorem mask_zero (z : BitVec 128) (n : Int) (h0 : 0 ≤ n) (h1 : n ≤ 128) : z &&& maskW n = 0#128 ↔ z >>> (128 - n).toNat = 0#128 := by
  constructor
  · intro h
    apply BitVec.eq_of_getLsbD_eq
    intro j hj
    have := congrArg (fun y => y.getLsbD ((128 - n).toNat + j)) h
    simp only [BitVec.getLsbD_and, BitVec.getLsbD_zero] at this
    by_cases c : (128 - n).toNat + j < 128
    · rw [maskW_bit n _ c] at this
      have d : decide (128 - n.toNat ≤ (128 - n).toNat + j) = true := by simp; omega
      rw [d, Bool.and_true] at this
      rw [BitVec.getLsbD_ushiftRight, this, BitVec.getLsbD_zero]
    · rw [BitVec.getLsbD_ushiftRight, BitVec.getLsbD_of_ge _ _ (by omega), BitVec.getLsbD_zero]
  · intro h
    apply BitVec.eq_of_getLsbD_eq
    intro j hj
    rw [BitVec.getLsbD_and, maskW_bit n j hj, BitVec.getLsbD_zero]
    by_cases c : 128 - n.toNat ≤ j
    · have := congrArg (fun y => y.getLsbD (j - (128 - n).toNat)) h
      simp only [BitVec.getLsbD_ushiftRight, BitVec.getLsbD_zero] at this
      rw [show (128 - n).toNat + (j - (128 - n).toNat) = j by omega] at this
      rw [this, Bool.false_and]
    · simp [c]
theorem lead_mask (z : BitVec 128) (n : Int) (h0 : 0 ≤ n) (h1 : n ≤ 128) : n ≤ ((leadN z : Nat) : Int) ↔ z &&& maskW n = 0#128 := by
  rw [mask_zero z n h0 h1]
  have := lead_wide z (128 - n) (by omega) (by omega)
  constructor
  · intro h
    apply Classical.byContradiction
    intro c
    have := this.mpr c
    omega
  · intro h
    apply Classical.byContradiction
    intro c
    exact this.mp (by omega) h
theorem xor_mask (x y m : BitVec 128) : (x ^^^ y) &&& m = 0#128 ↔ x &&& m = y &&& m := by
  have e : (x ^^^ y) &&& m = (x &&& m) ^^^ (y &&& m) := by
    apply BitVec.eq_of_getLsbD_eq
    intro j hj
    simp only [BitVec.getLsbD_and, BitVec.getLsbD_xor]
    cases x.getLsbD j <;> cases y.getLsbD j <;> cases m.getLsbD j <;> rfl
  rw [e]
  constructor
  · intro h
    have := congrArg (fun z => z ^^^ (y &&& m)) h
    simpa [BitVec.xor_assoc] using this
  · intro h
    rw [h, BitVec.xor_self]
theorem has_eq (x : BitVec 128) (n : Int) (y : BitVec 128) (h0 : 0 ≤ n) (h1 : n ≤ 128) (hx : cutW x n = x) : rhasB x n y = (cutW y n == x) := by
  unfold rhasB
  rw [Bool.eq_iff_iff, decide_eq_true_iff, beq_iff_eq, lead_mask _ n h0 h1, xor_mask]
  unfold cutW at *
  rw [hx]
  exact ⟨fun h => h.symm, fun h => h.symm⟩
theorem within_eq (x : BitVec 128) (n : Int) (y : BitVec 128) (m : Int) (h0 : 0 ≤ m) (h1 : m ≤ 128) (hy : cutW y m = y) : rwithinB x n y m = withinB x n y m := by
  unfold rwithinB withinB
  rw [has_eq y m x h0 h1 hy]
theorem mask_sub (n m : Int) (h0 : 0 ≤ n) (h : n ≤ m) : maskW n &&& maskW m = maskW n := by
  apply BitVec.eq_of_getLsbD_eq
  intro j hj
  rw [BitVec.getLsbD_and, maskW_bit n j hj, maskW_bit m j hj]
  by_cases c : 128 - n.toNat ≤ j
  · have : 128 - m.toNat ≤ j := by omega
    simp [c, this]
  · simp [c]
theorem last_eq (F : Int) (x : BitVec 128) (n : Int) (h0 : 0 ≤ n) (h : n ≤ F) : rlastW F x n = lastW F x n := by
  unfold rlastW lastW
  congr 1
  apply BitVec.eq_of_getLsbD_eq
  intro j hj
  rw [BitVec.getLsbD_and, BitVec.getLsbD_xor, BitVec.getLsbD_not, maskW_bit n j hj, maskW_bit F j hj]
  by_cases c : 128 - n.toNat ≤ j
  · have : 128 - F.toNat ≤ j := by omega
    simp [c, this]
  · simp [c, hj]
theorem cut_cut (x : BitVec 128) (n m : Int) (h0 : 0 ≤ n) (h : n ≤ m) : cutW (cutW x m) n = cutW x n := by
  unfold cutW
  rw [BitVec.and_assoc, BitVec.and_comm (maskW m), mask_sub n m h0 h]
theorem cut_cut2 (x : BitVec 128) (n m : Int) (h0 : 0 ≤ n) (h : n ≤ m) : cutW (cutW x n) m = cutW x n := by
  unfold cutW
  rw [BitVec.and_assoc, mask_sub n m h0 h]
/-- A right prefix of a family. -/
def Rt (F : Int) (x : BitVec 128) (n : Int) : Prop := 0 ≤ n ∧ n ≤ F ∧ cutW x n = x
theorem some_rt (F : Int) (x : BitVec 128) (n : Int) (h : 0 ≤ F) : Rt F (someW F x n) (n % (F + 1)) := by
  have a := Int.emod_nonneg n (b := F + 1) (by omega)
  have b := Int.emod_lt_of_pos n (b := F + 1) (by omega)
  refine ⟨a, by omega, ?_⟩
  unfold someW
  exact maskW_idem _ _
end Go.Proofs.YtpchhfhdepkbcabDoor
/-
  Plain facts: the reference's Text of the family 32 is read as the address.
-/
namespace Go.Proofs.YtpchhfhdepkbcabDoor
open Go.RowKit
set_option linter.unusedSimpArgs false
set_option linter.unusedVariables false

theorem four_bits (x : BitVec 128) (h : rightE 32 x = 0) : x.toNat % 79228162514264337593543950336 = 0 := by
  have h2 := (right0 32 x h).2
  have hm : maskW 32 = 340282366841710300949110269838224261120#128 := by decide +kernel
  rw [hm] at h2
  have key : ∀ i, i < 96 → (340282366841710300949110269838224261120#128).getLsbD i = false := by decide +kernel
  have hlow : ∀ i, i < 96 → x.getLsbD i = false := fun i hi => by
    rw [← h2, BitVec.getLsbD_and, key i hi, Bool.and_false]
  have e : x = (x >>> 96) <<< 96 := by
    apply BitVec.eq_of_getLsbD_eq
    intro i hi
    rw [BitVec.getLsbD_shiftLeft, BitVec.getLsbD_ushiftRight]
    by_cases q : i < 96
    · rw [hlow i q]; simp [q]
    · have e1 : decide (i < 96) = false := by simp; omega
      have e2 : decide (i < 128) = true := by simp [hi]
      rw [e1, e2, show 96 + (i - 96) = i by omega]
      simp
  have e2 := congrArg BitVec.toNat e
  rw [BitVec.toNat_shiftLeft, BitVec.toNat_ushiftRight, Nat.shiftRight_eq_div_pow, Nat.shiftLeft_eq] at e2
  have := x.isLt
  omega
theorem four_halves (x : BitVec 128) (h : rightE 32 x = 0) : lI x = 0 ∧ (hI x).toNat % 4294967296 = 0 := by
  have hb := four_bits x h
  have hl := x.isLt
  constructor
  · unfold lI lv
    rw [BitVec.extractLsb'_toNat, Nat.shiftRight_zero]
    omega
  · unfold hI hv
    rw [BitVec.extractLsb'_toNat, Nat.shiftRight_eq_div_pow, Int.toNat_natCast]
    omega
theorem text4_back (x : BitVec 128) (h : rightE 32 x = 0) : rpE 32 (text4 x) = 0 ∧ rpV 32 (text4 x) = x := by
  obtain ⟨hl, hh⟩ := four_halves x h
  have h0 := hI_lo x
  have h1 := hI_up x
  have lt : ∀ k, octN x k < 256 := fun k => by unfold octN; omega
  have ht : text4 x = bL (quadL (octN x 0) (octN x 1) (octN x 2) (octN x 3)) := by
    apply ByteArray.ext
    simp [text4, dotS, bL, quadL, jn]
  have hd := dot_quad (octN x 0) (octN x 1) (octN x 2) (octN x 3) (lt 0) (lt 1) (lt 2) (lt 3)
  rw [← ht] at hd
  have hs : (text4 x).size ≤ 15 := dot_short _ (by rw [hd]; rfl)
  have hv : ((((octN x 0 * 256 + octN x 1) * 256 + octN x 2) * 256 + octN x 3 : Nat) : Int) * 4294967296 = hI x := by
    unfold octN
    rw [show 56 - 8 * 0 = 56 from rfl, show 56 - 8 * 1 = 48 from rfl, show 56 - 8 * 2 = 40 from rfl, show 56 - 8 * 3 = 32 from rfl]
    omega
  have hf : fam 32 = true := by decide
  constructor
  · unfold rpE
    rw [if_neg (by rw [hf]; simp), if_neg (by omega), if_pos rfl, hd]
  · unfold rpV
    rw [if_neg (by rw [hf]; simp; omega), if_pos rfl, hd]
    show mkW _ 0 = x
    rw [hv]
    have := mk_ints x
    rw [hl] at this
    exact this
end Go.Proofs.YtpchhfhdepkbcabDoor
/-
  Plain facts: which bytes an address's text has, and how many.
-/
namespace Go.Proofs.YtpchhfhdepkbcabDoor
open Go.RowKit
set_option linter.unusedSimpArgs false
set_option linter.unusedVariables false

def okB (six : Bool) (c : UInt8) : Prop := (48 ≤ c.toNat ∧ c.toNat ≤ 57) ∨ (c.toNat = 46 ∧ six = false) ∨ ((c.toNat = 58 ∨ (97 ≤ c.toNat ∧ c.toNat ≤ 102)) ∧ six = true)
theorem dec_ok : ∀ n : Fin 256, ∀ c ∈ decL n.val, 48 ≤ c.toNat ∧ c.toNat ≤ 57 := by decide +kernel
theorem hexD_ok : ∀ d : Fin 16, (48 ≤ (hexD d.val).toNat ∧ (hexD d.val).toNat ≤ 57) ∨ (97 ≤ (hexD d.val).toNat ∧ (hexD d.val).toNat ≤ 102) := by decide +kernel
theorem fourL_ok (x : BitVec 128) : ∀ k, ∀ c ∈ fourL x k, okB false c := by
  intro k
  induction k with
  | zero => intro c h; cases h
  | succ k ih =>
    intro c h
    unfold fourL at h
    rw [List.mem_append] at h
    rcases h with h | h
    · split at h
      · cases h
      · rw [List.mem_append] at h
        rcases h with h | h
        · exact ih c h
        · simp at h; subst h; right; left; exact ⟨rfl, rfl⟩
    · exact Or.inl (dec_ok ⟨octN x k, by unfold octN; omega⟩ c h)
theorem hexF_ok : ∀ f m t, (∀ c ∈ t, okB true c) → ∀ c ∈ hexF f m t, okB true c := by
  intro f
  induction f with
  | zero => intro m t h; exact h
  | succ f ih =>
    intro m t h c hc
    unfold hexF at hc
    split at hc
    · exact h c hc
    · refine ih (m / 16) (hexD (m % 16) :: t) ?_ c hc
      intro d hd
      simp only [List.mem_cons] at hd
      rcases hd with rfl | hd
      · rcases hexD_ok ⟨m % 16, by omega⟩ with h1 | h1
        · exact Or.inl h1
        · exact Or.inr (Or.inr ⟨Or.inr h1, rfl⟩)
      · exact h d hd
theorem hexL_ok (n : Nat) : ∀ c ∈ hexL n, okB true c := hexF_ok 20 n [] (fun c h => by cases h)
theorem jnH_ok (g : Nat → Nat) : ∀ k, ∀ c ∈ jnH g k, okB true c := by
  intro k
  induction k with
  | zero => intro c h; cases h
  | succ k ih =>
    intro c h
    unfold jnH at h
    rw [List.mem_append] at h
    rcases h with h | h
    · split at h
      · cases h
      · rw [List.mem_append] at h
        rcases h with h | h
        · exact ih c h
        · simp at h; subst h; right; right; exact ⟨Or.inl rfl, rfl⟩
    · exact hexL_ok _ c h
theorem jnH_len9 (g : Nat → Nat) (hl : ∀ j, g j < 65536) (k : Nat) : (jnH g (k + 1)).length ≤ 5 * k + 4 := by
  induction k with
  | zero =>
    have := (hexL_len _ (hl 0)).2
    simpa [jnH] using this
  | succ k ih =>
    have h4 := (hexL_len _ (hl (k + 1))).2
    show ((if k + 1 = 0 then [] else jnH g (k + 1) ++ [58]) ++ hexL (g (k + 1))).length ≤ _
    rw [if_neg (by omega), List.length_append, List.length_append]
    simp only [List.length_cons, List.length_nil]
    omega
/-- An address's text, as a list. -/
theorem text6_ways (x : BitVec 128) : ∃ l, text6 x = bL l ∧ (∀ c ∈ l, okB true c) ∧ l.length ≤ 39 := by
  by_cases h : rowN x < 2
  · refine ⟨jnH (grN x) 8, ?_, jnH_ok _ _, by have := jnH_len9 (grN x) (grN_bd x) 7; omega⟩
    rw [text6_flat x h]
    have := jnH_jn (grN x) 0 8
    simp only [Nat.zero_add] at this
    rw [this]
    rfl
  · have hb := row_bd x h
    refine ⟨jnH (fun j => grN x (0 + j)) (rowA x) ++ [58, 58] ++ jnH (fun j => grN x (rowA x + rowN x + j)) (8 - (rowA x + rowN x)), ?_, ?_, ?_⟩
    · rw [text6_gap x h, jnH_jn (grN x) 0 (rowA x), jnH_jn (grN x) (rowA x + rowN x)]
      rfl
    · intro c hc
      rw [List.mem_append, List.mem_append] at hc
      rcases hc with (hc | hc) | hc
      · exact jnH_ok _ _ c hc
      · simp at hc; subst hc; right; right; exact ⟨Or.inl rfl, rfl⟩
      · exact jnH_ok _ _ c hc
    · have L1 := jnH_len (fun j => grN x (0 + j)) (fun j => grN_bd x _) (rowA x)
      have L2 := jnH_len (fun j => grN x (rowA x + rowN x + j)) (fun j => grN_bd x _) (8 - (rowA x + rowN x))
      simp only [List.length_append, List.length_cons, List.length_nil]
      omega
theorem text4_ways (x : BitVec 128) : ∃ l, text4 x = bL l ∧ (∀ c ∈ l, okB false c) ∧ l.length ≤ 39 :=
  ⟨fourL x 4, (fourL_text x).symm, fourL_ok x 4, by have := fourL_len x 4; omega⟩
theorem text2_ways (six : Bool) (F : Int) (hF : F = if six = true then 128 else 32) (x : BitVec 128) (hr : rightE F x = 0) : ∃ l, text2 F x = bL l ∧ (∀ c ∈ l, okB six c) ∧ l.length ≤ 39 := by
  unfold text2
  rw [if_pos hr]
  cases six
  · rw [if_neg (by decide)] at hF
    rw [if_pos hF]
    exact text4_ways x
  · rw [if_pos rfl] at hF
    rw [hF, if_neg (by decide)]
    exact text6_ways x
end Go.Proofs.YtpchhfhdepkbcabDoor
/-
  What the calls of the reference's chapter 3 do: Text and Parse of prefixes.
-/
namespace Go.Proofs.YtpchhfhdepkbcabDoor
open Go.RowKit
set_option linter.unusedSimpArgs false
set_option linter.unusedVariables false

theorem itoa_dec (n : Int) (h0 : 0 ≤ n) (h1 : n ≤ 128) : Lib.itoa n = decL n.toNat := by
  obtain ⟨k, rfl⟩ : ∃ k : Nat, n = k := ⟨n.toNat, by omega⟩
  rw [Lib.itoa_nonneg, decL_lib k (by omega)]
  rfl
theorem check_bd (F : Int) (x : BitVec 128) (n : Int) (h : checkE F x n = 0) : fam F = true ∧ Rt F x n ∧ rightE F x = 0 := by
  unfold checkE at h
  by_cases hf : fam F = true
  · rw [if_pos hf] at h
    by_cases h1 : n < 0
    · rw [if_pos h1] at h; omega
    rw [if_neg h1] at h
    by_cases h2 : F < n
    · rw [if_pos h2] at h; omega
    rw [if_neg h2] at h
    by_cases h3 : (cutW x n == x) = true
    · have hx : cutW x n = x := by simpa using h3
      refine ⟨hf, ⟨by omega, by omega, hx⟩, ?_⟩
      unfold rightE
      rw [if_pos hf, if_pos]
      have := cut_cut2 x n F (by omega) (by omega)
      rw [hx] at this
      exact this
    · rw [if_neg h3] at h; omega
  · rw [if_neg hf] at h; omega
theorem fam_le (F : Int) (h : fam F = true) : 32 ≤ F ∧ F ≤ 128 := by rcases fam_ways F h with rfl | rfl <;> omega
theorem text2_z (F : Int) (x : BitVec 128) : (text2 F x).size ≤ 1000 := by
  unfold text2
  split
  · split
    · obtain ⟨l, h1, -, h2⟩ := text4_ways x; rw [h1]; show l.length ≤ 1000; omega
    · obtain ⟨l, h1, -, h2⟩ := text6_ways x; rw [h1]; show l.length ≤ 1000; omega
  · decide
def ptxt (F : Int) (x : BitVec 128) (n : Int) : ByteArray := if checkE F x n = 0 then slashed (text2 F x) n else ⟨#[]⟩
theorem ptext_any (F : Int) (x : BitVec 128) (n : Int) (w : World) (hP : Pow w) (hT : Tab w) :
    Calls Tryd.prog 11 #[.int .i64 F, .agg #[.int .u64 (hI x), .int .u64 (lI x), .int .i64 n]] w fun e w' => e = .returned (.tuple #[.string (ptxt F x n), .int .i64 (checkE F x n)]) ∧ Below w.heap.size w w' := by
  unfold ptxt
  by_cases h : checkE F x n = 0
  · rw [if_pos h, h]
    obtain ⟨hf, ⟨h0, h1, hx⟩, hr⟩ := check_bd F x n h
    have := fam_le F hf
    have hP' : ∀ w', Below w.heap.size w w' → Pow w' := fun w' hb => hP.keep hb
    exact ptext_of2 F x n (text2 F x) 0 w hP hT h h0 (by omega) (text2_z F x) (fun w hP hT => by
      have := atext_any F x w hP hT
      rw [hr] at this
      exact this)
  · rw [if_neg h]
    exact ptext_err F x n w h
set_option maxHeartbeats 2000000 in
theorem rptext_any (F : Int) (x : BitVec 128) (n : Int) (w : World) :
    Calls Tryd.prog 12 #[.int .i64 F, .agg #[.int .u64 (hI x), .int .u64 (lI x), .int .i64 n]] w fun e w' => e = .returned (.tuple #[.string (ptxt F x n), .int .i64 (checkE F x n)]) ∧ Below w.heap.size w w' := by
  have KC := fun w => rcheck_any F x n w
  unfold ptxt
  by_cases h : checkE F x n = 0
  · rw [h] at KC
    rw [if_pos h, h]
    obtain ⟨hf, ⟨h0, h1, hx⟩, hr⟩ := check_bd F x n h
    have hF := fam_le F hf
    have KT := fun w => rtext2_any F x w
    rw [hr] at KT
    have KD := fun w => rdec_any n.toNat w (by omega)
    rw [show ((n.toNat : Nat) : Int) = n by omega, ← itoa_dec n h0 (by omega)] at KD
    have ht := text2_z F x
    have hl := Lib.itoa_length_le n (by omega) (by omega)
    unfold slashed
    generalize text2 F x = t at *
    generalize hd : (⟨(Lib.itoa n).toArray⟩ : ByteArray) = d at *
    have hds : d.size ≤ 21 := by rw [← hd]; exact hl
    have hlen1 : ¬ 9223372036854775807 < t.size + 1 := by omega
    have hlen2 : ¬ 9223372036854775807 < t.size + 1 + d.size := by omega
    clear hd hl h hr hf hx
    go_enter Tryd.func12, Tryd.ntmps12
    go_wp2_with fail
    refine (KC _).mono ?_
    rintro e w1 ⟨rfl, hb1⟩
    have P1 := (atp_new w w.heap.size x n 26 rfl).below hb1
    have kB1 := keepb hb1 (bl1 w _)
    clear hb1 KC
    obtain ⟨p0, p1, p2, -, -, -⟩ := id P1
    go_wp2_with fail
    refine (KT _).mono ?_
    rintro e w2 ⟨rfl, hb2⟩
    have kB2 := keepb hb2 kB1
    clear p0 p1 p2
    obtain ⟨p0, p1, p2, -, -, -⟩ := P1.below hb2
    clear hb2 KT kB1 P1
    go_wp2_with fail
    refine (KD _).mono ?_
    rintro e w3 ⟨rfl, hb3⟩
    have kB3 := keepb hb3 kB2
    clear hb3 KD kB2
    go_wp2
    go_ret2
    exact ⟨rfl, kB3⟩
  · have hb : (checkE F x n != 0) = true := by simp [h]
    rw [if_neg h]
    clear h
    generalize checkE F x n = c at *
    go_enter Tryd.func12, Tryd.ntmps12
    go_wp2_with fail
    refine (KC _).mono ?_
    rintro e w1 ⟨rfl, hb1⟩
    have kB1 := keepb hb1 (bl1 w _)
    clear hb1 KC
    go_wp2
    go_ret2
    exact ⟨rfl, kB1⟩
end Go.Proofs.YtpchhfhdepkbcabDoor
/-
  Plain facts on walking from address to address. Nothing of the program is imported here.
-/
namespace Go.Proofs.YtpchhfhdepkbcabDoor
open Go.RowKit
set_option linter.unusedSimpArgs false
set_option linter.unusedVariables false

theorem right_of (F : Int) (x : BitVec 128) (hf : fam F = true) (h : x &&& maskW F = x) : rightE F x = 0 := by
  unfold rightE; rw [if_pos hf, if_pos h]
theorem and_mask_idem (F : Int) (x : BitVec 128) : (x &&& maskW F) &&& maskW F = x &&& maskW F := by
  rw [BitVec.and_assoc, BitVec.and_self]
theorem low96_back (x : BitVec 128) (h : x.toNat % 79228162514264337593543950336 = 0) : x &&& maskW 32 = x := by
  have e : x = (x >>> 96) <<< 96 := by
    apply BitVec.eq_of_toNat_eq
    rw [BitVec.toNat_shiftLeft, BitVec.toNat_ushiftRight, Nat.shiftLeft_eq, Nat.shiftRight_eq_div_pow]
    have := x.isLt
    have e2 : (2 : Nat) ^ 96 = 79228162514264337593543950336 := by decide
    have e3 : (2 : Nat) ^ 128 = 340282366920938463463374607431768211456 := by decide
    rw [e2]
    omega
  apply BitVec.eq_of_getLsbD_eq; intro i hi
  rw [mask32]
  have q := congrArg (fun z => z.getLsbD i) e
  simp only [BitVec.getLsbD_and, BitVec.getLsbD_shiftLeft, BitVec.getLsbD_ushiftRight, BitVec.getLsbD_allOnes, hi, decide_true, Bool.true_and] at q ⊢
  by_cases c : i < 96
  · simp only [c, decide_true, Bool.not_true, Bool.false_and, Bool.and_false] at q ⊢
    exact q.symm
  · have d : 96 + (i - 96) < 128 := by omega
    simp only [c, d, decide_false, decide_true, Bool.not_false, Bool.and_true]
theorem step_nat (F : Int) (hf : fam F = true) : 1 ≤ (stepW F).toNat := by
  rcases fam_ways F hf with rfl | rfl <;> decide +kernel
theorem next_right (F : Int) (x : BitVec 128) (hr : rightE F x = 0) (ho : overB x (stepW F) = false) : rightE F (x + stepW F) = 0 := by
  obtain ⟨hf, hm⟩ := right0 F x hr
  apply right_of F _ hf
  unfold overB at ho
  simp only [decide_eq_false_iff_not] at ho
  rcases fam_ways F hf with rfl | rfl
  · apply low96_back
    have e1 : (stepW 32).toNat = 79228162514264337593543950336 := by decide +kernel
    have e3 := low96 x hm
    rw [e1] at ho
    rw [BitVec.toNat_add, e1]
    omega
  · rw [mask128, BitVec.and_allOnes]
theorem add_nat (x y : BitVec 128) (ho : overB x y = false) : (x + y).toNat = x.toNat + y.toNat := by
  unfold overB at ho
  simp only [decide_eq_false_iff_not] at ho
  rw [BitVec.toNat_add]; omega
theorem cmp_next (F : Int) (x : BitVec 128) (hf : fam F = true) (ho : overB x (stepW F) = false) : cmpZ x (x + stepW F) = -1 := by
  have := add_nat x (stepW F) ho
  have := step_nat F hf
  unfold cmpZ; rw [if_pos (by omega)]
theorem sub_next (x y : BitVec 128) : (x + y) - x = y := by rw [BitVec.add_comm]; exact BitVec.add_sub_cancel y x
theorem prev_next (F : Int) (x : BitVec 128) (hr : rightE F x = 0) (ho : overB x (stepW F) = false) : prevB F (x + stepW F) = true ∧ prevV F (x + stepW F) = x := by
  have h1 := next_right F x hr ho
  have h2 := add_nat x (stepW F) ho
  have e : prevB F (x + stepW F) = true := by
    unfold prevB underB; rw [h1]; simp; omega
  refine ⟨e, ?_⟩
  unfold prevV; rw [e, if_pos rfl]; exact BitVec.add_sub_cancel x (stepW F)
theorem next_ways (F : Int) (x : BitVec 128) (hr : rightE F x = 0) : (overB x (stepW F) = true ∧ nextB F x = false ∧ nextV F x = 0#128 ∧ x = maskW F) ∨ (overB x (stepW F) = false ∧ nextB F x = true ∧ nextV F x = x + stepW F) := by
  obtain ⟨hf, hm⟩ := right0 F x hr
  have ho := over_step F x hf hm
  by_cases e : x = maskW F
  · left
    have h1 : overB x (stepW F) = true := by rw [ho]; simp [e]
    have e1 : nextB F x = false := by unfold nextB; rw [h1]; simp
    exact ⟨h1, e1, by unfold nextV; rw [e1]; rfl, e⟩
  · right
    have h1 : overB x (stepW F) = false := by rw [ho]; simp [e]
    have e1 : nextB F x = true := by unfold nextB; rw [h1]; simp [hr]
    exact ⟨h1, e1, by unfold nextV; rw [e1]; rfl⟩
theorem prev_zero (F : Int) (hf : fam F = true) : prevB F 0#128 = false ∧ prevV F 0#128 = 0#128 := by
  have hm : 0#128 &&& maskW F = 0#128 := BitVec.zero_and
  have ho := under_step F 0#128 hf hm
  have e : prevB F 0#128 = false := by unfold prevB; rw [ho]; simp
  exact ⟨e, by unfold prevV; rw [e]; rfl⟩
/-- So many steps on. -/
def walkW (F : Int) (x : BitVec 128) : Nat → BitVec 128
  | 0 => x
  | k + 1 => walkW F x k + stepW F
end Go.Proofs.YtpchhfhdepkbcabDoor
/-
  Plain facts: a right prefix's text is read as it.
-/
namespace Go.Proofs.YtpchhfhdepkbcabDoor
open Go.RowKit
set_option linter.unusedSimpArgs false
set_option linter.unusedVariables false

theorem index_app (l r : List UInt8) (h : ∀ c ∈ l, c ≠ 47) : Lib.indexByte (l ++ 47 :: r) 47 = (l.length : Int) := by
  induction l with
  | nil => simp [Lib.indexByte]
  | cons b l ih =>
    have hb : ¬ (b == 47) = true := by simp; exact h b (by simp)
    have := ih (fun c hc => h c (by simp [hc]))
    show (if (b == 47) = true then (0 : Int) else if (Lib.indexByte (l ++ 47 :: r) 47 == -1) = true then -1 else Lib.indexByte (l ++ 47 :: r) 47 + 1) = _
    rw [if_neg hb, this, if_neg (by simp)]
    simp
theorem len_dec : ∀ n : Fin 129, lenO (bL (decL n.val)) = some (n.val : Int) := by decide +kernel
theorem ok_no (six : Bool) (c : UInt8) (h : okB six c) : c ≠ 47 := by
  intro e
  subst e
  unfold okB at h
  simp at h
theorem slash_parts (l d : List UInt8) (h : ∀ c ∈ l, c ≠ 47) : headS (bL (l ++ 47 :: d)) = bL l ∧ tailS (bL (l ++ 47 :: d)) = bL d := by
  have hi : ixS (bL (l ++ 47 :: d)) = (l.length : Int) := index_app l d h
  have hn : ¬ (l.length : Int) = -1 := by omega
  unfold headS tailS
  rw [hi, if_neg hn, if_neg hn, bL_ext, bL_ext]
  constructor
  · congr 1
    simp
  · congr 1
    simp [bL_size]
    rw [List.take_of_length_le (by omega)]
theorem back3 (F : Int) (x : BitVec 128) (n : Int) (hf : fam F = true) (hr : Rt F x n) :
    checkE F x n = 0 ∧ ppE F (ptxt F x n) = 0 ∧ ppV F (ptxt F x n) = x ∧ ppN F (ptxt F x n) = n ∧ (ptxt F x n).size ≤ maxLen := by
  obtain ⟨h0, h1, hx⟩ := id hr
  have hF := fam_le F hf
  have hc : checkE F x n = 0 := by
    unfold checkE
    rw [if_pos hf, if_neg (by omega), if_neg (by omega), if_pos (by rw [hx]; simp)]
  have hR := (check_bd F x n hc).2.2
  obtain ⟨six, hsix⟩ : ∃ six : Bool, F = if six = true then 128 else 32 := by
    rcases fam_ways F hf with rfl | rfl
    · exact ⟨false, rfl⟩
    · exact ⟨true, rfl⟩
  obtain ⟨l, t1, t2, t3⟩ := text2_ways six F hsix x hR
  have hs : ptxt F x n = bL (l ++ 47 :: decL n.toNat) := by
    unfold ptxt
    rw [if_pos hc]
    unfold slashed
    rw [t1, itoa_dec n h0 (by omega)]
    show bL l ++ bL [47] ++ bL _ = _
    rw [bL_cat, bL_cat]
    simp
  obtain ⟨p1, p2⟩ := slash_parts l (decL n.toNat) (fun c hc => ok_no six c (t2 c hc))
  have hln := len_dec ⟨n.toNat, by omega⟩
  simp only at hln
  have hb : apE F (bL l) = 0 ∧ apV F (bL l) = x := by
    rw [← t1]
    obtain ⟨e1, e2⟩ := parse_eq F (text2 F x)
    rw [e1, e2]
    unfold text2
    rw [if_pos hR]
    rcases fam_ways F hf with rfl | rfl
    · exact text4_back x hR
    · exact text6_back x
  have hlB : lenB (bL (decL n.toNat)) = true := by unfold lenB; rw [hln]; rfl
  have hlV : lenV (bL (decL n.toNat)) = n := by unfold lenV; rw [hln]; show ((n.toNat : Nat) : Int) = n; omega
  have hE : ppE F (ptxt F x n) = 0 := by
    unfold ppE
    rw [hs, p1, p2, if_pos hb.1, if_pos hlB, hb.2, hlV, hc]
  refine ⟨hc, hE, ?_, ?_, ?_⟩
  · unfold ppV; rw [if_pos hE, hs, p1, hb.2]
  · unfold ppN; rw [if_pos hE, hs, p2, hlV]
  · rw [hs]
    unfold maxLen
    show (l ++ 47 :: decL n.toNat).length ≤ _
    have := decL_len3 n.toNat (by omega)
    simp only [List.length_append, List.length_cons]
    omega
end Go.Proofs.YtpchhfhdepkbcabDoor
