/-
  Part 6 of the proof: 5 texts, one behind the other.
-/
import Derived.Test.YtpchhfhdepkbcabDoorPart5
import Derived.Test.YtpchhfhdepkbcabDoorPart4
/-
  What the calls of the law's own helpers of chapter 3 do.
-/
namespace Go.Proofs.YtpchhfhdepkbcabDoor
open Go.RowKit
set_option linter.unusedSimpArgs false
set_option linter.unusedVariables false

def famZ (b : Bool) : Int := if b = true then 128 else 32
theorem famZ_fam (b : Bool) : fam (famZ b) = true := by cases b <;> decide
theorem famZ_bd (b : Bool) : 32 ≤ famZ b ∧ famZ b ≤ 128 := by cases b <;> decide
theorem family3_any (b : Bool) (w : World) :
    Calls Tryd.prog 17 #[.bool b] w fun e w' => e = .returned (.int .i64 (famZ b)) ∧ w' = w := by
  cases b
  · go_enter Tryd.func17, Tryd.ntmps17
    go_wp2
    go_ret
    exact ⟨rfl, rfl⟩
  · go_enter Tryd.func17, Tryd.ntmps17
    go_wp2
    go_ret
    exact ⟨rfl, rfl⟩
set_option maxHeartbeats 1000000 in
theorem within3_any (a n : Int) (w : World) (h0 : 0 < n) (h1 : n ≤ 9223372036854775807) :
    Calls Tryd.prog 14 #[.int .i64 a, .int .i64 n] w fun e w' => e = .returned (.int .i64 (a % n)) ∧ w' = w := by
  have b1 := Int.emod_nonneg a (b := n) (by omega)
  have b2 := Int.emod_lt_of_pos a h0
  have hn0 : ¬ n = 0 := by omega
  have hnb : (n == 0) = false := by simp; omega
  rcases tmod_ways a n h0 with ⟨c, e⟩ | ⟨c, e⟩
  · have hw : IntKind.i64.wrap (a.tmod n) = a.tmod n := by rw [IntKind.wrap_i64]; omega
    have hw2 : IntKind.i64.wrap (a.tmod n + n) = a.tmod n + n := by rw [IntKind.wrap_i64]; omega
    rw [← e]
    clear e b1 b2
    go_enter Tryd.func14, Tryd.ntmps14
    go_wp2
    go_ret
    exact ⟨rfl, rfl⟩
  · have hw : IntKind.i64.wrap (a.tmod n) = a.tmod n := by rw [IntKind.wrap_i64]; omega
    rw [← e]
    clear e b1 b2
    go_enter Tryd.func14, Tryd.ntmps14
    go_wp2
    go_ret
    exact ⟨rfl, rfl⟩

set_option maxHeartbeats 1000000 in
set_option maxRecDepth 20000 in
theorem clip_any (F : Int) (x : BitVec 128) (w : World) :
    Calls Tryd.prog 19 #[.int .i64 F, .agg #[.int .u64 (hI x), .int .u64 (lI x)]] w fun e w' => e = .returned (.tuple #[.agg #[.int .u64 (hI (cutW x F)), .int .u64 (lI (cutW x F))], .bool (rightE F (cutW x F) == 0)]) ∧ Below w.heap.size w w' := by
  have KC := fun w => rcut_any x F w
  have KR := fun w => rright_any F (cutW x F) w
  generalize rightE F (cutW x F) = r at *
  generalize cutW x F = c at *
  go_enter Tryd.func19, Tryd.ntmps19
  go_wp2_with fail
  refine (KC _).mono ?_
  rintro e w1 ⟨rfl, hb1⟩
  obtain ⟨z0, z1, z2, z3, z4⟩ := ((at_new (w.alloc (.cells #[.int .u64 (hI x), .int .u64 (lI x)] 24)) (w.heap.size + 1) 0#128 24 (by simp)).below hb1).below (bl1 _ (.cells #[.int .u64 (hI c), .int .u64 (lI c), .int .i64 F] 26))
  have hN : w.heap.size + 1 < w1.heap.size := by have := hb1.size; simp at this; omega
  have nn : ¬ w1.heap.size = w.heap.size + 1 := by omega
  have kB1 := keepb hb1 (bl2 w _ _)
  have kB2 := (kB1.alloc kB1.size (.cells #[.int .u64 (hI c), .int .u64 (lI c), .int .i64 F] 26)).drew
  obtain ⟨p0, p1, p2, -, -, -⟩ := atp_new w1 w1.heap.size c F 26 rfl
  clear hb1 KC kB1
  go_wp2_with fail
  go_region_held3 (fun w' => w'.cell? ⟨w1.heap.size, 0, none⟩ = some (.int .u64 (hI c)) ∧ w'.cell? ⟨w1.heap.size, 1, none⟩ = some (.int .u64 (lI c)) ∧ w'.cell? ⟨w.heap.size + 1, 0, none⟩ = some (cv w' (w.heap.size + 1) 0) ∧ w'.cell? ⟨w.heap.size + 1, 1, none⟩ = some (cv w' (w.heap.size + 1) 1) ∧ w'.frozen? ⟨w.heap.size + 1, 0, none⟩ = false ∧ w'.frozen? ⟨w.heap.size + 1, 1, none⟩ = false ∧ Below w.heap.size w w')
    (first
      | (obtain ⟨k1, k2, k3, k4, k6, k7, k9⟩ := ‹_ ∧ _›; exact ⟨keepc hb3 k1, keepc hb3 k2, cv_of (keepc hb3 k3), cv_of (keepc hb3 k4), keepf hb3 k3 k6, keepf hb3 k4 k7, keepb hb3 k9⟩)
      | exact ⟨p0, p1, cv_of z0, cv_of z1, z2, z3, kB2⟩
      | (refine ⟨?_, ?_, cv_new ?_, cv_new ?_, ?_, ?_, ?_⟩ <;> first | (simp [go_sem, *]; done) | exact bset2 (by simp [*]) (by omega) _ _))
    (first | (go_at_call 51; refine (KR _).mono ?_; rintro e w3 ⟨rfl, hb3⟩))
  obtain ⟨-, -, -, -, -, -, kB⟩ := ‹_ ∧ _›
  have e0 := keepc hb3 (show (World.drew _).cell? _ = _ from z0)
  have e1 := keepc hb3 (show (World.drew _).cell? _ = _ from z1)
  go_wp2
  exact bodyPost_ret (v := .tuple #[.agg #[.int .u64 (hI c), .int .u64 (lI c)], .bool (r == 0)]) (by simp [results, Tryd.results19, go_sem, e0, e1]) rfl ⟨rfl, kB⟩

def someW (F : Int) (x : BitVec 128) (n : Int) : BitVec 128 := cutW (cutW x F) (n % (F + 1))
set_option maxHeartbeats 1000000 in
set_option maxRecDepth 20000 in
theorem some_any (F : Int) (x : BitVec 128) (n : Int) (w : World) (h0 : 0 ≤ F) (h1 : F ≤ 128) :
    Calls Tryd.prog 18 #[.int .i64 F, .agg #[.int .u64 (hI x), .int .u64 (lI x)], .int .i64 n] w fun e w' => e = .returned (.agg #[.int .u64 (hI (someW F x n)), .int .u64 (lI (someW F x n)), .int .i64 (n % (F + 1))]) ∧ Below w.heap.size w w' := by
  have KC := fun w => clip_any F x w
  have KW := fun w => within3_any n (F + 1) w (by omega) (by omega)
  have KT := fun w => rcut_any (cutW x F) (n % (F + 1)) w
  have hu : IntKind.i64.wrap (F + 1) = F + 1 := by rw [IntKind.wrap_i64]; omega
  unfold someW
  generalize (rightE F (cutW x F) == 0) = r at *
  generalize n % (F + 1) = m at *
  revert KT
  generalize cutW (cutW x F) m = d
  intro KT
  generalize cutW x F = c at *
  go_enter Tryd.func18, Tryd.ntmps18
  go_wp2_with fail
  refine (KC _).mono ?_
  rintro e w1 ⟨rfl, hb1⟩
  have Z1 := (atp_new (w.alloc (.cells #[.int .u64 (hI x), .int .u64 (lI x)] 24)) (w.heap.size + 1) 0#128 0 26 (by simp)).below hb1
  have X1 := ((at_new w w.heap.size x 24 rfl).below (bl1 _ (.cells #[.int .u64 0, .int .u64 0, .int .i64 0] 26))).below hb1
  have kB1 := keepb hb1 (bl2 w _ _)
  obtain ⟨x0, x1, x2, x3, x4⟩ := id X1
  clear hb1 KC
  go_wp2_with fail
  have kB2 := (bset2 kB1 (Nat.le_refl _) (.int .u64 (hI c)) (.int .u64 (lI c))).drew
  have X2 := X1.set c
  obtain ⟨y0, y1, -, -, -⟩ := id X2
  have Z2 : AtP ((w1.setCell ⟨w.heap.size, 0, none⟩ (.int .u64 (hI c))).setCell ⟨w.heap.size, 1, none⟩ (.int .u64 (lI c))) (w.heap.size + 1) 0#128 0 := by
    obtain ⟨q0, q1, q2, q3, q4, q5⟩ := Z1
    refine ⟨?_, ?_, ?_, ?_, ?_, ?_⟩ <;> simp [go_sem, *]
  clear x0 x1 x2 x3 x4 X1 Z1 kB1
  obtain ⟨z0, z1, z2, z3, z4, z5⟩ := id Z2
  go_region_held3 (fun w' => w'.cell? ⟨w.heap.size, 0, none⟩ = some (.int .u64 (hI c)) ∧ w'.cell? ⟨w.heap.size, 1, none⟩ = some (.int .u64 (lI c)) ∧ w'.cell? ⟨w.heap.size + 1, 0, none⟩ = some (cv w' (w.heap.size + 1) 0) ∧ w'.cell? ⟨w.heap.size + 1, 1, none⟩ = some (cv w' (w.heap.size + 1) 1) ∧ w'.cell? ⟨w.heap.size + 1, 2, none⟩ = some (cv w' (w.heap.size + 1) 2) ∧ w'.frozen? ⟨w.heap.size + 1, 0, none⟩ = false ∧ w'.frozen? ⟨w.heap.size + 1, 1, none⟩ = false ∧ w'.frozen? ⟨w.heap.size + 1, 2, none⟩ = false ∧ Below w.heap.size w w')
    (first
      | (obtain ⟨k1, k2, k3, k4, k5, k6, k7, k8, k9⟩ := ‹_ ∧ _›; exact ⟨keepc hb3 k1, keepc hb3 k2, cv_of (keepc hb3 k3), cv_of (keepc hb3 k4), cv_of (keepc hb3 k5), keepf hb3 k3 k6, keepf hb3 k4 k7, keepf hb3 k5 k8, keepb hb3 k9⟩)
      | exact ⟨y0, y1, cv_of z0, cv_of z1, cv_of z2, z3, z4, z5, kB2⟩
      | (refine ⟨?_, ?_, cv_new ?_, cv_new ?_, cv_new ?_, ?_, ?_, ?_, ?_⟩ <;> first | (simp [go_sem, *]; done) | exact bset3 (by simp [*]) (by omega) _ _ _))
    (first | (go_at_call 14; refine (KW _).mono ?_; rintro e w2 ⟨rfl, rfl⟩) | (go_at_call 50; refine (KT _).mono ?_; rintro e w3 ⟨rfl, hb3⟩))
  obtain ⟨-, -, -, -, -, -, -, -, kB⟩ := ‹_ ∧ _›
  have e0 := keepc hb3 (show (World.drew _).cell? _ = _ from z0)
  have e1 := keepc hb3 (show (World.drew _).cell? _ = _ from z1)
  have e2 := keepc hb3 (show (World.drew _).cell? _ = _ from z2)
  go_wp2
  exact bodyPost_ret (v := .agg #[.int .u64 (hI d), .int .u64 (lI d), .int .i64 m]) (by simp [results, Tryd.results18, go_sem, e0, e1, e2]) rfl ⟨rfl, kB⟩
end Go.Proofs.YtpchhfhdepkbcabDoor
/-
  What a call of package prefix's Last does.
-/
namespace Go.Proofs.YtpchhfhdepkbcabDoor
open Go.RowKit
set_option linter.unusedSimpArgs false
set_option linter.unusedVariables false

/-- The prefix, and the word that is answered, in memory. -/
def LS (w : World) (x : BitVec 128) (n : Int) (W : World) : Prop := AtP W w.heap.size x n ∧ At W (w.heap.size + 1) 0#128 ∧ Below w.heap.size w W
theorem LS.below {w W W' : World} {x : BitVec 128} {n : Int} (h : LS w x n W) (hb : Below W.heap.size W W') : LS w x n W' := ⟨h.1.below hb, h.2.1.below hb, keepb hb h.2.2⟩
theorem LS.al {w W : World} {x : BitVec 128} {n : Int} (h : LS w x n W) (o : Obj) : LS w x n (W.alloc o) := h.below (bl1 W o)
theorem LS.drew {w W : World} {x : BitVec 128} {n : Int} (h : LS w x n W) : LS w x n W.drew := ⟨h.1, h.2.1, h.2.2.drew⟩
theorem LS.first (w : World) (x : BitVec 128) (n : Int) : LS w x n ((w.alloc (.cells #[.int .u64 (hI x), .int .u64 (lI x), .int .i64 n] 26)).alloc (.cells #[.int .u64 0, .int .u64 0] 24)) :=
  ⟨(atp_new w w.heap.size x n 26 rfl).below (bl1 _ _), at_new (w.alloc (.cells #[.int .u64 (hI x), .int .u64 (lI x), .int .i64 n] 26)) (w.heap.size + 1) 0#128 24 (by simp), bl2 _ _ _⟩
theorem LS.set {w W : World} {x : BitVec 128} {n : Int} (h : LS w x n W) {N : Nat} (hN : w.heap.size + 1 < N) (u v : Value) : LS w x n ((W.setCell ⟨N, 0, none⟩ u).setCell ⟨N, 1, none⟩ v) := by
  obtain ⟨⟨a0, a1, a2, a3, a4, a5⟩, h2, h3⟩ := h
  have d0 : ¬ N = w.heap.size := by omega
  have d1 : ¬ w.heap.size = N := by omega
  refine ⟨?_, h2.other u v (by omega), bset2 h3 (by omega) _ _⟩
  refine ⟨?_, ?_, ?_, ?_, ?_, ?_⟩ <;> simp [go_sem, *]
theorem at_new0 (w : World) : At (w.alloc (.cells #[.int .u64 0, .int .u64 0] 24)) w.heap.size 0#128 := at_new w w.heap.size 0#128 24 rfl
theorem at_new0d (w : World) (N : Nat) (h : N = w.heap.size) : At (w.alloc (.cells #[.int .u64 0, .int .u64 0] 24)).drew N 0#128 := at_new w N 0#128 24 h
def lastW (F : Int) (x : BitVec 128) (n : Int) : BitVec 128 := x ||| (maskW F ^^^ maskW n)
set_option maxHeartbeats 4000000 in
theorem plast_any (F : Int) (x : BitVec 128) (n : Int) (w : World) :
    Calls Tryd.prog 23 #[.int .i64 F, .agg #[.int .u64 (hI x), .int .u64 (lI x), .int .i64 n]] w fun e w' => e = .returned (.agg #[.int .u64 (hI (lastW F x n)), .int .u64 (lI (lastW F x n))]) ∧ Below w.heap.size w w' := by
  have KM := fun n w => mask_any n w
  have L0 := LS.first w x n
  unfold lastW
  go_enter Tryd.func23, Tryd.ntmps23
  go_wp2
  rename_i Q' K hK
  have tail : ∀ (N : Nat) (W : World), At W N (maskW F ^^^ maskW n) → LS w x n W → (Exit.then K Q') .normal { tmps := #[.int .i64 F, .agg #[.int .u64 (hI x), .int .u64 (lI x), .int .i64 n], undef, .pointer (some ⟨w.heap.size, 0, none⟩), .pointer (some ⟨w.heap.size + 1, 0, none⟩), .pointer (some ⟨N, 0, none⟩), .int .i64 F, .agg #[.int .u64 (hI (maskW F)), .int .u64 (lI (maskW F))], .pointer (some ⟨w.heap.size, 2, none⟩), .int .i64 n, .agg #[.int .u64 (hI (maskW n)), .int .u64 (lI (maskW n))], .agg #[.int .u64 (hI (maskW F ^^^ maskW n)), .int .u64 (lI (maskW F ^^^ maskW n))], undef, undef, undef, undef], defers := [] } W := by
    intro N W hN hL
    obtain ⟨a0, a1, -, -, -⟩ := hN
    obtain ⟨⟨p0, p1, p2, -, -, -⟩, hZ, kB⟩ := hL
    clear L0 KM
    go_wp2_with fail
    refine (or_any _ _ _).mono ?_
    rintro e w9 ⟨rfl, hb9⟩
    obtain ⟨z0, z1, z2, z3, z4⟩ := hZ.below hb9
    have kB := keepb hb9 kB
    clear a0 a1 p0 p1 p2 hZ hb9
    go_wp2
    exact bodyPost_ret (v := .agg #[.int .u64 (hI (x ||| (maskW F ^^^ maskW n))), .int .u64 (lI (x ||| (maskW F ^^^ maskW n)))]) (by simp [results, Tryd.results23, go_sem, *]) rfl ⟨rfl, bset2 kB (by omega) _ _⟩
  obtain ⟨⟨p0, p1, p2, -, -, -⟩, -, -⟩ := id L0
  go_region_with (first
    | (go_at_call 53; go_loud (skip; refine (KM _ _).mono ?_; rintro e w1 ⟨rfl, hb1⟩; have L1 : LS w x n w1 := LS.below (by first | exact L1 | exact L1.al _ | exact L0.drew | exact (L0.al _).drew) hb1; (try have Z1 := At.below Z1 hb1); (try have Z1 := At.below (at_new0 _) hb1); (try (refine (fun (Z1 : At w1 (w.heap.size + 1 + 1) 0#128) => ?_) (At.below (at_new0d _ _ ?_) hb1); rotate_left; (focus (simp; done)))); obtain ⟨p0, p1, p2, -, -, -⟩ := id L1.1; have g1 := L1.2.1.2.2.2.2; have l1 := cell_in p0; have n1 : ¬ w1.heap.size = w.heap.size := (by omega)))
    | (go_at_call 52; refine (xor_any _ _ _).mono ?_; rintro e w2 ⟨rfl, hb2⟩; have L2 : LS w x n w2 := LS.below (by first | exact L1 | exact L1.al _) hb2; (try have Z1 := At.below Z1 hb2); (try have Z1 := At.below (at_new0 _) hb2); (try obtain ⟨z0, z1, z2, z3, z4⟩ := id Z1)))
  all_goals first
    | exact tail _ _ (Z1.set _) (L2.set (by omega) _ _)
    | exact tail _ _ (at_new w2 _ _ _ rfl) (L2.al _)
end Go.Proofs.YtpchhfhdepkbcabDoor
/-
  Plain facts on prefixes: what the program tells and what the reference tells is the same.
-/
namespace Go.Proofs.YtpchhfhdepkbcabDoor
open Go.RowKit
set_option linter.unusedSimpArgs false
set_option linter.unusedVariables false

theorem mask_zero (z : BitVec 128) (n : Int) (h0 : 0 ≤ n) (h1 : n ≤ 128) : z &&& maskW n = 0#128 ↔ z >>> (128 - n).toNat = 0#128 := by
  constructor
  · intro h
    apply BitVec.eq_of_getLsbD_eq
    intro j hj
    have := congrArg (fun y => y.getLsbD ((128 - n).toNat + j)) h
    simp only [BitVec.getLsbD_and, BitVec.getLsbD_zero] at this
    by_cases c : (128 - n).toNat + j < 128
    · rw [maskW_bit n _ c] at this
      have d : decide (128 - n.toNat ≤ (128 - n).toNat + j) = true := by simp; omega
      rw [d, Bool.and_true] at this
      rw [BitVec.getLsbD_ushiftRight, this, BitVec.getLsbD_zero]
    · rw [BitVec.getLsbD_ushiftRight, BitVec.getLsbD_of_ge _ _ (by omega), BitVec.getLsbD_zero]
  · intro h
    apply BitVec.eq_of_getLsbD_eq
    intro j hj
    rw [BitVec.getLsbD_and, maskW_bit n j hj, BitVec.getLsbD_zero]
    by_cases c : 128 - n.toNat ≤ j
    · have := congrArg (fun y => y.getLsbD (j - (128 - n).toNat)) h
      simp only [BitVec.getLsbD_ushiftRight, BitVec.getLsbD_zero] at this
      rw [show (128 - n).toNat + (j - (128 - n).toNat) = j by omega] at this
      rw [this, Bool.false_and]
    · simp [c]
theorem lead_mask (z : BitVec 128) (n : Int) (h0 : 0 ≤ n) (h1 : n ≤ 128) : n ≤ ((leadN z : Nat) : Int) ↔ z &&& maskW n = 0#128 := by
  rw [mask_zero z n h0 h1]
  have := lead_wide z (128 - n) (by omega) (by omega)
  constructor
  · intro h
    apply Classical.byContradiction
    intro c
    have := this.mpr c
    omega
  · intro h
    apply Classical.byContradiction
    intro c
    exact this.mp (by omega) h
theorem xor_mask (x y m : BitVec 128) : (x ^^^ y) &&& m = 0#128 ↔ x &&& m = y &&& m := by
  have e : (x ^^^ y) &&& m = (x &&& m) ^^^ (y &&& m) := by
    apply BitVec.eq_of_getLsbD_eq
    intro j hj
    simp only [BitVec.getLsbD_and, BitVec.getLsbD_xor]
    cases x.getLsbD j <;> cases y.getLsbD j <;> cases m.getLsbD j <;> rfl
  rw [e]
  constructor
  · intro h
    have := congrArg (fun z => z ^^^ (y &&& m)) h
    simpa [BitVec.xor_assoc] using this
  · intro h
    rw [h, BitVec.xor_self]
theorem has_eq (x : BitVec 128) (n : Int) (y : BitVec 128) (h0 : 0 ≤ n) (h1 : n ≤ 128) (hx : cutW x n = x) : rhasB x n y = (cutW y n == x) := by
  unfold rhasB
  rw [Bool.eq_iff_iff, decide_eq_true_iff, beq_iff_eq, lead_mask _ n h0 h1, xor_mask]
  unfold cutW at *
  rw [hx]
  exact ⟨fun h => h.symm, fun h => h.symm⟩
theorem within_eq (x : BitVec 128) (n : Int) (y : BitVec 128) (m : Int) (h0 : 0 ≤ m) (h1 : m ≤ 128) (hy : cutW y m = y) : rwithinB x n y m = withinB x n y m := by
  unfold rwithinB withinB
  rw [has_eq y m x h0 h1 hy]
theorem mask_sub (n m : Int) (h0 : 0 ≤ n) (h : n ≤ m) : maskW n &&& maskW m = maskW n := by
  apply BitVec.eq_of_getLsbD_eq
  intro j hj
  rw [BitVec.getLsbD_and, maskW_bit n j hj, maskW_bit m j hj]
  by_cases c : 128 - n.toNat ≤ j
  · have : 128 - m.toNat ≤ j := by omega
    simp [c, this]
  · simp [c]
theorem last_eq (F : Int) (x : BitVec 128) (n : Int) (h0 : 0 ≤ n) (h : n ≤ F) : rlastW F x n = lastW F x n := by
  unfold rlastW lastW
  congr 1
  apply BitVec.eq_of_getLsbD_eq
  intro j hj
  rw [BitVec.getLsbD_and, BitVec.getLsbD_xor, BitVec.getLsbD_not, maskW_bit n j hj, maskW_bit F j hj]
  by_cases c : 128 - n.toNat ≤ j
  · have : 128 - F.toNat ≤ j := by omega
    simp [c, this]
  · simp [c, hj]
theorem cut_cut (x : BitVec 128) (n m : Int) (h0 : 0 ≤ n) (h : n ≤ m) : cutW (cutW x m) n = cutW x n := by
  unfold cutW
  rw [BitVec.and_assoc, BitVec.and_comm (maskW m), mask_sub n m h0 h]
theorem cut_cut2 (x : BitVec 128) (n m : Int) (h0 : 0 ≤ n) (h : n ≤ m) : cutW (cutW x n) m = cutW x n := by
  unfold cutW
  rw [BitVec.and_assoc, mask_sub n m h0 h]
/-- A right prefix of a family. -/
def Rt (F : Int) (x : BitVec 128) (n : Int) : Prop := 0 ≤ n ∧ n ≤ F ∧ cutW x n = x
theorem some_rt (F : Int) (x : BitVec 128) (n : Int) (h : 0 ≤ F) : Rt F (someW F x n) (n % (F + 1)) := by
  have a := Int.emod_nonneg n (b := F + 1) (by omega)
  have b := Int.emod_lt_of_pos n (b := F + 1) (by omega)
  refine ⟨a, by omega, ?_⟩
  unfold someW
  exact maskW_idem _ _
end Go.Proofs.YtpchhfhdepkbcabDoor
/-
  Plain facts on the order of prefixes, and on what lies within what.
-/
namespace Go.Proofs.YtpchhfhdepkbcabDoor
open Go.RowKit
set_option linter.unusedSimpArgs false
set_option linter.unusedVariables false

theorem cut_shift (x : BitVec 128) (n : Int) : cutW x n = (x >>> (128 - n.toNat)) <<< (128 - n.toNat) := by
  apply BitVec.eq_of_getLsbD_eq
  intro j hj
  unfold cutW
  rw [BitVec.getLsbD_and, maskW_bit n j hj, BitVec.getLsbD_shiftLeft, BitVec.getLsbD_ushiftRight]
  by_cases c : 128 - n.toNat ≤ j
  · have e : 128 - n.toNat + (j - (128 - n.toNat)) = j := by omega
    have d : ¬ j < 128 - n.toNat := by omega
    simp [c, d, hj, e]
  · have d : j < 128 - n.toNat := by omega
    simp [c, d]
theorem cut_nat (x : BitVec 128) (n : Int) : (cutW x n).toNat = x.toNat / 2 ^ (128 - n.toNat) * 2 ^ (128 - n.toNat) := by
  rw [cut_shift, BitVec.toNat_shiftLeft, BitVec.toNat_ushiftRight, Nat.shiftLeft_eq, Nat.shiftRight_eq_div_pow]
  apply Nat.mod_eq_of_lt
  exact Nat.lt_of_le_of_lt (Nat.div_mul_le_self _ _) x.isLt
theorem cut_mono (x y : BitVec 128) (n : Int) (h : x.toNat ≤ y.toNat) : (cutW x n).toNat ≤ (cutW y n).toNat := by
  rw [cut_nat, cut_nat]
  exact Nat.mul_le_mul_right _ (Nat.div_le_div_right h)
theorem cmpZ_ways (x y : BitVec 128) : (x.toNat < y.toNat ∧ cmpZ x y = -1) ∨ (x = y ∧ cmpZ x y = 0) ∨ (y.toNat < x.toNat ∧ cmpZ x y = 1) := by
  unfold cmpZ
  by_cases h : x.toNat < y.toNat
  · left; rw [if_pos h]; exact ⟨h, rfl⟩
  · rw [if_neg h]
    by_cases e : x = y
    · right; left; rw [if_pos e]; exact ⟨e, rfl⟩
    · right; right; rw [if_neg e]
      have : ¬ x.toNat = y.toNat := fun q => e (BitVec.eq_of_toNat_eq q)
      exact ⟨by omega, rfl⟩
/-- The order, as plain words. -/
theorem pcmp_ways (x : BitVec 128) (n : Int) (y : BitVec 128) (m : Int) :
    ((x.toNat < y.toNat ∨ (x = y ∧ n < m)) ∧ pcmpZ x n y m = -1) ∨ ((x = y ∧ n = m) ∧ pcmpZ x n y m = 0) ∨ ((y.toNat < x.toNat ∨ (x = y ∧ m < n)) ∧ pcmpZ x n y m = 1) := by
  unfold pcmpZ
  rcases cmpZ_ways x y with ⟨h, e⟩ | ⟨h, e⟩ | ⟨h, e⟩
  · left; rw [e, if_neg (by decide)]; exact ⟨Or.inl h, rfl⟩
  · rw [e, if_pos rfl]
    unfold cmpI
    by_cases h1 : n < m
    · left; rw [if_pos h1]; exact ⟨Or.inr ⟨h, h1⟩, rfl⟩
    · rw [if_neg h1]
      by_cases h2 : m < n
      · right; right; rw [if_pos h2]; exact ⟨Or.inr ⟨h, h2⟩, rfl⟩
      · right; left; rw [if_neg h2]; exact ⟨⟨h, by omega⟩, rfl⟩
  · right; right; rw [e, if_neg (by decide)]; exact ⟨Or.inl h, rfl⟩
theorem pcmp_neg (x : BitVec 128) (n : Int) (y : BitVec 128) (m : Int) : pcmpZ y m x n = - pcmpZ x n y m := by
  rcases pcmp_ways x n y m with ⟨h, e⟩ | ⟨h, e⟩ | ⟨h, e⟩ <;> rcases pcmp_ways y m x n with ⟨g, f⟩ | ⟨g, f⟩ | ⟨g, f⟩ <;> rw [e, f] <;> (try rfl) <;> exfalso
  · rcases h with h | ⟨rfl, h⟩ <;> rcases g with g | ⟨g1, g⟩ <;> (try subst g1) <;> omega
  · obtain ⟨rfl, rfl⟩ := g; rcases h with h | ⟨_, h⟩ <;> omega
  · obtain ⟨rfl, rfl⟩ := h; rcases g with g | ⟨_, g⟩ <;> omega
  · obtain ⟨rfl, rfl⟩ := h; rcases g with g | ⟨_, g⟩ <;> omega
  · obtain ⟨rfl, rfl⟩ := g; rcases h with h | ⟨_, h⟩ <;> omega
  · rcases h with h | ⟨rfl, h⟩ <;> rcases g with g | ⟨g1, g⟩ <;> (try subst g1) <;> omega
theorem pcmp_le (x : BitVec 128) (n : Int) (y : BitVec 128) (m : Int) : pcmpZ x n y m ≤ 0 ↔ (x.toNat < y.toNat ∨ (x = y ∧ n ≤ m)) := by
  rcases pcmp_ways x n y m with ⟨h, e⟩ | ⟨h, e⟩ | ⟨h, e⟩ <;> rw [e]
  · refine ⟨fun _ => ?_, fun _ => by decide⟩
    rcases h with h | ⟨rfl, h⟩
    · exact Or.inl h
    · exact Or.inr ⟨rfl, by omega⟩
  · refine ⟨fun _ => Or.inr ⟨h.1, by omega⟩, fun _ => by decide⟩
  · refine ⟨fun q => absurd q (by decide), fun q => ?_⟩
    exfalso
    rcases h with h | ⟨rfl, h⟩ <;> rcases q with q | ⟨q1, q⟩ <;> (try subst q1) <;> omega
theorem pcmp_eq0 (x : BitVec 128) (n : Int) (y : BitVec 128) (m : Int) : pcmpZ x n y m = 0 ↔ (x = y ∧ n = m) := by
  rcases pcmp_ways x n y m with ⟨h, e⟩ | ⟨h, e⟩ | ⟨h, e⟩ <;> rw [e]
  · refine ⟨fun q => absurd q (by decide), fun q => ?_⟩
    obtain ⟨rfl, rfl⟩ := q; rcases h with h | ⟨_, h⟩ <;> omega
  · exact ⟨fun _ => h, fun _ => rfl⟩
  · refine ⟨fun q => absurd q (by decide), fun q => ?_⟩
    obtain ⟨rfl, rfl⟩ := q; rcases h with h | ⟨_, h⟩ <;> omega
theorem pcmp_trans (x : BitVec 128) (n : Int) (y : BitVec 128) (m : Int) (z : BitVec 128) (k : Int) (h1 : pcmpZ x n y m ≤ 0) (h2 : pcmpZ y m z k ≤ 0) : ¬ 0 < pcmpZ x n z k := by
  rw [pcmp_le] at h1 h2
  have : pcmpZ x n z k ≤ 0 := by
    rw [pcmp_le]
    rcases h1 with h1 | ⟨rfl, h1⟩ <;> rcases h2 with h2 | ⟨h3, h2⟩ <;> (try subst h3)
    · left; omega
    · left; exact h1
    · left; exact h2
    · right; exact ⟨rfl, by omega⟩
  omega
theorem within_iff (x : BitVec 128) (n : Int) (y : BitVec 128) (m : Int) : withinB x n y m = true ↔ (m ≤ n ∧ cutW x m = y) := by
  unfold withinB
  simp
/-- What stands between a prefix and what lies within it lies within it. -/
theorem between (F : Int) (x : BitVec 128) (n : Int) (y : BitVec 128) (m : Int) (z : BitVec 128) (k : Int) (hx : Rt F x n) (hy : Rt F y m) (h1 : pcmpZ x n y m ≤ 0) (h2 : pcmpZ y m z k ≤ 0) (h3 : withinB z k x n = true) : withinB y m x n = true := by
  rw [within_iff] at h3 ⊢
  rw [pcmp_le] at h1 h2
  obtain ⟨h3, h4⟩ := h3
  have hxy : x.toNat ≤ y.toNat := by rcases h1 with h | ⟨rfl, _⟩ <;> omega
  have hyz : y.toNat ≤ z.toNat := by rcases h2 with h | ⟨rfl, _⟩ <;> omega
  have c1 := cut_mono x y n hxy
  have c2 := cut_mono y z n hyz
  rw [hx.2.2] at c1
  rw [h4] at c2
  have hc : cutW y n = x := BitVec.eq_of_toNat_eq (by omega)
  refine ⟨?_, hc⟩
  apply Classical.byContradiction
  intro q
  have := cut_cut2 y m n hy.1 (by omega)
  rw [hy.2.2, hc] at this
  rcases h1 with h | ⟨_, h⟩
  · rw [this] at h; omega
  · omega
theorem meetN_le (x : BitVec 128) (n : Int) (y : BitVec 128) (m : Int) : meetN x n y m ≤ n ∧ meetN x n y m ≤ m ∧ meetN x n y m ≤ ((leadN (x ^^^ y) : Nat) : Int) := by
  unfold meetN; omega
theorem meetN_nn (x : BitVec 128) (n : Int) (y : BitVec 128) (m : Int) (h : 0 ≤ n) (g : 0 ≤ m) : 0 ≤ meetN x n y m := by
  unfold meetN; omega
theorem meetN_comm (x : BitVec 128) (n : Int) (y : BitVec 128) (m : Int) : meetN y m x n = meetN x n y m := by
  unfold meetN
  rw [BitVec.xor_comm]
  omega
theorem meet_cut (x : BitVec 128) (n : Int) (y : BitVec 128) (m : Int) (h : 0 ≤ n) (g : 0 ≤ m) (hn : n ≤ 128) : cutW y (meetN x n y m) = cutW x (meetN x n y m) := by
  have := (lead_mask (x ^^^ y) (meetN x n y m) (meetN_nn x n y m h g) (by have := meetN_le x n y m; omega)).mp (meetN_le x n y m).2.2
  exact ((xor_mask x y _).mp this).symm
theorem meet_in (x : BitVec 128) (n : Int) (y : BitVec 128) (m : Int) (h : 0 ≤ n) (g : 0 ≤ m) (hn : n ≤ 128) :
    withinB x n (cutW x (meetN x n y m)) (meetN x n y m) = true ∧ withinB y m (cutW x (meetN x n y m)) (meetN x n y m) = true := by
  rw [within_iff, within_iff]
  exact ⟨⟨(meetN_le x n y m).1, rfl⟩, (meetN_le x n y m).2.1, meet_cut x n y m h g hn⟩
theorem meet_is (x : BitVec 128) (n : Int) (y : BitVec 128) (m : Int) (h : 0 ≤ n) (hn : n ≤ 128) (hx : cutW x n = x) :
    (cutW x (meetN x n y m) = x ∧ meetN x n y m = n) ↔ withinB y m x n = true := by
  rw [within_iff]
  have hl := lead_mask (x ^^^ y) n h hn
  rw [xor_mask] at hl
  constructor
  · rintro ⟨-, e⟩
    have := meetN_le x n y m
    refine ⟨by omega, ?_⟩
    have := hl.mp (by omega)
    unfold cutW at hx ⊢
    rw [← this, hx]
  · rintro ⟨h1, h2⟩
    have : n ≤ ((leadN (x ^^^ y) : Nat) : Int) := hl.mpr (by unfold cutW at hx h2; rw [hx, h2])
    have e : meetN x n y m = n := by unfold meetN; omega
    rw [e]
    exact ⟨hx, rfl⟩
theorem meet_above (x : BitVec 128) (n : Int) (y : BitVec 128) (m : Int) (z : BitVec 128) (k : Int) (hk : 0 ≤ k) (hn : n ≤ 128) (h1 : withinB x n z k = true) (h2 : withinB y m z k = true) : withinB (cutW x (meetN x n y m)) (meetN x n y m) z k = true := by
  rw [within_iff] at *
  have : k ≤ ((leadN (x ^^^ y) : Nat) : Int) := (lead_mask (x ^^^ y) k hk (by omega)).mpr ((xor_mask x y _).mpr (by
    have e1 := h1.2; have e2 := h2.2
    unfold cutW at e1 e2
    rw [e1, e2]))
  have hm : k ≤ meetN x n y m := by unfold meetN; omega
  exact ⟨hm, by rw [cut_cut x k _ hk hm]; exact h1.2⟩
end Go.Proofs.YtpchhfhdepkbcabDoor
/-
  What the calls of the methods of package addr's found do.
-/
namespace Go.Proofs.YtpchhfhdepkbcabDoor
open Go.RowKit
set_option linter.unusedSimpArgs false
set_option linter.unusedVariables false

/-- The struct at block B: its list reads as f, its count as c, its gap as p, and all of it may be written. -/
def Fnd (w : World) (B : Nat) (f : Nat → Int) (c : Nat) (p : Int) : Prop :=
  (∀ i, i < 8 → w.cell? ⟨B, i, none⟩ = some (.int .u64 (f i)) ∧ w.frozen? ⟨B, i, none⟩ = false) ∧ w.cell? ⟨B, 8, none⟩ = some (.int .i64 c) ∧ w.frozen? ⟨B, 8, none⟩ = false ∧ w.cell? ⟨B, 9, none⟩ = some (.int .i64 p) ∧ w.frozen? ⟨B, 9, none⟩ = false ∧ B < w.heap.size
def upd (f : Nat → Int) (c : Nat) (v : Int) : Nat → Int := fun i => if i = c then v else f i
theorem Fnd.below {w w' : World} {B : Nat} {f : Nat → Int} {c : Nat} {p : Int} (h : Fnd w B f c p) (hb : Below w.heap.size w w') : Fnd w' B f c p := by
  obtain ⟨h1, h2, h3, h4, h5, h6⟩ := h
  exact ⟨fun i hi => ⟨keepc hb (h1 i hi).1, keepf hb (h1 i hi).1 (h1 i hi).2⟩, keepc hb h2, keepf hb h2 h3, keepc hb h4, keepf hb h4 h5, Nat.lt_of_lt_of_le h6 hb.size⟩

/-- All blocks but one are as they were. -/
def Only (B : Nat) (w w' : World) : Prop := w'.heap.size = w.heap.size ∧ ∀ C o, ¬ C = B → w'.cell? ⟨C, o, none⟩ = w.cell? ⟨C, o, none⟩ ∧ w'.frozen? ⟨C, o, none⟩ = w.frozen? ⟨C, o, none⟩
theorem At.only {w w' : World} {B C : Nat} {x : BitVec 128} (h : At w C x) (ho : Only B w w') (hn : ¬ C = B) : At w' C x := by
  obtain ⟨h0, h1, h2, h3, h4⟩ := h
  exact ⟨by rw [(ho.2 C 0 hn).1]; exact h0, by rw [(ho.2 C 1 hn).1]; exact h1, by rw [(ho.2 C 0 hn).2]; exact h2, by rw [(ho.2 C 1 hn).2]; exact h3, by rw [ho.1]; exact h4⟩

set_option maxHeartbeats 2000000 in
theorem fadd_any (B : Nat) (f : Nat → Int) (c : Nat) (p v : Int) (w : World) (hF : Fnd w B f c p) (hc : c ≤ 7) :
    Calls Tryd.prog 92 #[.pointer (some ⟨B, 0, none⟩), .int .u64 v] w fun e w' => e = .returned (.bool true) ∧ Fnd w' B (upd f c v) (c + 1) p ∧ Below B w w' ∧ Only B w w' := by
  obtain ⟨h1, h2, h3, h4, h5, h6⟩ := hF
  have hc8 : ¬ (c : Int) = 8 := by omega
  have hcb : ((c : Int) == 8) = false := by simp; omega
  have hcl : (c : Int) < 8 := by omega
  have ⟨k1, k2⟩ := h1 c (by omega)
  have n8 : ¬ c = 8 := by omega
  have n9 : ¬ c = 9 := by omega
  have e8 : (w.setCell ⟨B, c, none⟩ (.int .u64 v)).cell? ⟨B, 8, none⟩ = some (.int .i64 c) := by simp [go_sem, *]
  have f8 : (w.setCell ⟨B, c, none⟩ (.int .u64 v)).frozen? ⟨B, 8, none⟩ = false := by simp [go_sem, *]
  have hF' : Fnd (((w.setCell ⟨B, c, none⟩ (.int .u64 v)).setCell ⟨B, 8, none⟩ (.int .i64 ((c : Int) + 1))).drew) B (upd f c v) (c + 1) p := by
    refine ⟨fun i hi => ?_, ?_, ?_, ?_, ?_, ?_⟩
    · have n : ¬ i = 8 := by omega
      have n' : ¬ 8 = i := by omega
      obtain ⟨q1, q2⟩ := h1 i hi
      by_cases hic : i = c
      · subst hic
        simp [go_sem, upd, *]
      · have hci : ¬ c = i := fun e => hic e.symm
        simp [go_sem, upd, *]
    all_goals simp [go_sem, *]
  have hB' : Below B w (((w.setCell ⟨B, c, none⟩ (.int .u64 v)).setCell ⟨B, 8, none⟩ (.int .i64 ((c : Int) + 1))).drew) := (((Below.refl B w).setCell (p := ⟨B, c, none⟩) (Nat.le_refl _) _).setCell (p := ⟨B, 8, none⟩) (Nat.le_refl _) _).drew
  have hO' : Only B w (((w.setCell ⟨B, c, none⟩ (.int .u64 v)).setCell ⟨B, 8, none⟩ (.int .i64 ((c : Int) + 1))).drew) := by
    refine ⟨by simp, fun C o hn => ?_⟩
    have hn' : ¬ B = C := fun e => hn e.symm
    simp [go_sem, hn, hn']
  clear h1
  go_enter Tryd.func92, Tryd.ntmps92
  go_wp2
  go_region
  go_wp2
  go_ret
  exact ⟨rfl, hF', hB', hO'⟩

theorem fadd_full (B : Nat) (f : Nat → Int) (p v : Int) (w : World) (hF : Fnd w B f 8 p) :
    Calls Tryd.prog 92 #[.pointer (some ⟨B, 0, none⟩), .int .u64 v] w fun e w' => e = .returned (.bool false) ∧ w' = w := by
  obtain ⟨h1, h2, h3, h4, h5, h6⟩ := hF
  have h2' : w.cell? ⟨B, 8, none⟩ = some (.int .i64 8) := h2
  clear h1 h2
  go_enter Tryd.func92, Tryd.ntmps92
  go_wp2
  go_ret
  exact ⟨rfl, rfl⟩

/-- Where the group k stands in the word. -/
def plc (c : Nat) (p : Int) (k : Nat) : Int := if ¬ p = -1 ∧ p ≤ k then (k : Int) + (8 - c) else k
def sixW (f : Nat → Int) (c : Nat) (p : Int) : Nat → BitVec 128
  | 0 => 0#128
  | k + 1 => layW (sixW f c p k) (plc c p k) 16 (f k)
def finV (f : Nat → Int) (c : Nat) (p : Int) : BitVec 128 := if (p = -1) = (c = 8) then sixW f c p c else 0#128
def finB (c : Nat) (p : Int) : Bool := decide ((p = -1) = (c = 8))

theorem Fnd.other {w : World} {B C : Nat} {f : Nat → Int} {c : Nat} {p : Int} (h : Fnd w B f c p) (hn : ¬ C = B) (u v : Value) : Fnd ((w.setCell ⟨C, 0, none⟩ u).setCell ⟨C, 1, none⟩ v) B f c p := by
  obtain ⟨h1, h2, h3, h4, h5, h6⟩ := h
  have hn' : ¬ B = C := fun e => hn e.symm
  refine ⟨fun i hi => ?_, ?_, ?_, ?_, ?_, ?_⟩
  · obtain ⟨q1, q2⟩ := h1 i hi
    simp [go_sem, *]
  all_goals simp [go_sem, *]

set_option maxHeartbeats 2000000 in
theorem fword_any (B : Nat) (f : Nat → Int) (c : Nat) (p : Int) (w : World) (hF : Fnd w B f c p) (hc : c ≤ 8) (hp : -1 ≤ p) (hp2 : p ≤ 8) (hf : ∀ i, 0 ≤ f i ∧ f i ≤ 65535) :
    Calls Tryd.prog 93 #[.pointer (some ⟨B, 0, none⟩)] w fun e w' => e = .returned (.tuple #[.agg #[.int .u64 (hI (finV f c p)), .int .u64 (lI (finV f c p))], .bool (finB c p)]) ∧ Below w.heap.size w w' := by
  have hF' := hF
  obtain ⟨h1, h2, h3, h4, h5, h6⟩ := hF
  have d0 : ¬ w.heap.size = B := by omega
  by_cases hq : (p = -1) = (c = 8)
  · have HF : Hid (finV f c p = sixW f c p c ∧ finB c p = true) := by
      show _ ∧ _
      unfold finV finB; rw [if_pos hq]; exact ⟨rfl, by simp [hq]⟩
    have hq2 : ((p == -1) == ((c : Int) == 8)) = true := by
      by_cases hp1 : p = -1
      · have : c = 8 := by rw [← hq]; exact hp1
        subst this; subst hp1; rfl
      · have h8 : ¬ c = 8 := by rw [← hq]; exact hp1
        have e1 : (p == -1) = false := by simp [hp1]
        have e2 : ((c : Int) == 8) = false := by simp; omega
        rw [e1, e2]; rfl
    clear hq
    obtain ⟨b, hpb⟩ : ∃ b, (p == -1) = b := ⟨_, rfl⟩
    rw [hpb] at hq2
    have c0 : (0 : Int) ≤ (c : Int) := by omega
    have c8 : (c : Int) ≤ 8 := by omega
    go_enter Tryd.func93, Tryd.ntmps93
    go_wp2
    go_region
    go_wp2
    go_region
    go_wp2
    go_loopw [28] (fun q wr => ∃ k : Nat, k ≤ c ∧ q = .int .i64 k ∧ At wr (w.heap.size + 1) (sixW f c p k) ∧ At wr w.heap.size 0#128 ∧ Fnd wr B f c p ∧ Below w.heap.size w wr) (fun q _ => c - (intOf q).toNat)
    case atStart =>
      refine ⟨0, by omega, rfl, ?_, ?_, ?_, (bl2 w _ _).drew.drew⟩
      · show At _ _ 0#128
        refine ⟨?_, ?_, ?_, ?_, ?_⟩ <;> simp [go_sem, hI_zero, lI_zero]
      · refine ⟨?_, ?_, ?_, ?_, ?_⟩ <;> simp [go_sem, hI_zero, lI_zero]
      · exact hF'.below (bl2 w _ _).drew.drew
    case round =>
      obtain ⟨k, hk, rfl, hA, hZ, hG, hB⟩ := hrel
      clear h1 h2 h3 h4 h5 hF'
      obtain ⟨h1, h2, h3, h4, h5, h6'⟩ := id hG
      by_cases hlt : k < c
      · have hlt2 : (k : Int) < (c : Int) := by omega
        have hk8 : (k : Int) < 8 := by omega
        obtain ⟨l1, l2⟩ := h1 k (by omega)
        obtain ⟨f0, f1⟩ := hf k
        obtain ⟨a0, a1, a2, a3, a4⟩ := id hA
        have HW : Hid (sixW f c p (k + 1) = layW (sixW f c p k) (plc c p k) 16 (f k)) := rfl
        have hpl : 0 ≤ plc c p k ∧ plc c p k ≤ 16 := by unfold plc; split <;> omega
        have HPL : Hid (plc c p k = if ¬ p = -1 ∧ p ≤ k then (k : Int) + (8 - c) else k) := rfl
        have KP := fun w => aput_any (sixW f c p k) (plc c p k) 16 (f k) w f0 (by omega) hpl.1 hpl.2 (by omega) (by omega)
        generalize sixW f c p k = x at *
        generalize plc c p k = pl at *
        generalize f k = v at *
        clear h1 hf
        by_cases hp1 : p = -1
        · have hpk : pl = k := by rw [HPL.out, if_neg (by simp [hp1])]
          subst hpk
          have hne : (p != -1) = false := by simp [hp1]
          clear HPL hp1
          go_wp2_with fail
          refine (KP _).mono ?_
          rintro e w2 ⟨rfl, hb2⟩
          clear KP
          have hA2 := (hA.below hb2).set (layW x (k : Int) 16 v)
          have hZ2 := (hZ.below hb2).other (.int .u64 (hI (layW x (k : Int) 16 v))) (.int .u64 (lI (layW x (k : Int) 16 v))) (C := w.heap.size + 1) (by omega)
          have hG2 := (hG.below hb2).other (C := w.heap.size + 1) (by omega) (.int .u64 (hI (layW x (k : Int) 16 v))) (.int .u64 (lI (layW x (k : Int) 16 v)))
          have hB2 := bset2 (keepb hb2 hB) (C := w.heap.size + 1) (by omega) (.int .u64 (hI (layW x (k : Int) 16 v))) (.int .u64 (lI (layW x (k : Int) 16 v)))
          obtain ⟨b0, b1, b2, b3, b4⟩ := hA.below hb2
          clear hA hZ hB hG hb2 a0 a1 a2 a3 a4 h2 h3 h4 h5 l1 l2
          go_wp2
          go_roundw
          case rel => exact ⟨k + 1, by omega, by go_num, by rw [HW.out]; exact hA2, hZ2, hG2, hB2⟩
          case measure => simp [intOf]; omega
        · have hne : (p != -1) = true := by simp [hp1]
          by_cases hpk : p ≤ k
          · have hpk' : pl = (k : Int) + (8 - c) := by rw [HPL.out, if_pos ⟨hp1, hpk⟩]
            subst hpk'
            clear HPL hp1
            go_wp2_with fail
            refine (KP _).mono ?_
            rintro e w2 ⟨rfl, hb2⟩
            clear KP
            have hA2 := (hA.below hb2).set (layW x ((k : Int) + (8 - c)) 16 v)
            have hZ2 := (hZ.below hb2).other (.int .u64 (hI (layW x ((k : Int) + (8 - c)) 16 v))) (.int .u64 (lI (layW x ((k : Int) + (8 - c)) 16 v))) (C := w.heap.size + 1) (by omega)
            have hG2 := (hG.below hb2).other (C := w.heap.size + 1) (by omega) (.int .u64 (hI (layW x ((k : Int) + (8 - c)) 16 v))) (.int .u64 (lI (layW x ((k : Int) + (8 - c)) 16 v)))
            have hB2 := bset2 (keepb hb2 hB) (C := w.heap.size + 1) (by omega) (.int .u64 (hI (layW x ((k : Int) + (8 - c)) 16 v))) (.int .u64 (lI (layW x ((k : Int) + (8 - c)) 16 v)))
            obtain ⟨b0, b1, b2, b3, b4⟩ := hA.below hb2
            clear hA hZ hB hG hb2 a0 a1 a2 a3 a4 h2 h3 h4 h5 l1 l2
            go_wp2
            go_roundw
            case rel => exact ⟨k + 1, by omega, by go_num, by rw [HW.out]; exact hA2, hZ2, hG2, hB2⟩
            case measure => simp [intOf]; omega
          · have hpk' : pl = k := by rw [HPL.out, if_neg (by simp [hpk])]
            subst hpk'
            clear HPL hp1
            go_wp2_with fail
            refine (KP _).mono ?_
            rintro e w2 ⟨rfl, hb2⟩
            clear KP
            have hA2 := (hA.below hb2).set (layW x (k : Int) 16 v)
            have hZ2 := (hZ.below hb2).other (.int .u64 (hI (layW x (k : Int) 16 v))) (.int .u64 (lI (layW x (k : Int) 16 v))) (C := w.heap.size + 1) (by omega)
            have hG2 := (hG.below hb2).other (C := w.heap.size + 1) (by omega) (.int .u64 (hI (layW x (k : Int) 16 v))) (.int .u64 (lI (layW x (k : Int) 16 v)))
            have hB2 := bset2 (keepb hb2 hB) (C := w.heap.size + 1) (by omega) (.int .u64 (hI (layW x (k : Int) 16 v))) (.int .u64 (lI (layW x (k : Int) 16 v)))
            obtain ⟨b0, b1, b2, b3, b4⟩ := hA.below hb2
            clear hA hZ hB hG hb2 a0 a1 a2 a3 a4 h2 h3 h4 h5 l1 l2
            go_wp2
            go_roundw
            case rel => exact ⟨k + 1, by omega, by go_num, by rw [HW.out]; exact hA2, hZ2, hG2, hB2⟩
            case measure => simp [intOf]; omega
      · have hkc : k = c := by omega
        subst hkc
        obtain ⟨a0, a1, a2, a3, a4⟩ := hA
        obtain ⟨z0, z1, z2, z3, z4⟩ := hZ
        clear h1 hf hG
        go_wp2
        exact bodyPost_ret (v := .tuple #[.agg #[.int .u64 (hI (sixW f k p k)), .int .u64 (lI (sixW f k p k))], .bool true]) (by simp [results, Tryd.results93, go_sem, *]) rfl ⟨by rw [HF.out.1, HF.out.2], bset2 hB (Nat.le_refl _) _ _⟩
  · have HF : Hid (finV f c p = 0#128 ∧ finB c p = false) := by
      show _ ∧ _
      unfold finV finB; rw [if_neg hq]; exact ⟨rfl, by simp only [decide_eq_false_iff_not]; exact hq⟩
    have hq2 : ((p == -1) == ((c : Int) == 8)) = false := by
      by_cases hp1 : p = -1
      · have h8 : ¬ c = 8 := fun e => hq (by simp [hp1, e])
        have e1 : (p == -1) = true := by simp [hp1]
        have e2 : ((c : Int) == 8) = false := by simp; omega
        rw [e1, e2]; rfl
      · have h8 : c = 8 := by
          apply Classical.byContradiction; intro e; exact hq (by simp [hp1, e])
        have e1 : (p == -1) = false := by simp [hp1]
        have e2 : ((c : Int) == 8) = true := by simp; omega
        rw [e1, e2]; rfl
    clear hq h1 hf
    go_enter Tryd.func93, Tryd.ntmps93
    go_wp2
    go_region
    go_wp2
    exact bodyPost_ret (v := .tuple #[.agg #[.int .u64 0, .int .u64 0], .bool false]) (by simp [results, Tryd.results93, go_sem, *]) rfl ⟨by rw [HF.out.1, HF.out.2, hI_zero, lI_zero], (bl1 w _).drew⟩
end Go.Proofs.YtpchhfhdepkbcabDoor
