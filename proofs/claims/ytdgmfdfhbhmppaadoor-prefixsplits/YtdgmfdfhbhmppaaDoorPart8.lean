/-
  Part 8 of the proof: 5 texts, one behind the other.
-/
import Derived.Test.YtdgmfdfhbhmppaaDoorPart7
import Derived.Test.YtdgmfdfhbhmppaaDoorPart6
/-
  What the calls of the law's own helpers of chapter 3 do.
-/
namespace Go.Proofs.YtdgmfdfhbhmppaaDoor
open Go.RowKit
set_option linter.unusedSimpArgs false
set_option linter.unusedVariables false

def famZ (b : Bool) : Int := if b = true then 128 else 32
theorem famZ_fam (b : Bool) : fam (famZ b) = true := by cases b <;> decide
theorem famZ_bd (b : Bool) : 32 ≤ famZ b ∧ famZ b ≤ 128 := by cases b <;> decide
theorem family3_any (b : Bool) (w : World) :
    Calls Tryd.prog 9 #[.bool b] w fun e w' => e = .returned (.int .i64 (famZ b)) ∧ w' = w := by
  cases b
  · go_enter Tryd.func9, Tryd.ntmps9
    go_wp2
    go_ret
    exact ⟨rfl, rfl⟩
  · go_enter Tryd.func9, Tryd.ntmps9
    go_wp2
    go_ret
    exact ⟨rfl, rfl⟩
set_option maxHeartbeats 1000000 in
theorem within3_any (a n : Int) (w : World) (h0 : 0 < n) (h1 : n ≤ 9223372036854775807) :
    Calls Tryd.prog 6 #[.int .i64 a, .int .i64 n] w fun e w' => e = .returned (.int .i64 (a % n)) ∧ w' = w := by
  have b1 := Int.emod_nonneg a (b := n) (by omega)
  have b2 := Int.emod_lt_of_pos a h0
  have hn0 : ¬ n = 0 := by omega
  have hnb : (n == 0) = false := by simp; omega
  rcases tmod_ways a n h0 with ⟨c, e⟩ | ⟨c, e⟩
  · have hw : IntKind.i64.wrap (a.tmod n) = a.tmod n := by rw [IntKind.wrap_i64]; omega
    have hw2 : IntKind.i64.wrap (a.tmod n + n) = a.tmod n + n := by rw [IntKind.wrap_i64]; omega
    rw [← e]
    clear e b1 b2
    go_enter Tryd.func6, Tryd.ntmps6
    go_wp2
    go_ret
    exact ⟨rfl, rfl⟩
  · have hw : IntKind.i64.wrap (a.tmod n) = a.tmod n := by rw [IntKind.wrap_i64]; omega
    rw [← e]
    clear e b1 b2
    go_enter Tryd.func6, Tryd.ntmps6
    go_wp2
    go_ret
    exact ⟨rfl, rfl⟩

set_option maxHeartbeats 1000000 in
set_option maxRecDepth 20000 in
theorem clip_any (F : Int) (x : BitVec 128) (w : World) :
    Calls Tryd.prog 27 #[.int .i64 F, .agg #[.int .u64 (hI x), .int .u64 (lI x)]] w fun e w' => e = .returned (.tuple #[.agg #[.int .u64 (hI (cutW x F)), .int .u64 (lI (cutW x F))], .bool (rightE F (cutW x F) == 0)]) ∧ Below w.heap.size w w' := by
  have KC := fun w => rcut_any x F w
  have KR := fun w => rright_any F (cutW x F) w
  generalize rightE F (cutW x F) = r at *
  generalize cutW x F = c at *
  go_enter Tryd.func27, Tryd.ntmps27
  go_wp2_with fail
  refine (KC _).mono ?_
  rintro e w1 ⟨rfl, hb1⟩
  obtain ⟨z0, z1, z2, z3, z4⟩ := ((at_new (w.alloc (.cells #[.int .u64 (hI x), .int .u64 (lI x)] 24)) (w.heap.size + 1) 0#128 24 (by simp)).below hb1).below (bl1 _ (.cells #[.int .u64 (hI c), .int .u64 (lI c), .int .i64 F] 26))
  have hN : w.heap.size + 1 < w1.heap.size := by have := hb1.size; simp at this; omega
  have nn : ¬ w1.heap.size = w.heap.size + 1 := by omega
  have kB1 := keepb hb1 (bl2 w _ _)
  have kB2 := (kB1.alloc kB1.size (.cells #[.int .u64 (hI c), .int .u64 (lI c), .int .i64 F] 26)).drew
  obtain ⟨p0, p1, p2, -, -, -⟩ := atp_new w1 w1.heap.size c F 26 rfl
  clear hb1 KC kB1
  go_wp2_with fail
  go_region_held3 (fun w' => w'.cell? ⟨w1.heap.size, 0, none⟩ = some (.int .u64 (hI c)) ∧ w'.cell? ⟨w1.heap.size, 1, none⟩ = some (.int .u64 (lI c)) ∧ w'.cell? ⟨w.heap.size + 1, 0, none⟩ = some (cv w' (w.heap.size + 1) 0) ∧ w'.cell? ⟨w.heap.size + 1, 1, none⟩ = some (cv w' (w.heap.size + 1) 1) ∧ w'.frozen? ⟨w.heap.size + 1, 0, none⟩ = false ∧ w'.frozen? ⟨w.heap.size + 1, 1, none⟩ = false ∧ Below w.heap.size w w')
    (first
      | (obtain ⟨k1, k2, k3, k4, k6, k7, k9⟩ := ‹_ ∧ _›; exact ⟨keepc hb3 k1, keepc hb3 k2, cv_of (keepc hb3 k3), cv_of (keepc hb3 k4), keepf hb3 k3 k6, keepf hb3 k4 k7, keepb hb3 k9⟩)
      | exact ⟨p0, p1, cv_of z0, cv_of z1, z2, z3, kB2⟩
      | (refine ⟨?_, ?_, cv_new ?_, cv_new ?_, ?_, ?_, ?_⟩ <;> first | (simp [go_sem, *]; done) | exact bset2 (by simp [*]) (by omega) _ _))
    (first | (go_at_call 41; refine (KR _).mono ?_; rintro e w3 ⟨rfl, hb3⟩))
  obtain ⟨-, -, -, -, -, -, kB⟩ := ‹_ ∧ _›
  have e0 := keepc hb3 (show (World.drew _).cell? _ = _ from z0)
  have e1 := keepc hb3 (show (World.drew _).cell? _ = _ from z1)
  go_wp2
  exact bodyPost_ret (v := .tuple #[.agg #[.int .u64 (hI c), .int .u64 (lI c)], .bool (r == 0)]) (by simp [results, Tryd.results27, go_sem, e0, e1]) rfl ⟨rfl, kB⟩

def someW (F : Int) (x : BitVec 128) (n : Int) : BitVec 128 := cutW (cutW x F) (n % (F + 1))
set_option maxHeartbeats 1000000 in
set_option maxRecDepth 20000 in
theorem some_any (F : Int) (x : BitVec 128) (n : Int) (w : World) (h0 : 0 ≤ F) (h1 : F ≤ 128) :
    Calls Tryd.prog 10 #[.int .i64 F, .agg #[.int .u64 (hI x), .int .u64 (lI x)], .int .i64 n] w fun e w' => e = .returned (.agg #[.int .u64 (hI (someW F x n)), .int .u64 (lI (someW F x n)), .int .i64 (n % (F + 1))]) ∧ Below w.heap.size w w' := by
  have KC := fun w => clip_any F x w
  have KW := fun w => within3_any n (F + 1) w (by omega) (by omega)
  have KT := fun w => rcut_any (cutW x F) (n % (F + 1)) w
  have hu : IntKind.i64.wrap (F + 1) = F + 1 := by rw [IntKind.wrap_i64]; omega
  unfold someW
  generalize (rightE F (cutW x F) == 0) = r at *
  generalize n % (F + 1) = m at *
  revert KT
  generalize cutW (cutW x F) m = d
  intro KT
  generalize cutW x F = c at *
  go_enter Tryd.func10, Tryd.ntmps10
  go_wp2_with fail
  refine (KC _).mono ?_
  rintro e w1 ⟨rfl, hb1⟩
  have Z1 := (atp_new (w.alloc (.cells #[.int .u64 (hI x), .int .u64 (lI x)] 24)) (w.heap.size + 1) 0#128 0 26 (by simp)).below hb1
  have X1 := ((at_new w w.heap.size x 24 rfl).below (bl1 _ (.cells #[.int .u64 0, .int .u64 0, .int .i64 0] 26))).below hb1
  have kB1 := keepb hb1 (bl2 w _ _)
  obtain ⟨x0, x1, x2, x3, x4⟩ := id X1
  clear hb1 KC
  go_wp2_with fail
  have kB2 := (bset2 kB1 (Nat.le_refl _) (.int .u64 (hI c)) (.int .u64 (lI c))).drew
  have X2 := X1.set c
  obtain ⟨y0, y1, -, -, -⟩ := id X2
  have Z2 : AtP ((w1.setCell ⟨w.heap.size, 0, none⟩ (.int .u64 (hI c))).setCell ⟨w.heap.size, 1, none⟩ (.int .u64 (lI c))) (w.heap.size + 1) 0#128 0 := by
    obtain ⟨q0, q1, q2, q3, q4, q5⟩ := Z1
    refine ⟨?_, ?_, ?_, ?_, ?_, ?_⟩ <;> simp [go_sem, *]
  clear x0 x1 x2 x3 x4 X1 Z1 kB1
  obtain ⟨z0, z1, z2, z3, z4, z5⟩ := id Z2
  go_region_held3 (fun w' => w'.cell? ⟨w.heap.size, 0, none⟩ = some (.int .u64 (hI c)) ∧ w'.cell? ⟨w.heap.size, 1, none⟩ = some (.int .u64 (lI c)) ∧ w'.cell? ⟨w.heap.size + 1, 0, none⟩ = some (cv w' (w.heap.size + 1) 0) ∧ w'.cell? ⟨w.heap.size + 1, 1, none⟩ = some (cv w' (w.heap.size + 1) 1) ∧ w'.cell? ⟨w.heap.size + 1, 2, none⟩ = some (cv w' (w.heap.size + 1) 2) ∧ w'.frozen? ⟨w.heap.size + 1, 0, none⟩ = false ∧ w'.frozen? ⟨w.heap.size + 1, 1, none⟩ = false ∧ w'.frozen? ⟨w.heap.size + 1, 2, none⟩ = false ∧ Below w.heap.size w w')
    (first
      | (obtain ⟨k1, k2, k3, k4, k5, k6, k7, k8, k9⟩ := ‹_ ∧ _›; exact ⟨keepc hb3 k1, keepc hb3 k2, cv_of (keepc hb3 k3), cv_of (keepc hb3 k4), cv_of (keepc hb3 k5), keepf hb3 k3 k6, keepf hb3 k4 k7, keepf hb3 k5 k8, keepb hb3 k9⟩)
      | exact ⟨y0, y1, cv_of z0, cv_of z1, cv_of z2, z3, z4, z5, kB2⟩
      | (refine ⟨?_, ?_, cv_new ?_, cv_new ?_, cv_new ?_, ?_, ?_, ?_, ?_⟩ <;> first | (simp [go_sem, *]; done) | exact bset3 (by simp [*]) (by omega) _ _ _))
    (first | (go_at_call 6; refine (KW _).mono ?_; rintro e w2 ⟨rfl, rfl⟩) | (go_at_call 28; refine (KT _).mono ?_; rintro e w3 ⟨rfl, hb3⟩))
  obtain ⟨-, -, -, -, -, -, -, -, kB⟩ := ‹_ ∧ _›
  have e0 := keepc hb3 (show (World.drew _).cell? _ = _ from z0)
  have e1 := keepc hb3 (show (World.drew _).cell? _ = _ from z1)
  have e2 := keepc hb3 (show (World.drew _).cell? _ = _ from z2)
  go_wp2
  exact bodyPost_ret (v := .agg #[.int .u64 (hI d), .int .u64 (lI d), .int .i64 m]) (by simp [results, Tryd.results10, go_sem, e0, e1, e2]) rfl ⟨rfl, kB⟩
end Go.Proofs.YtdgmfdfhbhmppaaDoor
/-
  Plain facts on prefixes: what the program tells and what the reference tells is the same.
-/
namespace Go.Proofs.YtdgmfdfhbhmppaaDoor
open Go.RowKit
set_option linter.unusedSimpArgs false
set_option linter.unusedVariables false

theorem mask_zero (z : BitVec 128) (n : Int) (h0 : 0 ≤ n) (h1 : n ≤ 128) : z &&& maskW n = 0#128 ↔ z >>> (128 - n).toNat = 0#128 := by
  constructor
  · intro h
    apply BitVec.eq_of_getLsbD_eq
    intro j hj
    have := congrArg (fun y => y.getLsbD ((128 - n).toNat + j)) h
    simp only [BitVec.getLsbD_and, BitVec.getLsbD_zero] at this
    by_cases c : (128 - n).toNat + j < 128
    · rw [maskW_bit n _ c] at this
      have d : decide (128 - n.toNat ≤ (128 - n).toNat + j) = true := by simp; omega
      rw [d, Bool.and_true] at this
      rw [BitVec.getLsbD_ushiftRight, this, BitVec.getLsbD_zero]
    · rw [BitVec.getLsbD_ushiftRight, BitVec.getLsbD_of_ge _ _ (by omega), BitVec.getLsbD_zero]
  · intro h
    apply BitVec.eq_of_getLsbD_eq
    intro j hj
    rw [BitVec.getLsbD_and, maskW_bit n j hj, BitVec.getLsbD_zero]
    by_cases c : 128 - n.toNat ≤ j
    · have := congrArg (fun y => y.getLsbD (j - (128 - n).toNat)) h
      simp only [BitVec.getLsbD_ushiftRight, BitVec.getLsbD_zero] at this
      rw [show (128 - n).toNat + (j - (128 - n).toNat) = j by omega] at this
      rw [this, Bool.false_and]
    · simp [c]
theorem lead_mask (z : BitVec 128) (n : Int) (h0 : 0 ≤ n) (h1 : n ≤ 128) : n ≤ ((leadN z : Nat) : Int) ↔ z &&& maskW n = 0#128 := by
  rw [mask_zero z n h0 h1]
  have := lead_wide z (128 - n) (by omega) (by omega)
  constructor
  · intro h
    apply Classical.byContradiction
    intro c
    have := this.mpr c
    omega
  · intro h
    apply Classical.byContradiction
    intro c
    exact this.mp (by omega) h
theorem xor_mask (x y m : BitVec 128) : (x ^^^ y) &&& m = 0#128 ↔ x &&& m = y &&& m := by
  have e : (x ^^^ y) &&& m = (x &&& m) ^^^ (y &&& m) := by
    apply BitVec.eq_of_getLsbD_eq
    intro j hj
    simp only [BitVec.getLsbD_and, BitVec.getLsbD_xor]
    cases x.getLsbD j <;> cases y.getLsbD j <;> cases m.getLsbD j <;> rfl
  rw [e]
  constructor
  · intro h
    have := congrArg (fun z => z ^^^ (y &&& m)) h
    simpa [BitVec.xor_assoc] using this
  · intro h
    rw [h, BitVec.xor_self]
theorem has_eq (x : BitVec 128) (n : Int) (y : BitVec 128) (h0 : 0 ≤ n) (h1 : n ≤ 128) (hx : cutW x n = x) : rhasB x n y = (cutW y n == x) := by
  unfold rhasB
  rw [Bool.eq_iff_iff, decide_eq_true_iff, beq_iff_eq, lead_mask _ n h0 h1, xor_mask]
  unfold cutW at *
  rw [hx]
  exact ⟨fun h => h.symm, fun h => h.symm⟩
theorem within_eq (x : BitVec 128) (n : Int) (y : BitVec 128) (m : Int) (h0 : 0 ≤ m) (h1 : m ≤ 128) (hy : cutW y m = y) : rwithinB x n y m = withinB x n y m := by
  unfold rwithinB withinB
  rw [has_eq y m x h0 h1 hy]
theorem mask_sub (n m : Int) (h0 : 0 ≤ n) (h : n ≤ m) : maskW n &&& maskW m = maskW n := by
  apply BitVec.eq_of_getLsbD_eq
  intro j hj
  rw [BitVec.getLsbD_and, maskW_bit n j hj, maskW_bit m j hj]
  by_cases c : 128 - n.toNat ≤ j
  · have : 128 - m.toNat ≤ j := by omega
    simp [c, this]
  · simp [c]
theorem last_eq (F : Int) (x : BitVec 128) (n : Int) (h0 : 0 ≤ n) (h : n ≤ F) : rlastW F x n = lastW F x n := by
  unfold rlastW lastW
  congr 1
  apply BitVec.eq_of_getLsbD_eq
  intro j hj
  rw [BitVec.getLsbD_and, BitVec.getLsbD_xor, BitVec.getLsbD_not, maskW_bit n j hj, maskW_bit F j hj]
  by_cases c : 128 - n.toNat ≤ j
  · have : 128 - F.toNat ≤ j := by omega
    simp [c, this]
  · simp [c, hj]
theorem cut_cut (x : BitVec 128) (n m : Int) (h0 : 0 ≤ n) (h : n ≤ m) : cutW (cutW x m) n = cutW x n := by
  unfold cutW
  rw [BitVec.and_assoc, BitVec.and_comm (maskW m), mask_sub n m h0 h]
theorem cut_cut2 (x : BitVec 128) (n m : Int) (h0 : 0 ≤ n) (h : n ≤ m) : cutW (cutW x n) m = cutW x n := by
  unfold cutW
  rw [BitVec.and_assoc, mask_sub n m h0 h]
/-- A right prefix of a family. -/
def Rt (F : Int) (x : BitVec 128) (n : Int) : Prop := 0 ≤ n ∧ n ≤ F ∧ cutW x n = x
theorem some_rt (F : Int) (x : BitVec 128) (n : Int) (h : 0 ≤ F) : Rt F (someW F x n) (n % (F + 1)) := by
  have a := Int.emod_nonneg n (b := F + 1) (by omega)
  have b := Int.emod_lt_of_pos n (b := F + 1) (by omega)
  refine ⟨a, by omega, ?_⟩
  unfold someW
  exact maskW_idem _ _
end Go.Proofs.YtdgmfdfhbhmppaaDoor
/-
  Plain facts on the order of prefixes, and on what lies within what.
-/
namespace Go.Proofs.YtdgmfdfhbhmppaaDoor
open Go.RowKit
set_option linter.unusedSimpArgs false
set_option linter.unusedVariables false

theorem cut_shift (x : BitVec 128) (n : Int) : cutW x n = (x >>> (128 - n.toNat)) <<< (128 - n.toNat) := by
  apply BitVec.eq_of_getLsbD_eq
  intro j hj
  unfold cutW
  rw [BitVec.getLsbD_and, maskW_bit n j hj, BitVec.getLsbD_shiftLeft, BitVec.getLsbD_ushiftRight]
  by_cases c : 128 - n.toNat ≤ j
  · have e : 128 - n.toNat + (j - (128 - n.toNat)) = j := by omega
    have d : ¬ j < 128 - n.toNat := by omega
    simp [c, d, hj, e]
  · have d : j < 128 - n.toNat := by omega
    simp [c, d]
theorem cut_nat (x : BitVec 128) (n : Int) : (cutW x n).toNat = x.toNat / 2 ^ (128 - n.toNat) * 2 ^ (128 - n.toNat) := by
  rw [cut_shift, BitVec.toNat_shiftLeft, BitVec.toNat_ushiftRight, Nat.shiftLeft_eq, Nat.shiftRight_eq_div_pow]
  apply Nat.mod_eq_of_lt
  exact Nat.lt_of_le_of_lt (Nat.div_mul_le_self _ _) x.isLt
theorem cut_mono (x y : BitVec 128) (n : Int) (h : x.toNat ≤ y.toNat) : (cutW x n).toNat ≤ (cutW y n).toNat := by
  rw [cut_nat, cut_nat]
  exact Nat.mul_le_mul_right _ (Nat.div_le_div_right h)
theorem cmpZ_ways (x y : BitVec 128) : (x.toNat < y.toNat ∧ cmpZ x y = -1) ∨ (x = y ∧ cmpZ x y = 0) ∨ (y.toNat < x.toNat ∧ cmpZ x y = 1) := by
  unfold cmpZ
  by_cases h : x.toNat < y.toNat
  · left; rw [if_pos h]; exact ⟨h, rfl⟩
  · rw [if_neg h]
    by_cases e : x = y
    · right; left; rw [if_pos e]; exact ⟨e, rfl⟩
    · right; right; rw [if_neg e]
      have : ¬ x.toNat = y.toNat := fun q => e (BitVec.eq_of_toNat_eq q)
      exact ⟨by omega, rfl⟩
/-- The order, as plain words. -/
theorem pcmp_ways (x : BitVec 128) (n : Int) (y : BitVec 128) (m : Int) :
    ((x.toNat < y.toNat ∨ (x = y ∧ n < m)) ∧ pcmpZ x n y m = -1) ∨ ((x = y ∧ n = m) ∧ pcmpZ x n y m = 0) ∨ ((y.toNat < x.toNat ∨ (x = y ∧ m < n)) ∧ pcmpZ x n y m = 1) := by
  unfold pcmpZ
  rcases cmpZ_ways x y with ⟨h, e⟩ | ⟨h, e⟩ | ⟨h, e⟩
  · left; rw [e, if_neg (by decide)]; exact ⟨Or.inl h, rfl⟩
  · rw [e, if_pos rfl]
    unfold cmpI
    by_cases h1 : n < m
    · left; rw [if_pos h1]; exact ⟨Or.inr ⟨h, h1⟩, rfl⟩
    · rw [if_neg h1]
      by_cases h2 : m < n
      · right; right; rw [if_pos h2]; exact ⟨Or.inr ⟨h, h2⟩, rfl⟩
      · right; left; rw [if_neg h2]; exact ⟨⟨h, by omega⟩, rfl⟩
  · right; right; rw [e, if_neg (by decide)]; exact ⟨Or.inl h, rfl⟩
theorem pcmp_neg (x : BitVec 128) (n : Int) (y : BitVec 128) (m : Int) : pcmpZ y m x n = - pcmpZ x n y m := by
  rcases pcmp_ways x n y m with ⟨h, e⟩ | ⟨h, e⟩ | ⟨h, e⟩ <;> rcases pcmp_ways y m x n with ⟨g, f⟩ | ⟨g, f⟩ | ⟨g, f⟩ <;> rw [e, f] <;> (try rfl) <;> exfalso
  · rcases h with h | ⟨rfl, h⟩ <;> rcases g with g | ⟨g1, g⟩ <;> (try subst g1) <;> omega
  · obtain ⟨rfl, rfl⟩ := g; rcases h with h | ⟨_, h⟩ <;> omega
  · obtain ⟨rfl, rfl⟩ := h; rcases g with g | ⟨_, g⟩ <;> omega
  · obtain ⟨rfl, rfl⟩ := h; rcases g with g | ⟨_, g⟩ <;> omega
  · obtain ⟨rfl, rfl⟩ := g; rcases h with h | ⟨_, h⟩ <;> omega
  · rcases h with h | ⟨rfl, h⟩ <;> rcases g with g | ⟨g1, g⟩ <;> (try subst g1) <;> omega
theorem pcmp_le (x : BitVec 128) (n : Int) (y : BitVec 128) (m : Int) : pcmpZ x n y m ≤ 0 ↔ (x.toNat < y.toNat ∨ (x = y ∧ n ≤ m)) := by
  rcases pcmp_ways x n y m with ⟨h, e⟩ | ⟨h, e⟩ | ⟨h, e⟩ <;> rw [e]
  · refine ⟨fun _ => ?_, fun _ => by decide⟩
    rcases h with h | ⟨rfl, h⟩
    · exact Or.inl h
    · exact Or.inr ⟨rfl, by omega⟩
  · refine ⟨fun _ => Or.inr ⟨h.1, by omega⟩, fun _ => by decide⟩
  · refine ⟨fun q => absurd q (by decide), fun q => ?_⟩
    exfalso
    rcases h with h | ⟨rfl, h⟩ <;> rcases q with q | ⟨q1, q⟩ <;> (try subst q1) <;> omega
theorem pcmp_eq0 (x : BitVec 128) (n : Int) (y : BitVec 128) (m : Int) : pcmpZ x n y m = 0 ↔ (x = y ∧ n = m) := by
  rcases pcmp_ways x n y m with ⟨h, e⟩ | ⟨h, e⟩ | ⟨h, e⟩ <;> rw [e]
  · refine ⟨fun q => absurd q (by decide), fun q => ?_⟩
    obtain ⟨rfl, rfl⟩ := q; rcases h with h | ⟨_, h⟩ <;> omega
  · exact ⟨fun _ => h, fun _ => rfl⟩
  · refine ⟨fun q => absurd q (by decide), fun q => ?_⟩
    obtain ⟨rfl, rfl⟩ := q; rcases h with h | ⟨_, h⟩ <;> omega
theorem pcmp_trans (x : BitVec 128) (n : Int) (y : BitVec 128) (m : Int) (z : BitVec 128) (k : Int) (h1 : pcmpZ x n y m ≤ 0) (h2 : pcmpZ y m z k ≤ 0) : ¬ 0 < pcmpZ x n z k := by
  rw [pcmp_le] at h1 h2
  have : pcmpZ x n z k ≤ 0 := by
    rw [pcmp_le]
    rcases h1 with h1 | ⟨rfl, h1⟩ <;> rcases h2 with h2 | ⟨h3, h2⟩ <;> (try subst h3)
    · left; omega
    · left; exact h1
    · left; exact h2
    · right; exact ⟨rfl, by omega⟩
  omega
theorem within_iff (x : BitVec 128) (n : Int) (y : BitVec 128) (m : Int) : withinB x n y m = true ↔ (m ≤ n ∧ cutW x m = y) := by
  unfold withinB
  simp
/-- What stands between a prefix and what lies within it lies within it. -/
theorem between (F : Int) (x : BitVec 128) (n : Int) (y : BitVec 128) (m : Int) (z : BitVec 128) (k : Int) (hx : Rt F x n) (hy : Rt F y m) (h1 : pcmpZ x n y m ≤ 0) (h2 : pcmpZ y m z k ≤ 0) (h3 : withinB z k x n = true) : withinB y m x n = true := by
  rw [within_iff] at h3 ⊢
  rw [pcmp_le] at h1 h2
  obtain ⟨h3, h4⟩ := h3
  have hxy : x.toNat ≤ y.toNat := by rcases h1 with h | ⟨rfl, _⟩ <;> omega
  have hyz : y.toNat ≤ z.toNat := by rcases h2 with h | ⟨rfl, _⟩ <;> omega
  have c1 := cut_mono x y n hxy
  have c2 := cut_mono y z n hyz
  rw [hx.2.2] at c1
  rw [h4] at c2
  have hc : cutW y n = x := BitVec.eq_of_toNat_eq (by omega)
  refine ⟨?_, hc⟩
  apply Classical.byContradiction
  intro q
  have := cut_cut2 y m n hy.1 (by omega)
  rw [hy.2.2, hc] at this
  rcases h1 with h | ⟨_, h⟩
  · rw [this] at h; omega
  · omega
theorem meetN_le (x : BitVec 128) (n : Int) (y : BitVec 128) (m : Int) : meetN x n y m ≤ n ∧ meetN x n y m ≤ m ∧ meetN x n y m ≤ ((leadN (x ^^^ y) : Nat) : Int) := by
  unfold meetN; omega
theorem meetN_nn (x : BitVec 128) (n : Int) (y : BitVec 128) (m : Int) (h : 0 ≤ n) (g : 0 ≤ m) : 0 ≤ meetN x n y m := by
  unfold meetN; omega
theorem meetN_comm (x : BitVec 128) (n : Int) (y : BitVec 128) (m : Int) : meetN y m x n = meetN x n y m := by
  unfold meetN
  rw [BitVec.xor_comm]
  omega
theorem meet_cut (x : BitVec 128) (n : Int) (y : BitVec 128) (m : Int) (h : 0 ≤ n) (g : 0 ≤ m) (hn : n ≤ 128) : cutW y (meetN x n y m) = cutW x (meetN x n y m) := by
  have := (lead_mask (x ^^^ y) (meetN x n y m) (meetN_nn x n y m h g) (by have := meetN_le x n y m; omega)).mp (meetN_le x n y m).2.2
  exact ((xor_mask x y _).mp this).symm
theorem meet_in (x : BitVec 128) (n : Int) (y : BitVec 128) (m : Int) (h : 0 ≤ n) (g : 0 ≤ m) (hn : n ≤ 128) :
    withinB x n (cutW x (meetN x n y m)) (meetN x n y m) = true ∧ withinB y m (cutW x (meetN x n y m)) (meetN x n y m) = true := by
  rw [within_iff, within_iff]
  exact ⟨⟨(meetN_le x n y m).1, rfl⟩, (meetN_le x n y m).2.1, meet_cut x n y m h g hn⟩
theorem meet_is (x : BitVec 128) (n : Int) (y : BitVec 128) (m : Int) (h : 0 ≤ n) (hn : n ≤ 128) (hx : cutW x n = x) :
    (cutW x (meetN x n y m) = x ∧ meetN x n y m = n) ↔ withinB y m x n = true := by
  rw [within_iff]
  have hl := lead_mask (x ^^^ y) n h hn
  rw [xor_mask] at hl
  constructor
  · rintro ⟨-, e⟩
    have := meetN_le x n y m
    refine ⟨by omega, ?_⟩
    have := hl.mp (by omega)
    unfold cutW at hx ⊢
    rw [← this, hx]
  · rintro ⟨h1, h2⟩
    have : n ≤ ((leadN (x ^^^ y) : Nat) : Int) := hl.mpr (by unfold cutW at hx h2; rw [hx, h2])
    have e : meetN x n y m = n := by unfold meetN; omega
    rw [e]
    exact ⟨hx, rfl⟩
theorem meet_above (x : BitVec 128) (n : Int) (y : BitVec 128) (m : Int) (z : BitVec 128) (k : Int) (hk : 0 ≤ k) (hn : n ≤ 128) (h1 : withinB x n z k = true) (h2 : withinB y m z k = true) : withinB (cutW x (meetN x n y m)) (meetN x n y m) z k = true := by
  rw [within_iff] at *
  have : k ≤ ((leadN (x ^^^ y) : Nat) : Int) := (lead_mask (x ^^^ y) k hk (by omega)).mpr ((xor_mask x y _).mpr (by
    have e1 := h1.2; have e2 := h2.2
    unfold cutW at e1 e2
    rw [e1, e2]))
  have hm : k ≤ meetN x n y m := by unfold meetN; omega
  exact ⟨hm, by rw [cut_cut x k _ hk hm]; exact h1.2⟩
end Go.Proofs.YtdgmfdfhbhmppaaDoor
/-
  Plain facts: two prefixes are apart, or one lies within the other; what has an address lies between the ends.
-/
namespace Go.Proofs.YtdgmfdfhbhmppaaDoor
open Go.RowKit
set_option linter.unusedSimpArgs false
set_option linter.unusedVariables false

theorem last_bit (F : Int) (x : BitVec 128) (n : Int) (j : Nat) (hj : j < 128) : (lastW F x n).getLsbD j = (x.getLsbD j || (xor (decide (128 - F.toNat ≤ j)) (decide (128 - n.toNat ≤ j)))) := by
  unfold lastW
  rw [BitVec.getLsbD_or, BitVec.getLsbD_xor, maskW_bit F j hj, maskW_bit n j hj]
theorem cut_bit (x : BitVec 128) (n : Int) (j : Nat) (hj : j < 128) : (cutW x n).getLsbD j = (x.getLsbD j && decide (128 - n.toNat ≤ j)) := by
  unfold cutW
  rw [BitVec.getLsbD_and, maskW_bit n j hj]
theorem last_cut (F : Int) (x : BitVec 128) (n : Int) (h : Rt F x n) : cutW (lastW F x n) n = x := by
  apply BitVec.eq_of_getLsbD_eq
  intro j hj
  have hx := congrArg (fun z => z.getLsbD j) h.2.2
  simp only [cut_bit x n j hj] at hx
  rw [cut_bit _ n j hj, last_bit F x n j hj]
  have h1 := h.1; have h2 := h.2.1
  by_cases c : 128 - n.toNat ≤ j
  · have d : 128 - F.toNat ≤ j := by omega
    simp [c, d]
  · simp [c] at hx ⊢
    exact hx
theorem last_fam (F : Int) (x : BitVec 128) (n : Int) (h : Rt F x n) : cutW (lastW F x n) F = lastW F x n := by
  apply BitVec.eq_of_getLsbD_eq
  intro j hj
  have hx := congrArg (fun z => z.getLsbD j) h.2.2
  simp only [cut_bit x n j hj] at hx
  rw [cut_bit _ F j hj, last_bit F x n j hj]
  have h1 := h.1; have h2 := h.2.1
  by_cases d : 128 - F.toNat ≤ j
  · simp [d]
  · have c : ¬ 128 - n.toNat ≤ j := by omega
    simp [c] at hx
    simp [c, d, hx]
theorem cut_le (x : BitVec 128) (n : Int) : (cutW x n).toNat ≤ x.toNat := by
  rw [cut_nat]; exact Nat.div_mul_le_self _ _
theorem le_last (F : Int) (x : BitVec 128) (n : Int) (h : Rt F x n) (c : BitVec 128) (hc : cutW c F = c) (hx : cutW c n = x) : c.toNat ≤ (lastW F x n).toNat := by
  have e : c &&& lastW F x n = c := by
    apply BitVec.eq_of_getLsbD_eq
    intro j hj
    have e1 := congrArg (fun z => z.getLsbD j) hc
    have e2 := congrArg (fun z => z.getLsbD j) hx
    simp only [cut_bit c F j hj, cut_bit c n j hj] at e1 e2
    rw [BitVec.getLsbD_and, last_bit F x n j hj]
    by_cases a : 128 - n.toNat ≤ j
    · simp [a] at e2
      rw [e2]
      cases x.getLsbD j <;> simp
    · by_cases b : 128 - F.toNat ≤ j
      · simp [a, b]
      · simp [b] at e1
        rw [e1]; simp
  rw [← e, BitVec.toNat_and]
  exact Nat.and_le_right
theorem has_ends (F : Int) (x : BitVec 128) (n : Int) (h : Rt F x n) (c : BitVec 128) (hc : cutW c F = c) : cutW c n = x ↔ (x.toNat ≤ c.toNat ∧ c.toNat ≤ (lastW F x n).toNat) := by
  constructor
  · intro e
    exact ⟨by rw [← e]; exact cut_le c n, le_last F x n h c hc e⟩
  · rintro ⟨h1, h2⟩
    have a := cut_mono x c n h1
    have b := cut_mono c _ n h2
    rw [h.2.2] at a
    rw [last_cut F x n h] at b
    exact BitVec.eq_of_toNat_eq (by omega)
theorem cmp_le (x y : BitVec 128) : cmpZ x y ≤ 0 ↔ x.toNat ≤ y.toNat := by
  rcases cmpZ_ways x y with ⟨h, e⟩ | ⟨h, e⟩ | ⟨h, e⟩ <;> rw [e]
  · exact ⟨fun _ => by omega, fun _ => by decide⟩
  · exact ⟨fun _ => by rw [h]; omega, fun _ => by decide⟩
  · exact ⟨fun q => absurd q (by decide), fun q => by omega⟩
theorem cmp_lt0 (x y : BitVec 128) : cmpZ x y < 0 ↔ x.toNat < y.toNat := by
  rcases cmpZ_ways x y with ⟨h, e⟩ | ⟨h, e⟩ | ⟨h, e⟩ <;> rw [e]
  · exact ⟨fun _ => h, fun _ => by decide⟩
  · exact ⟨fun q => absurd q (by decide), fun q => by rw [h] at q; omega⟩
  · exact ⟨fun q => absurd q (by decide), fun q => by omega⟩
theorem rt_fam (F : Int) (x : BitVec 128) (n : Int) (h : Rt F x n) : cutW x F = x := by
  have := cut_cut2 x n F h.1 h.2.1
  rwa [h.2.2] at this
/-- If one ends ahead of the other, neither lies within the other. -/
theorem ahead_no (F : Int) (x : BitVec 128) (n : Int) (y : BitVec 128) (m : Int) (hx : Rt F x n) (hy : Rt F y m) (h : (lastW F x n).toNat < y.toNat) : withinB x n y m = false ∧ withinB y m x n = false := by
  constructor
  · cases q : withinB x n y m
    · rfl
    · rw [within_iff] at q
      have a := cut_le x m
      rw [q.2] at a
      have b := (has_ends F x n hx x (rt_fam F x n hx)).mp hx.2.2
      omega
  · cases q : withinB y m x n
    · rfl
    · rw [within_iff] at q
      have b := (has_ends F x n hx y (rt_fam F y m hy)).mp q.2
      omega
theorem apart_of (F : Int) (x : BitVec 128) (n : Int) (y : BitVec 128) (m : Int) (hx : Rt F x n) (hy : Rt F y m) (hnm : n ≤ m) (h : withinB y m x n = false) : (lastW F x n).toNat < y.toNat ∨ (lastW F y m).toNat < x.toNat := by
  have hc : ¬ cutW y n = x := by
    intro e
    have := (within_iff y m x n).mpr ⟨hnm, e⟩
    rw [h] at this; cases this
  rcases Nat.lt_or_ge (cutW y n).toNat x.toNat with q | q
  · right
    apply Classical.byContradiction
    intro c
    have a := cut_mono x (lastW F y m) n (by omega)
    rw [hx.2.2, ← cut_cut (lastW F y m) n m hx.1 hnm, last_cut F y m hy] at a
    omega
  · left
    apply Classical.byContradiction
    intro c
    have a := cut_mono y (lastW F x n) n (by omega)
    rw [last_cut F x n hx] at a
    exact hc (BitVec.eq_of_toNat_eq (by omega))
theorem apart_iff (F : Int) (x : BitVec 128) (n : Int) (y : BitVec 128) (m : Int) (hx : Rt F x n) (hy : Rt F y m) :
    ((lastW F x n).toNat < y.toNat ∨ (lastW F y m).toNat < x.toNat) ↔ (withinB x n y m = false ∧ withinB y m x n = false) := by
  constructor
  · rintro (h | h)
    · exact ahead_no F x n y m hx hy h
    · exact (ahead_no F y m x n hy hx h).symm
  · rintro ⟨h1, h2⟩
    by_cases c : n ≤ m
    · exact apart_of F x n y m hx hy c h2
    · exact (apart_of F y m x n hy hx (by omega) h1).symm
theorem both_eq (F : Int) (x : BitVec 128) (n : Int) (y : BitVec 128) (m : Int) (hx : Rt F x n) (hy : Rt F y m) : (withinB x n y m && withinB y m x n) = ((x == y) && (n == m)) := by
  rw [Bool.eq_iff_iff]
  simp only [Bool.and_eq_true, within_iff, beq_iff_eq]
  constructor
  · rintro ⟨⟨a, b⟩, c, d⟩
    have e : n = m := by omega
    subst e
    exact ⟨by rw [← d, hy.2.2], rfl⟩
  · rintro ⟨rfl, rfl⟩
    exact ⟨⟨Int.le_refl _, hx.2.2⟩, Int.le_refl _, hx.2.2⟩
theorem within_ends (F : Int) (x : BitVec 128) (n : Int) (y : BitVec 128) (m : Int) (hx : Rt F x n) (hy : Rt F y m) (h : withinB x n y m = true) : ¬ 0 < cmpZ y x ∧ ¬ 0 < cmpZ (lastW F x n) (lastW F y m) := by
  rw [within_iff] at h
  have a : cmpZ y x ≤ 0 := (cmp_le y x).mpr (by rw [← h.2]; exact cut_le x m)
  have hl : cutW (lastW F x n) m = y := by rw [← cut_cut (lastW F x n) m n hy.1 h.1, last_cut F x n hx, h.2]
  have b : cmpZ (lastW F x n) (lastW F y m) ≤ 0 := (cmp_le _ _).mpr (le_last F y m hy _ (last_fam F x n hx) hl)
  exact ⟨by omega, by omega⟩
theorem within_has (F : Int) (x : BitVec 128) (n : Int) (y : BitVec 128) (m : Int) (c : BitVec 128) (hy : Rt F y m) (h : withinB x n y m = true) (hc : (cutW c n == x) = true) : (cutW c m == y) = true := by
  rw [within_iff] at h
  have e : cutW c n = x := by simpa using hc
  have := cut_cut c m n hy.1 h.1
  rw [e, h.2] at this
  simp [← this]
end Go.Proofs.YtdgmfdfhbhmppaaDoor
/-
  Plain facts on numbers: the widest prefixes of a range, one behind the other, are not too many.
-/
namespace Go.Proofs.YtdgmfdfhbhmppaaDoor
open Go.RowKit
set_option linter.unusedSimpArgs false
set_option linter.unusedVariables false

/-- A prefix of 2 to e addresses that begins at a ends ahead of c. -/
def Rs (c a e : Nat) : Prop := 2 ^ e ∣ a ∧ a + 2 ^ e ≤ c
theorem Rs.down {c a e i : Nat} (h : Rs c a e) (hi : i ≤ e) : Rs c a i := by
  have := Nat.pow_le_pow_right (n := 2) (by decide) hi
  exact ⟨Nat.dvd_trans (Nat.pow_dvd_pow 2 hi) h.1, by have := h.2; omega⟩
/-- So many of the widest ones, one behind the other, reach from a to c. -/
inductive Cn (u c : Nat) : Nat → Nat → Prop
  | done : Cn u c c 0
  | step (a e k : Nat) : u ≤ e → Rs c a e → ¬ (e < 128 ∧ Rs c a (e + 1)) → Cn u c (a + 2 ^ e) k → Cn u c a (k + 1)
theorem Cn.none {u c k : Nat} (h : Cn u c c k) : k = 0 := by
  cases h with
  | done => rfl
  | step _ e k h1 h2 h3 h4 => have := h2.2; have := Nat.two_pow_pos e; omega
theorem cn_end (u c : Nat) (hu : 2 ^ u ∣ c) : ∀ d a k, 2 ^ (u + d) ∣ a → a ≤ c → c < a + 2 ^ (u + d) → u + d ≤ 128 → Cn u c a k → k ≤ d := by
  intro d
  induction d with
  | zero =>
    intro a k h1 h2 h3 h5 h4
    have : a = c := by
      obtain ⟨p, hp⟩ := hu
      obtain ⟨q, hq⟩ := h1
      simp only [Nat.add_zero] at *
      have hp' := Nat.two_pow_pos u
      rw [hp, hq] at h3 h2
      have a1 : p < q + 1 := Nat.lt_of_mul_lt_mul_left (a := 2 ^ u) (by rw [Nat.mul_add, Nat.mul_one]; exact h3)
      have a2 : q ≤ p := Nat.le_of_mul_le_mul_left h2 hp'
      rw [hp, hq, show p = q by omega]
    subst this
    rw [h4.none]; omega
  | succ d ih =>
    intro a k h1 h2 h3 h5 h4
    have hpw : 2 ^ (u + (d + 1)) = 2 ^ (u + d) + 2 ^ (u + d) := by rw [← Nat.add_assoc, Nat.pow_succ]; omega
    have h1' : 2 ^ (u + d) ∣ a := Nat.dvd_trans (Nat.pow_dvd_pow 2 (by omega)) h1
    by_cases hc : c < a + 2 ^ (u + d)
    · have := ih a k h1' h2 hc (by omega) h4; omega
    · cases h4 with
      | done => omega
      | step _ e k g1 g2 g3 g4 =>
        have e1 : ¬ u + d + 1 ≤ e := by
          intro q
          have := (g2.down q).2
          rw [show u + d + 1 = u + (d + 1) by omega] at this
          omega
        have e2 : ¬ e < u + d := by
          intro q
          exact g3 ⟨by omega, Rs.down ⟨h1', by omega⟩ q⟩
        have e3 : e = u + d := by omega
        subst e3
        have := ih (a + 2 ^ (u + d)) k (Nat.dvd_add h1' (Nat.dvd_refl _)) (by omega) (by omega) (by omega) g4
        omega
theorem cn_up (u c m j : Nat) (hm : 2 ^ j ∣ m) (hmc : m ≤ c) (hj : j ≤ 128) : ∀ d t a k, t + d = j → u ≤ t → a ≤ m → 2 ^ t ∣ m - a → m - a < 2 ^ j → Cn u c a k → ∃ k', Cn u c m k' ∧ k ≤ d + k' := by
  intro d
  induction d with
  | zero =>
    intro t a k ht hu ha h1 h2 h3
    have : m - a = 0 := Nat.eq_zero_of_dvd_of_lt h1 (by rw [show t = j by omega]; exact h2)
    have : a = m := by omega
    subst this
    exact ⟨k, h3, by omega⟩
  | succ d ih =>
    intro t a k ht hu ha h1 h2 h3
    by_cases hd : 2 ^ (t + 1) ∣ m - a
    · obtain ⟨k', p, q⟩ := ih (t + 1) a k (by omega) (by omega) ha hd h2 h3
      exact ⟨k', p, by omega⟩
    · have ham : a < m := by
        rcases Nat.lt_or_ge a m with q | q
        · exact q
        · exact absurd (by rw [show m - a = 0 by omega]; exact Nat.dvd_zero _) hd
      have hta : 2 ^ t ∣ a := by
        have : 2 ^ t ∣ m := Nat.dvd_trans (Nat.pow_dvd_pow 2 (by omega)) hm
        exact (Nat.dvd_sub_iff_right ha this).mp h1
      have hna : ¬ 2 ^ (t + 1) ∣ a := by
        intro q
        have : 2 ^ (t + 1) ∣ m := Nat.dvd_trans (Nat.pow_dvd_pow 2 (by omega)) hm
        exact hd (Nat.dvd_sub this q)
      have hle : 2 ^ t ≤ m - a := Nat.le_of_dvd (by omega) h1
      cases h3 with
      | done => omega
      | step _ e k g1 g2 g3 g4 =>
        have e1 : ¬ t + 1 ≤ e := fun q => hna (g2.down q).1
        have e2 : ¬ e < t := fun q => g3 ⟨by omega, Rs.down ⟨hta, by omega⟩ q⟩
        have e3 : e = t := by omega
        subst e3
        obtain ⟨p, hp⟩ := h1
        have hodd : p % 2 = 1 := by
          rcases Nat.mod_two_eq_zero_or_one p with q | q
          · exact absurd ⟨p / 2, by rw [hp, Nat.pow_succ, Nat.mul_assoc]; congr 1; omega⟩ hd
          · exact q
        obtain ⟨k', x, y⟩ := ih (e + 1) (a + 2 ^ e) k (by omega) (by omega) (by omega) ⟨p / 2, by
          rw [show m - (a + 2 ^ e) = (m - a) - 2 ^ e by omega, hp, Nat.pow_succ, Nat.mul_assoc, show 2 * (p / 2) = p - 1 by omega, Nat.mul_sub, Nat.mul_one]⟩ (by omega) g4
        exact ⟨k', x, by omega⟩
theorem split_at (a c : Nat) (h : a < c) : ∀ N, a / 2 ^ N = c / 2 ^ N → ∃ j q, j < N ∧ 2 * q * 2 ^ j ≤ a ∧ a < (2 * q + 1) * 2 ^ j ∧ (2 * q + 1) * 2 ^ j ≤ c ∧ c < (2 * q + 2) * 2 ^ j := by
  intro N
  induction N with
  | zero => intro e; simp at e; omega
  | succ N ih =>
    intro e
    by_cases f : a / 2 ^ N = c / 2 ^ N
    · obtain ⟨j, q, h1, h2⟩ := ih f
      exact ⟨j, q, by omega, h2⟩
    · have hp := Nat.two_pow_pos N
      rw [Nat.pow_succ, ← Nat.div_div_eq_div_mul, ← Nat.div_div_eq_div_mul] at e
      have m : a / 2 ^ N ≤ c / 2 ^ N := Nat.div_le_div_right (by omega)
      have ea : a / 2 ^ N = 2 * (a / 2 ^ N / 2) := by omega
      have ec : c / 2 ^ N = 2 * (a / 2 ^ N / 2) + 1 := by omega
      generalize a / 2 ^ N / 2 = q at *
      refine ⟨N, q, by omega, ?_, ?_, ?_, ?_⟩
      · rw [← ea]; exact Nat.div_mul_le_self _ _
      · have := Nat.lt_div_mul_add (a := a) hp
        rw [ea] at this; rw [Nat.add_mul, Nat.one_mul]; omega
      · rw [← ec]; exact Nat.div_mul_le_self _ _
      · have := Nat.lt_div_mul_add (a := c) hp
        rw [ec] at this; rw [show 2 * q + 2 = (2 * q + 1) + 1 by omega, Nat.add_mul (2 * q + 1), Nat.one_mul]; omega
/-- Not too many. -/
theorem cn_most (u c a k : Nat) (hu : u + 2 ≤ 128) (hua : 2 ^ u ∣ a) (huc : 2 ^ u ∣ c) (hac : a < c) (hc : c ≤ 2 ^ 128) (h : Cn u c a k) : k ≤ 2 * (128 - u) - 2 := by
  by_cases hw : c = 2 ^ 128
  · subst hw
    by_cases h0 : a = 0
    · subst h0
      cases h with
      | step _ e k g1 g2 g3 g4 =>
        have e1 : e = 128 := by
          rcases Nat.lt_or_ge e 128 with q | q
          · exact absurd ⟨q, Nat.dvd_zero _, by have := Nat.pow_le_pow_right (n := 2) (by decide) (show e + 1 ≤ 128 by omega); omega⟩ g3
          · have := g2.2
            have : 2 ^ e ≤ 2 ^ 128 := by omega
            have := (Nat.pow_le_pow_iff_right (a := 2) (by decide)).mp this
            omega
        subst e1
        rw [Nat.zero_add] at g4
        have := g4.none
        omega
    · obtain ⟨k', p, q⟩ := cn_up u (2 ^ 128) (2 ^ 128) 128 (Nat.dvd_refl _) (Nat.le_refl _) (by omega) (128 - u) u a k (by omega) (by omega) (by omega) (Nat.dvd_sub huc hua) (by omega) h
      have := p.none
      omega
  · obtain ⟨j, q, h1, h2, h3, h4, h5⟩ := split_at a c hac 128 (by rw [Nat.div_eq_of_lt (by omega), Nat.div_eq_of_lt (by omega)])
    have huj : u ≤ j := by
      rcases Nat.lt_or_ge j u with x | x
      · exfalso
        have hp := Nat.two_pow_pos j
        have hd : 2 ^ (j + 1) ∣ 2 ^ u := Nat.pow_dvd_pow 2 (by omega)
        obtain ⟨t, ht⟩ := Nat.dvd_trans hd huc
        rw [ht, show 2 ^ (j + 1) * t = 2 * t * 2 ^ j by rw [Nat.pow_succ, Nat.mul_assoc, Nat.mul_comm]] at h4 h5
        have b3 := Nat.le_of_mul_le_mul_right h4 hp
        have b4 := Nat.lt_of_mul_lt_mul_right h5
        omega
      · exact x
    have hs : (2 * q + 1) * 2 ^ j = 2 * q * 2 ^ j + 2 ^ j := by rw [Nat.add_mul, Nat.one_mul]
    have hs2 : (2 * q + 2) * 2 ^ j = (2 * q + 1) * 2 ^ j + 2 ^ j := by rw [show 2 * q + 2 = (2 * q + 1) + 1 by omega, Nat.add_mul (2 * q + 1), Nat.one_mul]
    have hdm : 2 ^ j ∣ (2 * q + 1) * 2 ^ j := Nat.dvd_mul_left _ _
    have hda : 2 ^ j ∣ 2 * q * 2 ^ j := Nat.dvd_mul_left _ _
    generalize hm : (2 * q + 1) * 2 ^ j = m at *
    generalize ha0 : 2 * q * 2 ^ j = a0 at *
    have tailm : ∀ k', Cn u c m k' → k' ≤ j - u := fun k' hk' => cn_end u c huc (j - u) m k' (by rw [show u + (j - u) = j by omega]; exact hdm) h4 (by rw [show u + (j - u) = j by omega]; omega) (by omega) hk'
    by_cases hr : a = a0
    · subst hr
      cases h with
      | done => omega
      | step _ e k g1 g2 g3 g4 =>
        have e1 : ¬ j + 1 ≤ e := by
          intro x
          have := (g2.down x).2
          rw [Nat.pow_succ] at this
          omega
        have e2 : ¬ e < j := fun x => g3 ⟨by omega, Rs.down ⟨hda, by omega⟩ x⟩
        have e3 : e = j := by omega
        subst e3
        rw [← hs] at g4
        have := tailm k g4
        omega
    · obtain ⟨k', p, r⟩ := cn_up u c m j hdm h4 (by omega) (j - u) u a k (by omega) (by omega) (by omega) (Nat.dvd_sub (Nat.dvd_trans (Nat.pow_dvd_pow 2 huj) hdm) hua) (by omega) h
      have := tailm k' p
      omega
end Go.Proofs.YtdgmfdfhbhmppaaDoor
