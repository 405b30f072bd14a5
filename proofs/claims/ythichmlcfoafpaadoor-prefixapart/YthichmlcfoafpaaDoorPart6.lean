/-
  Part 6 of the proof: 5 texts, one behind the other.
-/
import Derived.Test.YthichmlcfoafpaaDoorPart5
import Derived.Test.YthichmlcfoafpaaDoorPart3
/-
  Plain facts on prefixes: what the program tells and what the reference tells is the same.
-/
namespace Go.Proofs.YthichmlcfoafpaaDoor
open Go.RowKit
set_option linter.unusedSimpArgs false
set_option linter.unusedVariables false

theorem mask_zero (z : BitVec 128) (n : Int) (h0 : 0 ≤ n) (h1 : n ≤ 128) : z &&& maskW n = 0#128 ↔ z >>> (128 - n).toNat = 0#128 := by
  constructor
  · intro h
    apply BitVec.eq_of_getLsbD_eq
    intro j hj
    have := congrArg (fun y => y.getLsbD ((128 - n).toNat + j)) h
    simp only [BitVec.getLsbD_and, BitVec.getLsbD_zero] at this
    by_cases c : (128 - n).toNat + j < 128
    · rw [maskW_bit n _ c] at this
      have d : decide (128 - n.toNat ≤ (128 - n).toNat + j) = true := by simp; omega
      rw [d, Bool.and_true] at this
      rw [BitVec.getLsbD_ushiftRight, this, BitVec.getLsbD_zero]
    · rw [BitVec.getLsbD_ushiftRight, BitVec.getLsbD_of_ge _ _ (by omega), BitVec.getLsbD_zero]
  · intro h
    apply BitVec.eq_of_getLsbD_eq
    intro j hj
    rw [BitVec.getLsbD_and, maskW_bit n j hj, BitVec.getLsbD_zero]
    by_cases c : 128 - n.toNat ≤ j
    · have := congrArg (fun y => y.getLsbD (j - (128 - n).toNat)) h
      simp only [BitVec.getLsbD_ushiftRight, BitVec.getLsbD_zero] at this
      rw [show (128 - n).toNat + (j - (128 - n).toNat) = j by omega] at this
      rw [this, Bool.false_and]
    · simp [c]
theorem lead_mask (z : BitVec 128) (n : Int) (h0 : 0 ≤ n) (h1 : n ≤ 128) : n ≤ ((leadN z : Nat) : Int) ↔ z &&& maskW n = 0#128 := by
  rw [mask_zero z n h0 h1]
  have := lead_wide z (128 - n) (by omega) (by omega)
  constructor
  · intro h
    apply Classical.byContradiction
    intro c
    have := this.mpr c
    omega
  · intro h
    apply Classical.byContradiction
    intro c
    exact this.mp (by omega) h
theorem xor_mask (x y m : BitVec 128) : (x ^^^ y) &&& m = 0#128 ↔ x &&& m = y &&& m := by
  have e : (x ^^^ y) &&& m = (x &&& m) ^^^ (y &&& m) := by
    apply BitVec.eq_of_getLsbD_eq
    intro j hj
    simp only [BitVec.getLsbD_and, BitVec.getLsbD_xor]
    cases x.getLsbD j <;> cases y.getLsbD j <;> cases m.getLsbD j <;> rfl
  rw [e]
  constructor
  · intro h
    have := congrArg (fun z => z ^^^ (y &&& m)) h
    simpa [BitVec.xor_assoc] using this
  · intro h
    rw [h, BitVec.xor_self]
theorem has_eq (x : BitVec 128) (n : Int) (y : BitVec 128) (h0 : 0 ≤ n) (h1 : n ≤ 128) (hx : cutW x n = x) : rhasB x n y = (cutW y n == x) := by
  unfold rhasB
  rw [Bool.eq_iff_iff, decide_eq_true_iff, beq_iff_eq, lead_mask _ n h0 h1, xor_mask]
  unfold cutW at *
  rw [hx]
  exact ⟨fun h => h.symm, fun h => h.symm⟩
theorem within_eq (x : BitVec 128) (n : Int) (y : BitVec 128) (m : Int) (h0 : 0 ≤ m) (h1 : m ≤ 128) (hy : cutW y m = y) : rwithinB x n y m = withinB x n y m := by
  unfold rwithinB withinB
  rw [has_eq y m x h0 h1 hy]
theorem mask_sub (n m : Int) (h0 : 0 ≤ n) (h : n ≤ m) : maskW n &&& maskW m = maskW n := by
  apply BitVec.eq_of_getLsbD_eq
  intro j hj
  rw [BitVec.getLsbD_and, maskW_bit n j hj, maskW_bit m j hj]
  by_cases c : 128 - n.toNat ≤ j
  · have : 128 - m.toNat ≤ j := by omega
    simp [c, this]
  · simp [c]
theorem last_eq (F : Int) (x : BitVec 128) (n : Int) (h0 : 0 ≤ n) (h : n ≤ F) : rlastW F x n = lastW F x n := by
  unfold rlastW lastW
  congr 1
  apply BitVec.eq_of_getLsbD_eq
  intro j hj
  rw [BitVec.getLsbD_and, BitVec.getLsbD_xor, BitVec.getLsbD_not, maskW_bit n j hj, maskW_bit F j hj]
  by_cases c : 128 - n.toNat ≤ j
  · have : 128 - F.toNat ≤ j := by omega
    simp [c, this]
  · simp [c, hj]
theorem cut_cut (x : BitVec 128) (n m : Int) (h0 : 0 ≤ n) (h : n ≤ m) : cutW (cutW x m) n = cutW x n := by
  unfold cutW
  rw [BitVec.and_assoc, BitVec.and_comm (maskW m), mask_sub n m h0 h]
theorem cut_cut2 (x : BitVec 128) (n m : Int) (h0 : 0 ≤ n) (h : n ≤ m) : cutW (cutW x n) m = cutW x n := by
  unfold cutW
  rw [BitVec.and_assoc, mask_sub n m h0 h]
/-- A right prefix of a family. -/
def Rt (F : Int) (x : BitVec 128) (n : Int) : Prop := 0 ≤ n ∧ n ≤ F ∧ cutW x n = x
theorem some_rt (F : Int) (x : BitVec 128) (n : Int) (h : 0 ≤ F) : Rt F (someW F x n) (n % (F + 1)) := by
  have a := Int.emod_nonneg n (b := F + 1) (by omega)
  have b := Int.emod_lt_of_pos n (b := F + 1) (by omega)
  refine ⟨a, by omega, ?_⟩
  unfold someW
  exact maskW_idem _ _
end Go.Proofs.YthichmlcfoafpaaDoor
/-
  Plain facts on the order of prefixes, and on what lies within what.
-/
namespace Go.Proofs.YthichmlcfoafpaaDoor
open Go.RowKit
set_option linter.unusedSimpArgs false
set_option linter.unusedVariables false

theorem cut_shift (x : BitVec 128) (n : Int) : cutW x n = (x >>> (128 - n.toNat)) <<< (128 - n.toNat) := by
  apply BitVec.eq_of_getLsbD_eq
  intro j hj
  unfold cutW
  rw [BitVec.getLsbD_and, maskW_bit n j hj, BitVec.getLsbD_shiftLeft, BitVec.getLsbD_ushiftRight]
  by_cases c : 128 - n.toNat ≤ j
  · have e : 128 - n.toNat + (j - (128 - n.toNat)) = j := by omega
    have d : ¬ j < 128 - n.toNat := by omega
    simp [c, d, hj, e]
  · have d : j < 128 - n.toNat := by omega
    simp [c, d]
theorem cut_nat (x : BitVec 128) (n : Int) : (cutW x n).toNat = x.toNat / 2 ^ (128 - n.toNat) * 2 ^ (128 - n.toNat) := by
  rw [cut_shift, BitVec.toNat_shiftLeft, BitVec.toNat_ushiftRight, Nat.shiftLeft_eq, Nat.shiftRight_eq_div_pow]
  apply Nat.mod_eq_of_lt
  exact Nat.lt_of_le_of_lt (Nat.div_mul_le_self _ _) x.isLt
theorem cut_mono (x y : BitVec 128) (n : Int) (h : x.toNat ≤ y.toNat) : (cutW x n).toNat ≤ (cutW y n).toNat := by
  rw [cut_nat, cut_nat]
  exact Nat.mul_le_mul_right _ (Nat.div_le_div_right h)
theorem cmpZ_ways (x y : BitVec 128) : (x.toNat < y.toNat ∧ cmpZ x y = -1) ∨ (x = y ∧ cmpZ x y = 0) ∨ (y.toNat < x.toNat ∧ cmpZ x y = 1) := by
  unfold cmpZ
  by_cases h : x.toNat < y.toNat
  · left; rw [if_pos h]; exact ⟨h, rfl⟩
  · rw [if_neg h]
    by_cases e : x = y
    · right; left; rw [if_pos e]; exact ⟨e, rfl⟩
    · right; right; rw [if_neg e]
      have : ¬ x.toNat = y.toNat := fun q => e (BitVec.eq_of_toNat_eq q)
      exact ⟨by omega, rfl⟩
/-- The order, as plain words. -/
theorem pcmp_ways (x : BitVec 128) (n : Int) (y : BitVec 128) (m : Int) :
    ((x.toNat < y.toNat ∨ (x = y ∧ n < m)) ∧ pcmpZ x n y m = -1) ∨ ((x = y ∧ n = m) ∧ pcmpZ x n y m = 0) ∨ ((y.toNat < x.toNat ∨ (x = y ∧ m < n)) ∧ pcmpZ x n y m = 1) := by
  unfold pcmpZ
  rcases cmpZ_ways x y with ⟨h, e⟩ | ⟨h, e⟩ | ⟨h, e⟩
  · left; rw [e, if_neg (by decide)]; exact ⟨Or.inl h, rfl⟩
  · rw [e, if_pos rfl]
    unfold cmpI
    by_cases h1 : n < m
    · left; rw [if_pos h1]; exact ⟨Or.inr ⟨h, h1⟩, rfl⟩
    · rw [if_neg h1]
      by_cases h2 : m < n
      · right; right; rw [if_pos h2]; exact ⟨Or.inr ⟨h, h2⟩, rfl⟩
      · right; left; rw [if_neg h2]; exact ⟨⟨h, by omega⟩, rfl⟩
  · right; right; rw [e, if_neg (by decide)]; exact ⟨Or.inl h, rfl⟩
theorem pcmp_neg (x : BitVec 128) (n : Int) (y : BitVec 128) (m : Int) : pcmpZ y m x n = - pcmpZ x n y m := by
  rcases pcmp_ways x n y m with ⟨h, e⟩ | ⟨h, e⟩ | ⟨h, e⟩ <;> rcases pcmp_ways y m x n with ⟨g, f⟩ | ⟨g, f⟩ | ⟨g, f⟩ <;> rw [e, f] <;> (try rfl) <;> exfalso
  · rcases h with h | ⟨rfl, h⟩ <;> rcases g with g | ⟨g1, g⟩ <;> (try subst g1) <;> omega
  · obtain ⟨rfl, rfl⟩ := g; rcases h with h | ⟨_, h⟩ <;> omega
  · obtain ⟨rfl, rfl⟩ := h; rcases g with g | ⟨_, g⟩ <;> omega
  · obtain ⟨rfl, rfl⟩ := h; rcases g with g | ⟨_, g⟩ <;> omega
  · obtain ⟨rfl, rfl⟩ := g; rcases h with h | ⟨_, h⟩ <;> omega
  · rcases h with h | ⟨rfl, h⟩ <;> rcases g with g | ⟨g1, g⟩ <;> (try subst g1) <;> omega
theorem pcmp_le (x : BitVec 128) (n : Int) (y : BitVec 128) (m : Int) : pcmpZ x n y m ≤ 0 ↔ (x.toNat < y.toNat ∨ (x = y ∧ n ≤ m)) := by
  rcases pcmp_ways x n y m with ⟨h, e⟩ | ⟨h, e⟩ | ⟨h, e⟩ <;> rw [e]
  · refine ⟨fun _ => ?_, fun _ => by decide⟩
    rcases h with h | ⟨rfl, h⟩
    · exact Or.inl h
    · exact Or.inr ⟨rfl, by omega⟩
  · refine ⟨fun _ => Or.inr ⟨h.1, by omega⟩, fun _ => by decide⟩
  · refine ⟨fun q => absurd q (by decide), fun q => ?_⟩
    exfalso
    rcases h with h | ⟨rfl, h⟩ <;> rcases q with q | ⟨q1, q⟩ <;> (try subst q1) <;> omega
theorem pcmp_eq0 (x : BitVec 128) (n : Int) (y : BitVec 128) (m : Int) : pcmpZ x n y m = 0 ↔ (x = y ∧ n = m) := by
  rcases pcmp_ways x n y m with ⟨h, e⟩ | ⟨h, e⟩ | ⟨h, e⟩ <;> rw [e]
  · refine ⟨fun q => absurd q (by decide), fun q => ?_⟩
    obtain ⟨rfl, rfl⟩ := q; rcases h with h | ⟨_, h⟩ <;> omega
  · exact ⟨fun _ => h, fun _ => rfl⟩
  · refine ⟨fun q => absurd q (by decide), fun q => ?_⟩
    obtain ⟨rfl, rfl⟩ := q; rcases h with h | ⟨_, h⟩ <;> omega
theorem pcmp_trans (x : BitVec 128) (n : Int) (y : BitVec 128) (m : Int) (z : BitVec 128) (k : Int) (h1 : pcmpZ x n y m ≤ 0) (h2 : pcmpZ y m z k ≤ 0) : ¬ 0 < pcmpZ x n z k := by
  rw [pcmp_le] at h1 h2
  have : pcmpZ x n z k ≤ 0 := by
    rw [pcmp_le]
    rcases h1 with h1 | ⟨rfl, h1⟩ <;> rcases h2 with h2 | ⟨h3, h2⟩ <;> (try subst h3)
    · left; omega
    · left; exact h1
    · left; exact h2
    · right; exact ⟨rfl, by omega⟩
  omega
theorem within_iff (x : BitVec 128) (n : Int) (y : BitVec 128) (m : Int) : withinB x n y m = true ↔ (m ≤ n ∧ cutW x m = y) := by
  unfold withinB
  simp
/-- What stands between a prefix and what lies within it lies within it. -/
theorem between (F : Int) (x : BitVec 128) (n : Int) (y : BitVec 128) (m : Int) (z : BitVec 128) (k : Int) (hx : Rt F x n) (hy : Rt F y m) (h1 : pcmpZ x n y m ≤ 0) (h2 : pcmpZ y m z k ≤ 0) (h3 : withinB z k x n = true) : withinB y m x n = true := by
  rw [within_iff] at h3 ⊢
  rw [pcmp_le] at h1 h2
  obtain ⟨h3, h4⟩ := h3
  have hxy : x.toNat ≤ y.toNat := by rcases h1 with h | ⟨rfl, _⟩ <;> omega
  have hyz : y.toNat ≤ z.toNat := by rcases h2 with h | ⟨rfl, _⟩ <;> omega
  have c1 := cut_mono x y n hxy
  have c2 := cut_mono y z n hyz
  rw [hx.2.2] at c1
  rw [h4] at c2
  have hc : cutW y n = x := BitVec.eq_of_toNat_eq (by omega)
  refine ⟨?_, hc⟩
  apply Classical.byContradiction
  intro q
  have := cut_cut2 y m n hy.1 (by omega)
  rw [hy.2.2, hc] at this
  rcases h1 with h | ⟨_, h⟩
  · rw [this] at h; omega
  · omega
theorem meetN_le (x : BitVec 128) (n : Int) (y : BitVec 128) (m : Int) : meetN x n y m ≤ n ∧ meetN x n y m ≤ m ∧ meetN x n y m ≤ ((leadN (x ^^^ y) : Nat) : Int) := by
  unfold meetN; omega
theorem meetN_nn (x : BitVec 128) (n : Int) (y : BitVec 128) (m : Int) (h : 0 ≤ n) (g : 0 ≤ m) : 0 ≤ meetN x n y m := by
  unfold meetN; omega
theorem meetN_comm (x : BitVec 128) (n : Int) (y : BitVec 128) (m : Int) : meetN y m x n = meetN x n y m := by
  unfold meetN
  rw [BitVec.xor_comm]
  omega
theorem meet_cut (x : BitVec 128) (n : Int) (y : BitVec 128) (m : Int) (h : 0 ≤ n) (g : 0 ≤ m) (hn : n ≤ 128) : cutW y (meetN x n y m) = cutW x (meetN x n y m) := by
  have := (lead_mask (x ^^^ y) (meetN x n y m) (meetN_nn x n y m h g) (by have := meetN_le x n y m; omega)).mp (meetN_le x n y m).2.2
  exact ((xor_mask x y _).mp this).symm
theorem meet_in (x : BitVec 128) (n : Int) (y : BitVec 128) (m : Int) (h : 0 ≤ n) (g : 0 ≤ m) (hn : n ≤ 128) :
    withinB x n (cutW x (meetN x n y m)) (meetN x n y m) = true ∧ withinB y m (cutW x (meetN x n y m)) (meetN x n y m) = true := by
  rw [within_iff, within_iff]
  exact ⟨⟨(meetN_le x n y m).1, rfl⟩, (meetN_le x n y m).2.1, meet_cut x n y m h g hn⟩
theorem meet_is (x : BitVec 128) (n : Int) (y : BitVec 128) (m : Int) (h : 0 ≤ n) (hn : n ≤ 128) (hx : cutW x n = x) :
    (cutW x (meetN x n y m) = x ∧ meetN x n y m = n) ↔ withinB y m x n = true := by
  rw [within_iff]
  have hl := lead_mask (x ^^^ y) n h hn
  rw [xor_mask] at hl
  constructor
  · rintro ⟨-, e⟩
    have := meetN_le x n y m
    refine ⟨by omega, ?_⟩
    have := hl.mp (by omega)
    unfold cutW at hx ⊢
    rw [← this, hx]
  · rintro ⟨h1, h2⟩
    have : n ≤ ((leadN (x ^^^ y) : Nat) : Int) := hl.mpr (by unfold cutW at hx h2; rw [hx, h2])
    have e : meetN x n y m = n := by unfold meetN; omega
    rw [e]
    exact ⟨hx, rfl⟩
theorem meet_above (x : BitVec 128) (n : Int) (y : BitVec 128) (m : Int) (z : BitVec 128) (k : Int) (hk : 0 ≤ k) (hn : n ≤ 128) (h1 : withinB x n z k = true) (h2 : withinB y m z k = true) : withinB (cutW x (meetN x n y m)) (meetN x n y m) z k = true := by
  rw [within_iff] at *
  have : k ≤ ((leadN (x ^^^ y) : Nat) : Int) := (lead_mask (x ^^^ y) k hk (by omega)).mpr ((xor_mask x y _).mpr (by
    have e1 := h1.2; have e2 := h2.2
    unfold cutW at e1 e2
    rw [e1, e2]))
  have hm : k ≤ meetN x n y m := by unfold meetN; omega
  exact ⟨hm, by rw [cut_cut x k _ hk hm]; exact h1.2⟩
end Go.Proofs.YthichmlcfoafpaaDoor
/-
  Plain facts: two prefixes are apart, or one lies within the other; what has an address lies between the ends.
-/
namespace Go.Proofs.YthichmlcfoafpaaDoor
open Go.RowKit
set_option linter.unusedSimpArgs false
set_option linter.unusedVariables false

theorem last_bit (F : Int) (x : BitVec 128) (n : Int) (j : Nat) (hj : j < 128) : (lastW F x n).getLsbD j = (x.getLsbD j || (xor (decide (128 - F.toNat ≤ j)) (decide (128 - n.toNat ≤ j)))) := by
  unfold lastW
  rw [BitVec.getLsbD_or, BitVec.getLsbD_xor, maskW_bit F j hj, maskW_bit n j hj]
theorem cut_bit (x : BitVec 128) (n : Int) (j : Nat) (hj : j < 128) : (cutW x n).getLsbD j = (x.getLsbD j && decide (128 - n.toNat ≤ j)) := by
  unfold cutW
  rw [BitVec.getLsbD_and, maskW_bit n j hj]
theorem last_cut (F : Int) (x : BitVec 128) (n : Int) (h : Rt F x n) : cutW (lastW F x n) n = x := by
  apply BitVec.eq_of_getLsbD_eq
  intro j hj
  have hx := congrArg (fun z => z.getLsbD j) h.2.2
  simp only [cut_bit x n j hj] at hx
  rw [cut_bit _ n j hj, last_bit F x n j hj]
  have h1 := h.1; have h2 := h.2.1
  by_cases c : 128 - n.toNat ≤ j
  · have d : 128 - F.toNat ≤ j := by omega
    simp [c, d]
  · simp [c] at hx ⊢
    exact hx
theorem last_fam (F : Int) (x : BitVec 128) (n : Int) (h : Rt F x n) : cutW (lastW F x n) F = lastW F x n := by
  apply BitVec.eq_of_getLsbD_eq
  intro j hj
  have hx := congrArg (fun z => z.getLsbD j) h.2.2
  simp only [cut_bit x n j hj] at hx
  rw [cut_bit _ F j hj, last_bit F x n j hj]
  have h1 := h.1; have h2 := h.2.1
  by_cases d : 128 - F.toNat ≤ j
  · simp [d]
  · have c : ¬ 128 - n.toNat ≤ j := by omega
    simp [c] at hx
    simp [c, d, hx]
theorem cut_le (x : BitVec 128) (n : Int) : (cutW x n).toNat ≤ x.toNat := by
  rw [cut_nat]; exact Nat.div_mul_le_self _ _
theorem le_last (F : Int) (x : BitVec 128) (n : Int) (h : Rt F x n) (c : BitVec 128) (hc : cutW c F = c) (hx : cutW c n = x) : c.toNat ≤ (lastW F x n).toNat := by
  have e : c &&& lastW F x n = c := by
    apply BitVec.eq_of_getLsbD_eq
    intro j hj
    have e1 := congrArg (fun z => z.getLsbD j) hc
    have e2 := congrArg (fun z => z.getLsbD j) hx
    simp only [cut_bit c F j hj, cut_bit c n j hj] at e1 e2
    rw [BitVec.getLsbD_and, last_bit F x n j hj]
    by_cases a : 128 - n.toNat ≤ j
    · simp [a] at e2
      rw [e2]
      cases x.getLsbD j <;> simp
    · by_cases b : 128 - F.toNat ≤ j
      · simp [a, b]
      · simp [b] at e1
        rw [e1]; simp
  rw [← e, BitVec.toNat_and]
  exact Nat.and_le_right
theorem has_ends (F : Int) (x : BitVec 128) (n : Int) (h : Rt F x n) (c : BitVec 128) (hc : cutW c F = c) : cutW c n = x ↔ (x.toNat ≤ c.toNat ∧ c.toNat ≤ (lastW F x n).toNat) := by
  constructor
  · intro e
    exact ⟨by rw [← e]; exact cut_le c n, le_last F x n h c hc e⟩
  · rintro ⟨h1, h2⟩
    have a := cut_mono x c n h1
    have b := cut_mono c _ n h2
    rw [h.2.2] at a
    rw [last_cut F x n h] at b
    exact BitVec.eq_of_toNat_eq (by omega)
theorem cmp_le (x y : BitVec 128) : cmpZ x y ≤ 0 ↔ x.toNat ≤ y.toNat := by
  rcases cmpZ_ways x y with ⟨h, e⟩ | ⟨h, e⟩ | ⟨h, e⟩ <;> rw [e]
  · exact ⟨fun _ => by omega, fun _ => by decide⟩
  · exact ⟨fun _ => by rw [h]; omega, fun _ => by decide⟩
  · exact ⟨fun q => absurd q (by decide), fun q => by omega⟩
theorem cmp_lt0 (x y : BitVec 128) : cmpZ x y < 0 ↔ x.toNat < y.toNat := by
  rcases cmpZ_ways x y with ⟨h, e⟩ | ⟨h, e⟩ | ⟨h, e⟩ <;> rw [e]
  · exact ⟨fun _ => h, fun _ => by decide⟩
  · exact ⟨fun q => absurd q (by decide), fun q => by rw [h] at q; omega⟩
  · exact ⟨fun q => absurd q (by decide), fun q => by omega⟩
theorem rt_fam (F : Int) (x : BitVec 128) (n : Int) (h : Rt F x n) : cutW x F = x := by
  have := cut_cut2 x n F h.1 h.2.1
  rwa [h.2.2] at this
/-- If one ends ahead of the other, neither lies within the other. -/
theorem ahead_no (F : Int) (x : BitVec 128) (n : Int) (y : BitVec 128) (m : Int) (hx : Rt F x n) (hy : Rt F y m) (h : (lastW F x n).toNat < y.toNat) : withinB x n y m = false ∧ withinB y m x n = false := by
  constructor
  · cases q : withinB x n y m
    · rfl
    · rw [within_iff] at q
      have a := cut_le x m
      rw [q.2] at a
      have b := (has_ends F x n hx x (rt_fam F x n hx)).mp hx.2.2
      omega
  · cases q : withinB y m x n
    · rfl
    · rw [within_iff] at q
      have b := (has_ends F x n hx y (rt_fam F y m hy)).mp q.2
      omega
theorem apart_of (F : Int) (x : BitVec 128) (n : Int) (y : BitVec 128) (m : Int) (hx : Rt F x n) (hy : Rt F y m) (hnm : n ≤ m) (h : withinB y m x n = false) : (lastW F x n).toNat < y.toNat ∨ (lastW F y m).toNat < x.toNat := by
  have hc : ¬ cutW y n = x := by
    intro e
    have := (within_iff y m x n).mpr ⟨hnm, e⟩
    rw [h] at this; cases this
  rcases Nat.lt_or_ge (cutW y n).toNat x.toNat with q | q
  · right
    apply Classical.byContradiction
    intro c
    have a := cut_mono x (lastW F y m) n (by omega)
    rw [hx.2.2, ← cut_cut (lastW F y m) n m hx.1 hnm, last_cut F y m hy] at a
    omega
  · left
    apply Classical.byContradiction
    intro c
    have a := cut_mono y (lastW F x n) n (by omega)
    rw [last_cut F x n hx] at a
    exact hc (BitVec.eq_of_toNat_eq (by omega))
theorem apart_iff (F : Int) (x : BitVec 128) (n : Int) (y : BitVec 128) (m : Int) (hx : Rt F x n) (hy : Rt F y m) :
    ((lastW F x n).toNat < y.toNat ∨ (lastW F y m).toNat < x.toNat) ↔ (withinB x n y m = false ∧ withinB y m x n = false) := by
  constructor
  · rintro (h | h)
    · exact ahead_no F x n y m hx hy h
    · exact (ahead_no F y m x n hy hx h).symm
  · rintro ⟨h1, h2⟩
    by_cases c : n ≤ m
    · exact apart_of F x n y m hx hy c h2
    · exact (apart_of F y m x n hy hx (by omega) h1).symm
theorem both_eq (F : Int) (x : BitVec 128) (n : Int) (y : BitVec 128) (m : Int) (hx : Rt F x n) (hy : Rt F y m) : (withinB x n y m && withinB y m x n) = ((x == y) && (n == m)) := by
  rw [Bool.eq_iff_iff]
  simp only [Bool.and_eq_true, within_iff, beq_iff_eq]
  constructor
  · rintro ⟨⟨a, b⟩, c, d⟩
    have e : n = m := by omega
    subst e
    exact ⟨by rw [← d, hy.2.2], rfl⟩
  · rintro ⟨rfl, rfl⟩
    exact ⟨⟨Int.le_refl _, hx.2.2⟩, Int.le_refl _, hx.2.2⟩
theorem within_ends (F : Int) (x : BitVec 128) (n : Int) (y : BitVec 128) (m : Int) (hx : Rt F x n) (hy : Rt F y m) (h : withinB x n y m = true) : ¬ 0 < cmpZ y x ∧ ¬ 0 < cmpZ (lastW F x n) (lastW F y m) := by
  rw [within_iff] at h
  have a : cmpZ y x ≤ 0 := (cmp_le y x).mpr (by rw [← h.2]; exact cut_le x m)
  have hl : cutW (lastW F x n) m = y := by rw [← cut_cut (lastW F x n) m n hy.1 h.1, last_cut F x n hx, h.2]
  have b : cmpZ (lastW F x n) (lastW F y m) ≤ 0 := (cmp_le _ _).mpr (le_last F y m hy _ (last_fam F x n hx) hl)
  exact ⟨by omega, by omega⟩
theorem within_has (F : Int) (x : BitVec 128) (n : Int) (y : BitVec 128) (m : Int) (c : BitVec 128) (hy : Rt F y m) (h : withinB x n y m = true) (hc : (cutW c n == x) = true) : (cutW c m == y) = true := by
  rw [within_iff] at h
  have e : cutW c n = x := by simpa using hc
  have := cut_cut c m n hy.1 h.1
  rw [e, h.2] at this
  simp [← this]
end Go.Proofs.YthichmlcfoafpaaDoor
/-
  Whole prefixes and words, compared: one answer, without parting the ways.
-/
namespace Go.Proofs.YthichmlcfoafpaaDoor
open Go.RowKit
set_option linter.unusedSimpArgs false
set_option linter.unusedVariables false

theorem eqP_run (x : BitVec 128) (n : Int) (y : BitVec 128) (m : Int) (w : World) :
    (Op.equalIn 10000 27 (.agg #[.int .u64 (hI x), .int .u64 (lI x), .int .i64 n]) (.agg #[.int .u64 (hI y), .int .u64 (lI y), .int .i64 m])).run Tryd.prog w = .ok ((x == y) && (n == m)) w := by
  rcases eqw x y with ⟨q1, q2, q3⟩ | ⟨q1, q3⟩ | ⟨q1, q2, q3⟩
  all_goals
    rw [q3]
    go_simp
    try simp [*]
    try (by_cases e : n = m <;> simp [e])
theorem eqW_run (x y : BitVec 128) (w : World) :
    (Op.equalIn 10000 24 (.agg #[.int .u64 (hI x), .int .u64 (lI x)]) (.agg #[.int .u64 (hI y), .int .u64 (lI y)])).run Tryd.prog w = .ok (x == y) w := by
  rcases eqw x y with ⟨q1, q2, q3⟩ | ⟨q1, q3⟩ | ⟨q1, q2, q3⟩
  all_goals
    rw [q3]
    go_simp
    try simp [*]
end Go.Proofs.YthichmlcfoafpaaDoor
/-
  What the calls of the methods of package addr's found do.
-/
namespace Go.Proofs.YthichmlcfoafpaaDoor
open Go.RowKit
set_option linter.unusedSimpArgs false
set_option linter.unusedVariables false

/-- The struct at block B: its list reads as f, its count as c, its gap as p, and all of it may be written. -/
def Fnd (w : World) (B : Nat) (f : Nat → Int) (c : Nat) (p : Int) : Prop :=
  (∀ i, i < 8 → w.cell? ⟨B, i, none⟩ = some (.int .u64 (f i)) ∧ w.frozen? ⟨B, i, none⟩ = false) ∧ w.cell? ⟨B, 8, none⟩ = some (.int .i64 c) ∧ w.frozen? ⟨B, 8, none⟩ = false ∧ w.cell? ⟨B, 9, none⟩ = some (.int .i64 p) ∧ w.frozen? ⟨B, 9, none⟩ = false ∧ B < w.heap.size
def upd (f : Nat → Int) (c : Nat) (v : Int) : Nat → Int := fun i => if i = c then v else f i
theorem Fnd.below {w w' : World} {B : Nat} {f : Nat → Int} {c : Nat} {p : Int} (h : Fnd w B f c p) (hb : Below w.heap.size w w') : Fnd w' B f c p := by
  obtain ⟨h1, h2, h3, h4, h5, h6⟩ := h
  exact ⟨fun i hi => ⟨keepc hb (h1 i hi).1, keepf hb (h1 i hi).1 (h1 i hi).2⟩, keepc hb h2, keepf hb h2 h3, keepc hb h4, keepf hb h4 h5, Nat.lt_of_lt_of_le h6 hb.size⟩

/-- All blocks but one are as they were. -/
def Only (B : Nat) (w w' : World) : Prop := w'.heap.size = w.heap.size ∧ ∀ C o, ¬ C = B → w'.cell? ⟨C, o, none⟩ = w.cell? ⟨C, o, none⟩ ∧ w'.frozen? ⟨C, o, none⟩ = w.frozen? ⟨C, o, none⟩
theorem At.only {w w' : World} {B C : Nat} {x : BitVec 128} (h : At w C x) (ho : Only B w w') (hn : ¬ C = B) : At w' C x := by
  obtain ⟨h0, h1, h2, h3, h4⟩ := h
  exact ⟨by rw [(ho.2 C 0 hn).1]; exact h0, by rw [(ho.2 C 1 hn).1]; exact h1, by rw [(ho.2 C 0 hn).2]; exact h2, by rw [(ho.2 C 1 hn).2]; exact h3, by rw [ho.1]; exact h4⟩

set_option maxHeartbeats 2000000 in
theorem fadd_any (B : Nat) (f : Nat → Int) (c : Nat) (p v : Int) (w : World) (hF : Fnd w B f c p) (hc : c ≤ 7) :
    Calls Tryd.prog 96 #[.pointer (some ⟨B, 0, none⟩), .int .u64 v] w fun e w' => e = .returned (.bool true) ∧ Fnd w' B (upd f c v) (c + 1) p ∧ Below B w w' ∧ Only B w w' := by
  obtain ⟨h1, h2, h3, h4, h5, h6⟩ := hF
  have hc8 : ¬ (c : Int) = 8 := by omega
  have hcb : ((c : Int) == 8) = false := by simp; omega
  have hcl : (c : Int) < 8 := by omega
  have ⟨k1, k2⟩ := h1 c (by omega)
  have n8 : ¬ c = 8 := by omega
  have n9 : ¬ c = 9 := by omega
  have e8 : (w.setCell ⟨B, c, none⟩ (.int .u64 v)).cell? ⟨B, 8, none⟩ = some (.int .i64 c) := by simp [go_sem, *]
  have f8 : (w.setCell ⟨B, c, none⟩ (.int .u64 v)).frozen? ⟨B, 8, none⟩ = false := by simp [go_sem, *]
  have hF' : Fnd (((w.setCell ⟨B, c, none⟩ (.int .u64 v)).setCell ⟨B, 8, none⟩ (.int .i64 ((c : Int) + 1))).drew) B (upd f c v) (c + 1) p := by
    refine ⟨fun i hi => ?_, ?_, ?_, ?_, ?_, ?_⟩
    · have n : ¬ i = 8 := by omega
      have n' : ¬ 8 = i := by omega
      obtain ⟨q1, q2⟩ := h1 i hi
      by_cases hic : i = c
      · subst hic
        simp [go_sem, upd, *]
      · have hci : ¬ c = i := fun e => hic e.symm
        simp [go_sem, upd, *]
    all_goals simp [go_sem, *]
  have hB' : Below B w (((w.setCell ⟨B, c, none⟩ (.int .u64 v)).setCell ⟨B, 8, none⟩ (.int .i64 ((c : Int) + 1))).drew) := (((Below.refl B w).setCell (p := ⟨B, c, none⟩) (Nat.le_refl _) _).setCell (p := ⟨B, 8, none⟩) (Nat.le_refl _) _).drew
  have hO' : Only B w (((w.setCell ⟨B, c, none⟩ (.int .u64 v)).setCell ⟨B, 8, none⟩ (.int .i64 ((c : Int) + 1))).drew) := by
    refine ⟨by simp, fun C o hn => ?_⟩
    have hn' : ¬ B = C := fun e => hn e.symm
    simp [go_sem, hn, hn']
  clear h1
  go_enter Tryd.func96, Tryd.ntmps96
  go_wp2
  go_region
  go_wp2
  go_ret
  exact ⟨rfl, hF', hB', hO'⟩

theorem fadd_full (B : Nat) (f : Nat → Int) (p v : Int) (w : World) (hF : Fnd w B f 8 p) :
    Calls Tryd.prog 96 #[.pointer (some ⟨B, 0, none⟩), .int .u64 v] w fun e w' => e = .returned (.bool false) ∧ w' = w := by
  obtain ⟨h1, h2, h3, h4, h5, h6⟩ := hF
  have h2' : w.cell? ⟨B, 8, none⟩ = some (.int .i64 8) := h2
  clear h1 h2
  go_enter Tryd.func96, Tryd.ntmps96
  go_wp2
  go_ret
  exact ⟨rfl, rfl⟩

/-- Where the group k stands in the word. -/
def plc (c : Nat) (p : Int) (k : Nat) : Int := if ¬ p = -1 ∧ p ≤ k then (k : Int) + (8 - c) else k
def sixW (f : Nat → Int) (c : Nat) (p : Int) : Nat → BitVec 128
  | 0 => 0#128
  | k + 1 => layW (sixW f c p k) (plc c p k) 16 (f k)
def finV (f : Nat → Int) (c : Nat) (p : Int) : BitVec 128 := if (p = -1) = (c = 8) then sixW f c p c else 0#128
def finB (c : Nat) (p : Int) : Bool := decide ((p = -1) = (c = 8))

theorem Fnd.other {w : World} {B C : Nat} {f : Nat → Int} {c : Nat} {p : Int} (h : Fnd w B f c p) (hn : ¬ C = B) (u v : Value) : Fnd ((w.setCell ⟨C, 0, none⟩ u).setCell ⟨C, 1, none⟩ v) B f c p := by
  obtain ⟨h1, h2, h3, h4, h5, h6⟩ := h
  have hn' : ¬ B = C := fun e => hn e.symm
  refine ⟨fun i hi => ?_, ?_, ?_, ?_, ?_, ?_⟩
  · obtain ⟨q1, q2⟩ := h1 i hi
    simp [go_sem, *]
  all_goals simp [go_sem, *]

set_option maxHeartbeats 2000000 in
theorem fword_any (B : Nat) (f : Nat → Int) (c : Nat) (p : Int) (w : World) (hF : Fnd w B f c p) (hc : c ≤ 8) (hp : -1 ≤ p) (hp2 : p ≤ 8) (hf : ∀ i, 0 ≤ f i ∧ f i ≤ 65535) :
    Calls Tryd.prog 97 #[.pointer (some ⟨B, 0, none⟩)] w fun e w' => e = .returned (.tuple #[.agg #[.int .u64 (hI (finV f c p)), .int .u64 (lI (finV f c p))], .bool (finB c p)]) ∧ Below w.heap.size w w' := by
  have hF' := hF
  obtain ⟨h1, h2, h3, h4, h5, h6⟩ := hF
  have d0 : ¬ w.heap.size = B := by omega
  by_cases hq : (p = -1) = (c = 8)
  · have HF : Hid (finV f c p = sixW f c p c ∧ finB c p = true) := by
      show _ ∧ _
      unfold finV finB; rw [if_pos hq]; exact ⟨rfl, by simp [hq]⟩
    have hq2 : ((p == -1) == ((c : Int) == 8)) = true := by
      by_cases hp1 : p = -1
      · have : c = 8 := by rw [← hq]; exact hp1
        subst this; subst hp1; rfl
      · have h8 : ¬ c = 8 := by rw [← hq]; exact hp1
        have e1 : (p == -1) = false := by simp [hp1]
        have e2 : ((c : Int) == 8) = false := by simp; omega
        rw [e1, e2]; rfl
    clear hq
    obtain ⟨b, hpb⟩ : ∃ b, (p == -1) = b := ⟨_, rfl⟩
    rw [hpb] at hq2
    have c0 : (0 : Int) ≤ (c : Int) := by omega
    have c8 : (c : Int) ≤ 8 := by omega
    go_enter Tryd.func97, Tryd.ntmps97
    go_wp2
    go_region
    go_wp2
    go_region
    go_wp2
    go_loopw [28] (fun q wr => ∃ k : Nat, k ≤ c ∧ q = .int .i64 k ∧ At wr (w.heap.size + 1) (sixW f c p k) ∧ At wr w.heap.size 0#128 ∧ Fnd wr B f c p ∧ Below w.heap.size w wr) (fun q _ => c - (intOf q).toNat)
    case atStart =>
      refine ⟨0, by omega, rfl, ?_, ?_, ?_, (bl2 w _ _).drew.drew⟩
      · show At _ _ 0#128
        refine ⟨?_, ?_, ?_, ?_, ?_⟩ <;> simp [go_sem, hI_zero, lI_zero]
      · refine ⟨?_, ?_, ?_, ?_, ?_⟩ <;> simp [go_sem, hI_zero, lI_zero]
      · exact hF'.below (bl2 w _ _).drew.drew
    case round =>
      obtain ⟨k, hk, rfl, hA, hZ, hG, hB⟩ := hrel
      clear h1 h2 h3 h4 h5 hF'
      obtain ⟨h1, h2, h3, h4, h5, h6'⟩ := id hG
      by_cases hlt : k < c
      · have hlt2 : (k : Int) < (c : Int) := by omega
        have hk8 : (k : Int) < 8 := by omega
        obtain ⟨l1, l2⟩ := h1 k (by omega)
        obtain ⟨f0, f1⟩ := hf k
        obtain ⟨a0, a1, a2, a3, a4⟩ := id hA
        have HW : Hid (sixW f c p (k + 1) = layW (sixW f c p k) (plc c p k) 16 (f k)) := rfl
        have hpl : 0 ≤ plc c p k ∧ plc c p k ≤ 16 := by unfold plc; split <;> omega
        have HPL : Hid (plc c p k = if ¬ p = -1 ∧ p ≤ k then (k : Int) + (8 - c) else k) := rfl
        have KP := fun w => aput_any (sixW f c p k) (plc c p k) 16 (f k) w f0 (by omega) hpl.1 hpl.2 (by omega) (by omega)
        generalize sixW f c p k = x at *
        generalize plc c p k = pl at *
        generalize f k = v at *
        clear h1 hf
        by_cases hp1 : p = -1
        · have hpk : pl = k := by rw [HPL.out, if_neg (by simp [hp1])]
          subst hpk
          have hne : (p != -1) = false := by simp [hp1]
          clear HPL hp1
          go_wp2_with fail
          refine (KP _).mono ?_
          rintro e w2 ⟨rfl, hb2⟩
          clear KP
          have hA2 := (hA.below hb2).set (layW x (k : Int) 16 v)
          have hZ2 := (hZ.below hb2).other (.int .u64 (hI (layW x (k : Int) 16 v))) (.int .u64 (lI (layW x (k : Int) 16 v))) (C := w.heap.size + 1) (by omega)
          have hG2 := (hG.below hb2).other (C := w.heap.size + 1) (by omega) (.int .u64 (hI (layW x (k : Int) 16 v))) (.int .u64 (lI (layW x (k : Int) 16 v)))
          have hB2 := bset2 (keepb hb2 hB) (C := w.heap.size + 1) (by omega) (.int .u64 (hI (layW x (k : Int) 16 v))) (.int .u64 (lI (layW x (k : Int) 16 v)))
          obtain ⟨b0, b1, b2, b3, b4⟩ := hA.below hb2
          clear hA hZ hB hG hb2 a0 a1 a2 a3 a4 h2 h3 h4 h5 l1 l2
          go_wp2
          go_roundw
          case rel => exact ⟨k + 1, by omega, by go_num, by rw [HW.out]; exact hA2, hZ2, hG2, hB2⟩
          case measure => simp [intOf]; omega
        · have hne : (p != -1) = true := by simp [hp1]
          by_cases hpk : p ≤ k
          · have hpk' : pl = (k : Int) + (8 - c) := by rw [HPL.out, if_pos ⟨hp1, hpk⟩]
            subst hpk'
            clear HPL hp1
            go_wp2_with fail
            refine (KP _).mono ?_
            rintro e w2 ⟨rfl, hb2⟩
            clear KP
            have hA2 := (hA.below hb2).set (layW x ((k : Int) + (8 - c)) 16 v)
            have hZ2 := (hZ.below hb2).other (.int .u64 (hI (layW x ((k : Int) + (8 - c)) 16 v))) (.int .u64 (lI (layW x ((k : Int) + (8 - c)) 16 v))) (C := w.heap.size + 1) (by omega)
            have hG2 := (hG.below hb2).other (C := w.heap.size + 1) (by omega) (.int .u64 (hI (layW x ((k : Int) + (8 - c)) 16 v))) (.int .u64 (lI (layW x ((k : Int) + (8 - c)) 16 v)))
            have hB2 := bset2 (keepb hb2 hB) (C := w.heap.size + 1) (by omega) (.int .u64 (hI (layW x ((k : Int) + (8 - c)) 16 v))) (.int .u64 (lI (layW x ((k : Int) + (8 - c)) 16 v)))
            obtain ⟨b0, b1, b2, b3, b4⟩ := hA.below hb2
            clear hA hZ hB hG hb2 a0 a1 a2 a3 a4 h2 h3 h4 h5 l1 l2
            go_wp2
            go_roundw
            case rel => exact ⟨k + 1, by omega, by go_num, by rw [HW.out]; exact hA2, hZ2, hG2, hB2⟩
            case measure => simp [intOf]; omega
          · have hpk' : pl = k := by rw [HPL.out, if_neg (by simp [hpk])]
            subst hpk'
            clear HPL hp1
            go_wp2_with fail
            refine (KP _).mono ?_
            rintro e w2 ⟨rfl, hb2⟩
            clear KP
            have hA2 := (hA.below hb2).set (layW x (k : Int) 16 v)
            have hZ2 := (hZ.below hb2).other (.int .u64 (hI (layW x (k : Int) 16 v))) (.int .u64 (lI (layW x (k : Int) 16 v))) (C := w.heap.size + 1) (by omega)
            have hG2 := (hG.below hb2).other (C := w.heap.size + 1) (by omega) (.int .u64 (hI (layW x (k : Int) 16 v))) (.int .u64 (lI (layW x (k : Int) 16 v)))
            have hB2 := bset2 (keepb hb2 hB) (C := w.heap.size + 1) (by omega) (.int .u64 (hI (layW x (k : Int) 16 v))) (.int .u64 (lI (layW x (k : Int) 16 v)))
            obtain ⟨b0, b1, b2, b3, b4⟩ := hA.below hb2
            clear hA hZ hB hG hb2 a0 a1 a2 a3 a4 h2 h3 h4 h5 l1 l2
            go_wp2
            go_roundw
            case rel => exact ⟨k + 1, by omega, by go_num, by rw [HW.out]; exact hA2, hZ2, hG2, hB2⟩
            case measure => simp [intOf]; omega
      · have hkc : k = c := by omega
        subst hkc
        obtain ⟨a0, a1, a2, a3, a4⟩ := hA
        obtain ⟨z0, z1, z2, z3, z4⟩ := hZ
        clear h1 hf hG
        go_wp2
        exact bodyPost_ret (v := .tuple #[.agg #[.int .u64 (hI (sixW f k p k)), .int .u64 (lI (sixW f k p k))], .bool true]) (by simp [results, Tryd.results97, go_sem, *]) rfl ⟨by rw [HF.out.1, HF.out.2], bset2 hB (Nat.le_refl _) _ _⟩
  · have HF : Hid (finV f c p = 0#128 ∧ finB c p = false) := by
      show _ ∧ _
      unfold finV finB; rw [if_neg hq]; exact ⟨rfl, by simp only [decide_eq_false_iff_not]; exact hq⟩
    have hq2 : ((p == -1) == ((c : Int) == 8)) = false := by
      by_cases hp1 : p = -1
      · have h8 : ¬ c = 8 := fun e => hq (by simp [hp1, e])
        have e1 : (p == -1) = true := by simp [hp1]
        have e2 : ((c : Int) == 8) = false := by simp; omega
        rw [e1, e2]; rfl
      · have h8 : c = 8 := by
          apply Classical.byContradiction; intro e; exact hq (by simp [hp1, e])
        have e1 : (p == -1) = false := by simp [hp1]
        have e2 : ((c : Int) == 8) = true := by simp; omega
        rw [e1, e2]; rfl
    clear hq h1 hf
    go_enter Tryd.func97, Tryd.ntmps97
    go_wp2
    go_region
    go_wp2
    exact bodyPost_ret (v := .tuple #[.agg #[.int .u64 0, .int .u64 0], .bool false]) (by simp [results, Tryd.results97, go_sem, *]) rfl ⟨by rw [HF.out.1, HF.out.2, hI_zero, lI_zero], (bl1 w _).drew⟩
end Go.Proofs.YthichmlcfoafpaaDoor
