/-
  Part 9 of the proof: 9 texts, one behind the other.
-/
import Derived.Test.YtdgmfdfhbhmppaaDoorPart6
import Derived.Lib.TrailingZeros
import Derived.Deep.QuietTactic
import Derived.BigQuiet
import Derived.Test.YtdgmfdfhbhmppaaDoorPart7
import Derived.Test.YtdgmfdfhbhmppaaDoorPart8
import Derived.Test.YtdgmfdfhbhmppaaDoorPart2
import Derived.Test.YtdgmfdfhbhmppaaDoorPart4
import Derived.Test.YtdgmfdfhbhmppaaDoorPart5
/-
  Plain numbers: the sum of a word's bits, place by place; the noughts behind the last bit that is set.
-/
namespace Go.Proofs.YtdgmfdfhbhmppaaDoor
open Go.RowKit
set_option linter.unusedSimpArgs false
set_option linter.unusedVariables false

def bs : Nat → Nat → Nat
  | 0, _ => 0
  | k + 1, x => bs k x + x / 2 ^ k % 2
theorem bs_add (m : Nat) (x : Nat) : ∀ k, bs (m + k) x = bs m x + bs k (x / 2 ^ m) := by
  intro k
  induction k with
  | zero => simp [bs]
  | succ k ih =>
    have e : x / 2 ^ (m + k) = x / 2 ^ m / 2 ^ k := by rw [Nat.pow_add, Nat.div_div_eq_div_mul]
    rw [← Nat.add_assoc]; simp only [bs]; rw [ih, e]; omega
theorem bs8 (x : Nat) : bs 8 x = ocB (x % 256) := by
  simp only [bs, ocB]; omega
theorem oc_bs (k : Nat) : ∀ x, oc k x = bs (8 * k) x := by
  induction k with
  | zero => intro x; rfl
  | succ k ih =>
    intro x
    have e : 8 * (k + 1) = 8 + 8 * k := by omega
    rw [e, bs_add, bs8]; simp only [oc]; rw [ih]
theorem bs_modn (n : Nat) : ∀ k x, k ≤ n → bs k (x % 2 ^ n) = bs k x := by
  intro k
  induction k with
  | zero => intro x _; rfl
  | succ k ih =>
    intro x h
    simp only [bs]; rw [ih x (by omega)]
    have : x % 2 ^ n / 2 ^ k % 2 = x / 2 ^ k % 2 := by
      have e : n = k + (n - k) := by omega
      rw [e, Nat.pow_add, Nat.mod_mul_right_div_self]
      have e2 : n - k = 1 + (n - k - 1) := by omega
      rw [e2, Nat.pow_add]
      exact Nat.mod_mul_right_mod _ _ _
    omega
theorem bs_mod (n : Nat) (x : Nat) : bs n (x % 2 ^ n) = bs n x := bs_modn n n x (Nat.le_refl _)
/-- The sum of the first k bits from the front. -/
def fs (x : BitVec 128) : Nat → Nat
  | 0 => 0
  | k + 1 => fs x k + (bitZ x (k : Int)).toNat
theorem bit_at (x : BitVec 128) (k : Nat) (h : k < 128) : (bitZ x (k : Int)).toNat = x.toNat / 2 ^ (127 - k) % 2 := by
  unfold bitZ
  rw [bitB_in x k (by omega) (by omega)]
  have e : (127 - (k : Int)).toNat = 127 - k := by omega
  rw [e]
  unfold BitVec.getLsbD; rw [Nat.testBit_eq_decide_div_mod_eq]
  by_cases c : x.toNat / 2 ^ (127 - k) % 2 = 1
  · simp [c]
  · simp [c]; omega
theorem fs_bs (x : BitVec 128) : ∀ k, k ≤ 128 → fs x k = bs k (x.toNat / 2 ^ (128 - k)) := by
  intro k
  induction k with
  | zero => intro _; rfl
  | succ k ih =>
    intro hk
    have e1 : 128 - k = (128 - (k + 1)) + 1 := by omega
    have e2 : 127 - k = 128 - (k + 1) := by omega
    have e3 : k + 1 = 1 + k := by omega
    simp only [fs]; rw [ih (by omega), bit_at x k (by omega), e2, e1, Nat.pow_succ, ← Nat.div_div_eq_div_mul]
    rw [e3, bs_add]
    simp [bs]; omega
theorem ones_fs (x : BitVec 128) : onesN x = fs x 128 := by
  rw [fs_bs x 128 (Nat.le_refl _)]
  unfold onesN
  rw [oc_bs, oc_bs, hvN, lvN]
  have e := bs_add 64 x.toNat 64
  have l : bs 64 (x.toNat % 18446744073709551616) = bs 64 x.toNat := by
    have := bs_mod 64 x.toNat
    exact this
  simp only [Nat.sub_self, Nat.pow_zero, Nat.div_one]
  show bs 64 (x.toNat / 18446744073709551616) + bs 64 (x.toNat % 18446744073709551616) = bs (64 + 64) x.toNat
  have p : (2 : Nat) ^ 64 = 18446744073709551616 := by decide
  rw [p] at e
  rw [e, l]; omega
/-- How many noughts stand last. -/
def trailN (x : BitVec 128) : Nat := Lib.ctz 128 x.toNat
theorem odd_uniq (a b : Nat) : ∀ k c, 2 ^ k * (2 * a + 1) = 2 ^ c * (2 * b + 1) → k = c := by
  intro k
  induction k with
  | zero =>
    intro c h
    cases c with
    | zero => rfl
    | succ c => rw [Nat.pow_succ, Nat.mul_comm (2 ^ c) 2, Nat.mul_assoc] at h; omega
  | succ k ih =>
    intro c h
    cases c with
    | zero => rw [Nat.pow_succ, Nat.mul_comm (2 ^ k) 2, Nat.mul_assoc] at h; omega
    | succ c =>
      rw [Nat.pow_succ, Nat.mul_comm (2 ^ k) 2, Nat.mul_assoc, Nat.pow_succ, Nat.mul_comm (2 ^ c) 2, Nat.mul_assoc] at h
      rw [ih c (by omega)]
theorem ctz_char (n x k : Nat) (hx : 0 < x) (hn : x < 2 ^ n) (h1 : x % 2 ^ k = 0) (h2 : x / 2 ^ k % 2 = 1) : Lib.ctz n x = k := by
  obtain ⟨m, hm, _⟩ := Lib.ctzFrom_spec n x hx hn
  have e : x = 2 ^ k * (2 * (x / 2 ^ k / 2) + 1) := by
    have h3 : 2 * (x / 2 ^ k / 2) + 1 = x / 2 ^ k := by omega
    rw [h3]
    have := Nat.div_add_mod x (2 ^ k)
    omega
  unfold Lib.ctz
  rw [if_neg (by omega)]
  exact odd_uniq m _ _ _ (hm.symm.trans e)
theorem trail_char (x : BitVec 128) (k : Nat) (hk : k ≤ 128) (h1 : x.toNat % 2 ^ k = 0) (h2 : k = 128 ∨ x.toNat / 2 ^ k % 2 = 1) : trailN x = k := by
  unfold trailN
  by_cases h0 : x.toNat = 0
  · rcases h2 with h2 | h2
    · unfold Lib.ctz; rw [if_pos h0, h2]
    · rw [h0] at h2; simp at h2
  · rcases h2 with h2 | h2
    · subst h2
      have := x.isLt
      rw [Nat.mod_eq_of_lt this] at h1; omega
    · exact ctz_char 128 x.toNat k (by omega) x.isLt h1 h2
theorem trail_step (x : BitVec 128) (k : Nat) (h1 : x.toNat % 2 ^ k = 0) (h2 : x.toNat / 2 ^ k % 2 = 0) : x.toNat % 2 ^ (k + 1) = 0 := by
  rw [Nat.pow_succ, Nat.mod_mul, h1, h2]; simp
theorem trail_lo (x : BitVec 128) (h : ¬ lI x = 0) : Lib.ctz 64 (lI x).toNat = trailN x := by
  have e : (lI x).toNat = x.toNat % 2 ^ 64 := by rw [lIN]; rfl
  have hp := lI_lo x
  have h0 : 0 < x.toNat % 2 ^ 64 := by omega
  obtain ⟨m, hm, hk⟩ := Lib.ctzFrom_spec 64 (x.toNat % 2 ^ 64) h0 (Nat.mod_lt _ (by decide))
  rw [e]
  have ec : Lib.ctz 64 (x.toNat % 2 ^ 64) = Lib.ctzFrom 64 (x.toNat % 2 ^ 64) := by unfold Lib.ctz; rw [if_neg (by omega)]
  rw [ec]
  generalize Lib.ctzFrom 64 (x.toNat % 2 ^ 64) = k at *
  have hd : x.toNat = 2 ^ 64 * (x.toNat / 2 ^ 64) + x.toNat % 2 ^ 64 := (Nat.div_add_mod _ _).symm
  have p64 : 2 ^ 64 = 2 ^ k * (2 * 2 ^ (63 - k)) := by
    have : 2 * 2 ^ (63 - k) = 2 ^ (64 - k) := by rw [Nat.mul_comm, ← Nat.pow_succ]; congr 1; omega
    rw [this, ← Nat.pow_add]; congr 1; omega
  have hq : x.toNat = 2 ^ k * (2 * (2 ^ (63 - k) * (x.toNat / 2 ^ 64) + m) + 1) := by
    have e1 : 2 ^ k * (2 * (2 ^ (63 - k) * (x.toNat / 2 ^ 64) + m) + 1) = 2 ^ k * (2 * 2 ^ (63 - k)) * (x.toNat / 2 ^ 64) + 2 ^ k * (2 * m + 1) := by
      rw [Nat.mul_assoc, ← Nat.mul_add]; congr 1
      rw [Nat.mul_add, Nat.mul_assoc]; omega
    rw [e1, ← p64, ← hm]; exact hd
  have hpk : 0 < 2 ^ k := Nat.two_pow_pos k
  symm
  apply trail_char x k (by omega)
  · rw [hq]; exact Nat.mul_mod_right _ _
  · right; rw [hq, Nat.mul_div_cancel_left _ hpk]; omega
theorem trail_hi (x : BitVec 128) (h : lI x = 0) (h' : ¬ hI x = 0) : 64 + Lib.ctz 64 (hI x).toNat = trailN x := by
  have e : (hI x).toNat = x.toNat / 2 ^ 64 := by rw [hIN]; rfl
  have l : x.toNat % 2 ^ 64 = 0 := by rw [lIN] at h; omega
  have hp := hI_lo x
  have hx := x.isLt
  have h0 : 0 < x.toNat / 2 ^ 64 := by omega
  have hb : x.toNat / 2 ^ 64 < 2 ^ 64 := by omega
  obtain ⟨m, hm, hk⟩ := Lib.ctzFrom_spec 64 (x.toNat / 2 ^ 64) h0 hb
  rw [e]
  have ec : Lib.ctz 64 (x.toNat / 2 ^ 64) = Lib.ctzFrom 64 (x.toNat / 2 ^ 64) := by unfold Lib.ctz; rw [if_neg (by omega)]
  rw [ec]
  generalize Lib.ctzFrom 64 (x.toNat / 2 ^ 64) = k at *
  have hd : x.toNat = 2 ^ 64 * (x.toNat / 2 ^ 64) := by have := Nat.div_add_mod x.toNat (2 ^ 64); omega
  have hq : x.toNat = 2 ^ (64 + k) * (2 * m + 1) := by rw [Nat.pow_add, Nat.mul_assoc, ← hm]; exact hd
  have hpk : 0 < 2 ^ (64 + k) := Nat.two_pow_pos _
  symm
  apply trail_char x (64 + k) (by omega)
  · rw [hq]; exact Nat.mul_mod_right _ _
  · right; rw [hq, Nat.mul_div_cancel_left _ hpk]; omega
theorem trail_0 (x : BitVec 128) (h : lI x = 0) (h' : hI x = 0) : trailN x = 128 := by
  have : x.toNat = 0 := by rw [lIN] at h; rw [hIN] at h'; omega
  unfold trailN Lib.ctz; rw [if_pos this]
theorem trail_le (x : BitVec 128) : trailN x ≤ 128 := by
  unfold trailN
  by_cases h : x.toNat = 0
  · unfold Lib.ctz; rw [if_pos h]; omega
  · obtain ⟨m, hm, hk⟩ := Lib.ctzFrom_spec 128 x.toNat (by omega) x.isLt
    unfold Lib.ctz; rw [if_neg h]; omega
theorem tz_key (x a : Nat) (hx : x < 18446744073709551616) (hx0 : x ≠ 0) (hlow : x &&& (18446744073709551616 - x) = a) :
    IntKind.u64.wrap (bits BinOp.and IntKind.u64 (x : Int) (IntKind.u64.wrap (-(x : Int))) * 285870213051353865) / 288230376151711744 = ((a * 285870213051353865 % 18446744073709551616 / 288230376151711744 : Nat) : Int) := by
  have wu : ∀ n : Int, IntKind.u64.wrap n = n % 18446744073709551616 := fun n => by simp [IntKind.wrap, IntKind.bits, IntKind.signed]
  have e1 : IntKind.u64.wrap (-(x : Int)) = ((18446744073709551616 - x : Nat) : Int) := by rw [wu]; omega
  rw [e1, bits_and_u64_nat x _ hx (by omega), hlow, wu]
  omega
end Go.Proofs.YtdgmfdfhbhmppaaDoor
/-
  What a call of package word's Ones does.
-/
namespace Go.Proofs.YtdgmfdfhbhmppaaDoor
open Go.RowKit
set_option linter.unusedSimpArgs false
set_option linter.unusedVariables false

theorem ones_end (a b : Nat) (h1 : a ≤ 64) (h2 : b ≤ 64) : IntKind.i64.wrap ((a : Int) + b) = ((a + b : Nat) : Int) := by
  rw [IntKind.wrap_i64]; omega
/-- How many bits are set in the number. -/
def ocI (v : Int) : Int := ((oc 8 v.toNat : Nat) : Int)
theorem ocI_bd (v : Int) : 0 ≤ ocI v ∧ ocI v ≤ 64 := by
  have := oc_le 8 v.toNat
  unfold ocI; omega

end Go.Proofs.YtdgmfdfhbhmppaaDoor
/-
  What the calls of Ones and Trail do, in turnpikeref1 and in package word.
-/
namespace Go.Proofs.YtdgmfdfhbhmppaaDoor
open Go.RowKit
set_option linter.unusedSimpArgs false
set_option linter.unusedVariables false

theorem fs_le (x : BitVec 128) : ∀ k, fs x k ≤ k := by
  intro k
  induction k with
  | zero => exact Nat.le_refl _
  | succ k ih => simp only [fs]; rcases bitZ_01 x (k : Int) with h | h <;> rw [h] <;> simp <;> omega
theorem fs_next (x : BitVec 128) (k : Nat) : ((fs x k : Nat) : Int) + bitZ x (k : Int) = ((fs x (k + 1) : Nat) : Int) := by
  simp only [fs]; rcases bitZ_01 x (k : Int) with h | h <;> rw [h] <;> simp

/-- The library's table lies in its variable. -/
def Tab (w : World) : Prop := ∀ j, j < 64 → w.cell? ⟨3, j, none⟩ = some (.int .u8 ((Lib.deBruijn64tab.getD j 0 : Nat) : Int))
theorem Tab.keep {W w' : World} (h : Tab W) (hb : Below W.heap.size W w') : Tab w' := fun j hj => keepc hb (h j hj)
set_option maxHeartbeats 1000000 in
theorem tz_core (x k idx : Nat) (w : World) (hx0 : ((x : Int) == 0) = false)
    (key : IntKind.u64.wrap (bits BinOp.and IntKind.u64 (x : Int) (IntKind.u64.wrap (-(x : Int))) * 285870213051353865) / 288230376151711744 = (idx : Int))
    (hi : idx < 64) (hk : k < 64) (hcell : w.cell? ⟨3, idx, none⟩ = some (.int .u8 k)) :
    Calls Tryd.prog 98 #[.int .u64 x] w fun e w' => e = .returned (.int .i64 k) ∧ w' = w := by
  go_enter Tryd.func98, Tryd.ntmps98
  go_wp2_with (simp only [key])
  go_ret
  exact ⟨rfl, rfl⟩
theorem tz_zero (w : World) : Calls Tryd.prog 98 #[.int .u64 0] w fun e w' => e = .returned (.int .i64 64) ∧ w' = w := by
  go_enter Tryd.func98, Tryd.ntmps98
  go_wp2
  go_ret
  exact ⟨rfl, rfl⟩
theorem tz_any (v : Int) (w : World) (h0 : 0 ≤ v) (h1 : v < 18446744073709551616) (hn : ¬ v = 0) (hT : Tab w) :
    Calls Tryd.prog 98 #[.int .u64 v] w fun e w' => e = .returned (.int .i64 ((Lib.ctz 64 v.toNat : Nat) : Int)) ∧ w' = w := by
  obtain ⟨x, rfl⟩ := Int.eq_ofNat_of_zero_le h0
  have hx : x < 18446744073709551616 := by omega
  have hx0 : x ≠ 0 := by omega
  obtain ⟨hlow, hk⟩ := Lib.lowest_bit 64 x hx0 hx
  obtain ⟨hi, htab⟩ := Lib.deBruijn64_at _ hk
  have hcell := hT _ hi
  rw [htab] at hcell
  exact tz_core x _ _ w (by simp; omega) (tz_key x _ hx hx0 hlow) hi hk hcell

end Go.Proofs.YtdgmfdfhbhmppaaDoor
/-
  Plain facts on a range's cover: the widest prefix at its beginning, and the list of them.
-/
namespace Go.Proofs.YtdgmfdfhbhmppaaDoor
open Go.RowKit
set_option linter.unusedSimpArgs false
set_option linter.unusedVariables false

theorem trail_spec (x : BitVec 128) : 2 ^ trailN x ∣ x.toNat ∧ (trailN x = 128 ∨ ¬ 2 ^ (trailN x + 1) ∣ x.toNat) := by
  unfold trailN
  by_cases h : x.toNat = 0
  · unfold Lib.ctz
    rw [if_pos h, h]
    exact ⟨Nat.dvd_zero _, .inl rfl⟩
  · have hx := x.isLt
    obtain ⟨m, hm, hk⟩ := Lib.ctzFrom_spec 128 x.toNat (by omega) hx
    have e : Lib.ctz 128 x.toNat = Lib.ctzFrom 128 x.toNat := by unfold Lib.ctz; rw [if_neg h]
    rw [e]
    generalize Lib.ctzFrom 128 x.toNat = k at *
    refine ⟨⟨_, hm⟩, .inr ?_⟩
    rintro ⟨q, hq⟩
    rw [hq, Nat.pow_succ, Nat.mul_assoc] at hm
    have := Nat.eq_of_mul_eq_mul_left (Nat.two_pow_pos k) hm
    omega
theorem trail_dvd (x : BitVec 128) (m : Nat) (hm : m ≤ 128) : 2 ^ m ∣ x.toNat ↔ m ≤ trailN x := by
  obtain ⟨a, b⟩ := trail_spec x
  constructor
  · intro h
    apply Classical.byContradiction
    intro c
    rcases b with b | b
    · omega
    · exact b (Nat.dvd_trans (Nat.pow_dvd_pow 2 (by omega)) h)
  · intro h
    exact Nat.dvd_trans (Nat.pow_dvd_pow 2 h) a
theorem cut_dvd (x : BitVec 128) (k : Int) : cutW x k = x ↔ 2 ^ (128 - k.toNat) ∣ x.toNat := by
  constructor
  · intro h
    have := congrArg BitVec.toNat h
    rw [cut_nat] at this
    exact ⟨_, by rw [Nat.mul_comm]; exact this.symm⟩
  · rintro ⟨q, hq⟩
    apply BitVec.eq_of_toNat_eq
    rw [cut_nat, hq, Nat.mul_div_cancel_left _ (Nat.two_pow_pos _), Nat.mul_comm]
theorem cut_trail (x : BitVec 128) (k : Int) (h0 : 0 ≤ k) (h1 : k ≤ 128) : cutW x k = x ↔ 128 - ((trailN x : Nat) : Int) ≤ k := by
  rw [cut_dvd, trail_dvd x _ (by omega)]
  omega
theorem pow_parts (n F : Int) (h0 : 0 ≤ n) (h1 : n ≤ F) (h2 : F ≤ 128) : 2 ^ (128 - n.toNat) = 2 ^ (F.toNat - n.toNat) * 2 ^ (128 - F.toNat) := by
  rw [← Nat.pow_add]
  congr 1
  omega
theorem last_nat (F : Int) (x : BitVec 128) (n : Int) (h : Rt F x n) (hF : F ≤ 128) : (lastW F x n).toNat + 2 ^ (128 - F.toNat) = x.toNat + 2 ^ (128 - n.toNat) := by
  obtain ⟨h0, h1, h2⟩ := id h
  have l1 := congrArg BitVec.toNat (last_cut F x n h)
  have l2 := (cut_dvd _ _).mp (last_fam F x n h)
  rw [cut_nat] at l1
  have hx := (cut_dvd _ _).mp h2
  have hp := pow_parts n F h0 h1 hF
  have pu := Nat.two_pow_pos (128 - F.toNat)
  have pg := Nat.two_pow_pos (F.toNat - n.toNat)
  have pn := Nat.two_pow_pos (128 - n.toNat)
  have pe : 2 ^ (128 - n.toNat) ≤ 2 ^ 128 := Nat.pow_le_pow_right (by decide) (by omega)
  obtain ⟨t, ht⟩ := l2
  obtain ⟨q, hq⟩ := hx
  have up := Nat.lt_div_mul_add (a := (lastW F x n).toNat) pn
  rw [l1] at up
  have xl := x.isLt
  -- the greatest one
  have key : x.toNat + 2 ^ (128 - n.toNat) ≤ (lastW F x n).toNat + 2 ^ (128 - F.toNat) := by
    have hs : x.toNat + 2 ^ (128 - n.toNat) ≤ 2 ^ 128 := by
      have e : (2 : Nat) ^ 128 = 2 ^ n.toNat * 2 ^ (128 - n.toNat) := by rw [← Nat.pow_add]; congr 1; omega
      rw [hq, Nat.mul_comm] at xl ⊢
      rw [e] at xl ⊢
      have := Nat.lt_of_mul_lt_mul_right xl
      calc q * 2 ^ (128 - n.toNat) + 2 ^ (128 - n.toNat) = (q + 1) * 2 ^ (128 - n.toNat) := by rw [Nat.add_mul, Nat.one_mul]
        _ ≤ _ := Nat.mul_le_mul_right _ this
    have hle : 2 ^ (128 - F.toNat) ≤ 2 ^ (128 - n.toNat) := Nat.pow_le_pow_right (by decide) (by omega)
    have hc : (BitVec.ofNat 128 (x.toNat + (2 ^ (128 - n.toNat) - 2 ^ (128 - F.toNat)))).toNat = x.toNat + (2 ^ (128 - n.toNat) - 2 ^ (128 - F.toNat)) := by
      rw [BitVec.toNat_ofNat]; apply Nat.mod_eq_of_lt; omega
    have d1 : cutW (BitVec.ofNat 128 (x.toNat + (2 ^ (128 - n.toNat) - 2 ^ (128 - F.toNat)))) F = BitVec.ofNat 128 (x.toNat + (2 ^ (128 - n.toNat) - 2 ^ (128 - F.toNat))) := by
      rw [cut_dvd, hc]
      refine Nat.dvd_add ?_ (Nat.dvd_sub (Nat.pow_dvd_pow 2 (by omega)) (Nat.dvd_refl _))
      exact Nat.dvd_trans (Nat.pow_dvd_pow 2 (by omega)) ⟨q, hq⟩
    have d2 : cutW (BitVec.ofNat 128 (x.toNat + (2 ^ (128 - n.toNat) - 2 ^ (128 - F.toNat)))) n = x := by
      apply BitVec.eq_of_toNat_eq
      rw [cut_nat, hc, hq, Nat.add_comm, Nat.add_mul_div_left _ _ pn, Nat.div_eq_of_lt (by omega), Nat.zero_add, Nat.mul_comm]
    have := le_last F x n h _ d1 d2
    rw [hc] at this
    omega
  have other : (lastW F x n).toNat + 2 ^ (128 - F.toNat) ≤ x.toNat + 2 ^ (128 - n.toNat) := by
    rw [ht, hq, hp] at up ⊢
    rw [Nat.mul_comm _ t, show 2 ^ (F.toNat - n.toNat) * 2 ^ (128 - F.toNat) * q + 2 ^ (F.toNat - n.toNat) * 2 ^ (128 - F.toNat) = (2 ^ (F.toNat - n.toNat) * q + 2 ^ (F.toNat - n.toNat)) * 2 ^ (128 - F.toNat) by rw [Nat.add_mul, Nat.mul_right_comm]] at up ⊢
    have := Nat.lt_of_mul_lt_mul_right up
    calc t * 2 ^ (128 - F.toNat) + 2 ^ (128 - F.toNat) = (t + 1) * 2 ^ (128 - F.toNat) := by rw [Nat.add_mul, Nat.one_mul]
      _ ≤ _ := Nat.mul_le_mul_right _ this
  omega
theorem step_nat (F : Int) (hf : fam F = true) : (stepW F).toNat = 2 ^ (128 - F.toNat) := by
  rcases fam_ways F hf with rfl | rfl <;> decide +kernel
theorem fam_bd (F : Int) (hf : fam F = true) : 32 ≤ F ∧ F ≤ 128 := by
  rcases fam_ways F hf with rfl | rfl <;> decide
/-- What lies behind an address, if it is there. -/
theorem next_nat (F : Int) (b : BitVec 128) (h : nextB F b = true) : (nextV F b).toNat = b.toNat + 2 ^ (128 - F.toNat) ∧ fam F = true ∧ cutW b F = b ∧ cutW (nextV F b) F = nextV F b := by
  unfold nextV
  rw [if_pos h]
  unfold nextB at h
  simp only [Bool.and_eq_true, decide_eq_true_eq] at h
  obtain ⟨hf, hb⟩ := right0 F b h.1
  have e : (b + stepW F).toNat = b.toNat + 2 ^ (128 - F.toNat) := by
    rw [BitVec.toNat_add, step_nat F hf]
    apply Nat.mod_eq_of_lt
    have := h.2
    unfold overB at this
    rw [step_nat F hf] at this
    simpa using this
  refine ⟨e, hf, hb, ?_⟩
  rw [cut_dvd, e]
  exact Nat.dvd_add ((cut_dvd b F).mp hb) (Nat.dvd_refl _)
theorem next_none (F : Int) (b : BitVec 128) (hr : rightE F b = 0) (h : nextB F b = false) : b = maskW F := by
  obtain ⟨hf, hb⟩ := right0 F b hr
  unfold nextB at h
  rw [hr, over_step F b hf hb] at h
  simpa using h
theorem right_of (F : Int) (x : BitVec 128) (hf : fam F = true) (h : cutW x F = x) : rightE F x = 0 := by
  unfold rightE
  unfold cutW at h
  rw [if_pos hf, if_pos h]
/-- The length of the widest prefix. -/
def widN (F : Int) (a b : BitVec 128) : Int := if nextB F b = true then max (128 - ((trailN a : Nat) : Int)) (((leadN (a ^^^ nextV F b) : Nat) : Int) + 1) else 128 - ((trailN a : Nat) : Int)
theorem wid_iff (F : Int) (a b : BitVec 128) (ha : rightE F a = 0) (hb : rightE F b = 0) (hab : a.toNat ≤ b.toNat) (k : Int) (h0 : 0 ≤ k) (h1 : k ≤ F) :
    (cutW a k = a ∧ (lastW F a k).toNat ≤ b.toNat) ↔ widN F a b ≤ k := by
  obtain ⟨hf, ha'⟩ := right0 F a ha
  obtain ⟨_, hb'⟩ := right0 F b hb
  obtain ⟨f0, f1⟩ := fam_bd F hf
  have ct := cut_trail a k h0 (by omega)
  have pu := Nat.two_pow_pos (128 - F.toNat)
  unfold widN
  cases hn : nextB F b
  · rw [if_neg (by simp), ← ct]
    constructor
    · exact fun h => h.1
    · intro h
      refine ⟨h, ?_⟩
      have hl := last_fam F a k ⟨h0, h1, h⟩
      rw [next_none F b hb hn, ← hl]
      unfold cutW
      rw [BitVec.toNat_and]
      exact Nat.and_le_right
  · rw [if_pos rfl, Int.max_le, ← ct]
    constructor
    · rintro ⟨h, g⟩
      refine ⟨h, ?_⟩
      obtain ⟨e, _, _, e3⟩ := next_nat F b hn
      apply Classical.byContradiction
      intro c
      have lm := (lead_mask (a ^^^ nextV F b) k h0 (by omega)).mp (by omega)
      rw [xor_mask] at lm
      have hs := (has_ends F a k ⟨h0, h1, h⟩ (nextV F b) e3).mp (by unfold cutW at *; rw [← lm, h])
      omega
    · rintro ⟨h, g⟩
      refine ⟨h, ?_⟩
      obtain ⟨e, _, _, e3⟩ := next_nat F b hn
      apply Classical.byContradiction
      intro c
      have d1 := (cut_dvd b F).mp hb'
      have d2 := (cut_dvd _ F).mp (last_fam F a k ⟨h0, h1, h⟩)
      obtain ⟨p, hp⟩ := d1
      obtain ⟨q, hq⟩ := d2
      have lt : 2 ^ (128 - F.toNat) * p < 2 ^ (128 - F.toNat) * q := by omega
      have lt' := Nat.lt_of_mul_lt_mul_left lt
      have le' : 2 ^ (128 - F.toNat) * (p + 1) ≤ 2 ^ (128 - F.toNat) * q := Nat.mul_le_mul_left _ lt'
      rw [Nat.mul_add, Nat.mul_one, ← hp, ← hq, ← e] at le'
      have hs := (has_ends F a k ⟨h0, h1, h⟩ (nextV F b) e3).mpr ⟨by omega, le'⟩
      have lm := (lead_mask (a ^^^ nextV F b) k h0 (by omega)).mpr ((xor_mask _ _ _).mpr (by unfold cutW at *; rw [hs, h]))
      omega
theorem last_self (F : Int) (a : BitVec 128) (h0 : 0 ≤ F) (h1 : F ≤ 128) (ha : cutW a F = a) : lastW F a F = a := by
  have := last_nat F a F ⟨h0, Int.le_refl _, ha⟩ h1
  exact BitVec.eq_of_toNat_eq (by omega)
/-- What is there of a range: its ends are right, and in order. -/
def Rng (F : Int) (a b : BitVec 128) : Prop := rightE F a = 0 ∧ rightE F b = 0 ∧ a.toNat ≤ b.toNat
theorem wid_rt (F : Int) (a b : BitVec 128) (h : Rng F a b) : Rt F a (widN F a b) ∧ (lastW F a (widN F a b)).toNat ≤ b.toNat := by
  obtain ⟨ha, hb, hab⟩ := h
  obtain ⟨hf, ha'⟩ := right0 F a ha
  obtain ⟨f0, f1⟩ := fam_bd F hf
  have up : widN F a b ≤ F := (wid_iff F a b ha hb hab F (by omega) (Int.le_refl _)).mp ⟨ha', by rw [last_self F a (by omega) f1 ha']; exact hab⟩
  have lo : 0 ≤ widN F a b := by
    have := trail_le a
    unfold widN
    split
    · have := Int.le_max_left (128 - ((trailN a : Nat) : Int)) (((leadN (a ^^^ nextV F b) : Nat) : Int) + 1)
      omega
    · omega
  obtain ⟨x, y⟩ := (wid_iff F a b ha hb hab (widN F a b) lo up).mpr (Int.le_refl _)
  exact ⟨⟨lo, up, x⟩, y⟩
/-- The next range, if the first prefix is not all. -/
theorem rng_next (F : Int) (a b : BitVec 128) (h : Rng F a b) (hn : ¬ lastW F a (widN F a b) = b) :
    nextB F (lastW F a (widN F a b)) = true ∧ Rng F (nextV F (lastW F a (widN F a b))) b ∧ (nextV F (lastW F a (widN F a b))).toNat = a.toNat + 2 ^ (128 - (widN F a b).toNat) := by
  obtain ⟨hr, hl⟩ := wid_rt F a b h
  obtain ⟨ha, hb, hab⟩ := h
  obtain ⟨hf, ha'⟩ := right0 F a ha
  obtain ⟨_, hb'⟩ := right0 F b hb
  obtain ⟨f0, f1⟩ := fam_bd F hf
  have lf := last_fam F a _ hr
  have ln := last_nat F a _ hr f1
  generalize widN F a b = n at *
  generalize hL : lastW F a n = L at *
  have rL := right_of F L hf lf
  have lt : L.toNat < b.toNat := by
    rcases Nat.lt_or_ge L.toNat b.toNat with q | q
    · exact q
    · exact absurd (BitVec.eq_of_toNat_eq (by omega)) hn
  have nb : nextB F L = true := by
    cases q : nextB F L
    · exfalso
      have e := next_none F L rL q
      have : b.toNat ≤ (maskW F).toNat := by
        rw [← hb', BitVec.toNat_and]; exact Nat.and_le_right
      rw [e] at lt
      omega
    · rfl
  obtain ⟨e, _, _, e3⟩ := next_nat F L nb
  refine ⟨nb, ⟨right_of F _ hf e3, hb, ?_⟩, by omega⟩
  obtain ⟨p, hp⟩ := (cut_dvd b F).mp hb'
  obtain ⟨q, hq⟩ := (cut_dvd L F).mp lf
  have lt' := Nat.lt_of_mul_lt_mul_left (show 2 ^ (128 - F.toNat) * q < 2 ^ (128 - F.toNat) * p by omega)
  have le' : 2 ^ (128 - F.toNat) * (q + 1) ≤ 2 ^ (128 - F.toNat) * p := Nat.mul_le_mul_left _ lt'
  rw [Nat.mul_add, Nat.mul_one, ← hp, ← hq, ← e] at le'
  exact le'
/-- The widest prefixes of a range, one behind the other; the number is greater than there can be of them. -/
def covL (F : Int) (b : BitVec 128) : Nat → BitVec 128 → List (BitVec 128 × Int)
  | 0, _ => []
  | k + 1, a => (a, widN F a b) :: if lastW F a (widN F a b) = b then [] else covL F b k (nextV F (lastW F a (widN F a b)))
theorem cov_cn (F : Int) (b : BitVec 128) : ∀ k a, Rng F a b → b.toNat < a.toNat + k → Cn (128 - F.toNat) (b.toNat + 2 ^ (128 - F.toNat)) a.toNat (covL F b k a).length := by
  intro k
  induction k with
  | zero => intro a h hk; have := h.2.2; omega
  | succ k ih =>
    intro a h hk
    obtain ⟨hr, hl⟩ := wid_rt F a b h
    obtain ⟨hf, ha'⟩ := right0 F a h.1
    obtain ⟨f0, f1⟩ := fam_bd F hf
    have ln := last_nat F a _ hr f1
    have r0 := hr.1
    have r1 := hr.2.1
    have hd := (cut_dvd a _).mp hr.2.2
    have hno : ¬ (128 - (widN F a b).toNat < 128 ∧ Rs (b.toNat + 2 ^ (128 - F.toNat)) a.toNat (128 - (widN F a b).toNat + 1)) := by
      rintro ⟨q, g1, g2⟩
      have e : 128 - (widN F a b).toNat + 1 = 128 - (widN F a b - 1).toNat := by omega
      rw [e] at g1 g2
      have c := (cut_dvd a (widN F a b - 1)).mpr g1
      have l := last_nat F a (widN F a b - 1) ⟨by omega, by omega, c⟩ f1
      have := (wid_iff F a b h.1 h.2.1 h.2.2 (widN F a b - 1) (by omega) (by omega)).mp ⟨c, by omega⟩
      omega
    unfold covL
    by_cases q : lastW F a (widN F a b) = b
    · rw [if_pos q]
      refine Cn.step _ (128 - (widN F a b).toNat) 0 (by omega) ⟨hd, ?_⟩ hno ?_
      · have q' := congrArg BitVec.toNat q
        omega
      · have q' := congrArg BitVec.toNat q
        rw [show a.toNat + 2 ^ (128 - (widN F a b).toNat) = b.toNat + 2 ^ (128 - F.toNat) by omega]
        exact Cn.done
    · rw [if_neg q]
      obtain ⟨n1, n2, n3⟩ := rng_next F a b h q
      refine Cn.step _ (128 - (widN F a b).toNat) _ (by omega) ⟨hd, by omega⟩ hno ?_
      rw [← n3]
      exact ih _ n2 (by have := Nat.two_pow_pos (128 - (widN F a b).toNat); omega)
theorem cov_len (F : Int) (a b : BitVec 128) (k : Nat) (h : Rng F a b) (hk : b.toNat < a.toNat + k) : (((covL F b k a).length : Nat) : Int) ≤ 2 * F - 2 := by
  have c := cov_cn F b k a h hk
  obtain ⟨hf, ha'⟩ := right0 F a h.1
  obtain ⟨_, hb'⟩ := right0 F b h.2.1
  obtain ⟨f0, f1⟩ := fam_bd F hf
  have pu := Nat.two_pow_pos (128 - F.toNat)
  have hd := (cut_dvd b F).mp hb'
  have most : b.toNat + 2 ^ (128 - F.toNat) ≤ 2 ^ 128 := by
    obtain ⟨q, hq⟩ := hd
    have e : (2 : Nat) ^ 128 = 2 ^ (128 - F.toNat) * 2 ^ F.toNat := by rw [← Nat.pow_add]; congr 1; omega
    have bl := b.isLt
    rw [hq, e] at bl ⊢
    have := Nat.lt_of_mul_lt_mul_left bl
    calc 2 ^ (128 - F.toNat) * q + 2 ^ (128 - F.toNat) = 2 ^ (128 - F.toNat) * (q + 1) := by rw [Nat.mul_add, Nat.mul_one]
      _ ≤ _ := Nat.mul_le_mul_left _ this
  have := cn_most (128 - F.toNat) _ a.toNat _ (by omega) ((cut_dvd a F).mp ha') (Nat.dvd_add hd (Nat.dvd_refl _)) (by have := h.2.2; omega) most c
  omega
theorem cov_end (F : Int) (b : BitVec 128) (k : Nat) (a : BitVec 128) (h : lastW F a (widN F a b) = b) : covL F b (k + 1) a = [(a, widN F a b)] := by
  unfold covL; rw [if_pos h]
theorem cov_on (F : Int) (b : BitVec 128) (k : Nat) (a : BitVec 128) (h : ¬ lastW F a (widN F a b) = b) : covL F b (k + 1) a = (a, widN F a b) :: covL F b k (nextV F (lastW F a (widN F a b))) := by
  rw [covL, if_neg h]
end Go.Proofs.YtdgmfdfhbhmppaaDoor
/-
  What a call of package prefix's Kids does.
-/
namespace Go.Proofs.YtdgmfdfhbhmppaaDoor
open Go.RowKit
set_option linter.unusedSimpArgs false
set_option linter.unusedVariables false

def kidL (F : Int) (x : BitVec 128) (n : Int) : BitVec 128 := if F ≤ n then 0#128 else x
def kidH (F : Int) (x : BitVec 128) (n : Int) : BitVec 128 := if F ≤ n then 0#128 else x ||| bit1 n
def kidN (F : Int) (n : Int) : Int := if F ≤ n then 0 else n + 1
/-- The prefix, the low kid, and the answers, in memory. -/
def KS (w : World) (x : BitVec 128) (n : Int) (W : World) : Prop := AtP W w.heap.size x n ∧ AtP W (w.heap.size + 1) 0#128 0 ∧ AtP W (w.heap.size + 1 + 1) 0#128 0 ∧ AtP W (w.heap.size + 1 + 1 + 1) x (n + 1) ∧ Below w.heap.size w W
theorem KS.below {w W W' : World} {x : BitVec 128} {n : Int} (h : KS w x n W) (hb : Below W.heap.size W W') : KS w x n W' := ⟨h.1.below hb, h.2.1.below hb, h.2.2.1.below hb, h.2.2.2.1.below hb, keepb hb h.2.2.2.2⟩
theorem KS.al {w W : World} {x : BitVec 128} {n : Int} (h : KS w x n W) (o : Obj) : KS w x n (W.alloc o) := h.below (bl1 W o)
theorem KS.drew {w W : World} {x : BitVec 128} {n : Int} (h : KS w x n W) : KS w x n W.drew := ⟨h.1, h.2.1, h.2.2.1, h.2.2.2.1, h.2.2.2.2.drew⟩
theorem AtP.setO {W : World} {B : Nat} {x : BitVec 128} {n : Int} (h : AtP W B x n) {N : Nat} (hN : ¬ N = B) (u v t : Value) : AtP (((W.setCell ⟨N, 0, none⟩ u).setCell ⟨N, 1, none⟩ v).setCell ⟨N, 2, none⟩ t) B x n := by
  obtain ⟨a0, a1, a2, a3, a4, a5⟩ := h
  have d1 : ¬ B = N := fun e => hN e.symm
  refine ⟨?_, ?_, ?_, ?_, ?_, ?_⟩ <;> simp [go_sem, *]
theorem AtP.set {W : World} {B : Nat} {x : BitVec 128} {n : Int} (h : AtP W B x n) (y : BitVec 128) (m : Int) : AtP (((W.setCell ⟨B, 0, none⟩ (.int .u64 (hI y))).setCell ⟨B, 1, none⟩ (.int .u64 (lI y))).setCell ⟨B, 2, none⟩ (.int .i64 m)) B y m := by
  obtain ⟨a0, a1, a2, a3, a4, a5⟩ := h
  refine ⟨?_, ?_, ?_, ?_, ?_, ?_⟩ <;> simp [go_sem, *]
theorem AtP.lt {W : World} {B : Nat} {x : BitVec 128} {n : Int} (h : AtP W B x n) : B < W.heap.size := cell_in h.1
theorem KS.set {w W : World} {x : BitVec 128} {n : Int} (h : KS w x n W) {N : Nat} (hN : w.heap.size + 1 + 1 + 1 < N) (u v t : Value) : KS w x n (((W.setCell ⟨N, 0, none⟩ u).setCell ⟨N, 1, none⟩ v).setCell ⟨N, 2, none⟩ t) :=
  ⟨h.1.setO (by omega) u v t, h.2.1.setO (by omega) u v t, h.2.2.1.setO (by omega) u v t, h.2.2.2.1.setO (by omega) u v t, bset3 h.2.2.2.2 (by omega) u v t⟩
theorem KS.first (w : World) (x : BitVec 128) (n : Int) : KS w x n ((((w.alloc (.cells #[.int .u64 (hI x), .int .u64 (lI x), .int .i64 n] 26)).alloc (.cells #[.int .u64 0, .int .u64 0, .int .i64 0] 26)).alloc (.cells #[.int .u64 0, .int .u64 0, .int .i64 0] 26)).alloc (.cells #[.int .u64 (hI x), .int .u64 (lI x), .int .i64 (n + 1)] 26)) := by
  refine ⟨?_, ?_, ?_, ?_, (bl3 _ _ _ _).alloc (by simp; omega) _⟩
  · exact (((atp_new w w.heap.size x n 26 rfl).below (bl1 _ _)).below (bl1 _ _)).below (bl1 _ _)
  · exact ((atp_new _ (w.heap.size + 1) 0#128 0 26 (by simp)).below (bl1 _ _)).below (bl1 _ _)
  · exact (atp_new _ (w.heap.size + 1 + 1) 0#128 0 26 (by simp)).below (bl1 _ _)
  · exact atp_new _ (w.heap.size + 1 + 1 + 1) x (n + 1) 26 (by simp)
theorem atp_new0 (w : World) : AtP (w.alloc (.cells #[.int .u64 0, .int .u64 0, .int .i64 0] 26)) w.heap.size 0#128 0 := atp_new w w.heap.size 0#128 0 26 rfl
theorem atp_new0d (w : World) (N : Nat) (h : N = w.heap.size) : AtP (w.alloc (.cells #[.int .u64 0, .int .u64 0, .int .i64 0] 26)).drew N 0#128 0 := atp_new w N 0#128 0 26 h

end Go.Proofs.YtdgmfdfhbhmppaaDoor
/-
  What a call of the reference's Kids does.
-/
namespace Go.Proofs.YtdgmfdfhbhmppaaDoor
open Go.RowKit
set_option linter.unusedSimpArgs false
set_option linter.unusedVariables false

theorem eval_of {a : Act} {s : Nat} {v : Value} (h : a.tmps[s]? = some v) : a.eval (.tmp s) = v := by
  show a.tmps.getD s undef = v
  rw [Array.getD_eq_getD_getElem?, h]; rfl
/-- The prefix and both answers in memory; the first one as it stands. -/
def RK (w : World) (x : BitVec 128) (n : Int) (y : BitVec 128) (m : Int) (W : World) : Prop := AtP W w.heap.size x n ∧ AtP W (w.heap.size + 1) y m ∧ AtP W (w.heap.size + 1 + 1) 0#128 0 ∧ Below w.heap.size w W
theorem RK.below {w W W' : World} {x y : BitVec 128} {n m : Int} (h : RK w x n y m W) (hb : Below W.heap.size W W') : RK w x n y m W' := ⟨h.1.below hb, h.2.1.below hb, h.2.2.1.below hb, keepb hb h.2.2.2⟩
end Go.Proofs.YtdgmfdfhbhmppaaDoor
/-
  What the calls of the reference's chapter 3 do: Sibling, Kids.
-/
namespace Go.Proofs.YtdgmfdfhbhmppaaDoor
open Go.RowKit
set_option linter.unusedSimpArgs false
set_option linter.unusedVariables false

def rsibV (x : BitVec 128) (n : Int) : BitVec 128 := if n ≤ 0 then 0#128 else putW x (n - 1) (1 - bitZ x (n - 1))
end Go.Proofs.YtdgmfdfhbhmppaaDoor
/-
  Plain facts: kids and siblings, told by the program and by the reference, are the same.
-/
namespace Go.Proofs.YtdgmfdfhbhmppaaDoor
open Go.RowKit
set_option linter.unusedSimpArgs false
set_option linter.unusedVariables false

theorem bit1_bit (i : Int) (h0 : 0 ≤ i) (j : Nat) (hj : j < 128) : (bit1 i).getLsbD j = decide ((j : Int) = 127 - i) := by
  unfold bit1
  rw [BitVec.getLsbD_ushiftRight]
  by_cases c : i.toNat + j < 128
  · rw [maskW_bit 1 _ c]
    congr 1
    apply propext
    constructor
    · intro h
      have : 128 - (1 : Int).toNat = 127 := by decide
      omega
    · intro h
      have : 128 - (1 : Int).toNat = 127 := by decide
      omega
  · rw [BitVec.getLsbD_of_ge _ _ (by omega)]
    symm
    simp
    omega
/-- Behind its length a right prefix has no bits. -/
theorem rt_bit (F : Int) (x : BitVec 128) (n : Int) (h : Rt F x n) (j : Nat) (hj : j < 128) (hn : (j : Int) < 128 - n) : x.getLsbD j = false := by
  have hx := congrArg (fun z => z.getLsbD j) h.2.2
  simp only [cut_bit x n j hj] at hx
  have h0 := h.1
  have c : ¬ 128 - n.toNat ≤ j := by omega
  simp [c] at hx
  exact hx.symm ▸ rfl
theorem kid_put (F : Int) (x : BitVec 128) (n : Int) (h : Rt F x n) (h1 : F ≤ 128) (hn : n < F) : putW x n 1 = x ||| bit1 n := by
  apply BitVec.eq_of_getLsbD_eq
  intro j hj
  have h0 := h.1
  rw [putW_bit x n 1 (by omega) h0 (by omega) j hj, BitVec.getLsbD_or, bit1_bit n h0 j hj]
  by_cases c : j = (127 - n).toNat
  · have d : (j : Int) = 127 - n := by omega
    simp [c, d]
    omega
  · have d : ¬ (j : Int) = 127 - n := by omega
    simp [c, d]
theorem kidH_eq (F : Int) (x : BitVec 128) (n : Int) (h : Rt F x n) (h1 : F ≤ 128) : (if F ≤ n then 0#128 else putW x n 1) = kidH F x n := by
  unfold kidH
  by_cases c : F ≤ n
  · rw [if_pos c, if_pos c]
  · rw [if_neg c, if_neg c, kid_put F x n h h1 (by omega)]
theorem sib_eq (F : Int) (x : BitVec 128) (n : Int) (h : Rt F x n) (h1 : F ≤ 128) : rsibV x n = sibV x n := by
  have h0 := h.1
  have h2 := h.2.1
  unfold rsibV sibV
  by_cases c : n ≤ 0
  · rw [if_pos c, if_pos c]
  · rw [if_neg c, if_neg c]
    have hz : bitZ x (n - 1) = if x.getLsbD (127 - (n - 1).toNat) = true then 1 else 0 := by
      unfold bitZ bitB
      have e : decide (0 ≤ n - 1) = true := by simp; omega
      rw [e, Bool.true_and, BitVec.getMsbD_eq_getLsbD]
      have : decide ((n - 1).toNat < 128) = true := by simp; omega
      rw [this, Bool.true_and]
    apply BitVec.eq_of_getLsbD_eq
    intro j hj
    rw [putW_bit x (n - 1) _ (by rw [hz]; split <;> omega) (by omega) (by omega) j hj, BitVec.getLsbD_xor, bit1_bit (n - 1) (by omega) j hj]
    by_cases d : j = (127 - (n - 1)).toNat
    · have e : (j : Int) = 127 - (n - 1) := by omega
      rw [if_pos d, hz, show 127 - (n - 1).toNat = j by omega]
      cases x.getLsbD j <;> simp [e]
    · have e : ¬ (j : Int) = 127 - (n - 1) := by omega
      rw [if_neg d]
      simp [e]
end Go.Proofs.YtdgmfdfhbhmppaaDoor
/-
  Plain facts on a prefix's kids.
-/
namespace Go.Proofs.YtdgmfdfhbhmppaaDoor
open Go.RowKit
set_option linter.unusedSimpArgs false
set_option linter.unusedVariables false

theorem bit1_nat (n : Int) (h0 : 0 ≤ n) (h1 : n ≤ 127) : (bit1 n).toNat = 2 ^ (127 - n.toNat) := by
  unfold bit1
  rw [BitVec.toNat_ushiftRight, Nat.shiftRight_eq_div_pow, show (maskW 1).toNat = 2 ^ 127 by decide +kernel]
  rw [show (2 : Nat) ^ 127 = 2 ^ (127 - n.toNat) * 2 ^ n.toNat by rw [← Nat.pow_add]; congr 1; omega, Nat.mul_div_cancel _ (Nat.two_pow_pos _)]
theorem rt_room (F : Int) (x : BitVec 128) (n : Int) (h : Rt F x n) (hF : F ≤ 128) : x.toNat + 2 ^ (128 - n.toNat) ≤ 2 ^ 128 := by
  obtain ⟨h0, h1, h2⟩ := h
  obtain ⟨q, hq⟩ := (cut_dvd x n).mp h2
  have xl := x.isLt
  have e : (2 : Nat) ^ 128 = 2 ^ (128 - n.toNat) * 2 ^ n.toNat := by rw [← Nat.pow_add]; congr 1; omega
  rw [hq, e] at xl ⊢
  have := Nat.lt_of_mul_lt_mul_left xl
  calc 2 ^ (128 - n.toNat) * q + 2 ^ (128 - n.toNat) = 2 ^ (128 - n.toNat) * (q + 1) := by rw [Nat.mul_add, Nat.mul_one]
    _ ≤ _ := Nat.mul_le_mul_left _ this
theorem kid_and (F : Int) (x : BitVec 128) (n : Int) (h : Rt F x n) (hn : n < F) (hF : F ≤ 128) : x &&& bit1 n = 0#128 := by
  apply BitVec.eq_of_getLsbD_eq
  intro j hj
  rw [BitVec.getLsbD_and, bit1_bit n h.1 j hj, BitVec.getLsbD_zero]
  by_cases c : (j : Int) = 127 - n
  · rw [rt_bit F x n h j hj (by omega)]; rfl
  · simp [c]
theorem kid_nat (F : Int) (x : BitVec 128) (n : Int) (h : Rt F x n) (hn : n < F) (hF : F ≤ 128) : (x ||| bit1 n).toNat = x.toNat + 2 ^ (127 - n.toNat) := by
  have r := rt_room F x n h hF
  have h0 := h.1
  rw [← BitVec.add_eq_or_of_and_eq_zero _ _ (kid_and F x n h hn hF), BitVec.toNat_add, bit1_nat n h0 (by omega)]
  apply Nat.mod_eq_of_lt
  have : 2 ^ (128 - n.toNat) = 2 ^ (127 - n.toNat) + 2 ^ (127 - n.toNat) := by
    rw [show 128 - n.toNat = (127 - n.toNat) + 1 by omega, Nat.pow_succ]; omega
  have := Nat.two_pow_pos (127 - n.toNat)
  omega
theorem kid_pow (n : Int) (h0 : 0 ≤ n) (h1 : n < 128) : 2 ^ (128 - n.toNat) = 2 ^ (127 - n.toNat) + 2 ^ (127 - n.toNat) ∧ 128 - (n + 1).toNat = 127 - n.toNat := by
  refine ⟨?_, by omega⟩
  rw [show 128 - n.toNat = (127 - n.toNat) + 1 by omega, Nat.pow_succ]; omega
theorem kid_rtL (F : Int) (x : BitVec 128) (n : Int) (h : Rt F x n) (hn : n < F) (hF : F ≤ 128) : Rt F x (n + 1) := by
  obtain ⟨h0, h1, h2⟩ := h
  refine ⟨by omega, by omega, (cut_dvd _ _).mpr ?_⟩
  exact Nat.dvd_trans (Nat.pow_dvd_pow 2 (by omega)) ((cut_dvd x n).mp h2)
theorem kid_rtH (F : Int) (x : BitVec 128) (n : Int) (h : Rt F x n) (hn : n < F) (hF : F ≤ 128) : Rt F (x ||| bit1 n) (n + 1) := by
  have h0 := h.1
  refine ⟨by omega, by omega, (cut_dvd _ _).mpr ?_⟩
  rw [kid_nat F x n h hn hF, (kid_pow n h0 (by omega)).2]
  exact Nat.dvd_add (Nat.dvd_trans (Nat.pow_dvd_pow 2 (by omega)) ((cut_dvd x n).mp h.2.2)) (Nat.dvd_refl _)
theorem kid_last (F : Int) (x : BitVec 128) (n : Int) (h : Rt F x n) (hn : n < F) (hF : F ≤ 128) : lastW F (x ||| bit1 n) (n + 1) = lastW F x n := by
  have h0 := h.1
  have a := last_nat F _ _ (kid_rtH F x n h hn hF) hF
  have b := last_nat F _ _ h hF
  have k := kid_nat F x n h hn hF
  have p := kid_pow n h0 (by omega)
  rw [p.2] at a
  exact BitVec.eq_of_toNat_eq (by omega)
theorem kid_next (F : Int) (x : BitVec 128) (n : Int) (h : Rt F x n) (hn : n < F) (hf : fam F = true) : overB (lastW F x (n + 1)) (putW 0#128 (F - 1) 1) = false ∧ lastW F x (n + 1) + putW 0#128 (F - 1) 1 = x ||| bit1 n := by
  have hF := (fam_bd F hf).2
  have h0 := h.1
  have a := last_nat F _ _ (kid_rtL F x n h hn hF) hF
  have k := kid_nat F x n h hn hF
  have p := kid_pow n h0 (by omega)
  rw [p.2] at a
  have s := step_nat F hf
  have yl := (x ||| bit1 n).isLt
  rw [put_step F hf]
  constructor
  · unfold overB
    rw [s]
    simp
    omega
  · apply BitVec.eq_of_toNat_eq
    rw [BitVec.toNat_add, s, Nat.mod_eq_of_lt (by omega)]
    omega
theorem kid_upL (F : Int) (x : BitVec 128) (n : Int) (h : Rt F x n) : parentV x (n + 1) = x ∧ parentN (n + 1) = n := by
  have h0 := h.1
  unfold parentV parentN
  rw [if_neg (by omega), if_neg (by omega), show n + 1 - 1 = n by omega]
  exact ⟨h.2.2, rfl⟩
theorem kid_upH (F : Int) (x : BitVec 128) (n : Int) (h : Rt F x n) (hn : n < F) (hF : F ≤ 128) : parentV (x ||| bit1 n) (n + 1) = x := by
  have h0 := h.1
  unfold parentV
  rw [if_neg (by omega), show n + 1 - 1 = n by omega]
  have k := kid_nat F x n h hn hF
  have p := kid_pow n h0 (by omega)
  have pp := Nat.two_pow_pos (127 - n.toNat)
  obtain ⟨q, hq⟩ := (cut_dvd x n).mp h.2.2
  apply BitVec.eq_of_toNat_eq
  rw [cut_nat, k, hq, Nat.add_comm, Nat.add_mul_div_left _ _ (Nat.two_pow_pos _), Nat.div_eq_of_lt (by omega), Nat.zero_add, Nat.mul_comm]
theorem kid_sibL (F : Int) (x : BitVec 128) (n : Int) (h : Rt F x n) (hn : n < F) (hF : F ≤ 128) : sibV x (n + 1) = x ||| bit1 n ∧ sibN (n + 1) = n + 1 := by
  have h0 := h.1
  unfold sibV sibN
  rw [if_neg (by omega), if_neg (by omega), show n + 1 - 1 = n by omega]
  refine ⟨?_, rfl⟩
  apply BitVec.eq_of_getLsbD_eq
  intro j hj
  have := congrArg (fun z => z.getLsbD j) (kid_and F x n h hn hF)
  simp only [BitVec.getLsbD_and, BitVec.getLsbD_zero] at this
  rw [BitVec.getLsbD_xor, BitVec.getLsbD_or]
  revert this
  cases x.getLsbD j <;> cases (bit1 n).getLsbD j <;> simp
theorem kid_sibH (F : Int) (x : BitVec 128) (n : Int) (h : Rt F x n) (hn : n < F) (hF : F ≤ 128) : sibV (x ||| bit1 n) (n + 1) = x := by
  have h0 := h.1
  unfold sibV
  rw [if_neg (by omega), show n + 1 - 1 = n by omega]
  apply BitVec.eq_of_getLsbD_eq
  intro j hj
  have := congrArg (fun z => z.getLsbD j) (kid_and F x n h hn hF)
  simp only [BitVec.getLsbD_and, BitVec.getLsbD_zero] at this
  rw [BitVec.getLsbD_xor, BitVec.getLsbD_or]
  revert this
  cases x.getLsbD j <;> cases (bit1 n).getLsbD j <;> simp
theorem kid_cmpL (F : Int) (x : BitVec 128) (n : Int) : pcmpZ x n x (n + 1) = -1 := by
  rcases pcmp_ways x n x (n + 1) with ⟨h, e⟩ | ⟨h, e⟩ | ⟨h, e⟩
  · exact e
  · have := h.2; omega
  · rcases h with h | ⟨_, h⟩ <;> omega
theorem kid_cmpH (F : Int) (x : BitVec 128) (n : Int) (h : Rt F x n) (hn : n < F) (hF : F ≤ 128) : pcmpZ x (n + 1) (x ||| bit1 n) (n + 1) = -1 := by
  have k := kid_nat F x n h hn hF
  have pp := Nat.two_pow_pos (127 - n.toNat)
  rcases pcmp_ways x (n + 1) (x ||| bit1 n) (n + 1) with ⟨h, e⟩ | ⟨h, e⟩ | ⟨h, e⟩
  · exact e
  · have := congrArg BitVec.toNat h.1; omega
  · rcases h with h | ⟨_, h⟩ <;> omega
end Go.Proofs.YtdgmfdfhbhmppaaDoor
