/-
  Part 17 of the proof: 5 texts, one behind the other.
-/
import Derived.Test.YtkgfeegcdohkdaaDoorPart16
import Derived.Test.YtkgfeegcdohkdaaDoorPart8
import Derived.Test.YtkgfeegcdohkdaaDoorPart9
/-
  Plain facts on a prefix's kids.
-/
namespace Go.Proofs.YtkgfeegcdohkdaaDoor
open Go.RowKit
set_option linter.unusedSimpArgs false
set_option linter.unusedVariables false

theorem bit1_nat (n : Int) (h0 : 0 ≤ n) (h1 : n ≤ 127) : (bit1 n).toNat = 2 ^ (127 - n.toNat) := by
  unfold bit1
  rw [BitVec.toNat_ushiftRight, Nat.shiftRight_eq_div_pow, show (maskW 1).toNat = 2 ^ 127 by decide +kernel]
  rw [show (2 : Nat) ^ 127 = 2 ^ (127 - n.toNat) * 2 ^ n.toNat by rw [← Nat.pow_add]; congr 1; omega, Nat.mul_div_cancel _ (Nat.two_pow_pos _)]
theorem rt_room (F : Int) (x : BitVec 128) (n : Int) (h : Rt F x n) (hF : F ≤ 128) : x.toNat + 2 ^ (128 - n.toNat) ≤ 2 ^ 128 := by
  obtain ⟨h0, h1, h2⟩ := h
  obtain ⟨q, hq⟩ := (cut_dvd x n).mp h2
  have xl := x.isLt
  have e : (2 : Nat) ^ 128 = 2 ^ (128 - n.toNat) * 2 ^ n.toNat := by rw [← Nat.pow_add]; congr 1; omega
  rw [hq, e] at xl ⊢
  have := Nat.lt_of_mul_lt_mul_left xl
  calc 2 ^ (128 - n.toNat) * q + 2 ^ (128 - n.toNat) = 2 ^ (128 - n.toNat) * (q + 1) := by rw [Nat.mul_add, Nat.mul_one]
    _ ≤ _ := Nat.mul_le_mul_left _ this
theorem kid_and (F : Int) (x : BitVec 128) (n : Int) (h : Rt F x n) (hn : n < F) (hF : F ≤ 128) : x &&& bit1 n = 0#128 := by
  apply BitVec.eq_of_getLsbD_eq
  intro j hj
  rw [BitVec.getLsbD_and, bit1_bit n h.1 j hj, BitVec.getLsbD_zero]
  by_cases c : (j : Int) = 127 - n
  · rw [rt_bit F x n h j hj (by omega)]; rfl
  · simp [c]
theorem kid_nat (F : Int) (x : BitVec 128) (n : Int) (h : Rt F x n) (hn : n < F) (hF : F ≤ 128) : (x ||| bit1 n).toNat = x.toNat + 2 ^ (127 - n.toNat) := by
  have r := rt_room F x n h hF
  have h0 := h.1
  rw [← BitVec.add_eq_or_of_and_eq_zero _ _ (kid_and F x n h hn hF), BitVec.toNat_add, bit1_nat n h0 (by omega)]
  apply Nat.mod_eq_of_lt
  have : 2 ^ (128 - n.toNat) = 2 ^ (127 - n.toNat) + 2 ^ (127 - n.toNat) := by
    rw [show 128 - n.toNat = (127 - n.toNat) + 1 by omega, Nat.pow_succ]; omega
  have := Nat.two_pow_pos (127 - n.toNat)
  omega
theorem kid_pow (n : Int) (h0 : 0 ≤ n) (h1 : n < 128) : 2 ^ (128 - n.toNat) = 2 ^ (127 - n.toNat) + 2 ^ (127 - n.toNat) ∧ 128 - (n + 1).toNat = 127 - n.toNat := by
  refine ⟨?_, by omega⟩
  rw [show 128 - n.toNat = (127 - n.toNat) + 1 by omega, Nat.pow_succ]; omega
theorem kid_rtL (F : Int) (x : BitVec 128) (n : Int) (h : Rt F x n) (hn : n < F) (hF : F ≤ 128) : Rt F x (n + 1) := by
  obtain ⟨h0, h1, h2⟩ := h
  refine ⟨by omega, by omega, (cut_dvd _ _).mpr ?_⟩
  exact Nat.dvd_trans (Nat.pow_dvd_pow 2 (by omega)) ((cut_dvd x n).mp h2)
theorem kid_rtH (F : Int) (x : BitVec 128) (n : Int) (h : Rt F x n) (hn : n < F) (hF : F ≤ 128) : Rt F (x ||| bit1 n) (n + 1) := by
  have h0 := h.1
  refine ⟨by omega, by omega, (cut_dvd _ _).mpr ?_⟩
  rw [kid_nat F x n h hn hF, (kid_pow n h0 (by omega)).2]
  exact Nat.dvd_add (Nat.dvd_trans (Nat.pow_dvd_pow 2 (by omega)) ((cut_dvd x n).mp h.2.2)) (Nat.dvd_refl _)
theorem kid_last (F : Int) (x : BitVec 128) (n : Int) (h : Rt F x n) (hn : n < F) (hF : F ≤ 128) : lastW F (x ||| bit1 n) (n + 1) = lastW F x n := by
  have h0 := h.1
  have a := last_nat F _ _ (kid_rtH F x n h hn hF) hF
  have b := last_nat F _ _ h hF
  have k := kid_nat F x n h hn hF
  have p := kid_pow n h0 (by omega)
  rw [p.2] at a
  exact BitVec.eq_of_toNat_eq (by omega)
theorem kid_next (F : Int) (x : BitVec 128) (n : Int) (h : Rt F x n) (hn : n < F) (hf : fam F = true) : overB (lastW F x (n + 1)) (putW 0#128 (F - 1) 1) = false ∧ lastW F x (n + 1) + putW 0#128 (F - 1) 1 = x ||| bit1 n := by
  have hF := (fam_bd F hf).2
  have h0 := h.1
  have a := last_nat F _ _ (kid_rtL F x n h hn hF) hF
  have k := kid_nat F x n h hn hF
  have p := kid_pow n h0 (by omega)
  rw [p.2] at a
  have s := step_nat F hf
  have yl := (x ||| bit1 n).isLt
  rw [put_step F hf]
  constructor
  · unfold overB
    rw [s]
    simp
    omega
  · apply BitVec.eq_of_toNat_eq
    rw [BitVec.toNat_add, s, Nat.mod_eq_of_lt (by omega)]
    omega
theorem kid_upL (F : Int) (x : BitVec 128) (n : Int) (h : Rt F x n) : parentV x (n + 1) = x ∧ parentN (n + 1) = n := by
  have h0 := h.1
  unfold parentV parentN
  rw [if_neg (by omega), if_neg (by omega), show n + 1 - 1 = n by omega]
  exact ⟨h.2.2, rfl⟩
theorem kid_upH (F : Int) (x : BitVec 128) (n : Int) (h : Rt F x n) (hn : n < F) (hF : F ≤ 128) : parentV (x ||| bit1 n) (n + 1) = x := by
  have h0 := h.1
  unfold parentV
  rw [if_neg (by omega), show n + 1 - 1 = n by omega]
  have k := kid_nat F x n h hn hF
  have p := kid_pow n h0 (by omega)
  have pp := Nat.two_pow_pos (127 - n.toNat)
  obtain ⟨q, hq⟩ := (cut_dvd x n).mp h.2.2
  apply BitVec.eq_of_toNat_eq
  rw [cut_nat, k, hq, Nat.add_comm, Nat.add_mul_div_left _ _ (Nat.two_pow_pos _), Nat.div_eq_of_lt (by omega), Nat.zero_add, Nat.mul_comm]
theorem kid_sibL (F : Int) (x : BitVec 128) (n : Int) (h : Rt F x n) (hn : n < F) (hF : F ≤ 128) : sibV x (n + 1) = x ||| bit1 n ∧ sibN (n + 1) = n + 1 := by
  have h0 := h.1
  unfold sibV sibN
  rw [if_neg (by omega), if_neg (by omega), show n + 1 - 1 = n by omega]
  refine ⟨?_, rfl⟩
  apply BitVec.eq_of_getLsbD_eq
  intro j hj
  have := congrArg (fun z => z.getLsbD j) (kid_and F x n h hn hF)
  simp only [BitVec.getLsbD_and, BitVec.getLsbD_zero] at this
  rw [BitVec.getLsbD_xor, BitVec.getLsbD_or]
  revert this
  cases x.getLsbD j <;> cases (bit1 n).getLsbD j <;> simp
theorem kid_sibH (F : Int) (x : BitVec 128) (n : Int) (h : Rt F x n) (hn : n < F) (hF : F ≤ 128) : sibV (x ||| bit1 n) (n + 1) = x := by
  have h0 := h.1
  unfold sibV
  rw [if_neg (by omega), show n + 1 - 1 = n by omega]
  apply BitVec.eq_of_getLsbD_eq
  intro j hj
  have := congrArg (fun z => z.getLsbD j) (kid_and F x n h hn hF)
  simp only [BitVec.getLsbD_and, BitVec.getLsbD_zero] at this
  rw [BitVec.getLsbD_xor, BitVec.getLsbD_or]
  revert this
  cases x.getLsbD j <;> cases (bit1 n).getLsbD j <;> simp
theorem kid_cmpL (F : Int) (x : BitVec 128) (n : Int) : pcmpZ x n x (n + 1) = -1 := by
  rcases pcmp_ways x n x (n + 1) with ⟨h, e⟩ | ⟨h, e⟩ | ⟨h, e⟩
  · exact e
  · have := h.2; omega
  · rcases h with h | ⟨_, h⟩ <;> omega
theorem kid_cmpH (F : Int) (x : BitVec 128) (n : Int) (h : Rt F x n) (hn : n < F) (hF : F ≤ 128) : pcmpZ x (n + 1) (x ||| bit1 n) (n + 1) = -1 := by
  have k := kid_nat F x n h hn hF
  have pp := Nat.two_pow_pos (127 - n.toNat)
  rcases pcmp_ways x (n + 1) (x ||| bit1 n) (n + 1) with ⟨h, e⟩ | ⟨h, e⟩ | ⟨h, e⟩
  · exact e
  · have := congrArg BitVec.toNat h.1; omega
  · rcases h with h | ⟨_, h⟩ <;> omega
end Go.Proofs.YtkgfeegcdohkdaaDoor
/-
  Plain facts on a cover: it begins and ends with the range, without gaps, and no two siblings are in it.
-/
namespace Go.Proofs.YtkgfeegcdohkdaaDoor
open Go.RowKit
set_option linter.unusedSimpArgs false
set_option linter.unusedVariables false

theorem half_or (F : Int) (x : BitVec 128) (n : Int) (h : Rt F x n) (hn : 0 < n) (hF : F ≤ 128) : cutW x (n - 1) = x ∨ (cutW x (n - 1) ||| bit1 (n - 1) = x) := by
  have h0 := h.1
  have h1 := h.2.1
  cases hb : x.getLsbD (128 - n).toNat
  · left
    apply BitVec.eq_of_getLsbD_eq
    intro j hj
    rw [cut_bit x (n - 1) j hj]
    by_cases c : 128 - (n - 1).toNat ≤ j
    · rw [decide_eq_true c, Bool.and_true]
    · simp only [c, decide_false, Bool.and_false]
      by_cases d : j = (128 - n).toNat
      · rw [d, hb]
      · rw [rt_bit F x n h j hj (by omega)]
  · right
    apply BitVec.eq_of_getLsbD_eq
    intro j hj
    rw [BitVec.getLsbD_or, cut_bit x (n - 1) j hj, bit1_bit (n - 1) (by omega) j hj]
    by_cases c : 128 - (n - 1).toNat ≤ j
    · have e : ¬ (j : Int) = 127 - (n - 1) := by omega
      rw [decide_eq_true c, decide_eq_false e, Bool.and_true, Bool.or_false]
    · by_cases d : j = (128 - n).toNat
      · have e : (j : Int) = 127 - (n - 1) := by omega
        rw [d, hb]
        simp
        omega
      · have e : ¬ (j : Int) = 127 - (n - 1) := by omega
        rw [rt_bit F x n h j hj (by omega)]
        simp [c, e]
/-- The next one is not the sibling. -/
theorem no_sib (F : Int) (a b : BitVec 128) (h : Rng F a b) (hq : ¬ lastW F a (widN F a b) = b) (hn : 0 < widN F a b) :
    ¬ (sibV a (widN F a b) = nextV F (lastW F a (widN F a b)) ∧ sibN (widN F a b) = widN F (nextV F (lastW F a (widN F a b))) b) := by
  rintro ⟨e1, e2⟩
  obtain ⟨hr, hl⟩ := wid_rt F a b h
  obtain ⟨n1, n2, n3⟩ := rng_next F a b h hq
  obtain ⟨hr2, hl2⟩ := wid_rt F _ b n2
  obtain ⟨hf, ha⟩ := right0 F a h.1
  have hF := (fam_bd F hf).2
  have h1 := hr.2.1
  have pp := Nat.two_pow_pos (128 - (widN F a b).toNat)
  have iff := wid_iff F a b h.1 h.2.1 h.2.2 (widN F a b - 1) (by omega) (by omega)
  unfold sibN at e2
  rw [if_neg (by omega)] at e2
  rw [← e2] at hl2 hr2
  generalize hw : widN F a b = n at *
  unfold sibV at e1
  rw [if_neg (by omega)] at e1
  have hz : Rt F (cutW a (n - 1)) (n - 1) := ⟨by omega, by omega, maskW_idem a (n - 1)⟩
  rcases half_or F a n hr hn hF with q | q
  · rw [q] at hz
    have s := (kid_sibL F a (n - 1) hz (by omega) hF).1
    unfold sibV at s
    rw [if_neg (by omega), show n - 1 + 1 = n by omega] at s
    have k := kid_last F a (n - 1) hz (by omega) hF
    rw [show n - 1 + 1 = n by omega, ← s, e1] at k
    rw [k] at hl2
    have := iff.mp ⟨q, hl2⟩
    omega
  · have s := kid_sibH F (cutW a (n - 1)) (n - 1) hz (by omega) hF
    unfold sibV at s
    rw [if_neg (by omega), show n - 1 + 1 = n by omega, q, e1] at s
    have k := kid_nat F (cutW a (n - 1)) (n - 1) hz (by omega) hF
    rw [q, ← s] at k
    have := Nat.two_pow_pos (127 - (n - 1).toNat)
    omega
/-- One behind the other. -/
def Lnk (F : Int) (p q : BitVec 128 × Int) : Prop := nextB F (lastW F p.1 p.2) = true ∧ q.1 = nextV F (lastW F p.1 p.2) ∧ ¬ (0 < p.2 ∧ sibV p.1 p.2 = q.1 ∧ sibN p.2 = q.2)
theorem cov_good (F : Int) (b : BitVec 128) : ∀ k a, Rng F a b → b.toNat < a.toNat + k → ∀ T, T = covL F b k a → 0 < T.length ∧ (∀ (h : 0 < T.length), T[0].1 = a) ∧
    (∀ i (h : i < T.length), Rt F T[i].1 T[i].2) ∧ (∀ i (h : i + 1 < T.length), Lnk F T[i] T[i + 1]) ∧ (∀ i (h : i < T.length), i + 1 = T.length → lastW F T[i].1 T[i].2 = b) := by
  intro k
  induction k with
  | zero => intro a h hk; have := h.2.2; omega
  | succ k ih =>
    intro a h hk T hT
    obtain ⟨hr, hl⟩ := wid_rt F a b h
    by_cases q : lastW F a (widN F a b) = b
    · have e := cov_end F b k a q
      rw [e] at hT
      subst hT
      refine ⟨by simp, by simp, ?_, by simp, ?_⟩
      · intro i hi
        have : i = 0 := by simpa using hi
        subst this
        exact hr
      · intro i hi _
        have : i = 0 := by simpa using hi
        subst this
        exact q
    · have e := cov_on F b k a q
      obtain ⟨n1, n2, n3⟩ := rng_next F a b h q
      have pp := Nat.two_pow_pos (128 - (widN F a b).toNat)
      obtain ⟨R, hR⟩ : ∃ R, R = covL F b k (nextV F (lastW F a (widN F a b))) := ⟨_, rfl⟩
      obtain ⟨i1, i2, i3, i4, i5⟩ := ih _ n2 (by omega) R hR
      -- the head of the rest
      have hd : ∀ (h : 0 < R.length), R[0].2 = widN F (nextV F (lastW F a (widN F a b))) b := by
        intro h'
        cases k with
        | zero => rw [hR] at h'; simp [covL] at h'
        | succ k =>
          have : R = covL F b (k + 1) (nextV F (lastW F a (widN F a b))) := hR
          rw [covL] at this
          subst this
          rfl
      have ns := fun hn => no_sib F a b h q hn
      rw [e, ← hR] at hT
      subst hT
      refine ⟨by simp, by simp, ?_, ?_, ?_⟩
      · intro i hi
        cases i with
        | zero => exact hr
        | succ i => exact i3 i (by simpa using hi)
      · intro i hi
        cases i with
        | zero =>
          refine ⟨n1, i2 i1, ?_⟩
          rintro ⟨c1, c2, c3⟩
          refine ns c1 ⟨?_, ?_⟩
          · rw [← i2 i1]; exact c2
          · rw [← hd i1]; exact c3
        | succ i => exact i4 i (by simpa using hi)
      · intro i hi hl'
        cases i with
        | zero => simp at hl'; rw [hl'] at i1; simp at i1
        | succ i => exact i5 i (by simpa using hi) (by simpa using hl')
end Go.Proofs.YtkgfeegcdohkdaaDoor
/-
  What Merge makes of right prefixes: it has the same addresses, is in order, and is merged already: plain facts.
-/
namespace Go.Proofs.YtkgfeegcdohkdaaDoor
set_option linter.unusedSimpArgs false
set_option linter.unusedVariables false

/-- Has a prefix the word? -/
def Hs (p : BitVec 128 × Int) (c : BitVec 128) : Prop := cutW c p.2 = p.1
theorem uni_hs {F : Int} {a p r : BitVec 128 × Int} (hF : F ≤ 128) (ha : Rp F a) (hp : Rp F p) (e : uniV a p = some r) (c : BitVec 128) : Hs r c ↔ Hs a c ∨ Hs p c := by
  unfold uniV at e
  split at e
  · rename_i h
    cases e
    refine ⟨Or.inl, fun h' => ?_⟩
    rcases h' with h' | h'
    · exact h'
    · have := within_has F p.1 p.2 a.1 a.2 c ha h (by simpa [Hs] using h')
      simpa [Hs] using this
  · split at e
    · rename_i cc
      cases e
      obtain ⟨c0, c1, c2⟩ := cc
      have n1 : parentN a.2 = a.2 - 1 := by unfold parentN; rw [if_neg (by omega)]
      have n2 : parentV a.1 a.2 = cutW a.1 (a.2 - 1) := by unfold parentV; rw [if_neg (by omega)]
      have n3 : sibN a.2 = a.2 := by unfold sibN; rw [if_neg (by omega)]
      rw [n3] at c2
      unfold sibV at c1
      rw [if_neg (by omega)] at c1
      unfold Hs
      rw [n1, n2, ← c1, ← c2]
      have h1 := ha.1
      have h2 := ha.2.1
      have h3 := ha.2.2
      have cutup : ∀ x : BitVec 128, cutW (cutW x a.2) (a.2 - 1) = cutW x (a.2 - 1) := fun x => cut_cut x (a.2 - 1) a.2 (by omega) (by omega)
      have lowx : cutW (a.1 ^^^ bit1 (a.2 - 1)) (a.2 - 1) = cutW a.1 (a.2 - 1) := by
        apply BitVec.eq_of_getLsbD_eq
        intro j hj
        rw [cut_bit _ _ _ hj, cut_bit _ _ _ hj, BitVec.getLsbD_xor, bit1_bit (a.2 - 1) (by omega) j hj]
        by_cases c : 128 - (a.2 - 1).toNat ≤ j
        · have : decide ((j : Int) = 127 - (a.2 - 1)) = false := by simp; omega
          rw [this]; simp
        · rw [decide_eq_false c]; simp
      constructor
      · intro h
        have hb : ∀ j : Nat, j < 128 → 128 - (a.2 - 1).toNat ≤ j → c.getLsbD j = a.1.getLsbD j := by
          intro j hj hjj
          have := congrArg (fun z => z.getLsbD j) h
          simp only [cut_bit _ _ _ hj, decide_eq_true hjj, Bool.and_true] at this
          exact this
        have key : ∀ y : BitVec 128, (∀ j : Nat, j < 128 → (j : Int) < 128 - a.2 → y.getLsbD j = false) → (∀ j : Nat, j < 128 → 128 - (a.2 - 1).toNat ≤ j → c.getLsbD j = y.getLsbD j) → (c.getLsbD (127 - (a.2 - 1).toNat) = y.getLsbD (127 - (a.2 - 1).toNat)) → cutW c a.2 = y := by
          intro y y0 y1 y2
          apply BitVec.eq_of_getLsbD_eq
          intro j hj
          rw [cut_bit _ _ _ hj]
          by_cases c1 : 128 - (a.2 - 1).toNat ≤ j
          · rw [y1 j hj c1, decide_eq_true (by omega)]; simp
          · by_cases c2 : j = 127 - (a.2 - 1).toNat
            · subst c2
              rw [y2, decide_eq_true (by omega)]; simp
            · rw [y0 j hj (by omega), decide_eq_false (by omega)]; simp
        have a0 : ∀ j : Nat, j < 128 → (j : Int) < 128 - a.2 → a.1.getLsbD j = false := fun j hj hn => rt_bit F a.1 a.2 ha j hj hn
        by_cases hc : c.getLsbD (127 - (a.2 - 1).toNat) = a.1.getLsbD (127 - (a.2 - 1).toNat)
        · exact .inl (key a.1 a0 hb hc)
        · refine .inr (key _ ?_ ?_ ?_)
          · intro j hj hn
            rw [BitVec.getLsbD_xor, bit1_bit (a.2 - 1) (by omega) j hj, a0 j hj hn]
            have : decide ((j : Int) = 127 - (a.2 - 1)) = false := by simp; omega
            rw [this]; rfl
          · intro j hj hn
            rw [BitVec.getLsbD_xor, bit1_bit (a.2 - 1) (by omega) j hj, hb j hj hn]
            have : decide ((j : Int) = 127 - (a.2 - 1)) = false := by simp; omega
            rw [this]; simp
          · rw [BitVec.getLsbD_xor, bit1_bit (a.2 - 1) (by omega) _ (by omega)]
            have : decide (((127 - (a.2 - 1).toNat : Nat) : Int) = 127 - (a.2 - 1)) = true := by simp; omega
            rw [this]
            cases h5 : c.getLsbD (127 - (a.2 - 1).toNat) <;> cases h6 : a.1.getLsbD (127 - (a.2 - 1).toNat) <;> simp_all
      · rintro (h | h)
        · rw [← cutup c, h]
        · rw [← cutup c, h, lowx]
    · cases e
theorem ptIn_hs {F : Int} (hF : F ≤ 128) (c : BitVec 128) : ∀ (st : List (BitVec 128 × Int)) (p : BitVec 128 × Int), (∀ a ∈ st, Rp F a) → Rp F p → ((∃ q ∈ ptIn st p, Hs q c) ↔ (∃ q ∈ st, Hs q c) ∨ Hs p c) := by
  intro st
  induction st with
  | nil => intro p _ _; simp [ptIn]
  | cons a st ih =>
    intro p hs hp
    have ha := hs a (List.mem_cons_self ..)
    have hs' := fun b hb => hs b (List.mem_cons_of_mem _ hb)
    cases e : uniV a p with
    | none => rw [ptIn_none e]; simp only [List.mem_cons, exists_eq_or_imp]; constructor
              · rintro (h | h)
                · exact .inr h
                · exact .inl h
              · rintro (h | h)
                · exact .inr h
                · exact .inl h
    | some r =>
      rw [ptIn_some e, ih r hs' (uni_rp hF ha hp e).1, uni_hs hF ha hp e c]
      simp only [List.mem_cons, exists_eq_or_imp]
      constructor
      · rintro (h | h | h)
        · exact .inl (.inr h)
        · exact .inl (.inl h)
        · exact .inr h
      · rintro ((h | h) | h)
        · exact .inr (.inl h)
        · exact .inl h
        · exact .inr (.inr h)
theorem ptAll_hs {F : Int} (hF : F ≤ 128) (c : BitVec 128) : ∀ (l st : List (BitVec 128 × Int)), (∀ a ∈ st, Rp F a) → (∀ a ∈ l, Rp F a) → ((∃ q ∈ ptAll st l, Hs q c) ↔ (∃ q ∈ st, Hs q c) ∨ ∃ q ∈ l, Hs q c) := by
  intro l
  induction l with
  | nil => intro st _ _; simp [ptAll]
  | cons p l ih =>
    intro st hs hl
    have hp := hl p (List.mem_cons_self ..)
    show (∃ q ∈ ptAll (ptIn st p) l, Hs q c) ↔ _
    rw [ih _ (ptIn_rp hF st p hs hp) (fun a ha => hl a (List.mem_cons_of_mem _ ha)), ptIn_hs hF c st p hs hp]
    simp only [List.mem_cons, exists_eq_or_imp, or_assoc]
theorem merge_hs {F : Int} (hF : F ≤ 128) (c : BitVec 128) (l : List (BitVec 128 × Int)) (hl : ∀ a ∈ l, Rp F a) : (∃ q ∈ (ptAll [] (sortL l)).reverse, Hs q c) ↔ ∃ q ∈ l, Hs q c := by
  have := ptAll_hs hF c (sortL l) [] (fun a ha => by cases ha) (fun a ha => hl a (sortL_mem.mp ha))
  simp only [List.mem_reverse]
  rw [this]
  simp [sortL_mem]
/-- One prefix ends ahead of another one. -/
def Bf (p q : BitVec 128 × Int) : Prop := p.1.toNat + 2 ^ (128 - p.2.toNat) ≤ q.1.toNat
def Le (p q : BitVec 128 × Int) : Prop := p.1.toNat < q.1.toNat ∨ (p.1 = q.1 ∧ p.2 ≤ q.2)
theorem bf_lt {p q : BitVec 128 × Int} (h : Bf p q) : p.1.toNat < q.1.toNat := by
  unfold Bf at h
  have := Nat.two_pow_pos (128 - p.2.toNat)
  omega
theorem bf_le {p q : BitVec 128 × Int} (h : Bf p q) : Le p q := .inl (bf_lt h)
theorem le_trans' {p q r : BitVec 128 × Int} (h : Le p q) (g : Le q r) : Le p r := by
  unfold Le at *
  rcases h with h | ⟨h1, h2⟩ <;> rcases g with g | ⟨g1, g2⟩
  · exact .inl (by omega)
  · exact .inl (by rw [← g1]; exact h)
  · exact .inl (by rw [h1]; exact g)
  · exact .inr ⟨h1.trans g1, by omega⟩
theorem wi_le {p r : BitVec 128 × Int} (h : Wi p r) : Le r p := by
  have := cut_le p.1 r.2
  rw [h.2] at this
  by_cases c : r.1 = p.1
  · exact .inr ⟨c, h.1⟩
  · refine .inl ?_
    have : r.1.toNat ≠ p.1.toNat := fun e => c (BitVec.eq_of_toNat_eq e)
    omega
theorem le_bf {F : Int} {a p : BitVec 128 × Int} (hF : F ≤ 128) (ha : Rp F a) (hp : Rp F p) (h : Le a p) (hn : ¬ Wi p a) : Bf a p := by
  have da := (cut_dvd a.1 a.2).mp ha.2.2
  have dp := (cut_dvd p.1 p.2).mp hp.2.2
  have a0 := ha.1
  have p0 := hp.1
  have lt : a.1.toNat < p.1.toNat := by
    rcases h with h | ⟨h1, h2⟩
    · exact h
    · exact absurd ⟨h2, by rw [← h1]; exact ha.2.2⟩ hn
  unfold Bf
  rcases Nat.lt_or_ge p.1.toNat (a.1.toNat + 2 ^ (128 - a.2.toNat)) with c | c
  · exfalso
    by_cases hnm : a.2 ≤ p.2
    · refine hn ⟨hnm, ?_⟩
      apply BitVec.eq_of_toNat_eq
      rw [cut_nat]
      obtain ⟨k, hk⟩ := da
      rw [hk] at lt c ⊢
      generalize 2 ^ (128 - a.2.toNat) = u at *
      have : p.1.toNat / u = k := by
        apply Nat.div_eq_of_lt_le
        · rw [Nat.mul_comm]; omega
        · rw [Nat.add_mul, Nat.one_mul, Nat.mul_comm k u]; omega
      rw [this, Nat.mul_comm]
    · have hd : 2 ^ (128 - a.2.toNat) ∣ p.1.toNat := Nat.dvd_trans (Nat.pow_dvd_pow 2 (by omega)) dp
      obtain ⟨k, hk⟩ := da
      obtain ⟨m, hm⟩ := hd
      rw [hk] at lt c
      rw [hm] at lt c
      generalize 2 ^ (128 - a.2.toNat) = u at *
      have h1 : k < m := Nat.lt_of_mul_lt_mul_left lt
      have h2 : u * m < u * (k + 1) := by rw [Nat.mul_add]; omega
      have h3 : m < k + 1 := Nat.lt_of_mul_lt_mul_left h2
      omega
  · exact c
/-- The parent of the lower one of two siblings begins where it begins. -/
theorem uni_at {F : Int} {a p r : BitVec 128 × Int} (hF : F ≤ 128) (ha : Rp F a) (hp : Rp F p) (h : Le a p) (e : uniV a p = some r) : r.1 = a.1 := by
  unfold uniV at e
  split at e
  · cases e; rfl
  · split at e
    · rename_i cc
      cases e
      obtain ⟨c0, c1, c2⟩ := cc
      have n2 : parentV a.1 a.2 = cutW a.1 (a.2 - 1) := by unfold parentV; rw [if_neg (by omega)]
      have n3 : sibN a.2 = a.2 := by unfold sibN; rw [if_neg (by omega)]
      rw [n3] at c2
      unfold sibV at c1
      rw [if_neg (by omega)] at c1
      show parentV a.1 a.2 = a.1
      rw [n2]
      have h2 := ha.2.1
      rcases half_or F a.1 a.2 ha c0 hF with x | x
      · exact x
      · exfalso
        have ax : a.1 ^^^ bit1 (a.2 - 1) = cutW a.1 (a.2 - 1) := by
          apply BitVec.eq_of_getLsbD_eq
          intro j hj
          have xb := congrArg (fun z => z.getLsbD j) x
          simp only [BitVec.getLsbD_or, bit1_bit (a.2 - 1) (by omega) j hj] at xb
          rw [BitVec.getLsbD_xor, bit1_bit (a.2 - 1) (by omega) j hj]
          by_cases hj2 : (j : Int) = 127 - (a.2 - 1)
          · rw [decide_eq_true hj2] at xb ⊢
            rw [← xb, cut_bit _ _ _ hj, decide_eq_false (show ¬ 128 - (a.2 - 1).toNat ≤ j by omega)]
            simp
          · rw [decide_eq_false hj2] at xb ⊢
            rw [← xb]; simp
        rw [c1] at ax
        have le := cut_le a.1 (a.2 - 1)
        rw [← ax] at le
        rcases h with h | ⟨h, -⟩
        · omega
        · have b1 : a.1.getLsbD (127 - (a.2 - 1).toNat) = true := by
            rw [← x, BitVec.getLsbD_or, bit1_bit (a.2 - 1) (by omega) _ (by omega)]
            have : decide (((127 - (a.2 - 1).toNat : Nat) : Int) = 127 - (a.2 - 1)) = true := by simp; omega
            rw [this]; simp
          rw [h, ax, cut_bit _ _ _ (by omega), decide_eq_false (by omega)] at b1
          simp at b1
    · cases e
theorem uni_no {a p : BitVec 128 × Int} (e : uniV a p = none) : ¬ Wi p a := by
  intro h
  unfold uniV at e
  rw [if_pos ((wi_iff _ _).mpr h)] at e
  cases e
theorem ptIn_ord {F : Int} (hF : F ≤ 128) : ∀ (st : List (BitVec 128 × Int)) (p : BitVec 128 × Int), (∀ a ∈ st, Rp F a) → Rp F p → st.Pairwise (fun x y => Bf y x) → (∀ a ∈ st, Le a p) → (ptIn st p).Pairwise (fun x y => Bf y x) ∧ ∀ a ∈ ptIn st p, Le a p := by
  intro st
  induction st with
  | nil =>
    intro p _ _ _ _
    refine ⟨by simp [ptIn], ?_⟩
    intro a ha
    simp [ptIn] at ha
    subst ha
    exact .inr ⟨rfl, Int.le_refl _⟩
  | cons a st ih =>
    intro p hs hp hpw hle
    have ha := hs a (List.mem_cons_self ..)
    have hs' := fun b hb => hs b (List.mem_cons_of_mem _ hb)
    have hpw' := List.pairwise_cons.mp hpw
    have lea := hle a (List.mem_cons_self ..)
    cases e : uniV a p with
    | none =>
      rw [ptIn_none e]
      have bap := le_bf hF ha hp lea (uni_no e)
      refine ⟨List.pairwise_cons.mpr ⟨?_, hpw⟩, ?_⟩
      · intro b hb
        rcases List.mem_cons.mp hb with rfl | hb
        · exact bap
        · have := hpw'.1 b hb
          have := bf_lt bap
          unfold Bf at *
          omega
      · intro b hb
        rcases List.mem_cons.mp hb with rfl | hb
        · exact .inr ⟨rfl, Int.le_refl _⟩
        · exact hle b hb
    | some r =>
      obtain ⟨u1, u2, u3⟩ := uni_rp hF ha hp e
      have at' := uni_at hF ha hp lea e
      rw [ptIn_some e]
      obtain ⟨i1, i2⟩ := ih r hs' u1 hpw'.2 (fun b hb => by
        have := hpw'.1 b hb
        unfold Bf at this
        rw [← at'] at this
        exact bf_le this)
      exact ⟨i1, fun b hb => le_trans' (i2 b hb) (wi_le u2)⟩
theorem ptAll_ord {F : Int} (hF : F ≤ 128) : ∀ (l st : List (BitVec 128 × Int)), (∀ a ∈ st, Rp F a) → (∀ a ∈ l, Rp F a) → st.Pairwise (fun x y => Bf y x) → l.Pairwise Le → (∀ a ∈ st, ∀ p ∈ l, Le a p) → (ptAll st l).Pairwise (fun x y => Bf y x) := by
  intro l
  induction l with
  | nil => intro st _ _ h _ _; exact h
  | cons p l ih =>
    intro st hs hl hpw hlp hle
    have hp := hl p (List.mem_cons_self ..)
    have hlp' := List.pairwise_cons.mp hlp
    obtain ⟨i1, i2⟩ := ptIn_ord hF st p hs hp hpw (fun a ha => hle a ha p (List.mem_cons_self ..))
    exact ih _ (ptIn_rp hF st p hs hp) (fun a ha => hl a (List.mem_cons_of_mem _ ha)) i1 hlp'.2 (fun a ha q hq => le_trans' (i2 a ha) (hlp'.1 q hq))
theorem ptAll_stab : ∀ (l st : List (BitVec 128 × Int)), Stab st → Stab (ptAll st l) := by
  intro l
  induction l with
  | nil => intro st h; exact h
  | cons p l ih => intro st h; exact ih _ (ptIn_stab st p h)
theorem sortL_le (l : List (BitVec 128 × Int)) : (sortL l).Pairwise Le := by
  refine (sortL_pair l).imp ?_
  intro a b h
  rw [ltP_no] at h
  rcases h with h | ⟨h1, h2⟩
  · exact .inl h
  · exact .inr ⟨h1.symm, h2⟩
theorem merge_ord {F : Int} (hF : F ≤ 128) (l : List (BitVec 128 × Int)) (hl : ∀ a ∈ l, Rp F a) : (ptAll [] (sortL l)).reverse.Pairwise Bf := by
  rw [List.pairwise_reverse]
  exact ptAll_ord hF (sortL l) [] (fun a ha => by cases ha) (fun a ha => hl a (sortL_mem.mp ha)) List.Pairwise.nil (sortL_le l) (fun a ha => by cases ha)
theorem sortL_of (l : List (BitVec 128 × Int)) (h : l.Pairwise Bf) : sortL l = l := by
  unfold sortL
  apply List.mergeSort_of_pairwise
  refine h.imp ?_
  intro a b hab
  have := bf_lt hab
  have : ltOf cfP b a = false := by
    rw [ltP_no]
    exact .inl this
  simp [this]
/-- A list that nothing unites is merged already. -/
theorem ptAll_plain : ∀ (l st : List (BitVec 128 × Int)), Stab (l.reverse ++ st) → ptAll st l = l.reverse ++ st := by
  intro l
  induction l with
  | nil => intro st _; rfl
  | cons p l ih =>
    intro st h
    rw [List.reverse_cons, List.append_assoc] at h ⊢
    have h' : Stab (p :: st) := by
      have : ∀ (u v : List (BitVec 128 × Int)), Stab (u ++ v) → Stab v := by
        intro u
        induction u with
        | nil => intro v h; exact h
        | cons a u ihu => intro v h; exact ihu v (stab_tail h)
      exact this _ _ h
    have e : ptIn st p = p :: st := by
      cases st with
      | nil => rfl
      | cons a st => exact ptIn_none h'.1
    show ptAll (ptIn st p) l = _
    rw [e]
    exact ih (p :: st) h
theorem merge_again {F : Int} (hF : F ≤ 128) (l : List (BitVec 128 × Int)) (hl : ∀ a ∈ l, Rp F a) : ptAll [] (sortL (ptAll [] (sortL l)).reverse) = ptAll [] (sortL l) := by
  rw [sortL_of _ (merge_ord hF l hl), ptAll_plain _ [] (by rw [List.reverse_reverse, List.append_nil]; exact ptAll_stab _ [] trivial), List.reverse_reverse, List.append_nil]
end Go.Proofs.YtkgfeegcdohkdaaDoor
/-
  What Rows makes of right prefixes: an address lies in a row just where a prefix has it: plain facts.
-/
namespace Go.Proofs.YtkgfeegcdohkdaaDoor
set_option linter.unusedSimpArgs false
set_option linter.unusedVariables false

/-- Has a segment the word? -/
def Ss (s : BitVec 128 × BitVec 128) (c : BitVec 128) : Prop := s.1.toNat ≤ c.toNat ∧ c.toNat ≤ s.2.toNat
def Sg (s : BitVec 128 × BitVec 128) : Prop := s.1.toNat ≤ s.2.toNat
theorem fam_dvd (F : Int) (c : BitVec 128) (h : cutW c F = c) : 2 ^ (128 - F.toNat) ∣ c.toNat := (cut_dvd c F).mp h
theorem bes_ss {F : Int} {a p r c : BitVec 128 × BitVec 128} (ha : Sg a) (hp : Sg p) (e : besV F a p = some r) (d : BitVec 128) (hd : cutW d F = d) : Sg r ∧ (Ss r d ↔ Ss a d ∨ Ss p d) := by
  unfold besV at e
  split at e
  · rename_i h
    cases e
    obtain ⟨h1, h2⟩ := h
    obtain ⟨n1, n2, n3, n4⟩ := next_nat F a.2 h1
    rw [h2] at n1
    have d1 := fam_dvd F d hd
    have d2 := fam_dvd F a.2 n3
    obtain ⟨i, hi⟩ := d1
    obtain ⟨j, hj⟩ := d2
    have hpos := Nat.two_pow_pos (128 - F.toNat)
    unfold Sg Ss at *
    simp only
    generalize 2 ^ (128 - F.toNat) = u at *
    refine ⟨by omega, ?_⟩
    have key : a.2.toNat < d.toNat → p.1.toNat ≤ d.toNat := by
      intro h
      rw [n1, hi, hj] at *
      have : j < i := Nat.lt_of_mul_lt_mul_left h
      have h9 := Nat.mul_le_mul_left u (show j + 1 ≤ i from this)
      rw [Nat.mul_add, Nat.mul_one] at h9
      exact h9
    constructor
    · rintro ⟨h3, h4⟩
      rcases Nat.lt_or_ge a.2.toNat d.toNat with c | c
      · exact .inr ⟨key c, h4⟩
      · exact .inl ⟨h3, c⟩
    · rintro (⟨h3, h4⟩ | ⟨h3, h4⟩)
      · exact ⟨h3, by omega⟩
      · exact ⟨by omega, h4⟩
  · cases e
theorem psIn_ss {F : Int} (d : BitVec 128) (hd : cutW d F = d) : ∀ (st : List (BitVec 128 × BitVec 128)) (p : BitVec 128 × BitVec 128), (∀ a ∈ st, Sg a) → Sg p → (∀ a ∈ psIn F st p, Sg a) ∧ ((∃ q ∈ psIn F st p, Ss q d) ↔ (∃ q ∈ st, Ss q d) ∨ Ss p d) := by
  intro st
  induction st with
  | nil => intro p _ hp; refine ⟨fun a ha => ?_, by simp [psIn]⟩; simp [psIn] at ha; rw [ha]; exact hp
  | cons a st ih =>
    intro p hs hp
    have ha := hs a (List.mem_cons_self ..)
    have hs' := fun b hb => hs b (List.mem_cons_of_mem _ hb)
    cases e : besV F a p with
    | none =>
      rw [psIn_none e]
      refine ⟨fun b hb => ?_, ?_⟩
      · rcases List.mem_cons.mp hb with rfl | hb
        · exact hp
        · exact hs b hb
      · simp only [List.mem_cons, exists_eq_or_imp]
        constructor
        · rintro (h | h)
          · exact .inr h
          · exact .inl h
        · rintro (h | h)
          · exact .inr h
          · exact .inl h
    | some r =>
      obtain ⟨u1, u2⟩ := bes_ss (c := a) ha hp e d hd
      obtain ⟨i1, i2⟩ := ih r hs' u1
      rw [psIn_some e]
      refine ⟨i1, ?_⟩
      rw [i2, u2]
      simp only [List.mem_cons, exists_eq_or_imp]
      constructor
      · rintro (h | h | h)
        · exact .inl (.inr h)
        · exact .inl (.inl h)
        · exact .inr h
      · rintro ((h | h) | h)
        · exact .inr (.inl h)
        · exact .inl h
        · exact .inr (.inr h)
theorem psAll_ss {F : Int} (d : BitVec 128) (hd : cutW d F = d) : ∀ (l st : List (BitVec 128 × BitVec 128)), (∀ a ∈ st, Sg a) → (∀ a ∈ l, Sg a) → ((∃ q ∈ psAll F st l, Ss q d) ↔ (∃ q ∈ st, Ss q d) ∨ ∃ q ∈ l, Ss q d) := by
  intro l
  induction l with
  | nil => intro st _ _; simp [psAll]
  | cons p l ih =>
    intro st hs hl
    obtain ⟨i1, i2⟩ := psIn_ss d hd st p hs (hl p (List.mem_cons_self ..))
    show (∃ q ∈ psAll F (psIn F st p) l, Ss q d) ↔ _
    rw [ih _ i1 (fun a ha => hl a (List.mem_cons_of_mem _ ha)), i2]
    simp only [List.mem_cons, exists_eq_or_imp, or_assoc]
theorem rows_ss {F : Int} (m : List (BitVec 128 × Int)) (hm : ∀ p ∈ m, Rp F p) (d : BitVec 128) (hd : cutW d F = d) : (∃ q ∈ (psAll F [] (segL F m)).reverse, Ss q d) ↔ ∃ p ∈ m, Hs p d := by
  simp only [List.mem_reverse]
  rw [psAll_ss d hd (segL F m) [] (fun a ha => by cases ha) (fun a ha => by
    unfold segL at ha
    obtain ⟨p, hp, rfl⟩ := List.mem_map.mp ha
    have h := hm p hp
    exact ((has_ends F p.1 p.2 h p.1 (rt_fam F p.1 p.2 h)).mp h.2.2).2)]
  unfold segL
  simp only [List.not_mem_nil, false_and, exists_false, false_or, List.mem_map]
  constructor
  · rintro ⟨q, ⟨p, hp, rfl⟩, h⟩
    exact ⟨p, hp, (has_ends F p.1 p.2 (hm p hp) d hd).mpr h⟩
  · rintro ⟨p, hp, h⟩
    exact ⟨_, ⟨p, hp, rfl⟩, (has_ends F p.1 p.2 (hm p hp) d hd).mp h⟩
theorem psIn_le (F : Int) (st : List (BitVec 128 × BitVec 128)) : ∀ p, (psIn F st p).length ≤ st.length + 1 := by
  induction st with
  | nil => intro p; exact Nat.le_refl _
  | cons a st ih =>
    intro p
    cases e : besV F a p with
    | none => rw [psIn_none e]; simp
    | some r => rw [psIn_some e]; have := ih r; simp only [List.length_cons]; omega
theorem psAll_le (F : Int) (l : List (BitVec 128 × BitVec 128)) : ∀ st, (psAll F st l).length ≤ st.length + l.length := by
  induction l with
  | nil => intro st; exact Nat.le_refl _
  | cons p l ih =>
    intro st
    have := ih (psIn F st p)
    have := psIn_le F st p
    show (psAll F (psIn F st p) l).length ≤ _
    simp only [List.length_cons]
    omega
end Go.Proofs.YtkgfeegcdohkdaaDoor
/-
  What the calls of package ranges' size, plus and Count do.
-/
namespace Go.Proofs.YtkgfeegcdohkdaaDoor
open Go.RowKit
set_option linter.unusedSimpArgs false
set_option linter.unusedVariables false

/-- A number of addresses, as the program has it. -/
def cost0 (N : Nat) : Int := ((N / 340282366920938463463374607431768211456 : Nat) : Int)
def cost1 (N : Nat) : Int := ((N / 18446744073709551616 % 18446744073709551616 : Nat) : Int)
def cost2 (N : Nat) : Int := ((N % 18446744073709551616 : Nat) : Int)
def costV (N : Nat) : Value := .agg #[.int .u64 (cost0 N), .int .u64 (cost1 N), .int .u64 (cost2 N)]
theorem pow_lt64 (m : Nat) (h : m < 64) : 2 ^ m < 18446744073709551616 := by
  have := Nat.pow_lt_pow_right (a := 2) (by decide) h
  simpa using this
theorem wrap_pow (m : Nat) (h : m < 64) : IntKind.u64.wrap ((2 : Int) ^ m) = ((2 ^ m : Nat) : Int) := by
  have := pow_lt64 m h
  have e : ((2 : Int) ^ m) = ((2 ^ m : Nat) : Int) := by simp
  have h0 := Nat.two_pow_pos m
  rw [e, IntKind.wrap_u64]
  generalize 2 ^ m = t at *
  omega
theorem cost_0 (m : Nat) (h : m < 64) : costV (2 ^ m) = .agg #[.int .u64 0, .int .u64 0, .int .u64 ((2 ^ m : Nat) : Int)] := by
  have := pow_lt64 m h
  unfold costV cost0 cost1 cost2
  rw [Nat.div_eq_of_lt (by omega), Nat.div_eq_of_lt this, Nat.mod_eq_of_lt this]
  rfl
theorem cost_1 (m : Nat) (h : m < 64) : costV (2 ^ (m + 64)) = .agg #[.int .u64 0, .int .u64 ((2 ^ m : Nat) : Int), .int .u64 0] := by
  have := pow_lt64 m h
  have e : 2 ^ (m + 64) = 2 ^ m * 18446744073709551616 := by rw [Nat.pow_add]
  unfold costV cost0 cost1 cost2
  rw [e, Nat.mul_mod_left, Nat.mul_div_cancel _ (by decide), Nat.mod_eq_of_lt this, Nat.div_eq_of_lt (by omega)]
  rfl
theorem cost_2 : costV (2 ^ 128) = .agg #[.int .u64 1, .int .u64 0, .int .u64 0] := by
  have a : cost0 (2 ^ 128) = 1 := by decide +kernel
  have b : cost1 (2 ^ 128) = 0 := by decide +kernel
  have c : cost2 (2 ^ 128) = 0 := by decide +kernel
  unfold costV
  rw [a, b, c]
set_option maxRecDepth 20000 in
set_option maxHeartbeats 2000000 in
theorem size_any (F : Int) (x : BitVec 128) (n : Int) (w : World) (h0 : 0 ≤ n) (h1 : n ≤ F) (h2 : F ≤ 128) :
    Calls Tryd.prog 65 #[.int .i64 F, .agg #[.int .u64 (hI x), .int .u64 (lI x), .int .i64 n]] w fun e w' => e = .returned (costV (2 ^ (F - n).toNat)) ∧ Below w.heap.size w w' := by
  obtain ⟨m, hm⟩ : ∃ k : Nat, F - n = (k : Int) := ⟨(F - n).toNat, by omega⟩
  have e1 : IntKind.i64.wrap (F - n) = (m : Int) := by rw [IntKind.wrap_i64]; omega
  have hb : ∀ o p q : Obj, Below w.heap.size w (((w.alloc o).alloc p).alloc q) := fun o p q => (((Below.refl _ w).alloc (Nat.le_refl _) o).alloc (by simp) p).alloc (by simp; omega) q
  rw [hm, Int.toNat_natCast]
  by_cases c0 : m < 64
  · have d0 : (m : Int) / 64 = 0 := by omega
    have d1 : (m : Int) % 64 = (m : Int) := by omega
    have ew := wrap_pow m c0
    rw [cost_0 m c0]
    go_enter Tryd.func65, Tryd.ntmps65
    go_wp2
    exact bodyPost_ret (v := .agg #[.int .u64 0, .int .u64 0, .int .u64 ((2 ^ m : Nat) : Int)]) (by simp [results, Tryd.results65, go_sem]) rfl ⟨rfl, hb _ _ _⟩
  · by_cases c1 : m < 128
    · obtain ⟨k, rfl⟩ : ∃ k, m = k + 64 := ⟨m - 64, by omega⟩
      have d0 : ((k + 64 : Nat) : Int) / 64 = 1 := by omega
      have d1 : ((k + 64 : Nat) : Int) % 64 = (k : Int) := by omega
      have ew := wrap_pow k (by omega)
      rw [cost_1 k (by omega)]
      generalize ((k + 64 : Nat) : Int) = mm at *
      go_enter Tryd.func65, Tryd.ntmps65
      go_wp2
      exact bodyPost_ret (v := .agg #[.int .u64 0, .int .u64 ((2 ^ k : Nat) : Int), .int .u64 0]) (by simp [results, Tryd.results65, go_sem]) rfl ⟨rfl, hb _ _ _⟩
    · obtain rfl : m = 128 := by omega
      rw [cost_2]
      go_enter Tryd.func65, Tryd.ntmps65
      go_wp2
      exact bodyPost_ret (v := .agg #[.int .u64 1, .int .u64 0, .int .u64 0]) (by simp [results, Tryd.results65, go_sem]) rfl ⟨rfl, hb _ _ _⟩
theorem plus_plain (N M : Nat) : addS (cost2 N) (cost2 M) 0 = cost2 (N + M) ∧ addS (cost1 N) (cost1 M) (addC (cost2 N) (cost2 M) 0) = cost1 (N + M) ∧ cost0 N + cost0 M + addC (cost1 N) (cost1 M) (addC (cost2 N) (cost2 M) 0) = cost0 (N + M) := by
  unfold addS addC cost0 cost1 cost2
  refine ⟨?_, ?_, ?_⟩
  · omega
  · omega
  · have e : ∀ x : Nat, x / 340282366920938463463374607431768211456 = x / 18446744073709551616 / 18446744073709551616 := fun x => by rw [Nat.div_div_eq_div_mul]
    rw [e, e, e]
    omega
theorem cost_lo (N : Nat) : 0 ≤ cost0 N ∧ 0 ≤ cost1 N ∧ cost1 N < 18446744073709551616 ∧ 0 ≤ cost2 N ∧ cost2 N < 18446744073709551616 := by
  unfold cost0 cost1 cost2
  omega
theorem cost_up (N : Nat) (h : N < 6277101735386680763835789423207666416102355444464034512896) : cost0 N < 18446744073709551616 := by
  unfold cost0
  omega
set_option maxRecDepth 20000 in
set_option maxHeartbeats 2000000 in
theorem plus_any (N M : Nat) (w : World) (h : N + M < 6277101735386680763835789423207666416102355444464034512896) :
    Calls Tryd.prog 64 #[costV N, costV M] w fun e w' => e = .returned (costV (N + M)) ∧ Below w.heap.size w w' := by
  obtain ⟨p1, p2, p3⟩ := plus_plain N M
  have n := cost_lo N
  have m := cost_lo M
  have n0 := cost_up N (by omega)
  have m0 := cost_up M (by omega)
  have s0 := cost_up (N + M) h
  have s1 := (cost_lo (N + M)).1
  have b1 := addC_bd (cost2 N) (cost2 M) 0 n.2.2.2.1 n.2.2.2.2 m.2.2.2.1 m.2.2.2.2 (by omega) (by omega)
  have c1 := callAdd (cost2 N) (cost2 M) 0 n.2.2.2.1 m.2.2.2.1 (by omega) (by omega)
  have c2 := callAdd (cost1 N) (cost1 M) _ n.2.1 m.2.1 b1.1 b1.2
  have b2 := addC_bd (cost1 N) (cost1 M) _ n.2.1 n.2.2.1 m.2.1 m.2.2.1 b1.1 b1.2
  rw [p1] at c1
  rw [p2] at c2
  unfold costV
  generalize addC (cost1 N) (cost1 M) (addC (cost2 N) (cost2 M) 0) = k2 at *
  generalize addC (cost2 N) (cost2 M) 0 = k1 at *
  clear p1 p2
  generalize cost0 (N + M) = r0 at *
  generalize cost1 (N + M) = r1 at *
  generalize cost2 (N + M) = r2 at *
  generalize cost0 N = x0 at *
  generalize cost1 N = x1 at *
  generalize cost2 N = x2 at *
  generalize cost0 M = y0 at *
  generalize cost1 M = y1 at *
  generalize cost2 M = y2 at *
  have w1 : IntKind.u64.wrap (x0 + y0) = x0 + y0 := by rw [IntKind.wrap_u64]; omega
  have w2 : IntKind.u64.wrap (x0 + y0 + k2) = r0 := by rw [IntKind.wrap_u64]; omega
  clear n m n0 m0 s0 s1 b1 b2 p3 h
  go_enter Tryd.func64, Tryd.ntmps64
  go_wp2
  exact bodyPost_ret (v := .agg #[.int .u64 r0, .int .u64 r1, .int .u64 r2]) (by simp [results, Tryd.results64, go_sem]) rfl ⟨rfl, bl3 _ _ _ _⟩
/-- How many addresses they have. -/
def sizN (F : Int) : List (BitVec 128 × Int) → Nat
  | [] => 0
  | p :: l => 2 ^ (F - p.2).toNat + sizN F l
theorem sizN_app (F : Int) (l m : List (BitVec 128 × Int)) : sizN F (l ++ m) = sizN F l + sizN F m := by
  induction l with
  | nil => simp [sizN]
  | cons p l ih => simp only [List.cons_append, sizN, ih]; omega
theorem siz_take (F : Int) (l : List (BitVec 128 × Int)) (k : Nat) (hk : k < l.length) : sizN F (l.take (k + 1)) = sizN F (l.take k) + 2 ^ (F - l[k].2).toNat := by
  rw [List.take_succ_eq_append_getElem hk, sizN_app]
  simp [sizN]
theorem sizN_le (F : Int) (h : F ≤ 128) (l : List (BitVec 128 × Int)) (hb : ∀ p ∈ l, 0 ≤ p.2) : sizN F l ≤ l.length * 340282366920938463463374607431768211456 := by
  induction l with
  | nil => simp [sizN]
  | cons p l ih =>
    have i := ih (fun q hq => hb q (List.mem_cons_of_mem _ hq))
    have j := hb p (List.mem_cons_self ..)
    have k : 2 ^ (F - p.2).toNat ≤ 2 ^ 128 := Nat.pow_le_pow_right (by decide) (by omega)
    have e : 2 ^ 128 = 340282366920938463463374607431768211456 := by decide
    rw [e] at k
    simp only [sizN, List.length_cons]
    omega
end Go.Proofs.YtkgfeegcdohkdaaDoor
