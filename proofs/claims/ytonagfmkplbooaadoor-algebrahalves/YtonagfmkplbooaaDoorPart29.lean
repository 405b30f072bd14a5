/-
  Part 29 of the proof: 6 texts, one behind the other.
-/
import Derived.Test.YtonagfmkplbooaaDoorPart28
import Derived.Test.YtonagfmkplbooaaDoorPart6
import Derived.Test.YtonagfmkplbooaaDoorPart23
import Derived.Test.YtonagfmkplbooaaDoorPart22
import Derived.Test.YtonagfmkplbooaaDoorPart3
import Derived.Test.YtonagfmkplbooaaDoorPart9
import Derived.Test.YtonagfmkplbooaaDoorPart8
import Derived.Test.YtonagfmkplbooaaDoorPart24
/-
  Plain facts on a prefix's kids.
-/
namespace Go.Proofs.YtonagfmkplbooaaDoor
open Go.RowKit
set_option linter.unusedSimpArgs false
set_option linter.unusedVariables false

theorem bit1_nat (n : Int) (h0 : 0 ≤ n) (h1 : n ≤ 127) : (bit1 n).toNat = 2 ^ (127 - n.toNat) := by
  unfold bit1
  rw [BitVec.toNat_ushiftRight, Nat.shiftRight_eq_div_pow, show (maskW 1).toNat = 2 ^ 127 by decide +kernel]
  rw [show (2 : Nat) ^ 127 = 2 ^ (127 - n.toNat) * 2 ^ n.toNat by rw [← Nat.pow_add]; congr 1; omega, Nat.mul_div_cancel _ (Nat.two_pow_pos _)]
theorem rt_room (F : Int) (x : BitVec 128) (n : Int) (h : Rt F x n) (hF : F ≤ 128) : x.toNat + 2 ^ (128 - n.toNat) ≤ 2 ^ 128 := by
  obtain ⟨h0, h1, h2⟩ := h
  obtain ⟨q, hq⟩ := (cut_dvd x n).mp h2
  have xl := x.isLt
  have e : (2 : Nat) ^ 128 = 2 ^ (128 - n.toNat) * 2 ^ n.toNat := by rw [← Nat.pow_add]; congr 1; omega
  rw [hq, e] at xl ⊢
  have := Nat.lt_of_mul_lt_mul_left xl
  calc 2 ^ (128 - n.toNat) * q + 2 ^ (128 - n.toNat) = 2 ^ (128 - n.toNat) * (q + 1) := by rw [Nat.mul_add, Nat.mul_one]
    _ ≤ _ := Nat.mul_le_mul_left _ this
theorem kid_and (F : Int) (x : BitVec 128) (n : Int) (h : Rt F x n) (hn : n < F) (hF : F ≤ 128) : x &&& bit1 n = 0#128 := by
  apply BitVec.eq_of_getLsbD_eq
  intro j hj
  rw [BitVec.getLsbD_and, bit1_bit n h.1 j hj, BitVec.getLsbD_zero]
  by_cases c : (j : Int) = 127 - n
  · rw [rt_bit F x n h j hj (by omega)]; rfl
  · simp [c]
theorem kid_nat (F : Int) (x : BitVec 128) (n : Int) (h : Rt F x n) (hn : n < F) (hF : F ≤ 128) : (x ||| bit1 n).toNat = x.toNat + 2 ^ (127 - n.toNat) := by
  have r := rt_room F x n h hF
  have h0 := h.1
  rw [← BitVec.add_eq_or_of_and_eq_zero _ _ (kid_and F x n h hn hF), BitVec.toNat_add, bit1_nat n h0 (by omega)]
  apply Nat.mod_eq_of_lt
  have : 2 ^ (128 - n.toNat) = 2 ^ (127 - n.toNat) + 2 ^ (127 - n.toNat) := by
    rw [show 128 - n.toNat = (127 - n.toNat) + 1 by omega, Nat.pow_succ]; omega
  have := Nat.two_pow_pos (127 - n.toNat)
  omega
theorem kid_pow (n : Int) (h0 : 0 ≤ n) (h1 : n < 128) : 2 ^ (128 - n.toNat) = 2 ^ (127 - n.toNat) + 2 ^ (127 - n.toNat) ∧ 128 - (n + 1).toNat = 127 - n.toNat := by
  refine ⟨?_, by omega⟩
  rw [show 128 - n.toNat = (127 - n.toNat) + 1 by omega, Nat.pow_succ]; omega
theorem kid_rtL (F : Int) (x : BitVec 128) (n : Int) (h : Rt F x n) (hn : n < F) (hF : F ≤ 128) : Rt F x (n + 1) := by
  obtain ⟨h0, h1, h2⟩ := h
  refine ⟨by omega, by omega, (cut_dvd _ _).mpr ?_⟩
  exact Nat.dvd_trans (Nat.pow_dvd_pow 2 (by omega)) ((cut_dvd x n).mp h2)
theorem kid_rtH (F : Int) (x : BitVec 128) (n : Int) (h : Rt F x n) (hn : n < F) (hF : F ≤ 128) : Rt F (x ||| bit1 n) (n + 1) := by
  have h0 := h.1
  refine ⟨by omega, by omega, (cut_dvd _ _).mpr ?_⟩
  rw [kid_nat F x n h hn hF, (kid_pow n h0 (by omega)).2]
  exact Nat.dvd_add (Nat.dvd_trans (Nat.pow_dvd_pow 2 (by omega)) ((cut_dvd x n).mp h.2.2)) (Nat.dvd_refl _)
theorem kid_last (F : Int) (x : BitVec 128) (n : Int) (h : Rt F x n) (hn : n < F) (hF : F ≤ 128) : lastW F (x ||| bit1 n) (n + 1) = lastW F x n := by
  have h0 := h.1
  have a := last_nat F _ _ (kid_rtH F x n h hn hF) hF
  have b := last_nat F _ _ h hF
  have k := kid_nat F x n h hn hF
  have p := kid_pow n h0 (by omega)
  rw [p.2] at a
  exact BitVec.eq_of_toNat_eq (by omega)
theorem kid_next (F : Int) (x : BitVec 128) (n : Int) (h : Rt F x n) (hn : n < F) (hf : fam F = true) : overB (lastW F x (n + 1)) (putW 0#128 (F - 1) 1) = false ∧ lastW F x (n + 1) + putW 0#128 (F - 1) 1 = x ||| bit1 n := by
  have hF := (fam_bd F hf).2
  have h0 := h.1
  have a := last_nat F _ _ (kid_rtL F x n h hn hF) hF
  have k := kid_nat F x n h hn hF
  have p := kid_pow n h0 (by omega)
  rw [p.2] at a
  have s := step_nat F hf
  have yl := (x ||| bit1 n).isLt
  rw [put_step F hf]
  constructor
  · unfold overB
    rw [s]
    simp
    omega
  · apply BitVec.eq_of_toNat_eq
    rw [BitVec.toNat_add, s, Nat.mod_eq_of_lt (by omega)]
    omega
theorem kid_upL (F : Int) (x : BitVec 128) (n : Int) (h : Rt F x n) : parentV x (n + 1) = x ∧ parentN (n + 1) = n := by
  have h0 := h.1
  unfold parentV parentN
  rw [if_neg (by omega), if_neg (by omega), show n + 1 - 1 = n by omega]
  exact ⟨h.2.2, rfl⟩
theorem kid_upH (F : Int) (x : BitVec 128) (n : Int) (h : Rt F x n) (hn : n < F) (hF : F ≤ 128) : parentV (x ||| bit1 n) (n + 1) = x := by
  have h0 := h.1
  unfold parentV
  rw [if_neg (by omega), show n + 1 - 1 = n by omega]
  have k := kid_nat F x n h hn hF
  have p := kid_pow n h0 (by omega)
  have pp := Nat.two_pow_pos (127 - n.toNat)
  obtain ⟨q, hq⟩ := (cut_dvd x n).mp h.2.2
  apply BitVec.eq_of_toNat_eq
  rw [cut_nat, k, hq, Nat.add_comm, Nat.add_mul_div_left _ _ (Nat.two_pow_pos _), Nat.div_eq_of_lt (by omega), Nat.zero_add, Nat.mul_comm]
theorem kid_sibL (F : Int) (x : BitVec 128) (n : Int) (h : Rt F x n) (hn : n < F) (hF : F ≤ 128) : sibV x (n + 1) = x ||| bit1 n ∧ sibN (n + 1) = n + 1 := by
  have h0 := h.1
  unfold sibV sibN
  rw [if_neg (by omega), if_neg (by omega), show n + 1 - 1 = n by omega]
  refine ⟨?_, rfl⟩
  apply BitVec.eq_of_getLsbD_eq
  intro j hj
  have := congrArg (fun z => z.getLsbD j) (kid_and F x n h hn hF)
  simp only [BitVec.getLsbD_and, BitVec.getLsbD_zero] at this
  rw [BitVec.getLsbD_xor, BitVec.getLsbD_or]
  revert this
  cases x.getLsbD j <;> cases (bit1 n).getLsbD j <;> simp
theorem kid_sibH (F : Int) (x : BitVec 128) (n : Int) (h : Rt F x n) (hn : n < F) (hF : F ≤ 128) : sibV (x ||| bit1 n) (n + 1) = x := by
  have h0 := h.1
  unfold sibV
  rw [if_neg (by omega), show n + 1 - 1 = n by omega]
  apply BitVec.eq_of_getLsbD_eq
  intro j hj
  have := congrArg (fun z => z.getLsbD j) (kid_and F x n h hn hF)
  simp only [BitVec.getLsbD_and, BitVec.getLsbD_zero] at this
  rw [BitVec.getLsbD_xor, BitVec.getLsbD_or]
  revert this
  cases x.getLsbD j <;> cases (bit1 n).getLsbD j <;> simp
theorem kid_cmpL (F : Int) (x : BitVec 128) (n : Int) : pcmpZ x n x (n + 1) = -1 := by
  rcases pcmp_ways x n x (n + 1) with ⟨h, e⟩ | ⟨h, e⟩ | ⟨h, e⟩
  · exact e
  · have := h.2; omega
  · rcases h with h | ⟨_, h⟩ <;> omega
theorem kid_cmpH (F : Int) (x : BitVec 128) (n : Int) (h : Rt F x n) (hn : n < F) (hF : F ≤ 128) : pcmpZ x (n + 1) (x ||| bit1 n) (n + 1) = -1 := by
  have k := kid_nat F x n h hn hF
  have pp := Nat.two_pow_pos (127 - n.toNat)
  rcases pcmp_ways x (n + 1) (x ||| bit1 n) (n + 1) with ⟨h, e⟩ | ⟨h, e⟩ | ⟨h, e⟩
  · exact e
  · have := congrArg BitVec.toNat h.1; omega
  · rcases h with h | ⟨_, h⟩ <;> omega
end Go.Proofs.YtonagfmkplbooaaDoor
/-
  Plain facts on a cover: it begins and ends with the range, without gaps, and no two siblings are in it.
-/
namespace Go.Proofs.YtonagfmkplbooaaDoor
open Go.RowKit
set_option linter.unusedSimpArgs false
set_option linter.unusedVariables false

theorem half_or (F : Int) (x : BitVec 128) (n : Int) (h : Rt F x n) (hn : 0 < n) (hF : F ≤ 128) : cutW x (n - 1) = x ∨ (cutW x (n - 1) ||| bit1 (n - 1) = x) := by
  have h0 := h.1
  have h1 := h.2.1
  cases hb : x.getLsbD (128 - n).toNat
  · left
    apply BitVec.eq_of_getLsbD_eq
    intro j hj
    rw [cut_bit x (n - 1) j hj]
    by_cases c : 128 - (n - 1).toNat ≤ j
    · rw [decide_eq_true c, Bool.and_true]
    · simp only [c, decide_false, Bool.and_false]
      by_cases d : j = (128 - n).toNat
      · rw [d, hb]
      · rw [rt_bit F x n h j hj (by omega)]
  · right
    apply BitVec.eq_of_getLsbD_eq
    intro j hj
    rw [BitVec.getLsbD_or, cut_bit x (n - 1) j hj, bit1_bit (n - 1) (by omega) j hj]
    by_cases c : 128 - (n - 1).toNat ≤ j
    · have e : ¬ (j : Int) = 127 - (n - 1) := by omega
      rw [decide_eq_true c, decide_eq_false e, Bool.and_true, Bool.or_false]
    · by_cases d : j = (128 - n).toNat
      · have e : (j : Int) = 127 - (n - 1) := by omega
        rw [d, hb]
        simp
        omega
      · have e : ¬ (j : Int) = 127 - (n - 1) := by omega
        rw [rt_bit F x n h j hj (by omega)]
        simp [c, e]
/-- The next one is not the sibling. -/
theorem no_sib (F : Int) (a b : BitVec 128) (h : Rng F a b) (hq : ¬ lastW F a (widN F a b) = b) (hn : 0 < widN F a b) :
    ¬ (sibV a (widN F a b) = nextV F (lastW F a (widN F a b)) ∧ sibN (widN F a b) = widN F (nextV F (lastW F a (widN F a b))) b) := by
  rintro ⟨e1, e2⟩
  obtain ⟨hr, hl⟩ := wid_rt F a b h
  obtain ⟨n1, n2, n3⟩ := rng_next F a b h hq
  obtain ⟨hr2, hl2⟩ := wid_rt F _ b n2
  obtain ⟨hf, ha⟩ := right0 F a h.1
  have hF := (fam_bd F hf).2
  have h1 := hr.2.1
  have pp := Nat.two_pow_pos (128 - (widN F a b).toNat)
  have iff := wid_iff F a b h.1 h.2.1 h.2.2 (widN F a b - 1) (by omega) (by omega)
  unfold sibN at e2
  rw [if_neg (by omega)] at e2
  rw [← e2] at hl2 hr2
  generalize hw : widN F a b = n at *
  unfold sibV at e1
  rw [if_neg (by omega)] at e1
  have hz : Rt F (cutW a (n - 1)) (n - 1) := ⟨by omega, by omega, maskW_idem a (n - 1)⟩
  rcases half_or F a n hr hn hF with q | q
  · rw [q] at hz
    have s := (kid_sibL F a (n - 1) hz (by omega) hF).1
    unfold sibV at s
    rw [if_neg (by omega), show n - 1 + 1 = n by omega] at s
    have k := kid_last F a (n - 1) hz (by omega) hF
    rw [show n - 1 + 1 = n by omega, ← s, e1] at k
    rw [k] at hl2
    have := iff.mp ⟨q, hl2⟩
    omega
  · have s := kid_sibH F (cutW a (n - 1)) (n - 1) hz (by omega) hF
    unfold sibV at s
    rw [if_neg (by omega), show n - 1 + 1 = n by omega, q, e1] at s
    have k := kid_nat F (cutW a (n - 1)) (n - 1) hz (by omega) hF
    rw [q, ← s] at k
    have := Nat.two_pow_pos (127 - (n - 1).toNat)
    omega
/-- One behind the other. -/
def Lnk (F : Int) (p q : BitVec 128 × Int) : Prop := nextB F (lastW F p.1 p.2) = true ∧ q.1 = nextV F (lastW F p.1 p.2) ∧ ¬ (0 < p.2 ∧ sibV p.1 p.2 = q.1 ∧ sibN p.2 = q.2)
theorem cov_good (F : Int) (b : BitVec 128) : ∀ k a, Rng F a b → b.toNat < a.toNat + k → ∀ T, T = covL F b k a → 0 < T.length ∧ (∀ (h : 0 < T.length), T[0].1 = a) ∧
    (∀ i (h : i < T.length), Rt F T[i].1 T[i].2) ∧ (∀ i (h : i + 1 < T.length), Lnk F T[i] T[i + 1]) ∧ (∀ i (h : i < T.length), i + 1 = T.length → lastW F T[i].1 T[i].2 = b) := by
  intro k
  induction k with
  | zero => intro a h hk; have := h.2.2; omega
  | succ k ih =>
    intro a h hk T hT
    obtain ⟨hr, hl⟩ := wid_rt F a b h
    by_cases q : lastW F a (widN F a b) = b
    · have e := cov_end F b k a q
      rw [e] at hT
      subst hT
      refine ⟨by simp, by simp, ?_, by simp, ?_⟩
      · intro i hi
        have : i = 0 := by simpa using hi
        subst this
        exact hr
      · intro i hi _
        have : i = 0 := by simpa using hi
        subst this
        exact q
    · have e := cov_on F b k a q
      obtain ⟨n1, n2, n3⟩ := rng_next F a b h q
      have pp := Nat.two_pow_pos (128 - (widN F a b).toNat)
      obtain ⟨R, hR⟩ : ∃ R, R = covL F b k (nextV F (lastW F a (widN F a b))) := ⟨_, rfl⟩
      obtain ⟨i1, i2, i3, i4, i5⟩ := ih _ n2 (by omega) R hR
      -- the head of the rest
      have hd : ∀ (h : 0 < R.length), R[0].2 = widN F (nextV F (lastW F a (widN F a b))) b := by
        intro h'
        cases k with
        | zero => rw [hR] at h'; simp [covL] at h'
        | succ k =>
          have : R = covL F b (k + 1) (nextV F (lastW F a (widN F a b))) := hR
          rw [covL] at this
          subst this
          rfl
      have ns := fun hn => no_sib F a b h q hn
      rw [e, ← hR] at hT
      subst hT
      refine ⟨by simp, by simp, ?_, ?_, ?_⟩
      · intro i hi
        cases i with
        | zero => exact hr
        | succ i => exact i3 i (by simpa using hi)
      · intro i hi
        cases i with
        | zero =>
          refine ⟨n1, i2 i1, ?_⟩
          rintro ⟨c1, c2, c3⟩
          refine ns c1 ⟨?_, ?_⟩
          · rw [← i2 i1]; exact c2
          · rw [← hd i1]; exact c3
        | succ i => exact i4 i (by simpa using hi)
      · intro i hi hl'
        cases i with
        | zero => simp at hl'; rw [hl'] at i1; simp at i1
        | succ i => exact i5 i (by simpa using hi) (by simpa using hl')
end Go.Proofs.YtonagfmkplbooaaDoor
/-
  Neighbours in a table of segments: in order, none within the other, no siblings with one hop.
-/
namespace Go.Proofs.YtonagfmkplbooaaDoor
set_option linter.unusedSimpArgs false
set_option linter.unusedVariables false

theorem sib_sb (F : Int) (a b : BitVec 128 × Int) (hF : F ≤ 128) (hb : Rt F b.1 b.2) (hn : 0 < b.2) (lt : a.1.toNat < b.1.toNat) (h1 : a.1 = sibV b.1 b.2) (h2 : a.2 = sibN b.2) : Sb a b := by
  have h0 := hb.1
  have hb1 := hb.2.1
  have hz : Rt F (cutW b.1 (b.2 - 1)) (b.2 - 1) := ⟨by omega, by omega, maskW_idem b.1 (b.2 - 1)⟩
  unfold sibN at h2
  rw [if_neg (by omega)] at h2
  rcases half_or F b.1 b.2 hb hn hF with q | q
  · exfalso
    rw [q] at hz
    have s := (kid_sibL F b.1 (b.2 - 1) hz (by omega) hF).1
    rw [show b.2 - 1 + 1 = b.2 by omega, ← h1] at s
    have k := kid_nat F b.1 (b.2 - 1) hz (by omega) hF
    rw [← s] at k
    have := Nat.two_pow_pos (127 - (b.2 - 1).toNat)
    omega
  · have s := kid_sibH F (cutW b.1 (b.2 - 1)) (b.2 - 1) hz (by omega) hF
    rw [q, show b.2 - 1 + 1 = b.2 by omega, ← h1] at s
    have k := kid_nat F (cutW b.1 (b.2 - 1)) (b.2 - 1) hz (by omega) hF
    rw [q, ← s] at k
    refine ⟨h2, hn, ?_, ?_⟩
    · rw [k, show 127 - (b.2 - 1).toNat = 128 - b.2.toNat by omega]
    · have d := (cut_dvd _ _).mp hz.2.2
      rw [← s] at d
      exact d
/-- What is known of neighbours. -/
def Ngb (a b : Rte) : Prop := pcmpZ a.1.1 a.1.2 b.1.1 b.1.2 < 0 ∧ rwithinB b.1.1 b.1.2 a.1.1 a.1.2 = false ∧ (0 < b.1.2 → ((a.1.1 == sibV b.1.1 b.1.2) && (a.1.2 == sibN b.1.2) && (a.2 == b.2)) = false) ∧ 0 ≤ b.1.2 ∧ b.1.2 ≤ 128 ∧ rsibV b.1.1 b.1.2 = sibV b.1.1 b.1.2
theorem covR_ngb (F : Int) (hf : fam F = true) (l : List Sg) (h : sgsGo F none l = 0) (j : Nat) (hj : j + 1 < (covR F l).length) : Ngb (covR F l)[j] (covR F l)[j + 1] := by
  obtain ⟨a1, a2, a3, a4⟩ := covR_table F hf l h
  obtain ⟨f0, f1⟩ := fam_bd F hf
  have g2 := List.pairwise_iff_getElem.mp a2 j (j + 1) (by omega) hj (by omega)
  have g3 := List.pairwise_iff_getElem.mp a3 j (j + 1) (by omega) hj (by omega)
  have ra := (a1 (covR F l)[j] (List.getElem_mem _)).1.1
  have rb := (a1 (covR F l)[j + 1] (List.getElem_mem _)).1.1
  generalize (covR F l)[j] = a at *
  generalize (covR F l)[j + 1] = b at *
  have la := rt_le F _ _ ra
  have b0 := rb.1
  have b1 := rb.2.1
  have a0 := ra.1
  have a1' := ra.2.1
  have lt : a.1.1.toNat < b.1.1.toNat := by have := g2.1; omega
  refine ⟨g3, ?_, fun hn => ?_, by omega, by omega, sib_eq F _ _ rb f1⟩
  · rw [within_eq _ _ _ _ ra.1 (by omega) ra.2.2]
    cases e : withinB b.1.1 b.1.2 a.1.1 a.1.2 with
    | false => rfl
    | true =>
      obtain ⟨_, q⟩ := (within_iff _ _ _ _).mp e
      have := ((has_ends F _ _ ra b.1.1 (rt_fam F _ _ rb)).mp q).2
      have := g2.1
      omega
  · cases e1 : (a.1.1 == sibV b.1.1 b.1.2) with
    | false => rfl
    | true =>
      cases e2 : (a.1.2 == sibN b.1.2) with
      | false => rfl
      | true =>
        cases e3 : (a.2 == b.2) with
        | false => rfl
        | true =>
          exact absurd ⟨by simpa using e3, sib_sb F a.1 b.1 f1 rb hn lt (by simpa using e1) (by simpa using e2)⟩ g2.2
/-- What Table tells of the segments of a right table. -/
theorem tab_segs (F : Int) (l : List Rte) (h : TabE F l 0) (hn : l.length ≤ 9000) : tX F (swp F l) = 0 ∧ tL F (swp F l) = covR F (swp F l) ∧ tW F (swp F l) = F ∧ fam F = true ∧ sgsGo F none (swp F l) = 0 := by
  obtain ⟨hf, n1, hL, hO⟩ := tab_ok h
  obtain ⟨a, b⟩ := swp_right F hf l hL hO
  have e : sgsE F (swp F l) = 0 := by
    unfold sgsE
    rw [if_pos hf, if_neg (fun q => by rw [q] at a; simp [sgsGo, moO] at a), a]
  obtain ⟨t1, t2, t3⟩ := t_yes e
  obtain ⟨u1, u2, u3⟩ := tab_yes (swp_fits F hf l hL hO hn)
  exact ⟨by rw [t2, u2], by rw [t3, u3], by rw [t1, u1], hf, a⟩
end Go.Proofs.YtonagfmkplbooaaDoor
/-
  What the call of slices.BinarySearchFunc does at segments, with package algebra's comparison.
-/
namespace Go.Proofs.YtonagfmkplbooaaDoor
open Go.RowKit
set_option linter.unusedSimpArgs false
set_option linter.unusedVariables false

/-- The place sought for, and a route of the row. -/
def CBg (w : World) (b o : Nat) (y : BitVec 128) (x n : BitVec 128) (h : Int) (W : World) : Prop := At W w.heap.size y ∧ (W.cell? ⟨b, o, none⟩ = some (.int .u64 (hI x)) ∧ W.cell? ⟨b, o + 1, none⟩ = some (.int .u64 (lI x)) ∧ W.cell? ⟨b, o + 2, none⟩ = some (.int .u64 (hI n)) ∧ W.cell? ⟨b, o + 3, none⟩ = some (.int .u64 (lI n)) ∧ W.cell? ⟨b, o + 4, none⟩ = some (.int .i64 h)) ∧ Below w.heap.size w W
theorem CBg.below {w W W' : World} {b o : Nat} {y : BitVec 128} {x n : BitVec 128} {h : Int} (g : CBg w b o y x n h W) (hb : Below W.heap.size W W') : CBg w b o y x n h W' := ⟨g.1.below hb, ⟨keepc hb g.2.1.1, keepc hb g.2.1.2.1, keepc hb g.2.1.2.2.1, keepc hb g.2.1.2.2.2.1, keepc hb g.2.1.2.2.2.2⟩, keepb hb g.2.2⟩
theorem CBg.drew {w W : World} {b o : Nat} {y : BitVec 128} {x n : BitVec 128} {h : Int} (g : CBg w b o y x n h W) : CBg w b o y x n h W.drew := ⟨g.1, g.2.1, g.2.2.drew⟩
/-- How a segment stands to an address. -/
def toG (y : BitVec 128) (s : Sg) : Int := cmpZ s.1.2 y
end Go.Proofs.YtonagfmkplbooaaDoor
/-
  Plain facts for AlgebraSays: a table of segments is a right one, leads alike, has the segments again; where an address stands among segments.
-/
namespace Go.Proofs.YtonagfmkplbooaaDoor
set_option linter.unusedSimpArgs false
set_option linter.unusedVariables false

theorem rtsG_of (F : Int) : ∀ l : List Rte, (∀ r ∈ l, rteE F r = 0) → rtsG F l = 0
  | [], _ => rfl
  | a :: l, h => by
    rw [rtsG, if_pos (h a (by simp))]
    exact rtsG_of F l (fun r hr => h r (List.mem_cons_of_mem _ hr))
theorem ro_rte (F : Int) (r : Rte) (hf : fam F = true) (h : Ro F r) (hn : r.2 ≠ 0) : rteE F r = 0 := by
  obtain ⟨⟨h0, h1, h2⟩, h3, h4⟩ := h
  have hc : checkE F r.1.1 r.1.2 = 0 := by
    unfold checkE
    rw [if_pos hf, if_neg (by omega), if_neg (by omega), if_pos (by simpa using h2)]
  have hh : hopB r.2 = true := by
    unfold hopB
    simp only [Bool.and_eq_true, decide_eq_true_iff]
    omega
  unfold rteE
  rw [if_pos hc, if_pos hh]
theorem tabE_z1 {F : Int} {l : List Rte} (h : TabE F l 0) (z : Int) (hz : TabE F l z) : z = 0 := by
  by_cases h0 : rtsE F l = 0
  · rcases hz.2 h0 with ⟨_, q⟩ | ⟨q, _⟩
    · exact q
    · rcases h.2 h0 with ⟨p, _⟩ | ⟨_, p⟩
      · exact absurd p q
      · omega
  · exact absurd (h.1 h0).symm h0
/-- The table of right segments is a right one. -/
theorem covR_tab (F : Int) (hf : fam F = true) (S : List Sg) (h : sgsGo F none S = 0) (hn : (covR F S).length ≤ 1048576) : TabE F (covR F S) 0 := by
  obtain ⟨a1, a2, a3, a4⟩ := covR_table F hf S h
  have e : rtsE F (covR F S) = 0 := by
    unfold rtsE
    rw [if_pos hf, if_neg (by omega)]
    exact rtsG_of F _ (fun r hr => ro_rte F r hf (a1 r hr).1 (a1 r hr).2)
  exact ⟨fun q => absurd e q, fun _ => .inl ⟨fun a ha => List.pairwise_iff_getElem.mp a3 a (a + 1) (by omega) ha (by omega), rfl⟩⟩
/-- The ends of right segments, and how they go on. -/
theorem segs_next (F : Int) : ∀ (l : List Sg) (p : Option Sg), sgsGo F p l = 0 → ∀ j (h : j + 1 < l.length), nextB F l[j].1.2 = true ∧ nextV F l[j].1.2 = l[j + 1].1.1 ∧ ¬ l[j + 1].2 = l[j].2 ∧ rightE F l[j].1.2 = 0
  | [], _, _, j, h => by simp at h
  | s :: l, p, hg, j, h => by
    obtain ⟨s1, s2, s3, s4, s5⟩ := sgsGo_cons F p s l hg
    cases j with
    | zero =>
      cases l with
      | nil => simp at h
      | cons r l =>
        obtain ⟨r1, r2, r3, r4, r5⟩ := sgsGo_cons F (some s) r l s5
        refine ⟨r2, r3.symm, fun q => r4 ?_, (sgE_zero F s s1).2.1⟩
        show some s.2 = some r.2
        rw [show r.2 = s.2 from q]
    | succ j => exact segs_next F l (some s) s5 j (by simpa using h)
theorem segs_last (F : Int) (hf : fam F = true) : ∀ (l : List Sg) (p : Option Sg), sgsGo F p l = 0 → ∀ n (h : n < l.length), n + 1 = l.length → l[n].1.2 = maskW F
  | [], _, _, n, h, _ => by simp at h
  | s :: l, p, hg, n, h, hn => by
    obtain ⟨s1, s2, s3, s4, s5⟩ := sgsGo_cons F p s l hg
    cases l with
    | nil =>
      have : n = 0 := by simp at hn; exact hn
      subst this
      have hb : nextB F s.1.2 = false := by
        rw [sgsGo] at s5
        cases e : nextB F s.1.2 with
        | false => rfl
        | true => rw [if_pos (show moO F (some s) = true from e)] at s5; omega
      exact next_none F s.1.2 (sgE_zero F s s1).2.1 hb
    | cons r l =>
      cases n with
      | zero => simp at hn
      | succ n => exact segs_last F hf (r :: l) (some s) s5 n (by simpa using h) (by simpa using hn)
theorem segs_first (F : Int) (l : List Sg) (hg : sgsGo F none l = 0) : ∃ h : 0 < l.length, (l[0]'h).1.1 = 0#128 := by
  cases l with
  | nil => simp [sgsGo, moO] at hg
  | cons s l =>
    obtain ⟨s1, s2, s3, s4, s5⟩ := sgsGo_cons F none s l hg
    exact ⟨by simp, s3⟩
/-- Which segment has an address. -/
theorem segs_at (F : Int) (x : BitVec 128) (hx : rightE F x = 0) : ∀ (l : List Sg) (s : Sg), sgE F s = 0 → sgsGo F (some s) l = 0 → s.1.1.toNat ≤ x.toNat →
    ∃ k, ∃ hk : k < (s :: l).length, ((s :: l)[k]'hk).1.1.toNat ≤ x.toNat ∧ x.toNat ≤ ((s :: l)[k]'hk).1.2.toNat ∧ (∀ j (hj : j < (s :: l).length), j < k ↔ ((s :: l)[j]'hj).1.2.toNat < x.toNat)
  | [], s, h1, h2, h3 => by
    obtain ⟨s1, s2, _, _, s5⟩ := sgE_zero F s h1
    have hb : nextB F s.1.2 = false := by
      rw [sgsGo] at h2
      cases e : nextB F s.1.2 with
      | false => rfl
      | true => rw [if_pos (show moO F (some s) = true from e)] at h2; omega
    have m := right_max F x hx
    rw [← next_none F s.1.2 s2 hb] at m
    refine ⟨0, by simp, h3, m, fun j hj => ?_⟩
    have : j = 0 := by simpa using hj
    subst this
    simp only [List.getElem_cons_zero]
    omega
  | r :: l, s, h1, h2, h3 => by
    obtain ⟨s1, s2, _, _, s5⟩ := sgE_zero F s h1
    obtain ⟨r1, r2, r3, r4, r5⟩ := sgsGo_cons F (some s) r l h2
    obtain ⟨n1, _, _, _⟩ := next_nat F s.1.2 r2
    have e : r.1.1.toNat = s.1.2.toNat + 2 ^ (128 - F.toNat) := by rw [r3]; exact n1
    have pp := Nat.two_pow_pos (128 - F.toNat)
    by_cases g : x.toNat ≤ s.1.2.toNat
    · refine ⟨0, by simp, h3, g, fun j hj => ⟨fun q => by omega, fun q => ?_⟩⟩
      exfalso
      -- all later ones end behind
      have all : ∀ (l : List Sg) (s : Sg), sgE F s = 0 → sgsGo F (some s) l = 0 → ∀ t ∈ l, s.1.2.toNat ≤ t.1.2.toNat := by
        intro l
        induction l with
        | nil => intro s _ _ t ht; cases ht
        | cons r l ih =>
          intro s h1 h2 t ht
          obtain ⟨r1, r2, r3, r4, r5⟩ := sgsGo_cons F (some s) r l h2
          obtain ⟨n1, _, _, _⟩ := next_nat F s.1.2 r2
          have e : r.1.1.toNat = s.1.2.toNat + 2 ^ (128 - F.toNat) := by rw [r3]; exact n1
          have := (sgE_zero F r r1).2.2.2.2
          rcases List.mem_cons.mp ht with rfl | ht
          · omega
          · have := ih r r1 r5 t ht; omega
      rcases List.mem_cons.mp (List.getElem_mem hj) with q2 | q2
      · rw [q2] at q; omega
      · have := all (r :: l) s h1 h2 _ q2
        omega
    · obtain ⟨_, k2, _, _⟩ := next_le F s.1.2 x s2 hx (by omega)
      obtain ⟨k, hk, c1, c2, c3⟩ := segs_at F x hx l r r1 r5 (by rw [r3]; exact k2)
      refine ⟨k + 1, by simpa using hk, c1, c2, fun j hj => ?_⟩
      cases j with
      | zero => simp only [List.getElem_cons_zero]; omega
      | succ j =>
        have := c3 j (by simpa using hj)
        simp only [List.getElem_cons_succ]
        omega
end Go.Proofs.YtonagfmkplbooaaDoor
/-
  Tables of what two say, and where they lead: plain facts.
-/
namespace Go.Proofs.YtonagfmkplbooaaDoor
open Go.RowKit
set_option linter.unusedSimpArgs false
set_option linter.unusedVariables false

/-- A right table that leads as a function says, which goes by no ends but those of some routes. -/
structure Led (F : Int) (rs : List Rte) (f : BitVec 128 → Int) (R : List Rte) : Prop where
  tab : TabE F R 0
  right : sgsGo F none (swp F R) = 0
  says : Says F f (swp F R)
  flat : Flat F (edgL F rs) f
  bd : ∀ x, 0 ≤ f x ∧ f x ≤ 65535
theorem led_table {F : Int} {rs R : List Rte} (h : TabE F R 0) (hs : ∀ r ∈ R, r ∈ rs) : Led F rs (fun x => look x 0 R) R := by
  obtain ⟨hf, -, hL, hO⟩ := tab_ok h
  obtain ⟨a, b⟩ := swp_right F hf R hL hO
  exact ⟨h, a, b, look_flat F hf _ R (edgL_part F R rs hs) hL, fun x => look_bound F x R 0 (by decide) (by decide) hL⟩
/-- A question that answers 0 or one of both. -/
def Qk (q : Int → Int → Int) : Prop := ∀ x y, q x y = 0 ∨ q x y = x ∨ q x y = y
theorem qk_over : Qk qOver := fun x y => by unfold qOver; split <;> simp
theorem qk_less : Qk qLess := fun x y => by unfold qLess; split <;> simp
theorem qk_only : Qk qOnly := fun x y => by unfold qOnly; split <;> simp
theorem Qk.bd {q : Int → Int → Int} (h : Qk q) {x y : Int} (hx : 0 ≤ x ∧ x ≤ 65535) (hy : 0 ≤ y ∧ y ≤ 65535) : 0 ≤ q x y ∧ q x y ≤ 65535 := by
  rcases h x y with e | e | e <;> rw [e]
  · exact ⟨by decide, by decide⟩
  · exact hx
  · exact hy
theorem led_mix {F : Int} {rs R S : List Rte} {f g : BitVec 128 → Int} {q : Int → Int → Int} (hq : Qk q) (a : Led F rs f R) (b : Led F rs g S) (hL : ∀ r ∈ rs, Ro F r) (hn : rs.length ≤ 9000) :
    tabW F (jnd q (swp F R) (swp F S)) = F ∧ tabX F (jnd q (swp F R) (swp F S)) = 0 ∧ tabL F (jnd q (swp F R) (swp F S)) = covR F (jnd q (swp F R) (swp F S)) ∧ Led F rs (fun x => q (f x) (g x)) (covR F (jnd q (swp F R) (swp F S))) := by
  have hf := (tab_ok a.tab).1
  have hbd : ∀ x, 0 ≤ q (f x) (g x) ∧ q (f x) (g x) ≤ 65535 := fun x => hq.bd (a.bd x) (b.bd x)
  obtain ⟨h1, h2⟩ := jnd_right F hf f g q hbd (swp F R) (swp F S) a.right b.right a.says b.says
  have hfl : Flat F (edgL F rs) (fun x => q (f x) (g x)) := fun x y hx hy h => by
    simp only
    rw [a.flat x y hx hy h, b.flat x y hx hy h]
  have ok := cov_fits F hf _ rs hL hfl _ h1 h2 hn
  obtain ⟨e1, e2, e3⟩ := tab_yes ok
  have hlen : (covR F (jnd q (swp F R) (swp F S))).length ≤ 1048576 := by
    have := cov_fits F hf _ rs hL hfl _ h1 h2 hn
    unfold okL at this
    exact of_decide_eq_true this
  have hsw := covR_swp F hf _ _ h1 h2
  exact ⟨e1, e2, e3, covR_tab F hf _ h1 hlen, by rw [hsw]; exact h1, by rw [hsw]; exact h2, hfl, hbd⟩
/-- Where it leads. -/
theorem Led.look {F : Int} {rs R : List Rte} {f : BitVec 128 → Int} (k : Led F rs f R) (x : BitVec 128) (hx : rightE F x = 0) : look x 0 R = f x := by
  obtain ⟨hf, -, hL, hO⟩ := tab_ok k.tab
  obtain ⟨a, b⟩ := swp_right F hf R hL hO
  have c := k.says
  have hs0 : ∃ s L, swp F R = s :: L := by
    cases q : swp F R with
    | nil => rw [q] at a; simp [sgsGo, moO] at a
    | cons s L => exact ⟨s, L, rfl⟩
  obtain ⟨s, L, hs0⟩ := hs0
  rw [hs0] at a b c
  obtain ⟨g1, g2, g3, g4, g5⟩ := sgsGo_cons F none s L a
  have z : s.1.1.toNat = 0 := by rw [g3]; rfl
  obtain ⟨j, hj, c1, c2, c3⟩ := segs_at F x hx L s g1 g5 (by omega)
  exact (b _ (List.getElem_mem hj) x hx c1 c2).symm.trans (c _ (List.getElem_mem hj) x hx c1 c2)
theorem Led.eq {F : Int} {rs R S : List Rte} {f g : BitVec 128 → Int} (a : Led F rs f R) (b : Led F rs g S) (h : ∀ x, rightE F x = 0 → f x = g x) : swp F R = swp F S :=
  segs_unique F f _ _ none none a.right b.right rfl rfl a.says (fun s hs x hx h1 h2 => by rw [b.says s hs x hx h1 h2, h x hx])
/-- The table of one prefix. -/
theorem one_tab {F : Int} {px : BitVec 128} {pn : Int} (h : checkE F px pn = 0) : TabE F [((px, pn), 1)] 0 := by
  have hf : fam F = true := by
    unfold checkE at h
    split at h
    · assumption
    · cases h
  have e : rtsE F [((px, pn), 1)] = 0 := by
    unfold rtsE
    rw [if_pos hf, if_neg (by simp)]
    refine rtsG_of F _ (fun r hr => ?_)
    simp at hr
    subst hr
    unfold rteE
    rw [if_pos h, if_pos (show hopB 1 = true by decide)]
  exact ⟨fun q => absurd e q, fun _ => .inl ⟨fun a ha => by simp at ha, rfl⟩⟩
theorem check_rt {F : Int} {px : BitVec 128} {pn : Int} (h : checkE F px pn = 0) : Rt F px pn := by
  unfold checkE at h
  split at h
  · split at h
    · cases h
    · split at h
      · cases h
      · split at h
        · rename_i a b c
          exact ⟨by omega, by omega, by simpa using c⟩
        · cases h
  · cases h
theorem rt_check {F : Int} (hf : fam F = true) {px : BitVec 128} {pn : Int} (h : Rt F px pn) : checkE F px pn = 0 := by
  obtain ⟨a, b, c⟩ := h
  unfold checkE
  rw [if_pos hf, if_neg (by omega), if_neg (by omega), if_pos (by simpa using c)]
theorem one_look (px : BitVec 128) (pn : Int) (x : BitVec 128) : look x 0 [((px, pn), 1)] = if cutW x pn = px then 1 else 0 := by
  rw [look, look]
  by_cases h : cutW x pn = px
  · rw [if_pos h, if_pos (by unfold hasR; simpa using h)]
  · rw [if_neg h, if_neg (by unfold hasR; simpa using h)]
theorem only_eq (a px : BitVec 128) (pn : Int) (x : BitVec 128) (h : Int) : qOnly h (look x 0 [((px, pn), 1)]) = if cutW x pn = px then h else 0 := by
  rw [one_look]
  by_cases q : cutW x pn = px
  · rw [if_pos q, if_pos q, qOnly, if_neg (by decide)]
  · rw [if_neg q, if_neg q, qOnly, if_pos rfl]
theorem empty_tab {F : Int} (hf : fam F = true) : TabE F [] 0 := by
  have e : rtsE F [] = 0 := by
    unfold rtsE
    rw [if_pos hf, if_neg (by simp)]
    rfl
  exact ⟨fun q => absurd e q, fun _ => .inl ⟨fun a ha => by simp at ha, rfl⟩⟩
end Go.Proofs.YtonagfmkplbooaaDoor
