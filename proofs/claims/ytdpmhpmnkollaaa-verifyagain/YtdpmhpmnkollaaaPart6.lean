/-
  Part 6 of the proof: 4 texts, one behind the other.
-/
import Derived.Test.YtdpmhpmnkollaaaPart5
import Derived.Test.YtdpmhpmnkollaaaPart3
import Derived.Test.YtdpmhpmnkollaaaPart4
namespace Go.Proofs.Ytdpmhpmnkollaaa
open Go.RowKit
set_option linter.unusedSimpArgs false
set_option linter.unusedVariables false

theorem len8_bd : ∀ b : Fin 256, b.val ≠ 0 → 1 ≤ Lib.bitLen b.val ∧ Lib.bitLen b.val ≤ 8 ∧ 2 ^ (Lib.bitLen b.val - 1) ≤ b.val ∧ b.val < 2 ^ Lib.bitLen b.val := by decide +kernel
def LenQ (n L : Nat) : Prop := 1 ≤ L ∧ L ≤ 32 ∧ 2 ^ (L - 1) ≤ n ∧ n < 2 ^ L
theorem lenQ_at (n s b : Nat) (hb : b = n / 2 ^ s) (h0 : b ≠ 0) (h1 : b < 256) (hs : s + 8 ≤ 32) : LenQ n (s + Lib.bitLen b) := by
  obtain ⟨e1, e2, e3, e4⟩ := len8_bd ⟨b, h1⟩ h0
  simp only at e1 e2 e3 e4
  refine ⟨by omega, by omega, ?_, ?_⟩
  · rw [show s + Lib.bitLen b - 1 = s + (Lib.bitLen b - 1) by omega, Nat.pow_add, Nat.mul_comm]
    have : b * 2 ^ s ≤ n := by rw [hb]; exact Nat.div_mul_le_self n (2 ^ s)
    exact Nat.le_trans (Nat.mul_le_mul_right _ e3) this
  · rw [Nat.pow_add, Nat.mul_comm]
    have e5 : n / 2 ^ s < 2 ^ Lib.bitLen b := by rw [← hb]; exact e4
    exact (Nat.div_lt_iff_lt_mul (Nat.two_pow_pos s)).1 e5
theorem len8_at (b : Nat) (h : b < 256) : Lib.len8 (b : Int) = ((Lib.bitLen b : Nat) : Int) := Lib.len8_eq ⟨b, h⟩
set_option maxRecDepth 100000 in
set_option maxHeartbeats 8000000 in
theorem len32_any (n : Nat) (h0 : n ≠ 0) (h1 : n < 4294967296) (w : World) :
    Calls Try.prog 110 #[.int .u32 (n : Int)] w fun e w' => (∃ L : Nat, e = .returned (.int .i64 (L : Int)) ∧ LenQ n L) ∧ w' = w := by
  have main : ∀ (s b : Nat), b = n / 2 ^ s → b ≠ 0 → b < 256 → s + 8 ≤ 32 → ∃ q : Nat, Lib.len8 (b : Int) = (q : Int) ∧ q ≤ 8 ∧ LenQ n (s + q) := fun s b hb hb0 hb1 hs =>
    ⟨Lib.bitLen b, len8_at b hb1, (len8_bd ⟨b, hb1⟩ hb0).2.1, lenQ_at n s b hb hb0 hb1 hs⟩
  obtain ⟨N, hN⟩ : ∃ N : Int, N = (n : Int) := ⟨_, rfl⟩
  rw [← hN]
  by_cases c1 : 65536 ≤ n
  · have d1 : 65536 ≤ N := by omega
    by_cases c2 : 256 ≤ n / 65536
    · obtain ⟨q, hq, hq8, hL⟩ := main 24 (n / 16777216) rfl (by omega) (by omega) (by omega)
      have d2 : 256 ≤ N / 65536 := by omega
      obtain ⟨B, hB⟩ : ∃ B : Int, B = ((n / 16777216 : Nat) : Int) := ⟨_, rfl⟩
      rw [← hB] at hq
      have d3 : N / 65536 / 256 = B := by omega
      have d4 : 0 ≤ B := by omega
      have d5 : B ≤ 255 := by omega
      have hq0 : ((q : Nat) : Int) ≤ 8 := by omega
      have HL := hid13 hL
      clear main hB hL c1 c2 h0 h1 hN
      go_enter Try.func110, Try.ntmps110
      go_wp2
      go_ret
      exact ⟨⟨24 + q, rfl, HL.out⟩, rfl⟩
    · obtain ⟨q, hq, hq8, hL⟩ := main 16 (n / 65536) rfl (by omega) (by omega) (by omega)
      have d2 : ¬ 256 ≤ N / 65536 := by omega
      obtain ⟨B, hB⟩ : ∃ B : Int, B = ((n / 65536 : Nat) : Int) := ⟨_, rfl⟩
      rw [← hB] at hq
      have d3 : N / 65536 = B := by omega
      have d4 : 0 ≤ B := by omega
      have d5 : B ≤ 255 := by omega
      rw [d3] at d2
      have hq0 : ((q : Nat) : Int) ≤ 8 := by omega
      have HL := hid13 hL
      clear main hB hL c1 c2 h0 h1 hN
      go_enter Try.func110, Try.ntmps110
      go_wp2
      go_ret
      exact ⟨⟨16 + q, rfl, HL.out⟩, rfl⟩
  · have d1 : ¬ 65536 ≤ N := by omega
    by_cases c2 : 256 ≤ n
    · obtain ⟨q, hq, hq8, hL⟩ := main 8 (n / 256) rfl (by omega) (by omega) (by omega)
      have d2 : 256 ≤ N := by omega
      obtain ⟨B, hB⟩ : ∃ B : Int, B = ((n / 256 : Nat) : Int) := ⟨_, rfl⟩
      rw [← hB] at hq
      have d3 : N / 256 = B := by omega
      have d4 : 0 ≤ B := by omega
      have d5 : B ≤ 255 := by omega
      have hq0 : ((q : Nat) : Int) ≤ 8 := by omega
      have HL := hid13 hL
      clear main hB hL c1 c2 h0 h1 hN
      go_enter Try.func110, Try.ntmps110
      go_wp2
      go_ret
      exact ⟨⟨8 + q, rfl, HL.out⟩, rfl⟩
    · obtain ⟨q, hq, hq8, hL⟩ := main 0 n (by simp) (by omega) (by omega) (by omega)
      have d2 : ¬ 256 ≤ N := by omega
      rw [← hN] at hq
      have d4 : 0 ≤ N := by omega
      have d5 : N ≤ 255 := by omega
      have hq0 : ((q : Nat) : Int) ≤ 8 := by omega
      have HL := hid13 hL
      clear main hL c1 c2 h0 h1 hN
      go_enter Try.func110, Try.ntmps110
      go_wp2
      go_ret
      refine ⟨⟨0 + q, ?_, HL.out⟩, rfl⟩
      rw [Nat.zero_add]; rfl
def FstP (x : BitVec 32) (p : Nat) : Prop := p < 32 ∧ bt x p = true ∧ ∀ j, j < p → bt x j = false
theorem fst_len (x : BitVec 32) (L : Nat) (h : LenQ x.toNat L) : FstP x (32 - L) := by
  obtain ⟨h1, h2, h3, h4⟩ := h
  have key : ∀ j, j < 32 → bt x j = decide (x.toNat / 2 ^ (31 - j) % 2 = 1) := fun j _ => by
    unfold bt BitVec.getLsbD; rw [Nat.testBit_eq_decide_div_mod_eq]
  refine ⟨by omega, ?_, fun j hj => ?_⟩
  · rw [key _ (by omega), show 31 - (32 - L) = L - 1 by omega, decide_eq_true_eq]
    have a1 : x.toNat / 2 ^ (L - 1) < 2 := by
      rw [Nat.div_lt_iff_lt_mul (Nat.two_pow_pos _), Nat.mul_comm, ← Nat.pow_succ, show (L - 1).succ = L by omega]; exact h4
    have a2 : 1 ≤ x.toNat / 2 ^ (L - 1) := (Nat.le_div_iff_mul_le (Nat.two_pow_pos _)).2 (by omega)
    omega
  · rw [key _ (by omega), decide_eq_false_iff_not]
    have : x.toNat / 2 ^ (31 - j) = 0 := Nat.div_eq_of_lt (Nat.lt_of_lt_of_le h4 (Nat.pow_le_pow_right (by decide) (by omega)))
    omega
set_option maxRecDepth 100000 in
theorem lead13_any (x : BitVec 32) (h0 : x ≠ 0#32) (w : World) :
    Calls Try.prog 90 #[.int .u32 (uI x)] w fun e w' => (∃ p : Nat, e = .returned (.int .i64 (p : Int)) ∧ FstP x p) ∧ w' = w := by
  have hne : x.toNat ≠ 0 := fun e => h0 (BitVec.eq_of_toNat_eq (by rw [e]; rfl))
  have K := len32_any x.toNat hne x.isLt w
  rw [← uI_eq] at K
  go_enter Try.func90, Try.ntmps90
  go_wp2_with fail
  refine K.mono ?_
  rintro e w1 ⟨⟨L, rfl, hL⟩, rfl⟩
  have HP := hid13 (fst_len x L hL)
  obtain ⟨p, hp⟩ : ∃ p, p = 32 - L := ⟨_, rfl⟩
  have hpi : 32 - (L : Int) = (p : Int) := by have := hL.2.1; omega
  have hpl : ((L : Nat) : Int) ≤ 32 := by have := hL.2.1; omega
  rw [← hp] at HP
  clear hL hp K
  go_wp2
  go_ret
  exact ⟨⟨p, rfl, HP.out⟩, rfl⟩
end Go.Proofs.Ytdpmhpmnkollaaa
namespace Go.Proofs.Ytdpmhpmnkollaaa
open Go.RowKit
set_option linter.unusedSimpArgs false
set_option linter.unusedVariables false

def setL (m : List (BitVec 32)) (p : Nat) : List Int := ((List.range' p (32 * m.length - p)).filter (plc m)).map (fun i : Nat => (i : Int))
theorem setL_end {m : List (BitVec 32)} {p : Nat} (h : 32 * m.length ≤ p) : setL m p = [] := by unfold setL; rw [show 32 * m.length - p = 0 by omega]; rfl
theorem setL_step {m : List (BitVec 32)} {p : Nat} (h : p < 32 * m.length) : setL m p = if plc m p = true then (p : Int) :: setL m (p + 1) else setL m (p + 1) := by
  unfold setL
  rw [show 32 * m.length - p = (32 * m.length - (p + 1)) + 1 by omega, List.range'_succ, List.filter_cons]
  split <;> simp
theorem setL_skip (m : List (BitVec 32)) : ∀ (n p : Nat), p + n ≤ 32 * m.length → (∀ j, p ≤ j → j < p + n → plc m j = false) → setL m p = setL m (p + n)
  | 0, p, _, _ => rfl
  | n + 1, p, h, hj => by
    rw [setL_step (by omega), if_neg (by rw [hj p (by omega) (by omega)]; simp), setL_skip m n (p + 1) (by omega) (fun j a b => hj j (by omega) (by omega)), show p + 1 + n = p + (n + 1) by omega]
theorem setL_len (m : List (BitVec 32)) : ∀ (n p : Nat), p + n = 32 * m.length → (setL m p).length + cnt m p = cnt m (32 * m.length)
  | 0, p, h => by rw [setL_end (by omega), ← h]; simp
  | n + 1, p, h => by
    have h1 := setL_len m n (p + 1) (by omega)
    rw [setL_step (by omega)]
    have e : cnt m (p + 1) = cnt m p + (plc m p).toNat := rfl
    rw [e] at h1
    cases hp : plc m p
    · rw [hp] at h1; simp at h1 ⊢; omega
    · rw [hp] at h1; simp at h1 ⊢; omega
theorem setL_all (m : List (BitVec 32)) : (setL m 0).length = sumW m m.length := by
  have h := setL_len m (32 * m.length) 0 (by omega)
  rw [cnt_words] at h
  have e : cnt m 0 = 0 := rfl
  omega
def LfQ (m : List (BitVec 32)) (k p : Nat) (x : BitVec 32) : Prop := 32 * k ≤ p ∧ p ≤ 32 * k + 32 ∧ ∀ i, i < 32 → bt x i = (plc m (32 * k + i) && decide (p ≤ 32 * k + i))
theorem lf_start (m : List (BitVec 32)) (k : Nat) : LfQ m k (32 * k) (m.getD k 0#32) := ⟨Nat.le_refl _, by omega, fun i hi => by
  unfold plc
  rw [show (32 * k + i) / 32 = k by omega, show (32 * k + i) % 32 = i by omega]
  simp⟩
theorem lf_end {m : List (BitVec 32)} {k p : Nat} (h : LfQ m k p 0#32) (hk : k < m.length) : setL m p = setL m (32 * (k + 1)) := by
  obtain ⟨h1, h2, h3⟩ := h
  have := setL_skip m (32 * k + 32 - p) p (by omega) (fun j a b => by
    have h4 := h3 (j - 32 * k) (by omega)
    rw [show 32 * k + (j - 32 * k) = j by omega] at h4
    have h0 : bt 0#32 (j - 32 * k) = false := by unfold bt; simp
    rw [h0] at h4
    simpa [a] using h4)
  rw [this, show p + (32 * k + 32 - p) = 32 * (k + 1) by omega]
theorem sub_bit (x t : BitVec 32) (h : x &&& t = t) : x - t = x &&& ~~~t := by
  have h0 : (x &&& ~~~t) &&& t = 0#32 := by
    apply BitVec.eq_of_getLsbD_eq
    intro i hi
    simp only [BitVec.getLsbD_and, BitVec.getLsbD_not, BitVec.getLsbD_zero]
    cases x.getLsbD i <;> cases t.getLsbD i <;> simp
  have h1 : (x &&& ~~~t) ||| t = x := by
    apply BitVec.eq_of_getLsbD_eq
    intro i hi
    have h2 := congrArg (fun y => y.getLsbD i) h
    simp only [BitVec.getLsbD_and] at h2
    simp only [BitVec.getLsbD_or, BitVec.getLsbD_and, BitVec.getLsbD_not]
    revert h2
    cases x.getLsbD i <;> cases t.getLsbD i <;> simp [hi]
  have h2 := BitVec.add_eq_or_of_and_eq_zero _ _ h0
  rw [h1] at h2
  calc x - t = (x &&& ~~~t) + t - t := by rw [h2]
    _ = x &&& ~~~t := by rw [BitVec.add_sub_cancel]
theorem tp_bit (k i : Nat) (hi : i < 32) : (tp k).getLsbD i = decide (k = i) := by
  unfold tp
  rw [BitVec.getLsbD_twoPow]
  by_cases c : k = i
  · subst c; simp [hi]
  · simp [c]
theorem bt_sub (x : BitVec 32) (q : Nat) (hq : q < 32) (h : bt x q = true) (i : Nat) (hi : i < 32) : bt (x - tp (31 - q)) i = (bt x i && decide (i ≠ q)) := by
  rw [sub_bit x (tp (31 - q)) (by
    apply BitVec.eq_of_getLsbD_eq
    intro j hj
    rw [BitVec.getLsbD_and, tp_bit _ _ hj]
    by_cases c : 31 - q = j
    · subst c
      have : x.getLsbD (31 - q) = true := h
      simp [this]
    · simp [c])]
  unfold bt
  rw [BitVec.getLsbD_and, BitVec.getLsbD_not, tp_bit _ _ (by omega)]
  by_cases c : i = q
  · subst c; simp
  · have c2 : ¬ 31 - q = 31 - i := by omega
    simp [c, c2]
    omega
theorem lf_hit {m : List (BitVec 32)} {k p q : Nat} {x : BitVec 32} (h : LfQ m k p x) (hk : k < m.length) (hq : FstP x q) : setL m p = ((32 * k + q : Nat) : Int) :: setL m (32 * k + q + 1) ∧ LfQ m k (32 * k + q + 1) (x - tp (31 - q)) := by
  obtain ⟨h1, h2, h3⟩ := h
  obtain ⟨q1, q2, q3⟩ := hq
  have hb := h3 q q1
  rw [q2] at hb
  have hb' := hb.symm
  simp only [Bool.and_eq_true, decide_eq_true_eq] at hb'
  constructor
  · have h5 := setL_skip m (32 * k + q - p) p (by omega) (fun j a b => by
      have h4 := h3 (j - 32 * k) (by omega)
      rw [show 32 * k + (j - 32 * k) = j by omega, q3 _ (by omega)] at h4
      simpa [a] using h4)
    rw [h5, show p + (32 * k + q - p) = 32 * k + q by omega, setL_step (by omega), if_pos hb'.1]
  · refine ⟨by omega, by omega, fun i hi => ?_⟩
    rw [bt_sub x q q1 q2 i hi, h3 i hi]
    by_cases c : i = q
    · subst c
      simp
    · by_cases d : i < q
      · have h4 := h3 i hi
        rw [q3 i d] at h4
        rw [← h4]
        have : ¬ 32 * k + q + 1 ≤ 32 * k + i := by omega
        simp [this]
      · have e1 : p ≤ 32 * k + i := by omega
        have e2 : 32 * k + q + 1 ≤ 32 * k + i := by omega
        simp [c, e1, e2]
theorem tp_uI (n : Nat) (h : n < 32) : (2 : Int) ^ n % 4294967296 = uI (tp n) := by
  rw [uI_eq]
  unfold tp
  rw [BitVec.toNat_twoPow, show (4294967296 : Int) = ((2 ^ 32 : Nat) : Int) by decide, show (2 : Int) ^ n = ((2 ^ n : Nat) : Int) by push_cast; rfl]
  exact (Int.natCast_emod _ _).symm
theorem sub32 (a b : BitVec 32) : IntKind.u32.wrap (uI a - uI b) = uI (a - b) := by
  have := a.isLt
  have := b.isLt
  rw [uI_eq, uI_eq, uI_eq, BitVec.toNat_sub]
  show (_ : Int) % (2 : Int) ^ 32 = _
  rw [show (2 : Int) ^ 32 = 4294967296 by decide]
  omega
theorem sub_lt32 (x : BitVec 32) (q : Nat) (hq : q < 32) (h : bt x q = true) : (uI (x - tp (31 - q))).toNat < (uI x).toNat := by
  have h1 : tp (31 - q) ≤ x := by
    rw [BitVec.le_def]
    unfold tp
    rw [BitVec.toNat_twoPow]
    have h2 : x.getLsbD (31 - q) = true := h
    have h3 := Nat.ge_two_pow_of_testBit h2
    have : (2 : Nat) ^ (31 - q) < 2 ^ 32 := Nat.pow_lt_pow_right (by decide) (by omega)
    rw [Nat.mod_eq_of_lt this]
    exact h3
  have h4 : 0 < (tp (31 - q)).toNat := by
    unfold tp
    rw [BitVec.toNat_twoPow, Nat.mod_eq_of_lt (Nat.pow_lt_pow_right (by decide) (by omega))]
    exact Nat.two_pow_pos _
  rw [uI_eq, uI_eq, Int.toNat_natCast, Int.toNat_natCast, BitVec.toNat_sub_of_le h1]
  rw [BitVec.le_def] at h1
  omega
theorem setL_lt (m : List (BitVec 32)) (p : Nat) : ∀ x ∈ setL m p, 0 ≤ x ∧ x < 32 * m.length := by
  intro x hx
  unfold setL at hx
  obtain ⟨i, hi, rfl⟩ := List.mem_map.mp hx
  have := List.mem_range'_1.mp (List.mem_filter.mp hi).1
  omega
theorem bsG_es (l : List Nat) : ∀ (f : Nat) (a : Int) (P : List PB), (∀ b ∈ P, b.es.length = sumW b.m b.m.length ∧ 1 ≤ b.es.length) → (bsG l f a P).2.2 = 0 → ∀ b ∈ (bsG l f a P).1, b.es.length = sumW b.m b.m.length ∧ 1 ≤ b.es.length
  | 0, a, P, hP, h => by unfold bsG; intro b hb; cases hb
  | f + 1, a, P, hP, h => by
    rw [bsG_succ] at h ⊢
    by_cases c1 : dcE l a ≠ 0
    · rw [if_pos c1] at h; exact absurd h c1
    rw [if_neg c1] at h ⊢
    by_cases c2 : (dcI l a).op ≠ 1
    · rw [if_pos c2] at h; exact absurd h (by simp)
    rw [if_neg c2] at h ⊢
    by_cases c3 : dcE l (a + 1) ≠ 0
    · rw [if_pos c3] at h; exact absurd h c3
    rw [if_neg c3] at h ⊢
    by_cases c4 : (dcI l (a + 1)).op ≠ 2
    · rw [if_pos c4] at h; exact absurd h (by simp)
    rw [if_neg c4] at h ⊢
    by_cases c5 : (dcI l (a + 1)).n ≠ (dcI l a).n
    · rw [if_pos c5] at h; exact absurd h (by simp)
    rw [if_neg c5] at h ⊢
    generalize hr : enG l (a + 1 + dcZ l (a + 1)) (sumW (dcI l (a + 1)).m (dcI l (a + 1)).m.length) 0 [] = r at *
    unfold bsF at h ⊢
    by_cases c6 : r.2.1 ≠ 0
    · rw [if_pos c6] at h; exact absurd h c6
    rw [if_neg c6] at h ⊢
    have hl : r.1.length = sumW (dcI l (a + 1)).m (dcI l (a + 1)).m.length := by
      have := (enG_ok l (a + 1 + dcZ l (a + 1)) (sumW (dcI l (a + 1)).m (dcI l (a + 1)).m.length) 0 [] (by rw [hr]; simpa using c6)).1
      rw [hr] at this
      simpa using this
    have hP2 : ∀ b ∈ P ++ [(⟨a, (dcI l a).n, (dcI l (a + 1)).m, prE (a + 1 + dcZ l (a + 1)) r.1⟩ : PB)], b.es.length = sumW b.m b.m.length ∧ 1 ≤ b.es.length := by
      intro b hb
      rcases List.mem_append.mp hb with q | q
      · exact hP b q
      · simp at q
        subst q
        dsimp only
        rw [prE_len, hl]
        exact ⟨rfl, ((dcF (by simpa using c3)).m2 (by simpa using c4)).2.2⟩
    by_cases c7 : a + 1 + dcZ l (a + 1) + ((sumW (dcI l (a + 1)).m (dcI l (a + 1)).m.length : Nat) : Int) < wds l
    · rw [if_pos c7] at h ⊢
      exact bsG_es l f _ _ hP2 h
    · rw [if_neg c7]
      exact hP2
end Go.Proofs.Ytdpmhpmnkollaaa
namespace Go.Proofs.Ytdpmhpmnkollaaa
open Go.RowKit
set_option linter.unusedSimpArgs false
set_option linter.unusedVariables false

theorem own_typed18 {W : World} {base e size n : Nat} {v : Value} {xs : List Value} (h : W.ownsRow base e size v n xs) (z : Nat) (hz : v.ownBlock = some z) : ∃ cs, W.heap[z]? = some (.cells cs e) := by
  rcases h.2 with ⟨e0, _⟩ | ⟨g, cap, cur, e0, hb, hg, rest⟩
  · rw [e0] at hz; cases hz
  · rw [e0] at hz
    have q : g = z := by simpa [Value.ownBlock] using hz
    subst q
    exact ⟨_, hg⟩
theorem own_not18 {W : World} {base e size n : Nat} {v : Value} {xs : List Value} (h : W.ownsRow base e size v n xs) {z : Nat} {cs : Array Value} {T : TypeId} {fr : Nat × Nat} (hz : W.heap[z]? = some (.cells cs T fr)) (he : e ≠ T) : v.ownBlock ≠ some z := by
  intro q
  obtain ⟨cs', h2⟩ := own_typed18 h z q
  rw [h2] at hz
  injection hz with hz
  injection hz with _ h2 _
  exact he h2
theorem own_keep18 {W W' : World} {base e size n : Nat} {v : Value} {xs : List Value} (h : W.ownsRow base e size v n xs) (he : ∀ g, v.ownBlock = some g → W'.heap[g]? = W.heap[g]?) : W'.ownsRow base e size v n xs := by
  refine ⟨h.1, ?_⟩
  rcases h.2 with hn | ⟨g, cap, cur, rfl, hb, hg, rest⟩
  · exact .inl hn
  · exact .inr ⟨g, cap, cur, rfl, hb, by rw [he g rfl]; exact hg, rest⟩
theorem own_put3 {W : World} {base e size n B : Nat} {v : Value} {xs : List Value} (h : W.ownsRow base e size v n xs) (hv : v.ownBlock ≠ some B) (u0 u1 u2 : Value) : (((W.setCell ⟨B, 0, none⟩ u0).setCell ⟨B, 1, none⟩ u1).setCell ⟨B, 2, none⟩ u2).ownsRow base e size v n xs :=
  own_keep18 h (fun g e => (far_16 (fun q => hv (by rw [← q]; exact e))).trans ((far_16 (fun q => hv (by rw [← q]; exact e))).trans (far_16 (fun q => hv (by rw [← q]; exact e)))))
theorem gh_same18 {x y : Array Value} {d e f s : Nat} (h : ((x.toList.set e undef).set f undef).eraseIdx d = ((y.toList.set e undef).set f undef).eraseIdx d) (hs : s ≠ d) (ht : s ≠ e) (hu : s ≠ f) : x[s]? = y[s]? := by
  have := erase_get _ _ d s h hs
  rw [List.getElem?_set_ne (Ne.symm hu), List.getElem?_set_ne (Ne.symm hu), List.getElem?_set_ne (Ne.symm ht), List.getElem?_set_ne (Ne.symm ht)] at this
  simpa using this
end Go.Proofs.Ytdpmhpmnkollaaa
namespace Go.Proofs.Ytdpmhpmnkollaaa
open Go.RowKit
set_option linter.unusedSimpArgs false
set_option linter.unusedVariables false

def rowE8 : List (Bool × Int) → List Value
  | [] => []
  | e :: t => .bool e.1 :: .int .i64 e.2 :: rowE8 t
theorem rowE8_app : ∀ (A : List (Bool × Int)) (e : Bool × Int), rowE8 (A ++ [e]) = rowE8 A ++ [.bool e.1, .int .i64 e.2]
  | [], e => rfl
  | x :: A, e => by
    show _ :: _ :: rowE8 (A ++ [e]) = _
    rw [rowE8_app A e]; rfl
theorem rowE8_get : ∀ (A : List (Bool × Int)) (j : Nat) (e : Bool × Int), A[j]? = some e → (rowE8 A)[j * 2]? = some (.bool e.1) ∧ (rowE8 A)[j * 2 + 1]? = some (.int .i64 e.2)
  | [], j, e, h => by simp at h
  | x :: A, 0, e, h => by simp at h; subst h; exact ⟨rfl, rfl⟩
  | x :: A, j + 1, e, h => by
    have := rowE8_get A j e (by simpa using h)
    rw [show (j + 1) * 2 = j * 2 + 2 by omega]
    exact this
theorem rowE8_set : ∀ (A : List (Bool × Int)) (j : Nat) (e : Bool × Int) (n : Int), A[j]? = some e → (rowE8 A).set (j * 2 + 1) (.int .i64 n) = rowE8 (A.set j (e.1, n))
  | [], j, e, n, h => by simp at h
  | x :: A, 0, e, n, h => by simp at h; subst h; rfl
  | x :: A, j + 1, e, n, h => by
    have := rowE8_set A j e n (by simpa using h)
    rw [show (j + 1) * 2 + 1 = (j * 2 + 1) + 2 by omega]
    show _ :: _ :: (rowE8 A).set (j * 2 + 1) (.int .i64 n) = _
    rw [this]; rfl
structure Bv where
  a : Int
  t : Int
  vs : Value
  ve : Value
def rowB8 : List Bv → List Value
  | [] => []
  | x :: t => .int .i64 x.a :: .int .i64 x.t :: x.vs :: x.ve :: rowB8 t
theorem rowB8_app : ∀ (A : List Bv) (x : Bv), rowB8 (A ++ [x]) = rowB8 A ++ [.int .i64 x.a, .int .i64 x.t, x.vs, x.ve]
  | [], e => rfl
  | y :: A, e => by
    show _ :: _ :: _ :: _ :: rowB8 (A ++ [e]) = _
    rw [rowB8_app A e]; rfl
theorem rowB8_get : ∀ (A : List Bv) (j : Nat) (x : Bv), A[j]? = some x → (rowB8 A)[j * 4]? = some (.int .i64 x.a) ∧ (rowB8 A)[j * 4 + 1]? = some (.int .i64 x.t) ∧ (rowB8 A)[j * 4 + 2]? = some x.vs ∧ (rowB8 A)[j * 4 + 3]? = some x.ve
  | [], j, e, h => by simp at h
  | y :: A, 0, e, h => by simp at h; subst h; exact ⟨rfl, rfl, rfl, rfl⟩
  | y :: A, j + 1, e, h => by
    have := rowB8_get A j e (by simpa using h)
    rw [show (j + 1) * 4 = j * 4 + 4 by omega]
    exact this
theorem rowB8_set2 : ∀ (A : List Bv) (j : Nat) (x : Bv) (v : Value), A[j]? = some x → (rowB8 A).set (j * 4 + 2) v = rowB8 (A.set j { x with vs := v })
  | [], j, e, n, h => by simp at h
  | x :: A, 0, e, n, h => by simp at h; subst h; rfl
  | x :: A, j + 1, e, n, h => by
    have := rowB8_set2 A j e n (by simpa using h)
    rw [show (j + 1) * 4 + 2 = (j * 4 + 2) + 4 by omega]
    show _ :: _ :: _ :: _ :: (rowB8 A).set (j * 4 + 2) n = _
    rw [this]; rfl
theorem rowB8_set3 : ∀ (A : List Bv) (j : Nat) (x : Bv) (v : Value), A[j]? = some x → (rowB8 A).set (j * 4 + 3) v = rowB8 (A.set j { x with ve := v })
  | [], j, e, n, h => by simp at h
  | x :: A, 0, e, n, h => by simp at h; subst h; rfl
  | x :: A, j + 1, e, n, h => by
    have := rowB8_set3 A j e n (by simpa using h)
    rw [show (j + 1) * 4 + 3 = (j * 4 + 3) + 4 by omega]
    show _ :: _ :: _ :: _ :: (rowB8 A).set (j * 4 + 3) n = _
    rw [this]; rfl
theorem own_put18 {W : World} {base e size n g cap j : Nat} {xs : List Value} (h : W.ownsRow base e size (.slice (some ⟨g, 0, none⟩) n cap) n xs) (u : Value) (hj : j < n * size) : (W.setCell ⟨g, j, none⟩ u).ownsRow base e size (.slice (some ⟨g, 0, none⟩) n cap) n (xs.set j u) := by
  obtain ⟨h1, h2⟩ := h
  rcases h2 with ⟨h2, -⟩ | ⟨g', cap', cur, e0, hb, hg, hn, hm, hs, ht⟩
  · cases h2
  · injection e0 with e1 e2 e3
    injection e1 with e1
    injection e1 with e1
    subst e1 e3
    refine ⟨by simpa using h1, .inr ⟨g, cap, cur.setIfInBounds j u, rfl, hb, set_16 hg u, hn, hm, by simpa using hs, ?_⟩⟩
    rw [Array.toList_setIfInBounds, List.take_set, ht]
theorem own_some18 {W : World} {base e size n : Nat} {v : Value} {xs : List Value} (h : W.ownsRow base e size v n xs) (hn : 0 < n) : ∃ g cap, v = .slice (some ⟨g, 0, none⟩) n cap ∧ n ≤ cap := by
  rcases h.2 with ⟨-, h2⟩ | ⟨g, cap, cur, e0, hb, hg, hc, -⟩
  · omega
  · exact ⟨g, cap, e0, hc⟩
theorem own_at18 {W : World} {base e size n g cap : Nat} {xs : List Value} (h : W.ownsRow base e size (.slice (some ⟨g, 0, none⟩) n cap) n xs) {j : Nat} {u : Value} (hj : xs[j]? = some u) : W.cell? ⟨g, j, none⟩ = some u ∧ W.frozen? ⟨g, j, none⟩ = false := by
  have hc := h.cells (g := g) rfl j u hj
  rw [addA, Nat.zero_add] at hc
  obtain ⟨cs, h2⟩ := own_typed18 h g rfl
  exact ⟨hc, fr_16 h2⟩
def vTy (T : TypeId) : Prop := T = 127 ∨ T = 111 ∨ T = 135
def Kt (W W' : World) : Prop := W.heap.size ≤ W'.heap.size ∧ ∀ (z : Nat) (cs : Array Value) (T : TypeId) (fr : Nat × Nat), W.heap[z]? = some (.cells cs T fr) → ¬ vTy T → W'.heap[z]? = some (.cells cs T fr)
theorem Kt.refl (W : World) : Kt W W := ⟨Nat.le_refl _, fun _ _ _ _ h _ => h⟩
theorem Kt.trans {A B C : World} (h : Kt A B) (g : Kt B C) : Kt A C := ⟨Nat.le_trans h.1 g.1, fun z cs T fr h1 h2 => g.2 z cs T fr (h.2 z cs T fr h1 h2) h2⟩
theorem Kt.below {W W' : World} (hb : Below W.heap.size W W') : Kt W W' := ⟨hb.size, fun z cs T fr h1 _ => (hb.block z (lt_16 h1)).trans h1⟩
theorem Kt.set {W : World} {z o : Nat} {cs : Array Value} {T : TypeId} (hz : W.heap[z]? = some (.cells cs T)) (hT : vTy T) (u : Value) : Kt W (W.setCell ⟨z, o, none⟩ u) := by
  refine ⟨by simp, fun z' cs' T' fr' h1 h2 => ?_⟩
  rw [far_16 (fun q => by subst q; rw [hz] at h1; injection h1 with h1; injection h1 with _ h3 _; subst h3; exact h2 hT)]
  exact h1
theorem Kt.grown {W W' : World} {base e size n : Nat} {v : Value} {xs : List Value} (h : W.ownsRow base e size v n xs) (he : vTy e) (hg : W.grownBy W' v.ownBlock) : Kt W W' := by
  refine ⟨hg.size, fun z cs T fr h1 h2 => ?_⟩
  rw [hg.block z (lt_16 h1) (fun q => ?_)]
  · exact h1
  · obtain ⟨cs', h3⟩ := own_typed18 h z q.symm
    rw [h3] at h1
    injection h1 with h1
    injection h1 with _ h4 _
    subst h4
    exact h2 he
def BkO (W : World) (base : Nat) (x : Bv) (p : PB) : Prop := x.a = p.a ∧ x.t = p.t ∧ W.ownsRow base 96 1 x.vs p.m.length (p.m.map cU) ∧ W.ownsRow base 135 2 x.ve p.es.length (rowE8 p.es)
structure BsV (W : World) (base : Nat) (vb : Value) (L : List Bv) (P : List PB) : Prop where
  o : W.ownsRow base 111 4 vb L.length (rowB8 L)
  l : L.length = P.length
  m : ∀ (k : Nat) (x : Bv) (p : PB), L[k]? = some x → P[k]? = some p → BkO W base x p
  d : ∀ (j k : Nat) (x y : Bv) (z : Nat), L[j]? = some x → L[k]? = some y → x.ve.ownBlock = some z → y.ve.ownBlock = some z → j = k
section
variable {W W' : World} {base : Nat} {vb : Value} {L : List Bv} {P : List PB} {x : Bv} {p : PB}
theorem BkO.keep (h : BkO W base x p) (h1 : ∀ z, x.vs.ownBlock = some z → W'.heap[z]? = W.heap[z]?) (h2 : ∀ z, x.ve.ownBlock = some z → W'.heap[z]? = W.heap[z]?) : BkO W' base x p := ⟨h.1, h.2.1, own_keep18 h.2.2.1 h1, own_keep18 h.2.2.2 h2⟩
theorem BkO.below (h : BkO W base x p) (hb : Below W.heap.size W W') : BkO W' base x p := h.keep (fun z e => hb.block z (h.2.2.1.lt z e).2) (fun z e => hb.block z (h.2.2.2.lt z e).2)
theorem BsV.below (h : BsV W base vb L P) (hb : Below W.heap.size W W') : BsV W' base vb L P := ⟨own_b13 hb h.o, h.l, fun k x p h1 h2 => (h.m k x p h1 h2).below hb, h.d⟩
theorem BsV.get (h : BsV W base vb L P) {k : Nat} {p : PB} (hp : P[k]? = some p) : ∃ x, L[k]? = some x ∧ BkO W base x p := by
  have h1 : k < L.length := by rw [h.l]; exact (List.getElem?_eq_some_iff.mp hp).1
  exact ⟨L[k], List.getElem?_eq_getElem h1, h.m k _ p (List.getElem?_eq_getElem h1) hp⟩
theorem BsV.far (h : BsV W base vb L P) {z o : Nat} {cs : Array Value} {T : TypeId} {fr : Nat × Nat} (hz : W.heap[z]? = some (.cells cs T fr)) (h1 : 111 ≠ T) (h2 : 96 ≠ T) (h3 : 135 ≠ T) (u : Value) : BsV (W.setCell ⟨z, o, none⟩ u) base vb L P := by
  have hk : ∀ y, y ≠ z → (W.setCell ⟨z, o, none⟩ u).heap[y]? = W.heap[y]? := fun y q => far_16 q
  refine ⟨own_keep18 h.o (fun g e => hk g (fun q => own_not18 h.o hz h1 (q ▸ e))), h.l, fun k x p q1 q2 => ?_, h.d⟩
  have hx := h.m k x p q1 q2
  exact hx.keep (fun g e => hk g (fun q => own_not18 hx.2.2.1 hz h2 (q ▸ e))) (fun g e => hk g (fun q => own_not18 hx.2.2.2 hz h3 (q ▸ e)))
theorem BsV.push {g cap : Nat} (h : BsV W base vb L P) (hg : W.grownBy W' vb.ownBlock) (a t : Int) (ho : W'.ownsRow base 111 4 (.slice (some ⟨g, 0, none⟩) (L.length + 1) cap) (L.length + 1) (rowB8 L ++ [.int .i64 a, .int .i64 t, .slice none 0 0, .slice none 0 0])) :
    BsV W' base (.slice (some ⟨g, 0, none⟩) (L.length + 1) cap) (L ++ [⟨a, t, .slice none 0 0, .slice none 0 0⟩]) (P ++ [⟨a, t, [], []⟩]) := by
  have hl : (L ++ [(⟨a, t, .slice none 0 0, .slice none 0 0⟩ : Bv)]).length = L.length + 1 := by simp
  refine ⟨by rw [hl, rowB8_app]; exact ho, by simp [h.l], fun k x p h1 h2 => ?_, fun j k x y z h1 h2 h3 h4 => ?_⟩
  · by_cases hk : k < L.length
    · rw [List.getElem?_append_left hk] at h1
      rw [List.getElem?_append_left (by rw [← h.l]; exact hk)] at h2
      have hx := h.m k x p h1 h2
      refine hx.keep (fun z e => hg.block z (hx.2.2.1.lt z e).2 (fun q => ?_)) (fun z e => hg.block z (hx.2.2.2.lt z e).2 (fun q => ?_))
      · obtain ⟨cs, hc⟩ := own_typed18 hx.2.2.1 z e
        exact own_not18 h.o hc (by decide) q.symm
      · obtain ⟨cs, hc⟩ := own_typed18 hx.2.2.2 z e
        exact own_not18 h.o hc (by decide) q.symm
    · have hk' : k = L.length := by have := (List.getElem?_eq_some_iff.mp h1).1; rw [hl] at this; omega
      subst hk'
      rw [List.getElem?_append_right (Nat.le_refl _), Nat.sub_self] at h1
      rw [h.l, List.getElem?_append_right (Nat.le_refl _), Nat.sub_self] at h2
      simp at h1 h2
      subst h1 h2
      exact ⟨rfl, rfl, World.ownsRow_nil _ _ _ _, World.ownsRow_nil _ _ _ _⟩
  · have key : ∀ (i : Nat) (x : Bv), (L ++ [(⟨a, t, .slice none 0 0, .slice none 0 0⟩ : Bv)])[i]? = some x → x.ve.ownBlock = some z → L[i]? = some x := fun i x q1 q2 => by
      by_cases hi : i < L.length
      · rwa [List.getElem?_append_left hi] at q1
      · have hi' : i = L.length := by have := (List.getElem?_eq_some_iff.mp q1).1; rw [hl] at this; omega
        subst hi'
        rw [List.getElem?_append_right (Nat.le_refl _), Nat.sub_self] at q1
        simp at q1
        subst q1
        cases q2
    exact h.d j k x y z (key j x h1 h3) (key k y h2 h4) h3 h4
theorem BsV.slots {g n cap k : Nat} {x : Bv} {p : PB} (h : BsV W base (.slice (some ⟨g, 0, none⟩) n cap) L P) (hx : L[k]? = some x) (hp : P[k]? = some p) {vs : Value} {m : List (BitVec 32)} (ho : W.ownsRow base 96 1 vs m.length (m.map cU)) :
    BsV (W.setCell ⟨g, k * 4 + 2, none⟩ vs) base (.slice (some ⟨g, 0, none⟩) n cap) (L.set k { x with vs := vs }) (P.set k { p with m := m }) := by
  have hk := (List.getElem?_eq_some_iff.mp hx).1
  have hn : n = L.length := by obtain ⟨ao, c, e⟩ := own_form h.o; injection e
  obtain ⟨cs, hc⟩ := own_typed18 h.o g rfl
  have hf : ∀ y, y ≠ g → (W.setCell ⟨g, k * 4 + 2, none⟩ vs).heap[y]? = W.heap[y]? := fun y q => far_16 q
  subst hn
  refine ⟨?_, by simp [h.l], fun j y q h1 h2 => ?_, fun i j y y' z h1 h2 h3 h4 => ?_⟩
  · have := own_put18 h.o vs (j := k * 4 + 2) (by omega)
    rw [rowB8_set2 L k x vs hx] at this
    simpa using this
  · have base1 : ∀ (y : Bv) (q : PB), BkO W base y q → BkO (W.setCell ⟨g, k * 4 + 2, none⟩ vs) base y q := fun y q hy => hy.keep (fun z e => hf z (fun q' => own_not18 hy.2.2.1 hc (by decide) (q' ▸ e))) (fun z e => hf z (fun q' => own_not18 hy.2.2.2 hc (by decide) (q' ▸ e)))
    by_cases hj : k = j
    · subst hj
      rw [List.getElem?_set_self hk] at h1
      rw [List.getElem?_set_self (by rw [← h.l]; exact hk)] at h2
      injection h1 with h1
      injection h2 with h2
      subst h1 h2
      have hy := h.m k x p hx hp
      exact base1 _ _ ⟨hy.1, hy.2.1, ho, hy.2.2.2⟩
    · rw [List.getElem?_set_ne hj] at h1 h2
      exact base1 _ _ (h.m j y q h1 h2)
  · have key : ∀ (i : Nat) (y : Bv), (L.set k { x with vs := vs })[i]? = some y → ∃ y0, L[i]? = some y0 ∧ y0.ve = y.ve := fun i y q => by
      by_cases hj : k = i
      · subst hj
        rw [List.getElem?_set_self hk] at q
        injection q with q
        subst q
        exact ⟨x, hx, rfl⟩
      · rw [List.getElem?_set_ne hj] at q
        exact ⟨y, q, rfl⟩
    obtain ⟨y0, a1, a2⟩ := key i y h1
    obtain ⟨y1, b1, b2⟩ := key j y' h2
    exact h.d i j y0 y1 z a1 b1 (by rw [a2]; exact h3) (by rw [b2]; exact h4)
theorem BsV.ents {W0 : World} {g n cap k : Nat} {x : Bv} {p : PB} (h0 : BsV W0 base (.slice (some ⟨g, 0, none⟩) n cap) L P) (hx : L[k]? = some x) (hp : P[k]? = some p) (hg : W0.grownBy W x.ve.ownBlock) {ve : Value} {es : List (Bool × Int)} (ho : W.ownsRow base 135 2 ve es.length (rowE8 es)) (hat : ∀ z, ve.ownBlock = some z → x.ve.ownBlock = some z ∨ W0.heap.size ≤ z) :
    BsV (W.setCell ⟨g, k * 4 + 3, none⟩ ve) base (.slice (some ⟨g, 0, none⟩) n cap) (L.set k { x with ve := ve }) (P.set k { p with es := es }) := by
  have hk := (List.getElem?_eq_some_iff.mp hx).1
  have hn : n = L.length := by obtain ⟨ao, c, e⟩ := own_form h0.o; injection e
  have hxx := h0.m k x p hx hp
  obtain ⟨cs0, hc0⟩ := own_typed18 h0.o g rfl
  have hgn : x.ve.ownBlock ≠ some g := own_not18 hxx.2.2.2 hc0 (by decide)
  have hc : W.heap[g]? = some (.cells cs0 111) := (hg.block g (lt_16 hc0) (fun q => hgn q.symm)).trans hc0
  have ho1 : W.ownsRow base 111 4 (.slice (some ⟨g, 0, none⟩) n cap) L.length (rowB8 L) := own_keep18 h0.o (fun z e => hg.block z (h0.o.lt z e).2 (fun q => by
    have : g = z := by simpa [Value.ownBlock] using e
    subst this; exact hgn q.symm))
  have hf : ∀ y, y ≠ g → (W.setCell ⟨g, k * 4 + 3, none⟩ ve).heap[y]? = W.heap[y]? := fun y q => far_16 q
  subst hn
  refine ⟨?_, by simp [h0.l], fun j y q h1 h2 => ?_, fun i j y y' z h1 h2 h3 h4 => ?_⟩
  · have := own_put18 ho1 ve (j := k * 4 + 3) (by omega)
    rw [rowB8_set3 L k x ve hx] at this
    simpa using this
  · have base1 : ∀ (y : Bv) (q : PB), BkO W base y q → BkO (W.setCell ⟨g, k * 4 + 3, none⟩ ve) base y q := fun y q hy => hy.keep (fun z e => hf z (fun q' => own_not18 hy.2.2.1 hc (by decide) (q' ▸ e))) (fun z e => hf z (fun q' => own_not18 hy.2.2.2 hc (by decide) (q' ▸ e)))
    by_cases hj : k = j
    · subst hj
      rw [List.getElem?_set_self hk] at h1
      rw [List.getElem?_set_self (by rw [← h0.l]; exact hk)] at h2
      injection h1 with h1
      injection h2 with h2
      subst h1 h2
      refine base1 _ _ ⟨hxx.1, hxx.2.1, ?_, ho⟩
      exact own_keep18 hxx.2.2.1 (fun z e => hg.block z (hxx.2.2.1.lt z e).2 (fun q => by
        obtain ⟨cs, hc⟩ := own_typed18 hxx.2.2.1 z e
        exact own_not18 hxx.2.2.2 hc (by decide) q.symm))
    · rw [List.getElem?_set_ne hj] at h1 h2
      have hy := h0.m j y q h1 h2
      refine base1 _ _ (hy.keep (fun z e => hg.block z (hy.2.2.1.lt z e).2 (fun q => ?_)) (fun z e => hg.block z (hy.2.2.2.lt z e).2 (fun q => ?_)))
      · obtain ⟨cs, hc⟩ := own_typed18 hy.2.2.1 z e
        exact own_not18 hxx.2.2.2 hc (by decide) q.symm
      · exact hj (h0.d k j x y z hx h1 q.symm e)
  · have key : ∀ (i : Nat) (y : Bv), (L.set k { x with ve := ve })[i]? = some y → y.ve.ownBlock = some z → (i = k ∧ ve.ownBlock = some z) ∨ (i ≠ k ∧ L[i]? = some y) := fun i y q q2 => by
      by_cases hj : k = i
      · subst hj
        rw [List.getElem?_set_self hk] at q
        injection q with q
        subst q
        exact .inl ⟨rfl, q2⟩
      · rw [List.getElem?_set_ne hj] at q
        exact .inr ⟨fun e => hj e.symm, q⟩
    have clash : ∀ (i : Nat) (y : Bv), i ≠ k → L[i]? = some y → y.ve.ownBlock = some z → ve.ownBlock = some z → False := fun i y q1 q2 q3 q4 => by
      rcases hat z q4 with q | q
      · exact q1 (h0.d i k y x z q2 hx q3 q)
      · obtain ⟨p', hp'⟩ : ∃ p', P[i]? = some p' := ⟨_, List.getElem?_eq_getElem (by rw [← h0.l]; exact (List.getElem?_eq_some_iff.mp q2).1)⟩
        have := ((h0.m i y p' q2 hp').2.2.2.lt z q3).2
        omega
    rcases key i y h1 h3 with ⟨a1, a2⟩ | ⟨a1, a2⟩ <;> rcases key j y' h2 h4 with ⟨b1, b2⟩ | ⟨b1, b2⟩
    · omega
    · exact (clash j y' b1 b2 h4 a2).elim
    · exact (clash i y a1 a2 h3 b2).elim
    · exact h0.d i j y y' z a2 b2 h3 h4
theorem BsV.link {g cap k i : Nat} {x : Bv} {p : PB} {e : Bool × Int} (h : BsV W base vb L P) (hx : L[k]? = some x) (hp : P[k]? = some p) (hv : x.ve = .slice (some ⟨g, 0, none⟩) p.es.length cap) (he : p.es[i]? = some e) (n : Int) :
    BsV (W.setCell ⟨g, i * 2 + 1, none⟩ (.int .i64 n)) base vb L (P.set k { p with es := p.es.set i (e.1, n) }) := by
  have hk := (List.getElem?_eq_some_iff.mp hx).1
  have hxx := h.m k x p hx hp
  obtain ⟨cs, hc⟩ := own_typed18 hxx.2.2.2 g (by rw [hv]; rfl)
  have hf : ∀ y, y ≠ g → (W.setCell ⟨g, i * 2 + 1, none⟩ (.int .i64 n)).heap[y]? = W.heap[y]? := fun y q => far_16 q
  refine ⟨own_keep18 h.o (fun z e => hf z (fun q => own_not18 h.o hc (by decide) (q ▸ e))), by simp [h.l], fun j y q h1 h2 => ?_, h.d⟩
  by_cases hj : k = j
  · subst hj
    rw [List.getElem?_set_self (by rw [← h.l]; exact hk)] at h2
    rw [hx] at h1
    injection h1 with h1
    injection h2 with h2
    subst h1 h2
    refine ⟨hxx.1, hxx.2.1, own_keep18 hxx.2.2.1 (fun z e => hf z (fun q => own_not18 hxx.2.2.1 hc (by decide) (q ▸ e))), ?_⟩
    have ho := hxx.2.2.2
    rw [hv] at ho
    have := own_put18 ho (.int .i64 n) (j := i * 2 + 1) (by have := (List.getElem?_eq_some_iff.mp he).1; omega)
    rw [rowE8_set _ _ _ _ he] at this
    rw [hv]
    simpa using this
  · rw [List.getElem?_set_ne hj] at h2
    have hy := h.m j y q h1 h2
    refine hy.keep (fun z e => hf z (fun q' => own_not18 hy.2.2.1 hc (by decide) (q' ▸ e))) (fun z e => hf z (fun q' => hj ?_))
    subst q'
    exact h.d k j x y z hx h1 (by rw [hv]; rfl) e
end
structure RdR (W : World) (base G : Nat) (vc : Value) (at_ left : Int) (vb : Value) (L : List Bv) (P : List PB) : Prop where
  g : W.heap[G]? = some (.cells #[vc, .int .i64 at_, vb, .int .i64 left] 127)
  b : BsV W base vb L P
  bG : base ≤ G
def RdQ (W : World) (base G : Nat) (vc : Value) (at_ left : Int) (P : List PB) : Prop := ∃ vb L, RdR W base G vc at_ left vb L P
section
variable {W W' : World} {base G : Nat} {vc : Value} {a l : Int} {vb : Value} {L : List Bv} {P : List PB}
theorem RdR.below (h : RdR W base G vc a l vb L P) (hb : Below W.heap.size W W') : RdR W' base G vc a l vb L P := ⟨(hb.block _ (lt_16 h.g)).trans h.g, h.b.below hb, h.bG⟩
theorem RdR.c0 (h : RdR W base G vc a l vb L P) : W.cell? ⟨G, 0, none⟩ = some vc := at_16 h.g 0 _ rfl
theorem RdR.c1 (h : RdR W base G vc a l vb L P) : W.cell? ⟨G, 1, none⟩ = some (.int .i64 a) := at_16 h.g 1 _ rfl
theorem RdR.c2 (h : RdR W base G vc a l vb L P) : W.cell? ⟨G, 2, none⟩ = some vb := at_16 h.g 2 _ rfl
theorem RdR.c3 (h : RdR W base G vc a l vb L P) : W.cell? ⟨G, 3, none⟩ = some (.int .i64 l) := at_16 h.g 3 _ rfl
theorem RdR.s1 (h : RdR W base G vc a l vb L P) (n : Int) : RdR (W.setCell ⟨G, 1, none⟩ (.int .i64 n)) base G vc n l vb L P := ⟨by rw [set_16 h.g]; rfl, h.b.far h.g (by decide) (by decide) (by decide) _, h.bG⟩
theorem RdR.s3 (h : RdR W base G vc a l vb L P) (n : Int) : RdR (W.setCell ⟨G, 3, none⟩ (.int .i64 n)) base G vc a n vb L P := ⟨by rw [set_16 h.g]; rfl, h.b.far h.g (by decide) (by decide) (by decide) _, h.bG⟩
theorem RdR.ks (h : RdR W base G vc a l vb L P) (o : Nat) (u : Value) : Kt W (W.setCell ⟨G, o, none⟩ u) := Kt.set h.g (.inl rfl) u
theorem RdR.bs (h : RdR W base G vc a l vb L P) {w : World} (hb : Below base w W) (o : Nat) (u : Value) : Below base w (W.setCell ⟨G, o, none⟩ u) := hb.setCell (p := ⟨G, o, none⟩) h.bG u
end
end Go.Proofs.Ytdpmhpmnkollaaa
