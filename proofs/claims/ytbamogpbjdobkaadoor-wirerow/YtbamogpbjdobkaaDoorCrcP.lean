/-
  Plain: the sum of bytes by halving, its lines: by exclusive or, so many halvings, products of two sums. Nothing of the program is imported here.
-/
import Derived.WalkKit
import Derived.WalkSpells
import Derived.WalkLawsBesides
namespace Go.Proofs.YtbamogpbjdobkaaDoor
open Go.RowKit
set_option linter.unusedSimpArgs false
set_option linter.unusedVariables false

def cM : BitVec 32 := 0x82F63B78#32
def hb (x : BitVec 32) : BitVec 32 := (x >>> 1) ^^^ (if x.getLsbD 0 then cM else 0#32)
def hbN : Nat → BitVec 32 → BitVec 32
  | 0, x => x
  | n + 1, x => hbN n (hb x)
theorem x4 (a b c d : BitVec 32) : (a ^^^ b) ^^^ (c ^^^ d) = (a ^^^ c) ^^^ (b ^^^ d) := by
  rw [BitVec.xor_assoc, BitVec.xor_assoc, ← BitVec.xor_assoc b c d, BitVec.xor_comm b c, BitVec.xor_assoc c b d]
theorem xx (a : BitVec 32) : a ^^^ a = 0#32 := BitVec.xor_self
theorem hb_xor (x y : BitVec 32) : hb (x ^^^ y) = hb x ^^^ hb y := by
  unfold hb
  rw [BitVec.ushiftRight_xor_distrib, BitVec.getLsbD_xor, x4]
  congr 1
  cases x.getLsbD 0 <;> cases y.getLsbD 0 <;> simp
theorem hb_zero : hb 0#32 = 0#32 := by decide
theorem hbN_xor (n : Nat) : ∀ x y, hbN n (x ^^^ y) = hbN n x ^^^ hbN n y := by
  induction n with
  | zero => intro x y; rfl
  | succ n ih => intro x y; simp only [hbN]; rw [hb_xor, ih]
theorem hbN_zero (n : Nat) : hbN n 0#32 = 0#32 := by
  induction n with
  | zero => rfl
  | succ n ih => simp only [hbN]; rw [hb_zero, ih]
theorem hbN_add (m n : Nat) : ∀ x, hbN (m + n) x = hbN n (hbN m x) := by
  induction m with
  | zero => intro x; simp [hbN]
  | succ m ih => intro x; rw [Nat.succ_add]; simp only [hbN]; rw [ih]
theorem hbN_one (n : Nat) (x : BitVec 32) : hbN (n + 1) x = hb (hbN n x) := by
  rw [hbN_add n 1]; rfl
theorem hbN_hb (n : Nat) (x : BitVec 32) : hbN n (hb x) = hb (hbN n x) := by
  rw [← hbN_one]; rfl
theorem hb_top (x : BitVec 32) : (hb x).getLsbD 31 = x.getLsbD 0 := by
  unfold hb
  rw [BitVec.getLsbD_xor, BitVec.getLsbD_ushiftRight]
  have : x.getLsbD (1 + 31) = false := BitVec.getLsbD_of_ge _ _ (by omega)
  rw [this]
  cases x.getLsbD 0 <;> decide
theorem hb_inj (x : BitVec 32) (h : hb x = 0#32) : x = 0#32 := by
  have h0 : x.getLsbD 0 = false := by rw [← hb_top, h]; simp
  unfold hb at h
  rw [h0] at h
  simp at h
  apply BitVec.eq_of_getLsbD_eq
  intro i hi
  by_cases c : i = 0
  · subst c; rw [h0]; simp
  · have := congrArg (fun z => z.getLsbD (i - 1)) h
    simp only [BitVec.getLsbD_ushiftRight] at this
    have e : 1 + (i - 1) = i := by omega
    rw [e] at this
    rw [this]; simp
theorem hbN_inj (n : Nat) : ∀ x, hbN n x = 0#32 → x = 0#32 := by
  induction n with
  | zero => intro x h; exact h
  | succ n ih => intro x h; exact hb_inj _ (ih _ h)
theorem hbN_ne (n : Nat) (x y : BitVec 32) (h : x ≠ y) : hbN n x ≠ hbN n y := by
  intro e
  apply h
  have h2 : hbN n (x ^^^ y) = 0#32 := by rw [hbN_xor, e, xx]
  have h3 := hbN_inj n _ h2
  have h4 : (x ^^^ y) ^^^ y = 0#32 ^^^ y := by rw [h3]
  rw [BitVec.xor_assoc, xx] at h4
  simpa using h4

/-- The table of what the lowest four bits become. -/
def cT : Nat → BitVec 32
  | 0 => 0x00000000#32 | 1 => 0x105ec76f#32 | 2 => 0x20bd8ede#32 | 3 => 0x30e349b1#32 | 4 => 0x417b1dbc#32 | 5 => 0x5125dad3#32 | 6 => 0x61c69362#32 | 7 => 0x7198540d#32
  | 8 => 0x82f63b78#32 | 9 => 0x92a8fc17#32 | 10 => 0xa24bb5a6#32 | 11 => 0xb21572c9#32 | 12 => 0xc38d26c4#32 | 13 => 0xd3d3e1ab#32 | 14 => 0xe330a81a#32 | 15 => 0xf36e6f75#32
  | _ => 0#32
theorem cT_eq : ∀ k : Fin 16, hbN 4 (BitVec.ofNat 32 k.val) = cT k.val := by decide +kernel
theorem hb_even (x : BitVec 32) (h : x.getLsbD 0 = false) : hb x = x >>> 1 := by unfold hb; rw [h]; simp
theorem hb_hi (x : BitVec 32) (h : ∀ i, i < 4 → x.getLsbD i = false) : hbN 4 x = x >>> 4 := by
  simp only [hbN]
  have e1 : hb x = x >>> 1 := hb_even x (h 0 (by omega))
  have e2 : hb (x >>> 1) = x >>> 2 := by
    rw [hb_even _ (by rw [BitVec.getLsbD_ushiftRight]; exact h 1 (by omega)), ← BitVec.shiftRight_add]
  have e3 : hb (x >>> 2) = x >>> 3 := by
    rw [hb_even _ (by rw [BitVec.getLsbD_ushiftRight]; exact h 2 (by omega)), ← BitVec.shiftRight_add]
  have e4 : hb (x >>> 3) = x >>> 4 := by
    rw [hb_even _ (by rw [BitVec.getLsbD_ushiftRight]; exact h 3 (by omega)), ← BitVec.shiftRight_add]
  rw [e1, e2, e3, e4]
theorem and15 (x : BitVec 32) : x &&& 15#32 = BitVec.ofNat 32 (x.toNat % 16) := by
  apply BitVec.eq_of_toNat_eq
  rw [BitVec.toNat_and, BitVec.toNat_ofNat, BitVec.toNat_ofNat]
  have h : x.toNat &&& 15 = x.toNat % 16 := Nat.and_two_pow_sub_one_eq_mod x.toNat 4
  have e : 15 % 2 ^ 32 = 15 := by decide
  rw [e, h]
  omega
theorem hb_four (x : BitVec 32) : hbN 4 x = (x >>> 4) ^^^ cT (x.toNat % 16) := by
  have hs : x = (x &&& ~~~15#32) ^^^ (x &&& 15#32) := by
    apply BitVec.eq_of_getLsbD_eq
    intro i hi
    simp only [BitVec.getLsbD_xor, BitVec.getLsbD_and, BitVec.getLsbD_not, hi, decide_true, Bool.true_and]
    cases x.getLsbD i <;> cases (15#32).getLsbD i <;> rfl
  have h1 : hbN 4 (x &&& ~~~15#32) = (x &&& ~~~15#32) >>> 4 := by
    apply hb_hi
    intro i hi
    rw [BitVec.getLsbD_and, BitVec.getLsbD_not]
    have : i = 0 ∨ i = 1 ∨ i = 2 ∨ i = 3 := by omega
    rcases this with rfl | rfl | rfl | rfl <;> simp
  have h2 : (x &&& ~~~15#32) >>> 4 = x >>> 4 := by
    apply BitVec.eq_of_getLsbD_eq
    intro i hi
    rw [BitVec.getLsbD_ushiftRight, BitVec.getLsbD_ushiftRight, BitVec.getLsbD_and, BitVec.getLsbD_not]
    by_cases c : 4 + i < 32
    · have h15 : (15#32).getLsbD (4 + i) = false := by
        rw [BitVec.getLsbD_ofNat]
        have : (15 : Nat).testBit (4 + i) = false := Nat.testBit_lt_two_pow (Nat.lt_of_lt_of_le (by decide : 15 < 2 ^ 4) (Nat.pow_le_pow_right (by decide) (by omega)))
        rw [this]; simp
      rw [h15]; simp [c]
    · rw [BitVec.getLsbD_of_ge x _ (by omega)]; simp
  have h3 : hbN 4 (x &&& 15#32) = cT (x.toNat % 16) := by
    rw [and15]; exact cT_eq ⟨x.toNat % 16, by omega⟩
  calc hbN 4 x = hbN 4 ((x &&& ~~~15#32) ^^^ (x &&& 15#32)) := by rw [← hs]
    _ = _ := by rw [hbN_xor, h1, h2, h3]

/-- A byte goes in. -/
def stp (c : BitVec 32) (b : Nat) : BitVec 32 := hbN 8 (c ^^^ BitVec.ofNat 32 b)
def crF (c : BitVec 32) (l : List Nat) : BitVec 32 := l.foldl stp c
def crS (l : List Nat) : BitVec 32 := ~~~ crF (BitVec.allOnes 32) l
theorem crF_nil (c : BitVec 32) : crF c [] = c := rfl
theorem crF_cons (c : BitVec 32) (b : Nat) (l : List Nat) : crF c (b :: l) = crF (stp c b) l := rfl
theorem crF_app (c : BitVec 32) (l m : List Nat) : crF c (l ++ m) = crF (crF c l) m := by unfold crF; exact List.foldl_append
theorem stp_xor (c d : BitVec 32) (b : Nat) : stp (c ^^^ d) b = stp c b ^^^ hbN 8 d := by
  unfold stp
  have e : c ^^^ d ^^^ BitVec.ofNat 32 b = (c ^^^ BitVec.ofNat 32 b) ^^^ d := by
    rw [BitVec.xor_assoc, BitVec.xor_comm d, ← BitVec.xor_assoc]
  rw [e, hbN_xor]
theorem crF_xor (l : List Nat) : ∀ c d, crF (c ^^^ d) l = crF c l ^^^ hbN (8 * l.length) d := by
  induction l with
  | nil => intro c d; simp [crF, hbN]
  | cons b l ih =>
    intro c d
    rw [crF_cons, stp_xor, ih, crF_cons, ← hbN_add]
    congr 2
    simp only [List.length_cons]; omega
theorem not_xor (x : BitVec 32) : ~~~ x = BitVec.allOnes 32 ^^^ x := by
  apply BitVec.eq_of_getLsbD_eq
  intro i hi
  rw [BitVec.getLsbD_not, BitVec.getLsbD_xor, BitVec.getLsbD_allOnes]
  simp only [hi, decide_true, Bool.true_and, Bool.true_xor]
theorem not_back (x : BitVec 32) : BitVec.allOnes 32 ^^^ ~~~ x = x := by
  rw [not_xor, ← BitVec.xor_assoc, xx]
  exact BitVec.zero_xor
theorem crS_join (l m : List Nat) : crS (l ++ m) = hbN (8 * m.length) (crS l) ^^^ crS m := by
  unfold crS
  rw [crF_app]
  have h : crF (crF (BitVec.allOnes 32) l) m = crF (BitVec.allOnes 32 ^^^ ~~~ crF (BitVec.allOnes 32) l) m := by rw [not_back]
  rw [h, crF_xor, not_xor, ← BitVec.xor_assoc, ← not_xor, BitVec.xor_comm]
theorem crF_ne (l : List Nat) (c d : BitVec 32) (h : c ≠ d) : crF c l ≠ crF d l := by
  intro e
  have h1 : crF c l = crF (d ^^^ (d ^^^ c)) l := by rw [← BitVec.xor_assoc, xx]; simp
  rw [h1, crF_xor] at e
  have h2 : hbN (8 * l.length) (d ^^^ c) = 0#32 := by
    have := congrArg (fun z => crF d l ^^^ z) e
    simp only [← BitVec.xor_assoc, xx] at this
    simpa using this
  have h3 := hbN_inj _ _ h2
  apply h
  have h4 : d ^^^ (d ^^^ c) = d ^^^ 0#32 := by rw [h3]
  rw [← BitVec.xor_assoc, xx] at h4
  simpa using h4
theorem stp_ne (c : BitVec 32) (a b : Nat) (ha : a < 256) (hb : b < 256) (h : a ≠ b) : stp c a ≠ stp c b := by
  unfold stp
  apply hbN_ne
  intro e
  have h1 := congrArg (fun z => c ^^^ z) e
  simp only [← BitVec.xor_assoc, xx] at h1
  simp at h1
  have h2 := congrArg BitVec.toNat h1
  simp at h2
  omega
/-- One byte that is another makes another sum. -/
theorem crS_turn (l m : List Nat) (a b : Nat) (ha : a < 256) (hb : b < 256) (h : a ≠ b) : crS (l ++ a :: m) ≠ crS (l ++ b :: m) := by
  unfold crS
  rw [crF_app, crF_app, crF_cons, crF_cons]
  intro e
  have e2 := congrArg (fun z => ~~~ z) e
  simp only [BitVec.not_not] at e2
  exact crF_ne m _ _ (stp_ne _ a b ha hb h) e2

/-- The product of two sums, as the program reckons it. -/
def prd : Nat → BitVec 32 → BitVec 32 → BitVec 32 → BitVec 32
  | 0, _, _, p => p
  | k + 1, a, b, p => prd k (a <<< 1) (hb b) (if a.getLsbD 31 then p ^^^ b else p)
def pr0 : Nat → BitVec 32 → BitVec 32 → BitVec 32
  | 0, _, _ => 0#32
  | k + 1, a, b => (if a.getLsbD 31 then b else 0#32) ^^^ pr0 k (a <<< 1) (hb b)
theorem prd_pr0 (k : Nat) : ∀ a b p, prd k a b p = p ^^^ pr0 k a b := by
  induction k with
  | zero => intro a b p; simp [prd, pr0]
  | succ k ih =>
    intro a b p
    simp only [prd, pr0]
    rw [ih, ← BitVec.xor_assoc]
    congr 1
    cases a.getLsbD 31 <;> simp
theorem prd_zero (k : Nat) : ∀ b p, prd k 0#32 b p = p := by
  induction k with
  | zero => intro b p; rfl
  | succ k ih => intro b p; simp only [prd]; rw [show (0#32) <<< 1 = 0#32 from by decide, ih]; simp
theorem pr0_hbN (m k : Nat) : ∀ a b, pr0 k a (hbN m b) = hbN m (pr0 k a b) := by
  induction k with
  | zero => intro a b; simp only [pr0]; rw [hbN_zero]
  | succ k ih =>
    intro a b
    simp only [pr0]
    rw [← hbN_hb, ih, hbN_xor]
    congr 1
    cases a.getLsbD 31
    · simp [hbN_zero]
    · simp
def tp (k : Nat) : BitVec 32 := BitVec.twoPow 32 k
theorem hb_tp (k : Nat) (h : k + 1 < 32) : hb (tp (k + 1)) = tp k := by
  have : ∀ k : Fin 31, hb (tp (k.val + 1)) = tp k.val := by decide +kernel
  exact this ⟨k, by omega⟩
def lowB (k : Nat) (a : BitVec 32) : BitVec 32 := BitVec.ofNat 32 (a.toNat % 2 ^ k)
theorem lowB_bit (k : Nat) (a : BitVec 32) (i : Nat) : (lowB k a).getLsbD i = (decide (i < k) && a.getLsbD i) := by
  unfold lowB
  rw [BitVec.getLsbD_ofNat, Nat.testBit_mod_two_pow]
  by_cases c : i < 32
  · simp only [c, decide_true, Bool.true_and]; rfl
  · rw [BitVec.getLsbD_of_ge a i (by omega)]; simp [c]
theorem lowB_32 (a : BitVec 32) : lowB 32 a = a := by
  unfold lowB
  apply BitVec.eq_of_toNat_eq
  rw [BitVec.toNat_ofNat]
  have := a.isLt
  omega
theorem lowB_step (k : Nat) (hk : k < 32) (a : BitVec 32) : lowB (k + 1) a = (if a.getLsbD k then tp k else 0#32) ^^^ lowB k a := by
  apply BitVec.eq_of_getLsbD_eq
  intro i hi
  rw [BitVec.getLsbD_xor, lowB_bit, lowB_bit]
  have ht : (if a.getLsbD k then tp k else 0#32).getLsbD i = (a.getLsbD k && decide (k = i)) := by
    cases a.getLsbD k
    · simp
    · simp only [if_true, Bool.true_and]; unfold tp; rw [BitVec.getLsbD_twoPow]; simp [hk]
  rw [ht]
  by_cases c : i = k
  · subst c; simp
  · by_cases d : i < k
    · have d' : i < k + 1 := by omega
      have : ¬ k = i := by omega
      simp [d, d', this]
    · have d' : ¬ i < k + 1 := by omega
      have : ¬ k = i := by omega
      simp [d, d', this]
theorem pr0_low (a : BitVec 32) (k : Nat) : k < 32 → pr0 (k + 1) (a <<< (31 - k)) (tp k) = lowB (k + 1) a := by
  induction k with
  | zero =>
    intro _
    simp only [pr0]
    rw [lowB_step 0 (by omega)]
    have e : (a <<< (31 - 0)).getLsbD 31 = a.getLsbD 0 := by rw [BitVec.getLsbD_shiftLeft]; simp
    have e2 : lowB 0 a = 0#32 := by unfold lowB; simp [Nat.mod_one]
    rw [e, e2]
  | succ k ih =>
    intro hk
    rw [pr0, hb_tp k hk, ← BitVec.shiftLeft_add]
    have e1 : 31 - (k + 1) + 1 = 31 - k := by omega
    rw [e1, ih (by omega), lowB_step (k + 1) hk]
    have e : (a <<< (31 - (k + 1))).getLsbD 31 = a.getLsbD (k + 1) := by
      rw [BitVec.getLsbD_shiftLeft]
      have c1 : ¬ 31 < 31 - (k + 1) := by omega
      have c2 : 31 - (31 - (k + 1)) = k + 1 := by omega
      rw [c2, decide_eq_false c1]; simp
    rw [e]
/-- x^0. -/
def cOne : BitVec 32 := 0x80000000#32
theorem tp31 : tp 31 = cOne := by decide
theorem prd_hbN (a : BitVec 32) (m : Nat) : prd 32 a (hbN m cOne) 0#32 = hbN m a := by
  rw [prd_pr0, pr0_hbN]
  have h := pr0_low a 31 (by omega)
  have e : a <<< (31 - 31) = a := by simp
  rw [e, tp31, lowB_32] at h
  rw [h]; simp
theorem byByte_eq : hbN 8 cOne = 0x800000#32 := by decide
/-- Powers by squares. -/
theorem prd_pow (p q : Nat) : prd 32 (hbN p cOne) (hbN q cOne) 0#32 = hbN (p + q) cOne := by
  rw [prd_hbN, ← hbN_add]

/-- A sum's bits, each as it is then. -/
def thr (f : Nat → BitVec 32) (c : BitVec 32) : Nat → BitVec 32
  | 0 => 0#32
  | k + 1 => if c.getLsbD k then thr f c k ^^^ f k else thr f c k
theorem thr_low (m : Nat) (f : Nat → BitVec 32) (hf : ∀ i, i < 32 → f i = hbN m (tp i)) (c : BitVec 32) : ∀ k, k ≤ 32 → thr f c k = hbN m (lowB k c) := by
  intro k
  induction k with
  | zero => intro _; simp only [thr]; rw [show lowB 0 c = 0#32 from by unfold lowB; simp [Nat.mod_one], hbN_zero]
  | succ k ih =>
    intro hk
    rw [thr, ih (by omega), lowB_step k (by omega), hbN_xor, hf k (by omega)]
    cases c.getLsbD k
    · simp [hbN_zero]
    · simp [BitVec.xor_comm]
theorem thr_all (m : Nat) (f : Nat → BitVec 32) (hf : ∀ i, i < 32 → f i = hbN m (tp i)) (c : BitVec 32) : thr f c 32 = hbN m c := by
  rw [thr_low m f hf c 32 (Nat.le_refl _), lowB_32]
end Go.Proofs.YtbamogpbjdobkaaDoor
