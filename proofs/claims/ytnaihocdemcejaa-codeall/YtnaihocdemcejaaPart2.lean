/-
  Part 2 of the proof: 9 texts, one behind the other.
-/
import Derived.WalkKit
import Derived.WalkSpells
import Derived.WalkLawsBesides
import Derived.Test.YtnaihocdemcejaaPart1
import Derived.Deep.LoopGhost
import Derived.Defers
import Derived.Recover
import Derived.Lib.AppendZerosOnto
import Derived.WalkMore
import Derived.ScopeJumps
import Derived.Deep.AppendLies
import Derived.Lib.SlBytesConst
/-
  Plain: the sum of bytes by halving, its lines: by exclusive or, so many halvings, products of two sums. Nothing of the program is imported here.
-/
namespace Go.Proofs.Ytnaihocdemcejaa
open Go.RowKit
set_option linter.unusedSimpArgs false
set_option linter.unusedVariables false

def cM : BitVec 32 := 0x82F63B78#32
def hb (x : BitVec 32) : BitVec 32 := (x >>> 1) ^^^ (if x.getLsbD 0 then cM else 0#32)
def hbN : Nat → BitVec 32 → BitVec 32
  | 0, x => x
  | n + 1, x => hbN n (hb x)
theorem x4 (a b c d : BitVec 32) : (a ^^^ b) ^^^ (c ^^^ d) = (a ^^^ c) ^^^ (b ^^^ d) := by
  rw [BitVec.xor_assoc, BitVec.xor_assoc, ← BitVec.xor_assoc b c d, BitVec.xor_comm b c, BitVec.xor_assoc c b d]
theorem xx (a : BitVec 32) : a ^^^ a = 0#32 := BitVec.xor_self
theorem hb_xor (x y : BitVec 32) : hb (x ^^^ y) = hb x ^^^ hb y := by
  unfold hb
  rw [BitVec.ushiftRight_xor_distrib, BitVec.getLsbD_xor, x4]
  congr 1
  cases x.getLsbD 0 <;> cases y.getLsbD 0 <;> simp
theorem hb_zero : hb 0#32 = 0#32 := by decide
theorem hbN_xor (n : Nat) : ∀ x y, hbN n (x ^^^ y) = hbN n x ^^^ hbN n y := by
  induction n with
  | zero => intro x y; rfl
  | succ n ih => intro x y; simp only [hbN]; rw [hb_xor, ih]
theorem hbN_zero (n : Nat) : hbN n 0#32 = 0#32 := by
  induction n with
  | zero => rfl
  | succ n ih => simp only [hbN]; rw [hb_zero, ih]
theorem hbN_add (m n : Nat) : ∀ x, hbN (m + n) x = hbN n (hbN m x) := by
  induction m with
  | zero => intro x; simp [hbN]
  | succ m ih => intro x; rw [Nat.succ_add]; simp only [hbN]; rw [ih]
theorem hbN_one (n : Nat) (x : BitVec 32) : hbN (n + 1) x = hb (hbN n x) := by
  rw [hbN_add n 1]; rfl
theorem hbN_hb (n : Nat) (x : BitVec 32) : hbN n (hb x) = hb (hbN n x) := by
  rw [← hbN_one]; rfl
theorem hb_top (x : BitVec 32) : (hb x).getLsbD 31 = x.getLsbD 0 := by
  unfold hb
  rw [BitVec.getLsbD_xor, BitVec.getLsbD_ushiftRight]
  have : x.getLsbD (1 + 31) = false := BitVec.getLsbD_of_ge _ _ (by omega)
  rw [this]
  cases x.getLsbD 0 <;> decide
theorem hb_inj (x : BitVec 32) (h : hb x = 0#32) : x = 0#32 := by
  have h0 : x.getLsbD 0 = false := by rw [← hb_top, h]; simp
  unfold hb at h
  rw [h0] at h
  simp at h
  apply BitVec.eq_of_getLsbD_eq
  intro i hi
  by_cases c : i = 0
  · subst c; rw [h0]; simp
  · have := congrArg (fun z => z.getLsbD (i - 1)) h
    simp only [BitVec.getLsbD_ushiftRight] at this
    have e : 1 + (i - 1) = i := by omega
    rw [e] at this
    rw [this]; simp
theorem hbN_inj (n : Nat) : ∀ x, hbN n x = 0#32 → x = 0#32 := by
  induction n with
  | zero => intro x h; exact h
  | succ n ih => intro x h; exact hb_inj _ (ih _ h)
theorem hbN_ne (n : Nat) (x y : BitVec 32) (h : x ≠ y) : hbN n x ≠ hbN n y := by
  intro e
  apply h
  have h2 : hbN n (x ^^^ y) = 0#32 := by rw [hbN_xor, e, xx]
  have h3 := hbN_inj n _ h2
  have h4 : (x ^^^ y) ^^^ y = 0#32 ^^^ y := by rw [h3]
  rw [BitVec.xor_assoc, xx] at h4
  simpa using h4

/-- The table of what the lowest four bits become. -/
def cT : Nat → BitVec 32
  | 0 => 0x00000000#32 | 1 => 0x105ec76f#32 | 2 => 0x20bd8ede#32 | 3 => 0x30e349b1#32 | 4 => 0x417b1dbc#32 | 5 => 0x5125dad3#32 | 6 => 0x61c69362#32 | 7 => 0x7198540d#32
  | 8 => 0x82f63b78#32 | 9 => 0x92a8fc17#32 | 10 => 0xa24bb5a6#32 | 11 => 0xb21572c9#32 | 12 => 0xc38d26c4#32 | 13 => 0xd3d3e1ab#32 | 14 => 0xe330a81a#32 | 15 => 0xf36e6f75#32
  | _ => 0#32
theorem cT_eq : ∀ k : Fin 16, hbN 4 (BitVec.ofNat 32 k.val) = cT k.val := by decide +kernel
theorem hb_even (x : BitVec 32) (h : x.getLsbD 0 = false) : hb x = x >>> 1 := by unfold hb; rw [h]; simp
theorem hb_hi (x : BitVec 32) (h : ∀ i, i < 4 → x.getLsbD i = false) : hbN 4 x = x >>> 4 := by
  simp only [hbN]
  have e1 : hb x = x >>> 1 := hb_even x (h 0 (by omega))
  have e2 : hb (x >>> 1) = x >>> 2 := by
    rw [hb_even _ (by rw [BitVec.getLsbD_ushiftRight]; exact h 1 (by omega)), ← BitVec.shiftRight_add]
  have e3 : hb (x >>> 2) = x >>> 3 := by
    rw [hb_even _ (by rw [BitVec.getLsbD_ushiftRight]; exact h 2 (by omega)), ← BitVec.shiftRight_add]
  have e4 : hb (x >>> 3) = x >>> 4 := by
    rw [hb_even _ (by rw [BitVec.getLsbD_ushiftRight]; exact h 3 (by omega)), ← BitVec.shiftRight_add]
  rw [e1, e2, e3, e4]
theorem and15 (x : BitVec 32) : x &&& 15#32 = BitVec.ofNat 32 (x.toNat % 16) := by
  apply BitVec.eq_of_toNat_eq
  rw [BitVec.toNat_and, BitVec.toNat_ofNat, BitVec.toNat_ofNat]
  have h : x.toNat &&& 15 = x.toNat % 16 := Nat.and_two_pow_sub_one_eq_mod x.toNat 4
  have e : 15 % 2 ^ 32 = 15 := by decide
  rw [e, h]
  omega
theorem hb_four (x : BitVec 32) : hbN 4 x = (x >>> 4) ^^^ cT (x.toNat % 16) := by
  have hs : x = (x &&& ~~~15#32) ^^^ (x &&& 15#32) := by
    apply BitVec.eq_of_getLsbD_eq
    intro i hi
    simp only [BitVec.getLsbD_xor, BitVec.getLsbD_and, BitVec.getLsbD_not, hi, decide_true, Bool.true_and]
    cases x.getLsbD i <;> cases (15#32).getLsbD i <;> rfl
  have h1 : hbN 4 (x &&& ~~~15#32) = (x &&& ~~~15#32) >>> 4 := by
    apply hb_hi
    intro i hi
    rw [BitVec.getLsbD_and, BitVec.getLsbD_not]
    have : i = 0 ∨ i = 1 ∨ i = 2 ∨ i = 3 := by omega
    rcases this with rfl | rfl | rfl | rfl <;> simp
  have h2 : (x &&& ~~~15#32) >>> 4 = x >>> 4 := by
    apply BitVec.eq_of_getLsbD_eq
    intro i hi
    rw [BitVec.getLsbD_ushiftRight, BitVec.getLsbD_ushiftRight, BitVec.getLsbD_and, BitVec.getLsbD_not]
    by_cases c : 4 + i < 32
    · have h15 : (15#32).getLsbD (4 + i) = false := by
        rw [BitVec.getLsbD_ofNat]
        have : (15 : Nat).testBit (4 + i) = false := Nat.testBit_lt_two_pow (Nat.lt_of_lt_of_le (by decide : 15 < 2 ^ 4) (Nat.pow_le_pow_right (by decide) (by omega)))
        rw [this]; simp
      rw [h15]; simp [c]
    · rw [BitVec.getLsbD_of_ge x _ (by omega)]; simp
  have h3 : hbN 4 (x &&& 15#32) = cT (x.toNat % 16) := by
    rw [and15]; exact cT_eq ⟨x.toNat % 16, by omega⟩
  calc hbN 4 x = hbN 4 ((x &&& ~~~15#32) ^^^ (x &&& 15#32)) := by rw [← hs]
    _ = _ := by rw [hbN_xor, h1, h2, h3]

/-- A byte goes in. -/
def stp (c : BitVec 32) (b : Nat) : BitVec 32 := hbN 8 (c ^^^ BitVec.ofNat 32 b)
def crF (c : BitVec 32) (l : List Nat) : BitVec 32 := l.foldl stp c
def crS (l : List Nat) : BitVec 32 := ~~~ crF (BitVec.allOnes 32) l
theorem crF_nil (c : BitVec 32) : crF c [] = c := rfl
theorem crF_cons (c : BitVec 32) (b : Nat) (l : List Nat) : crF c (b :: l) = crF (stp c b) l := rfl
theorem crF_app (c : BitVec 32) (l m : List Nat) : crF c (l ++ m) = crF (crF c l) m := by unfold crF; exact List.foldl_append
theorem stp_xor (c d : BitVec 32) (b : Nat) : stp (c ^^^ d) b = stp c b ^^^ hbN 8 d := by
  unfold stp
  have e : c ^^^ d ^^^ BitVec.ofNat 32 b = (c ^^^ BitVec.ofNat 32 b) ^^^ d := by
    rw [BitVec.xor_assoc, BitVec.xor_comm d, ← BitVec.xor_assoc]
  rw [e, hbN_xor]
theorem crF_xor (l : List Nat) : ∀ c d, crF (c ^^^ d) l = crF c l ^^^ hbN (8 * l.length) d := by
  induction l with
  | nil => intro c d; simp [crF, hbN]
  | cons b l ih =>
    intro c d
    rw [crF_cons, stp_xor, ih, crF_cons, ← hbN_add]
    congr 2
    simp only [List.length_cons]; omega
theorem not_xor (x : BitVec 32) : ~~~ x = BitVec.allOnes 32 ^^^ x := by
  apply BitVec.eq_of_getLsbD_eq
  intro i hi
  rw [BitVec.getLsbD_not, BitVec.getLsbD_xor, BitVec.getLsbD_allOnes]
  simp only [hi, decide_true, Bool.true_and, Bool.true_xor]
theorem not_back (x : BitVec 32) : BitVec.allOnes 32 ^^^ ~~~ x = x := by
  rw [not_xor, ← BitVec.xor_assoc, xx]
  exact BitVec.zero_xor
theorem crS_join (l m : List Nat) : crS (l ++ m) = hbN (8 * m.length) (crS l) ^^^ crS m := by
  unfold crS
  rw [crF_app]
  have h : crF (crF (BitVec.allOnes 32) l) m = crF (BitVec.allOnes 32 ^^^ ~~~ crF (BitVec.allOnes 32) l) m := by rw [not_back]
  rw [h, crF_xor, not_xor, ← BitVec.xor_assoc, ← not_xor, BitVec.xor_comm]
theorem crF_ne (l : List Nat) (c d : BitVec 32) (h : c ≠ d) : crF c l ≠ crF d l := by
  intro e
  have h1 : crF c l = crF (d ^^^ (d ^^^ c)) l := by rw [← BitVec.xor_assoc, xx]; simp
  rw [h1, crF_xor] at e
  have h2 : hbN (8 * l.length) (d ^^^ c) = 0#32 := by
    have := congrArg (fun z => crF d l ^^^ z) e
    simp only [← BitVec.xor_assoc, xx] at this
    simpa using this
  have h3 := hbN_inj _ _ h2
  apply h
  have h4 : d ^^^ (d ^^^ c) = d ^^^ 0#32 := by rw [h3]
  rw [← BitVec.xor_assoc, xx] at h4
  simpa using h4
theorem stp_ne (c : BitVec 32) (a b : Nat) (ha : a < 256) (hb : b < 256) (h : a ≠ b) : stp c a ≠ stp c b := by
  unfold stp
  apply hbN_ne
  intro e
  have h1 := congrArg (fun z => c ^^^ z) e
  simp only [← BitVec.xor_assoc, xx] at h1
  simp at h1
  have h2 := congrArg BitVec.toNat h1
  simp at h2
  omega
/-- One byte that is another makes another sum. -/
theorem crS_turn (l m : List Nat) (a b : Nat) (ha : a < 256) (hb : b < 256) (h : a ≠ b) : crS (l ++ a :: m) ≠ crS (l ++ b :: m) := by
  unfold crS
  rw [crF_app, crF_app, crF_cons, crF_cons]
  intro e
  have e2 := congrArg (fun z => ~~~ z) e
  simp only [BitVec.not_not] at e2
  exact crF_ne m _ _ (stp_ne _ a b ha hb h) e2

/-- The product of two sums, as the program reckons it. -/
def prd : Nat → BitVec 32 → BitVec 32 → BitVec 32 → BitVec 32
  | 0, _, _, p => p
  | k + 1, a, b, p => prd k (a <<< 1) (hb b) (if a.getLsbD 31 then p ^^^ b else p)
def pr0 : Nat → BitVec 32 → BitVec 32 → BitVec 32
  | 0, _, _ => 0#32
  | k + 1, a, b => (if a.getLsbD 31 then b else 0#32) ^^^ pr0 k (a <<< 1) (hb b)
theorem prd_pr0 (k : Nat) : ∀ a b p, prd k a b p = p ^^^ pr0 k a b := by
  induction k with
  | zero => intro a b p; simp [prd, pr0]
  | succ k ih =>
    intro a b p
    simp only [prd, pr0]
    rw [ih, ← BitVec.xor_assoc]
    congr 1
    cases a.getLsbD 31 <;> simp
theorem prd_zero (k : Nat) : ∀ b p, prd k 0#32 b p = p := by
  induction k with
  | zero => intro b p; rfl
  | succ k ih => intro b p; simp only [prd]; rw [show (0#32) <<< 1 = 0#32 from by decide, ih]; simp
theorem pr0_hbN (m k : Nat) : ∀ a b, pr0 k a (hbN m b) = hbN m (pr0 k a b) := by
  induction k with
  | zero => intro a b; simp only [pr0]; rw [hbN_zero]
  | succ k ih =>
    intro a b
    simp only [pr0]
    rw [← hbN_hb, ih, hbN_xor]
    congr 1
    cases a.getLsbD 31
    · simp [hbN_zero]
    · simp
def tp (k : Nat) : BitVec 32 := BitVec.twoPow 32 k
theorem hb_tp (k : Nat) (h : k + 1 < 32) : hb (tp (k + 1)) = tp k := by
  have : ∀ k : Fin 31, hb (tp (k.val + 1)) = tp k.val := by decide +kernel
  exact this ⟨k, by omega⟩
def lowB (k : Nat) (a : BitVec 32) : BitVec 32 := BitVec.ofNat 32 (a.toNat % 2 ^ k)
theorem lowB_bit (k : Nat) (a : BitVec 32) (i : Nat) : (lowB k a).getLsbD i = (decide (i < k) && a.getLsbD i) := by
  unfold lowB
  rw [BitVec.getLsbD_ofNat, Nat.testBit_mod_two_pow]
  by_cases c : i < 32
  · simp only [c, decide_true, Bool.true_and]; rfl
  · rw [BitVec.getLsbD_of_ge a i (by omega)]; simp [c]
theorem lowB_32 (a : BitVec 32) : lowB 32 a = a := by
  unfold lowB
  apply BitVec.eq_of_toNat_eq
  rw [BitVec.toNat_ofNat]
  have := a.isLt
  omega
theorem lowB_step (k : Nat) (hk : k < 32) (a : BitVec 32) : lowB (k + 1) a = (if a.getLsbD k then tp k else 0#32) ^^^ lowB k a := by
  apply BitVec.eq_of_getLsbD_eq
  intro i hi
  rw [BitVec.getLsbD_xor, lowB_bit, lowB_bit]
  have ht : (if a.getLsbD k then tp k else 0#32).getLsbD i = (a.getLsbD k && decide (k = i)) := by
    cases a.getLsbD k
    · simp
    · simp only [if_true, Bool.true_and]; unfold tp; rw [BitVec.getLsbD_twoPow]; simp [hk]
  rw [ht]
  by_cases c : i = k
  · subst c; simp
  · by_cases d : i < k
    · have d' : i < k + 1 := by omega
      have : ¬ k = i := by omega
      simp [d, d', this]
    · have d' : ¬ i < k + 1 := by omega
      have : ¬ k = i := by omega
      simp [d, d', this]
theorem pr0_low (a : BitVec 32) (k : Nat) : k < 32 → pr0 (k + 1) (a <<< (31 - k)) (tp k) = lowB (k + 1) a := by
  induction k with
  | zero =>
    intro _
    simp only [pr0]
    rw [lowB_step 0 (by omega)]
    have e : (a <<< (31 - 0)).getLsbD 31 = a.getLsbD 0 := by rw [BitVec.getLsbD_shiftLeft]; simp
    have e2 : lowB 0 a = 0#32 := by unfold lowB; simp [Nat.mod_one]
    rw [e, e2]
  | succ k ih =>
    intro hk
    rw [pr0, hb_tp k hk, ← BitVec.shiftLeft_add]
    have e1 : 31 - (k + 1) + 1 = 31 - k := by omega
    rw [e1, ih (by omega), lowB_step (k + 1) hk]
    have e : (a <<< (31 - (k + 1))).getLsbD 31 = a.getLsbD (k + 1) := by
      rw [BitVec.getLsbD_shiftLeft]
      have c1 : ¬ 31 < 31 - (k + 1) := by omega
      have c2 : 31 - (31 - (k + 1)) = k + 1 := by omega
      rw [c2, decide_eq_false c1]; simp
    rw [e]
/-- x^0. -/
def cOne : BitVec 32 := 0x80000000#32
theorem tp31 : tp 31 = cOne := by decide
theorem prd_hbN (a : BitVec 32) (m : Nat) : prd 32 a (hbN m cOne) 0#32 = hbN m a := by
  rw [prd_pr0, pr0_hbN]
  have h := pr0_low a 31 (by omega)
  have e : a <<< (31 - 31) = a := by simp
  rw [e, tp31, lowB_32] at h
  rw [h]; simp
theorem byByte_eq : hbN 8 cOne = 0x800000#32 := by decide
/-- Powers by squares. -/
theorem prd_pow (p q : Nat) : prd 32 (hbN p cOne) (hbN q cOne) 0#32 = hbN (p + q) cOne := by
  rw [prd_hbN, ← hbN_add]

/-- A sum's bits, each as it is then. -/
def thr (f : Nat → BitVec 32) (c : BitVec 32) : Nat → BitVec 32
  | 0 => 0#32
  | k + 1 => if c.getLsbD k then thr f c k ^^^ f k else thr f c k
theorem thr_low (m : Nat) (f : Nat → BitVec 32) (hf : ∀ i, i < 32 → f i = hbN m (tp i)) (c : BitVec 32) : ∀ k, k ≤ 32 → thr f c k = hbN m (lowB k c) := by
  intro k
  induction k with
  | zero => intro _; simp only [thr]; rw [show lowB 0 c = 0#32 from by unfold lowB; simp [Nat.mod_one], hbN_zero]
  | succ k ih =>
    intro hk
    rw [thr, ih (by omega), lowB_step k (by omega), hbN_xor, hf k (by omega)]
    cases c.getLsbD k
    · simp [hbN_zero]
    · simp [BitVec.xor_comm]
theorem thr_all (m : Nat) (f : Nat → BitVec 32) (hf : ∀ i, i < 32 → f i = hbN m (tp i)) (c : BitVec 32) : thr f c 32 = hbN m c := by
  rw [thr_low m f hf c 32 (Nat.le_refl _), lowB_32]
end Go.Proofs.Ytnaihocdemcejaa
/-
  Numbers of 32 bits as bit vectors, as they lie in memory.
-/
namespace Go.Proofs.Ytnaihocdemcejaa
open Go.RowKit
set_option linter.unusedSimpArgs false
set_option linter.unusedVariables false

theorem uI_ex (x : BitVec 32) : ∃ n : Int, n = (x.toNat : Int) := ⟨_, rfl⟩
/-- The number that lies in memory, under a name that no rule opens. -/
noncomputable def uI (x : BitVec 32) : Int := Classical.choose (uI_ex x)
theorem uI_eq (x : BitVec 32) : uI x = (x.toNat : Int) := Classical.choose_spec (uI_ex x)
theorem uI_lo (x : BitVec 32) : 0 ≤ uI x := by rw [uI_eq]; omega
theorem uI_up (x : BitVec 32) : uI x < 4294967296 := by rw [uI_eq]; have := x.isLt; omega
theorem uI_inj {x y : BitVec 32} (h : uI x = uI y) : x = y := by
  rw [uI_eq, uI_eq] at h
  exact BitVec.eq_of_toNat_eq (by omega)
theorem uI_of (n : Nat) (h : n < 4294967296) : uI (BitVec.ofNat 32 n) = (n : Int) := by
  rw [uI_eq, BitVec.toNat_ofNat]
  have : (2 : Nat) ^ 32 = 4294967296 := by decide
  omega
theorem uI_mk (n : Int) (h0 : 0 ≤ n) (h1 : n < 4294967296) : ∃ x : BitVec 32, n = uI x := ⟨BitVec.ofNat 32 n.toNat, by rw [uI_of _ (by omega)]; omega⟩
theorem uI_zero : uI 0#32 = 0 := by rw [uI_eq]; rfl
theorem uI_is0 (x : BitVec 32) : (uI x = 0) ↔ x = 0#32 := ⟨fun h => uI_inj (h.trans uI_zero.symm), fun h => by rw [h, uI_zero]⟩
theorem wrap32n (n : Nat) (h : n < 4294967296) : IntKind.u32.wrap (n : Int) = (n : Int) := by
  simp [IntKind.wrap, IntKind.bits, IntKind.signed]; omega
theorem b32 (a b : BitVec 32) : BitVec.ofInt 32 (uI a) = a := by rw [uI_eq]; simp
theorem and32 (a b : BitVec 32) : bits .and .u32 (uI a) (uI b) = uI (a &&& b) := by
  unfold bits
  simp only [IntKind.bits]
  rw [b32 a a, b32 b b, wrap32n _ (BitVec.isLt _), uI_eq]; rfl
theorem or32 (a b : BitVec 32) : bits .or .u32 (uI a) (uI b) = uI (a ||| b) := by
  unfold bits
  simp only [IntKind.bits]
  rw [b32 a a, b32 b b, wrap32n _ (BitVec.isLt _), uI_eq]; rfl
theorem xor32 (a b : BitVec 32) : bits .xor .u32 (uI a) (uI b) = uI (a ^^^ b) := by
  unfold bits
  simp only [IntKind.bits]
  rw [b32 a a, b32 b b, wrap32n _ (BitVec.isLt _), uI_eq]; rfl
theorem andNot32 (a b : BitVec 32) : bits .andNot .u32 (uI a) (uI b) = uI (a &&& ~~~b) := by
  unfold bits
  simp only [IntKind.bits]
  rw [b32 a a, b32 b b, wrap32n _ (BitVec.isLt _), uI_eq]; rfl
theorem shr32 (a : BitVec 32) (n : Nat) : uI a / 2 ^ n = uI (a >>> n) := by
  rw [uI_eq, uI_eq, BitVec.toNat_ushiftRight, Nat.shiftRight_eq_div_pow]; simp
theorem shl32 (a : BitVec 32) (n : Nat) : uI a * 2 ^ n % 4294967296 = uI (a <<< n) := by
  rw [uI_eq, uI_eq, BitVec.toNat_shiftLeft, Nat.shiftLeft_eq]; simp
theorem lit32 (n : Nat) (h : n < 4294967296) : ((n : Nat) : Int) = uI (BitVec.ofNat 32 n) := (uI_of n h).symm
theorem odd32 (x : BitVec 32) : bits .and .u32 (uI x) 1 = if x.getLsbD 0 then 1 else 0 := by
  have e : (1 : Int) = uI 1#32 := lit32 1 (by decide)
  have h : bits .and .u32 (uI x) (uI 1#32) = if x.getLsbD 0 then 1 else 0 := by
    rw [and32]
    have h2 : x &&& 1#32 = if x.getLsbD 0 then 1#32 else 0#32 := by
      apply BitVec.eq_of_getLsbD_eq
      intro i hi
      rw [BitVec.getLsbD_and, BitVec.getLsbD_ofNat]
      by_cases c : i = 0
      · subst c; cases x.getLsbD 0 <;> simp
      · have : Nat.testBit 1 i = false := by
          cases hh : Nat.testBit 1 i with
          | false => rfl
          | true => exact absurd (Nat.testBit_one_eq_true_iff_self_eq_zero.mp hh) c
        rw [this]
        cases x.getLsbD 0
        · simp
        · simp only [if_true]; rw [BitVec.getLsbD_ofNat, this]; simp
    rw [h2]
    cases x.getLsbD 0
    · simp only [Bool.false_eq_true, if_false]; exact uI_zero
    · simp only [if_true]; exact e.symm
  rw [← e] at h
  exact h
theorem xorM (x : BitVec 32) : bits .xor .u32 (uI x) 2197175160 = uI (x ^^^ cM) := by
  have e : (2197175160 : Int) = uI cM := lit32 2197175160 (by decide)
  rw [e, xor32]
theorem half32 (x : BitVec 32) : uI x / (2 : Int) = uI (x >>> 1) := by have := shr32 x 1; simpa using this
theorem dbl32 (x : BitVec 32) : uI x * (2 : Int) % 4294967296 = uI (x <<< 1) := by have := shl32 x 1; simpa using this
theorem hb_odd (x : BitVec 32) (h : x.getLsbD 0 = true) : hb x = (x >>> 1) ^^^ cM := by unfold hb; rw [h]; simp
theorem top32 (x : BitVec 32) : bits .and .u32 (uI x) 2147483648 = if x.getLsbD 31 then 2147483648 else 0 := by
  have e : (2147483648 : Int) = uI cOne := lit32 2147483648 (by decide)
  have h : bits .and .u32 (uI x) (uI cOne) = if x.getLsbD 31 then uI cOne else 0 := by
    rw [and32]
    have h2 : x &&& cOne = if x.getLsbD 31 then cOne else 0#32 := by
      apply BitVec.eq_of_getLsbD_eq
      intro i hi
      rw [BitVec.getLsbD_and, ← tp31]
      have ht : (tp 31).getLsbD i = decide (31 = i) := by unfold tp; rw [BitVec.getLsbD_twoPow]; simp
      by_cases c : i = 31
      · subst c; rw [ht]; cases x.getLsbD 31
        · simp
        · simp [ht]
      · have c' : ¬ 31 = i := by omega
        rw [ht]; cases x.getLsbD 31
        · simp [c']
        · simp [ht, c']
    rw [h2]
    cases x.getLsbD 31
    · simp only [Bool.false_eq_true, if_false]; exact uI_zero
    · simp only [if_true]
  rw [← e] at h
  exact h
end Go.Proofs.Ytnaihocdemcejaa
/-
  Rows of one cell an element, to be read, whosever they are.
-/
namespace Go.Proofs.Ytnaihocdemcejaa
open Go.RowKit
set_option linter.unusedSimpArgs false
set_option linter.unusedVariables false

theorem hid13 {p : Prop} (h : p) : Hid p := h
def cB (b : Nat) : Value := .int .u8 (b : Int)
noncomputable def cU (x : BitVec 32) : Value := .int .u32 (uI x)
def cI (n : Int) : Value := .int .i64 n
/-- A row in memory, to be read: what lies at each place. -/
def RwX {α : Type} (f : α → Value) (w : World) (v : Value) (l : List α) : Prop :=
  ∃ ao c, v = .slice ao l.length c ∧ l.length ≤ c ∧ (l = [] ∨ ∃ b off, ao = some ⟨b, off, none⟩ ∧ ∀ j x, l[j]? = some x → w.cell? ⟨b, off + j, none⟩ = some (f x))
section
variable {α : Type} {f : α → Value} {w w' : World} {v : Value} {l : List α}
theorem RwX.below (h : RwX f w v l) (hb : Below w.heap.size w w') : RwX f w' v l := by
  obtain ⟨ao, c, e, hc, h⟩ := h
  refine ⟨ao, c, e, hc, ?_⟩
  rcases h with h | ⟨b, off, e, h⟩
  · exact .inl h
  · exact .inr ⟨b, off, e, fun j x hj => keepc hb (h j x hj)⟩
theorem own_rwx {base e : Nat} (h : w.ownsRow base e 1 v l.length (l.map f)) : RwX f w v l := by
  obtain ⟨-, ao, c, e, hc, h⟩ := own_row h
  refine ⟨ao, c, e, hc, ?_⟩
  rcases h with ⟨-, -, h⟩ | ⟨b, off, e, h⟩
  · exact .inl (List.eq_nil_of_length_eq_zero h)
  · exact .inr ⟨b, off, e, fun j x hj => h j _ (by rw [List.getElem?_map, hj]; rfl)⟩
theorem own_rowA {w : World} {base e size n : Nat} {v : Value} {xs : List Value} (h : w.ownsRow base e size v n xs) : RowA w size v n xs := by
  obtain ⟨h1, ao, c, h2, h3, h4⟩ := own_row h
  refine ⟨h1, ao, c, h2, h3, ?_⟩
  rcases h4 with h4 | ⟨b, off, h5, h6⟩
  · exact .inl h4
  · exact .inr ⟨_, h5, fun j u hj => by rw [addA]; exact h6 j u hj⟩
theorem RwX.row (h : RwX f w v l) (hn : l = [] → ∃ n, v = .slice none 0 n ∧ n = 0) : RowA w 1 v l.length (l.map f) := by
  obtain ⟨ao, c, e, hc, h⟩ := h
  refine ⟨by simp, ao, c, e, hc, ?_⟩
  rcases h with h | ⟨b, off, e, h⟩
  · obtain ⟨n, e2, rfl⟩ := hn h
    subst h
    rw [e] at e2
    injection e2 with e3 e4 e5
    subst e3 e5
    exact .inl ⟨rfl, rfl, rfl⟩
  · refine .inr ⟨⟨b, off, none⟩, e, fun j u hj => ?_⟩
    rw [List.getElem?_map] at hj
    cases hx : l[j]? with
    | none => rw [hx] at hj; cases hj
    | some x =>
      rw [hx] at hj
      simp only [Option.map_some, Option.some.injEq] at hj
      rw [addA, ← hj]
      exact h j x hx
end
end Go.Proofs.Ytnaihocdemcejaa
/-
  What package wire's same, wordsOf and set do.
-/
namespace Go.Proofs.Ytnaihocdemcejaa
open Go.RowKit
set_option linter.unusedSimpArgs false
set_option linter.unusedVariables false

theorem Try.infoU13 : (Try.prog.info? 56).map (fun i => (i.zero, i.size, i.bytes)) = some (some (.int .u32 0), 1, 4) := by kernel_rfl
theorem info13 {P : Program} {t : TypeId} {z : Value} {s b : Nat} (h : (P.info? t).map (fun i => (i.zero, i.size, i.bytes)) = some (some z, s, b)) : ∃ i, P.info? t = some i ∧ i.zero = some z ∧ i.size = s ∧ i.bytes = b := by
  cases hi : P.info? t with
  | none => rw [hi] at h; cases h
  | some i =>
    rw [hi] at h
    simp only [Option.map_some, Option.some.injEq, Prod.mk.injEq] at h
    exact ⟨i, rfl, h.1, h.2.1, h.2.2⟩
theorem own_b13 {base e size n : Nat} {v : Value} {xs : List Value} {W w' : World} (hb : Below W.heap.size W w') (h : W.ownsRow base e size v n xs) : w'.ownsRow base e size v n xs := by
  refine h.kept (row := none) ⟨hb.os, hb.tape, hb.output, hb.size, fun k hk _ => hb.block k hk⟩ ?_
  cases v.ownBlock with
  | none => exact Or.inl rfl
  | some a => exact Or.inr (by simp)
theorem news13 {W : World} {N : Nat} {v : Value} (h : W.cell? ⟨N, 0, none⟩ = some v) : ∀ j u, [v][j]? = some u → W.cell? ((⟨N, 0, none⟩ : Addr).add j) = some u := by
  intro j u hj
  rw [addA, Nat.zero_add]
  match j, hj with
  | 0, hj => simp at hj; subst hj; exact h
theorem shrOne (k : Nat) (h : k < 32) : (2147483648 : Int) / 2 ^ k = uI (cOne >>> k) := by
  rw [← shr32]
  congr 1
  exact lit32 2147483648 (by decide)
end Go.Proofs.Ytnaihocdemcejaa
/-
  What the library's Grow of no row and Concat of bytes do.
-/
namespace Go.Proofs.Ytnaihocdemcejaa
open Go.RowKit
set_option linter.unusedSimpArgs false
set_option linter.unusedVariables false

theorem Try.infoB13 : (Try.prog.info? 5).map (fun i => (i.zero, i.size, i.bytes)) = some (some (.int .u8 0), 1, 1) := by kernel_rfl
set_option maxRecDepth 100000 in
set_option maxHeartbeats 4000000 in
theorem grow13 (n : Nat) (hn : n ≤ 140737488355328) (w : World) :
    Calls Try.prog 40 #[.slice none 0 0, .int .i64 (n : Int)] w fun e w' => ∃ v, e = .returned v ∧ w'.ownsRow w.heap.size 5 1 v 0 [] ∧ Below w.heap.size w w' := by
  obtain ⟨i0, hi, hz0, hz1, hz2⟩ := info13 Try.infoB13
  have h0 : ¬ ((n : Int) < 0) := by omega
  by_cases c : n = 0
  · subst c
    go_enter Try.func40, Try.ntmps40
    go_wp2
    go_ret
    exact ⟨_, rfl, World.ownsRow_nil _ _ _ _, Below.refl _ _⟩
  · have hold : (Builtin.firstCells i0.size 0 (.slice none 0 0)).run Try.prog w.drew = .ok ([] : List Value).toArray w.drew := run_firstCells_none w.drew i0.size 0 0 0
    have hpos : 0 < (n : Int) := by omega
    have hrz : ∀ ty, (Builtin.append_ #[25, 3] ty #[.slice none 0 0, .int .i64 (n : Int)]).run Try.prog w =
        .ok (.slice (some ⟨w.heap.size, 0, none⟩) (0 + n) (grownCap w (0 + n) 0 5)) (w.drew.alloc (.cells (([] : List Value).toArray ++ Builtin.zeroCells (Value.int .u8 0).cells n ++ Builtin.zeroCells (Value.int .u8 0).cells (grownCap w (0 + n) 0 5 - (0 + n))) 5)) := fun ty =>
      Lib.run_append_grow_zeros w 25 3 ty 5 i0 (.int .u8 0) .i64 .i64 Try.underlying25 Try.underlying3 hi hz0 none 0 0 [] hold n (by omega) (by omega) (by omega) (by omega) (by rw [hz2]; omega)
        (growslice_fits (by omega) (by rw [hz2]; omega))
    obtain ⟨G, hG⟩ : ∃ G, G = grownCap w (0 + n) 0 5 := ⟨_, rfl⟩
    have hGn : 0 + n ≤ G := by rw [hG]; exact grownCap_ge w _ _ _
    have hG63 : G ≤ maxLen := by rw [hG]; exact grownCap_le_maxLen w (0 + n) 0 5 (by unfold maxLen; omega)
    rw [← hG] at hrz
    rw [Nat.zero_add] at hrz hGn
    have HO : Hid ((w.drew.alloc (.cells (([] : List Value).toArray ++ Builtin.zeroCells (Value.int .u8 0).cells n ++ Builtin.zeroCells (Value.int .u8 0).cells (G - n)) 5)).ownsRow w.heap.size 5 1 (.slice (some ⟨w.heap.size, 0, none⟩) 0 G) 0 []) := by
      refine World.ownsRow_made w.drew _ G (Nat.le_refl _) hG63 ?_
      simp only [Array.size_append, size_zeroCells, Value.cells]
      simp; omega
    have HB : Hid (Below w.heap.size w (w.drew.alloc (.cells (([] : List Value).toArray ++ Builtin.zeroCells (Value.int .u8 0).cells n ++ Builtin.zeroCells (Value.int .u8 0).cells (G - n)) 5))) := (Below.refl _ _).drew.alloc (Nat.le_refl _) _
    generalize (w.drew.alloc (.cells (([] : List Value).toArray ++ Builtin.zeroCells (Value.int .u8 0).cells n ++ Builtin.zeroCells (Value.int .u8 0).cells (G - n)) 5)) = W at hrz HO HB
    have hG2 : ((G : Nat) : Int) ≤ 9223372036854775807 := by unfold maxLen at hG63; omega
    clear hG hold
    go_enter Try.func40, Try.ntmps40
    go_wp2_with (at_builtin; refine Lib.wpList_append_run _ rfl _ _ _ _ rfl _ _ rfl rfl _ _ (hrz _) ?_)
    go_ret
    exact ⟨_, rfl, HO.out, HB.out⟩
theorem cB_one (l : List Nat) : ∀ y ∈ l.map cB, y.oneCell' = true := by
  intro y hy
  obtain ⟨x, -, rfl⟩ := List.mem_map.1 hy
  rfl
/-- The bytes of all parts. -/
def allB (P : List (Value × List Nat)) : List Nat := (P.map (·.2)).flatten
theorem allB_take {P : List (Value × List Nat)} {k : Nat} (hk : k < P.length) : allB (P.take (k + 1)) = allB (P.take k) ++ P[k].2 := by
  unfold allB
  rw [List.take_succ_eq_append_getElem hk]
  simp only [List.map_append, List.map_cons, List.map_nil, List.flatten_append, List.flatten_cons, List.flatten_nil, List.append_nil]
theorem allB_le {P : List (Value × List Nat)} (k : Nat) : (allB (P.take k)).length ≤ (allB P).length := by
  have e : allB P = allB (P.take k) ++ allB (P.drop k) := by
    unfold allB
    rw [← List.flatten_append, ← List.map_append, List.take_append_drop]
  rw [e, List.length_append]; omega
set_option maxRecDepth 100000 in
set_option maxHeartbeats 8000000 in
theorem concat13 (v : Value) (P : List (Value × List Nat)) (w : World) (hv : RwX (fun p : Value × List Nat => p.1) w v P) (hP : ∀ p ∈ P, RowA w 1 p.1 p.2.length (p.2.map cB)) (hl : P.length ≤ 1000) (hn : (allB P).length ≤ 140737488355328) :
    Calls Try.prog 36 #[v] w fun e w' => ∃ v', e = .returned v' ∧ w'.ownsRow w.heap.size 5 1 v' (allB P).length ((allB P).map cB) ∧ Below w.heap.size w w' := by
  obtain ⟨i0, hi, hz0, hz1, hz2⟩ := info13 Try.infoB13
  obtain ⟨ao, cc, rfl, hc, hv⟩ := hv
  have HV := hid13 hv
  have HP := hid13 hP
  have HL := hid13 hl
  have HN := hid13 hn
  clear hv hP hc hl hn
  go_enter Try.func36, Try.ntmps36
  go_wp2_with fail
  go_loopg [3, 5, 11] P.length (fun g a b i wr => wr = w ∧ ∃ (k m : Nat), k + g = P.length ∧ a = .int .i64 (m : Int) ∧ i = .int .i64 (k : Int) ∧ Hid (m = (allB (P.take k)).length))
  case atStart => exact ⟨rfl, 0, 0, by omega, rfl, rfl, rfl⟩
  case round =>
    obtain ⟨hw, k, m, hk, rfl, rfl, HM⟩ := hrel
    replace hw := hw.symm
    subst hw
    by_cases hlt : k < P.length
    · have hli : (k : Int) < (P.length : Int) := by omega
      obtain ⟨bo, off, rfl, hcell⟩ : ∃ bo off, ao = some ⟨bo, off, none⟩ ∧ ∀ j x, P[j]? = some x → w.cell? ⟨bo, off + j, none⟩ = some x.1 := by
        rcases HV.out with h | h
        · rw [h] at hlt; simp at hlt
        · exact h
      obtain ⟨q, hq⟩ : ∃ q, q = P[k] := ⟨_, rfl⟩
      have hrd : w.cell? ⟨bo, off + k, none⟩ = some q.1 := hcell k q (by rw [hq]; simp [hlt])
      obtain ⟨-, xo, xc, hform, -⟩ := HP.out q (by rw [hq]; exact List.getElem_mem hlt)
      have hat := allB_take hlt
      have hle := allB_le (P := P) (k + 1)
      rw [hat, List.length_append, ← hq, ← HM.out] at hle
      have HE : Hid (m + q.2.length = (allB (P.take (k + 1))).length) := by show _ = _; rw [hat, List.length_append, ← hq, ← HM.out]
      have hsum : ((m : Int) + (q.2.length : Int)) ≤ 140737488355328 := by have := HN.out; omega
      have mk : IntKind.i64.wrap ((k : Int) + 1) = (k : Int) + 1 := by have := HL.out; rw [IntKind.wrap_i64]; omega
      have mm : IntKind.i64.wrap ((m : Int) + (q.2.length : Int)) = (m : Int) + (q.2.length : Int) := by rw [IntKind.wrap_i64]; omega
      have hnn : ¬ ((m : Int) + (q.2.length : Int) < 0) := by omega
      have HK : Hid (k + gk = P.length ∧ k < P.length) := ⟨hk, hlt⟩
      rw [hform] at hrd
      clear hq hcell hat hle hk HM hform
      go_wp2_with fail
      go_roundg (gk - 1)
      case measure => have := HK.out; omega
      case rel => exact ⟨rfl, k + 1, m + q.2.length, by have := HK.out; omega, rfl, rfl, HE⟩
    · have hli : ¬ (k : Int) < (P.length : Int) := by omega
      have hmn : m ≤ 140737488355328 := by
        have h1 := allB_le (P := P) k
        rw [← HM.out] at h1
        have := HN.out; omega
      clear HM
      go_wp2_with (go_at_call 40; refine (grow13 m hmn _).mono ?_; rintro e w1 ⟨vn, rfl, hown, hb1⟩; have HO := hid13 hown; have HB := hid13 hb1; clear hown hb1)
      go_loopg [6, 8, 27] P.length (fun g a b i wr => ∃ (k : Nat) (va : Value), va = a ∧ k + g = P.length ∧ i = .int .i64 (k : Int) ∧ Hid (wr.ownsRow w.heap.size 5 1 va (allB (P.take k)).length ((allB (P.take k)).map cB) ∧ Below w.heap.size w wr))
      case atStart => exact ⟨0, _, rfl, by omega, rfl, HO.out, HB.out⟩
      case round =>
        clear HO HB
        obtain ⟨k, va, rfl, hk, rfl, HS⟩ := hrel
        by_cases hlt : k < P.length
        · have hli : (k : Int) < (P.length : Int) := by omega
          obtain ⟨bo, off, rfl, hcell⟩ : ∃ bo off, ao = some ⟨bo, off, none⟩ ∧ ∀ j x, P[j]? = some x → w.cell? ⟨bo, off + j, none⟩ = some x.1 := by
            rcases HV.out with h | h
            · rw [h] at hlt; simp at hlt
            · exact h
          obtain ⟨q, hq⟩ : ∃ q, q = P[k] := ⟨_, rfl⟩
          have hrd : wr.cell? ⟨bo, off + k, none⟩ = some q.1 := keepc HS.out.2 (hcell k q (by rw [hq]; simp [hlt]))
          have HA := hid13 ((HP.out q (by rw [hq]; exact List.getElem_mem hlt)).below HS.out.2)
          have hat := allB_take hlt
          have hle := allB_le (P := P) (k + 1)
          rw [hat, List.length_append, ← hq] at hle
          obtain ⟨Z, hZ⟩ : ∃ Z, Z = allB (P.take k) := ⟨_, rfl⟩
          rw [← hZ] at HS hle hat
          rw [← hq] at hat
          have HE := hid13 hat
          have h63 : Z.length + q.2.length ≤ maxLen := by have := HN.out; unfold maxLen; omega
          have h47 : (Z.length + q.2.length) * 1 ≤ 140737488355328 := by have := HN.out; omega
          have mk : IntKind.i64.wrap ((k : Int) + 1) = (k : Int) + 1 := by have := HL.out; rw [IntKind.wrap_i64]; omega
          have HK : Hid (k + gk = P.length ∧ k < P.length) := ⟨hk, hlt⟩
          clear hq hcell hat hle hk hZ
          obtain ⟨qv, ql⟩ := q
          go_wp2_with (at_builtin; apply stopHere9)
          refine (show wpList _ _ _ _ _ _ from ?_)
          refine wpList_append_rowA rfl _ _ 25 rfl w.heap.size 5 i0 (.int .u8 0) 1 1 Try.underlying25 hi hz0 hz1 hz2 rfl (by decide) _ _ _ rfl HS.out.1 qv ql.length (ql.map cB) rfl HA.out (cB_one ql) h63 h47 HS.out.2.size ?_
          intro ao3 cap3 w3 hown3 hgrow
          have HS3 : Hid (w3.ownsRow w.heap.size 5 1 (.slice ao3 (Z.length + ql.length) cap3) (allB (P.take (k + 1))).length ((allB (P.take (k + 1))).map cB) ∧ Below w.heap.size w w3) := by
            rw [HE.out]
            refine ⟨?_, HS.out.2.grown hgrow HS.out.2.size (fun z e => (HS.out.1.lt z e).1)⟩
            rw [List.map_append, List.length_append]; exact hown3
          clear hown3 hgrow HS HA h63 h47 hrd
          go_wp2
          go_roundg (gk - 1)
          case measure => have := HK.out; omega
          case rel => exact ⟨k + 1, _, rfl, by have := HK.out; omega, rfl, HS3⟩
        · have hli : ¬ (k : Int) < (P.length : Int) := by omega
          have HS3 : Hid (wr.ownsRow w.heap.size 5 1 va (allB P).length ((allB P).map cB) ∧ Below w.heap.size w wr) := by
            have := HS.out
            rw [List.take_of_length_le (by omega)] at this
            exact this
          go_wp2_with fail
          go_ret
          exact ⟨_, rfl, HS3.out.1, HS3.out.2⟩
end Go.Proofs.Ytnaihocdemcejaa
/-
  What package wire's along and Sum do.
-/
namespace Go.Proofs.Ytnaihocdemcejaa
open Go.RowKit
set_option linter.unusedSimpArgs false
set_option linter.unusedVariables false

theorem nib32 (x : BitVec 32) : bits .and .u32 (uI x) 15 = ((x.toNat % 16 : Nat) : Int) := by
  have e : (15 : Int) = uI 15#32 := lit32 15 (by decide)
  have h : bits .and .u32 (uI x) (uI 15#32) = ((x.toNat % 16 : Nat) : Int) := by
    rw [and32, and15, uI_of _ (by omega)]
  rw [← e] at h
  exact h
theorem sh4 (x : BitVec 32) : uI x / (16 : Int) = uI (x >>> 4) := by have := shr32 x 4; simpa using this
theorem byX (c : BitVec 32) (b : Nat) (h : b < 256) : bits .xor .u32 (uI c) (b : Int) = uI (c ^^^ BitVec.ofNat 32 b) := by
  rw [← xor32, uI_of b (by omega)]
theorem stp_4 (c : BitVec 32) (b : Nat) : hbN 4 (hbN 4 (c ^^^ BitVec.ofNat 32 b)) = stp c b := by
  unfold stp; rw [← hbN_add]
def intOf13 : Value → Int | .int _ q => q | _ => 0
theorem crF_at {l : List Nat} {k : Nat} (hk : k < l.length) (C : BitVec 32) : crF C (l.drop k) = crF (stp C (l[k])) (l.drop (k + 1)) := by
  rw [List.drop_eq_getElem_cons hk, crF_cons]
/-- What holds at the label. -/
def AlI (l : List Nat) (ao : Option Addr) (cc : Nat) (c : BitVec 32) (a' : Act) : Prop := ∃ (k : Nat) (C : BitVec 32) (u6 u7 u8 u9 u10 u11 u12 u13 u14 u15 u16 u17 u18 u19 u20 u21 u22 u23 u24 u25 u26 u27 u28 u29 u30 u31 u32 u33 : Value), a' = { tmps := #[.int .u32 (uI C), .slice ao l.length cc, undef, undef, .int .u32 0, .int .i64 (k : Int), u6, u7, u8, u9, u10, u11, u12, u13, u14, u15, u16, u17, u18, u19, u20, u21, u22, u23, u24, u25, u26, u27, u28, u29, u30, u31, u32, u33], defers := [] } ∧ k ≤ l.length ∧ Hid (crF C (l.drop k) = crF c l)
theorem AlI.mk {l : List Nat} {ao : Option Addr} {cc : Nat} {c : BitVec 32} (k : Nat) (C : BitVec 32) (u6 u7 u8 u9 u10 u11 u12 u13 u14 u15 u16 u17 u18 u19 u20 u21 u22 u23 u24 u25 u26 u27 u28 u29 u30 u31 u32 u33 : Value) (hk : k ≤ l.length) (h : Hid (crF C (l.drop k) = crF c l)) : AlI l ao cc c { tmps := #[.int .u32 (uI C), .slice ao l.length cc, undef, undef, .int .u32 0, .int .i64 (k : Int), u6, u7, u8, u9, u10, u11, u12, u13, u14, u15, u16, u17, u18, u19, u20, u21, u22, u23, u24, u25, u26, u27, u28, u29, u30, u31, u32, u33], defers := [] } := ⟨k, C, u6, u7, u8, u9, u10, u11, u12, u13, u14, u15, u16, u17, u18, u19, u20, u21, u22, u23, u24, u25, u26, u27, u28, u29, u30, u31, u32, u33, rfl, hk, h⟩
def AlM (l : List Nat) (a' : Act) : Nat := l.length - (intOf13 (a'.tmps.getD 5 undef)).toNat
theorem flat_at {P : List (Value × List Nat)} {k : Nat} (hk : k < P.length) (C : BitVec 32) : crF C ((P.drop k).map (·.2)).flatten = crF (crF C (P[k].2)) ((P.drop (k + 1)).map (·.2)).flatten := by
  rw [List.drop_eq_getElem_cons hk, List.map_cons, List.flatten_cons, crF_app]
theorem notU (x : BitVec 32) : bits .xor .u32 IntKind.u32.max (uI x) = uI (~~~ x) := by
  have e : IntKind.u32.max = uI (BitVec.allOnes 32) := by rw [uI_eq]; decide
  rw [e, xor32, not_xor]
end Go.Proofs.Ytnaihocdemcejaa
/-
  Plain: a row folded: the bitmap of where its runs begin, and one of each.
-/
namespace Go.Proofs.Ytnaihocdemcejaa
open Go.RowKit
set_option linter.unusedSimpArgs false
set_option linter.unusedVariables false

/-- A place is set. -/
def setP (U : List (BitVec 32)) (k : Nat) : List (BitVec 32) := U.set (k / 32) (U.getD (k / 32) 0#32 ||| (cOne >>> (k % 32)))
theorem setP_len (U : List (BitVec 32)) (k : Nat) : (setP U k).length = U.length := by unfold setP; simp
section
variable {α : Type} [DecidableEq α]
/-- A run begins. -/
def flg (l : List α) (k : Nat) : Bool := decide (k = 0) || decide (l[k]? ≠ l[k - 1]?)
def fdU (l : List α) : Nat → List (BitVec 32)
  | 0 => List.replicate ((l.length + 31) / 32) 0#32
  | k + 1 => if flg l k then setP (fdU l k) k else fdU l k
def fdR (l : List α) : Nat → List α
  | 0 => []
  | k + 1 => if flg l k then fdR l k ++ l[k]?.toList else fdR l k
theorem fdU_len (l : List α) : ∀ k, (fdU l k).length = (l.length + 31) / 32
  | 0 => by simp [fdU]
  | k + 1 => by
    simp only [fdU]
    split
    · rw [setP_len, fdU_len l k]
    · exact fdU_len l k
theorem fdR_len (l : List α) : ∀ k, (fdR l k).length ≤ k
  | 0 => by simp [fdR]
  | k + 1 => by
    have := fdR_len l k
    simp only [fdR]
    split
    · rw [List.length_append]
      cases l[k]? <;> simp <;> omega
    · omega
theorem fd_yes (l : List α) (k : Nat) (x : α) (hx : l[k]? = some x) (h : flg l k = true) : fdU l (k + 1) = setP (fdU l k) k ∧ fdR l (k + 1) = fdR l k ++ [x] := by
  constructor
  · simp only [fdU, h, if_true]
  · simp only [fdR, h, if_true, hx, Option.toList_some]
theorem fd_no (l : List α) (k : Nat) (h : flg l k = false) : fdU l (k + 1) = fdU l k ∧ fdR l (k + 1) = fdR l k := by
  constructor
  · simp only [fdU, h, Bool.false_eq_true, if_false]
  · simp only [fdR, h, Bool.false_eq_true, if_false]
theorem flg_zero (l : List α) : flg l 0 = true := by simp [flg]
theorem flg_succ (l : List α) (j : Nat) (x y : α) (hx : l[j + 1]? = some x) (hy : l[j]? = some y) : flg l (j + 1) = decide (x ≠ y) := by
  unfold flg
  rw [Nat.add_sub_cancel, hx, hy]
  simp
end
end Go.Proofs.Ytnaihocdemcejaa
/-
  What package wire's Fold at int does.
-/
namespace Go.Proofs.Ytnaihocdemcejaa
open Go.RowKit
set_option linter.unusedSimpArgs false
set_option linter.unusedVariables false

theorem Try.infoI13 : (Try.prog.info? 3).map (fun i => (i.zero, i.size, i.bytes)) = some (some (.int .i64 0), 1, 8) := by kernel_rfl
/-- What Fold has made so far. -/
structure FoI (w W : World) (nw : Nat) (vf : Value) (U : List (BitVec 32)) (R : List Int) : Prop where
  b : Below w.heap.size w W
  m : W.ownsRow w.heap.size 56 1 (.slice (some ⟨w.heap.size, 0, none⟩) nw nw) nw (U.map cU)
  r : W.ownsRow (w.heap.size + 1) 3 1 vf R.length (R.map cI)
  s : w.heap.size + 1 ≤ W.heap.size
section
variable {w W W' : World} {nw : Nat} {vf : Value} {U : List (BitVec 32)} {R : List Int}
theorem FoI.below (h : FoI w W nw vf U R) (hb : Below W.heap.size W W') : FoI w W' nw vf U R :=
  ⟨keepb hb h.b, own_b13 hb h.m, own_b13 hb h.r, Nat.le_trans h.s hb.size⟩
theorem FoI.ul (h : FoI w W nw vf U R) : U.length = nw := by have := h.m.1; simpa using this
theorem FoI.cell (h : FoI w W nw vf U R) (k : Nat) (hk : k / 32 < nw) : W.cell? ⟨w.heap.size, k / 32, none⟩ = some (.int .u32 (uI (U.getD (k / 32) 0#32))) ∧ W.frozen? ⟨w.heap.size, k / 32, none⟩ = false := by
  have hl := h.ul
  refine ⟨?_, h.m.frozenAt _⟩
  rw [h.m.cellAt (k / 32) (by omega), List.getElem?_map, List.getD_eq_getElem?_getD, List.getElem?_eq_getElem (by omega)]
  rfl
theorem FoI.set (h : FoI w W nw vf U R) (k : Nat) (hk : k / 32 < nw) : FoI w (W.setCell ⟨w.heap.size, k / 32, none⟩ (.int .u32 (uI (U.getD (k / 32) 0#32 ||| (cOne >>> (k % 32)))))).drew nw vf (setP U k) R := by
  have hs := (h.m.stored (k / 32) (.int .u32 (uI (U.getD (k / 32) 0#32 ||| (cOne >>> (k % 32)))))).1
  have e : (setP U k).map cU = (U.map cU).set (k / 32) (.int .u32 (uI (U.getD (k / 32) 0#32 ||| (cOne >>> (k % 32))))) := by
    unfold setP
    rw [List.map_set]; rfl
  refine ⟨(h.b.setCell (Nat.le_refl _) _).drew, ?_, ?_, ?_⟩
  · rw [e]; exact own_b13 (below_drewN (Below.refl _ _) 1) hs
  · exact own_b13 (below_drewN (Below.refl _ _) 1) (ownsRow_setCell_below h.r (Nat.lt_succ_self _) _)
  · have : (W.setCell ⟨w.heap.size, k / 32, none⟩ (.int .u32 (uI (U.getD (k / 32) 0#32 ||| (cOne >>> (k % 32)))))).drew.heap.size = W.heap.size := by simp [World.setCell, World.drew]
    rw [this]; exact h.s
theorem FoI.grown (h : FoI w W nw vf U R) {v' : Value} {x : Int} (ho : W'.ownsRow (w.heap.size + 1) 3 1 v' (R.length + 1) (R.map cI ++ [cI x])) (hg : W.grownBy W' vf.ownBlock) : FoI w W' nw v' U (R ++ [x]) := by
  refine ⟨h.b.grown hg (by have := h.s; omega) (fun k e => by have := (h.r.lt k e).1; omega), h.m.kept hg ?_, ?_, Nat.le_trans h.s hg.size⟩
  · cases e : vf.ownBlock with
    | none => exact .inr (by simp [Value.ownBlock])
    | some k => exact .inr (by have := (h.r.lt k e).1; simp only [Value.ownBlock, ne_eq, Option.some.injEq]; omega)
  · rw [List.length_append, List.map_append]
    exact ho
end
end Go.Proofs.Ytnaihocdemcejaa
/-
  The chapter's examples.
-/
namespace Go.Proofs.Ytnaihocdemcejaa
open Go.RowKit
set_option linter.unusedSimpArgs false
set_option linter.unusedVariables false

theorem known_sum : crS [49, 50, 51, 52, 53, 54, 55, 56, 57] = 3808858755#32 := by decide +kernel
theorem known_U : fdU [(5 : Int), 5, 7, 5] 4 = [2952790016#32] := by decide +kernel
theorem known_R : fdR [(5 : Int), 5, 7, 5] 4 = [5, 7, 5] := by decide +kernel
theorem lit_rwx {α : Type} {f : α → Value} (w : World) (cs : Array Value) (T : TypeId) (fr : Nat × Nat) (l : List α) (h : cs.toList = l.map f) : RwX f (w.alloc (.cells cs T fr)) (.slice (some ⟨w.heap.size, 0, none⟩) l.length l.length) l := by
  refine ⟨_, _, rfl, Nat.le_refl _, .inr ⟨w.heap.size, 0, rfl, fun j x hj => ?_⟩⟩
  have e : (w.alloc (.cells cs T fr)).heap[w.heap.size]? = some (.cells cs T fr) := by
    show (w.heap.push _)[w.heap.size]? = _
    simp
  have hc : cs[j]? = some (f x) := by
    rw [← Array.getElem?_toList, h, List.getElem?_map, hj]; rfl
  rw [Nat.zero_add]
  rw [cell_of_row _ _ _ _ _ _ e]; exact hc
end Go.Proofs.Ytnaihocdemcejaa
