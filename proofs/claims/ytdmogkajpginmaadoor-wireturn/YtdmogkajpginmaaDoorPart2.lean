/-
  Part 2 of the proof: 5 texts, one behind the other.
-/
import Derived.WalkKit
import Derived.WalkSpells
import Derived.WalkLawsBesides
import Derived.Test.YtdmogkajpginmaaDoorPart1
import Derived.Deep.LoopGhost
import Derived.WalkMore
import Derived.ScopeJumps
/-
  Plain: the sum of bytes by halving, its lines: by exclusive or, so many halvings, products of two sums. Nothing of the program is imported here.
-/
namespace Go.Proofs.YtdmogkajpginmaaDoor
open Go.RowKit
set_option linter.unusedSimpArgs false
set_option linter.unusedVariables false

def cM : BitVec 32 := 0x82F63B78#32
def hb (x : BitVec 32) : BitVec 32 := (x >>> 1) ^^^ (if x.getLsbD 0 then cM else 0#32)
def hbN : Nat → BitVec 32 → BitVec 32
  | 0, x => x
  | n + 1, x => hbN n (hb x)
theorem x4 (a b c d : BitVec 32) : (a ^^^ b) ^^^ (c ^^^ d) = (a ^^^ c) ^^^ (b ^^^ d) := by
  rw [BitVec.xor_assoc, BitVec.xor_assoc, ← BitVec.xor_assoc b c d, BitVec.xor_comm b c, BitVec.xor_assoc c b d]
theorem xx (a : BitVec 32) : a ^^^ a = 0#32 := BitVec.xor_self
theorem hb_xor (x y : BitVec 32) : hb (x ^^^ y) = hb x ^^^ hb y := by
  unfold hb
  rw [BitVec.ushiftRight_xor_distrib, BitVec.getLsbD_xor, x4]
  congr 1
  cases x.getLsbD 0 <;> cases y.getLsbD 0 <;> simp
theorem hb_zero : hb 0#32 = 0#32 := by decide
theorem hbN_xor (n : Nat) : ∀ x y, hbN n (x ^^^ y) = hbN n x ^^^ hbN n y := by
  induction n with
  | zero => intro x y; rfl
  | succ n ih => intro x y; simp only [hbN]; rw [hb_xor, ih]
theorem hbN_zero (n : Nat) : hbN n 0#32 = 0#32 := by
  induction n with
  | zero => rfl
  | succ n ih => simp only [hbN]; rw [hb_zero, ih]
theorem hbN_add (m n : Nat) : ∀ x, hbN (m + n) x = hbN n (hbN m x) := by
  induction m with
  | zero => intro x; simp [hbN]
  | succ m ih => intro x; rw [Nat.succ_add]; simp only [hbN]; rw [ih]
theorem hbN_one (n : Nat) (x : BitVec 32) : hbN (n + 1) x = hb (hbN n x) := by
  rw [hbN_add n 1]; rfl
theorem hbN_hb (n : Nat) (x : BitVec 32) : hbN n (hb x) = hb (hbN n x) := by
  rw [← hbN_one]; rfl
theorem hb_top (x : BitVec 32) : (hb x).getLsbD 31 = x.getLsbD 0 := by
  unfold hb
  rw [BitVec.getLsbD_xor, BitVec.getLsbD_ushiftRight]
  have : x.getLsbD (1 + 31) = false := BitVec.getLsbD_of_ge _ _ (by omega)
  rw [this]
  cases x.getLsbD 0 <;> decide
theorem hb_inj (x : BitVec 32) (h : hb x = 0#32) : x = 0#32 := by
  have h0 : x.getLsbD 0 = false := by rw [← hb_top, h]; simp
  unfold hb at h
  rw [h0] at h
  simp at h
  apply BitVec.eq_of_getLsbD_eq
  intro i hi
  by_cases c : i = 0
  · subst c; rw [h0]; simp
  · have := congrArg (fun z => z.getLsbD (i - 1)) h
    simp only [BitVec.getLsbD_ushiftRight] at this
    have e : 1 + (i - 1) = i := by omega
    rw [e] at this
    rw [this]; simp
theorem hbN_inj (n : Nat) : ∀ x, hbN n x = 0#32 → x = 0#32 := by
  induction n with
  | zero => intro x h; exact h
  | succ n ih => intro x h; exact hb_inj _ (ih _ h)
theorem hbN_ne (n : Nat) (x y : BitVec 32) (h : x ≠ y) : hbN n x ≠ hbN n y := by
  intro e
  apply h
  have h2 : hbN n (x ^^^ y) = 0#32 := by rw [hbN_xor, e, xx]
  have h3 := hbN_inj n _ h2
  have h4 : (x ^^^ y) ^^^ y = 0#32 ^^^ y := by rw [h3]
  rw [BitVec.xor_assoc, xx] at h4
  simpa using h4

/-- The table of what the lowest four bits become. -/
def cT : Nat → BitVec 32
  | 0 => 0x00000000#32 | 1 => 0x105ec76f#32 | 2 => 0x20bd8ede#32 | 3 => 0x30e349b1#32 | 4 => 0x417b1dbc#32 | 5 => 0x5125dad3#32 | 6 => 0x61c69362#32 | 7 => 0x7198540d#32
  | 8 => 0x82f63b78#32 | 9 => 0x92a8fc17#32 | 10 => 0xa24bb5a6#32 | 11 => 0xb21572c9#32 | 12 => 0xc38d26c4#32 | 13 => 0xd3d3e1ab#32 | 14 => 0xe330a81a#32 | 15 => 0xf36e6f75#32
  | _ => 0#32
theorem cT_eq : ∀ k : Fin 16, hbN 4 (BitVec.ofNat 32 k.val) = cT k.val := by decide +kernel
theorem hb_even (x : BitVec 32) (h : x.getLsbD 0 = false) : hb x = x >>> 1 := by unfold hb; rw [h]; simp
theorem hb_hi (x : BitVec 32) (h : ∀ i, i < 4 → x.getLsbD i = false) : hbN 4 x = x >>> 4 := by
  simp only [hbN]
  have e1 : hb x = x >>> 1 := hb_even x (h 0 (by omega))
  have e2 : hb (x >>> 1) = x >>> 2 := by
    rw [hb_even _ (by rw [BitVec.getLsbD_ushiftRight]; exact h 1 (by omega)), ← BitVec.shiftRight_add]
  have e3 : hb (x >>> 2) = x >>> 3 := by
    rw [hb_even _ (by rw [BitVec.getLsbD_ushiftRight]; exact h 2 (by omega)), ← BitVec.shiftRight_add]
  have e4 : hb (x >>> 3) = x >>> 4 := by
    rw [hb_even _ (by rw [BitVec.getLsbD_ushiftRight]; exact h 3 (by omega)), ← BitVec.shiftRight_add]
  rw [e1, e2, e3, e4]
theorem and15 (x : BitVec 32) : x &&& 15#32 = BitVec.ofNat 32 (x.toNat % 16) := by
  apply BitVec.eq_of_toNat_eq
  rw [BitVec.toNat_and, BitVec.toNat_ofNat, BitVec.toNat_ofNat]
  have h : x.toNat &&& 15 = x.toNat % 16 := Nat.and_two_pow_sub_one_eq_mod x.toNat 4
  have e : 15 % 2 ^ 32 = 15 := by decide
  rw [e, h]
  omega
theorem hb_four (x : BitVec 32) : hbN 4 x = (x >>> 4) ^^^ cT (x.toNat % 16) := by
  have hs : x = (x &&& ~~~15#32) ^^^ (x &&& 15#32) := by
    apply BitVec.eq_of_getLsbD_eq
    intro i hi
    simp only [BitVec.getLsbD_xor, BitVec.getLsbD_and, BitVec.getLsbD_not, hi, decide_true, Bool.true_and]
    cases x.getLsbD i <;> cases (15#32).getLsbD i <;> rfl
  have h1 : hbN 4 (x &&& ~~~15#32) = (x &&& ~~~15#32) >>> 4 := by
    apply hb_hi
    intro i hi
    rw [BitVec.getLsbD_and, BitVec.getLsbD_not]
    have : i = 0 ∨ i = 1 ∨ i = 2 ∨ i = 3 := by omega
    rcases this with rfl | rfl | rfl | rfl <;> simp
  have h2 : (x &&& ~~~15#32) >>> 4 = x >>> 4 := by
    apply BitVec.eq_of_getLsbD_eq
    intro i hi
    rw [BitVec.getLsbD_ushiftRight, BitVec.getLsbD_ushiftRight, BitVec.getLsbD_and, BitVec.getLsbD_not]
    by_cases c : 4 + i < 32
    · have h15 : (15#32).getLsbD (4 + i) = false := by
        rw [BitVec.getLsbD_ofNat]
        have : (15 : Nat).testBit (4 + i) = false := Nat.testBit_lt_two_pow (Nat.lt_of_lt_of_le (by decide : 15 < 2 ^ 4) (Nat.pow_le_pow_right (by decide) (by omega)))
        rw [this]; simp
      rw [h15]; simp [c]
    · rw [BitVec.getLsbD_of_ge x _ (by omega)]; simp
  have h3 : hbN 4 (x &&& 15#32) = cT (x.toNat % 16) := by
    rw [and15]; exact cT_eq ⟨x.toNat % 16, by omega⟩
  calc hbN 4 x = hbN 4 ((x &&& ~~~15#32) ^^^ (x &&& 15#32)) := by rw [← hs]
    _ = _ := by rw [hbN_xor, h1, h2, h3]

/-- A byte goes in. -/
def stp (c : BitVec 32) (b : Nat) : BitVec 32 := hbN 8 (c ^^^ BitVec.ofNat 32 b)
def crF (c : BitVec 32) (l : List Nat) : BitVec 32 := l.foldl stp c
def crS (l : List Nat) : BitVec 32 := ~~~ crF (BitVec.allOnes 32) l
theorem crF_nil (c : BitVec 32) : crF c [] = c := rfl
theorem crF_cons (c : BitVec 32) (b : Nat) (l : List Nat) : crF c (b :: l) = crF (stp c b) l := rfl
theorem crF_app (c : BitVec 32) (l m : List Nat) : crF c (l ++ m) = crF (crF c l) m := by unfold crF; exact List.foldl_append
theorem stp_xor (c d : BitVec 32) (b : Nat) : stp (c ^^^ d) b = stp c b ^^^ hbN 8 d := by
  unfold stp
  have e : c ^^^ d ^^^ BitVec.ofNat 32 b = (c ^^^ BitVec.ofNat 32 b) ^^^ d := by
    rw [BitVec.xor_assoc, BitVec.xor_comm d, ← BitVec.xor_assoc]
  rw [e, hbN_xor]
theorem crF_xor (l : List Nat) : ∀ c d, crF (c ^^^ d) l = crF c l ^^^ hbN (8 * l.length) d := by
  induction l with
  | nil => intro c d; simp [crF, hbN]
  | cons b l ih =>
    intro c d
    rw [crF_cons, stp_xor, ih, crF_cons, ← hbN_add]
    congr 2
    simp only [List.length_cons]; omega
theorem not_xor (x : BitVec 32) : ~~~ x = BitVec.allOnes 32 ^^^ x := by
  apply BitVec.eq_of_getLsbD_eq
  intro i hi
  rw [BitVec.getLsbD_not, BitVec.getLsbD_xor, BitVec.getLsbD_allOnes]
  simp only [hi, decide_true, Bool.true_and, Bool.true_xor]
theorem not_back (x : BitVec 32) : BitVec.allOnes 32 ^^^ ~~~ x = x := by
  rw [not_xor, ← BitVec.xor_assoc, xx]
  exact BitVec.zero_xor
theorem crS_join (l m : List Nat) : crS (l ++ m) = hbN (8 * m.length) (crS l) ^^^ crS m := by
  unfold crS
  rw [crF_app]
  have h : crF (crF (BitVec.allOnes 32) l) m = crF (BitVec.allOnes 32 ^^^ ~~~ crF (BitVec.allOnes 32) l) m := by rw [not_back]
  rw [h, crF_xor, not_xor, ← BitVec.xor_assoc, ← not_xor, BitVec.xor_comm]
theorem crF_ne (l : List Nat) (c d : BitVec 32) (h : c ≠ d) : crF c l ≠ crF d l := by
  intro e
  have h1 : crF c l = crF (d ^^^ (d ^^^ c)) l := by rw [← BitVec.xor_assoc, xx]; simp
  rw [h1, crF_xor] at e
  have h2 : hbN (8 * l.length) (d ^^^ c) = 0#32 := by
    have := congrArg (fun z => crF d l ^^^ z) e
    simp only [← BitVec.xor_assoc, xx] at this
    simpa using this
  have h3 := hbN_inj _ _ h2
  apply h
  have h4 : d ^^^ (d ^^^ c) = d ^^^ 0#32 := by rw [h3]
  rw [← BitVec.xor_assoc, xx] at h4
  simpa using h4
theorem stp_ne (c : BitVec 32) (a b : Nat) (ha : a < 256) (hb : b < 256) (h : a ≠ b) : stp c a ≠ stp c b := by
  unfold stp
  apply hbN_ne
  intro e
  have h1 := congrArg (fun z => c ^^^ z) e
  simp only [← BitVec.xor_assoc, xx] at h1
  simp at h1
  have h2 := congrArg BitVec.toNat h1
  simp at h2
  omega
/-- One byte that is another makes another sum. -/
theorem crS_turn (l m : List Nat) (a b : Nat) (ha : a < 256) (hb : b < 256) (h : a ≠ b) : crS (l ++ a :: m) ≠ crS (l ++ b :: m) := by
  unfold crS
  rw [crF_app, crF_app, crF_cons, crF_cons]
  intro e
  have e2 := congrArg (fun z => ~~~ z) e
  simp only [BitVec.not_not] at e2
  exact crF_ne m _ _ (stp_ne _ a b ha hb h) e2

/-- The product of two sums, as the program reckons it. -/
def prd : Nat → BitVec 32 → BitVec 32 → BitVec 32 → BitVec 32
  | 0, _, _, p => p
  | k + 1, a, b, p => prd k (a <<< 1) (hb b) (if a.getLsbD 31 then p ^^^ b else p)
def pr0 : Nat → BitVec 32 → BitVec 32 → BitVec 32
  | 0, _, _ => 0#32
  | k + 1, a, b => (if a.getLsbD 31 then b else 0#32) ^^^ pr0 k (a <<< 1) (hb b)
theorem prd_pr0 (k : Nat) : ∀ a b p, prd k a b p = p ^^^ pr0 k a b := by
  induction k with
  | zero => intro a b p; simp [prd, pr0]
  | succ k ih =>
    intro a b p
    simp only [prd, pr0]
    rw [ih, ← BitVec.xor_assoc]
    congr 1
    cases a.getLsbD 31 <;> simp
theorem prd_zero (k : Nat) : ∀ b p, prd k 0#32 b p = p := by
  induction k with
  | zero => intro b p; rfl
  | succ k ih => intro b p; simp only [prd]; rw [show (0#32) <<< 1 = 0#32 from by decide, ih]; simp
theorem pr0_hbN (m k : Nat) : ∀ a b, pr0 k a (hbN m b) = hbN m (pr0 k a b) := by
  induction k with
  | zero => intro a b; simp only [pr0]; rw [hbN_zero]
  | succ k ih =>
    intro a b
    simp only [pr0]
    rw [← hbN_hb, ih, hbN_xor]
    congr 1
    cases a.getLsbD 31
    · simp [hbN_zero]
    · simp
def tp (k : Nat) : BitVec 32 := BitVec.twoPow 32 k
theorem hb_tp (k : Nat) (h : k + 1 < 32) : hb (tp (k + 1)) = tp k := by
  have : ∀ k : Fin 31, hb (tp (k.val + 1)) = tp k.val := by decide +kernel
  exact this ⟨k, by omega⟩
def lowB (k : Nat) (a : BitVec 32) : BitVec 32 := BitVec.ofNat 32 (a.toNat % 2 ^ k)
theorem lowB_bit (k : Nat) (a : BitVec 32) (i : Nat) : (lowB k a).getLsbD i = (decide (i < k) && a.getLsbD i) := by
  unfold lowB
  rw [BitVec.getLsbD_ofNat, Nat.testBit_mod_two_pow]
  by_cases c : i < 32
  · simp only [c, decide_true, Bool.true_and]; rfl
  · rw [BitVec.getLsbD_of_ge a i (by omega)]; simp [c]
theorem lowB_32 (a : BitVec 32) : lowB 32 a = a := by
  unfold lowB
  apply BitVec.eq_of_toNat_eq
  rw [BitVec.toNat_ofNat]
  have := a.isLt
  omega
theorem lowB_step (k : Nat) (hk : k < 32) (a : BitVec 32) : lowB (k + 1) a = (if a.getLsbD k then tp k else 0#32) ^^^ lowB k a := by
  apply BitVec.eq_of_getLsbD_eq
  intro i hi
  rw [BitVec.getLsbD_xor, lowB_bit, lowB_bit]
  have ht : (if a.getLsbD k then tp k else 0#32).getLsbD i = (a.getLsbD k && decide (k = i)) := by
    cases a.getLsbD k
    · simp
    · simp only [if_true, Bool.true_and]; unfold tp; rw [BitVec.getLsbD_twoPow]; simp [hk]
  rw [ht]
  by_cases c : i = k
  · subst c; simp
  · by_cases d : i < k
    · have d' : i < k + 1 := by omega
      have : ¬ k = i := by omega
      simp [d, d', this]
    · have d' : ¬ i < k + 1 := by omega
      have : ¬ k = i := by omega
      simp [d, d', this]
theorem pr0_low (a : BitVec 32) (k : Nat) : k < 32 → pr0 (k + 1) (a <<< (31 - k)) (tp k) = lowB (k + 1) a := by
  induction k with
  | zero =>
    intro _
    simp only [pr0]
    rw [lowB_step 0 (by omega)]
    have e : (a <<< (31 - 0)).getLsbD 31 = a.getLsbD 0 := by rw [BitVec.getLsbD_shiftLeft]; simp
    have e2 : lowB 0 a = 0#32 := by unfold lowB; simp [Nat.mod_one]
    rw [e, e2]
  | succ k ih =>
    intro hk
    rw [pr0, hb_tp k hk, ← BitVec.shiftLeft_add]
    have e1 : 31 - (k + 1) + 1 = 31 - k := by omega
    rw [e1, ih (by omega), lowB_step (k + 1) hk]
    have e : (a <<< (31 - (k + 1))).getLsbD 31 = a.getLsbD (k + 1) := by
      rw [BitVec.getLsbD_shiftLeft]
      have c1 : ¬ 31 < 31 - (k + 1) := by omega
      have c2 : 31 - (31 - (k + 1)) = k + 1 := by omega
      rw [c2, decide_eq_false c1]; simp
    rw [e]
/-- x^0. -/
def cOne : BitVec 32 := 0x80000000#32
theorem tp31 : tp 31 = cOne := by decide
theorem prd_hbN (a : BitVec 32) (m : Nat) : prd 32 a (hbN m cOne) 0#32 = hbN m a := by
  rw [prd_pr0, pr0_hbN]
  have h := pr0_low a 31 (by omega)
  have e : a <<< (31 - 31) = a := by simp
  rw [e, tp31, lowB_32] at h
  rw [h]; simp
theorem byByte_eq : hbN 8 cOne = 0x800000#32 := by decide
/-- Powers by squares. -/
theorem prd_pow (p q : Nat) : prd 32 (hbN p cOne) (hbN q cOne) 0#32 = hbN (p + q) cOne := by
  rw [prd_hbN, ← hbN_add]

/-- A sum's bits, each as it is then. -/
def thr (f : Nat → BitVec 32) (c : BitVec 32) : Nat → BitVec 32
  | 0 => 0#32
  | k + 1 => if c.getLsbD k then thr f c k ^^^ f k else thr f c k
theorem thr_low (m : Nat) (f : Nat → BitVec 32) (hf : ∀ i, i < 32 → f i = hbN m (tp i)) (c : BitVec 32) : ∀ k, k ≤ 32 → thr f c k = hbN m (lowB k c) := by
  intro k
  induction k with
  | zero => intro _; simp only [thr]; rw [show lowB 0 c = 0#32 from by unfold lowB; simp [Nat.mod_one], hbN_zero]
  | succ k ih =>
    intro hk
    rw [thr, ih (by omega), lowB_step k (by omega), hbN_xor, hf k (by omega)]
    cases c.getLsbD k
    · simp [hbN_zero]
    · simp [BitVec.xor_comm]
theorem thr_all (m : Nat) (f : Nat → BitVec 32) (hf : ∀ i, i < 32 → f i = hbN m (tp i)) (c : BitVec 32) : thr f c 32 = hbN m c := by
  rw [thr_low m f hf c 32 (Nat.le_refl _), lowB_32]
end Go.Proofs.YtdmogkajpginmaaDoor
/-
  Numbers of 32 bits as bit vectors, as they lie in memory.
-/
namespace Go.Proofs.YtdmogkajpginmaaDoor
open Go.RowKit
set_option linter.unusedSimpArgs false
set_option linter.unusedVariables false

theorem uI_ex (x : BitVec 32) : ∃ n : Int, n = (x.toNat : Int) := ⟨_, rfl⟩
/-- The number that lies in memory, under a name that no rule opens. -/
noncomputable def uI (x : BitVec 32) : Int := Classical.choose (uI_ex x)
theorem uI_eq (x : BitVec 32) : uI x = (x.toNat : Int) := Classical.choose_spec (uI_ex x)
theorem uI_lo (x : BitVec 32) : 0 ≤ uI x := by rw [uI_eq]; omega
theorem uI_up (x : BitVec 32) : uI x < 4294967296 := by rw [uI_eq]; have := x.isLt; omega
theorem uI_inj {x y : BitVec 32} (h : uI x = uI y) : x = y := by
  rw [uI_eq, uI_eq] at h
  exact BitVec.eq_of_toNat_eq (by omega)
theorem uI_of (n : Nat) (h : n < 4294967296) : uI (BitVec.ofNat 32 n) = (n : Int) := by
  rw [uI_eq, BitVec.toNat_ofNat]
  have : (2 : Nat) ^ 32 = 4294967296 := by decide
  omega
theorem uI_mk (n : Int) (h0 : 0 ≤ n) (h1 : n < 4294967296) : ∃ x : BitVec 32, n = uI x := ⟨BitVec.ofNat 32 n.toNat, by rw [uI_of _ (by omega)]; omega⟩
theorem uI_zero : uI 0#32 = 0 := by rw [uI_eq]; rfl
theorem uI_is0 (x : BitVec 32) : (uI x = 0) ↔ x = 0#32 := ⟨fun h => uI_inj (h.trans uI_zero.symm), fun h => by rw [h, uI_zero]⟩
theorem wrap32n (n : Nat) (h : n < 4294967296) : IntKind.u32.wrap (n : Int) = (n : Int) := by
  simp [IntKind.wrap, IntKind.bits, IntKind.signed]; omega
theorem b32 (a b : BitVec 32) : BitVec.ofInt 32 (uI a) = a := by rw [uI_eq]; simp
theorem and32 (a b : BitVec 32) : bits .and .u32 (uI a) (uI b) = uI (a &&& b) := by
  unfold bits
  simp only [IntKind.bits]
  rw [b32 a a, b32 b b, wrap32n _ (BitVec.isLt _), uI_eq]; rfl
theorem or32 (a b : BitVec 32) : bits .or .u32 (uI a) (uI b) = uI (a ||| b) := by
  unfold bits
  simp only [IntKind.bits]
  rw [b32 a a, b32 b b, wrap32n _ (BitVec.isLt _), uI_eq]; rfl
theorem xor32 (a b : BitVec 32) : bits .xor .u32 (uI a) (uI b) = uI (a ^^^ b) := by
  unfold bits
  simp only [IntKind.bits]
  rw [b32 a a, b32 b b, wrap32n _ (BitVec.isLt _), uI_eq]; rfl
theorem andNot32 (a b : BitVec 32) : bits .andNot .u32 (uI a) (uI b) = uI (a &&& ~~~b) := by
  unfold bits
  simp only [IntKind.bits]
  rw [b32 a a, b32 b b, wrap32n _ (BitVec.isLt _), uI_eq]; rfl
theorem shr32 (a : BitVec 32) (n : Nat) : uI a / 2 ^ n = uI (a >>> n) := by
  rw [uI_eq, uI_eq, BitVec.toNat_ushiftRight, Nat.shiftRight_eq_div_pow]; simp
theorem shl32 (a : BitVec 32) (n : Nat) : uI a * 2 ^ n % 4294967296 = uI (a <<< n) := by
  rw [uI_eq, uI_eq, BitVec.toNat_shiftLeft, Nat.shiftLeft_eq]; simp
theorem lit32 (n : Nat) (h : n < 4294967296) : ((n : Nat) : Int) = uI (BitVec.ofNat 32 n) := (uI_of n h).symm
theorem odd32 (x : BitVec 32) : bits .and .u32 (uI x) 1 = if x.getLsbD 0 then 1 else 0 := by
  have e : (1 : Int) = uI 1#32 := lit32 1 (by decide)
  have h : bits .and .u32 (uI x) (uI 1#32) = if x.getLsbD 0 then 1 else 0 := by
    rw [and32]
    have h2 : x &&& 1#32 = if x.getLsbD 0 then 1#32 else 0#32 := by
      apply BitVec.eq_of_getLsbD_eq
      intro i hi
      rw [BitVec.getLsbD_and, BitVec.getLsbD_ofNat]
      by_cases c : i = 0
      · subst c; cases x.getLsbD 0 <;> simp
      · have : Nat.testBit 1 i = false := by
          cases hh : Nat.testBit 1 i with
          | false => rfl
          | true => exact absurd (Nat.testBit_one_eq_true_iff_self_eq_zero.mp hh) c
        rw [this]
        cases x.getLsbD 0
        · simp
        · simp only [if_true]; rw [BitVec.getLsbD_ofNat, this]; simp
    rw [h2]
    cases x.getLsbD 0
    · simp only [Bool.false_eq_true, if_false]; exact uI_zero
    · simp only [if_true]; exact e.symm
  rw [← e] at h
  exact h
theorem xorM (x : BitVec 32) : bits .xor .u32 (uI x) 2197175160 = uI (x ^^^ cM) := by
  have e : (2197175160 : Int) = uI cM := lit32 2197175160 (by decide)
  rw [e, xor32]
theorem half32 (x : BitVec 32) : uI x / (2 : Int) = uI (x >>> 1) := by have := shr32 x 1; simpa using this
theorem dbl32 (x : BitVec 32) : uI x * (2 : Int) % 4294967296 = uI (x <<< 1) := by have := shl32 x 1; simpa using this
theorem hb_odd (x : BitVec 32) (h : x.getLsbD 0 = true) : hb x = (x >>> 1) ^^^ cM := by unfold hb; rw [h]; simp
theorem top32 (x : BitVec 32) : bits .and .u32 (uI x) 2147483648 = if x.getLsbD 31 then 2147483648 else 0 := by
  have e : (2147483648 : Int) = uI cOne := lit32 2147483648 (by decide)
  have h : bits .and .u32 (uI x) (uI cOne) = if x.getLsbD 31 then uI cOne else 0 := by
    rw [and32]
    have h2 : x &&& cOne = if x.getLsbD 31 then cOne else 0#32 := by
      apply BitVec.eq_of_getLsbD_eq
      intro i hi
      rw [BitVec.getLsbD_and, ← tp31]
      have ht : (tp 31).getLsbD i = decide (31 = i) := by unfold tp; rw [BitVec.getLsbD_twoPow]; simp
      by_cases c : i = 31
      · subst c; rw [ht]; cases x.getLsbD 31
        · simp
        · simp [ht]
      · have c' : ¬ 31 = i := by omega
        rw [ht]; cases x.getLsbD 31
        · simp [c']
        · simp [ht, c']
    rw [h2]
    cases x.getLsbD 31
    · simp only [Bool.false_eq_true, if_false]; exact uI_zero
    · simp only [if_true]
  rw [← e] at h
  exact h
end Go.Proofs.YtdmogkajpginmaaDoor
/-
  Rows of one cell an element, to be read, whosever they are.
-/
namespace Go.Proofs.YtdmogkajpginmaaDoor
open Go.RowKit
set_option linter.unusedSimpArgs false
set_option linter.unusedVariables false

theorem hid13 {p : Prop} (h : p) : Hid p := h
def cB (b : Nat) : Value := .int .u8 (b : Int)
noncomputable def cU (x : BitVec 32) : Value := .int .u32 (uI x)
def cI (n : Int) : Value := .int .i64 n
/-- A row in memory, to be read: what lies at each place. -/
def RwX {α : Type} (f : α → Value) (w : World) (v : Value) (l : List α) : Prop :=
  ∃ ao c, v = .slice ao l.length c ∧ l.length ≤ c ∧ (l = [] ∨ ∃ b off, ao = some ⟨b, off, none⟩ ∧ ∀ j x, l[j]? = some x → w.cell? ⟨b, off + j, none⟩ = some (f x))
section
variable {α : Type} {f : α → Value} {w w' : World} {v : Value} {l : List α}
theorem RwX.below (h : RwX f w v l) (hb : Below w.heap.size w w') : RwX f w' v l := by
  obtain ⟨ao, c, e, hc, h⟩ := h
  refine ⟨ao, c, e, hc, ?_⟩
  rcases h with h | ⟨b, off, e, h⟩
  · exact .inl h
  · exact .inr ⟨b, off, e, fun j x hj => keepc hb (h j x hj)⟩
theorem own_rwx {base e : Nat} (h : w.ownsRow base e 1 v l.length (l.map f)) : RwX f w v l := by
  obtain ⟨-, ao, c, e, hc, h⟩ := own_row h
  refine ⟨ao, c, e, hc, ?_⟩
  rcases h with ⟨-, -, h⟩ | ⟨b, off, e, h⟩
  · exact .inl (List.eq_nil_of_length_eq_zero h)
  · exact .inr ⟨b, off, e, fun j x hj => h j _ (by rw [List.getElem?_map, hj]; rfl)⟩
theorem own_rowA {w : World} {base e size n : Nat} {v : Value} {xs : List Value} (h : w.ownsRow base e size v n xs) : RowA w size v n xs := by
  obtain ⟨h1, ao, c, h2, h3, h4⟩ := own_row h
  refine ⟨h1, ao, c, h2, h3, ?_⟩
  rcases h4 with h4 | ⟨b, off, h5, h6⟩
  · exact .inl h4
  · exact .inr ⟨_, h5, fun j u hj => by rw [addA]; exact h6 j u hj⟩
theorem RwX.row (h : RwX f w v l) (hn : l = [] → ∃ n, v = .slice none 0 n ∧ n = 0) : RowA w 1 v l.length (l.map f) := by
  obtain ⟨ao, c, e, hc, h⟩ := h
  refine ⟨by simp, ao, c, e, hc, ?_⟩
  rcases h with h | ⟨b, off, e, h⟩
  · obtain ⟨n, e2, rfl⟩ := hn h
    subst h
    rw [e] at e2
    injection e2 with e3 e4 e5
    subst e3 e5
    exact .inl ⟨rfl, rfl, rfl⟩
  · refine .inr ⟨⟨b, off, none⟩, e, fun j u hj => ?_⟩
    rw [List.getElem?_map] at hj
    cases hx : l[j]? with
    | none => rw [hx] at hj; cases hj
    | some x =>
      rw [hx] at hj
      simp only [Option.map_some, Option.some.injEq] at hj
      rw [addA, ← hj]
      exact h j x hx
end
end Go.Proofs.YtdmogkajpginmaaDoor
/-
  What package wire's along and Sum do.
-/
namespace Go.Proofs.YtdmogkajpginmaaDoor
open Go.RowKit
set_option linter.unusedSimpArgs false
set_option linter.unusedVariables false

/-- The table of the project's own lies in its variable. -/
def Hf (w : World) : Prop := ∀ j, j < 16 → w.cell? ⟨0, j, none⟩ = some (.int .u32 (uI (cT j)))
theorem Hf.below {w w' : World} (h : Hf w) (hb : Below w.heap.size w w') : Hf w' := fun j hj => keepc hb (h j hj)
theorem nib32 (x : BitVec 32) : bits .and .u32 (uI x) 15 = ((x.toNat % 16 : Nat) : Int) := by
  have e : (15 : Int) = uI 15#32 := lit32 15 (by decide)
  have h : bits .and .u32 (uI x) (uI 15#32) = ((x.toNat % 16 : Nat) : Int) := by
    rw [and32, and15, uI_of _ (by omega)]
  rw [← e] at h
  exact h
theorem sh4 (x : BitVec 32) : uI x / (16 : Int) = uI (x >>> 4) := by have := shr32 x 4; simpa using this
theorem byX (c : BitVec 32) (b : Nat) (h : b < 256) : bits .xor .u32 (uI c) (b : Int) = uI (c ^^^ BitVec.ofNat 32 b) := by
  rw [← xor32, uI_of b (by omega)]
theorem stp_4 (c : BitVec 32) (b : Nat) : hbN 4 (hbN 4 (c ^^^ BitVec.ofNat 32 b)) = stp c b := by
  unfold stp; rw [← hbN_add]
def intOf13 : Value → Int | .int _ q => q | _ => 0
theorem crF_at {l : List Nat} {k : Nat} (hk : k < l.length) (C : BitVec 32) : crF C (l.drop k) = crF (stp C (l[k])) (l.drop (k + 1)) := by
  rw [List.drop_eq_getElem_cons hk, crF_cons]
/-- What one step asks of the table: a letter for the place. -/
theorem nibF {w : World} (hT : Hf w) (x : BitVec 32) : ∃ d : Nat, ∃ t : Int, d < 16 ∧ bits .and .u32 (uI x) 15 = (d : Int) ∧ w.cell? ⟨0, d, none⟩ = some (.int .u32 t) ∧ bits .xor .u32 (uI x / (16 : Int)) t = uI (hbN 4 x) := by
  refine ⟨x.toNat % 16, uI (cT (x.toNat % 16)), by omega, nib32 x, hT _ (by omega), ?_⟩
  rw [sh4, xor32, hb_four]
/-- What holds at the label. -/
def AlI (l : List Nat) (ao : Option Addr) (cc : Nat) (c : BitVec 32) (a' : Act) : Prop := ∃ (k : Nat) (C : BitVec 32) (u6 u7 u8 u9 u10 u11 u12 u13 u14 u15 u16 u17 u18 u19 u20 u21 u22 u23 u24 u25 u26 u27 u28 u29 u30 u31 u32 u33 : Value), a' = { tmps := #[.int .u32 (uI C), .slice ao l.length cc, undef, undef, .int .u32 0, .int .i64 (k : Int), u6, u7, u8, u9, u10, u11, u12, u13, u14, u15, u16, u17, u18, u19, u20, u21, u22, u23, u24, u25, u26, u27, u28, u29, u30, u31, u32, u33], defers := [] } ∧ k ≤ l.length ∧ Hid (crF C (l.drop k) = crF c l)
theorem AlI.mk {l : List Nat} {ao : Option Addr} {cc : Nat} {c : BitVec 32} (k : Nat) (C : BitVec 32) (u6 u7 u8 u9 u10 u11 u12 u13 u14 u15 u16 u17 u18 u19 u20 u21 u22 u23 u24 u25 u26 u27 u28 u29 u30 u31 u32 u33 : Value) (hk : k ≤ l.length) (h : Hid (crF C (l.drop k) = crF c l)) : AlI l ao cc c { tmps := #[.int .u32 (uI C), .slice ao l.length cc, undef, undef, .int .u32 0, .int .i64 (k : Int), u6, u7, u8, u9, u10, u11, u12, u13, u14, u15, u16, u17, u18, u19, u20, u21, u22, u23, u24, u25, u26, u27, u28, u29, u30, u31, u32, u33], defers := [] } := ⟨k, C, u6, u7, u8, u9, u10, u11, u12, u13, u14, u15, u16, u17, u18, u19, u20, u21, u22, u23, u24, u25, u26, u27, u28, u29, u30, u31, u32, u33, rfl, hk, h⟩
def AlM (l : List Nat) (a' : Act) : Nat := l.length - (intOf13 (a'.tmps.getD 5 undef)).toNat
set_option maxRecDepth 1000000 in
set_option maxHeartbeats 8000000 in
theorem along_any (c : BitVec 32) (v : Value) (l : List Nat) (w : World) (hv : RwX cB w v l) (hl : l.length ≤ 9223372036854775806) (hb : ∀ b ∈ l, b < 256) (hT : Hf w) :
    Calls Tryd.prog 24 #[.int .u32 (uI c), v] w fun e w' => e = .returned (.int .u32 (uI (crF c l))) ∧ w' = w := by
  obtain ⟨ao, cc, rfl, hc, hv⟩ := hv
  have HV := hid13 hv
  have HT := hid13 hT
  have HB := hid13 hb
  have HL := hid13 hl
  clear hv hT hb hc hl
  go_enter Tryd.func24, Tryd.ntmps24
  go_wp2
  refine wp_scope_jumps 0 (fun a' w' => w' = w ∧ AlI l ao cc c a') (fun a' _ => AlM l a') rfl ?_ ?_
  · have HC : Hid (crF c (l.drop 0) = crF c l) := by show crF c (l.drop 0) = crF c l; simp
    by_cases hlt : 0 < l.length
    · have hne : ¬ ((0 : Int) = (l.length : Int)) := by omega
      obtain ⟨b, hb0⟩ : ∃ b, b = l[0]'hlt := ⟨_, rfl⟩
      have hb1 : b < 256 := HB.out b (by rw [hb0]; exact List.getElem_mem hlt)
      obtain ⟨bo, off, rfl, hcell⟩ : ∃ bo off, ao = some ⟨bo, off, none⟩ ∧ ∀ j x, l[j]? = some x → w.cell? ⟨bo, off + j, none⟩ = some (cB x) := by
        rcases HV.out with h | h
        · rw [h] at hlt; simp at hlt
        · exact h
      have hrd : w.cell? ⟨bo, off + 0, none⟩ = some (.int .u8 (b : Int)) := by
        have := hcell 0 b (by rw [hb0]; simp [hlt])
        exact this
      clear hcell HV
      have hx := byX c b hb1
      have HE : Hid (crF (hbN 4 (hbN 4 (c ^^^ BitVec.ofNat 32 b))) (l.drop (0 + 1)) = crF c l) := by
        show _ = _
        rw [stp_4, hb0, ← crF_at hlt]; exact HC.out
      obtain ⟨X, hX⟩ : ∃ X, X = c ^^^ BitVec.ofNat 32 b := ⟨_, rfl⟩
      rw [← hX] at hx HE
      obtain ⟨d, t, hd, f1, f2, f3⟩ := nibF HT.out X
      obtain ⟨Y, hY⟩ : ∃ Y, Y = hbN 4 X := ⟨_, rfl⟩
      rw [← hY] at f3 HE
      obtain ⟨d2, t2, hd2, g1, g2, g3⟩ := nibF HT.out Y
      have hd' : ((d : Nat) : Int) < 16 := by omega
      have hd2' : ((d2 : Nat) : Int) < 16 := by omega
      have hbi : ((b : Nat) : Int) < 256 := by omega
      have mk : IntKind.i64.wrap ((0 : Int) + 1) = (0 : Int) + 1 := by have := HL.out; rw [IntKind.wrap_i64]; omega
      have HLT := hid13 hlt
      have HB0 := hid13 hb0
      clear hX hY HC hb0
      rw [Nat.add_zero] at hrd
      clear mk
      go_wp2
      go_step3
      go_wp2
      go_step3
      exact ⟨rfl, rfl, AlI.mk 1 (hbN 4 Y) _ _ _ _ _ _ _ _ _ _ _ _ _ _ _ _ _ _ _ _ _ _ _ _ _ _ _ _ HLT.out HE⟩
    · have h0 : l = [] := List.eq_nil_of_length_eq_zero (by omega)
      subst h0
      go_wp2
      go_step3
      go_wp2
      simp only [Exit.jump]
      go_ret
      exact ⟨rfl, rfl⟩
  · rintro a' w' ⟨rfl, k, C, u6, u7, u8, u9, u10, u11, u12, u13, u14, u15, u16, u17, u18, u19, u20, u21, u22, u23, u24, u25, u26, u27, u28, u29, u30, u31, u32, u33, rfl, hk, HC⟩
    by_cases hlt : k < l.length
    · have hne : ¬ ((k : Int) = (l.length : Int)) := by omega
      obtain ⟨b, hb0⟩ : ∃ b, b = l[k]'hlt := ⟨_, rfl⟩
      have hb1 : b < 256 := HB.out b (by rw [hb0]; exact List.getElem_mem hlt)
      obtain ⟨bo, off, rfl, hcell⟩ : ∃ bo off, ao = some ⟨bo, off, none⟩ ∧ ∀ j x, l[j]? = some x → w'.cell? ⟨bo, off + j, none⟩ = some (cB x) := by
        rcases HV.out with h | h
        · rw [h] at hlt; simp at hlt
        · exact h
      have hrd : w'.cell? ⟨bo, off + k, none⟩ = some (.int .u8 (b : Int)) := by
        have := hcell k b (by rw [hb0]; simp [hlt])
        exact this
      clear hcell HV
      have hx := byX C b hb1
      have HE : Hid (crF (hbN 4 (hbN 4 (C ^^^ BitVec.ofNat 32 b))) (l.drop (k + 1)) = crF c l) := by
        show _ = _
        rw [stp_4, hb0, ← crF_at hlt]; exact HC.out
      obtain ⟨X, hX⟩ : ∃ X, X = C ^^^ BitVec.ofNat 32 b := ⟨_, rfl⟩
      rw [← hX] at hx HE
      obtain ⟨d, t, hd, f1, f2, f3⟩ := nibF HT.out X
      obtain ⟨Y, hY⟩ : ∃ Y, Y = hbN 4 X := ⟨_, rfl⟩
      rw [← hY] at f3 HE
      obtain ⟨d2, t2, hd2, g1, g2, g3⟩ := nibF HT.out Y
      have hd' : ((d : Nat) : Int) < 16 := by omega
      have hd2' : ((d2 : Nat) : Int) < 16 := by omega
      have hbi : ((b : Nat) : Int) < 256 := by omega
      have mk : IntKind.i64.wrap ((k : Int) + 1) = (k : Int) + 1 := by have := HL.out; rw [IntKind.wrap_i64]; omega
      have HLT := hid13 hlt
      have HB0 := hid13 hb0
      clear hX hY HC hb0
      go_wp2
      go_step3
      refine ⟨rfl, ⟨rfl, AlI.mk (k + 1) (hbN 4 Y) _ _ _ _ _ _ _ _ _ _ _ _ _ _ _ _ _ _ _ _ _ _ _ _ _ _ _ _ HLT.out HE⟩, ?_⟩
      show l.length - ((k : Int) + 1).toNat < l.length - (k : Int).toNat
      have := HLT.out
      omega
    · have hq : (k : Int) = (l.length : Int) := by omega
      have HE : Hid (C = crF c l) := by
        have := HC.out
        rw [List.drop_eq_nil_of_le (by omega), crF_nil] at this
        exact this
      go_wp2
      simp only [Exit.jump]
      go_ret
      exact ⟨by rw [← HE.out]; rfl, rfl⟩

theorem flat_at {P : List (Value × List Nat)} {k : Nat} (hk : k < P.length) (C : BitVec 32) : crF C ((P.drop k).map (·.2)).flatten = crF (crF C (P[k].2)) ((P.drop (k + 1)).map (·.2)).flatten := by
  rw [List.drop_eq_getElem_cons hk, List.map_cons, List.flatten_cons, crF_app]
theorem notU (x : BitVec 32) : bits .xor .u32 IntKind.u32.max (uI x) = uI (~~~ x) := by
  have e : IntKind.u32.max = uI (BitVec.allOnes 32) := by rw [uI_eq]; decide
  rw [e, xor32, not_xor]
set_option maxRecDepth 100000 in
set_option maxHeartbeats 8000000 in
theorem sum_any (v : Value) (P : List (Value × List Nat)) (w : World) (hv : RwX (fun p : Value × List Nat => p.1) w v P) (hP : ∀ p ∈ P, RwX cB w p.1 p.2 ∧ p.2.length ≤ 9223372036854775806 ∧ ∀ b ∈ p.2, b < 256) (hl : P.length ≤ 9223372036854775806) (hT : Hf w) :
    Calls Tryd.prog 9 #[v] w fun e w' => e = .returned (.int .u32 (uI (crS (P.map (·.2)).flatten))) ∧ w' = w := by
  obtain ⟨ao, cc, rfl, hc, hv⟩ := hv
  have HV := hid13 hv
  have HT := hid13 hT
  have HP := hid13 hP
  have HL := hid13 hl
  have hs : ¬ IntKind.u32.signed = true := by decide
  clear hv hT hP hc hl
  go_enter Tryd.func9, Tryd.ntmps9
  go_wp2_with fail
  go_loopg [3, 5, 8] P.length (fun g a b i wr => wr = w ∧ ∃ (k : Nat) (C : BitVec 32), k + g = P.length ∧ a = .int .u32 (uI C) ∧ i = .int .i64 (k : Int) ∧ Hid (crF C ((P.drop k).map (·.2)).flatten = crF (BitVec.allOnes 32) (P.map (·.2)).flatten))
  case atStart =>
    refine ⟨rfl, 0, BitVec.allOnes 32, by omega, ?_, rfl, rfl⟩
    exact congrArg (Value.int .u32) (by rw [uI_eq]; decide)
  case round =>
    obtain ⟨rfl, k, C, hk, rfl, rfl, HC⟩ := hrel
    by_cases hlt : k < P.length
    · have hli : (k : Int) < (P.length : Int) := by omega
      obtain ⟨bo, off, rfl, hcell⟩ : ∃ bo off, ao = some ⟨bo, off, none⟩ ∧ ∀ j x, P[j]? = some x → wr.cell? ⟨bo, off + j, none⟩ = some x.1 := by
        rcases HV.out with h | h
        · rw [h] at hlt; simp at hlt
        · exact h
      obtain ⟨q, hq⟩ : ∃ q, q = P[k] := ⟨_, rfl⟩
      have hrd : wr.cell? ⟨bo, off + k, none⟩ = some q.1 := hcell k q (by rw [hq]; simp [hlt])
      have hq2 := hid13 (HP.out q (by rw [hq]; exact List.getElem_mem hlt))
      have HE : Hid (crF (crF C q.2) ((P.drop (k + 1)).map (·.2)).flatten = crF (BitVec.allOnes 32) (P.map (·.2)).flatten) := by
        show _ = _
        rw [hq, ← flat_at hlt]; exact HC.out
      have mk : IntKind.i64.wrap ((k : Int) + 1) = (k : Int) + 1 := by have := HL.out; rw [IntKind.wrap_i64]; omega
      have HK := hid13 hk
      have HLT := hid13 hlt
      clear hq hcell HC hk
      obtain ⟨qv, ql⟩ := q
      go_wp2_with (go_at_call 24; refine (along_any C qv ql _ hq2.out.1 hq2.out.2.1 hq2.out.2.2 HT.out).mono ?_; rintro e w1 ⟨rfl, rfl⟩)
      go_roundg (gk - 1)
      case measure => have := HK.out; have := HLT.out; omega
      case rel => exact ⟨rfl, k + 1, _, by have := HK.out; have := HLT.out; omega, rfl, rfl, HE⟩
    · have hli : ¬ (k : Int) < (P.length : Int) := by omega
      have HE : Hid (~~~ C = crS (P.map (·.2)).flatten) := by
        have := HC.out
        rw [List.drop_eq_nil_of_le (by omega), List.map_nil, List.flatten_nil, crF_nil] at this
        show ~~~ C = crS _
        unfold crS
        rw [this]
      have hn := notU C
      go_wp2_with fail
      go_ret
      exact ⟨congrArg Ending.returned (congrArg (Value.int .u32) (by first | exact congrArg uI HE.out | (rw [← HE.out]; exact hn))), rfl⟩
end Go.Proofs.YtdmogkajpginmaaDoor
/-
  What package wire's halved, times, byBytes and Join do.
-/
namespace Go.Proofs.YtdmogkajpginmaaDoor
open Go.RowKit
set_option linter.unusedSimpArgs false
set_option linter.unusedVariables false

set_option maxRecDepth 100000 in
theorem halved_any (x : BitVec 32) (w : World) :
    Calls Tryd.prog 38 #[.int .u32 (uI x)] w fun e w' => e = .returned (.int .u32 (uI (hb x))) ∧ w' = w := by
  have h1 := odd32 x
  have h2 := half32 x
  cases c : x.getLsbD 0
  · rw [hb_even x c]
    rw [c] at h1
    simp only [Bool.false_eq_true, if_false] at h1
    clear c
    go_enter Tryd.func38, Tryd.ntmps38
    go_wp2
    go_ret
    exact ⟨rfl, rfl⟩
  · rw [hb_odd x c]
    rw [c] at h1
    simp only [if_true] at h1
    have h3 := xorM (x >>> 1)
    clear c
    go_enter Tryd.func38, Tryd.ntmps38
    go_wp2
    go_ret
    exact ⟨rfl, rfl⟩
set_option maxRecDepth 100000 in
set_option maxHeartbeats 4000000 in
theorem times_any (x y : BitVec 32) (w : World) :
    Calls Tryd.prog 26 #[.int .u32 (uI x), .int .u32 (uI y)] w fun e w' => e = .returned (.int .u32 (uI (prd 32 x y 0#32))) ∧ w' = w := by
  go_enter Tryd.func26, Tryd.ntmps26
  go_wp2_with fail
  go_loopg [0, 1, 5] 32 (fun k a b p wr => wr = w ∧ k ≤ 32 ∧ ∃ A B P : BitVec 32, a = .int .u32 (uI A) ∧ b = .int .u32 (uI B) ∧ p = .int .u32 (uI P) ∧ Hid (prd k A B P = prd 32 x y 0#32 ∧ A <<< k = 0#32))
  case atStart => exact ⟨rfl, by omega, x, y, 0#32, rfl, rfl, by rw [uI_zero], rfl, by simp⟩
  case round =>
    obtain ⟨rfl, hk, A, B, P, rfl, rfl, rfl, HP⟩ := hrel
    by_cases h0 : A = 0#32
    · subst h0
      have hz := uI_zero
      obtain ⟨e1, -⟩ := HP.out
      rw [prd_zero] at e1
      rw [hz]
      clear HP hz
      go_wp2_with fail
      go_ret
      exact ⟨congrArg Ending.returned (congrArg (Value.int .u32) (congrArg uI e1)), rfl⟩
    · have hz : ¬ uI A = 0 := fun h => h0 ((uI_is0 A).mp h)
      obtain ⟨j, rfl⟩ : ∃ j, gk = j + 1 := by
        cases gk with
        | zero => exact absurd (by have := HP.out.2; simpa using this) h0
        | succ j => exact ⟨j, rfl⟩
      have htop := top32 A
      have HD := HP.out
      have hN : Hid (prd j (A <<< 1) (hb B) (if A.getLsbD 31 then P ^^^ B else P) = prd 32 x y 0#32 ∧ (A <<< 1) <<< j = 0#32) := ⟨HD.1, by rw [← BitVec.shiftLeft_add, Nat.add_comm]; exact HD.2⟩
      clear HP HD h0
      cases c : A.getLsbD 31
      · rw [c] at htop hN
        simp only [Bool.false_eq_true, if_false] at htop hN
        clear c
        go_wp2_with (go_at_call 38; refine (halved_any B _).mono ?_; rintro e w1 ⟨rfl, rfl⟩)
        go_roundg j
        case measure => omega
        case rel => exact ⟨rfl, by omega, _, _, _, congrArg (Value.int .u32) (dbl32 A), rfl, rfl, hN⟩
      · rw [c] at htop hN
        simp only [if_true] at htop hN
        clear c
        have hxx := xor32 P B
        go_wp2_with (go_at_call 38; refine (halved_any B _).mono ?_; rintro e w1 ⟨rfl, rfl⟩)
        go_roundg j
        case measure => omega
        case rel => exact ⟨rfl, by omega, _, _, _, congrArg (Value.int .u32) (dbl32 A), rfl, rfl, hN⟩
theorem oddN (n : Nat) (h : n < 9223372036854775808) : bits .and .i64 (n : Int) 1 = ((n % 2 : Nat) : Int) := by
  unfold bits
  simp only [IntKind.bits]
  have e : (BitVec.ofInt 64 (n : Int) &&& BitVec.ofInt 64 1).toNat = n % 2 := by
    rw [BitVec.toNat_and]
    have e1 : (BitVec.ofInt 64 (n : Int)).toNat = n := by rw [BitVec.toNat_ofInt]; omega
    have e2 : (BitVec.ofInt 64 1).toNat = 1 := by decide
    rw [e1, e2]
    exact Nat.and_one_is_mod n
  show IntKind.i64.wrap (((BitVec.ofInt 64 (n : Int) &&& BitVec.ofInt 64 1).toNat : Nat) : Int) = _
  rw [e, IntKind.wrap_i64]
  omega
set_option maxRecDepth 100000 in
set_option maxHeartbeats 4000000 in
theorem byBytes_any (n : Nat) (hn : n < 9223372036854775808) (w : World) :
    Calls Tryd.prog 27 #[.int .i64 (n : Int)] w fun e w' => e = .returned (.int .u32 (uI (hbN (8 * n) cOne))) ∧ w' = w := by
  go_enter Tryd.func27, Tryd.ntmps27
  go_wp2_with fail
  go_loopg [0, 3, 4] n (fun k a b p wr => wr = w ∧ k ≤ n ∧ ∃ P Q : Nat, a = .int .i64 (k : Int) ∧ b = .int .u32 (uI (hbN P cOne)) ∧ p = .int .u32 (uI (hbN Q cOne)) ∧ Hid (P + Q * k = 8 * n))
  case atStart =>
    refine ⟨rfl, Nat.le_refl _, 0, 8, rfl, ?_, ?_, by show 0 + 8 * n = 8 * n; omega⟩
    · exact congrArg (Value.int .u32) (lit32 2147483648 (by decide))
    · rw [byByte_eq]; exact congrArg (Value.int .u32) (lit32 8388608 (by decide))
  case round =>
    obtain ⟨rfl, hk, P, Q, rfl, rfl, rfl, HP⟩ := hrel
    by_cases h0 : gk = 0
    · subst h0
      go_wp2_with fail
      go_ret
      refine ⟨congrArg Ending.returned (congrArg (Value.int .u32) (congrArg uI ?_)), rfl⟩
      have := HP.out
      rw [show 8 * n = P by omega]
    · have hpos : 0 < (gk : Int) := by omega
      have hodd := oddN gk (by omega)
      have hhalf : Hid ((gk : Int) / (2 : Int) = ((gk / 2 : Nat) : Int)) := by show (gk : Int) / (2 : Int) = ((gk / 2 : Nat) : Int); omega
      have hd := Nat.div_add_mod gk 2
      have hq : Q * gk = Q * (2 * (gk / 2)) + Q * (gk % 2) := by rw [← Nat.mul_add, hd]
      have hq2 : Q * (2 * (gk / 2)) = (Q + Q) * (gk / 2) := by rw [← Nat.mul_assoc, Nat.mul_comm Q 2, Nat.two_mul]
      have E := HP.out
      rcases (show gk % 2 = 0 ∨ gk % 2 = 1 by omega) with c | c
      · rw [c] at hodd hq
        have HN : Hid (P + (Q + Q) * (gk / 2) = 8 * n) := by show P + (Q + Q) * (gk / 2) = 8 * n; omega
        have HK : Hid (gk / 2 < gk ∧ gk / 2 ≤ n) := by constructor <;> omega
        clear hd hq hq2 E c HP hk h0
        go_wp2_with (go_at_call 26; refine (times_any _ _ _).mono ?_; rintro e w1 ⟨rfl, rfl⟩)
        go_roundg (gk / 2)
        case measure => exact HK.out.1
        case rel => exact ⟨rfl, HK.out.2, P, Q + Q, congrArg (Value.int .i64) hhalf.out, rfl, congrArg (Value.int .u32) (congrArg uI (prd_pow Q Q)), HN⟩
      · rw [c] at hodd hq
        have HN : Hid (P + Q + (Q + Q) * (gk / 2) = 8 * n) := by show P + Q + (Q + Q) * (gk / 2) = 8 * n; omega
        have HK : Hid (gk / 2 < gk ∧ gk / 2 ≤ n) := by constructor <;> omega
        clear hd hq hq2 E c HP hk h0
        go_wp2_with (go_at_call 26; refine (times_any _ _ _).mono ?_; rintro e w1 ⟨rfl, rfl⟩)
        go_roundg (gk / 2)
        case measure => exact HK.out.1
        case rel => exact ⟨rfl, HK.out.2, P + Q, Q + Q, congrArg (Value.int .i64) hhalf.out, congrArg (Value.int .u32) (congrArg uI (prd_pow P Q)), congrArg (Value.int .u32) (congrArg uI (prd_pow Q Q)), HN⟩
/-- What Join tells. -/
def jnU (a b : BitVec 32) (n : Int) : BitVec 32 := if n < 0 then 0#32 else hbN (8 * n.toNat) a ^^^ b
def jnE (n : Int) : Int := if n < 0 then 1 else 0
set_option maxRecDepth 100000 in
theorem join_any (a b : BitVec 32) (n : Int) (hn : n ≤ 9223372036854775807) (w : World) :
    Calls Tryd.prog 13 #[.int .u32 (uI a), .int .u32 (uI b), .int .i64 n] w fun e w' => e = .returned (.tuple #[.int .u32 (uI (jnU a b n)), .int .i64 (jnE n)]) ∧ w' = w := by
  unfold jnU jnE
  by_cases h : n < 0
  · rw [if_pos h, if_pos h, uI_zero]
    go_enter Tryd.func13, Tryd.ntmps13
    go_wp2
    exact bodyPost_ret (v := .tuple #[.int .u32 0, .int .i64 1]) (by simp [results, Tryd.results13, go_sem]) rfl ⟨rfl, rfl⟩
  · rw [if_neg h, if_neg h]
    obtain ⟨k, rfl⟩ : ∃ k : Nat, n = (k : Int) := ⟨n.toNat, by omega⟩
    have hk : k < 9223372036854775808 := by omega
    have hx := xor32 (hbN (8 * k) a) b
    have hp := congrArg uI (prd_hbN a (8 * k))
    simp only [Int.toNat_natCast]
    clear hn
    go_enter Tryd.func13, Tryd.ntmps13
    go_wp2_with (first | (go_at_call 27; refine (byBytes_any k hk _).mono ?_; rintro e w1 ⟨rfl, rfl⟩) | (go_at_call 26; refine (times_any _ _ _).mono ?_; rintro e w1 ⟨rfl, rfl⟩))
    exact bodyPost_ret (v := .tuple #[.int .u32 (uI (hbN (8 * k) a ^^^ b)), .int .i64 0]) (by simp [results, Tryd.results13, go_sem, hx, hp]) rfl ⟨rfl, rfl⟩
end Go.Proofs.YtdmogkajpginmaaDoor
