/-
  Part 1 of the proof: 17 texts, one behind the other.
-/
import Derived.WalkKit
import Derived.WalkSpells
import Derived.WalkLawsBesides
import Derived.Lib.BitFns
import Derived.Test.YtbamogpbjdobkaaDoorRows
import Derived.Deep.RegionHeld3
import Derived.Laws.AppendOwnNone
import Derived.Deep.LoopGhost
import Derived.Defers
import Derived.Recover
import Derived.Deep.QuietTactic
import Derived.BigQuiet
namespace Go.Proofs.YtbamogpbjdobkaaDoor
open Go.RowKit
set_option linter.unusedSimpArgs false
set_option linter.unusedVariables false

def cM : BitVec 32 := 0x82F63B78#32
def hb (x : BitVec 32) : BitVec 32 := (x >>> 1) ^^^ (if x.getLsbD 0 then cM else 0#32)
def hbN : Nat → BitVec 32 → BitVec 32
  | 0, x => x
  | n + 1, x => hbN n (hb x)
theorem x4 (a b c d : BitVec 32) : (a ^^^ b) ^^^ (c ^^^ d) = (a ^^^ c) ^^^ (b ^^^ d) := by
  rw [BitVec.xor_assoc, BitVec.xor_assoc, ← BitVec.xor_assoc b c d, BitVec.xor_comm b c, BitVec.xor_assoc c b d]
theorem hb_xor (x y : BitVec 32) : hb (x ^^^ y) = hb x ^^^ hb y := by
  unfold hb
  rw [BitVec.ushiftRight_xor_distrib, BitVec.getLsbD_xor, x4]
  congr 1
  cases x.getLsbD 0 <;> cases y.getLsbD 0 <;> simp
theorem hbN_xor (n : Nat) : ∀ x y, hbN n (x ^^^ y) = hbN n x ^^^ hbN n y := by
  induction n with
  | zero => intro x y; rfl
  | succ n ih => intro x y; simp only [hbN]; rw [hb_xor, ih]
theorem hbN_add (m n : Nat) : ∀ x, hbN (m + n) x = hbN n (hbN m x) := by
  induction m with
  | zero => intro x; simp [hbN]
  | succ m ih => intro x; rw [Nat.succ_add]; simp only [hbN]; rw [ih]
def cT : Nat → BitVec 32
  | 0 => 0x00000000#32 | 1 => 0x105ec76f#32 | 2 => 0x20bd8ede#32 | 3 => 0x30e349b1#32 | 4 => 0x417b1dbc#32 | 5 => 0x5125dad3#32 | 6 => 0x61c69362#32 | 7 => 0x7198540d#32
  | 8 => 0x82f63b78#32 | 9 => 0x92a8fc17#32 | 10 => 0xa24bb5a6#32 | 11 => 0xb21572c9#32 | 12 => 0xc38d26c4#32 | 13 => 0xd3d3e1ab#32 | 14 => 0xe330a81a#32 | 15 => 0xf36e6f75#32
  | _ => 0#32
theorem cT_eq : ∀ k : Fin 16, hbN 4 (BitVec.ofNat 32 k.val) = cT k.val := by decide +kernel
theorem hb_even (x : BitVec 32) (h : x.getLsbD 0 = false) : hb x = x >>> 1 := by unfold hb; rw [h]; simp
theorem hb_hi (x : BitVec 32) (h : ∀ i, i < 4 → x.getLsbD i = false) : hbN 4 x = x >>> 4 := by
  simp only [hbN]
  have e1 : hb x = x >>> 1 := hb_even x (h 0 (by omega))
  have e2 : hb (x >>> 1) = x >>> 2 := by
    rw [hb_even _ (by rw [BitVec.getLsbD_ushiftRight]; exact h 1 (by omega)), ← BitVec.shiftRight_add]
  have e3 : hb (x >>> 2) = x >>> 3 := by
    rw [hb_even _ (by rw [BitVec.getLsbD_ushiftRight]; exact h 2 (by omega)), ← BitVec.shiftRight_add]
  have e4 : hb (x >>> 3) = x >>> 4 := by
    rw [hb_even _ (by rw [BitVec.getLsbD_ushiftRight]; exact h 3 (by omega)), ← BitVec.shiftRight_add]
  rw [e1, e2, e3, e4]
theorem and15 (x : BitVec 32) : x &&& 15#32 = BitVec.ofNat 32 (x.toNat % 16) := by
  apply BitVec.eq_of_toNat_eq
  rw [BitVec.toNat_and, BitVec.toNat_ofNat, BitVec.toNat_ofNat]
  have h : x.toNat &&& 15 = x.toNat % 16 := Nat.and_two_pow_sub_one_eq_mod x.toNat 4
  have e : 15 % 2 ^ 32 = 15 := by decide
  rw [e, h]
  omega
theorem hb_four (x : BitVec 32) : hbN 4 x = (x >>> 4) ^^^ cT (x.toNat % 16) := by
  have hs : x = (x &&& ~~~15#32) ^^^ (x &&& 15#32) := by
    apply BitVec.eq_of_getLsbD_eq
    intro i hi
    simp only [BitVec.getLsbD_xor, BitVec.getLsbD_and, BitVec.getLsbD_not, hi, decide_true, Bool.true_and]
    cases x.getLsbD i <;> cases (15#32).getLsbD i <;> rfl
  have h1 : hbN 4 (x &&& ~~~15#32) = (x &&& ~~~15#32) >>> 4 := by
    apply hb_hi
    intro i hi
    rw [BitVec.getLsbD_and, BitVec.getLsbD_not]
    have : i = 0 ∨ i = 1 ∨ i = 2 ∨ i = 3 := by omega
    rcases this with rfl | rfl | rfl | rfl <;> simp
  have h2 : (x &&& ~~~15#32) >>> 4 = x >>> 4 := by
    apply BitVec.eq_of_getLsbD_eq
    intro i hi
    rw [BitVec.getLsbD_ushiftRight, BitVec.getLsbD_ushiftRight, BitVec.getLsbD_and, BitVec.getLsbD_not]
    by_cases c : 4 + i < 32
    · have h15 : (15#32).getLsbD (4 + i) = false := by
        rw [BitVec.getLsbD_ofNat]
        have : (15 : Nat).testBit (4 + i) = false := Nat.testBit_lt_two_pow (Nat.lt_of_lt_of_le (by decide : 15 < 2 ^ 4) (Nat.pow_le_pow_right (by decide) (by omega)))
        rw [this]; simp
      rw [h15]; simp [c]
    · rw [BitVec.getLsbD_of_ge x _ (by omega)]; simp
  have h3 : hbN 4 (x &&& 15#32) = cT (x.toNat % 16) := by
    rw [and15]; exact cT_eq ⟨x.toNat % 16, by omega⟩
  calc hbN 4 x = hbN 4 ((x &&& ~~~15#32) ^^^ (x &&& 15#32)) := by rw [← hs]
    _ = _ := by rw [hbN_xor, h1, h2, h3]

def stp (c : BitVec 32) (b : Nat) : BitVec 32 := hbN 8 (c ^^^ BitVec.ofNat 32 b)
def crF (c : BitVec 32) (l : List Nat) : BitVec 32 := l.foldl stp c
def crS (l : List Nat) : BitVec 32 := ~~~ crF (BitVec.allOnes 32) l
theorem crF_nil (c : BitVec 32) : crF c [] = c := rfl
theorem crF_cons (c : BitVec 32) (b : Nat) (l : List Nat) : crF c (b :: l) = crF (stp c b) l := rfl
theorem crF_app (c : BitVec 32) (l m : List Nat) : crF c (l ++ m) = crF (crF c l) m := by unfold crF; exact List.foldl_append
theorem not_xor (x : BitVec 32) : ~~~ x = BitVec.allOnes 32 ^^^ x := by
  apply BitVec.eq_of_getLsbD_eq
  intro i hi
  rw [BitVec.getLsbD_not, BitVec.getLsbD_xor, BitVec.getLsbD_allOnes]
  simp only [hi, decide_true, Bool.true_and, Bool.true_xor]
def tp (k : Nat) : BitVec 32 := BitVec.twoPow 32 k
def cOne : BitVec 32 := 0x80000000#32
end Go.Proofs.YtbamogpbjdobkaaDoor
namespace Go.Proofs.YtbamogpbjdobkaaDoor
open Go.RowKit
set_option linter.unusedSimpArgs false
set_option linter.unusedVariables false

def setP (U : List (BitVec 32)) (k : Nat) : List (BitVec 32) := U.set (k / 32) (U.getD (k / 32) 0#32 ||| (cOne >>> (k % 32)))
theorem setP_len (U : List (BitVec 32)) (k : Nat) : (setP U k).length = U.length := by unfold setP; simp
section
variable {α : Type} [DecidableEq α]
def flg (l : List α) (k : Nat) : Bool := decide (k = 0) || decide (l[k]? ≠ l[k - 1]?)
def fdU (l : List α) : Nat → List (BitVec 32)
  | 0 => List.replicate ((l.length + 31) / 32) 0#32
  | k + 1 => if flg l k then setP (fdU l k) k else fdU l k
def fdR (l : List α) : Nat → List α
  | 0 => []
  | k + 1 => if flg l k then fdR l k ++ l[k]?.toList else fdR l k
theorem fdU_len (l : List α) : ∀ k, (fdU l k).length = (l.length + 31) / 32
  | 0 => by simp [fdU]
  | k + 1 => by
    simp only [fdU]
    split
    · rw [setP_len, fdU_len l k]
    · exact fdU_len l k
theorem fdR_len (l : List α) : ∀ k, (fdR l k).length ≤ k
  | 0 => by simp [fdR]
  | k + 1 => by
    have := fdR_len l k
    simp only [fdR]
    split
    · rw [List.length_append]
      cases l[k]? <;> simp <;> omega
    · omega
theorem fd_yes (l : List α) (k : Nat) (x : α) (hx : l[k]? = some x) (h : flg l k = true) : fdU l (k + 1) = setP (fdU l k) k ∧ fdR l (k + 1) = fdR l k ++ [x] := by
  constructor
  · simp only [fdU, h, if_true]
  · simp only [fdR, h, if_true, hx, Option.toList_some]
theorem fd_no (l : List α) (k : Nat) (h : flg l k = false) : fdU l (k + 1) = fdU l k ∧ fdR l (k + 1) = fdR l k := by
  constructor
  · simp only [fdU, h, Bool.false_eq_true, if_false]
  · simp only [fdR, h, Bool.false_eq_true, if_false]
theorem flg_zero (l : List α) : flg l 0 = true := by simp [flg]
theorem flg_succ (l : List α) (j : Nat) (x y : α) (hx : l[j + 1]? = some x) (hy : l[j]? = some y) : flg l (j + 1) = decide (x ≠ y) := by
  unfold flg
  rw [Nat.add_sub_cancel, hx, hy]
  simp
end
end Go.Proofs.YtbamogpbjdobkaaDoor
namespace Go.Proofs.YtbamogpbjdobkaaDoor
open Go.RowKit
set_option linter.unusedSimpArgs false
set_option linter.unusedVariables false

def bsN : Nat → Nat → Nat
  | 0, _ => 0
  | k + 1, x => x % 2 + bsN k (x / 2)
theorem bsN_pop : ∀ k x, Lib.popAux k x = bsN k x
  | 0, _ => rfl
  | k + 1, x => by simp only [Lib.popAux, bsN]; rw [bsN_pop k]
theorem bsN_zero : ∀ k, bsN k 0 = 0
  | 0 => rfl
  | k + 1 => by simp only [bsN, Nat.zero_mod, Nat.zero_div]; rw [bsN_zero k]
theorem bsN_add : ∀ m k x, bsN (m + k) x = bsN m x + bsN k (x / 2 ^ m)
  | 0, k, x => by simp [bsN]
  | m + 1, k, x => by
    rw [Nat.succ_add]
    simp only [bsN]
    rw [bsN_add m k (x / 2), Nat.div_div_eq_div_mul, Nat.pow_succ, Nat.mul_comm 2]
    omega
theorem bsN_mod : ∀ k x, bsN k (x % 2 ^ k) = bsN k x
  | 0, x => rfl
  | k + 1, x => by
    simp only [bsN]
    have h1 : x % 2 ^ (k + 1) % 2 = x % 2 := by rw [Nat.pow_succ, Nat.mod_mul_left_mod]
    have h2 : x % 2 ^ (k + 1) / 2 = x / 2 % 2 ^ k := by rw [Nat.pow_succ, Nat.mul_comm, Nat.mod_mul_right_div_self]
    rw [h1, h2, bsN_mod k]
theorem bsN_le : ∀ k x, bsN k x ≤ k
  | 0, _ => Nat.le_refl _
  | k + 1, x => by have := bsN_le k (x / 2); simp only [bsN]; omega
theorem bsN_small (m k x : Nat) (h : x < 2 ^ m) : bsN (m + k) x = bsN m x := by
  rw [bsN_add, Nat.div_eq_of_lt h, bsN_zero]; omega
theorem ones8 (b : Nat) (h : b < 256) : Lib.onesCount b = bsN 8 b := by
  unfold Lib.onesCount
  rw [bsN_pop]
  exact bsN_small 8 56 b h
theorem bs32 (x : Nat) (h : x < 4294967296) : bsN 32 x = bsN 8 (x / 16777216) + bsN 8 (x / 65536 % 256) + bsN 8 (x / 256 % 256) + bsN 8 (x % 256) := by
  have e1 := bsN_add 8 24 x
  have e2 := bsN_add 8 16 (x / 2 ^ 8)
  have e3 := bsN_add 8 8 (x / 2 ^ 8 / 2 ^ 8)
  have m1 := bsN_mod 8 x
  have m2 := bsN_mod 8 (x / 2 ^ 8)
  have m3 := bsN_mod 8 (x / 2 ^ 8 / 2 ^ 8)
  have p : (2 : Nat) ^ 8 = 256 := by decide
  rw [p] at e1 e2 e3 m1 m2 m3
  have d1 : x / 256 / 256 = x / 65536 := by omega
  have d2 : x / 65536 / 256 = x / 16777216 := by omega
  rw [d1] at e2 e3 m3
  rw [d2] at e3
  show bsN (8 + 24) x = _
  rw [e1]
  show _ + bsN (8 + 16) _ = _
  rw [e2]
  show _ + (_ + bsN (8 + 8) _) = _
  rw [e3]
  omega
def on32 (x : BitVec 32) : Nat := bsN 32 x.toNat
def fr32 (x : BitVec 32) (k : Nat) : Nat := bsN k (x.toNat / 2 ^ (32 - k))
def bt (x : BitVec 32) (p : Nat) : Bool := x.getLsbD (31 - p)
theorem fr_zero (x : BitVec 32) : fr32 x 0 = 0 := rfl
theorem fr_all (x : BitVec 32) : fr32 x 32 = on32 x := by unfold fr32 on32; simp
theorem bit_val (x : BitVec 32) (i : Nat) : x.toNat / 2 ^ i % 2 = (x.getLsbD i).toNat := by
  have : x.getLsbD i = decide (x.toNat / 2 ^ i % 2 = 1) := by
    unfold BitVec.getLsbD; rw [Nat.testBit_eq_decide_div_mod_eq]
  rw [this]
  by_cases c : x.toNat / 2 ^ i % 2 = 1
  · simp [c]
  · simp [c]; omega
theorem fr_succ (x : BitVec 32) (k : Nat) (h : k < 32) : fr32 x (k + 1) = fr32 x k + (bt x k).toNat := by
  unfold fr32 bt
  rw [show 32 - (k + 1) = 31 - k by omega]
  simp only [bsN]
  rw [bit_val, Nat.div_div_eq_div_mul, ← Nat.pow_succ, show (31 - k).succ = 32 - k by omega]
  omega
theorem on_shr (x : BitVec 32) (r : Nat) (h : r < 32) : on32 (x >>> (31 - r)) = fr32 x (r + 1) := by
  unfold on32 fr32
  rw [BitVec.toNat_ushiftRight, Nat.shiftRight_eq_div_pow, show 32 - (r + 1) = 31 - r by omega]
  have hlt : x.toNat / 2 ^ (31 - r) < 2 ^ (r + 1) := by
    rw [Nat.div_lt_iff_lt_mul (Nat.two_pow_pos _), ← Nat.pow_add, show r + 1 + (31 - r) = 32 by omega]
    exact x.isLt
  have := bsN_small (r + 1) (31 - r) _ hlt
  rw [show r + 1 + (31 - r) = 32 by omega] at this
  exact this
def plc (U : List (BitVec 32)) (p : Nat) : Bool := bt (U.getD (p / 32) 0#32) (p % 32)
def cnt (U : List (BitVec 32)) : Nat → Nat
  | 0 => 0
  | k + 1 => cnt U k + (plc U k).toNat
def sumW (U : List (BitVec 32)) : Nat → Nat
  | 0 => 0
  | a + 1 => sumW U a + on32 (U.getD a 0#32)
theorem cnt_word (U : List (BitVec 32)) (a : Nat) : ∀ r, r ≤ 32 → cnt U (32 * a + r) = cnt U (32 * a) + fr32 (U.getD a 0#32) r
  | 0, _ => by simp [fr_zero]
  | r + 1, h => by
    rw [← Nat.add_assoc]
    simp only [cnt]
    rw [cnt_word U a r (by omega), fr_succ _ r (by omega)]
    unfold plc
    rw [show (32 * a + r) / 32 = a by omega, show (32 * a + r) % 32 = r by omega]
    omega
theorem cnt_words (U : List (BitVec 32)) : ∀ a, cnt U (32 * a) = sumW U a
  | 0 => rfl
  | a + 1 => by
    rw [show 32 * (a + 1) = 32 * a + 32 by omega, cnt_word U a 32 (Nat.le_refl _), cnt_words U a, fr_all]
    rfl
theorem cnt_at (U : List (BitVec 32)) (a r : Nat) (h : r ≤ 32) : cnt U (32 * a + r) = sumW U a + fr32 (U.getD a 0#32) r := by
  rw [cnt_word U a r h, cnt_words]
theorem cnt_mono (U : List (BitVec 32)) : ∀ p q, p ≤ q → cnt U p ≤ cnt U q := by
  intro p q h
  induction q with
  | zero => have : p = 0 := by omega
            subst this; exact Nat.le_refl _
  | succ q ih =>
    by_cases c : p = q + 1
    · subst c; exact Nat.le_refl _
    · have := ih (by omega); simp only [cnt]; omega
theorem cnt_le (U : List (BitVec 32)) : ∀ k, cnt U k ≤ k
  | 0 => Nat.le_refl _
  | k + 1 => by
    have := cnt_le U k
    simp only [cnt]
    cases plc U k <;> simp <;> omega
end Go.Proofs.YtbamogpbjdobkaaDoor
namespace Go.Proofs.YtbamogpbjdobkaaDoor
open Go.RowKit
set_option linter.unusedSimpArgs false
set_option linter.unusedVariables false

def MapQ (U : List (BitVec 32)) (n : Nat) : Prop := U.length = (n + 31) / 32 ∧ (n = 0 ∨ plc U 0 = true) ∧ ∀ p, n ≤ p → p < 32 * U.length → plc U p = false
theorem shl_none (x : BitVec 32) (u : Nat) : x <<< u = 0#32 ↔ ∀ r, u ≤ r → r < 32 → bt x r = false := by
  constructor
  · intro h r h1 h2
    have this : (x <<< u).getLsbD (31 - r + u) = (0#32).getLsbD (31 - r + u) := by rw [h]
    rw [BitVec.getLsbD_shiftLeft] at this
    have c1 : 31 - r + u < 32 := by omega
    have c2 : ¬ 31 - r + u < u := by omega
    rw [decide_eq_true c1, decide_eq_false c2, show 31 - r + u - u = 31 - r by omega] at this
    unfold bt
    simpa using this
  · intro h
    apply BitVec.eq_of_getLsbD_eq
    intro i hi
    rw [BitVec.getLsbD_shiftLeft]
    by_cases c : i < u
    · simp [c]
    · have e := h (31 - (i - u)) (by omega) (by omega)
      unfold bt at e
      rw [show 31 - (31 - (i - u)) = i - u by omega] at e
      rw [e]; simp
theorem mapQ_last (U : List (BitVec 32)) (n : Nat) (h : U.length = (n + 31) / 32) (hn : 0 < n) : (∀ p, n ≤ p → p < 32 * U.length → plc U p = false) ↔ (n % 32 = 0 ∨ (U.getD (U.length - 1) 0#32) <<< (n % 32) = 0#32) := by
  by_cases c : n % 32 = 0
  · refine ⟨fun _ => .inl c, fun _ p h1 h2 => ?_⟩
    omega
  · rw [or_iff_right c, shl_none]
    constructor
    · intro hp r h1 h2
      have := hp (32 * (U.length - 1) + r) (by omega) (by omega)
      unfold plc at this
      rw [show (32 * (U.length - 1) + r) / 32 = U.length - 1 by omega, show (32 * (U.length - 1) + r) % 32 = r by omega] at this
      exact this
    · intro hr p h1 h2
      have := hr (p % 32) (by omega) (by omega)
      unfold plc
      rw [show p / 32 = U.length - 1 by omega]
      exact this
section
variable {α : Type}
def NoTw (L : List α) : Prop := ∀ i x y, L[i]? = some x → L[i + 1]? = some y → x ≠ y
def UnQ (U : List (BitVec 32)) (n : Int) (L : List α) : Prop := 0 ≤ n ∧ MapQ U n.toNat ∧ sumW U U.length = L.length ∧ NoTw L
def unR (U : List (BitVec 32)) (L : List α) (n : Nat) : List α := (List.range n).filterMap fun i => L[cnt U (i + 1) - 1]?
theorem un_at {U : List (BitVec 32)} {n : Int} {L : List α} (h : UnQ U n L) (i : Nat) (hi : i < n.toNat) : 0 < cnt U (i + 1) ∧ cnt U (i + 1) ≤ L.length := by
  obtain ⟨-, ⟨h1, h2, h3⟩, h4, -⟩ := h
  have h0 : plc U 0 = true := by
    rcases h2 with h2 | h2
    · omega
    · exact h2
  have a1 := cnt_mono U 1 (i + 1) (by omega)
  have a2 := cnt_mono U (i + 1) (32 * U.length) (by omega)
  simp only [cnt, h0, Bool.toNat_true] at a1
  rw [cnt_words] at a2
  exact ⟨by have : cnt U (i + 1) = cnt U i + (plc U i).toNat := rfl
            omega, by omega⟩
theorem unR_succ (U : List (BitVec 32)) (L : List α) (k : Nat) : unR U L (k + 1) = unR U L k ++ L[cnt U (k + 1) - 1]?.toList := by
  unfold unR
  rw [List.range_succ, List.filterMap_append]
  cases h : L[cnt U (k + 1) - 1]? <;> simp [h]
theorem unR_len {U : List (BitVec 32)} {n : Int} {L : List α} (h : UnQ U n L) : ∀ k, k ≤ n.toNat → (unR U L k).length = k
  | 0, _ => rfl
  | k + 1, hk => by
    rw [unR_succ, List.length_append, unR_len h k (by omega)]
    obtain ⟨a, b⟩ := un_at h k (by omega)
    rw [List.getElem?_eq_getElem (by omega)]
    rfl
theorem unR_get {U : List (BitVec 32)} {n : Int} {L : List α} (h : UnQ U n L) (k : Nat) (hk : k < n.toNat) : (unR U L n.toNat)[k]? = L[cnt U (k + 1) - 1]? := by
  have key : ∀ m, k < m → m ≤ n.toNat → (unR U L m)[k]? = L[cnt U (k + 1) - 1]? := by
    intro m
    induction m with
    | zero => intro h1; omega
    | succ m ih =>
      intro h1 h2
      rw [unR_succ]
      by_cases c : k < m
      · rw [List.getElem?_append_left (by rw [unR_len h m (by omega)]; exact c)]
        exact ih c (by omega)
      · obtain rfl : k = m := by omega
        rw [List.getElem?_append_right (by rw [unR_len h k (by omega)]; exact Nat.le_refl _), unR_len h k (by omega), Nat.sub_self]
        obtain ⟨a, b⟩ := un_at h k (by omega)
        have hb : cnt U (k + 1) - 1 < L.length := by omega
        rw [List.getElem?_eq_getElem hb]
        rfl
  exact key n.toNat hk (Nat.le_refl _)
end
end Go.Proofs.YtbamogpbjdobkaaDoor
namespace Go.Proofs.YtbamogpbjdobkaaDoor
open Go.RowKit
set_option linter.unusedSimpArgs false
set_option linter.unusedVariables false

theorem one_bit (r s : Nat) (hr : r < 32) (hs : s < 32) : bt (cOne >>> r) s = decide (s = r) := by
  have : ∀ r s : Fin 32, bt (cOne >>> r.val) s.val = decide (s.val = r.val) := by decide +kernel
  exact this ⟨r, hr⟩ ⟨s, hs⟩
theorem plc_set (U : List (BitVec 32)) (k p : Nat) (hk : k < 32 * U.length) : plc (setP U k) p = (decide (p = k) || plc U p) := by
  unfold plc setP
  by_cases c : p / 32 = k / 32
  · rw [c, List.getD_eq_getElem?_getD, List.getElem?_set_self (by omega), Option.getD_some]
    have e : bt (U.getD (k / 32) 0#32 ||| cOne >>> (k % 32)) (p % 32) = (bt (U.getD (k / 32) 0#32) (p % 32) || bt (cOne >>> (k % 32)) (p % 32)) := by
      unfold bt; rw [BitVec.getLsbD_or]
    rw [e, one_bit _ _ (by omega) (by omega), Bool.or_comm]
    congr 1
    by_cases q : p = k
    · simp [q]
    · have : p % 32 ≠ k % 32 := by omega
      simp [q, this]
  · have q : p ≠ k := by intro q; rw [q] at c; exact c rfl
    rw [List.getD_eq_getElem?_getD, List.getElem?_set_ne (fun e => c e.symm), ← List.getD_eq_getElem?_getD]
    simp [q]
theorem plc_zero (n p : Nat) : plc (List.replicate n 0#32) p = false := by
  unfold plc bt
  rw [List.getD_eq_getElem?_getD, List.getElem?_replicate]
  split <;> simp
section
variable {α : Type} [DecidableEq α]
theorem plc_fd (l : List α) : ∀ k, k ≤ l.length → ∀ p, plc (fdU l k) p = (decide (p < k) && flg l p)
  | 0, _, p => by simp only [fdU]; rw [plc_zero]; simp
  | k + 1, hk, p => by
    have ih := plc_fd l k (by omega) p
    simp only [fdU]
    by_cases h : flg l k = true
    · rw [if_pos h, plc_set _ _ _ (by rw [fdU_len]; omega), ih]
      by_cases q : p = k
      · subst q; simp [h]
      · have : (p < k + 1) ↔ p < k := by omega
        simp [q, this]
    · rw [if_neg h, ih]
      by_cases q : p = k
      · subst q; simp [h]
      · have : (p < k + 1) ↔ p < k := by omega
        simp [this]
end
theorem cnt_flat (U : List (BitVec 32)) (a : Nat) : ∀ d, (∀ p, a ≤ p → p < a + d → plc U p = false) → cnt U (a + d) = cnt U a
  | 0, _ => rfl
  | d + 1, h => by
    have ih := cnt_flat U a d (fun p h1 h2 => h p h1 (by omega))
    have : cnt U (a + (d + 1)) = cnt U (a + d) + (plc U (a + d)).toNat := rfl
    rw [this, ih, h (a + d) (by omega) (by omega)]
    rfl
section
variable {α : Type} [DecidableEq α]
omit [DecidableEq α] in
end
end Go.Proofs.YtbamogpbjdobkaaDoor
namespace Go.Proofs.YtbamogpbjdobkaaDoor
open Go.RowKit
set_option linter.unusedSimpArgs false
set_option linter.unusedVariables false

section
variable {α : Type} [DecidableEq α]
theorem fdR_cnt (l : List α) : ∀ k, k ≤ l.length → (fdR l k).length = cnt (fdU l l.length) k
  | 0, _ => rfl
  | k + 1, hk => by
    have ih := fdR_cnt l k (by omega)
    have e : cnt (fdU l l.length) (k + 1) = cnt (fdU l l.length) k + (plc (fdU l l.length) k).toNat := rfl
    have hp : plc (fdU l l.length) k = flg l k := by rw [plc_fd l l.length (Nat.le_refl _)]; simp; omega
    rw [e, hp, ← ih]
    by_cases h : flg l k = true
    · rw [(fd_yes l k (l[k]'(by omega)) (List.getElem?_eq_getElem _) h).2, h, List.length_append]; rfl
    · have h' : flg l k = false := by simpa using h
      rw [(fd_no l k h').2, h']; rfl
theorem flg_no {l : List α} {k : Nat} (h : flg l k = false) : k ≠ 0 ∧ l[k]? = l[k - 1]? := by
  unfold flg at h
  simp at h
  exact ⟨h.1, h.2⟩
theorem flg_yes {l : List α} {k : Nat} (h : flg l k = true) (hk : k ≠ 0) : l[k]? ≠ l[k - 1]? := by
  unfold flg at h
  simp at h
  rcases h with h | h
  · exact absurd h hk
  · exact h
theorem fdR_last (l : List α) : ∀ k, k < l.length → (fdR l (k + 1)).getLast? = l[k]?
  | 0, hk => by
    rw [(fd_yes l 0 (l[0]'hk) (List.getElem?_eq_getElem _) (flg_zero l)).2, List.getElem?_eq_getElem hk]
    simp
  | k + 1, hk => by
    by_cases h : flg l (k + 1) = true
    · rw [(fd_yes l (k + 1) (l[k + 1]'hk) (List.getElem?_eq_getElem _) h).2, List.getElem?_eq_getElem hk]
      simp
    · have h' : flg l (k + 1) = false := by simpa using h
      rw [(fd_no l (k + 1) h').2, fdR_last l k (by omega), (flg_no h').2, Nat.add_sub_cancel]
theorem fdR_pre (l : List α) (k : Nat) : ∀ m, k ≤ m → fdR l k <+: fdR l m := by
  intro m hm
  obtain ⟨d, rfl⟩ := Nat.exists_eq_add_of_le hm
  clear hm
  induction d with
  | zero => exact List.prefix_rfl
  | succ d ih =>
    refine ih.trans ?_
    rw [← Nat.add_assoc]
    show fdR l (k + d) <+: (if flg l (k + d) then fdR l (k + d) ++ l[k + d]?.toList else fdR l (k + d))
    split
    · exact List.prefix_append _ _
    · exact List.prefix_rfl
theorem fdR_tw (l : List α) : ∀ k, k ≤ l.length → NoTw (fdR l k)
  | 0, _ => by intro i x y hx; simp [fdR] at hx
  | k + 1, hk => by
    have ih := fdR_tw l k (by omega)
    by_cases h : flg l k = true
    · rw [(fd_yes l k (l[k]'(by omega)) (List.getElem?_eq_getElem _) h).2]
      intro i x y hx hy e
      by_cases q : i + 1 < (fdR l k).length
      · rw [List.getElem?_append_left (by omega)] at hx hy
        exact ih i x y hx hy e
      · have hl := (List.getElem?_eq_some_iff.1 hy).1
        rw [List.length_append] at hl
        have hi : i + 1 = (fdR l k).length := by simp at hl; omega
        rw [hi, List.getElem?_append_right (Nat.le_refl _), Nat.sub_self] at hy
        simp at hy
        rw [List.getElem?_append_left (by omega)] at hx
        have hk0 : k ≠ 0 := by intro q0; subst q0; simp [fdR] at hi
        have hlast := fdR_last l (k - 1) (by omega)
        rw [Nat.sub_add_cancel (by omega), List.getLast?_eq_getElem?, ← hi, Nat.add_sub_cancel, hx] at hlast
        have := flg_yes h hk0
        rw [← hlast, List.getElem?_eq_getElem (by omega), hy, e] at this
        exact this rfl
    · have h' : flg l k = false := by simpa using h
      rw [(fd_no l k h').2]; exact ih
theorem fd_unq (l : List α) : UnQ (fdU l l.length) (l.length : Int) (fdR l l.length) := by
  have hU := fdU_len l l.length
  have hbeh : ∀ p, l.length ≤ p → plc (fdU l l.length) p = false := fun p hp => by rw [plc_fd l l.length (Nat.le_refl _)]; simp; omega
  refine ⟨by omega, ⟨by rw [hU, Int.toNat_natCast], ?_, fun p hp _ => hbeh p (by rw [Int.toNat_natCast] at hp; exact hp)⟩, ?_, fdR_tw l _ (Nat.le_refl _)⟩
  · by_cases h0 : l.length = 0
    · left; rw [Int.toNat_natCast]; exact h0
    · right; rw [plc_fd l l.length (Nat.le_refl _), flg_zero]; simp; omega
  · have := cnt_flat (fdU l l.length) l.length (32 * (fdU l l.length).length - l.length) (fun p a _ => hbeh p a)
    rw [show l.length + (32 * (fdU l l.length).length - l.length) = 32 * (fdU l l.length).length by omega, cnt_words] at this
    rw [this, fdR_cnt l _ (Nat.le_refl _)]
theorem fd_at (l : List α) (i : Nat) (hi : i < l.length) : (fdR l l.length)[cnt (fdU l l.length) (i + 1) - 1]? = l[i]? := by
  have h1 := fdR_last l i hi
  rw [List.getLast?_eq_getElem?, fdR_cnt l (i + 1) (by omega)] at h1
  obtain ⟨t, ht⟩ := fdR_pre l (i + 1) l.length (by omega)
  rw [← ht, List.getElem?_append_left]
  · exact h1
  · have := fdR_cnt l (i + 1) (by omega)
    have hz : 0 < (fdR l (i + 1)).length := by
      rw [List.getElem?_eq_getElem hi] at h1
      have := (List.getElem?_eq_some_iff.1 h1).1
      omega
    omega
theorem fd_un (l : List α) : unR (fdU l l.length) (fdR l l.length) l.length = l := by
  have hq := fd_unq l
  have hl := unR_len hq l.length (by rw [Int.toNat_natCast]; exact Nat.le_refl _)
  apply List.ext_getElem?
  intro i
  by_cases hi : i < l.length
  · have := unR_get hq i (by rw [Int.toNat_natCast]; exact hi)
    rw [Int.toNat_natCast] at this
    rw [this, fd_at l i hi]
  · rw [List.getElem?_eq_none (by omega), List.getElem?_eq_none (by omega)]
end
end Go.Proofs.YtbamogpbjdobkaaDoor
namespace Go.Proofs.YtbamogpbjdobkaaDoor
open Go.RowKit
set_option linter.unusedSimpArgs false
set_option linter.unusedVariables false

def hv (x : BitVec 128) : BitVec 64 := x.extractLsb' 64 64
def lv (x : BitVec 128) : BitVec 64 := x.extractLsb' 0 64
end Go.Proofs.YtbamogpbjdobkaaDoor
namespace Go.Proofs.YtbamogpbjdobkaaDoor
open Go.RowKit
set_option linter.unusedSimpArgs false
set_option linter.unusedVariables false

theorem bl1 (w : World) (o : Obj) : Below w.heap.size w (w.alloc o) := (Below.refl _ _).alloc (Nat.le_refl _) _
end Go.Proofs.YtbamogpbjdobkaaDoor
namespace Go.Proofs.YtbamogpbjdobkaaDoor
open Go.RowKit
set_option linter.unusedSimpArgs false
set_option linter.unusedVariables false

end Go.Proofs.YtbamogpbjdobkaaDoor
namespace Go.Proofs.YtbamogpbjdobkaaDoor
open Go.RowKit
set_option linter.unusedSimpArgs false
set_option linter.unusedVariables false

theorem bcell {W w1 : World} (hb : Below W.heap.size W w1) : (∀ b o, b < W.heap.size → w1.cell? ⟨b, o, none⟩ = W.cell? ⟨b, o, none⟩) ∧ (∀ b o, b < W.heap.size → w1.frozen? ⟨b, o, none⟩ = W.frozen? ⟨b, o, none⟩) :=
  ⟨fun b o h => hb.cell (p := ⟨b, o, none⟩) h, fun b o h => hb.frozen (p := ⟨b, o, none⟩) h⟩

end Go.Proofs.YtbamogpbjdobkaaDoor
namespace Go.Proofs.YtbamogpbjdobkaaDoor
open Go.RowKit
set_option linter.unusedSimpArgs false
set_option linter.unusedVariables false

theorem cell_in {W : World} {b o : Nat} {v : Value} (h : W.cell? ⟨b, o, none⟩ = some v) : b < W.heap.size := by
  apply Classical.byContradiction; intro hn
  have : W.heap[b]? = none := by simp; omega
  simp [World.cell?, this] at h
theorem keepc {W w' : World} (hb : Below W.heap.size W w') {b o : Nat} {v : Value} (h : W.cell? ⟨b, o, none⟩ = some v) : w'.cell? ⟨b, o, none⟩ = some v := by
  rw [(bcell hb).1 b o (cell_in h)]; exact h
theorem keepf {W w' : World} (hb : Below W.heap.size W w') {b o : Nat} {v : Value} (h : W.cell? ⟨b, o, none⟩ = some v) (hf : W.frozen? ⟨b, o, none⟩ = false) : w'.frozen? ⟨b, o, none⟩ = false := by
  rw [(bcell hb).2 b o (cell_in h)]; exact hf
theorem keepb {w W w' : World} (hb : Below W.heap.size W w') (h : Below w.heap.size w W) : Below w.heap.size w w' := h.trans (hb.mono h.size)

def cv (w : World) (b o : Nat) : Value := (w.cell? ⟨b, o, none⟩).getD (.bool false)
end Go.Proofs.YtbamogpbjdobkaaDoor
namespace Go.Proofs.YtbamogpbjdobkaaDoor
open Go.RowKit
set_option linter.unusedSimpArgs false
set_option linter.unusedVariables false

def Row (w : World) (size : Nat) (v : Value) (n : Nat) (xs : List Value) : Prop :=
  xs.length = n * size ∧ ∃ ao c, v = .slice ao n c ∧ n ≤ c ∧ ((ao = none ∧ c = 0 ∧ n = 0) ∨ ∃ b off, ao = some ⟨b, off, none⟩ ∧ ∀ j u, xs[j]? = some u → w.cell? ⟨b, off + j, none⟩ = some u)
theorem addA (g o j : Nat) : (⟨g, o, none⟩ : Addr).add j = ⟨g, o + j, none⟩ := by unfold Addr.add; split <;> simp_all
theorem own_row {w : World} {base e size n : Nat} {v : Value} {xs : List Value} (h : w.ownsRow base e size v n xs) : Row w size v n xs := by
  refine ⟨h.1, ?_⟩
  rcases h.2 with ⟨e0, e1⟩ | ⟨g, cap, cur, e0, hb, hg, hnc, hm, hs, ht⟩
  · subst e1
    exact ⟨none, 0, e0, Nat.le_refl _, .inl ⟨rfl, rfl, rfl⟩⟩
  · refine ⟨some ⟨g, 0, none⟩, cap, e0, hnc, .inr ⟨g, 0, rfl, ?_⟩⟩
    intro j u hj
    have f := h.cells (g := g) (by rw [e0]; rfl) j u hj
    rw [addA, Nat.zero_add] at f
    rw [Nat.zero_add]
    exact f
theorem own_form {w : World} {base e size n : Nat} {v : Value} {xs : List Value} (h : w.ownsRow base e size v n xs) : ∃ ao c, v = .slice ao n c := by
  rcases h.2 with ⟨e, h⟩ | ⟨g, cap, cur, e, _⟩
  · exact ⟨none, 0, by rw [h]; exact e⟩
  · exact ⟨_, _, e⟩
theorem Row.below {w w' : World} {size n : Nat} {v : Value} {xs : List Value} (h : Row w size v n xs) (hb : Below w.heap.size w w') : Row w' size v n xs := by
  obtain ⟨hl, ao, c, e, hc, h⟩ := h
  refine ⟨hl, ao, c, e, hc, ?_⟩
  rcases h with h | ⟨b, off, e, h⟩
  · exact .inl h
  · exact .inr ⟨b, off, e, fun j u hj => keepc hb (h j u hj)⟩
end Go.Proofs.YtbamogpbjdobkaaDoor
namespace Go.Proofs.YtbamogpbjdobkaaDoor
open Go.RowKit
set_option linter.unusedSimpArgs false
set_option linter.unusedVariables false

theorem spot9 {W : World} {a : Addr} {u : Value} (h : W.cell? a = some u) : a = ⟨a.block, a.off, none⟩ := by
  obtain ⟨b, o, s⟩ := a
  cases s with
  | none => rfl
  | some z =>
    unfold World.cell? at h
    split at h
    · simp at h
    · cases h
def RowA (w : World) (size : Nat) (v : Value) (n : Nat) (xs : List Value) : Prop :=
  xs.length = n * size ∧ ∃ ao c, v = .slice ao n c ∧ n ≤ c ∧ ((ao = none ∧ c = 0 ∧ n = 0) ∨ ∃ a : Addr, ao = some a ∧ ∀ j u, xs[j]? = some u → w.cell? (a.add j) = some u)
theorem RowA.below {w w' : World} {size n : Nat} {v : Value} {xs : List Value} (h : RowA w size v n xs) (hb : Below w.heap.size w w') : RowA w' size v n xs := by
  obtain ⟨hl, ao, c, e, hc, h⟩ := h
  refine ⟨hl, ao, c, e, hc, ?_⟩
  rcases h with h | ⟨a, e, h⟩
  · exact .inl h
  · refine .inr ⟨a, e, fun j u hj => ?_⟩
    have f := h j u hj
    have sp := spot9 f
    rw [sp]
    rw [sp] at f
    exact keepc hb f
theorem stopHere9 {P : Program} {w : World} {ops : Array Oper} {rest : List Oper} {a : Act} {Q : Exit → Act → World → Prop} {o : Oper} (h : Hid (wpList P ops Q (o :: rest) a w)) : wpList P ops Q (o :: rest) a w := h.out
end Go.Proofs.YtbamogpbjdobkaaDoor
namespace Go.Proofs.YtbamogpbjdobkaaDoor
open Go.RowKit
set_option linter.unusedSimpArgs false
set_option linter.unusedVariables false

theorem uI_ex (x : BitVec 32) : ∃ n : Int, n = (x.toNat : Int) := ⟨_, rfl⟩
noncomputable def uI (x : BitVec 32) : Int := Classical.choose (uI_ex x)
theorem uI_eq (x : BitVec 32) : uI x = (x.toNat : Int) := Classical.choose_spec (uI_ex x)
theorem uI_inj {x y : BitVec 32} (h : uI x = uI y) : x = y := by
  rw [uI_eq, uI_eq] at h
  exact BitVec.eq_of_toNat_eq (by omega)
theorem uI_of (n : Nat) (h : n < 4294967296) : uI (BitVec.ofNat 32 n) = (n : Int) := by
  rw [uI_eq, BitVec.toNat_ofNat]
  have : (2 : Nat) ^ 32 = 4294967296 := by decide
  omega
theorem uI_zero : uI 0#32 = 0 := by rw [uI_eq]; rfl
theorem uI_is0 (x : BitVec 32) : (uI x = 0) ↔ x = 0#32 := ⟨fun h => uI_inj (h.trans uI_zero.symm), fun h => by rw [h, uI_zero]⟩
theorem wrap32n (n : Nat) (h : n < 4294967296) : IntKind.u32.wrap (n : Int) = (n : Int) := by
  simp [IntKind.wrap, IntKind.bits, IntKind.signed]; omega
theorem b32 (a b : BitVec 32) : BitVec.ofInt 32 (uI a) = a := by rw [uI_eq]; simp
theorem and32 (a b : BitVec 32) : bits .and .u32 (uI a) (uI b) = uI (a &&& b) := by
  unfold bits
  simp only [IntKind.bits]
  rw [b32 a a, b32 b b, wrap32n _ (BitVec.isLt _), uI_eq]; rfl
theorem or32 (a b : BitVec 32) : bits .or .u32 (uI a) (uI b) = uI (a ||| b) := by
  unfold bits
  simp only [IntKind.bits]
  rw [b32 a a, b32 b b, wrap32n _ (BitVec.isLt _), uI_eq]; rfl
theorem xor32 (a b : BitVec 32) : bits .xor .u32 (uI a) (uI b) = uI (a ^^^ b) := by
  unfold bits
  simp only [IntKind.bits]
  rw [b32 a a, b32 b b, wrap32n _ (BitVec.isLt _), uI_eq]; rfl
theorem shr32 (a : BitVec 32) (n : Nat) : uI a / 2 ^ n = uI (a >>> n) := by
  rw [uI_eq, uI_eq, BitVec.toNat_ushiftRight, Nat.shiftRight_eq_div_pow]; simp
theorem shl32 (a : BitVec 32) (n : Nat) : uI a * 2 ^ n % 4294967296 = uI (a <<< n) := by
  rw [uI_eq, uI_eq, BitVec.toNat_shiftLeft, Nat.shiftLeft_eq]; simp
theorem lit32 (n : Nat) (h : n < 4294967296) : ((n : Nat) : Int) = uI (BitVec.ofNat 32 n) := (uI_of n h).symm
end Go.Proofs.YtbamogpbjdobkaaDoor
namespace Go.Proofs.YtbamogpbjdobkaaDoor
open Go.RowKit
set_option linter.unusedSimpArgs false
set_option linter.unusedVariables false

theorem hid13 {p : Prop} (h : p) : Hid p := h
def cB (b : Nat) : Value := .int .u8 (b : Int)
noncomputable def cU (x : BitVec 32) : Value := .int .u32 (uI x)
def cI (n : Int) : Value := .int .i64 n
def RwX {α : Type} (f : α → Value) (w : World) (v : Value) (l : List α) : Prop :=
  ∃ ao c, v = .slice ao l.length c ∧ l.length ≤ c ∧ (l = [] ∨ ∃ b off, ao = some ⟨b, off, none⟩ ∧ ∀ j x, l[j]? = some x → w.cell? ⟨b, off + j, none⟩ = some (f x))
section
variable {α : Type} {f : α → Value} {w w' : World} {v : Value} {l : List α}
theorem RwX.below (h : RwX f w v l) (hb : Below w.heap.size w w') : RwX f w' v l := by
  obtain ⟨ao, c, e, hc, h⟩ := h
  refine ⟨ao, c, e, hc, ?_⟩
  rcases h with h | ⟨b, off, e, h⟩
  · exact .inl h
  · exact .inr ⟨b, off, e, fun j x hj => keepc hb (h j x hj)⟩
theorem own_rwx {base e : Nat} (h : w.ownsRow base e 1 v l.length (l.map f)) : RwX f w v l := by
  obtain ⟨-, ao, c, e, hc, h⟩ := own_row h
  refine ⟨ao, c, e, hc, ?_⟩
  rcases h with ⟨-, -, h⟩ | ⟨b, off, e, h⟩
  · exact .inl (List.eq_nil_of_length_eq_zero h)
  · exact .inr ⟨b, off, e, fun j x hj => h j _ (by rw [List.getElem?_map, hj]; rfl)⟩
end
end Go.Proofs.YtbamogpbjdobkaaDoor
namespace Go.Proofs.YtbamogpbjdobkaaDoor
open Go.RowKit
set_option linter.unusedSimpArgs false
set_option linter.unusedVariables false

theorem Tryd.infoU13 : (Tryd.prog.info? 42).map (fun i => (i.zero, i.size, i.bytes)) = some (some (.int .u32 0), 1, 4) := by kernel_rfl
theorem info13 {P : Program} {t : TypeId} {z : Value} {s b : Nat} (h : (P.info? t).map (fun i => (i.zero, i.size, i.bytes)) = some (some z, s, b)) : ∃ i, P.info? t = some i ∧ i.zero = some z ∧ i.size = s ∧ i.bytes = b := by
  cases hi : P.info? t with
  | none => rw [hi] at h; cases h
  | some i =>
    rw [hi] at h
    simp only [Option.map_some, Option.some.injEq, Prod.mk.injEq] at h
    exact ⟨i, rfl, h.1, h.2.1, h.2.2⟩
theorem own_b13 {base e size n : Nat} {v : Value} {xs : List Value} {W w' : World} (hb : Below W.heap.size W w') (h : W.ownsRow base e size v n xs) : w'.ownsRow base e size v n xs := by
  refine h.kept (row := none) ⟨hb.os, hb.tape, hb.output, hb.size, fun k hk _ => hb.block k hk⟩ ?_
  cases v.ownBlock with
  | none => exact Or.inl rfl
  | some a => exact Or.inr (by simp)
theorem news13 {W : World} {N : Nat} {v : Value} (h : W.cell? ⟨N, 0, none⟩ = some v) : ∀ j u, [v][j]? = some u → W.cell? ((⟨N, 0, none⟩ : Addr).add j) = some u := by
  intro j u hj
  rw [addA, Nat.zero_add]
  match j, hj with
  | 0, hj => simp at hj; subst hj; exact h
theorem catch13 (p : Addr) (w : World) :
    CallsD Tryd.prog 23 #[.pointer (some p)] .returning w fun e u' w' => e = .returned (.tuple #[]) ∧ u' = .returning ∧ w' = w := by
  refine callsD_of_wpS Tryd.func23 rfl fun c₀ cs hu => ?_
  apply wpS_seq
  apply wpS_region
  simp [wpOpsS, go_sem, recoverD, hu, Tryd.ntmps23, Exit.thenS]
  refine wpS_cond (t := false) (by simp [Act.eval, Array.replicate]) ?_
  simp only [Bool.false_eq_true, if_false]
  refine wpS_of_wp (wp_skip ?_)
  cases c₀
  simp_all [bodyPostS, results, Tryd.results23]
theorem sameI_any (a b : Int) (w : World) :
    Calls Tryd.prog 14 #[.int .i64 a, .int .i64 b] w fun e w' => e = .returned (.bool (a == b)) ∧ Below w.heap.size w w' := by
  have hmf : ∀ (fn : Fn) (first cap : Array Value) (w : World), (Instr.makeFunc fn first cap).run Tryd.prog w = .ok (.func fn first cap) w := fun _ _ _ _ => rfl
  go_enter_defers Tryd.func14, Tryd.ntmps14
  go_wp2
  refine leaves_cons (f := 23) (args := #[.pointer (some ⟨w.heap.size, 0, none⟩)]) (by simp) (by simp [go_sem]) ?_
  refine (catch13 ⟨w.heap.size, 0, none⟩ _).mono ?_
  rintro e u' w'' ⟨rfl, rfl, rfl⟩
  have hb : Below w.heap.size w (w.alloc (.cells #[.bool (a == b)] 4)) := bl1 w _
  simp [Leaves, settle, results, Tryd.results14, go_sem]
  exact hb
theorem words13 (n : Nat) (h : n ≤ 9223372036854775807) (w : World) :
    Calls Tryd.prog 13 #[.int .i64 (n : Int)] w fun e w' => e = .returned (.int .i64 (((n + 31) / 32 : Nat) : Int)) ∧ w' = w := by
  have h1 : Hid ((n : Int) % 32 = ((n % 32 : Nat) : Int)) := by show (n : Int) % 32 = ((n % 32 : Nat) : Int); omega
  by_cases c : n % 32 = 0
  · have c1 : ((n : Int) % 32 != 0) = false := by simp; omega
    have HE : Hid ((n : Int) / 32 = (((n + 31) / 32 : Nat) : Int)) := by show (n : Int) / 32 = (((n + 31) / 32 : Nat) : Int); omega
    clear h1 c
    go_enter Tryd.func13, Tryd.ntmps13
    go_wp2
    go_ret
    exact ⟨congrArg Ending.returned (congrArg (Value.int .i64) HE.out), rfl⟩
  · have c1 : ((n : Int) % 32 != 0) = true := by simp; omega
    have HE : Hid ((n : Int) / 32 + 1 = (((n + 31) / 32 : Nat) : Int)) := by show (n : Int) / 32 + 1 = (((n + 31) / 32 : Nat) : Int); omega
    clear h1 c
    go_enter Tryd.func13, Tryd.ntmps13
    go_wp2
    go_ret
    exact ⟨congrArg Ending.returned (congrArg (Value.int .i64) HE.out), rfl⟩
theorem shrOne (k : Nat) (h : k < 32) : (2147483648 : Int) / 2 ^ k = uI (cOne >>> k) := by
  rw [← shr32]
  congr 1
  exact lit32 2147483648 (by decide)
set_option maxRecDepth 100000 in
theorem set_any (g n cc i : Nat) (x : BitVec 32) (w : World) (hi : i < n * 32) (hn : n ≤ 140737488355328) (hc : w.cell? ⟨g, i / 32, none⟩ = some (.int .u32 (uI x))) (hf : w.frozen? ⟨g, i / 32, none⟩ = false) :
    Calls Tryd.prog 15 #[.slice (some ⟨g, 0, none⟩) n cc, .int .i64 (i : Int)] w fun e w' => e = .returned (.tuple #[]) ∧ w' = (w.setCell ⟨g, i / 32, none⟩ (.int .u32 (uI (x ||| (cOne >>> (i % 32)))))).drew := by
  obtain ⟨q, hq⟩ : ∃ q, q = i / 32 := ⟨_, rfl⟩
  obtain ⟨r, hr⟩ : ∃ r, r = i % 32 := ⟨_, rfl⟩
  rw [← hq] at hc hf ⊢
  rw [← hr]
  have hq1 : (i : Int) / 32 = (q : Int) := by omega
  have hr1 : (i : Int) % 32 = (r : Int) := by omega
  have hqn : ((q : Nat) : Int) < (n : Int) := by omega
  have hr32 : r < 32 := by omega
  have hsh := shrOne r hr32
  have hor := or32 x (cOne >>> r)
  clear hq hr
  go_enter Tryd.func15, Tryd.ntmps15
  go_wp2
  go_region
  exact bodyPost_end (by simp [results, Tryd.results15]) rfl ⟨rfl, rfl⟩
end Go.Proofs.YtbamogpbjdobkaaDoor
namespace Go.Proofs.YtbamogpbjdobkaaDoor
open Go.RowKit
set_option linter.unusedSimpArgs false
set_option linter.unusedVariables false

theorem q_run {P : Program} {ops : Array Oper} {C : World → Prop} {Q : Act → Prop} {a : Act} {o : Oper} {rest : List Oper} {v : Value}
    (hw : Region.wanted o (yielded ops a.tmps) = true) (h : ∀ w, C w → (execOp a.eval o).run P w = .ok (.value v) w) (k : wpQuiet P ops C Q rest (a.put o.dst v)) : wpQuiet P ops C Q (o :: rest) a := by
  refine wpQuiet_step (fun K hK => ?_)
  rw [if_pos hw]
  refine ⟨v, fun w hC => ?_, hK _ k⟩
  unfold Oper.quietAt; rw [h w hC]; exact ⟨rfl, rfl⟩
theorem q_call {P : Program} {ops : Array Oper} {C : World → Prop} {Q : Act → Prop} {a : Act} {o : Oper} {rest : List Oper} {v : Value} {f : FuncId} {args : Array Value}
    (hw : Region.wanted o (yielded ops a.tmps) = true) (h : ∀ w, C w → (execOp a.eval o).run P w = .ok (.enter f args) w) (hc : ∀ w, C w → Calls P f args w fun e w' => e = .returned v ∧ C w') (k : wpQuiet P ops C Q rest (a.put o.dst v)) : wpQuiet P ops C Q (o :: rest) a := by
  refine wpQuiet_step (fun K hK => ?_)
  rw [if_pos hw]
  refine ⟨v, fun w hC => ?_, hK _ k⟩
  unfold Oper.quietAt; rw [h w hC]; exact ⟨rfl, hc w hC⟩
theorem q_region {P : Program} {C : World → Prop} {id : Nat} {Q : Exit → Act → World → Prop} {a : Act} {w : World} {l : List Oper} (hm : P.follows .mixedOrders = true) (hB : Region.lexB .any l.toArray = true) (hC : C w.drew)
    (h : wpQuiet P l.toArray C (fun a' => ∀ w', C w' → Q .normal a' w') l a) : (Code.region id l.toArray true).wp P Q a w :=
  wp_region_quiet (C := C) hm hB hC (by simpa using h)
end Go.Proofs.YtbamogpbjdobkaaDoor
