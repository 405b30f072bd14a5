/-
  Part 1 of the proof: 13 texts, one behind the other.
-/
import Derived.WalkKit
import Derived.WalkSpells
import Derived.WalkLawsBesides
import Derived.Test.YthbdmdafldombaaDoorRows
import Derived.Deep.RegionHeld3
import Derived.Laws.AppendOwnNone
import Derived.Deep.LoopGhost
import Derived.Deep.QuietTactic
import Derived.BigQuiet
namespace Go.Proofs.YthbdmdafldombaaDoor
open Go.RowKit
set_option linter.unusedSimpArgs false
set_option linter.unusedVariables false

def hv (x : BitVec 128) : BitVec 64 := x.extractLsb' 64 64
end Go.Proofs.YthbdmdafldombaaDoor
namespace Go.Proofs.YthbdmdafldombaaDoor
open Go.RowKit
set_option linter.unusedSimpArgs false
set_option linter.unusedVariables false

theorem bl1 (w : World) (o : Obj) : Below w.heap.size w (w.alloc o) := (Below.refl _ _).alloc (Nat.le_refl _) _
end Go.Proofs.YthbdmdafldombaaDoor
namespace Go.Proofs.YthbdmdafldombaaDoor
open Go.RowKit
set_option linter.unusedSimpArgs false
set_option linter.unusedVariables false

end Go.Proofs.YthbdmdafldombaaDoor
namespace Go.Proofs.YthbdmdafldombaaDoor
open Go.RowKit
set_option linter.unusedSimpArgs false
set_option linter.unusedVariables false

theorem bcell {W w1 : World} (hb : Below W.heap.size W w1) : (∀ b o, b < W.heap.size → w1.cell? ⟨b, o, none⟩ = W.cell? ⟨b, o, none⟩) ∧ (∀ b o, b < W.heap.size → w1.frozen? ⟨b, o, none⟩ = W.frozen? ⟨b, o, none⟩) :=
  ⟨fun b o h => hb.cell (p := ⟨b, o, none⟩) h, fun b o h => hb.frozen (p := ⟨b, o, none⟩) h⟩

end Go.Proofs.YthbdmdafldombaaDoor
namespace Go.Proofs.YthbdmdafldombaaDoor
open Go.RowKit
set_option linter.unusedSimpArgs false
set_option linter.unusedVariables false

theorem cell_in {W : World} {b o : Nat} {v : Value} (h : W.cell? ⟨b, o, none⟩ = some v) : b < W.heap.size := by
  apply Classical.byContradiction; intro hn
  have : W.heap[b]? = none := by simp; omega
  simp [World.cell?, this] at h
theorem keepc {W w' : World} (hb : Below W.heap.size W w') {b o : Nat} {v : Value} (h : W.cell? ⟨b, o, none⟩ = some v) : w'.cell? ⟨b, o, none⟩ = some v := by
  rw [(bcell hb).1 b o (cell_in h)]; exact h
theorem keepb {w W w' : World} (hb : Below W.heap.size W w') (h : Below w.heap.size w W) : Below w.heap.size w w' := h.trans (hb.mono h.size)

end Go.Proofs.YthbdmdafldombaaDoor
namespace Go.Proofs.YthbdmdafldombaaDoor
open Go.RowKit
set_option linter.unusedSimpArgs false
set_option linter.unusedVariables false

def Row (w : World) (size : Nat) (v : Value) (n : Nat) (xs : List Value) : Prop :=
  xs.length = n * size ∧ ∃ ao c, v = .slice ao n c ∧ n ≤ c ∧ ((ao = none ∧ c = 0 ∧ n = 0) ∨ ∃ b off, ao = some ⟨b, off, none⟩ ∧ ∀ j u, xs[j]? = some u → w.cell? ⟨b, off + j, none⟩ = some u)
theorem addA (g o j : Nat) : (⟨g, o, none⟩ : Addr).add j = ⟨g, o + j, none⟩ := by unfold Addr.add; split <;> simp_all
theorem Row.below {w w' : World} {size n : Nat} {v : Value} {xs : List Value} (h : Row w size v n xs) (hb : Below w.heap.size w w') : Row w' size v n xs := by
  obtain ⟨hl, ao, c, e, hc, h⟩ := h
  refine ⟨hl, ao, c, e, hc, ?_⟩
  rcases h with h | ⟨b, off, e, h⟩
  · exact .inl h
  · exact .inr ⟨b, off, e, fun j u hj => keepc hb (h j u hj)⟩
end Go.Proofs.YthbdmdafldombaaDoor
namespace Go.Proofs.YthbdmdafldombaaDoor
open Go.RowKit
set_option linter.unusedSimpArgs false
set_option linter.unusedVariables false

theorem spot9 {W : World} {a : Addr} {u : Value} (h : W.cell? a = some u) : a = ⟨a.block, a.off, none⟩ := by
  obtain ⟨b, o, s⟩ := a
  cases s with
  | none => rfl
  | some z =>
    unfold World.cell? at h
    split at h
    · simp at h
    · cases h
def RowA (w : World) (size : Nat) (v : Value) (n : Nat) (xs : List Value) : Prop :=
  xs.length = n * size ∧ ∃ ao c, v = .slice ao n c ∧ n ≤ c ∧ ((ao = none ∧ c = 0 ∧ n = 0) ∨ ∃ a : Addr, ao = some a ∧ ∀ j u, xs[j]? = some u → w.cell? (a.add j) = some u)
theorem RowA.below {w w' : World} {size n : Nat} {v : Value} {xs : List Value} (h : RowA w size v n xs) (hb : Below w.heap.size w w') : RowA w' size v n xs := by
  obtain ⟨hl, ao, c, e, hc, h⟩ := h
  refine ⟨hl, ao, c, e, hc, ?_⟩
  rcases h with h | ⟨a, e, h⟩
  · exact .inl h
  · refine .inr ⟨a, e, fun j u hj => ?_⟩
    have f := h j u hj
    have sp := spot9 f
    rw [sp]
    rw [sp] at f
    exact keepc hb f
theorem stopHere9 {P : Program} {w : World} {ops : Array Oper} {rest : List Oper} {a : Act} {Q : Exit → Act → World → Prop} {o : Oper} (h : Hid (wpList P ops Q (o :: rest) a w)) : wpList P ops Q (o :: rest) a w := h.out
end Go.Proofs.YthbdmdafldombaaDoor
namespace Go.Proofs.YthbdmdafldombaaDoor
open Go.RowKit
set_option linter.unusedSimpArgs false
set_option linter.unusedVariables false

def cM : BitVec 32 := 0x82F63B78#32
def hb (x : BitVec 32) : BitVec 32 := (x >>> 1) ^^^ (if x.getLsbD 0 then cM else 0#32)
def hbN : Nat → BitVec 32 → BitVec 32
  | 0, x => x
  | n + 1, x => hbN n (hb x)
theorem x4 (a b c d : BitVec 32) : (a ^^^ b) ^^^ (c ^^^ d) = (a ^^^ c) ^^^ (b ^^^ d) := by
  rw [BitVec.xor_assoc, BitVec.xor_assoc, ← BitVec.xor_assoc b c d, BitVec.xor_comm b c, BitVec.xor_assoc c b d]
theorem hb_xor (x y : BitVec 32) : hb (x ^^^ y) = hb x ^^^ hb y := by
  unfold hb
  rw [BitVec.ushiftRight_xor_distrib, BitVec.getLsbD_xor, x4]
  congr 1
  cases x.getLsbD 0 <;> cases y.getLsbD 0 <;> simp
theorem hb_zero : hb 0#32 = 0#32 := by decide
theorem hbN_xor (n : Nat) : ∀ x y, hbN n (x ^^^ y) = hbN n x ^^^ hbN n y := by
  induction n with
  | zero => intro x y; rfl
  | succ n ih => intro x y; simp only [hbN]; rw [hb_xor, ih]
theorem hbN_zero (n : Nat) : hbN n 0#32 = 0#32 := by
  induction n with
  | zero => rfl
  | succ n ih => simp only [hbN]; rw [hb_zero, ih]
theorem hbN_add (m n : Nat) : ∀ x, hbN (m + n) x = hbN n (hbN m x) := by
  induction m with
  | zero => intro x; simp [hbN]
  | succ m ih => intro x; rw [Nat.succ_add]; simp only [hbN]; rw [ih]
theorem hbN_one (n : Nat) (x : BitVec 32) : hbN (n + 1) x = hb (hbN n x) := by
  rw [hbN_add n 1]; rfl
theorem hbN_hb (n : Nat) (x : BitVec 32) : hbN n (hb x) = hb (hbN n x) := by
  rw [← hbN_one]; rfl
def cT : Nat → BitVec 32
  | 0 => 0x00000000#32 | 1 => 0x105ec76f#32 | 2 => 0x20bd8ede#32 | 3 => 0x30e349b1#32 | 4 => 0x417b1dbc#32 | 5 => 0x5125dad3#32 | 6 => 0x61c69362#32 | 7 => 0x7198540d#32
  | 8 => 0x82f63b78#32 | 9 => 0x92a8fc17#32 | 10 => 0xa24bb5a6#32 | 11 => 0xb21572c9#32 | 12 => 0xc38d26c4#32 | 13 => 0xd3d3e1ab#32 | 14 => 0xe330a81a#32 | 15 => 0xf36e6f75#32
  | _ => 0#32
theorem cT_eq : ∀ k : Fin 16, hbN 4 (BitVec.ofNat 32 k.val) = cT k.val := by decide +kernel
theorem hb_even (x : BitVec 32) (h : x.getLsbD 0 = false) : hb x = x >>> 1 := by unfold hb; rw [h]; simp
theorem hb_hi (x : BitVec 32) (h : ∀ i, i < 4 → x.getLsbD i = false) : hbN 4 x = x >>> 4 := by
  simp only [hbN]
  have e1 : hb x = x >>> 1 := hb_even x (h 0 (by omega))
  have e2 : hb (x >>> 1) = x >>> 2 := by
    rw [hb_even _ (by rw [BitVec.getLsbD_ushiftRight]; exact h 1 (by omega)), ← BitVec.shiftRight_add]
  have e3 : hb (x >>> 2) = x >>> 3 := by
    rw [hb_even _ (by rw [BitVec.getLsbD_ushiftRight]; exact h 2 (by omega)), ← BitVec.shiftRight_add]
  have e4 : hb (x >>> 3) = x >>> 4 := by
    rw [hb_even _ (by rw [BitVec.getLsbD_ushiftRight]; exact h 3 (by omega)), ← BitVec.shiftRight_add]
  rw [e1, e2, e3, e4]
theorem and15 (x : BitVec 32) : x &&& 15#32 = BitVec.ofNat 32 (x.toNat % 16) := by
  apply BitVec.eq_of_toNat_eq
  rw [BitVec.toNat_and, BitVec.toNat_ofNat, BitVec.toNat_ofNat]
  have h : x.toNat &&& 15 = x.toNat % 16 := Nat.and_two_pow_sub_one_eq_mod x.toNat 4
  have e : 15 % 2 ^ 32 = 15 := by decide
  rw [e, h]
  omega
theorem hb_four (x : BitVec 32) : hbN 4 x = (x >>> 4) ^^^ cT (x.toNat % 16) := by
  have hs : x = (x &&& ~~~15#32) ^^^ (x &&& 15#32) := by
    apply BitVec.eq_of_getLsbD_eq
    intro i hi
    simp only [BitVec.getLsbD_xor, BitVec.getLsbD_and, BitVec.getLsbD_not, hi, decide_true, Bool.true_and]
    cases x.getLsbD i <;> cases (15#32).getLsbD i <;> rfl
  have h1 : hbN 4 (x &&& ~~~15#32) = (x &&& ~~~15#32) >>> 4 := by
    apply hb_hi
    intro i hi
    rw [BitVec.getLsbD_and, BitVec.getLsbD_not]
    have : i = 0 ∨ i = 1 ∨ i = 2 ∨ i = 3 := by omega
    rcases this with rfl | rfl | rfl | rfl <;> simp
  have h2 : (x &&& ~~~15#32) >>> 4 = x >>> 4 := by
    apply BitVec.eq_of_getLsbD_eq
    intro i hi
    rw [BitVec.getLsbD_ushiftRight, BitVec.getLsbD_ushiftRight, BitVec.getLsbD_and, BitVec.getLsbD_not]
    by_cases c : 4 + i < 32
    · have h15 : (15#32).getLsbD (4 + i) = false := by
        rw [BitVec.getLsbD_ofNat]
        have : (15 : Nat).testBit (4 + i) = false := Nat.testBit_lt_two_pow (Nat.lt_of_lt_of_le (by decide : 15 < 2 ^ 4) (Nat.pow_le_pow_right (by decide) (by omega)))
        rw [this]; simp
      rw [h15]; simp [c]
    · rw [BitVec.getLsbD_of_ge x _ (by omega)]; simp
  have h3 : hbN 4 (x &&& 15#32) = cT (x.toNat % 16) := by
    rw [and15]; exact cT_eq ⟨x.toNat % 16, by omega⟩
  calc hbN 4 x = hbN 4 ((x &&& ~~~15#32) ^^^ (x &&& 15#32)) := by rw [← hs]
    _ = _ := by rw [hbN_xor, h1, h2, h3]

def stp (c : BitVec 32) (b : Nat) : BitVec 32 := hbN 8 (c ^^^ BitVec.ofNat 32 b)
def crF (c : BitVec 32) (l : List Nat) : BitVec 32 := l.foldl stp c
def crS (l : List Nat) : BitVec 32 := ~~~ crF (BitVec.allOnes 32) l
theorem crF_nil (c : BitVec 32) : crF c [] = c := rfl
theorem crF_cons (c : BitVec 32) (b : Nat) (l : List Nat) : crF c (b :: l) = crF (stp c b) l := rfl
theorem crF_app (c : BitVec 32) (l m : List Nat) : crF c (l ++ m) = crF (crF c l) m := by unfold crF; exact List.foldl_append
theorem not_xor (x : BitVec 32) : ~~~ x = BitVec.allOnes 32 ^^^ x := by
  apply BitVec.eq_of_getLsbD_eq
  intro i hi
  rw [BitVec.getLsbD_not, BitVec.getLsbD_xor, BitVec.getLsbD_allOnes]
  simp only [hi, decide_true, Bool.true_and, Bool.true_xor]
def prd : Nat → BitVec 32 → BitVec 32 → BitVec 32 → BitVec 32
  | 0, _, _, p => p
  | k + 1, a, b, p => prd k (a <<< 1) (hb b) (if a.getLsbD 31 then p ^^^ b else p)
def pr0 : Nat → BitVec 32 → BitVec 32 → BitVec 32
  | 0, _, _ => 0#32
  | k + 1, a, b => (if a.getLsbD 31 then b else 0#32) ^^^ pr0 k (a <<< 1) (hb b)
theorem prd_pr0 (k : Nat) : ∀ a b p, prd k a b p = p ^^^ pr0 k a b := by
  induction k with
  | zero => intro a b p; simp [prd, pr0]
  | succ k ih =>
    intro a b p
    simp only [prd, pr0]
    rw [ih, ← BitVec.xor_assoc]
    congr 1
    cases a.getLsbD 31 <;> simp
theorem prd_zero (k : Nat) : ∀ b p, prd k 0#32 b p = p := by
  induction k with
  | zero => intro b p; rfl
  | succ k ih => intro b p; simp only [prd]; rw [show (0#32) <<< 1 = 0#32 from by decide, ih]; simp
theorem pr0_hbN (m k : Nat) : ∀ a b, pr0 k a (hbN m b) = hbN m (pr0 k a b) := by
  induction k with
  | zero => intro a b; simp only [pr0]; rw [hbN_zero]
  | succ k ih =>
    intro a b
    simp only [pr0]
    rw [← hbN_hb, ih, hbN_xor]
    congr 1
    cases a.getLsbD 31
    · simp [hbN_zero]
    · simp
def tp (k : Nat) : BitVec 32 := BitVec.twoPow 32 k
theorem hb_tp (k : Nat) (h : k + 1 < 32) : hb (tp (k + 1)) = tp k := by
  have : ∀ k : Fin 31, hb (tp (k.val + 1)) = tp k.val := by decide +kernel
  exact this ⟨k, by omega⟩
def lowB (k : Nat) (a : BitVec 32) : BitVec 32 := BitVec.ofNat 32 (a.toNat % 2 ^ k)
theorem lowB_bit (k : Nat) (a : BitVec 32) (i : Nat) : (lowB k a).getLsbD i = (decide (i < k) && a.getLsbD i) := by
  unfold lowB
  rw [BitVec.getLsbD_ofNat, Nat.testBit_mod_two_pow]
  by_cases c : i < 32
  · simp only [c, decide_true, Bool.true_and]; rfl
  · rw [BitVec.getLsbD_of_ge a i (by omega)]; simp [c]
theorem lowB_32 (a : BitVec 32) : lowB 32 a = a := by
  unfold lowB
  apply BitVec.eq_of_toNat_eq
  rw [BitVec.toNat_ofNat]
  have := a.isLt
  omega
theorem lowB_step (k : Nat) (hk : k < 32) (a : BitVec 32) : lowB (k + 1) a = (if a.getLsbD k then tp k else 0#32) ^^^ lowB k a := by
  apply BitVec.eq_of_getLsbD_eq
  intro i hi
  rw [BitVec.getLsbD_xor, lowB_bit, lowB_bit]
  have ht : (if a.getLsbD k then tp k else 0#32).getLsbD i = (a.getLsbD k && decide (k = i)) := by
    cases a.getLsbD k
    · simp
    · simp only [if_true, Bool.true_and]; unfold tp; rw [BitVec.getLsbD_twoPow]; simp [hk]
  rw [ht]
  by_cases c : i = k
  · subst c; simp
  · by_cases d : i < k
    · have d' : i < k + 1 := by omega
      have : ¬ k = i := by omega
      simp [d, d', this]
    · have d' : ¬ i < k + 1 := by omega
      have : ¬ k = i := by omega
      simp [d, d', this]
theorem pr0_low (a : BitVec 32) (k : Nat) : k < 32 → pr0 (k + 1) (a <<< (31 - k)) (tp k) = lowB (k + 1) a := by
  induction k with
  | zero =>
    intro _
    simp only [pr0]
    rw [lowB_step 0 (by omega)]
    have e : (a <<< (31 - 0)).getLsbD 31 = a.getLsbD 0 := by rw [BitVec.getLsbD_shiftLeft]; simp
    have e2 : lowB 0 a = 0#32 := by unfold lowB; simp [Nat.mod_one]
    rw [e, e2]
  | succ k ih =>
    intro hk
    rw [pr0, hb_tp k hk, ← BitVec.shiftLeft_add]
    have e1 : 31 - (k + 1) + 1 = 31 - k := by omega
    rw [e1, ih (by omega), lowB_step (k + 1) hk]
    have e : (a <<< (31 - (k + 1))).getLsbD 31 = a.getLsbD (k + 1) := by
      rw [BitVec.getLsbD_shiftLeft]
      have c1 : ¬ 31 < 31 - (k + 1) := by omega
      have c2 : 31 - (31 - (k + 1)) = k + 1 := by omega
      rw [c2, decide_eq_false c1]; simp
    rw [e]
def cOne : BitVec 32 := 0x80000000#32
theorem tp31 : tp 31 = cOne := by decide
theorem prd_hbN (a : BitVec 32) (m : Nat) : prd 32 a (hbN m cOne) 0#32 = hbN m a := by
  rw [prd_pr0, pr0_hbN]
  have h := pr0_low a 31 (by omega)
  have e : a <<< (31 - 31) = a := by simp
  rw [e, tp31, lowB_32] at h
  rw [h]; simp
theorem byByte_eq : hbN 8 cOne = 0x800000#32 := by decide
theorem prd_pow (p q : Nat) : prd 32 (hbN p cOne) (hbN q cOne) 0#32 = hbN (p + q) cOne := by
  rw [prd_hbN, ← hbN_add]

def thr (f : Nat → BitVec 32) (c : BitVec 32) : Nat → BitVec 32
  | 0 => 0#32
  | k + 1 => if c.getLsbD k then thr f c k ^^^ f k else thr f c k
theorem thr_low (m : Nat) (f : Nat → BitVec 32) (hf : ∀ i, i < 32 → f i = hbN m (tp i)) (c : BitVec 32) : ∀ k, k ≤ 32 → thr f c k = hbN m (lowB k c) := by
  intro k
  induction k with
  | zero => intro _; simp only [thr]; rw [show lowB 0 c = 0#32 from by unfold lowB; simp [Nat.mod_one], hbN_zero]
  | succ k ih =>
    intro hk
    rw [thr, ih (by omega), lowB_step k (by omega), hbN_xor, hf k (by omega)]
    cases c.getLsbD k
    · simp [hbN_zero]
    · simp [BitVec.xor_comm]
theorem thr_all (m : Nat) (f : Nat → BitVec 32) (hf : ∀ i, i < 32 → f i = hbN m (tp i)) (c : BitVec 32) : thr f c 32 = hbN m c := by
  rw [thr_low m f hf c 32 (Nat.le_refl _), lowB_32]
end Go.Proofs.YthbdmdafldombaaDoor
namespace Go.Proofs.YthbdmdafldombaaDoor
open Go.RowKit
set_option linter.unusedSimpArgs false
set_option linter.unusedVariables false

theorem uI_ex (x : BitVec 32) : ∃ n : Int, n = (x.toNat : Int) := ⟨_, rfl⟩
noncomputable def uI (x : BitVec 32) : Int := Classical.choose (uI_ex x)
theorem uI_eq (x : BitVec 32) : uI x = (x.toNat : Int) := Classical.choose_spec (uI_ex x)
theorem uI_inj {x y : BitVec 32} (h : uI x = uI y) : x = y := by
  rw [uI_eq, uI_eq] at h
  exact BitVec.eq_of_toNat_eq (by omega)
theorem uI_of (n : Nat) (h : n < 4294967296) : uI (BitVec.ofNat 32 n) = (n : Int) := by
  rw [uI_eq, BitVec.toNat_ofNat]
  have : (2 : Nat) ^ 32 = 4294967296 := by decide
  omega
theorem uI_mk (n : Int) (h0 : 0 ≤ n) (h1 : n < 4294967296) : ∃ x : BitVec 32, n = uI x := ⟨BitVec.ofNat 32 n.toNat, by rw [uI_of _ (by omega)]; omega⟩
theorem uI_zero : uI 0#32 = 0 := by rw [uI_eq]; rfl
theorem uI_is0 (x : BitVec 32) : (uI x = 0) ↔ x = 0#32 := ⟨fun h => uI_inj (h.trans uI_zero.symm), fun h => by rw [h, uI_zero]⟩
theorem wrap32n (n : Nat) (h : n < 4294967296) : IntKind.u32.wrap (n : Int) = (n : Int) := by
  simp [IntKind.wrap, IntKind.bits, IntKind.signed]; omega
theorem b32 (a b : BitVec 32) : BitVec.ofInt 32 (uI a) = a := by rw [uI_eq]; simp
theorem and32 (a b : BitVec 32) : bits .and .u32 (uI a) (uI b) = uI (a &&& b) := by
  unfold bits
  simp only [IntKind.bits]
  rw [b32 a a, b32 b b, wrap32n _ (BitVec.isLt _), uI_eq]; rfl
theorem or32 (a b : BitVec 32) : bits .or .u32 (uI a) (uI b) = uI (a ||| b) := by
  unfold bits
  simp only [IntKind.bits]
  rw [b32 a a, b32 b b, wrap32n _ (BitVec.isLt _), uI_eq]; rfl
theorem xor32 (a b : BitVec 32) : bits .xor .u32 (uI a) (uI b) = uI (a ^^^ b) := by
  unfold bits
  simp only [IntKind.bits]
  rw [b32 a a, b32 b b, wrap32n _ (BitVec.isLt _), uI_eq]; rfl
theorem shr32 (a : BitVec 32) (n : Nat) : uI a / 2 ^ n = uI (a >>> n) := by
  rw [uI_eq, uI_eq, BitVec.toNat_ushiftRight, Nat.shiftRight_eq_div_pow]; simp
theorem shl32 (a : BitVec 32) (n : Nat) : uI a * 2 ^ n % 4294967296 = uI (a <<< n) := by
  rw [uI_eq, uI_eq, BitVec.toNat_shiftLeft, Nat.shiftLeft_eq]; simp
theorem lit32 (n : Nat) (h : n < 4294967296) : ((n : Nat) : Int) = uI (BitVec.ofNat 32 n) := (uI_of n h).symm
theorem odd32 (x : BitVec 32) : bits .and .u32 (uI x) 1 = if x.getLsbD 0 then 1 else 0 := by
  have e : (1 : Int) = uI 1#32 := lit32 1 (by decide)
  have h : bits .and .u32 (uI x) (uI 1#32) = if x.getLsbD 0 then 1 else 0 := by
    rw [and32]
    have h2 : x &&& 1#32 = if x.getLsbD 0 then 1#32 else 0#32 := by
      apply BitVec.eq_of_getLsbD_eq
      intro i hi
      rw [BitVec.getLsbD_and, BitVec.getLsbD_ofNat]
      by_cases c : i = 0
      · subst c; cases x.getLsbD 0 <;> simp
      · have : Nat.testBit 1 i = false := by
          cases hh : Nat.testBit 1 i with
          | false => rfl
          | true => exact absurd (Nat.testBit_one_eq_true_iff_self_eq_zero.mp hh) c
        rw [this]
        cases x.getLsbD 0
        · simp
        · simp only [if_true]; rw [BitVec.getLsbD_ofNat, this]; simp
    rw [h2]
    cases x.getLsbD 0
    · simp only [Bool.false_eq_true, if_false]; exact uI_zero
    · simp only [if_true]; exact e.symm
  rw [← e] at h
  exact h
theorem xorM (x : BitVec 32) : bits .xor .u32 (uI x) 2197175160 = uI (x ^^^ cM) := by
  have e : (2197175160 : Int) = uI cM := lit32 2197175160 (by decide)
  rw [e, xor32]
theorem half32 (x : BitVec 32) : uI x / (2 : Int) = uI (x >>> 1) := by have := shr32 x 1; simpa using this
theorem dbl32 (x : BitVec 32) : uI x * (2 : Int) % 4294967296 = uI (x <<< 1) := by have := shl32 x 1; simpa using this
theorem hb_odd (x : BitVec 32) (h : x.getLsbD 0 = true) : hb x = (x >>> 1) ^^^ cM := by unfold hb; rw [h]; simp
theorem top32 (x : BitVec 32) : bits .and .u32 (uI x) 2147483648 = if x.getLsbD 31 then 2147483648 else 0 := by
  have e : (2147483648 : Int) = uI cOne := lit32 2147483648 (by decide)
  have h : bits .and .u32 (uI x) (uI cOne) = if x.getLsbD 31 then uI cOne else 0 := by
    rw [and32]
    have h2 : x &&& cOne = if x.getLsbD 31 then cOne else 0#32 := by
      apply BitVec.eq_of_getLsbD_eq
      intro i hi
      rw [BitVec.getLsbD_and, ← tp31]
      have ht : (tp 31).getLsbD i = decide (31 = i) := by unfold tp; rw [BitVec.getLsbD_twoPow]; simp
      by_cases c : i = 31
      · subst c; rw [ht]; cases x.getLsbD 31
        · simp
        · simp [ht]
      · have c' : ¬ 31 = i := by omega
        rw [ht]; cases x.getLsbD 31
        · simp [c']
        · simp [ht, c']
    rw [h2]
    cases x.getLsbD 31
    · simp only [Bool.false_eq_true, if_false]; exact uI_zero
    · simp only [if_true]
  rw [← e] at h
  exact h
end Go.Proofs.YthbdmdafldombaaDoor
namespace Go.Proofs.YthbdmdafldombaaDoor
open Go.RowKit
set_option linter.unusedSimpArgs false
set_option linter.unusedVariables false

set_option maxRecDepth 100000 in
theorem halved_any (x : BitVec 32) (w : World) :
    Calls Tryd.prog 51 #[.int .u32 (uI x)] w fun e w' => e = .returned (.int .u32 (uI (hb x))) ∧ w' = w := by
  have h1 := odd32 x
  have h2 := half32 x
  cases c : x.getLsbD 0
  · rw [hb_even x c]
    rw [c] at h1
    simp only [Bool.false_eq_true, if_false] at h1
    clear c
    go_enter Tryd.func51, Tryd.ntmps51
    go_wp2
    go_ret
    exact ⟨rfl, rfl⟩
  · rw [hb_odd x c]
    rw [c] at h1
    simp only [if_true] at h1
    have h3 := xorM (x >>> 1)
    clear c
    go_enter Tryd.func51, Tryd.ntmps51
    go_wp2
    go_ret
    exact ⟨rfl, rfl⟩
set_option maxRecDepth 100000 in
set_option maxHeartbeats 4000000 in
theorem times_any (x y : BitVec 32) (w : World) :
    Calls Tryd.prog 38 #[.int .u32 (uI x), .int .u32 (uI y)] w fun e w' => e = .returned (.int .u32 (uI (prd 32 x y 0#32))) ∧ w' = w := by
  go_enter Tryd.func38, Tryd.ntmps38
  go_wp2_with fail
  go_loopg [0, 1, 5] 32 (fun k a b p wr => wr = w ∧ k ≤ 32 ∧ ∃ A B P : BitVec 32, a = .int .u32 (uI A) ∧ b = .int .u32 (uI B) ∧ p = .int .u32 (uI P) ∧ Hid (prd k A B P = prd 32 x y 0#32 ∧ A <<< k = 0#32))
  case atStart => exact ⟨rfl, by omega, x, y, 0#32, rfl, rfl, by rw [uI_zero], rfl, by simp⟩
  case round =>
    obtain ⟨rfl, hk, A, B, P, rfl, rfl, rfl, HP⟩ := hrel
    by_cases h0 : A = 0#32
    · subst h0
      have hz := uI_zero
      obtain ⟨e1, -⟩ := HP.out
      rw [prd_zero] at e1
      rw [hz]
      clear HP hz
      go_wp2_with fail
      go_ret
      exact ⟨congrArg Ending.returned (congrArg (Value.int .u32) (congrArg uI e1)), rfl⟩
    · have hz : ¬ uI A = 0 := fun h => h0 ((uI_is0 A).mp h)
      obtain ⟨j, rfl⟩ : ∃ j, gk = j + 1 := by
        cases gk with
        | zero => exact absurd (by have := HP.out.2; simpa using this) h0
        | succ j => exact ⟨j, rfl⟩
      have htop := top32 A
      have HD := HP.out
      have hN : Hid (prd j (A <<< 1) (hb B) (if A.getLsbD 31 then P ^^^ B else P) = prd 32 x y 0#32 ∧ (A <<< 1) <<< j = 0#32) := ⟨HD.1, by rw [← BitVec.shiftLeft_add, Nat.add_comm]; exact HD.2⟩
      clear HP HD h0
      cases c : A.getLsbD 31
      · rw [c] at htop hN
        simp only [Bool.false_eq_true, if_false] at htop hN
        clear c
        go_wp2_with (go_at_call 51; refine (halved_any B _).mono ?_; rintro e w1 ⟨rfl, rfl⟩)
        go_roundg j
        case measure => omega
        case rel => exact ⟨rfl, by omega, _, _, _, congrArg (Value.int .u32) (dbl32 A), rfl, rfl, hN⟩
      · rw [c] at htop hN
        simp only [if_true] at htop hN
        clear c
        have hxx := xor32 P B
        go_wp2_with (go_at_call 51; refine (halved_any B _).mono ?_; rintro e w1 ⟨rfl, rfl⟩)
        go_roundg j
        case measure => omega
        case rel => exact ⟨rfl, by omega, _, _, _, congrArg (Value.int .u32) (dbl32 A), rfl, rfl, hN⟩
theorem oddN (n : Nat) (h : n < 9223372036854775808) : bits .and .i64 (n : Int) 1 = ((n % 2 : Nat) : Int) := by
  unfold bits
  simp only [IntKind.bits]
  have e : (BitVec.ofInt 64 (n : Int) &&& BitVec.ofInt 64 1).toNat = n % 2 := by
    rw [BitVec.toNat_and]
    have e1 : (BitVec.ofInt 64 (n : Int)).toNat = n := by rw [BitVec.toNat_ofInt]; omega
    have e2 : (BitVec.ofInt 64 1).toNat = 1 := by decide
    rw [e1, e2]
    exact Nat.and_one_is_mod n
  show IntKind.i64.wrap (((BitVec.ofInt 64 (n : Int) &&& BitVec.ofInt 64 1).toNat : Nat) : Int) = _
  rw [e, IntKind.wrap_i64]
  omega
set_option maxRecDepth 100000 in
set_option maxHeartbeats 4000000 in
theorem byBytes_any (n : Nat) (hn : n < 9223372036854775808) (w : World) :
    Calls Tryd.prog 39 #[.int .i64 (n : Int)] w fun e w' => e = .returned (.int .u32 (uI (hbN (8 * n) cOne))) ∧ w' = w := by
  go_enter Tryd.func39, Tryd.ntmps39
  go_wp2_with fail
  go_loopg [0, 3, 4] n (fun k a b p wr => wr = w ∧ k ≤ n ∧ ∃ P Q : Nat, a = .int .i64 (k : Int) ∧ b = .int .u32 (uI (hbN P cOne)) ∧ p = .int .u32 (uI (hbN Q cOne)) ∧ Hid (P + Q * k = 8 * n))
  case atStart =>
    refine ⟨rfl, Nat.le_refl _, 0, 8, rfl, ?_, ?_, by show 0 + 8 * n = 8 * n; omega⟩
    · exact congrArg (Value.int .u32) (lit32 2147483648 (by decide))
    · rw [byByte_eq]; exact congrArg (Value.int .u32) (lit32 8388608 (by decide))
  case round =>
    obtain ⟨rfl, hk, P, Q, rfl, rfl, rfl, HP⟩ := hrel
    by_cases h0 : gk = 0
    · subst h0
      go_wp2_with fail
      go_ret
      refine ⟨congrArg Ending.returned (congrArg (Value.int .u32) (congrArg uI ?_)), rfl⟩
      have := HP.out
      rw [show 8 * n = P by omega]
    · have hpos : 0 < (gk : Int) := by omega
      have hodd := oddN gk (by omega)
      have hhalf : Hid ((gk : Int) / (2 : Int) = ((gk / 2 : Nat) : Int)) := by show (gk : Int) / (2 : Int) = ((gk / 2 : Nat) : Int); omega
      have hd := Nat.div_add_mod gk 2
      have hq : Q * gk = Q * (2 * (gk / 2)) + Q * (gk % 2) := by rw [← Nat.mul_add, hd]
      have hq2 : Q * (2 * (gk / 2)) = (Q + Q) * (gk / 2) := by rw [← Nat.mul_assoc, Nat.mul_comm Q 2, Nat.two_mul]
      have E := HP.out
      rcases (show gk % 2 = 0 ∨ gk % 2 = 1 by omega) with c | c
      · rw [c] at hodd hq
        have HN : Hid (P + (Q + Q) * (gk / 2) = 8 * n) := by show P + (Q + Q) * (gk / 2) = 8 * n; omega
        have HK : Hid (gk / 2 < gk ∧ gk / 2 ≤ n) := by constructor <;> omega
        clear hd hq hq2 E c HP hk h0
        go_wp2_with (go_at_call 38; refine (times_any _ _ _).mono ?_; rintro e w1 ⟨rfl, rfl⟩)
        go_roundg (gk / 2)
        case measure => exact HK.out.1
        case rel => exact ⟨rfl, HK.out.2, P, Q + Q, congrArg (Value.int .i64) hhalf.out, rfl, congrArg (Value.int .u32) (congrArg uI (prd_pow Q Q)), HN⟩
      · rw [c] at hodd hq
        have HN : Hid (P + Q + (Q + Q) * (gk / 2) = 8 * n) := by show P + Q + (Q + Q) * (gk / 2) = 8 * n; omega
        have HK : Hid (gk / 2 < gk ∧ gk / 2 ≤ n) := by constructor <;> omega
        clear hd hq hq2 E c HP hk h0
        go_wp2_with (go_at_call 38; refine (times_any _ _ _).mono ?_; rintro e w1 ⟨rfl, rfl⟩)
        go_roundg (gk / 2)
        case measure => exact HK.out.1
        case rel => exact ⟨rfl, HK.out.2, P + Q, Q + Q, congrArg (Value.int .i64) hhalf.out, congrArg (Value.int .u32) (congrArg uI (prd_pow P Q)), congrArg (Value.int .u32) (congrArg uI (prd_pow Q Q)), HN⟩
def jnU (a b : BitVec 32) (n : Int) : BitVec 32 := if n < 0 then 0#32 else hbN (8 * n.toNat) a ^^^ b
def jnE (n : Int) : Int := if n < 0 then 1 else 0
set_option maxRecDepth 100000 in
theorem join_any (a b : BitVec 32) (n : Int) (hn : n ≤ 9223372036854775807) (w : World) :
    Calls Tryd.prog 20 #[.int .u32 (uI a), .int .u32 (uI b), .int .i64 n] w fun e w' => e = .returned (.tuple #[.int .u32 (uI (jnU a b n)), .int .i64 (jnE n)]) ∧ w' = w := by
  unfold jnU jnE
  by_cases h : n < 0
  · rw [if_pos h, if_pos h, uI_zero]
    go_enter Tryd.func20, Tryd.ntmps20
    go_wp2
    exact bodyPost_ret (v := .tuple #[.int .u32 0, .int .i64 1]) (by simp [results, Tryd.results20, go_sem]) rfl ⟨rfl, rfl⟩
  · rw [if_neg h, if_neg h]
    obtain ⟨k, rfl⟩ : ∃ k : Nat, n = (k : Int) := ⟨n.toNat, by omega⟩
    have hk : k < 9223372036854775808 := by omega
    have hx := xor32 (hbN (8 * k) a) b
    have hp := congrArg uI (prd_hbN a (8 * k))
    simp only [Int.toNat_natCast]
    clear hn
    go_enter Tryd.func20, Tryd.ntmps20
    go_wp2_with (first | (go_at_call 39; refine (byBytes_any k hk _).mono ?_; rintro e w1 ⟨rfl, rfl⟩) | (go_at_call 38; refine (times_any _ _ _).mono ?_; rintro e w1 ⟨rfl, rfl⟩))
    exact bodyPost_ret (v := .tuple #[.int .u32 (uI (hbN (8 * k) a ^^^ b)), .int .i64 0]) (by simp [results, Tryd.results20, go_sem, hx, hp]) rfl ⟨rfl, rfl⟩
end Go.Proofs.YthbdmdafldombaaDoor
namespace Go.Proofs.YthbdmdafldombaaDoor
open Go.RowKit
set_option linter.unusedSimpArgs false
set_option linter.unusedVariables false

theorem hid13 {p : Prop} (h : p) : Hid p := h
def cB (b : Nat) : Value := .int .u8 (b : Int)
noncomputable def cU (x : BitVec 32) : Value := .int .u32 (uI x)
def cI (n : Int) : Value := .int .i64 n
def RwX {α : Type} (f : α → Value) (w : World) (v : Value) (l : List α) : Prop :=
  ∃ ao c, v = .slice ao l.length c ∧ l.length ≤ c ∧ (l = [] ∨ ∃ b off, ao = some ⟨b, off, none⟩ ∧ ∀ j x, l[j]? = some x → w.cell? ⟨b, off + j, none⟩ = some (f x))
section
variable {α : Type} {f : α → Value} {w w' : World} {v : Value} {l : List α}
theorem RwX.below (h : RwX f w v l) (hb : Below w.heap.size w w') : RwX f w' v l := by
  obtain ⟨ao, c, e, hc, h⟩ := h
  refine ⟨ao, c, e, hc, ?_⟩
  rcases h with h | ⟨b, off, e, h⟩
  · exact .inl h
  · exact .inr ⟨b, off, e, fun j x hj => keepc hb (h j x hj)⟩
end
end Go.Proofs.YthbdmdafldombaaDoor
namespace Go.Proofs.YthbdmdafldombaaDoor
open Go.RowKit
set_option linter.unusedSimpArgs false
set_option linter.unusedVariables false

theorem q_run {P : Program} {ops : Array Oper} {C : World → Prop} {Q : Act → Prop} {a : Act} {o : Oper} {rest : List Oper} {v : Value}
    (hw : Region.wanted o (yielded ops a.tmps) = true) (h : ∀ w, C w → (execOp a.eval o).run P w = .ok (.value v) w) (k : wpQuiet P ops C Q rest (a.put o.dst v)) : wpQuiet P ops C Q (o :: rest) a := by
  refine wpQuiet_step (fun K hK => ?_)
  rw [if_pos hw]
  refine ⟨v, fun w hC => ?_, hK _ k⟩
  unfold Oper.quietAt; rw [h w hC]; exact ⟨rfl, rfl⟩
theorem q_call {P : Program} {ops : Array Oper} {C : World → Prop} {Q : Act → Prop} {a : Act} {o : Oper} {rest : List Oper} {v : Value} {f : FuncId} {args : Array Value}
    (hw : Region.wanted o (yielded ops a.tmps) = true) (h : ∀ w, C w → (execOp a.eval o).run P w = .ok (.enter f args) w) (hc : ∀ w, C w → Calls P f args w fun e w' => e = .returned v ∧ C w') (k : wpQuiet P ops C Q rest (a.put o.dst v)) : wpQuiet P ops C Q (o :: rest) a := by
  refine wpQuiet_step (fun K hK => ?_)
  rw [if_pos hw]
  refine ⟨v, fun w hC => ?_, hK _ k⟩
  unfold Oper.quietAt; rw [h w hC]; exact ⟨rfl, hc w hC⟩
end Go.Proofs.YthbdmdafldombaaDoor
namespace Go.Proofs.YthbdmdafldombaaDoor
open Go.RowKit
set_option linter.unusedSimpArgs false
set_option linter.unusedVariables false

end Go.Proofs.YthbdmdafldombaaDoor
