/-
  Part 10 of the proof: 7 texts, one behind the other.
-/
import Derived.Test.YtofpbommhklooaaPart1
import Derived.Test.YtofpbommhklooaaPart9
import Derived.Deep.RegionHeld3
/-
  Plain facts on addresses: families, the last address, the step from one to the next. Nothing of the program is imported here.
-/
namespace Go.Proofs.Ytofpbommhklooaa
open Go.RowKit
set_option linter.unusedSimpArgs false
set_option linter.unusedVariables false

def fam (F : Int) : Bool := decide (F = 32) || decide (F = 128)
theorem fam_ways (F : Int) (h : fam F = true) : F = 32 ∨ F = 128 := by unfold fam at h; simpa using h
theorem fam_no (F : Int) (h : fam F = false) : ¬ F = 32 ∧ ¬ F = 128 := by unfold fam at h; simpa using h
/-- The step from an address to the next one. -/
def stepW (F : Int) : BitVec 128 := mkW 0 1 <<< (128 - F).toNat
def lastV (F : Int) : BitVec 128 := if fam F = true then maskW F else 0#128
def lastE (F : Int) : Int := if fam F = true then 0 else 11
def rightE (F : Int) (x : BitVec 128) : Int := if fam F = true then (if x &&& maskW F = x then 0 else 6) else 11
def nextB (F : Int) (x : BitVec 128) : Bool := decide (rightE F x = 0) && !overB x (stepW F)
def nextV (F : Int) (x : BitVec 128) : BitVec 128 := if nextB F x = true then x + stepW F else 0#128
def prevB (F : Int) (x : BitVec 128) : Bool := decide (rightE F x = 0) && !underB x (stepW F)
def prevV (F : Int) (x : BitVec 128) : BitVec 128 := if prevB F x = true then x - stepW F else 0#128

theorem mk01 : mkW 0 1 = 1#128 := by decide +kernel
theorem right0 (F : Int) (x : BitVec 128) (h : rightE F x = 0) : fam F = true ∧ x &&& maskW F = x := by
  unfold rightE at h
  split at h
  · split at h
    · exact ⟨‹_›, ‹_›⟩
    · omega
  · omega
theorem put_step (F : Int) (h : fam F = true) : putW 0#128 (F - 1) 1 = stepW F := by
  rcases fam_ways F h with rfl | rfl <;> decide +kernel
theorem and_not_mask (F : Int) (x : BitVec 128) : (x &&& ~~~(maskW F) = 0#128) ↔ x &&& maskW F = x := by
  constructor
  · intro h
    apply BitVec.eq_of_getLsbD_eq; intro i hi
    have := congrArg (fun z => z.getLsbD i) h
    simp only [BitVec.getLsbD_and, BitVec.getLsbD_not, BitVec.getLsbD_zero, hi, decide_true, Bool.true_and] at this ⊢
    cases hx : x.getLsbD i <;> cases hm : (maskW F).getLsbD i <;> rw [hx, hm] at this <;> simp at this ⊢
  · intro h
    apply BitVec.eq_of_getLsbD_eq; intro i hi
    have := congrArg (fun z => z.getLsbD i) h
    simp only [BitVec.getLsbD_and, BitVec.getLsbD_not, BitVec.getLsbD_zero, hi, decide_true, Bool.true_and] at this ⊢
    cases hx : x.getLsbD i <;> cases hm : (maskW F).getLsbD i <;> rw [hx, hm] at this <;> simp at this ⊢
theorem mask128 : maskW 128 = BitVec.allOnes 128 := by decide +kernel
theorem mask32 : maskW 32 = (BitVec.allOnes 128 >>> 96) <<< 96 := by decide +kernel
theorem low96 (x : BitVec 128) (h : x &&& maskW 32 = x) : x.toNat = 79228162514264337593543950336 * (x.toNat / 79228162514264337593543950336) := by
  have e : x = (x >>> 96) <<< 96 := by
    apply BitVec.eq_of_getLsbD_eq; intro i hi
    have q := congrArg (fun z => z.getLsbD i) h
    rw [mask32] at q
    simp only [BitVec.getLsbD_and, BitVec.getLsbD_shiftLeft, BitVec.getLsbD_ushiftRight, BitVec.getLsbD_allOnes, hi, decide_true, Bool.true_and] at q ⊢
    by_cases c : i < 96
    · simp only [c, decide_true, Bool.not_true, Bool.false_and, Bool.and_false] at q ⊢
      exact q.symm
    · have e : 96 + (i - 96) = i := by omega
      simp only [c, decide_false, Bool.not_false, Bool.true_and, e]
  have f := congrArg BitVec.toNat e
  rw [BitVec.toNat_shiftLeft, BitVec.toNat_ushiftRight, Nat.shiftLeft_eq, Nat.shiftRight_eq_div_pow] at f
  have := x.isLt
  have g : x.toNat / 2 ^ 96 * 2 ^ 96 ≤ x.toNat := Nat.div_mul_le_self _ _
  omega
theorem over_step (F : Int) (x : BitVec 128) (hf : fam F = true) (h : x &&& maskW F = x) : overB x (stepW F) = decide (x = maskW F) := by
  rw [Bool.eq_iff_iff]
  unfold overB
  simp only [decide_eq_true_eq]
  have hx := x.isLt
  rcases fam_ways F hf with rfl | rfl
  · have e1 : (stepW 32).toNat = 79228162514264337593543950336 := by decide +kernel
    have e2 : (maskW 32).toNat = 4294967295 * 79228162514264337593543950336 := by decide +kernel
    have e3 := low96 x h
    rw [e1]
    constructor
    · intro q
      apply BitVec.eq_of_toNat_eq
      omega
    · intro q
      rw [q, e2]; omega
  · have e1 : (stepW 128).toNat = 1 := by decide +kernel
    have e2 : (maskW 128).toNat = 340282366920938463463374607431768211455 := by decide +kernel
    rw [e1]
    constructor
    · intro q
      apply BitVec.eq_of_toNat_eq
      omega
    · intro q
      rw [q, e2]; omega
theorem under_step (F : Int) (x : BitVec 128) (hf : fam F = true) (h : x &&& maskW F = x) : underB x (stepW F) = decide (x = 0#128) := by
  rw [Bool.eq_iff_iff]
  unfold underB
  simp only [decide_eq_true_eq]
  have hx := x.isLt
  have e0 : (0#128).toNat = 0 := rfl
  rcases fam_ways F hf with rfl | rfl
  · have e1 : (stepW 32).toNat = 79228162514264337593543950336 := by decide +kernel
    have e3 := low96 x h
    rw [e1]
    constructor
    · intro q
      apply BitVec.eq_of_toNat_eq
      omega
    · intro q
      rw [q]; omega
  · have e1 : (stepW 128).toNat = 1 := by decide +kernel
    rw [e1]
    constructor
    · intro q
      apply BitVec.eq_of_toNat_eq
      omega
    · intro q
      rw [q]; omega
end Go.Proofs.Ytofpbommhklooaa
/-
  What the calls of package addr's Last, Right, step, Next and Prev do.
-/
namespace Go.Proofs.Ytofpbommhklooaa
open Go.RowKit
set_option linter.unusedSimpArgs false
set_option linter.unusedVariables false

set_option maxHeartbeats 1000000 in
theorem alast_any (F : Int) (w : World) :
    Calls Try.prog 60 #[.int .i64 F] w fun e w' => e = .returned (.tuple #[.agg #[.int .u64 (hI (lastV F)), .int .u64 (lI (lastV F))], .int .i64 (lastE F)]) ∧ Below w.heap.size w w' := by
  unfold lastV lastE
  cases h : fam F
  · rw [if_neg (by simp), if_neg (by simp), hI_zero, lI_zero]
    obtain ⟨h1, h2⟩ := fam_no F h
    have b1 : (F != 32) = true := by simp [h1]
    have b2 : (F != 128) = true := by simp [h2]
    clear h
    go_enter Try.func60, Try.ntmps60
    go_wp2
    exact bodyPost_ret (v := .tuple #[.agg #[.int .u64 0, .int .u64 0], .int .i64 11]) (by simp [results, Try.results60, go_sem]) rfl ⟨rfl, bl1 _ _⟩
  · rw [if_pos rfl, if_pos rfl]
    rcases fam_ways F h with rfl | rfl
    all_goals
      clear h
      go_enter Try.func60, Try.ntmps60
      go_wp2_with fail
      refine (mask_any _ _).mono ?_
      rintro e w1 ⟨rfl, hb1⟩
      have hZ := (at_new w w.heap.size 0#128 27 rfl).below hb1
      have kB := keepb hb1 (bl1 w _)
      obtain ⟨z0, z1, z2, z3, z4⟩ := hZ
      clear hb1
      go_wp2
      exact bodyPost_ret (by simp [results, Try.results60, go_sem, *]) rfl ⟨rfl, bset2 kB (Nat.le_refl _) _ _⟩

end Go.Proofs.Ytofpbommhklooaa
/-
  What the calls of package prefix's cut, bit, First, Has, Within, Check do.
-/
namespace Go.Proofs.Ytofpbommhklooaa
open Go.RowKit
set_option linter.unusedSimpArgs false
set_option linter.unusedVariables false

def cutW (x : BitVec 128) (n : Int) : BitVec 128 := x &&& maskW n
def bit1 (i : Int) : BitVec 128 := maskW 1 >>> i.toNat
/-- A prefix in memory. -/
def AtP (w : World) (B : Nat) (x : BitVec 128) (n : Int) : Prop := w.cell? ⟨B, 0, none⟩ = some (.int .u64 (hI x)) ∧ w.cell? ⟨B, 1, none⟩ = some (.int .u64 (lI x)) ∧ w.cell? ⟨B, 2, none⟩ = some (.int .i64 n) ∧ w.frozen? ⟨B, 0, none⟩ = false ∧ w.frozen? ⟨B, 1, none⟩ = false ∧ w.frozen? ⟨B, 2, none⟩ = false
theorem AtP.below {w w' : World} {B : Nat} {x : BitVec 128} {n : Int} (h : AtP w B x n) (hb : Below w.heap.size w w') : AtP w' B x n := by
  obtain ⟨h0, h1, h2, h3, h4, h5⟩ := h
  exact ⟨keepc hb h0, keepc hb h1, keepc hb h2, keepf hb h0 h3, keepf hb h1 h4, keepf hb h2 h5⟩
theorem atp_new (w : World) (B : Nat) (x : BitVec 128) (n : Int) (T : TypeId) (h : B = w.heap.size) : AtP (w.alloc (.cells #[.int .u64 (hI x), .int .u64 (lI x), .int .i64 n] T)) B x n := by
  subst h
  refine ⟨?_, ?_, ?_, ?_, ?_, ?_⟩ <;> simp [go_sem]
theorem bset3 {n C : Nat} {w W : World} (h : Below n w W) (hp : n ≤ C) (u v t : Value) : Below n w (((W.setCell ⟨C, 0, none⟩ u).setCell ⟨C, 1, none⟩ v).setCell ⟨C, 2, none⟩ t) := ((h.setCell hp _).setCell hp _).setCell hp _

set_option maxHeartbeats 1000000 in
theorem cut_any (x : BitVec 128) (n : Int) (w : World) :
    Calls Try.prog 61 #[.agg #[.int .u64 (hI x), .int .u64 (lI x)], .int .i64 n] w fun e w' => e = .returned (.agg #[.int .u64 (hI (cutW x n)), .int .u64 (lI (cutW x n)), .int .i64 n]) ∧ Below w.heap.size w w' := by
  have hbl := fun o p => (bl2 w o p).drew
  unfold cutW
  go_enter Try.func61, Try.ntmps61
  go_wp2
  go_region_held3 (fun w' => w'.cell? ⟨w.heap.size, 0, none⟩ = some (.int .u64 (hI x)) ∧ w'.cell? ⟨w.heap.size, 1, none⟩ = some (.int .u64 (lI x)) ∧ w'.cell? ⟨w.heap.size + 1, 0, none⟩ = some (cv w' (w.heap.size + 1) 0) ∧ w'.cell? ⟨w.heap.size + 1, 1, none⟩ = some (cv w' (w.heap.size + 1) 1) ∧ w'.cell? ⟨w.heap.size + 1, 2, none⟩ = some (cv w' (w.heap.size + 1) 2) ∧ w'.frozen? ⟨w.heap.size + 1, 0, none⟩ = false ∧ w'.frozen? ⟨w.heap.size + 1, 1, none⟩ = false ∧ w'.frozen? ⟨w.heap.size + 1, 2, none⟩ = false ∧ Below w.heap.size w w')
    (first
      | (obtain ⟨k1, k2, k3, k4, k5, k6, k7, k8, k9⟩ := ‹_ ∧ _›; exact ⟨keepc hb2 k1, keepc hb2 k2, cv_of (keepc hb2 k3), cv_of (keepc hb2 k4), cv_of (keepc hb2 k5), keepf hb2 k3 k6, keepf hb2 k4 k7, keepf hb2 k5 k8, keepb hb2 k9⟩)
      | (obtain ⟨k1, k2, k3, k4, k5, k6, k7, k8, k9⟩ := ‹_ ∧ _›; exact ⟨keepc hb1 k1, keepc hb1 k2, cv_of (keepc hb1 k3), cv_of (keepc hb1 k4), cv_of (keepc hb1 k5), keepf hb1 k3 k6, keepf hb1 k4 k7, keepf hb1 k5 k8, keepb hb1 k9⟩)
      | (refine ⟨?_, ?_, cv_new ?_, cv_new ?_, cv_new ?_, ?_, ?_, ?_, ?_⟩ <;> first | (simp [go_sem, *]; done) | exact bset3 (by simp [*]) (by simp) _ _ _))
    (first | (go_at_call 69; refine (mask_any _ _).mono ?_; rintro e w1 ⟨rfl, hb1⟩) | (go_at_call 70; refine (and_any _ _ _).mono ?_; rintro e w2 ⟨rfl, hb2⟩))
  obtain ⟨-, -, -, -, -, -, -, -, kB⟩ := ‹_ ∧ _›
  have e0 : w2.cell? ⟨w.heap.size + 1, 0, none⟩ = some (.int .u64 0) := keepc hb2 (keepc hb1 (by simp [go_sem]))
  have e1 : w2.cell? ⟨w.heap.size + 1, 1, none⟩ = some (.int .u64 0) := keepc hb2 (keepc hb1 (by simp [go_sem]))
  have e2 : w2.cell? ⟨w.heap.size + 1, 2, none⟩ = some (.int .i64 0) := keepc hb2 (keepc hb1 (by simp [go_sem]))
  go_wp2
  exact bodyPost_ret (v := .agg #[.int .u64 (hI (x &&& maskW n)), .int .u64 (lI (x &&& maskW n)), .int .i64 n]) (by simp [results, Try.results61, go_sem, e0, e1, e2]) rfl ⟨rfl, kB⟩

theorem eqw (c x : BitVec 128) : ((hI c == hI x) = true ∧ (lI c == lI x) = true ∧ (c == x) = true) ∨ ((hI c == hI x) = false ∧ (c == x) = false) ∨ ((hI c == hI x) = true ∧ (lI c == lI x) = false ∧ (c == x) = false) := by
  rw [← beq_ints c x]
  cases hI c == hI x <;> cases lI c == lI x <;> simp

theorem pfirst_any (x : BitVec 128) (n : Int) (w : World) :
    Calls Try.prog 36 #[.agg #[.int .u64 (hI x), .int .u64 (lI x), .int .i64 n]] w fun e w' => e = .returned (.agg #[.int .u64 (hI x), .int .u64 (lI x)]) ∧ Below w.heap.size w w' := by
  go_enter Try.func36, Try.ntmps36
  go_wp2
  exact bodyPost_ret (v := .agg #[.int .u64 (hI x), .int .u64 (lI x)]) (by simp [results, Try.results36, go_sem]) rfl ⟨rfl, bl2 _ _ _⟩

end Go.Proofs.Ytofpbommhklooaa
/-
  Whole prefixes and words, compared: one answer, without parting the ways.
-/
namespace Go.Proofs.Ytofpbommhklooaa
open Go.RowKit
set_option linter.unusedSimpArgs false
set_option linter.unusedVariables false

theorem eqP_run (x : BitVec 128) (n : Int) (y : BitVec 128) (m : Int) (w : World) :
    (Op.equalIn 10000 45 (.agg #[.int .u64 (hI x), .int .u64 (lI x), .int .i64 n]) (.agg #[.int .u64 (hI y), .int .u64 (lI y), .int .i64 m])).run Try.prog w = .ok ((x == y) && (n == m)) w := by
  rcases eqw x y with ⟨q1, q2, q3⟩ | ⟨q1, q3⟩ | ⟨q1, q2, q3⟩
  all_goals
    rw [q3]
    go_simp
    try simp [*]
    try (by_cases e : n = m <;> simp [e])
theorem eqW_run (x y : BitVec 128) (w : World) :
    (Op.equalIn 10000 27 (.agg #[.int .u64 (hI x), .int .u64 (lI x)]) (.agg #[.int .u64 (hI y), .int .u64 (lI y)])).run Try.prog w = .ok (x == y) w := by
  rcases eqw x y with ⟨q1, q2, q3⟩ | ⟨q1, q3⟩ | ⟨q1, q2, q3⟩
  all_goals
    rw [q3]
    go_simp
    try simp [*]
end Go.Proofs.Ytofpbommhklooaa
/-
  What the sequence of package prefix's rising tells.
-/
namespace Go.Proofs.Ytofpbommhklooaa
open Go.RowKit Go.Shelf
set_option linter.unusedSimpArgs false
set_option linter.unusedVariables false
attribute [local go_sem] Oper.semAt_some

theorem hidX {p : Prop} (h : p) : Hid p := h
/-- The words that rise by a step. -/
def ris (st : BitVec 128) : Nat → BitVec 128 → List (BitVec 128)
  | 0, x => [x]
  | n + 1, x => x :: ris st n (x + st)
/-- So many steps on it comes to the last one, and no sooner. -/
def RisTo (st la : BitVec 128) : Nat → BitVec 128 → Prop
  | 0, x => x = la
  | n + 1, x => x ≠ la ∧ RisTo st la n (x + st)
theorem ris_len (st : BitVec 128) : ∀ (n : Nat) (x : BitVec 128), (ris st n x).length = n + 1
  | 0, x => rfl
  | n + 1, x => by rw [ris, List.length_cons, ris_len st n]
theorem ris_to (st la : BitVec 128) (hs : 0 < st.toNat) : ∀ (n : Nat) (x : BitVec 128), x.toNat + n * st.toNat = la.toNat → RisTo st la n x
  | 0, x, h => BitVec.eq_of_toNat_eq (by simpa using h)
  | n + 1, x, h => by
    have hl := la.isLt
    have e : (n + 1) * st.toNat = n * st.toNat + st.toNat := Nat.succ_mul n _
    refine ⟨fun q => ?_, ris_to st la hs n (x + st) ?_⟩
    · rw [q] at h
      omega
    · rw [BitVec.toNat_add, Nat.mod_eq_of_lt (by omega)]
      omega
theorem ris_one (st la : BitVec 128) : ∀ (m m' : Nat) (y : BitVec 128), RisTo st la m y → RisTo st la m' y → m = m'
  | 0, 0, y, _, _ => rfl
  | 0, m' + 1, y, h, h' => absurd h h'.1
  | m + 1, 0, y, h, h' => absurd h' h.1
  | m + 1, m' + 1, y, h, h' => by rw [ris_one st la m m' (y + st) h.2 h'.2]
theorem at_one {W : World} {b : Nat} {x y : BitVec 128} (h : At W b x) (g : At W b y) : x = y := by
  have a := h.1.symm.trans g.1
  have b := h.2.1.symm.trans g.2.1
  have a' : hI x = hI y := by simpa using a
  have b' : lI x = lI y := by simpa using b
  rcases eqw x y with ⟨-, -, q⟩ | ⟨q, -⟩ | ⟨-, q, -⟩
  · simpa using q
  · rw [a'] at q
    simp at q
  · rw [b'] at q
    simp at q
theorem mu_ex (st la : BitVec 128) : ∃ mu : Value → World → Nat, ∀ (b : Nat) (y : BitVec 128) (m : Nat) (wr : World), At wr b y → RisTo st la m y → mu (.pointer (some ⟨b, 0, none⟩)) wr = m := by
  classical
  refine ⟨fun p wr => if h : ∃ m : Nat, ∃ b y, p = .pointer (some ⟨b, 0, none⟩) ∧ At wr b y ∧ RisTo st la m y then Classical.choose h else 0, fun b y m wr h1 h2 => ?_⟩
  have hex : ∃ m : Nat, ∃ b' y', (Value.pointer (some ⟨b, 0, none⟩)) = .pointer (some ⟨b', 0, none⟩) ∧ At wr b' y' ∧ RisTo st la m y' := ⟨m, b, y, rfl, h1, h2⟩
  simp only
  rw [dif_pos hex]
  obtain ⟨b', y', e, h3, h4⟩ := Classical.choose_spec hex
  injection e with e
  injection e with e
  injection e with e
  subst e
  have := at_one h1 h3
  subst this
  exact ris_one st la _ _ y h4 h2
def encW (x : BitVec 128) : Array Value := #[.agg #[.int .u64 (hI x), .int .u64 (lI x)]]
theorem below_grownX {w W : World} {r : Option Nat} (h : Below w.heap.size w W) : w.grownBy W r := ⟨h.os, h.tape, h.output, h.size, fun z h1 _ => h.block z h1⟩
/-- What rising's sequence reads. -/
structure RsM (Z : Nat → Prop) (B A L T : Nat) (x la st : BitVec 128) (W : World) : Prop where
  a : At W A x
  l : At W L la
  s : At W T st
  za : Z A ∨ B ≤ A
  zl : Z L ∨ B ≤ L
  zs : Z T ∨ B ≤ T
theorem At.kw {Z : Nat → Prop} {B : Nat} {W W' : World} {b : Nat} {x : BitVec 128} (k : At W b x) (h : KW Z B W W') (hz : Z b ∨ B ≤ b) : At W' b x := by
  obtain ⟨c0, c1, f0, f1, hlt⟩ := k
  have e : W'.heap[b]? = W.heap[b]? := by rw [h.2 b _ (Array.getElem?_eq_getElem hlt) hz, Array.getElem?_eq_getElem hlt]
  exact ⟨(World.cell?_of_block (a := ⟨b, 0, none⟩) e).trans c0, (World.cell?_of_block (a := ⟨b, 1, none⟩) e).trans c1, (World.frozen?_of_block (a := ⟨b, 0, none⟩) e).trans f0, (World.frozen?_of_block (a := ⟨b, 1, none⟩) e).trans f1, Nat.lt_of_lt_of_le hlt h.1⟩
theorem RsM.kw {Z : Nat → Prop} {B A L T : Nat} {x la st : BitVec 128} {W W' : World} (k : RsM Z B A L T x la st W) (h : KW Z B W W') : RsM Z B A L T x la st W' := ⟨k.a.kw h k.za, k.l.kw h k.zl, k.s.kw h k.zs, k.za, k.zl, k.zs⟩
theorem At.setR {W : World} {B : Nat} {x : BitVec 128} (k : At W B x) (y : BitVec 128) : At ((W.setCell ⟨B, 0, none⟩ (.int .u64 (hI y))).setCell ⟨B, 1, none⟩ (.int .u64 (lI y))) B y := by
  obtain ⟨a, b, c, d, e⟩ := k
  refine ⟨?_, ?_, ?_, ?_, ?_⟩ <;> simp [go_sem, *]
end Go.Proofs.Ytofpbommhklooaa
/-
  Plain numbers, more: how many noughts stand first; what a stretch of bits is; a stretch laid in bit by bit.
-/
namespace Go.Proofs.Ytofpbommhklooaa
open Go.RowKit
set_option linter.unusedSimpArgs false
set_option linter.unusedVariables false

/-- How many noughts stand first. -/
def leadN (z : BitVec 128) : Nat := if z.toNat = 0 then 128 else 127 - z.toNat.log2
theorem lead_char (z : BitVec 128) (k : Nat) (hk : k ≤ 128) (h1 : z.toNat < 2 ^ (128 - k)) (h2 : k = 128 ∨ 2 ^ (127 - k) ≤ z.toNat) : leadN z = k := by
  unfold leadN
  split
  · rename_i h
    rcases h2 with h2 | h2
    · exact h2.symm
    · rw [h] at h2; have := Nat.two_pow_pos (127 - k); omega
  · rename_i h
    have hlt : z.toNat.log2 < 128 - k := (Nat.log2_lt h).mpr h1
    rcases h2 with h2 | h2
    · subst h2; simp at hlt
    · have := (Nat.le_log2 h).mpr h2; omega
theorem bit_step (z : BitVec 128) (k : Nat) (hk : k < 128) (h : z.toNat < 2 ^ (128 - k)) : (z.getLsbD (127 - k) = false → z.toNat < 2 ^ (128 - (k + 1))) ∧ (z.getLsbD (127 - k) = true → 2 ^ (127 - k) ≤ z.toNat) := by
  have e : 128 - k = (127 - k) + 1 := by omega
  have e2 : 128 - (k + 1) = 127 - k := by omega
  rw [e, Nat.pow_succ] at h
  rw [e2]
  have t : z.getLsbD (127 - k) = decide (z.toNat / 2 ^ (127 - k) % 2 = 1) := by
    unfold BitVec.getLsbD; rw [Nat.testBit_eq_decide_div_mod_eq]
  have hd : z.toNat / 2 ^ (127 - k) < 2 := by
    apply Nat.div_lt_of_lt_mul; omega
  constructor
  · intro hf
    rw [t] at hf
    have hq := of_decide_eq_false hf
    have : z.toNat / 2 ^ (127 - k) = 0 := by
      generalize z.toNat / 2 ^ (127 - k) = q at hq hd
      omega
    rcases Nat.div_eq_zero_iff.mp this with h0 | h0
    · have := Nat.two_pow_pos (127 - k); omega
    · exact h0
  · intro hf
    rw [t] at hf; simp at hf
    apply Classical.byContradiction; intro hn
    have : z.toNat / 2 ^ (127 - k) = 0 := Nat.div_eq_of_lt (by omega)
    omega
theorem bitZ_eq (x y : BitVec 128) (k : Nat) (hk : k < 128) : bitZ x (k : Int) = bitZ y (k : Int) ↔ (x ^^^ y).getLsbD (127 - k) = false := by
  have e : (127 - (k : Int)).toNat = 127 - k := by omega
  unfold bitZ
  rw [bitB_in x k (by omega) (by omega), bitB_in y k (by omega) (by omega), e, BitVec.getLsbD_xor]
  cases x.getLsbD (127 - k) <;> cases y.getLsbD (127 - k) <;> simp

/-- Is there such a stretch? -/
def fitB (f n : Int) : Bool := decide (0 ≤ f) && decide (f ≤ 128) && decide (0 ≤ n) && decide (n ≤ 128 - f)
theorem fitB_t {f n : Int} (h : fitB f n = true) : 0 ≤ f ∧ f ≤ 128 ∧ 0 ≤ n ∧ n ≤ 128 - f := by
  unfold fitB at h; simp at h; omega
theorem lead_wide (v : BitVec 128) (n : Int) (h0 : 0 ≤ n) (h1 : n ≤ 128) : ((leadN v : Nat) : Int) < 128 - n ↔ ¬ v >>> n.toNat = 0#128 := by
  have hv := v.isLt
  have key : v >>> n.toNat = 0#128 ↔ v.toNat < 2 ^ n.toNat := by
    constructor
    · intro h
      have := congrArg BitVec.toNat h
      rw [BitVec.toNat_ushiftRight, Nat.shiftRight_eq_div_pow] at this
      have this2 : v.toNat / 2 ^ n.toNat = 0 := this
      rcases Nat.div_eq_zero_iff.mp this2 with h0 | h0
      · have := Nat.two_pow_pos n.toNat; omega
      · exact h0
    · intro h
      apply BitVec.eq_of_toNat_eq
      rw [BitVec.toNat_ushiftRight, Nat.shiftRight_eq_div_pow, Nat.div_eq_of_lt h]; rfl
  rw [key]
  unfold leadN
  split
  · rename_i h
    rw [h]; have := Nat.two_pow_pos n.toNat
    constructor
    · intro; omega
    · intro; omega
  · rename_i h
    have hl : v.toNat.log2 < 128 := (Nat.log2_lt h).mpr hv
    have := Nat.log2_lt (k := n.toNat) h
    constructor
    · intro g g2
      have := this.mpr g2; omega
    · intro g
      have : ¬ v.toNat.log2 < n.toNat := fun q => g (this.mp q)
      omega

/-- The stretch from f on, n bits long, as a number. -/
def readW (x : BitVec 128) (f n : Int) : BitVec 128 := (x <<< f.toNat) >>> (128 - n).toNat
/-- x with v laid into that stretch. -/
def withW (x : BitVec 128) (f n : Int) (v : BitVec 128) : BitVec 128 := x ^^^ ((readW x f n ^^^ v) <<< (128 - f - n).toNat)
theorem readW_bit (x : BitVec 128) (f n : Int) (h : fitB f n = true) (j : Nat) : (readW x f n).getLsbD j = (decide (j < n.toNat) && x.getLsbD ((128 - f - n).toNat + j)) := by
  obtain ⟨h0, h1, h2, h3⟩ := fitB_t h
  unfold readW
  simp only [BitVec.getLsbD_ushiftRight, BitVec.getLsbD_shiftLeft]
  by_cases c : j < n.toNat
  · have a : (128 - n).toNat + j < 128 := by omega
    have b : ¬ (128 - n).toNat + j < f.toNat := by omega
    have e : (128 - n).toNat + j - f.toNat = (128 - f - n).toNat + j := by omega
    simp only [a, b, e, c, decide_true, decide_false, Bool.true_and, Bool.not_false]
  · have a : ¬ (128 - n).toNat + j < 128 := by omega
    simp only [a, c, decide_false, Bool.false_and]
theorem small_bit (v : BitVec 128) (n : Nat) (h : v >>> n = 0#128) (j : Nat) (hj : n ≤ j) : v.getLsbD j = false := by
  have := congrArg (fun z => z.getLsbD (j - n)) h
  simp only [BitVec.getLsbD_ushiftRight, BitVec.getLsbD_zero] at this
  have e : n + (j - n) = j := by omega
  rw [e] at this; exact this
theorem withW_bit (x v : BitVec 128) (f n : Int) (h : fitB f n = true) (hv : v >>> n.toNat = 0#128) (j : Nat) (hj : j < 128) :
    (withW x f n v).getLsbD j = if (128 - f - n).toNat ≤ j ∧ j < (128 - f - n).toNat + n.toNat then v.getLsbD (j - (128 - f - n).toNat) else x.getLsbD j := by
  obtain ⟨h0, h1, h2, h3⟩ := fitB_t h
  unfold withW
  simp only [BitVec.getLsbD_xor, BitVec.getLsbD_shiftLeft, hj, decide_true, Bool.true_and]
  by_cases c : j < (128 - f - n).toNat
  · have d : ¬ ((128 - f - n).toNat ≤ j ∧ j < (128 - f - n).toNat + n.toNat) := by omega
    simp only [c, d, decide_true, Bool.not_true, Bool.false_and, Bool.xor_false, if_false]
  · rw [readW_bit x f n h]
    have e : (128 - f - n).toNat + (j - (128 - f - n).toNat) = j := by omega
    rw [e]
    by_cases d : j < (128 - f - n).toNat + n.toNat
    · have a : (128 - f - n).toNat ≤ j ∧ j < (128 - f - n).toNat + n.toNat := by omega
      have b : j - (128 - f - n).toNat < n.toNat := by omega
      simp only [a, b, c, and_self, if_true, decide_true, decide_false, Bool.not_false, Bool.true_and]
      cases x.getLsbD j <;> simp
    · have a : ¬ ((128 - f - n).toNat ≤ j ∧ j < (128 - f - n).toNat + n.toNat) := by omega
      have b : ¬ j - (128 - f - n).toNat < n.toNat := by omega
      rw [small_bit v n.toNat hv (j - (128 - f - n).toNat) (by omega)]
      simp only [a, b, if_false, decide_false, Bool.false_and, Bool.xor_false, Bool.and_false]
/-- The first k bits of the stretch are laid in. -/
def foldStepW (x v : BitVec 128) (f n : Int) : Nat → BitVec 128
  | 0 => x
  | k + 1 => putW (foldStepW x v f n k) (f + k) (bitZ v (128 - n + k))
theorem stepW_bit (x v : BitVec 128) (f n : Int) (h : fitB f n = true) (k : Nat) (hk : (k : Int) ≤ n) (j : Nat) (hj : j < 128) :
    (foldStepW x v f n k).getLsbD j = if (128 - f).toNat - k ≤ j ∧ j < (128 - f).toNat then v.getLsbD (j - (128 - f - n).toNat) else x.getLsbD j := by
  obtain ⟨h0, h1, h2, h3⟩ := fitB_t h
  induction k with
  | zero =>
    have : ¬ ((128 - f).toNat - 0 ≤ j ∧ j < (128 - f).toNat) := by omega
    rw [if_neg this]; rfl
  | succ k ih =>
    unfold foldStepW
    rw [putW_bit _ _ _ (bitZ_01 _ _) (by omega) (by omega) _ hj, ih (by omega)]
    have t : decide (bitZ v (128 - n + k) = 1) = v.getLsbD (n - 1 - k).toNat := by
      unfold bitZ
      rw [bitB_in v _ (by omega) (by omega)]
      have e : (127 - (128 - n + (k : Int))).toNat = (n - 1 - k).toNat := by omega
      rw [e]; cases v.getLsbD (n - 1 - k).toNat <;> simp
    rw [t]
    by_cases c : j = (127 - (f + k)).toNat
    · have a : (128 - f).toNat - (k + 1) ≤ j ∧ j < (128 - f).toNat := by omega
      have e : (n - 1 - k).toNat = j - (128 - f - n).toNat := by omega
      rw [if_pos c, if_pos a, e]
    · rw [if_neg c]
      by_cases a : (128 - f).toNat - k ≤ j ∧ j < (128 - f).toNat
      · rw [if_pos a, if_pos (by omega)]
      · rw [if_neg a, if_neg (by omega)]
theorem step_with (x v : BitVec 128) (f n : Int) (h : fitB f n = true) (hv : v >>> n.toNat = 0#128) (k : Nat) (hk : (k : Int) = n) : foldStepW x v f n k = withW x f n v := by
  obtain ⟨h0, h1, h2, h3⟩ := fitB_t h
  apply BitVec.eq_of_getLsbD_eq; intro j hj
  rw [stepW_bit x v f n h k (by omega) j hj, withW_bit x v f n h hv j hj]
  by_cases a : (128 - f).toNat - k ≤ j ∧ j < (128 - f).toNat
  · rw [if_pos a, if_pos (by omega)]
  · rw [if_neg a, if_neg (by omega)]
end Go.Proofs.Ytofpbommhklooaa
/-
  Plain numbers: the sum of a number's bits, as it is reckoned by halves.
-/
namespace Go.Proofs.Ytofpbommhklooaa
open Go.RowKit
set_option linter.unusedSimpArgs false
set_option linter.unusedVariables false

def ocB (b : Nat) : Nat := b % 2 + b / 2 % 2 + b / 4 % 2 + b / 8 % 2 + b / 16 % 2 + b / 32 % 2 + b / 64 % 2 + b / 128 % 2
def bm (f : Nat → Nat) : Nat → Nat → Nat
  | 0, _ => 0
  | k + 1, x => f (x % 256) + 256 * bm f k (x / 256)
def mm (m : Nat) : Nat → Nat
  | 0 => 0
  | k + 1 => m + 256 * mm m k
def oc : Nat → Nat → Nat
  | 0, _ => 0
  | k + 1, x => ocB (x % 256) + oc k (x / 256)
def f1 (b : Nat) : Nat := ((b / 2) &&& 85) + (b &&& 85)
def f2 (b : Nat) : Nat := ((b / 4) &&& 51) + (b &&& 51)
theorem and_split (a m M : Nat) (hm : m < 256) : a &&& (m + 256 * M) = ((a % 256) &&& m) + 256 * ((a / 256) &&& M) := by
  have h1 : (a &&& (m + 256 * M)) % 2 ^ 8 = (a % 2 ^ 8) &&& ((m + 256 * M) % 2 ^ 8) := Nat.and_mod_two_pow
  have h2 : (a &&& (m + 256 * M)) / 2 ^ 8 = (a / 2 ^ 8) &&& ((m + 256 * M) / 2 ^ 8) := Nat.and_div_two_pow
  have e1 : (m + 256 * M) % 2 ^ 8 = m := by omega
  have e2 : (m + 256 * M) / 2 ^ 8 = M := by omega
  rw [e1] at h1
  rw [e2] at h2
  have e3 : (2 : Nat) ^ 8 = 256 := by decide
  rw [e3] at h1 h2
  have := Nat.div_add_mod (a &&& (m + 256 * M)) 256
  omega
set_option maxRecDepth 100000 in
theorem b1 : ∀ b : Fin 256, ∀ c : Fin 2, (b.val / 2 + 128 * c.val) &&& 85 = (b.val / 2) &&& 85 := by decide +kernel
theorem b2 : ∀ b : Fin 256, ∀ c : Fin 4, (b.val / 4 + 64 * c.val) &&& 51 = (b.val / 4) &&& 51 := by decide +kernel
theorem b3 : ∀ b : Fin 256, ∀ c : Fin 5, (f2 (f1 b.val) / 16 + 16 * c.val + f2 (f1 b.val)) &&& 15 = ocB b.val := by decide +kernel
theorem b4 : ∀ b : Fin 256, f1 b.val < 256 ∧ f2 (f1 b.val) % 16 ≤ 4 ∧ f2 (f1 b.val) / 16 ≤ 4 ∧ ocB b.val ≤ 8 ∧ ocB (255 - b.val) + ocB b.val = 8 := by decide +kernel
theorem l1 (k : Nat) : ∀ x, ((x / 2) &&& mm 85 k) + (x &&& mm 85 k) = bm f1 k x := by
  induction k with
  | zero => intro x; simp [mm, bm]
  | succ k ih =>
    intro x
    simp only [mm, bm]
    rw [and_split _ 85 _ (by decide), and_split _ 85 _ (by decide)]
    have e1 : (x / 2) % 256 = (x % 256) / 2 + 128 * (x / 256 % 2) := by omega
    have e2 : x / 2 / 256 = x / 256 / 2 := by omega
    have hb := b1 ⟨x % 256, by omega⟩ ⟨x / 256 % 2, by omega⟩
    have := ih (x / 256)
    rw [e1, e2]
    simp only at hb
    rw [hb]
    have hf : f1 (x % 256) = ((x % 256 / 2) &&& 85) + ((x % 256) &&& 85) := rfl
    omega
theorem l2 (k : Nat) : ∀ x, ((x / 4) &&& mm 51 k) + (x &&& mm 51 k) = bm f2 k x := by
  induction k with
  | zero => intro x; simp [mm, bm]
  | succ k ih =>
    intro x
    simp only [mm, bm]
    rw [and_split _ 51 _ (by decide), and_split _ 51 _ (by decide)]
    have e1 : (x / 4) % 256 = (x % 256) / 4 + 64 * (x / 256 % 4) := by omega
    have e2 : x / 4 / 256 = x / 256 / 4 := by omega
    have hb := b2 ⟨x % 256, by omega⟩ ⟨x / 256 % 4, by omega⟩
    have := ih (x / 256)
    rw [e1, e2]
    simp only at hb
    rw [hb]
    have hf : f2 (x % 256) = ((x % 256 / 4) &&& 51) + ((x % 256) &&& 51) := rfl
    omega
theorem bm_bm (k : Nat) : ∀ x, bm f2 k (bm f1 k x) = bm (fun b => f2 (f1 b)) k x := by
  induction k with
  | zero => intro x; rfl
  | succ k ih =>
    intro x
    have h := (b4 ⟨x % 256, by omega⟩).1
    simp only at h
    simp only [bm]
    have e1 : (f1 (x % 256) + 256 * bm f1 k (x / 256)) % 256 = f1 (x % 256) := by omega
    have e2 : (f1 (x % 256) + 256 * bm f1 k (x / 256)) / 256 = bm f1 k (x / 256) := by omega
    rw [e1, e2, ih]
theorem bm_mod (k : Nat) (x : Nat) : bm (fun b => f2 (f1 b)) k x % 16 ≤ 4 := by
  cases k with
  | zero => simp [bm]
  | succ k =>
    have h := (b4 ⟨x % 256, by omega⟩).2.1
    simp only at h
    simp only [bm]; omega
theorem l3 (k : Nat) : ∀ x, (bm (fun b => f2 (f1 b)) k x / 16 + bm (fun b => f2 (f1 b)) k x) &&& mm 15 k = bm ocB k x := by
  induction k with
  | zero => intro x; simp [mm, bm]
  | succ k ih =>
    intro x
    simp only [mm]
    rw [and_split _ 15 _ (by decide)]
    have hm := bm_mod k (x / 256)
    have h := (b4 ⟨x % 256, by omega⟩).2.1
    have h' := (b4 ⟨x % 256, by omega⟩).2.2.1
    have hb := b3 ⟨x % 256, by omega⟩ ⟨bm (fun b => f2 (f1 b)) k (x / 256) % 16, by omega⟩
    have := ih (x / 256)
    simp only [bm] at *
    generalize bm (fun b => f2 (f1 b)) k (x / 256) = y at *
    generalize f2 (f1 (x % 256)) = g at *
    have e1 : ((g + 256 * y) / 16 + (g + 256 * y)) % 256 = g / 16 + 16 * (y % 16) + g := by omega
    have e2 : ((g + 256 * y) / 16 + (g + 256 * y)) / 256 = y / 16 + y := by omega
    rw [e1, e2, hb, this]
theorem key (n a B z : Nat) (h : a < n) (e : z = a + n * B) : z / n = B := by
  rw [e, Nat.add_mul_div_left _ _ (by omega), Nat.div_eq_of_lt h]; omega
theorem add2 (a b R S : Nat) : (a + 256 * R) + (b + 256 * S) = (a + b) + 256 * (R + S) := by omega
theorem fold8 (q0 q1 q2 q3 q4 q5 q6 q7 : Nat) (c : q0 ≤ 8 ∧ q1 ≤ 8 ∧ q2 ≤ 8 ∧ q3 ≤ 8 ∧ q4 ≤ 8 ∧ q5 ≤ 8 ∧ q6 ≤ 8 ∧ q7 ≤ 8) (z z4 z5 z6 : Nat) (hz : z = q0 + 256 * (q1 + 256 * (q2 + 256 * (q3 + 256 * (q4 + 256 * (q5 + 256 * (q6 + 256 * q7)))))))
    (h4 : z4 = z + z / 256) (h5 : z5 = z4 + z4 / 65536) (h6 : z6 = z5 + z5 / 4294967296) : z6 % 128 = q0 + q1 + q2 + q3 + q4 + q5 + q6 + q7 := by
  have k4 : z / 256 = q1 + 256 * (q2 + 256 * (q3 + 256 * (q4 + 256 * (q5 + 256 * (q6 + 256 * q7))))) := key 256 q0 _ z (by omega) hz
  have t4 : z4 = (q0 + q1) + 256 * ((q1 + q2) + 256 * ((q2 + q3) + 256 * ((q3 + q4) + 256 * ((q4 + q5) + 256 * ((q5 + q6) + 256 * (q6 + 256 * q7 + q7)))))) := by
    rw [h4, k4, hz]; simp only [add2]
  have k5 : z4 / 65536 = (q2 + q3) + 256 * ((q3 + q4) + 256 * ((q4 + q5) + 256 * ((q5 + q6) + 256 * (q6 + 256 * q7 + q7)))) := by
    refine key 65536 ((q0 + q1) + 256 * (q1 + q2)) _ z4 (by clear hz h4 h5 h6 k4 t4; omega) ?_
    rw [t4]; generalize (q2 + q3) + 256 * ((q3 + q4) + 256 * ((q4 + q5) + 256 * ((q5 + q6) + 256 * (q6 + 256 * q7 + q7)))) = B
    clear hz h4 h5 h6 k4 t4; omega
  have t5 : z5 = (q0 + q1 + (q2 + q3)) + 256 * ((q1 + q2 + (q3 + q4)) + 256 * ((q2 + q3 + (q4 + q5)) + 256 * ((q3 + q4 + (q5 + q6)) + 256 * ((q4 + q5) + 256 * ((q5 + q6) + 256 * (q6 + 256 * q7 + q7)) + (q6 + 256 * q7 + q7))))) := by
    rw [h5, k5, t4]; simp only [add2]
  have k6 : z5 / 4294967296 = (q4 + q5) + 256 * ((q5 + q6) + 256 * (q6 + 256 * q7 + q7)) + (q6 + 256 * q7 + q7) := by
    refine key 4294967296 ((q0 + q1 + (q2 + q3)) + 256 * ((q1 + q2 + (q3 + q4)) + 256 * ((q2 + q3 + (q4 + q5)) + 256 * (q3 + q4 + (q5 + q6))))) _ z5 (by clear hz h4 h5 h6 k4 t4 k5 t5; omega) ?_
    rw [t5]; generalize (q4 + q5) + 256 * ((q5 + q6) + 256 * (q6 + 256 * q7 + q7)) + (q6 + 256 * q7 + q7) = B
    clear hz h4 h5 h6 k4 t4 k5 t5; omega
  rw [h6, k6, t5]
  generalize (q1 + q2 + (q3 + q4)) + 256 * ((q2 + q3 + (q4 + q5)) + 256 * ((q3 + q4 + (q5 + q6)) + 256 * ((q4 + q5) + 256 * ((q5 + q6) + 256 * (q6 + 256 * q7 + q7)) + (q6 + 256 * q7 + q7)))) = B
  generalize (q5 + q6) + 256 * (q6 + 256 * q7 + q7) = C
  clear hz h4 h5 h6 k4 t4 k5 t5 k6
  have e : q0 + q1 + (q2 + q3) + 256 * B + (q4 + q5 + 256 * C + (q6 + 256 * q7 + q7)) = (q0 + q1 + q2 + q3 + q4 + q5 + q6 + q7) + 128 * (2 * (B + C + q7)) := by omega
  rw [e, Nat.add_mul_mod_self_left, Nat.mod_eq_of_lt (by omega)]
theorem bmo_lt (k : Nat) : ∀ x, bm ocB k x ≤ 8 * mm 1 k := by
  induction k with
  | zero => intro x; simp [bm, mm]
  | succ k ih =>
    intro x; have := ih (x / 256); have h1 := (b4 ⟨x % 256, by omega⟩).2.2.2.1; simp only at h1
    simp only [bm, mm]; omega
theorem oc_fold (x : Nat) (z4 z5 z6 : Nat) (h4 : z4 = bm ocB 8 x + bm ocB 8 x / 256) (h5 : z5 = z4 + z4 / 65536) (h6 : z6 = z5 + z5 / 4294967296) : z4 < 18446744073709551616 ∧ z5 < 18446744073709551616 ∧ z6 < 9223372036854775808 ∧ z6 % 128 = oc 8 x := by
  have hb := bmo_lt 8 x
  have e1 : mm 1 8 = 72340172838076673 := by decide
  rw [e1] at hb
  refine ⟨by omega, by omega, by omega, ?_⟩
  have c : ∀ y, ocB (y % 256) ≤ 8 := fun y => (b4 ⟨y % 256, by omega⟩).2.2.2.1
  have := fold8 (ocB (x % 256)) (ocB (x / 256 % 256)) (ocB (x / 256 / 256 % 256)) (ocB (x / 256 / 256 / 256 % 256)) (ocB (x / 256 / 256 / 256 / 256 % 256)) (ocB (x / 256 / 256 / 256 / 256 / 256 % 256)) (ocB (x / 256 / 256 / 256 / 256 / 256 / 256 % 256)) (ocB (x / 256 / 256 / 256 / 256 / 256 / 256 / 256 % 256)) ⟨c _, c _, c _, c _, c _, c _, c _, c _⟩ (bm ocB 8 x) z4 z5 z6 (by simp only [bm]; rfl) h4 h5 h6
  rw [this]; simp only [oc]; omega
theorem oc_le (k : Nat) : ∀ x, oc k x ≤ 8 * k := by
  induction k with
  | zero => intro x; simp [oc]
  | succ k ih => intro x; have := ih (x / 256); have h := (b4 ⟨x % 256, by omega⟩).2.2.2.1; simp only at h; simp only [oc]; omega
theorem oc_not (k : Nat) : ∀ x, x < 256 ^ k → oc k (256 ^ k - 1 - x) + oc k x = 8 * k := by
  induction k with
  | zero => intro x _; simp [oc]
  | succ k ih =>
    intro x hx
    have hp : 0 < 256 ^ k := Nat.pow_pos (by decide)
    have hx2 : x / 256 < 256 ^ k := by rw [Nat.div_lt_iff_lt_mul (by decide)]; rw [Nat.pow_succ] at hx; omega
    have := ih (x / 256) hx2
    have hb := (b4 ⟨x % 256, by omega⟩).2.2.2.2
    simp only at hb
    simp only [oc]
    rw [Nat.pow_succ]
    generalize 256 ^ k = p at *
    have e1 : (p * 256 - 1 - x) % 256 = 255 - x % 256 := by omega
    have e2 : (p * 256 - 1 - x) / 256 = p - 1 - x / 256 := by omega
    rw [e1, e2]; omega
end Go.Proofs.Ytofpbommhklooaa
