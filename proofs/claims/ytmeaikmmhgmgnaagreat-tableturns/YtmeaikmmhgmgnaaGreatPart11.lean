/-
  Part 11 of the proof: 7 texts, one behind the other.
-/
import Derived.Test.YtmeaikmmhgmgnaaGreatPart3
import Derived.Laws.IdiomStrings
import Derived.Test.YtmeaikmmhgmgnaaGreatPart10
import Derived.Test.YtmeaikmmhgmgnaaGreatPart9
namespace Go.Proofs.YtmeaikmmhgmgnaaGreat
open Go.RowKit
set_option linter.unusedSimpArgs false
set_option linter.unusedVariables false

theorem tmod_ways (a n : Int) (h : 0 < n) : (a.tmod n < 0 ∧ a.tmod n + n = a % n) ∨ (0 ≤ a.tmod n ∧ a.tmod n = a % n) := by
  by_cases h0 : 0 ≤ a
  · right
    have : a.tmod n = a % n := Int.tmod_eq_emod_of_nonneg h0
    exact ⟨by rw [this]; exact Int.emod_nonneg _ (by omega), this⟩
  · have e := Int.tmod_eq_emod (a := a) (b := n)
    have b1 := Int.emod_nonneg a (b := n) (by omega)
    have b2 := Int.emod_lt_of_pos a h
    split at e
    · right; omega
    · left
      have : (n.natAbs : Int) = n := by omega
      omega
def decF : Nat → Nat → List UInt8 → List UInt8
  | 0, _, t => t
  | f + 1, m, t => if m = 0 ∧ ¬ t = [] then t else decF f (m / 10) (UInt8.ofNat (48 + m % 10) :: t)
def decL (n : Nat) : List UInt8 := decF 20 n []

theorem one_conv (w : World) (d : Nat) (h : d < 256) :
    (convert 53 9 (.slice (some ⟨w.heap.size, 0, none⟩) 1 1)).run Tryz.prog (w.alloc (.cells #[.int .u8 (d : Int)] 5)) = .ok (.string ⟨#[UInt8.ofNat d]⟩) (w.alloc (.cells #[.int .u8 (d : Int)] 5)) := by
  have := run_convert_bytes_back (P := Tryz.prog) (w.alloc (.cells #[.int .u8 (d : Int)] 5)) 53 9 5 ⟨w.heap.size, 0, none⟩ 1 [UInt8.ofNat d] Tryz.underlying53 Tryz.underlying5 Tryz.underlying9 (by
    intro j hj
    have : j = 0 := by simpa using hj
    subst this
    have e : (UInt8.ofNat d).toNat = d := by rw [UInt8.toNat_ofNat']; omega
    simp [go_sem, Addr.add, e])
  exact this
theorem cat_one (d : UInt8) (t : List UInt8) : ((⟨#[d]⟩ : ByteArray) ++ ⟨t.toArray⟩) = ⟨(d :: t).toArray⟩ := by
  apply ByteArray.ext
  simp
theorem decF_zero (f m : Nat) (t : List UInt8) (h : m = 0 ∧ ¬ t = []) : decF f m t = t := by
  cases f with
  | zero => rfl
  | succ f => exact if_pos h

theorem isEmpty_of (t : List UInt8) (S : ByteArray) (h : S = ⟨t.toArray⟩) : S.toList.isEmpty = t.isEmpty := by
  subst h
  rw [Lib.toList_data]
def sizeOf0 (b : Value) : Nat := match b with | .string s => if s.size = 0 then 1 else 0 | _ => 0

end Go.Proofs.YtmeaikmmhgmgnaaGreat
namespace Go.Proofs.YtmeaikmmhgmgnaaGreat
open Go.RowKit
set_option linter.unusedSimpArgs false
set_option linter.unusedVariables false

end Go.Proofs.YtmeaikmmhgmgnaaGreat
namespace Go.Proofs.YtmeaikmmhgmgnaaGreat
open Go.RowKit
set_option linter.unusedSimpArgs false
set_option linter.unusedVariables false

theorem mask_zero (z : BitVec 128) (n : Int) (h0 : 0 ≤ n) (h1 : n ≤ 128) : z &&& maskW n = 0#128 ↔ z >>> (128 - n).toNat = 0#128 := by
  constructor
  · intro h
    apply BitVec.eq_of_getLsbD_eq
    intro j hj
    have := congrArg (fun y => y.getLsbD ((128 - n).toNat + j)) h
    simp only [BitVec.getLsbD_and, BitVec.getLsbD_zero] at this
    by_cases c : (128 - n).toNat + j < 128
    · rw [maskW_bit n _ c] at this
      have d : decide (128 - n.toNat ≤ (128 - n).toNat + j) = true := by simp; omega
      rw [d, Bool.and_true] at this
      rw [BitVec.getLsbD_ushiftRight, this, BitVec.getLsbD_zero]
    · rw [BitVec.getLsbD_ushiftRight, BitVec.getLsbD_of_ge _ _ (by omega), BitVec.getLsbD_zero]
  · intro h
    apply BitVec.eq_of_getLsbD_eq
    intro j hj
    rw [BitVec.getLsbD_and, maskW_bit n j hj, BitVec.getLsbD_zero]
    by_cases c : 128 - n.toNat ≤ j
    · have := congrArg (fun y => y.getLsbD (j - (128 - n).toNat)) h
      simp only [BitVec.getLsbD_ushiftRight, BitVec.getLsbD_zero] at this
      rw [show (128 - n).toNat + (j - (128 - n).toNat) = j by omega] at this
      rw [this, Bool.false_and]
    · simp [c]
theorem lead_mask (z : BitVec 128) (n : Int) (h0 : 0 ≤ n) (h1 : n ≤ 128) : n ≤ ((leadN z : Nat) : Int) ↔ z &&& maskW n = 0#128 := by
  rw [mask_zero z n h0 h1]
  have := lead_wide z (128 - n) (by omega) (by omega)
  constructor
  · intro h
    apply Classical.byContradiction
    intro c
    have := this.mpr c
    omega
  · intro h
    apply Classical.byContradiction
    intro c
    exact this.mp (by omega) h
theorem xor_mask (x y m : BitVec 128) : (x ^^^ y) &&& m = 0#128 ↔ x &&& m = y &&& m := by
  have e : (x ^^^ y) &&& m = (x &&& m) ^^^ (y &&& m) := by
    apply BitVec.eq_of_getLsbD_eq
    intro j hj
    simp only [BitVec.getLsbD_and, BitVec.getLsbD_xor]
    cases x.getLsbD j <;> cases y.getLsbD j <;> cases m.getLsbD j <;> rfl
  rw [e]
  constructor
  · intro h
    have := congrArg (fun z => z ^^^ (y &&& m)) h
    simpa [BitVec.xor_assoc] using this
  · intro h
    rw [h, BitVec.xor_self]
theorem mask_sub (n m : Int) (h0 : 0 ≤ n) (h : n ≤ m) : maskW n &&& maskW m = maskW n := by
  apply BitVec.eq_of_getLsbD_eq
  intro j hj
  rw [BitVec.getLsbD_and, maskW_bit n j hj, maskW_bit m j hj]
  by_cases c : 128 - n.toNat ≤ j
  · have : 128 - m.toNat ≤ j := by omega
    simp [c, this]
  · simp [c]
theorem cut_cut (x : BitVec 128) (n m : Int) (h0 : 0 ≤ n) (h : n ≤ m) : cutW (cutW x m) n = cutW x n := by
  unfold cutW
  rw [BitVec.and_assoc, BitVec.and_comm (maskW m), mask_sub n m h0 h]
theorem cut_cut2 (x : BitVec 128) (n m : Int) (h0 : 0 ≤ n) (h : n ≤ m) : cutW (cutW x n) m = cutW x n := by
  unfold cutW
  rw [BitVec.and_assoc, mask_sub n m h0 h]
def Rt (F : Int) (x : BitVec 128) (n : Int) : Prop := 0 ≤ n ∧ n ≤ F ∧ cutW x n = x
end Go.Proofs.YtmeaikmmhgmgnaaGreat
namespace Go.Proofs.YtmeaikmmhgmgnaaGreat
open Go.RowKit
set_option linter.unusedSimpArgs false
set_option linter.unusedVariables false

theorem cut_shift (x : BitVec 128) (n : Int) : cutW x n = (x >>> (128 - n.toNat)) <<< (128 - n.toNat) := by
  apply BitVec.eq_of_getLsbD_eq
  intro j hj
  unfold cutW
  rw [BitVec.getLsbD_and, maskW_bit n j hj, BitVec.getLsbD_shiftLeft, BitVec.getLsbD_ushiftRight]
  by_cases c : 128 - n.toNat ≤ j
  · have e : 128 - n.toNat + (j - (128 - n.toNat)) = j := by omega
    have d : ¬ j < 128 - n.toNat := by omega
    simp [c, d, hj, e]
  · have d : j < 128 - n.toNat := by omega
    simp [c, d]
theorem cut_nat (x : BitVec 128) (n : Int) : (cutW x n).toNat = x.toNat / 2 ^ (128 - n.toNat) * 2 ^ (128 - n.toNat) := by
  rw [cut_shift, BitVec.toNat_shiftLeft, BitVec.toNat_ushiftRight, Nat.shiftLeft_eq, Nat.shiftRight_eq_div_pow]
  apply Nat.mod_eq_of_lt
  exact Nat.lt_of_le_of_lt (Nat.div_mul_le_self _ _) x.isLt
theorem cut_mono (x y : BitVec 128) (n : Int) (h : x.toNat ≤ y.toNat) : (cutW x n).toNat ≤ (cutW y n).toNat := by
  rw [cut_nat, cut_nat]
  exact Nat.mul_le_mul_right _ (Nat.div_le_div_right h)
theorem cmpZ_ways (x y : BitVec 128) : (x.toNat < y.toNat ∧ cmpZ x y = -1) ∨ (x = y ∧ cmpZ x y = 0) ∨ (y.toNat < x.toNat ∧ cmpZ x y = 1) := by
  unfold cmpZ
  by_cases h : x.toNat < y.toNat
  · left; rw [if_pos h]; exact ⟨h, rfl⟩
  · rw [if_neg h]
    by_cases e : x = y
    · right; left; rw [if_pos e]; exact ⟨e, rfl⟩
    · right; right; rw [if_neg e]
      have : ¬ x.toNat = y.toNat := fun q => e (BitVec.eq_of_toNat_eq q)
      exact ⟨by omega, rfl⟩
theorem pcmp_ways (x : BitVec 128) (n : Int) (y : BitVec 128) (m : Int) :
    ((x.toNat < y.toNat ∨ (x = y ∧ n < m)) ∧ pcmpZ x n y m = -1) ∨ ((x = y ∧ n = m) ∧ pcmpZ x n y m = 0) ∨ ((y.toNat < x.toNat ∨ (x = y ∧ m < n)) ∧ pcmpZ x n y m = 1) := by
  unfold pcmpZ
  rcases cmpZ_ways x y with ⟨h, e⟩ | ⟨h, e⟩ | ⟨h, e⟩
  · left; rw [e, if_neg (by decide)]; exact ⟨Or.inl h, rfl⟩
  · rw [e, if_pos rfl]
    unfold cmpI
    by_cases h1 : n < m
    · left; rw [if_pos h1]; exact ⟨Or.inr ⟨h, h1⟩, rfl⟩
    · rw [if_neg h1]
      by_cases h2 : m < n
      · right; right; rw [if_pos h2]; exact ⟨Or.inr ⟨h, h2⟩, rfl⟩
      · right; left; rw [if_neg h2]; exact ⟨⟨h, by omega⟩, rfl⟩
  · right; right; rw [e, if_neg (by decide)]; exact ⟨Or.inl h, rfl⟩
theorem pcmp_neg (x : BitVec 128) (n : Int) (y : BitVec 128) (m : Int) : pcmpZ y m x n = - pcmpZ x n y m := by
  rcases pcmp_ways x n y m with ⟨h, e⟩ | ⟨h, e⟩ | ⟨h, e⟩ <;> rcases pcmp_ways y m x n with ⟨g, f⟩ | ⟨g, f⟩ | ⟨g, f⟩ <;> rw [e, f] <;> (try rfl) <;> exfalso
  · rcases h with h | ⟨rfl, h⟩ <;> rcases g with g | ⟨g1, g⟩ <;> (try subst g1) <;> omega
  · obtain ⟨rfl, rfl⟩ := g; rcases h with h | ⟨_, h⟩ <;> omega
  · obtain ⟨rfl, rfl⟩ := h; rcases g with g | ⟨_, g⟩ <;> omega
  · obtain ⟨rfl, rfl⟩ := h; rcases g with g | ⟨_, g⟩ <;> omega
  · obtain ⟨rfl, rfl⟩ := g; rcases h with h | ⟨_, h⟩ <;> omega
  · rcases h with h | ⟨rfl, h⟩ <;> rcases g with g | ⟨g1, g⟩ <;> (try subst g1) <;> omega
theorem pcmp_le (x : BitVec 128) (n : Int) (y : BitVec 128) (m : Int) : pcmpZ x n y m ≤ 0 ↔ (x.toNat < y.toNat ∨ (x = y ∧ n ≤ m)) := by
  rcases pcmp_ways x n y m with ⟨h, e⟩ | ⟨h, e⟩ | ⟨h, e⟩ <;> rw [e]
  · refine ⟨fun _ => ?_, fun _ => by decide⟩
    rcases h with h | ⟨rfl, h⟩
    · exact Or.inl h
    · exact Or.inr ⟨rfl, by omega⟩
  · refine ⟨fun _ => Or.inr ⟨h.1, by omega⟩, fun _ => by decide⟩
  · refine ⟨fun q => absurd q (by decide), fun q => ?_⟩
    exfalso
    rcases h with h | ⟨rfl, h⟩ <;> rcases q with q | ⟨q1, q⟩ <;> (try subst q1) <;> omega
theorem pcmp_eq0 (x : BitVec 128) (n : Int) (y : BitVec 128) (m : Int) : pcmpZ x n y m = 0 ↔ (x = y ∧ n = m) := by
  rcases pcmp_ways x n y m with ⟨h, e⟩ | ⟨h, e⟩ | ⟨h, e⟩ <;> rw [e]
  · refine ⟨fun q => absurd q (by decide), fun q => ?_⟩
    obtain ⟨rfl, rfl⟩ := q; rcases h with h | ⟨_, h⟩ <;> omega
  · exact ⟨fun _ => h, fun _ => rfl⟩
  · refine ⟨fun q => absurd q (by decide), fun q => ?_⟩
    obtain ⟨rfl, rfl⟩ := q; rcases h with h | ⟨_, h⟩ <;> omega
theorem within_iff (x : BitVec 128) (n : Int) (y : BitVec 128) (m : Int) : withinB x n y m = true ↔ (m ≤ n ∧ cutW x m = y) := by
  unfold withinB
  simp
theorem between (F : Int) (x : BitVec 128) (n : Int) (y : BitVec 128) (m : Int) (z : BitVec 128) (k : Int) (hx : Rt F x n) (hy : Rt F y m) (h1 : pcmpZ x n y m ≤ 0) (h2 : pcmpZ y m z k ≤ 0) (h3 : withinB z k x n = true) : withinB y m x n = true := by
  rw [within_iff] at h3 ⊢
  rw [pcmp_le] at h1 h2
  obtain ⟨h3, h4⟩ := h3
  have hxy : x.toNat ≤ y.toNat := by rcases h1 with h | ⟨rfl, _⟩ <;> omega
  have hyz : y.toNat ≤ z.toNat := by rcases h2 with h | ⟨rfl, _⟩ <;> omega
  have c1 := cut_mono x y n hxy
  have c2 := cut_mono y z n hyz
  rw [hx.2.2] at c1
  rw [h4] at c2
  have hc : cutW y n = x := BitVec.eq_of_toNat_eq (by omega)
  refine ⟨?_, hc⟩
  apply Classical.byContradiction
  intro q
  have := cut_cut2 y m n hy.1 (by omega)
  rw [hy.2.2, hc] at this
  rcases h1 with h | ⟨_, h⟩
  · rw [this] at h; omega
  · omega
theorem meetN_le (x : BitVec 128) (n : Int) (y : BitVec 128) (m : Int) : meetN x n y m ≤ n ∧ meetN x n y m ≤ m ∧ meetN x n y m ≤ ((leadN (x ^^^ y) : Nat) : Int) := by
  unfold meetN; omega
theorem meetN_nn (x : BitVec 128) (n : Int) (y : BitVec 128) (m : Int) (h : 0 ≤ n) (g : 0 ≤ m) : 0 ≤ meetN x n y m := by
  unfold meetN; omega
theorem meet_above (x : BitVec 128) (n : Int) (y : BitVec 128) (m : Int) (z : BitVec 128) (k : Int) (hk : 0 ≤ k) (hn : n ≤ 128) (h1 : withinB x n z k = true) (h2 : withinB y m z k = true) : withinB (cutW x (meetN x n y m)) (meetN x n y m) z k = true := by
  rw [within_iff] at *
  have : k ≤ ((leadN (x ^^^ y) : Nat) : Int) := (lead_mask (x ^^^ y) k hk (by omega)).mpr ((xor_mask x y _).mpr (by
    have e1 := h1.2; have e2 := h2.2
    unfold cutW at e1 e2
    rw [e1, e2]))
  have hm : k ≤ meetN x n y m := by unfold meetN; omega
  exact ⟨hm, by rw [cut_cut x k _ hk hm]; exact h1.2⟩
end Go.Proofs.YtmeaikmmhgmgnaaGreat
namespace Go.Proofs.YtmeaikmmhgmgnaaGreat
open Go.RowKit
set_option linter.unusedSimpArgs false
set_option linter.unusedVariables false

def OrdR (l : List Rte) : Prop := ∀ (a b : Nat) (hb : b < l.length) (hab : a < b), pcmpZ (l[a]'(by omega)).1.1 (l[a]'(by omega)).1.2 l[b].1.1 l[b].1.2 < 0
theorem pcmp_lt (x : BitVec 128) (n : Int) (y : BitVec 128) (m : Int) : pcmpZ x n y m < 0 ↔ (x.toNat < y.toNat ∨ (x.toNat = y.toNat ∧ n < m)) := by
  have h := pcmp_le x n y m
  have e := pcmp_eq0 x n y m
  constructor
  · intro q
    rcases h.1 (by omega) with r | ⟨r, s⟩
    · exact .inl r
    · refine .inr ⟨by rw [r], ?_⟩
      rcases Int.lt_or_eq_of_le s with t | t
      · exact t
      · have := e.2 ⟨r, t⟩; omega
  · intro q
    have hle : pcmpZ x n y m ≤ 0 := h.2 (q.imp id fun ⟨r, s⟩ => ⟨BitVec.eq_of_toNat_eq r, by omega⟩)
    have hne : pcmpZ x n y m ≠ 0 := fun q0 => by
      obtain ⟨r, s⟩ := e.1 q0
      rcases q with q | ⟨-, q⟩
      · rw [r] at q; omega
      · omega
    omega
theorem ord_mono {l : List Rte} (h : OrdR l) (y : BitVec 128) (m : Int) : Mono y m l := by
  intro a b hb hab hlt
  rcases Nat.lt_or_eq_of_le hab with q | q
  · have h1 := (pcmp_lt _ _ _ _).1 (h a b hb q)
    have h2 := (pcmp_lt _ _ _ _).1 hlt
    refine (pcmp_lt _ _ _ _).2 ?_
    omega
  · subst q; exact hlt
end Go.Proofs.YtmeaikmmhgmgnaaGreat
namespace Go.Proofs.YtmeaikmmhgmgnaaGreat
open Go.RowKit
set_option linter.unusedSimpArgs false
set_option linter.unusedVariables false

def kl (x y : Rte) : Prop := x.1.1.toNat < y.1.1.toNat ∨ (x.1.1.toNat = y.1.1.toNat ∧ x.1.2 < y.1.2)
theorem cm_kl (x y : Rte) : cmR x y < 0 ↔ kl x y := pcmp_lt _ _ _ _
theorem kl_irr (x : Rte) : ¬ kl x x := by unfold kl; omega
theorem kl_le {x y z : Rte} (h : ¬ kl y x) (k : ¬ kl z y) : ¬ kl z x := by unfold kl at *; omega
theorem kl_lt_le {x y z : Rte} (h : kl x y) (k : ¬ kl z y) : kl x z := by unfold kl at *; omega
theorem kl_le_lt {x y z : Rte} (h : ¬ kl y x) (k : kl y z) : kl x z := by unfold kl at *; omega
theorem kl_asym {x y : Rte} (h : kl x y) : ¬ kl y x := by unfold kl at *; omega
def SrtL (l : List Rte) : Prop := l.Pairwise (fun a b => ¬ kl b a)
def ky (k : Nat × Int) (r : Rte) : Bool := decide (r.1.1.toNat = k.1 ∧ r.1.2 = k.2)
def SameK (A B : List Rte) : Prop := ∀ k, A.filter (ky k) = B.filter (ky k)
theorem SameK.refl (A : List Rte) : SameK A A := fun _ => rfl
theorem SameK.symm {A B : List Rte} (h : SameK A B) : SameK B A := fun k => (h k).symm
theorem SameK.trans {A B C : List Rte} (h : SameK A B) (g : SameK B C) : SameK A C := fun k => (h k).trans (g k)
theorem SameK.app {A A' B B' : List Rte} (h : SameK A A') (g : SameK B B') : SameK (A ++ B) (A' ++ B') := fun k => by rw [List.filter_append, List.filter_append, h k, g k]
theorem ky_self (r : Rte) : ky (r.1.1.toNat, r.1.2) r = true := by simp [ky]
theorem SameK.mem {A B : List Rte} (h : SameK A B) {r : Rte} (hr : r ∈ A) : r ∈ B := by
  have : r ∈ A.filter (ky (r.1.1.toNat, r.1.2)) := List.mem_filter.mpr ⟨hr, ky_self r⟩
  rw [h] at this
  exact (List.mem_filter.mp this).1
theorem SameK.swap {X Y : List Rte} (h : ∀ x ∈ X, ∀ y ∈ Y, kl y x ∨ kl x y) : SameK (X ++ Y) (Y ++ X) := fun k => by
  rw [List.filter_append, List.filter_append]
  by_cases hx : X.filter (ky k) = []
  · rw [hx]; simp
  · by_cases hy : Y.filter (ky k) = []
    · rw [hy]; simp
    · exfalso
      obtain ⟨x, hx⟩ := List.exists_mem_of_ne_nil _ hx
      obtain ⟨y, hy⟩ := List.exists_mem_of_ne_nil _ hy
      obtain ⟨x1, x2⟩ := List.mem_filter.mp hx
      obtain ⟨y1, y2⟩ := List.mem_filter.mp hy
      have := h x x1 y y1
      simp [ky] at x2 y2
      unfold kl at this
      omega
theorem srt_one : ∀ (A B : List Rte), SrtL A → SrtL B → SameK A B → A = B
  | [], [], _, _, _ => rfl
  | [], b :: B, _, _, h => by have := h.symm.mem (r := b) (by simp); cases this
  | a :: A, [], _, _, h => by have := h.mem (r := a) (by simp); cases this
  | a :: A, b :: B, hA, hB, h => by
    obtain ⟨a1, a2⟩ := List.pairwise_cons.mp hA
    obtain ⟨b1, b2⟩ := List.pairwise_cons.mp hB
    have hab : ¬ kl b a := by
      rcases List.mem_cons.mp (h.symm.mem (r := b) (by simp)) with q | q
      · rw [q]; exact kl_irr _
      · exact a1 b q
    have hba : ¬ kl a b := by
      rcases List.mem_cons.mp (h.mem (r := a) (by simp)) with q | q
      · rw [q]; exact kl_irr _
      · exact b1 a q
    have hk : b.1.1.toNat = a.1.1.toNat ∧ b.1.2 = a.1.2 := by unfold kl at hab hba; omega
    have hb : ky (a.1.1.toNat, a.1.2) b = true := by simp [ky, hk]
    have e := h (a.1.1.toNat, a.1.2)
    rw [List.filter_cons_of_pos (ky_self a), List.filter_cons_of_pos hb] at e
    injection e with e1 e2
    subst e1
    have h2 : SameK A B := fun k => by
      have := h k
      by_cases q : ky k a = true
      · rw [List.filter_cons_of_pos q, List.filter_cons_of_pos q] at this
        injection this
      · rw [List.filter_cons_of_neg q, List.filter_cons_of_neg q] at this
        exact this
    rw [srt_one A B a2 b2 h2]
theorem srt_app {A B : List Rte} (hA : SrtL A) (hB : SrtL B) (h : ∀ x ∈ A, ∀ y ∈ B, ¬ kl y x) : SrtL (A ++ B) := List.pairwise_append.mpr ⟨hA, hB, h⟩
theorem sym_split {X1 X2 Y1 Y2 S1 S2 : List Rte} (hX : SrtL (X1 ++ X2)) (hY : SrtL (Y1 ++ Y2)) (h1 : ∀ y ∈ Y1, ∀ x ∈ X2, kl y x) (h2 : ∀ x ∈ X1, ∀ y ∈ Y2, ¬ kl y x)
    (s1 : SrtL S1) (k1 : SameK (X1 ++ Y1) S1) (s2 : SrtL S2) (k2 : SameK (X2 ++ Y2) S2) : SrtL (S1 ++ S2) ∧ SameK ((X1 ++ X2) ++ (Y1 ++ Y2)) (S1 ++ S2) := by
  have hx := (List.pairwise_append.mp hX).2.2
  have hy := (List.pairwise_append.mp hY).2.2
  refine ⟨srt_app s1 s2 (fun x hx1 y hy1 => ?_), ?_⟩
  · rcases List.mem_append.mp (k1.symm.mem hx1) with a | a <;> rcases List.mem_append.mp (k2.symm.mem hy1) with b | b
    · exact hx x a y b
    · exact h2 x a y b
    · exact kl_asym (h1 x a y b)
    · exact hy x a y b
  · have e : (X1 ++ X2) ++ (Y1 ++ Y2) = X1 ++ (X2 ++ Y1) ++ Y2 := by simp
    have e2 : X1 ++ (Y1 ++ X2) ++ Y2 = (X1 ++ Y1) ++ (X2 ++ Y2) := by simp
    rw [e]
    refine SameK.trans ?_ (SameK.app k1 k2)
    rw [← e2]
    exact SameK.app (SameK.app (SameK.refl _) (SameK.swap (fun x a y b => .inl (h1 y b x a)))) (SameK.refl _)
theorem ins_right {X1 X2 : List Rte} {y : Rte} (hX : SrtL (X1 ++ X2)) (h1 : ∀ x ∈ X2, kl y x) (h2 : ∀ x ∈ X1, ¬ kl y x) : SrtL (X1 ++ y :: X2) ∧ SameK ((X1 ++ X2) ++ [y]) (X1 ++ y :: X2) := by
  obtain ⟨a, b, c⟩ := List.pairwise_append.mp hX
  refine ⟨srt_app a (List.pairwise_cons.mpr ⟨fun x hx => kl_asym (h1 x hx), b⟩) (fun x hx z hz => ?_), ?_⟩
  · rcases List.mem_cons.mp hz with rfl | hz
    · exact h2 x hx
    · exact c x hx z hz
  · rw [List.append_assoc]
    refine SameK.app (SameK.refl _) ?_
    have := SameK.swap (X := X2) (Y := [y]) (fun x hx z hz => .inl (by rw [List.mem_singleton] at hz; subst hz; exact h1 x hx))
    exact this
theorem ins_left {Y1 Y2 : List Rte} {x : Rte} (hY : SrtL (Y1 ++ Y2)) (h1 : ∀ y ∈ Y1, kl y x) (h2 : ∀ y ∈ Y2, ¬ kl y x) : SrtL (Y1 ++ x :: Y2) ∧ SameK ([x] ++ (Y1 ++ Y2)) (Y1 ++ x :: Y2) := by
  obtain ⟨a, b, c⟩ := List.pairwise_append.mp hY
  refine ⟨srt_app a (List.pairwise_cons.mpr ⟨fun y hy => h2 y hy, b⟩) (fun y hy z hz => ?_), ?_⟩
  · rcases List.mem_cons.mp hz with rfl | hz
    · exact kl_asym (h1 y hy)
    · exact c y hy z hz
  · have e : Y1 ++ x :: Y2 = (Y1 ++ [x]) ++ Y2 := by simp
    rw [e, ← List.append_assoc]
    refine SameK.app (SameK.swap (fun z hz y hy => .inl ?_)) (SameK.refl _)
    rw [List.mem_singleton] at hz
    subst hz
    exact h1 y hy
theorem revIns_mem : ∀ (P : List Rte) (x z : Rte), z ∈ revIns P x → z = x ∨ z ∈ P
  | [], x, z, h => by rw [revIns, List.mem_singleton] at h; exact .inl h
  | y :: P, x, z, h => by
    rw [revIns] at h
    split at h
    · rcases List.mem_cons.mp h with h | h
      · exact .inr (by rw [h]; simp)
      · exact (revIns_mem P x z h).imp id (fun q => List.mem_cons_of_mem _ q)
    · rcases List.mem_cons.mp h with h | h
      · exact .inl h
      · exact .inr h
theorem revIns_srt : ∀ (P : List Rte) (x : Rte), SrtL P.reverse → SrtL (revIns P x).reverse ∧ SameK (P.reverse ++ [x]) (revIns P x).reverse
  | [], x, _ => ⟨List.pairwise_singleton _ _, SameK.refl _⟩
  | y :: P, x, h => by
    rw [List.reverse_cons] at h
    obtain ⟨h1, -, h2⟩ := List.pairwise_append.mp h
    rw [revIns]
    split
    · rename_i c
      have c := (cm_kl x y).mp c
      obtain ⟨i1, i2⟩ := revIns_srt P x h1
      rw [List.reverse_cons, List.reverse_cons]
      refine ⟨srt_app i1 (List.pairwise_singleton _ _) (fun z hz u hu => ?_), ?_⟩
      · rw [List.mem_singleton] at hu
        subst hu
        rcases revIns_mem P x z (List.mem_reverse.mp hz) with rfl | q
        · exact kl_asym c
        · exact h2 z (List.mem_reverse.mpr q) u (by simp)
      · refine SameK.trans ?_ (SameK.app i2 (SameK.refl [y]))
        rw [List.append_assoc, List.append_assoc]
        refine SameK.app (SameK.refl _) (SameK.swap (fun a ha b hb => .inl ?_))
        rw [List.mem_singleton] at ha hb
        subst ha hb
        exact c
    · rename_i c
      have c : ¬ kl x y := fun q => c ((cm_kl x y).mpr q)
      rw [List.reverse_cons, List.reverse_cons]
      refine ⟨srt_app h (List.pairwise_singleton _ _) (fun z hz u hu => ?_), SameK.refl _⟩
      rw [List.mem_singleton] at hu
      subst hu
      rcases List.mem_append.mp hz with q | q
      · exact kl_le (h2 z q y (by simp)) c
      · rw [List.mem_singleton] at q; subst q; exact c
theorem isrt_fold : ∀ (M P : List Rte), SrtL P.reverse → SrtL (M.foldl revIns P).reverse ∧ SameK (P.reverse ++ M) (M.foldl revIns P).reverse
  | [], P, h => ⟨h, by rw [List.append_nil]; exact SameK.refl _⟩
  | x :: M, P, h => by
    obtain ⟨a, b⟩ := revIns_srt P x h
    obtain ⟨c, d⟩ := isrt_fold M (revIns P x) a
    refine ⟨c, SameK.trans ?_ d⟩
    have e : P.reverse ++ x :: M = (P.reverse ++ [x]) ++ M := by simp
    rw [e]
    exact SameK.app b (SameK.refl _)
theorem isrt_spec (D : List Rte) : SrtL (isrt D) ∧ SameK D (isrt D) := by
  have := isrt_fold D [] List.Pairwise.nil
  simpa [isrt] using this
theorem isrt_one {D S : List Rte} (h : SrtL S) (k : SameK D S) : S = isrt D := srt_one _ _ h (isrt_spec D).1 (k.symm.trans (isrt_spec D).2)
end Go.Proofs.YtmeaikmmhgmgnaaGreat
namespace Go.Proofs.YtmeaikmmhgmgnaaGreat
open Go.RowKit
set_option linter.unusedSimpArgs false
set_option linter.unusedVariables false

def Blks (B : Nat) (L : List (List Rte)) : Prop := ∀ S ∈ L, S.length = B ∧ SrtL S
theorem Blks.len {B : Nat} : ∀ {L : List (List Rte)}, Blks B L → L.flatten.length = L.length * B
  | [], _ => by simp
  | S :: L, h => by
    have h1 := (h S List.mem_cons_self).1
    have h2 := Blks.len (L := L) (fun x hx => h x (List.mem_cons_of_mem _ hx))
    rw [List.flatten_cons, List.length_append, h1, h2, List.length_cons, Nat.succ_mul]
    omega
theorem Blks.snoc {B : Nat} {L : List (List Rte)} {S : List Rte} (h : Blks B L) (hl : S.length = B) (hs : SrtL S) : Blks B (L ++ [S]) := fun x hx => by
  rcases List.mem_append.mp hx with k | k
  · exact h x k
  · rw [List.mem_singleton.mp k]; exact ⟨hl, hs⟩
theorem Blks.tail {B : Nat} {L : List (List Rte)} {S : List Rte} (h : Blks B (S :: L)) : (S.length = B ∧ SrtL S) ∧ Blks B L := ⟨h S List.mem_cons_self, fun x hx => h x (List.mem_cons_of_mem _ hx)⟩
theorem isrt_len (D : List Rte) : (isrt D).length = D.length := by unfold isrt; rw [List.length_reverse, foldl_len]; simp
def Ph1 (D E : List Rte) (a : Nat) : Prop := ∃ L R, E = L.flatten ++ R ∧ Blks 20 L ∧ L.flatten.length = a ∧ SameK D E
def Ph2 (B : Nat) (D E : List Rte) : Prop := ∃ L T, E = L.flatten ++ T ∧ Blks B L ∧ SrtL T ∧ T.length < B ∧ SameK D E
def In2 (B : Nat) (D E : List Rte) (a : Nat) : Prop := ∃ L2 L1 T, E = L2.flatten ++ (L1.flatten ++ T) ∧ Blks (2 * B) L2 ∧ Blks B L1 ∧ SrtL T ∧ T.length < B ∧ L2.flatten.length = a ∧ SameK D E
theorem Ph1.zero (D : List Rte) : Ph1 D D 0 := ⟨[], D, by simp, fun _ h => by simp at h, by simp, SameK.refl _⟩
theorem ph1_cut {E P R : List Rte} {a b : Nat} (e : E = P ++ R) (ha : P.length = a) (hb : a ≤ b) : E.take a ++ isrt ((E.drop a).take (b - a)) ++ E.drop b = P ++ (isrt (R.take (b - a)) ++ R.drop (b - a)) := by
  subst e
  subst ha
  rw [List.take_left, List.drop_left, List.drop_append, List.drop_eq_nil_of_le hb, List.nil_append, List.append_assoc]
theorem ph1_same {D P R : List Rte} {k : Nat} (h : SameK D (P ++ R)) : SameK D (P ++ (isrt (R.take k) ++ R.drop k)) := h.trans ((SameK.refl P).app (by
  have := (isrt_spec (R.take k)).2.app (SameK.refl (R.drop k))
  rw [List.take_append_drop] at this
  exact this))
theorem Ph1.step {D E : List Rte} {a : Nat} (h : Ph1 D E a) (hb : a + 20 ≤ E.length) : Ph1 D (E.take a ++ isrt ((E.drop a).take (a + 20 - a)) ++ E.drop (a + 20)) (a + 20) := by
  obtain ⟨L, R, e, hB, hl, hs⟩ := h
  rw [ph1_cut e hl (Nat.le_add_right _ _)]
  have hR : (R.take (a + 20 - a)).length = 20 := by
    rw [e, List.length_append] at hb
    rw [List.length_take]; omega
  refine ⟨L ++ [isrt (R.take (a + 20 - a))], R.drop (a + 20 - a), by simp, hB.snoc (by rw [isrt_len, hR]) (isrt_spec _).1, ?_, ?_⟩
  · simp only [List.flatten_append, List.flatten_cons, List.flatten_nil, List.append_nil, List.length_append, isrt_len, hR, hl]
  · rw [e] at hs
    exact ph1_same hs
theorem Ph1.fin {D E : List Rte} {a n : Nat} (h : Ph1 D E a) (hn : E.length = n) (hb : ¬ a + 20 ≤ n) : a ≤ n ∧ Ph2 20 D (E.take a ++ isrt ((E.drop a).take (n - a)) ++ E.drop n) := by
  obtain ⟨L, R, e, hB, hl, hs⟩ := h
  have hE : a + R.length = n := by rw [← hn, e, List.length_append, hl]
  refine ⟨by omega, ?_⟩
  rw [ph1_cut e hl (by omega)]
  have hR : R.take (n - a) = R := List.take_of_length_le (by omega)
  have hR2 : R.drop (n - a) = [] := List.drop_eq_nil_of_le (by omega)
  rw [e] at hs
  have := ph1_same (k := n - a) hs
  rw [hR, hR2, List.append_nil] at this ⊢
  exact ⟨L, isrt R, rfl, hB, (isrt_spec _).1, by rw [isrt_len]; omega, this⟩
theorem Ph2.start {B : Nat} {D E : List Rte} (h : Ph2 B D E) : In2 B D E 0 := by
  obtain ⟨L, T, e, hB, hT, hl, hs⟩ := h
  exact ⟨[], L, T, by simpa using e, fun _ h => by simp at h, hB, hT, hl, by simp, hs⟩
theorem same_mid {D P X Y R S : List Rte} (h : SameK D (P ++ (X ++ (Y ++ R)))) (k : SameK (X ++ Y) S) : SameK D (P ++ (S ++ R)) := h.trans ((SameK.refl P).app (by
  have := k.app (SameK.refl R)
  rw [List.append_assoc] at this
  exact this))
theorem In2.pair {B : Nat} {D E : List Rte} {a : Nat} (h : In2 B D E a) (hb : a + 2 * B ≤ E.length) : ∃ P X Y R, E = P ++ (X ++ (Y ++ R)) ∧ P.length = a ∧ X.length = B ∧ Y.length = B ∧ SrtL X ∧ SrtL Y ∧ ∀ S, S.length = X.length + Y.length → SrtL S → SameK (X ++ Y) S → In2 B D (P ++ (S ++ R)) (a + 2 * B) := by
  obtain ⟨L2, L1, T, e, h2, h1, hT, hl, ha, hs⟩ := h
  have hlen : a + (L1.length * B + T.length) = E.length := by rw [e, List.length_append, List.length_append, h1.len, ha]
  match L1, h1, e, hlen with
  | [], h1, e, hlen => simp at hlen; omega
  | [X], h1, e, hlen => simp at hlen; omega
  | X :: Y :: L1, h1, e, hlen =>
    obtain ⟨⟨x1, x2⟩, h1⟩ := h1.tail
    obtain ⟨⟨y1, y2⟩, h1⟩ := h1.tail
    have e' : E = L2.flatten ++ (X ++ (Y ++ (L1.flatten ++ T))) := by rw [e]; simp
    refine ⟨L2.flatten, X, Y, L1.flatten ++ T, e', ha, x1, y1, x2, y2, fun S s1 s2 s3 => ?_⟩
    rw [e'] at hs
    refine ⟨L2 ++ [S], L1, T, by simp, h2.snoc (by omega) s2, h1, hT, hl, ?_, same_mid hs s3⟩
    simp only [List.flatten_append, List.flatten_cons, List.flatten_nil, List.append_nil, List.length_append, ha]
    omega
theorem In2.last {B : Nat} {D E : List Rte} {a : Nat} (h : In2 B D E a) (hb : ¬ a + 2 * B ≤ E.length) (hm : a + B < E.length) : ∃ P X Y, E = P ++ (X ++ (Y ++ [])) ∧ P.length = a ∧ X.length = B ∧ 0 < Y.length ∧ SrtL X ∧ SrtL Y ∧ ∀ S, S.length = X.length + Y.length → SrtL S → SameK (X ++ Y) S → Ph2 (2 * B) D (P ++ (S ++ [])) := by
  obtain ⟨L2, L1, T, e, h2, h1, hT, hl, ha, hs⟩ := h
  have hlen : a + (L1.length * B + T.length) = E.length := by rw [e, List.length_append, List.length_append, h1.len, ha]
  match L1, h1, e, hlen with
  | [], h1, e, hlen => simp at hlen; omega
  | X :: Y :: L1, h1, e, hlen =>
    exfalso
    rw [List.length_cons, List.length_cons, Nat.succ_mul, Nat.succ_mul] at hlen
    omega
  | [X], h1, e, hlen =>
    obtain ⟨⟨x1, x2⟩, h1⟩ := h1.tail
    simp at hlen
    have e' : E = L2.flatten ++ (X ++ (T ++ [])) := by rw [e]; simp
    refine ⟨L2.flatten, X, T, e', ha, x1, by omega, x2, hT, fun S s1 s2 s3 => ?_⟩
    rw [e'] at hs
    exact ⟨L2, S, by simp, h2, s2, by omega, same_mid hs s3⟩
theorem In2.done {B : Nat} {D E : List Rte} {a : Nat} (hB : 0 < B) (h : In2 B D E a) (hb : ¬ a + 2 * B ≤ E.length) (hm : ¬ a + B < E.length) : Ph2 (2 * B) D E := by
  obtain ⟨L2, L1, T, e, h2, h1, hT, hl, ha, hs⟩ := h
  have hlen : a + (L1.length * B + T.length) = E.length := by rw [e, List.length_append, List.length_append, h1.len, ha]
  match L1, h1, e, hlen with
  | [], h1, e, hlen => exact ⟨L2, T, by simpa using e, h2, hT, by omega, hs⟩
  | X :: Y :: L1, h1, e, hlen =>
    exfalso
    rw [List.length_cons, List.length_cons, Nat.succ_mul, Nat.succ_mul] at hlen
    omega
  | [X], h1, e, hlen =>
    obtain ⟨⟨x1, x2⟩, h1⟩ := h1.tail
    simp at hlen
    have : T = [] := List.length_eq_zero_iff.mp (by omega)
    subst this
    exact ⟨L2, X, by simpa using e, h2, x2, by omega, hs⟩
theorem Ph2.fin {B : Nat} {D E : List Rte} (h : Ph2 B D E) (hn : ¬ B < E.length) : E = isrt D := by
  obtain ⟨L, T, e, hB, hT, hl, hs⟩ := h
  have hlen : L.length * B + T.length = E.length := by rw [e, List.length_append, hB.len]
  refine isrt_one ?_ hs
  match L, hB, e, hlen with
  | [], hB, e, hlen => rw [e]; simpa using hT
  | X :: Y :: L, hB, e, hlen =>
    exfalso
    rw [List.length_cons, List.length_cons, Nat.succ_mul, Nat.succ_mul] at hlen
    omega
  | [X], hB, e, hlen =>
    obtain ⟨⟨x1, x2⟩, hB⟩ := hB.tail
    simp at hlen
    have : T = [] := List.length_eq_zero_iff.mp (by omega)
    subst this
    rw [e]; simpa using x2
end Go.Proofs.YtmeaikmmhgmgnaaGreat
