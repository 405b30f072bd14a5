/-
  Part 10 of the proof: 6 texts, one behind the other.
-/
import Derived.Test.YtohnhpicjedfeaaPart9
import Derived.Test.YtohnhpicjedfeaaPart4
namespace Go.Proofs.Ytohnhpicjedfeaa
open Go.RowKit
set_option linter.unusedSimpArgs false
set_option linter.unusedVariables false

theorem cut_shift (x : BitVec 128) (n : Int) : cutW x n = (x >>> (128 - n.toNat)) <<< (128 - n.toNat) := by
  apply BitVec.eq_of_getLsbD_eq
  intro j hj
  unfold cutW
  rw [BitVec.getLsbD_and, maskW_bit n j hj, BitVec.getLsbD_shiftLeft, BitVec.getLsbD_ushiftRight]
  by_cases c : 128 - n.toNat ≤ j
  · have e : 128 - n.toNat + (j - (128 - n.toNat)) = j := by omega
    have d : ¬ j < 128 - n.toNat := by omega
    simp [c, d, hj, e]
  · have d : j < 128 - n.toNat := by omega
    simp [c, d]
theorem cut_nat (x : BitVec 128) (n : Int) : (cutW x n).toNat = x.toNat / 2 ^ (128 - n.toNat) * 2 ^ (128 - n.toNat) := by
  rw [cut_shift, BitVec.toNat_shiftLeft, BitVec.toNat_ushiftRight, Nat.shiftLeft_eq, Nat.shiftRight_eq_div_pow]
  apply Nat.mod_eq_of_lt
  exact Nat.lt_of_le_of_lt (Nat.div_mul_le_self _ _) x.isLt
theorem cut_mono (x y : BitVec 128) (n : Int) (h : x.toNat ≤ y.toNat) : (cutW x n).toNat ≤ (cutW y n).toNat := by
  rw [cut_nat, cut_nat]
  exact Nat.mul_le_mul_right _ (Nat.div_le_div_right h)
theorem cmpZ_ways (x y : BitVec 128) : (x.toNat < y.toNat ∧ cmpZ x y = -1) ∨ (x = y ∧ cmpZ x y = 0) ∨ (y.toNat < x.toNat ∧ cmpZ x y = 1) := by
  unfold cmpZ
  by_cases h : x.toNat < y.toNat
  · left; rw [if_pos h]; exact ⟨h, rfl⟩
  · rw [if_neg h]
    by_cases e : x = y
    · right; left; rw [if_pos e]; exact ⟨e, rfl⟩
    · right; right; rw [if_neg e]
      have : ¬ x.toNat = y.toNat := fun q => e (BitVec.eq_of_toNat_eq q)
      exact ⟨by omega, rfl⟩
theorem pcmp_ways (x : BitVec 128) (n : Int) (y : BitVec 128) (m : Int) :
    ((x.toNat < y.toNat ∨ (x = y ∧ n < m)) ∧ pcmpZ x n y m = -1) ∨ ((x = y ∧ n = m) ∧ pcmpZ x n y m = 0) ∨ ((y.toNat < x.toNat ∨ (x = y ∧ m < n)) ∧ pcmpZ x n y m = 1) := by
  unfold pcmpZ
  rcases cmpZ_ways x y with ⟨h, e⟩ | ⟨h, e⟩ | ⟨h, e⟩
  · left; rw [e, if_neg (by decide)]; exact ⟨Or.inl h, rfl⟩
  · rw [e, if_pos rfl]
    unfold cmpI
    by_cases h1 : n < m
    · left; rw [if_pos h1]; exact ⟨Or.inr ⟨h, h1⟩, rfl⟩
    · rw [if_neg h1]
      by_cases h2 : m < n
      · right; right; rw [if_pos h2]; exact ⟨Or.inr ⟨h, h2⟩, rfl⟩
      · right; left; rw [if_neg h2]; exact ⟨⟨h, by omega⟩, rfl⟩
  · right; right; rw [e, if_neg (by decide)]; exact ⟨Or.inl h, rfl⟩
theorem pcmp_neg (x : BitVec 128) (n : Int) (y : BitVec 128) (m : Int) : pcmpZ y m x n = - pcmpZ x n y m := by
  rcases pcmp_ways x n y m with ⟨h, e⟩ | ⟨h, e⟩ | ⟨h, e⟩ <;> rcases pcmp_ways y m x n with ⟨g, f⟩ | ⟨g, f⟩ | ⟨g, f⟩ <;> rw [e, f] <;> (try rfl) <;> exfalso
  · rcases h with h | ⟨rfl, h⟩ <;> rcases g with g | ⟨g1, g⟩ <;> (try subst g1) <;> omega
  · obtain ⟨rfl, rfl⟩ := g; rcases h with h | ⟨_, h⟩ <;> omega
  · obtain ⟨rfl, rfl⟩ := h; rcases g with g | ⟨_, g⟩ <;> omega
  · obtain ⟨rfl, rfl⟩ := h; rcases g with g | ⟨_, g⟩ <;> omega
  · obtain ⟨rfl, rfl⟩ := g; rcases h with h | ⟨_, h⟩ <;> omega
  · rcases h with h | ⟨rfl, h⟩ <;> rcases g with g | ⟨g1, g⟩ <;> (try subst g1) <;> omega
theorem pcmp_le (x : BitVec 128) (n : Int) (y : BitVec 128) (m : Int) : pcmpZ x n y m ≤ 0 ↔ (x.toNat < y.toNat ∨ (x = y ∧ n ≤ m)) := by
  rcases pcmp_ways x n y m with ⟨h, e⟩ | ⟨h, e⟩ | ⟨h, e⟩ <;> rw [e]
  · refine ⟨fun _ => ?_, fun _ => by decide⟩
    rcases h with h | ⟨rfl, h⟩
    · exact Or.inl h
    · exact Or.inr ⟨rfl, by omega⟩
  · refine ⟨fun _ => Or.inr ⟨h.1, by omega⟩, fun _ => by decide⟩
  · refine ⟨fun q => absurd q (by decide), fun q => ?_⟩
    exfalso
    rcases h with h | ⟨rfl, h⟩ <;> rcases q with q | ⟨q1, q⟩ <;> (try subst q1) <;> omega
theorem pcmp_eq0 (x : BitVec 128) (n : Int) (y : BitVec 128) (m : Int) : pcmpZ x n y m = 0 ↔ (x = y ∧ n = m) := by
  rcases pcmp_ways x n y m with ⟨h, e⟩ | ⟨h, e⟩ | ⟨h, e⟩ <;> rw [e]
  · refine ⟨fun q => absurd q (by decide), fun q => ?_⟩
    obtain ⟨rfl, rfl⟩ := q; rcases h with h | ⟨_, h⟩ <;> omega
  · exact ⟨fun _ => h, fun _ => rfl⟩
  · refine ⟨fun q => absurd q (by decide), fun q => ?_⟩
    obtain ⟨rfl, rfl⟩ := q; rcases h with h | ⟨_, h⟩ <;> omega
theorem within_iff (x : BitVec 128) (n : Int) (y : BitVec 128) (m : Int) : withinB x n y m = true ↔ (m ≤ n ∧ cutW x m = y) := by
  unfold withinB
  simp
theorem between (F : Int) (x : BitVec 128) (n : Int) (y : BitVec 128) (m : Int) (z : BitVec 128) (k : Int) (hx : Rt F x n) (hy : Rt F y m) (h1 : pcmpZ x n y m ≤ 0) (h2 : pcmpZ y m z k ≤ 0) (h3 : withinB z k x n = true) : withinB y m x n = true := by
  rw [within_iff] at h3 ⊢
  rw [pcmp_le] at h1 h2
  obtain ⟨h3, h4⟩ := h3
  have hxy : x.toNat ≤ y.toNat := by rcases h1 with h | ⟨rfl, _⟩ <;> omega
  have hyz : y.toNat ≤ z.toNat := by rcases h2 with h | ⟨rfl, _⟩ <;> omega
  have c1 := cut_mono x y n hxy
  have c2 := cut_mono y z n hyz
  rw [hx.2.2] at c1
  rw [h4] at c2
  have hc : cutW y n = x := BitVec.eq_of_toNat_eq (by omega)
  refine ⟨?_, hc⟩
  apply Classical.byContradiction
  intro q
  have := cut_cut2 y m n hy.1 (by omega)
  rw [hy.2.2, hc] at this
  rcases h1 with h | ⟨_, h⟩
  · rw [this] at h; omega
  · omega
theorem meetN_le (x : BitVec 128) (n : Int) (y : BitVec 128) (m : Int) : meetN x n y m ≤ n ∧ meetN x n y m ≤ m ∧ meetN x n y m ≤ ((leadN (x ^^^ y) : Nat) : Int) := by
  unfold meetN; omega
theorem meetN_nn (x : BitVec 128) (n : Int) (y : BitVec 128) (m : Int) (h : 0 ≤ n) (g : 0 ≤ m) : 0 ≤ meetN x n y m := by
  unfold meetN; omega
theorem meet_above (x : BitVec 128) (n : Int) (y : BitVec 128) (m : Int) (z : BitVec 128) (k : Int) (hk : 0 ≤ k) (hn : n ≤ 128) (h1 : withinB x n z k = true) (h2 : withinB y m z k = true) : withinB (cutW x (meetN x n y m)) (meetN x n y m) z k = true := by
  rw [within_iff] at *
  have : k ≤ ((leadN (x ^^^ y) : Nat) : Int) := (lead_mask (x ^^^ y) k hk (by omega)).mpr ((xor_mask x y _).mpr (by
    have e1 := h1.2; have e2 := h2.2
    unfold cutW at e1 e2
    rw [e1, e2]))
  have hm : k ≤ meetN x n y m := by unfold meetN; omega
  exact ⟨hm, by rw [cut_cut x k _ hk hm]; exact h1.2⟩
end Go.Proofs.Ytohnhpicjedfeaa
namespace Go.Proofs.Ytohnhpicjedfeaa
open Go.RowKit
set_option linter.unusedSimpArgs false
set_option linter.unusedVariables false

def OrdR (l : List Rte) : Prop := ∀ (a b : Nat) (hb : b < l.length) (hab : a < b), pcmpZ (l[a]'(by omega)).1.1 (l[a]'(by omega)).1.2 l[b].1.1 l[b].1.2 < 0
theorem pcmp_lt (x : BitVec 128) (n : Int) (y : BitVec 128) (m : Int) : pcmpZ x n y m < 0 ↔ (x.toNat < y.toNat ∨ (x.toNat = y.toNat ∧ n < m)) := by
  have h := pcmp_le x n y m
  have e := pcmp_eq0 x n y m
  constructor
  · intro q
    rcases h.1 (by omega) with r | ⟨r, s⟩
    · exact .inl r
    · refine .inr ⟨by rw [r], ?_⟩
      rcases Int.lt_or_eq_of_le s with t | t
      · exact t
      · have := e.2 ⟨r, t⟩; omega
  · intro q
    have hle : pcmpZ x n y m ≤ 0 := h.2 (q.imp id fun ⟨r, s⟩ => ⟨BitVec.eq_of_toNat_eq r, by omega⟩)
    have hne : pcmpZ x n y m ≠ 0 := fun q0 => by
      obtain ⟨r, s⟩ := e.1 q0
      rcases q with q | ⟨-, q⟩
      · rw [r] at q; omega
      · omega
    omega
theorem ord_mono {l : List Rte} (h : OrdR l) (y : BitVec 128) (m : Int) : Mono y m l := by
  intro a b hb hab hlt
  rcases Nat.lt_or_eq_of_le hab with q | q
  · have h1 := (pcmp_lt _ _ _ _).1 (h a b hb q)
    have h2 := (pcmp_lt _ _ _ _).1 hlt
    refine (pcmp_lt _ _ _ _).2 ?_
    omega
  · subst q; exact hlt
theorem fndO_none {y : BitVec 128} {m : Int} : ∀ {l : List Rte}, (∀ (j : Nat) (hj : j < l.length), toP y m l[j] ≠ 0) → fndO y m l = none := by
  intro l
  induction l with
  | nil => intro _; rfl
  | cons r l ih =>
    intro h
    have h0 := h 0 (by simp)
    have hn : ¬ ((r.1.1 == y) && (r.1.2 == m)) = true := fun q => by
      simp only [Bool.and_eq_true, beq_iff_eq] at q
      exact h0 ((pcmp_eq0 _ _ _ _).2 q)
    unfold fndO
    rw [if_neg hn]
    exact ih fun j hj => h (j + 1) (by simpa using hj)
theorem fndO_at {y : BitVec 128} {m : Int} : ∀ {l : List Rte} (i : Nat) (hi : i < l.length), (∀ (j : Nat) (hj : j < i), toP y m (l[j]'(by omega)) ≠ 0) → toP y m l[i] = 0 → fndO y m l = some l[i].2 := by
  intro l
  induction l with
  | nil => intro i hi; simp at hi
  | cons r l ih =>
    intro i hi h h0
    unfold fndO
    cases i with
    | zero =>
      obtain ⟨e1, e2⟩ := (pcmp_eq0 _ _ _ _).1 h0
      have hp : ((r.1.1 == y) && (r.1.2 == m)) = true := by
        simp only [Bool.and_eq_true, beq_iff_eq]
        exact ⟨e1, e2⟩
      rw [if_pos hp]
      rfl
    | succ i =>
      have hn : ¬ ((r.1.1 == y) && (r.1.2 == m)) = true := fun q => by
        simp only [Bool.and_eq_true, beq_iff_eq] at q
        exact h 0 (by omega) ((pcmp_eq0 _ _ _ _).2 q)
      rw [if_neg hn]
      exact ih i (by simpa using hi) (fun j hj => h (j + 1) (by omega)) h0
theorem fnd_place {y : BitVec 128} {m : Int} {l : List Rte} {i : Nat} {ok : Bool} {h : Int} (hO : OrdR l) (hP : Place y m l i ok) (h1 : ok = true → ∃ hi : i < l.length, h = l[i].2) (h0 : ok = false → h = 0) : h = (fndO y m l).getD 0 ∧ ok = (fndO y m l).isSome := by
  obtain ⟨hi, hj, hk⟩ := hP
  cases ok
  · have hn : fndO y m l = none := fndO_none fun j hjl e => by
      have a1 := hj j hjl
      have n1 : ¬ j < i := fun q => by have := a1.1 q; omega
      have hil : i < l.length := by omega
      rw [List.getElem?_eq_getElem hil] at hk
      have ki : toP y m l[i] ≠ 0 := by
        intro q
        have : decide (toP y m l[i] = 0) = true := by simpa using q
        simp only at hk
        rw [this] at hk
        cases hk
      rcases Nat.lt_or_eq_of_le (Nat.le_of_not_lt n1) with q | q
      · have a2 := hj i hil
        have n2 : ¬ toP y m l[i] < 0 := fun q => by have := a2.2 q; omega
        have o1 := (pcmp_lt _ _ _ _).1 (hO i j hjl q)
        obtain ⟨e1, e2⟩ := (pcmp_eq0 _ _ _ _).1 e
        apply n2
        refine (pcmp_lt _ _ _ _).2 ?_
        rw [e1, e2] at o1
        exact o1
      · subst q; exact ki e
    rw [hn]
    exact ⟨h0 rfl, rfl⟩
  · obtain ⟨hil, e⟩ := h1 rfl
    rw [List.getElem?_eq_getElem hil] at hk
    have ki : toP y m l[i] = 0 := by simpa using hk.symm
    have hs := fndO_at i hil (fun j hji q => by have := (hj j (by omega)).1 hji; omega) ki
    rw [hs]
    exact ⟨e, rfl⟩
end Go.Proofs.Ytohnhpicjedfeaa
namespace Go.Proofs.Ytohnhpicjedfeaa
open Go.RowKit
set_option linter.unusedSimpArgs false
set_option linter.unusedVariables false

def kl (x y : Rte) : Prop := x.1.1.toNat < y.1.1.toNat ∨ (x.1.1.toNat = y.1.1.toNat ∧ x.1.2 < y.1.2)
theorem cm_kl (x y : Rte) : cmR x y < 0 ↔ kl x y := pcmp_lt _ _ _ _
theorem kl_irr (x : Rte) : ¬ kl x x := by unfold kl; omega
theorem kl_trans {x y z : Rte} (h : kl x y) (k : kl y z) : kl x z := by unfold kl at *; omega
theorem kl_le {x y z : Rte} (h : ¬ kl y x) (k : ¬ kl z y) : ¬ kl z x := by unfold kl at *; omega
theorem kl_lt_le {x y z : Rte} (h : kl x y) (k : ¬ kl z y) : kl x z := by unfold kl at *; omega
theorem kl_le_lt {x y z : Rte} (h : ¬ kl y x) (k : kl y z) : kl x z := by unfold kl at *; omega
theorem kl_asym {x y : Rte} (h : kl x y) : ¬ kl y x := by unfold kl at *; omega
def SrtL (l : List Rte) : Prop := l.Pairwise (fun a b => ¬ kl b a)
def ky (k : Nat × Int) (r : Rte) : Bool := decide (r.1.1.toNat = k.1 ∧ r.1.2 = k.2)
def SameK (A B : List Rte) : Prop := ∀ k, A.filter (ky k) = B.filter (ky k)
theorem SameK.refl (A : List Rte) : SameK A A := fun _ => rfl
theorem SameK.symm {A B : List Rte} (h : SameK A B) : SameK B A := fun k => (h k).symm
theorem SameK.trans {A B C : List Rte} (h : SameK A B) (g : SameK B C) : SameK A C := fun k => (h k).trans (g k)
theorem SameK.app {A A' B B' : List Rte} (h : SameK A A') (g : SameK B B') : SameK (A ++ B) (A' ++ B') := fun k => by rw [List.filter_append, List.filter_append, h k, g k]
theorem ky_self (r : Rte) : ky (r.1.1.toNat, r.1.2) r = true := by simp [ky]
theorem SameK.mem {A B : List Rte} (h : SameK A B) {r : Rte} (hr : r ∈ A) : r ∈ B := by
  have : r ∈ A.filter (ky (r.1.1.toNat, r.1.2)) := List.mem_filter.mpr ⟨hr, ky_self r⟩
  rw [h] at this
  exact (List.mem_filter.mp this).1
theorem SameK.swap {X Y : List Rte} (h : ∀ x ∈ X, ∀ y ∈ Y, kl y x ∨ kl x y) : SameK (X ++ Y) (Y ++ X) := fun k => by
  rw [List.filter_append, List.filter_append]
  by_cases hx : X.filter (ky k) = []
  · rw [hx]; simp
  · by_cases hy : Y.filter (ky k) = []
    · rw [hy]; simp
    · exfalso
      obtain ⟨x, hx⟩ := List.exists_mem_of_ne_nil _ hx
      obtain ⟨y, hy⟩ := List.exists_mem_of_ne_nil _ hy
      obtain ⟨x1, x2⟩ := List.mem_filter.mp hx
      obtain ⟨y1, y2⟩ := List.mem_filter.mp hy
      have := h x x1 y y1
      simp [ky] at x2 y2
      unfold kl at this
      omega
theorem srt_one : ∀ (A B : List Rte), SrtL A → SrtL B → SameK A B → A = B
  | [], [], _, _, _ => rfl
  | [], b :: B, _, _, h => by have := h.symm.mem (r := b) (by simp); cases this
  | a :: A, [], _, _, h => by have := h.mem (r := a) (by simp); cases this
  | a :: A, b :: B, hA, hB, h => by
    obtain ⟨a1, a2⟩ := List.pairwise_cons.mp hA
    obtain ⟨b1, b2⟩ := List.pairwise_cons.mp hB
    have hab : ¬ kl b a := by
      rcases List.mem_cons.mp (h.symm.mem (r := b) (by simp)) with q | q
      · rw [q]; exact kl_irr _
      · exact a1 b q
    have hba : ¬ kl a b := by
      rcases List.mem_cons.mp (h.mem (r := a) (by simp)) with q | q
      · rw [q]; exact kl_irr _
      · exact b1 a q
    have hk : b.1.1.toNat = a.1.1.toNat ∧ b.1.2 = a.1.2 := by unfold kl at hab hba; omega
    have hb : ky (a.1.1.toNat, a.1.2) b = true := by simp [ky, hk]
    have e := h (a.1.1.toNat, a.1.2)
    rw [List.filter_cons_of_pos (ky_self a), List.filter_cons_of_pos hb] at e
    injection e with e1 e2
    subst e1
    have h2 : SameK A B := fun k => by
      have := h k
      by_cases q : ky k a = true
      · rw [List.filter_cons_of_pos q, List.filter_cons_of_pos q] at this
        injection this
      · rw [List.filter_cons_of_neg q, List.filter_cons_of_neg q] at this
        exact this
    rw [srt_one A B a2 b2 h2]
theorem srt_app {A B : List Rte} (hA : SrtL A) (hB : SrtL B) (h : ∀ x ∈ A, ∀ y ∈ B, ¬ kl y x) : SrtL (A ++ B) := List.pairwise_append.mpr ⟨hA, hB, h⟩
theorem sym_split {X1 X2 Y1 Y2 S1 S2 : List Rte} (hX : SrtL (X1 ++ X2)) (hY : SrtL (Y1 ++ Y2)) (h1 : ∀ y ∈ Y1, ∀ x ∈ X2, kl y x) (h2 : ∀ x ∈ X1, ∀ y ∈ Y2, ¬ kl y x)
    (s1 : SrtL S1) (k1 : SameK (X1 ++ Y1) S1) (s2 : SrtL S2) (k2 : SameK (X2 ++ Y2) S2) : SrtL (S1 ++ S2) ∧ SameK ((X1 ++ X2) ++ (Y1 ++ Y2)) (S1 ++ S2) := by
  have hx := (List.pairwise_append.mp hX).2.2
  have hy := (List.pairwise_append.mp hY).2.2
  refine ⟨srt_app s1 s2 (fun x hx1 y hy1 => ?_), ?_⟩
  · rcases List.mem_append.mp (k1.symm.mem hx1) with a | a <;> rcases List.mem_append.mp (k2.symm.mem hy1) with b | b
    · exact hx x a y b
    · exact h2 x a y b
    · exact kl_asym (h1 x a y b)
    · exact hy x a y b
  · have e : (X1 ++ X2) ++ (Y1 ++ Y2) = X1 ++ (X2 ++ Y1) ++ Y2 := by simp
    have e2 : X1 ++ (Y1 ++ X2) ++ Y2 = (X1 ++ Y1) ++ (X2 ++ Y2) := by simp
    rw [e]
    refine SameK.trans ?_ (SameK.app k1 k2)
    rw [← e2]
    exact SameK.app (SameK.app (SameK.refl _) (SameK.swap (fun x a y b => .inl (h1 y b x a)))) (SameK.refl _)
theorem ins_right {X1 X2 : List Rte} {y : Rte} (hX : SrtL (X1 ++ X2)) (h1 : ∀ x ∈ X2, kl y x) (h2 : ∀ x ∈ X1, ¬ kl y x) : SrtL (X1 ++ y :: X2) ∧ SameK ((X1 ++ X2) ++ [y]) (X1 ++ y :: X2) := by
  obtain ⟨a, b, c⟩ := List.pairwise_append.mp hX
  refine ⟨srt_app a (List.pairwise_cons.mpr ⟨fun x hx => kl_asym (h1 x hx), b⟩) (fun x hx z hz => ?_), ?_⟩
  · rcases List.mem_cons.mp hz with rfl | hz
    · exact h2 x hx
    · exact c x hx z hz
  · rw [List.append_assoc]
    refine SameK.app (SameK.refl _) ?_
    have := SameK.swap (X := X2) (Y := [y]) (fun x hx z hz => .inl (by rw [List.mem_singleton] at hz; subst hz; exact h1 x hx))
    exact this
theorem ins_left {Y1 Y2 : List Rte} {x : Rte} (hY : SrtL (Y1 ++ Y2)) (h1 : ∀ y ∈ Y1, kl y x) (h2 : ∀ y ∈ Y2, ¬ kl y x) : SrtL (Y1 ++ x :: Y2) ∧ SameK ([x] ++ (Y1 ++ Y2)) (Y1 ++ x :: Y2) := by
  obtain ⟨a, b, c⟩ := List.pairwise_append.mp hY
  refine ⟨srt_app a (List.pairwise_cons.mpr ⟨fun y hy => h2 y hy, b⟩) (fun y hy z hz => ?_), ?_⟩
  · rcases List.mem_cons.mp hz with rfl | hz
    · exact kl_asym (h1 y hy)
    · exact c y hy z hz
  · have e : Y1 ++ x :: Y2 = (Y1 ++ [x]) ++ Y2 := by simp
    rw [e, ← List.append_assoc]
    refine SameK.app (SameK.swap (fun z hz y hy => .inl ?_)) (SameK.refl _)
    rw [List.mem_singleton] at hz
    subst hz
    exact h1 y hy
theorem revIns_mem : ∀ (P : List Rte) (x z : Rte), z ∈ revIns P x → z = x ∨ z ∈ P
  | [], x, z, h => by rw [revIns, List.mem_singleton] at h; exact .inl h
  | y :: P, x, z, h => by
    rw [revIns] at h
    split at h
    · rcases List.mem_cons.mp h with h | h
      · exact .inr (by rw [h]; simp)
      · exact (revIns_mem P x z h).imp id (fun q => List.mem_cons_of_mem _ q)
    · rcases List.mem_cons.mp h with h | h
      · exact .inl h
      · exact .inr h
theorem revIns_srt : ∀ (P : List Rte) (x : Rte), SrtL P.reverse → SrtL (revIns P x).reverse ∧ SameK (P.reverse ++ [x]) (revIns P x).reverse
  | [], x, _ => ⟨List.pairwise_singleton _ _, SameK.refl _⟩
  | y :: P, x, h => by
    rw [List.reverse_cons] at h
    obtain ⟨h1, -, h2⟩ := List.pairwise_append.mp h
    rw [revIns]
    split
    · rename_i c
      have c := (cm_kl x y).mp c
      obtain ⟨i1, i2⟩ := revIns_srt P x h1
      rw [List.reverse_cons, List.reverse_cons]
      refine ⟨srt_app i1 (List.pairwise_singleton _ _) (fun z hz u hu => ?_), ?_⟩
      · rw [List.mem_singleton] at hu
        subst hu
        rcases revIns_mem P x z (List.mem_reverse.mp hz) with rfl | q
        · exact kl_asym c
        · exact h2 z (List.mem_reverse.mpr q) u (by simp)
      · refine SameK.trans ?_ (SameK.app i2 (SameK.refl [y]))
        rw [List.append_assoc, List.append_assoc]
        refine SameK.app (SameK.refl _) (SameK.swap (fun a ha b hb => .inl ?_))
        rw [List.mem_singleton] at ha hb
        subst ha hb
        exact c
    · rename_i c
      have c : ¬ kl x y := fun q => c ((cm_kl x y).mpr q)
      rw [List.reverse_cons, List.reverse_cons]
      refine ⟨srt_app h (List.pairwise_singleton _ _) (fun z hz u hu => ?_), SameK.refl _⟩
      rw [List.mem_singleton] at hu
      subst hu
      rcases List.mem_append.mp hz with q | q
      · exact kl_le (h2 z q y (by simp)) c
      · rw [List.mem_singleton] at q; subst q; exact c
theorem isrt_fold : ∀ (M P : List Rte), SrtL P.reverse → SrtL (M.foldl revIns P).reverse ∧ SameK (P.reverse ++ M) (M.foldl revIns P).reverse
  | [], P, h => ⟨h, by rw [List.append_nil]; exact SameK.refl _⟩
  | x :: M, P, h => by
    obtain ⟨a, b⟩ := revIns_srt P x h
    obtain ⟨c, d⟩ := isrt_fold M (revIns P x) a
    refine ⟨c, SameK.trans ?_ d⟩
    have e : P.reverse ++ x :: M = (P.reverse ++ [x]) ++ M := by simp
    rw [e]
    exact SameK.app b (SameK.refl _)
theorem isrt_spec (D : List Rte) : SrtL (isrt D) ∧ SameK D (isrt D) := by
  have := isrt_fold D [] List.Pairwise.nil
  simpa [isrt] using this
theorem isrt_one {D S : List Rte} (h : SrtL S) (k : SameK D S) : S = isrt D := srt_one _ _ h (isrt_spec D).1 (k.symm.trans (isrt_spec D).2)
end Go.Proofs.Ytohnhpicjedfeaa
namespace Go.Proofs.Ytohnhpicjedfeaa
open Go.RowKit
set_option linter.unusedSimpArgs false
set_option linter.unusedVariables false

section
variable {P : Program}
structure Sim (b l : List Oper) (m : Nat) (E : Nat → Bool) : Prop where
  len : b.length = m
  same : ∀ i, i < m → ∀ o, l[i]? = some o → ∃ o', b[i]? = some o' ∧ o'.dst = o.dst ∧ o'.after = o.after ∧ o'.guard = o.guard ∧ (E i = false → o' = o)
theorem Sim.yield {b l : List Oper} {m : Nat} {E : Nat → Bool} (h : Sim b l m E) (hml : m ≤ l.length) (tmps : Array Value) (k : Nat) (hk : k < m) : yielded b.toArray tmps k = yielded l.toArray tmps k := by
  have hl : k < l.length := by omega
  obtain ⟨o2, q1, q2, -, -, -⟩ := h.same k hk l[k] (by simp [hl])
  unfold yielded
  simp only [List.getElem?_toArray, q1, List.getElem?_eq_getElem hl, Option.bind_some, q2]
theorem Sim.wanted {b l : List Oper} {m : Nat} {E : Nat → Bool} (h : Sim b l m E) (hml : m ≤ l.length) (a : Act) (o : Oper) (hlt : ∀ k c, o.guard = some (k, c) → k < m) : Region.wanted o (yielded b.toArray a.tmps) = Region.wanted o (yielded l.toArray a.tmps) := by
  unfold Region.wanted
  cases e : o.guard with
  | none => rfl
  | some kb =>
    obtain ⟨k, c⟩ := kb
    simp only
    rw [h.yield hml a.tmps k (hlt k c e)]
theorem Sim.ready {b l : List Oper} {m : Nat} {E : Nat → Bool} (h : Sim b l m E) (hml : m ≤ l.length) (hw : waitB l m = true) (lp : Array Bool) (hs : lp.size = m) (f : Nat) (hu : unl lp = f + 1) (i : Nat)
    (hi : i ∈ Region.ready .any l.toArray (lp ++ Array.replicate (l.length - m) false)) : i < m ∧ i ∈ Region.ready .any b.toArray lp := by
  obtain ⟨him, -⟩ := ready_pre l m m undef hml hw lp hs f hu i hi
  obtain ⟨hun, o, ho, hall⟩ := mem_ready.1 hi
  obtain ⟨o', q1, q2, q3, q4, -⟩ := h.same i him o (by simpa using ho)
  refine ⟨him, mem_ready.2 ⟨by rw [get_app_lt lp _ i (by omega)] at hun; exact hun, o', by simpa using q1, fun e he hb => ?_⟩⟩
  rw [q3] at he
  have := hall e he hb
  rwa [get_app_false] at this
theorem putAll_size : ∀ (ds : List (Option Tmp)) (vs : List Value) (a : Act), (putAll a ds vs).tmps.size = a.tmps.size
  | [], _, a => by cases ‹List Value› <;> rfl
  | d :: ds, [], a => rfl
  | d :: ds, v :: vs, a => by
    show (putAll (a.put d v) ds vs).tmps.size = _
    rw [putAll_size ds vs, put_size]
end
end Go.Proofs.Ytohnhpicjedfeaa
namespace Go.Proofs.Ytohnhpicjedfeaa
open Go.RowKit
set_option linter.unusedSimpArgs false
set_option linter.unusedVariables false

section
variable {P : Program}

theorem putAll_other : ∀ (ds : List (Option Tmp)) (vs : List Value) (a : Act) (s : Nat), (∀ d ∈ ds, d ≠ some s) → (putAll a ds vs).tmps[s]? = a.tmps[s]?
  | [], vs, a, s, _ => by cases vs <;> rfl
  | d :: ds, [], a, s, _ => rfl
  | d :: ds, v :: vs, a, s, h => by
    rw [putAll, putAll_other ds vs (a.put d v) s (fun x hx => h x (List.mem_cons_of_mem _ hx))]
    exact put_other a d v s (h d (by simp))
theorem putAll_defers : ∀ (ds : List (Option Tmp)) (vs : List Value) (a : Act), (putAll a ds vs).defers = a.defers
  | [], vs, a => by cases vs <;> rfl
  | d :: ds, [], a => rfl
  | d :: ds, v :: vs, a => by
    rw [putAll, putAll_defers ds vs (a.put d v)]
    unfold Act.put
    cases d <;> rfl
structure Slt (l : List Oper) (a A : Act) (lp : Array Bool) (a' : Act) : Prop where
  don : ∀ (k : Nat) (o : Oper) (s : Nat), l[k]? = some o → lp.getD k false = true → o.dst = some s → a'.tmps[s]? = A.tmps[s]?
  oth : ∀ s, (∀ (k : Nat) (o : Oper), l[k]? = some o → lp.getD k false = true → o.dst ≠ some s) → a'.tmps[s]? = a.tmps[s]?
  siz : a'.tmps.size = a.tmps.size
  dfr : a'.defers = a.defers
theorem getD_set {lp : Array Bool} {i k : Nat} (h : (lp.setIfInBounds i true).getD k false = true) : k = i ∨ lp.getD k false = true := by
  by_cases e : k = i
  · exact .inl e
  · right
    rw [Array.getD_eq_getD_getElem?] at h ⊢
    rwa [Array.getElem?_setIfInBounds_ne (by omega)] at h
theorem getD_set_same {lp : Array Bool} {i : Nat} (h : i < lp.size) : (lp.setIfInBounds i true).getD i false = true := by
  rw [Array.getD_eq_getD_getElem?, Array.getElem?_setIfInBounds_self_of_lt h]
  rfl
def valO (A : Act) (o : Oper) : Value := ((o.dst).bind fun s => A.tmps[s]?).getD undef
theorem gh_any {γ : Type} {l : List Oper} (ok : QpOk l l.length l.length) (hgd : ∀ o ∈ l, o.guard = none) (hdst : ∀ (i k : Nat) (oi ok : Oper) (s : Nat), l[i]? = some oi → l[k]? = some ok → oi.dst = some s → ok.dst = some s → i = k) {Q : Exit → Act → World → Prop} {a : Act} (A : γ → Act) (hsz : ∀ g, (A g).tmps.size = a.tmps.size) (hdf : ∀ g, (A g).defers = a.defers) (hA : ∀ g s, (∀ o ∈ l, o.dst ≠ some s) → (A g).tmps[s]? = a.tmps[s]?) (R : Array Bool → γ → World → Prop)
    (hstep : ∀ (i : Nat) (o : Oper) (lp : Array Bool) (g : γ) (w' : World) (a' : Act), l[i]? = some o → lp.size = l.length → lp.getD i false = false → (∀ e ∈ o.after, Region.binds .any e = true → lp.getD e.on false = true) → R lp g w' → Slt l a (A g) lp a' →
      ∀ (K : Act → World → Prop) Q', (∀ g' w'', (∀ (k : Nat) (o : Oper) (s : Nat), l[k]? = some o → lp.getD k false = true → o.dst = some s → (A g').tmps[s]? = (A g).tmps[s]?) → R (lp.setIfInBounds i true) g' w'' → ∀ v, valO (A g') o = v → K (a'.put o.dst v) w'') → o.wp P a' w' K Q')
    (hpost : ∀ g w', R (Array.replicate l.length true) g w' → Q .normal (A g) w') :
    ∀ (fuel : Nat) (lp : Array Bool) (g : γ) (a' : Act) (w : World), lp.size = l.length → unl lp = fuel → R lp g w → Slt l a (A g) lp a' → wpAny P .any l.toArray Q fuel lp a' w := by
  intro fuel
  have fin : ∀ (lp : Array Bool) (g : γ) (a' : Act) (w : World), lp.size = l.length → unl lp = 0 → R lp g w → Slt l a (A g) lp a' → Q .normal a' w := by
    intro lp g a' w hs hu hR hS
    have e : lp = Array.replicate l.length true := by have := unl_zero lp hu; rwa [hs] at this
    rw [e] at hR hS
    have : a' = A g := by
      have ht : a'.tmps = (A g).tmps := by
        apply Array.ext_getElem?
        intro s
        by_cases h : ∃ (k : Nat) (o : Oper), l[k]? = some o ∧ o.dst = some s
        · obtain ⟨k, o, h1, h2⟩ := h
          have hk : k < l.length := (List.getElem?_eq_some_iff.mp h1).1
          exact hS.don k o s h1 (by simp [Array.getElem?_replicate, hk]) h2
        · have h' : ∀ o ∈ l, o.dst ≠ some s := by
            intro o ho e
            obtain ⟨k, hk, rfl⟩ := List.mem_iff_getElem.mp ho
            exact h ⟨k, l[k], List.getElem?_eq_getElem hk, e⟩
          rw [hA g s h']
          exact hS.oth s (fun k o h1 _ e => h ⟨k, o, h1, e⟩)
      have hd : a'.defers = (A g).defers := by rw [hS.dfr, hdf]
      cases a'
      cases hAg : A g
      rw [hAg] at ht hd
      simp only at ht hd
      rw [ht, hd]
    rw [this]
    exact hpost g w hR
  induction fuel with
  | zero =>
    intro lp g a' w hs hu hR hS
    refine ⟨?_, fin lp g a' w hs hu hR hS⟩
    have e : lp = Array.replicate l.length true := by have := unl_zero lp hu; rwa [hs] at this
    apply List.eq_nil_iff_forall_not_mem.mpr
    intro i hi
    obtain ⟨hun, o, ho, _⟩ := mem_ready.1 hi
    have hk : i < l.length := by
      have := (Array.getElem?_eq_some_iff.mp ho).1
      simpa using this
    rw [e] at hun
    simp [Array.getElem?_replicate, hk] at hun
  | succ fuel ih =>
    intro lp g a' w hs hu hR hS
    refine ⟨fun e => ?_, fun i hi => ?_⟩
    · obtain ⟨k, hk, hf⟩ := unl_some lp fuel hu
      have hne := some_ready ok lp hs k (by omega) hf
      rw [Nat.sub_self] at hne
      exact absurd (by simpa using e) hne
    · obtain ⟨hun, o, ho, hrd⟩ := mem_ready.1 hi
      have ho' : l[i]? = some o := by simpa using ho
      have hil : i < l.length := (List.getElem?_eq_some_iff.mp ho').1
      have hun' : lp.getD i false = false := by
        rw [Array.getD_eq_getD_getElem?] at hun ⊢
        cases q : lp[i]? with
        | none => rfl
        | some b => rw [q] at hun; simpa using hun
      unfold wpOp
      simp only [ho]
      rw [if_pos (by simp [Region.wanted, hgd o (List.mem_of_getElem? ho')])]
      left
      refine hstep i o lp g w a' ho' hs hun' (fun e he hb => hrd e he hb) hR hS _ _ ?_
      intro g' w'' hsame hR' v hv
      subst hv
      refine ih _ g' _ w'' (by simp [hs]) (by have := unl_set lp i hun; omega) hR' ⟨?_, ?_, ?_, ?_⟩
      · intro k ok s hk hl hd
        rcases getD_set hl with rfl | hl'
        · have : ok = o := by rw [ho'] at hk; cases hk; rfl
          subst this
          unfold Act.put valO
          rw [hd]
          simp only [Option.bind_some]
          by_cases hlt : s < a'.tmps.size
          · rw [Array.getElem?_setIfInBounds_self_of_lt hlt]
            have h2 : s < (A g').tmps.size := by rw [hsz, ← hS.siz]; exact hlt
            rw [Array.getElem?_eq_getElem h2]
            rfl
          · rw [Array.getElem?_eq_none (by simp; omega), Array.getElem?_eq_none (by rw [hsz, ← hS.siz]; omega)]
        · rw [put_other a' o.dst _ s (fun e => by
            have := hdst k i ok o s hk ho' hd e
            subst this
            rw [hun'] at hl'
            cases hl'), hS.don k ok s hk hl' hd, hsame k ok s hk hl' hd]
      · intro s h
        have hne : o.dst ≠ some s := h i o ho' (getD_set_same (by omega))
        rw [put_other a' o.dst _ s hne]
        exact hS.oth s (fun k ok hk hl => h k ok hk (by
          by_cases e : k = i
          · subst e; exact getD_set_same (by omega)
          · rw [Array.getD_eq_getD_getElem?] at hl ⊢
            rwa [Array.getElem?_setIfInBounds_ne (by omega)]))
      · rw [put_size, hS.siz]
      · unfold Act.put
        cases o.dst <;> exact hS.dfr
def dstG (l : List Oper) : Bool := (List.range l.length).all fun i => (List.range l.length).all fun k => i == k || ((l[i]?).bind (·.dst)).isNone || ((l[i]?).bind (·.dst)) != ((l[k]?).bind (·.dst))
theorem dstG_of {l : List Oper} (h : dstG l = true) : ∀ (i k : Nat) (oi ok : Oper) (s : Nat), l[i]? = some oi → l[k]? = some ok → oi.dst = some s → ok.dst = some s → i = k := by
  intro i k oi ok s hi hk h1 h2
  have hil := (List.getElem?_eq_some_iff.mp hi).1
  have hkl := (List.getElem?_eq_some_iff.mp hk).1
  unfold dstG at h
  rw [List.all_eq_true] at h
  have := h i (List.mem_range.mpr hil)
  rw [List.all_eq_true] at this
  have := this k (List.mem_range.mpr hkl)
  rw [hi, hk] at this
  simp only [Option.bind_some, h1, h2] at this
  simpa using this
theorem gh_region {γ : Type} {id : Nat} {l : List Oper} (ok : QpOk l l.length l.length) (hgd : (l.all fun o => o.guard.isNone) = true) (hdst : dstG l = true) {Q : Exit → Act → World → Prop} {a : Act} {w : World} (ds : List (Option Tmp)) (vals : γ → List Value) (hm : P.follows .mixedOrders = true) (hds : ∀ d ∈ ds, ∃ o ∈ l, o.dst = d) (R : Array Bool → γ → World → Prop) (g0 : γ) (h0 : R (Array.replicate l.length false) g0 w.drew)
    (hstep : ∀ (i : Nat) (o : Oper) (lp : Array Bool) (g : γ) (w' : World) (a' : Act), l[i]? = some o → lp.size = l.length → lp.getD i false = false → (∀ e ∈ o.after, Region.binds .any e = true → lp.getD e.on false = true) → R lp g w' → Slt l a (putAll a ds (vals g)) lp a' →
      ∀ (K : Act → World → Prop) Q', (∀ g' w'', (∀ (k : Nat) (o : Oper) (s : Nat), l[k]? = some o → lp.getD k false = true → o.dst = some s → (putAll a ds (vals g')).tmps[s]? = (putAll a ds (vals g)).tmps[s]?) → R (lp.setIfInBounds i true) g' w'' → ∀ v, valO (putAll a ds (vals g')) o = v → K (a'.put o.dst v) w'') → o.wp P a' w' K Q')
    (hpost : ∀ g w', R (Array.replicate l.length true) g w' → Q .normal (putAll a ds (vals g)) w') : (Code.region id l.toArray true).wp P Q a w := by
  refine wp_region_any hm ?_
  have hu : unl (Array.replicate l.length false) = l.length := by unfold unl; simp
  have main := gh_any ok (fun o ho => by have := List.all_eq_true.mp hgd o ho; simpa using this) (dstG_of hdst) (A := fun g => putAll a ds (vals g)) (fun g => putAll_size _ _ _) (fun g => putAll_defers _ _ _) (fun g s h => putAll_other _ _ _ _ (fun d hd e => by obtain ⟨o, ho, hod⟩ := hds d hd; exact h o ho (by rw [hod, e]))) R hstep hpost l.length (Array.replicate l.length false) g0 a w.drew (by simp) hu h0 ⟨fun k o s hk hl => (by rw [Array.getD_eq_getD_getElem?, Array.getElem?_replicate] at hl; split at hl <;> simp at hl), fun s _ => rfl, rfl, rfl⟩
  have e1 : l.length = l.toArray.size := by simp
  rw [e1] at main
  simpa using main
end
end Go.Proofs.Ytohnhpicjedfeaa
namespace Go.Proofs.Ytohnhpicjedfeaa
open Go.RowKit
set_option linter.unusedSimpArgs false
set_option linter.unusedVariables false

theorem wl_nil5 {P : Program} {ops : Array Oper} {Q : Exit → Act → World → Prop} {a : Act} {w : World} (h : wpList P ops Q [] a w) : Q .normal a w := h
theorem Slt.old5 {l : List Oper} {a A : Act} {lp : Array Bool} {a' : Act} (h : Slt l a A lp a') (s : Nat) (hs : ∀ o ∈ l, o.dst ≠ some s) : a'.tmps[s]? = a.tmps[s]? := h.oth s (fun k o hk _ => hs o (List.mem_of_getElem? hk))
theorem gh_quiet5 {P : Program} {o : Oper} {a' : Act} {w' : World} {K : Act → World → Prop} {Q' : Exit → Act → World → Prop} {v : Value} (hr : (execOp a'.eval o).run P w' = .ok (.value v) w') (hK : K (a'.put o.dst v) w') : o.wp P a' w' K Q' := by
  unfold Oper.wp
  rw [hr]
  exact hK
structure R17 (B M A : World → Prop) (f : Nat → Bool) (W : World) : Prop where
  bef : f 15 = false → B W
  mid : f 15 = true → f 17 = false → M W
  aft : f 17 = true → A W
  w1 : f 15 = true → f 9 = true ∧ f 13 = true
  w2 : f 17 = true → f 15 = true
section
variable {B M A : World → Prop} {f f' : Nat → Bool} {W W' : World}
theorem R17.start (h : B W) (hf : ∀ j, f j = false) : R17 B M A f W := ⟨fun _ => h, fun q => (by rw [hf] at q; cases q), fun q => (by rw [hf] at q; cases q), fun q => (by rw [hf] at q; cases q), fun q => (by rw [hf] at q; cases q)⟩
theorem R17.load9 (k : R17 B M A f W) (h : f 9 = false) : B W := k.bef (by
  cases e : f 15 with
  | false => rfl
  | true => have := (k.w1 e).1; rw [h] at this; cases this)
theorem R17.load13 (k : R17 B M A f W) (h : f 13 = false) : B W := k.bef (by
  cases e : f 15 with
  | false => rfl
  | true => have := (k.w1 e).2; rw [h] at this; cases this)
theorem R17.quiet {i : Nat} (k : R17 B M A f W) (h1 : i ≠ 15) (h2 : i ≠ 17) (hs : f' i = true) (ho : ∀ j, j ≠ i → f' j = f j) : R17 B M A f' W := by
  have e15 := ho 15 (Ne.symm h1)
  have e17 := ho 17 (Ne.symm h2)
  have up : ∀ j, f j = true → f' j = true := fun j h => by
    by_cases e : j = i
    · rw [e]; exact hs
    · rw [ho j e]; exact h
  exact ⟨fun q => k.bef (by rw [← e15]; exact q), fun q r => k.mid (by rw [← e15]; exact q) (by rw [← e17]; exact r), fun q => k.aft (by rw [← e17]; exact q), fun q => by have := k.w1 (by rw [← e15]; exact q); exact ⟨up 9 this.1, up 13 this.2⟩, fun q => by rw [e15]; exact k.w2 (by rw [← e17]; exact q)⟩
theorem R17.st1 (k : R17 B M A f W) (h : M W') (h9 : f 9 = true) (h13 : f 13 = true) (hun : f 15 = false) (hs : f' 15 = true) (ho : ∀ j, j ≠ 15 → f' j = f j) : R17 B M A f' W' := by
  have e17 : f' 17 = false := by
    rw [ho 17 (by decide)]
    cases e : f 17 with
    | false => rfl
    | true => have := k.w2 e; rw [hun] at this; cases this
  exact ⟨fun q => (by rw [hs] at q; cases q), fun _ _ => h, fun q => (by rw [e17] at q; cases q), fun _ => ⟨by rw [ho 9 (by decide)]; exact h9, by rw [ho 13 (by decide)]; exact h13⟩, fun q => (by rw [e17] at q; cases q)⟩
theorem R17.st2 (k : R17 B M A f W) (h : A W') (h15 : f 15 = true) (hun : f 17 = false) (hs : f' 17 = true) (ho : ∀ j, j ≠ 17 → f' j = f j) : R17 B M A f' W' := by
  have e15 : f' 15 = true := by rw [ho 15 (by decide)]; exact h15
  exact ⟨fun q => (by rw [e15] at q; cases q), fun _ q => (by rw [hs] at q; cases q), fun _ => h, fun q => by have := k.w1 h15; exact ⟨by rw [ho 9 (by decide)]; exact this.1, by rw [ho 13 (by decide)]; exact this.2⟩, fun _ => e15⟩
end
end Go.Proofs.Ytohnhpicjedfeaa
