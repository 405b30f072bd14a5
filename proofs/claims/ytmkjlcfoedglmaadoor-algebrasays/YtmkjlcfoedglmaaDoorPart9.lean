/-
  Part 9 of the proof: 4 texts, one behind the other.
-/
import Derived.Test.YtmkjlcfoedglmaaDoorPart7
import Derived.Test.YtmkjlcfoedglmaaDoorPart2
import Derived.Laws.AppendOwnNone
import Derived.Test.YtmkjlcfoedglmaaDoorPart6
import Derived.Test.YtmkjlcfoedglmaaDoorPart4
/-
  Plain facts on numbers: how many prefixes a list of segments takes, where each boundary is an end of one of so many
  prefixes: the paths of the tree, those at the top shared.
-/
namespace Go.Proofs.YtmkjlcfoedglmaaDoor
set_option linter.unusedSimpArgs false
set_option linter.unusedVariables false

/-- The nodes with something below them, of a tree of d steps with r paths: at each step at most r, at most all. -/
def pthS : Nat → Nat → Nat
  | 0, _ => 0
  | d + 1, r => pthS d r + min (2 ^ d) r
theorem pthS_mono (r s : Nat) (h : r ≤ s) : ∀ d, pthS d r ≤ pthS d s := by
  intro d
  induction d with
  | zero => exact Nat.le_refl _
  | succ d ih => simp only [pthS]; omega
theorem pthS_two (p q : Nat) (h : 1 ≤ p + q) : ∀ d, pthS d p + pthS d q + 1 ≤ pthS (d + 1) (p + q) := by
  intro d
  induction d with
  | zero => simp only [pthS]; omega
  | succ d ih =>
    have e : 2 ^ (d + 1) = 2 * 2 ^ d := by rw [Nat.pow_succ]; omega
    rw [show pthS (d + 1 + 1) (p + q) = pthS (d + 1) (p + q) + min (2 ^ (d + 1)) (p + q) from rfl, show pthS (d + 1) p = pthS d p + min (2 ^ d) p from rfl, show pthS (d + 1) q = pthS d q + min (2 ^ d) q from rfl, e]
    generalize 2 ^ d = z at *
    omega
theorem Cn.le {u c a k : Nat} (h : Cn u c a k) : a ≤ c := by
  induction h with
  | done => exact Nat.le_refl _
  | step a e k h1 h2 h3 h4 ih => have := Nat.two_pow_pos e; omega
/-- A whole block takes one. -/
theorem Cn.whole {u a e k : Nat} (he : e ≤ 128) (hue : u ≤ e) (hd : 2 ^ e ∣ a) (h : Cn u (a + 2 ^ e) a k) : k = 1 := by
  have hp := Nat.two_pow_pos e
  generalize hc : a + 2 ^ e = c at h
  cases h with
  | done => omega
  | step _ f k g1 g2 g3 g4 =>
    have e1 : ¬ e + 1 ≤ f := by
      intro q
      have := (g2.down q).2
      rw [Nat.pow_succ] at this
      omega
    have e2 : ¬ f < e := fun q => g3 ⟨by omega, Rs.down ⟨hd, by omega⟩ q⟩
    have e3 : f = e := by omega
    subst e3
    rw [hc] at g4
    rw [g4.none]
theorem blk_in (x j m a e : Nat) (hm : m = x + 2 ^ j) (hx : 2 ^ (j + 1) ∣ x) (hxa : x ≤ a) (ha : 2 ^ e ∣ a) (h1 : a < m) (h2 : m < a + 2 ^ e) : j + 1 ≤ e := by
  apply Classical.byContradiction
  intro c
  have hej : 2 ^ e ∣ 2 ^ j := Nat.pow_dvd_pow 2 (by omega)
  have hex : 2 ^ e ∣ x := Nat.dvd_trans (Nat.pow_dvd_pow 2 (by omega)) hx
  have hem : 2 ^ e ∣ m := by rw [hm]; exact Nat.dvd_add hex hej
  have := Nat.le_of_dvd (by omega) (Nat.dvd_sub hem ha)
  omega
/-- A cover goes by the middle of a block, if it is not all of it. -/
theorem Cn.part {u c a k : Nat} (h : Cn u c a k) (x j m : Nat) (hm : m = x + 2 ^ j) (hx : 2 ^ (j + 1) ∣ x) (hc : c ≤ x + 2 ^ (j + 1)) (hmc : m ≤ c) (hn : ¬ (a = x ∧ c = x + 2 ^ (j + 1))) : x ≤ a → a ≤ m → ∃ k1 k2, Cn u m a k1 ∧ Cn u c m k2 ∧ k = k1 + k2 := by
  revert hn
  induction h with
  | done => intro hn h1 h2; have : c = m := by omega
            subst this; exact ⟨0, 0, .done, .done, rfl⟩
  | step a e k h1 h2 h3 h4 ih =>
    intro hn g1 g2
    by_cases hq : a = m
    · rw [hq] at h2 h3 h4 ⊢
      exact ⟨0, k + 1, .done, .step _ e k h1 h2 h3 h4, by omega⟩
    · have hp := Nat.two_pow_pos e
      have hpj : 2 ^ (j + 1) = 2 ^ j + 2 ^ j := by rw [Nat.pow_succ]; omega
      have hs : a + 2 ^ e ≤ m := by
        apply Classical.byContradiction
        intro q
        have he := blk_in x j m a e hm hx g1 h2.1 (by omega) (by omega)
        have h5 := (h2.down he).2
        exact hn ⟨by omega, by omega⟩
      obtain ⟨k1, k2, p1, p2, p3⟩ := ih (fun q => by omega) (by omega) hs
      exact ⟨k1 + 1, k2, .step a e k1 h1 ⟨h2.1, hs⟩ (fun q => h3 ⟨q.1, q.2.1, Nat.le_trans q.2.2 hmc⟩) p1, p2, by omega⟩
theorem Cn.parts {u c a k : Nat} (h : Cn u c a k) (x j m : Nat) (hj : j + 1 ≤ 128) (huj : u ≤ j) (hm : m = x + 2 ^ j) (hx : 2 ^ (j + 1) ∣ x) (hc : c ≤ x + 2 ^ (j + 1)) (hmc : m ≤ c) (hxa : x ≤ a) (ham : a ≤ m) : ∃ k1 k2, Cn u m a k1 ∧ Cn u c m k2 ∧ k ≤ k1 + k2 := by
  by_cases hn : a = x ∧ c = x + 2 ^ (j + 1)
  · obtain ⟨rfl, rfl⟩ := hn
    have hpj : 2 ^ (j + 1) = 2 ^ j + 2 ^ j := by rw [Nat.pow_succ]; omega
    have hp := Nat.two_pow_pos j
    have k1 := h.whole (e := j + 1) hj (by omega) hx
    have hd : 2 ^ j ∣ a := Nat.dvd_trans (Nat.pow_dvd_pow 2 (by omega)) hx
    refine ⟨1, 1, ?_, ?_, by omega⟩
    · subst hm
      exact .step a j 0 huj ⟨hd, Nat.le_refl _⟩ (fun q => by have := q.2.2; omega) .done
    · have e : a + 2 ^ (j + 1) = m + 2 ^ j := by omega
      rw [e]
      exact .step m j 0 huj ⟨by rw [hm]; exact Nat.dvd_add hd (Nat.dvd_refl _), Nat.le_refl _⟩ (fun q => by have := q.2.2; omega) .done
  · obtain ⟨k1, k2, p1, p2, p3⟩ := h.part x j m hm hx hc hmc hn hxa ham
    exact ⟨k1, k2, p1, p2, by omega⟩
/-- Segments from a to c, each with its cover; where one ends, B holds. -/
inductive Tot (u : Nat) (B : Nat → Prop) (c : Nat) : Nat → Nat → Prop
  | last (a k : Nat) : a < c → Cn u c a k → Tot u B c a k
  | more (a b k t : Nat) : a < b → b < c → B b → Cn u b a k → Tot u B c b t → Tot u B c a (k + t)
theorem Tot.parts {u : Nat} {B : Nat → Prop} {c a t : Nat} (h : Tot u B c a t) (x j m : Nat) (hj : j + 1 ≤ 128) (huj : u ≤ j) (hm : m = x + 2 ^ j) (hx : 2 ^ (j + 1) ∣ x) (hc : c ≤ x + 2 ^ (j + 1)) (hmc : m < c) : x ≤ a → a < m → ∃ t1 t2, Tot u B m a t1 ∧ Tot u B c m t2 ∧ t ≤ t1 + t2 := by
  induction h with
  | last a k h1 h2 =>
    intro g1 g2
    obtain ⟨k1, k2, p1, p2, p3⟩ := h2.parts x j m hj huj hm hx hc (by omega) g1 (by omega)
    exact ⟨k1, k2, .last _ _ g2 p1, .last _ _ hmc p2, p3⟩
  | more a b k t h1 h2 h3 h4 h5 ih =>
    intro g1 g2
    rcases Nat.lt_trichotomy b m with q | q | q
    · obtain ⟨t1, t2, p1, p2, p3⟩ := ih (by omega) q
      exact ⟨k + t1, t2, .more a b k t1 h1 q h3 h4 p1, p2, by omega⟩
    · subst q
      exact ⟨k, t, .last _ _ g2 h4, h5, Nat.le_refl _⟩
    · obtain ⟨k1, k2, p1, p2, p3⟩ := h4.parts x j m hj huj hm hx (by omega) (by omega) g1 (by omega)
      exact ⟨k1, k2 + t, .last _ _ g2 p1, .more m b k2 t q h2 h3 p2 h5, by omega⟩
/-- An end of a prefix that lies in the midst of a block: the prefix lies in the block. -/
theorem end_in (x j y e b : Nat) (hx : 2 ^ j ∣ x) (hy : 2 ^ e ∣ y) (hb : b = y ∨ b = y + 2 ^ e) (h1 : x < b) (h2 : b < x + 2 ^ j) : x ≤ y ∧ y + 2 ^ e ≤ x + 2 ^ j := by
  have hpe := Nat.two_pow_pos e
  have hpj := Nat.two_pow_pos j
  have hej : e < j := by
    apply Classical.byContradiction
    intro q
    have d1 : 2 ^ j ∣ 2 ^ e := Nat.pow_dvd_pow 2 (by omega)
    have d2 : 2 ^ j ∣ y := Nat.dvd_trans d1 hy
    have d3 : 2 ^ j ∣ b := by
      rcases hb with rfl | rfl
      · exact d2
      · exact Nat.dvd_add d2 d1
    have := Nat.le_of_dvd (by omega) (Nat.dvd_sub d3 hx)
    omega
  have d1 : 2 ^ e ∣ x := Nat.dvd_trans (Nat.pow_dvd_pow 2 (by omega)) hx
  have d2 : 2 ^ e ∣ x + 2 ^ j := Nat.dvd_add d1 (Nat.pow_dvd_pow 2 (by omega))
  have d3 : 2 ^ e ∣ b := by
    rcases hb with rfl | rfl
    · exact hy
    · exact Nat.dvd_add hy (Nat.dvd_refl _)
  have l1 := Nat.le_of_dvd (by omega) (Nat.dvd_sub d3 d1)
  have l2 := Nat.le_of_dvd (by omega) (Nat.dvd_sub d2 d3)
  rcases hb with rfl | rfl <;> omega
/-- Two parts of a list that have nothing in common. -/
theorem two_len {α : Type} (p q : α → Bool) (h : ∀ a, p a = true → q a = true → False) : ∀ l : List α, (l.filter p).length + (l.filter q).length ≤ l.length := by
  intro l
  induction l with
  | nil => simp
  | cons a l ih =>
    rw [List.filter_cons, List.filter_cons]
    by_cases hp : p a = true
    · by_cases hq : q a = true
      · exact absurd (h a hp hq) id
      · rw [if_pos hp, if_neg hq]; simp only [List.length_cons]; omega
    · rw [if_neg hp]
      by_cases hq : q a = true
      · rw [if_pos hq]; simp only [List.length_cons]; omega
      · rw [if_neg hq]; simp only [List.length_cons]; omega
/-- b is an end of one of these prefixes (where it begins, and of how many addresses, as a power). -/
def EndOf (l : List (Nat × Nat)) (b : Nat) : Prop := ∃ p ∈ l, b = p.1 ∨ b = p.1 + 2 ^ p.2
theorem Tot.one {u : Nat} {B : Nat → Prop} {a e t : Nat} (he : e ≤ 128) (hue : u ≤ e) (hd : 2 ^ e ∣ a) (h : Tot u B (a + 2 ^ e) a t) (hB : ∀ b, B b → a < b → b < a + 2 ^ e → False) : t = 1 := by
  cases h with
  | last _ _ h1 h2 => exact h2.whole he hue hd
  | more _ b k t h1 h2 h3 h4 h5 => exact absurd (hB b h3 h1 h2) id
/-- Not more than the paths of the tree take. -/
theorem tot_most (u : Nat) (B : Nat → Prop) (hu : ∀ b, B b → 2 ^ u ∣ b) : ∀ d x t (l : List (Nat × Nat)), u + d ≤ 128 → 2 ^ (u + d) ∣ x → (∀ p ∈ l, 2 ^ p.2 ∣ p.1) → (∀ b, B b → x < b → b < x + 2 ^ (u + d) → EndOf l b) → Tot u B (x + 2 ^ (u + d)) x t → t ≤ 1 + pthS d l.length := by
  intro d
  induction d with
  | zero =>
    intro x t l h1 h2 h3 h4 h5
    have := h5.one h1 (by omega) h2 (fun b hb q1 q2 => by
      have h2' : 2 ^ u ∣ x := h2
      have q2' : b < x + 2 ^ u := q2
      have := Nat.le_of_dvd (by omega) (Nat.dvd_sub (hu b hb) h2')
      omega)
    omega
  | succ d ih =>
    intro x t l h1 h2 h3 h4 h5
    have hpw : 2 ^ (u + (d + 1)) = 2 ^ (u + d) + 2 ^ (u + d) := by rw [← Nat.add_assoc, Nat.pow_succ]; omega
    have hp := Nat.two_pow_pos (u + d)
    have hd : 2 ^ (u + d) ∣ x := Nat.dvd_trans (Nat.pow_dvd_pow 2 (by omega)) h2
    by_cases hl : l = []
    · subst hl
      have := h5.one h1 (by omega) h2 (fun b hb q1 q2 => by
        obtain ⟨p, hp, _⟩ := h4 b hb q1 q2
        cases hp)
      omega
    · have hl1 : 1 ≤ l.length := by
        rcases Nat.eq_zero_or_pos l.length with q | q
        · exact absurd (List.length_eq_zero_iff.mp q) hl
        · exact q
      obtain ⟨t1, t2, p1, p2, p3⟩ := h5.parts x (u + d) (x + 2 ^ (u + d)) (by omega) (by omega) rfl h2 (Nat.le_of_eq (by rw [Nat.add_assoc])) (by omega) (Nat.le_refl _) (by omega)
      have i1 := ih x t1 (l.filter (fun p => decide (x ≤ p.1 ∧ p.1 + 2 ^ p.2 ≤ x + 2 ^ (u + d)))) (by omega) hd (fun p hp => h3 p (List.mem_filter.mp hp).1) (fun b hb q1 q2 => by
        obtain ⟨p, hp, he⟩ := h4 b hb q1 (by omega)
        exact ⟨p, List.mem_filter.mpr ⟨hp, decide_eq_true (end_in x (u + d) p.1 p.2 b hd (h3 p hp) he q1 q2)⟩, he⟩) p1
      have hd2 : 2 ^ (u + d) ∣ x + 2 ^ (u + d) := Nat.dvd_add hd (Nat.dvd_refl _)
      have e2 : x + 2 ^ (u + (d + 1)) = x + 2 ^ (u + d) + 2 ^ (u + d) := by omega
      rw [e2] at p2
      have i2 := ih (x + 2 ^ (u + d)) t2 (l.filter (fun p => decide (x + 2 ^ (u + d) ≤ p.1 ∧ p.1 + 2 ^ p.2 ≤ x + 2 ^ (u + d) + 2 ^ (u + d)))) (by omega) hd2 (fun p hp => h3 p (List.mem_filter.mp hp).1) (fun b hb q1 q2 => by
        obtain ⟨p, hp, he⟩ := h4 b hb (by omega) (by omega)
        exact ⟨p, List.mem_filter.mpr ⟨hp, decide_eq_true (end_in _ (u + d) p.1 p.2 b hd2 (h3 p hp) he q1 q2)⟩, he⟩) p2
      have i3 := two_len (fun p : Nat × Nat => decide (x ≤ p.1 ∧ p.1 + 2 ^ p.2 ≤ x + 2 ^ (u + d))) (fun p : Nat × Nat => decide (x + 2 ^ (u + d) ≤ p.1 ∧ p.1 + 2 ^ p.2 ≤ x + 2 ^ (u + d) + 2 ^ (u + d))) (fun p q1 q2 => by
        have := (of_decide_eq_true q1).2
        have := (of_decide_eq_true q2).1
        have := Nat.two_pow_pos p.2
        omega) l
      generalize (l.filter (fun p : Nat × Nat => decide (x ≤ p.1 ∧ p.1 + 2 ^ p.2 ≤ x + 2 ^ (u + d)))).length = n1 at i1 i3
      generalize (l.filter (fun p : Nat × Nat => decide (x + 2 ^ (u + d) ≤ p.1 ∧ p.1 + 2 ^ p.2 ≤ x + 2 ^ (u + d) + 2 ^ (u + d)))).length = n2 at i2 i3
      by_cases hz : 1 ≤ n1 + n2
      · have a1 := pthS_two n1 n2 hz d
        have a2 := pthS_mono _ _ i3 (d + 1)
        omega
      · have b1 : n1 = 0 := by omega
        have b2 : n2 = 0 := by omega
        subst b1; subst b2
        have a0 : ∀ d, pthS d 0 = 0 := by
          intro d
          induction d with
          | zero => rfl
          | succ d ih => simp [pthS, ih]
        have a1 := pthS_two 0 1 (by omega) d
        have a2 := pthS_mono 1 l.length hl1 (d + 1)
        have := a0 d
        rw [Nat.zero_add] at a1
        omega
theorem pthS_3000 : pthS 128 3000 ≤ 1048575 := by decide +kernel
theorem pthS_9000 : pthS 128 9000 ≤ 1048575 := by decide +kernel
end Go.Proofs.YtmkjlcfoedglmaaDoor
/-
  Rows in memory, whosever they are: cut, and laid behind a row of one's own.
-/
namespace Go.Proofs.YtmkjlcfoedglmaaDoor
open Go.RowKit
set_option linter.unusedSimpArgs false
set_option linter.unusedVariables false

/-- A row in memory, whosever it is: n elements of so many cells. -/
def Row (w : World) (size : Nat) (v : Value) (n : Nat) (xs : List Value) : Prop :=
  xs.length = n * size ∧ ∃ ao c, v = .slice ao n c ∧ n ≤ c ∧ ((ao = none ∧ c = 0 ∧ n = 0) ∨ ∃ b off, ao = some ⟨b, off, none⟩ ∧ ∀ j u, xs[j]? = some u → w.cell? ⟨b, off + j, none⟩ = some u)
theorem addA (g o j : Nat) : (⟨g, o, none⟩ : Addr).add j = ⟨g, o + j, none⟩ := by unfold Addr.add; split <;> simp_all
theorem Row.form {w : World} {size n : Nat} {v : Value} {xs : List Value} (h : Row w size v n xs) : ∃ ao c, v = .slice ao n c ∧ n ≤ c := by
  obtain ⟨-, ao, c, e, hc, -⟩ := h
  exact ⟨ao, c, e, hc⟩
theorem own_row {w : World} {base e size n : Nat} {v : Value} {xs : List Value} (h : w.ownsRow base e size v n xs) : Row w size v n xs := by
  refine ⟨h.1, ?_⟩
  rcases h.2 with ⟨e0, e1⟩ | ⟨g, cap, cur, e0, hb, hg, hnc, hm, hs, ht⟩
  · subst e1
    exact ⟨none, 0, e0, Nat.le_refl _, .inl ⟨rfl, rfl, rfl⟩⟩
  · refine ⟨some ⟨g, 0, none⟩, cap, e0, hnc, .inr ⟨g, 0, rfl, ?_⟩⟩
    intro j u hj
    have f := h.cells (g := g) (by rw [e0]; rfl) j u hj
    rw [addA, Nat.zero_add] at f
    rw [Nat.zero_add]
    exact f
theorem run_slice_from {P : Program} {w : World} {t e : TypeId} {i : TypeInfo} {size : Nat} (ht : P.underlying t = some (.slice e)) (hi : P.info? e = some i) (hsize : i.size = size) (ao : Option Addr) (n c k : Nat) (hk : k ≤ n) :
    Sem.run P (Instr.sliceAt t (.slice ao n c) (some (.int .i64 k)) none none) w = .ok (.slice (if c = k then ao else ao.map (·.add (k * size))) (n - k) (c - k)) w := by
  subst hsize
  simp [Instr.sliceAt, Instr.slice, Instr.sliceBounds, Instr.sliceBound, run_underlying ht, sizeOf, typeInfo, hi, hk, go_sem]
theorem run_slice_to {P : Program} {w : World} {t e : TypeId} {i : TypeInfo} (ht : P.underlying t = some (.slice e)) (hi : P.info? e = some i) (ao : Option Addr) (n c k : Nat) (hk : k ≤ c) :
    Sem.run P (Instr.sliceAt t (.slice ao n c) none (some (.int .i64 k)) none) w = .ok (.slice ao k c) w := by
  simp [Instr.sliceAt, Instr.slice, Instr.sliceBounds, Instr.sliceBound, run_underlying ht, sizeOf, typeInfo, hi, hk, go_sem]
theorem wpList_slice_from {P : Program} {w : World} {ops : Array Oper} {rest : List Oper} {o : Oper} {a : Act} {Q : Exit → Act → World → Prop} (hgd : o.guard = none) (t : TypeId) (x lo : Operand)
    (ho : o.op = .slice t x (some lo) none none) (e : TypeId) (i : TypeInfo) (size : Nat) (ht : P.underlying t = some (.slice e)) (hi : P.info? e = some i) (hsize : i.size = size)
    (v : Value) (n : Nat) (xs : List Value) (hs : a.eval x = v) (hr : Row w size v n xs) (k : Nat) (hk : a.eval lo = .int .i64 k) (hkn : k ≤ n)
    (h : ∀ v', Row w size v' (n - k) (xs.drop (k * size)) → wpList P ops Q rest (a.put o.dst v') w) : wpList P ops Q (o :: rest) a w := by
  obtain ⟨hl, ao, c, rfl, hc, hr⟩ := hr
  have := h (.slice (if c = k then ao else ao.map (·.add (k * size))) (n - k) (c - k)) ⟨by rw [List.length_drop, hl, Nat.sub_mul], _, _, rfl, by omega, by
    rcases hr with ⟨rfl, rfl, rfl⟩ | ⟨b, off, rfl, hr⟩
    · refine .inl ⟨by split <;> rfl, by omega, by omega⟩
    · by_cases hck : c = k
      · rw [if_pos hck]
        refine .inr ⟨b, off, rfl, ?_⟩
        intro j u hj
        rw [List.drop_eq_nil_of_le (by rw [hl]; exact Nat.mul_le_mul_right _ (by omega))] at hj
        simp at hj
      · rw [if_neg hck]
        refine .inr ⟨b, off + k * size, by simp [addA], ?_⟩
        intro j u hj
        rw [List.getElem?_drop] at hj
        rw [Nat.add_assoc]
        exact hr _ _ hj⟩
  refine wpList_plain hgd fun K hK => ?_
  unfold Oper.wp
  have hrun := run_slice_from (P := P) (w := w) ht hi hsize ao n c k hkn
  simp [execOp, ho, hs, hk, hrun, Result.andThen]
  exact hK _ _ this
theorem wpList_slice_to {P : Program} {w : World} {ops : Array Oper} {rest : List Oper} {o : Oper} {a : Act} {Q : Exit → Act → World → Prop} (hgd : o.guard = none) (t : TypeId) (x hi' : Operand)
    (ho : o.op = .slice t x none (some hi') none) (e : TypeId) (i : TypeInfo) (size : Nat) (ht : P.underlying t = some (.slice e)) (hi : P.info? e = some i) (hsize : i.size = size)
    (v : Value) (n : Nat) (xs : List Value) (hs : a.eval x = v) (hr : Row w size v n xs) (k : Nat) (hk : a.eval hi' = .int .i64 k) (hkn : k ≤ n)
    (h : ∀ v', Row w size v' k (xs.take (k * size)) → wpList P ops Q rest (a.put o.dst v') w) : wpList P ops Q (o :: rest) a w := by
  obtain ⟨hl, ao, c, rfl, hc, hr⟩ := hr
  have := h (.slice ao k c) ⟨by rw [List.length_take, hl, Nat.min_eq_left (Nat.mul_le_mul_right _ hkn)], _, _, rfl, by omega, by
    rcases hr with ⟨rfl, rfl, rfl⟩ | ⟨b, off, rfl, hr⟩
    · exact .inl ⟨rfl, rfl, by omega⟩
    · refine .inr ⟨b, off, rfl, ?_⟩
      intro j u hj
      refine hr _ _ ?_
      rw [List.getElem?_take] at hj
      split at hj
      · exact hj
      · cases hj⟩
  refine wpList_plain hgd fun K hK => ?_
  unfold Oper.wp
  have hrun := run_slice_to (P := P) (w := w) ht hi ao n c k (by omega)
  simp [execOp, ho, hs, hk, hrun, Result.andThen]
  exact hK _ _ this
theorem own_form {w : World} {base e size n : Nat} {v : Value} {xs : List Value} (h : w.ownsRow base e size v n xs) : ∃ ao c, v = .slice ao n c := by
  rcases h.2 with ⟨e, h⟩ | ⟨g, cap, cur, e, _⟩
  · exact ⟨none, 0, by rw [h]; exact e⟩
  · exact ⟨_, _, e⟩
/-- append(a, b...) where a is the call's own and b is any row. -/
theorem wpList_append_row {P : Program} {w : World} {ops : Array Oper} {rest : List Oper} {o : Oper} {a : Act} {Q : Exit → Act → World → Prop} (hgd : o.guard = none) (s x : Operand) (t : TypeId)
    (ho : o.op = .call { callee := .builtin .append, args := #[s, x], argTypes := #[t, t] })
    (base : Nat) (e : TypeId) (i : TypeInfo) (z : Value) (size bytes : Nat) (ht : P.underlying t = some (.slice e)) (hi : P.info? e = some i) (hz : i.zero = some z)
    (hsize : i.size = size) (hby : i.bytes = bytes) (hzs : z.cells.size = size) (hsz : 0 < size)
    (v : Value) (n : Nat) (xs : List Value) (hs : a.eval s = v) (hown : w.ownsRow base e size v n xs)
    (vx : Value) (m : Nat) (news : List Value) (hx : a.eval x = vx) (hsrc : Row w size vx m news) (h1 : ∀ y ∈ news, y.oneCell' = true)
    (h63 : n + m ≤ maxLen) (hbytes : (n + m) * bytes ≤ 140737488355328) (hbase : base ≤ w.heap.size)
    (h : ∀ ao cap w', w'.ownsRow base e size (.slice ao (n + m) cap) (n + m) (xs ++ news) → w.grownBy w' v.ownBlock → wpList P ops Q rest (a.put o.dst (.slice ao (n + m) cap)) w') : wpList P ops Q (o :: rest) a w := by
  obtain ⟨hl, xo, c, rfl, hcc, hsrc⟩ := hsrc
  rcases hsrc with ⟨rfl, rfl, rfl⟩ | ⟨b, off, rfl, hc⟩
  · have : news = [] := List.eq_nil_of_length_eq_zero (by omega)
    subst this
    refine wpList_append_own_none hgd s x t ho base e i size ht hi v n xs hs hown hx ?_
    obtain ⟨ao, cp, hv⟩ := own_form hown
    have := h ao cp w (by rw [List.append_nil, Nat.add_zero, ← hv]; exact hown) ⟨rfl, rfl, rfl, Nat.le_refl _, fun _ _ _ => rfl⟩
    rw [Nat.add_zero, ← hv] at this
    exact this
  · refine wpList_append_own w hgd s x t ho base e i z size bytes ht hi hz hsize hby hzs hsz v n xs hs hown ⟨b, off, none⟩ m c news hx hl (fun j u hj => by rw [addA]; exact hc j u hj) h1 h63 hbytes hbase ?_
    intro v' w' h2 h3 _
    obtain ⟨ao, cp, hv⟩ := own_form h2
    rw [hv]
    rw [hv] at h2
    exact h ao cp w' h2 h3
theorem Row.below {w w' : World} {size n : Nat} {v : Value} {xs : List Value} (h : Row w size v n xs) (hb : Below w.heap.size w w') : Row w' size v n xs := by
  obtain ⟨hl, ao, c, e, hc, h⟩ := h
  refine ⟨hl, ao, c, e, hc, ?_⟩
  rcases h with h | ⟨b, off, e, h⟩
  · exact .inl h
  · exact .inr ⟨b, off, e, fun j u hj => keepc hb (h j u hj)⟩
end Go.Proofs.YtmkjlcfoedglmaaDoor
/-
  Segments in memory, with their next hops; rows of them; what is told of a list of them.
-/
namespace Go.Proofs.YtmkjlcfoedglmaaDoor
open Go.RowKit
set_option linter.unusedSimpArgs false
set_option linter.unusedVariables false

/-- A segment: its first, its last address, its next hop. -/
abbrev Sg := (BitVec 128 × BitVec 128) × Int
/-- A segment in memory. -/
def AtG (w : World) (B : Nat) (x y : BitVec 128) (h : Int) : Prop := w.cell? ⟨B, 0, none⟩ = some (.int .u64 (hI x)) ∧ w.cell? ⟨B, 1, none⟩ = some (.int .u64 (lI x)) ∧ w.cell? ⟨B, 2, none⟩ = some (.int .u64 (hI y)) ∧ w.cell? ⟨B, 3, none⟩ = some (.int .u64 (lI y)) ∧ w.cell? ⟨B, 4, none⟩ = some (.int .i64 h) ∧ w.frozen? ⟨B, 0, none⟩ = false ∧ w.frozen? ⟨B, 1, none⟩ = false ∧ w.frozen? ⟨B, 2, none⟩ = false ∧ w.frozen? ⟨B, 3, none⟩ = false ∧ w.frozen? ⟨B, 4, none⟩ = false
theorem AtG.below {w w' : World} {B : Nat} {x y : BitVec 128} {h : Int} (g : AtG w B x y h) (hb : Below w.heap.size w w') : AtG w' B x y h := by
  obtain ⟨a0, a1, a2, a3, a4, b0, b1, b2, b3, b4⟩ := g
  exact ⟨keepc hb a0, keepc hb a1, keepc hb a2, keepc hb a3, keepc hb a4, keepf hb a0 b0, keepf hb a1 b1, keepf hb a2 b2, keepf hb a3 b3, keepf hb a4 b4⟩
theorem atg_new (w : World) (B : Nat) (x y : BitVec 128) (h : Int) (T : TypeId) (e : B = w.heap.size) : AtG (w.alloc (.cells #[.int .u64 (hI x), .int .u64 (lI x), .int .u64 (hI y), .int .u64 (lI y), .int .i64 h] T)) B x y h := by
  subst e
  refine ⟨?_, ?_, ?_, ?_, ?_, ?_, ?_, ?_, ?_, ?_⟩ <;> simp [go_sem]
theorem AtG.lt {W : World} {B : Nat} {x y : BitVec 128} {h : Int} (g : AtG W B x y h) : B < W.heap.size := cell_in g.1
def rowG : List Sg → List Value
  | [] => []
  | p :: l => .int .u64 (hI p.1.1) :: .int .u64 (lI p.1.1) :: .int .u64 (hI p.1.2) :: .int .u64 (lI p.1.2) :: .int .i64 p.2 :: rowG l
theorem rowG_app : ∀ l m, rowG (l ++ m) = rowG l ++ rowG m := by
  intro l
  induction l with
  | nil => intro m; rfl
  | cons p l ih => intro m; simp [rowG, ih]
theorem rowG_one (l : List Sg) (x y : BitVec 128) (h : Int) : rowG (l ++ [((x, y), h)]) = rowG l ++ [.int .u64 (hI x), .int .u64 (lI x), .int .u64 (hI y), .int .u64 (lI y), .int .i64 h] := by rw [rowG_app]; rfl
theorem rowG_len : ∀ l, (rowG l).length = l.length * 5 := by
  intro l
  induction l with
  | nil => rfl
  | cons p l ih => simp only [rowG, List.length_cons, ih]; omega
theorem rowG_cell (l : List Sg) : ∀ u ∈ rowG l, u.oneCell' = true := by
  induction l with
  | nil => intro u hu; cases hu
  | cons p l ih =>
    intro u hu
    simp only [rowG, List.mem_cons] at hu
    rcases hu with rfl | rfl | rfl | rfl | rfl | hu
    all_goals first | rfl | exact ih u hu
theorem rowG_get : ∀ (l : List Sg) (j : Nat) (hj : j < l.length), (rowG l)[j * 5]? = some (.int .u64 (hI l[j].1.1)) ∧ (rowG l)[j * 5 + 1]? = some (.int .u64 (lI l[j].1.1)) ∧ (rowG l)[j * 5 + 2]? = some (.int .u64 (hI l[j].1.2)) ∧ (rowG l)[j * 5 + 3]? = some (.int .u64 (lI l[j].1.2)) ∧ (rowG l)[j * 5 + 4]? = some (.int .i64 l[j].2) := by
  intro l
  induction l with
  | nil => intro j hj; simp at hj
  | cons p l ih =>
    intro j hj
    cases j with
    | zero => simp [rowG]
    | succ j =>
      have := ih j (by simpa using hj)
      rw [show (j + 1) * 5 = j * 5 + 5 by omega, show j * 5 + 5 + 1 = j * 5 + 1 + 5 by omega, show j * 5 + 5 + 2 = j * 5 + 2 + 5 by omega, show j * 5 + 5 + 3 = j * 5 + 3 + 5 by omega, show j * 5 + 5 + 4 = j * 5 + 4 + 5 by omega]
      simpa [rowG] using this
theorem rwg_cells {W : World} {b off : Nat} {l : List Sg} (h : ∀ j u, (rowG l)[j]? = some u → W.cell? ⟨b, off + j, none⟩ = some u) (k : Nat) (hk : k < l.length) :
    W.cell? ⟨b, off + k * 5, none⟩ = some (.int .u64 (hI l[k].1.1)) ∧ W.cell? ⟨b, off + k * 5 + 1, none⟩ = some (.int .u64 (lI l[k].1.1)) ∧ W.cell? ⟨b, off + k * 5 + 2, none⟩ = some (.int .u64 (hI l[k].1.2)) ∧ W.cell? ⟨b, off + k * 5 + 3, none⟩ = some (.int .u64 (lI l[k].1.2)) ∧ W.cell? ⟨b, off + k * 5 + 4, none⟩ = some (.int .i64 l[k].2) := by
  obtain ⟨a0, a1, a2, a3, a4⟩ := rowG_get l k hk
  exact ⟨h _ _ a0, h _ _ a1, h _ _ a2, h _ _ a3, h _ _ a4⟩
theorem ownG_cells {W : World} {base n g c : Nat} {l : List Sg} (h : W.ownsRow base 39 5 (.slice (some ⟨g, 0, none⟩) n c) n (rowG l)) (j : Nat) (hj : j < l.length) :
    W.cell? ⟨g, j * 5, none⟩ = some (.int .u64 (hI l[j].1.1)) ∧ W.cell? ⟨g, j * 5 + 1, none⟩ = some (.int .u64 (lI l[j].1.1)) ∧ W.cell? ⟨g, j * 5 + 2, none⟩ = some (.int .u64 (hI l[j].1.2)) ∧ W.cell? ⟨g, j * 5 + 3, none⟩ = some (.int .u64 (lI l[j].1.2)) ∧ W.cell? ⟨g, j * 5 + 4, none⟩ = some (.int .i64 l[j].2) := by
  obtain ⟨a0, a1, a2, a3, a4⟩ := rowG_get l j hj
  have f := fun k u => h.cells (g := g) rfl k u
  exact ⟨by have := f _ _ a0; rwa [addA, Nat.zero_add] at this, by have := f _ _ a1; rwa [addA, Nat.zero_add] at this, by have := f _ _ a2; rwa [addA, Nat.zero_add] at this, by have := f _ _ a3; rwa [addA, Nat.zero_add] at this, by have := f _ _ a4; rwa [addA, Nat.zero_add] at this⟩
theorem Tryd.infoG : (Tryd.prog.info? 39).map (fun i => (i.zero, i.size, i.bytes)) = some (some (.agg #[.int .u64 0, .int .u64 0, .int .u64 0, .int .u64 0, .int .i64 0]), 5, 40) := by kernel_rfl
theorem newsG (W : World) (a b c d e : Value) (t : TypeId) : ∀ j u, [a, b, c, d, e][j]? = some u → (W.alloc (.cells #[a, b, c, d, e] t)).cell? ((⟨W.heap.size, 0, none⟩ : Addr).add j) = some u := by
  intro j u hj
  match j, hj with
  | 0, hj => simp at hj; subst hj; simp [Addr.add, go_sem]
  | 1, hj => simp at hj; subst hj; simp [Addr.add, go_sem]
  | 2, hj => simp at hj; subst hj; simp [Addr.add, go_sem]
  | 3, hj => simp at hj; subst hj; simp [Addr.add, go_sem]
  | 4, hj => simp at hj; subst hj; simp [Addr.add, go_sem]
theorem fiveG (a b c d e : Int) : ∀ u ∈ [Value.int .u64 a, Value.int .u64 b, Value.int .u64 c, Value.int .u64 d, Value.int .i64 e], u.oneCell' = true := by
  intro u hu; simp at hu; rcases hu with rfl | rfl | rfl | rfl | rfl <;> rfl
/-- A list of segments in memory, whosever it is. -/
def RwG (W : World) (v : Value) (l : List Sg) : Prop := ∃ ao c, v = .slice ao l.length c ∧ (l = [] ∨ ∃ b off, ao = some ⟨b, off, none⟩ ∧ ∀ j u, (rowG l)[j]? = some u → W.cell? ⟨b, off + j, none⟩ = some u)
theorem RwG.below {W W' : World} {v : Value} {l : List Sg} (h : RwG W v l) (hb : Below W.heap.size W W') : RwG W' v l := by
  obtain ⟨ao, c, e, h⟩ := h
  refine ⟨ao, c, e, h.imp id ?_⟩
  rintro ⟨b, off, e', hc⟩
  exact ⟨b, off, e', fun j u hj => keepc hb (hc j u hj)⟩
theorem row_rwg {W : World} {v : Value} {l : List Sg} (h : Row W 5 v l.length (rowG l)) : RwG W v l := by
  obtain ⟨-, ao, c, e, -, h⟩ := h
  refine ⟨ao, c, e, ?_⟩
  rcases h with ⟨-, -, h⟩ | h
  · exact .inl (List.length_eq_zero_iff.mp h)
  · exact .inr h
theorem own_rwg {W : World} {base : Nat} {v : Value} {l : List Sg} (h : W.ownsRow base 39 5 v l.length (rowG l)) : RwG W v l := row_rwg (own_row h)
/-- The error of one segment. -/
def sgE (F : Int) (s : Sg) : Int := if rightE F s.1.1 = 0 then (if rightE F s.1.2 = 0 then (if s.2 < 0 then 15 else if 65535 < s.2 then 15 else if cmpZ s.1.2 s.1.1 < 0 then 19 else 0) else 6) else 6
def moO (F : Int) : Option Sg → Bool
  | none => true
  | some s => nextB F s.1.2
def nxO (F : Int) : Option Sg → BitVec 128
  | none => 0#128
  | some s => nextV F s.1.2
/-- The error of segments behind one, or behind none. -/
def sgsGo (F : Int) : Option Sg → List Sg → Int
  | p, [] => if moO F p = true then 19 else 0
  | p, s :: l => if sgE F s = 0 then (if moO F p = true then (if (s.1.1 == nxO F p) = true then (if p.map (·.2) = some s.2 then 19 else sgsGo F (some s) l) else 19) else 19) else sgE F s
def sgsE (F : Int) (l : List Sg) : Int := if fam F = true then (if l = [] then 2 else sgsGo F none l) else 11
end Go.Proofs.YtmkjlcfoedglmaaDoor
/-
  Right segments, as plain lists: two lists that say the same of each address are one.
-/
namespace Go.Proofs.YtmkjlcfoedglmaaDoor
set_option linter.unusedSimpArgs false
set_option linter.unusedVariables false

theorem sgE_zero (F : Int) (s : Sg) (h : sgE F s = 0) : rightE F s.1.1 = 0 ∧ rightE F s.1.2 = 0 ∧ 0 ≤ s.2 ∧ s.2 ≤ 65535 ∧ s.1.1.toNat ≤ s.1.2.toNat := by
  unfold sgE at h
  split at h
  · rename_i h1
    split at h
    · rename_i h2
      split at h
      · omega
      · rename_i h3
        split at h
        · omega
        · rename_i h4
          split at h
          · omega
          · rename_i h5
            rw [cmp_lt0] at h5
            exact ⟨h1, h2, by omega, by omega, by omega⟩
    · omega
  · omega
theorem sgE_of (F : Int) (s : Sg) (h1 : rightE F s.1.1 = 0) (h2 : rightE F s.1.2 = 0) (h3 : 0 ≤ s.2) (h4 : s.2 ≤ 65535) (h5 : s.1.1.toNat ≤ s.1.2.toNat) : sgE F s = 0 := by
  unfold sgE
  rw [if_pos h1, if_pos h2, if_neg (by omega), if_neg (by omega), if_neg (by rw [cmp_lt0]; omega)]
/-- What is known where no error is told of segments behind one. -/
theorem sgsGo_cons (F : Int) (p : Option Sg) (s : Sg) (l : List Sg) (h : sgsGo F p (s :: l) = 0) : sgE F s = 0 ∧ moO F p = true ∧ s.1.1 = nxO F p ∧ p.map (·.2) ≠ some s.2 ∧ sgsGo F (some s) l = 0 := by
  rw [sgsGo] at h
  split at h
  · rename_i h1
    split at h
    · rename_i h2
      split at h
      · rename_i h3
        split at h
        · omega
        · rename_i h4
          exact ⟨h1, h2, by simpa using h3, h4, h⟩
      · omega
    · omega
  · rename_i h1; exact absurd h h1
theorem sgsGo_step (F : Int) (p : Option Sg) (s : Sg) (l : List Sg) (h1 : sgE F s = 0) (h2 : moO F p = true) (h3 : s.1.1 = nxO F p) (h4 : p.map (·.2) ≠ some s.2) : sgsGo F p (s :: l) = sgsGo F (some s) l := by
  rw [sgsGo, if_pos h1, if_pos h2, if_pos (by simp [h3]), if_neg h4]
/-- Segments say of each address what f says. -/
def Says (F : Int) (f : BitVec 128 → Int) (l : List Sg) : Prop := ∀ s ∈ l, ∀ x : BitVec 128, rightE F x = 0 → s.1.1.toNat ≤ x.toNat → x.toNat ≤ s.1.2.toNat → s.2 = f x
theorem right_dvd (F : Int) (x : BitVec 128) (h : rightE F x = 0) : 2 ^ (128 - F.toNat) ∣ x.toNat := by
  obtain ⟨hf, hx⟩ := right0 F x h
  exact (cut_dvd x F).mp hx
theorem right_max (F : Int) (x : BitVec 128) (h : rightE F x = 0) : x.toNat ≤ (maskW F).toNat := by
  obtain ⟨hf, hx⟩ := right0 F x h
  rw [← hx, BitVec.and_comm, BitVec.toNat_and]
  exact Nat.and_le_left
theorem next_le (F : Int) (x y : BitVec 128) (hx : rightE F x = 0) (hy : rightE F y = 0) (h : x.toNat < y.toNat) : nextB F x = true ∧ (nextV F x).toNat ≤ y.toNat ∧ rightE F (nextV F x) = 0 ∧ x.toNat < (nextV F x).toNat := by
  have hb : nextB F x = true := by
    cases e : nextB F x with
    | true => rfl
    | false =>
      have := next_none F x hx e
      have h2 := right_max F y hy
      rw [this] at h
      omega
  obtain ⟨h1, hf, _, h3⟩ := next_nat F x hb
  obtain ⟨a, ha⟩ := right_dvd F x hx
  obtain ⟨b, hb'⟩ := right_dvd F y hy
  have hp : 0 < 2 ^ (128 - F.toNat) := Nat.two_pow_pos _
  refine ⟨hb, ?_, right_of F _ hf h3, by omega⟩
  rw [h1, ha, hb']
  rw [ha, hb'] at h
  have hab : a < b := Nat.lt_of_mul_lt_mul_left h
  calc 2 ^ (128 - F.toNat) * a + 2 ^ (128 - F.toNat) = 2 ^ (128 - F.toNat) * (a + 1) := by rw [Nat.mul_add, Nat.mul_one]
    _ ≤ _ := Nat.mul_le_mul_left _ hab
theorem segs_end (F : Int) (f : BitVec 128 → Int) (s t : Sg) (l m : List Sg) (hs : sgE F s = 0) (ht : sgE F t = 0) (h1 : s.1.1 = t.1.1) (hl : sgsGo F (some s) l = 0) (sl : Says F f (s :: l)) (st : Says F f (t :: m)) (hlt : s.1.2.toNat < t.1.2.toNat) : False := by
  obtain ⟨s1, s2, s3, s4, s5⟩ := sgE_zero F s hs
  obtain ⟨t1, t2, t3, t4, t5⟩ := sgE_zero F t ht
  obtain ⟨nb, nl, nr, ng⟩ := next_le F s.1.2 t.1.2 s2 t2 hlt
  cases l with
  | nil =>
    rw [sgsGo] at hl
    unfold moO at hl
    rw [if_pos nb] at hl
    omega
  | cons u l =>
    obtain ⟨u1, u2, u3, u4, u5⟩ := sgsGo_cons F (some s) u l hl
    obtain ⟨v1, v2, v3, v4, v5⟩ := sgE_zero F u u1
    have e : u.1.1 = nextV F s.1.2 := u3
    have a1 := sl u (by simp) (nextV F s.1.2) nr (by rw [e]; exact Nat.le_refl _) (by rw [← e]; exact v5)
    have a2 := st t (by simp) (nextV F s.1.2) nr (by rw [← h1]; omega) nl
    have a3 := sl s (by simp) s.1.1 s1 (Nat.le_refl _) s5
    have a4 := st t (by simp) s.1.1 s1 (by rw [h1]; exact Nat.le_refl _) (by rw [h1]; exact t5)
    apply u4
    simp [a1, ← a2, a4, a3]
theorem segs_unique (F : Int) (f : BitVec 128 → Int) : ∀ (l m : List Sg) (p q : Option Sg), sgsGo F p l = 0 → sgsGo F q m = 0 → moO F p = moO F q → nxO F p = nxO F q → Says F f l → Says F f m → l = m
  | [], [], _, _, _, _, _, _, _, _ => rfl
  | [], t :: m, p, q, h1, h2, h3, h4, h5, h6 => by
    obtain ⟨t1, t2, _⟩ := sgsGo_cons F q t m h2
    rw [sgsGo, h3, if_pos t2] at h1
    omega
  | s :: l, [], p, q, h1, h2, h3, h4, h5, h6 => by
    obtain ⟨t1, t2, _⟩ := sgsGo_cons F p s l h1
    rw [sgsGo, ← h3, if_pos t2] at h2
    omega
  | s :: l, t :: m, p, q, h1, h2, h3, h4, h5, h6 => by
    obtain ⟨s1, s2, s3, s4, s5⟩ := sgsGo_cons F p s l h1
    obtain ⟨t1, t2, t3, t4, t5⟩ := sgsGo_cons F q t m h2
    have e1 : s.1.1 = t.1.1 := by rw [s3, t3, h4]
    obtain ⟨a1, a2, a3, a4, a5⟩ := sgE_zero F s s1
    obtain ⟨b1, b2, b3, b4, b5⟩ := sgE_zero F t t1
    have e2 : s.2 = t.2 := by
      have x1 := h5 s (by simp) s.1.1 a1 (Nat.le_refl _) a5
      have x2 := h6 t (by simp) s.1.1 a1 (by rw [e1]; exact Nat.le_refl _) (by rw [e1]; exact b5)
      rw [x1, x2]
    have e3 : s.1.2 = t.1.2 := by
      apply BitVec.eq_of_toNat_eq
      rcases Nat.lt_trichotomy s.1.2.toNat t.1.2.toNat with h | h | h
      · exact absurd (segs_end F f s t l m s1 t1 e1 s5 h5 h6 h) id
      · exact h
      · exact absurd (segs_end F f t s m l t1 s1 e1.symm t5 h6 h5 h) id
    have e : s = t := by
      obtain ⟨⟨sx, sy⟩, sh⟩ := s
      obtain ⟨⟨tx, ty⟩, th⟩ := t
      simp only at e1 e2 e3
      subst e1; subst e2; subst e3; rfl
    subst e
    rw [segs_unique F f l m (some s) (some s) s5 t5 rfl rfl (fun u hu => h5 u (List.mem_cons_of_mem _ hu)) (fun u hu => h6 u (List.mem_cons_of_mem _ hu))]
/-- What is told so far is right, the last one first. -/
def Good (F : Int) : List Sg → Prop
  | [] => True
  | a :: st => sgE F a = 0 ∧ moO F st.head? = true ∧ a.1.1 = nxO F st.head? ∧ st.head?.map (·.2) ≠ some a.2 ∧ Good F st
theorem good_go (F : Int) : ∀ (st : List Sg) (rest : List Sg), Good F st → sgsGo F none (st.reverse ++ rest) = sgsGo F st.head? rest
  | [], rest, _ => rfl
  | a :: st, rest, h => by
    obtain ⟨h1, h2, h3, h4, h5⟩ := h
    rw [List.reverse_cons, List.append_assoc, List.singleton_append, good_go F st (a :: rest) h5, sgsGo_step F st.head? a rest h1 h2 h3 h4]
    rfl
end Go.Proofs.YtmkjlcfoedglmaaDoor
