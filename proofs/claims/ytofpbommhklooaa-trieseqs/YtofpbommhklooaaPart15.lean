/-
  Part 15 of the proof: 7 texts, one behind the other.
-/
import Derived.Test.YtofpbommhklooaaPart10
import Derived.Test.YtofpbommhklooaaPart12
import Derived.Test.YtofpbommhklooaaPart3
import Derived.Test.YtofpbommhklooaaPart8
import Derived.Test.YtofpbommhklooaaPart14
import Derived.Test.YtofpbommhklooaaPart13
/-
  Plain: the first bit that two words have not alike.
-/
namespace Go.Proofs.Ytofpbommhklooaa
open Go.RowKit
set_option linter.unusedSimpArgs false
set_option linter.unusedVariables false

theorem lead_bounds (z : BitVec 128) (h : leadN z < 128) : z.toNat < 2 ^ (128 - leadN z) ∧ 2 ^ (127 - leadN z) ≤ z.toNat := by
  by_cases e : z.toNat = 0
  · unfold leadN at h; rw [if_pos e] at h; omega
  · have hl : z.toNat.log2 < 128 := (Nat.log2_lt e).mpr z.isLt
    have hk : leadN z = 127 - z.toNat.log2 := by unfold leadN; rw [if_neg e]
    have e1 : 128 - leadN z = z.toNat.log2 + 1 := by omega
    have e2 : 127 - leadN z = z.toNat.log2 := by omega
    rw [e1, e2]
    exact ⟨Nat.lt_log2_self, Nat.log2_self_le e⟩
theorem below_of (a b p : Nat) (hp : 0 < p) (h1 : a / p / 2 = b / p / 2) (h2 : a / p % 2 = 0) (h3 : b / p % 2 = 1) : a < b := by
  have h4 : a / p + 1 = b / p := by omega
  have h5 : a < p * (a / p + 1) := Nat.lt_mul_div_succ a hp
  have h6 : p * (b / p) ≤ b := Nat.mul_div_le b p
  rw [h4] at h5; omega
theorem bitDivF (a : BitVec 128) (m : Nat) : a.getLsbD m = decide (a.toNat / 2 ^ m % 2 = 1) := by
  unfold BitVec.getLsbD; rw [Nat.testBit_eq_decide_div_mod_eq]
/-- Where two words are not the same, their first unlike bit tells which is below. -/
theorem first_bit (a b : BitVec 128) (h : leadN (a ^^^ b) < 128) : (bitZ a (leadN (a ^^^ b) : Int) = 0 ∧ bitZ b (leadN (a ^^^ b) : Int) = 1 ∧ cmpZ a b = -1) ∨ (bitZ a (leadN (a ^^^ b) : Int) = 1 ∧ bitZ b (leadN (a ^^^ b) : Int) = 0 ∧ cmpZ a b = 1) := by
  obtain ⟨hu, hl⟩ := lead_bounds _ h
  have hst := (bit_step (a ^^^ b) _ h hu).1
  generalize leadN (a ^^^ b) = k at *
  have hm : (a ^^^ b).getLsbD (127 - k) = true := by
    cases q : (a ^^^ b).getLsbD (127 - k)
    · have := hst q
      have e : 128 - (k + 1) = 127 - k := by omega
      rw [e] at this; omega
    · rfl
  have up : a.toNat / 2 ^ (127 - k) / 2 = b.toNat / 2 ^ (127 - k) / 2 := by
    have e : a >>> (128 - k) = b >>> (128 - k) := by
      apply BitVec.eq_of_getLsbD_eq; intro i hi
      simp only [BitVec.getLsbD_ushiftRight]
      have z : (a ^^^ b).getLsbD (128 - k + i) = false := by
        unfold BitVec.getLsbD
        apply Nat.testBit_lt_two_pow
        exact Nat.lt_of_lt_of_le hu (Nat.pow_le_pow_right (by decide) (by omega))
      rw [BitVec.getLsbD_xor] at z
      cases hx : a.getLsbD (128 - k + i) <;> cases hy : b.getLsbD (128 - k + i) <;> simp [hx, hy] at z <;> rfl
    have e2 := congrArg BitVec.toNat e
    rw [BitVec.toNat_ushiftRight, BitVec.toNat_ushiftRight, Nat.shiftRight_eq_div_pow, Nat.shiftRight_eq_div_pow] at e2
    have e3 : 2 ^ (128 - k) = 2 ^ (127 - k) * 2 := by rw [← Nat.pow_succ]; congr 1; omega
    rw [e3, ← Nat.div_div_eq_div_mul, ← Nat.div_div_eq_div_mul] at e2
    exact e2
  have e4 : (127 - (k : Int)).toNat = 127 - k := by omega
  unfold bitZ
  rw [bitB_in a k (by omega) (by omega), bitB_in b k (by omega) (by omega), e4]
  rw [BitVec.getLsbD_xor] at hm
  have hp : 0 < 2 ^ (127 - k) := Nat.two_pow_pos _
  rw [bitDivF a, bitDivF b] at hm ⊢
  unfold cmpZ
  by_cases ca : a.toNat / 2 ^ (127 - k) % 2 = 1
  · have cb : ¬ b.toNat / 2 ^ (127 - k) % 2 = 1 := by intro cb; simp [ca, cb] at hm
    have lt := below_of b.toNat a.toNat _ hp up.symm (by omega) ca
    have n1 : ¬ a.toNat < b.toNat := by omega
    have n2 : ¬ a = b := by intro q; rw [q] at lt; omega
    right; simp [ca, cb, n1, n2]
  · have cb : b.toNat / 2 ^ (127 - k) % 2 = 1 := by
      apply Classical.byContradiction; intro cb; simp [ca, cb] at hm
    have lt := below_of a.toNat b.toNat _ hp up (by omega) cb
    left; simp [ca, cb, lt]
end Go.Proofs.Ytofpbommhklooaa
/-
  What the call of slices.BinarySearchFunc does at routes, with package table's comparison.
-/
namespace Go.Proofs.Ytofpbommhklooaa
open Go.RowKit
set_option linter.unusedSimpArgs false
set_option linter.unusedVariables false

/-- The place sought for, and a route of the row. -/
def CBs (w : World) (b o : Nat) (y : BitVec 128) (m : Int) (x : BitVec 128) (n h : Int) (W : World) : Prop := AtP W w.heap.size y m ∧ (W.cell? ⟨b, o, none⟩ = some (.int .u64 (hI x)) ∧ W.cell? ⟨b, o + 1, none⟩ = some (.int .u64 (lI x)) ∧ W.cell? ⟨b, o + 2, none⟩ = some (.int .i64 n) ∧ W.cell? ⟨b, o + 3, none⟩ = some (.int .i64 h)) ∧ Below w.heap.size w W
theorem CBs.below {w W W' : World} {b o : Nat} {y : BitVec 128} {m : Int} {x : BitVec 128} {n h : Int} (g : CBs w b o y m x n h W) (hb : Below W.heap.size W W') : CBs w b o y m x n h W' := ⟨g.1.below hb, ⟨keepc hb g.2.1.1, keepc hb g.2.1.2.1, keepc hb g.2.1.2.2.1, keepc hb g.2.1.2.2.2⟩, keepb hb g.2.2⟩
theorem CBs.drew {w W : World} {b o : Nat} {y : BitVec 128} {m : Int} {x : BitVec 128} {n h : Int} (g : CBs w b o y m x n h W) : CBs w b o y m x n h W.drew := ⟨g.1, g.2.1, g.2.2.drew⟩
/-- How a route stands to a prefix. -/
def toP (y : BitVec 128) (m : Int) (r : Rte) : Int := pcmpZ r.1.1 r.1.2 y m
end Go.Proofs.Ytofpbommhklooaa
/-
  What the call of package table's place does.
-/
namespace Go.Proofs.Ytofpbommhklooaa
open Go.RowKit
set_option linter.unusedSimpArgs false
set_option linter.unusedVariables false

/-- The routes stand in an order by which a prefix can be sought. -/
def Mono (y : BitVec 128) (m : Int) (l : List Rte) : Prop := ∀ (a b : Nat) (hb : b < l.length) (hab : a ≤ b), toP y m l[b] < 0 → toP y m (l[a]'(by omega)) < 0
/-- How many routes are ahead of a prefix, and is it the next one's? -/
def Place (y : BitVec 128) (m : Int) (l : List Rte) (i : Nat) (ok : Bool) : Prop := i ≤ l.length ∧ (∀ (j : Nat) (hj : j < l.length), j < i ↔ toP y m l[j] < 0) ∧ ok = (match l[i]? with | some r => decide (toP y m r = 0) | none => false)
/-- There is but one place. -/
theorem Place.one {y : BitVec 128} {m : Int} {l : List Rte} {i j : Nat} {a b : Bool} (h : Place y m l i a) (g : Place y m l j b) : i = j ∧ a = b := by
  have e : i = j := by
    rcases Nat.lt_trichotomy i j with q | q | q
    · have h1 := (g.2.1 i (by have := g.1; omega)).1 q
      have h2 := (h.2.1 i (by have := g.1; omega)).2 h1
      omega
    · exact q
    · have h1 := (h.2.1 j (by have := h.1; omega)).1 q
      have h2 := (g.2.1 j (by have := h.1; omega)).2 h1
      omega
  subst e
  exact ⟨rfl, by rw [h.2.2, g.2.2]⟩
end Go.Proofs.Ytofpbommhklooaa
/-
  What the call of package table's Find does.
-/
namespace Go.Proofs.Ytofpbommhklooaa
open Go.RowKit
set_option linter.unusedSimpArgs false
set_option linter.unusedVariables false

/-- A table in memory. -/
def AtT (w : World) (B : Nat) (F : Int) (v : Value) : Prop := w.cell? ⟨B, 0, none⟩ = some (.int .i64 F) ∧ w.cell? ⟨B, 1, none⟩ = some v
theorem AtT.below {w w' : World} {B : Nat} {F : Int} {v : Value} (g : AtT w B F v) (hb : Below w.heap.size w w') : AtT w' B F v := ⟨keepc hb g.1, keepc hb g.2⟩
theorem att_new (w : World) (B : Nat) (F : Int) (v : Value) (T : TypeId) (e : B = w.heap.size) : AtT (w.alloc (.cells #[.int .i64 F, v] T)) B F v := by
  subst e
  refine ⟨?_, ?_⟩ <;> simp [go_sem]
end Go.Proofs.Ytofpbommhklooaa
/-
  What the call of turnpikeref5's Find does.
-/
namespace Go.Proofs.Ytofpbommhklooaa
open Go.RowKit
set_option linter.unusedSimpArgs false
set_option linter.unusedVariables false

/-- The hop of the first route that bears a prefix. -/
def fndO (y : BitVec 128) (m : Int) : List Rte → Option Int
  | [] => none
  | r :: l => if ((r.1.1 == y) && (r.1.2 == m)) = true then some r.2 else fndO y m l
theorem fndO_drop (y : BitVec 128) (m : Int) (l : List Rte) (k : Nat) (hk : k < l.length) : fndO y m (l.drop k) = if ((l[k].1.1 == y) && (l[k].1.2 == m)) = true then some l[k].2 else fndO y m (l.drop (k + 1)) := by
  rw [List.drop_eq_getElem_cons hk]
  rfl
end Go.Proofs.Ytofpbommhklooaa
/-
  In a table that is in order the search finds what going over all routes finds.
-/
namespace Go.Proofs.Ytofpbommhklooaa
open Go.RowKit
set_option linter.unusedSimpArgs false
set_option linter.unusedVariables false

/-- The routes' prefixes are in order, none twice. -/
def OrdR (l : List Rte) : Prop := ∀ (a b : Nat) (hb : b < l.length) (hab : a < b), pcmpZ (l[a]'(by omega)).1.1 (l[a]'(by omega)).1.2 l[b].1.1 l[b].1.2 < 0
theorem pcmp_lt (x : BitVec 128) (n : Int) (y : BitVec 128) (m : Int) : pcmpZ x n y m < 0 ↔ (x.toNat < y.toNat ∨ (x.toNat = y.toNat ∧ n < m)) := by
  have h := pcmp_le x n y m
  have e := pcmp_eq0 x n y m
  constructor
  · intro q
    rcases h.1 (by omega) with r | ⟨r, s⟩
    · exact .inl r
    · refine .inr ⟨by rw [r], ?_⟩
      rcases Int.lt_or_eq_of_le s with t | t
      · exact t
      · have := e.2 ⟨r, t⟩; omega
  · intro q
    have hle : pcmpZ x n y m ≤ 0 := h.2 (q.imp id fun ⟨r, s⟩ => ⟨BitVec.eq_of_toNat_eq r, by omega⟩)
    have hne : pcmpZ x n y m ≠ 0 := fun q0 => by
      obtain ⟨r, s⟩ := e.1 q0
      rcases q with q | ⟨-, q⟩
      · rw [r] at q; omega
      · omega
    omega
theorem ord_mono {l : List Rte} (h : OrdR l) (y : BitVec 128) (m : Int) : Mono y m l := by
  intro a b hb hab hlt
  rcases Nat.lt_or_eq_of_le hab with q | q
  · have h1 := (pcmp_lt _ _ _ _).1 (h a b hb q)
    have h2 := (pcmp_lt _ _ _ _).1 hlt
    refine (pcmp_lt _ _ _ _).2 ?_
    omega
  · subst q; exact hlt
theorem fndO_none {y : BitVec 128} {m : Int} : ∀ {l : List Rte}, (∀ (j : Nat) (hj : j < l.length), toP y m l[j] ≠ 0) → fndO y m l = none := by
  intro l
  induction l with
  | nil => intro _; rfl
  | cons r l ih =>
    intro h
    have h0 := h 0 (by simp)
    have hn : ¬ ((r.1.1 == y) && (r.1.2 == m)) = true := fun q => by
      simp only [Bool.and_eq_true, beq_iff_eq] at q
      exact h0 ((pcmp_eq0 _ _ _ _).2 q)
    unfold fndO
    rw [if_neg hn]
    exact ih fun j hj => h (j + 1) (by simpa using hj)
theorem fndO_at {y : BitVec 128} {m : Int} : ∀ {l : List Rte} (i : Nat) (hi : i < l.length), (∀ (j : Nat) (hj : j < i), toP y m (l[j]'(by omega)) ≠ 0) → toP y m l[i] = 0 → fndO y m l = some l[i].2 := by
  intro l
  induction l with
  | nil => intro i hi; simp at hi
  | cons r l ih =>
    intro i hi h h0
    unfold fndO
    cases i with
    | zero =>
      obtain ⟨e1, e2⟩ := (pcmp_eq0 _ _ _ _).1 h0
      have hp : ((r.1.1 == y) && (r.1.2 == m)) = true := by
        simp only [Bool.and_eq_true, beq_iff_eq]
        exact ⟨e1, e2⟩
      rw [if_pos hp]
      rfl
    | succ i =>
      have hn : ¬ ((r.1.1 == y) && (r.1.2 == m)) = true := fun q => by
        simp only [Bool.and_eq_true, beq_iff_eq] at q
        exact h 0 (by omega) ((pcmp_eq0 _ _ _ _).2 q)
      rw [if_neg hn]
      exact ih i (by simpa using hi) (fun j hj => h (j + 1) (by omega)) h0
/-- What is found by the place. -/
theorem fnd_place {y : BitVec 128} {m : Int} {l : List Rte} {i : Nat} {ok : Bool} {h : Int} (hO : OrdR l) (hP : Place y m l i ok) (h1 : ok = true → ∃ hi : i < l.length, h = l[i].2) (h0 : ok = false → h = 0) : h = (fndO y m l).getD 0 ∧ ok = (fndO y m l).isSome := by
  obtain ⟨hi, hj, hk⟩ := hP
  cases ok
  · have hn : fndO y m l = none := fndO_none fun j hjl e => by
      have a1 := hj j hjl
      have n1 : ¬ j < i := fun q => by have := a1.1 q; omega
      have hil : i < l.length := by omega
      rw [List.getElem?_eq_getElem hil] at hk
      have ki : toP y m l[i] ≠ 0 := by
        intro q
        have : decide (toP y m l[i] = 0) = true := by simpa using q
        simp only at hk
        rw [this] at hk
        cases hk
      rcases Nat.lt_or_eq_of_le (Nat.le_of_not_lt n1) with q | q
      · have a2 := hj i hil
        have n2 : ¬ toP y m l[i] < 0 := fun q => by have := a2.2 q; omega
        have o1 := (pcmp_lt _ _ _ _).1 (hO i j hjl q)
        obtain ⟨e1, e2⟩ := (pcmp_eq0 _ _ _ _).1 e
        apply n2
        refine (pcmp_lt _ _ _ _).2 ?_
        rw [e1, e2] at o1
        exact o1
      · subst q; exact ki e
    rw [hn]
    exact ⟨h0 rfl, rfl⟩
  · obtain ⟨hil, e⟩ := h1 rfl
    rw [List.getElem?_eq_getElem hil] at hk
    have ki : toP y m l[i] = 0 := by simpa using hk.symm
    have hs := fndO_at i hil (fun j hji q => by have := (hj j (by omega)).1 hji; omega) ki
    rw [hs]
    exact ⟨e, rfl⟩
end Go.Proofs.Ytofpbommhklooaa
/-
  Plain: the whole growing of a tree: what its nodes are, route by route.
-/
namespace Go.Proofs.Ytofpbommhklooaa
open Go.RowKit
set_option linter.unusedSimpArgs false
set_option linter.unusedVariables false

/-- What was there stays. -/
def Ext (ws ws' : List (BitVec 128)) (L L' : List Nd) : Prop := L.length ≤ L'.length ∧ ∀ i, i < L.length → ln L' i = ln L i ∧ hp L' i = hp L i ∧ ad ws' L' i = ad ws L i
theorem Ext.refl (ws : List (BitVec 128)) (L : List Nd) : Ext ws ws L L := ⟨Nat.le_refl _, fun _ _ => ⟨rfl, rfl, rfl⟩⟩
theorem Ext.trans {a b c : List (BitVec 128)} {L M N : List Nd} (h : Ext a b L M) (k : Ext b c M N) : Ext a c L N :=
  ⟨Nat.le_trans h.1 k.1, fun i hi => by
    obtain ⟨a1, a2, a3⟩ := h.2 i hi
    obtain ⟨b1, b2, b3⟩ := k.2 i (Nat.lt_of_lt_of_le hi h.1)
    exact ⟨b1.trans a1, b2.trans a2, b3.trans a3⟩⟩
theorem nd8_set' (L : List Nd) (p : Nat) (x : Nd) (i : Nat) : nd8 (L.set p x) i = if i = p ∧ p < L.length then x else nd8 L i := by
  by_cases c : p < L.length
  · rw [nd8_set _ _ _ _ c]; simp [c]
  · rw [List.set_eq_of_length_le (by omega)]; simp [c]
theorem bk1_ext (ws : List (BitVec 128)) (L : List Nd) (p q : Nat) : Ext ws ws L (bk1 L p q) := by
  refine ⟨by rw [bk1_len]; exact Nat.le_refl _, fun i hi => ?_⟩
  unfold ln hp ad bk1
  rw [nd8_set']
  split
  · rename_i h; rw [h.1]; exact ⟨rfl, rfl, rfl⟩
  · exact ⟨rfl, rfl, rfl⟩
theorem lay_ext (ws : List (BitVec 128)) (x : BitVec 128) (L : List Nd) (y : List Nat) (n : Nd) : Ext ws ws L (hiS x L y ++ [n]) := by
  refine ⟨by rw [List.length_append, hiS_len]; omega, fun i hi => ?_⟩
  unfold ln hp ad
  rw [nd8_app, if_neg (by rw [hiS_len]; omega)]
  unfold hiS
  split
  · rw [nd8_set']
    split
    · rename_i h; rw [h.1]; exact ⟨rfl, rfl, rfl⟩
    · exact ⟨rfl, rfl, rfl⟩
  · exact ⟨rfl, rfl, rfl⟩
theorem lay_new (ws : List (BitVec 128)) (x : BitVec 128) (L : List Nd) (y : List Nat) (n : Nd) : nd8 (hiS x L y ++ [n]) L.length = n := by rw [nd8_app, if_pos (by rw [hiS_len])]
theorem bkY_all (ws : List (BitVec 128)) (m : Nat) : ∀ (r : List Nat) (L : List Nd), InvG ws L r.reverse → L.length ≤ 1000000000 → 1 ≤ r.length →
    InvG ws (bkY m L r).1 (bkY m L r).2.reverse ∧ Ext ws ws L (bkY m L r).1 ∧ (bkY m L r).1.length = L.length ∧ (bkY m L r).2.length = min r.length (m + 1)
  | [], L, v, _, h => by simp at h
  | [p], L, v, _, _ => by simp only [bkY]; exact ⟨v, Ext.refl _ _, trivial, by simp⟩
  | q :: p :: r, L, v, hL, _ => by
    simp only [bkY]
    by_cases c : m < r.length + 1
    · rw [if_pos c]
      have e : (q :: p :: r).reverse = (r.reverse ++ [p]) ++ [q] := by simp
      rw [e] at v
      have v1 := v.back hL
      have e2 : (p :: r).reverse = r.reverse ++ [p] := by simp
      rw [← e2] at v1
      obtain ⟨a, b, d, f⟩ := bkY_all ws m (p :: r) (bk1 L p q) v1 (by rw [bk1_len]; exact hL) (by simp)
      refine ⟨a, (bk1_ext ws L p q).trans b, by rw [d, bk1_len], ?_⟩
      rw [f]
      simp only [List.length_cons]
      omega
    · rw [if_neg c]
      refine ⟨v, Ext.refl _ _, rfl, ?_⟩
      simp only [List.length_cons]
      omega
/-- The way is left up to a length. -/
def bkW (m : Nat) (L : List Nd) (y : List Nat) : List Nd × List Nat := ((bkY m L y.reverse).1, (bkY m L y.reverse).2.reverse)
theorem bkW_all {ws : List (BitVec 128)} {L : List Nd} {y : List Nat} (v : InvG ws L y) (hL : L.length ≤ 1000000000) (m : Nat) :
    InvG ws (bkW m L y).1 (bkW m L y).2 ∧ Ext ws ws L (bkW m L y).1 ∧ (bkW m L y).1.length = L.length ∧ (bkW m L y).2.length = min y.length (m + 1) := by
  have := bkY_all ws m y.reverse L (by rw [List.reverse_reverse]; exact v) hL (by rw [List.length_reverse]; exact v.y1)
  rw [List.length_reverse] at this
  unfold bkW
  rw [List.length_reverse]
  exact this
/-- What a node must be that is laid behind the last one. -/
def LayOk (ws : List (BitVec 128)) (L : List Nd) (n : Nat) (x : BitVec 128) : Prop := (n : Int) ≤ ln L (L.length - 1) + 1 ∧ cutW x ((n : Int) - 1) = cutW (ad ws L (L.length - 1)) ((n : Int) - 1) ∧ ((n : Int) ≤ ln L (L.length - 1) → bitZ (ad ws L (L.length - 1)) ((n : Int) - 1) = 0 ∧ bitZ x ((n : Int) - 1) = 1 ∧ 0 < hp L (L.length - 1))
theorem dnS_all (ws : List (BitVec 128)) (x : BitVec 128) (wn : Nat) (hw : wn < ws.length) (hx : ws.getD wn 0#128 = x) : ∀ (f : Nat) (L : List Nd) (y : List Nat), InvG ws L y → L.length + f ≤ 1000000000 → y.length + f ≤ 129 → (0 < f → LayOk ws L y.length x) →
    InvG ws (dnS wn x f (L, y)).1 (dnS wn x f (L, y)).2 ∧ Ext ws ws L (dnS wn x f (L, y)).1 ∧ (∀ i, L.length ≤ i → i < L.length + f → hp (dnS wn x f (L, y)).1 i = 0 ∧ ln (dnS wn x f (L, y)).1 i = (y.length + (i - L.length) : Nat) ∧ ad ws (dnS wn x f (L, y)).1 i = x ∧ wy (dnS wn x f (L, y)).2 (y.length + (i - L.length)) = i)
  | 0, L, y, v, _, _, _ => ⟨v, Ext.refl _ _, fun i h1 h2 => by omega⟩
  | f + 1, L, y, v, hL, hy, hl => by
    simp only [dnS]
    obtain ⟨h1, h2, h3⟩ := hl (by omega)
    have v1 := v.lay (wn := wn) (by omega) hw hx (by omega) h1 h2 h3
    have e1 : (hiS x L y ++ [(⟨(wn : Int), 0, 0, 0, (y.length : Int), 0⟩ : Nd)]).length = L.length + 1 := by simp [hiS_len]
    have x1 := lay_ext ws x L y ⟨(wn : Int), 0, 0, 0, (y.length : Int), 0⟩
    have n1 := lay_new ws x L y ⟨(wn : Int), 0, 0, 0, (y.length : Int), 0⟩
    have wl := wy_end y L.length
    revert v1 e1 x1 n1
    generalize hiS x L y ++ [(⟨(wn : Int), 0, 0, 0, (y.length : Int), 0⟩ : Nd)] = L1
    intro v1 e1 x1 n1
    have lnN : ln L1 L.length = y.length := by unfold ln; rw [n1]
    have hpN : hp L1 L.length = 0 := by unfold hp; rw [n1]
    have adN : ad ws L1 L.length = x := by
      unfold ad; rw [n1]
      show ws.getD ((wn : Int).toNat) 0#128 = x
      rw [Int.toNat_natCast]; exact hx
    have e2 : (y ++ [L.length]).length = y.length + 1 := by simp
    obtain ⟨a, b, c⟩ := dnS_all ws x wn hw hx f L1 (y ++ [L.length]) v1 (by omega) (by omega) (fun _ => by
      unfold LayOk
      rw [e1, e2, show L.length + 1 - 1 = L.length by omega, lnN, adN]
      exact ⟨by omega, rfl, fun h => by omega⟩)
    have v2 := a
    refine ⟨a, x1.trans b, ?_⟩
    intro i g1 g2
    by_cases d : i = L.length
    · subst d
      obtain ⟨b1, b2, b3⟩ := b.2 L.length (by omega)
      rw [b1, b2, b3]
      refine ⟨hpN, by rw [lnN]; simp, adN, ?_⟩
      have e3 := dnS_len (wn : Int) x f (L1, y ++ [L.length])
      have hk : y.length < (dnS (wn : Int) x f (L1, y ++ [L.length])).2.length := by rw [e3.2]; show y.length < (y ++ [L.length]).length + f; omega
      rw [show y.length + (L.length - L.length) = y.length by omega]
      refine v2.onway (by rw [e3.1]; show L.length < L1.length + f; omega) ?_ ?_ hk
      · intro j q1 q2
        rw [e3.1] at q2
        replace q2 : j < L1.length + f := q2
        rw [b1, lnN, (c j (by omega) (by omega)).2.1]
        omega
      · rw [b1, lnN]
    · obtain ⟨q1, q2, q3, q4⟩ := c i (by omega) (by omega)
      refine ⟨q1, ?_, q3, ?_⟩
      · rw [q2, e1, e2]; omega
      · rw [e1, e2] at q4
        rw [show y.length + (i - L.length) = y.length + 1 + (i - (L.length + 1)) by omega]; exact q4
theorem cntR_zero (L : List Nd) (a : Nat) : ∀ n, (∀ i, a ≤ i → i < a + n → hp L i = 0) → cntR L a n = 0
  | 0, _ => rfl
  | n + 1, h => by
    simp only [cntR]
    rw [cntR_zero L a n (fun i h1 h2 => h i h1 (by omega)), h (a + n) (by omega) (by omega)]
    simp
/-- Nodes, words, way. -/
abbrev GrS := List Nd × List (BitVec 128) × List Nat
def grT (s : GrS) (last : BitVec 128 × Int) (r : Rte) : GrS :=
  ((dnW (s.2.1.length : Int) r.1.1 r.1.2.toNat r.2 (bkW (meetN last.1 last.2 r.1.1 r.1.2).toNat s.1 s.2.2).1 (bkW (meetN last.1 last.2 r.1.1 r.1.2).toNat s.1 s.2.2).2).1, s.2.1 ++ [r.1.1], (dnW (s.2.1.length : Int) r.1.1 r.1.2.toNat r.2 (bkW (meetN last.1 last.2 r.1.1 r.1.2).toNat s.1 s.2.2).1 (bkW (meetN last.1 last.2 r.1.1 r.1.2).toNat s.1 s.2.2).2).2)
def grwG : List Rte → BitVec 128 × Int → GrS → GrS
  | [], _, s => s
  | r :: l, last, s => grwG l r.1 (grT s last r)
/-- What is known between two routes. -/
structure Gs (done : List Rte) (last : BitVec 128 × Int) (s : GrS) : Prop where
  inv : InvG s.2.1 s.1 s.2.2
  yl : (s.2.2.length : Int) = last.2 + 1
  yw : wy s.2.2 (s.2.2.length - 1) + 1 = s.1.length
  al : ad s.2.1 s.1 (s.1.length - 1) = last.1
  st : (done = [] ∧ s.1.length = 1 ∧ hp s.1 0 = 0 ∧ last = (0#128, 0)) ∨ (done ≠ [] ∧ 0 < hp s.1 (s.1.length - 1))
  nl : s.1.length ≤ 1 + 128 * done.length
  wl : s.2.1.length = 1 + done.length
  tot : cntR s.1 0 s.1.length = done.length
  rts : ∀ r ∈ done, ∃ i, i < s.1.length ∧ ln s.1 i = r.1.2 ∧ ad s.2.1 s.1 i = r.1.1 ∧ hp s.1 i = r.2
  rev : ∀ i, i < s.1.length → 0 < hp s.1 i → ∃ r ∈ done, ln s.1 i = r.1.2 ∧ ad s.2.1 s.1 i = r.1.1 ∧ hp s.1 i = r.2
  zero : ad s.2.1 s.1 0 = 0#128
  nf : ∀ F : Int, 0 ≤ F → (∀ r ∈ done, r.1.2 ≤ F) → ((s.1.length : Int) ≤ 1 + F * done.length ∧ ∀ i, i < s.1.length → ln s.1 i ≤ F)
  wr : ∀ x ∈ s.2.1, x = 0#128 ∨ ∃ r ∈ done, x = r.1.1
theorem gs_new : Gs [] (0#128, 0) ([⟨0, 0, 0, 0, 0, 0⟩], [0#128], [0]) :=
  ⟨inv_new, rfl, rfl, rfl, .inl ⟨rfl, rfl, rfl, rfl⟩, by simp, rfl, rfl, fun r h => by simp at h, fun i h1 h2 => by
    have : i = 0 := by simp at h1; exact h1
    subst this
    exact absurd h2 (by decide), rfl, fun F h0 _ => ⟨by simp, fun i h1 => by
      have : i = 0 := by simp at h1; exact h1
      subst this
      exact h0⟩, fun x hx => .inl (by simpa using hx)⟩
/-- A route as a right table has it. -/
def RtH (F : Int) (r : Rte) : Prop := Rt F r.1.1 r.1.2 ∧ 1 ≤ r.2 ∧ r.2 ≤ 65535
theorem cutZ8 (x : BitVec 128) : cutW x 0 = 0#128 := by
  have : maskW 0 = 0#128 := by decide
  unfold cutW; rw [this]; simp
theorem meet_lt (x : BitVec 128) (n : Int) (y : BitVec 128) (m : Int) (hn0 : 0 ≤ n) (hn : n ≤ 128) (hm0 : 0 ≤ m) (hm : m ≤ 128) (hx : cutW x n = x) (hy : cutW y m = y) (h : pcmpZ x n y m < 0) :
    meetN x n y m < m ∧ (meetN x n y m < n → bitZ x (meetN x n y m) = 0 ∧ bitZ y (meetN x n y m) = 1) := by
  have a := meetN_le x n y m
  have b := meet_cut x n y m hn0 hm0 hn
  have c := meetN_nn x n y m hn0 hm0
  have h1 : meetN x n y m < m := by
    apply Classical.byContradiction; intro d
    have e : meetN x n y m = m := by omega
    rw [e, hy] at b
    rw [e] at a
    rw [pcmp_lt] at h
    have : (cutW x m).toNat ≤ x.toNat := by rw [cut_nat]; exact Nat.div_mul_le_self _ _
    rw [← b] at this
    rcases h with h | h
    · omega
    · omega
  refine ⟨h1, fun h2 => ?_⟩
  have e : meetN x n y m = (leadN (x ^^^ y) : Int) := by
    unfold meetN at h1 h2 ⊢; omega
  rw [e]
  rcases first_bit x y (by omega) with ⟨f1, f2, f3⟩ | ⟨f1, f2, f3⟩
  · exact ⟨f1, f2⟩
  · exfalso
    rcases cmpZ_ways x y with ⟨g1, g2⟩ | ⟨g1, g2⟩ | ⟨g1, g2⟩
    · omega
    · omega
    · rw [pcmp_lt] at h; omega
theorem Gs.step {F : Int} (hF : F ≤ 128) {done : List Rte} {last : BitVec 128 × Int} {s : GrS} (g : Gs done last s) {r : Rte} (hr : RtH F r) (hl0 : 0 ≤ last.2) (hl1 : last.2 ≤ 128) (hlc : cutW last.1 last.2 = last.1) (ho : done = [] ∨ pcmpZ last.1 last.2 r.1.1 r.1.2 < 0) (hd : done.length ≤ 1048576) :
    Gs (done ++ [r]) r.1 (grT s last r) := by
  obtain ⟨L, ws, y⟩ := s
  obtain ⟨⟨x, n⟩, h⟩ := r
  obtain ⟨⟨hn0, hnF, hxc⟩, hh1, hh2⟩ := hr
  simp only at *
  have vi := g.inv
  have yl := g.yl
  have yw := g.yw
  have al := g.al
  have nl := g.nl
  have wl := g.wl
  have zr := g.zero
  simp only at vi yl yw al nl wl zr
  have mb := meetN_le last.1 last.2 x n
  have m0 := meetN_nn last.1 last.2 x n hl0 hn0
  have mc := meet_cut last.1 last.2 x n hl0 hn0 hl1
  -- what the meet is
  have hm : (done = [] ∧ L.length = 1 ∧ hp L 0 = 0 ∧ n = 0) ∨ (meetN last.1 last.2 x n < n ∧ (meetN last.1 last.2 x n < last.2 → bitZ last.1 (meetN last.1 last.2 x n) = 0 ∧ bitZ x (meetN last.1 last.2 x n) = 1 ∧ 0 < hp L (L.length - 1))) := by
    rcases g.st with ⟨d1, d2, d3, d4⟩ | ⟨d1, d2⟩
    · rw [d4] at mb hl0 ⊢
      by_cases c : n = 0
      · exact .inl ⟨d1, d2, d3, c⟩
      · exact .inr ⟨by simp only at mb ⊢; omega, fun q => by simp only at mb m0 q ⊢; rw [d4] at m0; simp only at m0; omega⟩
    · rcases ho with ho | ho
      · exact absurd ho d1
      · have := meet_lt last.1 last.2 x n hl0 hl1 hn0 (by omega) hlc hxc ho
        exact .inr ⟨this.1, fun q => ⟨(this.2 q).1, (this.2 q).2, d2⟩⟩
  unfold grT
  simp only
  generalize hM : meetN last.1 last.2 x n = M at *
  obtain ⟨b1, b2, b3, b4⟩ := bkW_all vi (by omega) M.toNat
  generalize bkW M.toNat L y = bk at *
  obtain ⟨L1, y1⟩ := bk
  simp only at b1 b2 b3 b4 ⊢
  have v2 := b1.word x
  have x2 : Ext ws (ws ++ [x]) L1 L1 := ⟨Nat.le_refl _, fun i hi => ⟨rfl, rfl, ad_app (b1.bnd i hi).2.1.1 (b1.bnd i hi).2.1.2⟩⟩
  have y1l : (y1.length : Int) = M + 1 := by rw [b4]; omega
  have lastE := (b2.trans x2).2 (L.length - 1) (by omega)
  have lnL : ln L (L.length - 1) = last.2 := by
    have := (vi.way (y.length - 1) (by omega)).2.1
    rw [show wy y (y.length - 1) = L.length - 1 by omega] at this
    rw [this]; omega
  have wx : (ws ++ [x]).getD ws.length 0#128 = x := by simp [List.getD_eq_getElem?_getD]
  obtain ⟨c1, c2, c3⟩ := dnS_all (ws ++ [x]) x ws.length (by simp) wx (n.toNat + 1 - y1.length) L1 y1 v2 (by omega) (by omega) (fun hf => by
    rcases hm with ⟨-, -, -, q⟩ | ⟨q1, q2⟩
    · omega
    · unfold LayOk
      rw [b3, lastE.1, lastE.2.1, lastE.2.2, lnL, al, y1l, show M + 1 - 1 = M by omega, mc]
      exact ⟨by omega, rfl, fun q => q2 (by omega)⟩)
  have dl := dnS_len (ws.length : Int) x (n.toNat + 1 - y1.length) (L1, y1)
  unfold dnW
  simp only at dl ⊢
  generalize hf : n.toNat + 1 - y1.length = f at *
  generalize dnS (ws.length : Int) x f (L1, y1) = d at *
  obtain ⟨L2, y2⟩ := d
  simp only at c1 c2 c3 dl ⊢
  have XT := (b2.trans x2).trans c2
  have y2l : y2.length = n.toNat + 1 := by omega
  -- the last node
  have hlast : wy y2 n.toNat + 1 = L2.length ∧ hp L2 (L2.length - 1) = 0 ∧ ad (ws ++ [x]) L2 (L2.length - 1) = x := by
    rcases hm with ⟨q1, q2, q3, q4⟩ | ⟨q1, q2⟩
    · have f0 : f = 0 := by omega
      have l2 : L2.length = 1 := by omega
      have e0 := XT.2 0 (by omega)
      rw [l2]
      refine ⟨?_, by rw [show 1 - 1 = 0 from rfl, e0.2.1]; exact q3, ?_⟩
      · have := c1.y0
        rw [q4]; simp only [Int.toNat_zero]; omega
      · rw [show 1 - 1 = 0 from rfl, e0.2.2, zr]
        rw [q4, cutZ8] at hxc
        exact hxc
    · have fp : 0 < f := by omega
      obtain ⟨g1, g2, g3, g4⟩ := c3 (L2.length - 1) (by omega) (by omega)
      refine ⟨?_, g1, g3⟩
      rw [show n.toNat = y1.length + (L2.length - 1 - L1.length) by omega, g4]
      omega
  obtain ⟨w1, w2, w3⟩ := hlast
  have hgd : y2.getD n.toNat 0 = L2.length - 1 := by
    have : wy y2 n.toNat = L2.length - 1 := by omega
    exact this
  have L2p : 0 < L2.length := by omega
  rw [hgd]
  have v3 := c1.fin (p := L2.length - 1) (h := h) (by omega) (by rw [y2l]; show wy y2 (n.toNat + 1 - 1) = _; rw [show n.toNat + 1 - 1 = n.toNat by omega]; omega) w2 hh1 hh2
  have hE : ∀ i, nd8 (dnE L2 (L2.length - 1) h) i = if i = L2.length - 1 then { nd8 L2 (L2.length - 1) with hop := IntKind.u16.wrap h, count := IntKind.i32.wrap ((nd8 L2 (L2.length - 1)).count + 1) } else nd8 L2 i := fun i => by
    unfold dnE
    rw [nd8_set _ _ _ _ (by omega)]
  have lE : (dnE L2 (L2.length - 1) h).length = L2.length := by simp [dnE]
  have lnE : ∀ i, ln (dnE L2 (L2.length - 1) h) i = ln L2 i := fun i => by unfold ln; rw [hE]; split <;> simp_all
  have adE : ∀ i, ad (ws ++ [x]) (dnE L2 (L2.length - 1) h) i = ad (ws ++ [x]) L2 i := fun i => by unfold ad; rw [hE]; split <;> simp_all
  have hpE : ∀ i, ¬ i = L2.length - 1 → hp (dnE L2 (L2.length - 1) h) i = hp L2 i := fun i q => by unfold hp; rw [hE, if_neg q]
  have hpL : hp (dnE L2 (L2.length - 1) h) (L2.length - 1) = h := by
    unfold hp; rw [hE, if_pos rfl]
    show IntKind.u16.wrap h = h
    rw [IntKind.wrap_u16]; omega
  have lnn : ln L2 (L2.length - 1) = n := by
    have := (c1.way n.toNat (by omega)).2.1
    rw [show wy y2 n.toNat = L2.length - 1 by omega] at this
    rw [this]; omega
  have oldE : ∀ i, i < L.length → (ln (dnE L2 (L2.length - 1) h) i = ln L i ∧ ad (ws ++ [x]) (dnE L2 (L2.length - 1) h) i = ad ws L i) := fun i q => by
    rw [lnE, adE]
    have := XT.2 i q
    exact ⟨this.1, this.2.2⟩
  have newE : ∀ i, L.length ≤ i → i < L2.length → hp L2 i = 0 := fun i q1 q2 => (c3 i (by omega) (by omega)).1
  have hlb : (done = [] ∧ L.length = 1 ∧ hp L 0 = 0) ∨ L.length ≤ L2.length - 1 := by
    rcases hm with ⟨q1, q2, q3, q4⟩ | ⟨q1, q2⟩
    · exact .inl ⟨q1, q2, q3⟩
    · exact .inr (by omega)
  refine ⟨v3, ?_, ?_, ?_, .inr ⟨by simp, ?_⟩, ?_, ?_, ?_, ?_, ?_, ?_, ?_, ?_⟩
  · simp only; omega
  · simp only
    rw [y2l, lE, show n.toNat + 1 - 1 = n.toNat by omega]; omega
  · simp only
    rw [lE, adE]; exact w3
  · simp only
    rw [lE, hpL]; omega
  · simp only [List.length_append, List.length_singleton]
    rw [lE]; omega
  · simp only [List.length_append, List.length_singleton]
    omega
  · simp only [List.length_append, List.length_singleton]
    rw [lE]
    have a1 := cntR_add (dnE L2 (L2.length - 1) h) 0 (L2.length - 1) 1
    rw [show L2.length - 1 + 1 = L2.length by omega] at a1
    rw [a1]
    have a2 : cntR (dnE L2 (L2.length - 1) h) 0 (L2.length - 1) = cntR L2 0 (L2.length - 1) := cntR_congr _ (fun i _ q => hpE i (by omega))
    have a3 : cntR (dnE L2 (L2.length - 1) h) (0 + (L2.length - 1)) 1 = 1 := by
      simp only [cntR, Nat.zero_add, Nat.add_zero, hpL]
      rw [if_pos (by omega)]
      rfl
    have a4 := cntR_add L2 0 (L2.length - 1) 1
    rw [show L2.length - 1 + 1 = L2.length by omega] at a4
    have a5 : cntR L2 (0 + (L2.length - 1)) 1 = 0 := cntR_zero _ _ _ (fun i q1 q2 => by rw [show i = L2.length - 1 by omega]; exact w2)
    have a6 := cntR_add L2 0 L.length (L2.length - L.length)
    rw [show L.length + (L2.length - L.length) = L2.length by omega] at a6
    have a7 : cntR L2 (0 + L.length) (L2.length - L.length) = 0 := cntR_zero _ _ _ (fun i q1 q2 => newE i (by omega) (by omega))
    have a8 : cntR L2 0 L.length = cntR L 0 L.length := cntR_congr _ (fun i _ q => (XT.2 i (by omega)).2.1)
    have a9 := g.tot
    simp only at a9
    omega
  · intro r hr
    simp only at *
    rw [List.mem_append, List.mem_singleton] at hr
    rcases hr with hr | hr
    · obtain ⟨i, q1, q2, q3, q4⟩ := g.rts r hr
      replace q1 : i < L.length := q1
      have nl : ¬ i = L2.length - 1 := by
        rcases hlb with ⟨z, -, -⟩ | z
        · rw [z] at hr; simp at hr
        · omega
      refine ⟨i, by rw [lE]; omega, by rw [(oldE i q1).1]; exact q2, by rw [(oldE i q1).2]; exact q3, ?_⟩
      rw [hpE i nl, (XT.2 i q1).2.1]; exact q4
    · subst hr
      exact ⟨L2.length - 1, by rw [lE]; omega, by rw [lnE]; exact lnn, by rw [adE]; exact w3, hpL⟩
  · intro i hi hpi
    simp only at *
    rw [lE] at hi
    by_cases c : i = L2.length - 1
    · subst c
      exact ⟨((x, n), h), by simp, by rw [lnE]; exact lnn, by rw [adE]; exact w3, hpL⟩
    · rw [hpE i c] at hpi
      have hiL : i < L.length := by
        apply Classical.byContradiction; intro q
        rw [newE i (by omega) hi] at hpi; omega
      rw [(XT.2 i hiL).2.1] at hpi
      obtain ⟨r, q1, q2, q3, q4⟩ := g.rev i hiL hpi
      exact ⟨r, by simp [q1], by rw [(oldE i hiL).1]; exact q2, by rw [(oldE i hiL).2]; exact q3, by rw [hpE i c, (XT.2 i hiL).2.1]; exact q4⟩
  · simp only
    rw [(oldE 0 (by omega)).2]; exact zr
  · intro F' h0 hF'
    obtain ⟨o1, o2⟩ := g.nf F' h0 (fun r hr => hF' r (List.mem_append_left _ hr))
    have hn : n ≤ F' := hF' ((x, n), h) (by simp)
    have y1p := b1.y1
    simp only at o1 o2 ⊢
    rw [lE]
    refine ⟨?_, fun i hi => ?_⟩
    · simp only [List.length_append, List.length_singleton]
      push_cast
      rw [Int.mul_add]
      omega
    · rw [lnE]
      by_cases c : i < L.length
      · rw [(XT.2 i c).1]; exact o2 i c
      · rw [(c3 i (by omega) (by omega)).2.1]; omega
  · intro z hz
    simp only [List.mem_append, List.mem_singleton] at hz
    rcases hz with hz | hz
    · rcases g.wr z hz with q | ⟨r, q1, q2⟩
      · exact .inl q
      · exact .inr ⟨r, List.mem_append_left _ q1, q2⟩
    · exact .inr ⟨((x, n), h), by simp, hz⟩
end Go.Proofs.Ytofpbommhklooaa
