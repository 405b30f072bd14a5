/-
  Part 30 of the proof: 2 texts, one behind the other.
-/
import Derived.Test.YtnaghiipfgdimaaPart28
import Derived.Test.YtnaghiipfgdimaaPart18
import Derived.Test.YtnaghiipfgdimaaPart3
/-
  Plain: a tree that grows: what holds of its nodes and of the way, and that each step keeps it.
-/
namespace Go.Proofs.Ytnaghiipfgdimaa
open Go.RowKit
set_option linter.unusedSimpArgs false
set_option linter.unusedVariables false

def ln (L : List Nd) (i : Nat) : Int := (nd8 L i).length
def hp (L : List Nd) (i : Nat) : Int := (nd8 L i).hop
def ad (ws : List (BitVec 128)) (L : List Nd) (i : Nat) : BitVec 128 := ws.getD (nd8 L i).word.toNat 0#128
/-- How many of n nodes, from one on, have a next hop; the greatest length of these. -/
def cntR (L : List Nd) (a : Nat) : Nat → Int
  | 0 => 0
  | n + 1 => cntR L a n + (if 0 < hp L (a + n) then 1 else 0)
def topR (L : List Nd) (a : Nat) : Nat → Int
  | 0 => 0
  | n + 1 => max (topR L a n) (ln L (a + n))
theorem cntR_add (L : List Nd) (a n : Nat) : ∀ m, cntR L a (n + m) = cntR L a n + cntR L (a + n) m
  | 0 => by simp [cntR]
  | m + 1 => by
    have := cntR_add L a n m
    show cntR L a (n + m) + _ = cntR L a n + (cntR L (a + n) m + _)
    have e : a + n.add m = a + n + m := (Nat.add_assoc a n m).symm
    rw [this, e]; omega
theorem topR_add (L : List Nd) (a n : Nat) : ∀ m, topR L a (n + m) = max (topR L a n) (topR L (a + n) m)
  | 0 => by
    have : ∀ k, 0 ≤ topR L a k := fun k => by
      induction k with
      | zero => simp [topR]
      | succ k ih => simp only [topR]; omega
    have := this n
    simp only [topR, Nat.add_zero]; omega
  | m + 1 => by
    have := topR_add L a n m
    show max (topR L a (n + m)) _ = max (topR L a n) (max (topR L (a + n) m) _)
    have e : a + n.add m = a + n + m := (Nat.add_assoc a n m).symm
    rw [this, e]; omega
theorem cntR_congr {L L' : List Nd} {a : Nat} : ∀ n, (∀ i, a ≤ i → i < a + n → hp L' i = hp L i) → cntR L' a n = cntR L a n
  | 0, _ => rfl
  | n + 1, h => by
    simp only [cntR]
    rw [cntR_congr n (fun i h1 h2 => h i h1 (by omega)), h (a + n) (by omega) (by omega)]
theorem topR_congr {L L' : List Nd} {a : Nat} : ∀ n, (∀ i, a ≤ i → i < a + n → ln L' i = ln L i) → topR L' a n = topR L a n
  | 0, _ => rfl
  | n + 1, h => by
    simp only [topR]
    rw [topR_congr n (fun i h1 h2 => h i h1 (by omega)), h (a + n) (by omega) (by omega)]
theorem cntR_bd (L : List Nd) (a : Nat) : ∀ n : Nat, 0 ≤ cntR L a n ∧ cntR L a n ≤ n
  | 0 => by simp [cntR]
  | n + 1 => by
    have := cntR_bd L a n
    simp only [cntR]
    split <;> omega
theorem topR_bd (L : List Nd) (a : Nat) (t : Int) (ht : 0 ≤ t) : ∀ n : Nat, (∀ i, a ≤ i → i < a + n → ln L i ≤ t) → 0 ≤ topR L a n ∧ topR L a n ≤ t
  | 0, _ => by simp [topR]; exact ht
  | n + 1, h => by
    have := topR_bd L a t ht n (fun i h1 h2 => h i h1 (by omega))
    have := h (a + n) (by omega) (by omega)
    simp only [topR]
    omega
theorem topR_ge (L : List Nd) (a : Nat) : ∀ n i : Nat, a ≤ i → i < a + n → ln L i ≤ topR L a n
  | 0, i, h1, h2 => by omega
  | n + 1, i, h1, h2 => by
    simp only [topR]
    by_cases c : i = a + n
    · subst c; omega
    · have := topR_ge L a n i h1 (by omega)
      omega
theorem nd8_set (L : List Nd) (p : Nat) (x : Nd) (i : Nat) (hp : p < L.length) : nd8 (L.set p x) i = if i = p then x else nd8 L i := by
  unfold nd8
  simp only [List.getD_eq_getElem?_getD, List.getElem?_set]
  by_cases c : p = i
  · subst c; simp [hp]
  · have : ¬ i = p := fun e => c e.symm
    simp [c, this]
theorem nd8_app (L : List Nd) (x : Nd) (i : Nat) : nd8 (L ++ [x]) i = if i = L.length then x else nd8 L i := by
  unfold nd8
  simp only [List.getD_eq_getElem?_getD]
  by_cases c : i = L.length
  · subst c; simp
  · rw [if_neg c]
    by_cases d : i < L.length
    · rw [List.getElem?_append_left d]
    · rw [List.getElem?_append_right (by omega), List.getElem?_eq_none (by simp; omega), List.getElem?_eq_none (by omega)]
/-- Where what lies within a node ends. -/
def End (L : List Nd) (i e : Nat) : Prop := i < e ∧ e ≤ L.length ∧ (∀ j, i < j → j < e → ln L i < ln L j) ∧ (e < L.length → ln L e ≤ ln L i)
/-- The kid by 1. -/
def Hi1 (ws : List (BitVec 128)) (L : List Nd) (i j : Nat) : Prop := i < j ∧ j < L.length ∧ ln L j = ln L i + 1 ∧ bitZ (ad ws L j) (ln L i) = 1 ∧ ∀ q, i < q → q ≤ j → ln L i < ln L q
def HiOk (ws : List (BitVec 128)) (L : List Nd) (i : Nat) : Prop := ((nd8 L i).high = 0 ∧ ∀ j, ¬ Hi1 ws L i j) ∨ ∃ j : Nat, (nd8 L i).high = (j : Int) ∧ Hi1 ws L i j
/-- One node behind another. -/
def Stp (ws : List (BitVec 128)) (L : List Nd) (i : Nat) : Prop := 1 ≤ ln L (i + 1) ∧ ln L (i + 1) ≤ ln L i + 1 ∧ cutW (ad ws L (i + 1)) (ln L (i + 1) - 1) = cutW (ad ws L i) (ln L (i + 1) - 1) ∧ (ln L (i + 1) ≤ ln L i → bitZ (ad ws L i) (ln L (i + 1) - 1) = 0 ∧ bitZ (ad ws L (i + 1)) (ln L (i + 1) - 1) = 1 ∧ 0 < hp L i)
def wy (y : List Nat) (k : Nat) : Nat := y.getD k 0
theorem wy_app {y : List Nat} {q k : Nat} (h : k < y.length) : wy (y ++ [q]) k = wy y k := by
  unfold wy
  simp only [List.getD_eq_getElem?_getD]
  rw [List.getElem?_append_left h]
theorem wy_end (y : List Nat) (q : Nat) : wy (y ++ [q]) y.length = q := by
  unfold wy
  simp [List.getD_eq_getElem?_getD]
def nx (n : Nat) (y : List Nat) (k : Nat) : Nat := if k + 1 < y.length then wy y (k + 1) else n
structure InvG (ws : List (BitVec 128)) (L : List Nd) (y : List Nat) : Prop where
  y1 : 1 ≤ y.length
  y0 : wy y 0 = 0
  way : ∀ k, k < y.length → wy y k < L.length ∧ ln L (wy y k) = k ∧ ∀ i, wy y k < i → i < L.length → (k : Int) < ln L i
  cnt : ∀ k, k < y.length → (nd8 L (wy y k)).count = cntR L (wy y k) (nx L.length y k - wy y k)
  hgt : ∀ k, k < y.length → (nd8 L (wy y k)).height = topR L (wy y k) (nx L.length y k - wy y k) - k
  don : ∀ i, i < L.length → (∀ k, k < y.length → wy y k ≠ i) → ∃ e, End L i e ∧ (nd8 L i).count = cntR L i (e - i) ∧ (nd8 L i).height = topR L i (e - i) - ln L i
  hig : ∀ i, i < L.length → HiOk ws L i
  stp : ∀ i, i + 1 < L.length → Stp ws L i
  bnd : ∀ i, i < L.length → (0 ≤ ln L i ∧ ln L i ≤ 128) ∧ (0 ≤ (nd8 L i).word ∧ (nd8 L i).word < ws.length) ∧ (0 ≤ hp L i ∧ hp L i ≤ 65535)
theorem InvG.mono {ws : List (BitVec 128)} {L : List Nd} {y : List Nat} (v : InvG ws L y) {k j : Nat} (hk : k < j) (hj : j < y.length) : wy y k < wy y j := by
  obtain ⟨a1, a2, a3⟩ := v.way k (by omega)
  obtain ⟨b1, b2, b3⟩ := v.way j hj
  apply Classical.byContradiction
  intro c
  by_cases e : wy y j = wy y k
  · rw [e, a2] at b2; omega
  · have := b3 (wy y k) (by omega) a1
    omega
/-- A node behind which all are longer, and that is as short as one of the way, is it. -/
theorem InvG.onway {ws : List (BitVec 128)} {L : List Nd} {y : List Nat} (v : InvG ws L y) {i k : Nat} (hi : i < L.length) (h : ∀ j, i < j → j < L.length → ln L i < ln L j) (hl : ln L i = k) (hk : k < y.length) : wy y k = i := by
  obtain ⟨a1, a2, a3⟩ := v.way k hk
  apply Classical.byContradiction
  intro c
  by_cases d : wy y k < i
  · have := a3 i d hi
    omega
  · have := h (wy y k) (by omega) a1
    omega
/-- The first node. -/
theorem inv_new : InvG [0#128] [⟨0, 0, 0, 0, 0, 0⟩] [0] := by
  have e : ∀ i, i < [(⟨0, 0, 0, 0, 0, 0⟩ : Nd)].length → i = 0 := fun i h => by simp at h; exact h
  refine ⟨by simp, rfl, ?_, ?_, ?_, ?_, ?_, ?_, ?_⟩
  · intro k hk
    have : k = 0 := by simp at hk; exact hk
    subst this
    refine ⟨by simp [wy], rfl, ?_⟩
    intro i h1 h2
    have := e i h2
    simp [wy] at h1; omega
  · intro k hk
    have : k = 0 := by simp at hk; exact hk
    subst this; rfl
  · intro k hk
    have : k = 0 := by simp at hk; exact hk
    subst this; rfl
  · intro i hi h
    exact absurd (e i hi).symm (h 0 (by simp))
  · intro i hi
    have := e i hi
    subst this
    exact .inl ⟨rfl, fun j h => by have := e j h.2.1; have := h.1; omega⟩
  · intro i hi; simp at hi
  · intro i hi
    have := e i hi
    subst this
    decide
/-- A word more. -/
theorem ad_app {ws : List (BitVec 128)} {L : List Nd} {x : BitVec 128} {i : Nat} (h0 : 0 ≤ (nd8 L i).word) (h : (nd8 L i).word < ws.length) : ad (ws ++ [x]) L i = ad ws L i := by
  unfold ad
  simp only [List.getD_eq_getElem?_getD]
  rw [List.getElem?_append_left (by omega)]
theorem InvG.word {ws : List (BitVec 128)} {L : List Nd} {y : List Nat} (v : InvG ws L y) (x : BitVec 128) : InvG (ws ++ [x]) L y := by
  have ea : ∀ i, i < L.length → ad (ws ++ [x]) L i = ad ws L i := fun i h => ad_app (v.bnd i h).2.1.1 (v.bnd i h).2.1.2
  refine ⟨v.y1, v.y0, v.way, v.cnt, v.hgt, v.don, ?_, ?_, ?_⟩
  · intro i hi
    have e1 : ∀ j, Hi1 (ws ++ [x]) L i j ↔ Hi1 ws L i j := fun j => by
      unfold Hi1
      constructor
      · intro ⟨a, b, c, d, e⟩; rw [ea j b] at d; exact ⟨a, b, c, d, e⟩
      · intro ⟨a, b, c, d, e⟩; rw [← ea j b] at d; exact ⟨a, b, c, d, e⟩
    rcases v.hig i hi with ⟨h1, h2⟩ | ⟨j, h1, h2⟩
    · exact .inl ⟨h1, fun j h => h2 j ((e1 j).mp h)⟩
    · exact .inr ⟨j, h1, (e1 j).mpr h2⟩
  · intro i hi
    have := v.stp i hi
    unfold Stp at this ⊢
    rw [ea i (by omega), ea (i + 1) hi]
    exact this
  · intro i hi
    have := v.bnd i hi
    simp only [List.length_append, List.length_singleton]
    omega
section
variable {ws : List (BitVec 128)} {L L' : List Nd} {y : List Nat}
/-- Two lists whose nodes are the same up to what is reckoned. -/
structure Sk (L L' : List Nd) : Prop where
  len : L'.length = L.length
  l : ∀ i, ln L' i = ln L i
  w : ∀ i, (nd8 L' i).word = (nd8 L i).word
theorem Sk.ad (s : Sk L L') (i : Nat) : ad ws L' i = ad ws L i := by unfold Go.Proofs.Ytnaghiipfgdimaa.ad; rw [s.w i]
theorem Sk.end_ (s : Sk L L') {i e : Nat} (h : End L i e) : End L' i e := by
  unfold End at h ⊢
  simp only [s.len, s.l]
  exact h
theorem Sk.hi1 (s : Sk L L') {i j : Nat} : Hi1 ws L' i j ↔ Hi1 ws L i j := by
  unfold Hi1
  simp only [s.len, s.l, s.ad]
theorem Sk.top (s : Sk L L') (a n : Nat) : topR L' a n = topR L a n := topR_congr n (fun i _ _ => s.l i)
theorem Sk.stp (s : Sk L L') {i : Nat} (hh : 0 < hp L i → 0 < hp L' i) (h : Stp ws L i) : Stp ws L' i := by
  unfold Stp at h ⊢
  simp only [s.l, s.ad]
  exact ⟨h.1, h.2.1, h.2.2.1, fun q => ⟨(h.2.2.2 q).1, (h.2.2.2 q).2.1, hh (h.2.2.2 q).2.2⟩⟩
end
/-- The last of the way is left. -/
theorem InvG.back {ws : List (BitVec 128)} {L : List Nd} {y : List Nat} {p q : Nat} (v : InvG ws L ((y ++ [p]) ++ [q])) (hL : L.length ≤ 1000000000) : InvG ws (bk1 L p q) (y ++ [p]) := by
  have e1 : ∀ k, k < (y ++ [p]).length → wy ((y ++ [p]) ++ [q]) k = wy (y ++ [p]) k := fun k h => wy_app h
  have e2 : wy ((y ++ [p]) ++ [q]) (y.length + 1) = q := by
    have := wy_end (y ++ [p]) q
    rw [List.length_append, List.length_singleton] at this
    exact this
  have e3 : wy (y ++ [p]) y.length = p := wy_end y p
  have l1 : (y ++ [p]).length = y.length + 1 := by simp
  have l2 : ((y ++ [p]) ++ [q]).length = y.length + 2 := by simp
  have e4 : wy ((y ++ [p]) ++ [q]) y.length = p := by rw [e1 _ (by omega), e3]
  have vp := v.way y.length (by omega)
  have vq := v.way (y.length + 1) (by omega)
  rw [e4] at vp
  rw [e2] at vq
  have hpq : p < q := by
    have := v.mono (k := y.length) (j := y.length + 1) (by omega) (by omega)
    rwa [e4, e2] at this
  have cp := v.cnt y.length (by omega)
  have cq := v.cnt (y.length + 1) (by omega)
  have gp := v.hgt y.length (by omega)
  have gq := v.hgt (y.length + 1) (by omega)
  have n1 : nx L.length ((y ++ [p]) ++ [q]) y.length = q := by unfold nx; rw [if_pos (by omega), e2]
  have n2 : nx L.length ((y ++ [p]) ++ [q]) (y.length + 1) = L.length := by unfold nx; rw [if_neg (by omega)]
  rw [e4, n1] at cp gp
  rw [e2, n2] at cq gq
  have b1 := cntR_bd L p (q - p)
  have b2 := cntR_bd L q (L.length - q)
  have t1 := topR_bd L p 128 (by omega) (q - p) (fun i h1 h2 => (v.bnd i (by omega)).1.2)
  have t2 := topR_bd L q 128 (by omega) (L.length - q) (fun i h1 h2 => (v.bnd i (by omega)).1.2)
  have t3 := topR_ge L q (L.length - q) q (by omega) (by omega)
  have wc : IntKind.i32.wrap ((nd8 L p).count + (nd8 L q).count) = cntR L p (L.length - p) := by
    rw [cp, cq, IntKind.wrap_i32]
    have := cntR_add L p (q - p) (L.length - q)
    rw [show q - p + (L.length - q) = L.length - p by omega, show p + (q - p) = q by omega] at this
    omega
  have wh : IntKind.u8.wrap ((nd8 L q).height + 1) = topR L q (L.length - q) - y.length := by
    rw [gq, IntKind.wrap_u8]
    have := vq.2.1
    omega
  have wm : (if (nd8 L p).height < IntKind.u8.wrap ((nd8 L q).height + 1) then IntKind.u8.wrap ((nd8 L q).height + 1) else (nd8 L p).height) = topR L p (L.length - p) - y.length := by
    rw [wh, gp]
    have := topR_add L p (q - p) (L.length - q)
    rw [show q - p + (L.length - q) = L.length - p by omega, show p + (q - p) = q by omega] at this
    split <;> omega
  have hn : ∀ i, nd8 (bk1 L p q) i = if i = p then { nd8 L p with count := cntR L p (L.length - p), height := topR L p (L.length - p) - y.length } else nd8 L i := fun i => by
    unfold bk1
    rw [nd8_set _ _ _ _ vp.1, wc, wm]
  have hne : ∀ i, ¬ i = p → nd8 (bk1 L p q) i = nd8 L i := fun i h => by rw [hn, if_neg h]
  have s : Sk L (bk1 L p q) := ⟨bk1_len L p q, fun i => by unfold ln; rw [hn]; split <;> simp_all, fun i => by rw [hn]; split <;> simp_all⟩
  have hh : ∀ i, hp (bk1 L p q) i = hp L i := fun i => by unfold hp; rw [hn]; split <;> simp_all
  have hhi : ∀ i, (nd8 (bk1 L p q) i).high = (nd8 L i).high := fun i => by rw [hn]; split <;> simp_all
  have hc : ∀ a n, cntR (bk1 L p q) a n = cntR L a n := fun a n => cntR_congr n (fun i _ _ => hh i)
  refine ⟨by omega, ?_, ?_, ?_, ?_, ?_, ?_, ?_, ?_⟩
  · rw [← e1 0 (by omega)]; exact v.y0
  · intro k hk
    have := v.way k (by omega)
    rw [e1 k hk] at this
    rw [s.len, s.l]
    exact ⟨this.1, this.2.1, fun i h1 h2 => by rw [s.l]; exact this.2.2 i h1 h2⟩
  · intro k hk
    rw [s.len, hc]
    by_cases c : k = y.length
    · subst c
      rw [e3, hn, if_pos rfl]
      unfold nx; rw [if_neg (by omega)]
    · have := v.cnt k (by omega)
      have wk := (v.way k (by omega)).2.1
      rw [e1 k hk] at this wk
      have : ¬ wy (y ++ [p]) k = p := fun e => by rw [e, vp.2.1] at wk; omega
      rw [hne _ this]
      have e5 : nx L.length (y ++ [p]) k = nx L.length ((y ++ [p]) ++ [q]) k := by
        unfold nx; rw [if_pos (by omega), if_pos (by omega), e1 (k + 1) (by omega)]
      rw [e5]; assumption
  · intro k hk
    rw [s.len, s.top]
    by_cases c : k = y.length
    · subst c
      rw [e3, hn, if_pos rfl]
      unfold nx; rw [if_neg (by omega)]
    · have := v.hgt k (by omega)
      have wk := (v.way k (by omega)).2.1
      rw [e1 k hk] at this wk
      have : ¬ wy (y ++ [p]) k = p := fun e => by rw [e, vp.2.1] at wk; omega
      rw [hne _ this]
      have e5 : nx L.length (y ++ [p]) k = nx L.length ((y ++ [p]) ++ [q]) k := by
        unfold nx; rw [if_pos (by omega), if_pos (by omega), e1 (k + 1) (by omega)]
      rw [e5]; assumption
  · intro i hi hk
    rw [s.len] at hi
    have np : ¬ i = p := fun e => hk y.length (by omega) (by rw [e3, e])
    rw [hne i np]
    simp only [hc, s.top, s.l]
    by_cases c : i = q
    · subst c
      refine ⟨L.length, s.end_ ⟨hi, Nat.le_refl _, fun j h1 h2 => ?_, fun h => by omega⟩, cq, ?_⟩
      · have := vq.2.2 j h1 h2
        rw [vq.2.1]; exact this
      · rw [gq, vq.2.1]
    · obtain ⟨e, h1, h2, h3⟩ := v.don i hi (fun k h => by
        by_cases d : k = y.length + 1
        · subst d; rw [e2]; exact fun e => c e.symm
        · rw [e1 k (by omega)]; exact hk k (by omega))
      exact ⟨e, s.end_ h1, h2, h3⟩
  · intro i hi
    rw [s.len] at hi
    unfold HiOk
    rw [hhi]
    simp only [s.hi1]
    exact v.hig i hi
  · intro i hi
    rw [s.len] at hi
    exact s.stp (fun h => by rw [hh]; exact h) (v.stp i hi)
  · intro i hi
    rw [s.len] at hi
    rw [s.l, s.w, hh]
    exact v.bnd i hi
/-- A node is laid. -/
theorem InvG.lay {ws : List (BitVec 128)} {L : List Nd} {y : List Nat} {x : BitVec 128} {wn : Nat} (v : InvG ws L y) (hL : L.length ≤ 1000000000) (hw : wn < ws.length) (hx : ws.getD wn 0#128 = x) (hy : y.length ≤ 128)
    (h1 : (y.length : Int) ≤ ln L (L.length - 1) + 1) (h2 : cutW x ((y.length : Int) - 1) = cutW (ad ws L (L.length - 1)) ((y.length : Int) - 1)) (h3 : (y.length : Int) ≤ ln L (L.length - 1) → bitZ (ad ws L (L.length - 1)) ((y.length : Int) - 1) = 0 ∧ bitZ x ((y.length : Int) - 1) = 1 ∧ 0 < hp L (L.length - 1)) :
    InvG ws (hiS x L y ++ [⟨(wn : Int), 0, 0, 0, (y.length : Int), 0⟩]) (y ++ [L.length]) := by
  have hyl := v.y1
  have vp := v.way (y.length - 1) (by omega)
  generalize hL' : hiS x L y ++ [⟨(wn : Int), 0, 0, 0, (y.length : Int), 0⟩] = L'
  have hlen : L'.length = L.length + 1 := by rw [← hL']; simp [hiS_len]
  have hnew : nd8 L' L.length = ⟨(wn : Int), 0, 0, 0, (y.length : Int), 0⟩ := by
    rw [← hL', nd8_app, if_pos (by rw [hiS_len])]
  have hold : ∀ i, i < L.length → nd8 L' i = if bitZ x ((y.length : Int) - 1) = 1 ∧ i = wy y (y.length - 1) then { nd8 L i with high := (L.length : Int) } else nd8 L i := by
    intro i hi
    rw [← hL', nd8_app, if_neg (by rw [hiS_len]; omega)]
    unfold hiS
    by_cases c : bitZ x ((y.length : Int) - 1) = 1
    · rw [if_pos c]
      have e : IntKind.i32.wrap (L.length : Int) = L.length := by rw [IntKind.wrap_i32]; omega
      show nd8 (L.set (wy y (y.length - 1)) { nd8 L (wy y (y.length - 1)) with high := IntKind.i32.wrap (L.length : Int) }) i = _
      rw [nd8_set _ _ _ _ vp.1, e]
      by_cases d : i = wy y (y.length - 1)
      · rw [if_pos d, if_pos ⟨c, d⟩]; subst d; rfl
      · rw [if_neg d, if_neg (fun q => d q.2)]
    · rw [if_neg c, if_neg (fun q => c q.1)]
  have hlnO : ∀ i, i < L.length → ln L' i = ln L i := fun i hi => by unfold ln; rw [hold i hi]; split <;> rfl
  have hwdO : ∀ i, i < L.length → (nd8 L' i).word = (nd8 L i).word := fun i hi => by rw [hold i hi]; split <;> rfl
  have hcnO : ∀ i, i < L.length → (nd8 L' i).count = (nd8 L i).count := fun i hi => by rw [hold i hi]; split <;> rfl
  have hheO : ∀ i, i < L.length → (nd8 L' i).height = (nd8 L i).height := fun i hi => by rw [hold i hi]; split <;> rfl
  have hhpO : ∀ i, i < L.length → hp L' i = hp L i := fun i hi => by unfold hp; rw [hold i hi]; split <;> rfl
  have hadO : ∀ i, i < L.length → ad ws L' i = ad ws L i := fun i hi => by unfold ad; rw [hwdO i hi]
  have lnN : ln L' L.length = y.length := by unfold ln; rw [hnew]
  have adN : ad ws L' L.length = x := by
    unfold ad; rw [hnew]
    show ws.getD ((wn : Int).toNat) 0#128 = x
    rw [Int.toNat_natCast]; exact hx
  have hcR : ∀ a n, a + n ≤ L.length → cntR L' a n = cntR L a n := fun a n h => cntR_congr n (fun i _ q => hhpO i (by omega))
  have htR : ∀ a n, a + n ≤ L.length → topR L' a n = topR L a n := fun a n h => topR_congr n (fun i _ q => hlnO i (by omega))
  have wyO : ∀ k, k < y.length → wy (y ++ [L.length]) k = wy y k := fun k h => wy_app h
  have wyN : wy (y ++ [L.length]) y.length = L.length := wy_end y _
  have l1 : (y ++ [L.length]).length = y.length + 1 := by simp
  have nxO : ∀ k, k < y.length → nx L'.length (y ++ [L.length]) k = nx L.length y k := by
    intro k hk
    unfold nx
    rw [if_pos (by omega)]
    by_cases c : k + 1 < y.length
    · rw [if_pos c, wyO _ c]
    · rw [if_neg c, show k + 1 = y.length by omega, wyN]
  have nxle : ∀ k, k < y.length → wy y k ≤ nx L.length y k ∧ nx L.length y k ≤ L.length := by
    intro k hk
    unfold nx
    split
    · rename_i c
      have a := v.mono (k := k) (j := k + 1) (by omega) c
      have b := (v.way (k + 1) c).1
      omega
    · have := (v.way k hk).1
      omega
  refine ⟨by omega, ?_, ?_, ?_, ?_, ?_, ?_, ?_, ?_⟩
  · rw [wyO 0 (by omega)]; exact v.y0
  · intro k hk
    by_cases c : k = y.length
    · subst c
      rw [wyN, lnN]
      exact ⟨by omega, rfl, fun i a b => by omega⟩
    · have w := v.way k (by omega)
      rw [wyO k (by omega), hlnO _ w.1]
      refine ⟨by omega, w.2.1, fun i a b => ?_⟩
      by_cases d : i = L.length
      · subst d; rw [lnN]; omega
      · rw [hlnO i (by omega)]; exact w.2.2 i a (by omega)
  · intro k hk
    by_cases c : k = y.length
    · subst c
      rw [wyN, hnew]
      have : nx L'.length (y ++ [L.length]) y.length = L.length + 1 := by unfold nx; rw [if_neg (by omega), hlen]
      rw [this, show L.length + 1 - L.length = 1 by omega]
      simp [cntR, hp, hnew]
    · have w := v.way k (by omega)
      have q := nxle k (by omega)
      rw [wyO k (by omega), hcnO _ w.1, nxO k (by omega), hcR _ _ (by omega)]
      exact v.cnt k (by omega)
  · intro k hk
    by_cases c : k = y.length
    · subst c
      rw [wyN, hnew]
      have : nx L'.length (y ++ [L.length]) y.length = L.length + 1 := by unfold nx; rw [if_neg (by omega), hlen]
      rw [this, show L.length + 1 - L.length = 1 by omega]
      simp only [topR, Nat.add_zero, lnN]
      omega
    · have w := v.way k (by omega)
      have q := nxle k (by omega)
      rw [wyO k (by omega), hheO _ w.1, nxO k (by omega), htR _ _ (by omega)]
      exact v.hgt k (by omega)
  · intro i hi hk
    have hiL : i < L.length := by
      apply Classical.byContradiction; intro c
      exact hk y.length (by omega) (by rw [wyN]; omega)
    obtain ⟨e, ⟨a1, a2, a3, a4⟩, b1, b2⟩ := v.don i hiL (fun k h => by rw [← wyO k h]; exact hk k (by omega))
    refine ⟨e, ⟨a1, by omega, fun j c d => ?_, fun c => ?_⟩, ?_, ?_⟩
    · rw [hlnO i hiL, hlnO j (by omega)]; exact a3 j c d
    · rw [hlnO i hiL]
      by_cases d : e = L.length
      · subst d
        rw [lnN]
        apply Classical.byContradiction; intro f
        have hb := (v.bnd i hiL).1.1
        have := v.onway (i := i) (k := (ln L i).toNat) hiL a3 (by omega) (by omega)
        exact hk (ln L i).toNat (by omega) (by rw [wyO _ (by omega)]; exact this)
      · rw [hlnO e (by omega)]; exact a4 (by omega)
    · rw [hcnO i hiL, hcR _ _ (by omega)]; exact b1
    · rw [hheO i hiL, htR _ _ (by omega), hlnO i hiL]; exact b2
  · intro i hi
    by_cases c : i = L.length
    · subst c
      exact .inl ⟨by rw [hnew], fun j h => by have := h.1; have := h.2.1; omega⟩
    · have hiL : i < L.length := by omega
      have e1 : ∀ j, j < L.length → (Hi1 ws L' i j ↔ Hi1 ws L i j) := by
        intro j hj
        unfold Hi1
        rw [hlnO i hiL, hlnO j hj, hadO j hj]
        constructor
        · intro ⟨a, b, c, d, e⟩
          exact ⟨a, hj, c, d, fun q q1 q2 => by have := e q q1 q2; rwa [hlnO q (by omega)] at this⟩
        · intro ⟨a, b, c, d, e⟩
          exact ⟨a, by omega, c, d, fun q q1 q2 => by rw [hlnO q (by omega)]; exact e q q1 q2⟩
      have e2 : Hi1 ws L' i L.length → bitZ x ((y.length : Int) - 1) = 1 ∧ i = wy y (y.length - 1) := by
        intro ⟨a, b, c, d, e⟩
        rw [lnN, hlnO i hiL] at c
        rw [adN, hlnO i hiL] at d
        have hb := (v.bnd i hiL).1.1
        refine ⟨by rw [show (y.length : Int) - 1 = ln L i by omega]; exact d, ?_⟩
        exact (v.onway (i := i) (k := y.length - 1) hiL (fun j q1 q2 => by have := e j q1 (by omega); rwa [hlnO i hiL, hlnO j q2] at this) (by omega) (by omega)).symm
      by_cases d : bitZ x ((y.length : Int) - 1) = 1 ∧ i = wy y (y.length - 1)
      · refine .inr ⟨L.length, by rw [hold i hiL, if_pos d], hiL, by omega, ?_, ?_, ?_⟩
        · rw [lnN, hlnO i hiL, d.2, vp.2.1]; omega
        · rw [adN, hlnO i hiL, d.2, vp.2.1, show ((y.length - 1 : Nat) : Int) = (y.length : Int) - 1 by omega]; exact d.1
        · intro q q1 q2
          rw [hlnO i hiL]
          by_cases f : q = L.length
          · subst f; rw [lnN, d.2, vp.2.1]; omega
          · have := vp.2.2 q (by rw [← d.2]; exact q1) (by omega)
            rw [hlnO q (by omega), d.2, vp.2.1]; exact this
      · have hh : (nd8 L' i).high = (nd8 L i).high := by rw [hold i hiL, if_neg d]
        rcases v.hig i hiL with ⟨g1, g2⟩ | ⟨j, g1, g2⟩
        · refine .inl ⟨by rw [hh]; exact g1, fun j hj => ?_⟩
          by_cases f : j = L.length
          · subst f; exact d (e2 hj)
          · have fj : j < L.length := by have := hj.2.1; omega
            exact g2 j ((e1 j fj).mp hj)
        · exact .inr ⟨j, by rw [hh]; exact g1, (e1 j g2.2.1).mpr g2⟩
  · intro i hi
    by_cases c : i + 1 = L.length
    · have hiL : i < L.length := by omega
      have e0 : i = L.length - 1 := by omega
      unfold Stp
      rw [c, lnN, adN, hlnO i hiL, hadO i hiL, hhpO i hiL, e0]
      exact ⟨by omega, h1, h2, h3⟩
    · have := v.stp i (by omega)
      unfold Stp at this ⊢
      rw [hlnO i (by omega), hlnO (i + 1) (by omega), hadO i (by omega), hadO (i + 1) (by omega), hhpO i (by omega)]
      exact this
  · intro i hi
    by_cases c : i = L.length
    · subst c
      rw [lnN, hnew]
      unfold hp
      rw [hnew]
      simp
      omega
    · rw [hlnO i (by omega), hwdO i (by omega), hhpO i (by omega)]
      exact v.bnd i (by omega)
/-- The next hop is put at the end of the way, which is the last node. -/
theorem InvG.fin {ws : List (BitVec 128)} {L : List Nd} {y : List Nat} {p : Nat} {h : Int} (v : InvG ws L y) (hp1 : p + 1 = L.length) (hw : wy y (y.length - 1) = p) (h0 : hp L p = 0) (hh1 : 1 ≤ h) (hh2 : h ≤ 65535) : InvG ws (dnE L p h) y := by
  have hyl := v.y1
  have hpl : p < L.length := by omega
  have vp := v.way (y.length - 1) (by omega)
  rw [hw] at vp
  have cp := v.cnt (y.length - 1) (by omega)
  have n0 : nx L.length y (y.length - 1) = L.length := by unfold nx; rw [if_neg (by omega)]
  rw [hw, n0, show L.length - p = 1 by omega] at cp
  have c0 : (nd8 L p).count = 0 := by rw [cp]; simp [cntR, h0]
  have hn : ∀ i, nd8 (dnE L p h) i = if i = p then { nd8 L p with hop := h, count := 1 } else nd8 L i := fun i => by
    unfold dnE
    have e1 : IntKind.u16.wrap h = h := by rw [IntKind.wrap_u16]; omega
    have e2 : IntKind.i32.wrap ((nd8 L p).count + 1) = 1 := by rw [c0, IntKind.wrap_i32]; decide
    rw [nd8_set _ _ _ _ hpl, e1, e2]
  have hne : ∀ i, ¬ i = p → nd8 (dnE L p h) i = nd8 L i := fun i q => by rw [hn, if_neg q]
  have s : Sk L (dnE L p h) := ⟨by simp [dnE], fun i => by unfold ln; rw [hn]; split <;> simp_all, fun i => by rw [hn]; split <;> simp_all⟩
  have hho : ∀ i, ¬ i = p → hp (dnE L p h) i = hp L i := fun i q => by unfold hp; rw [hne i q]
  have hhp : hp (dnE L p h) p = h := by unfold hp; rw [hn, if_pos rfl]
  have hhi : ∀ i, (nd8 (dnE L p h) i).high = (nd8 L i).high := fun i => by rw [hn]; split <;> simp_all
  have hhe : ∀ i, (nd8 (dnE L p h) i).height = (nd8 L i).height := fun i => by rw [hn]; split <;> simp_all
  have hcR : ∀ a n, a + n ≤ p → cntR (dnE L p h) a n = cntR L a n := fun a n q => cntR_congr n (fun i _ q => hho i (by omega))
  refine ⟨v.y1, v.y0, ?_, ?_, ?_, ?_, ?_, ?_, ?_⟩
  · intro k hk
    have := v.way k hk
    rw [s.len, s.l]
    exact ⟨this.1, this.2.1, fun i a b => by rw [s.l]; exact this.2.2 i a b⟩
  · intro k hk
    rw [s.len]
    by_cases c : k = y.length - 1
    · subst c
      rw [hw, n0, show L.length - p = 1 by omega, hn, if_pos rfl]
      simp only [cntR, Nat.add_zero, hhp]
      rw [if_pos (by omega)]; rfl
    · have w := v.way k hk
      have m := v.mono (k := k) (j := k + 1) (by omega) (by omega)
      have m2 : wy y (k + 1) ≤ p := by
        by_cases d : k + 1 = y.length - 1
        · rw [d, hw]; omega
        · have := v.mono (k := k + 1) (j := y.length - 1) (by omega) (by omega)
          rw [hw] at this; omega
      have e : nx L.length y k = wy y (k + 1) := by unfold nx; rw [if_pos (by omega)]
      rw [hne _ (by omega), e, hcR _ _ (by omega), ← e]
      exact v.cnt k hk
  · intro k hk
    rw [s.len, s.top, hhe]
    exact v.hgt k hk
  · intro i hi hk
    rw [s.len] at hi
    have np : ¬ i = p := fun e => hk (y.length - 1) (by omega) (by rw [hw, e])
    obtain ⟨e, he, b1, b2⟩ := v.don i hi hk
    refine ⟨e, s.end_ he, ?_, by rw [hhe, s.top, s.l]; exact b2⟩
    rw [hne i np]
    obtain ⟨a1, a2, a3, a4⟩ := he
    have ep : e ≤ p := by
      apply Classical.byContradiction; intro c
      have el : e = L.length := by omega
      subst el
      have := a3 p (by omega) hpl
      rw [vp.2.1] at this
      have hb := (v.bnd i hi).1.1
      exact hk (ln L i).toNat (by omega) (v.onway hi a3 (by omega) (by omega))
    rw [hcR _ _ (by omega)]
    exact b1
  · intro i hi
    rw [s.len] at hi
    unfold HiOk
    rw [hhi]
    simp only [s.hi1]
    exact v.hig i hi
  · intro i hi
    rw [s.len] at hi
    exact s.stp (fun q => by rw [hho i (by omega)]; exact q) (v.stp i hi)
  · intro i hi
    rw [s.len] at hi
    rw [s.l, s.w]
    by_cases c : i = p
    · subst c
      rw [hhp]
      have := v.bnd i hi
      exact ⟨this.1, this.2.1, by omega, by omega⟩
    · rw [hho i c]
      exact v.bnd i hi
end Go.Proofs.Ytnaghiipfgdimaa
/-
  Plain: the first bit that two words have not alike.
-/
namespace Go.Proofs.Ytnaghiipfgdimaa
open Go.RowKit
set_option linter.unusedSimpArgs false
set_option linter.unusedVariables false

theorem lead_bounds (z : BitVec 128) (h : leadN z < 128) : z.toNat < 2 ^ (128 - leadN z) ∧ 2 ^ (127 - leadN z) ≤ z.toNat := by
  by_cases e : z.toNat = 0
  · unfold leadN at h; rw [if_pos e] at h; omega
  · have hl : z.toNat.log2 < 128 := (Nat.log2_lt e).mpr z.isLt
    have hk : leadN z = 127 - z.toNat.log2 := by unfold leadN; rw [if_neg e]
    have e1 : 128 - leadN z = z.toNat.log2 + 1 := by omega
    have e2 : 127 - leadN z = z.toNat.log2 := by omega
    rw [e1, e2]
    exact ⟨Nat.lt_log2_self, Nat.log2_self_le e⟩
theorem below_of (a b p : Nat) (hp : 0 < p) (h1 : a / p / 2 = b / p / 2) (h2 : a / p % 2 = 0) (h3 : b / p % 2 = 1) : a < b := by
  have h4 : a / p + 1 = b / p := by omega
  have h5 : a < p * (a / p + 1) := Nat.lt_mul_div_succ a hp
  have h6 : p * (b / p) ≤ b := Nat.mul_div_le b p
  rw [h4] at h5; omega
theorem bitDivF (a : BitVec 128) (m : Nat) : a.getLsbD m = decide (a.toNat / 2 ^ m % 2 = 1) := by
  unfold BitVec.getLsbD; rw [Nat.testBit_eq_decide_div_mod_eq]
/-- Where two words are not the same, their first unlike bit tells which is below. -/
theorem first_bit (a b : BitVec 128) (h : leadN (a ^^^ b) < 128) : (bitZ a (leadN (a ^^^ b) : Int) = 0 ∧ bitZ b (leadN (a ^^^ b) : Int) = 1 ∧ cmpZ a b = -1) ∨ (bitZ a (leadN (a ^^^ b) : Int) = 1 ∧ bitZ b (leadN (a ^^^ b) : Int) = 0 ∧ cmpZ a b = 1) := by
  obtain ⟨hu, hl⟩ := lead_bounds _ h
  have hst := (bit_step (a ^^^ b) _ h hu).1
  generalize leadN (a ^^^ b) = k at *
  have hm : (a ^^^ b).getLsbD (127 - k) = true := by
    cases q : (a ^^^ b).getLsbD (127 - k)
    · have := hst q
      have e : 128 - (k + 1) = 127 - k := by omega
      rw [e] at this; omega
    · rfl
  have up : a.toNat / 2 ^ (127 - k) / 2 = b.toNat / 2 ^ (127 - k) / 2 := by
    have e : a >>> (128 - k) = b >>> (128 - k) := by
      apply BitVec.eq_of_getLsbD_eq; intro i hi
      simp only [BitVec.getLsbD_ushiftRight]
      have z : (a ^^^ b).getLsbD (128 - k + i) = false := by
        unfold BitVec.getLsbD
        apply Nat.testBit_lt_two_pow
        exact Nat.lt_of_lt_of_le hu (Nat.pow_le_pow_right (by decide) (by omega))
      rw [BitVec.getLsbD_xor] at z
      cases hx : a.getLsbD (128 - k + i) <;> cases hy : b.getLsbD (128 - k + i) <;> simp [hx, hy] at z <;> rfl
    have e2 := congrArg BitVec.toNat e
    rw [BitVec.toNat_ushiftRight, BitVec.toNat_ushiftRight, Nat.shiftRight_eq_div_pow, Nat.shiftRight_eq_div_pow] at e2
    have e3 : 2 ^ (128 - k) = 2 ^ (127 - k) * 2 := by rw [← Nat.pow_succ]; congr 1; omega
    rw [e3, ← Nat.div_div_eq_div_mul, ← Nat.div_div_eq_div_mul] at e2
    exact e2
  have e4 : (127 - (k : Int)).toNat = 127 - k := by omega
  unfold bitZ
  rw [bitB_in a k (by omega) (by omega), bitB_in b k (by omega) (by omega), e4]
  rw [BitVec.getLsbD_xor] at hm
  have hp : 0 < 2 ^ (127 - k) := Nat.two_pow_pos _
  rw [bitDivF a, bitDivF b] at hm ⊢
  unfold cmpZ
  by_cases ca : a.toNat / 2 ^ (127 - k) % 2 = 1
  · have cb : ¬ b.toNat / 2 ^ (127 - k) % 2 = 1 := by intro cb; simp [ca, cb] at hm
    have lt := below_of b.toNat a.toNat _ hp up.symm (by omega) ca
    have n1 : ¬ a.toNat < b.toNat := by omega
    have n2 : ¬ a = b := by intro q; rw [q] at lt; omega
    right; simp [ca, cb, n1, n2]
  · have cb : b.toNat / 2 ^ (127 - k) % 2 = 1 := by
      apply Classical.byContradiction; intro cb; simp [ca, cb] at hm
    have lt := below_of a.toNat b.toNat _ hp up (by omega) cb
    left; simp [ca, cb, lt]
end Go.Proofs.Ytnaghiipfgdimaa
