/-
  Part 31 of the proof: 5 texts, one behind the other.
-/
import Derived.Test.YtnaghiipfgdimaaPart30
import Derived.Test.YtnaghiipfgdimaaPart19
import Derived.Test.YtnaghiipfgdimaaPart28
import Derived.Test.YtnaghiipfgdimaaPart29
import Derived.Laws.MakeOwn
/-
  Plain: the whole growing of a tree: what its nodes are, route by route.
-/
namespace Go.Proofs.Ytnaghiipfgdimaa
open Go.RowKit
set_option linter.unusedSimpArgs false
set_option linter.unusedVariables false

/-- What was there stays. -/
def Ext (ws ws' : List (BitVec 128)) (L L' : List Nd) : Prop := L.length ≤ L'.length ∧ ∀ i, i < L.length → ln L' i = ln L i ∧ hp L' i = hp L i ∧ ad ws' L' i = ad ws L i
theorem Ext.refl (ws : List (BitVec 128)) (L : List Nd) : Ext ws ws L L := ⟨Nat.le_refl _, fun _ _ => ⟨rfl, rfl, rfl⟩⟩
theorem Ext.trans {a b c : List (BitVec 128)} {L M N : List Nd} (h : Ext a b L M) (k : Ext b c M N) : Ext a c L N :=
  ⟨Nat.le_trans h.1 k.1, fun i hi => by
    obtain ⟨a1, a2, a3⟩ := h.2 i hi
    obtain ⟨b1, b2, b3⟩ := k.2 i (Nat.lt_of_lt_of_le hi h.1)
    exact ⟨b1.trans a1, b2.trans a2, b3.trans a3⟩⟩
theorem nd8_set' (L : List Nd) (p : Nat) (x : Nd) (i : Nat) : nd8 (L.set p x) i = if i = p ∧ p < L.length then x else nd8 L i := by
  by_cases c : p < L.length
  · rw [nd8_set _ _ _ _ c]; simp [c]
  · rw [List.set_eq_of_length_le (by omega)]; simp [c]
theorem bk1_ext (ws : List (BitVec 128)) (L : List Nd) (p q : Nat) : Ext ws ws L (bk1 L p q) := by
  refine ⟨by rw [bk1_len]; exact Nat.le_refl _, fun i hi => ?_⟩
  unfold ln hp ad bk1
  rw [nd8_set']
  split
  · rename_i h; rw [h.1]; exact ⟨rfl, rfl, rfl⟩
  · exact ⟨rfl, rfl, rfl⟩
theorem lay_ext (ws : List (BitVec 128)) (x : BitVec 128) (L : List Nd) (y : List Nat) (n : Nd) : Ext ws ws L (hiS x L y ++ [n]) := by
  refine ⟨by rw [List.length_append, hiS_len]; omega, fun i hi => ?_⟩
  unfold ln hp ad
  rw [nd8_app, if_neg (by rw [hiS_len]; omega)]
  unfold hiS
  split
  · rw [nd8_set']
    split
    · rename_i h; rw [h.1]; exact ⟨rfl, rfl, rfl⟩
    · exact ⟨rfl, rfl, rfl⟩
  · exact ⟨rfl, rfl, rfl⟩
theorem lay_new (ws : List (BitVec 128)) (x : BitVec 128) (L : List Nd) (y : List Nat) (n : Nd) : nd8 (hiS x L y ++ [n]) L.length = n := by rw [nd8_app, if_pos (by rw [hiS_len])]
theorem bkY_all (ws : List (BitVec 128)) (m : Nat) : ∀ (r : List Nat) (L : List Nd), InvG ws L r.reverse → L.length ≤ 1000000000 → 1 ≤ r.length →
    InvG ws (bkY m L r).1 (bkY m L r).2.reverse ∧ Ext ws ws L (bkY m L r).1 ∧ (bkY m L r).1.length = L.length ∧ (bkY m L r).2.length = min r.length (m + 1)
  | [], L, v, _, h => by simp at h
  | [p], L, v, _, _ => by simp only [bkY]; exact ⟨v, Ext.refl _ _, trivial, by simp⟩
  | q :: p :: r, L, v, hL, _ => by
    simp only [bkY]
    by_cases c : m < r.length + 1
    · rw [if_pos c]
      have e : (q :: p :: r).reverse = (r.reverse ++ [p]) ++ [q] := by simp
      rw [e] at v
      have v1 := v.back hL
      have e2 : (p :: r).reverse = r.reverse ++ [p] := by simp
      rw [← e2] at v1
      obtain ⟨a, b, d, f⟩ := bkY_all ws m (p :: r) (bk1 L p q) v1 (by rw [bk1_len]; exact hL) (by simp)
      refine ⟨a, (bk1_ext ws L p q).trans b, by rw [d, bk1_len], ?_⟩
      rw [f]
      simp only [List.length_cons]
      omega
    · rw [if_neg c]
      refine ⟨v, Ext.refl _ _, rfl, ?_⟩
      simp only [List.length_cons]
      omega
/-- The way is left up to a length. -/
def bkW (m : Nat) (L : List Nd) (y : List Nat) : List Nd × List Nat := ((bkY m L y.reverse).1, (bkY m L y.reverse).2.reverse)
theorem bkW_all {ws : List (BitVec 128)} {L : List Nd} {y : List Nat} (v : InvG ws L y) (hL : L.length ≤ 1000000000) (m : Nat) :
    InvG ws (bkW m L y).1 (bkW m L y).2 ∧ Ext ws ws L (bkW m L y).1 ∧ (bkW m L y).1.length = L.length ∧ (bkW m L y).2.length = min y.length (m + 1) := by
  have := bkY_all ws m y.reverse L (by rw [List.reverse_reverse]; exact v) hL (by rw [List.length_reverse]; exact v.y1)
  rw [List.length_reverse] at this
  unfold bkW
  rw [List.length_reverse]
  exact this
/-- What a node must be that is laid behind the last one. -/
def LayOk (ws : List (BitVec 128)) (L : List Nd) (n : Nat) (x : BitVec 128) : Prop := (n : Int) ≤ ln L (L.length - 1) + 1 ∧ cutW x ((n : Int) - 1) = cutW (ad ws L (L.length - 1)) ((n : Int) - 1) ∧ ((n : Int) ≤ ln L (L.length - 1) → bitZ (ad ws L (L.length - 1)) ((n : Int) - 1) = 0 ∧ bitZ x ((n : Int) - 1) = 1 ∧ 0 < hp L (L.length - 1))
theorem dnS_all (ws : List (BitVec 128)) (x : BitVec 128) (wn : Nat) (hw : wn < ws.length) (hx : ws.getD wn 0#128 = x) : ∀ (f : Nat) (L : List Nd) (y : List Nat), InvG ws L y → L.length + f ≤ 1000000000 → y.length + f ≤ 129 → (0 < f → LayOk ws L y.length x) →
    InvG ws (dnS wn x f (L, y)).1 (dnS wn x f (L, y)).2 ∧ Ext ws ws L (dnS wn x f (L, y)).1 ∧ (∀ i, L.length ≤ i → i < L.length + f → hp (dnS wn x f (L, y)).1 i = 0 ∧ ln (dnS wn x f (L, y)).1 i = (y.length + (i - L.length) : Nat) ∧ ad ws (dnS wn x f (L, y)).1 i = x ∧ wy (dnS wn x f (L, y)).2 (y.length + (i - L.length)) = i)
  | 0, L, y, v, _, _, _ => ⟨v, Ext.refl _ _, fun i h1 h2 => by omega⟩
  | f + 1, L, y, v, hL, hy, hl => by
    simp only [dnS]
    obtain ⟨h1, h2, h3⟩ := hl (by omega)
    have v1 := v.lay (wn := wn) (by omega) hw hx (by omega) h1 h2 h3
    have e1 : (hiS x L y ++ [(⟨(wn : Int), 0, 0, 0, (y.length : Int), 0⟩ : Nd)]).length = L.length + 1 := by simp [hiS_len]
    have x1 := lay_ext ws x L y ⟨(wn : Int), 0, 0, 0, (y.length : Int), 0⟩
    have n1 := lay_new ws x L y ⟨(wn : Int), 0, 0, 0, (y.length : Int), 0⟩
    have wl := wy_end y L.length
    revert v1 e1 x1 n1
    generalize hiS x L y ++ [(⟨(wn : Int), 0, 0, 0, (y.length : Int), 0⟩ : Nd)] = L1
    intro v1 e1 x1 n1
    have lnN : ln L1 L.length = y.length := by unfold ln; rw [n1]
    have hpN : hp L1 L.length = 0 := by unfold hp; rw [n1]
    have adN : ad ws L1 L.length = x := by
      unfold ad; rw [n1]
      show ws.getD ((wn : Int).toNat) 0#128 = x
      rw [Int.toNat_natCast]; exact hx
    have e2 : (y ++ [L.length]).length = y.length + 1 := by simp
    obtain ⟨a, b, c⟩ := dnS_all ws x wn hw hx f L1 (y ++ [L.length]) v1 (by omega) (by omega) (fun _ => by
      unfold LayOk
      rw [e1, e2, show L.length + 1 - 1 = L.length by omega, lnN, adN]
      exact ⟨by omega, rfl, fun h => by omega⟩)
    have v2 := a
    refine ⟨a, x1.trans b, ?_⟩
    intro i g1 g2
    by_cases d : i = L.length
    · subst d
      obtain ⟨b1, b2, b3⟩ := b.2 L.length (by omega)
      rw [b1, b2, b3]
      refine ⟨hpN, by rw [lnN]; simp, adN, ?_⟩
      have e3 := dnS_len (wn : Int) x f (L1, y ++ [L.length])
      have hk : y.length < (dnS (wn : Int) x f (L1, y ++ [L.length])).2.length := by rw [e3.2]; show y.length < (y ++ [L.length]).length + f; omega
      rw [show y.length + (L.length - L.length) = y.length by omega]
      refine v2.onway (by rw [e3.1]; show L.length < L1.length + f; omega) ?_ ?_ hk
      · intro j q1 q2
        rw [e3.1] at q2
        replace q2 : j < L1.length + f := q2
        rw [b1, lnN, (c j (by omega) (by omega)).2.1]
        omega
      · rw [b1, lnN]
    · obtain ⟨q1, q2, q3, q4⟩ := c i (by omega) (by omega)
      refine ⟨q1, ?_, q3, ?_⟩
      · rw [q2, e1, e2]; omega
      · rw [e1, e2] at q4
        rw [show y.length + (i - L.length) = y.length + 1 + (i - (L.length + 1)) by omega]; exact q4
theorem cntR_zero (L : List Nd) (a : Nat) : ∀ n, (∀ i, a ≤ i → i < a + n → hp L i = 0) → cntR L a n = 0
  | 0, _ => rfl
  | n + 1, h => by
    simp only [cntR]
    rw [cntR_zero L a n (fun i h1 h2 => h i h1 (by omega)), h (a + n) (by omega) (by omega)]
    simp
/-- Nodes, words, way. -/
abbrev GrS := List Nd × List (BitVec 128) × List Nat
def grT (s : GrS) (last : BitVec 128 × Int) (r : Rte) : GrS :=
  ((dnW (s.2.1.length : Int) r.1.1 r.1.2.toNat r.2 (bkW (meetN last.1 last.2 r.1.1 r.1.2).toNat s.1 s.2.2).1 (bkW (meetN last.1 last.2 r.1.1 r.1.2).toNat s.1 s.2.2).2).1, s.2.1 ++ [r.1.1], (dnW (s.2.1.length : Int) r.1.1 r.1.2.toNat r.2 (bkW (meetN last.1 last.2 r.1.1 r.1.2).toNat s.1 s.2.2).1 (bkW (meetN last.1 last.2 r.1.1 r.1.2).toNat s.1 s.2.2).2).2)
def grwG : List Rte → BitVec 128 × Int → GrS → GrS
  | [], _, s => s
  | r :: l, last, s => grwG l r.1 (grT s last r)
/-- What is known between two routes. -/
structure Gs (done : List Rte) (last : BitVec 128 × Int) (s : GrS) : Prop where
  inv : InvG s.2.1 s.1 s.2.2
  yl : (s.2.2.length : Int) = last.2 + 1
  yw : wy s.2.2 (s.2.2.length - 1) + 1 = s.1.length
  al : ad s.2.1 s.1 (s.1.length - 1) = last.1
  st : (done = [] ∧ s.1.length = 1 ∧ hp s.1 0 = 0 ∧ last = (0#128, 0)) ∨ (done ≠ [] ∧ 0 < hp s.1 (s.1.length - 1))
  nl : s.1.length ≤ 1 + 128 * done.length
  wl : s.2.1.length = 1 + done.length
  tot : cntR s.1 0 s.1.length = done.length
  rts : ∀ r ∈ done, ∃ i, i < s.1.length ∧ ln s.1 i = r.1.2 ∧ ad s.2.1 s.1 i = r.1.1 ∧ hp s.1 i = r.2
  rev : ∀ i, i < s.1.length → 0 < hp s.1 i → ∃ r ∈ done, ln s.1 i = r.1.2 ∧ ad s.2.1 s.1 i = r.1.1 ∧ hp s.1 i = r.2
  zero : ad s.2.1 s.1 0 = 0#128
  nf : ∀ F : Int, 0 ≤ F → (∀ r ∈ done, r.1.2 ≤ F) → ((s.1.length : Int) ≤ 1 + F * done.length ∧ ∀ i, i < s.1.length → ln s.1 i ≤ F)
  wr : ∀ x ∈ s.2.1, x = 0#128 ∨ ∃ r ∈ done, x = r.1.1
theorem gs_new : Gs [] (0#128, 0) ([⟨0, 0, 0, 0, 0, 0⟩], [0#128], [0]) :=
  ⟨inv_new, rfl, rfl, rfl, .inl ⟨rfl, rfl, rfl, rfl⟩, by simp, rfl, rfl, fun r h => by simp at h, fun i h1 h2 => by
    have : i = 0 := by simp at h1; exact h1
    subst this
    exact absurd h2 (by decide), rfl, fun F h0 _ => ⟨by simp, fun i h1 => by
      have : i = 0 := by simp at h1; exact h1
      subst this
      exact h0⟩, fun x hx => .inl (by simpa using hx)⟩
/-- A route as a right table has it. -/
def RtH (F : Int) (r : Rte) : Prop := Rt F r.1.1 r.1.2 ∧ 1 ≤ r.2 ∧ r.2 ≤ 65535
theorem cutZ8 (x : BitVec 128) : cutW x 0 = 0#128 := by
  have : maskW 0 = 0#128 := by decide
  unfold cutW; rw [this]; simp
theorem meet_lt (x : BitVec 128) (n : Int) (y : BitVec 128) (m : Int) (hn0 : 0 ≤ n) (hn : n ≤ 128) (hm0 : 0 ≤ m) (hm : m ≤ 128) (hx : cutW x n = x) (hy : cutW y m = y) (h : pcmpZ x n y m < 0) :
    meetN x n y m < m ∧ (meetN x n y m < n → bitZ x (meetN x n y m) = 0 ∧ bitZ y (meetN x n y m) = 1) := by
  have a := meetN_le x n y m
  have b := meet_cut x n y m hn0 hm0 hn
  have c := meetN_nn x n y m hn0 hm0
  have h1 : meetN x n y m < m := by
    apply Classical.byContradiction; intro d
    have e : meetN x n y m = m := by omega
    rw [e, hy] at b
    rw [e] at a
    rw [pcmp_lt] at h
    have : (cutW x m).toNat ≤ x.toNat := by rw [cut_nat]; exact Nat.div_mul_le_self _ _
    rw [← b] at this
    rcases h with h | h
    · omega
    · omega
  refine ⟨h1, fun h2 => ?_⟩
  have e : meetN x n y m = (leadN (x ^^^ y) : Int) := by
    unfold meetN at h1 h2 ⊢; omega
  rw [e]
  rcases first_bit x y (by omega) with ⟨f1, f2, f3⟩ | ⟨f1, f2, f3⟩
  · exact ⟨f1, f2⟩
  · exfalso
    rcases cmpZ_ways x y with ⟨g1, g2⟩ | ⟨g1, g2⟩ | ⟨g1, g2⟩
    · omega
    · omega
    · rw [pcmp_lt] at h; omega
theorem Gs.step {F : Int} (hF : F ≤ 128) {done : List Rte} {last : BitVec 128 × Int} {s : GrS} (g : Gs done last s) {r : Rte} (hr : RtH F r) (hl0 : 0 ≤ last.2) (hl1 : last.2 ≤ 128) (hlc : cutW last.1 last.2 = last.1) (ho : done = [] ∨ pcmpZ last.1 last.2 r.1.1 r.1.2 < 0) (hd : done.length ≤ 1048576) :
    Gs (done ++ [r]) r.1 (grT s last r) := by
  obtain ⟨L, ws, y⟩ := s
  obtain ⟨⟨x, n⟩, h⟩ := r
  obtain ⟨⟨hn0, hnF, hxc⟩, hh1, hh2⟩ := hr
  simp only at *
  have vi := g.inv
  have yl := g.yl
  have yw := g.yw
  have al := g.al
  have nl := g.nl
  have wl := g.wl
  have zr := g.zero
  simp only at vi yl yw al nl wl zr
  have mb := meetN_le last.1 last.2 x n
  have m0 := meetN_nn last.1 last.2 x n hl0 hn0
  have mc := meet_cut last.1 last.2 x n hl0 hn0 hl1
  -- what the meet is
  have hm : (done = [] ∧ L.length = 1 ∧ hp L 0 = 0 ∧ n = 0) ∨ (meetN last.1 last.2 x n < n ∧ (meetN last.1 last.2 x n < last.2 → bitZ last.1 (meetN last.1 last.2 x n) = 0 ∧ bitZ x (meetN last.1 last.2 x n) = 1 ∧ 0 < hp L (L.length - 1))) := by
    rcases g.st with ⟨d1, d2, d3, d4⟩ | ⟨d1, d2⟩
    · rw [d4] at mb hl0 ⊢
      by_cases c : n = 0
      · exact .inl ⟨d1, d2, d3, c⟩
      · exact .inr ⟨by simp only at mb ⊢; omega, fun q => by simp only at mb m0 q ⊢; rw [d4] at m0; simp only at m0; omega⟩
    · rcases ho with ho | ho
      · exact absurd ho d1
      · have := meet_lt last.1 last.2 x n hl0 hl1 hn0 (by omega) hlc hxc ho
        exact .inr ⟨this.1, fun q => ⟨(this.2 q).1, (this.2 q).2, d2⟩⟩
  unfold grT
  simp only
  generalize hM : meetN last.1 last.2 x n = M at *
  obtain ⟨b1, b2, b3, b4⟩ := bkW_all vi (by omega) M.toNat
  generalize bkW M.toNat L y = bk at *
  obtain ⟨L1, y1⟩ := bk
  simp only at b1 b2 b3 b4 ⊢
  have v2 := b1.word x
  have x2 : Ext ws (ws ++ [x]) L1 L1 := ⟨Nat.le_refl _, fun i hi => ⟨rfl, rfl, ad_app (b1.bnd i hi).2.1.1 (b1.bnd i hi).2.1.2⟩⟩
  have y1l : (y1.length : Int) = M + 1 := by rw [b4]; omega
  have lastE := (b2.trans x2).2 (L.length - 1) (by omega)
  have lnL : ln L (L.length - 1) = last.2 := by
    have := (vi.way (y.length - 1) (by omega)).2.1
    rw [show wy y (y.length - 1) = L.length - 1 by omega] at this
    rw [this]; omega
  have wx : (ws ++ [x]).getD ws.length 0#128 = x := by simp [List.getD_eq_getElem?_getD]
  obtain ⟨c1, c2, c3⟩ := dnS_all (ws ++ [x]) x ws.length (by simp) wx (n.toNat + 1 - y1.length) L1 y1 v2 (by omega) (by omega) (fun hf => by
    rcases hm with ⟨-, -, -, q⟩ | ⟨q1, q2⟩
    · omega
    · unfold LayOk
      rw [b3, lastE.1, lastE.2.1, lastE.2.2, lnL, al, y1l, show M + 1 - 1 = M by omega, mc]
      exact ⟨by omega, rfl, fun q => q2 (by omega)⟩)
  have dl := dnS_len (ws.length : Int) x (n.toNat + 1 - y1.length) (L1, y1)
  unfold dnW
  simp only at dl ⊢
  generalize hf : n.toNat + 1 - y1.length = f at *
  generalize dnS (ws.length : Int) x f (L1, y1) = d at *
  obtain ⟨L2, y2⟩ := d
  simp only at c1 c2 c3 dl ⊢
  have XT := (b2.trans x2).trans c2
  have y2l : y2.length = n.toNat + 1 := by omega
  -- the last node
  have hlast : wy y2 n.toNat + 1 = L2.length ∧ hp L2 (L2.length - 1) = 0 ∧ ad (ws ++ [x]) L2 (L2.length - 1) = x := by
    rcases hm with ⟨q1, q2, q3, q4⟩ | ⟨q1, q2⟩
    · have f0 : f = 0 := by omega
      have l2 : L2.length = 1 := by omega
      have e0 := XT.2 0 (by omega)
      rw [l2]
      refine ⟨?_, by rw [show 1 - 1 = 0 from rfl, e0.2.1]; exact q3, ?_⟩
      · have := c1.y0
        rw [q4]; simp only [Int.toNat_zero]; omega
      · rw [show 1 - 1 = 0 from rfl, e0.2.2, zr]
        rw [q4, cutZ8] at hxc
        exact hxc
    · have fp : 0 < f := by omega
      obtain ⟨g1, g2, g3, g4⟩ := c3 (L2.length - 1) (by omega) (by omega)
      refine ⟨?_, g1, g3⟩
      rw [show n.toNat = y1.length + (L2.length - 1 - L1.length) by omega, g4]
      omega
  obtain ⟨w1, w2, w3⟩ := hlast
  have hgd : y2.getD n.toNat 0 = L2.length - 1 := by
    have : wy y2 n.toNat = L2.length - 1 := by omega
    exact this
  have L2p : 0 < L2.length := by omega
  rw [hgd]
  have v3 := c1.fin (p := L2.length - 1) (h := h) (by omega) (by rw [y2l]; show wy y2 (n.toNat + 1 - 1) = _; rw [show n.toNat + 1 - 1 = n.toNat by omega]; omega) w2 hh1 hh2
  have hE : ∀ i, nd8 (dnE L2 (L2.length - 1) h) i = if i = L2.length - 1 then { nd8 L2 (L2.length - 1) with hop := IntKind.u16.wrap h, count := IntKind.i32.wrap ((nd8 L2 (L2.length - 1)).count + 1) } else nd8 L2 i := fun i => by
    unfold dnE
    rw [nd8_set _ _ _ _ (by omega)]
  have lE : (dnE L2 (L2.length - 1) h).length = L2.length := by simp [dnE]
  have lnE : ∀ i, ln (dnE L2 (L2.length - 1) h) i = ln L2 i := fun i => by unfold ln; rw [hE]; split <;> simp_all
  have adE : ∀ i, ad (ws ++ [x]) (dnE L2 (L2.length - 1) h) i = ad (ws ++ [x]) L2 i := fun i => by unfold ad; rw [hE]; split <;> simp_all
  have hpE : ∀ i, ¬ i = L2.length - 1 → hp (dnE L2 (L2.length - 1) h) i = hp L2 i := fun i q => by unfold hp; rw [hE, if_neg q]
  have hpL : hp (dnE L2 (L2.length - 1) h) (L2.length - 1) = h := by
    unfold hp; rw [hE, if_pos rfl]
    show IntKind.u16.wrap h = h
    rw [IntKind.wrap_u16]; omega
  have lnn : ln L2 (L2.length - 1) = n := by
    have := (c1.way n.toNat (by omega)).2.1
    rw [show wy y2 n.toNat = L2.length - 1 by omega] at this
    rw [this]; omega
  have oldE : ∀ i, i < L.length → (ln (dnE L2 (L2.length - 1) h) i = ln L i ∧ ad (ws ++ [x]) (dnE L2 (L2.length - 1) h) i = ad ws L i) := fun i q => by
    rw [lnE, adE]
    have := XT.2 i q
    exact ⟨this.1, this.2.2⟩
  have newE : ∀ i, L.length ≤ i → i < L2.length → hp L2 i = 0 := fun i q1 q2 => (c3 i (by omega) (by omega)).1
  have hlb : (done = [] ∧ L.length = 1 ∧ hp L 0 = 0) ∨ L.length ≤ L2.length - 1 := by
    rcases hm with ⟨q1, q2, q3, q4⟩ | ⟨q1, q2⟩
    · exact .inl ⟨q1, q2, q3⟩
    · exact .inr (by omega)
  refine ⟨v3, ?_, ?_, ?_, .inr ⟨by simp, ?_⟩, ?_, ?_, ?_, ?_, ?_, ?_, ?_, ?_⟩
  · simp only; omega
  · simp only
    rw [y2l, lE, show n.toNat + 1 - 1 = n.toNat by omega]; omega
  · simp only
    rw [lE, adE]; exact w3
  · simp only
    rw [lE, hpL]; omega
  · simp only [List.length_append, List.length_singleton]
    rw [lE]; omega
  · simp only [List.length_append, List.length_singleton]
    omega
  · simp only [List.length_append, List.length_singleton]
    rw [lE]
    have a1 := cntR_add (dnE L2 (L2.length - 1) h) 0 (L2.length - 1) 1
    rw [show L2.length - 1 + 1 = L2.length by omega] at a1
    rw [a1]
    have a2 : cntR (dnE L2 (L2.length - 1) h) 0 (L2.length - 1) = cntR L2 0 (L2.length - 1) := cntR_congr _ (fun i _ q => hpE i (by omega))
    have a3 : cntR (dnE L2 (L2.length - 1) h) (0 + (L2.length - 1)) 1 = 1 := by
      simp only [cntR, Nat.zero_add, Nat.add_zero, hpL]
      rw [if_pos (by omega)]
      rfl
    have a4 := cntR_add L2 0 (L2.length - 1) 1
    rw [show L2.length - 1 + 1 = L2.length by omega] at a4
    have a5 : cntR L2 (0 + (L2.length - 1)) 1 = 0 := cntR_zero _ _ _ (fun i q1 q2 => by rw [show i = L2.length - 1 by omega]; exact w2)
    have a6 := cntR_add L2 0 L.length (L2.length - L.length)
    rw [show L.length + (L2.length - L.length) = L2.length by omega] at a6
    have a7 : cntR L2 (0 + L.length) (L2.length - L.length) = 0 := cntR_zero _ _ _ (fun i q1 q2 => newE i (by omega) (by omega))
    have a8 : cntR L2 0 L.length = cntR L 0 L.length := cntR_congr _ (fun i _ q => (XT.2 i (by omega)).2.1)
    have a9 := g.tot
    simp only at a9
    omega
  · intro r hr
    simp only at *
    rw [List.mem_append, List.mem_singleton] at hr
    rcases hr with hr | hr
    · obtain ⟨i, q1, q2, q3, q4⟩ := g.rts r hr
      replace q1 : i < L.length := q1
      have nl : ¬ i = L2.length - 1 := by
        rcases hlb with ⟨z, -, -⟩ | z
        · rw [z] at hr; simp at hr
        · omega
      refine ⟨i, by rw [lE]; omega, by rw [(oldE i q1).1]; exact q2, by rw [(oldE i q1).2]; exact q3, ?_⟩
      rw [hpE i nl, (XT.2 i q1).2.1]; exact q4
    · subst hr
      exact ⟨L2.length - 1, by rw [lE]; omega, by rw [lnE]; exact lnn, by rw [adE]; exact w3, hpL⟩
  · intro i hi hpi
    simp only at *
    rw [lE] at hi
    by_cases c : i = L2.length - 1
    · subst c
      exact ⟨((x, n), h), by simp, by rw [lnE]; exact lnn, by rw [adE]; exact w3, hpL⟩
    · rw [hpE i c] at hpi
      have hiL : i < L.length := by
        apply Classical.byContradiction; intro q
        rw [newE i (by omega) hi] at hpi; omega
      rw [(XT.2 i hiL).2.1] at hpi
      obtain ⟨r, q1, q2, q3, q4⟩ := g.rev i hiL hpi
      exact ⟨r, by simp [q1], by rw [(oldE i hiL).1]; exact q2, by rw [(oldE i hiL).2]; exact q3, by rw [hpE i c, (XT.2 i hiL).2.1]; exact q4⟩
  · simp only
    rw [(oldE 0 (by omega)).2]; exact zr
  · intro F' h0 hF'
    obtain ⟨o1, o2⟩ := g.nf F' h0 (fun r hr => hF' r (List.mem_append_left _ hr))
    have hn : n ≤ F' := hF' ((x, n), h) (by simp)
    have y1p := b1.y1
    simp only at o1 o2 ⊢
    rw [lE]
    refine ⟨?_, fun i hi => ?_⟩
    · simp only [List.length_append, List.length_singleton]
      push_cast
      rw [Int.mul_add]
      omega
    · rw [lnE]
      by_cases c : i < L.length
      · rw [(XT.2 i c).1]; exact o2 i c
      · rw [(c3 i (by omega) (by omega)).2.1]; omega
  · intro z hz
    simp only [List.mem_append, List.mem_singleton] at hz
    rcases hz with hz | hz
    · rcases g.wr z hz with q | ⟨r, q1, q2⟩
      · exact .inl q
      · exact .inr ⟨r, List.mem_append_left _ q1, q2⟩
    · exact .inr ⟨((x, n), h), by simp, hz⟩
end Go.Proofs.Ytnaghiipfgdimaa
/-
  The growing of a tree: what grow tells.
-/
namespace Go.Proofs.Ytnaghiipfgdimaa
open Go.RowKit Go.Shelf
set_option linter.unusedSimpArgs false
set_option linter.unusedVariables false
attribute [local go_sem] Oper.semAt_some

theorem ghSame2 {x y : Array Value} {d1 d2 s : Nat} (hd : d1 < d2) (h : (x.toList.eraseIdx d2).eraseIdx d1 = (y.toList.eraseIdx d2).eraseIdx d1) (h1 : s ≠ d1) (h2 : s ≠ d2) : x[s]? = y[s]? := by
  have e : ∀ s', s' ≠ d1 → (x.toList.eraseIdx d2)[s']? = (y.toList.eraseIdx d2)[s']? := fun s' hs => erase_get _ _ d1 s' h hs
  by_cases c : s < d2
  · have := e s h1
    rw [List.getElem?_eraseIdx_of_lt c, List.getElem?_eraseIdx_of_lt c] at this
    simpa using this
  · have := e (s - 1) (by omega)
    rw [List.getElem?_eraseIdx_of_ge (by omega), List.getElem?_eraseIdx_of_ge (by omega), show s - 1 + 1 = s by omega] at this
    simpa using this
/-- Room is taken for a row. -/
theorem mk_ex {P : Program} {t e : TypeId} {z : Value} {s b : Nat} (ht : P.underlying t = some (.slice e)) (hi : (P.info? e).map (fun i => (i.zero, i.size, i.bytes)) = some (some z, s, b)) (c : Nat) (hb : b * c ≤ 281474976710656) (hc : c ≤ 281474976710656) :
    ∃ C : Array Value, ∀ w : World, (Instr.makeSlice t (.int .i64 0) (.int .i64 (c : Int))).run P w = .ok (.slice (some ⟨w.heap.size, 0, none⟩) 0 c) (w.alloc (.cells C e)) ∧ ∀ base, base ≤ w.heap.size → (w.alloc (.cells C e)).ownsRow base e s (.slice (some ⟨w.heap.size, 0, none⟩) 0 c) 0 [] := by
  obtain ⟨i, h1, h2, h3, h4⟩ := info_of hi
  refine ⟨madeCells z.cells (c * i.size), fun w => ⟨?_, fun base hbase => ?_⟩⟩
  · have hb2 : ((b * c : Nat) : Int) ≤ 281474976710656 := by omega
    rw [Int.natCast_mul] at hb2
    have := run_make (P := P) w t e i z ht h1 h2 .i64 .i64 0 c (Int.le_refl _) (by omega) (by rw [h4]; exact hb2) (by omega)
    simpa using this
  · rw [← h3]
    exact World.ownsRow_made w _ c hbase (by unfold maxLen; omega) (size_madeCells _ _)
section
variable {V0 V W : World} {base : Nat} {F : Int} {sz n1 : Nat} {b5 b10 b11 b12 b13 : Bool} {g : Nat × Nat × Nat}
end
theorem fr_blk {W : World} {z j : Nat} {cs : Array Value} {T : TypeId} (h : W.heap[z]? = some (.cells cs T)) : W.frozen? ⟨z, j, none⟩ = false := by simp [World.frozen?, h]
theorem set_blk {W : World} {P o : Nat} {cs : Array Value} {T : TypeId} (h : W.heap[P]? = some (.cells cs T)) (v : Value) : (W.setCell ⟨P, o, none⟩ v).heap[P]? = some (.cells (cs.setIfInBounds o v) T) := by
  simp [World.setCell, Array.getElem?_modify, h]
theorem B3.mine {w W : World} {base G B : Nat} {vn vw vy : Value} (k : B3 w W base G B vn vw vy) {z : Nat} {o : Obj} (hz : w.heap[z]? = some o) (hG : z ≠ G) (hB : z ≠ B) (hn : vn.ownBlock ≠ some z) (hw : vw.ownBlock ≠ some z) (hy : vy.ownBlock ≠ some z) : W.heap[z]? = some o := by
  have hl : z < w.heap.size := by
    apply Classical.byContradiction; intro q
    rw [Array.getElem?_eq_none (by omega)] at hz; cases hz
  rw [k.2.2 z hl hG hB hn hw hy]; exact hz
theorem blk_lt {w : World} {z : Nat} {o : Obj} (hz : w.heap[z]? = some o) : z < w.heap.size := by
  apply Classical.byContradiction; intro q
  rw [Array.getElem?_eq_none (by omega)] at hz; cases hz
theorem inv_mem {ws : List (BitVec 128)} {L : List Nd} {y : List Nat} (v : InvG ws L y) : ∀ i ∈ y, i < L.length := by
  intro i hi
  obtain ⟨k, hk, rfl⟩ := List.mem_iff_getElem.mp hi
  have := (v.way k hk).1
  unfold wy at this
  rwa [List.getD_eq_getElem?_getD, List.getElem?_eq_getElem hk] at this
/-- A prefix's block is written over. -/
theorem set3_blk {W : World} {P : Nat} {a b c : Value} {T : TypeId} (h : W.heap[P]? = some (.cells #[a, b, c] T)) (x y z : Value) : (((W.setCell ⟨P, 0, none⟩ x).setCell ⟨P, 1, none⟩ y).setCell ⟨P, 2, none⟩ z).heap[P]? = some (.cells #[x, y, z] T) := by
  have h1 := set_blk (o := 0) h x
  have h2 := set_blk (o := 1) h1 y
  have h3 := set_blk (o := 2) h2 z
  simpa using h3
theorem Gs.next {F : Int} (hF : F ≤ 128) {l : List Rte} (hr : ∀ r ∈ l, RtH F r) (hO : OrdR l) (hl : l.length ≤ 1048576) {k : Nat} (hk : k < l.length) {last : BitVec 128 × Int} {s : GrS} (g : Gs (l.take k) last s) (hl0 : 0 ≤ last.2) (hl1 : last.2 ≤ 128) (hlc : cutW last.1 last.2 = last.1) (hj : ∀ (j : Nat) (hj : j < l.length), j + 1 = k → last = l[j].1) : Gs (l.take (k + 1)) l[k].1 (grT s last l[k]) := by
  rw [List.take_succ_eq_append_getElem hk]
  refine g.step hF (hr _ (List.getElem_mem hk)) hl0 hl1 hlc ?_ (by rw [List.length_take]; omega)
  by_cases c : k = 0
  · left; rw [c, List.take_zero]
  · right
    have := hj (k - 1) (by omega) (by omega)
    rw [this]
    exact hO (k - 1) k hk (by omega)
def grO : GrS := ([⟨0, 0, 0, 0, 0, 0⟩], [0#128], [0])
def Px (x : BitVec 128) (n : Int) : Obj := .cells #[.int .u64 (hI x), .int .u64 (lI x), .int .i64 n] 38
def Rx8 (x : BitVec 128) (n h : Int) : Obj := .cells #[.int .u64 (hI x), .int .u64 (lI x), .int .i64 n, .int .i64 h] 45
theorem Try.infoW9 : (Try.prog.info? 36).map (fun i => (i.zero, i.size, i.bytes)) = some (some (.agg #[.int .u64 0, .int .u64 0]), 2, 16) := by kernel_rfl
end Go.Proofs.Ytnaghiipfgdimaa
/-
  Plain: what a grown tree is: where what lies within a node ends, its kids, its sums.
-/
namespace Go.Proofs.Ytnaghiipfgdimaa
open Go.RowKit
set_option linter.unusedSimpArgs false
set_option linter.unusedVariables false

/-- The nodes of a table's tree. -/
structure Tre (l : List Rte) (ws : List (BitVec 128)) (L : List Nd) : Prop where
  inv : InvG ws L [0]
  nl : L.length ≤ 1 + 128 * l.length
  wl : ws.length = 1 + l.length
  tot : cntR L 0 L.length = l.length
  rts : ∀ r ∈ l, ∃ i, i < L.length ∧ ln L i = r.1.2 ∧ ad ws L i = r.1.1 ∧ hp L i = r.2
  rev : ∀ i, i < L.length → 0 < hp L i → ∃ r ∈ l, ln L i = r.1.2 ∧ ad ws L i = r.1.1 ∧ hp L i = r.2
  zero : ad ws L 0 = 0#128
  lst : l ≠ [] → 0 < hp L (L.length - 1)
  one : l = [] → L.length = 1
  nf : ∀ F : Int, 0 ≤ F → (∀ r ∈ l, r.1.2 ≤ F) → ((L.length : Int) ≤ 1 + F * l.length ∧ ∀ i, i < L.length → ln L i ≤ F)
  wr : ∀ x ∈ ws, x = 0#128 ∨ ∃ r ∈ l, x = r.1.1
theorem Gs.tre {l : List Rte} {last : BitVec 128 × Int} {s : GrS} (g : Gs l last s) (hl : l.length ≤ 1048576) : Tre l s.2.1 (bkW 0 s.1 s.2.2).1 ∧ (bkW 0 s.1 s.2.2).2 = [0] := by
  have nl := g.nl
  obtain ⟨a, b, c, d⟩ := bkW_all g.inv (by omega) 0
  have y1 := g.inv.y1
  have e : (bkW 0 s.1 s.2.2).2 = [0] := by
    have h0 := a.y0
    generalize (bkW 0 s.1 s.2.2).2 = y at *
    match y, d, h0 with
    | [p], _, h0 => simp [wy] at h0; rw [h0]
    | [], d, _ => simp at d; omega
    | p :: q :: r, d, _ => simp at d; omega
  rw [e] at a
  refine ⟨⟨a, by rw [c]; exact nl, g.wl, ?_, ?_, ?_, ?_, ?_, ?_, ?_, g.wr⟩, e⟩
  · rw [c, ← g.tot]
    exact cntR_congr _ (fun i _ h => (b.2 i (by omega)).2.1)
  · intro r hr
    obtain ⟨i, q1, q2, q3, q4⟩ := g.rts r hr
    have := b.2 i q1
    exact ⟨i, by omega, by rw [this.1]; exact q2, by rw [this.2.2]; exact q3, by rw [this.2.1]; exact q4⟩
  · intro i hi hh
    rw [c] at hi
    have := b.2 i hi
    rw [this.2.1] at hh
    obtain ⟨r, q1, q2, q3, q4⟩ := g.rev i hi hh
    exact ⟨r, q1, by rw [this.1]; exact q2, by rw [this.2.2]; exact q3, by rw [this.2.1]; exact q4⟩
  · rw [(b.2 0 (by have := (g.inv.way 0 y1).1; omega)).2.2]; exact g.zero
  · intro hne
    rw [c]
    have h0 := (g.inv.way 0 y1).1
    rw [(b.2 (s.1.length - 1) (by omega)).2.1]
    rcases g.st with ⟨q, -⟩ | ⟨-, q⟩
    · exact absurd q hne
    · exact q
  · intro he
    rw [c]
    rcases g.st with ⟨-, q, -⟩ | ⟨q, -⟩
    · exact q
    · exact absurd he q
  · intro F h0 hF
    obtain ⟨o1, o2⟩ := g.nf F h0 hF
    rw [c]
    exact ⟨o1, fun i hi => by rw [(b.2 i hi).1]; exact o2 i hi⟩
section
variable {l : List Rte} {ws : List (BitVec 128)} {L : List Nd}
theorem Tre.pos (t : Tre l ws L) : 0 < L.length := (t.inv.way 0 (by simp)).1
theorem Tre.ln0 (t : Tre l ws L) : ln L 0 = 0 := (t.inv.way 0 (by simp)).2.1
theorem Tre.lnp (t : Tre l ws L) {i : Nat} (h : i < L.length) (h0 : 0 < i) : 0 < ln L i := (t.inv.way 0 (by simp)).2.2 i h0 h
/-- Each node has an end, and its sums are those up to it. -/
theorem Tre.node (t : Tre l ws L) {i : Nat} (hi : i < L.length) : ∃ e, End L i e ∧ (nd8 L i).count = cntR L i (e - i) ∧ (nd8 L i).height = topR L i (e - i) - ln L i := by
  by_cases c : i = 0
  · subst c
    have h1 := t.inv.cnt 0 (by simp)
    have h2 := t.inv.hgt 0 (by simp)
    have hw := (t.inv.way 0 (by simp))
    refine ⟨L.length, ⟨hi, Nat.le_refl _, fun j a b => ?_, fun h => by omega⟩, h1, ?_⟩
    · rw [t.ln0]; exact t.lnp b a
    · rw [t.ln0]; exact h2
  · exact t.inv.don i hi (fun k h => by simp at h; subst h; exact fun e => c e.symm)
theorem End.one {i e f : Nat} (h : End L i e) (k : End L i f) : e = f := by
  obtain ⟨a1, a2, a3, a4⟩ := h
  obtain ⟨b1, b2, b3, b4⟩ := k
  apply Classical.byContradiction
  intro c
  by_cases d : e < f
  · have := b3 e a1 d
    have := a4 (by omega)
    omega
  · have := a3 f b1 (by omega)
    have := b4 (by omega)
    omega
/-- All that lies within a node has its bits. -/
theorem Tre.cut (t : Tre l ws L) {i e : Nat} (h : End L i e) : ∀ j, i ≤ j → j < e → cutW (ad ws L j) (ln L i) = cutW (ad ws L i) (ln L i)
  | 0, h1, h2 => by have : i = 0 := by omega
                    subst this; rfl
  | j + 1, h1, h2 => by
    by_cases c : i = j + 1
    · rw [c]
    · have ih := t.cut h j (by omega) (by omega)
      have s := t.inv.stp j (by have := h.2.1; omega)
      have l1 := h.2.2.1 (j + 1) (by omega) h2
      have hb := (t.inv.bnd i (by have := h.2.1; omega)).1
      rw [← ih, ← cut_cut (ad ws L (j + 1)) (ln L i) (ln L (j + 1) - 1) hb.1 (by omega), s.2.2.1, cut_cut _ _ _ hb.1 (by omega)]
/-- A bit that is cut in. -/
theorem cutBit8 {x y : BitVec 128} {n k : Int} (h : cutW x n = cutW y n) (h0 : 0 ≤ k) (h1 : k < n) (h2 : n ≤ 128) : bitZ x k = bitZ y k := by
  have e : ∀ z : BitVec 128, bitZ (cutW z n) k = bitZ z k := by
    intro z
    unfold bitZ
    rw [bitB_in _ k h0 (by omega), bitB_in _ k h0 (by omega)]
    unfold cutW
    rw [BitVec.getLsbD_and, maskW_bit n _ (by omega)]
    have : 128 - n.toNat ≤ (127 - k).toNat := by omega
    simp [this]
  rw [← e x, h, e y]
/-- What the kids of a node are. -/
inductive KidsAt (ws : List (BitVec 128)) (L : List Nd) (i e : Nat) : Prop where
  | leaf (he : e = i + 1) (hh : (nd8 L i).high = 0)
  | low (h1 : i + 1 < e) (hl : ln L (i + 1) = ln L i + 1) (hb : bitZ (ad ws L (i + 1)) (ln L i) = 0) (hE : End L (i + 1) e) (hh : (nd8 L i).high = 0)
  | high (h1 : i + 1 < e) (hl : ln L (i + 1) = ln L i + 1) (hb : bitZ (ad ws L (i + 1)) (ln L i) = 1) (hE : End L (i + 1) e) (hh : (nd8 L i).high = ((i + 1 : Nat) : Int))
  | both (m : Nat) (h1 : i + 1 < m) (h2 : m < e) (hl : ln L (i + 1) = ln L i + 1) (hb : bitZ (ad ws L (i + 1)) (ln L i) = 0) (hE : End L (i + 1) m) (hl2 : ln L m = ln L i + 1) (hb2 : bitZ (ad ws L m) (ln L i) = 1) (hE2 : End L m e) (hh : (nd8 L i).high = (m : Int))
theorem Tre.next (t : Tre l ws L) {i e j f : Nat} (h : End L i e) (hij : i < j) (hje : j < e) (hj : ln L j = ln L i + 1) (k : End L j f) : f ≤ e ∧ (f < e → ln L f = ln L i + 1 ∧ bitZ (ad ws L j) (ln L i) = 0 ∧ bitZ (ad ws L f) (ln L i) = 1) := by
  obtain ⟨a1, a2, a3, a4⟩ := h
  have k' := k
  obtain ⟨b1, b2, b3, b4⟩ := k
  have hfe : f ≤ e := by
    apply Classical.byContradiction; intro c
    have := a4 (by omega)
    by_cases d : e = j
    · omega
    · have := b3 e (by omega) (by omega)
      omega
  refine ⟨hfe, fun hlt => ?_⟩
  have l1 := b4 (by omega)
  have l2 := a3 f (by omega) hlt
  have hl : ln L f = ln L i + 1 := by omega
  obtain ⟨q, rfl⟩ : ∃ q, f = q + 1 := ⟨f - 1, by omega⟩
  have s := t.inv.stp q (by omega)
  have hb := (t.inv.bnd j (by omega)).1
  have hb2 := (t.inv.bnd i (by omega)).1
  have lq : ln L j ≤ ln L q := by
    by_cases d : q = j
    · rw [d]; exact Int.le_refl _
    · have := b3 q (by omega) (by omega); omega
  obtain ⟨s1, s2, -⟩ := s.2.2.2 (by omega)
  rw [hl, show ln L i + 1 - 1 = ln L i by omega] at s1 s2
  refine ⟨hl, ?_, s2⟩
  rw [← s1]
  exact (cutBit8 (t.cut k' q (by omega) (by omega)) hb2.1 (by omega) hb.2).symm
theorem Tre.kids (t : Tre l ws L) {i e : Nat} (h : End L i e) : KidsAt ws L i e := by
  obtain ⟨a1, a2, a3, a4⟩ := id h
  have hiL : i < L.length := by omega
  have hhi := t.inv.hig i hiL
  by_cases c : e = i + 1
  · refine .leaf c ?_
    rcases hhi with ⟨g, -⟩ | ⟨j, -, g1, g2, g3, g4, g5⟩
    · exact g
    · exfalso
      subst c
      have := a4 (by omega)
      have := g5 (i + 1) (by omega) (by omega)
      omega
  · have l1 := a3 (i + 1) (by omega) (by omega)
    have s := t.inv.stp i (by omega)
    have hl : ln L (i + 1) = ln L i + 1 := by have := s.2.1; omega
    obtain ⟨f, hf, -⟩ := t.node (i := i + 1) (by omega)
    obtain ⟨hfe, hn⟩ := t.next h (by omega) (by omega) hl hf
    -- a kid by 1 stands where another kid begins, or first
    have hi1 : ∀ j, Hi1 ws L i j → j < e := by
      intro j ⟨g1, g2, g3, g4, g5⟩
      apply Classical.byContradiction; intro d
      have := g5 e (by omega) (by omega)
      have := a4 (by omega)
      omega
    by_cases d : f = e
    · subst d
      have only : ∀ j, Hi1 ws L i j → j = i + 1 := by
        intro j hj
        have := hi1 j hj
        obtain ⟨g1, g2, g3, g4, g5⟩ := hj
        apply Classical.byContradiction; intro q
        have := hf.2.2.1 j (by omega) (by omega)
        omega
      rcases bitZ_01 (ad ws L (i + 1)) (ln L i) with hb | hb
      · refine .low (by omega) hl hb hf ?_
        rcases hhi with ⟨g, -⟩ | ⟨j, -, g⟩
        · exact g
        · exfalso
          have := only j g
          subst this
          rw [g.2.2.2.1] at hb; omega
      · refine .high (by omega) hl hb hf ?_
        have hH : Hi1 ws L i (i + 1) := ⟨by omega, by omega, hl, hb, fun q q1 q2 => by rw [show q = i + 1 by omega]; exact l1⟩
        rcases hhi with ⟨-, g⟩ | ⟨j, g0, g⟩
        · exact absurd hH (g _)
        · rw [g0, only j g]
    · obtain ⟨n1, n2, n3⟩ := hn (by omega)
      obtain ⟨f2, hf2, -⟩ := t.node (i := f) (by omega)
      obtain ⟨hfe2, hn2⟩ := t.next h (by have := hf.1; omega) (by omega) n1 hf2
      have e2 : f2 = e := by
        apply Classical.byContradiction; intro q
        have := (hn2 (by omega)).2.1
        omega
      subst e2
      refine .both f hf.1 (by omega) hl n2 hf n1 n3 hf2 ?_
      have hH : Hi1 ws L i f := ⟨by have := hf.1; omega, by omega, n1, n3, fun q q1 q2 => a3 q q1 (by omega)⟩
      rcases hhi with ⟨-, g⟩ | ⟨j, g0, g⟩
      · exact absurd hH (g _)
      · rw [g0]
        have := hi1 j g
        obtain ⟨g1, g2, g3, g4, g5⟩ := g
        have : j = f := by
          apply Classical.byContradiction; intro q
          by_cases q1 : j < f
          · by_cases q2 : j = i + 1
            · subst q2; omega
            · have := hf.2.2.1 j (by omega) q1; omega
          · have := hf2.2.2.1 j (by omega) (by omega); omega
        rw [this]
theorem Tre.ok (t : Tre l ws L) (hl : l.length ≤ 1048576) : ∀ x ∈ L, x.ok := by
  intro x hx
  obtain ⟨i, hi, rfl⟩ := List.mem_iff_getElem.mp hx
  have e : nd8 L i = L[i] := nd8_in hi
  obtain ⟨en, hE, hc, hh⟩ := t.node hi
  have nl := t.nl
  have wl := t.wl
  have b := t.inv.bnd i hi
  have c1 := cntR_bd L i (en - i)
  have t1 := topR_bd L i 128 (by omega) (en - i) (fun j h1 h2 => (t.inv.bnd j (by have := hE.2.1; omega)).1.2)
  have t2 := topR_ge L i (en - i) i (by omega) (by have := hE.1; omega)
  have k := t.kids hE
  have hE1 := hE.2.1
  rw [e] at hc hh b
  unfold ln at t2
  unfold ln hp at b
  rw [e] at b t2
  have hb1 : ln L i = L[i].length := by unfold ln; rw [e]
  unfold Nd.ok
  refine ⟨by omega, ?_, by omega, by omega, by omega, by omega⟩
  cases k with
  | leaf _ q => rw [e] at q; omega
  | low _ _ _ _ q => rw [e] at q; omega
  | high _ _ _ _ q => rw [e] at q; omega
  | both m _ _ _ _ _ _ _ _ q => rw [e] at q; omega
end
end Go.Proofs.Ytnaghiipfgdimaa
/-
  What the call of package table's Check does.
-/
namespace Go.Proofs.Ytnaghiipfgdimaa
open Go.RowKit
set_option linter.unusedSimpArgs false
set_option linter.unusedVariables false

/-- What Check reads of two routes beside one another. -/
def T6 (w : World) (F : Int) (v : Value) (b oa ob : Nat) (ax : BitVec 128) (an ah : Int) (bx : BitVec 128) (bn bh : Int) (W : World) : Prop := AtT W w.heap.size F v ∧ (W.cell? ⟨b, oa, none⟩ = some (.int .u64 (hI ax)) ∧ W.cell? ⟨b, oa + 1, none⟩ = some (.int .u64 (lI ax)) ∧ W.cell? ⟨b, oa + 2, none⟩ = some (.int .i64 an) ∧ W.cell? ⟨b, oa + 3, none⟩ = some (.int .i64 ah)) ∧ (W.cell? ⟨b, ob, none⟩ = some (.int .u64 (hI bx)) ∧ W.cell? ⟨b, ob + 1, none⟩ = some (.int .u64 (lI bx)) ∧ W.cell? ⟨b, ob + 2, none⟩ = some (.int .i64 bn) ∧ W.cell? ⟨b, ob + 3, none⟩ = some (.int .i64 bh)) ∧ Below w.heap.size w W
theorem T6.below {w W W' : World} {F : Int} {v : Value} {b oa ob : Nat} {ax : BitVec 128} {an ah : Int} {bx : BitVec 128} {bn bh : Int} (k : T6 w F v b oa ob ax an ah bx bn bh W) (hb : Below W.heap.size W W') : T6 w F v b oa ob ax an ah bx bn bh W' :=
  ⟨k.1.below hb, ⟨keepc hb k.2.1.1, keepc hb k.2.1.2.1, keepc hb k.2.1.2.2.1, keepc hb k.2.1.2.2.2⟩, ⟨keepc hb k.2.2.1.1, keepc hb k.2.2.1.2.1, keepc hb k.2.2.1.2.2.1, keepc hb k.2.2.1.2.2.2⟩, keepb hb k.2.2.2⟩
theorem rtsG_all (F : Int) : ∀ l : List Rte, rtsG F l = 0 → ∀ r ∈ l, rteE F r = 0
  | [], _, r, hr => by cases hr
  | a :: l, h, r, hr => by
    rw [rtsG] at h
    split at h
    · rename_i h1
      rcases List.mem_cons.mp hr with e | e
      · rw [e]; exact h1
      · exact rtsG_all F l h r e
    · rename_i h1; exact absurd h h1
theorem rts_all (F : Int) (l : List Rte) (h : rtsE F l = 0) : fam F = true ∧ l.length ≤ 1048576 ∧ ∀ r ∈ l, rteE F r = 0 := by
  unfold rtsE at h
  split at h
  · rename_i h1
    split at h
    · omega
    · rename_i h2
      exact ⟨h1, by omega, rtsG_all F l h⟩
  · omega
end Go.Proofs.Ytnaghiipfgdimaa
/-
  A table's tree: what trie.New tells.
-/
namespace Go.Proofs.Ytnaghiipfgdimaa
open Go.RowKit Go.Shelf
set_option linter.unusedSimpArgs false
set_option linter.unusedVariables false

theorem rte_rth (F : Int) (r : Rte) (hf : fam F = true) (h : rteE F r = 0) : RtH F r := by
  unfold rteE at h
  split at h
  · rename_i h1
    split at h
    · rename_i h2
      unfold hopB at h2
      simp only [Bool.and_eq_true, decide_eq_true_iff] at h2
      refine ⟨?_, by omega, by omega⟩
      unfold checkE at h1
      rw [if_pos hf] at h1
      split at h1
      · omega
      · split at h1
        · omega
        · split at h1
          · rename_i h3 h4 h5
            exact ⟨by omega, by omega, by simpa using h5⟩
          · omega
    · omega
  · rename_i h1; exact absurd h h1
theorem fam8 (F : Int) (h : fam F = true) : F = 32 ∨ F = 128 := by
  unfold fam at h
  simpa using h
/-- What Check's OK says of a table. -/
theorem tab8_ok {F : Int} {l : List Rte} (h : TabE F l 0) : (F = 32 ∨ F = 128) ∧ l.length ≤ 1048576 ∧ (∀ r ∈ l, RtH F r) ∧ OrdR l := by
  have h0 : rtsE F l = 0 := by
    by_cases h' : rtsE F l = 0
    · exact h'
    · have := h.1 h'; omega
  obtain ⟨hf, h1, h2⟩ := rts_all F l h0
  rcases h.2 h0 with ⟨ha, -⟩ | ⟨-, q⟩
  · exact ⟨fam8 F hf, h1, fun r hr => rte_rth F r hf (h2 r hr), ord_adj ha⟩
  · omega
/-- A tree in memory, with its words. -/
structure TrT (W : World) (B : Nat) (F : Int) (g cap wg wc : Nat) (L : List Nd) (ws : List (BitVec 128)) : Prop where
  tn : TrN W B F g cap (.slice (some ⟨wg, 0, none⟩) ws.length wc) L
  wd : ∀ j (hj : j < ws.length), W.cell? ⟨wg, j * 2, none⟩ = some (.int .u64 (hI ws[j])) ∧ W.cell? ⟨wg, j * 2 + 1, none⟩ = some (.int .u64 (lI ws[j]))
theorem TrT.below {W W' : World} {B : Nat} {F : Int} {g cap wg wc : Nat} {L : List Nd} {ws : List (BitVec 128)} (k : TrT W B F g cap wg wc L ws) (hb : Below W.heap.size W W') : TrT W' B F g cap wg wc L ws :=
  ⟨k.tn.below hb, fun j hj => ⟨keepc hb (k.wd j hj).1, keepc hb (k.wd j hj).2⟩⟩
theorem rowWd_get : ∀ (l : List (BitVec 128)) (k : Nat) (hk : k < l.length), (rowWd l)[k * 2]? = some (.int .u64 (hI l[k])) ∧ (rowWd l)[k * 2 + 1]? = some (.int .u64 (lI l[k]))
  | x :: l, 0, _ => ⟨rfl, rfl⟩
  | x :: l, k + 1, hk => by
    have := rowWd_get l k (by simpa using hk)
    rw [show (k + 1) * 2 = k * 2 + 2 by omega, show k * 2 + 2 + 1 = k * 2 + 1 + 2 by omega]
    exact this
/-- What New tells of a table whose check is z. -/
def NewQ (F : Int) (l : List Rte) (h0 : Nat) (z : Int) (e : Ending) (w' : World) : Prop := (z ≠ 0 ∧ e = .returned (.tuple #[.pointer none, .int .i64 z])) ∨ (z = 0 ∧ ∃ (B g cap wg wc : Nat) (ws : List (BitVec 128)) (L : List Nd), e = .returned (.tuple #[.pointer (some ⟨B, 0, none⟩), .int .i64 0]) ∧ TrT w' B F g cap wg wc L ws ∧ Tre l ws L ∧ L = (bkW 0 (grwG l (0#128, 0) grO).1 (grwG l (0#128, 0) grO).2.2).1 ∧ h0 ≤ B ∧ h0 ≤ g ∧ h0 ≤ wg)
end Go.Proofs.Ytnaghiipfgdimaa
