/-
  Part 12 of the proof: 4 texts, one behind the other.
-/
import Derived.Test.YtofpbommhklooaaPart11
import Derived.Test.YtofpbommhklooaaPart6
import Derived.Test.YtofpbommhklooaaPart1
/-
  Plain: what a route brings to a tree, and the document's lists of the same nodes.
-/
namespace Go.Proofs.Ytofpbommhklooaa
open Go.RowKit
set_option linter.unusedSimpArgs false
set_option linter.unusedVariables false

theorem Gs.grow {F : Int} (hF : F ≤ 128) {done : List Rte} {last : BitVec 128 × Int} {s : GrS} (g : Gs done last s) {r : Rte} (hr : RtH F r) (hl0 : 0 ≤ last.2) (hl1 : last.2 ≤ 128) (hlc : cutW last.1 last.2 = last.1) (ho : done = [] ∨ pcmpZ last.1 last.2 r.1.1 r.1.2 < 0) (hd : done.length ≤ 1048576) :
    (grT s last r).1.length = s.1.length + (r.1.2.toNat - (meetN last.1 last.2 r.1.1 r.1.2).toNat) ∧ (∀ i, i < s.1.length → ln (grT s last r).1 i = ln s.1 i ∧ ad (grT s last r).2.1 (grT s last r).1 i = ad s.2.1 s.1 i ∧ (i + 1 ≠ (grT s last r).1.length → hp (grT s last r).1 i = hp s.1 i)) ∧ (∀ i, s.1.length ≤ i → i < (grT s last r).1.length → ln (grT s last r).1 i = meetN last.1 last.2 r.1.1 r.1.2 + 1 + ((i - s.1.length : Nat) : Int) ∧ ad (grT s last r).2.1 (grT s last r).1 i = r.1.1 ∧ (i + 1 ≠ (grT s last r).1.length → hp (grT s last r).1 i = 0)) ∧ hp (grT s last r).1 ((grT s last r).1.length - 1) = r.2 := by
  obtain ⟨L, ws, y⟩ := s
  obtain ⟨⟨x, n⟩, h⟩ := r
  obtain ⟨⟨hn0, hnF, hxc⟩, hh1, hh2⟩ := hr
  simp only at *
  have vi := g.inv
  have yl := g.yl
  have yw := g.yw
  have al := g.al
  have nl := g.nl
  have wl := g.wl
  have zr := g.zero
  simp only at vi yl yw al nl wl zr
  have mb := meetN_le last.1 last.2 x n
  have m0 := meetN_nn last.1 last.2 x n hl0 hn0
  have mc := meet_cut last.1 last.2 x n hl0 hn0 hl1
  -- what the meet is
  have hm : (done = [] ∧ L.length = 1 ∧ hp L 0 = 0 ∧ n = 0) ∨ (meetN last.1 last.2 x n < n ∧ (meetN last.1 last.2 x n < last.2 → bitZ last.1 (meetN last.1 last.2 x n) = 0 ∧ bitZ x (meetN last.1 last.2 x n) = 1 ∧ 0 < hp L (L.length - 1))) := by
    rcases g.st with ⟨d1, d2, d3, d4⟩ | ⟨d1, d2⟩
    · rw [d4] at mb hl0 ⊢
      by_cases c : n = 0
      · exact .inl ⟨d1, d2, d3, c⟩
      · exact .inr ⟨by simp only at mb ⊢; omega, fun q => by simp only at mb m0 q ⊢; rw [d4] at m0; simp only at m0; omega⟩
    · rcases ho with ho | ho
      · exact absurd ho d1
      · have := meet_lt last.1 last.2 x n hl0 hl1 hn0 (by omega) hlc hxc ho
        exact .inr ⟨this.1, fun q => ⟨(this.2 q).1, (this.2 q).2, d2⟩⟩
  unfold grT
  simp only
  generalize hM : meetN last.1 last.2 x n = M at *
  obtain ⟨b1, b2, b3, b4⟩ := bkW_all vi (by omega) M.toNat
  generalize bkW M.toNat L y = bk at *
  obtain ⟨L1, y1⟩ := bk
  simp only at b1 b2 b3 b4 ⊢
  have v2 := b1.word x
  have x2 : Ext ws (ws ++ [x]) L1 L1 := ⟨Nat.le_refl _, fun i hi => ⟨rfl, rfl, ad_app (b1.bnd i hi).2.1.1 (b1.bnd i hi).2.1.2⟩⟩
  have y1l : (y1.length : Int) = M + 1 := by rw [b4]; omega
  have lastE := (b2.trans x2).2 (L.length - 1) (by omega)
  have lnL : ln L (L.length - 1) = last.2 := by
    have := (vi.way (y.length - 1) (by omega)).2.1
    rw [show wy y (y.length - 1) = L.length - 1 by omega] at this
    rw [this]; omega
  have wx : (ws ++ [x]).getD ws.length 0#128 = x := by simp [List.getD_eq_getElem?_getD]
  obtain ⟨c1, c2, c3⟩ := dnS_all (ws ++ [x]) x ws.length (by simp) wx (n.toNat + 1 - y1.length) L1 y1 v2 (by omega) (by omega) (fun hf => by
    rcases hm with ⟨-, -, -, q⟩ | ⟨q1, q2⟩
    · omega
    · unfold LayOk
      rw [b3, lastE.1, lastE.2.1, lastE.2.2, lnL, al, y1l, show M + 1 - 1 = M by omega, mc]
      exact ⟨by omega, rfl, fun q => q2 (by omega)⟩)
  have dl := dnS_len (ws.length : Int) x (n.toNat + 1 - y1.length) (L1, y1)
  unfold dnW
  simp only at dl ⊢
  generalize hf : n.toNat + 1 - y1.length = f at *
  generalize dnS (ws.length : Int) x f (L1, y1) = d at *
  obtain ⟨L2, y2⟩ := d
  simp only at c1 c2 c3 dl ⊢
  have XT := (b2.trans x2).trans c2
  have y2l : y2.length = n.toNat + 1 := by omega
  -- the last node
  have hlast : wy y2 n.toNat + 1 = L2.length ∧ hp L2 (L2.length - 1) = 0 ∧ ad (ws ++ [x]) L2 (L2.length - 1) = x := by
    rcases hm with ⟨q1, q2, q3, q4⟩ | ⟨q1, q2⟩
    · have f0 : f = 0 := by omega
      have l2 : L2.length = 1 := by omega
      have e0 := XT.2 0 (by omega)
      rw [l2]
      refine ⟨?_, by rw [show 1 - 1 = 0 from rfl, e0.2.1]; exact q3, ?_⟩
      · have := c1.y0
        rw [q4]; simp only [Int.toNat_zero]; omega
      · rw [show 1 - 1 = 0 from rfl, e0.2.2, zr]
        rw [q4, cutZ8] at hxc
        exact hxc
    · have fp : 0 < f := by omega
      obtain ⟨g1, g2, g3, g4⟩ := c3 (L2.length - 1) (by omega) (by omega)
      refine ⟨?_, g1, g3⟩
      rw [show n.toNat = y1.length + (L2.length - 1 - L1.length) by omega, g4]
      omega
  obtain ⟨w1, w2, w3⟩ := hlast
  have hgd : y2.getD n.toNat 0 = L2.length - 1 := by
    have : wy y2 n.toNat = L2.length - 1 := by omega
    exact this
  have L2p : 0 < L2.length := by omega
  rw [hgd]
  have v3 := c1.fin (p := L2.length - 1) (h := h) (by omega) (by rw [y2l]; show wy y2 (n.toNat + 1 - 1) = _; rw [show n.toNat + 1 - 1 = n.toNat by omega]; omega) w2 hh1 hh2
  have hE : ∀ i, nd8 (dnE L2 (L2.length - 1) h) i = if i = L2.length - 1 then { nd8 L2 (L2.length - 1) with hop := IntKind.u16.wrap h, count := IntKind.i32.wrap ((nd8 L2 (L2.length - 1)).count + 1) } else nd8 L2 i := fun i => by
    unfold dnE
    rw [nd8_set _ _ _ _ (by omega)]
  have lE : (dnE L2 (L2.length - 1) h).length = L2.length := by simp [dnE]
  have lnE : ∀ i, ln (dnE L2 (L2.length - 1) h) i = ln L2 i := fun i => by unfold ln; rw [hE]; split <;> simp_all
  have adE : ∀ i, ad (ws ++ [x]) (dnE L2 (L2.length - 1) h) i = ad (ws ++ [x]) L2 i := fun i => by unfold ad; rw [hE]; split <;> simp_all
  have hpE : ∀ i, ¬ i = L2.length - 1 → hp (dnE L2 (L2.length - 1) h) i = hp L2 i := fun i q => by unfold hp; rw [hE, if_neg q]
  have hpL : hp (dnE L2 (L2.length - 1) h) (L2.length - 1) = h := by
    unfold hp; rw [hE, if_pos rfl]
    show IntKind.u16.wrap h = h
    rw [IntKind.wrap_u16]; omega
  have lnn : ln L2 (L2.length - 1) = n := by
    have := (c1.way n.toNat (by omega)).2.1
    rw [show wy y2 n.toNat = L2.length - 1 by omega] at this
    rw [this]; omega
  have oldE : ∀ i, i < L.length → (ln (dnE L2 (L2.length - 1) h) i = ln L i ∧ ad (ws ++ [x]) (dnE L2 (L2.length - 1) h) i = ad ws L i) := fun i q => by
    rw [lnE, adE]
    have := XT.2 i q
    exact ⟨this.1, this.2.2⟩
  have newE : ∀ i, L.length ≤ i → i < L2.length → hp L2 i = 0 := fun i q1 q2 => (c3 i (by omega) (by omega)).1
  rw [← hM] at y1l
  refine ⟨?_, ?_, ?_, ?_⟩
  · rw [lE]
    omega
  · intro i hi
    rw [lE, (oldE i hi).1, (oldE i hi).2]
    refine ⟨rfl, rfl, fun q => ?_⟩
    rw [hpE i (by omega), (XT.2 i hi).2.1]
  · intro i h1 h2
    rw [lE] at h2
    obtain ⟨d1, d2, d3, -⟩ := c3 i (by omega) (by omega)
    rw [lE, lnE, adE, d2, d3]
    refine ⟨?_, rfl, fun q => ?_⟩
    · omega
    · rw [hpE i (by omega)]; exact d1
  · rw [lE]; exact hpL
/-- The prefixes that the document lays: so many, from a length on. -/
def dcN (x : BitVec 128) (m : Nat) : Nat → List (BitVec 128 × Int)
  | 0 => []
  | f + 1 => dcN x m f ++ [(cutW x ((m + f + 1 : Nat) : Int), ((m + f + 1 : Nat) : Int))]
theorem dcN_len (x : BitVec 128) (m : Nat) : ∀ f, (dcN x m f).length = f
  | 0 => rfl
  | f + 1 => by simp only [dcN, List.length_append, List.length_singleton, dcN_len x m f]
theorem dcN_get (x : BitVec 128) (m : Nat) : ∀ f i, i < f → (dcN x m f)[i]? = some (cutW x ((m + i + 1 : Nat) : Int), ((m + i + 1 : Nat) : Int))
  | 0, i, h => by omega
  | f + 1, i, h => by
    simp only [dcN]
    by_cases c : i < f
    · rw [List.getElem?_append_left (by rw [dcN_len]; exact c)]
      exact dcN_get x m f i c
    · have : i = f := by omega
      subst this
      rw [List.getElem?_append_right (by rw [dcN_len]; exact Nat.le_refl _), dcN_len]
      simp
/-- The document's prefixes and next hops are those of the nodes. -/
structure Dc (ws : List (BitVec 128)) (L : List Nd) (P : List (BitVec 128 × Int)) (Z : List Int) : Prop where
  pl : P.length = L.length
  zl : Z.length = L.length
  p : ∀ i, i < L.length → P[i]? = some (cutW (ad ws L i) (ln L i), ln L i)
  z : ∀ i, i < L.length → Z[i]? = some (hp L i)
theorem dc_new : Dc [0#128] [⟨0, 0, 0, 0, 0, 0⟩] [(0#128, 0)] [0] := by
  refine ⟨rfl, rfl, ?_, ?_⟩ <;>
  · intro i hi
    have : i = 0 := by simp at hi; exact hi
    subst this
    decide +kernel
theorem Dc.ext {ws ws' : List (BitVec 128)} {L L' : List Nd} {P : List (BitVec 128 × Int)} {Z : List Int} (d : Dc ws L P Z) (hl : L'.length = L.length) (h : ∀ i, i < L.length → ln L' i = ln L i ∧ hp L' i = hp L i ∧ ad ws' L' i = ad ws L i) : Dc ws' L' P Z :=
  ⟨by rw [hl]; exact d.pl, by rw [hl]; exact d.zl, fun i hi => by rw [hl] at hi; rw [(h i hi).1, (h i hi).2.2]; exact d.p i hi, fun i hi => by rw [hl] at hi; rw [(h i hi).2.1]; exact d.z i hi⟩
/-- A route more. -/
theorem Dc.step {F : Int} (hF : F ≤ 128) {done : List Rte} {last : BitVec 128 × Int} {s : GrS} {P : List (BitVec 128 × Int)} {Z : List Int} (d : Dc s.2.1 s.1 P Z) (g : Gs done last s) {r : Rte} (hr : RtH F r) (hl0 : 0 ≤ last.2) (hl1 : last.2 ≤ 128) (hlc : cutW last.1 last.2 = last.1) (ho : done = [] ∨ pcmpZ last.1 last.2 r.1.1 r.1.2 < 0) (hd : done.length ≤ 1048576) (M n : Nat) (hM : meetN last.1 last.2 r.1.1 r.1.2 = (M : Int)) (hn : r.1.2 = (n : Int)) :
    Dc (grT s last r).2.1 (grT s last r).1 (P ++ dcN r.1.1 M (n - M)) ((Z ++ List.replicate (n - M) 0).set (Z.length + (n - M) - 1) r.2) := by
  obtain ⟨a1, a2, a3, a4⟩ := g.grow hF hr hl0 hl1 hlc ho hd
  rw [hM, hn, Int.toNat_natCast, Int.toNat_natCast] at a1
  have hp0 := (g.inv.way 0 g.inv.y1).1
  refine ⟨?_, ?_, ?_, ?_⟩
  · rw [List.length_append, dcN_len, d.pl, a1]
  · rw [List.length_set, List.length_append, List.length_replicate, d.zl, a1]
  · intro i hi
    by_cases c : i < s.1.length
    · rw [List.getElem?_append_left (by rw [d.pl]; exact c), d.p i c, (a2 i c).1, (a2 i c).2.1]
    · obtain ⟨b1, b2, -⟩ := a3 i (by omega) hi
      rw [List.getElem?_append_right (by rw [d.pl]; omega), d.pl, dcN_get _ _ _ _ (by omega), b1, b2, hM]
      have e : ((M + (i - s.1.length) + 1 : Nat) : Int) = (M : Int) + 1 + ((i - s.1.length : Nat) : Int) := by omega
      rw [e]
  · intro i hi
    rw [List.getElem?_set, d.zl]
    by_cases c : s.1.length + (n - M) - 1 = i
    · rw [if_pos c, if_pos (by rw [List.length_append, List.length_replicate, d.zl]; omega)]
      have : i = (grT s last r).1.length - 1 := by omega
      rw [this, a4]
    · rw [if_neg c]
      by_cases e : i < s.1.length
      · rw [List.getElem?_append_left (by rw [d.zl]; exact e), d.z i e, (a2 i e).2.2 (by omega)]
      · rw [List.getElem?_append_right (by rw [d.zl]; omega), List.getElem?_replicate, if_pos (by rw [d.zl]; omega), (a3 i (by omega) hi).2.2 (by omega)]
end Go.Proofs.Ytofpbommhklooaa
/-
  What a grower's down leaves as it was: how the parts of it go together.
-/
namespace Go.Proofs.Ytofpbommhklooaa
open Go.RowKit
set_option linter.unusedSimpArgs false
set_option linter.unusedVariables false

/-- All below base, and all else that was there but the grower, the tree and their three rows. -/
def B3 (w W : World) (base G B : Nat) (vn vw vy : Value) : Prop := Below base w W ∧ w.heap.size ≤ W.heap.size ∧ ∀ z, z < w.heap.size → z ≠ G → z ≠ B → vn.ownBlock ≠ some z → vw.ownBlock ≠ some z → vy.ownBlock ≠ some z → W.heap[z]? = w.heap[z]?
theorem Nb.refl (w : World) (v : Value) : Nb w v v := fun _ e => .inl e
theorem Nb.trans {w W : World} {v v1 v2 : Value} (h : Nb w v v1) (k : Nb W v1 v2) (hs : w.heap.size ≤ W.heap.size) : Nb w v v2 := fun g e => by
  rcases k g e with q | q
  · exact h g q
  · exact .inr (Nat.le_trans hs q)
theorem Nb.ne {w : World} {v v1 : Value} (h : Nb w v v1) {z : Nat} (hz : z < w.heap.size) (hn : v.ownBlock ≠ some z) : v1.ownBlock ≠ some z := fun e => by
  rcases h z e with q | q
  · exact hn q
  · omega
section
variable {w W W' : World} {base G B : Nat} {vn vw vy vn1 vw1 vy1 : Value}
theorem B3.refl (h : base ≤ w.heap.size) : B3 w w base G B vn vw vy := ⟨(Below.refl w.heap.size w).mono h, Nat.le_refl _, fun _ _ _ _ _ _ _ => rfl⟩
theorem B3.below (k : B3 w W base G B vn vw vy) (hb : Below W.heap.size W W') (h : base ≤ W.heap.size) : B3 w W' base G B vn vw vy :=
  ⟨k.1.trans (hb.mono h), Nat.le_trans k.2.1 hb.size, fun z a b c d e f => by rw [hb.block z (Nat.lt_of_lt_of_le a k.2.1)]; exact k.2.2 z a b c d e f⟩
theorem B3.bw (k : B3 w W base G B vn vw vy) (h : Bw W W' base G B vn1 vy1) (hn : Nb w vn vn1) (hy : Nb w vy vy1) : B3 w W' base G B vn vw vy :=
  ⟨k.1.trans h.1, Nat.le_trans k.2.1 h.2.1, fun z a b c d e f => by
    rw [h.2.2 z (Nat.lt_of_lt_of_le a k.2.1) b c (hn.ne a d) (hy.ne a f)]
    exact k.2.2 z a b c d e f⟩
theorem B3.grown (k : B3 w W base G B vn vw vy) {row : Option Nat} (hg : W.grownBy W' row) (hbl : Below base w W') (hr : ∀ z, row = some z → z < w.heap.size → vn.ownBlock = some z ∨ vw.ownBlock = some z ∨ vy.ownBlock = some z) : B3 w W' base G B vn vw vy :=
  ⟨hbl, Nat.le_trans k.2.1 hg.size, fun z a b c d e f => by
    rw [hg.block z (Nat.lt_of_lt_of_le a k.2.1) (fun q => by
      rcases hr z q.symm a with h | h | h
      · exact d h
      · exact e h
      · exact f h)]
    exact k.2.2 z a b c d e f⟩
theorem B3.set (k : B3 w W base G B vn vw vy) {g : Nat} (o : Nat) (u : Value) (hb : base ≤ g) (hr : g < w.heap.size → g = G ∨ g = B ∨ vn.ownBlock = some g ∨ vw.ownBlock = some g ∨ vy.ownBlock = some g) : B3 w (W.setCell ⟨g, o, none⟩ u) base G B vn vw vy :=
  ⟨k.1.setCell (p := ⟨g, o, none⟩) hb u, by simpa using k.2.1, fun z a b c d e f => by
    rw [setB u (fun q => by
      subst q
      rcases hr a with h | h | h | h | h
      · exact b h
      · exact c h
      · exact d h
      · exact e h
      · exact f h)]
    exact k.2.2 z a b c d e f⟩
/-- A block of one's own outlives a method of the grower. -/
theorem Bw.mine (k : Bw w W base G B vn vy) {z : Nat} {o : Obj} (hz : w.heap[z]? = some o) (hG : z ≠ G) (hB : z ≠ B) (hn : vn.ownBlock ≠ some z) (hy : vy.ownBlock ≠ some z) : W.heap[z]? = some o := by
  have hl : z < w.heap.size := by
    apply Classical.byContradiction; intro q
    rw [Array.getElem?_eq_none (by omega)] at hz; cases hz
  rw [k.2.2 z hl hG hB hn hy]; exact hz
end
end Go.Proofs.Ytofpbommhklooaa
/-
  The document's tree in memory, while it grows.
-/
namespace Go.Proofs.Ytofpbommhklooaa
open Go.RowKit
set_option linter.unusedSimpArgs false
set_option linter.unusedVariables false

def rowPf : List (BitVec 128 × Int) → List Value
  | [] => []
  | p :: l => .int .u64 (hI p.1) :: .int .u64 (lI p.1) :: .int .i64 p.2 :: rowPf l
def rowZ : List Int → List Value
  | [] => []
  | k :: l => .int .i64 k :: rowZ l
theorem rowPf_app : ∀ l m, rowPf (l ++ m) = rowPf l ++ rowPf m
  | [], m => rfl
  | x :: l, m => by simp [rowPf, rowPf_app l m]
theorem rowZ_app : ∀ l m, rowZ (l ++ m) = rowZ l ++ rowZ m
  | [], m => rfl
  | x :: l, m => by simp [rowZ, rowZ_app l m]
theorem rowPf_get : ∀ (l : List (BitVec 128 × Int)) (j : Nat) (hj : j < l.length), (rowPf l)[j * 3]? = some (.int .u64 (hI l[j].1)) ∧ (rowPf l)[j * 3 + 1]? = some (.int .u64 (lI l[j].1)) ∧ (rowPf l)[j * 3 + 2]? = some (.int .i64 l[j].2)
  | x :: l, 0, _ => ⟨rfl, rfl, rfl⟩
  | x :: l, k + 1, hk => by
    have := rowPf_get l k (by simpa using hk)
    rw [show (k + 1) * 3 = k * 3 + 3 by omega, show k * 3 + 3 + 1 = k * 3 + 1 + 3 by omega, show k * 3 + 3 + 2 = k * 3 + 2 + 3 by omega]
    exact this
theorem rowZ_get : ∀ (l : List Int) (j : Nat) (hj : j < l.length), (rowZ l)[j]? = some (.int .i64 l[j])
  | x :: l, 0, _ => rfl
  | x :: l, k + 1, hk => rowZ_get l k (by simpa using hk)
theorem rowZ_set : ∀ (l : List Int) (j : Nat) (h : Int), (rowZ l).set j (.int .i64 h) = rowZ (l.set j h)
  | [], j, h => by cases j <;> rfl
  | x :: l, 0, h => rfl
  | x :: l, j + 1, h => by simp only [rowZ, List.set_cons_succ]; rw [rowZ_set l j h]
theorem rowZ_len : ∀ l, (rowZ l).length = l.length
  | [] => rfl
  | x :: l => by simp only [rowZ, List.length_cons, rowZ_len l]
theorem frB {W : World} {z j : Nat} {cs : Array Value} {T : TypeId} (h : W.heap[z]? = some (.cells cs T)) : W.frozen? ⟨z, j, none⟩ = false := by simp [World.frozen?, h]
theorem setBk {W : World} {P o : Nat} {cs : Array Value} {T : TypeId} (h : W.heap[P]? = some (.cells cs T)) (v : Value) : (W.setCell ⟨P, o, none⟩ v).heap[P]? = some (.cells (cs.setIfInBounds o v) T) := by
  simp [World.setCell, Array.getElem?_modify, h]
theorem bkLt {w : World} {z : Nat} {o : Obj} (hz : w.heap[z]? = some o) : z < w.heap.size := by
  apply Classical.byContradiction; intro q
  rw [Array.getElem?_eq_none (by omega)] at hz; cases hz
/-- The document's tree (block D) and its two rows. -/
structure DwV (W : World) (base D : Nat) (F : Int) (v : Value) (P : List (BitVec 128 × Int)) (Z : List Int) (vp vh : Value) : Prop where
  d : W.heap[D]? = some (.cells #[.int .i64 F, vp, vh, .int .i64 F, v] 66)
  op : W.ownsRow base 45 3 vp P.length (rowPf P)
  oz : W.ownsRow base 3 1 vh Z.length (rowZ Z)
  np : vp.ownBlock ≠ some D
  nz : vh.ownBlock ≠ some D
  pz : ∀ z, vp.ownBlock = some z → vh.ownBlock ≠ some z
  bD : base ≤ D
section
variable {W W' : World} {base D : Nat} {F : Int} {v : Value} {P : List (BitVec 128 × Int)} {Z : List Int} {vp vh : Value}
theorem DwV.lt (k : DwV W base D F v P Z vp vh) : D < W.heap.size := bkLt k.d
theorem DwV.base_le (k : DwV W base D F v P Z vp vh) : base ≤ W.heap.size := by
  have := k.lt
  have := k.bD
  omega
theorem DwV.keep (k : DwV W base D F v P Z vp vh) (hD : W'.heap[D]? = W.heap[D]?) (hp : ∀ z, vp.ownBlock = some z → W'.heap[z]? = W.heap[z]?) (hz : ∀ z, vh.ownBlock = some z → W'.heap[z]? = W.heap[z]?) : DwV W' base D F v P Z vp vh :=
  ⟨hD.trans k.d, own_blk k.op hp, own_blk k.oz hz, k.np, k.nz, k.pz, k.bD⟩
theorem DwV.below (k : DwV W base D F v P Z vp vh) (hb : Below W.heap.size W W') : DwV W' base D F v P Z vp vh :=
  k.keep (hb.block _ k.lt) (fun z e => hb.block z (k.op.lt z e).2) (fun z e => hb.block z (k.oz.lt z e).2)
/-- The prefixes have grown by one. -/
theorem DwV.pfx {g cap : Nat} {q : BitVec 128 × Int} (k : DwV W base D F v P Z vp vh) (hgr : W.grownBy W' vp.ownBlock) (ho : W'.ownsRow base 45 3 (.slice (some ⟨g, 0, none⟩) (P.length + 1) cap) (P.length + 1) (rowPf (P ++ [q]))) (hg : vp.ownBlock = some g ∨ W.heap.size ≤ g) :
    DwV (W'.setCell ⟨D, 1, none⟩ (.slice (some ⟨g, 0, none⟩) (P.length + 1) cap)) base D F v (P ++ [q]) Z (.slice (some ⟨g, 0, none⟩) (P.length + 1) cap) vh := by
  have hD : ¬ g = D := by
    rcases hg with h | h
    · intro e; subst e; exact k.np h
    · have := k.lt; omega
  have he : ∀ z, z < W.heap.size → vp.ownBlock ≠ some z → W'.heap[z]? = W.heap[z]? := fun z q1 q2 => hgr.block z q1 (fun e => q2 e.symm)
  have eD := (he D k.lt k.np).trans k.d
  have sD : ∀ z, ¬ z = D → (W'.setCell ⟨D, 1, none⟩ (.slice (some ⟨g, 0, none⟩) (P.length + 1) cap)).heap[z]? = W'.heap[z]? := fun z q => setB _ q
  refine ⟨by simpa using setBk (o := 1) eD (.slice (some ⟨g, 0, none⟩) (P.length + 1) cap), ?_, ?_, ?_, k.nz, ?_, k.bD⟩
  · have : (P ++ [q]).length = P.length + 1 := by simp
    rw [this]
    exact own_blk ho (fun z e => by rw [sD z (fun q => by simp [Value.ownBlock] at e; omega)])
  · exact own_blk k.oz (fun z e => by rw [sD z (fun q => k.nz (by rw [e, q])), he z (k.oz.lt z e).2 (fun q => k.pz z q e)])
  · intro e; simp [Value.ownBlock] at e; omega
  · intro z e e2
    simp [Value.ownBlock] at e
    subst e
    rcases hg with h | h
    · exact k.pz g h e2
    · have := (k.oz.lt g e2).2; omega
/-- The next hops have grown by one. -/
theorem DwV.hop {g cap : Nat} {q : Int} (k : DwV W base D F v P Z vp vh) (hgr : W.grownBy W' vh.ownBlock) (ho : W'.ownsRow base 3 1 (.slice (some ⟨g, 0, none⟩) (Z.length + 1) cap) (Z.length + 1) (rowZ (Z ++ [q]))) (hg : vh.ownBlock = some g ∨ W.heap.size ≤ g) :
    DwV (W'.setCell ⟨D, 2, none⟩ (.slice (some ⟨g, 0, none⟩) (Z.length + 1) cap)) base D F v P (Z ++ [q]) vp (.slice (some ⟨g, 0, none⟩) (Z.length + 1) cap) := by
  have hD : ¬ g = D := by
    rcases hg with h | h
    · intro e; subst e; exact k.nz h
    · have := k.lt; omega
  have he : ∀ z, z < W.heap.size → vh.ownBlock ≠ some z → W'.heap[z]? = W.heap[z]? := fun z q1 q2 => hgr.block z q1 (fun e => q2 e.symm)
  have eD := (he D k.lt k.nz).trans k.d
  have sD : ∀ z, ¬ z = D → (W'.setCell ⟨D, 2, none⟩ (.slice (some ⟨g, 0, none⟩) (Z.length + 1) cap)).heap[z]? = W'.heap[z]? := fun z q => setB _ q
  refine ⟨by simpa using setBk (o := 2) eD (.slice (some ⟨g, 0, none⟩) (Z.length + 1) cap), ?_, ?_, k.np, ?_, ?_, k.bD⟩
  · exact own_blk k.op (fun z e => by rw [sD z (fun q => k.np (by rw [e, q])), he z (k.op.lt z e).2 (k.pz z e)])
  · have : (Z ++ [q]).length = Z.length + 1 := by simp
    rw [this]
    exact own_blk ho (fun z e => by rw [sD z (fun q => by simp [Value.ownBlock] at e; omega)])
  · intro e; simp [Value.ownBlock] at e; omega
  · intro z e e2
    simp [Value.ownBlock] at e2
    subst e2
    rcases hg with h | h
    · exact k.pz g e h
    · have := (k.op.lt g e).2; omega
/-- A next hop is written. -/
theorem DwV.setZ {g cap : Nat} (k : DwV W base D F v P Z vp (.slice (some ⟨g, 0, none⟩) Z.length cap)) (j : Nat) (h : Int) (hj : j < Z.length) : DwV (W.setCell ⟨g, j, none⟩ (.int .i64 h)) base D F v P (Z.set j h) vp (.slice (some ⟨g, 0, none⟩) (Z.set j h).length cap) := by
  have hD : ¬ D = g := fun e => k.nz (by rw [e]; rfl)
  have hl : (Z.set j h).length = Z.length := by simp
  rw [hl]
  refine ⟨(setB _ hD).trans k.d, own_blk k.op (fun z e => setB _ (fun q => k.pz z e (by rw [q]; rfl))), ?_, k.np, k.nz, k.pz, k.bD⟩
  rw [hl, ← rowZ_set]
  exact (k.oz.stored j (.int .i64 h)).1
end
end Go.Proofs.Ytofpbommhklooaa
/-
  What a tree's questions tell: node, Hop, Height, Count, Kid.
-/
namespace Go.Proofs.Ytofpbommhklooaa
open Go.RowKit
set_option linter.unusedSimpArgs false
set_option linter.unusedVariables false

/-- A node's numbers are in their kinds' bounds. -/
def Nd.ok (x : Nd) : Prop := (0 ≤ x.word ∧ x.word ≤ 2147483647) ∧ (0 ≤ x.high ∧ x.high ≤ 2147483647) ∧ (0 ≤ x.count ∧ x.count ≤ 2147483647) ∧ (0 ≤ x.hop ∧ x.hop ≤ 65535) ∧ (0 ≤ x.length ∧ x.length ≤ 255) ∧ (0 ≤ x.height ∧ x.height ≤ 255)
theorem ndAt_ok {L : List Nd} (h : ∀ x ∈ L, x.ok) (n : Int) : (ndAt L n).ok := by
  have h0 : Nd.none.ok := by unfold Nd.none Nd.ok; decide
  unfold ndAt
  split
  · rw [List.getD_eq_getElem?_getD]
    cases e : L[n.toNat]? with
    | none => exact h0
    | some x => exact h x (List.mem_of_getElem? e)
  · exact h0
theorem ndAt_in {L : List Nd} (k : Nat) (hk : k < L.length) : ndAt L (k : Int) = L[k] := by
  unfold ndAt
  rw [if_pos (by omega), List.getD_eq_getElem?_getD, Int.toNat_natCast, List.getElem?_eq_getElem hk]
  rfl
theorem ndAt_out {L : List Nd} (n : Int) (h : isN L n = false) : ndAt L n = Nd.none := by
  unfold isN at h
  unfold ndAt
  split
  · rename_i c
    rw [List.getD_eq_getElem?_getD, List.getElem?_eq_none (by simp at h; have := h c; omega)]
    rfl
  · rfl
theorem fieldN_run (x : Nd) (w : World) : (Instr.field 77 (Nd.val x) 3).run Try.prog w = .ok (.int .u16 x.hop) w ∧ (Instr.field 77 (Nd.val x) 5).run Try.prog w = .ok (.int .u8 x.height) w ∧ (Instr.field 77 (Nd.val x) 2).run Try.prog w = .ok (.int .i32 x.count) w := by
  refine ⟨?_, ?_, ?_⟩ <;> kernel_rfl
theorem AtN.new (w : World) (B : Nat) (x : Nd) (t : TypeId) (h : B = w.heap.size) : AtN (w.alloc (.cells #[.int .i32 x.word, .int .i32 x.high, .int .i32 x.count, .int .u16 x.hop, .int .u8 x.length, .int .u8 x.height] t)) B 0 x := by
  subst h
  refine ⟨?_, ?_, ?_, ?_, ?_, ?_⟩ <;> simp [go_sem]
set_option maxRecDepth 20000 in
set_option maxHeartbeats 2000000 in
theorem tnode_any (B : Nat) (F : Int) (g cap : Nat) (wv : Value) (L : List Nd) (n : Int) (w : World) (h : TrN w B F g cap wv L) :
    Calls Try.prog 34 #[.pointer (some ⟨B, 0, none⟩), .int .i64 n] w fun e w' => e = .returned (ndAt L n).val ∧ Below w.heap.size w w' := by
  have q0 := bl1 w (.cells #[.int .i32 0, .int .i32 0, .int .i32 0, .int .u16 0, .int .u8 0, .int .u8 0] 77)
  have KH := thas_any B F g cap wv L n _ (h.below q0)
  have h1 := h.below q0
  cases c : isN L n with
  | false =>
    rw [ndAt_out n c]
    rw [c] at KH
    have hz : Nd.none.val = .agg #[.int .i32 0, .int .i32 0, .int .i32 0, .int .u16 0, .int .u8 0, .int .u8 0] := rfl
    rw [hz]
    clear h h1 q0 hz
    go_enter Try.func34, Try.ntmps34
    go_wp2_with fail
    refine KH.mono ?_
    rintro e w1 ⟨rfl, rfl⟩
    go_wp2
    exact bodyPost_ret (v := .agg #[.int .i32 0, .int .i32 0, .int .i32 0, .int .u16 0, .int .u8 0, .int .u8 0]) (by simp [results, Try.results34, go_sem, *]) rfl ⟨rfl, bl1 _ _⟩
  | true =>
    have c1 : 0 ≤ n ∧ n < L.length := by unfold isN at c; simpa using c
    obtain ⟨k, rfl⟩ : ∃ k : Nat, n = k := ⟨n.toNat, by omega⟩
    have hk : k < L.length := by omega
    rw [ndAt_in k hk]
    rw [c] at KH
    have hn := h1.n
    obtain ⟨r0, r1, r2, r3, r4, r5⟩ := h1.row k hk
    generalize L[k] = x at *
    unfold Nd.val
    clear h h1 c
    generalize L.length = m at *
    have hkm : (k : Int) < m := by omega
    go_enter Try.func34, Try.ntmps34
    go_wp2_with fail
    refine KH.mono ?_
    rintro e w1 ⟨rfl, rfl⟩
    go_wp2
    exact bodyPost_ret (v := .agg #[.int .i32 x.word, .int .i32 x.high, .int .i32 x.count, .int .u16 x.hop, .int .u8 x.length, .int .u8 x.height]) (by simp [results, Try.results34, go_sem, *]) rfl ⟨rfl, bl1 _ _⟩
set_option maxRecDepth 20000 in
set_option maxHeartbeats 1000000 in
theorem thop_any (B : Nat) (F : Int) (g cap : Nat) (wv : Value) (L : List Nd) (n : Int) (w : World) (h : TrN w B F g cap wv L) (ho : ∀ x ∈ L, x.ok) :
    Calls Try.prog 16 #[.pointer (some ⟨B, 0, none⟩), .int .i64 n] w fun e w' => e = .returned (.int .i64 (ndAt L n).hop) ∧ Below w.heap.size w w' := by
  have KN := tnode_any B F g cap wv L n w h
  have ok := ndAt_ok ho n
  clear h ho
  generalize ndAt L n = x at *
  have hw : IntKind.i64.wrap x.hop = x.hop := by unfold Nd.ok at ok; rw [IntKind.wrap_i64]; omega
  obtain ⟨f1, f2, f3⟩ : (∀ w, (Instr.field 77 (Nd.val x) 3).run Try.prog w = .ok (.int .u16 x.hop) w) ∧ (∀ w, (Instr.field 77 (Nd.val x) 5).run Try.prog w = .ok (.int .u8 x.height) w) ∧ (∀ w, (Instr.field 77 (Nd.val x) 2).run Try.prog w = .ok (.int .i32 x.count) w) := ⟨fun w => (fieldN_run x w).1, fun w => (fieldN_run x w).2.1, fun w => (fieldN_run x w).2.2⟩
  unfold Nd.val at KN f1 f2 f3
  go_enter Try.func16, Try.ntmps16
  go_wp2_with fail
  refine KN.mono ?_
  rintro e w1 ⟨rfl, hb⟩
  go_wp2
  exact bodyPost_ret (v := .int .i64 x.hop) (by simp [results, Try.results16, go_sem, *]) rfl ⟨rfl, hb⟩
set_option maxRecDepth 20000 in
set_option maxHeartbeats 1000000 in
theorem thei_any (B : Nat) (F : Int) (g cap : Nat) (wv : Value) (L : List Nd) (n : Int) (w : World) (h : TrN w B F g cap wv L) (ho : ∀ x ∈ L, x.ok) :
    Calls Try.prog 19 #[.pointer (some ⟨B, 0, none⟩), .int .i64 n] w fun e w' => e = .returned (.int .i64 (ndAt L n).height) ∧ Below w.heap.size w w' := by
  have KN := tnode_any B F g cap wv L n w h
  have ok := ndAt_ok ho n
  clear h ho
  generalize ndAt L n = x at *
  have hw : IntKind.i64.wrap x.height = x.height := by unfold Nd.ok at ok; rw [IntKind.wrap_i64]; omega
  obtain ⟨f1, f2, f3⟩ : (∀ w, (Instr.field 77 (Nd.val x) 3).run Try.prog w = .ok (.int .u16 x.hop) w) ∧ (∀ w, (Instr.field 77 (Nd.val x) 5).run Try.prog w = .ok (.int .u8 x.height) w) ∧ (∀ w, (Instr.field 77 (Nd.val x) 2).run Try.prog w = .ok (.int .i32 x.count) w) := ⟨fun w => (fieldN_run x w).1, fun w => (fieldN_run x w).2.1, fun w => (fieldN_run x w).2.2⟩
  unfold Nd.val at KN f1 f2 f3
  go_enter Try.func19, Try.ntmps19
  go_wp2_with fail
  refine KN.mono ?_
  rintro e w1 ⟨rfl, hb⟩
  go_wp2
  exact bodyPost_ret (v := .int .i64 x.height) (by simp [results, Try.results19, go_sem, *]) rfl ⟨rfl, hb⟩
/-- A node's kid. -/
def kidV (L : List Nd) (n bit : Int) : Int := if bit = 0 ∧ 0 < (ndAt L n).height ∧ n + 1 ≠ (ndAt L n).high then n + 1 else if bit = 1 ∧ 0 < (ndAt L n).high then (ndAt L n).high else -1
def CK (w1 : World) (N : Nat) (x : Nd) (W : World) : Prop := AtN W N 0 x ∧ Below w1.heap.size w1 W
set_option maxRecDepth 20000 in
set_option maxHeartbeats 4000000 in
theorem tkid_any (B : Nat) (F : Int) (g cap : Nat) (wv : Value) (L : List Nd) (n bit : Int) (w : World) (h : TrN w B F g cap wv L) (ho : ∀ x ∈ L, x.ok) (hl : L.length ≤ 2147483647) :
    Calls Try.prog 20 #[.pointer (some ⟨B, 0, none⟩), .int .i64 n, .int .i64 bit] w fun e w' => e = .returned (.int .i64 (kidV L n bit)) ∧ Below w.heap.size w w' := by
  have KN := tnode_any B F g cap wv L n w h
  have ok := ndAt_ok ho n
  have hv : kidV L n bit = if bit = 0 ∧ 0 < (ndAt L n).height ∧ IntKind.i64.wrap (n + 1) ≠ (ndAt L n).high then IntKind.i64.wrap (n + 1) else if bit = 1 ∧ 0 < (ndAt L n).high then (ndAt L n).high else -1 := by
    unfold kidV
    cases c : isN L n with
    | false => rw [ndAt_out n c]; simp [Nd.none]
    | true =>
      have c1 : 0 ≤ n ∧ n < L.length := by unfold isN at c; simpa using c
      rw [show IntKind.i64.wrap (n + 1) = n + 1 by rw [IntKind.wrap_i64]; omega]
  rw [hv]
  clear h ho hl hv
  revert KN ok
  generalize ndAt L n = x
  generalize hb : IntKind.i64.wrap (n + 1) = b
  intro KN ok
  obtain ⟨r, hr⟩ : ∃ r : Int, r = if bit = 0 ∧ 0 < x.height ∧ b ≠ x.high then b else if bit = 1 ∧ 0 < x.high then x.high else -1 := ⟨_, rfl⟩
  rw [← hr]
  have HR : Hid (r = if bit = 0 ∧ 0 < x.height ∧ b ≠ x.high then b else if bit = 1 ∧ 0 < x.high then x.high else -1) := hr
  clear hr
  have hw : IntKind.i64.wrap x.high = x.high := by unfold Nd.ok at ok; rw [IntKind.wrap_i64]; omega
  unfold Nd.val at KN
  go_enter Try.func20, Try.ntmps20
  go_wp2_with fail
  refine KN.mono ?_
  rintro e w1 ⟨rfl, hb1⟩
  have q1 := bl1 w1 (.cells #[.int .i32 x.word, .int .i32 x.high, .int .i32 x.count, .int .u16 x.hop, .int .u8 x.length, .int .u8 x.height] 77)
  have hC : CK (w1.alloc (.cells #[.int .i32 x.word, .int .i32 x.high, .int .i32 x.count, .int .u16 x.hop, .int .u8 x.length, .int .u8 x.height] 77)) w1.heap.size x (w1.alloc (.cells #[.int .i32 x.word, .int .i32 x.high, .int .i32 x.count, .int .u16 x.hop, .int .u8 x.length, .int .u8 x.height] 77)) := ⟨AtN.new w1 w1.heap.size x 77 rfl, Below.refl _ _⟩
  have HB : Hid (Below w.heap.size w (w1.alloc (.cells #[.int .i32 x.word, .int .i32 x.high, .int .i32 x.count, .int .u16 x.hop, .int .u8 x.length, .int .u8 x.height] 77))) := keepb q1 hb1
  clear KN hb1 q1 ok
  go_wp2_with fail
  revert hC HB
  generalize w1.alloc (.cells #[.int .i32 x.word, .int .i32 x.high, .int .i32 x.count, .int .u16 x.hop, .int .u8 x.length, .int .u8 x.height] 77) = W2
  generalize w1.heap.size = N
  intro hC HB
  refine qw_region (C := CK W2 N x) (by kernel_rfl) (by kernel_rfl) ⟨hC.1.below (below_drewN (Below.refl _ _) 1), below_drewN (Below.refl _ _) 1⟩ ?_
  clear hC
  refine qw_run (v := .int .i64 n) (by rfl) ?_ ?_
  · (intro w1 hC; obtain ⟨⟨r0, r1, r2, r3, r4, r5⟩, -⟩ := hC; go_simp; first | done | (simp; done) | (simp [*]; done) | omega | (simp; omega) | (rw [IntKind.wrap_i64]; omega) | (intro hx; omega) | rfl)
  simp only [Act.put, List.setIfInBounds_toArray, List.set_cons_zero, List.set_cons_succ]
  refine qw_run (v := .int .i64 b) (by rfl) ?_ ?_
  · (intro w1 hC; obtain ⟨⟨r0, r1, r2, r3, r4, r5⟩, -⟩ := hC; go_simp; first | done | (simp; done) | (simp [*]; done) | omega | (simp; omega) | (rw [IntKind.wrap_i64]; omega) | (intro hx; omega) | rfl)
  simp only [Act.put, List.setIfInBounds_toArray, List.set_cons_zero, List.set_cons_succ]
  refine qw_run (v := .pointer (some ⟨N, 1, none⟩)) (by rfl) ?_ ?_
  · (intro w1 hC; obtain ⟨⟨r0, r1, r2, r3, r4, r5⟩, -⟩ := hC; go_simp; first | done | (simp; done) | (simp [*]; done) | omega | (simp; omega) | (rw [IntKind.wrap_i64]; omega) | (intro hx; omega) | rfl)
  simp only [Act.put, List.setIfInBounds_toArray, List.set_cons_zero, List.set_cons_succ]
  refine qw_run (v := .int .i32 x.high) (by rfl) ?_ ?_
  · (intro w1 hC; obtain ⟨⟨r0, r1, r2, r3, r4, r5⟩, -⟩ := hC; go_simp; first | done | (simp; done) | (simp [*]; done) | omega | (simp; omega) | (rw [IntKind.wrap_i64]; omega) | (intro hx; omega) | rfl)
  simp only [Act.put, List.setIfInBounds_toArray, List.set_cons_zero, List.set_cons_succ]
  refine qw_run (v := .int .i64 x.high) (by rfl) ?_ ?_
  · (intro w1 hC; obtain ⟨⟨r0, r1, r2, r3, r4, r5⟩, -⟩ := hC; go_simp; first | done | (simp; done) | (simp [*]; done) | omega | (simp; omega) | (rw [IntKind.wrap_i64]; omega) | (intro hx; omega) | rfl)
  simp only [Act.put, List.setIfInBounds_toArray, List.set_cons_zero, List.set_cons_succ]
  refine qw_run (v := .int .i64 b) (by rfl) ?_ ?_
  · (intro w1 hC; obtain ⟨⟨r0, r1, r2, r3, r4, r5⟩, -⟩ := hC; go_simp; first | done | (simp; done) | (simp [*]; done) | omega | (simp; omega) | (rw [IntKind.wrap_i64]; omega) | (intro hx; omega) | rfl)
  simp only [Act.put, List.setIfInBounds_toArray, List.set_cons_zero, List.set_cons_succ]
  refine qw_run (v := .int .i64 x.high) (by rfl) ?_ ?_
  · (intro w1 hC; obtain ⟨⟨r0, r1, r2, r3, r4, r5⟩, -⟩ := hC; go_simp; first | done | (simp; done) | (simp [*]; done) | omega | (simp; omega) | (rw [IntKind.wrap_i64]; omega) | (intro hx; omega) | rfl)
  simp only [Act.put, List.setIfInBounds_toArray, List.set_cons_zero, List.set_cons_succ]
  refine qw_nil ?_
  rintro W3 ⟨⟨r0, r1, r2, r3, r4, r5⟩, hb3⟩
  have HB3 : Hid (Below w.heap.size w W3) := keepb hb3 HB.out
  clear hb3 HB hb hw
  cases e1 : (bit == 0) with
  | true =>
    obtain rfl : bit = 0 := by simpa using e1
    clear e1
    cases e2 : decide (0 < x.height) with
    | true =>
      have e2' : 0 < x.height := by simpa using e2
      cases e3 : (b != x.high) with
      | true =>
        have e3' : b ≠ x.high := by simpa using e3
        obtain rfl : r = b := by rw [HR.out, if_pos ⟨rfl, e2', e3'⟩]
        clear HR
        clear e2' e3'
        go_wp2
        exact bodyPost_ret (v := .int .i64 r) (by simp [results, Try.results20, go_sem, *]) rfl ⟨rfl, HB3.out⟩
      | false =>
        have e3' : b = x.high := by simpa using e3
        obtain rfl : r = -1 := by rw [HR.out, if_neg (fun q => q.2.2 e3'), if_neg (fun q => by omega)]
        clear HR
        clear e2' e3'
        go_wp2
        exact bodyPost_ret (v := .int .i64 (-1)) (by simp [results, Try.results20, go_sem, *]) rfl ⟨rfl, HB3.out⟩
    | false =>
      have e2' : ¬ 0 < x.height := by simpa using e2
      obtain rfl : r = -1 := by rw [HR.out, if_neg (fun q => e2' q.2.1), if_neg (fun q => by omega)]
      clear HR
      clear e2'
      go_wp2
      exact bodyPost_ret (v := .int .i64 (-1)) (by simp [results, Try.results20, go_sem, *]) rfl ⟨rfl, HB3.out⟩
  | false =>
    have e1' : ¬ bit = 0 := by simpa using e1
    have HR2 : Hid (r = if bit = 1 ∧ 0 < x.high then x.high else -1) := by show r = _; rw [HR.out, if_neg (fun q => e1' q.1)]
    clear HR
    cases e4 : (bit == 1) with
    | true =>
      have e4' : bit = 1 := by simpa using e4
      cases e5 : decide (0 < x.high) with
      | true =>
        have e5' : 0 < x.high := by simpa using e5
        obtain rfl : r = x.high := by rw [HR2.out, if_pos ⟨e4', e5'⟩]
        clear HR2
        clear e1' e4' e5'
        go_wp2
        exact bodyPost_ret (v := .int .i64 x.high) (by simp [results, Try.results20, go_sem, *]) rfl ⟨rfl, HB3.out⟩
      | false =>
        have e5' : ¬ 0 < x.high := by simpa using e5
        obtain rfl : r = -1 := by rw [HR2.out, if_neg (fun q => e5' q.2)]
        clear HR2
        clear e1' e4' e5'
        go_wp2
        exact bodyPost_ret (v := .int .i64 (-1)) (by simp [results, Try.results20, go_sem, *]) rfl ⟨rfl, HB3.out⟩
    | false =>
      have e4' : ¬ bit = 1 := by simpa using e4
      obtain rfl : r = -1 := by rw [HR2.out, if_neg (fun q => e4' q.1)]
      clear HR2
      clear e1' e4'
      go_wp2
      exact bodyPost_ret (v := .int .i64 (-1)) (by simp [results, Try.results20, go_sem, *]) rfl ⟨rfl, HB3.out⟩
end Go.Proofs.Ytofpbommhklooaa
