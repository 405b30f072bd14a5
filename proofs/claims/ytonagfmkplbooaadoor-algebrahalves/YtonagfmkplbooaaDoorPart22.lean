/-
  Part 22 of the proof: 10 texts, one behind the other.
-/
import Derived.Test.YtonagfmkplbooaaDoorPart21
import Derived.Test.YtonagfmkplbooaaDoorPart9
import Derived.Test.YtonagfmkplbooaaDoorPart5
import Derived.Test.YtonagfmkplbooaaDoorPart11
import Derived.Test.YtonagfmkplbooaaDoorPart8
import Derived.Test.YtonagfmkplbooaaDoorPart15
import Derived.Test.YtonagfmkplbooaaDoorPart17
import Derived.Test.YtonagfmkplbooaaDoorPart16
import Derived.Test.YtonagfmkplbooaaDoorPart20
import Derived.Test.YtonagfmkplbooaaDoorPart10
import Derived.Test.YtonagfmkplbooaaDoorPart2
import Derived.Laws.CopyRow
import Derived.Test.YtonagfmkplbooaaDoorPart6
import Derived.Test.YtonagfmkplbooaaDoorPart3
/-
  What the call of turnpikeref6's edges does.
-/
namespace Go.Proofs.YtonagfmkplbooaaDoor
open Go.RowKit
set_option linter.unusedSimpArgs false
set_option linter.unusedVariables false

/-- Words in order with 0 and both ends of each route. -/
def EdS (F : Int) (S : List (BitVec 128)) (l : List Rte) (T : List (BitVec 128)) : Prop := T.Pairwise (fun a b => a.toNat < b.toNat) ∧ (∀ y, y ∈ T ↔ (y ∈ S ∨ y = 0#128 ∨ ∃ r ∈ l, y = r.1.1 ∨ (nextB F (lastW F r.1.1 r.1.2) = true ∧ y = nextV F (lastW F r.1.1 r.1.2)))) ∧ T.length ≤ S.length + 1 + 2 * l.length
theorem eds_zero (F : Int) (S T : List (BitVec 128)) (h : PutS S 0#128 T) : EdS F S [] T := by
  refine ⟨h.1, fun y => ?_, by have := h.2.2; simp; omega⟩
  rw [h.2.1 y]
  constructor
  · rintro (q | q)
    · exact .inr (.inl q)
    · exact .inl q
  · rintro (q | q | ⟨r, hr, -⟩)
    · exact .inr q
    · exact .inl q
    · cases hr
/-- One route more: its first address, and the one behind its last. -/
theorem eds_one (F : Int) (S : List (BitVec 128)) (l : List Rte) (r : Rte) (T0 T1 : List (BitVec 128)) (h : EdS F S l T0) (h1 : PutS T0 r.1.1 T1) :
    (nextB F (lastW F r.1.1 r.1.2) = true → ∀ T2, PutS T1 (nextV F (lastW F r.1.1 r.1.2)) T2 → EdS F S (l ++ [r]) T2) ∧ (nextB F (lastW F r.1.1 r.1.2) = false → EdS F S (l ++ [r]) T1) := by
  constructor
  · intro hb T2 h2
    refine ⟨h2.1, fun y => ?_, by have := h.2.2; have := h1.2.2; have := h2.2.2; simp; omega⟩
    rw [h2.2.1 y, h1.2.1 y, h.2.1 y]
    constructor
    · rintro (q | q | q | q | ⟨r', hr, q⟩)
      · exact .inr (.inr ⟨r, by simp, .inr ⟨hb, q⟩⟩)
      · exact .inr (.inr ⟨r, by simp, .inl q⟩)
      · exact .inl q
      · exact .inr (.inl q)
      · exact .inr (.inr ⟨r', List.mem_append_left _ hr, q⟩)
    · rintro (q | q | ⟨r', hr, q⟩)
      · exact .inr (.inr (.inl q))
      · exact .inr (.inr (.inr (.inl q)))
      · rcases List.mem_append.mp hr with hr | hr
        · exact .inr (.inr (.inr (.inr ⟨r', hr, q⟩)))
        · have : r' = r := by simpa using hr
          subst this
          rcases q with q | ⟨-, q⟩
          · exact .inr (.inl q)
          · exact .inl q
  · intro hb
    refine ⟨h1.1, fun y => ?_, by have := h.2.2; have := h1.2.2; simp; omega⟩
    rw [h1.2.1 y, h.2.1 y]
    constructor
    · rintro (q | q | q | ⟨r', hr, q⟩)
      · exact .inr (.inr ⟨r, by simp, .inl q⟩)
      · exact .inl q
      · exact .inr (.inl q)
      · exact .inr (.inr ⟨r', List.mem_append_left _ hr, q⟩)
    · rintro (q | q | ⟨r', hr, q⟩)
      · exact .inr (.inl q)
      · exact .inr (.inr (.inl q))
      · rcases List.mem_append.mp hr with hr | hr
        · exact .inr (.inr (.inr ⟨r', hr, q⟩))
        · have : r' = r := by simpa using hr
          subst this
          rcases q with q | ⟨q, -⟩
          · exact .inl q
          · rw [hb] at q; cases q
/-- What is known between two calls of put. -/
structure EgI (w0 w : World) (lv : Value) (F : Int) (v rv : Value) (T : List (BitVec 128)) (W : World) : Prop where
  own : W.ownsRow w0.heap.size 27 2 rv T.length (rowW T)
  t : AtU W w.heap.size F v
  gr : w.grownBy W lv.ownBlock
  ob : ∀ z, rv.ownBlock = some z → lv.ownBlock = some z ∨ w.heap.size + 1 ≤ z
  ol : ∀ z, lv.ownBlock = some z → w0.heap.size ≤ z ∧ z < w.heap.size
  bel : Below w0.heap.size w0 W
  b0 : w0.heap.size ≤ w.heap.size
theorem EgI.bs {w0 w : World} {lv : Value} {F : Int} {v rv : Value} {T : List (BitVec 128)} {W : World} (k : EgI w0 w lv F v rv T W) : w0.heap.size ≤ W.heap.size := k.bel.size
theorem EgI.below {w0 w : World} {lv : Value} {F : Int} {v rv : Value} {T : List (BitVec 128)} {W W' : World} (k : EgI w0 w lv F v rv T W) (hb : Below W.heap.size W W') : EgI w0 w lv F v rv T W' :=
  ⟨own_below hb k.own, k.t.heap (hb.block _ k.t.lt), k.gr.trans (below_grown hb), k.ob, k.ol, keepb hb k.bel, k.b0⟩
theorem EgI.put {w0 w : World} {lv : Value} {F : Int} {v rv rv' : Value} {T T' : List (BitVec 128)} {W W' : World} (k : EgI w0 w lv F v rv T W) (h : PtO w0.heap.size rv T' W rv' W') : EgI w0 w lv F v rv' T' W' := by
  obtain ⟨h1, h2, h3⟩ := h
  have hT := k.t.lt
  refine ⟨h1, k.t.heap (h2.block _ hT (fun e => ?_)), ⟨by rw [h2.os, k.gr.os], by rw [h2.tape, k.gr.tape], by rw [h2.output, k.gr.output], Nat.le_trans k.gr.size h2.size, fun z q1 q2 => ?_⟩, fun z e => ?_, k.ol, k.bel.grown h2 k.bel.size (fun z e => (k.own.lt z e).1), k.b0⟩
  · rcases k.ob _ e.symm with q | q
    · have := (k.ol _ q).2; omega
    · omega
  · rw [h2.block z (by have := k.gr.size; omega) (fun e => ?_), k.gr.block z q1 q2]
    rcases k.ob z e.symm with q | q
    · exact q2 q.symm
    · omega
  · rcases h3 z e with q | q
    · exact k.ob z q
    · exact .inr (by omega)
theorem EgI.set2 {w0 w : World} {lv : Value} {F : Int} {v rv : Value} {T : List (BitVec 128)} {W : World} (k : EgI w0 w lv F v rv T W) {M : Nat} (hM : w.heap.size + 1 ≤ M) (hne : rv.ownBlock ≠ some M) (a b : Value) : EgI w0 w lv F v rv T ((W.setCell ⟨M, 0, none⟩ a).setCell ⟨M, 1, none⟩ b) := by
  have b0 := k.b0
  refine ⟨own_heap k.own (fun g e => ?_), k.t.heap (by rw [hSet _ (by omega), hSet _ (by omega)]), grown_set2 k.gr (.inr (by omega)) _ _ _ _, k.ob, k.ol, bset2 k.bel (by omega) _ _, k.b0⟩
  have : ¬ g = M := fun q => hne (by rw [e, q])
  rw [hSet _ this, hSet _ this]
/-- The same, with the prefix that is asked. -/
def EgD (w0 w : World) (lv : Value) (F : Int) (v rv : Value) (T : List (BitVec 128)) (px : BitVec 128) (pn : Int) (N : Nat) (W : World) : Prop := EgI w0 w lv F v rv T W ∧ AtP W N px pn ∧ w.heap.size < N ∧ N < W.heap.size
theorem EgD.below {w0 w : World} {lv : Value} {F : Int} {v rv : Value} {T : List (BitVec 128)} {px : BitVec 128} {pn : Int} {N : Nat} {W W' : World} (k : EgD w0 w lv F v rv T px pn N W) (hb : Below W.heap.size W W') : EgD w0 w lv F v rv T px pn N W' := ⟨k.1.below hb, k.2.1.below hb, k.2.2.1, Nat.lt_of_lt_of_le k.2.2.2 hb.size⟩
theorem EgD.drew {w0 w : World} {lv : Value} {F : Int} {v rv : Value} {T : List (BitVec 128)} {px : BitVec 128} {pn : Int} {N : Nat} {W : World} (k : EgD w0 w lv F v rv T px pn N W) : EgD w0 w lv F v rv T px pn N W.drew := k.below (below_drewN (Below.refl _ _) 1)
theorem AtP.heapE {W W' : World} {B : Nat} {x : BitVec 128} {n : Int} (k : AtP W B x n) (e : W'.heap[B]? = W.heap[B]?) : AtP W' B x n := by
  obtain ⟨h0, h1, h2, f0, f1, f2⟩ := k
  exact ⟨by rw [cellH e]; exact h0, by rw [cellH e]; exact h1, by rw [cellH e]; exact h2, by rw [frozH e]; exact f0, by rw [frozH e]; exact f1, by rw [frozH e]; exact f2⟩
theorem EgD.set2 {w0 w : World} {lv : Value} {F : Int} {v rv : Value} {T : List (BitVec 128)} {px : BitVec 128} {pn : Int} {N : Nat} {W : World} (k : EgD w0 w lv F v rv T px pn N W) {M : Nat} (hM : N < M) (hne : rv.ownBlock ≠ some M) (a b : Value) : EgD w0 w lv F v rv T px pn N ((W.setCell ⟨M, 0, none⟩ a).setCell ⟨M, 1, none⟩ b) := by
  have h1 := k.2.2.1
  refine ⟨k.1.set2 (by omega) hne a b, k.2.1.heapE (by rw [hSet _ (by omega), hSet _ (by omega)]), h1, ?_⟩
  have := (bset2 (C := M) (Below.refl 0 W) (Nat.zero_le _) a b).size
  have := k.2.2.2
  omega
theorem at_zeroE (W : World) : At (W.alloc (.cells #[.int .u64 0, .int .u64 0] 27)) W.heap.size 0#128 := by
  have := at_new W W.heap.size 0#128 27 rfl
  rwa [hI_zero, lI_zero] at this
theorem At.setE {W : World} {B : Nat} {x : BitVec 128} (k : At W B x) (y : BitVec 128) : At ((W.setCell ⟨B, 0, none⟩ (.int .u64 (hI y))).setCell ⟨B, 1, none⟩ (.int .u64 (lI y))) B y := by
  obtain ⟨c0, c1, f0, f1, h⟩ := k
  refine ⟨?_, ?_, ?_, ?_, ?_⟩ <;> simp [go_sem, c0, c1, f0, f1, h]
end Go.Proofs.YtonagfmkplbooaaDoor
/-
  What the call of turnpikeref6's joined does.
-/
namespace Go.Proofs.YtonagfmkplbooaaDoor
open Go.RowKit
set_option linter.unusedSimpArgs false
set_option linter.unusedVariables false

theorem newsAtG {W : World} {N : Nat} {x y : BitVec 128} {h : Int} (k : AtG W N x y h) : ∀ j u, [Value.int .u64 (hI x), .int .u64 (lI x), .int .u64 (hI y), .int .u64 (lI y), .int .i64 h][j]? = some u → W.cell? ((⟨N, 0, none⟩ : Addr).add j) = some u := by
  intro j u hj
  obtain ⟨k0, k1, k2, k3, k4, -⟩ := k
  match j, hj with
  | 0, hj => simp at hj; subst hj; rw [addA]; exact k0
  | 1, hj => simp at hj; subst hj; rw [addA]; exact k1
  | 2, hj => simp at hj; subst hj; rw [addA]; exact k2
  | 3, hj => simp at hj; subst hj; rw [addA]; exact k3
  | 4, hj => simp at hj; subst hj; rw [addA]; exact k4
/-- What is known between two rounds. -/
structure JoI (w : World) (L0 : Nat) (la : BitVec 128) (lv : Value) (st : List Sg) (W : World) : Prop where
  own : W.ownsRow (L0 + 1) 52 5 lv st.length (rowG st.reverse)
  la : At W L0 la
  bel : Below w.heap.size w W
  l0 : w.heap.size ≤ L0
theorem JoI.below {w : World} {L0 : Nat} {la : BitVec 128} {lv : Value} {st : List Sg} {W W' : World} (k : JoI w L0 la lv st W) (hb : Below W.heap.size W W') : JoI w L0 la lv st W' := ⟨own_below hb k.own, k.la.below hb, keepb hb k.bel, k.l0⟩
theorem JoI.app {w : World} {L0 : Nat} {la : BitVec 128} {lv : Value} {st : List Sg} {W w4 : World} (k : JoI w L0 la lv st W) {n : Nat} (hn : st.length = n) (ex : BitVec 128) (eh : Int) (g cap : Nat)
    (hown : w4.ownsRow (L0 + 1) 52 5 (.slice (some ⟨g, 0, none⟩) (n + 1) cap) (n + 1) (rowG st.reverse ++ [.int .u64 (hI ex), .int .u64 (lI ex), .int .u64 (hI la), .int .u64 (lI la), .int .i64 eh])) (hg : W.grownBy w4 lv.ownBlock) :
    JoI w L0 la (.slice (some ⟨g, 0, none⟩) (n + 1) cap) (((ex, la), eh) :: st) w4 := by
  refine ⟨?_, k.la.heap (hg.block _ k.la.2.2.2.2 (fun e => ?_)) hg.size, k.bel.grown hg k.bel.size (fun z e => by have := (k.own.lt z e).1; have := k.l0; omega), k.l0⟩
  · rw [List.length_cons, hn, List.reverse_cons, rowG_one]
    exact hown
  · have := (k.own.lt _ e.symm).1
    omega
theorem JoI.set {w : World} {L0 : Nat} {la : BitVec 128} {st : List Sg} {ax ay : BitVec 128} {ah : Int} {g cap n : Nat} {W : World} (k : JoI w L0 la (.slice (some ⟨g, 0, none⟩) (n + 1) cap) (((ax, ay), ah) :: st) W) (hn : st.length = n) (y : BitVec 128) :
    JoI w L0 la (.slice (some ⟨g, 0, none⟩) (n + 1) cap) (((ax, y), ah) :: st) ((W.setCell ⟨g, n * 5 + 2, none⟩ (.int .u64 (hI y))).setCell ⟨g, n * 5 + 3, none⟩ (.int .u64 (lI y))) := by
  have h0 := k.own
  rw [List.length_cons, hn, List.reverse_cons] at h0
  obtain ⟨h1, g1⟩ := h0.stored (n * 5 + 2) (.int .u64 (hI y))
  obtain ⟨h2, g2⟩ := h1.stored (n * 5 + 3) (.int .u64 (lI y))
  have hgl := (h0.lt g rfl).1
  have hg : w.heap.size ≤ g := by have := k.l0; omega
  refine ⟨?_, k.la.heap (by rw [hSet _ (by omega), hSet _ (by omega)]) (by simp), (k.bel.setCell (p := ⟨g, n * 5 + 2, none⟩) hg _).setCell (p := ⟨g, n * 5 + 3, none⟩) hg _, k.l0⟩
  rw [List.length_cons, hn, List.reverse_cons, rowG_one]
  rw [rowG_one, setG (rowG st.reverse) n (by rw [rowG_len, List.length_reverse, hn])] at h2
  exact h2
theorem jn_drop (F : Int) (st : List Sg) (Z : List (BitVec 128 × Int)) (k : Nat) (hk : k < Z.length) : jn F st (Z.drop k) = jn F st (Z[k] :: Z.drop (k + 1)) := by rw [List.drop_eq_getElem_cons hk]
end Go.Proofs.YtonagfmkplbooaaDoor
/-
  A table whose neighbours are in order is in order.
-/
namespace Go.Proofs.YtonagfmkplbooaaDoor
open Go.RowKit

theorem ord_adj {l : List Rte} (h : Adj l) : OrdR l := by
  intro a b hb hab
  induction b with
  | zero => omega
  | succ b ih =>
    have h1 := (pcmp_lt _ _ _ _).1 (h b hb)
    rcases Nat.lt_or_eq_of_le (Nat.le_of_lt_succ hab) with q | q
    · have h2 := (pcmp_lt _ _ _ _).1 (ih (by omega) q)
      refine (pcmp_lt _ _ _ _).2 ?_
      omega
    · subst q
      exact h a hb
end Go.Proofs.YtonagfmkplbooaaDoor
/-
  What a table's check says, plainly.
-/
namespace Go.Proofs.YtonagfmkplbooaaDoor
set_option linter.unusedSimpArgs false
set_option linter.unusedVariables false

theorem ord_pair {l : List Rte} (h : OrdR l) : l.Pairwise (fun a b => pcmpZ a.1.1 a.1.2 b.1.1 b.1.2 < 0) := by
  rw [List.pairwise_iff_getElem]
  intro i j hi hj hij
  exact h i j hj hij
/-- What Check's OK says of a table. -/
theorem tab_ok {F : Int} {l : List Rte} (h : TabE F l 0) : fam F = true ∧ l.length ≤ 1048576 ∧ (∀ r ∈ l, Ro F r) ∧ l.Pairwise (fun a b => pcmpZ a.1.1 a.1.2 b.1.1 b.1.2 < 0) := by
  have h0 : rtsE F l = 0 := by
    by_cases h' : rtsE F l = 0
    · exact h'
    · have := h.1 h'; omega
  obtain ⟨hf, h1, h2⟩ := rts_all F l h0
  rcases h.2 h0 with ⟨ha, -⟩ | ⟨-, q⟩
  · exact ⟨hf, h1, fun r hr => rte_ro F r hf (h2 r hr), ord_pair (ord_adj ha)⟩
  · omega
theorem zero_right (F : Int) (hf : fam F = true) : rightE F 0#128 = 0 := by
  rcases fam_ways F hf with rfl | rfl <;> decide +kernel
theorem rt_right (F : Int) (hf : fam F = true) (r : Rte) (h : Ro F r) : rightE F r.1.1 = 0 := by
  exact right_of F _ hf (rt_fam F _ _ h.1)
theorem ro_cells {F : Int} {l : List Rte} (hf : fam F = true) (hL : ∀ r ∈ l, Ro F r) : ∀ r ∈ l, 0 ≤ r.1.2 ∧ r.1.2 ≤ 128 ∧ cutW r.1.1 r.1.2 = r.1.1 := by
  intro r hr
  obtain ⟨⟨h0, h1, h2⟩, -⟩ := hL r hr
  have : F ≤ 128 := by rcases fam_ways F hf with rfl | rfl <;> decide
  exact ⟨h0, by omega, h2⟩
end Go.Proofs.YtonagfmkplbooaaDoor
/-
  What the call of turnpikeref6's Segs does.
-/
namespace Go.Proofs.YtonagfmkplbooaaDoor
open Go.RowKit
set_option linter.unusedSimpArgs false
set_option linter.unusedVariables false

def rowI (l : List Int) : List Value := l.map fun h => .int .i64 h
theorem rowI_one (l : List Int) (h : Int) : rowI (l ++ [h]) = rowI l ++ [.int .i64 h] := by simp [rowI]
theorem newsI {W : World} {N : Nat} {h : Int} (k : W.cell? ⟨N, 0, none⟩ = some (.int .i64 h)) : ∀ j u, [Value.int .i64 h][j]? = some u → W.cell? ((⟨N, 0, none⟩ : Addr).add j) = some u := by
  intro j u hj
  match j, hj with
  | 0, hj => simp at hj; subst hj; rw [addA]; exact k
theorem oneI (h : Int) : ∀ u ∈ [Value.int .i64 h], u.oneCell' = true := by
  intro u hu; simp at hu; rcases hu with rfl; rfl
theorem Tryd.infoI : (Tryd.prog.info? 3).map (fun i => (i.zero, i.size, i.bytes)) = some (some (.int .i64 0), 1, 8) := by kernel_rfl
theorem ownI_cells {W : World} {base n g c : Nat} {l : List Int} (h : W.ownsRow base 3 1 (.slice (some ⟨g, 0, none⟩) n c) n (rowI l)) (j : Nat) (hj : j < l.length) : W.cell? ⟨g, j, none⟩ = some (.int .i64 l[j]) := by
  have := h.cells (g := g) rfl j (.int .i64 l[j]) (by simp [rowI, hj])
  rwa [addA, Nat.zero_add] at this
/-- What is known while the next hops are told. -/
structure HpI (w : World) (F : Int) (v : Value) (B0 : Nat) (va : Value) (E : List (BitVec 128)) (vh : Value) (H : List Int) (W : World) : Prop where
  t : AtU W w.heap.size F v
  at' : W.ownsRow w.heap.size 27 2 va E.length (rowW E)
  hp : W.ownsRow B0 3 1 vh H.length (rowI H)
  bel : Below w.heap.size w W
  va : ∀ z, va.ownBlock = some z → z < B0
  b0 : w.heap.size < B0
  bs : B0 ≤ W.heap.size
theorem HpI.below {w : World} {F : Int} {v : Value} {B0 : Nat} {va : Value} {E : List (BitVec 128)} {vh : Value} {H : List Int} {W W' : World} (k : HpI w F v B0 va E vh H W) (hb : Below W.heap.size W W') : HpI w F v B0 va E vh H W' :=
  ⟨k.t.heap (hb.block _ k.t.lt), own_below hb k.at', own_below hb k.hp, keepb hb k.bel, k.va, k.b0, Nat.le_trans k.bs hb.size⟩
theorem HpI.app {w : World} {F : Int} {v : Value} {B0 : Nat} {va : Value} {E : List (BitVec 128)} {vh : Value} {H : List Int} {W w4 : World} (k : HpI w F v B0 va E vh H W) {n : Nat} (hn : H.length = n) (eh : Int) (g cap : Nat)
    (hown : w4.ownsRow B0 3 1 (.slice (some ⟨g, 0, none⟩) (n + 1) cap) (n + 1) (rowI H ++ [.int .i64 eh])) (hg : W.grownBy w4 vh.ownBlock) : HpI w F v B0 va E (.slice (some ⟨g, 0, none⟩) (n + 1) cap) (H ++ [eh]) w4 := by
  have b0 := k.b0
  refine ⟨k.t.heap (hg.block _ k.t.lt (fun e => ?_)), own_heap k.at' (fun z e => hg.block z (k.at'.lt z e).2 (fun q => ?_)), ?_, k.bel.grown hg k.bel.size (fun z e => by have := (k.hp.lt z e).1; omega), k.va, k.b0, Nat.le_trans k.bs hg.size⟩
  · have := (k.hp.lt _ e.symm).1; omega
  · have h1 := (k.hp.lt _ q.symm).1
    have h2 := k.va z e
    omega
  · rw [List.length_append, hn, rowI_one]
    exact hown
theorem eds_ends {F : Int} {S T : List (BitVec 128)} {l : List Rte} (h : EdS F S l T) : Ends F T l := fun r hr => ⟨(h.2.1 _).mpr (.inr (.inr ⟨r, hr, .inl rfl⟩)), fun hb => (h.2.1 _).mpr (.inr (.inr ⟨r, hr, .inr ⟨hb, rfl⟩⟩))⟩
theorem eds_zero_mem {F : Int} {S T : List (BitVec 128)} {l : List Rte} (h : EdS F S l T) : 0#128 ∈ T := (h.2.1 _).mpr (.inr (.inl rfl))
theorem eds_right {F : Int} {S T : List (BitVec 128)} {l : List Rte} (hf : fam F = true) (hL : ∀ r ∈ l, Ro F r) (hS : ∀ y ∈ S, rightE F y = 0) (h : EdS F S l T) : ∀ y ∈ T, rightE F y = 0 := by
  intro y hy
  rcases (h.2.1 y).mp hy with q | q | ⟨r, hr, q | ⟨q1, q2⟩⟩
  · exact hS y q
  · rw [q]; exact zero_right F hf
  · rw [q]; exact rt_right F hf r (hL r hr)
  · rw [q2]
    obtain ⟨_, hf', _, h3⟩ := next_nat F _ q1
    exact right_of F _ hf' h3
theorem mat_eq_look (F : Int) (x : BitVec 128) (l : List Rte) (hL : ∀ q ∈ l, Ro F q) (hO : l.Pairwise (fun a b => pcmpZ a.1.1 a.1.2 b.1.1 b.1.2 < 0)) : hopM (mat x none l) = look x 0 l := mat_look F x l none (fun o e => by cases e) hL hO
end Go.Proofs.YtonagfmkplbooaaDoor
/-
  What the calls of the law's SameRoutes, Same (of two that are the same) and Right do.
-/
namespace Go.Proofs.YtonagfmkplbooaaDoor
open Go.RowKit
set_option linter.unusedSimpArgs false
set_option linter.unusedVariables false

theorem eqR_run (x : BitVec 128) (n h : Int) (w : World) :
    (Op.equalIn 10000 50 (.agg #[.int .u64 (hI x), .int .u64 (lI x), .int .i64 n, .int .i64 h]) (.agg #[.int .u64 (hI x), .int .u64 (lI x), .int .i64 n, .int .i64 h])).run Tryd.prog w = .ok true w := by
  go_simp
/-- Is a table right? -/
def RightT (F : Int) (l : List Rte) : Prop := l.length ≤ 3000 ∧ rtsE F l = 0 ∧ Adj l
set_option maxHeartbeats 2000000 in
theorem rightT_any (F : Int) (v : Value) (l : List Rte) (w : World) (hv : RwR w v l) :
    Calls Tryd.prog 7 #[.agg #[.int .i64 F, v]] w fun e w' => (∃ r : Bool, (r = true → RightT F l) ∧ e = .returned (.bool r)) ∧ Below w.heap.size w w' := by
  have b1 := bl1 w (.cells #[.int .i64 F, v] 24)
  have KC := rcheckT_any F v l _ (hv.below b1)
  obtain ⟨p0, p1⟩ := att_new w w.heap.size F v 24 rfl
  have HB := hidR b1
  obtain ⟨ao, c, rfl, -⟩ := hv
  clear b1
  by_cases hl : l.length ≤ 3000
  · have h1 : (l.length : Int) ≤ 3000 := by omega
    go_enter Tryd.func7, Tryd.ntmps7
    go_wp2_with fail
    refine KC.mono ?_
    rintro e w1 ⟨⟨z, hz, rfl⟩, hb⟩
    have kB := keepb hb HB.out
    have HE : Hid ((z == 0) = true → RightT F l) := hidR (fun h => by
      have h0 : z = 0 := by simpa using h
      subst h0
      have hr : rtsE F l = 0 := Classical.byContradiction fun hn => hn (hz.1 hn).symm
      refine ⟨hl, hr, ?_⟩
      rcases hz.2 hr with ⟨q, -⟩ | ⟨-, q⟩
      · exact q
      · omega)
    clear KC hb HB p0 p1 hz
    go_wp2
    go_ret
    exact ⟨⟨z == 0, HE.out, rfl⟩, kB⟩
  · have h1 : ¬ (l.length : Int) ≤ 3000 := by omega
    clear KC
    go_enter Tryd.func7, Tryd.ntmps7
    go_wp2
    go_ret
    exact ⟨.inl rfl, HB.out⟩
end Go.Proofs.YtonagfmkplbooaaDoor
/-
  copy of a row of any elements; what the calls of the law's Lend and Kept of tables do.
-/
namespace Go.Proofs.YtonagfmkplbooaaDoor
open Go.RowKit
set_option linter.unusedSimpArgs false
set_option linter.unusedVariables false

theorem wpList_copy_any5 {P : Program} {w : World} {ops : Array Oper} {rest : List Oper} {o : Oper} {a : Act} {Q : Exit → Act → World → Prop} (hgd : o.guard = none) (d s : Operand) (dT sT : TypeId)
    (ho : o.op = .call { callee := .builtin .copy, args := #[d, s], argTypes := #[dT, sT] }) (elem : TypeId) (i : TypeInfo) (size : Nat) (hu : P.underlying dT = some (.slice elem)) (hi : P.info? elem = some i) (hsize : i.size = size)
    (base g n cap : Nat) (xs : List Value) (hd : a.eval d = .slice (some ⟨g, 0, none⟩) n cap) (hown : w.ownsRow base elem size (.slice (some ⟨g, 0, none⟩) n cap) n xs)
    (sp : Option Addr) (sLen sCap : Nat) (hs : a.eval s = .slice sp sLen sCap) (hle : sLen ≤ n) (cs : List Value) (hcl : cs.length = sLen * size) (h0 : sp = none → cs = []) (hsrc : ∀ ad, sp = some ad → ∀ j v, cs[j]? = some v → w.cell? (ad.add j) = some v) (h1 : ∀ v ∈ cs, v.oneCell' = true)
    (h : ∀ w', w'.ownsRow base elem size (.slice (some ⟨g, 0, none⟩) n cap) n (cs ++ xs.drop cs.length) → w.grownBy w' (some g) → wpList P ops Q rest (a.put o.dst (goInt sLen)) w') : wpList P ops Q (o :: rest) a w := by
  rcases hown.2 with ⟨h', _⟩ | ⟨g', cap', cur, h', hb, hg, hnc, hcm, hcs, htake⟩
  · cases h'
  · simp only [Value.slice.injEq, Option.some.injEq, Addr.mk.injEq, and_true, true_and] at h'
    obtain ⟨rfl, rfl⟩ := h'
    subst hsize
    have hxl : xs.length = n * i.size := hown.1
    have hfit : cs.length ≤ n * i.size := by rw [hcl]; exact Nat.mul_le_mul_right _ hle
    have hnc' : n * i.size ≤ cap * i.size := Nat.mul_le_mul_right _ hnc
    have hfc : (Builtin.firstCells i.size sLen (.slice sp sLen sCap)).run P w = .ok cs.toArray w := by
      cases sp with
      | none => rw [h0 rfl]; exact run_firstCells_none w i.size sLen sLen sCap
      | some ad => exact run_firstCells_some w i.size sLen ad sLen sCap cs hcl (hsrc ad rfl)
    have hst := run_storeCells_at P g 0 elem cs 0 cur w hg (by simp; omega) h1
    have hmin : Nat.min sLen n = sLen := Nat.min_eq_left hle
    refine wpList_plain hgd fun K hK => ?_
    unfold Oper.wp
    simp only [Nat.add_zero, List.take_zero, List.nil_append, Nat.zero_add] at hst
    simp [execOp, ho, resolve, invoke, builtin, hd, hs, Builtin.copy_, run_underlying hu, Builtin.lenOf, sizeOf, typeInfo, hi, hmin, hfc, hst, Result.andThen]
    refine hK _ _ (h _ ?_ ?_)
    · refine ⟨?_, .inr ⟨g, cap, (cs ++ cur.toList.drop cs.length).toArray, rfl, hb, setRow_heap w g cur _ elem _ hg, hnc, hcm, ?_, ?_⟩⟩
      · rw [List.length_append, List.length_drop]; omega
      · simp; omega
      · show ((cs ++ cur.toList.drop cs.length)).take (n * i.size) = _
        rw [List.take_append, List.take_of_length_le hfit, ← htake, List.drop_take]
    · exact ⟨rfl, rfl, rfl, by simp [World.setRow], fun k _ hk => setRow_other w g k _ (fun e => hk (by simp [e]))⟩
/-- The marks behind a list. -/
def mkR (n j : Nat) : List Rte := (List.range j).map fun (q : Nat) => ((0#128, 0), -7 - ((n : Int) + (q : Int)))
theorem mkR_succ (n j : Nat) : mkR n (j + 1) = mkR n j ++ [((0#128, 0), -7 - ((n : Int) + (j : Int)))] := by
  unfold mkR
  rw [List.range_succ, List.map_append]
  rfl
theorem mkR_len (n j : Nat) : (mkR n j).length = j := by unfold mkR; simp
theorem rowR_len5 : ∀ l, (rowR l).length = l.length * 4 := by
  intro l
  induction l with
  | nil => rfl
  | cons p l ih => simp only [rowR, List.length_cons, ih]; omega
theorem rowR_app5 : ∀ l m, rowR (l ++ m) = rowR l ++ rowR m := by
  intro l
  induction l with
  | nil => intro m; rfl
  | cons p l ih => intro m; simp [rowR, ih]
theorem rowR_one5 (l : List Rte) (x : BitVec 128) (n h : Int) : rowR (l ++ [((x, n), h)]) = rowR l ++ [.int .u64 (hI x), .int .u64 (lI x), .int .i64 n, .int .i64 h] := by rw [rowR_app5]; rfl
theorem rowR_cell5 (l : List Rte) : ∀ u ∈ rowR l, u.oneCell' = true := by
  induction l with
  | nil => intro u hu; cases hu
  | cons p l ih =>
    intro u hu
    simp only [rowR, List.mem_cons] at hu
    rcases hu with rfl | rfl | rfl | rfl | hu
    · rfl
    · rfl
    · rfl
    · rfl
    · exact ih u hu
theorem set4L (A rs : List Value) (n : Nat) (hn : A.length = n) (x y z u : Value) (h : 4 ≤ rs.length) : ((((A ++ rs).set n x).set (n + 1) y).set (n + 2) z).set (n + 3) u = A ++ x :: y :: z :: u :: rs.drop 4 := by
  subst hn
  match rs, h with
  | a :: b :: c :: d :: rs, _ =>
    rw [List.set_append_right _ _ (Nat.le_refl _), Nat.sub_self, List.set_append_right _ _ (by omega), List.set_append_right _ _ (by omega), List.set_append_right _ _ (by omega)]
    have e1 : A.length + 1 - A.length = 1 := by omega
    have e2 : A.length + 2 - A.length = 2 := by omega
    have e3 : A.length + 3 - A.length = 3 := by omega
    rw [e1, e2, e3]
    rfl
theorem drop4 (xs : List Value) (k : Nat) (x y z u : Value) : ((((xs.set (k * 4) x).set (k * 4 + 1) y).set (k * 4 + 2) z).set (k * 4 + 3) u).drop ((k + 1) * 4) = xs.drop ((k + 1) * 4) := by
  rw [List.drop_set_of_lt (by omega), List.drop_set_of_lt (by omega), List.drop_set_of_lt (by omega), List.drop_set_of_lt (by omega)]
theorem drop_get5 (xs ys : List Value) (m : Nat) (h : xs.drop m = ys.drop m) (r : Nat) : xs[m + r]? = ys[m + r]? := by
  have := congrArg (fun z => z[r]?) h
  simpa [List.getElem?_drop] using this
theorem stopHere5 {P : Program} {w : World} {ops : Array Oper} {rest : List Oper} {a : Act} {Q : Exit → Act → World → Prop} {o : Oper} (h : Hid (wpList P ops Q (o :: rest) a w)) : wpList P ops Q (o :: rest) a w := h.out
theorem Tryd.infoR5 : (Tryd.prog.info? 50).map (fun i => (i.zero, i.size, i.bytes)) = some (some (.agg #[.int .u64 0, .int .u64 0, .int .i64 0, .int .i64 0]), 4, 32) := by kernel_rfl
/-- A table, and the one that is answered. -/
def LnT (w : World) (F : Int) (v : Value) (W : World) : Prop := AtU W w.heap.size F v ∧ AtU W (w.heap.size + 1) 0 (.slice none 0 0)
theorem LnT.heap {w : World} {F : Int} {v : Value} {W W' : World} (k : LnT w F v W) (h : ∀ z, z < w.heap.size + 2 → W'.heap[z]? = W.heap[z]?) : LnT w F v W' := ⟨k.1.heap (h _ (by omega)), k.2.heap (h _ (by omega))⟩
end Go.Proofs.YtonagfmkplbooaaDoor
/-
  What the call of the law's Kept of tables does.
-/
namespace Go.Proofs.YtonagfmkplbooaaDoor
open Go.RowKit
set_option linter.unusedSimpArgs false
set_option linter.unusedVariables false

/-- All but one block is as it was. -/
def Sty (g : Nat) (W W' : World) : Prop := W'.os = W.os ∧ W'.tape = W.tape ∧ W'.output = W.output ∧ W.heap.size ≤ W'.heap.size ∧ ∀ z, z < W.heap.size → z ≠ g → W'.heap[z]? = W.heap[z]?
theorem Sty.refl (g : Nat) (W : World) : Sty g W W := ⟨rfl, rfl, rfl, Nat.le_refl _, fun _ _ _ => rfl⟩
theorem Sty.below {g : Nat} {W W' W'' : World} (h : Sty g W W') (hb : Below W'.heap.size W' W'') : Sty g W W'' := ⟨by rw [hb.os, h.1], by rw [hb.tape, h.2.1], by rw [hb.output, h.2.2.1], Nat.le_trans h.2.2.2.1 hb.size, fun z h1 h2 => by rw [hb.block z (by have := h.2.2.2.1; omega), h.2.2.2.2 z h1 h2]⟩
theorem Sty.set {g : Nat} {W W' : World} (h : Sty g W W') (j : Nat) (u : Value) : Sty g W (W'.setCell ⟨g, j, none⟩ u) := by
  have b : Below 0 W' (W'.setCell ⟨g, j, none⟩ u) := (Below.refl _ _).setCell (Nat.zero_le _) u
  exact ⟨by rw [b.os, h.1], by rw [b.tape, h.2.1], by rw [b.output, h.2.2.1], Nat.le_trans h.2.2.2.1 b.size, fun z h1 h2 => by rw [hSet _ h2, h.2.2.2.2 z h1 h2]⟩
theorem Sty.own {g : Nat} {W W' : World} (h : Sty g W W') {base e size n : Nat} {v : Value} {xs : List Value} (ho : W.ownsRow base e size v n xs) (hn : v.ownBlock ≠ some g) : W'.ownsRow base e size v n xs := own_heap ho (fun z e => h.2.2.2.2 z (ho.lt z e).2 (fun q => hn (by rw [e, q])))
theorem Sty.low {g : Nat} {w W W' : World} (h : Sty g W W') (hb : Below w.heap.size w W) (hg : w.heap.size ≤ g) : Below w.heap.size w W' := ⟨by rw [h.1, hb.os], by rw [h.2.1, hb.tape], by rw [h.2.2.1, hb.output], Nat.le_trans hb.size h.2.2.2.1, fun z hz => by rw [h.2.2.2.2 z (by have := hb.size; omega) (by omega), hb.block z hz]⟩
theorem all_get5 (l : List Rte) (k : Nat) (hk : k < l.length) (h : k < (l ++ mkR l.length 3).length) : (l ++ mkR l.length 3)[k] = l[k] := List.getElem_append_left hk
theorem all_mark5 (l : List Rte) (k : Nat) (hk : l.length ≤ k) (h : k < (l ++ mkR l.length 3).length) : (l ++ mkR l.length 3)[k] = ((0#128, 0), -7 - (k : Int)) := by
  rw [List.getElem_append_right hk]
  unfold mkR
  simp
  omega
theorem eqR5_run (w : World) (h : Int) :
    (Op.equalIn 10000 50 (.agg #[.int .u64 0, .int .u64 0, .int .i64 0, .int .i64 h]) (.agg #[.int .u64 0, .int .u64 0, .int .i64 0, .int .i64 h])).run Tryd.prog w = .ok true w := by
  go_simp
end Go.Proofs.YtonagfmkplbooaaDoor
/-
  What a call of the reference's Text does: the walk.
-/
namespace Go.Proofs.YtonagfmkplbooaaDoor
open Go.RowKit
set_option linter.unusedSimpArgs false
set_option linter.unusedVariables false

theorem own_belowH {base e size n : Nat} {v : Value} {xs : List Value} {W w' : World} (hb : Below W.heap.size W w') (h : Hid (W.ownsRow base e size v n xs)) : Hid (w'.ownsRow base e size v n xs) := own_below hb h.out

theorem news_al (W : World) (v : Value) (t : TypeId) : ∀ j u, [v][j]? = some u → (W.alloc (.cells #[v] t)).cell? ((⟨W.heap.size, 0, none⟩ : Addr).add j) = some u := by
  intro j u hj
  match j, hj with
  | 0, hj => simp at hj; subst hj; simp [Addr.add, go_sem]
theorem one_al (k : IntKind) (n : Int) : ∀ u ∈ [Value.int k n], u.oneCell' = true := by
  intro u hu; simp at hu; subst hu; rfl

end Go.Proofs.YtonagfmkplbooaaDoor
/-
  What the calls of package ranges' checkRange and widest do; rows of prefixes in memory.
-/
namespace Go.Proofs.YtonagfmkplbooaaDoor
open Go.RowKit
set_option linter.unusedSimpArgs false
set_option linter.unusedVariables false

theorem At.app {W w1 : World} {B : Nat} {x : BitVec 128} {r : Option Nat} (h : At W B x) (g : W.grownBy w1 r) (hn : some B ≠ r) : At w1 B x := by
  obtain ⟨h0, h1, h2, h3, h4⟩ := h
  exact ⟨g.cell h0 hn, g.cell h1 hn, (g.frozen_far ⟨B, 0, none⟩ h4 hn).trans h2, (g.frozen_far ⟨B, 1, none⟩ h4 hn).trans h3, Nat.lt_of_lt_of_le h4 g.size⟩
theorem AtP.app {W w1 : World} {B : Nat} {x : BitVec 128} {n : Int} {r : Option Nat} (h : AtP W B x n) (g : W.grownBy w1 r) (hn : some B ≠ r) : AtP w1 B x n := by
  obtain ⟨h0, h1, h2, h3, h4, h5⟩ := h
  have lt := cell_in h0
  exact ⟨g.cell h0 hn, g.cell h1 hn, g.cell h2 hn, (g.frozen_far ⟨B, 0, none⟩ lt hn).trans h3, (g.frozen_far ⟨B, 1, none⟩ lt hn).trans h4, (g.frozen_far ⟨B, 2, none⟩ lt hn).trans h5⟩
/-- The cells of a row of prefixes. -/
def rowP : List (BitVec 128 × Int) → List Value
  | [] => []
  | p :: l => .int .u64 (hI p.1) :: .int .u64 (lI p.1) :: .int .i64 p.2 :: rowP l
theorem rowP_app : ∀ l m, rowP (l ++ m) = rowP l ++ rowP m := by
  intro l
  induction l with
  | nil => intro m; rfl
  | cons p l ih => intro m; simp [rowP, ih]
theorem rowP_one (l : List (BitVec 128 × Int)) (x : BitVec 128) (n : Int) : rowP (l ++ [(x, n)]) = rowP l ++ [.int .u64 (hI x), .int .u64 (lI x), .int .i64 n] := by rw [rowP_app]; rfl
theorem Tryd.infoP : (Tryd.prog.info? 29).map (fun i => (i.zero, i.size, i.bytes)) = some (some (.agg #[.int .u64 0, .int .u64 0, .int .i64 0]), 3, 24) := by kernel_rfl
theorem newsP (W : World) (a b c : Value) (t : TypeId) : ∀ j u, [a, b, c][j]? = some u → (W.alloc (.cells #[a, b, c] t)).cell? ((⟨W.heap.size, 0, none⟩ : Addr).add j) = some u := by
  intro j u hj
  match j, hj with
  | 0, hj => simp at hj; subst hj; simp [Addr.add, go_sem]
  | 1, hj => simp at hj; subst hj; simp [Addr.add, go_sem]
  | 2, hj => simp at hj; subst hj; simp [Addr.add, go_sem]
theorem threeP (a b : Int) (c : Int) : ∀ u ∈ [Value.int .u64 a, Value.int .u64 b, Value.int .i64 c], u.oneCell' = true := by
  intro u hu; simp at hu; rcases hu with rfl | rfl | rfl <;> rfl
theorem At.al {W : World} {B : Nat} {x : BitVec 128} (h : At W B x) (o : Obj) : At (W.alloc o) B x := h.below (bl1 W o)
theorem AtP.al {W : World} {B : Nat} {x : BitVec 128} {n : Int} (h : AtP W B x n) (o : Obj) : AtP (W.alloc o) B x n := h.below (bl1 W o)

/-- The error of a range. -/
def covE (F : Int) (a b : BitVec 128) : Int := if rightE F a = 0 then (if rightE F b = 0 then (if cmpZ b a < 0 then 19 else 0) else rightE F b) else rightE F a
theorem rightE_ways (F : Int) (x : BitVec 128) : rightE F x = 0 ∨ rightE F x = 6 ∨ rightE F x = 11 := by
  unfold rightE; split
  · split <;> simp
  · simp
set_option maxHeartbeats 2000000 in
theorem checkRange_any (F : Int) (a b : BitVec 128) (w : World) :
    Calls Tryd.prog 64 #[.int .i64 F, .agg #[.int .u64 (hI a), .int .u64 (lI a)], .agg #[.int .u64 (hI b), .int .u64 (lI b)]] w fun e w' => e = .returned (.int .i64 (covE F a b)) ∧ Below w.heap.size w w' := by
  have KA := fun w => aright_any F a w
  have KB := fun w => aright_any F b w
  have KC := fun w => cmp_any b a w
  unfold covE
  have hx := rightE_ways F a
  have hy := rightE_ways F b
  revert KA KB KC hx hy
  generalize rightE F a = ra
  generalize rightE F b = rb
  generalize cmpZ b a = c
  intro KA KB KC hx hy
  have L0 : ∀ (o p : Obj), Below w.heap.size w ((w.alloc o).alloc p) := fun o p => bl2 w o p
  go_enter Tryd.func64, Tryd.ntmps64
  have hA : At ((w.alloc (.cells #[.int .u64 (hI a), .int .u64 (lI a)] 27)).alloc (.cells #[.int .u64 (hI b), .int .u64 (lI b)] 27)) w.heap.size a := (at_new w w.heap.size a 27 rfl).al _
  have hB : At ((w.alloc (.cells #[.int .u64 (hI a), .int .u64 (lI a)] 27)).alloc (.cells #[.int .u64 (hI b), .int .u64 (lI b)] 27)) (w.heap.size + 1) b := at_new _ (w.heap.size + 1) b 27 (by simp)
  go_wp2_with fail
  refine (KA _).mono ?_
  rintro e w1 ⟨rfl, hb1⟩
  have hA := hA.below hb1
  have hB := hB.below hb1
  have kB := keepb hb1 (L0 _ _)
  clear hb1 KA L0
  by_cases h : ra = 0
  · subst h
    obtain ⟨b0, b1, -, -, -⟩ := id hB
    go_wp2_with fail
    refine (KB _).mono ?_
    rintro e w2 ⟨rfl, hb2⟩
    have hA := hA.below hb2
    have hB := hB.below hb2
    have kB := keepb hb2 kB
    clear hb2 KB b0 b1
    by_cases h : rb = 0
    · subst h
      obtain ⟨a0, a1, -, -, -⟩ := id hA
      obtain ⟨b0, b1, -, -, -⟩ := id hB
      go_wp2_with fail
      refine (KC _).mono ?_
      rintro e w3 ⟨rfl, hb3⟩
      have kB := keepb hb3 kB
      clear hb3 KC b0 b1 a0 a1 hA hB hx hy
      by_cases hc : c < 0
      · go_wp2
        go_ret
        exact ⟨by first | rfl | (simp [*]; done), kB⟩
      · go_wp2
        go_ret
        exact ⟨by first | rfl | (simp [*]; done), kB⟩
    · have hn : (rb != 0) = true := by simp [h]
      go_wp2
      go_ret
      exact ⟨by first | rfl | (simp [*]; done), kB⟩
  · have hn : (ra != 0) = true := by simp [h]
    go_wp2
    go_ret
    exact ⟨by first | rfl | (simp [*]; done), kB⟩
theorem lead_le (z : BitVec 128) : leadN z ≤ 128 := by
  unfold leadN; split <;> omega
set_option maxHeartbeats 4000000 in
theorem widest_any (F : Int) (a b : BitVec 128) (w : World) (hT : Tab w) :
    Calls Tryd.prog 65 #[.int .i64 F, .agg #[.int .u64 (hI a), .int .u64 (lI a)], .agg #[.int .u64 (hI b), .int .u64 (lI b)]] w fun e w' => e = .returned (.agg #[.int .u64 (hI a), .int .u64 (lI a), .int .i64 (widN F a b)]) ∧ Below w.heap.size w w' := by
  have KT := fun w h => trail_any a w h
  have KN := fun w => anext_any F b w
  have KC := fun w => wcommon_any a (nextV F b) w
  unfold widN
  have ht := trail_le a
  have hl := lead_le (a ^^^ nextV F b)
  revert KT KN KC ht hl
  generalize leadN (a ^^^ nextV F b) = ld
  generalize nextV F b = nx
  generalize nextB F b = ok
  generalize trailN a = tr
  intro KT KN KC ht hl
  go_enter Tryd.func65, Tryd.ntmps65
  have g0 : Below w.heap.size w (((w.alloc (.cells #[.int .u64 (hI a), .int .u64 (lI a)] 27)).alloc (.cells #[.int .u64 (hI b), .int .u64 (lI b)] 27)).alloc (.cells #[.int .u64 0, .int .u64 0, .int .i64 0] 29)) := bl3 w _ _ _
  have hT0 := hT.keep g0
  have hA : At (((w.alloc (.cells #[.int .u64 (hI a), .int .u64 (lI a)] 27)).alloc (.cells #[.int .u64 (hI b), .int .u64 (lI b)] 27)).alloc (.cells #[.int .u64 0, .int .u64 0, .int .i64 0] 29)) w.heap.size a := ((at_new w w.heap.size a 27 rfl).al _).al _
  have hB : At (((w.alloc (.cells #[.int .u64 (hI a), .int .u64 (lI a)] 27)).alloc (.cells #[.int .u64 (hI b), .int .u64 (lI b)] 27)).alloc (.cells #[.int .u64 0, .int .u64 0, .int .i64 0] 29)) (w.heap.size + 1) b := (at_new (w.alloc (.cells #[.int .u64 (hI a), .int .u64 (lI a)] 27)) (w.heap.size + 1) b 27 (by simp)).al _
  have hZ : AtP (((w.alloc (.cells #[.int .u64 (hI a), .int .u64 (lI a)] 27)).alloc (.cells #[.int .u64 (hI b), .int .u64 (lI b)] 27)).alloc (.cells #[.int .u64 0, .int .u64 0, .int .i64 0] 29)) (w.heap.size + 2) 0#128 0 := atp_new ((w.alloc (.cells #[.int .u64 (hI a), .int .u64 (lI a)] 27)).alloc (.cells #[.int .u64 (hI b), .int .u64 (lI b)] 27)) (w.heap.size + 2) 0#128 0 29 (by simp)
  go_wp2_with fail
  refine (KT _ hT0).mono ?_
  rintro e w1 ⟨rfl, hb1⟩
  have hA := hA.below hb1
  have hB := hB.below hb1
  have hZ := hZ.below hb1
  have kB := keepb hb1 g0
  clear hb1 KT g0 hT0 hT
  obtain ⟨b0, b1, -, -, -⟩ := id hB
  have t1 : IntKind.i64.wrap (128 - (tr : Int)) = 128 - (tr : Int) := by rw [IntKind.wrap_i64]; omega
  go_wp2_with fail
  refine (KN _).mono ?_
  rintro e w2 ⟨rfl, hb2⟩
  have hA := hA.below hb2
  have hZ := hZ.below hb2
  have kB := keepb hb2 kB
  clear hb2 KN b0 b1 hB
  have hN : At (w2.alloc (.cells #[.int .u64 (hI nx), .int .u64 (lI nx)] 27)) w2.heap.size nx := at_new w2 w2.heap.size nx 27 rfl
  have hA := hA.al (.cells #[.int .u64 (hI nx), .int .u64 (lI nx)] 27)
  have hZ := hZ.al (.cells #[.int .u64 (hI nx), .int .u64 (lI nx)] 27)
  have kB := kB.alloc kB.size (.cells #[.int .u64 (hI nx), .int .u64 (lI nx)] 27)
  obtain ⟨a0, a1, -, -, -⟩ := id hA
  obtain ⟨n0, n1, -, -, -⟩ := id hN
  cases ok
  · obtain ⟨z0, z1, z2, z3, z4, z5⟩ := id hZ
    go_wp2
    exact bodyPost_ret (v := .agg #[.int .u64 (hI a), .int .u64 (lI a), .int .i64 (128 - (tr : Int))]) (by simp [results, Tryd.results65, go_sem, *]) rfl ⟨by first | rfl | (simp [*]; done), bset3 kB (by omega) _ _ _⟩
  · go_wp2_with fail
    refine (KC _).mono ?_
    rintro e w3 ⟨rfl, hb3⟩
    have hA := hA.below hb3
    have hZ := hZ.below hb3
    have kB := keepb hb3 kB
    clear hb3 KC a0 a1 n0 n1 hN
    obtain ⟨a0, a1, -, -, -⟩ := id hA
    obtain ⟨z0, z1, z2, z3, z4, z5⟩ := id hZ
    have t2 : IntKind.i64.wrap ((ld : Int) + 1) = (ld : Int) + 1 := by rw [IntKind.wrap_i64]; omega
    go_wp2
    · exact bodyPost_ret (v := .agg #[.int .u64 (hI a), .int .u64 (lI a), .int .i64 ((ld : Int) + 1)]) (by simp [results, Tryd.results65, go_sem, *]) rfl ⟨by rw [Int.max_eq_right (by omega)], bset3 kB (by omega) _ _ _⟩
    · exact bodyPost_ret (v := .agg #[.int .u64 (hI a), .int .u64 (lI a), .int .i64 (128 - (tr : Int))]) (by simp [results, Tryd.results65, go_sem, *]) rfl ⟨by rw [Int.max_eq_left (by omega)], bset3 kB (by omega) _ _ _⟩
end Go.Proofs.YtonagfmkplbooaaDoor
