/-
  Part 15 of the proof: 1 texts, one behind the other.
-/
import Derived.Test.YtmkjlcfoedglmaaDoorPart14
/-
  The sweeper in memory, and what becomes of it.
-/
namespace Go.Proofs.YtmkjlcfoedglmaaDoor
open Go.RowKit
set_option linter.unusedSimpArgs false
set_option linter.unusedVariables false

def SwC (W : World) (B : Nat) (F : Int) (vo : Value) (nx : BitVec 128) (en : Bool) (vt : Value) : Prop := (W.cell? ⟨B, 0, none⟩ = some (.int .i64 F) ∧ W.cell? ⟨B, 1, none⟩ = some vo ∧ W.cell? ⟨B, 2, none⟩ = some (.int .u64 (hI nx)) ∧ W.cell? ⟨B, 3, none⟩ = some (.int .u64 (lI nx)) ∧ W.cell? ⟨B, 4, none⟩ = some (.bool en) ∧ W.cell? ⟨B, 5, none⟩ = some vt) ∧ W.frozen? ⟨B, 1, none⟩ = false ∧ W.frozen? ⟨B, 2, none⟩ = false ∧ W.frozen? ⟨B, 3, none⟩ = false ∧ W.frozen? ⟨B, 4, none⟩ = false ∧ W.frozen? ⟨B, 5, none⟩ = false
theorem SwC.heap {W W' : World} {B : Nat} {F : Int} {vo : Value} {nx : BitVec 128} {en : Bool} {vt : Value} (k : SwC W B F vo nx en vt) (e : W'.heap[B]? = W.heap[B]?) : SwC W' B F vo nx en vt := by
  unfold SwC at *
  simpa only [cellH e, frozH e] using k
theorem SwC.set1 {W : World} {B : Nat} {F : Int} {vo : Value} {nx : BitVec 128} {en : Bool} {vt : Value} (k : SwC W B F vo nx en vt) (u : Value) : SwC (W.setCell ⟨B, 1, none⟩ u) B F u nx en vt := by
  obtain ⟨⟨a0, a1, a2, a3, a4, a5⟩, f1, f2, f3, f4, f5⟩ := k
  refine ⟨⟨?_, ?_, ?_, ?_, ?_, ?_⟩, ?_, ?_, ?_, ?_, ?_⟩ <;> simp [go_sem, *]
theorem SwC.set5 {W : World} {B : Nat} {F : Int} {vo : Value} {nx : BitVec 128} {en : Bool} {vt : Value} (k : SwC W B F vo nx en vt) (u : Value) : SwC (W.setCell ⟨B, 5, none⟩ u) B F vo nx en u := by
  obtain ⟨⟨a0, a1, a2, a3, a4, a5⟩, f1, f2, f3, f4, f5⟩ := k
  refine ⟨⟨?_, ?_, ?_, ?_, ?_, ?_⟩, ?_, ?_, ?_, ?_, ?_⟩ <;> simp [go_sem, *]
theorem SwC.set3 {W : World} {B : Nat} {F : Int} {vo : Value} {nx : BitVec 128} {en : Bool} {vt : Value} (k : SwC W B F vo nx en vt) (y : BitVec 128) (b : Bool) : SwC (((W.setCell ⟨B, 2, none⟩ (.int .u64 (hI y))).setCell ⟨B, 3, none⟩ (.int .u64 (lI y))).setCell ⟨B, 4, none⟩ (.bool b)) B F vo y b vt := by
  obtain ⟨⟨a0, a1, a2, a3, a4, a5⟩, f1, f2, f3, f4, f5⟩ := k
  refine ⟨⟨?_, ?_, ?_, ?_, ?_, ?_⟩, ?_, ?_, ?_, ?_, ?_⟩ <;> simp [go_sem, *]
theorem SwC.lt {W : World} {B : Nat} {F : Int} {vo : Value} {nx : BitVec 128} {en : Bool} {vt : Value} (k : SwC W B F vo nx en vt) : B < W.heap.size := cell_in k.1.1
/-- The sweeper, its rows, and a block Z that is not its own. -/
structure SwV (W : World) (base B : Nat) (F : Int) (op : List Rte) (t : T3) (Z : Nat → Prop) (ob : Nat → Option Obj) (vo vc vt : Value) : Prop where
  c : SwC W B F vo t.1 t.2.1 vc
  oo : W.ownsRow base 53 4 vo op.length (rowR op.reverse)
  ot : W.ownsRow base 39 5 vt t.2.2.length (rowG t.2.2.reverse)
  n1 : vo.ownBlock ≠ some B
  n2 : vt.ownBlock ≠ some B
  n3 : ∀ z, vo.ownBlock = some z → vt.ownBlock ≠ some z
  bB : base ≤ B
  z : ∀ k, Z k → W.heap[k]? = ob k
  zB : ∀ k, Z k → k ≠ B
  zl : ∀ k, Z k → k < W.heap.size
  z1 : ∀ k, Z k → vo.ownBlock ≠ some k
  z2 : ∀ k, Z k → vt.ownBlock ≠ some k
theorem SwV.below {W W' : World} {base B : Nat} {F : Int} {op : List Rte} {t : T3} {Z : Nat → Prop} {ob : Nat → Option Obj} {vo vc vt : Value} (k : SwV W base B F op t Z ob vo vc vt) (hb : Below W.heap.size W W') : SwV W' base B F op t Z ob vo vc vt :=
  ⟨k.c.heap (hb.block _ k.c.lt), own_heap k.oo (fun g e => hb.block g (k.oo.lt g e).2), own_heap k.ot (fun g e => hb.block g (k.ot.lt g e).2), k.n1, k.n2, k.n3, k.bB, fun z hz => by rw [hb.block _ (k.zl z hz)]; exact k.z z hz, k.zB, fun z hz => by have := hb.size; have := k.zl z hz; omega, k.z1, k.z2⟩
/-- One more block is watched: a new one. -/
theorem SwV.more {W : World} {base B : Nat} {F : Int} {op : List Rte} {t : T3} {Z : Nat → Prop} {ob : Nat → Option Obj} {vo vc vt : Value} (k : SwV W base B F op t Z ob vo vc vt) (o : Obj) : SwV (W.alloc o) base B F op t (fun z => Z z ∨ z = W.heap.size) (fun z => (W.alloc o).heap[z]?) vo vc vt := by
  have k' := k.below (bl1 W o)
  refine ⟨k'.c, k'.oo, k'.ot, k'.n1, k'.n2, k'.n3, k'.bB, fun z _ => rfl, ?_, ?_, ?_, ?_⟩
  · intro z hz
    rcases hz with q | q
    · exact k.zB z q
    · have := k.c.lt; omega
  · intro z hz
    rcases hz with q | q
    · exact k'.zl z q
    · simp [q]
  · intro z hz
    rcases hz with q | q
    · exact k.z1 z q
    · intro e; have := (k.oo.lt _ e).2; omega
  · intro z hz
    rcases hz with q | q
    · exact k.z2 z q
    · intro e; have := (k.ot.lt _ e).2; omega
/-- Fewer blocks are watched, or told in other words. -/
theorem SwV.fewer {W : World} {base B : Nat} {F : Int} {op : List Rte} {t : T3} {Z Y : Nat → Prop} {ob od : Nat → Option Obj} {vo vc vt : Value} (k : SwV W base B F op t Z ob vo vc vt) (h : ∀ z, Y z → Z z) (hd : ∀ z, Y z → ob z = od z) : SwV W base B F op t Y od vo vc vt :=
  ⟨k.c, k.oo, k.ot, k.n1, k.n2, k.n3, k.bB, fun z hz => by rw [← hd z hz]; exact k.z z (h z hz), fun z hz => k.zB z (h z hz), fun z hz => k.zl z (h z hz), fun z hz => k.z1 z (h z hz), fun z hz => k.z2 z (h z hz)⟩
theorem SwV.base {W : World} {base B : Nat} {F : Int} {op : List Rte} {t : T3} {Z : Nat → Prop} {ob : Nat → Option Obj} {vo vc vt : Value} (k : SwV W base B F op t Z ob vo vc vt) : base ≤ W.heap.size := by
  have := k.bB
  have := k.c.lt
  omega
/-- The innermost one of the open routes. -/
theorem SwV.inner {W : World} {base B : Nat} {F : Int} {o : Rte} {os : List Rte} {t : T3} {Z : Nat → Prop} {ob : Nat → Option Obj} {vo vc vt : Value} (k : SwV W base B F (o :: os) t Z ob vo vc vt) : ∃ g cap, vo = .slice (some ⟨g, 0, none⟩) (os.length + 1) cap ∧ InR W B g os.length cap o.1.1 o.1.2 o.2 ∧ os.length + 1 ≤ cap := by
  obtain ⟨g, cap, e, -, -⟩ := k.oo.form (by simp)
  have e : vo = .slice (some ⟨g, 0, none⟩) (os.length + 1) cap := e
  have h := k.oo
  rw [e, List.length_cons, List.reverse_cons] at h
  have h2 := k.c.1.2.1
  rw [e] at h2
  have q : (os.reverse ++ [o])[os.length]'(by simp) = o := by simp [List.getElem_append]
  obtain ⟨c0, c1, c2, c3⟩ := ownR_cells6 h os.length (by simp)
  rw [q] at c0 c1 c2 c3
  exact ⟨g, cap, e, ⟨h2, c0, c1, c2, c3⟩, own_cap6 h⟩
/-- A segment is told: behind has answered. -/
theorem SwV.told {W W' : World} {base B : Nat} {F : Int} {op : List Rte} {nx : BitVec 128} {en : Bool} {to st : List Sg} {Z : Nat → Prop} {ob : Nat → Option Obj} {vo vc vt v' : Value} (k : SwV W base B F op (nx, en, to) Z ob vo vc vt) (h : BhO base vt st W v' W') : SwV W' base B F op (nx, en, st) Z ob vo vc v' := by
  obtain ⟨h1, h2, h3⟩ := h
  have hB := k.c.lt
  have he : ∀ z, z < W.heap.size → vt.ownBlock ≠ some z → W'.heap[z]? = W.heap[z]? := fun z q1 q2 => h2.block z q1 (fun e => q2 e.symm)
  have nv : ∀ z, z < W.heap.size → vt.ownBlock ≠ some z → v'.ownBlock ≠ some z := by
    intro z q1 q2 e
    rcases h3 z e with q | q
    · exact q2 q
    · omega
  refine ⟨k.c.heap (he B hB k.n2), own_heap k.oo (fun g e => he g (k.oo.lt g e).2 (k.n3 g e)), h1, k.n1, nv B hB k.n2, fun z e => nv z (k.oo.lt z e).2 (k.n3 z e), k.bB, fun z hz => by rw [he z (k.zl z hz) (k.z2 z hz)]; exact k.z z hz, k.zB, fun z hz => ?_, k.z1, fun z hz => nv z (k.zl z hz) (k.z2 z hz)⟩
  have := h2.size
  have := k.zl z hz
  omega
/-- The row's new place is laid into the sweeper. -/
theorem SwV.put5 {W : World} {base B : Nat} {F : Int} {op : List Rte} {t : T3} {Z : Nat → Prop} {ob : Nat → Option Obj} {vo vc vt : Value} (k : SwV W base B F op t Z ob vo vc vt) : SwV (W.setCell ⟨B, 5, none⟩ vt) base B F op t Z ob vo vt vt := by
  refine ⟨k.c.set5 vt, own_heap k.oo (fun g e => hSet _ (fun q => k.n1 (by rw [e, q]))), own_heap k.ot (fun g e => hSet _ (fun q => k.n2 (by rw [e, q]))), k.n1, k.n2, k.n3, k.bB, fun z hz => by rw [hSet _ (k.zB z hz)]; exact k.z z hz, k.zB, fun z hz => ?_, k.z1, k.z2⟩
  have := k.zl z hz
  simp
  omega
/-- What comes next is laid into the sweeper. -/
theorem SwV.next {W : World} {base B : Nat} {F : Int} {op : List Rte} {nx : BitVec 128} {en : Bool} {to : List Sg} {Z : Nat → Prop} {ob : Nat → Option Obj} {vo vc vt : Value} (k : SwV W base B F op (nx, en, to) Z ob vo vc vt) (y : BitVec 128) (b : Bool) :
    SwV (((W.setCell ⟨B, 2, none⟩ (.int .u64 (hI y))).setCell ⟨B, 3, none⟩ (.int .u64 (lI y))).setCell ⟨B, 4, none⟩ (.bool b)) base B F op (y, b, to) Z ob vo vc vt := by
  have he : ∀ z, ¬ z = B → (((W.setCell ⟨B, 2, none⟩ (.int .u64 (hI y))).setCell ⟨B, 3, none⟩ (.int .u64 (lI y))).setCell ⟨B, 4, none⟩ (.bool b)).heap[z]? = W.heap[z]? := fun z q => by rw [hSet _ q, hSet _ q, hSet _ q]
  refine ⟨k.c.set3 y b, own_heap k.oo (fun g e => he g (fun q => k.n1 (by rw [e, q]))), own_heap k.ot (fun g e => he g (fun q => k.n2 (by rw [e, q]))), k.n1, k.n2, k.n3, k.bB, fun z hz => by rw [he z (k.zB z hz)]; exact k.z z hz, k.zB, fun z hz => ?_, k.z1, k.z2⟩
  have := k.zl z hz
  simp
  omega
theorem ownR_cut {w : World} {base n g cap : Nat} {s : List Rte} {a : Rte} (h : w.ownsRow base 53 4 (.slice (some ⟨g, 0, none⟩) (n + 1) cap) (n + 1) (rowR (s ++ [a]))) (hn : s.length = n) : w.ownsRow base 53 4 (.slice (some ⟨g, 0, none⟩) n cap) n (rowR s) := by
  have hl : ∀ l : List Rte, (rowR l).length = l.length * 4 := by
    intro l
    induction l with
    | nil => rfl
    | cons r l ih => simp [rowR, ih]; omega
  have ha : ∀ l m : List Rte, rowR (l ++ m) = rowR l ++ rowR m := by
    intro l
    induction l with
    | nil => intro m; rfl
    | cons p l ih => intro m; simp [rowR, ih]
  rcases h.2 with ⟨e0, _⟩ | ⟨g', cap', cur, e0, hb, hg, hnc, hm, hs, ht⟩
  · cases e0
  · injection e0 with e1 _ e3
    injection e1 with e1
    injection e1 with e1
    subst e1; subst e3
    refine ⟨by rw [hl]; omega, .inr ⟨g, cap, cur, rfl, hb, hg, by omega, hm, hs, ?_⟩⟩
    have e : rowR s = (rowR (s ++ [a])).take (n * 4) := by
      rw [ha, List.take_append_of_le_length (by rw [hl]; omega), List.take_of_length_le (by rw [hl]; omega)]
    rw [e, ← ht, List.take_take, Nat.min_eq_left (by omega)]
/-- The innermost route is shut. -/
theorem SwV.pop {W : World} {base B : Nat} {F : Int} {o : Rte} {os : List Rte} {t : T3} {Z : Nat → Prop} {ob : Nat → Option Obj} {g cap : Nat} {vc vt : Value} (k : SwV W base B F (o :: os) t Z ob (.slice (some ⟨g, 0, none⟩) (os.length + 1) cap) vc vt) : SwV (W.setCell ⟨B, 1, none⟩ (.slice (some ⟨g, 0, none⟩) os.length cap)) base B F os t Z ob (.slice (some ⟨g, 0, none⟩) os.length cap) vc vt := by
  have h0 := k.oo
  rw [List.length_cons, List.reverse_cons] at h0
  have hc := ownR_cut h0 (by simp)
  have n1 := k.n1
  refine ⟨k.c.set1 _, own_heap hc (fun g' e => hSet _ (fun q => ?_)), own_heap k.ot (fun g e => hSet _ (fun q => k.n2 (by rw [e, q]))), n1, k.n2, k.n3, k.bB, fun z hz => by rw [hSet _ (k.zB z hz)]; exact k.z z hz, k.zB, fun z hz => ?_, k.z1, k.z2⟩
  · have e : g = g' := by simpa [Value.ownBlock] using e
    apply n1
    simp [Value.ownBlock, e, q]
  · have := k.zl z hz
    simp
    omega
/-- A route is opened: the row is laid on, its place laid into the sweeper. -/
theorem SwV.push {W w4 : World} {base B : Nat} {F : Int} {op : List Rte} {t : T3} {Z : Nat → Prop} {ob : Nat → Option Obj} {vo vc vt : Value} {x : BitVec 128} {m h : Int} {g cap : Nat} (k : SwV W base B F op t Z ob vo vc vt)
    (hown : w4.ownsRow base 53 4 (.slice (some ⟨g, 0, none⟩) (op.length + 1) cap) (op.length + 1) (rowR op.reverse ++ [.int .u64 (hI x), .int .u64 (lI x), .int .i64 m, .int .i64 h])) (hg : W.grownBy w4 vo.ownBlock) (hat : vo.ownBlock = some g ∨ g = W.heap.size) :
    SwC w4 B F vo t.1 t.2.1 vc ∧ SwV (w4.setCell ⟨B, 1, none⟩ (.slice (some ⟨g, 0, none⟩) (op.length + 1) cap)) base B F (((x, m), h) :: op) t Z ob (.slice (some ⟨g, 0, none⟩) (op.length + 1) cap) vc vt := by
  have hB := k.c.lt
  have he : ∀ z, z < W.heap.size → vo.ownBlock ≠ some z → w4.heap[z]? = W.heap[z]? := fun z q1 q2 => hg.block z q1 (fun e => q2 e.symm)
  have gne : ∀ z, z < W.heap.size → vo.ownBlock ≠ some z → g ≠ z := by
    intro z h1 h2 e
    rcases hat with q | q
    · exact h2 (by rw [q, e])
    · omega
  have ob' : ∀ z, Value.ownBlock (.slice (some ⟨g, 0, none⟩) (op.length + 1) cap) = some z → g = z := fun z e => by simpa [Value.ownBlock] using e
  have hc := k.c.heap (he B hB k.n1)
  have ha : rowR (op.reverse ++ [((x, m), h)]) = rowR op.reverse ++ [.int .u64 (hI x), .int .u64 (lI x), .int .i64 m, .int .i64 h] := by
    generalize op.reverse = l
    induction l with
    | nil => rfl
    | cons p l ih => simp [rowR, ih]
  refine ⟨hc, hc.set1 _, ?_, ?_, fun e => gne B hB k.n1 (ob' B e), k.n2, ?_, k.bB, ?_, k.zB, ?_, ?_, k.z2⟩
  · rw [List.length_cons, List.reverse_cons, ha]
    refine own_heap hown (fun z e => hSet _ ?_)
    rw [← ob' z e]
    exact gne B hB k.n1
  · refine own_heap k.ot (fun z e => ?_)
    rw [hSet _ (fun q => k.n2 (by rw [e, q])), he z (k.ot.lt z e).2 (fun q => k.n3 z q e)]
  · intro z e e2
    rw [← ob' z e] at e2
    exact gne g (k.ot.lt g e2).2 (fun q => k.n3 g q e2) rfl
  · intro z q
    rw [hSet _ (k.zB z q), he z (k.zl z q) (k.z1 z q)]
    exact k.z z q
  · intro z q
    have := k.zl z q
    have := hg.size
    simp
    omega
  · intro z q e
    exact gne z (k.zl z q) (k.z1 z q) (ob' z e)
end Go.Proofs.YtmkjlcfoedglmaaDoor
