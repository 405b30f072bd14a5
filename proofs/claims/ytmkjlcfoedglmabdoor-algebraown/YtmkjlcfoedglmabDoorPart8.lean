/-
  Part 8 of the proof: 4 texts, one behind the other.
-/
import Derived.Test.YtmkjlcfoedglmabDoorPart3
import Derived.Test.YtmkjlcfoedglmabDoorPart5
import Derived.Test.YtmkjlcfoedglmabDoorPart7
import Derived.Deep.AppendLies
/-
  The routes of a list of segments, as a plain function; rows of routes of one's own.
-/
namespace Go.Proofs.YtmkjlcfoedglmabDoor
open Go.RowKit
set_option linter.unusedSimpArgs false
set_option linter.unusedVariables false

theorem Tryd.infoR6 : (Tryd.prog.info? 50).map (fun i => (i.zero, i.size, i.bytes)) = some (some (.agg #[.int .u64 0, .int .u64 0, .int .i64 0, .int .i64 0]), 4, 32) := by kernel_rfl
theorem rowR_app : ∀ l m, rowR (l ++ m) = rowR l ++ rowR m := by
  intro l
  induction l with
  | nil => intro m; rfl
  | cons p l ih => intro m; simp [rowR, ih]
theorem rowR_one (l : List Rte) (x : BitVec 128) (n h : Int) : rowR (l ++ [((x, n), h)]) = rowR l ++ [.int .u64 (hI x), .int .u64 (lI x), .int .i64 n, .int .i64 h] := by rw [rowR_app]; rfl
theorem rowR_len6 (l : List Rte) : (rowR l).length = l.length * 4 := by
  induction l with
  | nil => rfl
  | cons r l ih => simp [rowR, ih]; omega
theorem rowR_cell (l : List Rte) : ∀ u ∈ rowR l, u.oneCell' = true := by
  induction l with
  | nil => intro u hu; cases hu
  | cons p l ih =>
    intro u hu
    simp only [rowR, List.mem_cons] at hu
    rcases hu with rfl | rfl | rfl | rfl | hu
    all_goals first | rfl | exact ih u hu
theorem ownR_cells {W : World} {base n g c : Nat} {l : List Rte} (h : W.ownsRow base 50 4 (.slice (some ⟨g, 0, none⟩) n c) n (rowR l)) (j : Nat) (hj : j < l.length) :
    W.cell? ⟨g, j * 4, none⟩ = some (.int .u64 (hI l[j].1.1)) ∧ W.cell? ⟨g, j * 4 + 1, none⟩ = some (.int .u64 (lI l[j].1.1)) ∧ W.cell? ⟨g, j * 4 + 2, none⟩ = some (.int .i64 l[j].1.2) ∧ W.cell? ⟨g, j * 4 + 3, none⟩ = some (.int .i64 l[j].2) := by
  obtain ⟨a0, a1, a2, a3⟩ := rowR_get l j hj
  have f := fun k u => h.cells (g := g) rfl k u
  exact ⟨by have := f _ _ a0; rwa [addA, Nat.zero_add] at this, by have := f _ _ a1; rwa [addA, Nat.zero_add] at this, by have := f _ _ a2; rwa [addA, Nat.zero_add] at this, by have := f _ _ a3; rwa [addA, Nat.zero_add] at this⟩
theorem newsR (W : World) (a b c d : Value) (t : TypeId) : ∀ j u, [a, b, c, d][j]? = some u → (W.alloc (.cells #[a, b, c, d] t)).cell? ((⟨W.heap.size, 0, none⟩ : Addr).add j) = some u := by
  intro j u hj
  match j, hj with
  | 0, hj => simp at hj; subst hj; simp [Addr.add, go_sem]
  | 1, hj => simp at hj; subst hj; simp [Addr.add, go_sem]
  | 2, hj => simp at hj; subst hj; simp [Addr.add, go_sem]
  | 3, hj => simp at hj; subst hj; simp [Addr.add, go_sem]
theorem fourR6 (a b c d : Int) : ∀ u ∈ [Value.int .u64 a, Value.int .u64 b, Value.int .i64 c, Value.int .i64 d], u.oneCell' = true := by
  intro u hu; simp at hu; rcases hu with rfl | rfl | rfl | rfl <;> rfl
theorem row_rwr6 {W : World} {v : Value} {l : List Rte} (h : Row W 4 v l.length (rowR l)) : RwR W v l := by
  obtain ⟨-, ao, c, e, -, h⟩ := h
  refine ⟨ao, c, e, ?_⟩
  rcases h with ⟨-, -, h⟩ | h
  · exact .inl (List.length_eq_zero_iff.mp h)
  · exact .inr h
theorem own_rwr {W : World} {base : Nat} {v : Value} {l : List Rte} (h : W.ownsRow base 50 4 v l.length (rowR l)) : RwR W v l := row_rwr6 (own_row h)
/-- The routes of one segment. -/
def covS (F : Int) (s : Sg) : List Rte := if s.2 = 0 then [] else (covT F s.1.1 s.1.2).map (fun p => (p, s.2))
def covR (F : Int) : List Sg → List Rte
  | [] => []
  | s :: l => covS F s ++ covR F l
theorem covS_len (F : Int) (s : Sg) : (covS F s).length ≤ 254 := by
  unfold covS
  split
  · simp
  · rw [List.length_map]; exact covT_len _ _ _
theorem covR_app (F : Int) : ∀ l m, covR F (l ++ m) = covR F l ++ covR F m := by
  intro l
  induction l with
  | nil => intro m; rfl
  | cons p l ih => intro m; simp [covR, ih]
theorem covR_len (F : Int) (l : List Sg) : (covR F l).length ≤ 254 * l.length := by
  induction l with
  | nil => simp [covR]
  | cons s l ih =>
    have := covS_len F s
    simp only [covR, List.length_append, List.length_cons]
    omega
theorem covR_take (F : Int) (l : List Sg) (k : Nat) (hk : k < l.length) : covR F (l.take (k + 1)) = covR F (l.take k) ++ covS F l[k] := by
  rw [List.take_add_one, List.getElem?_eq_getElem hk, covR_app]
  simp [covR]
end Go.Proofs.YtmkjlcfoedglmabDoor
/-
  What lies in one block of memory goes by that block alone.
-/
namespace Go.Proofs.YtmkjlcfoedglmabDoor
open Go.RowKit
set_option linter.unusedSimpArgs false
set_option linter.unusedVariables false

theorem cellH {W W' : World} {B : Nat} (e : W'.heap[B]? = W.heap[B]?) (o : Nat) : W'.cell? ⟨B, o, none⟩ = W.cell? ⟨B, o, none⟩ := World.cell?_of_block (w := W) (a := ⟨B, o, none⟩) e
theorem frozH {W W' : World} {B : Nat} (e : W'.heap[B]? = W.heap[B]?) (o : Nat) : W'.frozen? ⟨B, o, none⟩ = W.frozen? ⟨B, o, none⟩ := World.frozen?_of_block (w := W) (a := ⟨B, o, none⟩) e
theorem AtG.heap {W W' : World} {B : Nat} {x y : BitVec 128} {h : Int} (k : AtG W B x y h) (e : W'.heap[B]? = W.heap[B]?) : AtG W' B x y h := by
  unfold AtG at *
  simpa only [cellH e, frozH e] using k
theorem At.heap {W W' : World} {B : Nat} {x : BitVec 128} (k : At W B x) (e : W'.heap[B]? = W.heap[B]?) (hs : W.heap.size ≤ W'.heap.size) : At W' B x := by
  unfold At at *
  simp only [cellH e, frozH e]
  exact ⟨k.1, k.2.1, k.2.2.1, k.2.2.2.1, by omega⟩
theorem AtR.heap {W W' : World} {B : Nat} {x : BitVec 128} {n h : Int} (k : AtR W B x n h) (e : W'.heap[B]? = W.heap[B]?) : AtR W' B x n h := by
  unfold AtR at *
  simpa only [cellH e] using k
/-- A table in memory, which may be written. -/
def AtU (W : World) (B : Nat) (F : Int) (v : Value) : Prop := W.cell? ⟨B, 0, none⟩ = some (.int .i64 F) ∧ W.cell? ⟨B, 1, none⟩ = some v ∧ W.frozen? ⟨B, 0, none⟩ = false ∧ W.frozen? ⟨B, 1, none⟩ = false
theorem AtU.heap {W W' : World} {B : Nat} {F : Int} {v : Value} (k : AtU W B F v) (e : W'.heap[B]? = W.heap[B]?) : AtU W' B F v := by
  unfold AtU at *
  simpa only [cellH e, frozH e] using k
theorem AtU.lt {W : World} {B : Nat} {F : Int} {v : Value} (k : AtU W B F v) : B < W.heap.size := cell_in k.1
theorem AtU.set1 {W : World} {B : Nat} {F : Int} {v : Value} (k : AtU W B F v) (u : Value) : AtU (W.setCell ⟨B, 1, none⟩ u) B F u := by
  obtain ⟨a, b, c, d⟩ := k
  refine ⟨?_, ?_, ?_, ?_⟩ <;> simp [go_sem, *]
theorem AtU.set2 {W : World} {B : Nat} {F : Int} {v : Value} (k : AtU W B F v) (G : Int) (u : Value) : AtU ((W.setCell ⟨B, 0, none⟩ (.int .i64 G)).setCell ⟨B, 1, none⟩ u) B G u := by
  obtain ⟨a, b, c, d⟩ := k
  refine ⟨?_, ?_, ?_, ?_⟩ <;> simp [go_sem, *]
theorem atu_new (W : World) (B : Nat) (F : Int) (v : Value) (T : TypeId) (e : B = W.heap.size) : AtU (W.alloc (.cells #[.int .i64 F, v] T)) B F v := by
  subst e
  refine ⟨?_, ?_, ?_, ?_⟩ <;> simp [go_sem]
theorem own_heap {W W' : World} {base e size n : Nat} {v : Value} {xs : List Value} (h : W.ownsRow base e size v n xs) (he : ∀ g, v.ownBlock = some g → W'.heap[g]? = W.heap[g]?) : W'.ownsRow base e size v n xs := by
  refine ⟨h.1, ?_⟩
  rcases h.2 with hn | ⟨g, cap, cur, rfl, hb, hg, rest⟩
  · exact .inl hn
  · exact .inr ⟨g, cap, cur, rfl, hb, by rw [he g rfl]; exact hg, rest⟩
theorem hAl {W : World} (o : Obj) {k : Nat} (h : k < W.heap.size) : (W.alloc o).heap[k]? = W.heap[k]? := Below.heap_alloc W o k h
theorem hSet {W : World} {b o : Nat} (u : Value) {k : Nat} (h : ¬ k = b) : (W.setCell ⟨b, o, none⟩ u).heap[k]? = W.heap[k]? := Below.heap_setCell W ⟨b, o, none⟩ u k h
theorem own_lt {W : World} {base e size n : Nat} {v : Value} {xs : List Value} (h : W.ownsRow base e size v n xs) {g : Nat} (e : v.ownBlock = some g) : base ≤ g ∧ g < W.heap.size := h.lt g e
theorem own_wide {w : World} {base base' e size n : Nat} {v : Value} {xs : List Value} (h : w.ownsRow base e size v n xs) (hb : base' ≤ base) : w.ownsRow base' e size v n xs := by
  refine ⟨h.1, ?_⟩
  rcases h.2 with hn | ⟨g, cap, cur, hv, h1, h2⟩
  · exact .inl hn
  · exact .inr ⟨g, cap, cur, hv, by omega, h2⟩
end Go.Proofs.YtmkjlcfoedglmabDoor
/-
  What the call of package algebra's covered does.
-/
namespace Go.Proofs.YtmkjlcfoedglmabDoor
open Go.RowKit
set_option linter.unusedSimpArgs false
set_option linter.unusedVariables false

/-- What is known while a segment's routes are laid behind the others. -/
structure CvI (w : World) (F : Int) (S0 : Nat) (x y : BitVec 128) (h : Int) (cv : Value) (T : List (BitVec 128 × Int)) (L : List Rte) (dv : Value) (W : World) : Prop where
  t : AtU W (w.heap.size + 1) F dv
  r : AtU W w.heap.size 0 (.slice none 0 0)
  s : AtG W S0 x y h
  own : W.ownsRow (w.heap.size + 2) 50 4 dv L.length (rowR L)
  cov : W.ownsRow (S0 + 1) 36 3 cv T.length (rowP T)
  ne1 : dv.ownBlock ≠ some S0
  ne2 : ∀ z, cv.ownBlock = some z → dv.ownBlock ≠ some z
  bel : Below w.heap.size w W
  s0 : w.heap.size + 2 ≤ S0
theorem CvI.step {w : World} {F : Int} {S0 : Nat} {x y : BitVec 128} {h : Int} {cv : Value} {T : List (BitVec 128 × Int)} {L : List Rte} {dv : Value} {W w4 : World} (k : CvI w F S0 x y h cv T L dv W) (o1 o2 : Obj) (px : BitVec 128) (pn : Int) (g cap : Nat)
    (hown : w4.ownsRow (w.heap.size + 2) 50 4 (.slice (some ⟨g, 0, none⟩) (L.length + 1) cap) (L.length + 1) (rowR L ++ [.int .u64 (hI px), .int .u64 (lI px), .int .i64 pn, .int .i64 h])) (hg : ((W.alloc o1).alloc o2).grownBy w4 dv.ownBlock) (hat : dv.ownBlock = some g ∨ g = ((W.alloc o1).alloc o2).heap.size) :
    CvI w F S0 x y h cv T (L ++ [((px, pn), h)]) (.slice (some ⟨g, 0, none⟩) (L.length + 1) cap) (w4.setCell ⟨w.heap.size + 1, 1, none⟩ (.slice (some ⟨g, 0, none⟩) (L.length + 1) cap)) := by
  have hz : ((W.alloc o1).alloc o2).heap.size = W.heap.size + 2 := by simp
  have hT := k.t.lt
  have hS := k.s.lt
  have hR := k.r.lt
  have ob : ∀ z, dv.ownBlock = some z → w.heap.size + 2 ≤ z ∧ z < W.heap.size := fun z e => k.own.lt z e
  have he : ∀ z, z < W.heap.size → dv.ownBlock ≠ some z → w4.heap[z]? = W.heap[z]? := by
    intro z h1 h2
    rw [hg.block z (by omega) (fun e => h2 e.symm), hAl _ (by simp; omega), hAl _ h1]
  have hT' : w4.heap[w.heap.size + 1]? = W.heap[w.heap.size + 1]? := he _ hT (fun e => by have := (ob _ e).1; omega)
  have gne : ∀ z, z < W.heap.size → dv.ownBlock ≠ some z → g ≠ z := by
    intro z h1 h2 e
    rcases hat with q | q
    · exact h2 (by rw [q, e])
    · omega
  have gT : g ≠ w.heap.size + 1 := gne _ hT (fun e => by have := (ob _ e).1; omega)
  refine ⟨(k.t.heap hT').set1 _, ?_, ?_, ?_, ?_, ?_, ?_, ?_, k.s0⟩
  · exact k.r.heap (by rw [hSet _ (by omega), he _ hR (fun e => by have := (ob _ e).1; omega)])
  · exact k.s.heap (by rw [hSet _ (by have := k.s0; omega), he _ hS k.ne1])
  · rw [show (L ++ [((px, pn), h)]).length = L.length + 1 by simp, rowR_one]
    refine own_heap hown (fun z e => ?_)
    have : z = g := by simpa [Value.ownBlock] using e.symm
    rw [this, hSet _ gT]
  · refine own_heap k.cov (fun z e => ?_)
    have hz' := k.cov.lt z e
    rw [hSet _ (by have := k.s0; omega), he z hz'.2 (k.ne2 z e)]
  · intro e
    have : g = S0 := by simpa [Value.ownBlock] using e
    exact gne S0 hS k.ne1 this
  · intro z e e2
    have hz' := k.cov.lt z e
    have : g = z := by simpa [Value.ownBlock] using e2
    exact gne z hz'.2 (k.ne2 z e) this
  · refine Below.setCell ?_ (by simp) _
    exact ((k.bel.alloc k.bel.size o1).alloc (by simp; have := k.bel.size; omega) o2).grown hg (by have := k.bel.size; omega) (fun z e => by have := (ob z e).1; omega)
def okL (F : Int) (l : List Sg) : Bool := decide ((covR F l).length ≤ 1048576)
/-- The routes of the table of some segments. -/
def tabL (F : Int) (l : List Sg) : List Rte := if okL F l = true then covR F l else []
/-- The family, the error of the table of some segments. -/
def tabW (F : Int) (l : List Sg) : Int := if okL F l = true then F else 0
def tabX (F : Int) (l : List Sg) : Int := if okL F l = true then 0 else 16
theorem tab_yes {F : Int} {l : List Sg} (h : okL F l = true) : tabW F l = F ∧ tabX F l = 0 ∧ tabL F l = covR F l := by
  unfold tabW tabX tabL
  rw [if_pos h, if_pos h, if_pos h]
  exact ⟨rfl, rfl, rfl⟩
theorem tab_no {F : Int} {l : List Sg} (h : okL F l = false) : tabW F l = 0 ∧ tabX F l = 16 ∧ tabL F l = [] := by
  have h : ¬ okL F l = true := by rw [h]; decide
  unfold tabW tabX tabL
  rw [if_neg h, if_neg h, if_neg h]
  exact ⟨rfl, rfl, rfl⟩
theorem rowP_get6 : ∀ (l : List (BitVec 128 × Int)) (j : Nat) (hj : j < l.length), (rowP l)[j * 3]? = some (.int .u64 (hI l[j].1)) ∧ (rowP l)[j * 3 + 1]? = some (.int .u64 (lI l[j].1)) ∧ (rowP l)[j * 3 + 2]? = some (.int .i64 l[j].2) := by
  intro l
  induction l with
  | nil => intro j hj; simp at hj
  | cons p l ih =>
    intro j hj
    cases j with
    | zero => simp [rowP]
    | succ j =>
      have := ih j (by simpa using hj)
      rw [show (j + 1) * 3 = j * 3 + 3 by omega, show j * 3 + 3 + 1 = j * 3 + 1 + 3 by omega, show j * 3 + 3 + 2 = j * 3 + 2 + 3 by omega]
      simpa [rowP] using this
theorem rowP_cells6 {W : World} {base g cap : Nat} {T : List (BitVec 128 × Int)} (h : W.ownsRow base 36 3 (.slice (some ⟨g, 0, none⟩) T.length cap) T.length (rowP T)) (j : Nat) (hj : j < T.length) :
    W.cell? ⟨g, j * 3, none⟩ = some (.int .u64 (hI T[j].1)) ∧ W.cell? ⟨g, j * 3 + 1, none⟩ = some (.int .u64 (lI T[j].1)) ∧ W.cell? ⟨g, j * 3 + 2, none⟩ = some (.int .i64 T[j].2) := by
  obtain ⟨a0, a1, a2⟩ := rowP_get6 T j hj
  have f := fun k u => h.cells (g := g) rfl k u
  exact ⟨by have := f _ _ a0; rwa [addA, Nat.zero_add] at this, by have := f _ _ a1; rwa [addA, Nat.zero_add] at this, by have := f _ _ a2; rwa [addA, Nat.zero_add] at this⟩
theorem cov_part (F : Int) (l : List Sg) (k : Nat) (hk : k < l.length) (h0 : ¬ l[k].2 = 0) : covR F (l.take (k + 1)) = covR F (l.take k) ++ ((covT F l[k].1.1 l[k].1.2).take (covT F l[k].1.1 l[k].1.2).length).map (fun p => (p, l[k].2)) := by
  rw [covR_take F l k hk, covS, if_neg h0, List.take_length]
theorem cov_zero (F : Int) (l : List Sg) (k : Nat) (hk : k < l.length) (h0 : l[k].2 = 0) : covR F (l.take (k + 1)) = covR F (l.take k) := by
  rw [covR_take F l k hk, covS, if_pos h0, List.append_nil]
theorem cov_sub (F : Int) (l : List Sg) (k : Nat) : (covR F (l.take k)).length ≤ (covR F l).length := by
  have : covR F l = covR F (l.take k) ++ covR F (l.drop k) := by rw [← covR_app, List.take_append_drop]
  rw [this, List.length_append]; omega
theorem CvI.mid {w : World} {F : Int} {S0 : Nat} {x y : BitVec 128} {h : Int} {cv : Value} {T : List (BitVec 128 × Int)} {L : List Rte} {dv : Value} {W w4 : World} (k : CvI w F S0 x y h cv T L dv W) (o1 o2 : Obj) (hg : ((W.alloc o1).alloc o2).grownBy w4 dv.ownBlock) : AtU w4 (w.heap.size + 1) F dv := by
  have hT := k.t.lt
  refine k.t.heap ?_
  rw [hg.block _ (by simp; omega) (fun e => by have := (k.own.lt _ e.symm).1; omega), hAl _ (by simp; omega), hAl _ hT]
theorem CvI.start {w : World} {F : Int} {x y : BitVec 128} {h : Int} {cv : Value} {T : List (BitVec 128 × Int)} {L : List Rte} {dv : Value} {wr w2 : World} (kT : AtU wr (w.heap.size + 1) F dv) (kR : AtU wr w.heap.size 0 (.slice none 0 0)) (hown : wr.ownsRow (w.heap.size + 2) 50 4 dv L.length (rowR L)) (kB : Below w.heap.size w wr)
    (hb : Below (wr.alloc (.cells #[.int .u64 (hI x), .int .u64 (lI x), .int .u64 (hI y), .int .u64 (lI y), .int .i64 h] 48)).heap.size (wr.alloc (.cells #[.int .u64 (hI x), .int .u64 (lI x), .int .u64 (hI y), .int .u64 (lI y), .int .i64 h] 48)) w2)
    (hcov : w2.ownsRow (wr.alloc (.cells #[.int .u64 (hI x), .int .u64 (lI x), .int .u64 (hI y), .int .u64 (lI y), .int .i64 h] 48)).heap.size 36 3 cv T.length (rowP T)) : CvI w F wr.heap.size x y h cv T L dv w2 := by
  have hz : (wr.alloc (.cells #[.int .u64 (hI x), .int .u64 (lI x), .int .u64 (hI y), .int .u64 (lI y), .int .i64 h] 48)).heap.size = wr.heap.size + 1 := by simp
  have he : ∀ z, z < wr.heap.size → w2.heap[z]? = wr.heap[z]? := fun z hz' => by rw [hb.block z (by omega), hAl _ hz']
  have hT := kT.lt
  have hR := kR.lt
  rw [hz] at hcov
  refine ⟨kT.heap (he _ hT), kR.heap (he _ hR), (atg_new wr wr.heap.size x y h 48 rfl).below hb, own_heap hown (fun g e => he g (hown.lt g e).2), hcov, fun e => by have := (hown.lt _ e).2; omega, fun z e e2 => ?_, keepb hb (kB.alloc kB.size _), by omega⟩
  have := (hown.lt _ e2).2
  have := (hcov.lt z e).1
  omega
theorem newsB (W : World) (B : Nat) (hB : B = W.heap.size) (a b c d : Value) (t : TypeId) : ∀ j u, [a, b, c, d][j]? = some u → (W.alloc (.cells #[a, b, c, d] t)).cell? ((⟨B, 0, none⟩ : Addr).add j) = some u := by
  subst hB
  intro j u hj
  match j, hj with
  | 0, hj => simp at hj; subst hj; simp [Addr.add, go_sem]
  | 1, hj => simp at hj; subst hj; simp [Addr.add, go_sem]
  | 2, hj => simp at hj; subst hj; simp [Addr.add, go_sem]
  | 3, hj => simp at hj; subst hj; simp [Addr.add, go_sem]
theorem cov_app (T : List (BitVec 128 × Int)) (L : List Rte) (h : Int) (j : Nat) (hj : j < T.length) : L ++ (T.take (j + 1)).map (fun p => (p, h)) = (L ++ (T.take j).map (fun p => (p, h))) ++ [((T[j].1, T[j].2), h)] := by
  rw [List.take_add_one, List.getElem?_eq_getElem hj, List.map_append, ← List.append_assoc]
  rfl
theorem cov_size (T : List (BitVec 128 × Int)) (L : List Rte) (h : Int) (j : Nat) : (L ++ (T.take j).map (fun p => (p, h))).length ≤ L.length + T.length := by
  simp; omega
set_option maxRecDepth 20000 in
set_option maxHeartbeats 8000000 in
theorem covered_any (F : Int) (v : Value) (l : List Sg) (w : World) (hT : Tab w) (hv : RwG w v l) (hll : l.length ≤ 1000000000) :
    Calls Tryd.prog 27 #[.int .i64 F, v] w fun e w' => (∃ v', e = .returned (.tuple #[.agg #[.int .i64 (tabW F l), v'], .int .i64 (tabX F l)]) ∧ w'.ownsRow w.heap.size 50 4 v' (tabL F l).length (rowR (tabL F l))) ∧ Below w.heap.size w w' := by
  obtain ⟨i0, hi, hz0, hz1, hz2⟩ := info_parts Tryd.infoR6
  obtain ⟨ao, c, rfl, hv⟩ := hv
  have HV := hidR hv
  have HT := hidR hT
  clear hv hT
  have kR := atu_new w w.heap.size 0 (.slice none 0 0) 24 rfl
  have kT := hidR (atu_new (w.alloc (.cells #[.int .i64 0, .slice none 0 0] 24)) (w.heap.size + 1) F (.slice none 0 0) 24 (by simp))
  have kR := hidR (kR.heap (hAl (W := w.alloc (.cells #[.int .i64 0, .slice none 0 0] 24)) (.cells #[.int .i64 F, .slice none 0 0] 24) kR.lt))
  have kB := hidR (bl2 w (.cells #[.int .i64 0, .slice none 0 0] 24) (.cells #[.int .i64 F, .slice none 0 0] 24))
  go_enter Tryd.func27, Tryd.ntmps27
  go_wp2_with fail
  go_loopw [17] (fun i wr => ∃ (k : Nat) (dv : Value), k ≤ l.length ∧ i = .int .i64 k ∧ Hid (AtU wr (w.heap.size + 1) F dv) ∧ Hid (AtU wr w.heap.size 0 (.slice none 0 0)) ∧ Hid (wr.ownsRow (w.heap.size + 2) 50 4 dv (covR F (l.take k)).length (rowR (covR F (l.take k)))) ∧ Hid ((covR F (l.take k)).length ≤ 1048576) ∧ Hid (Below w.heap.size w wr)) (fun i _ => l.length - (intOf i).toNat)
  case atStart => exact ⟨0, .slice none 0 0, by omega, rfl, kT, kR, hidR (World.ownsRow_nil _ _ _ _), hidR (by simp [covR]), kB⟩
  case round =>
    clear kT kR kB
    obtain ⟨k, dv, hk, rfl, kT, kR, hown, hsz, kB⟩ := hrel
    by_cases hlt : (k : Int) < (l.length : Int)
    · have hks : k < l.length := by omega
      rcases HV.out with h | ⟨b, off, rfl, hc⟩
      · rw [h] at hks; simp at hks
      · obtain ⟨x0, x1, x2, x3, x4⟩ := rwg_cells hc k hks
        have x0 := keepc kB.out x0
        have x1 := keepc kB.out x1
        have x2 := keepc kB.out x2
        have x3 := keepc kB.out x3
        have x4 := keepc kB.out x4
        have hz := hidR (cov_zero F l k hks)
        have hp := hidR (cov_part F l k hks)
        have hq : Hid (l[k].2 = 0 ∨ (covR F (l.take k)).length + (covT F l[k].1.1 l[k].1.2).length ≤ (covR F l).length) := hidR (by
          by_cases e : l[k].2 = 0
          · exact .inl e
          · right
            have h1 := cov_sub F l (k + 1)
            rw [cov_part F l k hks e] at h1
            simpa using h1)
        have KC := cover_any F l[k].1.1 l[k].1.2 (wr.alloc (.cells #[.int .u64 (hI l[k].1.1), .int .u64 (lI l[k].1.1), .int .u64 (hI l[k].1.2), .int .u64 (lI l[k].1.2), .int .i64 l[k].2] 48)) (HT.out.keep (kB.out.alloc kB.out.size _))
        have hTl := covT_len F l[k].1.1 l[k].1.2
        clear hc HV
        revert hz hp hq KC hTl
        generalize hL1 : covR F (l.take (k + 1)) = L1
        generalize covT F l[k].1.1 l[k].1.2 = T
        generalize covE F l[k].1.1 l[k].1.2 = ce
        generalize l[k].1.1 = px at *
        generalize l[k].1.2 = py at *
        generalize l[k].2 = ph at *
        revert hown hsz
        generalize hL0 : covR F (l.take k) = L0
        intro hown hsz hz hp hq KC hTl
        have HL1 := hidR hL1
        clear hL1 hL0
        have hk2 : IntKind.i64.wrap ((k : Int) + 1) = (k : Int) + 1 := by rw [IntKind.wrap_i64]; omega
        obtain ⟨p0, p1, p2, p3, p4, -⟩ := atg_new wr wr.heap.size px py ph 48 rfl
        by_cases h0 : ph = 0
        · have d0 : (ph == 0) = true := by simp [h0]
          have hz := hidR (hz.out h0)
          clear KC hp hq h0
          go_wp2
          go_roundw
          case rel =>
            refine ⟨k + 1, dv, by omega, by simp, hidR (kT.out.heap (hAl _ kT.out.lt)), hidR (kR.out.heap (hAl _ kR.out.lt)), ?_, ?_, hidR (kB.out.alloc kB.out.size _)⟩
            · show World.ownsRow _ _ _ _ _ _ _
              rw [HL1.out, hz.out]
              exact hown.out.alloc _
            · show _ ≤ _
              rw [HL1.out, hz.out]
              exact hsz.out
          case measure => simp [intOf]; omega
        · have d0 : (ph == 0) = false := by simp [h0]
          have hq : Hid (L0.length + T.length ≤ (covR F l).length) := hidR (by rcases hq.out with e | e; exact absurd e h0; exact e)
          have hp := hidR (hp.out h0)
          clear hz h0
          go_wp2_with fail
          refine KC.mono ?_
          rintro e w2 ⟨⟨cv, rfl, hcov⟩, hb⟩
          have HC := hidR (CvI.start kT.out kR.out hown.out kB.out hb hcov)
          obtain ⟨ac, cc, rfl⟩ := own_form hcov
          obtain ⟨ad, cd, rfl⟩ := own_form hown.out
          obtain ⟨t0, t1, -, -⟩ := HC.out.t
          clear KC hb hcov kT kR hown kB x0 x1 x2 x3 x4 p0 p1 p2 p3 p4
          have hszn := hsz.out
          have ma : IntKind.i64.wrap ((L0.length : Int) + (T.length : Int)) = (L0.length : Int) + (T.length : Int) := by rw [IntKind.wrap_i64]; omega
          by_cases hlim : 1048576 < L0.length + T.length
          · have dl : decide ((1048576 : Int) < (L0.length : Int) + (T.length : Int)) = true := by simp; omega
            have hlo : ¬ okL F l = true := by unfold okL; simp; have := hq.out; omega
            have HLO := hidR (tab_no (F := F) (l := l) (by simpa using hlo))
            obtain ⟨r0, r1, r2, r3⟩ := HC.out.r
            have HB := hidR (bset2 HC.out.bel (Nat.le_refl w.heap.size) (.int .i64 0) (.slice none 0 0))
            obtain ⟨s0, s1, -, -⟩ := HC.out.r.set2 0 (.slice none 0 0)
            clear hlo hlim hq hp HC
            go_wp2
            exact bodyPost_ret (v := .tuple #[.agg #[.int .i64 0, .slice none 0 0], .int .i64 16]) (by simp [results, Tryd.results27, go_sem, s0, s1]) rfl ⟨⟨.slice none 0 0, by rw [HLO.out.1, HLO.out.2.1], by rw [HLO.out.2.2]; exact World.ownsRow_nil _ _ _ _⟩, HB.out⟩
          · have dl : decide ((1048576 : Int) < (L0.length : Int) + (T.length : Int)) = false := by simp; omega
            generalize wr.heap.size = S0 at *
            go_wp2_with fail
            go_loopw [43] (fun jv W => ∃ (j : Nat) (dw : Value), j ≤ T.length ∧ jv = .int .i64 j ∧ Hid (CvI w F S0 px py ph (.slice ac T.length cc) T (L0 ++ (T.take j).map (fun p => (p, ph))) dw W)) (fun jv _ => T.length - (intOf jv).toNat)
            case atStart => exact ⟨0, _, by omega, rfl, by simpa using HC⟩
            case round =>
              clear HC t0 t1
              obtain ⟨j, dw, hj, rfl, HC⟩ := hrel
              by_cases hjl : (j : Int) < (T.length : Int)
              · have hjs : j < T.length := by omega
                have hcv := HC.out.cov
                obtain ⟨g, cc', hcg⟩ : ∃ g, ac = some ⟨g, 0, none⟩ ∧ True := by
                  rcases hcv.2 with ⟨e, e2⟩ | ⟨g, cap, cur, e, _⟩
                  · omega
                  · injection e with e1
                    exact ⟨g, e1, trivial⟩
                subst cc'
                obtain ⟨y0, y1, y2⟩ := rowP_cells6 hcv j hjs
                have hcap : T.length ≤ cc := by
                  rcases hcv.2 with ⟨e, e2⟩ | ⟨g, cap, cur, e, _, _, h1, _⟩
                  · omega
                  · injection e with _ _ e1
                    omega
                have HA := hidR (cov_app T L0 ph j hjs)
                have hsz2 := cov_size T L0 ph j
                obtain ⟨t0, t1, -, -⟩ := HC.out.t
                obtain ⟨-, -, -, -, s4, -⟩ := HC.out.s
                have hows := HC.out.own
                have hbl := HC.out.bel
                revert HC HA hsz2 hows t1
                generalize L0 ++ (T.take j).map (fun p => (p, ph)) = L
                generalize T[j].1 = qx at *
                generalize T[j].2 = qn at *
                intro HC HA hsz2 t1 hows
                obtain ⟨ae, ce2, rfl⟩ := own_form hows
                have h63 : L.length + 1 ≤ maxLen := by unfold maxLen; omega
                have h47 : (L.length + 1) * 32 ≤ 140737488355328 := by omega
                have mj : IntKind.i64.wrap ((j : Int) + 1) = (j : Int) + 1 := by rw [IntKind.wrap_i64]; omega
                obtain ⟨b0, b1, b2, -⟩ := atp_new wr wr.heap.size qx qn 36 rfl
                have hT2 := HC.out.t.lt
                have hS2 := HC.out.s.lt
                have t1' := keepc (bl1 wr (.cells #[.int .u64 (hI qx), .int .u64 (lI qx), .int .i64 qn] 36)) t1
                have s4' := keepc (bl1 wr (.cells #[.int .u64 (hI qx), .int .u64 (lI qx), .int .i64 qn] 36)) s4
                clear hcv
                go_wp2_with (first | (
                    at_builtin
                    refine wpList_append_lies _ rfl _ _ 22 rfl (w.heap.size + 2) 50 i0 (.agg #[.int .u64 0, .int .u64 0, .int .i64 0, .int .i64 0]) 4 32 Tryd.underlying22 hi hz0 hz1 hz2 rfl (by decide) _ _ _ rfl ((hows.alloc _).alloc _) ⟨wr.heap.size + 1, 0, none⟩ 1 1 [.int .u64 (hI qx), .int .u64 (lI qx), .int .i64 qn, .int .i64 ph] rfl rfl (newsB _ _ (by simp) _ _ _ _ _) (fourR6 _ _ _ _) (by decide) h63 h47 (by simp; omega) _ rfl ?_
                    intro g4 cap4 w4 hown4 hgrow hat hlt4
                    have HC4 := hidR (HC.out.step _ _ qx qn g4 cap4 hown4 hgrow hat)
                    obtain ⟨f0, f1, f2, f3⟩ := HC.out.mid _ _ hgrow
                    clear hgrow hat hown4 hlt4 h63 h47 b0 b1 b2 t1' s4' t0 t1 s4 y0 y1 y2))
                go_wp2
                go_roundw
                case rel => exact ⟨j + 1, _, by omega, by simp, by rw [HA.out]; exact HC4⟩
                case measure => simp [intOf]; omega
              · have hd : decide ((j : Int) < (T.length : Int)) = false := by simpa using hjl
                have hje : Hid (j = T.length) := hidR (by omega)
                have HF : Hid (CvI w F S0 px py ph (.slice ac T.length cc) T L1 dw wr) := hidR (by have h9 := HC.out; rw [hje.out] at h9; rw [hp.out]; exact h9)
                have HZ : Hid (L1.length ≤ 1048576) := hidR (by rw [hp.out]; simp; omega)
                clear HC hp
                go_wp2
                go_roundw
                case rel =>
                  refine ⟨k + 1, dw, by omega, by simp, hidR HF.out.t, hidR HF.out.r, ?_, ?_, hidR HF.out.bel⟩
                  · show World.ownsRow _ _ _ _ _ _ _
                    rw [HL1.out]
                    exact HF.out.own
                  · show _ ≤ _
                    rw [HL1.out]
                    exact HZ.out
                case measure => simp [intOf]; omega
    · have hd : decide ((k : Int) < (l.length : Int)) = false := by simpa using hlt
      have hke : l.take k = l := List.take_of_length_le (by omega)
      rw [hke] at hown hsz
      have hlo : okL F l = true := by unfold okL; simpa using hsz.out
      have HLO := hidR (tab_yes hlo)
      obtain ⟨t0, t1, -, -⟩ := kT.out
      obtain ⟨r0, r1, r2, r3⟩ := kR.out
      have hTR : ¬ w.heap.size + 1 = w.heap.size := by omega
      have HB := hidR (bset2 kB.out (Nat.le_refl w.heap.size) (.int .i64 F) dv)
      have HO : Hid ((((wr.setCell ⟨w.heap.size, 0, none⟩ (.int .i64 F)).setCell ⟨w.heap.size, 1, none⟩ dv)).ownsRow w.heap.size 50 4 dv (covR F l).length (rowR (covR F l))) := hidR (own_wide (own_heap hown.out (fun g e => by
        have := (hown.out.lt g e).1
        rw [hSet _ (by omega), hSet _ (by omega)])) (by omega))
      obtain ⟨s0, s1, -, -⟩ := kR.out.set2 F dv
      clear hke hlo
      obtain ⟨ad, cd, rfl⟩ := own_form hown.out
      go_wp2
      exact bodyPost_ret (v := .tuple #[.agg #[.int .i64 F, .slice ad (covR F l).length cd], .int .i64 0]) (by simp [results, Tryd.results27, go_sem, s0, s1]) rfl ⟨⟨.slice ad (covR F l).length cd, by rw [HLO.out.1, HLO.out.2.1], by rw [HLO.out.2.2]; exact HO.out⟩, HB.out⟩
end Go.Proofs.YtmkjlcfoedglmabDoor
/-
  What the calls of package algebra's checkSeg and checkSegs do.
-/
namespace Go.Proofs.YtmkjlcfoedglmabDoor
open Go.RowKit
set_option linter.unusedSimpArgs false
set_option linter.unusedVariables false

set_option maxHeartbeats 4000000 in
theorem checkSeg_any (F : Int) (x y : BitVec 128) (h : Int) (w : World) :
    Calls Tryd.prog 54 #[.int .i64 F, .agg #[.int .u64 (hI x), .int .u64 (lI x), .int .u64 (hI y), .int .u64 (lI y), .int .i64 h]] w fun e w' => e = .returned (.int .i64 (sgE F ((x, y), h))) ∧ Below w.heap.size w w' := by
  have KX := fun w => aright_any F x w
  have KY := fun w => aright_any F y w
  have KC := fun w => cmp_any y x w
  unfold sgE
  dsimp only
  revert KX KY KC
  generalize rightE F x = rx
  generalize rightE F y = ry
  generalize cmpZ y x = cz
  intro KX KY KC
  generalize hR : (if rx = 0 then (if ry = 0 then (if h < 0 then (15 : Int) else if 65535 < h then 15 else if cz < 0 then 19 else 0) else 6) else 6) = R
  have HR := hidR hR
  clear hR
  have A0 := hidR (atg_new w w.heap.size x y h 48 rfl)
  have B0 := hidR (bl1 w (.cells #[.int .u64 (hI x), .int .u64 (lI x), .int .u64 (hI y), .int .u64 (lI y), .int .i64 h] 48))
  obtain ⟨p0, p1, p2, p3, p4, -⟩ := A0.out
  go_enter Tryd.func54, Tryd.ntmps54
  by_cases h1 : rx = 0
  · subst h1
    go_wp2_with fail
    refine (KX _).mono ?_
    rintro e w1 ⟨rfl, hb⟩
    have B1 := hidR (keepb hb B0.out)
    have A1 := hidR (A0.out.below hb)
    obtain ⟨q0, q1, q2, q3, q4, -⟩ := A1.out
    clear KX hb B0 A0 p0 p1 p2 p3 p4
    go_wp2_with fail
    refine (KY _).mono ?_
    rintro e w2 ⟨rfl, hb⟩
    have B2 := hidR (keepb hb B1.out)
    have A2 := hidR (A1.out.below hb)
    obtain ⟨r0, r1, r2, r3, r4, -⟩ := A2.out
    clear KY hb B1 A1 q0 q1 q2 q3 q4
    by_cases h2 : ry = 0
    · subst h2
      by_cases h3 : h < 0
      · clear KC
        go_wp2
        go_ret
        exact ⟨by rw [← HR.out]; simp [*], B2.out⟩
      · by_cases h4 : 65535 < h
        · clear KC
          have d3 : decide (h < 0) = false := by simpa using h3
          go_wp2
          go_ret
          exact ⟨by rw [← HR.out]; simp [*], B2.out⟩
        · have d3 : decide (h < 0) = false := by simpa using h3
          have d4 : decide (65535 < h) = false := by simpa using h4
          go_wp2_with fail
          refine (KC _).mono ?_
          rintro e w3 ⟨rfl, hb⟩
          have B3 := hidR (keepb hb B2.out)
          clear KC hb B2 A2 r0 r1 r2 r3 r4
          by_cases h5 : cz < 0
          · go_wp2
            go_ret
            exact ⟨by rw [← HR.out, if_pos trivial, if_pos trivial, if_neg (by omega), if_neg (by omega), if_pos h5]; rfl, B3.out⟩
          · have d5 : decide (cz < 0) = false := by simpa using h5
            go_wp2
            go_ret
            exact ⟨by rw [← HR.out, if_pos trivial, if_pos trivial, if_neg (by omega), if_neg (by omega), if_neg (by omega)]; rfl, B3.out⟩
    · have d2 : (ry != 0) = true := by simp [h2]
      clear KC
      go_wp2
      go_ret
      exact ⟨by rw [← HR.out]; simp [*], B2.out⟩
  · have d1 : (rx != 0) = true := by simp [h1]
    go_wp2_with fail
    refine (KX _).mono ?_
    rintro e w1 ⟨rfl, hb⟩
    have B1 := hidR (keepb hb B0.out)
    clear KX hb B0 A0 p0 p1 p2 p3 p4 KY KC
    go_wp2
    go_ret
    exact ⟨by rw [← HR.out]; simp [*], B1.out⟩
/-- The segment ahead of place k. -/
def prevO (l : List Sg) : Nat → Option Sg
  | 0 => none
  | k + 1 => l[k]?
theorem sgs_drop (F : Int) (l : List Sg) (k : Nat) (hk : k < l.length) (p : Option Sg) : sgsGo F p (l.drop k) = if sgE F l[k] = 0 then (if moO F p = true then (if (l[k].1.1 == nxO F p) = true then (if p.map (·.2) = some l[k].2 then 19 else sgsGo F (some l[k]) (l.drop (k + 1))) else 19) else 19) else sgE F l[k] := by
  rw [List.drop_eq_getElem_cons hk, sgsGo]
set_option maxHeartbeats 8000000 in
theorem checkSegs_any (F : Int) (v : Value) (l : List Sg) (w : World) (hv : RwG w v l) (hll : l.length ≤ 1000000000) :
    Calls Tryd.prog 32 #[.int .i64 F, v] w fun e w' => e = .returned (.int .i64 (sgsE F l)) ∧ Below w.heap.size w w' := by
  obtain ⟨ao, c, rfl, hv⟩ := hv
  have KL := fun w => alast_any F w
  unfold lastV lastE at KL
  unfold sgsE
  cases hf : fam F
  · rw [hf, if_neg (by simp), if_neg (by simp), hI_zero, lI_zero] at KL
    rw [if_neg (by simp)]
    clear hf hv
    go_enter Tryd.func32, Tryd.ntmps32
    go_wp2_with fail
    refine (KL _).mono ?_
    rintro e w1 ⟨rfl, hb⟩
    clear KL
    go_wp2
    go_ret
    exact ⟨rfl, hb.alloc hb.size _⟩
  · rw [hf, if_pos rfl, if_pos rfl] at KL
    rw [if_pos rfl]
    have HV := hidR hv
    clear hf hv
    generalize maskW F = mk at *
    by_cases hl : l = []
    · rw [if_pos hl]
      have h1 : ((l.length : Int) == 0) = true := by rw [hl]; rfl
      go_enter Tryd.func32, Tryd.ntmps32
      go_wp2_with fail
      refine (KL _).mono ?_
      rintro e w1 ⟨rfl, hb⟩
      clear KL
      go_wp2
      go_ret
      exact ⟨rfl, hb.alloc hb.size _⟩
    · rw [if_neg hl]
      have h1 : ((l.length : Int) == 0) = false := by
        have : l.length ≠ 0 := fun e => hl (List.length_eq_zero_iff.mp e)
        simpa using this
      go_enter Tryd.func32, Tryd.ntmps32
      go_wp2_with fail
      refine (KL _).mono ?_
      rintro e w1 ⟨rfl, hb⟩
      have kB0 := hb.alloc hb.size (.cells #[.int .u64 (hI mk), .int .u64 (lI mk)] 34)
      have kB := hidR (kB0.alloc kB0.size (.cells #[.int .u64 0, .int .u64 0] 34))
      have HN := hidR (at_new (w1.alloc (.cells #[.int .u64 (hI mk), .int .u64 (lI mk)] 34)) (w1.heap.size + 1) 0#128 34 (by simp))
      have hle : w.heap.size ≤ w1.heap.size + 1 := by have := hb.size; omega
      clear KL hb kB0
      go_wp2_with fail
      go_loopw [8, 26] (fun mv i wr => ∃ k : Nat, k ≤ l.length ∧ i = .int .i64 k ∧ mv = .bool (moO F (prevO l k)) ∧ Hid (sgsGo F (prevO l k) (l.drop k) = sgsGo F none l) ∧ Hid (At wr (w1.heap.size + 1) (nxO F (prevO l k))) ∧ Hid (Below w.heap.size w wr)) (fun _ i _ => l.length - (intOf i).toNat)
      case atStart => exact ⟨0, by omega, rfl, rfl, hidR rfl, HN, kB⟩
      case round =>
        clear kB HN
        obtain ⟨k, hk, rfl, rfl, hG, HN, HB⟩ := hrel
        by_cases hlt : (k : Int) < (l.length : Int)
        · have hks : k < l.length := by omega
          rcases HV.out with h | ⟨b, off, rfl, hc⟩
          · rw [h] at hks; simp at hks
          · obtain ⟨x0, x1, x2, x3, x4⟩ := rwg_cells hc k hks
            have x0 := keepc HB.out x0
            have x1 := keepc HB.out x1
            have x2 := keepc HB.out x2
            have x3 := keepc HB.out x3
            have x4 := keepc HB.out x4
            have KC := fun w => checkSeg_any F l[k].1.1 l[k].1.2 l[k].2 w
            have KX := fun w => anext_any F l[k].1.2 w
            have eS : ((l[k].1.1, l[k].1.2), l[k].2) = l[k] := rfl
            rw [eS] at KC
            have HD := hidR (sgs_drop F l k hks (prevO l k))
            have HP : Hid (k = 0 ∨ ∃ (j : Nat) (q : Sg), k = j + 1 ∧ prevO l k = some q ∧ ∀ W, Below w.heap.size w W → W.cell? ⟨b, off + j * 5 + 4, none⟩ = some (.int .i64 q.2)) := hidR (by
              cases k with
              | zero => exact .inl rfl
              | succ k =>
                refine .inr ⟨k, l[k], rfl, by rw [prevO, List.getElem?_eq_getElem (by omega)], fun W hW => ?_⟩
                have := (rwg_cells hc k (by omega)).2.2.2.2
                exact keepc hW this)
            have HS : Hid (prevO l (k + 1) = some l[k]) := hidR (by rw [prevO, List.getElem?_eq_getElem hks])
            have hnx : Hid (nxO F (some l[k]) = nextV F l[k].1.2 ∧ moO F (some l[k]) = nextB F l[k].1.2) := hidR ⟨rfl, rfl⟩
            clear hc HV eS
            revert KC KX HD HS hnx
            generalize sgE F l[k] = ce
            generalize hlk : l[k] = s
            generalize nextV F s.1.2 = nv
            generalize nextB F s.1.2 = nb
            rw [hlk] at x0 x1 x2 x3 x4
            clear hlk
            obtain ⟨⟨px, py⟩, ph⟩ := s
            dsimp only at x0 x1 x2 x3 x4 ⊢
            intro KC KX HD HS hnx
            have P0 := atg_new wr wr.heap.size px py ph 48 rfl
            obtain ⟨p0, p1, p2, p3, p4, -⟩ := id P0
            go_wp2_with fail
            refine (KC _).mono ?_
            rintro e w2 ⟨rfl, hb⟩
            have kB2 := hidR (keepb hb (HB.out.alloc HB.out.size (.cells #[.int .u64 (hI px), .int .u64 (lI px), .int .u64 (hI py), .int .u64 (lI py), .int .i64 ph] 48)))
            have HN2 := hidR ((HN.out.below (bl1 wr (.cells #[.int .u64 (hI px), .int .u64 (lI px), .int .u64 (hI py), .int .u64 (lI py), .int .i64 ph] 48))).below hb)
            have HS2 := hidR (P0.below hb)
            obtain ⟨n0, n1, n2, n3, -⟩ := HN2.out
            obtain ⟨q0, q1, q2, q3, q4, -⟩ := HS2.out
            clear hb KC x0 x1 x2 x3 x4 p0 p1 p2 p3 p4 P0 HN HB
            by_cases hce : ce = 0
            · subst hce
              have hk2 : IntKind.i64.wrap ((k : Int) + 1) = (k : Int) + 1 := by rw [IntKind.wrap_i64]; omega
              have hE := fun w => eqW_run px (nxO F (prevO l k)) w
              have hG2 : Hid (sgsGo F none l = if moO F (prevO l k) = true then (if (px == nxO F (prevO l k)) = true then (if (prevO l k).map (·.2) = some ph then 19 else sgsGo F (some ((px, py), ph)) (l.drop (k + 1))) else 19) else 19) := hidR (by rw [← hG.out, HD.out, if_pos rfl])
              clear HD hG
              cases hmo : moO F (prevO l k)
              · have HE : Hid (sgsGo F none l = 19) := hidR (by rw [hG2.out, hmo]; rfl)
                clear hE KX HP
                go_wp2_with fail
                go_quiet (fail)
                go_wp2
                go_ret
                exact ⟨by rw [HE.out]; rfl, below_drewN kB2.out _⟩
              · cases hpe : (px == nxO F (prevO l k))
                · have HE : Hid (sgsGo F none l = 19) := hidR (by rw [hG2.out, hmo, hpe]; rfl)
                  rw [hpe] at hE
                  clear KX HP
                  go_wp2_with fail
                  go_quiet (fail)
                  go_wp2
                  go_ret
                  exact ⟨by rw [HE.out]; rfl, below_drewN kB2.out _⟩
                · rw [hpe] at hE
                  rcases HP.out with rfl | ⟨j, q, hkj, hq, hcq⟩
                  · have HC : Hid (sgsGo F (some ((px, py), ph)) (l.drop (0 + 1)) = sgsGo F none l) := hidR (by rw [hG2.out, hmo, hpe]; rfl)
                    clear HP hG2 hpe hmo
                    go_wp2_with fail
                    go_quiet (fail)
                    go_wp2_with fail
                    refine (KX _).mono ?_
                    rintro e w3 ⟨rfl, hb⟩
                    have bq := below_drewN (Below.refl w2.heap.size w2) nq
                    have HN3 := hidR (((HN2.out.below bq).below hb).set nv)
                    obtain ⟨y0, y1, y2, y3, -⟩ := (HN2.out.below bq).below hb
                    have kB3 := hidR (bset2 (keepb hb (below_drewN kB2.out nq)) hle (.int .u64 (hI nv)) (.int .u64 (lI nv)))
                    clear hb KX n0 n1 n2 n3 q0 q1 q2 q3 q4 hE
                    go_wp2
                    go_roundw
                    case rel =>
                      refine ⟨0 + 1, by omega, by simp, ?_, ?_, ?_, kB3⟩
                      · rw [HS.out, hnx.out.2]
                      · show sgsGo F (prevO l (0 + 1)) (l.drop (0 + 1)) = sgsGo F none l
                        rw [HS.out, HC.out]
                      · show At _ _ _
                        rw [HS.out, hnx.out.1]; exact HN3.out
                    case measure => simp [intOf]; omega
                  · have r4 := hcq w2 kB2.out
                    have m1 : IntKind.i64.wrap ((k : Int) - 1) = (j : Int) := by rw [IntKind.wrap_i64]; omega
                    have g1 : (0 : Int) < (k : Int) := by omega
                    have g5 : 0 < k := by omega
                    have g6 : decide (0 < k) = true := by simpa using g5
                    have g7 : decide ((0 : Int) < (k : Int)) = true := by simpa using g5
                    have g2 : (0 : Int) ≤ (j : Int) := by omega
                    have g3 : (j : Int) < (l.length : Int) := by omega
                    have g4 : j < l.length := by omega
                    have HKJ := hidR hkj
                    clear hkj
                    by_cases hh : ph = q.2
                    · have HE : Hid (sgsGo F none l = 19) := hidR (by rw [hG2.out, hmo, hpe, hq]; simp [hh])
                      have dh : (ph == q.2) = true := by simp [hh]
                      clear HP hG2 hpe hmo hcq hq KX
                      go_wp2_with fail
                      go_quiet (fail)
                      go_wp2
                      go_ret
                      exact ⟨by rw [HE.out]; rfl, below_drewN kB2.out _⟩
                    · have HC : Hid (sgsGo F (some ((px, py), ph)) (l.drop (k + 1)) = sgsGo F none l) := hidR (by rw [hG2.out, hmo, hpe, hq]; simp [show ¬ q.2 = ph from fun e => hh e.symm])
                      have dh : (ph == q.2) = false := by simp [hh]
                      clear HP hG2 hpe hmo hcq hq
                      go_wp2_with fail
                      go_quiet (fail)
                      go_wp2_with fail
                      refine (KX _).mono ?_
                      rintro e w3 ⟨rfl, hb⟩
                      have bq := below_drewN (Below.refl w2.heap.size w2) nq
                      have HN3 := hidR (((HN2.out.below bq).below hb).set nv)
                      obtain ⟨y0, y1, y2, y3, -⟩ := (HN2.out.below bq).below hb
                      have kB3 := hidR (bset2 (keepb hb (below_drewN kB2.out nq)) hle (.int .u64 (hI nv)) (.int .u64 (lI nv)))
                      clear hb KX n0 n1 n2 n3 q0 q1 q2 q3 q4 hE
                      go_wp2
                      go_roundw
                      case rel =>
                        refine ⟨k + 1, by omega, by simp, ?_, ?_, ?_, kB3⟩
                        · rw [HS.out, hnx.out.2]
                        · show sgsGo F (prevO l (k + 1)) (l.drop (k + 1)) = sgsGo F none l
                          rw [HS.out, HC.out]
                        · show At _ _ _
                          rw [HS.out, hnx.out.1]; exact HN3.out
                      case measure => simp [intOf]; omega
            · have hn : (ce != 0) = true := by simp [hce]
              have HE : Hid (sgsGo F none l = ce) := by show _ = _; rw [← hG.out, HD.out, if_neg hce]
              clear n0 n1 n2 n3 q0 q1 q2 q3 q4
              go_wp2
              go_ret
              exact ⟨by rw [HE.out]; rfl, kB2.out⟩
        · have hd : decide ((k : Int) < (l.length : Int)) = false := by simpa using hlt
          have HE : Hid (sgsGo F none l = if moO F (prevO l k) = true then 19 else 0) := by
            show _ = _
            rw [← hG.out, List.drop_eq_nil_of_le (by omega), sgsGo]
          cases hm : moO F (prevO l k)
          · rw [hm] at HE
            go_wp2
            go_ret
            exact ⟨by rw [HE.out]; rfl, HB.out⟩
          · rw [hm] at HE
            go_wp2
            go_ret
            exact ⟨by rw [HE.out]; rfl, HB.out⟩
end Go.Proofs.YtmkjlcfoedglmabDoor
