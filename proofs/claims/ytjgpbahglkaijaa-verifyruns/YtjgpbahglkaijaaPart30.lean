/-
  Part 30 of the proof: 12 texts, one behind the other.
-/
import Derived.Test.YtjgpbahglkaijaaPart29
import Derived.Test.YtjgpbahglkaijaaPart3
import Derived.Deep.CutRange
import Derived.Test.YtjgpbahglkaijaaPart21
import Derived.Test.YtjgpbahglkaijaaPart8
import Derived.Test.YtjgpbahglkaijaaPart26
import Derived.Test.YtjgpbahglkaijaaPart12
import Derived.Test.YtjgpbahglkaijaaPart13
import Derived.Test.YtjgpbahglkaijaaPart19
import Derived.Test.YtjgpbahglkaijaaPart28
import Derived.Test.YtjgpbahglkaijaaPart22
import Derived.Test.YtjgpbahglkaijaaPart2
import Derived.Test.YtjgpbahglkaijaaPart18
import Derived.Test.YtjgpbahglkaijaaPart6
import Derived.ScopeJumps
import Derived.Test.YtjgpbahglkaijaaPart7
import Derived.Test.YtjgpbahglkaijaaPart1
namespace Go.Proofs.Ytjgpbahglkaijaa
open Go.RowKit Go.Shelf
set_option linter.unusedSimpArgs false
set_option linter.unusedVariables false
attribute [local go_sem] Oper.semAt_some

def rowE : List ((Int × Int) × Value) → List Value
  | [] => []
  | e :: t => .int .i64 e.1.1 :: .int .i64 e.1.2 :: e.2 :: rowE t
structure BkV (w : World) (a bt en : Int) (vm ve : Value) (W : World) : Prop where
  r : W.heap[w.heap.size]? = some (.cells #[.int .i64 0, .int .i64 0, .slice none 0 0, .int .i64 0, .slice none 0 0] 80)
  x : W.heap[w.heap.size + 1]? = some (.cells #[.int .i64 a, .int .i64 bt, vm, .int .i64 en, ve] 80)
  b : Below w.heap.size w W
section
variable {w W W' : World} {a bt en : Int} {vm ve : Value}
theorem BkV.below (h : BkV w a bt en vm ve W) (hb : Below W.heap.size W W') : BkV w a bt en vm ve W' := ⟨(hb.block _ (lt_16 h.r)).trans h.r, (hb.block _ (lt_16 h.x)).trans h.x, keepb hb h.b⟩
theorem BkV.s1 (h : BkV w a bt en vm ve W) (y : Int) : BkV w a y en vm ve (W.setCell ⟨w.heap.size + 1, 1, none⟩ (.int .i64 y)) := ⟨(far_16 (by omega)).trans h.r, by rw [set_16 h.x]; rfl, h.b.setCell (p := ⟨w.heap.size + 1, 1, none⟩) (Nat.le_succ _) _⟩
theorem BkV.s2 (h : BkV w a bt en vm ve W) (y : Value) : BkV w a bt en y ve (W.setCell ⟨w.heap.size + 1, 2, none⟩ y) := ⟨(far_16 (by omega)).trans h.r, by rw [set_16 h.x]; rfl, h.b.setCell (p := ⟨w.heap.size + 1, 2, none⟩) (Nat.le_succ _) _⟩
theorem BkV.s3 (h : BkV w a bt en vm ve W) (y : Int) : BkV w a bt y vm ve (W.setCell ⟨w.heap.size + 1, 3, none⟩ (.int .i64 y)) := ⟨(far_16 (by omega)).trans h.r, by rw [set_16 h.x]; rfl, h.b.setCell (p := ⟨w.heap.size + 1, 3, none⟩) (Nat.le_succ _) _⟩
theorem BkV.s4 (h : BkV w a bt en vm ve W) (y : Value) : BkV w a bt en vm y (W.setCell ⟨w.heap.size + 1, 4, none⟩ y) := ⟨(far_16 (by omega)).trans h.r, by rw [set_16 h.x]; rfl, h.b.setCell (p := ⟨w.heap.size + 1, 4, none⟩) (Nat.le_succ _) _⟩
theorem BkV.far (h : BkV w a bt en vm ve W) {B o : Nat} (u : Value) (hB : w.heap.size + 1 < B) : BkV w a bt en vm ve (W.setCell ⟨B, o, none⟩ u) := ⟨(far_16 (by omega)).trans h.r, (far_16 (by omega)).trans h.x, h.b.setCell (p := ⟨B, o, none⟩) (by show w.heap.size ≤ B; omega) _⟩
end
theorem BkV.grown {w W W' : World} {a bt en : Int} {vm ve v : Value} {row : Option Nat} (h : BkV w a bt en vm ve W) (hg : W.grownBy W' row) (hr : ∀ z, row = some z → w.heap.size + 2 ≤ z) : BkV w a bt en vm ve W' :=
  ⟨(hg.block _ (lt_16 h.r) (fun e => by have := hr _ e.symm; omega)).trans h.r, (hg.block _ (lt_16 h.x) (fun e => by have := hr _ e.symm; omega)).trans h.x, h.b.grown hg h.b.size (fun r e => by have := hr _ e; omega)⟩
end Go.Proofs.Ytjgpbahglkaijaa
namespace Go.Proofs.Ytjgpbahglkaijaa
open Go.RowKit Go.Shelf
set_option linter.unusedSimpArgs false
set_option linter.unusedVariables false
attribute [local go_sem] Oper.semAt_some

structure Kv where
  a : Int
  t : Int
  vm : Value
  en : Int
  ve : Value
def rowK : List Kv → List Value
  | [] => []
  | x :: t => .int .i64 x.a :: .int .i64 x.t :: x.vm :: .int .i64 x.en :: x.ve :: rowK t
theorem rowK_app : ∀ (A : List Kv) (x : Kv), rowK (A ++ [x]) = rowK A ++ [.int .i64 x.a, .int .i64 x.t, x.vm, .int .i64 x.en, x.ve]
  | [], e => rfl
  | y :: A, e => by
    show _ :: _ :: _ :: _ :: _ :: rowK (A ++ [e]) = _
    rw [rowK_app A e]; rfl
def KbO (W : World) (base : Nat) (x : Kv) (d : DB) : Prop := x.a = d.a ∧ x.t = d.t ∧ x.en = d.en ∧ W.ownsRow base 110 1 x.vm d.m.length (d.m.map cU) ∧ ∃ es, W.ownsRow base 75 3 x.ve es.length (rowE es) ∧ es.map Prod.fst = d.es ∧ ∀ e ∈ es, ∃ ao n c, e.2 = Value.slice ao n c
structure KbV (W : World) (base : Nat) (vl : Value) (K : List Kv) (D : List DB) : Prop where
  o : W.ownsRow base 80 5 vl K.length (rowK K)
  l : K.length = D.length
  m : ∀ (j : Nat) (x : Kv) (d : DB), K[j]? = some x → D[j]? = some d → KbO W base x d
theorem KbO.below {W W' : World} {base : Nat} {x : Kv} {d : DB} (h : KbO W base x d) (hb : Below W.heap.size W W') : KbO W' base x d := by
  obtain ⟨h1, h2, h3, h4, es, h5, h6⟩ := h
  exact ⟨h1, h2, h3, own_b13 hb h4, es, own_b13 hb h5, h6⟩
theorem KbV.below {W W' : World} {base : Nat} {vl : Value} {K : List Kv} {D : List DB} (h : KbV W base vl K D) (hb : Below W.heap.size W W') : KbV W' base vl K D := ⟨own_b13 hb h.o, h.l, fun j x d h1 h2 => (h.m j x d h1 h2).below hb⟩
theorem KbV.nil {W : World} {base : Nat} : KbV W base (.slice none 0 0) [] [] := ⟨World.ownsRow_nil _ _ _ _, rfl, fun j x d h => by simp at h⟩
theorem KbV.get {W : World} {base : Nat} {vl : Value} {K : List Kv} {D : List DB} (h : KbV W base vl K D) {j : Nat} {d : DB} (hd : D[j]? = some d) : ∃ x, K[j]? = some x ∧ KbO W base x d := by
  have h1 : j < K.length := by rw [h.l]; exact (List.getElem?_eq_some_iff.mp hd).1
  exact ⟨K[j], List.getElem?_eq_getElem h1, h.m j _ d (List.getElem?_eq_getElem h1) hd⟩
theorem KbV.far {W : World} {base : Nat} {vl : Value} {K : List Kv} {D : List DB} (h : KbV W base vl K D) {z o : Nat} {cs : Array Value} {T : TypeId} {fr : Nat × Nat} (hz : W.heap[z]? = some (.cells cs T fr)) (h1 : 80 ≠ T) (h2 : 110 ≠ T) (h3 : 75 ≠ T) (u : Value) : KbV (W.setCell ⟨z, o, none⟩ u) base vl K D := by
  have hk : ∀ y, y ≠ z → (W.setCell ⟨z, o, none⟩ u).heap[y]? = W.heap[y]? := fun y q => far_16 q
  refine ⟨own_keep18 h.o (fun g e => hk g (fun q => own_not18 h.o hz h1 (q ▸ e))), h.l, fun j x d q1 q2 => ?_⟩
  obtain ⟨a1, a2, a3, a4, es, a5, a6⟩ := h.m j x d q1 q2
  exact ⟨a1, a2, a3, own_keep18 a4 (fun g e => hk g (fun q => own_not18 a4 hz h2 (q ▸ e))), es, own_keep18 a5 (fun g e => hk g (fun q => own_not18 a5 hz h3 (q ▸ e))), a6⟩
theorem KbV.push {W W1 W2 W3 : World} {base : Nat} {v v' : Value} {K : List Kv} {D : List DB} {x : Kv} {d : DB} (h : KbV W base v K D) (hbs : base ≤ W.heap.size) (h1 : Below W.heap.size W W1) (hx : KbO W1 W.heap.size x d) (h2 : Below W1.heap.size W1 W2) (hg : W2.grownBy W3 v.ownBlock)
    (ho : W3.ownsRow base 80 5 v' (K.length + 1) (rowK K ++ [.int .i64 x.a, .int .i64 x.t, x.vm, .int .i64 x.en, x.ve])) : KbV W3 base v' (K ++ [x]) (D ++ [d]) := by
  have hb2 : Below W.heap.size W W2 := keepb h2 h1
  have keep : ∀ {b0 e s n : Nat} {y : Value} {xs : List Value}, e ≠ 80 → W2.ownsRow b0 e s y n xs → W3.ownsRow b0 e s y n xs := fun he hx => own_keep18 hx (fun g hg2 => by
    obtain ⟨cs, hcs⟩ := own_typed18 hx g hg2
    refine hg.block g (lt_16 hcs) (fun q => ?_)
    exact own_not18 (own_b13 hb2 h.o) hcs (Ne.symm he) q.symm)
  refine ⟨?_, by rw [List.length_append, List.length_append, h.l]; rfl, fun j y e q1 q2 => ?_⟩
  · rw [rowK_app, List.length_append, List.length_singleton]
    exact ho
  · by_cases hj : j < D.length
    · rw [List.getElem?_append_left (by rw [h.l]; exact hj)] at q1
      rw [List.getElem?_append_left hj] at q2
      obtain ⟨a1, a2, a3, a4, es, a5, a6⟩ := h.m j y e q1 q2
      exact ⟨a1, a2, a3, keep (by decide) (own_b13 hb2 a4), es, keep (by decide) (own_b13 hb2 a5), a6⟩
    · have hj1 := (List.getElem?_eq_some_iff.mp q2).1
      rw [List.length_append, List.length_singleton] at hj1
      have hj2 : j = D.length := by omega
      subst hj2
      rw [List.getElem?_append_right (Nat.le_refl _), Nat.sub_self] at q2
      rw [List.getElem?_append_right (by rw [h.l]; exact Nat.le_refl _), h.l, Nat.sub_self] at q1
      simp at q1 q2
      subst q1 q2
      obtain ⟨a1, a2, a3, a4, es, a5, a6⟩ := hx
      exact ⟨a1, a2, a3, own_base16 (keep (by decide) (own_b13 h2 a4)) hbs, es, own_base16 (keep (by decide) (own_b13 h2 a5)) hbs, a6⟩
end Go.Proofs.Ytjgpbahglkaijaa
namespace Go.Proofs.Ytjgpbahglkaijaa
open Go.RowKit Go.Shelf
set_option linter.unusedSimpArgs false
set_option linter.unusedVariables false
attribute [local go_sem] Oper.semAt_some

structure WyR (n k : Nat) (F u : Int) (A : List (Int × Int)) (X1 X2 : List Int) : Prop where
  l1 : X1.length = n
  l2 : X2.length = n
  la : A.length = n
  r : ∀ j, k ≤ j → j < n → X1.getD j 0 = (A.getD j (0, 0)).2 ∧ X2.getD j 0 = (A.getD j (0, 0)).1
  b1 : ∀ x ∈ X1, 0 ≤ x ∧ x ≤ F
  b2 : ∀ x ∈ X2, 0 ≤ x ∧ x ≤ u
theorem getD_set18 {α : Type} (l : List α) (i j : Nat) (x d : α) (hj : j < l.length) : (l.set i x).getD j d = if i = j then x else l.getD j d := by
  rw [List.getD_eq_getElem?_getD, List.getD_eq_getElem?_getD, List.getElem?_set]
  split
  · subst_vars
    rw [if_pos hj]; rfl
  · rfl
theorem WyR.at1 {n k : Nat} {F u : Int} {A : List (Int × Int)} {X1 X2 : List Int} (h : WyR n k F u A X1 X2) {j : Nat} (hj : j < n) : 0 ≤ X1.getD j 0 ∧ X1.getD j 0 ≤ F ∧ 0 ≤ X2.getD j 0 ∧ X2.getD j 0 ≤ u := by
  have h1 : j < X1.length := by rw [h.l1]; exact hj
  have h2 : j < X2.length := by rw [h.l2]; exact hj
  rw [List.getD_eq_getElem?_getD, List.getD_eq_getElem?_getD, List.getElem?_eq_getElem h1, List.getElem?_eq_getElem h2]
  have a := h.b1 _ (List.getElem_mem h1)
  have b := h.b2 _ (List.getElem_mem h2)
  exact ⟨a.1, a.2, b.1, b.2⟩
theorem WyR.own {n k : Nat} {F u hB hM : Int} {A : List (Int × Int)} {X1 X2 : List Int} (h : WyR n k F u A X1 X2) (h1 : 0 ≤ hM ∧ hM ≤ F) (h2 : 0 ≤ hB ∧ hB ≤ u + 1) : WyR n (k + 1) F (u + 1) A (X1.set k hM) (X2.set k hB) := by
  refine ⟨by rw [List.length_set]; exact h.l1, by rw [List.length_set]; exact h.l2, h.la, fun j h3 h4 => ?_, fun x hx => ?_, fun x hx => ?_⟩
  · rw [getD_set18 _ _ _ _ _ (by rw [h.l1]; exact h4), getD_set18 _ _ _ _ _ (by rw [h.l2]; exact h4), if_neg (by omega), if_neg (by omega)]
    exact h.r j (by omega) h4
  · rcases List.mem_or_eq_of_mem_set hx with q | q
    · exact h.b1 x q
    · subst q; exact h1
  · rcases List.mem_or_eq_of_mem_set hx with q | q
    · have := h.b2 x q; omega
    · subst q; exact h2
theorem WyR.up {n k tt : Nat} {F u M B : Int} {A : List (Int × Int)} {X1 X2 : List Int} (h : WyR n (k + 1) F u A X1 X2) (hk : k < n) (h1 : X1.getD k 0 = M) (h2 : X2.getD k 0 = B) (hto : tt < n) :
    WyR n (k + 1) F u (upX B M A (true, (tt : Int))) (X1.set tt (max (X1.getD tt 0) M)) (X2.set tt (max (X2.getD tt 0) B)) ∧ (X1.set tt (max (X1.getD tt 0) M)).getD k 0 = M ∧ (X2.set tt (max (X2.getD tt 0) B)).getD k 0 = B := by
  have hM := h.at1 hk
  rw [h1, h2] at hM
  have hT := h.at1 hto
  refine ⟨⟨by rw [List.length_set]; exact h.l1, by rw [List.length_set]; exact h.l2, by rw [upX_len]; exact h.la, fun j h3 h4 => ?_, fun x hx => ?_, fun x hx => ?_⟩, ?_, ?_⟩
  · unfold upX
    rw [if_pos rfl]
    dsimp only
    rw [Int.toNat_natCast, getD_set18 _ _ _ _ _ (by rw [h.l1]; exact h4), getD_set18 _ _ _ _ _ (by rw [h.la]; exact h4), getD_set18 _ _ _ _ _ (by rw [h.l2]; exact h4)]
    have hr := h.r j h3 h4
    by_cases c : tt = j
    · subst c
      rw [if_pos rfl, if_pos rfl, if_pos rfl, hr.1, hr.2]
      exact ⟨rfl, rfl⟩
    · rw [if_neg c, if_neg c, if_neg c]
      exact hr
  · rcases List.mem_or_eq_of_mem_set hx with q | q
    · exact h.b1 x q
    · subst q; omega
  · rcases List.mem_or_eq_of_mem_set hx with q | q
    · exact h.b2 x q
    · subst q; omega
  · rw [getD_set18 _ _ _ _ _ (by rw [h.l1]; exact hk)]
    split
    · subst_vars; omega
    · exact h1
  · rw [getD_set18 _ _ _ _ _ (by rw [h.l2]; exact hk)]
    split
    · subst_vars; omega
    · exact h2
structure WyM (w : World) (Z1 Z2 : Nat) (X1 X2 : List Int) (W : World) : Prop where
  z1 : W.heap[Z1]? = some (.cells (X1.map cI).toArray 3)
  z2 : W.heap[Z2]? = some (.cells (X2.map cI).toArray 3)
  b : Below w.heap.size w W
  n1 : w.heap.size ≤ Z1
  n2 : w.heap.size ≤ Z2
  d : Z1 ≠ Z2
section
variable {w W W' : World} {Z1 Z2 : Nat} {X1 X2 : List Int}
theorem WyM.below (h : WyM w Z1 Z2 X1 X2 W) (hb : Below W.heap.size W W') : WyM w Z1 Z2 X1 X2 W' := ⟨(hb.block _ (lt_16 h.z1)).trans h.z1, (hb.block _ (lt_16 h.z2)).trans h.z2, keepb hb h.b, h.n1, h.n2, h.d⟩
theorem WyM.s1 (h : WyM w Z1 Z2 X1 X2 W) (k : Nat) (x : Int) : WyM w Z1 Z2 (X1.set k x) X2 (W.setCell ⟨Z1, k, none⟩ (.int .i64 x)) :=
  ⟨by rw [set_16 h.z1, List.setIfInBounds_toArray, List.map_set]; rfl, (far_16 (Ne.symm h.d)).trans h.z2, h.b.setCell (p := ⟨Z1, k, none⟩) h.n1 _, h.n1, h.n2, h.d⟩
theorem WyM.s2 (h : WyM w Z1 Z2 X1 X2 W) (k : Nat) (x : Int) : WyM w Z1 Z2 X1 (X2.set k x) (W.setCell ⟨Z2, k, none⟩ (.int .i64 x)) :=
  ⟨(far_16 h.d).trans h.z1, by rw [set_16 h.z2, List.setIfInBounds_toArray, List.map_set]; rfl, h.b.setCell (p := ⟨Z2, k, none⟩) h.n2 _, h.n1, h.n2, h.d⟩
theorem WyM.c1 (h : WyM w Z1 Z2 X1 X2 W) {k : Nat} (hk : k < X1.length) : W.cell? ⟨Z1, k, none⟩ = some (.int .i64 (X1.getD k 0)) ∧ W.frozen? ⟨Z1, k, none⟩ = false := by
  refine ⟨at_16 h.z1 k _ ?_, fr_16 h.z1⟩
  rw [List.getElem?_toArray, List.getElem?_map, List.getD_eq_getElem?_getD, List.getElem?_eq_getElem hk]; rfl
theorem WyM.c2 (h : WyM w Z1 Z2 X1 X2 W) {k : Nat} (hk : k < X2.length) : W.cell? ⟨Z2, k, none⟩ = some (.int .i64 (X2.getD k 0)) ∧ W.frozen? ⟨Z2, k, none⟩ = false := by
  refine ⟨at_16 h.z2 k _ ?_, fr_16 h.z2⟩
  rw [List.getElem?_toArray, List.getElem?_map, List.getD_eq_getElem?_getD, List.getElem?_eq_getElem hk]; rfl
end
def lkD (D : List DB) : List PB := (D.map DB.pb).map (lkB (D.map DB.a))
end Go.Proofs.Ytjgpbahglkaijaa
namespace Go.Proofs.Ytjgpbahglkaijaa
open Go.RowKit Go.Shelf
set_option linter.unusedSimpArgs false
set_option linter.unusedVariables false
attribute [local go_sem] Oper.semAt_some

def RbkQ (w : World) (F : Int) (l : List Nat) (e : Ending) (w' : World) : Prop :=
  ∃ v, e = .returned (.tuple #[v, .int .i64 (vfR F l).1, .int .i64 (vfR F l).2.1, .int .i64 (vfR F l).2.2]) ∧ Below w.heap.size w w' ∧ ((vfR F l).2.2 ≠ 0 ∨ (dcE l 0 = 0 ∧ (dcI l 0).op = 4) → v = .slice none 0 0) ∧
    ((vfR F l).2.2 = 0 → ¬ (dcE l 0 = 0 ∧ (dcI l 0).op = 4) → ∃ K D, KbV w' w.heap.size v K D ∧ lkD D = vfP l ∧ (D.map DB.a).Pairwise (· < ·) ∧ (D.length : Int) ≤ wds l ∧ 0 < D.length ∧ (∀ d ∈ D, DbF d ∧ 0 ≤ d.a ∧ d.a < wds l) ∧ v.ownBlock ≠ none)
theorem RbkQ.no {w w' : World} {F : Int} {l : List Nat} {a e : Int} (h : vfR F l = (0, a, e)) (h0 : e ≠ 0) (hb : Below w.heap.size w w') : RbkQ w F l (.returned (.tuple #[.slice none 0 0, .int .i64 0, .int .i64 a, .int .i64 e])) w' :=
  ⟨_, by rw [h], hb, fun _ => rfl, fun q => absurd (by rw [h] at q; exact q) h0⟩
structure RmV (w : World) (Z : Nat) (S : List Bool) (W : World) : Prop where
  z : W.heap[Z]? = some (.cells (S.map cBo).toArray 4)
  b : Below w.heap.size w W
  n : w.heap.size ≤ Z
theorem RmV.below {w W W' : World} {Z : Nat} {S : List Bool} (h : RmV w Z S W) (hb : Below W.heap.size W W') : RmV w Z S W' := ⟨(hb.block _ (lt_16 h.z)).trans h.z, keepb hb h.b, h.n⟩
theorem RmV.set {w W : World} {Z : Nat} {S : List Bool} (h : RmV w Z S W) (k : Nat) : RmV w Z (S.set k true) (W.setCell ⟨Z, k, none⟩ (.bool true)) :=
  ⟨by rw [set_16 h.z, List.setIfInBounds_toArray, List.map_set]; rfl, h.b.setCell (p := ⟨Z, k, none⟩) h.n _, h.n⟩
theorem RmV.cell {w W : World} {Z : Nat} {S : List Bool} (h : RmV w Z S W) {k : Nat} (hk : k < S.length) : W.cell? ⟨Z, k, none⟩ = some (.bool (S.getD k false)) ∧ W.frozen? ⟨Z, k, none⟩ = false := by
  refine ⟨at_16 h.z k _ ?_, fr_16 h.z⟩
  rw [List.getElem?_toArray, List.getElem?_map, List.getD_eq_getElem?_getD, List.getElem?_eq_getElem hk]; rfl
end Go.Proofs.Ytjgpbahglkaijaa
namespace Go.Proofs.Ytjgpbahglkaijaa
open Go.RowKit Go.Shelf
set_option linter.unusedSimpArgs false
set_option linter.unusedVariables false
attribute [local go_sem] Oper.semAt_some

structure TnV (X0 : World) (bt : Int) (vr : Value) (RS : List Rn) (W : World) : Prop where
  b : Below X0.heap.size X0 W
  n : W.heap[X0.heap.size]? = some (.cells #[.int .i64 bt, vr] 61)
  o : W.ownsRow (X0.heap.size + 1) 58 4 vr RS.length (rowN RS)
theorem TnV.below {X0 W W' : World} {bt : Int} {vr : Value} {RS : List Rn} (h : TnV X0 bt vr RS W) (hb : Below W.heap.size W W') : TnV X0 bt vr RS W' := ⟨keepb hb h.b, (hb.block _ (lt_16 h.n)).trans h.n, own_b13 hb h.o⟩
theorem TnV.far {X0 W : World} {bt : Int} {vr : Value} {RS : List Rn} (h : TnV X0 bt vr RS W) {z o : Nat} (hz : X0.heap.size < z) (hn : vr.ownBlock ≠ some z) (u : Value) : TnV X0 bt vr RS (W.setCell ⟨z, o, none⟩ u) :=
  ⟨h.b.setCell (p := ⟨z, o, none⟩) (by show _ ≤ z; omega) _, (far_16 (by omega)).trans h.n, own_keep18 h.o (fun g hg => far_16 (by rintro rfl; exact hn hg))⟩
theorem TnV.push {X0 W W1 W2 : World} {bt : Int} {vr : Value} {RS : List Rn} {r : Rn} {g cap m : Nat} (h : TnV X0 bt vr RS W) (hm : RS.length = m) (h1 : Below W.heap.size W W1) (ho : W2.ownsRow (X0.heap.size + 1) 58 4 (.slice (some ⟨g, 0, none⟩) (m + 1) cap) (m + 1) (rowN (RS ++ [r]))) (hg : W1.grownBy W2 vr.ownBlock) :
    TnV X0 bt (.slice (some ⟨g, 0, none⟩) (m + 1) cap) (RS ++ [r]) (W2.setCell ⟨X0.heap.size, 1, none⟩ (.slice (some ⟨g, 0, none⟩) (m + 1) cap)) ∧ W2.cell? ⟨X0.heap.size, 1, none⟩ = some vr ∧ W2.frozen? ⟨X0.heap.size, 1, none⟩ = false := by
  have hne : vr.ownBlock ≠ some X0.heap.size := fun q => by have := (h.o.lt _ q).1; omega
  have hn1 := (h1.block _ (lt_16 h.n)).trans h.n
  have hn2 : W2.heap[X0.heap.size]? = some (.cells #[.int .i64 bt, vr] 61) := (hg.block _ (lt_16 hn1) (fun q => hne q.symm)).trans hn1
  refine ⟨⟨?_, by rw [set_16 hn2]; rfl, ?_⟩, at_16 hn2 1 _ rfl, fr_16 hn2⟩
  · have hb := keepb h1 h.b
    exact (hb.grown hg hb.size (fun z q => by have := (h.o.lt z q).1; omega)).setCell (p := ⟨X0.heap.size, 1, none⟩) (Nat.le_refl _) _
  · rw [List.length_append, List.length_singleton, hm]
    exact own_keep18 ho (fun z hz => far_16 (by rintro rfl; have := (ho.lt _ hz).1; omega))
structure TnS (X0 : World) (bt : Int) (vr : Value) (RS : List Rn) (XB RB : Nat) (eop enn : Int) (eu : Value) (i kid nn : Value) (W : World) : Prop where
  t : TnV X0 bt vr RS W
  x : W.heap[XB]? = some (.cells #[.int .i64 eop, .int .i64 enn, eu] 75)
  r : W.heap[RB]? = some (.cells #[.int .u64 0, i, kid, nn] 58)
  l : X0.heap.size < XB ∧ XB < RB
  n : vr.ownBlock ≠ some RB
theorem TnS.below {X0 W W' : World} {bt : Int} {vr : Value} {RS : List Rn} {XB RB : Nat} {eop enn : Int} {eu i kid nn : Value} (h : TnS X0 bt vr RS XB RB eop enn eu i kid nn W) (hb : Below W.heap.size W W') : TnS X0 bt vr RS XB RB eop enn eu i kid nn W' :=
  ⟨h.t.below hb, (hb.block _ (lt_16 h.x)).trans h.x, (hb.block _ (lt_16 h.r)).trans h.r, h.l, h.n⟩
theorem TnS.kid {X0 W : World} {bt : Int} {vr : Value} {RS : List Rn} {XB RB : Nat} {eop enn : Int} {eu i kid nn : Value} (h : TnS X0 bt vr RS XB RB eop enn eu i kid nn W) (u : Value) : TnS X0 bt vr RS XB RB eop enn eu i u nn (W.setCell ⟨RB, 2, none⟩ u) :=
  ⟨h.t.far (by have := h.l; omega) h.n u, (far_16 (by have := h.l; omega)).trans h.x, by rw [set_16 h.r]; rfl, h.l, h.n⟩
theorem TnS.new {X0 wr : World} {bt : Int} {vr : Value} {RS : List Rn} (h : TnV X0 bt vr RS wr) (eop enn : Int) (eu i kid nn : Value) : TnS X0 bt vr RS wr.heap.size (wr.heap.size + 1) eop enn eu i kid nn ((wr.alloc (.cells #[.int .i64 eop, .int .i64 enn, eu] 75)).alloc (.cells #[.int .u64 0, i, kid, nn] 58)) := by
  have q1 := bl1 wr (.cells #[.int .i64 eop, .int .i64 enn, eu] 75)
  have n1 := new_16 wr (.cells #[.int .i64 eop, .int .i64 enn, eu] 75)
  have q2 := bl1 (wr.alloc (.cells #[.int .i64 eop, .int .i64 enn, eu] 75)) (.cells #[.int .u64 0, i, kid, nn] 58)
  have n2 := new_16 (wr.alloc (.cells #[.int .i64 eop, .int .i64 enn, eu] 75)) (.cells #[.int .u64 0, i, kid, nn] 58)
  rw [World.size_alloc] at n2
  refine ⟨h.below (keepb q2 q1), (q2.block _ (lt_16 n1)).trans n1, n2, ⟨lt_16 h.n, by omega⟩, fun q => ?_⟩
  have := (h.o.lt _ q).2
  omega
end Go.Proofs.Ytjgpbahglkaijaa
namespace Go.Proofs.Ytjgpbahglkaijaa
open Go.RowKit
set_option linter.unusedSimpArgs false
set_option linter.unusedVariables false
attribute [local go_sem] Oper.semAt_some

end Go.Proofs.Ytjgpbahglkaijaa
namespace Go.Proofs.Ytjgpbahglkaijaa
open Go.RowKit Go.Shelf
set_option linter.unusedSimpArgs false
set_option linter.unusedVariables false
attribute [local go_sem] Oper.semAt_some

theorem trL_ok {F : Int} {l : List Nat} (h : (vfR F l).2.2 = 0) (hl : l.length ≤ 65536) : (trL l).length ≤ 1000000 ∧ ∀ d ∈ trL l, d.r.length ≤ 1000000 := by
  unfold trL
  split
  · refine ⟨by simp [oneN], fun d hd => ?_⟩
    simp [oneN] at hd
    subst hd
    simp
  · rename_i hn
    obtain ⟨h1, h2⟩ := vfP_ok h hn
    have hw : wds l ≤ 16384 := by unfold wds; omega
    refine ⟨by unfold ndsL; rw [List.length_map]; omega, fun d hd => ?_⟩
    unfold ndsL at hd
    obtain ⟨b, hb, rfl⟩ := List.mem_map.mp hd
    obtain ⟨b1, b2, b3, -⟩ := h2 b hb
    dsimp only
    rw [runsV_len _ _ b1]
    omega
theorem TrQ.rwd {w : World} {F : Int} {l : List Nat} {e : Ending} {w' : World} (h : TrQ w F l e w') (hl : l.length ≤ 65536) : ∃ v, e = .returned (.tuple #[v, .int .i64 (vfR F l).2.2]) ∧ Below w.heap.size w w' ∧ RwD w' v (if (vfR F l).2.2 = 0 then trL l else []) ∧ ∃ V, NdO w' w.heap.size v V (if (vfR F l).2.2 = 0 then trL l else []) := by
  obtain ⟨v, V, rfl, h1, h2, h3⟩ := h
  refine ⟨v, rfl, h3, ?_⟩
  by_cases c : (vfR F l).2.2 = 0
  · rw [if_pos c]
    exact ⟨(h2 c).rwd, V, h2 c⟩
  · rw [if_neg c]
    have hv := h1 c
    subst hv
    have h4 : NdO w' w.heap.size (.slice none 0 0) [] [] := NdO.nil (World.ownsRow_nil _ _ _ _)
    exact ⟨h4.rwd, [], h4⟩
end Go.Proofs.Ytjgpbahglkaijaa
namespace Go.Proofs.Ytjgpbahglkaijaa
open Go.RowKit
set_option linter.unusedSimpArgs false
set_option linter.unusedVariables false

def AtW (W : World) (N : Nat) (y : BitVec 128) : Prop := W.heap[N]? = some (.cells #[.int .u64 (hI y), .int .u64 (lI y)] 47)
theorem AtW.below {W W' : World} {N : Nat} {y : BitVec 128} (h : AtW W N y) (hb : Below W.heap.size W W') : AtW W' N y := (hb.block N (lt_16 h)).trans h
theorem AtW.put {W : World} {N : Nat} {y : BitVec 128} (h : AtW W N y) (z : BitVec 128) : AtW ((W.setCell ⟨N, 0, none⟩ (.int .u64 (hI z))).setCell ⟨N, 1, none⟩ (.int .u64 (lI z))) N z := by
  unfold AtW; rw [set_16 (set_16 h _) _]; rfl
end Go.Proofs.Ytjgpbahglkaijaa
namespace Go.Proofs.Ytjgpbahglkaijaa
open Go.RowKit
set_option linter.unusedSimpArgs false
set_option linter.unusedVariables false

end Go.Proofs.Ytjgpbahglkaijaa
namespace Go.Proofs.Ytjgpbahglkaijaa
open Go.RowKit
set_option linter.unusedSimpArgs false
set_option linter.unusedVariables false
attribute [local go_sem] Oper.semAt_some

end Go.Proofs.Ytjgpbahglkaijaa
namespace Go.Proofs.Ytjgpbahglkaijaa
open Go.RowKit
set_option linter.unusedSimpArgs false
set_option linter.unusedVariables false

set_option maxRecDepth 20000
def CB (B : Nat) (vc : Value) (l : List Nat) : Prop := l = [] ∨ ∃ g o c n, vc = .slice (some ⟨g, o, none⟩) n c ∧ g ≠ B
theorem rwx_km {w X : World} {B : Nat} {vc : Value} {l : List Nat} (h : RwX cB w vc l) (hc : CB B vc l) (hk : KM B w X) : RwX cB X vc l := by
  obtain ⟨ao, c, e, hcc, h⟩ := h
  refine ⟨ao, c, e, hcc, ?_⟩
  rcases h with h | ⟨b, off, e2, h⟩
  · exact .inl h
  · rcases hc with hc | ⟨g, o, c', n, e3, hg⟩
    · exact .inl hc
    · right
      have : g = b := by
        subst e2
        rw [e3] at e
        injection e with e4
        injection e4 with e4
        injection e4
      subst this
      refine ⟨g, off, e2, fun j x hj => ?_⟩
      have hj2 := h j x hj
      exact (World.cell?_of_block (a := ⟨g, off + j, none⟩) (hk.ot.2 g (cell_in hj2) hg)).trans hj2
theorem CB.ne {w : World} {M : Nat} {vc : Value} {l : List Nat} (h : RwX cB w vc l) (hM : w.heap.size ≤ M) : CB M vc l := by
  obtain ⟨ao, c, e, hcc, h⟩ := h
  rcases h with h | ⟨b, off, e2, h⟩
  · exact .inl h
  · by_cases hl : l = []
    · exact .inl hl
    · right
      subst e2
      refine ⟨b, off, c, l.length, e, ?_⟩
      obtain ⟨y, ys, rfl⟩ := List.exists_cons_of_ne_nil hl
      have := cell_in (h 0 y rfl)
      omega
theorem dcI_len (l : List Nat) (a : Int) : (dcI l a).m.length ≤ 524288 := by
  unfold dcI; split
  · exact rdP_len _ _
  · simp
theorem dcZ_bd (l : List Nat) (a : Int) : 0 ≤ dcZ l a ∧ dcZ l a ≤ 1000000 := by
  have := dcI_len l a
  unfold dcZ; split <;> omega
end Go.Proofs.Ytjgpbahglkaijaa
namespace Go.Proofs.Ytjgpbahglkaijaa
open Go.RowKit
set_option linter.unusedSimpArgs false
set_option linter.unusedVariables false

structure Rq where
  pl : Int
  tk : Int
  hb : Int
  hop : Int
  err : Int
  st : Int
  ex : Int
  ix : Int
  bt : Int
  en : Bool
def rqA (F : Int) (vc : Value) (x y : BitVec 128) (q : Rq) : Array Value := #[.int .i64 F, vc, .int .u64 (hI x), .int .u64 (lI x), .int .i64 q.pl, .int .i64 q.tk, .int .u64 (hI y), .int .u64 (lI y), .int .i64 q.hb, .int .i64 q.hop, .int .i64 q.err, .int .i64 q.st, .int .i64 q.ex, .int .i64 q.ix, .int .i64 q.bt, .bool q.en]
def RV (w : World) (B : Nat) (F : Int) (vc : Value) (x y : BitVec 128) (q : Rq) : Prop := w.heap[B]? = some (.cells (rqA F vc x y q) 93)
def rqO (m : Mc) : Rq := ⟨m.pl, m.bt, m.hb, m.hop, m.err, m.st, m.ex, m.ix, m.bt, m.en⟩
theorem RV.below {w w' : World} {B : Nat} {F : Int} {vc : Value} {x y : BitVec 128} {q : Rq} (h : RV w B F vc x y q) (hb : Below w.heap.size w w') : RV w' B F vc x y q := (hb.block B (lt_16 h)).trans h
theorem RV.lt {w : World} {B : Nat} {F : Int} {vc : Value} {x y : BitVec 128} {q : Rq} (h : RV w B F vc x y q) : B < w.heap.size := lt_16 h
theorem RV.fr {w : World} {B : Nat} {F : Int} {vc : Value} {x y : BitVec 128} {q : Rq} (h : RV w B F vc x y q) (j : Nat) : w.frozen? ⟨B, j, none⟩ = false := fr_16 h
theorem RV.far {w : World} {B : Nat} {F : Int} {vc : Value} {x y : BitVec 128} {q : Rq} (h : RV w B F vc x y q) {N o : Nat} (hN : B ≠ N) (u : Value) : RV (w.setCell ⟨N, o, none⟩ u) B F vc x y q := (far_16 hN).trans h
theorem RV.st0 {w : World} {B : Nat} {F : Int} {vc : Value} {x y y' : BitVec 128} {q q' : Rq} (h : RV w B F vc x y q) (j : Nat) (u : Value) (hj : (rqA F vc x y q).setIfInBounds j u = rqA F vc x y' q') : RV (w.setCell ⟨B, j, none⟩ u) B F vc x y' q' := by
  unfold RV; rw [← hj]; exact set_16 h u
theorem RV.c0 {w : World} {B : Nat} {F : Int} {vc : Value} {x y : BitVec 128} {q : Rq} (h : RV w B F vc x y q) : w.cell? ⟨B, 0, none⟩ = some (.int .i64 F) := at_16 h 0 _ rfl
theorem RV.c1 {w : World} {B : Nat} {F : Int} {vc : Value} {x y : BitVec 128} {q : Rq} (h : RV w B F vc x y q) : w.cell? ⟨B, 1, none⟩ = some (vc) := at_16 h 1 _ rfl
theorem RV.c2 {w : World} {B : Nat} {F : Int} {vc : Value} {x y : BitVec 128} {q : Rq} (h : RV w B F vc x y q) : w.cell? ⟨B, 2, none⟩ = some (.int .u64 (hI x)) := at_16 h 2 _ rfl
theorem RV.c3 {w : World} {B : Nat} {F : Int} {vc : Value} {x y : BitVec 128} {q : Rq} (h : RV w B F vc x y q) : w.cell? ⟨B, 3, none⟩ = some (.int .u64 (lI x)) := at_16 h 3 _ rfl
theorem RV.c4 {w : World} {B : Nat} {F : Int} {vc : Value} {x y : BitVec 128} {q : Rq} (h : RV w B F vc x y q) : w.cell? ⟨B, 4, none⟩ = some (.int .i64 q.pl) := at_16 h 4 _ rfl
theorem RV.c5 {w : World} {B : Nat} {F : Int} {vc : Value} {x y : BitVec 128} {q : Rq} (h : RV w B F vc x y q) : w.cell? ⟨B, 5, none⟩ = some (.int .i64 q.tk) := at_16 h 5 _ rfl
theorem RV.c6 {w : World} {B : Nat} {F : Int} {vc : Value} {x y : BitVec 128} {q : Rq} (h : RV w B F vc x y q) : w.cell? ⟨B, 6, none⟩ = some (.int .u64 (hI y)) := at_16 h 6 _ rfl
theorem RV.c7 {w : World} {B : Nat} {F : Int} {vc : Value} {x y : BitVec 128} {q : Rq} (h : RV w B F vc x y q) : w.cell? ⟨B, 7, none⟩ = some (.int .u64 (lI y)) := at_16 h 7 _ rfl
theorem RV.c8 {w : World} {B : Nat} {F : Int} {vc : Value} {x y : BitVec 128} {q : Rq} (h : RV w B F vc x y q) : w.cell? ⟨B, 8, none⟩ = some (.int .i64 q.hb) := at_16 h 8 _ rfl
theorem RV.c9 {w : World} {B : Nat} {F : Int} {vc : Value} {x y : BitVec 128} {q : Rq} (h : RV w B F vc x y q) : w.cell? ⟨B, 9, none⟩ = some (.int .i64 q.hop) := at_16 h 9 _ rfl
theorem RV.c10 {w : World} {B : Nat} {F : Int} {vc : Value} {x y : BitVec 128} {q : Rq} (h : RV w B F vc x y q) : w.cell? ⟨B, 10, none⟩ = some (.int .i64 q.err) := at_16 h 10 _ rfl
theorem RV.c11 {w : World} {B : Nat} {F : Int} {vc : Value} {x y : BitVec 128} {q : Rq} (h : RV w B F vc x y q) : w.cell? ⟨B, 11, none⟩ = some (.int .i64 q.st) := at_16 h 11 _ rfl
theorem RV.c12 {w : World} {B : Nat} {F : Int} {vc : Value} {x y : BitVec 128} {q : Rq} (h : RV w B F vc x y q) : w.cell? ⟨B, 12, none⟩ = some (.int .i64 q.ex) := at_16 h 12 _ rfl
theorem RV.c13 {w : World} {B : Nat} {F : Int} {vc : Value} {x y : BitVec 128} {q : Rq} (h : RV w B F vc x y q) : w.cell? ⟨B, 13, none⟩ = some (.int .i64 q.ix) := at_16 h 13 _ rfl
theorem RV.c14 {w : World} {B : Nat} {F : Int} {vc : Value} {x y : BitVec 128} {q : Rq} (h : RV w B F vc x y q) : w.cell? ⟨B, 14, none⟩ = some (.int .i64 q.bt) := at_16 h 14 _ rfl
theorem RV.c15 {w : World} {B : Nat} {F : Int} {vc : Value} {x y : BitVec 128} {q : Rq} (h : RV w B F vc x y q) : w.cell? ⟨B, 15, none⟩ = some (.bool q.en) := at_16 h 15 _ rfl
theorem RV.s4 {w : World} {B : Nat} {F : Int} {vc : Value} {x y : BitVec 128} {q : Rq} (h : RV w B F vc x y q) (v : Int) : RV (w.setCell ⟨B, 4, none⟩ (.int .i64 v)) B F vc x y { q with pl := v } := h.st0 4 _ rfl
theorem RV.s5 {w : World} {B : Nat} {F : Int} {vc : Value} {x y : BitVec 128} {q : Rq} (h : RV w B F vc x y q) (v : Int) : RV (w.setCell ⟨B, 5, none⟩ (.int .i64 v)) B F vc x y { q with tk := v } := h.st0 5 _ rfl
theorem RV.s8 {w : World} {B : Nat} {F : Int} {vc : Value} {x y : BitVec 128} {q : Rq} (h : RV w B F vc x y q) (v : Int) : RV (w.setCell ⟨B, 8, none⟩ (.int .i64 v)) B F vc x y { q with hb := v } := h.st0 8 _ rfl
theorem RV.s9 {w : World} {B : Nat} {F : Int} {vc : Value} {x y : BitVec 128} {q : Rq} (h : RV w B F vc x y q) (v : Int) : RV (w.setCell ⟨B, 9, none⟩ (.int .i64 v)) B F vc x y { q with hop := v } := h.st0 9 _ rfl
theorem RV.s10 {w : World} {B : Nat} {F : Int} {vc : Value} {x y : BitVec 128} {q : Rq} (h : RV w B F vc x y q) (v : Int) : RV (w.setCell ⟨B, 10, none⟩ (.int .i64 v)) B F vc x y { q with err := v } := h.st0 10 _ rfl
theorem RV.s11 {w : World} {B : Nat} {F : Int} {vc : Value} {x y : BitVec 128} {q : Rq} (h : RV w B F vc x y q) (v : Int) : RV (w.setCell ⟨B, 11, none⟩ (.int .i64 v)) B F vc x y { q with st := v } := h.st0 11 _ rfl
theorem RV.s12 {w : World} {B : Nat} {F : Int} {vc : Value} {x y : BitVec 128} {q : Rq} (h : RV w B F vc x y q) (v : Int) : RV (w.setCell ⟨B, 12, none⟩ (.int .i64 v)) B F vc x y { q with ex := v } := h.st0 12 _ rfl
theorem RV.s13 {w : World} {B : Nat} {F : Int} {vc : Value} {x y : BitVec 128} {q : Rq} (h : RV w B F vc x y q) (v : Int) : RV (w.setCell ⟨B, 13, none⟩ (.int .i64 v)) B F vc x y { q with ix := v } := h.st0 13 _ rfl
theorem RV.s14 {w : World} {B : Nat} {F : Int} {vc : Value} {x y : BitVec 128} {q : Rq} (h : RV w B F vc x y q) (v : Int) : RV (w.setCell ⟨B, 14, none⟩ (.int .i64 v)) B F vc x y { q with bt := v } := h.st0 14 _ rfl
theorem RV.s15 {w : World} {B : Nat} {F : Int} {vc : Value} {x y : BitVec 128} {q : Rq} (h : RV w B F vc x y q) (v : Bool) : RV (w.setCell ⟨B, 15, none⟩ (.bool v)) B F vc x y { q with en := v } := h.st0 15 _ rfl
theorem RV.sX {w : World} {B : Nat} {F : Int} {vc : Value} {x y : BitVec 128} {q : Rq} (h : RV w B F vc x y q) (z : BitVec 128) : RV ((w.setCell ⟨B, 6, none⟩ (.int .u64 (hI z))).setCell ⟨B, 7, none⟩ (.int .u64 (lI z))) B F vc x z q := by
  unfold RV; rw [set_16 (set_16 h _) _]; rfl
def DR (w : World) (B : Nat) (F : Int) (vc : Value) (x y : BitVec 128) (q : Rq) (W : World) : Prop := RV W B F vc x y q ∧ KM B w W
theorem DR.below {w W W' : World} {B : Nat} {F : Int} {vc : Value} {x y : BitVec 128} {q : Rq} (h : DR w B F vc x y q W) (hB : B < w.heap.size) (hb : Below W.heap.size W W') : DR w B F vc x y q W' := ⟨h.1.below hb, h.2.below hB hb⟩
theorem rk_ok19 {l : List Nat} {m : Mc} {F L : Int} (hm : MOk F L m) (h : dcE l m.pl = 0) (ho : (dcI l m.pl).op = 2) (hh : m.hb = (dcI l m.pl).n) : rkE (dcI l m.pl).m m.hn = 0 := by
  have h1 := dc_map19 h ho
  have h2 := mwN_max (dcI l m.pl).n.toNat (by have := hm.h1; omega)
  have h3 := hm.n1
  have h4 := hm.n0
  rw [hh] at h3
  have h5 : ((2 ^ (dcI l m.pl).n.toNat : Nat) : Int) = 2 ^ (dcI l m.pl).n.toNat := by norm_cast
  rw [← h5] at h3
  unfold rkE
  rw [if_pos]
  refine ⟨h4, ?_⟩
  rw [h1, h2]
  have : 2 ^ (dcI l m.pl).n.toNat ≤ 32 * max 1 (2 ^ (dcI l m.pl).n.toNat / 32) := by
    obtain ⟨k, hk⟩ : ∃ k, k = (dcI l m.pl).n.toNat := ⟨_, rfl⟩
    rw [← hk]
    by_cases q : k < 5
    · have : 2 ^ k ≤ 2 ^ 4 := Nat.pow_le_pow_right (by decide) (by omega)
      omega
    · have : 2 ^ k = 32 * 2 ^ (k - 5) := by rw [show (32 : Nat) = 2 ^ 5 from rfl, ← Nat.pow_add, show 5 + (k - 5) = k by omega]
      omega
  push_cast
  omega
set_option maxHeartbeats 2000000 in
theorem rfail19 (B : Nat) (F : Int) (vc : Value) (x y : BitVec 128) (q : Rq) (e : Int) (w : World) (h : RV w B F vc x y q) :
    Calls Try.prog 37 #[.pointer (some ⟨B, 0, none⟩), .int .i64 e] w fun r w' => r = .returned (.tuple #[]) ∧ RV w' B F vc x y { q with err := e, en := true } ∧ KM B w w' := by
  have HM := hid13 h
  have c10 := h.c10
  have f10 := h.fr 10
  have c15 := h.c15
  have f15 := h.fr 15
  clear h
  go_enter Try.func37, Try.ntmps37
  go_wp2
  exact bodyPost_end (v := .tuple #[]) (by simp [results, Try.results37, go_sem]) rfl ⟨rfl, (HM.out.s10 e).s15 true, ((KM.refl B w).set _).set _⟩
end Go.Proofs.Ytjgpbahglkaijaa
