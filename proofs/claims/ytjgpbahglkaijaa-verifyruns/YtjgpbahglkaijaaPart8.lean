/-
  Part 8 of the proof: 3 texts, one behind the other.
-/
import Derived.Test.YtjgpbahglkaijaaPart3
import Derived.Test.YtjgpbahglkaijaaPart6
import Derived.Test.YtjgpbahglkaijaaPart7
namespace Go.Proofs.Ytjgpbahglkaijaa
open Go.RowKit
set_option linter.unusedSimpArgs false
set_option linter.unusedVariables false

def rowE8 : List (Bool × Int) → List Value
  | [] => []
  | e :: t => .bool e.1 :: .int .i64 e.2 :: rowE8 t
theorem rowE8_app : ∀ (A : List (Bool × Int)) (e : Bool × Int), rowE8 (A ++ [e]) = rowE8 A ++ [.bool e.1, .int .i64 e.2]
  | [], e => rfl
  | x :: A, e => by
    show _ :: _ :: rowE8 (A ++ [e]) = _
    rw [rowE8_app A e]; rfl
theorem rowE8_get : ∀ (A : List (Bool × Int)) (j : Nat) (e : Bool × Int), A[j]? = some e → (rowE8 A)[j * 2]? = some (.bool e.1) ∧ (rowE8 A)[j * 2 + 1]? = some (.int .i64 e.2)
  | [], j, e, h => by simp at h
  | x :: A, 0, e, h => by simp at h; subst h; exact ⟨rfl, rfl⟩
  | x :: A, j + 1, e, h => by
    have := rowE8_get A j e (by simpa using h)
    rw [show (j + 1) * 2 = j * 2 + 2 by omega]
    exact this
theorem rowE8_set : ∀ (A : List (Bool × Int)) (j : Nat) (e : Bool × Int) (n : Int), A[j]? = some e → (rowE8 A).set (j * 2 + 1) (.int .i64 n) = rowE8 (A.set j (e.1, n))
  | [], j, e, n, h => by simp at h
  | x :: A, 0, e, n, h => by simp at h; subst h; rfl
  | x :: A, j + 1, e, n, h => by
    have := rowE8_set A j e n (by simpa using h)
    rw [show (j + 1) * 2 + 1 = (j * 2 + 1) + 2 by omega]
    show _ :: _ :: (rowE8 A).set (j * 2 + 1) (.int .i64 n) = _
    rw [this]; rfl
structure Bv where
  a : Int
  t : Int
  vs : Value
  ve : Value
def rowB8 : List Bv → List Value
  | [] => []
  | x :: t => .int .i64 x.a :: .int .i64 x.t :: x.vs :: x.ve :: rowB8 t
theorem rowB8_app : ∀ (A : List Bv) (x : Bv), rowB8 (A ++ [x]) = rowB8 A ++ [.int .i64 x.a, .int .i64 x.t, x.vs, x.ve]
  | [], e => rfl
  | y :: A, e => by
    show _ :: _ :: _ :: _ :: rowB8 (A ++ [e]) = _
    rw [rowB8_app A e]; rfl
theorem rowB8_get : ∀ (A : List Bv) (j : Nat) (x : Bv), A[j]? = some x → (rowB8 A)[j * 4]? = some (.int .i64 x.a) ∧ (rowB8 A)[j * 4 + 1]? = some (.int .i64 x.t) ∧ (rowB8 A)[j * 4 + 2]? = some x.vs ∧ (rowB8 A)[j * 4 + 3]? = some x.ve
  | [], j, e, h => by simp at h
  | y :: A, 0, e, h => by simp at h; subst h; exact ⟨rfl, rfl, rfl, rfl⟩
  | y :: A, j + 1, e, h => by
    have := rowB8_get A j e (by simpa using h)
    rw [show (j + 1) * 4 = j * 4 + 4 by omega]
    exact this
theorem rowB8_set2 : ∀ (A : List Bv) (j : Nat) (x : Bv) (v : Value), A[j]? = some x → (rowB8 A).set (j * 4 + 2) v = rowB8 (A.set j { x with vs := v })
  | [], j, e, n, h => by simp at h
  | x :: A, 0, e, n, h => by simp at h; subst h; rfl
  | x :: A, j + 1, e, n, h => by
    have := rowB8_set2 A j e n (by simpa using h)
    rw [show (j + 1) * 4 + 2 = (j * 4 + 2) + 4 by omega]
    show _ :: _ :: _ :: _ :: (rowB8 A).set (j * 4 + 2) n = _
    rw [this]; rfl
theorem rowB8_set3 : ∀ (A : List Bv) (j : Nat) (x : Bv) (v : Value), A[j]? = some x → (rowB8 A).set (j * 4 + 3) v = rowB8 (A.set j { x with ve := v })
  | [], j, e, n, h => by simp at h
  | x :: A, 0, e, n, h => by simp at h; subst h; rfl
  | x :: A, j + 1, e, n, h => by
    have := rowB8_set3 A j e n (by simpa using h)
    rw [show (j + 1) * 4 + 3 = (j * 4 + 3) + 4 by omega]
    show _ :: _ :: _ :: _ :: (rowB8 A).set (j * 4 + 3) n = _
    rw [this]; rfl
theorem own_put18 {W : World} {base e size n g cap j : Nat} {xs : List Value} (h : W.ownsRow base e size (.slice (some ⟨g, 0, none⟩) n cap) n xs) (u : Value) (hj : j < n * size) : (W.setCell ⟨g, j, none⟩ u).ownsRow base e size (.slice (some ⟨g, 0, none⟩) n cap) n (xs.set j u) := by
  obtain ⟨h1, h2⟩ := h
  rcases h2 with ⟨h2, -⟩ | ⟨g', cap', cur, e0, hb, hg, hn, hm, hs, ht⟩
  · cases h2
  · injection e0 with e1 e2 e3
    injection e1 with e1
    injection e1 with e1
    subst e1 e3
    refine ⟨by simpa using h1, .inr ⟨g, cap, cur.setIfInBounds j u, rfl, hb, set_16 hg u, hn, hm, by simpa using hs, ?_⟩⟩
    rw [Array.toList_setIfInBounds, List.take_set, ht]
theorem own_some18 {W : World} {base e size n : Nat} {v : Value} {xs : List Value} (h : W.ownsRow base e size v n xs) (hn : 0 < n) : ∃ g cap, v = .slice (some ⟨g, 0, none⟩) n cap ∧ n ≤ cap := by
  rcases h.2 with ⟨-, h2⟩ | ⟨g, cap, cur, e0, hb, hg, hc, -⟩
  · omega
  · exact ⟨g, cap, e0, hc⟩
theorem own_at18 {W : World} {base e size n g cap : Nat} {xs : List Value} (h : W.ownsRow base e size (.slice (some ⟨g, 0, none⟩) n cap) n xs) {j : Nat} {u : Value} (hj : xs[j]? = some u) : W.cell? ⟨g, j, none⟩ = some u ∧ W.frozen? ⟨g, j, none⟩ = false := by
  have hc := h.cells (g := g) rfl j u hj
  rw [addA, Nat.zero_add] at hc
  obtain ⟨cs, h2⟩ := own_typed18 h g rfl
  exact ⟨hc, fr_16 h2⟩
def vTy (T : TypeId) : Prop := T = 143 ∨ T = 121 ∨ T = 151
def Kt (W W' : World) : Prop := W.heap.size ≤ W'.heap.size ∧ ∀ (z : Nat) (cs : Array Value) (T : TypeId) (fr : Nat × Nat), W.heap[z]? = some (.cells cs T fr) → ¬ vTy T → W'.heap[z]? = some (.cells cs T fr)
theorem Kt.refl (W : World) : Kt W W := ⟨Nat.le_refl _, fun _ _ _ _ h _ => h⟩
theorem Kt.trans {A B C : World} (h : Kt A B) (g : Kt B C) : Kt A C := ⟨Nat.le_trans h.1 g.1, fun z cs T fr h1 h2 => g.2 z cs T fr (h.2 z cs T fr h1 h2) h2⟩
theorem Kt.below {W W' : World} (hb : Below W.heap.size W W') : Kt W W' := ⟨hb.size, fun z cs T fr h1 _ => (hb.block z (lt_16 h1)).trans h1⟩
theorem Kt.set {W : World} {z o : Nat} {cs : Array Value} {T : TypeId} (hz : W.heap[z]? = some (.cells cs T)) (hT : vTy T) (u : Value) : Kt W (W.setCell ⟨z, o, none⟩ u) := by
  refine ⟨by simp, fun z' cs' T' fr' h1 h2 => ?_⟩
  rw [far_16 (fun q => by subst q; rw [hz] at h1; injection h1 with h1; injection h1 with _ h3 _; subst h3; exact h2 hT)]
  exact h1
theorem Kt.grown {W W' : World} {base e size n : Nat} {v : Value} {xs : List Value} (h : W.ownsRow base e size v n xs) (he : vTy e) (hg : W.grownBy W' v.ownBlock) : Kt W W' := by
  refine ⟨hg.size, fun z cs T fr h1 h2 => ?_⟩
  rw [hg.block z (lt_16 h1) (fun q => ?_)]
  · exact h1
  · obtain ⟨cs', h3⟩ := own_typed18 h z q.symm
    rw [h3] at h1
    injection h1 with h1
    injection h1 with _ h4 _
    subst h4
    exact h2 he
def BkO (W : World) (base : Nat) (x : Bv) (p : PB) : Prop := x.a = p.a ∧ x.t = p.t ∧ W.ownsRow base 110 1 x.vs p.m.length (p.m.map cU) ∧ W.ownsRow base 151 2 x.ve p.es.length (rowE8 p.es)
structure BsV (W : World) (base : Nat) (vb : Value) (L : List Bv) (P : List PB) : Prop where
  o : W.ownsRow base 121 4 vb L.length (rowB8 L)
  l : L.length = P.length
  m : ∀ (k : Nat) (x : Bv) (p : PB), L[k]? = some x → P[k]? = some p → BkO W base x p
  d : ∀ (j k : Nat) (x y : Bv) (z : Nat), L[j]? = some x → L[k]? = some y → x.ve.ownBlock = some z → y.ve.ownBlock = some z → j = k
section
variable {W W' : World} {base : Nat} {vb : Value} {L : List Bv} {P : List PB} {x : Bv} {p : PB}
theorem BkO.keep (h : BkO W base x p) (h1 : ∀ z, x.vs.ownBlock = some z → W'.heap[z]? = W.heap[z]?) (h2 : ∀ z, x.ve.ownBlock = some z → W'.heap[z]? = W.heap[z]?) : BkO W' base x p := ⟨h.1, h.2.1, own_keep18 h.2.2.1 h1, own_keep18 h.2.2.2 h2⟩
theorem BkO.below (h : BkO W base x p) (hb : Below W.heap.size W W') : BkO W' base x p := h.keep (fun z e => hb.block z (h.2.2.1.lt z e).2) (fun z e => hb.block z (h.2.2.2.lt z e).2)
theorem BsV.below (h : BsV W base vb L P) (hb : Below W.heap.size W W') : BsV W' base vb L P := ⟨own_b13 hb h.o, h.l, fun k x p h1 h2 => (h.m k x p h1 h2).below hb, h.d⟩
theorem BsV.get (h : BsV W base vb L P) {k : Nat} {p : PB} (hp : P[k]? = some p) : ∃ x, L[k]? = some x ∧ BkO W base x p := by
  have h1 : k < L.length := by rw [h.l]; exact (List.getElem?_eq_some_iff.mp hp).1
  exact ⟨L[k], List.getElem?_eq_getElem h1, h.m k _ p (List.getElem?_eq_getElem h1) hp⟩
theorem BsV.far (h : BsV W base vb L P) {z o : Nat} {cs : Array Value} {T : TypeId} {fr : Nat × Nat} (hz : W.heap[z]? = some (.cells cs T fr)) (h1 : 121 ≠ T) (h2 : 110 ≠ T) (h3 : 151 ≠ T) (u : Value) : BsV (W.setCell ⟨z, o, none⟩ u) base vb L P := by
  have hk : ∀ y, y ≠ z → (W.setCell ⟨z, o, none⟩ u).heap[y]? = W.heap[y]? := fun y q => far_16 q
  refine ⟨own_keep18 h.o (fun g e => hk g (fun q => own_not18 h.o hz h1 (q ▸ e))), h.l, fun k x p q1 q2 => ?_, h.d⟩
  have hx := h.m k x p q1 q2
  exact hx.keep (fun g e => hk g (fun q => own_not18 hx.2.2.1 hz h2 (q ▸ e))) (fun g e => hk g (fun q => own_not18 hx.2.2.2 hz h3 (q ▸ e)))
theorem BsV.push {g cap : Nat} (h : BsV W base vb L P) (hg : W.grownBy W' vb.ownBlock) (a t : Int) (ho : W'.ownsRow base 121 4 (.slice (some ⟨g, 0, none⟩) (L.length + 1) cap) (L.length + 1) (rowB8 L ++ [.int .i64 a, .int .i64 t, .slice none 0 0, .slice none 0 0])) :
    BsV W' base (.slice (some ⟨g, 0, none⟩) (L.length + 1) cap) (L ++ [⟨a, t, .slice none 0 0, .slice none 0 0⟩]) (P ++ [⟨a, t, [], []⟩]) := by
  have hl : (L ++ [(⟨a, t, .slice none 0 0, .slice none 0 0⟩ : Bv)]).length = L.length + 1 := by simp
  refine ⟨by rw [hl, rowB8_app]; exact ho, by simp [h.l], fun k x p h1 h2 => ?_, fun j k x y z h1 h2 h3 h4 => ?_⟩
  · by_cases hk : k < L.length
    · rw [List.getElem?_append_left hk] at h1
      rw [List.getElem?_append_left (by rw [← h.l]; exact hk)] at h2
      have hx := h.m k x p h1 h2
      refine hx.keep (fun z e => hg.block z (hx.2.2.1.lt z e).2 (fun q => ?_)) (fun z e => hg.block z (hx.2.2.2.lt z e).2 (fun q => ?_))
      · obtain ⟨cs, hc⟩ := own_typed18 hx.2.2.1 z e
        exact own_not18 h.o hc (by decide) q.symm
      · obtain ⟨cs, hc⟩ := own_typed18 hx.2.2.2 z e
        exact own_not18 h.o hc (by decide) q.symm
    · have hk' : k = L.length := by have := (List.getElem?_eq_some_iff.mp h1).1; rw [hl] at this; omega
      subst hk'
      rw [List.getElem?_append_right (Nat.le_refl _), Nat.sub_self] at h1
      rw [h.l, List.getElem?_append_right (Nat.le_refl _), Nat.sub_self] at h2
      simp at h1 h2
      subst h1 h2
      exact ⟨rfl, rfl, World.ownsRow_nil _ _ _ _, World.ownsRow_nil _ _ _ _⟩
  · have key : ∀ (i : Nat) (x : Bv), (L ++ [(⟨a, t, .slice none 0 0, .slice none 0 0⟩ : Bv)])[i]? = some x → x.ve.ownBlock = some z → L[i]? = some x := fun i x q1 q2 => by
      by_cases hi : i < L.length
      · rwa [List.getElem?_append_left hi] at q1
      · have hi' : i = L.length := by have := (List.getElem?_eq_some_iff.mp q1).1; rw [hl] at this; omega
        subst hi'
        rw [List.getElem?_append_right (Nat.le_refl _), Nat.sub_self] at q1
        simp at q1
        subst q1
        cases q2
    exact h.d j k x y z (key j x h1 h3) (key k y h2 h4) h3 h4
theorem BsV.slots {g n cap k : Nat} {x : Bv} {p : PB} (h : BsV W base (.slice (some ⟨g, 0, none⟩) n cap) L P) (hx : L[k]? = some x) (hp : P[k]? = some p) {vs : Value} {m : List (BitVec 32)} (ho : W.ownsRow base 110 1 vs m.length (m.map cU)) :
    BsV (W.setCell ⟨g, k * 4 + 2, none⟩ vs) base (.slice (some ⟨g, 0, none⟩) n cap) (L.set k { x with vs := vs }) (P.set k { p with m := m }) := by
  have hk := (List.getElem?_eq_some_iff.mp hx).1
  have hn : n = L.length := by obtain ⟨ao, c, e⟩ := own_form h.o; injection e
  obtain ⟨cs, hc⟩ := own_typed18 h.o g rfl
  have hf : ∀ y, y ≠ g → (W.setCell ⟨g, k * 4 + 2, none⟩ vs).heap[y]? = W.heap[y]? := fun y q => far_16 q
  subst hn
  refine ⟨?_, by simp [h.l], fun j y q h1 h2 => ?_, fun i j y y' z h1 h2 h3 h4 => ?_⟩
  · have := own_put18 h.o vs (j := k * 4 + 2) (by omega)
    rw [rowB8_set2 L k x vs hx] at this
    simpa using this
  · have base1 : ∀ (y : Bv) (q : PB), BkO W base y q → BkO (W.setCell ⟨g, k * 4 + 2, none⟩ vs) base y q := fun y q hy => hy.keep (fun z e => hf z (fun q' => own_not18 hy.2.2.1 hc (by decide) (q' ▸ e))) (fun z e => hf z (fun q' => own_not18 hy.2.2.2 hc (by decide) (q' ▸ e)))
    by_cases hj : k = j
    · subst hj
      rw [List.getElem?_set_self hk] at h1
      rw [List.getElem?_set_self (by rw [← h.l]; exact hk)] at h2
      injection h1 with h1
      injection h2 with h2
      subst h1 h2
      have hy := h.m k x p hx hp
      exact base1 _ _ ⟨hy.1, hy.2.1, ho, hy.2.2.2⟩
    · rw [List.getElem?_set_ne hj] at h1 h2
      exact base1 _ _ (h.m j y q h1 h2)
  · have key : ∀ (i : Nat) (y : Bv), (L.set k { x with vs := vs })[i]? = some y → ∃ y0, L[i]? = some y0 ∧ y0.ve = y.ve := fun i y q => by
      by_cases hj : k = i
      · subst hj
        rw [List.getElem?_set_self hk] at q
        injection q with q
        subst q
        exact ⟨x, hx, rfl⟩
      · rw [List.getElem?_set_ne hj] at q
        exact ⟨y, q, rfl⟩
    obtain ⟨y0, a1, a2⟩ := key i y h1
    obtain ⟨y1, b1, b2⟩ := key j y' h2
    exact h.d i j y0 y1 z a1 b1 (by rw [a2]; exact h3) (by rw [b2]; exact h4)
theorem BsV.ents {W0 : World} {g n cap k : Nat} {x : Bv} {p : PB} (h0 : BsV W0 base (.slice (some ⟨g, 0, none⟩) n cap) L P) (hx : L[k]? = some x) (hp : P[k]? = some p) (hg : W0.grownBy W x.ve.ownBlock) {ve : Value} {es : List (Bool × Int)} (ho : W.ownsRow base 151 2 ve es.length (rowE8 es)) (hat : ∀ z, ve.ownBlock = some z → x.ve.ownBlock = some z ∨ W0.heap.size ≤ z) :
    BsV (W.setCell ⟨g, k * 4 + 3, none⟩ ve) base (.slice (some ⟨g, 0, none⟩) n cap) (L.set k { x with ve := ve }) (P.set k { p with es := es }) := by
  have hk := (List.getElem?_eq_some_iff.mp hx).1
  have hn : n = L.length := by obtain ⟨ao, c, e⟩ := own_form h0.o; injection e
  have hxx := h0.m k x p hx hp
  obtain ⟨cs0, hc0⟩ := own_typed18 h0.o g rfl
  have hgn : x.ve.ownBlock ≠ some g := own_not18 hxx.2.2.2 hc0 (by decide)
  have hc : W.heap[g]? = some (.cells cs0 121) := (hg.block g (lt_16 hc0) (fun q => hgn q.symm)).trans hc0
  have ho1 : W.ownsRow base 121 4 (.slice (some ⟨g, 0, none⟩) n cap) L.length (rowB8 L) := own_keep18 h0.o (fun z e => hg.block z (h0.o.lt z e).2 (fun q => by
    have : g = z := by simpa [Value.ownBlock] using e
    subst this; exact hgn q.symm))
  have hf : ∀ y, y ≠ g → (W.setCell ⟨g, k * 4 + 3, none⟩ ve).heap[y]? = W.heap[y]? := fun y q => far_16 q
  subst hn
  refine ⟨?_, by simp [h0.l], fun j y q h1 h2 => ?_, fun i j y y' z h1 h2 h3 h4 => ?_⟩
  · have := own_put18 ho1 ve (j := k * 4 + 3) (by omega)
    rw [rowB8_set3 L k x ve hx] at this
    simpa using this
  · have base1 : ∀ (y : Bv) (q : PB), BkO W base y q → BkO (W.setCell ⟨g, k * 4 + 3, none⟩ ve) base y q := fun y q hy => hy.keep (fun z e => hf z (fun q' => own_not18 hy.2.2.1 hc (by decide) (q' ▸ e))) (fun z e => hf z (fun q' => own_not18 hy.2.2.2 hc (by decide) (q' ▸ e)))
    by_cases hj : k = j
    · subst hj
      rw [List.getElem?_set_self hk] at h1
      rw [List.getElem?_set_self (by rw [← h0.l]; exact hk)] at h2
      injection h1 with h1
      injection h2 with h2
      subst h1 h2
      refine base1 _ _ ⟨hxx.1, hxx.2.1, ?_, ho⟩
      exact own_keep18 hxx.2.2.1 (fun z e => hg.block z (hxx.2.2.1.lt z e).2 (fun q => by
        obtain ⟨cs, hc⟩ := own_typed18 hxx.2.2.1 z e
        exact own_not18 hxx.2.2.2 hc (by decide) q.symm))
    · rw [List.getElem?_set_ne hj] at h1 h2
      have hy := h0.m j y q h1 h2
      refine base1 _ _ (hy.keep (fun z e => hg.block z (hy.2.2.1.lt z e).2 (fun q => ?_)) (fun z e => hg.block z (hy.2.2.2.lt z e).2 (fun q => ?_)))
      · obtain ⟨cs, hc⟩ := own_typed18 hy.2.2.1 z e
        exact own_not18 hxx.2.2.2 hc (by decide) q.symm
      · exact hj (h0.d k j x y z hx h1 q.symm e)
  · have key : ∀ (i : Nat) (y : Bv), (L.set k { x with ve := ve })[i]? = some y → y.ve.ownBlock = some z → (i = k ∧ ve.ownBlock = some z) ∨ (i ≠ k ∧ L[i]? = some y) := fun i y q q2 => by
      by_cases hj : k = i
      · subst hj
        rw [List.getElem?_set_self hk] at q
        injection q with q
        subst q
        exact .inl ⟨rfl, q2⟩
      · rw [List.getElem?_set_ne hj] at q
        exact .inr ⟨fun e => hj e.symm, q⟩
    have clash : ∀ (i : Nat) (y : Bv), i ≠ k → L[i]? = some y → y.ve.ownBlock = some z → ve.ownBlock = some z → False := fun i y q1 q2 q3 q4 => by
      rcases hat z q4 with q | q
      · exact q1 (h0.d i k y x z q2 hx q3 q)
      · obtain ⟨p', hp'⟩ : ∃ p', P[i]? = some p' := ⟨_, List.getElem?_eq_getElem (by rw [← h0.l]; exact (List.getElem?_eq_some_iff.mp q2).1)⟩
        have := ((h0.m i y p' q2 hp').2.2.2.lt z q3).2
        omega
    rcases key i y h1 h3 with ⟨a1, a2⟩ | ⟨a1, a2⟩ <;> rcases key j y' h2 h4 with ⟨b1, b2⟩ | ⟨b1, b2⟩
    · omega
    · exact (clash j y' b1 b2 h4 a2).elim
    · exact (clash i y a1 a2 h3 b2).elim
    · exact h0.d i j y y' z a2 b2 h3 h4
theorem BsV.link {g cap k i : Nat} {x : Bv} {p : PB} {e : Bool × Int} (h : BsV W base vb L P) (hx : L[k]? = some x) (hp : P[k]? = some p) (hv : x.ve = .slice (some ⟨g, 0, none⟩) p.es.length cap) (he : p.es[i]? = some e) (n : Int) :
    BsV (W.setCell ⟨g, i * 2 + 1, none⟩ (.int .i64 n)) base vb L (P.set k { p with es := p.es.set i (e.1, n) }) := by
  have hk := (List.getElem?_eq_some_iff.mp hx).1
  have hxx := h.m k x p hx hp
  obtain ⟨cs, hc⟩ := own_typed18 hxx.2.2.2 g (by rw [hv]; rfl)
  have hf : ∀ y, y ≠ g → (W.setCell ⟨g, i * 2 + 1, none⟩ (.int .i64 n)).heap[y]? = W.heap[y]? := fun y q => far_16 q
  refine ⟨own_keep18 h.o (fun z e => hf z (fun q => own_not18 h.o hc (by decide) (q ▸ e))), by simp [h.l], fun j y q h1 h2 => ?_, h.d⟩
  by_cases hj : k = j
  · subst hj
    rw [List.getElem?_set_self (by rw [← h.l]; exact hk)] at h2
    rw [hx] at h1
    injection h1 with h1
    injection h2 with h2
    subst h1 h2
    refine ⟨hxx.1, hxx.2.1, own_keep18 hxx.2.2.1 (fun z e => hf z (fun q => own_not18 hxx.2.2.1 hc (by decide) (q ▸ e))), ?_⟩
    have ho := hxx.2.2.2
    rw [hv] at ho
    have := own_put18 ho (.int .i64 n) (j := i * 2 + 1) (by have := (List.getElem?_eq_some_iff.mp he).1; omega)
    rw [rowE8_set _ _ _ _ he] at this
    rw [hv]
    simpa using this
  · rw [List.getElem?_set_ne hj] at h2
    have hy := h.m j y q h1 h2
    refine hy.keep (fun z e => hf z (fun q' => own_not18 hy.2.2.1 hc (by decide) (q' ▸ e))) (fun z e => hf z (fun q' => hj ?_))
    subst q'
    exact h.d k j x y z hx h1 (by rw [hv]; rfl) e
end
structure RdR (W : World) (base G : Nat) (vc : Value) (at_ left : Int) (vb : Value) (L : List Bv) (P : List PB) : Prop where
  g : W.heap[G]? = some (.cells #[vc, .int .i64 at_, vb, .int .i64 left] 143)
  b : BsV W base vb L P
  bG : base ≤ G
def RdQ (W : World) (base G : Nat) (vc : Value) (at_ left : Int) (P : List PB) : Prop := ∃ vb L, RdR W base G vc at_ left vb L P
section
variable {W W' : World} {base G : Nat} {vc : Value} {a l : Int} {vb : Value} {L : List Bv} {P : List PB}
theorem RdR.below (h : RdR W base G vc a l vb L P) (hb : Below W.heap.size W W') : RdR W' base G vc a l vb L P := ⟨(hb.block _ (lt_16 h.g)).trans h.g, h.b.below hb, h.bG⟩
theorem RdR.c0 (h : RdR W base G vc a l vb L P) : W.cell? ⟨G, 0, none⟩ = some vc := at_16 h.g 0 _ rfl
theorem RdR.c1 (h : RdR W base G vc a l vb L P) : W.cell? ⟨G, 1, none⟩ = some (.int .i64 a) := at_16 h.g 1 _ rfl
theorem RdR.c2 (h : RdR W base G vc a l vb L P) : W.cell? ⟨G, 2, none⟩ = some vb := at_16 h.g 2 _ rfl
theorem RdR.c3 (h : RdR W base G vc a l vb L P) : W.cell? ⟨G, 3, none⟩ = some (.int .i64 l) := at_16 h.g 3 _ rfl
theorem RdR.s1 (h : RdR W base G vc a l vb L P) (n : Int) : RdR (W.setCell ⟨G, 1, none⟩ (.int .i64 n)) base G vc n l vb L P := ⟨by rw [set_16 h.g]; rfl, h.b.far h.g (by decide) (by decide) (by decide) _, h.bG⟩
theorem RdR.s3 (h : RdR W base G vc a l vb L P) (n : Int) : RdR (W.setCell ⟨G, 3, none⟩ (.int .i64 n)) base G vc a n vb L P := ⟨by rw [set_16 h.g]; rfl, h.b.far h.g (by decide) (by decide) (by decide) _, h.bG⟩
theorem RdR.ks (h : RdR W base G vc a l vb L P) (o : Nat) (u : Value) : Kt W (W.setCell ⟨G, o, none⟩ u) := Kt.set h.g (.inl rfl) u
theorem RdR.bs (h : RdR W base G vc a l vb L P) {w : World} (hb : Below base w W) (o : Nat) (u : Value) : Below base w (W.setCell ⟨G, o, none⟩ u) := hb.setCell (p := ⟨G, o, none⟩) h.bG u
end
end Go.Proofs.Ytjgpbahglkaijaa
namespace Go.Proofs.Ytjgpbahglkaijaa
open Go.RowKit Go.Shelf
set_option linter.unusedSimpArgs false
set_option linter.unusedVariables false
attribute [local go_sem] Oper.semAt_some

def encP (x : Int) : Array Value := #[.int .i64 x]
structure PlM (Z : Nat → Prop) (A : Nat) (ao : Option Addr) (c : Nat) (m : List (BitVec 32)) (W : World) : Prop where
  a : W.cell? ⟨A, 0, none⟩ = some (.slice ao m.length c)
  za : Z A
  r : RwX cU W (.slice ao m.length c) m
  zr : m ≠ [] → ∀ ad, ao = some ad → Z ad.block
theorem PlM.kz {Z : Nat → Prop} {A : Nat} {ao : Option Addr} {c : Nat} {m : List (BitVec 32)} {W W' : World} (h : PlM Z A ao c m W) (g : KZ Z W W') : PlM Z A ao c m W' := by
  refine ⟨kz_cell g h.za h.a, h.za, ?_, h.zr⟩
  obtain ⟨ao', c', e, hc, hr⟩ := h.r
  injection e with e1 e2 e3
  subst e1 e3
  refine ⟨ao, c, rfl, hc, ?_⟩
  rcases hr with hr | ⟨b, off, e, hr⟩
  · exact .inl hr
  · exact .inr ⟨b, off, e, fun j x hj => kz_cell g (h.zr (by rintro rfl; cases hj) _ e) (hr j x hj)⟩
theorem vplaces18 (ao : Option Addr) (n c : Nat) (w : World) :
    Calls Try.prog 79 #[.slice ao n c] w fun e w' => e = .returned (.func (.func 103) #[] #[.pointer (some ⟨w.heap.size, 0, none⟩)]) ∧ w' = w.alloc (.cells #[.slice ao n c] 73) := by
  have hmf : ∀ (fn : Fn) (first cap : Array Value) (w : World), (Instr.makeFunc fn first cap).run Try.prog w = .ok (.func fn first cap) w := fun _ _ _ _ => rfl
  go_enter Try.func79, Try.ntmps79
  go_wp2
  go_ret
  exact ⟨rfl, rfl⟩
set_option maxRecDepth 20000 in
set_option maxHeartbeats 16000000 in
theorem places1_any (n : Nat) (Z : Nat → Prop) (A : Nat) (ao : Option Addr) (c : Nat) (m : List (BitVec 32)) (hl : m.length ≤ 100000000) (Bd : Nat) (w : World) (hM : PlM Z A ao c m w) :
    SeqX n Try.prog 103 #[.pointer (some ⟨A, 0, none⟩)] encP (KZ Z) (fun ys => ys = setL m 0) (fun pre => pre <+: setL m 0) Bd w := by
  intro L J Jx W hW hB hJ hJx hY h0
  have HM := hid13 (hM.kz (kz_below hW))
  have HJ := hid13 hJ
  have HY := hid13 hY
  have H0 := hid13 h0
  have hmi : (m.length : Int) ≤ 100000000 := by omega
  have HL : Hid (m.length ≤ 100000000) := hl
  have a0 := HM.out.a
  have hL := fun (x : BitVec 32) (h : x ≠ 0#32) w => lead13_any x h w
  have HLd := hid13 hL
  clear hJ hJx hY h0 hM hL
  refine callsIn_of_wp Try.func103 rfl trivial ?_ rfl
  simp only [Try.ntmps103, List.size_toArray, List.length_cons, List.length_nil, Nat.reduceAdd, Nat.reduceSub, Array.replicate_succ, Array.replicate_zero, List.push_toArray, List.append_toArray, List.nil_append, List.cons_append]
  gi_wp2
  gi_loopw [8] (fun x8 wr => ∃ (k : Nat) (pre : List Int), k ≤ m.length ∧ x8 = .int .i64 (k : Int) ∧ Hid (pre ++ setL m (32 * k) = setL m 0) ∧ Hid (J pre wr) ∧ Hid (PlM Z A ao c m wr)) (fun x8 wr => m.length - (intOf13 x8).toNat)
  case atStart => exact ⟨0, [], Nat.zero_le _, rfl, hid13 rfl, H0, HM⟩
  case round =>
    clear H0 HM a0
    obtain ⟨k, pre, hk, rfl, HPr, HJw, HMw⟩ := hrel
    by_cases hlt : k < m.length
    · have hli : (k : Int) < (m.length : Int) := by omega
      obtain ⟨x, hx⟩ : ∃ x, m[k]? = some x := ⟨m[k], by simp [hlt]⟩
      obtain ⟨bb, off, hao, hcell⟩ : ∃ b off, ao = some ⟨b, off, none⟩ ∧ ∀ j x, m[j]? = some x → wr.cell? ⟨b, off + j, none⟩ = some (cU x) := by
        obtain ⟨ao', c', e, hc, hr⟩ := HMw.out.r
        injection e with e1 e2 e3
        subst e1
        rcases hr with h | h
        · rw [h] at hlt; simp at hlt
        · exact h
      subst hao
      have r0 := hcell k x hx
      unfold cU at r0
      have HLf : Hid (LfQ m k (32 * k) x) := hid13 (by
        have := lf_start m k
        rw [List.getD_eq_getElem?_getD, hx] at this
        exact this)
      have HK : Hid (k < m.length ∧ m.length ≤ 100000000) := ⟨hlt, hl⟩
      have mk : IntKind.i64.wrap ((k : Int) + 1) = ((k + 1 : Nat) : Int) := by rw [IntKind.wrap_i64]; omega
      clear hx hcell hk
      gi_wp2
      clear r0
      gi_loopw [4] (fun x4 wr => ∃ (p : Nat) (x : BitVec 32) (pre : List Int), x4 = .int .u32 (uI x) ∧ Hid (LfQ m k p x) ∧ Hid (pre ++ setL m p = setL m 0) ∧ Hid (J pre wr) ∧ Hid (PlM Z (A) (some ⟨bb, off, none⟩) c m wr)) (fun x4 wr => (intOf13 x4).toNat)
      case atStart => exact ⟨32 * k, x, pre, rfl, HLf, HPr, HJw, HMw⟩
      case round =>
        clear HLf HPr HJw HMw
        obtain ⟨p, x, pre, rfl, HLf, HPr, HJw, HMw⟩ := hrel
        by_cases hx0 : x = 0#32
        · subst hx0
          have h00 : uI 0#32 = 0 := uI_zero
          have HPr2 : Hid (pre ++ setL m (32 * (k + 1)) = setL m 0) := hid13 (by rw [← lf_end HLf.out HK.out.1]; exact HPr.out)
          clear HPr HLf
          rw [h00]
          gi_wp2
          go_roundw
          case rel => exact ⟨k + 1, pre, by have := HK.out; omega, rfl, HPr2, HJw, HMw⟩
          case measure =>
            have := HK.out
            first | (simp [intOf13]; omega) | (unfold intOf13; simp; omega)
        · have hxn : ¬ uI x = 0 := fun h => hx0 ((uI_is0 x).1 h)
          have KL := HLd.out x hx0
          clear hx0
          gi_wp2_with fail
          refine ⟨trivial, fun q => (by cases q), (callsIn_wide.2 (KL _)).mono ?_⟩
          rintro e w2 ⟨⟨q, rfl, hq⟩, hw2⟩
          subst hw2
          obtain ⟨hs, hlf⟩ := lf_hit HLf.out HK.out.1 hq
          have hq32 := hq.1
          have hqi : (q : Int) ≤ 31 := by omega
          have HLt := hid13 (sub_lt32 x q hq.1 hq.2.1)
          have HLf2 := hid13 hlf
          have HPr2 : Hid ((pre ++ [((32 * k + q : Nat) : Int)]) ++ setL m (32 * k + q + 1) = setL m 0) := hid13 (by rw [← HPr.out, hs]; simp)
          have HPx : Hid (pre ++ [((32 * k + q : Nat) : Int)] <+: setL m 0) := hid13 ⟨_, HPr2.out⟩
          obtain ⟨fn, tmps, assign, body, hy, hR⟩ := HY.out _ _ _ HJw.out HPx.out
          have e0 : ((32 * k + q : Nat) : Int) = (k : Int) * 32 + (q : Int) := by push_cast; omega
          rw [e0] at hy
          dsimp only [encP] at hy
          have m1 : IntKind.i64.wrap ((k : Int) * 32) = (k : Int) * 32 := by rw [IntKind.wrap_i64]; have := HK.out; omega
          have m2 : IntKind.i64.wrap ((k : Int) * 32 + (q : Int)) = (k : Int) * 32 + (q : Int) := by rw [IntKind.wrap_i64]; have := HK.out; omega
          obtain ⟨r, hr⟩ : ∃ r : Nat, r = 31 - q := ⟨_, rfl⟩
          have m3 : (31 : Int) - (q : Int) = (r : Int) := by omega
          have m4 : IntKind.i64.wrap (r : Int) = (r : Int) := by rw [IntKind.wrap_i64]; omega
          have m5 := tp_uI r (by omega)
          have m6 := sub32 x (tp r)
          rw [← hr] at HLt HLf2
          have hr31 : (r : Int) ≤ 31 := by omega
          clear KL hs hlf hq HPr HLf e0 hr hq32
          gi_wp2
          refine ⟨fun q => (by cases q), hR.mono ?_⟩
          rintro e W4 (⟨rfl, hJ4, hk4⟩ | ⟨rfl, hx4, -⟩)
          · have HM4 := hid13 (HMw.out.kz hk4)
            have HJ4 := hid13 hJ4
            clear hJ4 hk4 hy hR HMw HJw
            gi_wp2
            go_roundw
            case rel => exact ⟨32 * k + q + 1, _, _, rfl, HLf2, HPr2, HJ4, HM4⟩
            case measure => exact HLt.out
          · have HX4 := hid13 hx4
            clear hx4 hy hR HMw HJw
            gi_wp2
            exact bodyPost_ret (v := .tuple #[]) (by simp [results, Try.results103]) rfl ⟨⟨_, rfl⟩, .inr ⟨_, HPx.out, HX4.out⟩⟩
    · have HE : Hid (pre = setL m 0) := hid13 (by have := HPr.out; rw [setL_end (by omega), List.append_nil] at this; exact this)
      have hkm : k = m.length := by omega
      subst hkm
      clear HPr HMw
      gi_wp2
      go_end0
      exact ⟨⟨_, rfl⟩, .inl ⟨_, HE.out, HJw.out⟩⟩
end Go.Proofs.Ytjgpbahglkaijaa
namespace Go.Proofs.Ytjgpbahglkaijaa
open Go.RowKit
set_option linter.unusedSimpArgs false
set_option linter.unusedVariables false
attribute [local go_sem] Oper.semAt_some

def cmp18 (a b : Int) : Int := if a < b then -1 else if b < a then 1 else 0
theorem compare18 (a b : Int) (w : World) :
    Calls Try.prog 123 #[.int .i64 a, .int .i64 b] w fun e w' => e = .returned (.int .i64 (cmp18 a b)) ∧ w' = w := by
  unfold cmp18
  have haa : (a != a) = false := by simp
  have hbb : (b != b) = false := by simp
  by_cases h : a < b
  · rw [if_pos h]
    go_enter Try.func123, Try.ntmps123
    go_wp2_with go_in
    go_ret
    exact ⟨rfl, rfl⟩
  · rw [if_neg h]
    by_cases h2 : b < a
    · rw [if_pos h2]
      go_enter Try.func123, Try.ntmps123
      go_wp2_with go_in
      go_ret
      exact ⟨rfl, rfl⟩
    · rw [if_neg h2]
      go_enter Try.func123, Try.ntmps123
      go_wp2_with go_in
      go_ret
      exact ⟨rfl, rfl⟩
set_option maxHeartbeats 4000000 in
theorem bat1_18 (y t x : Int) (so eo : Option Addr) (sn sc en ec : Nat) (w : World) :
    Calls Try.prog 122 #[.agg #[.int .i64 y, .int .i64 t, .slice so sn sc, .slice eo en ec], .int .i64 x] w fun e w' => e = .returned (.int .i64 (cmp18 y x)) ∧ Below w.heap.size w w' := by
  have KC := fun w => compare18 y x w
  generalize cmp18 y x = z at *
  have HB := hid13 (bl1 w (.cells #[.int .i64 y, .int .i64 t, .slice so sn sc, .slice eo en ec] 121))
  go_enter Try.func122, Try.ntmps122
  go_wp2_with fail
  refine (KC _).mono ?_
  rintro e w1 ⟨rfl, hw⟩
  replace hw := hw.symm
  subst hw
  clear KC
  go_wp2
  go_ret
  exact ⟨rfl, HB.out⟩
def SrR (w : World) (g : Nat) (qs : List Int) : Prop := ∀ (j : Nat) (y : Int), qs[j]? = some y → ∃ (t : Int) (so eo : Option Addr) (sn sc en ec : Nat), w.cell? ⟨g, j * 4, none⟩ = some (.int .i64 y) ∧ w.cell? ⟨g, j * 4 + 1, none⟩ = some (.int .i64 t) ∧ w.cell? ⟨g, j * 4 + 2, none⟩ = some (.slice so sn sc) ∧ w.cell? ⟨g, j * 4 + 3, none⟩ = some (.slice eo en ec)
theorem SrR.below {w w' : World} {g : Nat} {qs : List Int} (h : SrR w g qs) (hb : Below w.heap.size w w') : SrR w' g qs := fun j y hj => by
  obtain ⟨t, so, eo, sn, sc, en, ec, h1, h2, h3, h4⟩ := h j y hj
  exact ⟨t, so, eo, sn, sc, en, ec, keepc hb h1, keepc hb h2, keepc hb h3, keepc hb h4⟩
theorem BsV.sr {W : World} {base g n c : Nat} {L : List Bv} {P : List PB} (h : BsV W base (.slice (some ⟨g, 0, none⟩) n c) L P) : SrR W g (P.map PB.a) := fun j y hj => by
  rw [List.getElem?_map] at hj
  cases hp : P[j]? with
  | none => rw [hp] at hj; cases hj
  | some p =>
    rw [hp] at hj
    injection hj with hj
    obtain ⟨x, hx, ho⟩ := h.get hp
    obtain ⟨a1, a2, a3, a4⟩ := rowB8_get L j x hx
    obtain ⟨so, sc, e1⟩ := own_form ho.2.2.1
    obtain ⟨eo, ec, e2⟩ := own_form ho.2.2.2
    have o1 := h.o
    have hn : n = L.length := by obtain ⟨ao, c', e⟩ := own_form h.o; injection e
    subst hn
    refine ⟨x.t, so, eo, p.m.length, sc, p.es.length, ec, ?_, (own_at18 o1 a2).1, ?_, ?_⟩
    · rw [(own_at18 o1 a1).1, ho.1]; rw [← hj]
    · rw [(own_at18 o1 a3).1, e1]
    · rw [(own_at18 o1 a4).1, e2]
def SrQ (qs : List Int) (x : Int) (e : Ending) : Prop := ∃ (i : Nat) (b : Bool), e = .returned (.tuple #[.int .i64 (i : Int), .bool b]) ∧ (b = true → fnB qs x = (i : Int) ∧ i < qs.length) ∧ (b = false → fnB qs x = -1)
set_option maxRecDepth 20000 in
set_option maxHeartbeats 8000000 in
theorem search18 (g c : Nat) (qs : List Int) (x : Int) (w : World) (hc : SrR w g qs) (hs : qs.Pairwise (· < ·)) (hl : qs.length ≤ 1000000000) :
    Calls Try.prog 121 #[.slice (some ⟨g, 0, none⟩) qs.length c, .int .i64 x, .func (.func 122) #[] #[]] w fun e w' => SrQ qs x e ∧ Below w.heap.size w w' := by
  have HC := hid13 hc
  have HS := hid13 hs
  have HL : Hid (qs.length ≤ 1000000000) := hl
  clear hc hs hl
  go_enter Try.func121, Try.ntmps121
  go_wp2_with fail
  go_loopg [9, 10] qs.length (fun gk lv hv wr => ∃ lo hi : Nat, lv = .int .i64 (lo : Int) ∧ hv = .int .i64 (hi : Int) ∧ Hid (lo ≤ hi ∧ hi ≤ qs.length ∧ hi - lo ≤ gk ∧ (∀ j y, j < lo → qs[j]? = some y → y < x) ∧ (∀ j y, hi ≤ j → qs[j]? = some y → x ≤ y)) ∧ Hid (Below w.heap.size w wr))
  case atStart => exact ⟨0, qs.length, rfl, rfl, hid13 ⟨Nat.zero_le _, Nat.le_refl _, by omega, fun j y h => by omega, fun j y h1 h2 => by have := (List.getElem?_eq_some_iff.mp h2).1; omega⟩, hid13 (Below.refl _ _)⟩
  case round =>
    obtain ⟨lo, hi, rfl, rfl, HI, HB⟩ := hrel
    by_cases hlt : (lo : Int) < (hi : Int)
    · obtain ⟨mm, hmm⟩ : ∃ mm, mm = (lo + hi) / 2 := ⟨_, rfl⟩
      have hml : mm < qs.length := by have := HI.out; omega
      obtain ⟨y, hy⟩ : ∃ y, qs[mm]? = some y := ⟨_, List.getElem?_eq_getElem hml⟩
      obtain ⟨t, so, eo, sn, sc, en, ec, c0, c1, c2, c3⟩ := (HC.out.below HB.out) mm y hy
      have hmi : (mm : Int) < (qs.length : Int) := by omega
      have hw1 : IntKind.i64.wrap ((lo : Int) + (hi : Int)) = (lo : Int) + (hi : Int) := by rw [IntKind.wrap_i64]; have := HI.out; have := HL.out; omega
      have hw2 : IntKind.u64.wrap ((lo : Int) + (hi : Int)) = (lo : Int) + (hi : Int) := by rw [IntKind.wrap_u64]; have := HI.out; have := HL.out; omega
      have hqi : ((lo : Int) + (hi : Int)) / 2 = (mm : Int) := by omega
      have m3 : IntKind.i64.wrap (mm : Int) = (mm : Int) := by rw [IntKind.wrap_i64]; have := HL.out; omega
      have m5 : wrap64 (mm : Int) = (mm : Int) := w64_n18 mm (by have := HL.out; omega)
      have m4 : IntKind.i64.wrap ((mm : Int) + 1) = ((mm + 1 : Nat) : Int) := by rw [IntKind.wrap_i64]; have := HL.out; push_cast; omega
      have HM : Hid (lo ≤ mm ∧ mm < hi ∧ qs[mm]? = some y) := ⟨by omega, by omega, hy⟩
      have HP := hid13 (fun j z (h1 : qs[j]? = some z) => ((fun h => by
        obtain ⟨a1, a2⟩ := List.getElem?_eq_some_iff.mp h1
        obtain ⟨b1, b2⟩ := List.getElem?_eq_some_iff.mp hy
        have := List.pairwise_iff_getElem.mp HS.out j mm a1 b1 h
        rw [a2, b2] at this
        exact this) : j < mm → z < y))
      have HQ := hid13 (fun j z (h1 : qs[j]? = some z) => ((fun h => by
        obtain ⟨a1, a2⟩ := List.getElem?_eq_some_iff.mp h1
        obtain ⟨b1, b2⟩ := List.getElem?_eq_some_iff.mp hy
        have := List.pairwise_iff_getElem.mp HS.out mm j b1 a1 h
        rw [a2, b2] at this
        exact this) : mm < j → y < z))
      have KC := bat1_18 y t x so eo sn sc en ec wr
      obtain ⟨cz, hcz⟩ : ∃ cz, cz = cmp18 y x := ⟨_, rfl⟩
      rw [← hcz] at KC
      clear hy hmm hml
      go_wp2_with fail
      refine KC.mono ?_
      rintro e w1 ⟨rfl, hb1⟩
      have HB1 := hid13 (keepb hb1 HB.out)
      clear KC hb1 HB c0 c1 c2 c3
      by_cases hyx : y < x
      · have HN : Hid (mm + 1 ≤ hi ∧ hi ≤ qs.length ∧ hi - (mm + 1) ≤ gk - 1 ∧ (∀ j z, j < mm + 1 → qs[j]? = some z → z < x) ∧ (∀ j z, hi ≤ j → qs[j]? = some z → x ≤ z)) := by
          refine ⟨by have := HM.out; omega, HI.out.2.1, by have := HM.out; have := HI.out; omega, fun j z hj hz => ?_, HI.out.2.2.2.2⟩
          by_cases e : j = mm
          · subst e
            rw [HM.out.2.2] at hz
            injection hz with hz
            omega
          · have := HP.out j z hz (by omega)
            omega
        have HG : Hid (gk - 1 < gk) := by have := HM.out; have := HI.out; show _ < _; omega
        have hcn : cz < 0 := by rw [hcz]; unfold cmp18; rw [if_pos hyx]; decide
        clear HI HM HP HQ hcz hyx
        go_wp2
        go_roundg (gk - 1)
        case measure => exact HG.out
        case rel => exact ⟨mm + 1, hi, rfl, rfl, HN, HB1⟩
      · have HN : Hid (lo ≤ mm ∧ mm ≤ qs.length ∧ mm - lo ≤ gk - 1 ∧ (∀ j z, j < lo → qs[j]? = some z → z < x) ∧ (∀ j z, mm ≤ j → qs[j]? = some z → x ≤ z)) := by
          refine ⟨HM.out.1, by have := HM.out; have := HI.out; omega, by have := HM.out; have := HI.out; omega, HI.out.2.2.2.1, fun j z hj hz => ?_⟩
          by_cases e : j = mm
          · subst e
            rw [HM.out.2.2] at hz
            injection hz with hz
            omega
          · have := HQ.out j z hz (by omega)
            omega
        have HG : Hid (gk - 1 < gk) := by have := HM.out; have := HI.out; show _ < _; omega
        have hcn : ¬ cz < 0 := by rw [hcz]; unfold cmp18; rw [if_neg hyx]; split <;> decide
        clear HI HM HP HQ hcz hyx
        go_wp2
        go_roundg (gk - 1)
        case measure => exact HG.out
        case rel => exact ⟨lo, mm, rfl, rfl, HN, HB1⟩
    · have hle : lo = hi := by have := HI.out.1; omega
      subst hle
      by_cases hin : lo < qs.length
      · obtain ⟨y, hy⟩ : ∃ y, qs[lo]? = some y := ⟨_, List.getElem?_eq_getElem hin⟩
        obtain ⟨t, so, eo, sn, sc, en, ec, c0, c1, c2, c3⟩ := (HC.out.below HB.out) lo y hy
        have hin' : (lo : Int) < (qs.length : Int) := by omega
        have KC := bat1_18 y t x so eo sn sc en ec wr
        have HF : Hid (∀ b, b = (cmp18 y x == 0) → (b = true → fnB qs x = (lo : Int) ∧ lo < qs.length) ∧ (b = false → fnB qs x = -1)) := hid13 (fun b hb => by
          have h1 := HI.out.2.2.2.2 lo y (Nat.le_refl _) hy
          subst hb
          unfold cmp18
          constructor
          · intro q
            have e : y = x := by
              split at q
              · cases q
              · split at q
                · cases q
                · omega
            subst e
            exact ⟨fnB_at HS.out hy, hin⟩
          · intro q
            have e : x < y := by
              split at q
              · omega
              · split at q
                · omega
                · simp at q
            refine fnB_no (fun i z hz => ?_)
            by_cases hi : i < lo
            · have := HI.out.2.2.2.1 i z hi hz
              omega
            · by_cases hi2 : i = lo
              · subst hi2
                rw [hy] at hz
                injection hz with hz
                omega
              · obtain ⟨a1, a2⟩ := List.getElem?_eq_some_iff.mp hz
                obtain ⟨b1, b2⟩ := List.getElem?_eq_some_iff.mp hy
                have := List.pairwise_iff_getElem.mp HS.out lo i b1 a1 (by omega)
                rw [a2, b2] at this
                omega)
        generalize cmp18 y x = cz at *
        clear hlt hin hy
        go_wp2_with fail
        refine KC.mono ?_
        rintro e w1 ⟨rfl, hb1⟩
        have HB1 := hid13 (keepb hb1 HB.out)
        clear KC hb1 HB c0 c1 c2 c3
        go_wp2
        exact bodyPost_ret (v := .tuple #[.int .i64 (lo : Int), .bool (cz == 0)]) (by simp [results, Try.results121, go_sem]) rfl ⟨⟨lo, (cz == 0), rfl, HF.out _ rfl⟩, HB1.out⟩
      · have hin' : ¬ (lo : Int) < (qs.length : Int) := by omega
        have HF : Hid (fnB qs x = -1) := hid13 (fnB_no (fun i z hz => by
          have := (List.getElem?_eq_some_iff.mp hz).1
          have := HI.out.2.2.2.1 i z (by omega) hz
          omega))
        clear hlt hin
        go_wp2
        exact bodyPost_ret (v := .tuple #[.int .i64 (lo : Int), .bool false]) (by simp [results, Try.results121, go_sem]) rfl ⟨⟨lo, false, rfl, fun q => (by cases q), fun _ => HF.out⟩, HB.out⟩
set_option maxHeartbeats 4000000 in
theorem blockAt18 (PB' g c : Nat) (qs : List Int) (x : Int) (w : World) (h0 : w.cell? ⟨PB', 0, none⟩ = some (.slice (some ⟨g, 0, none⟩) qs.length c)) (hc : SrR w g qs) (hs : qs.Pairwise (· < ·)) (hl : qs.length ≤ 1000000000) :
    Calls Try.prog 99 #[.pointer (some ⟨PB', 0, none⟩), .int .i64 x] w fun e w' => SrQ qs x e ∧ Below w.heap.size w w' := by
  have KS := search18 g c qs x w hc hs hl
  clear hc hs hl
  go_enter Try.func99, Try.ntmps99
  go_wp2_with fail
  refine KS.mono ?_
  rintro e w1 ⟨⟨i, b, rfl, h1, h2⟩, hb⟩
  have HF := hid13 (And.intro h1 (And.intro h2 hb))
  clear h1 h2 hb KS
  go_wp2
  exact bodyPost_ret (v := .tuple #[.int .i64 (i : Int), .bool b]) (by simp [results, Try.results99, go_sem]) rfl ⟨⟨i, b, rfl, HF.out.1, HF.out.2.1⟩, HF.out.2.2⟩
end Go.Proofs.Ytjgpbahglkaijaa
