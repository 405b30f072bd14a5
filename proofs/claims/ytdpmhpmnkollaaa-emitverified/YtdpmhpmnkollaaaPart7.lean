/-
  Part 7 of the proof: 19 texts, one behind the other.
-/
import Derived.Test.YtdpmhpmnkollaaaPart6
import Derived.Test.YtdpmhpmnkollaaaPart3
import Derived.Test.YtdpmhpmnkollaaaPart5
import Derived.Test.YtdpmhpmnkollaaaPart4
import Derived.Test.YtdpmhpmnkollaaaPart2
namespace Go.Proofs.Ytdpmhpmnkollaaa
open Go.RowKit
set_option linter.unusedSimpArgs false
set_option linter.unusedVariables false

def setL (m : List (BitVec 32)) (p : Nat) : List Int := ((List.range' p (32 * m.length - p)).filter (plc m)).map (fun i : Nat => (i : Int))
theorem setL_end {m : List (BitVec 32)} {p : Nat} (h : 32 * m.length ≤ p) : setL m p = [] := by unfold setL; rw [show 32 * m.length - p = 0 by omega]; rfl
theorem setL_step {m : List (BitVec 32)} {p : Nat} (h : p < 32 * m.length) : setL m p = if plc m p = true then (p : Int) :: setL m (p + 1) else setL m (p + 1) := by
  unfold setL
  rw [show 32 * m.length - p = (32 * m.length - (p + 1)) + 1 by omega, List.range'_succ, List.filter_cons]
  split <;> simp
theorem setL_len (m : List (BitVec 32)) : ∀ (n p : Nat), p + n = 32 * m.length → (setL m p).length + cnt m p = cnt m (32 * m.length)
  | 0, p, h => by rw [setL_end (by omega), ← h]; simp
  | n + 1, p, h => by
    have h1 := setL_len m n (p + 1) (by omega)
    rw [setL_step (by omega)]
    have e : cnt m (p + 1) = cnt m p + (plc m p).toNat := rfl
    rw [e] at h1
    cases hp : plc m p
    · rw [hp] at h1; simp at h1 ⊢; omega
    · rw [hp] at h1; simp at h1 ⊢; omega
theorem setL_all (m : List (BitVec 32)) : (setL m 0).length = sumW m m.length := by
  have h := setL_len m (32 * m.length) 0 (by omega)
  rw [cnt_words] at h
  have e : cnt m 0 = 0 := rfl
  omega
theorem bsG_es (l : List Nat) : ∀ (f : Nat) (a : Int) (P : List PB), (∀ b ∈ P, b.es.length = sumW b.m b.m.length ∧ 1 ≤ b.es.length) → (bsG l f a P).2.2 = 0 → ∀ b ∈ (bsG l f a P).1, b.es.length = sumW b.m b.m.length ∧ 1 ≤ b.es.length
  | 0, a, P, hP, h => by unfold bsG; intro b hb; cases hb
  | f + 1, a, P, hP, h => by
    rw [bsG_succ] at h ⊢
    by_cases c1 : dcE l a ≠ 0
    · rw [if_pos c1] at h; exact absurd h c1
    rw [if_neg c1] at h ⊢
    by_cases c2 : (dcI l a).op ≠ 1
    · rw [if_pos c2] at h; exact absurd h (by simp)
    rw [if_neg c2] at h ⊢
    by_cases c3 : dcE l (a + 1) ≠ 0
    · rw [if_pos c3] at h; exact absurd h c3
    rw [if_neg c3] at h ⊢
    by_cases c4 : (dcI l (a + 1)).op ≠ 2
    · rw [if_pos c4] at h; exact absurd h (by simp)
    rw [if_neg c4] at h ⊢
    by_cases c5 : (dcI l (a + 1)).n ≠ (dcI l a).n
    · rw [if_pos c5] at h; exact absurd h (by simp)
    rw [if_neg c5] at h ⊢
    generalize hr : enG l (a + 1 + dcZ l (a + 1)) (sumW (dcI l (a + 1)).m (dcI l (a + 1)).m.length) 0 [] = r at *
    unfold bsF at h ⊢
    by_cases c6 : r.2.1 ≠ 0
    · rw [if_pos c6] at h; exact absurd h c6
    rw [if_neg c6] at h ⊢
    have hl : r.1.length = sumW (dcI l (a + 1)).m (dcI l (a + 1)).m.length := by
      have := (enG_ok l (a + 1 + dcZ l (a + 1)) (sumW (dcI l (a + 1)).m (dcI l (a + 1)).m.length) 0 [] (by rw [hr]; simpa using c6)).1
      rw [hr] at this
      simpa using this
    have hP2 : ∀ b ∈ P ++ [(⟨a, (dcI l a).n, (dcI l (a + 1)).m, prE (a + 1 + dcZ l (a + 1)) r.1⟩ : PB)], b.es.length = sumW b.m b.m.length ∧ 1 ≤ b.es.length := by
      intro b hb
      rcases List.mem_append.mp hb with q | q
      · exact hP b q
      · simp at q
        subst q
        dsimp only
        rw [prE_len, hl]
        exact ⟨rfl, ((dcF (by simpa using c3)).m2 (by simpa using c4)).2.2⟩
    by_cases c7 : a + 1 + dcZ l (a + 1) + ((sumW (dcI l (a + 1)).m (dcI l (a + 1)).m.length : Nat) : Int) < wds l
    · rw [if_pos c7] at h ⊢
      exact bsG_es l f _ _ hP2 h
    · rw [if_neg c7]
      exact hP2
end Go.Proofs.Ytdpmhpmnkollaaa
namespace Go.Proofs.Ytdpmhpmnkollaaa
open Go.RowKit
set_option linter.unusedSimpArgs false
set_option linter.unusedVariables false

theorem own_typed18 {W : World} {base e size n : Nat} {v : Value} {xs : List Value} (h : W.ownsRow base e size v n xs) (z : Nat) (hz : v.ownBlock = some z) : ∃ cs, W.heap[z]? = some (.cells cs e) := by
  rcases h.2 with ⟨e0, _⟩ | ⟨g, cap, cur, e0, hb, hg, rest⟩
  · rw [e0] at hz; cases hz
  · rw [e0] at hz
    have q : g = z := by simpa [Value.ownBlock] using hz
    subst q
    exact ⟨_, hg⟩
theorem own_not18 {W : World} {base e size n : Nat} {v : Value} {xs : List Value} (h : W.ownsRow base e size v n xs) {z : Nat} {cs : Array Value} {T : TypeId} {fr : Nat × Nat} (hz : W.heap[z]? = some (.cells cs T fr)) (he : e ≠ T) : v.ownBlock ≠ some z := by
  intro q
  obtain ⟨cs', h2⟩ := own_typed18 h z q
  rw [h2] at hz
  injection hz with hz
  injection hz with _ h2 _
  exact he h2
theorem own_keep18 {W W' : World} {base e size n : Nat} {v : Value} {xs : List Value} (h : W.ownsRow base e size v n xs) (he : ∀ g, v.ownBlock = some g → W'.heap[g]? = W.heap[g]?) : W'.ownsRow base e size v n xs := by
  refine ⟨h.1, ?_⟩
  rcases h.2 with hn | ⟨g, cap, cur, rfl, hb, hg, rest⟩
  · exact .inl hn
  · exact .inr ⟨g, cap, cur, rfl, hb, by rw [he g rfl]; exact hg, rest⟩
end Go.Proofs.Ytdpmhpmnkollaaa
namespace Go.Proofs.Ytdpmhpmnkollaaa
open Go.RowKit
set_option linter.unusedSimpArgs false
set_option linter.unusedVariables false

def rowE8 : List (Bool × Int) → List Value
  | [] => []
  | e :: t => .bool e.1 :: .int .i64 e.2 :: rowE8 t
theorem rowE8_set : ∀ (A : List (Bool × Int)) (j : Nat) (e : Bool × Int) (n : Int), A[j]? = some e → (rowE8 A).set (j * 2 + 1) (.int .i64 n) = rowE8 (A.set j (e.1, n))
  | [], j, e, n, h => by simp at h
  | x :: A, 0, e, n, h => by simp at h; subst h; rfl
  | x :: A, j + 1, e, n, h => by
    have := rowE8_set A j e n (by simpa using h)
    rw [show (j + 1) * 2 + 1 = (j * 2 + 1) + 2 by omega]
    show _ :: _ :: (rowE8 A).set (j * 2 + 1) (.int .i64 n) = _
    rw [this]; rfl
structure Bv where
  a : Int
  t : Int
  vs : Value
  ve : Value
def rowB8 : List Bv → List Value
  | [] => []
  | x :: t => .int .i64 x.a :: .int .i64 x.t :: x.vs :: x.ve :: rowB8 t
theorem rowB8_app : ∀ (A : List Bv) (x : Bv), rowB8 (A ++ [x]) = rowB8 A ++ [.int .i64 x.a, .int .i64 x.t, x.vs, x.ve]
  | [], e => rfl
  | y :: A, e => by
    show _ :: _ :: _ :: _ :: rowB8 (A ++ [e]) = _
    rw [rowB8_app A e]; rfl
theorem own_put18 {W : World} {base e size n g cap j : Nat} {xs : List Value} (h : W.ownsRow base e size (.slice (some ⟨g, 0, none⟩) n cap) n xs) (u : Value) (hj : j < n * size) : (W.setCell ⟨g, j, none⟩ u).ownsRow base e size (.slice (some ⟨g, 0, none⟩) n cap) n (xs.set j u) := by
  obtain ⟨h1, h2⟩ := h
  rcases h2 with ⟨h2, -⟩ | ⟨g', cap', cur, e0, hb, hg, hn, hm, hs, ht⟩
  · cases h2
  · injection e0 with e1 e2 e3
    injection e1 with e1
    injection e1 with e1
    subst e1 e3
    refine ⟨by simpa using h1, .inr ⟨g, cap, cur.setIfInBounds j u, rfl, hb, set_16 hg u, hn, hm, by simpa using hs, ?_⟩⟩
    rw [Array.toList_setIfInBounds, List.take_set, ht]
theorem own_some18 {W : World} {base e size n : Nat} {v : Value} {xs : List Value} (h : W.ownsRow base e size v n xs) (hn : 0 < n) : ∃ g cap, v = .slice (some ⟨g, 0, none⟩) n cap ∧ n ≤ cap := by
  rcases h.2 with ⟨-, h2⟩ | ⟨g, cap, cur, e0, hb, hg, hc, -⟩
  · omega
  · exact ⟨g, cap, e0, hc⟩
theorem own_at18 {W : World} {base e size n g cap : Nat} {xs : List Value} (h : W.ownsRow base e size (.slice (some ⟨g, 0, none⟩) n cap) n xs) {j : Nat} {u : Value} (hj : xs[j]? = some u) : W.cell? ⟨g, j, none⟩ = some u ∧ W.frozen? ⟨g, j, none⟩ = false := by
  have hc := h.cells (g := g) rfl j u hj
  rw [addA, Nat.zero_add] at hc
  obtain ⟨cs, h2⟩ := own_typed18 h g rfl
  exact ⟨hc, fr_16 h2⟩
def vTy (T : TypeId) : Prop := T = 127 ∨ T = 111 ∨ T = 135
def Kt (W W' : World) : Prop := W.heap.size ≤ W'.heap.size ∧ ∀ (z : Nat) (cs : Array Value) (T : TypeId) (fr : Nat × Nat), W.heap[z]? = some (.cells cs T fr) → ¬ vTy T → W'.heap[z]? = some (.cells cs T fr)
theorem Kt.refl (W : World) : Kt W W := ⟨Nat.le_refl _, fun _ _ _ _ h _ => h⟩
theorem Kt.trans {A B C : World} (h : Kt A B) (g : Kt B C) : Kt A C := ⟨Nat.le_trans h.1 g.1, fun z cs T fr h1 h2 => g.2 z cs T fr (h.2 z cs T fr h1 h2) h2⟩
theorem Kt.below {W W' : World} (hb : Below W.heap.size W W') : Kt W W' := ⟨hb.size, fun z cs T fr h1 _ => (hb.block z (lt_16 h1)).trans h1⟩
theorem Kt.set {W : World} {z o : Nat} {cs : Array Value} {T : TypeId} (hz : W.heap[z]? = some (.cells cs T)) (hT : vTy T) (u : Value) : Kt W (W.setCell ⟨z, o, none⟩ u) := by
  refine ⟨by simp, fun z' cs' T' fr' h1 h2 => ?_⟩
  rw [far_16 (fun q => by subst q; rw [hz] at h1; injection h1 with h1; injection h1 with _ h3 _; subst h3; exact h2 hT)]
  exact h1
theorem Kt.grown {W W' : World} {base e size n : Nat} {v : Value} {xs : List Value} (h : W.ownsRow base e size v n xs) (he : vTy e) (hg : W.grownBy W' v.ownBlock) : Kt W W' := by
  refine ⟨hg.size, fun z cs T fr h1 h2 => ?_⟩
  rw [hg.block z (lt_16 h1) (fun q => ?_)]
  · exact h1
  · obtain ⟨cs', h3⟩ := own_typed18 h z q.symm
    rw [h3] at h1
    injection h1 with h1
    injection h1 with _ h4 _
    subst h4
    exact h2 he
def BkO (W : World) (base : Nat) (x : Bv) (p : PB) : Prop := x.a = p.a ∧ x.t = p.t ∧ W.ownsRow base 96 1 x.vs p.m.length (p.m.map cU) ∧ W.ownsRow base 135 2 x.ve p.es.length (rowE8 p.es)
structure BsV (W : World) (base : Nat) (vb : Value) (L : List Bv) (P : List PB) : Prop where
  o : W.ownsRow base 111 4 vb L.length (rowB8 L)
  l : L.length = P.length
  m : ∀ (k : Nat) (x : Bv) (p : PB), L[k]? = some x → P[k]? = some p → BkO W base x p
  d : ∀ (j k : Nat) (x y : Bv) (z : Nat), L[j]? = some x → L[k]? = some y → x.ve.ownBlock = some z → y.ve.ownBlock = some z → j = k
section
variable {W W' : World} {base : Nat} {vb : Value} {L : List Bv} {P : List PB} {x : Bv} {p : PB}
theorem BkO.keep (h : BkO W base x p) (h1 : ∀ z, x.vs.ownBlock = some z → W'.heap[z]? = W.heap[z]?) (h2 : ∀ z, x.ve.ownBlock = some z → W'.heap[z]? = W.heap[z]?) : BkO W' base x p := ⟨h.1, h.2.1, own_keep18 h.2.2.1 h1, own_keep18 h.2.2.2 h2⟩
theorem BkO.below (h : BkO W base x p) (hb : Below W.heap.size W W') : BkO W' base x p := h.keep (fun z e => hb.block z (h.2.2.1.lt z e).2) (fun z e => hb.block z (h.2.2.2.lt z e).2)
theorem BsV.below (h : BsV W base vb L P) (hb : Below W.heap.size W W') : BsV W' base vb L P := ⟨own_b13 hb h.o, h.l, fun k x p h1 h2 => (h.m k x p h1 h2).below hb, h.d⟩
theorem BsV.get (h : BsV W base vb L P) {k : Nat} {p : PB} (hp : P[k]? = some p) : ∃ x, L[k]? = some x ∧ BkO W base x p := by
  have h1 : k < L.length := by rw [h.l]; exact (List.getElem?_eq_some_iff.mp hp).1
  exact ⟨L[k], List.getElem?_eq_getElem h1, h.m k _ p (List.getElem?_eq_getElem h1) hp⟩
theorem BsV.far (h : BsV W base vb L P) {z o : Nat} {cs : Array Value} {T : TypeId} {fr : Nat × Nat} (hz : W.heap[z]? = some (.cells cs T fr)) (h1 : 111 ≠ T) (h2 : 96 ≠ T) (h3 : 135 ≠ T) (u : Value) : BsV (W.setCell ⟨z, o, none⟩ u) base vb L P := by
  have hk : ∀ y, y ≠ z → (W.setCell ⟨z, o, none⟩ u).heap[y]? = W.heap[y]? := fun y q => far_16 q
  refine ⟨own_keep18 h.o (fun g e => hk g (fun q => own_not18 h.o hz h1 (q ▸ e))), h.l, fun k x p q1 q2 => ?_, h.d⟩
  have hx := h.m k x p q1 q2
  exact hx.keep (fun g e => hk g (fun q => own_not18 hx.2.2.1 hz h2 (q ▸ e))) (fun g e => hk g (fun q => own_not18 hx.2.2.2 hz h3 (q ▸ e)))
theorem BsV.push {g cap : Nat} (h : BsV W base vb L P) (hg : W.grownBy W' vb.ownBlock) (a t : Int) (ho : W'.ownsRow base 111 4 (.slice (some ⟨g, 0, none⟩) (L.length + 1) cap) (L.length + 1) (rowB8 L ++ [.int .i64 a, .int .i64 t, .slice none 0 0, .slice none 0 0])) :
    BsV W' base (.slice (some ⟨g, 0, none⟩) (L.length + 1) cap) (L ++ [⟨a, t, .slice none 0 0, .slice none 0 0⟩]) (P ++ [⟨a, t, [], []⟩]) := by
  have hl : (L ++ [(⟨a, t, .slice none 0 0, .slice none 0 0⟩ : Bv)]).length = L.length + 1 := by simp
  refine ⟨by rw [hl, rowB8_app]; exact ho, by simp [h.l], fun k x p h1 h2 => ?_, fun j k x y z h1 h2 h3 h4 => ?_⟩
  · by_cases hk : k < L.length
    · rw [List.getElem?_append_left hk] at h1
      rw [List.getElem?_append_left (by rw [← h.l]; exact hk)] at h2
      have hx := h.m k x p h1 h2
      refine hx.keep (fun z e => hg.block z (hx.2.2.1.lt z e).2 (fun q => ?_)) (fun z e => hg.block z (hx.2.2.2.lt z e).2 (fun q => ?_))
      · obtain ⟨cs, hc⟩ := own_typed18 hx.2.2.1 z e
        exact own_not18 h.o hc (by decide) q.symm
      · obtain ⟨cs, hc⟩ := own_typed18 hx.2.2.2 z e
        exact own_not18 h.o hc (by decide) q.symm
    · have hk' : k = L.length := by have := (List.getElem?_eq_some_iff.mp h1).1; rw [hl] at this; omega
      subst hk'
      rw [List.getElem?_append_right (Nat.le_refl _), Nat.sub_self] at h1
      rw [h.l, List.getElem?_append_right (Nat.le_refl _), Nat.sub_self] at h2
      simp at h1 h2
      subst h1 h2
      exact ⟨rfl, rfl, World.ownsRow_nil _ _ _ _, World.ownsRow_nil _ _ _ _⟩
  · have key : ∀ (i : Nat) (x : Bv), (L ++ [(⟨a, t, .slice none 0 0, .slice none 0 0⟩ : Bv)])[i]? = some x → x.ve.ownBlock = some z → L[i]? = some x := fun i x q1 q2 => by
      by_cases hi : i < L.length
      · rwa [List.getElem?_append_left hi] at q1
      · have hi' : i = L.length := by have := (List.getElem?_eq_some_iff.mp q1).1; rw [hl] at this; omega
        subst hi'
        rw [List.getElem?_append_right (Nat.le_refl _), Nat.sub_self] at q1
        simp at q1
        subst q1
        cases q2
    exact h.d j k x y z (key j x h1 h3) (key k y h2 h4) h3 h4
theorem BsV.link {g cap k i : Nat} {x : Bv} {p : PB} {e : Bool × Int} (h : BsV W base vb L P) (hx : L[k]? = some x) (hp : P[k]? = some p) (hv : x.ve = .slice (some ⟨g, 0, none⟩) p.es.length cap) (he : p.es[i]? = some e) (n : Int) :
    BsV (W.setCell ⟨g, i * 2 + 1, none⟩ (.int .i64 n)) base vb L (P.set k { p with es := p.es.set i (e.1, n) }) := by
  have hk := (List.getElem?_eq_some_iff.mp hx).1
  have hxx := h.m k x p hx hp
  obtain ⟨cs, hc⟩ := own_typed18 hxx.2.2.2 g (by rw [hv]; rfl)
  have hf : ∀ y, y ≠ g → (W.setCell ⟨g, i * 2 + 1, none⟩ (.int .i64 n)).heap[y]? = W.heap[y]? := fun y q => far_16 q
  refine ⟨own_keep18 h.o (fun z e => hf z (fun q => own_not18 h.o hc (by decide) (q ▸ e))), by simp [h.l], fun j y q h1 h2 => ?_, h.d⟩
  by_cases hj : k = j
  · subst hj
    rw [List.getElem?_set_self (by rw [← h.l]; exact hk)] at h2
    rw [hx] at h1
    injection h1 with h1
    injection h2 with h2
    subst h1 h2
    refine ⟨hxx.1, hxx.2.1, own_keep18 hxx.2.2.1 (fun z e => hf z (fun q => own_not18 hxx.2.2.1 hc (by decide) (q ▸ e))), ?_⟩
    have ho := hxx.2.2.2
    rw [hv] at ho
    have := own_put18 ho (.int .i64 n) (j := i * 2 + 1) (by have := (List.getElem?_eq_some_iff.mp he).1; omega)
    rw [rowE8_set _ _ _ _ he] at this
    rw [hv]
    simpa using this
  · rw [List.getElem?_set_ne hj] at h2
    have hy := h.m j y q h1 h2
    refine hy.keep (fun z e => hf z (fun q' => own_not18 hy.2.2.1 hc (by decide) (q' ▸ e))) (fun z e => hf z (fun q' => hj ?_))
    subst q'
    exact h.d k j x y z hx h1 (by rw [hv]; rfl) e
end
structure RdR (W : World) (base G : Nat) (vc : Value) (at_ left : Int) (vb : Value) (L : List Bv) (P : List PB) : Prop where
  g : W.heap[G]? = some (.cells #[vc, .int .i64 at_, vb, .int .i64 left] 127)
  b : BsV W base vb L P
  bG : base ≤ G
def RdQ (W : World) (base G : Nat) (vc : Value) (at_ left : Int) (P : List PB) : Prop := ∃ vb L, RdR W base G vc at_ left vb L P
section
variable {W W' : World} {base G : Nat} {vc : Value} {a l : Int} {vb : Value} {L : List Bv} {P : List PB}
theorem RdR.below (h : RdR W base G vc a l vb L P) (hb : Below W.heap.size W W') : RdR W' base G vc a l vb L P := ⟨(hb.block _ (lt_16 h.g)).trans h.g, h.b.below hb, h.bG⟩
theorem RdR.c1 (h : RdR W base G vc a l vb L P) : W.cell? ⟨G, 1, none⟩ = some (.int .i64 a) := at_16 h.g 1 _ rfl
theorem RdR.c2 (h : RdR W base G vc a l vb L P) : W.cell? ⟨G, 2, none⟩ = some vb := at_16 h.g 2 _ rfl
theorem RdR.s1 (h : RdR W base G vc a l vb L P) (n : Int) : RdR (W.setCell ⟨G, 1, none⟩ (.int .i64 n)) base G vc n l vb L P := ⟨by rw [set_16 h.g]; rfl, h.b.far h.g (by decide) (by decide) (by decide) _, h.bG⟩
theorem RdR.s3 (h : RdR W base G vc a l vb L P) (n : Int) : RdR (W.setCell ⟨G, 3, none⟩ (.int .i64 n)) base G vc a n vb L P := ⟨by rw [set_16 h.g]; rfl, h.b.far h.g (by decide) (by decide) (by decide) _, h.bG⟩
end
end Go.Proofs.Ytdpmhpmnkollaaa
namespace Go.Proofs.Ytdpmhpmnkollaaa
open Go.RowKit Go.Shelf
set_option linter.unusedSimpArgs false
set_option linter.unusedVariables false
attribute [local go_sem] Oper.semAt_some

structure PlM (Z : Nat → Prop) (A : Nat) (ao : Option Addr) (c : Nat) (m : List (BitVec 32)) (W : World) : Prop where
  a : W.cell? ⟨A, 0, none⟩ = some (.slice ao m.length c)
  za : Z A
  r : RwX cU W (.slice ao m.length c) m
  zr : m ≠ [] → ∀ ad, ao = some ad → Z ad.block
theorem PlM.kz {Z : Nat → Prop} {A : Nat} {ao : Option Addr} {c : Nat} {m : List (BitVec 32)} {W W' : World} (h : PlM Z A ao c m W) (g : KZ Z W W') : PlM Z A ao c m W' := by
  refine ⟨kz_cell g h.za h.a, h.za, ?_, h.zr⟩
  obtain ⟨ao', c', e, hc, hr⟩ := h.r
  injection e with e1 e2 e3
  subst e1 e3
  refine ⟨ao, c, rfl, hc, ?_⟩
  rcases hr with hr | ⟨b, off, e, hr⟩
  · exact .inl hr
  · exact .inr ⟨b, off, e, fun j x hj => kz_cell g (h.zr (by rintro rfl; cases hj) _ e) (hr j x hj)⟩
end Go.Proofs.Ytdpmhpmnkollaaa
namespace Go.Proofs.Ytdpmhpmnkollaaa
open Go.RowKit
set_option linter.unusedSimpArgs false
set_option linter.unusedVariables false
attribute [local go_sem] Oper.semAt_some

def SrR (w : World) (g : Nat) (qs : List Int) : Prop := ∀ (j : Nat) (y : Int), qs[j]? = some y → ∃ (t : Int) (so eo : Option Addr) (sn sc en ec : Nat), w.cell? ⟨g, j * 4, none⟩ = some (.int .i64 y) ∧ w.cell? ⟨g, j * 4 + 1, none⟩ = some (.int .i64 t) ∧ w.cell? ⟨g, j * 4 + 2, none⟩ = some (.slice so sn sc) ∧ w.cell? ⟨g, j * 4 + 3, none⟩ = some (.slice eo en ec)
theorem SrR.below {w w' : World} {g : Nat} {qs : List Int} (h : SrR w g qs) (hb : Below w.heap.size w w') : SrR w' g qs := fun j y hj => by
  obtain ⟨t, so, eo, sn, sc, en, ec, h1, h2, h3, h4⟩ := h j y hj
  exact ⟨t, so, eo, sn, sc, en, ec, keepc hb h1, keepc hb h2, keepc hb h3, keepc hb h4⟩
end Go.Proofs.Ytdpmhpmnkollaaa
namespace Go.Proofs.Ytdpmhpmnkollaaa
open Go.RowKit
set_option linter.unusedSimpArgs false
set_option linter.unusedVariables false
attribute [local go_sem] Oper.semAt_some

structure PgV (w W : World) (base Q : Nat) (vb : Value) (dp an : Int) (L : List Bv) (P : List PB) : Prop where
  g : W.heap[Q]? = some (.cells #[vb, .int .i64 dp, .int .i64 an] 81)
  b : BsV W base vb L P
  bQ : base ≤ Q
  lo : Below base w W
section
variable {w W W' : World} {base Q : Nat} {vb : Value} {dp an : Int} {L : List Bv} {P : List PB}
theorem PgV.sz (h : PgV w W base Q vb dp an L P) : base ≤ W.heap.size := Nat.le_of_lt (Nat.lt_of_le_of_lt h.bQ (lt_16 h.g))
theorem PgV.below (h : PgV w W base Q vb dp an L P) (hb : Below W.heap.size W W') : PgV w W' base Q vb dp an L P := ⟨(hb.block _ (lt_16 h.g)).trans h.g, h.b.below hb, h.bQ, h.lo.trans (hb.mono h.sz)⟩
theorem PgV.lnk {g cap k i : Nat} {x : Bv} {p : PB} {e : Bool × Int} (h : PgV w W base Q vb dp an L P) (hx : L[k]? = some x) (hp : P[k]? = some p) (hv : x.ve = .slice (some ⟨g, 0, none⟩) p.es.length cap) (he : p.es[i]? = some e) (n : Int) :
    PgV w (W.setCell ⟨g, i * 2 + 1, none⟩ (.int .i64 n)) base Q vb dp an L (P.set k { p with es := p.es.set i (e.1, n) }) := by
  have ho := (h.b.m k x p hx hp).2.2.2
  obtain ⟨cs, hc⟩ := own_typed18 ho g (by rw [hv]; rfl)
  refine ⟨(far_16 (fun q => ?_)).trans h.g, h.b.link hx hp hv he n, h.bQ, h.lo.setCell (p := ⟨g, i * 2 + 1, none⟩) (ho.lt g (by rw [hv]; rfl)).1 _⟩
  have := h.g
  rw [q, hc] at this
  injection this with this
  injection this with _ h3 _
  exact absurd h3 (by decide)
end
def LkQ (w : World) (base Q : Nat) (vb : Value) (L : List Bv) (qs : List Int) (P : List PB) (e : Ending) (W' : World) : Prop :=
  e = .returned (.tuple #[.int .i64 (lkR qs P).1, .int .i64 (lkR qs P).2]) ∧ ((lkR qs P).2 = 0 → PgV w W' base Q vb 0 0 L (P.map (lkB qs))) ∧ Below base w W'
theorem LkQ.no {w W' : World} {base Q : Nat} {vb : Value} {L : List Bv} {qs : List Int} {P : List PB} {p : Int} (h : lkA qs P = some p) (hb : Below base w W') : LkQ w base Q vb L qs P (.returned (.tuple #[.int .i64 p, .int .i64 26])) W' := by
  have e : lkR qs P = (p, 26) := by unfold lkR; rw [h]
  refine ⟨by rw [e], fun q => ?_, hb⟩
  rw [e] at q; cases q
theorem LkQ.ok {w W' : World} {base Q : Nat} {vb : Value} {L : List Bv} {qs : List Int} {P : List PB} (h : lkA qs P = none) (hb : PgV w W' base Q vb 0 0 L (P.map (lkB qs))) : LkQ w base Q vb L qs P (.returned (.tuple #[.int .i64 0, .int .i64 0])) W' := by
  have e : lkR qs P = (0, 0) := by unfold lkR; rw [h]
  exact ⟨by rw [e], fun _ => hb, hb.lo⟩
end Go.Proofs.Ytdpmhpmnkollaaa
namespace Go.Proofs.Ytdpmhpmnkollaaa
open Go.RowKit Go.Shelf
set_option linter.unusedSimpArgs false
set_option linter.unusedVariables false
attribute [local go_sem] Oper.semAt_some

def cBo18 (b : Bool) : Value := .bool b
theorem map_set18 (l : List Bool) (k : Nat) (b : Bool) : (l.map cBo18).toArray.setIfInBounds k (.bool b) = ((l.set k b).map cBo18).toArray := by
  rw [List.setIfInBounds_toArray, List.map_set]; rfl
structure UsM (w : World) (base Q : Nat) (vb : Value) (L : List Bv) (P : List PB) (Z : Nat) (s : List Bool) (W : World) : Prop where
  p : PgV w W base Q vb 0 0 L P
  z : W.heap[Z]? = some (.cells (s.map cBo18).toArray 4)
  bZ : base ≤ Z
section
variable {w W W' : World} {base Q : Nat} {vb : Value} {L : List Bv} {P : List PB} {Z : Nat} {s : List Bool}
theorem UsM.below (h : UsM w base Q vb L P Z s W) (hb : Below W.heap.size W W') : UsM w base Q vb L P Z s W' := ⟨h.p.below hb, (hb.block _ (lt_16 h.z)).trans h.z, h.bZ⟩
theorem PgV.far {z o : Nat} {cs : Array Value} {T : TypeId} {dp an : Int} (h : PgV w W base Q vb dp an L P) (hz : W.heap[z]? = some (.cells cs T)) (h1 : 111 ≠ T) (h2 : 96 ≠ T) (h3 : 135 ≠ T) (h4 : 81 ≠ T) (hb : base ≤ z) (u : Value) : PgV w (W.setCell ⟨z, o, none⟩ u) base Q vb dp an L P :=
  ⟨(far_16 (fun q => by
    have := h.g
    rw [q, hz] at this
    injection this with this
    injection this with _ h5 _
    exact h4 h5.symm)).trans h.g, h.b.far hz h1 h2 h3 u, h.bQ, h.lo.setCell (p := ⟨z, o, none⟩) hb _⟩
theorem UsM.set (h : UsM w base Q vb L P Z s W) (k : Nat) : UsM w base Q vb L P Z (s.set k true) (W.setCell ⟨Z, k, none⟩ (.bool true)) :=
  ⟨h.p.far h.z (by decide) (by decide) (by decide) (by decide) h.bZ _, by rw [set_16 h.z, map_set18], h.bZ⟩
theorem UsM.cell (h : UsM w base Q vb L P Z s W) {k : Nat} {b : Bool} (hk : s[k]? = some b) : W.cell? ⟨Z, k, none⟩ = some (.bool b) ∧ W.frozen? ⟨Z, k, none⟩ = false :=
  ⟨at_16 h.z k _ (by rw [List.getElem?_toArray, List.getElem?_map, hk]; rfl), fr_16 h.z⟩
end
end Go.Proofs.Ytdpmhpmnkollaaa
namespace Go.Proofs.Ytdpmhpmnkollaaa
open Go.RowKit
set_option linter.unusedSimpArgs false
set_option linter.unusedVariables false

end Go.Proofs.Ytdpmhpmnkollaaa
namespace Go.Proofs.Ytdpmhpmnkollaaa
open Go.RowKit
set_option linter.unusedSimpArgs false
set_option linter.unusedVariables false

structure RG (A : World → Prop) (D : Nat → World → Prop) (C E : Nat → Nat → World → Prop) (R : World → Prop) (ld bd ap st : Bool) (g : Nat × (Nat × Nat)) (X : World) : Prop where
  r : R X
  a : ap = false → A X
  d : bd = true → ap = false → D g.1 X
  c : ap = true → st = false → C g.2.1 g.2.2 X
  e : st = true → E g.2.1 g.2.2 X
  p1 : ap = true → bd = true
  p2 : st = true → ap = true
  p3 : ap = true → ld = true
section
variable {A : World → Prop} {D : Nat → World → Prop} {C E : Nat → Nat → World → Prop} {R : World → Prop} {ld bd ap st : Bool} {g : Nat × (Nat × Nat)} {X X' : World}
theorem RG.app (h : RG A D C E R ld bd ap st g X) (hap : ap = false) (hld : ld = true) (hbd : bd = true) {gg cap : Nat} (hr : R X') (hc : C gg cap X') : RG A D C E R ld bd true st (g.1, (gg, cap)) X' :=
  have hs : st = false := by
    cases q : st with
    | false => rfl
    | true => have := h.p2 q; rw [hap] at this; cases this
  ⟨hr, fun q => (by cases q), fun _ q => (by cases q), fun _ _ => hc, fun q => (by rw [hs] at q; cases q), fun _ => hbd, fun _ => rfl, fun _ => hld⟩
end
def NwD (xs : List Value) (z : Nat) (X : World) : Prop := ∀ j u, xs[j]? = some u → X.cell? ((⟨z, 0, none⟩ : Addr).add j) = some u
theorem NwD.below {xs : List Value} {z : Nat} {X X' : World} (h : NwD xs z X) (hb : Below X.heap.size X X') : NwD xs z X' := fun j u hj => by
  have := h j u hj
  rw [addA] at this ⊢
  exact keepc hb this
end Go.Proofs.Ytdpmhpmnkollaaa
namespace Go.Proofs.Ytdpmhpmnkollaaa
open Go.RowKit
set_option linter.unusedSimpArgs false
set_option linter.unusedVariables false

section
variable {A : World → Prop} {D : Nat → World → Prop} {C E : Nat → Nat → World → Prop} {R : World → Prop} {l2 ld bd ap st : Bool} {g : Nat × (Nat × Nat)} {X X' : World}
end
def EtA (w : World) (base G : Nat) (vc : Value) (a l : Int) (vb : Value) (L : List Bv) (P : List PB) (xb : Bool) (xn : Int) (X : World) : Prop := RdR X base G vc a l vb L P ∧ Below base w X ∧ Kt w X ∧ X.cell? ⟨w.heap.size, 0, none⟩ = some (.bool xb) ∧ X.cell? ⟨w.heap.size, 1, none⟩ = some (.int .i64 xn)
theorem EtA.below {w : World} {base G : Nat} {vc : Value} {a l : Int} {vb : Value} {L : List Bv} {P : List PB} {xb : Bool} {xn : Int} {X X' : World} (h : EtA w base G vc a l vb L P xb xn X) (hb : Below X.heap.size X X') : EtA w base G vc a l vb L P xb xn X' :=
  ⟨h.1.below hb, h.2.1.trans (hb.mono (Nat.le_of_lt (Nat.lt_of_le_of_lt h.1.bG (lt_16 h.1.g)))), h.2.2.1.trans (Kt.below hb), keepc hb h.2.2.2.1, keepc hb h.2.2.2.2⟩
end Go.Proofs.Ytdpmhpmnkollaaa
namespace Go.Proofs.Ytdpmhpmnkollaaa
open Go.RowKit
set_option linter.unusedSimpArgs false
set_option linter.unusedVariables false

end Go.Proofs.Ytdpmhpmnkollaaa
namespace Go.Proofs.Ytdpmhpmnkollaaa
open Go.RowKit Go.Shelf
set_option linter.unusedSimpArgs false
set_option linter.unusedVariables false

section
variable {P : Program}
theorem qpw_any {l : List Oper} (m : Nat) (ok : QpOk l m m) {C : World → Prop} {Q : Exit → Act → World → Prop} {a : Act} {w : World} (ds : List (Option Tmp)) (vals : List Value)
    (hC : C w) (hwalk : QW P (l.take m).toArray C (fun a' => a' = putAll a ds vals) (l.take m) a) (hpost : ∀ w, C w → wpList P l.toArray Q (l.drop m) (putAll a ds vals) w) : wpAny P .any l.toArray Q l.toArray.size (Array.replicate l.toArray.size false) a w := by
  have hml := ok.ml
  have hlen : (l.take m).length = m := by rw [List.length_take]; omega
  have any : wpAnyQ P .any (l.take m).toArray C (fun a' => a' = putAll a ds vals) m (Array.replicate m false) a := by
    have hB := ok.lex undef
    rw [rep_out _ _ _ (by omega)] at hB
    simp only [Region.lexB, Bool.and_eq_true] at hB
    have := wpAnyQ_lex (C := C) (md := .any) hB.1 (l.take m) 0 (Array.replicate m false) a (by simp) (by have := hB.2; simpa [hlen, hml] using this) hwalk.out
    rwa [hlen] at this
  have hu : unl (Array.replicate m false) = m := by unfold unl; simp
  have main := done_any (P := P) (N := undef) ok hpost m (Array.replicate m false) a w (by simp) hu (fun q => absurd q (Nat.lt_irrefl _)) hC (by rw [rep_out _ _ _ (by omega)]; exact any)
  have e1 : m + (l.length - m) = l.toArray.size := by simp; omega
  have e2 : Array.replicate m false ++ Array.replicate (l.length - m) false = Array.replicate l.toArray.size false := by
    rw [Array.replicate_append_replicate]; congr 1
  rw [e1, e2] at main
  exact main
theorem qpw_region {id : Nat} {l : List Oper} (m : Nat) (ok : QpOk l m m) {C : World → Prop} {Q : Exit → Act → World → Prop} {a : Act} {w : World} (ds : List (Option Tmp)) (vals : List Value) (hm : P.follows .mixedOrders = true)
    (hC : C w.drew) (hwalk : QW P (l.take m).toArray C (fun a' => a' = putAll a ds vals) (l.take m) a) (hpost : ∀ w, C w → wpList P l.toArray Q (l.drop m) (putAll a ds vals) w) : (Code.region id l.toArray true).wp P Q a w :=
  wp_region_any hm (qpw_any m ok ds vals hC hwalk hpost)
theorem qpw_regionR {n lo : Nat} {id : Nat} {l : List Oper} (m : Nat) (ok : QpOk l m m) {C : World → Prop} {Q : Exit → Act → World → Prop} {a : Act} {w : World} (hno : ¬ LetsOut Q) (ds : List (Option Tmp)) (vals : List Value) (hm : P.follows .mixedOrders = true) (hd : (l.all notD) = true)
    (hC : C w.drew) (hwalk : QW P (l.take m).toArray C (fun a' => a' = putAll a ds vals) (l.take m) a) (hpost : ∀ w, C w → wpList P l.toArray Q (l.drop m) (putAll a ds vals) w) : (Code.region id l.toArray true).wpIn (Fence.wide.inRound lo) n P Q a w :=
  region_round hno hm (by simpa using hd) (qpw_any m ok ds vals hC hwalk hpost)
end
theorem max_16 (a b : Int) (w : World) : (Builtin.max_ #[3, 3] 3 #[.int .i64 a, .int .i64 b]).run Try.prog w = .ok (.int .i64 (max a b)) w := by
  by_cases h : a ≤ b
  · rw [Int.max_eq_right h]
    by_cases h2 : a = b
    · subst h2; go_simp
    · have h3 : a < b := by omega
      go_simp
      try simp [*]
  · rw [Int.max_eq_left (by omega)]
    have h3 : ¬ a < b := by omega
    go_simp
    try simp [*]
theorem min_16 (a b : Int) (w : World) : (Builtin.min_ #[3, 3] 3 #[.int .i64 a, .int .i64 b]).run Try.prog w = .ok (.int .i64 (min a b)) w := by
  by_cases h : a ≤ b
  · rw [Int.min_eq_left h]
    by_cases h2 : a = b
    · subst h2; go_simp
    · have h3 : a < b := by omega
      go_simp
      try simp [*]
      try omega
  · rw [Int.min_eq_right (by omega)]
    have h3 : ¬ a < b := by omega
    have h4 : b < a := by omega
    go_simp
    try simp [*]
end Go.Proofs.Ytdpmhpmnkollaaa
namespace Go.Proofs.Ytdpmhpmnkollaaa
open Go.RowKit Go.Shelf
set_option linter.unusedSimpArgs false
set_option linter.unusedVariables false
attribute [local go_sem] Oper.semAt_some

def rowW8 : List (Int × Int) → List Value
  | [] => []
  | e :: t => .int .i64 e.1 :: .int .i64 e.2 :: rowW8 t
theorem rowW8_get : ∀ (A : List (Int × Int)) (j : Nat) (e : Int × Int), A[j]? = some e → (rowW8 A)[j * 2]? = some (.int .i64 e.1) ∧ (rowW8 A)[j * 2 + 1]? = some (.int .i64 e.2)
  | [], j, e, h => by simp at h
  | x :: A, 0, e, h => by simp at h; subst h; exact ⟨rfl, rfl⟩
  | x :: A, j + 1, e, h => by
    have := rowW8_get A j e (by simpa using h)
    rw [show (j + 1) * 2 = j * 2 + 2 by omega]
    exact this
theorem rowW8_set : ∀ (A : List (Int × Int)) (j : Nat) (x y : Int), j < A.length → ((rowW8 A).set (j * 2) (.int .i64 x)).set (j * 2 + 1) (.int .i64 y) = rowW8 (A.set j (x, y))
  | [], j, x, y, h => by simp at h
  | e :: A, 0, x, y, h => rfl
  | e :: A, j + 1, x, y, h => by
    have := rowW8_set A j x y (by simpa using h)
    rw [show (j + 1) * 2 = j * 2 + 2 by omega]
    show _ :: _ :: ((rowW8 A).set (j * 2) (.int .i64 x)).set (j * 2 + 1) (.int .i64 y) = _
    rw [this]; rfl
def InW (N : Nat) (u v : Int) (A : List (Int × Int)) : Prop := A.length = N ∧ ∀ p ∈ A, 0 ≤ p.1 ∧ p.1 ≤ u ∧ 0 ≤ p.2 ∧ p.2 ≤ v
theorem InW.at {N : Nat} {u v : Int} {A : List (Int × Int)} (h : InW N u v A) (hu : 0 ≤ u) (hv : 0 ≤ v) (k : Nat) : 0 ≤ (A.getD k (0, 0)).1 ∧ (A.getD k (0, 0)).1 ≤ u ∧ 0 ≤ (A.getD k (0, 0)).2 ∧ (A.getD k (0, 0)).2 ≤ v := by
  rw [List.getD_eq_getElem?_getD]
  cases hk : A[k]? with
  | none => simp; omega
  | some p => exact h.2 p (List.mem_of_getElem? hk)
theorem InW.up {N : Nat} {u v B M : Int} {A : List (Int × Int)} (h : InW N u v A) (hB : 0 ≤ B ∧ B ≤ u) (hM : 0 ≤ M ∧ M ≤ v) (e : Bool × Int) : InW N u v (upX B M A e) := by
  unfold upX
  split
  · refine ⟨by simp [h.1], fun p hp => ?_⟩
    rcases List.mem_or_eq_of_mem_set hp with q | rfl
    · exact h.2 p q
    · have := h.at (by omega) (by omega) e.2.toNat
      dsimp only
      omega
  · exact h
theorem InW.ups {N : Nat} {u v B M : Int} (hB : 0 ≤ B ∧ B ≤ u) (hM : 0 ≤ M ∧ M ≤ v) : ∀ (es : List (Bool × Int)) {A : List (Int × Int)}, InW N u v A → InW N u v (es.foldl (upX B M) A)
  | [], _, h => h
  | e :: es, _, h => InW.ups hB hM es (h.up hB hM e)
theorem InW.more {N : Nat} {u u' v : Int} {A : List (Int × Int)} (h : InW N u v A) (hu : u ≤ u') : InW N u' v A := ⟨h.1, fun p hp => by have := h.2 p hp; omega⟩
structure MsM (w : World) (base Q : Nat) (vb : Value) (dp : Int) (L : List Bv) (P : List PB) (Z : Nat) (A : List (Int × Int)) (W : World) : Prop where
  p : PgV w W base Q vb dp 0 L P
  z : W.heap[Z]? = some (.cells (rowW8 A).toArray 167)
  bZ : base ≤ Z
section
variable {w W W' : World} {base Q : Nat} {vb : Value} {dp : Int} {L : List Bv} {P : List PB} {Z : Nat} {A : List (Int × Int)}
theorem PgV.c1 {an : Int} (h : PgV w W base Q vb dp an L P) : W.cell? ⟨Q, 1, none⟩ = some (.int .i64 dp) ∧ W.frozen? ⟨Q, 1, none⟩ = false := ⟨at_16 h.g 1 _ rfl, fr_16 h.g⟩
theorem MsM.below (h : MsM w base Q vb dp L P Z A W) (hb : Below W.heap.size W W') : MsM w base Q vb dp L P Z A W' := ⟨h.p.below hb, (hb.block _ (lt_16 h.z)).trans h.z, h.bZ⟩
theorem MsM.set (h : MsM w base Q vb dp L P Z A W) (k : Nat) (hk : k < A.length) (x y : Int) : MsM w base Q vb dp L P Z (A.set k (x, y)) ((W.setCell ⟨Z, k * 2, none⟩ (.int .i64 x)).setCell ⟨Z, k * 2 + 1, none⟩ (.int .i64 y)) := by
  have h1 := h.p.far (o := k * 2) h.z (by decide) (by decide) (by decide) (by decide) h.bZ (.int .i64 x)
  have z1 := set_16 (o := k * 2) h.z (.int .i64 x)
  refine ⟨h1.far z1 (by decide) (by decide) (by decide) (by decide) h.bZ _, ?_, h.bZ⟩
  rw [set_16 z1, List.setIfInBounds_toArray, List.setIfInBounds_toArray, rowW8_set A k x y hk]
theorem MsM.cell (h : MsM w base Q vb dp L P Z A W) {k : Nat} (hk : k < A.length) : W.cell? ⟨Z, k * 2, none⟩ = some (.int .i64 (A.getD k (0, 0)).1) ∧ W.cell? ⟨Z, k * 2 + 1, none⟩ = some (.int .i64 (A.getD k (0, 0)).2) := by
  rw [List.getD_eq_getElem?_getD, List.getElem?_eq_getElem hk]
  obtain ⟨a, b⟩ := rowW8_get A k _ (List.getElem?_eq_getElem hk)
  exact ⟨at_16 h.z _ _ (by rw [List.getElem?_toArray, a]; rfl), at_16 h.z _ _ (by rw [List.getElem?_toArray, b]; rfl)⟩
end
structure MsI (w : World) (base Q : Nat) (vb : Value) (dp : Int) (L : List Bv) (P : List PB) (Z : Nat) (A : List (Int × Int)) (H : Nat) (hB hM : Int) (W : World) : Prop where
  m : MsM w base Q vb dp L P Z A W
  h : W.heap[H]? = some (.cells #[.int .i64 hB, .int .i64 hM] 167)
  n : H ≠ Z
section
variable {w W W' : World} {base Q : Nat} {vb : Value} {dp : Int} {L : List Bv} {P : List PB} {Z : Nat} {A : List (Int × Int)} {H : Nat} {hB hM : Int}
theorem MsI.below (h : MsI w base Q vb dp L P Z A H hB hM W) (hb : Below W.heap.size W W') : MsI w base Q vb dp L P Z A H hB hM W' := ⟨h.m.below hb, (hb.block _ (lt_16 h.h)).trans h.h, h.n⟩
theorem MsI.set (h : MsI w base Q vb dp L P Z A H hB hM W) (k : Nat) (hk : k < A.length) (x y : Int) : MsI w base Q vb dp L P Z (A.set k (x, y)) H hB hM ((W.setCell ⟨Z, k * 2, none⟩ (.int .i64 x)).setCell ⟨Z, k * 2 + 1, none⟩ (.int .i64 y)) :=
  ⟨h.m.set k hk x y, (far_16 h.n).trans ((far_16 h.n).trans h.h), h.n⟩
end
structure RA8 (V : World) (x y : Int) (al st : Bool) (g : Nat) (X : World) : Prop where
  lo : Below V.heap.size V X
  a : al = true → V.heap.size ≤ g ∧ X.heap[g]? = some (.cells (if st = true then #[.int .i64 x, .int .i64 y] else #[.int .i64 0, .int .i64 0]) 167)
  q : st = true → al = true
theorem RA8.st {V : World} {x y : Int} {al : Bool} {g : Nat} {X : World} (k : RA8 V x y al false g X) (h5 : al = true) : RA8 V x y al true g ((X.setCell ⟨g, 0, none⟩ (.int .i64 x)).setCell ⟨g, 1, none⟩ (.int .i64 y)) := by
  obtain ⟨h1, h2⟩ := k.a h5
  refine ⟨(k.lo.setCell (p := ⟨g, 0, none⟩) h1 _).setCell (p := ⟨g, 1, none⟩) h1 _, fun _ => ⟨h1, ?_⟩, fun _ => h5⟩
  rw [set_16 (set_16 h2 _)]
  rfl
end Go.Proofs.Ytdpmhpmnkollaaa
namespace Go.Proofs.Ytdpmhpmnkollaaa
open Go.RowKit
set_option linter.unusedSimpArgs false
set_option linter.unusedVariables false

end Go.Proofs.Ytdpmhpmnkollaaa
namespace Go.Proofs.Ytdpmhpmnkollaaa
open Go.RowKit
set_option linter.unusedSimpArgs false
set_option linter.unusedVariables false

def rlV : Option Nat → Value
  | none => .nilFunc
  | some f => .func (.func f) #[] #[]
def TkQ (E Z op a l : Int) (P : List PB) (rs : List (Option Nat)) (T : Nat → Int → Int → List PB → Prop) (Q : Int → Int → List PB → Prop) (e : Ending) : Prop :=
  (E ≠ 0 ∧ e = .returned (.int .i64 E) ∧ Q a l P) ∨ (E = 0 ∧ ∃ o : Nat, op = (o : Int) ∧ ((rs[o]? = some none ∧ e = .returned (.int .i64 24) ∧ Q a l P) ∨ ∃ f er l' P', rs[o]? = some (some f) ∧ T f er l' P' ∧ e = .returned (.int .i64 er) ∧ Q (if er = 0 then a + Z else a) l' P'))
theorem TkQ.no {E Z op a l : Int} {P : List PB} {rs : List (Option Nat)} {T : Nat → Int → Int → List PB → Prop} {Q : Int → Int → List PB → Prop} (h : E ≠ 0) (hq : Q a l P) : TkQ E Z op a l P rs T Q (.returned (.int .i64 E)) := .inl ⟨h, rfl, hq⟩
theorem TkQ.nil {Z a l : Int} {o : Nat} {P : List PB} {rs : List (Option Nat)} {T : Nat → Int → Int → List PB → Prop} {Q : Int → Int → List PB → Prop} (h : rs[o]? = some none) (hq : Q a l P) : TkQ 0 Z (o : Int) a l P rs T Q (.returned (.int .i64 24)) := .inr ⟨rfl, o, rfl, .inl ⟨h, rfl, hq⟩⟩
theorem TkQ.fn {Z a l l' er : Int} {o f : Nat} {P P' : List PB} {rs : List (Option Nat)} {T : Nat → Int → Int → List PB → Prop} {Q : Int → Int → List PB → Prop} (h : rs[o]? = some (some f)) (ht : T f er l' P') (hq : Q (if er = 0 then a + Z else a) l' P') : TkQ 0 Z (o : Int) a l P rs T Q (.returned (.int .i64 er)) := .inr ⟨rfl, o, rfl, .inr ⟨f, er, l', P', h, ht, rfl, hq⟩⟩
end Go.Proofs.Ytdpmhpmnkollaaa
namespace Go.Proofs.Ytdpmhpmnkollaaa
open Go.RowKit
set_option linter.unusedSimpArgs false
set_option linter.unusedVariables false
attribute [local go_sem] Oper.semAt_some

end Go.Proofs.Ytdpmhpmnkollaaa
namespace Go.Proofs.Ytdpmhpmnkollaaa
open Go.RowKit
set_option linter.unusedSimpArgs false
set_option linter.unusedVariables false
theorem storeF_run18 {P : Program} {w : World} {a : Addr} {m : Mode} (f : Fn) (x l : Array Value) : (store a (.func f x l) m).run P w = stored P w a (.func f x l) m := run_store P w a _ m rfl
theorem storeN_run18 {P : Program} {w : World} {a : Addr} {m : Mode} : (store a .nilFunc m).run P w = stored P w a .nilFunc m := run_store P w a _ m rfl
attribute [local go_sem] storeF_run18 storeN_run18
def msA : Array Value := #[rlV none, rlV (some 103), rlV none, rlV none, rlV none, rlV none, rlV none, rlV (some 104), rlV none, rlV none, rlV none, rlV none, rlV none, rlV (some 105), rlV (some 106)]
end Go.Proofs.Ytdpmhpmnkollaaa
namespace Go.Proofs.Ytdpmhpmnkollaaa
open Go.RowKit
set_option linter.unusedSimpArgs false
set_option linter.unusedVariables false
attribute [local go_sem] Oper.semAt_some storeF_run18 storeN_run18

def ThB (w : World) (base M : Nat) (W : World) : Prop := W.heap[M]? = some (.cells msA 159) ∧ Below base w W ∧ Kt w W
def ThQ (base G : Nat) (vc : Value) (w : World) (R : Out18) (e : Ending) (w' : World) : Prop := e = .returned (.int .i64 R.2.2) ∧ (∃ a l P, RdQ w' base G vc a l P ∧ (R.2.2 = 0 → P = R.1) ∧ (R.2.2 ≠ 0 → a = R.2.1)) ∧ Below base w w' ∧ Kt w w'
theorem ThQ.ok {base G : Nat} {vc : Value} {w w' : World} {R : Out18} {a l : Int} {P : List PB} {x : Int} (hR : R = (P, x, 0)) (h : RdQ w' base G vc a l P) (hb : Below base w w' ∧ Kt w w') : ThQ base G vc w R (.returned (.int .i64 0)) w' := by
  subst hR
  exact ⟨rfl, ⟨a, l, P, h, fun _ => rfl, fun q => absurd rfl q⟩, hb⟩
section
variable (w w0 : World) (base G : Nat) (co : Option Addr) (cc : Nat) (lb : List Nat)
end
end Go.Proofs.Ytdpmhpmnkollaaa
namespace Go.Proofs.Ytdpmhpmnkollaaa
open Go.RowKit
set_option linter.unusedSimpArgs false
set_option linter.unusedVariables false
attribute [local go_sem] Oper.semAt_some storeF_run18 storeN_run18

theorem ThB.more {w : World} {base M : Nat} {W W' : World} (h : ThB w base M W) (hb : Below base W W') (hk : Kt W W') : ThB w base M W' :=
  ⟨hk.2 _ _ _ _ h.1 (by unfold vTy; decide), h.2.1.trans hb, h.2.2.trans hk⟩
end Go.Proofs.Ytdpmhpmnkollaaa
