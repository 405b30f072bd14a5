/-
  Part 12 of the proof: 4 texts, one behind the other.
-/
import Derived.Test.YtdpfdlkaickkiaaPart10
import Derived.Test.YtdpfdlkaickkiaaPart8
import Derived.Test.YtdpfdlkaickkiaaPart11
namespace Go.Proofs.Ytdpfdlkaickkiaa
open Go.RowKit Go.Shelf
set_option linter.unusedSimpArgs false
set_option linter.unusedVariables false
attribute [local go_sem] Oper.semAt_some

structure NdO (W : World) (base : Nat) (v : Value) (V : List Value) (L : List Nde) : Prop where
  o : W.ownsRow base 57 2 v L.length (rowD L V)
  l : V.length = L.length
  r : ∀ (j : Nat) (d : Nde) (u : Value), L[j]? = some d → V[j]? = some u → W.ownsRow base 54 4 u d.r.length (rowN d.r)
  d : ∀ (j k : Nat) (x y : Value) (z : Nat), V[j]? = some x → V[k]? = some y → x.ownBlock = some z → y.ownBlock = some z → j = k
theorem NdO.below {W W' : World} {base : Nat} {v : Value} {V : List Value} {L : List Nde} (h : NdO W base v V L) (hb : Below W.heap.size W W') : NdO W' base v V L := ⟨own_b13 hb h.o, h.l, fun j d u h1 h2 => own_b13 hb (h.r j d u h1 h2), h.d⟩
theorem NdO.rwd {W : World} {base : Nat} {v : Value} {V : List Value} {L : List Nde} (h : NdO W base v V L) : RwD W v L := rwd_of h.o h.l (fun j d vr h1 h2 => own_rwn16 (h.r j d vr h1 h2))
theorem NdO.nil {W : World} {base : Nat} {v : Value} (h : W.ownsRow base 57 2 v 0 []) : NdO W base v [] [] := ⟨h, rfl, fun j d u h1 h2 => (by simp at h1), fun j k x y z h1 h2 => (by simp at h1)⟩
theorem NdO.push {W W1 W2 W3 W4 : World} {base : Nat} {v v' u : Value} {V : List Value} {L : List Nde} {d : Nde} (h : NdO W base v V L) (hbs : base ≤ W.heap.size) (h1 : Below W.heap.size W W1) (hr : W2.ownsRow W1.heap.size 54 4 u d.r.length (rowN d.r)) (h2 : Below W1.heap.size W1 W2) (h3 : Below W2.heap.size W2 W3) (hg : W3.grownBy W4 v.ownBlock)
    (ho : W4.ownsRow base 57 2 v' (L.length + 1) (rowD L V ++ [.int .i64 d.b, u])) : NdO W4 base v' (V ++ [u]) (L ++ [d]) := by
  have hb3 : Below W.heap.size W W3 := keepb h3 (keepb h2 h1)
  have s1 := h1.size
  have keep : ∀ {b0 n : Nat} {x : Value} {xs : List Value}, W3.ownsRow b0 54 4 x n xs → W4.ownsRow b0 54 4 x n xs := fun hx => own_keep18 hx (fun g hg2 => by
    obtain ⟨cs, hcs⟩ := own_typed18 hx g hg2
    refine hg.block g (lt_16 hcs) (fun q => ?_)
    exact own_not18 (own_b13 hb3 h.o) hcs (by decide) q.symm)
  refine ⟨?_, by rw [List.length_append, List.length_append, h.l]; rfl, fun j e x q1 q2 => ?_, fun j k x y z q1 q2 q3 q4 => ?_⟩
  · rw [rowD_app L V d u h.l.symm, List.length_append, List.length_singleton]
    exact ho
  · by_cases hj : j < L.length
    · rw [List.getElem?_append_left hj] at q1
      rw [List.getElem?_append_left (by rw [h.l]; exact hj)] at q2
      exact keep (own_b13 hb3 (h.r j e x q1 q2))
    · have hj1 := (List.getElem?_eq_some_iff.mp q1).1
      rw [List.length_append, List.length_singleton] at hj1
      have hj2 : j = L.length := by omega
      subst hj2
      rw [List.getElem?_append_right (Nat.le_refl _), Nat.sub_self] at q1
      rw [List.getElem?_append_right (by rw [h.l]; exact Nat.le_refl _), h.l, Nat.sub_self] at q2
      simp at q1 q2
      subst q1 q2
      exact own_base16 (keep (own_b13 h3 hr)) (by omega)
  · have old : ∀ (i : Nat) (x : Value), V[i]? = some x → x.ownBlock = some z → z < W.heap.size := fun i x hi hz => by
      have hil : i < L.length := by rw [← h.l]; exact (List.getElem?_eq_some_iff.mp hi).1
      exact ((h.r i L[i] x (List.getElem?_eq_getElem hil) hi).lt z hz).2
    have new : u.ownBlock = some z → W.heap.size ≤ z := fun hz => by have := (hr.lt z hz).1; omega
    have lst : ∀ (i : Nat) (x : Value), (V ++ [u])[i]? = some x → (i < V.length ∧ V[i]? = some x) ∨ (i = V.length ∧ u = x) := fun i x hi => by
      by_cases hl : i < V.length
      · rw [List.getElem?_append_left hl] at hi
        exact .inl ⟨hl, hi⟩
      · have hi1 := (List.getElem?_eq_some_iff.mp hi).1
        rw [List.length_append, List.length_singleton] at hi1
        have hi2 : i = V.length := by omega
        subst hi2
        rw [List.getElem?_append_right (Nat.le_refl _), Nat.sub_self] at hi
        simp at hi
        exact .inr ⟨rfl, hi⟩
    rcases lst j x q1 with ⟨a1, a2⟩ | ⟨a1, a2⟩ <;> rcases lst k y q2 with ⟨b1, b2⟩ | ⟨b1, b2⟩
    · exact h.d j k x y z a2 b2 q3 q4
    · subst b2
      have := old j x a2 q3
      have := new q4
      omega
    · subst a2
      have := old k y b2 q4
      have := new q3
      omega
    · omega
theorem newsD18 (w : World) (x y : Value) (T : TypeId) (B : Nat) (hB : B = w.heap.size) : ∀ j u, [x, y][j]? = some u → (w.alloc (.cells #[x, y] T)).cell? ((⟨B, 0, none⟩ : Addr).add j) = some u := by
  subst hB
  intro j u h
  match j, h with
  | 0, h => simp at h; subst h; simp [go_sem, Addr.add]
  | 1, h => simp at h; subst h; simp [go_sem, Addr.add]
  | j + 2, h => simp at h
end Go.Proofs.Ytdpfdlkaickkiaa
namespace Go.Proofs.Ytdpfdlkaickkiaa
open Go.RowKit Go.Shelf
set_option linter.unusedSimpArgs false
set_option linter.unusedVariables false
attribute [local go_sem] Oper.semAt_some

structure TnV (X0 : World) (bt : Int) (vr : Value) (RS : List Rn) (W : World) : Prop where
  b : Below X0.heap.size X0 W
  n : W.heap[X0.heap.size]? = some (.cells #[.int .i64 bt, vr] 57)
  o : W.ownsRow (X0.heap.size + 1) 54 4 vr RS.length (rowN RS)
theorem TnV.below {X0 W W' : World} {bt : Int} {vr : Value} {RS : List Rn} (h : TnV X0 bt vr RS W) (hb : Below W.heap.size W W') : TnV X0 bt vr RS W' := ⟨keepb hb h.b, (hb.block _ (lt_16 h.n)).trans h.n, own_b13 hb h.o⟩
theorem TnV.far {X0 W : World} {bt : Int} {vr : Value} {RS : List Rn} (h : TnV X0 bt vr RS W) {z o : Nat} (hz : X0.heap.size < z) (hn : vr.ownBlock ≠ some z) (u : Value) : TnV X0 bt vr RS (W.setCell ⟨z, o, none⟩ u) :=
  ⟨h.b.setCell (p := ⟨z, o, none⟩) (by show _ ≤ z; omega) _, (far_16 (by omega)).trans h.n, own_keep18 h.o (fun g hg => far_16 (by rintro rfl; exact hn hg))⟩
theorem TnV.push {X0 W W1 W2 : World} {bt : Int} {vr : Value} {RS : List Rn} {r : Rn} {g cap m : Nat} (h : TnV X0 bt vr RS W) (hm : RS.length = m) (h1 : Below W.heap.size W W1) (ho : W2.ownsRow (X0.heap.size + 1) 54 4 (.slice (some ⟨g, 0, none⟩) (m + 1) cap) (m + 1) (rowN (RS ++ [r]))) (hg : W1.grownBy W2 vr.ownBlock) :
    TnV X0 bt (.slice (some ⟨g, 0, none⟩) (m + 1) cap) (RS ++ [r]) (W2.setCell ⟨X0.heap.size, 1, none⟩ (.slice (some ⟨g, 0, none⟩) (m + 1) cap)) ∧ W2.cell? ⟨X0.heap.size, 1, none⟩ = some vr ∧ W2.frozen? ⟨X0.heap.size, 1, none⟩ = false := by
  have hne : vr.ownBlock ≠ some X0.heap.size := fun q => by have := (h.o.lt _ q).1; omega
  have hn1 := (h1.block _ (lt_16 h.n)).trans h.n
  have hn2 : W2.heap[X0.heap.size]? = some (.cells #[.int .i64 bt, vr] 57) := (hg.block _ (lt_16 hn1) (fun q => hne q.symm)).trans hn1
  refine ⟨⟨?_, by rw [set_16 hn2]; rfl, ?_⟩, at_16 hn2 1 _ rfl, fr_16 hn2⟩
  · have hb := keepb h1 h.b
    exact (hb.grown hg hb.size (fun z q => by have := (h.o.lt z q).1; omega)).setCell (p := ⟨X0.heap.size, 1, none⟩) (Nat.le_refl _) _
  · rw [List.length_append, List.length_singleton, hm]
    exact own_keep18 ho (fun z hz => far_16 (by rintro rfl; have := (ho.lt _ hz).1; omega))
theorem NdO.base {W : World} {b b' : Nat} {v : Value} {V : List Value} {L : List Nde} (h : NdO W b v V L) (hb : b' ≤ b) : NdO W b' v V L := ⟨own_base16 h.o hb, h.l, fun j d u h1 h2 => own_base16 (h.r j d u h1 h2) hb, h.d⟩
end Go.Proofs.Ytdpfdlkaickkiaa
namespace Go.Proofs.Ytdpfdlkaickkiaa
open Go.RowKit Go.Shelf
set_option linter.unusedSimpArgs false
set_option linter.unusedVariables false

def oE (x d : Nde) : Bool := (x.b == d.b) && (x.r.length == d.r.length) && (smI x.r == smI d.r)
theorem oE_iff (x d : Nde) : oE x d = true ↔ oV x = oV d := by
  unfold oE oV
  simp [and_assoc]
  intro _ _
  omega
def bkG (d : Nde) : List Nde → Nat → List Int
  | [], _ => []
  | x :: t, i => if oE x d then (i : Int) :: bkG d t (i + 1) else bkG d t (i + 1)
theorem bkG_app (d x : Nde) : ∀ (l : List Nde) (i : Nat), bkG d (l ++ [x]) i = bkG d l i ++ if oE x d then [((i + l.length : Nat) : Int)] else []
  | [], i => by
    show (if oE x d then (i : Int) :: [] else []) = _
    rw [List.length_nil, Nat.add_zero]
    cases oE x d <;> rfl
  | y :: l, i => by
    have ih := bkG_app d x l (i + 1)
    show (if oE y d then (i : Int) :: bkG d (l ++ [x]) (i + 1) else bkG d (l ++ [x]) (i + 1)) = (if oE y d then (i : Int) :: bkG d l (i + 1) else bkG d l (i + 1)) ++ _
    rw [ih, List.length_cons, show i + 1 + l.length = i + (l.length + 1) by omega]
    cases oE y d <;> rfl
theorem bkG_eq {d e : Nde} (h : oV d = oV e) : ∀ (l : List Nde) (i : Nat), bkG d l i = bkG e l i
  | [], i => rfl
  | x :: l, i => by
    have hx : oE x d = oE x e := by rw [Bool.eq_iff_iff, oE_iff, oE_iff, h]
    show (if oE x d then (i : Int) :: bkG d l (i + 1) else bkG d l (i + 1)) = if oE x e then (i : Int) :: bkG e l (i + 1) else bkG e l (i + 1)
    rw [hx, bkG_eq h l (i + 1)]
theorem bkG_nil {d : Nde} : ∀ (l : List Nde) (i : Nat), (∀ x ∈ l, oV x ≠ oV d) → bkG d l i = []
  | [], i, _ => rfl
  | x :: l, i, h => by
    have hx : oE x d = false := by
      cases e : oE x d with
      | false => rfl
      | true => exact absurd ((oE_iff x d).mp e) (h x (by simp))
    show (if oE x d then (i : Int) :: bkG d l (i + 1) else bkG d l (i + 1)) = []
    rw [hx]
    exact bkG_nil l (i + 1) (fun y hy => h y (by simp [hy]))
theorem bkG_len (d : Nde) : ∀ (l : List Nde) (i : Nat), (bkG d l i).length ≤ l.length
  | [], i => Nat.le_refl _
  | x :: l, i => by
    have ih := bkG_len d l (i + 1)
    show (if oE x d then (i : Int) :: bkG d l (i + 1) else bkG d l (i + 1)).length ≤ _
    cases oE x d <;> simp <;> omega
theorem bkG_in (d : Nde) : ∀ (l : List Nde) (i : Nat) (x : Int), x ∈ bkG d l i → (i : Int) ≤ x ∧ x < ((i + l.length : Nat) : Int)
  | [], i, x, h => by cases h
  | y :: l, i, x, h => by
    have ih := bkG_in d l (i + 1) x
    change x ∈ (if oE y d then (i : Int) :: bkG d l (i + 1) else bkG d l (i + 1)) at h
    have hl : (y :: l).length = l.length + 1 := rfl
    cases e : oE y d with
    | false =>
      rw [e] at h
      have := ih h
      rw [hl]; omega
    | true =>
      rw [e] at h
      rcases List.mem_cons.mp h with rfl | h
      · rw [hl]; omega
      · have := ih h
        rw [hl]; omega
structure LkV (base M Gf : Nat) (NL : List Nde) (es : Array MapEntry) (clock : Nat) (W : World) : Prop where
  m : W.heap[M]? = some (.map es clock)
  st : Go.MapKept.Stamped es clock
  ok : KysOk es
  ky : ∀ e ∈ es.toList, ∃ d ∈ NL, e.key = oV d ∧ W.ownsRow base 3 1 e.val (bkG d NL 0).length ((bkG d NL 0).map cI)
  al : ∀ d ∈ NL, ∃ e ∈ es.toList, e.key = oV d
  ap : ∀ (i j : Nat) (e f : MapEntry) (z : Nat), es.toList[i]? = some e → es.toList[j]? = some f → e.val.ownBlock = some z → f.val.ownBlock = some z → i = j
  g : ∀ e ∈ es.toList, e.val.ownBlock ≠ some Gf
section
variable {base M Gf : Nat} {NL : List Nde} {es : Array MapEntry} {clock : Nat} {W W' : World}
theorem LkV.keep (h : LkV base M Gf NL es clock W) (hm : W'.heap[M]? = W.heap[M]?) (hz : ∀ z cs, W.heap[z]? = some (.cells cs 3) → z ≠ Gf → W'.heap[z]? = W.heap[z]?) : LkV base M Gf NL es clock W' :=
  ⟨hm.trans h.m, h.st, h.ok, fun e he => by
    obtain ⟨d, h1, h2, h3⟩ := h.ky e he
    exact ⟨d, h1, h2, own_keep18 h3 (fun z hz' => by
      obtain ⟨cs, hcs⟩ := own_typed18 h3 z hz'
      exact hz z cs hcs (fun q => h.g e he (by rw [← q]; exact hz')))⟩, h.al, h.ap, h.g⟩
theorem LkV.below (h : LkV base M Gf NL es clock W) (hb : Below W.heap.size W W') : LkV base M Gf NL es clock W' :=
  h.keep (hb.block _ (Array.getElem?_eq_some_iff.1 h.m).1) (fun z cs hc _ => hb.block _ (lt_16 hc))
theorem LkV.lt (h : LkV base M Gf NL es clock W) : M < W.heap.size := (Array.getElem?_eq_some_iff.1 h.m).1
theorem LkV.look (h : LkV base M Gf NL es clock W) (d : Nde) {l : Lit} (hkey : keyOf Try.prog 120 (oV d) = some l) :
    ∃ v, (Instr.lookup 62 (.map (some M)) (oV d) false).run Try.prog W = .ok v W ∧ W.ownsRow base 3 1 v (bkG d NL 0).length ((bkG d NL 0).map cI) := by
  rcases look12 h.m h.ok hkey with ⟨h1, h2⟩ | ⟨j, e, h1, h2, h3⟩
  · refine ⟨_, h1, ?_⟩
    rw [bkG_nil NL 0 (fun x hx q => by
      obtain ⟨e, he, hk⟩ := h.al x hx
      exact h2 e he (hk.trans q))]
    exact World.ownsRow_nil _ _ _ _
  · obtain ⟨d', h4, h5, h6⟩ := h.ky e (List.mem_of_getElem? h2)
    rw [bkG_eq (h5.symm.trans h3)] at h6
    exact ⟨_, h1, h6⟩
structure EnV (base M Gf : Nat) (NL : List Nde) (n : Nde) (es : Array MapEntry) (clock : Nat) (v : Value) (st : Int) (es1 : Array MapEntry) (clock1 : Nat) : Prop where
  run : ∀ (W : World), LkV base M Gf NL es clock W → (Instr.mapEntry 62 (.map (some M)) (oV n)).run Try.prog W = .ok (.tuple #[v, .int .i64 st]) (W.putObj M (.map es1 clock1)) ∧ W.ownsRow base 3 1 v (bkG n NL 0).length ((bkG n NL 0).map cI)
  nG : v.ownBlock ≠ some Gf
  sto : ∀ (W0 W : World) (v' : Value), LkV base M Gf NL es clock W0 → W.heap[M]? = some (.map es1 clock1) → (∀ z cs, W0.heap[z]? = some (.cells cs 3) → v.ownBlock ≠ some z → z ≠ Gf → W.heap[z]? = W0.heap[z]?) → W.ownsRow base 3 1 v' ((bkG n NL 0).length + 1) ((bkG n NL 0).map cI ++ [cI (NL.length : Int)]) → (v'.ownBlock = v.ownBlock ∨ ∃ z, v'.ownBlock = some z ∧ W0.heap[z]? = none) → v'.ownBlock ≠ some Gf →
    ∃ es2, (Instr.entryStore 62 (.map (some M)) (.int .i64 st) v').run Try.prog W = .ok () (W.putObj M (.map es2 clock1)) ∧ LkV base M Gf (NL ++ [n]) es2 clock1 (W.putObj M (.map es2 clock1))
end
theorem own_put12 {W : World} {base e size n M : Nat} {v : Value} {xs : List Value} {es es2 : Array MapEntry} {clock clock2 : Nat} (h : W.ownsRow base e size v n xs) (hm : W.heap[M]? = some (.map es clock)) : (W.putObj M (.map es2 clock2)).ownsRow base e size v n xs :=
  own_keep18 h (fun z hz => by
    obtain ⟨cs, hcs⟩ := own_typed18 h z hz
    exact World.putObj_heap_other (by rintro rfl; rw [hm] at hcs; cases hcs))
theorem sto_all12 {base M Gf : Nat} {NL : List Nde} {n : Nde} {es1 : Array MapEntry} {clock1 : Nat} {W0 W : World} {j : Nat} {e1 : MapEntry} {v' : Value} (hj : es1.toList[j]? = some e1) (hkj : e1.key = oV n) (st1 : Go.MapKept.Stamped es1 clock1) (ok1 : KysOk es1)
    (ky1 : ∀ (i : Nat) (e : MapEntry), es1.toList[i]? = some e → i ≠ j → ∃ d ∈ NL, e.key = oV d ∧ W0.ownsRow base 3 1 e.val (bkG d NL 0).length ((bkG d NL 0).map cI)) (al1 : ∀ d ∈ NL, ∃ e ∈ es1.toList, e.key = oV d)
    (ap1 : ∀ (i k : Nat) (e f : MapEntry) (z : Nat), es1.toList[i]? = some e → es1.toList[k]? = some f → e.val.ownBlock = some z → f.val.ownBlock = some z → i = k) (g1 : ∀ e ∈ es1.toList, e.val.ownBlock ≠ some Gf)
    (hm : W.heap[M]? = some (.map es1 clock1)) (hz : ∀ z cs, W0.heap[z]? = some (.cells cs 3) → e1.val.ownBlock ≠ some z → z ≠ Gf → W.heap[z]? = W0.heap[z]?) (ho : W.ownsRow base 3 1 v' ((bkG n NL 0).length + 1) ((bkG n NL 0).map cI ++ [cI (NL.length : Int)])) (hat : v'.ownBlock = e1.val.ownBlock ∨ ∃ z, v'.ownBlock = some z ∧ W0.heap[z]? = none) (hg : v'.ownBlock ≠ some Gf) :
    ∃ es2, (Instr.entryStore 62 (.map (some M)) (.int .i64 (e1.born : Int)) v').run Try.prog W = .ok () (W.putObj M (.map es2 clock1)) ∧ LkV base M Gf (NL ++ [n]) es2 clock1 (W.putObj M (.map es2 clock1)) := by
  have hM : M < W.heap.size := (Array.getElem?_eq_some_iff.1 hm).1
  have hset : (es1.modify j fun x => { x with val := v' }).toList = es1.toList.set j { e1 with val := v' } := by
    rw [Array.toList_modify, Go.ChangeMaps.modify_eq_set _ _ _ _ hj]
  have hjl : j < es1.toList.length := (List.getElem?_eq_some_iff.mp hj).1
  refine ⟨_, sto12 hm st1.2.1 hj v', ?_⟩
  have hat2 : ∀ (i : Nat) (e : MapEntry), (es1.modify j fun x => { x with val := v' }).toList[i]? = some e → (i = j ∧ e = { e1 with val := v' }) ∨ (i ≠ j ∧ es1.toList[i]? = some e) := by
    intro i e h
    rw [hset] at h
    by_cases q : j = i
    · subst q
      rw [List.getElem?_set_self hjl] at h
      exact .inl ⟨rfl, (Option.some.inj h).symm⟩
    · rw [List.getElem?_set_ne q] at h
      exact .inr ⟨fun e => q e.symm, h⟩
  have hkne : ∀ (i : Nat) (e : MapEntry), es1.toList[i]? = some e → i ≠ j → e.key ≠ oV n := by
    intro i e h hij q
    have a1 : (es1.toList.map (·.key))[i]? = some (oV n) := by rw [List.getElem?_map, h]; simp [q]
    have a2 : (es1.toList.map (·.key))[j]? = some (oV n) := by rw [List.getElem?_map, hj]; simp [hkj]
    obtain ⟨b1, c1⟩ := List.getElem?_eq_some_iff.mp a1
    obtain ⟨b2, c2⟩ := List.getElem?_eq_some_iff.mp a2
    rcases Nat.lt_trichotomy i j with r | r | r
    · exact absurd (c1.trans c2.symm) (List.pairwise_iff_getElem.mp st1.2.2 i j b1 b2 r)
    · exact hij r
    · exact absurd (c2.trans c1.symm) (List.pairwise_iff_getElem.mp st1.2.2 j i b2 b1 r)
  have hgt : ∀ e ∈ (es1.modify j fun x => { x with val := v' }).toList, ∃ i, (es1.modify j fun x => { x with val := v' }).toList[i]? = some e := fun e he => List.getElem?_of_mem he
  refine ⟨World.putObj_heap_same hM, Go.MapKept.stamped_modify st1 j _ (fun e _ => rfl) (fun e _ _ => rfl), ?_, ?_, ?_, ?_, ?_⟩
  · intro e he
    obtain ⟨i, hi⟩ := hgt e he
    rcases hat2 i e hi with ⟨-, rfl⟩ | ⟨-, h⟩
    · exact ok1 e1 (List.mem_of_getElem? hj)
    · exact ok1 e (List.mem_of_getElem? h)
  · intro e he
    obtain ⟨i, hi⟩ := hgt e he
    rcases hat2 i e hi with ⟨-, rfl⟩ | ⟨hij, h⟩
    · refine ⟨n, by simp, hkj, ?_⟩
      have hb : bkG n (NL ++ [n]) 0 = bkG n NL 0 ++ [(NL.length : Int)] := by
        rw [bkG_app, (oE_iff n n).mpr rfl, Nat.zero_add]; rfl
      rw [hb, List.length_append, List.map_append]
      exact own_put12 ho hm
    · obtain ⟨d, h1, h2, h3⟩ := ky1 i e h hij
      refine ⟨d, by simp [h1], h2, ?_⟩
      have hoe : oE n d = false := by
        cases q : oE n d with
        | false => rfl
        | true => exact absurd (h2.trans ((oE_iff n d).mp q).symm) (hkne i e h hij)
      have hb : bkG d (NL ++ [n]) 0 = bkG d NL 0 := by
        rw [bkG_app, hoe]; exact List.append_nil _
      rw [hb]
      refine own_put12 (own_keep18 h3 (fun z hz' => ?_)) hm
      obtain ⟨cs, hcs⟩ := own_typed18 h3 z hz'
      exact hz z cs hcs (fun q => hij (ap1 i j e e1 z h hj hz' q)) (fun q => g1 e (List.mem_of_getElem? h) (by rw [← q]; exact hz'))
  · intro d hd
    rcases List.mem_append.mp hd with hd | hd
    · obtain ⟨e, he, hk⟩ := al1 d hd
      obtain ⟨i, hi⟩ := List.getElem?_of_mem he
      by_cases q : j = i
      · subst q
        rw [hj] at hi
        have := Option.some.inj hi
        subst this
        exact ⟨{ e1 with val := v' }, List.mem_of_getElem? (i := j) (by rw [hset, List.getElem?_set_self hjl]), hk⟩
      · exact ⟨e, List.mem_of_getElem? (i := i) (by rw [hset, List.getElem?_set_ne q]; exact hi), hk⟩
    · rw [List.mem_singleton.mp hd]
      exact ⟨{ e1 with val := v' }, List.mem_of_getElem? (i := j) (by rw [hset, List.getElem?_set_self hjl]), hkj⟩
  · have hown : ∀ (i : Nat) (e : MapEntry) (z : Nat), es1.toList[i]? = some e → i ≠ j → e.val.ownBlock = some z → W0.heap[z]? ≠ none := by
      intro i e z h hij hz'
      obtain ⟨d, -, -, h3⟩ := ky1 i e h hij
      obtain ⟨cs, hcs⟩ := own_typed18 h3 z hz'
      rw [hcs]
      exact fun q => by cases q
    intro i k e f z hi hk he hf
    rcases hat2 i e hi with ⟨h1, h1'⟩ | ⟨h1, h1'⟩ <;> rcases hat2 k f hk with ⟨h2, h2'⟩ | ⟨h2, h2'⟩
    · rw [h1, h2]
    · subst h1'
      rcases hat with q | ⟨y, q, hy⟩
      · rw [h1]
        exact ap1 j k e1 f z hj h2' (by rw [← q]; exact he) hf
      · have : y = z := Option.some.inj (q.symm.trans he)
        subst this
        exact absurd hy (hown k f y h2' h2 hf)
    · subst h2'
      rcases hat with q | ⟨y, q, hy⟩
      · rw [h2]
        exact ap1 i j e e1 z h1' hj he (by rw [← q]; exact hf)
      · have : y = z := Option.some.inj (q.symm.trans hf)
        subst this
        exact absurd hy (hown i e y h1' h1 he)
    · exact ap1 i k e f z h1' h2' he hf
  · intro e he
    obtain ⟨i, hi⟩ := hgt e he
    rcases hat2 i e hi with ⟨-, rfl⟩ | ⟨-, h⟩
    · exact hg
    · exact g1 e (List.mem_of_getElem? h)
theorem LkV.ent {base M Gf : Nat} {NL : List Nde} {es : Array MapEntry} {clock : Nat} {W1 : World} (h1 : LkV base M Gf NL es clock W1) (n : Nde) {l : Lit} (hkey : keyOf Try.prog 120 (oV n) = some l) : ∃ v st es1 clock1, EnV base M Gf NL n es clock v st es1 clock1 := by
  by_cases hx : ∃ (j : Nat) (e : MapEntry), es.toList[j]? = some e ∧ e.key = oV n
  · obtain ⟨j, e, hj, hk⟩ := hx
    refine ⟨e.val, (e.born : Int), es, clock, ⟨fun W h => ⟨ent12_old h.m h.ok h.st.2.2 hkey hj hk, ?_⟩, h1.g e (List.mem_of_getElem? hj), fun W0 W v' h hm hz ho hat hg => ?_⟩⟩
    · obtain ⟨d, h4, h5, h6⟩ := h.ky e (List.mem_of_getElem? hj)
      rw [bkG_eq (h5.symm.trans hk)] at h6
      exact h6
    · exact sto_all12 hj hk h.st h.ok (fun i f hi _ => h.ky f (List.mem_of_getElem? hi)) h.al h.ap h.g hm hz ho hat hg
  · have hno : ∀ e ∈ es.toList, e.key ≠ oV n := fun e he q => by
      obtain ⟨j, hj⟩ := List.getElem?_of_mem he
      exact hx ⟨j, e, hj, q⟩
    have hbn : bkG n NL 0 = [] := bkG_nil NL 0 (fun x hx q => by
      obtain ⟨e, he, hk⟩ := h1.al x hx
      exact hno e he (hk.trans q))
    refine ⟨.slice none 0 0, (clock : Int), es.push ⟨oV n, .slice none 0 0, clock⟩, clock + 1, ⟨fun W h => ⟨ent12_new h.m h.ok hkey hno, by rw [hbn]; exact World.ownsRow_nil _ _ _ _⟩, fun q => (by cases q), fun W0 W v' h hm hz ho hat hg => ?_⟩⟩
    have hat2 : ∀ (i : Nat) (e : MapEntry), (es.push ⟨oV n, .slice none 0 0, clock⟩).toList[i]? = some e → (i = es.toList.length ∧ e = ⟨oV n, .slice none 0 0, clock⟩) ∨ es.toList[i]? = some e := by
      intro i e hi
      rw [Array.toList_push] at hi
      rcases Nat.lt_trichotomy i es.toList.length with q | q | q
      · rw [List.getElem?_append_left q] at hi
        exact .inr hi
      · rw [q, List.getElem?_append_right (Nat.le_refl _), Nat.sub_self] at hi
        exact .inl ⟨q, (Option.some.inj hi).symm⟩
      · rw [List.getElem?_append_right (by omega), List.getElem?_eq_none (by simp only [List.length_singleton]; omega)] at hi
        cases hi
    refine sto_all12 (e1 := ⟨oV n, .slice none 0 0, clock⟩) (j := es.toList.length) (by rw [Array.toList_push, List.getElem?_append_right (Nat.le_refl _), Nat.sub_self]; rfl) rfl (Go.MapKept.stamped_push h.st hno) ?_ ?_ ?_ ?_ ?_ hm hz ho hat hg
    · intro e he
      rw [Array.toList_push] at he
      rcases List.mem_append.mp he with q | q
      · exact h.ok e q
      · rw [List.mem_singleton.mp q]; exact ⟨l, hkey⟩
    · intro i e hi hij
      rcases hat2 i e hi with ⟨q, -⟩ | q
      · exact absurd q hij
      · exact h.ky e (List.mem_of_getElem? q)
    · intro d hd
      obtain ⟨e, he, hk⟩ := h.al d hd
      exact ⟨e, by rw [Array.toList_push]; simp [he], hk⟩
    · intro i k e f z hi hk he hf
      rcases hat2 i e hi with ⟨-, q⟩ | q
      · subst q; cases he
      · rcases hat2 k f hk with ⟨-, r⟩ | r
        · subst r; cases hf
        · exact h.ap i k e f z q r he hf
    · intro e he
      rw [Array.toList_push] at he
      rcases List.mem_append.mp he with q | q
      · exact h.g e q
      · rw [List.mem_singleton.mp q]; exact fun q => by cases q
end Go.Proofs.Ytdpfdlkaickkiaa
namespace Go.Proofs.Ytdpfdlkaickkiaa
open Go.RowKit Go.Shelf
set_option linter.unusedSimpArgs false
set_option linter.unusedVariables false

theorem okI12 {α : Type} {a b : α} {w : World} (h : (Result.ok a w : Result α) = Result.ok b w) : a = b := by cases h; rfl
theorem LkV.look2 {base M Gf : Nat} {NL : List Nde} {es : Array MapEntry} {clock : Nat} {W1 : World} (h1 : LkV base M Gf NL es clock W1) (d : Nde) {l : Lit} (hkey : keyOf Try.prog 120 (oV d) = some l) :
    ∃ v, ∀ W, LkV base M Gf NL es clock W → (Instr.lookup 62 (.map (some M)) (oV d) false).run Try.prog W = .ok v W ∧ W.ownsRow base 3 1 v (bkG d NL 0).length ((bkG d NL 0).map cI) := by
  obtain ⟨v, hv, -⟩ := h1.look d hkey
  refine ⟨v, fun W h => ?_⟩
  obtain ⟨u, hu, ho⟩ := h.look d hkey
  have key : v = u := by
    rcases look12 h1.m h1.ok hkey with ⟨a1, a2⟩ | ⟨j, e, a1, a2, a3⟩ <;> rcases look12 h.m h.ok hkey with ⟨b1, b2⟩ | ⟨k, f, b1, b2, b3⟩
    · exact (okI12 (hv.symm.trans a1)).trans (okI12 (hu.symm.trans b1)).symm
    · exact absurd b3 (a2 f (List.mem_of_getElem? b2))
    · exact absurd a3 (b2 e (List.mem_of_getElem? a2))
    · have hjk : j = k := by
        have c1 : (es.toList.map (·.key))[j]? = some (oV d) := by rw [List.getElem?_map, a2]; simp [a3]
        have c2 : (es.toList.map (·.key))[k]? = some (oV d) := by rw [List.getElem?_map, b2]; simp [b3]
        obtain ⟨d1, e1⟩ := List.getElem?_eq_some_iff.mp c1
        obtain ⟨d2, e2⟩ := List.getElem?_eq_some_iff.mp c2
        rcases Nat.lt_trichotomy j k with r | r | r
        · exact absurd (e1.trans e2.symm) (List.pairwise_iff_getElem.mp h.st.2.2 j k d1 d2 r)
        · exact r
        · exact absurd (e2.trans e1.symm) (List.pairwise_iff_getElem.mp h.st.2.2 k j d2 d1 r)
      subst hjk
      rw [a2] at b2
      have := Option.some.inj b2
      subst this
      exact (okI12 (hv.symm.trans a1)).trans (okI12 (hu.symm.trans b1)).symm
  subst key
  exact ⟨hu, ho⟩
def jTy (T : TypeId) : Bool := T == 57 || T == 3
structure KJ (base M J : Nat) (V U : World) : Prop where
  b : Below base V U
  k : ∀ z o, V.heap[z]? = some o → z ≠ M → z ≠ J → (∀ cs T fr, o = .cells cs T fr → jTy T = false) → U.heap[z]? = some o
section
variable {base M J : Nat} {A B C : World}
theorem KJ.refl (A : World) : KJ base M J A A := ⟨Below.refl _ _, fun _ _ h _ _ _ => h⟩
theorem KJ.trans (h : KJ base M J A B) (g : KJ base M J B C) : KJ base M J A C := ⟨h.b.trans g.b, fun z o h1 h2 h3 h4 => g.k z o (h.k z o h1 h2 h3 h4) h2 h3 h4⟩
theorem KJ.below (hb : Below A.heap.size A B) (hbs : base ≤ A.heap.size) : KJ base M J A B := ⟨hb.mono hbs, fun z o h1 _ _ _ => (hb.block _ (Array.getElem?_eq_some_iff.1 h1).1).trans h1⟩
theorem KJ.set {z o : Nat} {cs : Array Value} {T : TypeId} (hz : A.heap[z]? = some (.cells cs T)) (hT : jTy T = true) (hbs : base ≤ z) (u : Value) : KJ base M J A (A.setCell ⟨z, o, none⟩ u) := by
  refine ⟨(Below.refl _ _).setCell (p := ⟨z, o, none⟩) hbs u, fun z' o' h1 h2 _ h3 => ?_⟩
  rw [far_16 (fun q => by subst q; rw [hz] at h1; injection h1 with h1; have := h3 cs T (0, 0) h1.symm; rw [hT] at this; cases this)]
  exact h1
theorem KJ.setJ {o : Nat} (hbs : base ≤ J) (u : Value) : KJ base M J A (A.setCell ⟨J, o, none⟩ u) :=
  ⟨(Below.refl _ _).setCell (p := ⟨J, o, none⟩) hbs u, fun z' o' h1 _ h2 _ => (far_16 h2).trans h1⟩
theorem KJ.grown {bs e size n : Nat} {v : Value} {xs : List Value} (h : A.ownsRow bs e size v n xs) (he : jTy e = true) (hbs : base ≤ bs) (hba : base ≤ A.heap.size) (hg : A.grownBy B v.ownBlock) : KJ base M J A B := by
  refine ⟨(Below.refl base A).grown hg hba (fun z q => Nat.le_trans hbs (h.lt z q).1), fun z o h1 h2 _ h3 => ?_⟩
  rw [hg.block z (Array.getElem?_eq_some_iff.1 h1).1 (fun q => ?_)]
  · exact h1
  · obtain ⟨cs', h5⟩ := own_typed18 h z q.symm
    rw [h5] at h1
    injection h1 with h1
    have := h3 cs' e (0, 0) h1.symm
    rw [he] at this
    cases this
theorem KJ.put {o' : Obj} (hM : base ≤ M) : KJ base M J A (A.putObj M o') :=
  ⟨⟨rfl, rfl, rfl, by simp [World.putObj], fun k hk => World.putObj_heap_other (by omega)⟩, fun z o h1 h2 _ _ => (World.putObj_heap_other h2).trans h1⟩
end
theorem NdO.push12 {X X3 W4 : World} {base : Nat} {v v' u : Value} {V : List Value} {L : List Nde} {d : Nde} (h : NdO X base v V L) (hr : X.ownsRow base 54 4 u d.r.length (rowN d.r)) (hf : ∀ x ∈ V, ∀ z, x.ownBlock = some z → u.ownBlock ≠ some z) (h3 : Below X.heap.size X X3) (hg : X3.grownBy W4 v.ownBlock)
    (ho : W4.ownsRow base 57 2 v' (L.length + 1) (rowD L V ++ [.int .i64 d.b, u])) : NdO W4 base v' (V ++ [u]) (L ++ [d]) := by
  have keep : ∀ {b0 n : Nat} {x : Value} {xs : List Value}, X.ownsRow b0 54 4 x n xs → W4.ownsRow b0 54 4 x n xs := fun hx => own_keep18 (own_b13 h3 hx) (fun g hg2 => by
    obtain ⟨cs, hcs⟩ := own_typed18 (own_b13 h3 hx) g hg2
    refine hg.block g (lt_16 hcs) (fun q => ?_)
    exact own_not18 (own_b13 h3 h.o) hcs (by decide) q.symm)
  refine ⟨?_, by rw [List.length_append, List.length_append, h.l]; rfl, fun j e x q1 q2 => ?_, fun j k x y z q1 q2 q3 q4 => ?_⟩
  · rw [rowD_app L V d u h.l.symm, List.length_append, List.length_singleton]
    exact ho
  · by_cases hj : j < L.length
    · rw [List.getElem?_append_left hj] at q1
      rw [List.getElem?_append_left (by rw [h.l]; exact hj)] at q2
      exact keep (h.r j e x q1 q2)
    · have hj1 := (List.getElem?_eq_some_iff.mp q1).1
      rw [List.length_append, List.length_singleton] at hj1
      have hj2 : j = L.length := by omega
      subst hj2
      rw [List.getElem?_append_right (Nat.le_refl _), Nat.sub_self] at q1
      rw [List.getElem?_append_right (by rw [h.l]; exact Nat.le_refl _), h.l, Nat.sub_self] at q2
      simp at q1 q2
      subst q1 q2
      exact keep hr
  · have lst : ∀ (i : Nat) (x : Value), (V ++ [u])[i]? = some x → (i < V.length ∧ V[i]? = some x) ∨ (i = V.length ∧ u = x) := fun i x hi => by
      by_cases hl : i < V.length
      · rw [List.getElem?_append_left hl] at hi
        exact .inl ⟨hl, hi⟩
      · have hi1 := (List.getElem?_eq_some_iff.mp hi).1
        rw [List.length_append, List.length_singleton] at hi1
        have hi2 : i = V.length := by omega
        subst hi2
        rw [List.getElem?_append_right (Nat.le_refl _), Nat.sub_self] at hi
        simp at hi
        exact .inr ⟨rfl, hi⟩
    rcases lst j x q1 with ⟨a1, a2⟩ | ⟨a1, a2⟩ <;> rcases lst k y q2 with ⟨b1, b2⟩ | ⟨b1, b2⟩
    · exact h.d j k x y z a2 b2 q3 q4
    · subst b2
      exact absurd q4 (hf x (List.mem_of_getElem? a2) z q3)
    · subst a2
      exact absurd q3 (hf y (List.mem_of_getElem? b2) z q4)
    · omega
structure JnV (base B Gf M : Nat) (vn : Value) (V : List Value) (NL : List Nde) (OF : List Int) (NK : List Nde) (es : Array MapEntry) (clock : Nat) (W : World) : Prop where
  j : W.heap[B]? = some (.cells #[vn, .slice (some ⟨Gf, 0, none⟩) OF.length OF.length, .map (some M)] 64)
  n : NdO W base vn V NL
  f : W.heap[Gf]? = some (.cells (OF.map cI).toArray 3)
  k : LkV base M Gf NK es clock W
  lo : base ≤ B ∧ base ≤ Gf ∧ base ≤ M
section
variable {base B Gf M : Nat} {vn : Value} {V : List Value} {NL NK : List Nde} {OF : List Int} {es : Array MapEntry} {clock : Nat} {W W' : World}
theorem JnV.below (h : JnV base B Gf M vn V NL OF NK es clock W) (hb : Below W.heap.size W W') : JnV base B Gf M vn V NL OF NK es clock W' :=
  ⟨(hb.block _ (lt_16 h.j)).trans h.j, h.n.below hb, (hb.block _ (lt_16 h.f)).trans h.f, h.k.below hb, h.lo⟩
theorem JnV.lob (h : JnV base B Gf M vn V NL OF NK es clock W) : base ≤ W.heap.size := Nat.le_trans h.lo.1 (Nat.le_of_lt (lt_16 h.j))
end
end Go.Proofs.Ytdpfdlkaickkiaa
