/-
  Part 11 of the proof: 5 texts, one behind the other.
-/
import Derived.Test.YtmkjlcfoedglmaaDoorPart10
import Derived.Test.YtmkjlcfoedglmaaDoorPart9
import Derived.Test.YtmkjlcfoedglmaaDoorPart8
import Derived.Deep.AppendLies
/-
  Edges: between two of them no route begins or ends, so that a table's lookups stay the same there.
-/
namespace Go.Proofs.YtmkjlcfoedglmaaDoor
set_option linter.unusedSimpArgs false
set_option linter.unusedVariables false

/-- Words in order, each once. -/
def Asc (E : List (BitVec 128)) : Prop := E.Pairwise (fun a b => a.toNat < b.toNat)
/-- The edges have both ends of each route. -/
def Ends (F : Int) (E : List (BitVec 128)) (l : List Rte) : Prop := ∀ r ∈ l, r.1.1 ∈ E ∧ (nextB F (lastW F r.1.1 r.1.2) = true → nextV F (lastW F r.1.1 r.1.2) ∈ E)
/-- No edge lies between two words. -/
def Alk (E : List (BitVec 128)) (x y : BitVec 128) : Prop := ∀ z ∈ E, (z.toNat ≤ x.toNat ↔ z.toNat ≤ y.toNat)
theorem Alk.symm {E : List (BitVec 128)} {x y : BitVec 128} (h : Alk E x y) : Alk E y x := fun z hz => (h z hz).symm
theorem has_alk1 (F : Int) (hf : fam F = true) (E : List (BitVec 128)) (l : List Rte) (hE : Ends F E l) (r : Rte) (hr : r ∈ l) (ho : Ro F r) (x y : BitVec 128) (hx : rightE F x = 0) (hy : rightE F y = 0) (h : Alk E x y) (hh : hasR r x = true) : hasR r y = true := by
  obtain ⟨h1, h2⟩ := (hasR_ends F r hf ho x hx).mp hh
  obtain ⟨e1, e2⟩ := hE r hr
  refine (hasR_ends F r hf ho y hy).mpr ⟨(h _ e1).mp h1, ?_⟩
  apply Decidable.byContradiction
  intro q
  obtain ⟨k1, k2, k3, k4⟩ := next_le F _ y (last_right F r hf ho) hy (by omega)
  have := (h _ (e2 k1)).mpr k2
  omega
theorem has_alk (F : Int) (hf : fam F = true) (E : List (BitVec 128)) (l : List Rte) (hE : Ends F E l) (r : Rte) (hr : r ∈ l) (ho : Ro F r) (x y : BitVec 128) (hx : rightE F x = 0) (hy : rightE F y = 0) (h : Alk E x y) : hasR r x = hasR r y := by
  cases hb : hasR r x with
  | true => exact (has_alk1 F hf E l hE r hr ho x y hx hy h hb).symm
  | false =>
    cases hc : hasR r y with
    | false => rfl
    | true =>
      have := has_alk1 F hf E l hE r hr ho y x hy hx h.symm hc
      rw [hb] at this
      cases this
theorem look_alk (F : Int) (hf : fam F = true) (E : List (BitVec 128)) (x y : BitVec 128) (hx : rightE F x = 0) (hy : rightE F y = 0) (h : Alk E x y) : ∀ (l : List Rte) (a : Int), Ends F E l → (∀ r ∈ l, Ro F r) → look x a l = look y a l
  | [], a, _, _ => rfl
  | r :: l, a, hE, hL => by
    rw [look, look, has_alk F hf E (r :: l) hE r (by simp) (hL r (by simp)) x y hx hy h]
    exact look_alk F hf E x y hx hy h l _ (fun q hq => hE q (List.mem_cons_of_mem _ hq)) (fun q hq => hL q (List.mem_cons_of_mem _ hq))
theorem look_bound (F : Int) (x : BitVec 128) : ∀ (l : List Rte) (a : Int), 0 ≤ a → a ≤ 65535 → (∀ r ∈ l, Ro F r) → 0 ≤ look x a l ∧ look x a l ≤ 65535
  | [], a, h0, h1, _ => ⟨h0, h1⟩
  | r :: l, a, h0, h1, hL => by
    rw [look]
    have hr := hL r (by simp)
    refine look_bound F x l _ ?_ ?_ (fun q hq => hL q (List.mem_cons_of_mem _ hq))
    · split
      · exact hr.2.1
      · exact h0
    · split
      · exact hr.2.2
      · exact h1
theorem edg_of (F : Int) (f : BitVec 128 → Int) (hb : ∀ x, 0 ≤ f x ∧ f x ≤ 65535) : ∀ (E : List (BitVec 128)), Asc E → (∀ e ∈ E, rightE F e = 0) → (∀ e ∈ E, ∀ x, rightE F x = 0 → e.toNat ≤ x.toNat → (∀ z ∈ E, z.toNat ≤ x.toNat → z.toNat ≤ e.toNat) → f e = f x) → Edg F f (E.map fun e => (e, f e))
  | [], _, _, _ => trivial
  | e :: E, hS, hR, hA => by
    obtain ⟨s1, s2⟩ := List.pairwise_cons.mp hS
    refine ⟨hR e (by simp), (hb e).1, (hb e).2, ?_, ?_, edg_of F f hb E s2 (fun z hz => hR z (List.mem_cons_of_mem _ hz)) ?_⟩
    · intro d hd
      cases E with
      | nil => simp at hd
      | cons d' E =>
        simp at hd
        subst hd
        exact s1 d' (by simp)
    · intro x hx h1 h2
      refine hA e (by simp) x hx h1 ?_
      intro z hz hzx
      rcases List.mem_cons.mp hz with q | q
      · rw [q]; exact Nat.le_refl _
      · exfalso
        cases E with
        | nil => cases q
        | cons d E =>
          simp at h2
          rcases List.mem_cons.mp q with q | q
          · subst q; omega
          · have := (List.pairwise_cons.mp s2).1 z q
            omega
    · intro z hz x hx h1 h2
      refine hA z (List.mem_cons_of_mem _ hz) x hx h1 ?_
      intro y hy hyx
      rcases List.mem_cons.mp hy with q | q
      · subst q
        have := s1 z hz
        omega
      · exact h2 y q hyx
/-- A function that no edge changes. -/
def Flat (F : Int) (E : List (BitVec 128)) (f : BitVec 128 → Int) : Prop := ∀ x y, rightE F x = 0 → rightE F y = 0 → Alk E x y → f x = f y
theorem asc_head (E : List (BitVec 128)) (hS : Asc E) (h0 : 0#128 ∈ E) : ∃ L, E = 0#128 :: L := by
  cases E with
  | nil => cases h0
  | cons e L =>
    rcases List.mem_cons.mp h0 with q | q
    · exact ⟨L, by rw [q]⟩
    · have := (List.pairwise_cons.mp hS).1 _ q
      simp at this
theorem jn_flat (F : Int) (hf : fam F = true) (f : BitVec 128 → Int) (hb : ∀ x, 0 ≤ f x ∧ f x ≤ 65535) (E : List (BitVec 128)) (hS : Asc E) (h0 : 0#128 ∈ E) (hR : ∀ e ∈ E, rightE F e = 0) (hF : Flat F E f) :
    sgsGo F none (jn F [] (E.map fun e => (e, f e))).reverse = 0 ∧ Says F f (jn F [] (E.map fun e => (e, f e))).reverse := by
  have h := edg_of F f hb E hS hR (fun e he x hx h1 h2 => hF e x (hR e he) hx (fun z hz => ⟨fun q => by omega, fun q => h2 z hz q⟩))
  obtain ⟨L, rfl⟩ := asc_head E hS h0
  exact jn_right F hf f (f 0#128) (L.map fun e => (e, f e)) h
theorem look_flat (F : Int) (hf : fam F = true) (E : List (BitVec 128)) (l : List Rte) (hE : Ends F E l) (hL : ∀ r ∈ l, Ro F r) : Flat F E (fun x => look x 0 l) := fun x y hx hy h => look_alk F hf E x y hx hy h l 0 hE hL
/-- The document's segments are the sweep's. -/
theorem jn_swp (F : Int) (hf : fam F = true) (l : List Rte) (hL : ∀ q ∈ l, Ro F q) (hO : l.Pairwise (fun a b => pcmpZ a.1.1 a.1.2 b.1.1 b.1.2 < 0)) (E : List (BitVec 128)) (hS : Asc E) (h0 : 0#128 ∈ E) (hR : ∀ e ∈ E, rightE F e = 0) (hE : Ends F E l) :
    (jn F [] (E.map fun e => (e, look e 0 l))).reverse = swp F l := by
  obtain ⟨a1, a2⟩ := jn_flat F hf (fun x => look x 0 l) (fun x => look_bound F x l 0 (by omega) (by omega) hL) E hS h0 hR (look_flat F hf E l hE hL)
  obtain ⟨b1, b2⟩ := swp_right F hf l hL hO
  exact segs_unique F _ _ _ none none a1 b1 rfl rfl a2 b2
end Go.Proofs.YtmkjlcfoedglmaaDoor
/-
  The routes of a list of segments, as a plain function; rows of routes of one's own.
-/
namespace Go.Proofs.YtmkjlcfoedglmaaDoor
open Go.RowKit
set_option linter.unusedSimpArgs false
set_option linter.unusedVariables false

theorem Tryd.infoR6 : (Tryd.prog.info? 53).map (fun i => (i.zero, i.size, i.bytes)) = some (some (.agg #[.int .u64 0, .int .u64 0, .int .i64 0, .int .i64 0]), 4, 32) := by kernel_rfl
theorem rowR_app : ∀ l m, rowR (l ++ m) = rowR l ++ rowR m := by
  intro l
  induction l with
  | nil => intro m; rfl
  | cons p l ih => intro m; simp [rowR, ih]
theorem rowR_one (l : List Rte) (x : BitVec 128) (n h : Int) : rowR (l ++ [((x, n), h)]) = rowR l ++ [.int .u64 (hI x), .int .u64 (lI x), .int .i64 n, .int .i64 h] := by rw [rowR_app]; rfl
theorem rowR_len6 (l : List Rte) : (rowR l).length = l.length * 4 := by
  induction l with
  | nil => rfl
  | cons r l ih => simp [rowR, ih]; omega
theorem rowR_cell (l : List Rte) : ∀ u ∈ rowR l, u.oneCell' = true := by
  induction l with
  | nil => intro u hu; cases hu
  | cons p l ih =>
    intro u hu
    simp only [rowR, List.mem_cons] at hu
    rcases hu with rfl | rfl | rfl | rfl | hu
    all_goals first | rfl | exact ih u hu
theorem ownR_cells {W : World} {base n g c : Nat} {l : List Rte} (h : W.ownsRow base 53 4 (.slice (some ⟨g, 0, none⟩) n c) n (rowR l)) (j : Nat) (hj : j < l.length) :
    W.cell? ⟨g, j * 4, none⟩ = some (.int .u64 (hI l[j].1.1)) ∧ W.cell? ⟨g, j * 4 + 1, none⟩ = some (.int .u64 (lI l[j].1.1)) ∧ W.cell? ⟨g, j * 4 + 2, none⟩ = some (.int .i64 l[j].1.2) ∧ W.cell? ⟨g, j * 4 + 3, none⟩ = some (.int .i64 l[j].2) := by
  obtain ⟨a0, a1, a2, a3⟩ := rowR_get l j hj
  have f := fun k u => h.cells (g := g) rfl k u
  exact ⟨by have := f _ _ a0; rwa [addA, Nat.zero_add] at this, by have := f _ _ a1; rwa [addA, Nat.zero_add] at this, by have := f _ _ a2; rwa [addA, Nat.zero_add] at this, by have := f _ _ a3; rwa [addA, Nat.zero_add] at this⟩
theorem newsR (W : World) (a b c d : Value) (t : TypeId) : ∀ j u, [a, b, c, d][j]? = some u → (W.alloc (.cells #[a, b, c, d] t)).cell? ((⟨W.heap.size, 0, none⟩ : Addr).add j) = some u := by
  intro j u hj
  match j, hj with
  | 0, hj => simp at hj; subst hj; simp [Addr.add, go_sem]
  | 1, hj => simp at hj; subst hj; simp [Addr.add, go_sem]
  | 2, hj => simp at hj; subst hj; simp [Addr.add, go_sem]
  | 3, hj => simp at hj; subst hj; simp [Addr.add, go_sem]
theorem fourR6 (a b c d : Int) : ∀ u ∈ [Value.int .u64 a, Value.int .u64 b, Value.int .i64 c, Value.int .i64 d], u.oneCell' = true := by
  intro u hu; simp at hu; rcases hu with rfl | rfl | rfl | rfl <;> rfl
theorem row_rwr6 {W : World} {v : Value} {l : List Rte} (h : Row W 4 v l.length (rowR l)) : RwR W v l := by
  obtain ⟨-, ao, c, e, -, h⟩ := h
  refine ⟨ao, c, e, ?_⟩
  rcases h with ⟨-, -, h⟩ | h
  · exact .inl (List.length_eq_zero_iff.mp h)
  · exact .inr h
theorem own_rwr {W : World} {base : Nat} {v : Value} {l : List Rte} (h : W.ownsRow base 53 4 v l.length (rowR l)) : RwR W v l := row_rwr6 (own_row h)
/-- The routes of one segment. -/
def covS (F : Int) (s : Sg) : List Rte := if s.2 = 0 then [] else (covT F s.1.1 s.1.2).map (fun p => (p, s.2))
def covR (F : Int) : List Sg → List Rte
  | [] => []
  | s :: l => covS F s ++ covR F l
theorem covS_len (F : Int) (s : Sg) : (covS F s).length ≤ 254 := by
  unfold covS
  split
  · simp
  · rw [List.length_map]; exact covT_len _ _ _
theorem covR_app (F : Int) : ∀ l m, covR F (l ++ m) = covR F l ++ covR F m := by
  intro l
  induction l with
  | nil => intro m; rfl
  | cons p l ih => intro m; simp [covR, ih]
theorem covR_len (F : Int) (l : List Sg) : (covR F l).length ≤ 254 * l.length := by
  induction l with
  | nil => simp [covR]
  | cons s l ih =>
    have := covS_len F s
    simp only [covR, List.length_append, List.length_cons]
    omega
theorem covR_take (F : Int) (l : List Sg) (k : Nat) (hk : k < l.length) : covR F (l.take (k + 1)) = covR F (l.take k) ++ covS F l[k] := by
  rw [List.take_add_one, List.getElem?_eq_getElem hk, covR_app]
  simp [covR]
end Go.Proofs.YtmkjlcfoedglmaaDoor
/-
  What lies in one block of memory goes by that block alone.
-/
namespace Go.Proofs.YtmkjlcfoedglmaaDoor
open Go.RowKit
set_option linter.unusedSimpArgs false
set_option linter.unusedVariables false

theorem cellH {W W' : World} {B : Nat} (e : W'.heap[B]? = W.heap[B]?) (o : Nat) : W'.cell? ⟨B, o, none⟩ = W.cell? ⟨B, o, none⟩ := World.cell?_of_block (w := W) (a := ⟨B, o, none⟩) e
theorem frozH {W W' : World} {B : Nat} (e : W'.heap[B]? = W.heap[B]?) (o : Nat) : W'.frozen? ⟨B, o, none⟩ = W.frozen? ⟨B, o, none⟩ := World.frozen?_of_block (w := W) (a := ⟨B, o, none⟩) e
theorem AtG.heap {W W' : World} {B : Nat} {x y : BitVec 128} {h : Int} (k : AtG W B x y h) (e : W'.heap[B]? = W.heap[B]?) : AtG W' B x y h := by
  unfold AtG at *
  simpa only [cellH e, frozH e] using k
theorem At.heap {W W' : World} {B : Nat} {x : BitVec 128} (k : At W B x) (e : W'.heap[B]? = W.heap[B]?) (hs : W.heap.size ≤ W'.heap.size) : At W' B x := by
  unfold At at *
  simp only [cellH e, frozH e]
  exact ⟨k.1, k.2.1, k.2.2.1, k.2.2.2.1, by omega⟩
theorem AtR.heap {W W' : World} {B : Nat} {x : BitVec 128} {n h : Int} (k : AtR W B x n h) (e : W'.heap[B]? = W.heap[B]?) : AtR W' B x n h := by
  unfold AtR at *
  simpa only [cellH e] using k
/-- A table in memory, which may be written. -/
def AtU (W : World) (B : Nat) (F : Int) (v : Value) : Prop := W.cell? ⟨B, 0, none⟩ = some (.int .i64 F) ∧ W.cell? ⟨B, 1, none⟩ = some v ∧ W.frozen? ⟨B, 0, none⟩ = false ∧ W.frozen? ⟨B, 1, none⟩ = false
theorem AtU.heap {W W' : World} {B : Nat} {F : Int} {v : Value} (k : AtU W B F v) (e : W'.heap[B]? = W.heap[B]?) : AtU W' B F v := by
  unfold AtU at *
  simpa only [cellH e, frozH e] using k
theorem AtU.lt {W : World} {B : Nat} {F : Int} {v : Value} (k : AtU W B F v) : B < W.heap.size := cell_in k.1
theorem AtU.set1 {W : World} {B : Nat} {F : Int} {v : Value} (k : AtU W B F v) (u : Value) : AtU (W.setCell ⟨B, 1, none⟩ u) B F u := by
  obtain ⟨a, b, c, d⟩ := k
  refine ⟨?_, ?_, ?_, ?_⟩ <;> simp [go_sem, *]
theorem AtU.set2 {W : World} {B : Nat} {F : Int} {v : Value} (k : AtU W B F v) (G : Int) (u : Value) : AtU ((W.setCell ⟨B, 0, none⟩ (.int .i64 G)).setCell ⟨B, 1, none⟩ u) B G u := by
  obtain ⟨a, b, c, d⟩ := k
  refine ⟨?_, ?_, ?_, ?_⟩ <;> simp [go_sem, *]
theorem atu_new (W : World) (B : Nat) (F : Int) (v : Value) (T : TypeId) (e : B = W.heap.size) : AtU (W.alloc (.cells #[.int .i64 F, v] T)) B F v := by
  subst e
  refine ⟨?_, ?_, ?_, ?_⟩ <;> simp [go_sem]
theorem own_heap {W W' : World} {base e size n : Nat} {v : Value} {xs : List Value} (h : W.ownsRow base e size v n xs) (he : ∀ g, v.ownBlock = some g → W'.heap[g]? = W.heap[g]?) : W'.ownsRow base e size v n xs := by
  refine ⟨h.1, ?_⟩
  rcases h.2 with hn | ⟨g, cap, cur, rfl, hb, hg, rest⟩
  · exact .inl hn
  · exact .inr ⟨g, cap, cur, rfl, hb, by rw [he g rfl]; exact hg, rest⟩
theorem hAl {W : World} (o : Obj) {k : Nat} (h : k < W.heap.size) : (W.alloc o).heap[k]? = W.heap[k]? := Below.heap_alloc W o k h
theorem hSet {W : World} {b o : Nat} (u : Value) {k : Nat} (h : ¬ k = b) : (W.setCell ⟨b, o, none⟩ u).heap[k]? = W.heap[k]? := Below.heap_setCell W ⟨b, o, none⟩ u k h
theorem own_lt {W : World} {base e size n : Nat} {v : Value} {xs : List Value} (h : W.ownsRow base e size v n xs) {g : Nat} (e : v.ownBlock = some g) : base ≤ g ∧ g < W.heap.size := h.lt g e
theorem own_wide {w : World} {base base' e size n : Nat} {v : Value} {xs : List Value} (h : w.ownsRow base e size v n xs) (hb : base' ≤ base) : w.ownsRow base' e size v n xs := by
  refine ⟨h.1, ?_⟩
  rcases h.2 with hn | ⟨g, cap, cur, hv, h1, h2⟩
  · exact .inl hn
  · exact .inr ⟨g, cap, cur, hv, by omega, h2⟩
end Go.Proofs.YtmkjlcfoedglmaaDoor
/-
  What the call of package algebra's covered does.
-/
namespace Go.Proofs.YtmkjlcfoedglmaaDoor
open Go.RowKit
set_option linter.unusedSimpArgs false
set_option linter.unusedVariables false

/-- What is known while a segment's routes are laid behind the others. -/
structure CvI (w : World) (F : Int) (S0 : Nat) (x y : BitVec 128) (h : Int) (cv : Value) (T : List (BitVec 128 × Int)) (L : List Rte) (dv : Value) (W : World) : Prop where
  t : AtU W (w.heap.size + 1) F dv
  r : AtU W w.heap.size 0 (.slice none 0 0)
  s : AtG W S0 x y h
  own : W.ownsRow (w.heap.size + 2) 53 4 dv L.length (rowR L)
  cov : W.ownsRow (S0 + 1) 31 3 cv T.length (rowP T)
  ne1 : dv.ownBlock ≠ some S0
  ne2 : ∀ z, cv.ownBlock = some z → dv.ownBlock ≠ some z
  bel : Below w.heap.size w W
  s0 : w.heap.size + 2 ≤ S0
theorem CvI.step {w : World} {F : Int} {S0 : Nat} {x y : BitVec 128} {h : Int} {cv : Value} {T : List (BitVec 128 × Int)} {L : List Rte} {dv : Value} {W w4 : World} (k : CvI w F S0 x y h cv T L dv W) (o1 o2 : Obj) (px : BitVec 128) (pn : Int) (g cap : Nat)
    (hown : w4.ownsRow (w.heap.size + 2) 53 4 (.slice (some ⟨g, 0, none⟩) (L.length + 1) cap) (L.length + 1) (rowR L ++ [.int .u64 (hI px), .int .u64 (lI px), .int .i64 pn, .int .i64 h])) (hg : ((W.alloc o1).alloc o2).grownBy w4 dv.ownBlock) (hat : dv.ownBlock = some g ∨ g = ((W.alloc o1).alloc o2).heap.size) :
    CvI w F S0 x y h cv T (L ++ [((px, pn), h)]) (.slice (some ⟨g, 0, none⟩) (L.length + 1) cap) (w4.setCell ⟨w.heap.size + 1, 1, none⟩ (.slice (some ⟨g, 0, none⟩) (L.length + 1) cap)) := by
  have hz : ((W.alloc o1).alloc o2).heap.size = W.heap.size + 2 := by simp
  have hT := k.t.lt
  have hS := k.s.lt
  have hR := k.r.lt
  have ob : ∀ z, dv.ownBlock = some z → w.heap.size + 2 ≤ z ∧ z < W.heap.size := fun z e => k.own.lt z e
  have he : ∀ z, z < W.heap.size → dv.ownBlock ≠ some z → w4.heap[z]? = W.heap[z]? := by
    intro z h1 h2
    rw [hg.block z (by omega) (fun e => h2 e.symm), hAl _ (by simp; omega), hAl _ h1]
  have hT' : w4.heap[w.heap.size + 1]? = W.heap[w.heap.size + 1]? := he _ hT (fun e => by have := (ob _ e).1; omega)
  have gne : ∀ z, z < W.heap.size → dv.ownBlock ≠ some z → g ≠ z := by
    intro z h1 h2 e
    rcases hat with q | q
    · exact h2 (by rw [q, e])
    · omega
  have gT : g ≠ w.heap.size + 1 := gne _ hT (fun e => by have := (ob _ e).1; omega)
  refine ⟨(k.t.heap hT').set1 _, ?_, ?_, ?_, ?_, ?_, ?_, ?_, k.s0⟩
  · exact k.r.heap (by rw [hSet _ (by omega), he _ hR (fun e => by have := (ob _ e).1; omega)])
  · exact k.s.heap (by rw [hSet _ (by have := k.s0; omega), he _ hS k.ne1])
  · rw [show (L ++ [((px, pn), h)]).length = L.length + 1 by simp, rowR_one]
    refine own_heap hown (fun z e => ?_)
    have : z = g := by simpa [Value.ownBlock] using e.symm
    rw [this, hSet _ gT]
  · refine own_heap k.cov (fun z e => ?_)
    have hz' := k.cov.lt z e
    rw [hSet _ (by have := k.s0; omega), he z hz'.2 (k.ne2 z e)]
  · intro e
    have : g = S0 := by simpa [Value.ownBlock] using e
    exact gne S0 hS k.ne1 this
  · intro z e e2
    have hz' := k.cov.lt z e
    have : g = z := by simpa [Value.ownBlock] using e2
    exact gne z hz'.2 (k.ne2 z e) this
  · refine Below.setCell ?_ (by simp) _
    exact ((k.bel.alloc k.bel.size o1).alloc (by simp; have := k.bel.size; omega) o2).grown hg (by have := k.bel.size; omega) (fun z e => by have := (ob z e).1; omega)
def okL (F : Int) (l : List Sg) : Bool := decide ((covR F l).length ≤ 1048576)
/-- The routes of the table of some segments. -/
def tabL (F : Int) (l : List Sg) : List Rte := if okL F l = true then covR F l else []
/-- The family, the error of the table of some segments. -/
def tabW (F : Int) (l : List Sg) : Int := if okL F l = true then F else 0
def tabX (F : Int) (l : List Sg) : Int := if okL F l = true then 0 else 16
theorem tab_yes {F : Int} {l : List Sg} (h : okL F l = true) : tabW F l = F ∧ tabX F l = 0 ∧ tabL F l = covR F l := by
  unfold tabW tabX tabL
  rw [if_pos h, if_pos h, if_pos h]
  exact ⟨rfl, rfl, rfl⟩
theorem tab_no {F : Int} {l : List Sg} (h : okL F l = false) : tabW F l = 0 ∧ tabX F l = 16 ∧ tabL F l = [] := by
  have h : ¬ okL F l = true := by rw [h]; decide
  unfold tabW tabX tabL
  rw [if_neg h, if_neg h, if_neg h]
  exact ⟨rfl, rfl, rfl⟩
theorem rowP_get6 : ∀ (l : List (BitVec 128 × Int)) (j : Nat) (hj : j < l.length), (rowP l)[j * 3]? = some (.int .u64 (hI l[j].1)) ∧ (rowP l)[j * 3 + 1]? = some (.int .u64 (lI l[j].1)) ∧ (rowP l)[j * 3 + 2]? = some (.int .i64 l[j].2) := by
  intro l
  induction l with
  | nil => intro j hj; simp at hj
  | cons p l ih =>
    intro j hj
    cases j with
    | zero => simp [rowP]
    | succ j =>
      have := ih j (by simpa using hj)
      rw [show (j + 1) * 3 = j * 3 + 3 by omega, show j * 3 + 3 + 1 = j * 3 + 1 + 3 by omega, show j * 3 + 3 + 2 = j * 3 + 2 + 3 by omega]
      simpa [rowP] using this
theorem rowP_cells6 {W : World} {base g cap : Nat} {T : List (BitVec 128 × Int)} (h : W.ownsRow base 31 3 (.slice (some ⟨g, 0, none⟩) T.length cap) T.length (rowP T)) (j : Nat) (hj : j < T.length) :
    W.cell? ⟨g, j * 3, none⟩ = some (.int .u64 (hI T[j].1)) ∧ W.cell? ⟨g, j * 3 + 1, none⟩ = some (.int .u64 (lI T[j].1)) ∧ W.cell? ⟨g, j * 3 + 2, none⟩ = some (.int .i64 T[j].2) := by
  obtain ⟨a0, a1, a2⟩ := rowP_get6 T j hj
  have f := fun k u => h.cells (g := g) rfl k u
  exact ⟨by have := f _ _ a0; rwa [addA, Nat.zero_add] at this, by have := f _ _ a1; rwa [addA, Nat.zero_add] at this, by have := f _ _ a2; rwa [addA, Nat.zero_add] at this⟩
theorem cov_part (F : Int) (l : List Sg) (k : Nat) (hk : k < l.length) (h0 : ¬ l[k].2 = 0) : covR F (l.take (k + 1)) = covR F (l.take k) ++ ((covT F l[k].1.1 l[k].1.2).take (covT F l[k].1.1 l[k].1.2).length).map (fun p => (p, l[k].2)) := by
  rw [covR_take F l k hk, covS, if_neg h0, List.take_length]
theorem cov_zero (F : Int) (l : List Sg) (k : Nat) (hk : k < l.length) (h0 : l[k].2 = 0) : covR F (l.take (k + 1)) = covR F (l.take k) := by
  rw [covR_take F l k hk, covS, if_pos h0, List.append_nil]
theorem cov_sub (F : Int) (l : List Sg) (k : Nat) : (covR F (l.take k)).length ≤ (covR F l).length := by
  have : covR F l = covR F (l.take k) ++ covR F (l.drop k) := by rw [← covR_app, List.take_append_drop]
  rw [this, List.length_append]; omega
theorem CvI.mid {w : World} {F : Int} {S0 : Nat} {x y : BitVec 128} {h : Int} {cv : Value} {T : List (BitVec 128 × Int)} {L : List Rte} {dv : Value} {W w4 : World} (k : CvI w F S0 x y h cv T L dv W) (o1 o2 : Obj) (hg : ((W.alloc o1).alloc o2).grownBy w4 dv.ownBlock) : AtU w4 (w.heap.size + 1) F dv := by
  have hT := k.t.lt
  refine k.t.heap ?_
  rw [hg.block _ (by simp; omega) (fun e => by have := (k.own.lt _ e.symm).1; omega), hAl _ (by simp; omega), hAl _ hT]
theorem CvI.start {w : World} {F : Int} {x y : BitVec 128} {h : Int} {cv : Value} {T : List (BitVec 128 × Int)} {L : List Rte} {dv : Value} {wr w2 : World} (kT : AtU wr (w.heap.size + 1) F dv) (kR : AtU wr w.heap.size 0 (.slice none 0 0)) (hown : wr.ownsRow (w.heap.size + 2) 53 4 dv L.length (rowR L)) (kB : Below w.heap.size w wr)
    (hb : Below (wr.alloc (.cells #[.int .u64 (hI x), .int .u64 (lI x), .int .u64 (hI y), .int .u64 (lI y), .int .i64 h] 39)).heap.size (wr.alloc (.cells #[.int .u64 (hI x), .int .u64 (lI x), .int .u64 (hI y), .int .u64 (lI y), .int .i64 h] 39)) w2)
    (hcov : w2.ownsRow (wr.alloc (.cells #[.int .u64 (hI x), .int .u64 (lI x), .int .u64 (hI y), .int .u64 (lI y), .int .i64 h] 39)).heap.size 31 3 cv T.length (rowP T)) : CvI w F wr.heap.size x y h cv T L dv w2 := by
  have hz : (wr.alloc (.cells #[.int .u64 (hI x), .int .u64 (lI x), .int .u64 (hI y), .int .u64 (lI y), .int .i64 h] 39)).heap.size = wr.heap.size + 1 := by simp
  have he : ∀ z, z < wr.heap.size → w2.heap[z]? = wr.heap[z]? := fun z hz' => by rw [hb.block z (by omega), hAl _ hz']
  have hT := kT.lt
  have hR := kR.lt
  rw [hz] at hcov
  refine ⟨kT.heap (he _ hT), kR.heap (he _ hR), (atg_new wr wr.heap.size x y h 39 rfl).below hb, own_heap hown (fun g e => he g (hown.lt g e).2), hcov, fun e => by have := (hown.lt _ e).2; omega, fun z e e2 => ?_, keepb hb (kB.alloc kB.size _), by omega⟩
  have := (hown.lt _ e2).2
  have := (hcov.lt z e).1
  omega
theorem newsB (W : World) (B : Nat) (hB : B = W.heap.size) (a b c d : Value) (t : TypeId) : ∀ j u, [a, b, c, d][j]? = some u → (W.alloc (.cells #[a, b, c, d] t)).cell? ((⟨B, 0, none⟩ : Addr).add j) = some u := by
  subst hB
  intro j u hj
  match j, hj with
  | 0, hj => simp at hj; subst hj; simp [Addr.add, go_sem]
  | 1, hj => simp at hj; subst hj; simp [Addr.add, go_sem]
  | 2, hj => simp at hj; subst hj; simp [Addr.add, go_sem]
  | 3, hj => simp at hj; subst hj; simp [Addr.add, go_sem]
theorem cov_app (T : List (BitVec 128 × Int)) (L : List Rte) (h : Int) (j : Nat) (hj : j < T.length) : L ++ (T.take (j + 1)).map (fun p => (p, h)) = (L ++ (T.take j).map (fun p => (p, h))) ++ [((T[j].1, T[j].2), h)] := by
  rw [List.take_add_one, List.getElem?_eq_getElem hj, List.map_append, ← List.append_assoc]
  rfl
theorem cov_size (T : List (BitVec 128 × Int)) (L : List Rte) (h : Int) (j : Nat) : (L ++ (T.take j).map (fun p => (p, h))).length ≤ L.length + T.length := by
  simp; omega
set_option maxRecDepth 20000 in
set_option maxHeartbeats 8000000 in
theorem covered_any (F : Int) (v : Value) (l : List Sg) (w : World) (hT : Tab w) (hv : RwG w v l) (hll : l.length ≤ 1000000000) :
    Calls Tryd.prog 36 #[.int .i64 F, v] w fun e w' => (∃ v', e = .returned (.tuple #[.agg #[.int .i64 (tabW F l), v'], .int .i64 (tabX F l)]) ∧ w'.ownsRow w.heap.size 53 4 v' (tabL F l).length (rowR (tabL F l))) ∧ Below w.heap.size w w' := by
  obtain ⟨i0, hi, hz0, hz1, hz2⟩ := info_parts Tryd.infoR6
  obtain ⟨ao, c, rfl, hv⟩ := hv
  have HV := hidR hv
  have HT := hidR hT
  clear hv hT
  have kR := atu_new w w.heap.size 0 (.slice none 0 0) 24 rfl
  have kT := hidR (atu_new (w.alloc (.cells #[.int .i64 0, .slice none 0 0] 24)) (w.heap.size + 1) F (.slice none 0 0) 24 (by simp))
  have kR := hidR (kR.heap (hAl (W := w.alloc (.cells #[.int .i64 0, .slice none 0 0] 24)) (.cells #[.int .i64 F, .slice none 0 0] 24) kR.lt))
  have kB := hidR (bl2 w (.cells #[.int .i64 0, .slice none 0 0] 24) (.cells #[.int .i64 F, .slice none 0 0] 24))
  go_enter Tryd.func36, Tryd.ntmps36
  go_wp2_with fail
  go_loopw [17] (fun i wr => ∃ (k : Nat) (dv : Value), k ≤ l.length ∧ i = .int .i64 k ∧ Hid (AtU wr (w.heap.size + 1) F dv) ∧ Hid (AtU wr w.heap.size 0 (.slice none 0 0)) ∧ Hid (wr.ownsRow (w.heap.size + 2) 53 4 dv (covR F (l.take k)).length (rowR (covR F (l.take k)))) ∧ Hid ((covR F (l.take k)).length ≤ 1048576) ∧ Hid (Below w.heap.size w wr)) (fun i _ => l.length - (intOf i).toNat)
  case atStart => exact ⟨0, .slice none 0 0, by omega, rfl, kT, kR, hidR (World.ownsRow_nil _ _ _ _), hidR (by simp [covR]), kB⟩
  case round =>
    clear kT kR kB
    obtain ⟨k, dv, hk, rfl, kT, kR, hown, hsz, kB⟩ := hrel
    by_cases hlt : (k : Int) < (l.length : Int)
    · have hks : k < l.length := by omega
      rcases HV.out with h | ⟨b, off, rfl, hc⟩
      · rw [h] at hks; simp at hks
      · obtain ⟨x0, x1, x2, x3, x4⟩ := rwg_cells hc k hks
        have x0 := keepc kB.out x0
        have x1 := keepc kB.out x1
        have x2 := keepc kB.out x2
        have x3 := keepc kB.out x3
        have x4 := keepc kB.out x4
        have hz := hidR (cov_zero F l k hks)
        have hp := hidR (cov_part F l k hks)
        have hq : Hid (l[k].2 = 0 ∨ (covR F (l.take k)).length + (covT F l[k].1.1 l[k].1.2).length ≤ (covR F l).length) := hidR (by
          by_cases e : l[k].2 = 0
          · exact .inl e
          · right
            have h1 := cov_sub F l (k + 1)
            rw [cov_part F l k hks e] at h1
            simpa using h1)
        have KC := cover_any F l[k].1.1 l[k].1.2 (wr.alloc (.cells #[.int .u64 (hI l[k].1.1), .int .u64 (lI l[k].1.1), .int .u64 (hI l[k].1.2), .int .u64 (lI l[k].1.2), .int .i64 l[k].2] 39)) (HT.out.keep (kB.out.alloc kB.out.size _))
        have hTl := covT_len F l[k].1.1 l[k].1.2
        clear hc HV
        revert hz hp hq KC hTl
        generalize hL1 : covR F (l.take (k + 1)) = L1
        generalize covT F l[k].1.1 l[k].1.2 = T
        generalize covE F l[k].1.1 l[k].1.2 = ce
        generalize l[k].1.1 = px at *
        generalize l[k].1.2 = py at *
        generalize l[k].2 = ph at *
        revert hown hsz
        generalize hL0 : covR F (l.take k) = L0
        intro hown hsz hz hp hq KC hTl
        have HL1 := hidR hL1
        clear hL1 hL0
        have hk2 : IntKind.i64.wrap ((k : Int) + 1) = (k : Int) + 1 := by rw [IntKind.wrap_i64]; omega
        obtain ⟨p0, p1, p2, p3, p4, -⟩ := atg_new wr wr.heap.size px py ph 39 rfl
        by_cases h0 : ph = 0
        · have d0 : (ph == 0) = true := by simp [h0]
          have hz := hidR (hz.out h0)
          clear KC hp hq h0
          go_wp2
          go_roundw
          case rel =>
            refine ⟨k + 1, dv, by omega, by simp, hidR (kT.out.heap (hAl _ kT.out.lt)), hidR (kR.out.heap (hAl _ kR.out.lt)), ?_, ?_, hidR (kB.out.alloc kB.out.size _)⟩
            · show World.ownsRow _ _ _ _ _ _ _
              rw [HL1.out, hz.out]
              exact hown.out.alloc _
            · show _ ≤ _
              rw [HL1.out, hz.out]
              exact hsz.out
          case measure => simp [intOf]; omega
        · have d0 : (ph == 0) = false := by simp [h0]
          have hq : Hid (L0.length + T.length ≤ (covR F l).length) := hidR (by rcases hq.out with e | e; exact absurd e h0; exact e)
          have hp := hidR (hp.out h0)
          clear hz h0
          go_wp2_with fail
          refine KC.mono ?_
          rintro e w2 ⟨⟨cv, rfl, hcov⟩, hb⟩
          have HC := hidR (CvI.start kT.out kR.out hown.out kB.out hb hcov)
          obtain ⟨ac, cc, rfl⟩ := own_form hcov
          obtain ⟨ad, cd, rfl⟩ := own_form hown.out
          obtain ⟨t0, t1, -, -⟩ := HC.out.t
          clear KC hb hcov kT kR hown kB x0 x1 x2 x3 x4 p0 p1 p2 p3 p4
          have hszn := hsz.out
          have ma : IntKind.i64.wrap ((L0.length : Int) + (T.length : Int)) = (L0.length : Int) + (T.length : Int) := by rw [IntKind.wrap_i64]; omega
          by_cases hlim : 1048576 < L0.length + T.length
          · have dl : decide ((1048576 : Int) < (L0.length : Int) + (T.length : Int)) = true := by simp; omega
            have hlo : ¬ okL F l = true := by unfold okL; simp; have := hq.out; omega
            have HLO := hidR (tab_no (F := F) (l := l) (by simpa using hlo))
            obtain ⟨r0, r1, r2, r3⟩ := HC.out.r
            have HB := hidR (bset2 HC.out.bel (Nat.le_refl w.heap.size) (.int .i64 0) (.slice none 0 0))
            obtain ⟨s0, s1, -, -⟩ := HC.out.r.set2 0 (.slice none 0 0)
            clear hlo hlim hq hp HC
            go_wp2
            exact bodyPost_ret (v := .tuple #[.agg #[.int .i64 0, .slice none 0 0], .int .i64 16]) (by simp [results, Tryd.results36, go_sem, s0, s1]) rfl ⟨⟨.slice none 0 0, by rw [HLO.out.1, HLO.out.2.1], by rw [HLO.out.2.2]; exact World.ownsRow_nil _ _ _ _⟩, HB.out⟩
          · have dl : decide ((1048576 : Int) < (L0.length : Int) + (T.length : Int)) = false := by simp; omega
            generalize wr.heap.size = S0 at *
            go_wp2_with fail
            go_loopw [43] (fun jv W => ∃ (j : Nat) (dw : Value), j ≤ T.length ∧ jv = .int .i64 j ∧ Hid (CvI w F S0 px py ph (.slice ac T.length cc) T (L0 ++ (T.take j).map (fun p => (p, ph))) dw W)) (fun jv _ => T.length - (intOf jv).toNat)
            case atStart => exact ⟨0, _, by omega, rfl, by simpa using HC⟩
            case round =>
              clear HC t0 t1
              obtain ⟨j, dw, hj, rfl, HC⟩ := hrel
              by_cases hjl : (j : Int) < (T.length : Int)
              · have hjs : j < T.length := by omega
                have hcv := HC.out.cov
                obtain ⟨g, cc', hcg⟩ : ∃ g, ac = some ⟨g, 0, none⟩ ∧ True := by
                  rcases hcv.2 with ⟨e, e2⟩ | ⟨g, cap, cur, e, _⟩
                  · omega
                  · injection e with e1
                    exact ⟨g, e1, trivial⟩
                subst cc'
                obtain ⟨y0, y1, y2⟩ := rowP_cells6 hcv j hjs
                have hcap : T.length ≤ cc := by
                  rcases hcv.2 with ⟨e, e2⟩ | ⟨g, cap, cur, e, _, _, h1, _⟩
                  · omega
                  · injection e with _ _ e1
                    omega
                have HA := hidR (cov_app T L0 ph j hjs)
                have hsz2 := cov_size T L0 ph j
                obtain ⟨t0, t1, -, -⟩ := HC.out.t
                obtain ⟨-, -, -, -, s4, -⟩ := HC.out.s
                have hows := HC.out.own
                have hbl := HC.out.bel
                revert HC HA hsz2 hows t1
                generalize L0 ++ (T.take j).map (fun p => (p, ph)) = L
                generalize T[j].1 = qx at *
                generalize T[j].2 = qn at *
                intro HC HA hsz2 t1 hows
                obtain ⟨ae, ce2, rfl⟩ := own_form hows
                have h63 : L.length + 1 ≤ maxLen := by unfold maxLen; omega
                have h47 : (L.length + 1) * 32 ≤ 140737488355328 := by omega
                have mj : IntKind.i64.wrap ((j : Int) + 1) = (j : Int) + 1 := by rw [IntKind.wrap_i64]; omega
                obtain ⟨b0, b1, b2, -⟩ := atp_new wr wr.heap.size qx qn 31 rfl
                have hT2 := HC.out.t.lt
                have hS2 := HC.out.s.lt
                have t1' := keepc (bl1 wr (.cells #[.int .u64 (hI qx), .int .u64 (lI qx), .int .i64 qn] 31)) t1
                have s4' := keepc (bl1 wr (.cells #[.int .u64 (hI qx), .int .u64 (lI qx), .int .i64 qn] 31)) s4
                clear hcv
                go_wp2_with (first | (
                    at_builtin
                    refine wpList_append_lies _ rfl _ _ 22 rfl (w.heap.size + 2) 53 i0 (.agg #[.int .u64 0, .int .u64 0, .int .i64 0, .int .i64 0]) 4 32 Tryd.underlying22 hi hz0 hz1 hz2 rfl (by decide) _ _ _ rfl ((hows.alloc _).alloc _) ⟨wr.heap.size + 1, 0, none⟩ 1 1 [.int .u64 (hI qx), .int .u64 (lI qx), .int .i64 qn, .int .i64 ph] rfl rfl (newsB _ _ (by simp) _ _ _ _ _) (fourR6 _ _ _ _) (by decide) h63 h47 (by simp; omega) _ rfl ?_
                    intro g4 cap4 w4 hown4 hgrow hat hlt4
                    have HC4 := hidR (HC.out.step _ _ qx qn g4 cap4 hown4 hgrow hat)
                    obtain ⟨f0, f1, f2, f3⟩ := HC.out.mid _ _ hgrow
                    clear hgrow hat hown4 hlt4 h63 h47 b0 b1 b2 t1' s4' t0 t1 s4 y0 y1 y2))
                go_wp2
                go_roundw
                case rel => exact ⟨j + 1, _, by omega, by simp, by rw [HA.out]; exact HC4⟩
                case measure => simp [intOf]; omega
              · have hd : decide ((j : Int) < (T.length : Int)) = false := by simpa using hjl
                have hje : Hid (j = T.length) := hidR (by omega)
                have HF : Hid (CvI w F S0 px py ph (.slice ac T.length cc) T L1 dw wr) := hidR (by have h9 := HC.out; rw [hje.out] at h9; rw [hp.out]; exact h9)
                have HZ : Hid (L1.length ≤ 1048576) := hidR (by rw [hp.out]; simp; omega)
                clear HC hp
                go_wp2
                go_roundw
                case rel =>
                  refine ⟨k + 1, dw, by omega, by simp, hidR HF.out.t, hidR HF.out.r, ?_, ?_, hidR HF.out.bel⟩
                  · show World.ownsRow _ _ _ _ _ _ _
                    rw [HL1.out]
                    exact HF.out.own
                  · show _ ≤ _
                    rw [HL1.out]
                    exact HZ.out
                case measure => simp [intOf]; omega
    · have hd : decide ((k : Int) < (l.length : Int)) = false := by simpa using hlt
      have hke : l.take k = l := List.take_of_length_le (by omega)
      rw [hke] at hown hsz
      have hlo : okL F l = true := by unfold okL; simpa using hsz.out
      have HLO := hidR (tab_yes hlo)
      obtain ⟨t0, t1, -, -⟩ := kT.out
      obtain ⟨r0, r1, r2, r3⟩ := kR.out
      have hTR : ¬ w.heap.size + 1 = w.heap.size := by omega
      have HB := hidR (bset2 kB.out (Nat.le_refl w.heap.size) (.int .i64 F) dv)
      have HO : Hid ((((wr.setCell ⟨w.heap.size, 0, none⟩ (.int .i64 F)).setCell ⟨w.heap.size, 1, none⟩ dv)).ownsRow w.heap.size 53 4 dv (covR F l).length (rowR (covR F l))) := hidR (own_wide (own_heap hown.out (fun g e => by
        have := (hown.out.lt g e).1
        rw [hSet _ (by omega), hSet _ (by omega)])) (by omega))
      obtain ⟨s0, s1, -, -⟩ := kR.out.set2 F dv
      clear hke hlo
      obtain ⟨ad, cd, rfl⟩ := own_form hown.out
      go_wp2
      exact bodyPost_ret (v := .tuple #[.agg #[.int .i64 F, .slice ad (covR F l).length cd], .int .i64 0]) (by simp [results, Tryd.results36, go_sem, s0, s1]) rfl ⟨⟨.slice ad (covR F l).length cd, by rw [HLO.out.1, HLO.out.2.1], by rw [HLO.out.2.2]; exact HO.out⟩, HB.out⟩
end Go.Proofs.YtmkjlcfoedglmaaDoor
/-
  How many routes cover right segments that say what so many routes tell: not more than a table may have.
-/
namespace Go.Proofs.YtmkjlcfoedglmaaDoor
set_option linter.unusedSimpArgs false
set_option linter.unusedVariables false

theorem mask_nat (F : Int) (hf : fam F = true) : (maskW F).toNat + 2 ^ (128 - F.toNat) = 2 ^ 128 := by
  rcases fam_ways F hf with rfl | rfl <;> decide +kernel
theorem covS_cn (F : Int) (s : Sg) (h : sgE F s = 0) : ∃ k, Cn (128 - F.toNat) (s.1.2.toNat + 2 ^ (128 - F.toNat)) s.1.1.toNat k ∧ (covS F s).length ≤ k := by
  obtain ⟨s1, s2, s3, s4, s5⟩ := sgE_zero F s h
  refine ⟨_, cov_cn F s.1.2 (s.1.2.toNat - s.1.1.toNat + 1) s.1.1 ⟨s1, s2, s5⟩ (by omega), ?_⟩
  unfold covS
  split
  · simp
  · rw [List.length_map]
    unfold covT
    split
    · exact Nat.le_refl _
    · simp
/-- Right segments, each with its cover. -/
theorem segs_tot (F : Int) (hf : fam F = true) (B : Nat → Prop) : ∀ (l : List Sg) (s : Sg), sgE F s = 0 → sgsGo F (some s) l = 0 → (∀ r ∈ l, B r.1.1.toNat) → ∃ t, Tot (128 - F.toNat) B (2 ^ 128) s.1.1.toNat t ∧ (covR F (s :: l)).length ≤ t
  | [], s, h1, h2, _ => by
    obtain ⟨k, k1, k2⟩ := covS_cn F s h1
    obtain ⟨s1, s2, s3, s4, s5⟩ := sgE_zero F s h1
    have hn : nextB F s.1.2 = false := by
      rw [sgsGo] at h2
      cases e : nextB F s.1.2 with
      | false => rfl
      | true => rw [if_pos (show moO F (some s) = true from e)] at h2; omega
    have e := mask_nat F hf
    rw [← next_none F s.1.2 s2 hn] at e
    rw [e] at k1
    refine ⟨k, .last _ _ s.1.1.isLt k1, ?_⟩
    simp only [covR, List.append_nil]
    exact k2
  | r :: l, s, h1, h2, hB => by
    obtain ⟨k, k1, k2⟩ := covS_cn F s h1
    obtain ⟨s1, s2, s3, s4, s5⟩ := sgE_zero F s h1
    obtain ⟨r1, r2, r3, r4, r5⟩ := sgsGo_cons F (some s) r l h2
    obtain ⟨t, t1, t2⟩ := segs_tot F hf B l r r1 r5 (fun q hq => hB q (List.mem_cons_of_mem _ hq))
    obtain ⟨n1, n2, n3, n4⟩ := next_nat F s.1.2 r2
    have e : r.1.1.toNat = s.1.2.toNat + 2 ^ (128 - F.toNat) := by rw [r3]; exact n1
    have hp := Nat.two_pow_pos (128 - F.toNat)
    refine ⟨k + t, .more _ r.1.1.toNat k t (by omega) r.1.1.isLt (hB r (by simp)) (by rw [e]; exact k1) t1, ?_⟩
    rw [covR, List.length_append]
    omega
/-- Where segments that say f part, there is an edge. -/
theorem segs_edge (F : Int) (f : BitVec 128 → Int) (E : List (BitVec 128)) (hR : ∀ e ∈ E, rightE F e = 0) (hF : Flat F E f) : ∀ (l : List Sg) (s : Sg), sgE F s = 0 → sgsGo F (some s) l = 0 → Says F f (s :: l) → ∀ r ∈ l, r.1.1 ∈ E
  | [], _, _, _, _, r, hr => by cases hr
  | r :: l, s, h1, h2, hS, q, hq => by
    obtain ⟨s1, s2, s3, s4, s5⟩ := sgE_zero F s h1
    obtain ⟨r1, r2, r3, r4, r5⟩ := sgsGo_cons F (some s) r l h2
    rcases List.mem_cons.mp hq with rfl | hq
    · apply Classical.byContradiction
      intro c
      obtain ⟨q1, q2, q3, q4, q5⟩ := sgE_zero F q r1
      have e : q.1.1 = nextV F s.1.2 := r3
      obtain ⟨n1, n2, n3, n4⟩ := next_nat F s.1.2 r2
      have hp := Nat.two_pow_pos (128 - F.toNat)
      have a := hF s.1.2 q.1.1 s2 q1 (fun z hz => ⟨fun g => by rw [e]; omega, fun g => by
        apply Classical.byContradiction
        intro g2
        obtain ⟨k1, k2, k3, k4⟩ := next_le F s.1.2 z s2 (hR z hz) (by omega)
        rw [← e] at k2
        exact c ((BitVec.eq_of_toNat_eq (show q.1.1.toNat = z.toNat by omega)) ▸ hz)⟩)
      have b1 := hS s (by simp) s.1.2 s2 s5 (Nat.le_refl _)
      have b2 := hS q (by simp) q.1.1 q1 (Nat.le_refl _) q5
      apply r4
      show some s.2 = some q.2
      rw [b1, b2, a]
    · exact segs_edge F f E hR hF l r r1 r5 (fun q hq => hS q (List.mem_cons_of_mem _ hq)) q hq
/-- A route's prefix, by its first number and its power. -/
def prN (r : Rte) : Nat × Nat := (r.1.1.toNat, 128 - r.1.2.toNat)
/-- The edges of routes. -/
def edgL (F : Int) : List Rte → List (BitVec 128)
  | [] => []
  | r :: l => r.1.1 :: (if nextB F (lastW F r.1.1 r.1.2) = true then nextV F (lastW F r.1.1 r.1.2) :: edgL F l else edgL F l)
theorem edgL_mem (F : Int) (hf : fam F = true) : ∀ (l : List Rte), (∀ r ∈ l, Ro F r) → ∀ e ∈ edgL F l, rightE F e = 0 ∧ EndOf (l.map prN) e.toNat
  | [], _, e, he => by cases he
  | r :: l, hL, e, he => by
    have ho := hL r (by simp)
    obtain ⟨f0, f1⟩ := fam_bd F hf
    have tail : e ∈ edgL F l → rightE F e = 0 ∧ EndOf ((r :: l).map prN) e.toNat := fun h => by
      obtain ⟨a, p, b, c⟩ := edgL_mem F hf l (fun q hq => hL q (List.mem_cons_of_mem _ hq)) e h
      exact ⟨a, p, List.mem_cons_of_mem _ b, c⟩
    have hrt : rightE F r.1.1 = 0 := by
      refine right_of F _ hf ?_
      have h0 := ho.1.1
      have h1 := ho.1.2.1
      rw [cut_dvd]
      exact Nat.dvd_trans (Nat.pow_dvd_pow 2 (by omega)) ((cut_dvd _ _).mp ho.1.2.2)
    have head : e = r.1.1 → rightE F e = 0 ∧ EndOf ((r :: l).map prN) e.toNat := fun h => by
      subst h
      exact ⟨hrt, prN r, by simp, .inl rfl⟩
    rw [edgL] at he
    rcases List.mem_cons.mp he with h | h
    · exact head h
    · split at h
      · rename_i hn
        rcases List.mem_cons.mp h with h | h
        · subst h
          obtain ⟨n1, n2, n3, n4⟩ := next_nat F _ hn
          refine ⟨right_of F _ hf n4, prN r, by simp, .inr ?_⟩
          rw [n1, last_nat F _ _ ho.1 f1]
          rfl
        · exact tail h
      · exact tail h
theorem edgL_ends (F : Int) : ∀ (l : List Rte), Ends F (edgL F l) l
  | [], r, hr => by cases hr
  | q :: l, r, hr => by
    rw [edgL]
    rcases List.mem_cons.mp hr with rfl | hr
    · refine ⟨by simp, fun h => ?_⟩
      rw [if_pos h]
      simp
    · obtain ⟨a, b⟩ := edgL_ends F l r hr
      have sub : ∀ x ∈ edgL F l, x ∈ q.1.1 :: (if nextB F (lastW F q.1.1 q.1.2) = true then nextV F (lastW F q.1.1 q.1.2) :: edgL F l else edgL F l) := fun x hx => by
        refine List.mem_cons_of_mem _ ?_
        split
        · exact List.mem_cons_of_mem _ hx
        · exact hx
      exact ⟨sub _ a, fun h => sub _ (b h)⟩
theorem Ends.sub {F : Int} {E E' : List (BitVec 128)} {l : List Rte} (h : Ends F E l) (hs : ∀ e ∈ E, e ∈ E') : Ends F E' l := fun r hr => ⟨hs _ (h r hr).1, fun q => hs _ ((h r hr).2 q)⟩
theorem edgL_part (F : Int) (l m : List Rte) (h : ∀ r ∈ l, r ∈ m) : Ends F (edgL F m) l := fun r hr => edgL_ends F m r (h r hr)
/-- Right segments that say f, where f goes by so many routes. -/
theorem cov_paths (F : Int) (hf : fam F = true) (f : BitVec 128 → Int) (rs : List Rte) (hL : ∀ r ∈ rs, Ro F r) (hF : Flat F (edgL F rs) f) (l : List Sg) (h1 : sgsGo F none l = 0) (h2 : Says F f l) : (covR F l).length ≤ 1 + pthS 128 rs.length := by
  cases l with
  | nil => simp [covR]
  | cons s l =>
    obtain ⟨s1, s2, s3, s4, s5⟩ := sgsGo_cons F none s l h1
    obtain ⟨f0, f1⟩ := fam_bd F hf
    have he := segs_edge F f (edgL F rs) (fun e q => (edgL_mem F hf rs hL e q).1) hF l s s1 s5 h2
    obtain ⟨t, t1, t2⟩ := segs_tot F hf (fun b => ∃ e ∈ edgL F rs, b = e.toNat) l s s1 s5 (fun r hr => ⟨_, he r hr, rfl⟩)
    have z : s.1.1.toNat = 0 := by rw [s3]; rfl
    rw [z] at t1
    have hu : 128 - F.toNat + F.toNat = 128 := by omega
    have := tot_most (128 - F.toNat) (fun b => ∃ e ∈ edgL F rs, b = e.toNat) (by
      rintro b ⟨e, e1, rfl⟩
      exact right_dvd F e (edgL_mem F hf rs hL e e1).1) F.toNat 0 t (rs.map prN) (by omega) (Nat.dvd_zero _) (by
      intro p hp
      obtain ⟨r, hr, rfl⟩ := List.mem_map.mp hp
      exact (cut_dvd _ _).mp (hL r hr).1.2.2) (by
      rintro b ⟨e, e1, rfl⟩ _ _
      exact (edgL_mem F hf rs hL e e1).2) (by rw [hu, Nat.zero_add]; exact t1)
    rw [List.length_map] at this
    have up : ∀ d k, pthS d rs.length ≤ pthS (d + k) rs.length := by
      intro d k
      induction k with
      | zero => exact Nat.le_refl _
      | succ k ih =>
        rw [show d + (k + 1) = (d + k) + 1 by omega, pthS]
        exact Nat.le_trans ih (Nat.le_add_right _ _)
    have := up F.toNat (128 - F.toNat)
    rw [show F.toNat + (128 - F.toNat) = 128 by omega] at this
    omega
/-- With no more than 9000 routes they fit into a table. -/
theorem cov_fits (F : Int) (hf : fam F = true) (f : BitVec 128 → Int) (rs : List Rte) (hL : ∀ r ∈ rs, Ro F r) (hF : Flat F (edgL F rs) f) (l : List Sg) (h1 : sgsGo F none l = 0) (h2 : Says F f l) (hn : rs.length ≤ 9000) : okL F l = true := by
  have a := cov_paths F hf f rs hL hF l h1 h2
  have b := pthS_mono _ _ hn 128
  have c := pthS_9000
  unfold okL
  exact decide_eq_true (by omega)
/-- The segments of one table. -/
theorem swp_fits (F : Int) (hf : fam F = true) (l : List Rte) (hL : ∀ q ∈ l, Ro F q) (hO : l.Pairwise (fun a b => pcmpZ a.1.1 a.1.2 b.1.1 b.1.2 < 0)) (hn : l.length ≤ 9000) : okL F (swp F l) = true := by
  obtain ⟨a, b⟩ := swp_right F hf l hL hO
  exact cov_fits F hf _ l hL (look_flat F hf _ l (edgL_ends F l) hL) _ a b hn
end Go.Proofs.YtmkjlcfoedglmaaDoor
