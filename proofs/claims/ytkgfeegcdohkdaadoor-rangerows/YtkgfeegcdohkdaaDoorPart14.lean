/-
  Part 14 of the proof: 1 texts, one behind the other.
-/
import Derived.Test.YtkgfeegcdohkdaaDoorPart13
/-
  Segments in memory, rows of them, and what the call of beside's function does.
-/
namespace Go.Proofs.YtkgfeegcdohkdaaDoor
open Go.RowKit
set_option linter.unusedSimpArgs false
set_option linter.unusedVariables false

/-- A segment in memory. -/
def AtS (w : World) (B : Nat) (x y : BitVec 128) (h : Int) : Prop := w.cell? ⟨B, 0, none⟩ = some (.int .u64 (hI x)) ∧ w.cell? ⟨B, 1, none⟩ = some (.int .u64 (lI x)) ∧ w.cell? ⟨B, 2, none⟩ = some (.int .u64 (hI y)) ∧ w.cell? ⟨B, 3, none⟩ = some (.int .u64 (lI y)) ∧ w.cell? ⟨B, 4, none⟩ = some (.int .i64 h) ∧ w.frozen? ⟨B, 0, none⟩ = false ∧ w.frozen? ⟨B, 1, none⟩ = false ∧ w.frozen? ⟨B, 2, none⟩ = false ∧ w.frozen? ⟨B, 3, none⟩ = false ∧ w.frozen? ⟨B, 4, none⟩ = false
theorem AtS.below {w w' : World} {B : Nat} {x y : BitVec 128} {h : Int} (g : AtS w B x y h) (hb : Below w.heap.size w w') : AtS w' B x y h := by
  obtain ⟨a0, a1, a2, a3, a4, b0, b1, b2, b3, b4⟩ := g
  exact ⟨keepc hb a0, keepc hb a1, keepc hb a2, keepc hb a3, keepc hb a4, keepf hb a0 b0, keepf hb a1 b1, keepf hb a2 b2, keepf hb a3 b3, keepf hb a4 b4⟩
theorem ats_new (w : World) (B : Nat) (x y : BitVec 128) (h : Int) (T : TypeId) (e : B = w.heap.size) : AtS (w.alloc (.cells #[.int .u64 (hI x), .int .u64 (lI x), .int .u64 (hI y), .int .u64 (lI y), .int .i64 h] T)) B x y h := by
  subst e
  refine ⟨?_, ?_, ?_, ?_, ?_, ?_, ?_, ?_, ?_, ?_⟩ <;> simp [go_sem]
theorem ats_new0 (w : World) : AtS (w.alloc (.cells #[.int .u64 0, .int .u64 0, .int .u64 0, .int .u64 0, .int .i64 0] 64)) w.heap.size 0#128 0#128 0 := ats_new w w.heap.size 0#128 0#128 0 64 rfl
theorem AtS.lt {W : World} {B : Nat} {x y : BitVec 128} {h : Int} (g : AtS W B x y h) : B < W.heap.size := cell_in g.1
/-- A segment's five cells, written. -/
def set5 (W : World) (N : Nat) (a b c d e : Value) : World := ((((W.setCell ⟨N, 0, none⟩ a).setCell ⟨N, 1, none⟩ b).setCell ⟨N, 2, none⟩ c).setCell ⟨N, 3, none⟩ d).setCell ⟨N, 4, none⟩ e
theorem AtS.setO {W : World} {B : Nat} {x y : BitVec 128} {h : Int} (g : AtS W B x y h) {N : Nat} (hN : ¬ N = B) (a b c d e : Value) : AtS (set5 W N a b c d e) B x y h := by
  have hN' : ¬ B = N := fun e => hN e.symm
  obtain ⟨a0, a1, a2, a3, a4, b0, b1, b2, b3, b4⟩ := g
  unfold set5
  refine ⟨?_, ?_, ?_, ?_, ?_, ?_, ?_, ?_, ?_, ?_⟩ <;> simp [go_sem, hN, hN', *]
theorem AtS.set {W : World} {B : Nat} {x y : BitVec 128} {h : Int} (g : AtS W B x y h) (x' y' : BitVec 128) (h' : Int) : AtS (set5 W B (.int .u64 (hI x')) (.int .u64 (lI x')) (.int .u64 (hI y')) (.int .u64 (lI y')) (.int .i64 h')) B x' y' h' := by
  obtain ⟨a0, a1, a2, a3, a4, b0, b1, b2, b3, b4⟩ := g
  unfold set5
  refine ⟨?_, ?_, ?_, ?_, ?_, ?_, ?_, ?_, ?_, ?_⟩ <;> simp [go_sem, *]
theorem bset5 {n C : Nat} {w W : World} (h : Below n w W) (hp : n ≤ C) (a b c d e : Value) : Below n w (set5 W C a b c d e) := ((((h.setCell hp _).setCell hp _).setCell hp _).setCell hp _).setCell hp _
theorem own_set5 {w : World} {base e size n : Nat} {v : Value} {xs : List Value} (h : w.ownsRow base e size v n xs) (C : Nat) (p q r s t : Value) (hn : v.ownBlock ≠ some C) : (set5 w C p q r s t).ownsRow base e size v n xs :=
  own_set (own_set (own_set (own_set (own_set h _ _ hn) _ _ hn) _ _ hn) _ _ hn) _ _ hn
def rowS : List (BitVec 128 × BitVec 128) → List Value
  | [] => []
  | p :: l => .int .u64 (hI p.1) :: .int .u64 (lI p.1) :: .int .u64 (hI p.2) :: .int .u64 (lI p.2) :: .int .i64 1 :: rowS l
theorem rowS_app : ∀ l m, rowS (l ++ m) = rowS l ++ rowS m := by
  intro l
  induction l with
  | nil => intro m; rfl
  | cons p l ih => intro m; simp [rowS, ih]
theorem rowS_one (l : List (BitVec 128 × BitVec 128)) (x y : BitVec 128) : rowS (l ++ [(x, y)]) = rowS l ++ [.int .u64 (hI x), .int .u64 (lI x), .int .u64 (hI y), .int .u64 (lI y), .int .i64 1] := by rw [rowS_app]; rfl
theorem rowS_len : ∀ l, (rowS l).length = l.length * 5 := by
  intro l
  induction l with
  | nil => rfl
  | cons p l ih => simp only [rowS, List.length_cons, ih]; omega
theorem rowS_cell (l : List (BitVec 128 × BitVec 128)) : ∀ u ∈ rowS l, u.oneCell' = true := by
  induction l with
  | nil => intro u hu; cases hu
  | cons p l ih =>
    intro u hu
    simp only [rowS, List.mem_cons] at hu
    rcases hu with rfl | rfl | rfl | rfl | rfl | hu
    all_goals first | rfl | exact ih u hu
theorem rowS_get : ∀ (l : List (BitVec 128 × BitVec 128)) (j : Nat) (hj : j < l.length), (rowS l)[j * 5]? = some (.int .u64 (hI l[j].1)) ∧ (rowS l)[j * 5 + 1]? = some (.int .u64 (lI l[j].1)) ∧ (rowS l)[j * 5 + 2]? = some (.int .u64 (hI l[j].2)) ∧ (rowS l)[j * 5 + 3]? = some (.int .u64 (lI l[j].2)) ∧ (rowS l)[j * 5 + 4]? = some (.int .i64 1) := by
  intro l
  induction l with
  | nil => intro j hj; simp at hj
  | cons p l ih =>
    intro j hj
    cases j with
    | zero => simp [rowS]
    | succ j =>
      have := ih j (by simpa using hj)
      rw [show (j + 1) * 5 = j * 5 + 5 by omega, show j * 5 + 5 + 1 = j * 5 + 1 + 5 by omega, show j * 5 + 5 + 2 = j * 5 + 2 + 5 by omega, show j * 5 + 5 + 3 = j * 5 + 3 + 5 by omega, show j * 5 + 5 + 4 = j * 5 + 4 + 5 by omega]
      simpa [rowS] using this
theorem rws_cells {W : World} {b off : Nat} {l : List (BitVec 128 × BitVec 128)} (h : ∀ j u, (rowS l)[j]? = some u → W.cell? ⟨b, off + j, none⟩ = some u) (k : Nat) (hk : k < l.length) :
    W.cell? ⟨b, off + k * 5, none⟩ = some (.int .u64 (hI l[k].1)) ∧ W.cell? ⟨b, off + k * 5 + 1, none⟩ = some (.int .u64 (lI l[k].1)) ∧ W.cell? ⟨b, off + k * 5 + 2, none⟩ = some (.int .u64 (hI l[k].2)) ∧ W.cell? ⟨b, off + k * 5 + 3, none⟩ = some (.int .u64 (lI l[k].2)) ∧ W.cell? ⟨b, off + k * 5 + 4, none⟩ = some (.int .i64 1) := by
  obtain ⟨a0, a1, a2, a3, a4⟩ := rowS_get l k hk
  exact ⟨h _ _ a0, h _ _ a1, h _ _ a2, h _ _ a3, h _ _ a4⟩
theorem rows_cells {W : World} {base n g c : Nat} {l : List (BitVec 128 × BitVec 128)} (h : W.ownsRow base 64 5 (.slice (some ⟨g, 0, none⟩) n c) n (rowS l)) (hn : n = l.length) (j : Nat) (hj : j < l.length) :
    W.cell? ⟨g, j * 5, none⟩ = some (.int .u64 (hI l[j].1)) ∧ W.cell? ⟨g, j * 5 + 1, none⟩ = some (.int .u64 (lI l[j].1)) ∧ W.cell? ⟨g, j * 5 + 2, none⟩ = some (.int .u64 (hI l[j].2)) ∧ W.cell? ⟨g, j * 5 + 3, none⟩ = some (.int .u64 (lI l[j].2)) ∧ W.cell? ⟨g, j * 5 + 4, none⟩ = some (.int .i64 1) := by
  obtain ⟨a0, a1, a2, a3, a4⟩ := rowS_get l j hj
  have e : ∀ k, (⟨g, 0, none⟩ : Addr).add k = ⟨g, k, none⟩ := fun k => by unfold Addr.add; split <;> simp_all
  have f := fun k u => h.cells (g := g) rfl k u
  exact ⟨by have := f _ _ a0; rwa [e] at this, by have := f _ _ a1; rwa [e] at this, by have := f _ _ a2; rwa [e] at this, by have := f _ _ a3; rwa [e] at this, by have := f _ _ a4; rwa [e] at this⟩
theorem Tryd.infoS : (Tryd.prog.info? 64).map (fun i => (i.zero, i.size, i.bytes)) = some (some (.agg #[.int .u64 0, .int .u64 0, .int .u64 0, .int .u64 0, .int .i64 0]), 5, 40) := by kernel_rfl
theorem newsS (W : World) (a b c d e : Value) (t : TypeId) : ∀ j u, [a, b, c, d, e][j]? = some u → (W.alloc (.cells #[a, b, c, d, e] t)).cell? ((⟨W.heap.size, 0, none⟩ : Addr).add j) = some u := by
  intro j u hj
  match j, hj with
  | 0, hj => simp at hj; subst hj; simp [Addr.add, go_sem]
  | 1, hj => simp at hj; subst hj; simp [Addr.add, go_sem]
  | 2, hj => simp at hj; subst hj; simp [Addr.add, go_sem]
  | 3, hj => simp at hj; subst hj; simp [Addr.add, go_sem]
  | 4, hj => simp at hj; subst hj; simp [Addr.add, go_sem]
theorem fiveS (a b c d e : Int) : ∀ u ∈ [Value.int .u64 a, Value.int .u64 b, Value.int .u64 c, Value.int .u64 d, Value.int .i64 e], u.oneCell' = true := by
  intro u hu; simp at hu; rcases hu with rfl | rfl | rfl | rfl | rfl <;> rfl
/-- A list of segments in memory, whosever it is. -/
def RwS (W : World) (v : Value) (l : List (BitVec 128 × BitVec 128)) : Prop := ∃ ao c, v = .slice ao l.length c ∧ ((ao = none ∧ l = []) ∨ ∃ b off, ao = some ⟨b, off, none⟩ ∧ ∀ j u, (rowS l)[j]? = some u → W.cell? ⟨b, off + j, none⟩ = some u)
theorem RwS.below {W W' : World} {v : Value} {l : List (BitVec 128 × BitVec 128)} (h : RwS W v l) (hb : Below W.heap.size W W') : RwS W' v l := by
  obtain ⟨ao, c, e, h⟩ := h
  refine ⟨ao, c, e, h.imp id ?_⟩
  rintro ⟨b, off, e', hc⟩
  exact ⟨b, off, e', fun j u hj => keepc hb (hc j u hj)⟩
theorem own_rws {W : World} {base : Nat} {v : Value} {l : List (BitVec 128 × BitVec 128)} (h : W.ownsRow base 64 5 v l.length (rowS l)) : RwS W v l := by
  rcases h.2 with ⟨e0, e1⟩ | ⟨g, cap, cur, e0, hb, hg, hnc, hm, hs, ht⟩
  · have : l = [] := List.eq_nil_of_length_eq_zero e1
    subst this
    exact ⟨none, 0, e0, .inl ⟨rfl, rfl⟩⟩
  · refine ⟨some ⟨g, 0, none⟩, cap, e0, .inr ⟨g, 0, rfl, ?_⟩⟩
    intro j u hj
    have e : ∀ k, (⟨g, 0, none⟩ : Addr).add k = ⟨g, k, none⟩ := fun k => by unfold Addr.add; split <;> simp_all
    have f := h.cells (g := g) (by rw [e0]; rfl) j u hj
    rw [e] at f
    rw [Nat.zero_add]
    exact f
/-- Two segments that are made one, if no address lies between them. -/
def besV (F : Int) (a p : BitVec 128 × BitVec 128) : Option (BitVec 128 × BitVec 128) := if nextB F a.2 = true ∧ nextV F a.2 = p.1 then some (a.1, p.2) else none
def besH (o : Option (BitVec 128 × BitVec 128)) : Int := if o.isSome then 1 else 0
def besP (o : Option (BitVec 128 × BitVec 128)) : BitVec 128 × BitVec 128 := o.getD (0#128, 0#128)
set_option maxHeartbeats 4000000 in
theorem bes_any (F : Int) (ax an qx qn : BitVec 128) (B : Nat) (w : World) (hB : w.cell? ⟨B, 0, none⟩ = some (.int .i64 F)) :
    Calls Tryd.prog 96 #[.agg #[.int .u64 (hI ax), .int .u64 (lI ax), .int .u64 (hI an), .int .u64 (lI an), .int .i64 1], .agg #[.int .u64 (hI qx), .int .u64 (lI qx), .int .u64 (hI qn), .int .u64 (lI qn), .int .i64 1], .pointer (some ⟨B, 0, none⟩)] w fun e w' =>
      e = .returned (.tuple #[.agg #[.int .u64 (hI (besP (besV F (ax, an) (qx, qn))).1), .int .u64 (lI (besP (besV F (ax, an) (qx, qn))).1), .int .u64 (hI (besP (besV F (ax, an) (qx, qn))).2), .int .u64 (lI (besP (besV F (ax, an) (qx, qn))).2), .int .i64 (besH (besV F (ax, an) (qx, qn)))], .bool (besV F (ax, an) (qx, qn)).isSome]) ∧ Below w.heap.size w w' := by
  have KX := fun w => anext_any F an w
  have A1 := ats_new w w.heap.size ax an 1 64 rfl
  have A2 := ats_new (w.alloc (.cells #[.int .u64 (hI ax), .int .u64 (lI ax), .int .u64 (hI an), .int .u64 (lI an), .int .i64 1] 64)) (w.heap.size + 1) qx qn 1 64 (by simp)
  have A3 := ats_new ((w.alloc (.cells #[.int .u64 (hI ax), .int .u64 (lI ax), .int .u64 (hI an), .int .u64 (lI an), .int .i64 1] 64)).alloc (.cells #[.int .u64 (hI qx), .int .u64 (lI qx), .int .u64 (hI qn), .int .u64 (lI qn), .int .i64 1] 64)) (w.heap.size + 1 + 1) 0#128 0#128 0 64 (by simp)
  have A1 := (A1.below (bl1 _ (.cells #[.int .u64 (hI qx), .int .u64 (lI qx), .int .u64 (hI qn), .int .u64 (lI qn), .int .i64 1] 64))).below (bl1 _ (.cells #[.int .u64 (hI 0#128), .int .u64 (lI 0#128), .int .u64 (hI 0#128), .int .u64 (lI 0#128), .int .i64 0] 64))
  have A2 := A2.below (bl1 _ (.cells #[.int .u64 (hI 0#128), .int .u64 (lI 0#128), .int .u64 (hI 0#128), .int .u64 (lI 0#128), .int .i64 0] 64))
  have kB := keepb (bl1 _ (.cells #[.int .u64 (hI 0#128), .int .u64 (lI 0#128), .int .u64 (hI 0#128), .int .u64 (lI 0#128), .int .i64 0] 64)) (keepb (bl1 _ (.cells #[.int .u64 (hI qx), .int .u64 (lI qx), .int .u64 (hI qn), .int .u64 (lI qn), .int .i64 1] 64)) (bl1 w (.cells #[.int .u64 (hI ax), .int .u64 (lI ax), .int .u64 (hI an), .int .u64 (lI an), .int .i64 1] 64)))
  have hB3 := keepc kB hB
  have hs : (((w.alloc (.cells #[.int .u64 (hI ax), .int .u64 (lI ax), .int .u64 (hI an), .int .u64 (lI an), .int .i64 1] 64)).alloc (.cells #[.int .u64 (hI qx), .int .u64 (lI qx), .int .u64 (hI qn), .int .u64 (lI qn), .int .i64 1] 64)).alloc (.cells #[.int .u64 (hI 0#128), .int .u64 (lI 0#128), .int .u64 (hI 0#128), .int .u64 (lI 0#128), .int .i64 0] 64)).heap.size = w.heap.size + 1 + 1 + 1 := by simp
  have hZ : hI 0#128 = 0 ∧ lI 0#128 = 0 := ⟨by decide, by decide⟩
  rw [hZ.1, hZ.2] at A1 A2 A3 kB hB3 hs
  unfold besV
  have HA : Hid (AtS (((w.alloc (.cells #[.int .u64 (hI ax), .int .u64 (lI ax), .int .u64 (hI an), .int .u64 (lI an), .int .i64 1] 64)).alloc (.cells #[.int .u64 (hI qx), .int .u64 (lI qx), .int .u64 (hI qn), .int .u64 (lI qn), .int .i64 1] 64)).alloc (.cells #[.int .u64 0, .int .u64 0, .int .u64 0, .int .u64 0, .int .i64 0] 64)) w.heap.size ax an 1) := A1
  obtain ⟨-, -, x2, x3, -, -⟩ := A1
  have HA2 := Hid.mk' A2
  have HA3 := Hid.mk' A3
  have HkB := Hid.mk' kB
  clear A2 A3 kB hB
  by_cases c : nextB F an = true ∧ nextV F an = qx
  · rw [if_pos c]
    simp only [besP, besH, Option.getD, Option.isSome, if_true]
    obtain ⟨c1, c2⟩ := c
    rw [c1, c2] at KX
    go_enter Tryd.func96, Tryd.ntmps96
    go_wp2_with fail
    refine (KX _).mono ?_
    rintro e w4 ⟨rfl, hb⟩
    have A1 := HA.out.below hb
    have A2 := HA2.out.below hb
    have A3 := HA3.out.below hb
    have kB4 := keepb hb HkB.out
    have hs4 : w.heap.size + 1 + 1 + 1 ≤ w4.heap.size := by rw [← hs]; exact hb.size
    clear hb HA HA2 HA3 HkB x2 x3 hB3 hs KX
    clear c1 c2
    have A4 := at_new w4 w4.heap.size qx 24 rfl
    have b4 := bl1 w4 (.cells #[.int .u64 (hI qx), .int .u64 (lI qx)] 24)
    obtain ⟨p0, p1, p2, p3, p4, -, -, -, -, -⟩ := A1.below b4
    obtain ⟨r0, r1, r2, r3, r4, -, -, -, -, -⟩ := A2.below b4
    have A3 := A3.below b4
    obtain ⟨z0, z1, z2, z3, z4, z5, z6, z7, z8, z9⟩ := id A3
    obtain ⟨y0, y1, -, -⟩ := id A4
    have kB5 := keepb b4 kB4
    have hE := fun w => eqW_run qx qx w
    clear A1 A2 b4 kB4 A4
    have hE2 : (qx == qx) = true := by simp
    rw [hE2] at hE
    have kB6 := bset5 kB5 (show w.heap.size ≤ w.heap.size + 1 + 1 by omega) (.int .u64 (hI ax)) (.int .u64 (lI ax)) (.int .u64 (hI qn)) (.int .u64 (lI qn)) (.int .i64 1)
    obtain ⟨s0, s1, s2, s3, s4, -⟩ := A3.set ax qn 1
    unfold set5 at kB6 s0 s1 s2 s3 s4
    clear A3 kB5
    go_wp2
    exact bodyPost_ret (v := .tuple #[.agg #[.int .u64 (hI ax), .int .u64 (lI ax), .int .u64 (hI qn), .int .u64 (lI qn), .int .i64 1], .bool true]) (by simp [results, Tryd.results96, go_sem, s0, s1, s2, s3, s4]) rfl ⟨rfl, kB6⟩
  · rw [if_neg c]
    simp only [besP, besH, Option.getD, Option.isSome]
    rw [hZ.1, hZ.2]
    have hcn : nextB F an = true → (nextV F an == qx) = false := fun h => by simpa using fun e => c ⟨h, e⟩
    clear c
    go_enter Tryd.func96, Tryd.ntmps96
    go_wp2_with fail
    refine (KX _).mono ?_
    rintro e w4 ⟨rfl, hb⟩
    have A1 := HA.out.below hb
    have A2 := HA2.out.below hb
    have A3 := HA3.out.below hb
    have kB4 := keepb hb HkB.out
    have hs4 : w.heap.size + 1 + 1 + 1 ≤ w4.heap.size := by rw [← hs]; exact hb.size
    clear hb HA HA2 HA3 HkB x2 x3 hB3 hs KX
    generalize nextV F an = y at *
    generalize nextB F an = nb at *
    have A4 := at_new w4 w4.heap.size y 24 rfl
    have b4 := bl1 w4 (.cells #[.int .u64 (hI y), .int .u64 (lI y)] 24)
    obtain ⟨p0, p1, p2, p3, p4, -, -, -, -, -⟩ := A1.below b4
    obtain ⟨r0, r1, r2, r3, r4, -, -, -, -, -⟩ := A2.below b4
    have A3 := A3.below b4
    obtain ⟨z0, z1, z2, z3, z4, z5, z6, z7, z8, z9⟩ := id A3
    obtain ⟨y0, y1, -, -⟩ := id A4
    have kB5 := keepb b4 kB4
    have hE := fun w => eqW_run y qx w
    clear A1 A2 b4 kB4 A4
    have HA3 := Hid.mk' A3
    have HkB := Hid.mk' kB5
    have HZ := Hid.mk' hZ
    rw [hZ.1] at z0 z2
    rw [hZ.2] at z1 z3
    clear A3 kB5 hZ
    cases nb with
    | false =>
      clear hcn hE
      go_wp2
      have kB6 := bset5 HkB.out (show w.heap.size ≤ w.heap.size + 1 + 1 by omega) (.int .u64 0) (.int .u64 0) (.int .u64 0) (.int .u64 0) (.int .i64 0)
      have A3' := HA3.out.set 0#128 0#128 0
      unfold AtS at A3'
      rw [HZ.out.1, HZ.out.2] at A3'
      obtain ⟨s0, s1, s2, s3, s4, -⟩ := A3'
      unfold set5 at kB6 s0 s1 s2 s3 s4
      exact bodyPost_ret (v := .tuple #[.agg #[.int .u64 0, .int .u64 0, .int .u64 0, .int .u64 0, .int .i64 0], .bool false]) (by simp [results, Tryd.results96, go_sem, s0, s1, s2, s3, s4]) rfl ⟨rfl, kB6⟩
    | true =>
      rw [hcn rfl] at hE
      clear hcn
      go_wp2
      have kB6 := bset5 HkB.out (show w.heap.size ≤ w.heap.size + 1 + 1 by omega) (.int .u64 0) (.int .u64 0) (.int .u64 0) (.int .u64 0) (.int .i64 0)
      have A3' := HA3.out.set 0#128 0#128 0
      unfold AtS at A3'
      rw [HZ.out.1, HZ.out.2] at A3'
      obtain ⟨s0, s1, s2, s3, s4, -⟩ := A3'
      unfold set5 at kB6 s0 s1 s2 s3 s4
      exact bodyPost_ret (v := .tuple #[.agg #[.int .u64 0, .int .u64 0, .int .u64 0, .int .u64 0, .int .i64 0], .bool false]) (by simp [results, Tryd.results96, go_sem, s0, s1, s2, s3, s4]) rfl ⟨rfl, kB6⟩
end Go.Proofs.YtkgfeegcdohkdaaDoor
