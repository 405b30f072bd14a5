/-
  Part 19 of the proof: 4 texts, one behind the other.
-/
import Derived.Test.YtkgfeegcdohkdaaDoorPart17
import Derived.Test.YtkgfeegcdohkdaaDoorPart18
import Derived.Test.YtkgfeegcdohkdaaDoorPart16
import Derived.Laws.OwnMore
import Derived.Test.YtkgfeegcdohkdaaDoorPart4
import Derived.Test.YtkgfeegcdohkdaaDoorPart6
/-
  Rows of the call's own, one of them written while the others stay.
-/
namespace Go.Proofs.YtkgfeegcdohkdaaDoor
open Go.RowKit
set_option linter.unusedSimpArgs false
set_option linter.unusedVariables false

/-- A row stays where another block changes. -/
theorem own_grown {w w' : World} {base e size n : Nat} {v : Value} {xs : List Value} {r : Option Nat} (h : w.ownsRow base e size v n xs) (hg : w.grownBy w' r) (hn : ∀ z, r = some z → v.ownBlock ≠ some z) : w'.ownsRow base e size v n xs := by
  refine ⟨h.1, ?_⟩
  rcases h.2 with hv | ⟨g, cap, cur, rfl, hb, hgg, rest⟩
  · exact .inl hv
  · refine .inr ⟨g, cap, cur, rfl, hb, ?_, rest⟩
    rw [← hgg]
    refine hg.block g ?_ ?_
    · exact (h.lt g (by simp [Value.ownBlock])).2
    · intro e
      exact hn g e.symm (by simp [Value.ownBlock])
theorem grown_set (W : World) (g j : Nat) (u : Value) : W.grownBy (W.setCell ⟨g, j, none⟩ u) (some g) := ⟨rfl, rfl, rfl, by simp, fun k _ hk => heap_setCell_other W ⟨g, j, none⟩ k u (fun e => hk (by simp [e]))⟩
/-- Where a row's block lies. -/
def In (v : Value) (a b : Nat) : Prop := ∀ z, v.ownBlock = some z → a ≤ z ∧ z < b
theorem In.ne {v u : Value} {a b c d : Nat} (h1 : In v a b) (h2 : In u c d) (h : b ≤ c ∨ d ≤ a) {z : Nat} (hz : v.ownBlock = some z) : u.ownBlock ≠ some z := by
  intro e
  have := h1 z hz
  have := h2 z e
  omega
theorem In.wide {v : Value} {a b c d : Nat} (h : In v a b) (h1 : c ≤ a) (h2 : b ≤ d) : In v c d := fun z hz => by
  have := h z hz
  omega
theorem own_in {w : World} {base e size n : Nat} {v : Value} {xs : List Value} (h : w.ownsRow base e size v n xs) : In v base w.heap.size := h.lt
/-- The rows that must stay. -/
def K5 (w : World) (vm vb vd vB vD : Value) (L G : List (BitVec 128 × Int)) (R : List (BitVec 128 × BitVec 128)) (W : World) : Prop :=
  W.ownsRow w.heap.size 26 3 vm L.length (rowP L) ∧ W.ownsRow w.heap.size 26 3 vb G.length (rowP G) ∧ W.ownsRow w.heap.size 64 5 vd R.length (rowS R) ∧ W.ownsRow w.heap.size 26 3 vB G.length (rowP G) ∧ W.ownsRow w.heap.size 64 5 vD R.length (rowS R) ∧ Below w.heap.size w W
def A5 (vm vb vd vB vD : Value) (z : Nat) : Prop := vm.ownBlock ≠ some z ∧ vb.ownBlock ≠ some z ∧ vd.ownBlock ≠ some z ∧ vB.ownBlock ≠ some z ∧ vD.ownBlock ≠ some z
theorem K5.grown {w W W' : World} {vm vb vd vB vD : Value} {L G : List (BitVec 128 × Int)} {R : List (BitVec 128 × BitVec 128)} {r : Option Nat} (h : K5 w vm vb vd vB vD L G R W) (hg : W.grownBy W' r) (hr : ∀ z, r = some z → A5 vm vb vd vB vD z ∧ w.heap.size ≤ z) : K5 w vm vb vd vB vD L G R W' := by
  obtain ⟨h1, h2, h3, h4, h5, h6⟩ := h
  exact ⟨own_grown h1 hg fun z e => (hr z e).1.1, own_grown h2 hg fun z e => (hr z e).1.2.1, own_grown h3 hg fun z e => (hr z e).1.2.2.1, own_grown h4 hg fun z e => (hr z e).1.2.2.2.1, own_grown h5 hg fun z e => (hr z e).1.2.2.2.2, h6.grown hg h6.size fun z e => (hr z e).2⟩
theorem K5.alloc {w W : World} {vm vb vd vB vD : Value} {L G : List (BitVec 128 × Int)} {R : List (BitVec 128 × BitVec 128)} (h : K5 w vm vb vd vB vD L G R W) (o : Obj) : K5 w vm vb vd vB vD L G R (W.alloc o) := h.grown (World.grownBy_alloc W o none) fun z e => by cases e
theorem K5.below {w W W' : World} {vm vb vd vB vD : Value} {L G : List (BitVec 128 × Int)} {R : List (BitVec 128 × BitVec 128)} (h : K5 w vm vb vd vB vD L G R W) (hb : Below W.heap.size W W') : K5 w vm vb vd vB vD L G R W' := by
  obtain ⟨h1, h2, h3, h4, h5, h6⟩ := h
  exact ⟨own_below hb h1, own_below hb h2, own_below hb h3, own_below hb h4, own_below hb h5, keepb hb h6⟩
theorem K5.set {w W : World} {vm vb vd vB vD : Value} {L G : List (BitVec 128 × Int)} {R : List (BitVec 128 × BitVec 128)} {g : Nat} (h : K5 w vm vb vd vB vD L G R W) (ha : A5 vm vb vd vB vD g) (hg : w.heap.size ≤ g) (j : Nat) (u : Value) : K5 w vm vb vd vB vD L G R (W.setCell ⟨g, j, none⟩ u) :=
  h.grown (grown_set W g j u) fun z e => by cases e; exact ⟨ha, hg⟩
theorem K5.fresh {w W : World} {vm vb vd vB vD : Value} {L G : List (BitVec 128 × Int)} {R : List (BitVec 128 × BitVec 128)} (h : K5 w vm vb vd vB vD L G R W) : A5 vm vb vd vB vD W.heap.size := by
  obtain ⟨h1, h2, h3, h4, h5, h6⟩ := h
  refine ⟨?_, ?_, ?_, ?_, ?_⟩
  · intro e; have := (h1.lt _ e).2; omega
  · intro e; have := (h2.lt _ e).2; omega
  · intro e; have := (h3.lt _ e).2; omega
  · intro e; have := (h4.lt _ e).2; omega
  · intro e; have := (h5.lt _ e).2; omega
/-- A row's cells are there, and may be written. -/
theorem own_cell {W : World} {base e size n g cap : Nat} {xs : List Value} (h : W.ownsRow base e size (.slice (some ⟨g, 0, none⟩) n cap) n xs) (j : Nat) (hj : j < n * size) : (∃ u, W.cell? ⟨g, j, none⟩ = some u) ∧ W.frozen? ⟨g, j, none⟩ = false := by
  rcases h.2 with ⟨h', _⟩ | ⟨g', cap', cur, h', hb, hg, hnc, hcm, hcs, htake⟩
  · cases h'
  · simp only [Value.slice.injEq, Option.some.injEq, Addr.mk.injEq, and_true, true_and] at h'
    obtain ⟨rfl, rfl⟩ := h'
    have hs : j < cur.size := by
      rw [hcs]
      exact Nat.lt_of_lt_of_le hj (Nat.mul_le_mul_right _ hnc)
    refine ⟨⟨cur[j], ?_⟩, ?_⟩
    · simp [World.cell?, hg, hs]
    · simp [World.frozen?, hg]
theorem own_stored {W : World} {base e size n g cap : Nat} (h : ∃ xs, W.ownsRow base e size (.slice (some ⟨g, 0, none⟩) n cap) n xs) (j : Nat) (u : Value) : ∃ xs, (W.setCell ⟨g, j, none⟩ u).ownsRow base e size (.slice (some ⟨g, 0, none⟩) n cap) n xs := by
  obtain ⟨xs, h⟩ := h
  exact ⟨_, (h.stored j u).1⟩
theorem own_other {W : World} {base e size n : Nat} {v : Value} {g : Nat} (h : ∃ xs, W.ownsRow base e size v n xs) (hn : v.ownBlock ≠ some g) (j : Nat) (u : Value) : ∃ xs, (W.setCell ⟨g, j, none⟩ u).ownsRow base e size v n xs := by
  obtain ⟨xs, h⟩ := h
  exact ⟨xs, own_grown h (grown_set W g j u) fun z e => by cases e; exact hn⟩
theorem rowP_set (L : List (BitVec 128 × Int)) (k : Nat) (q : BitVec 128 × Int) : (((rowP L).set (k * 3) (.int .u64 (hI q.1))).set (k * 3 + 1) (.int .u64 (lI q.1))).set (k * 3 + 2) (.int .i64 q.2) = if k < L.length then rowP (L.set k q) else rowP L := by
  induction L generalizing k with
  | nil => simp [rowP]
  | cons p L ih =>
    cases k with
    | zero => simp [rowP]
    | succ k =>
      have := ih k
      rw [show (k + 1) * 3 = k * 3 + 1 + 1 + 1 by omega, show k * 3 + 1 + 1 + 1 + 1 = k * 3 + 1 + 1 + 1 + 1 by omega, show k * 3 + 1 + 1 + 1 + 2 = k * 3 + 2 + 1 + 1 + 1 by omega]
      simp only [rowP, List.set_cons_succ, List.length_cons, Nat.add_lt_add_iff_right]
      rw [this]
      split <;> rfl
theorem eqS_run (x y : BitVec 128) (w : World) :
    (Op.equalIn 10000 64 (.agg #[.int .u64 (hI x), .int .u64 (lI x), .int .u64 (hI y), .int .u64 (lI y), .int .i64 1]) (.agg #[.int .u64 (hI x), .int .u64 (lI x), .int .u64 (hI y), .int .u64 (lI y), .int .i64 1])).run Tryd.prog w = .ok true w := by
  go_simp
/-- The sibling of a prefix, or the prefix where it has none, is right. -/
theorem sib_rp {F : Int} {p : BitVec 128 × Int} (hF : F ≤ 128) (h : Rp F p) (hn : 0 < p.2) : Rp F (sibV p.1 p.2, sibN p.2) := by
  have n3 : sibN p.2 = p.2 := by unfold sibN; rw [if_neg (by omega)]
  have h2 := h.2.1
  rw [n3]
  refine ⟨h.1, h.2.1, ?_⟩
  show cutW (sibV p.1 p.2) p.2 = sibV p.1 p.2
  unfold sibV
  rw [if_neg (by omega)]
  apply BitVec.eq_of_getLsbD_eq
  intro j hj
  rw [cut_bit _ _ _ hj, BitVec.getLsbD_xor, bit1_bit (p.2 - 1) (by omega) j hj]
  by_cases c : 128 - p.2.toNat ≤ j
  · rw [decide_eq_true c]; simp
  · rw [decide_eq_false c, rt_bit F p.1 p.2 h j hj (by omega)]
    have : decide ((j : Int) = 127 - (p.2 - 1)) = false := by simp; omega
    rw [this]; rfl
/-- What the call of Merge does with a list of right prefixes: the row is the caller's own. -/
theorem merge_o (F : Int) (v : Value) (l : List (BitVec 128 × Int)) (w : World) (hv : Rw w v l) (hl : l.length ≤ 1000000000) (ff : fam F = true) (hR : ∀ x ∈ l, Rp F x) :
    Calls Tryd.prog 22 #[.int .i64 F, v] w fun e w' => (∃ v', e = .returned (.tuple #[v', .int .i64 0]) ∧ w'.ownsRow w.heap.size 26 3 v' (ptAll [] (sortL l)).reverse.length (rowP (ptAll [] (sortL l)).reverse)) ∧ Below w.heap.size w w' := by
  refine (merge_any F v l w hv hl (chk_rp F l ff hR)).mono ?_
  rintro e w' ⟨⟨v', rfl, h⟩, hb⟩
  exact ⟨⟨v', rfl, by rw [List.length_reverse]; exact h⟩, hb⟩
/-- What the call of Rows does with a list of right prefixes. -/
theorem rows_rp (F : Int) (v : Value) (l : List (BitVec 128 × Int)) (w : World) (hv : Rw w v l) (hl : l.length ≤ 1000000000) (ff : fam F = true) (hR : ∀ x ∈ l, Rp F x) :
    Calls Tryd.prog 26 #[.int .i64 F, v] w fun e w' => (∃ v', e = .returned (.tuple #[v', .int .i64 0]) ∧ w'.ownsRow w.heap.size 64 5 v' (psAll F [] (segL F (ptAll [] (sortL l)).reverse)).reverse.length (rowS (psAll F [] (segL F (ptAll [] (sortL l)).reverse)).reverse)) ∧ Below w.heap.size w w' := by
  have hle := ptAll_le (sortL l) []
  rw [sortL_len] at hle
  refine (rows_any F v l (ptAll [] (sortL l)).reverse w (by rw [List.length_reverse]; simp at hle; omega) (fun w hv => ?_) hv).mono ?_
  · refine (merge_any F v l w hv hl (chk_rp F l ff hR)).mono ?_
    rintro e w' ⟨⟨v', rfl, h⟩, hb⟩
    exact ⟨⟨v', rfl, own_rw (by rw [List.length_reverse]; exact h)⟩, hb⟩
  · rintro e w' ⟨⟨v', rfl, h⟩, hb⟩
    exact ⟨⟨v', rfl, by rw [List.length_reverse]; exact h⟩, hb⟩
end Go.Proofs.YtkgfeegcdohkdaaDoor
/-
  What RangeSays wants of plain facts.
-/
namespace Go.Proofs.YtkgfeegcdohkdaaDoor
open Go.RowKit
set_option linter.unusedSimpArgs false
set_option linter.unusedVariables false

theorem hasL_hs {F : Int} (hF : F ≤ 128) (l : List (BitVec 128 × Int)) (hl : ∀ p ∈ l, Rp F p) (y : BitVec 128) : hasL l y = true ↔ ∃ p ∈ l, Hs p y := by
  unfold hasL
  rw [List.any_eq_true]
  constructor
  · rintro ⟨p, hp, h⟩
    have r := hl p hp
    have r2 : p.2 ≤ F := r.2.1
    rw [has_eq p.1 p.2 y r.1 (by omega) r.2.2] at h
    exact ⟨p, hp, by simpa [Hs] using h⟩
  · rintro ⟨p, hp, h⟩
    have r := hl p hp
    have r2 : p.2 ≤ F := r.2.1
    exact ⟨p, hp, by rw [has_eq p.1 p.2 y r.1 (by omega) r.2.2]; simpa [Hs] using h⟩
theorem merge_has {F : Int} (hF : F ≤ 128) (l : List (BitVec 128 × Int)) (hl : ∀ p ∈ l, Rp F p) (y : BitVec 128) : hasL (ptAll [] (sortL l)).reverse y = hasL l y := by
  have hm : ∀ p ∈ (ptAll [] (sortL l)).reverse, Rp F p := fun p hp => ptAll_rp hF (sortL l) [] (fun a ha => by cases ha) (fun a ha => hl a (sortL_mem.mp ha)) p (by simpa using hp)
  rw [Bool.eq_iff_iff, hasL_hs hF _ hm y, hasL_hs hF _ hl y, merge_hs hF y l hl]
def ssB (s : BitVec 128 × BitVec 128) (y : BitVec 128) : Bool := decide (cmpZ s.1 y ≤ 0) && decide (cmpZ y s.2 ≤ 0)
def inL (R : List (BitVec 128 × BitVec 128)) (y : BitVec 128) : Bool := R.any fun s => ssB s y
theorem in_take (R : List (BitVec 128 × BitVec 128)) (y : BitVec 128) (k : Nat) (hk : k < R.length) : inL (R.take (k + 1)) y = (inL (R.take k) y || ssB R[k] y) := by
  unfold inL
  rw [List.take_succ_eq_append_getElem hk, List.any_append]
  simp
theorem rows_in {F : Int} (hF : F ≤ 128) (m : List (BitVec 128 × Int)) (hm : ∀ p ∈ m, Rp F p) (y : BitVec 128) (hy : cutW y F = y) : inL (psAll F [] (segL F m)).reverse y = hasL m y := by
  rw [Bool.eq_iff_iff, hasL_hs hF m hm y, ← rows_ss m hm y hy]
  unfold inL
  rw [List.any_eq_true]
  constructor
  · rintro ⟨s, hs, h⟩
    refine ⟨s, hs, ?_⟩
    unfold ssB at h
    simp only [Bool.and_eq_true, decide_eq_true_iff, cmp_le] at h
    exact h
  · rintro ⟨s, hs, h⟩
    refine ⟨s, hs, ?_⟩
    unfold ssB
    simp only [Bool.and_eq_true, decide_eq_true_iff, cmp_le]
    exact h
theorem ns_get : ∀ (l : List (BitVec 128 × Int)), NS l → ∀ (j : Nat) (h : j + 1 < l.length), uniV l[j] l[j + 1] = none := by
  intro l
  induction l with
  | nil => intro _ j h; simp at h
  | cons p l ih =>
    intro hn j h
    cases l with
    | nil => simp at h
    | cons q l =>
      cases j with
      | zero => exact hn.1
      | succ j => exact ih hn.2 j (by simpa using h)
theorem says_adj {F : Int} (hF : F ≤ 128) (m : List (BitVec 128 × Int)) (hm : ∀ p ∈ m, Rp F p) (hb : m.Pairwise Bf) (hn : NS m) (j : Nat) (h : j + 1 < m.length) :
    pcmpZ m[j].1 m[j].2 m[j + 1].1 m[j + 1].2 < 0 ∧ rwithinB m[j + 1].1 m[j + 1].2 m[j].1 m[j].2 = false ∧ (0 < m[j].2 → ((sibV m[j].1 m[j].2 == m[j + 1].1) && (sibN m[j].2 == m[j + 1].2)) = false) := by
  have r := hm m[j] (List.getElem_mem _)
  have r2 : m[j].2 ≤ F := r.2.1
  have u := ns_get m hn j h
  have bf : Bf m[j] m[j + 1] := List.pairwise_iff_getElem.mp hb j (j + 1) (by omega) h (by omega)
  refine ⟨?_, ?_, ?_⟩
  · have lt := bf_lt bf
    have a := (pcmp_le m[j].1 m[j].2 m[j + 1].1 m[j + 1].2).mpr (.inl lt)
    have b : ¬ pcmpZ m[j].1 m[j].2 m[j + 1].1 m[j + 1].2 = 0 := fun e => by
      have := ((pcmp_eq0 _ _ _ _).mp e).1
      rw [this] at lt
      omega
    omega
  · rw [within_eq _ _ _ _ r.1 (by omega) r.2.2]
    cases e : withinB m[j + 1].1 m[j + 1].2 m[j].1 m[j].2 with
    | false => rfl
    | true => exact absurd ((wi_iff _ _).mp e) (uni_no u)
  · intro hp
    unfold uniV at u
    split at u
    · cases u
    · split at u
      · cases u
      · rename_i c
        cases e1 : (sibV m[j].1 m[j].2 == m[j + 1].1) with
        | false => rfl
        | true =>
          cases e2 : (sibN m[j].2 == m[j + 1].2) with
          | false => rfl
          | true => exact absurd ⟨hp, by simpa using e1, by simpa using e2⟩ c
end Go.Proofs.YtkgfeegcdohkdaaDoor
/-
  The walk of Qt under a cover that no reckoning opens: for regions in which operations are passed over.
-/
namespace Go.Proofs.YtkgfeegcdohkdaaDoor
open Go.RowKit
set_option linter.unusedSimpArgs false
set_option linter.unusedVariables false

structure QW (P : Program) (ops : Array Oper) (C : World → Prop) (Q : Act → Prop) (l : List Oper) (a : Act) : Prop where
  out : wpQuiet P ops C Q l a
theorem qw_run {P : Program} {ops : Array Oper} {C : World → Prop} {Q : Act → Prop} {a : Act} {o : Oper} {rest : List Oper} {v : Value}
    (hw : Region.wanted o (yielded ops a.tmps) = true) (h : ∀ w, C w → (execOp a.eval o).run P w = .ok (.value v) w) (k : QW P ops C Q rest (a.put o.dst v)) : QW P ops C Q (o :: rest) a := ⟨q_run hw h k.out⟩
theorem qw_skip {P : Program} {ops : Array Oper} {C : World → Prop} {Q : Act → Prop} {a : Act} {o : Oper} {rest : List Oper}
    (hw : Region.wanted o (yielded ops a.tmps) = false) (k : QW P ops C Q rest (a.put o.dst undef)) : QW P ops C Q (o :: rest) a := ⟨q_skip hw k.out⟩
theorem qw_call {P : Program} {ops : Array Oper} {C : World → Prop} {Q : Act → Prop} {a : Act} {o : Oper} {rest : List Oper} {v : Value} {f : FuncId} {args : Array Value}
    (hw : Region.wanted o (yielded ops a.tmps) = true) (h : ∀ w, C w → (execOp a.eval o).run P w = .ok (.enter f args) w) (hc : ∀ w, C w → Calls P f args w fun e w' => e = .returned v ∧ C w') (k : QW P ops C Q rest (a.put o.dst v)) : QW P ops C Q (o :: rest) a := ⟨q_call hw h hc k.out⟩
theorem qw_nil {P : Program} {ops : Array Oper} {C : World → Prop} {Q : Act → Prop} {a : Act} (h : Q a) : QW P ops C Q [] a := ⟨wpQuiet_nil h⟩
theorem qw_region {P : Program} {C : World → Prop} {id : Nat} {Q : Exit → Act → World → Prop} {a : Act} {w : World} {l : List Oper} (hm : P.follows .mixedOrders = true) (hB : Region.lexB .any l.toArray = true) (hC : C w.drew)
    (h : QW P l.toArray C (fun a' => ∀ w', C w' → Q .normal a' w') l a) : (Code.region id l.toArray true).wp P Q a w := q_region hm hB hC h.out
end Go.Proofs.YtkgfeegcdohkdaaDoor
/-
  What the call of turnpikeref4's check does; insertion, plain.
-/
namespace Go.Proofs.YtkgfeegcdohkdaaDoor
open Go.RowKit
set_option linter.unusedSimpArgs false
set_option linter.unusedVariables false

theorem rw_rv {W : World} {v : Value} {l : List (BitVec 128 × Int)} (h : Rw W v l) : Rv W v l := by
  obtain ⟨ao, c, e, h⟩ := h
  refine ⟨ao, c, e, ?_⟩
  rcases h with ⟨-, h⟩ | h
  · exact .inl h
  · exact .inr h
set_option maxHeartbeats 2000000 in
theorem rchk_any (F : Int) (v : Value) (l : List (BitVec 128 × Int)) (w : World) (hv : Rv w v l) (hl : l.length ≤ 1000000000) :
    Calls Tryd.prog 66 #[.int .i64 F, v] w fun e w' => e = .returned (.int .i64 (chkE F l)) ∧ Below w.heap.size w w' := by
  obtain ⟨ao, c, rfl, hv⟩ := hv
  have KL := fun w => isFamily_any F w
  unfold chkE
  cases hf : fam F
  · rw [hf] at KL
    rw [if_neg (by simp)]
    clear hf hv hl
    go_enter Tryd.func66, Tryd.ntmps66
    go_wp2_with fail
    refine (KL _).mono ?_
    rintro e w1 ⟨rfl, rfl⟩
    clear KL
    go_wp2
    go_ret
    exact ⟨rfl, Below.refl _ _⟩
  · rw [hf] at KL
    rw [if_pos rfl]
    have HV : Hid (l = [] ∨ ∃ b off, ao = some ⟨b, off, none⟩ ∧ ∀ j u, (rowP l)[j]? = some u → w.cell? ⟨b, off + j, none⟩ = some u) := hv
    clear hf hv
    go_enter Tryd.func66, Tryd.ntmps66
    go_wp2_with fail
    refine (KL _).mono ?_
    rintro e w1 ⟨rfl, h1⟩
    rw [h1]
    clear KL h1 w1
    go_wp2_with fail
    go_loopw [5] (fun i wr => ∃ k : Nat, k ≤ l.length ∧ i = .int .i64 k ∧ Hid (chkG F (l.drop k) = chkG F l) ∧ Below w.heap.size w wr) (fun i _ => l.length - (intOf i).toNat)
    case atStart => exact ⟨0, by omega, rfl, (rfl : chkG F (l.drop 0) = chkG F l), Below.refl _ _⟩
    case round =>
      obtain ⟨k, hk, rfl, hG, hB⟩ := hrel
      by_cases hlt : (k : Int) < (l.length : Int)
      · have hks : k < l.length := by omega
        rcases HV.out with h | ⟨b, off, rfl, hc⟩
        · rw [h] at hks; simp at hks
        · obtain ⟨x0, x1, x2⟩ := rw_cells hc k hks
          have x0 := keepc hB x0
          have x1 := keepc hB x1
          have x2 := keepc hB x2
          have KC := fun w => rcheck_any F l[k].1 l[k].2 w
          have HD := Hid.mk' (chk_drop F l k hks)
          clear hc HV
          revert KC HD
          generalize checkE F l[k].1 l[k].2 = ce
          generalize l[k].1 = px at *
          generalize l[k].2 = pn at *
          intro KC HD
          go_wp2_with fail
          refine (KC _).mono ?_
          rintro e w2 ⟨rfl, hb⟩
          have kB := keepb hb hB
          clear hb hB KC x0 x1 x2
          have mk : IntKind.i64.wrap ((k : Int) + 1) = (k : Int) + 1 := by rw [IntKind.wrap_i64]; omega
          by_cases hce : ce = 0
          · subst hce
            go_wp2
            go_roundw
            case rel =>
              refine ⟨k + 1, by omega, by go_num, ?_, kB⟩
              show chkG F (l.drop (k + 1)) = chkG F l
              rw [← hG.out, HD.out]; simp
            case measure => simp [intOf]; omega
          · have hcb : (ce != 0) = true := by simp [hce]
            have HE : Hid (chkG F l = ce) := by show _ = _; rw [← hG.out, HD.out, if_neg hce]
            go_wp2
            go_ret
            exact ⟨by rw [HE.out]; rfl, kB⟩
      · have hd : ¬ k < l.length := by omega
        have HE : Hid (chkG F l = 0) := by
          show _ = _
          rw [← hG.out, List.drop_eq_nil_of_le (by omega)]; rfl
        go_wp2
        go_ret
        exact ⟨by rw [HE.out]; rfl, hB⟩
theorem le_anti {p q : BitVec 128 × Int} (h : Le p q) (g : Le q p) : p = q := by
  rcases h with h | ⟨h1, h2⟩ <;> rcases g with g | ⟨g1, g2⟩
  · omega
  · rw [g1] at h; omega
  · rw [h1] at g; omega
  · exact Prod.ext h1 (by omega)
/-- Two lists in order of the same elements are one. -/
theorem sorted_one : ∀ (s t : List (BitVec 128 × Int)), s.Pairwise Le → t.Pairwise Le → s.Perm t → s = t := by
  intro s
  induction s with
  | nil => intro t _ _ h; exact (List.Perm.nil_eq h)
  | cons a s ih =>
    intro t hs ht h
    cases t with
    | nil => exact absurd h.length_eq (by simp)
    | cons b t =>
      have hs' := List.pairwise_cons.mp hs
      have ht' := List.pairwise_cons.mp ht
      have e : a = b := by
        have h1 : Le b a := by
          rcases List.mem_cons.mp (h.subset (List.mem_cons_self ..)) with e | e
          · rw [e]; exact .inr ⟨rfl, Int.le_refl _⟩
          · exact ht'.1 a e
        have h2 : Le a b := by
          rcases List.mem_cons.mp (h.symm.subset (List.mem_cons_self ..)) with e | e
          · rw [e]; exact .inr ⟨rfl, Int.le_refl _⟩
          · exact hs'.1 b e
        exact le_anti h2 h1
      subst e
      rw [ih t hs'.2 ht'.2 (List.Perm.cons_inv h)]
/-- One more laid in where it belongs. -/
theorem ins_ok {S : List (BitVec 128 × Int)} {x : BitVec 128 × Int} (hS : S.Pairwise Le) (a : Nat) (ha : a ≤ S.length) (h1 : ∀ q ∈ S.drop a, Le x q) (h2 : ∀ (h : 0 < a), Le (S[a - 1]'(by omega)) x) : (S.take a ++ x :: S.drop a).Pairwise Le ∧ (S.take a ++ x :: S.drop a).Perm (S ++ [x]) := by
  have hsplit : S = S.take a ++ S.drop a := (List.take_append_drop a S).symm
  constructor
  · have hp := hS
    rw [hsplit, List.pairwise_append] at hp
    rw [List.pairwise_append]
    refine ⟨hp.1, List.pairwise_cons.mpr ⟨h1, hp.2.1⟩, ?_⟩
    intro p hp1 q hq
    have hpx : Le p x := by
      obtain ⟨i, hi, rfl⟩ := List.mem_iff_getElem.mp hp1
      have hi' : i < a := by simp at hi; omega
      have hl := h2 (by omega)
      rw [List.getElem_take]
      by_cases c : i = a - 1
      · subst c; exact hl
      · exact le_trans' (List.pairwise_iff_getElem.mp hS i (a - 1) (by omega) (by omega) (by omega)) hl
    rcases List.mem_cons.mp hq with rfl | hq
    · exact hpx
    · exact hp.2.2 p hp1 q hq
  · have e : S ++ [x] = S.take a ++ (S.drop a ++ [x]) := by rw [← List.append_assoc, List.take_append_drop]
    rw [e]
    exact List.Perm.append_left _ (List.perm_append_singleton x (S.drop a)).symm
theorem sortL_unique (l S : List (BitVec 128 × Int)) (h : S.Pairwise Le) (hp : S.Perm l) : S = sortL l :=
  sorted_one S (sortL l) h (sortL_le l) (hp.trans (List.mergeSort_perm l _).symm)
end Go.Proofs.YtkgfeegcdohkdaaDoor
