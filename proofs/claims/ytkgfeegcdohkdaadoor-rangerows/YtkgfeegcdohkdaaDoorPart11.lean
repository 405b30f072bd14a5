/-
  Part 11 of the proof: 3 texts, one behind the other.
-/
import Derived.Test.YtkgfeegcdohkdaaDoorPart10
import Derived.Test.YtkgfeegcdohkdaaDoorShelfG
import Derived.Shelf.SlSortCmp.NoneTotal
import Derived.Shelf.SlicesE.Clone
import Derived.Lib.OwnBridge
import Derived.Test.YtkgfeegcdohkdaaDoorPart4
/-
  Lists that are the same, the chapter's first example, and the law RangeCovers, walked.
-/
namespace Go.Proofs.YtkgfeegcdohkdaaDoor
open Go.RowKit
set_option linter.unusedSimpArgs false
set_option linter.unusedVariables false

theorem rowP_len : ∀ l, (rowP l).length = l.length * 3 := by
  intro l
  induction l with
  | nil => rfl
  | cons p l ih => simp only [rowP, List.length_cons, ih]; omega
theorem rowP_get : ∀ (l : List (BitVec 128 × Int)) (j : Nat) (hj : j < l.length), (rowP l)[j * 3]? = some (.int .u64 (hI l[j].1)) ∧ (rowP l)[j * 3 + 1]? = some (.int .u64 (lI l[j].1)) ∧ (rowP l)[j * 3 + 2]? = some (.int .i64 l[j].2) := by
  intro l
  induction l with
  | nil => intro j hj; simp at hj
  | cons p l ih =>
    intro j hj
    cases j with
    | zero => simp [rowP]
    | succ j =>
      have := ih j (by simpa using hj)
      rw [show (j + 1) * 3 = j * 3 + 3 by omega, show j * 3 + 3 + 1 = j * 3 + 1 + 3 by omega, show j * 3 + 3 + 2 = j * 3 + 2 + 3 by omega]
      simpa [rowP] using this
/-- What a row of prefixes holds. -/
theorem row_cells {W : World} {base n g c : Nat} {l : List (BitVec 128 × Int)} (h : W.ownsRow base 26 3 (.slice (some ⟨g, 0, none⟩) n c) n (rowP l)) (hn : n = l.length) (j : Nat) (hj : j < l.length) :
    W.cell? ⟨g, j * 3, none⟩ = some (.int .u64 (hI l[j].1)) ∧ W.cell? ⟨g, j * 3 + 1, none⟩ = some (.int .u64 (lI l[j].1)) ∧ W.cell? ⟨g, j * 3 + 2, none⟩ = some (.int .i64 l[j].2) := by
  obtain ⟨a, b, c'⟩ := rowP_get l j hj
  have e : ∀ k, (⟨g, 0, none⟩ : Addr).add k = ⟨g, k, none⟩ := fun k => by unfold Addr.add; split <;> simp_all
  have f := fun k u => h.cells (g := g) rfl k u
  exact ⟨by have := f _ _ a; rwa [e] at this, by have := f _ _ b; rwa [e] at this, by have := f _ _ c'; rwa [e] at this⟩
/-- The lists are the same: Same tells it. -/
def Lies (W : World) (v : Value) (l : List (BitVec 128 × Int)) : Prop := ∃ base, W.ownsRow base 26 3 v l.length (rowP l)
theorem Lies.below {W W' : World} {v : Value} {l : List (BitVec 128 × Int)} (h : Lies W v l) (hb : Below W.heap.size W W') : Lies W' v l := by
  obtain ⟨b, h⟩ := h
  exact ⟨b, own_below hb h⟩
set_option maxHeartbeats 2000000 in
theorem same_any (v u : Value) (l : List (BitVec 128 × Int)) (W : World) (hv : Lies W v l) (hu : Lies W u l) (hl : l.length ≤ 4611686018427387904) :
    Calls Tryd.prog 25 #[v, u] W fun e w' => e = .returned (.bool true) ∧ Below W.heap.size W w' := by
  obtain ⟨bv, hv⟩ := hv
  obtain ⟨bu, hu⟩ := hu
  by_cases h0 : l.length = 0
  · have e : l = [] := List.eq_nil_of_length_eq_zero h0
    subst e
    obtain ⟨-, hv'⟩ := hv
    obtain ⟨-, hu'⟩ := hu
    have sv : ∃ ao c, v = .slice ao 0 c := by
      rcases hv' with ⟨rfl, -⟩ | ⟨g, c, cur, rfl, -⟩
      · exact ⟨_, _, rfl⟩
      · exact ⟨_, _, rfl⟩
    have su : ∃ ao c, u = .slice ao 0 c := by
      rcases hu' with ⟨rfl, -⟩ | ⟨g, c, cur, rfl, -⟩
      · exact ⟨_, _, rfl⟩
      · exact ⟨_, _, rfl⟩
    obtain ⟨ao, c, rfl⟩ := sv
    obtain ⟨ao', c', rfl⟩ := su
    clear hv' hu' hl h0
    go_enter Tryd.func25, Tryd.ntmps25
    go_wp2
    go_loopw [5] (fun i wr => i = .int .i64 0 ∧ Below W.heap.size W wr) (fun _ _ => 0)
    case atStart => exact ⟨rfl, Below.refl _ _⟩
    case round =>
      obtain ⟨rfl, hB⟩ := hrel
      go_wp2
      go_ret
      exact ⟨rfl, hB⟩
  · obtain ⟨g, c, rfl, -, -⟩ := hv.form (by omega)
    obtain ⟨g', c', rfl, -, -⟩ := hu.form (by omega)
    have hcv : Hid (∀ j (hj : j < l.length), W.cell? ⟨g, j * 3, none⟩ = some (.int .u64 (hI l[j].1)) ∧ W.cell? ⟨g, j * 3 + 1, none⟩ = some (.int .u64 (lI l[j].1)) ∧ W.cell? ⟨g, j * 3 + 2, none⟩ = some (.int .i64 l[j].2)) := fun j hj => row_cells hv rfl j hj
    have hcu : Hid (∀ j (hj : j < l.length), W.cell? ⟨g', j * 3, none⟩ = some (.int .u64 (hI l[j].1)) ∧ W.cell? ⟨g', j * 3 + 1, none⟩ = some (.int .u64 (lI l[j].1)) ∧ W.cell? ⟨g', j * 3 + 2, none⟩ = some (.int .i64 l[j].2)) := fun j hj => row_cells hu rfl j hj
    clear hv hu
    go_enter Tryd.func25, Tryd.ntmps25
    go_wp2
    go_loopw [5] (fun i wr => ∃ k : Nat, k ≤ l.length ∧ i = .int .i64 k ∧ Below W.heap.size W wr) (fun i _ => l.length - (intOf i).toNat)
    case atStart => exact ⟨0, by omega, rfl, Below.refl _ _⟩
    case round =>
      obtain ⟨k, hk, rfl, hB⟩ := hrel
      by_cases hlt : (k : Int) < (l.length : Int)
      · have hks : k < l.length := by omega
        obtain ⟨x0, x1, x2⟩ := hcv.out k hks
        obtain ⟨y0, y1, y2⟩ := hcu.out k hks
        have x0 := keepc hB x0
        have x1 := keepc hB x1
        have x2 := keepc hB x2
        have y0 := keepc hB y0
        have y1 := keepc hB y1
        have y2 := keepc hB y2
        have hE := fun w => eqP_run l[k].1 l[k].2 l[k].1 l[k].2 w
        simp only [beq_self_eq_true, Bool.and_self] at hE
        generalize l[k].1 = p at *
        generalize l[k].2 = q at *
        go_wp2_with fail
        go_quiet (fail)
        go_wp2
        go_roundw
        case rel => exact ⟨k + 1, by omega, by go_num, below_drewN hB _⟩
        case measure => simp [intOf]; omega
      · have hd : decide ((k : Int) < (l.length : Int)) = false := by simpa using hlt
        go_wp2
        go_ret
        exact ⟨rfl, hB⟩
theorem w_ten : (720575940379279360 : Int) = hI (BitVec.ofNat 128 (720575940379279360 * 18446744073709551616)) ∧ (0 : Int) = lI (BitVec.ofNat 128 (720575940379279360 * 18446744073709551616)) := by decide +kernel
theorem w_end : (720577035595939840 : Int) = hI (BitVec.ofNat 128 (720577035595939840 * 18446744073709551616)) ∧ (0 : Int) = lI (BitVec.ofNat 128 (720577035595939840 * 18446744073709551616)) := by decide +kernel
theorem known_E : covE 32 (BitVec.ofNat 128 (720575940379279360 * 18446744073709551616)) (BitVec.ofNat 128 (720577035595939840 * 18446744073709551616)) = 0 := by decide +kernel
theorem known_W : widN 32 (BitVec.ofNat 128 (720575940379279360 * 18446744073709551616)) (BitVec.ofNat 128 (720577035595939840 * 18446744073709551616)) = 24 := by decide +kernel
theorem known_L : lastW 32 (BitVec.ofNat 128 (720575940379279360 * 18446744073709551616)) 24 = BitVec.ofNat 128 (720577035595939840 * 18446744073709551616) := by decide +kernel
theorem known_T : covT 32 (BitVec.ofNat 128 (720575940379279360 * 18446744073709551616)) (BitVec.ofNat 128 (720577035595939840 * 18446744073709551616)) = [(BitVec.ofNat 128 (720575940379279360 * 18446744073709551616), 24)] := by
  unfold covT
  rw [if_pos known_E, cov_end _ _ _ _ (by rw [known_W, known_L]), known_W]
set_option maxHeartbeats 2000000 in
theorem known4_any (w : World) (hT : Tab w) :
    Calls Tryd.prog 20 #[] w fun e w' => e = .returned (.bool true) ∧ Below w.heap.size w w' := by
  have K := fun w h => cover_any 32 (BitVec.ofNat 128 (720575940379279360 * 18446744073709551616)) (BitVec.ofNat 128 (720577035595939840 * 18446744073709551616)) w h
  rw [known_E, known_T, ← w_end.1, ← w_end.2, ← w_ten.1, ← w_ten.2] at K
  go_enter Tryd.func20, Tryd.ntmps20
  go_wp2_with fail
  refine (K _ hT).mono ?_
  rintro e w1 ⟨⟨v, rfl, hown⟩, hb1⟩
  obtain ⟨g, c, rfl, -, -⟩ := hown.form (by simp)
  obtain ⟨x0, x1, x2⟩ := row_cells hown rfl 0 (by simp)
  simp only [List.getElem_cons_zero, ← w_ten.1, ← w_ten.2, Nat.zero_mul, Nat.zero_add] at x0 x1 x2
  clear hown K
  go_wp2
  go_ret
  exact ⟨rfl, hb1⟩
end Go.Proofs.YtkgfeegcdohkdaaDoor
/-
  What the call of package ranges' inOrder does: the library's Clone and SortFunc at prefixes.
-/
namespace Go.Proofs.YtkgfeegcdohkdaaDoor
open Go.RowKit Go.Shelf Go.Lib Go.Sort
set_option linter.unusedSimpArgs false
set_option linter.unusedVariables false

/-- A prefix's three cells. -/
def encP (p : BitVec 128 × Int) : List Value := [.int .u64 (hI p.1), .int .u64 (lI p.1), .int .i64 p.2]
theorem grow_below (W : World) (q : Nat) (os : Array Obj) : RowKit.Below W.heap.size W (grow (W.drewN q) os) :=
  ⟨rfl, rfl, rfl, by simp [grow, World.drewN], fun k hk => by simp [grow, World.drewN, Array.getElem?_append, hk]⟩
theorem two_grow (w : World) (o p : Obj) : (w.alloc o).alloc p = grow (w.drewN 0) #[o, p] := by
  rw [alloc_eq_grow, alloc_eq_grow, grow_grow]; rfl
set_option maxHeartbeats 400000 in
theorem wcmp_grow (x y : BitVec 128) (w : World) :
    Calls Tryd.prog 108 #[.agg #[.int .u64 (hI x), .int .u64 (lI x)], .agg #[.int .u64 (hI y), .int .u64 (lI y)]] w fun e w' => e = .returned (.int .i64 (cmpZ x y)) ∧ ∃ q os, w' = grow (w.drewN q) os := by
  rcases cmp_ways x y with ⟨h, c⟩ | ⟨h, g, c⟩ | ⟨h, c⟩ | ⟨h, c⟩ | ⟨h, g, c⟩
  · rw [c]; clear c
    have ne : ¬ hI x = hI y := by omega
    go_enter Tryd.func108, Tryd.ntmps108
    go_wp2
    go_ret
    exact ⟨rfl, 0, _, two_grow _ _ _⟩
  · rw [c, h]; clear c h
    have ne : ¬ lI x = lI y := by omega
    go_enter Tryd.func108, Tryd.ntmps108
    go_wp2
    go_ret
    exact ⟨rfl, 0, _, two_grow _ _ _⟩
  · rw [c]; clear c; subst h
    go_enter Tryd.func108, Tryd.ntmps108
    go_wp2
    go_ret
    exact ⟨rfl, 0, _, two_grow _ _ _⟩
  · rw [c]; clear c
    have ne : ¬ hI x = hI y := by omega
    go_enter Tryd.func108, Tryd.ntmps108
    go_wp2
    go_ret
    exact ⟨rfl, 0, _, two_grow _ _ _⟩
  · rw [c, h]; clear c h
    have ne : ¬ lI x = lI y := by omega
    go_enter Tryd.func108, Tryd.ntmps108
    go_wp2
    go_ret
    exact ⟨rfl, 0, _, two_grow _ _ _⟩
theorem three_grow (w : World) (o p : Obj) (q : Nat) (os : Array Obj) : grow (((w.alloc o).alloc p).drewN q) os = grow (w.drewN q) (#[o, p] ++ os) := by
  rw [two_grow, ← grow_grow]
  rfl
set_option maxHeartbeats 1000000 in
theorem pcmp_grow (x : BitVec 128) (n : Int) (y : BitVec 128) (m : Int) (w : World) :
    Calls Tryd.prog 93 #[.agg #[.int .u64 (hI x), .int .u64 (lI x), .int .i64 n], .agg #[.int .u64 (hI y), .int .u64 (lI y), .int .i64 m]] w fun e w' => e = .returned (.int .i64 (pcmpZ x n y m)) ∧ ∃ q os, w' = grow (w.drewN q) os := by
  have KC := fun w => wcmp_grow x y w
  have KM := fun w => compare_any n m w
  unfold pcmpZ
  generalize cmpZ x y = c at *
  generalize cmpI n m = d at *
  by_cases h : c = 0
  · subst h
    rw [if_pos rfl]
    go_enter Tryd.func93, Tryd.ntmps93
    go_wp2_with fail
    refine (KC _).mono ?_
    rintro e w1 ⟨rfl, q1, os1, hw1⟩
    have hb1 := grow_below ((w.alloc (.cells #[.int .u64 (hI x), .int .u64 (lI x), .int .i64 n] 26)).alloc (.cells #[.int .u64 (hI y), .int .u64 (lI y), .int .i64 m] 26)) q1 os1
    rw [← hw1] at hb1
    obtain ⟨p0, p1, p2, -, -, -⟩ := ((atp_new w w.heap.size x n 26 rfl).below (bl1 _ (.cells #[.int .u64 (hI y), .int .u64 (lI y), .int .i64 m] 26))).below hb1
    obtain ⟨r0, r1, r2, -, -, -⟩ := (atp_new (w.alloc (.cells #[.int .u64 (hI x), .int .u64 (lI x), .int .i64 n] 26)) (w.heap.size + 1) y m 26 (by simp)).below hb1
    have HW : Hid (w1 = grow (w.drewN q1) (#[.cells #[.int .u64 (hI x), .int .u64 (lI x), .int .i64 n] 26, .cells #[.int .u64 (hI y), .int .u64 (lI y), .int .i64 m] 26] ++ os1)) := by show _ = _; rw [hw1]; exact three_grow _ _ _ _ _
    clear hb1 KC hw1
    go_wp2_with fail
    refine (KM _).mono ?_
    rintro e w2 ⟨rfl, rfl⟩
    go_wp2
    go_ret
    exact ⟨rfl, _, _, HW.out⟩
  · have hb : (c != 0) = true := by simp [h]
    rw [if_neg h]
    go_enter Tryd.func93, Tryd.ntmps93
    go_wp2_with fail
    refine (KC _).mono ?_
    rintro e w1 ⟨rfl, q1, os1, hw1⟩
    have HW : Hid (w1 = grow (w.drewN q1) (#[.cells #[.int .u64 (hI x), .int .u64 (lI x), .int .i64 n] 26, .cells #[.int .u64 (hI y), .int .u64 (lI y), .int .i64 m] 26] ++ os1)) := by show _ = _; rw [hw1]; exact three_grow _ _ _ _ _
    clear KC hw1
    go_wp2
    go_ret
    exact ⟨rfl, _, _, HW.out⟩
/-- The order of prefixes, as a number. -/
def cfP (p q : BitVec 128 × Int) : Int := pcmpZ p.1 p.2 q.1 q.2
theorem ltP (p q : BitVec 128 × Int) : ltOf cfP p q = true ↔ (p.1.toNat < q.1.toNat ∨ (p.1 = q.1 ∧ p.2 < q.2)) := by
  unfold ltOf cfP
  rw [decide_eq_true_iff]
  rcases pcmp_ways p.1 p.2 q.1 q.2 with ⟨h, e⟩ | ⟨h, e⟩ | ⟨h, e⟩ <;> rw [e]
  · exact ⟨fun _ => h, fun _ => by decide⟩
  · refine ⟨fun z => absurd z (by decide), fun z => ?_⟩
    rcases z with z | ⟨_, z⟩
    · rw [h.1] at z; omega
    · omega
  · refine ⟨fun z => absurd z (by decide), fun z => ?_⟩
    rcases h with h | ⟨h1, h2⟩ <;> rcases z with z | ⟨z1, z2⟩
    · omega
    · rw [z1] at h; omega
    · rw [h1] at z; omega
    · omega
theorem ltP_no (p q : BitVec 128 × Int) : ltOf cfP p q = false ↔ (q.1.toNat < p.1.toNat ∨ (p.1 = q.1 ∧ q.2 ≤ p.2)) := by
  rw [← Bool.not_eq_true, ltP]
  constructor
  · intro h
    simp only [not_or, not_and] at h
    rcases Nat.lt_trichotomy p.1.toNat q.1.toNat with c | c | c
    · exact absurd c h.1
    · have e := BitVec.eq_of_toNat_eq c
      exact .inr ⟨e, by have := h.2 e; omega⟩
    · exact .inl c
  · rintro (h | ⟨h1, h2⟩) (g | ⟨g1, g2⟩)
    · omega
    · rw [g1] at h; omega
    · rw [h1] at g; omega
    · omega
theorem swoP : SWO (ltOf cfP) where
  irrefl x := by rw [ltP_no]; exact .inr ⟨rfl, Int.le_refl _⟩
  trans x y z h1 h2 := by
    rw [ltP] at *
    rcases h1 with h1 | ⟨a1, h1⟩ <;> rcases h2 with h2 | ⟨a2, h2⟩
    · exact .inl (by omega)
    · exact .inl (by rw [← a2]; exact h1)
    · exact .inl (by rw [a1]; exact h2)
    · exact .inr ⟨a1.trans a2, by omega⟩
  ntrans x y z h1 h2 := by
    rw [ltP_no] at *
    rcases h1 with h1 | ⟨a1, h1⟩ <;> rcases h2 with h2 | ⟨a2, h2⟩
    · exact .inl (by omega)
    · exact .inl (by rw [← a2]; exact h1)
    · exact .inl (by rw [a1]; exact h2)
    · exact .inr ⟨a1.trans a2, by omega⟩
theorem ltP_eq (x y : BitVec 128 × Int) (h1 : ltOf cfP x y = false) (h2 : ltOf cfP y x = false) : x = y := by
  rw [ltP_no] at h1 h2
  rcases h1 with h1 | ⟨a1, h1⟩ <;> rcases h2 with h2 | ⟨a2, h2⟩
  · omega
  · rw [a2] at h1; omega
  · rw [a1] at h2; omega
  · exact Prod.ext a1 (by omega)
/-- A list of prefixes, in order. -/
def sortL (l : List (BitVec 128 × Int)) : List (BitVec 128 × Int) := l.mergeSort fun x y => !ltOf cfP y x
theorem sortL_len (l : List (BitVec 128 × Int)) : (sortL l).length = l.length := List.length_mergeSort _
theorem flat_row (l : List (BitVec 128 × Int)) : (flatK encP 3 l.toArray).toList = rowP l := by
  apply List.ext_getElem?
  intro t
  by_cases c : t < l.length * 3
  · have hj : t / 3 < l.length := by omega
    have hs : t < (flatK encP 3 l.toArray).size := by simpa using c
    have e : (flatK encP 3 l.toArray).toList[t]? = some ((encP l[t / 3])[t % 3]!) := by
      rw [Array.getElem?_toList, Array.getElem?_eq_getElem hs, ← getElem!_pos _ t hs, get_flatK _ _ _ t (by simpa using c)]
      simp [getElem!_pos, hj]
    rw [e]
    obtain ⟨a, b, c'⟩ := rowP_get l (t / 3) hj
    have h3 : t % 3 = 0 ∨ t % 3 = 1 ∨ t % 3 = 2 := by omega
    rcases h3 with h | h | h
    · have e2 : t = t / 3 * 3 := by omega
      rw [h, show (rowP l)[t]? = (rowP l)[t / 3 * 3]? by rw [← e2], a]; simp [encP]
    · have e2 : t = t / 3 * 3 + 1 := by omega
      rw [h, show (rowP l)[t]? = (rowP l)[t / 3 * 3 + 1]? by rw [← e2], b]; simp [encP]
    · have e2 : t = t / 3 * 3 + 2 := by omega
      rw [h, show (rowP l)[t]? = (rowP l)[t / 3 * 3 + 2]? by rw [← e2], c']; simp [encP]
  · rw [List.getElem?_eq_none (by simp; omega), List.getElem?_eq_none (by rw [rowP_len]; omega)]
/-- A row that is owned holds its prefixes, in the sort's words. -/
theorem holds_row {w : World} {base n g cap : Nat} {l : List (BitVec 128 × Int)} (h : w.ownsRow base 26 3 (.slice (some ⟨g, 0, none⟩) n cap) n (rowP l)) : HoldsK encP 3 w g 0 l.toArray ∧ g < w.heap.size ∧ base ≤ g := by
  rcases h.2 with ⟨e0, _⟩ | ⟨g', cap', cur, e0, hb, hg, hn, hm, hs, ht⟩
  · cases e0
  · injection e0 with e1 _ e3
    injection e1 with e1
    injection e1 with e1
    subst e1; subst e3
    refine ⟨fun j hj => ⟨?_, by simp [World.frozen?, hg]⟩, (Array.getElem?_eq_some_iff.1 hg).1, hb⟩
    have hl := h.1
    rw [rowP_len] at hl
    have hj' : j < n * 3 := by have : j < l.length * 3 := by simpa using hj
                               omega
    have e1 : (cur.toList.take (n * 3))[j]? = (flatK encP 3 l.toArray).toList[j]? := by rw [ht, flat_row]
    rw [List.getElem?_take, if_pos hj', Array.getElem?_toList, Array.getElem?_toList, Array.getElem?_eq_getElem hj] at e1
    simp only [World.cell?, hg, Nat.zero_add]
    simp only [Option.isSome_none, Bool.false_eq_true, if_false]
    rw [e1, getElem!_pos _ j hj]
    rfl
theorem own_sorted {w : World} {base n g cap q : Nat} {l m : List (BitVec 128 × Int)} {os : Array Obj} (h : w.ownsRow base 26 3 (.slice (some ⟨g, 0, none⟩) n cap) n (rowP l)) (hm : m.length = l.length) :
    (sortWorldK encP 3 w g 0 q m.toArray os).ownsRow base 26 3 (.slice (some ⟨g, 0, none⟩) n cap) n (rowP m) := by
  have hl := h.1
  rw [rowP_len] at hl
  have hln : l.length = n := by omega
  rcases h.2 with ⟨e0, _⟩ | ⟨g', cap', cur, e0, hb, hg, hn, hmx, hs, ht⟩
  · cases e0
  · injection e0 with e1 _ e3
    injection e1 with e1
    injection e1 with e1
    subst e1; subst e3
    have hgl := (Array.getElem?_eq_some_iff.1 hg).1
    refine ⟨by rw [rowP_len]; omega, .inr ⟨g, cap, putCells id 0 (flatK encP 3 m.toArray) cur, rfl, hb, ?_, hn, hmx, by simpa [putCells] using hs, ?_⟩⟩
    · unfold sortWorldK putRowK putRow mapBlock grow
      simp only [Sort.ahead]
      rw [Array.getElem?_append, if_pos (by simpa using hgl)]
      simp [Array.getElem?_modify, hg, onCells]
    · rw [← flat_row m]
      apply List.ext_getElem?
      intro j
      rw [List.getElem?_take, Array.getElem?_toList, Array.getElem?_toList]
      by_cases hj : j < n * 3
      · have hjc : j < cur.size := by rw [hs]; exact Nat.lt_of_lt_of_le hj (Nat.mul_le_mul_right _ hn)
        have hjf : j < (flatK encP 3 m.toArray).size := by simp; omega
        simp only [if_pos hj, putCells, Array.getElem?_mapIdx, Array.getElem?_eq_getElem hjc, Option.map_some]
        rw [if_pos (by omega), Array.getElem?_eq_getElem hjf, Nat.sub_zero, getElem!_pos _ j hjf]
        rfl
      · rw [if_neg hj, Array.getElem?_eq_none (by simp; omega)]
/-- A list of prefixes in memory, whosever it is: the cells as they lie. -/
def Rw (W : World) (v : Value) (l : List (BitVec 128 × Int)) : Prop := ∃ ao c, v = .slice ao l.length c ∧ ((ao = none ∧ l = []) ∨ ∃ b off, ao = some ⟨b, off, none⟩ ∧ ∀ j u, (rowP l)[j]? = some u → W.cell? ⟨b, off + j, none⟩ = some u)
theorem Rw.below {W W' : World} {v : Value} {l : List (BitVec 128 × Int)} (h : Rw W v l) (hb : RowKit.Below W.heap.size W W') : Rw W' v l := by
  obtain ⟨ao, c, e, h⟩ := h
  refine ⟨ao, c, e, h.imp id ?_⟩
  rintro ⟨b, off, e', hc⟩
  exact ⟨b, off, e', fun j u hj => keepc hb (hc j u hj)⟩
theorem rowP_cell (l : List (BitVec 128 × Int)) : ∀ u ∈ rowP l, u.oneCell' = true := by
  induction l with
  | nil => intro u hu; cases hu
  | cons p l ih =>
    intro u hu
    simp only [rowP, List.mem_cons] at hu
    rcases hu with rfl | rfl | rfl | hu
    · rfl
    · rfl
    · rfl
    · exact ih u hu
theorem cmpLaysP (blk off size : Nat) (w : World) : CmpLays Tryd.prog 93 #[] encP 3 cfP blk off size w :=
  fun _ _ _ _ x y => pcmp_grow x.1 x.2 y.1 y.2 _
theorem below_sortK {B : Nat} {w0 w : World} {g q : Nat} {d : Array (BitVec 128 × Int)} {os : Array Obj} (h : RowKit.Below B w0 w) (hg : B ≤ g) (hB : B ≤ w.heap.size) : RowKit.Below B w0 (sortWorldK encP 3 w g 0 q d os) := by
  have a := below_putRow (enc := id) (q := q) (d := flatK encP 3 d) h hg
  have sz : (putRow id (Sort.ahead w q) g 0 (flatK encP 3 d)).heap.size = w.heap.size := by simp [putRow, mapBlock, Sort.ahead]
  refine ⟨a.os, a.tape, a.output, Nat.le_trans a.size (by simp [sortWorldK, putRowK, grow]), fun k hk => ?_⟩
  rw [← a.block k hk]
  unfold sortWorldK putRowK grow
  simp only
  rw [Array.getElem?_append, if_pos (by rw [sz]; omega)]
set_option maxHeartbeats 2000000 in
theorem inOrder_any (v : Value) (l : List (BitVec 128 × Int)) (w : World) (hv : Rw w v l) (hl : l.length ≤ 1000000000) :
    Calls Tryd.prog 59 #[v] w fun e w' => (∃ v', e = .returned v' ∧ w'.ownsRow w.heap.size 26 3 v' l.length (rowP (sortL l))) ∧ RowKit.Below w.heap.size w w' := by
  obtain ⟨i0, hi, hz0, hz1, hz2⟩ := info_parts Tryd.infoP
  obtain ⟨ao, c, rfl, hv⟩ := hv
  rcases hv with ⟨rfl, rfl⟩ | ⟨b, off, rfl, hc⟩
  · have KC := fun w => AnyE.slices_Clone_nil Tryd.cloneP 0 c w
    change ∀ w, Calls Tryd.prog 91 _ _ _ at KC
    have KS := fun w => AnyF.slices_SortFunc_none Tryd.sortP none 0 (.func (.func 93) #[] #[]) w
    change ∀ w, Calls Tryd.prog 92 _ _ _ at KS
    clear hi hz0 hz1 hz2 hl
    go_enter Tryd.func59, Tryd.ntmps59
    go_wp2_with fail
    refine (KC _).mono ?_
    rintro e w1 ⟨rfl, rfl⟩
    go_wp2_with fail
    refine (KS _).mono ?_
    rintro e w2 ⟨rfl, rfl⟩
    go_wp2
    go_ret
    exact ⟨⟨_, rfl, (by rw [show rowP (sortL []) = [] by simp [sortL, rowP]]; exact World.ownsRow_nil _ _ _ _)⟩, RowKit.Below.refl _ _⟩
  · have KC := AnyE.slices_Clone Tryd.cloneP i0 (.agg #[.int .u64 0, .int .u64 0, .int .i64 0]) 3 24 hi hz0 hz1 hz2 rfl (by decide) Tryd.sizeOf26 b off l.length c (rowP l) w (rowP_len l) (by unfold maxLen; omega) (by omega) hc (rowP_cell l)
    change Calls Tryd.prog 91 _ _ _ at KC
    have KN := fun g cap w => AnyF.slices_SortFunc_none Tryd.sortP (some ⟨g, 0, none⟩) cap (.func (.func 93) #[] #[]) w
    change ∀ g cap w, Calls Tryd.prog 92 _ _ _ at KN
    have eg : ∀ args w, (callFunc 93 args).run Tryd.prog w = .ok (.enter 93 args) w := enters_of Tryd.func93 (by kernel_rfl) rfl
    have KS := fun g cap w hH hb => AnyQ.slices_SortFunc_total Tryd.sortP 3 Tryd.isAgg26 Tryd.sizeOf26 encP (fun _ => rfl) (fun x u hu => by simp [encP] at hu; rcases hu with rfl | rfl | rfl <;> rfl) cfP swoP 93 #[] g 0 cap l.toArray w eg (cmpLaysP g 0 l.toArray.size w) hH hb (by simp; omega) ltP_eq
    change ∀ g cap w hH hb, Calls Tryd.prog 92 _ _ _ at KS
    clear hi hz0 hz1 hz2 hc eg
    go_enter Tryd.func59, Tryd.ntmps59
    go_wp2_with fail
    refine KC.mono ?_
    rintro e w1 ⟨v', rfl, hown, hne, hb⟩
    clear KC
    obtain ⟨g, cap, rfl⟩ : ∃ g cap, v' = .slice (some ⟨g, 0, none⟩) l.length cap := by
      rcases hown.2 with ⟨e0, _⟩ | ⟨g, cap, cur, e0, _⟩
      · exact absurd e0 hne
      · exact ⟨g, cap, e0⟩
    have hown : Hid (World.ownsRow _ _ _ _ _ _ _) := hown
    clear hne
    by_cases h0 : l.length = 0
    · have hl0 : l = [] := List.eq_nil_of_length_eq_zero h0
      subst hl0
      have KN := KN g cap w1
      clear KS
      go_wp2_with fail
      refine KN.mono ?_
      rintro e w2 ⟨rfl, rfl⟩
      go_wp2
      go_ret
      exact ⟨⟨_, rfl, (by rw [show rowP (sortL []) = rowP [] by simp [sortL, rowP]]; exact hown.out)⟩, hb⟩
    · obtain ⟨hH, hg, hbase⟩ := holds_row hown.out
      have KS := KS g cap w1 hH hg
      clear KN hH h0
      simp only [List.size_toArray] at KS
      go_wp2_with fail
      refine KS.mono ?_
      rintro e w2 ⟨rfl, n2, os2, hw2⟩
      have ho2 := own_sorted (q := n2) (os := os2) hown.out (sortL_len l)
      have hb2 := below_sortK (q := n2) (os := os2) (d := (sortL l).toArray) hb hbase hb.size
      have e2 : w2 = sortWorldK encP 3 w1 g 0 n2 (sortL l).toArray os2 := hw2
      rw [← e2] at ho2 hb2
      have ho2 : Hid (World.ownsRow _ _ _ _ _ _ _) := ho2
      clear KS hown hw2 e2 hb
      go_wp2
      go_ret
      exact ⟨⟨_, rfl, ho2.out⟩, hb2⟩
end Go.Proofs.YtkgfeegcdohkdaaDoor
/-
  What the call of package ranges' checkList does.
-/
namespace Go.Proofs.YtkgfeegcdohkdaaDoor
open Go.RowKit
set_option linter.unusedSimpArgs false
set_option linter.unusedVariables false

/-- The first error of a list of prefixes. -/
def chkG (F : Int) : List (BitVec 128 × Int) → Int
  | [] => 0
  | p :: l => if checkE F p.1 p.2 = 0 then chkG F l else checkE F p.1 p.2
def chkE (F : Int) (l : List (BitVec 128 × Int)) : Int := if fam F = true then chkG F l else 11
theorem rw_cells {W : World} {b off : Nat} {l : List (BitVec 128 × Int)} (h : ∀ j u, (rowP l)[j]? = some u → W.cell? ⟨b, off + j, none⟩ = some u) (k : Nat) (hk : k < l.length) :
    W.cell? ⟨b, off + k * 3, none⟩ = some (.int .u64 (hI l[k].1)) ∧ W.cell? ⟨b, off + k * 3 + 1, none⟩ = some (.int .u64 (lI l[k].1)) ∧ W.cell? ⟨b, off + k * 3 + 2, none⟩ = some (.int .i64 l[k].2) := by
  obtain ⟨a, c, d⟩ := rowP_get l k hk
  exact ⟨h _ _ a, h _ _ c, h _ _ d⟩
theorem chk_drop (F : Int) (l : List (BitVec 128 × Int)) (k : Nat) (hk : k < l.length) : chkG F (l.drop k) = if checkE F l[k].1 l[k].2 = 0 then chkG F (l.drop (k + 1)) else checkE F l[k].1 l[k].2 := by
  rw [List.drop_eq_getElem_cons hk]
  rfl
set_option maxHeartbeats 2000000 in
theorem checkList_any (F : Int) (v : Value) (l : List (BitVec 128 × Int)) (w : World) (hv : Rw w v l) (hl : l.length ≤ 1000000000) :
    Calls Tryd.prog 57 #[.int .i64 F, v] w fun e w' => e = .returned (.int .i64 (chkE F l)) ∧ Below w.heap.size w w' := by
  obtain ⟨ao, c, rfl, hv⟩ := hv
  have KL := fun w => alast_any F w
  unfold lastV lastE at KL
  unfold chkE
  cases hf : fam F
  · rw [hf, if_neg (by simp), if_neg (by simp), hI_zero, lI_zero] at KL
    rw [if_neg (by simp)]
    clear hf hv hl
    go_enter Tryd.func57, Tryd.ntmps57
    go_wp2_with fail
    refine (KL _).mono ?_
    rintro e w1 ⟨rfl, hb⟩
    clear KL
    go_wp2
    go_ret
    exact ⟨rfl, hb.alloc hb.size _⟩
  · rw [hf, if_pos rfl, if_pos rfl] at KL
    rw [if_pos rfl]
    have HV : Hid ((ao = none ∧ l = []) ∨ ∃ b off, ao = some ⟨b, off, none⟩ ∧ ∀ j u, (rowP l)[j]? = some u → w.cell? ⟨b, off + j, none⟩ = some u) := hv
    clear hf hv
    generalize maskW F = mk at *
    go_enter Tryd.func57, Tryd.ntmps57
    go_wp2_with fail
    refine (KL _).mono ?_
    rintro e w1 ⟨rfl, hb⟩
    have kB := hb.alloc hb.size (.cells #[.int .u64 (hI mk), .int .u64 (lI mk)] 24)
    clear KL hb
    go_wp2_with fail
    go_loopw [20] (fun i wr => ∃ k : Nat, k ≤ l.length ∧ i = .int .i64 k ∧ Hid (chkG F (l.drop k) = chkG F l) ∧ Below w.heap.size w wr) (fun i _ => l.length - (intOf i).toNat)
    case atStart => exact ⟨0, by omega, rfl, (rfl : chkG F (l.drop 0) = chkG F l), kB⟩
    case round =>
      clear kB
      obtain ⟨k, hk, rfl, hG, hB⟩ := hrel
      by_cases hlt : (k : Int) < (l.length : Int)
      · have hks : k < l.length := by omega
        rcases HV.out with ⟨-, h⟩ | ⟨b, off, rfl, hc⟩
        · rw [h] at hks; simp at hks
        · obtain ⟨x0, x1, x2⟩ := rw_cells hc k hks
          have x0 := keepc hB x0
          have x1 := keepc hB x1
          have x2 := keepc hB x2
          have KC := fun w => pcheck_any F l[k].1 l[k].2 w
          have hd := chk_drop F l k hks
          have HD : Hid (chkG F (l.drop k) = if checkE F l[k].1 l[k].2 = 0 then chkG F (l.drop (k + 1)) else checkE F l[k].1 l[k].2) := hd
          clear hd hc HV
          revert KC HD
          generalize checkE F l[k].1 l[k].2 = ce
          generalize l[k].1 = px at *
          generalize l[k].2 = pn at *
          intro KC HD
          have P0 := atp_new wr wr.heap.size px pn 26 rfl
          obtain ⟨p0, p1, p2, -, -, -⟩ := id P0
          go_wp2_with fail
          refine (KC _).mono ?_
          rintro e w2 ⟨rfl, hb⟩
          have kB2 := keepb hb (hB.alloc hB.size (.cells #[.int .u64 (hI px), .int .u64 (lI px), .int .i64 pn] 26))
          clear hb KC x0 x1 x2 p0 p1 p2 P0
          by_cases hce : ce = 0
          · subst hce
            have hk2 : IntKind.i64.wrap ((k : Int) + 1) = (k : Int) + 1 := by rw [IntKind.wrap_i64]; omega
            go_wp2
            go_roundw
            case rel =>
              refine ⟨k + 1, by omega, by simp, ?_, kB2⟩
              show chkG F (l.drop (k + 1)) = chkG F l
              rw [← hG.out, HD.out]; simp
            case measure => simp [intOf]; omega
          · have hn : (ce != 0) = true := by simp [hce]
            have HE : Hid (chkG F l = ce) := by show _ = _; rw [← hG.out, HD.out, if_neg hce]
            go_wp2
            go_ret
            exact ⟨by rw [HE.out]; rfl, kB2⟩
      · have hd : decide ((k : Int) < (l.length : Int)) = false := by simpa using hlt
        have HE : Hid (chkG F l = 0) := by
          show _ = _
          rw [← hG.out, List.drop_eq_nil_of_le (by omega)]; rfl
        go_wp2
        go_ret
        exact ⟨by rw [HE.out]; rfl, hB⟩
end Go.Proofs.YtkgfeegcdohkdaaDoor
