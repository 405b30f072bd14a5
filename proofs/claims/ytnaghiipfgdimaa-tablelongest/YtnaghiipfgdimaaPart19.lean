/-
  Part 19 of the proof: 4 texts, one behind the other.
-/
import Derived.Test.YtnaghiipfgdimaaPart18
import Derived.Test.YtnaghiipfgdimaaPart5
/-
  Plain facts on the order of prefixes, and on what lies within what.
-/
namespace Go.Proofs.Ytnaghiipfgdimaa
open Go.RowKit
set_option linter.unusedSimpArgs false
set_option linter.unusedVariables false

theorem cut_shift (x : BitVec 128) (n : Int) : cutW x n = (x >>> (128 - n.toNat)) <<< (128 - n.toNat) := by
  apply BitVec.eq_of_getLsbD_eq
  intro j hj
  unfold cutW
  rw [BitVec.getLsbD_and, maskW_bit n j hj, BitVec.getLsbD_shiftLeft, BitVec.getLsbD_ushiftRight]
  by_cases c : 128 - n.toNat ≤ j
  · have e : 128 - n.toNat + (j - (128 - n.toNat)) = j := by omega
    have d : ¬ j < 128 - n.toNat := by omega
    simp [c, d, hj, e]
  · have d : j < 128 - n.toNat := by omega
    simp [c, d]
theorem cut_nat (x : BitVec 128) (n : Int) : (cutW x n).toNat = x.toNat / 2 ^ (128 - n.toNat) * 2 ^ (128 - n.toNat) := by
  rw [cut_shift, BitVec.toNat_shiftLeft, BitVec.toNat_ushiftRight, Nat.shiftLeft_eq, Nat.shiftRight_eq_div_pow]
  apply Nat.mod_eq_of_lt
  exact Nat.lt_of_le_of_lt (Nat.div_mul_le_self _ _) x.isLt
theorem cut_mono (x y : BitVec 128) (n : Int) (h : x.toNat ≤ y.toNat) : (cutW x n).toNat ≤ (cutW y n).toNat := by
  rw [cut_nat, cut_nat]
  exact Nat.mul_le_mul_right _ (Nat.div_le_div_right h)
theorem cmpZ_ways (x y : BitVec 128) : (x.toNat < y.toNat ∧ cmpZ x y = -1) ∨ (x = y ∧ cmpZ x y = 0) ∨ (y.toNat < x.toNat ∧ cmpZ x y = 1) := by
  unfold cmpZ
  by_cases h : x.toNat < y.toNat
  · left; rw [if_pos h]; exact ⟨h, rfl⟩
  · rw [if_neg h]
    by_cases e : x = y
    · right; left; rw [if_pos e]; exact ⟨e, rfl⟩
    · right; right; rw [if_neg e]
      have : ¬ x.toNat = y.toNat := fun q => e (BitVec.eq_of_toNat_eq q)
      exact ⟨by omega, rfl⟩
/-- The order, as plain words. -/
theorem pcmp_ways (x : BitVec 128) (n : Int) (y : BitVec 128) (m : Int) :
    ((x.toNat < y.toNat ∨ (x = y ∧ n < m)) ∧ pcmpZ x n y m = -1) ∨ ((x = y ∧ n = m) ∧ pcmpZ x n y m = 0) ∨ ((y.toNat < x.toNat ∨ (x = y ∧ m < n)) ∧ pcmpZ x n y m = 1) := by
  unfold pcmpZ
  rcases cmpZ_ways x y with ⟨h, e⟩ | ⟨h, e⟩ | ⟨h, e⟩
  · left; rw [e, if_neg (by decide)]; exact ⟨Or.inl h, rfl⟩
  · rw [e, if_pos rfl]
    unfold cmpI
    by_cases h1 : n < m
    · left; rw [if_pos h1]; exact ⟨Or.inr ⟨h, h1⟩, rfl⟩
    · rw [if_neg h1]
      by_cases h2 : m < n
      · right; right; rw [if_pos h2]; exact ⟨Or.inr ⟨h, h2⟩, rfl⟩
      · right; left; rw [if_neg h2]; exact ⟨⟨h, by omega⟩, rfl⟩
  · right; right; rw [e, if_neg (by decide)]; exact ⟨Or.inl h, rfl⟩
theorem pcmp_neg (x : BitVec 128) (n : Int) (y : BitVec 128) (m : Int) : pcmpZ y m x n = - pcmpZ x n y m := by
  rcases pcmp_ways x n y m with ⟨h, e⟩ | ⟨h, e⟩ | ⟨h, e⟩ <;> rcases pcmp_ways y m x n with ⟨g, f⟩ | ⟨g, f⟩ | ⟨g, f⟩ <;> rw [e, f] <;> (try rfl) <;> exfalso
  · rcases h with h | ⟨rfl, h⟩ <;> rcases g with g | ⟨g1, g⟩ <;> (try subst g1) <;> omega
  · obtain ⟨rfl, rfl⟩ := g; rcases h with h | ⟨_, h⟩ <;> omega
  · obtain ⟨rfl, rfl⟩ := h; rcases g with g | ⟨_, g⟩ <;> omega
  · obtain ⟨rfl, rfl⟩ := h; rcases g with g | ⟨_, g⟩ <;> omega
  · obtain ⟨rfl, rfl⟩ := g; rcases h with h | ⟨_, h⟩ <;> omega
  · rcases h with h | ⟨rfl, h⟩ <;> rcases g with g | ⟨g1, g⟩ <;> (try subst g1) <;> omega
theorem pcmp_le (x : BitVec 128) (n : Int) (y : BitVec 128) (m : Int) : pcmpZ x n y m ≤ 0 ↔ (x.toNat < y.toNat ∨ (x = y ∧ n ≤ m)) := by
  rcases pcmp_ways x n y m with ⟨h, e⟩ | ⟨h, e⟩ | ⟨h, e⟩ <;> rw [e]
  · refine ⟨fun _ => ?_, fun _ => by decide⟩
    rcases h with h | ⟨rfl, h⟩
    · exact Or.inl h
    · exact Or.inr ⟨rfl, by omega⟩
  · refine ⟨fun _ => Or.inr ⟨h.1, by omega⟩, fun _ => by decide⟩
  · refine ⟨fun q => absurd q (by decide), fun q => ?_⟩
    exfalso
    rcases h with h | ⟨rfl, h⟩ <;> rcases q with q | ⟨q1, q⟩ <;> (try subst q1) <;> omega
theorem pcmp_eq0 (x : BitVec 128) (n : Int) (y : BitVec 128) (m : Int) : pcmpZ x n y m = 0 ↔ (x = y ∧ n = m) := by
  rcases pcmp_ways x n y m with ⟨h, e⟩ | ⟨h, e⟩ | ⟨h, e⟩ <;> rw [e]
  · refine ⟨fun q => absurd q (by decide), fun q => ?_⟩
    obtain ⟨rfl, rfl⟩ := q; rcases h with h | ⟨_, h⟩ <;> omega
  · exact ⟨fun _ => h, fun _ => rfl⟩
  · refine ⟨fun q => absurd q (by decide), fun q => ?_⟩
    obtain ⟨rfl, rfl⟩ := q; rcases h with h | ⟨_, h⟩ <;> omega
theorem pcmp_trans (x : BitVec 128) (n : Int) (y : BitVec 128) (m : Int) (z : BitVec 128) (k : Int) (h1 : pcmpZ x n y m ≤ 0) (h2 : pcmpZ y m z k ≤ 0) : ¬ 0 < pcmpZ x n z k := by
  rw [pcmp_le] at h1 h2
  have : pcmpZ x n z k ≤ 0 := by
    rw [pcmp_le]
    rcases h1 with h1 | ⟨rfl, h1⟩ <;> rcases h2 with h2 | ⟨h3, h2⟩ <;> (try subst h3)
    · left; omega
    · left; exact h1
    · left; exact h2
    · right; exact ⟨rfl, by omega⟩
  omega
theorem within_iff (x : BitVec 128) (n : Int) (y : BitVec 128) (m : Int) : withinB x n y m = true ↔ (m ≤ n ∧ cutW x m = y) := by
  unfold withinB
  simp
/-- What stands between a prefix and what lies within it lies within it. -/
theorem between (F : Int) (x : BitVec 128) (n : Int) (y : BitVec 128) (m : Int) (z : BitVec 128) (k : Int) (hx : Rt F x n) (hy : Rt F y m) (h1 : pcmpZ x n y m ≤ 0) (h2 : pcmpZ y m z k ≤ 0) (h3 : withinB z k x n = true) : withinB y m x n = true := by
  rw [within_iff] at h3 ⊢
  rw [pcmp_le] at h1 h2
  obtain ⟨h3, h4⟩ := h3
  have hxy : x.toNat ≤ y.toNat := by rcases h1 with h | ⟨rfl, _⟩ <;> omega
  have hyz : y.toNat ≤ z.toNat := by rcases h2 with h | ⟨rfl, _⟩ <;> omega
  have c1 := cut_mono x y n hxy
  have c2 := cut_mono y z n hyz
  rw [hx.2.2] at c1
  rw [h4] at c2
  have hc : cutW y n = x := BitVec.eq_of_toNat_eq (by omega)
  refine ⟨?_, hc⟩
  apply Classical.byContradiction
  intro q
  have := cut_cut2 y m n hy.1 (by omega)
  rw [hy.2.2, hc] at this
  rcases h1 with h | ⟨_, h⟩
  · rw [this] at h; omega
  · omega
theorem meetN_le (x : BitVec 128) (n : Int) (y : BitVec 128) (m : Int) : meetN x n y m ≤ n ∧ meetN x n y m ≤ m ∧ meetN x n y m ≤ ((leadN (x ^^^ y) : Nat) : Int) := by
  unfold meetN; omega
theorem meetN_nn (x : BitVec 128) (n : Int) (y : BitVec 128) (m : Int) (h : 0 ≤ n) (g : 0 ≤ m) : 0 ≤ meetN x n y m := by
  unfold meetN; omega
theorem meetN_comm (x : BitVec 128) (n : Int) (y : BitVec 128) (m : Int) : meetN y m x n = meetN x n y m := by
  unfold meetN
  rw [BitVec.xor_comm]
  omega
theorem meet_cut (x : BitVec 128) (n : Int) (y : BitVec 128) (m : Int) (h : 0 ≤ n) (g : 0 ≤ m) (hn : n ≤ 128) : cutW y (meetN x n y m) = cutW x (meetN x n y m) := by
  have := (lead_mask (x ^^^ y) (meetN x n y m) (meetN_nn x n y m h g) (by have := meetN_le x n y m; omega)).mp (meetN_le x n y m).2.2
  exact ((xor_mask x y _).mp this).symm
theorem meet_in (x : BitVec 128) (n : Int) (y : BitVec 128) (m : Int) (h : 0 ≤ n) (g : 0 ≤ m) (hn : n ≤ 128) :
    withinB x n (cutW x (meetN x n y m)) (meetN x n y m) = true ∧ withinB y m (cutW x (meetN x n y m)) (meetN x n y m) = true := by
  rw [within_iff, within_iff]
  exact ⟨⟨(meetN_le x n y m).1, rfl⟩, (meetN_le x n y m).2.1, meet_cut x n y m h g hn⟩
theorem meet_is (x : BitVec 128) (n : Int) (y : BitVec 128) (m : Int) (h : 0 ≤ n) (hn : n ≤ 128) (hx : cutW x n = x) :
    (cutW x (meetN x n y m) = x ∧ meetN x n y m = n) ↔ withinB y m x n = true := by
  rw [within_iff]
  have hl := lead_mask (x ^^^ y) n h hn
  rw [xor_mask] at hl
  constructor
  · rintro ⟨-, e⟩
    have := meetN_le x n y m
    refine ⟨by omega, ?_⟩
    have := hl.mp (by omega)
    unfold cutW at hx ⊢
    rw [← this, hx]
  · rintro ⟨h1, h2⟩
    have : n ≤ ((leadN (x ^^^ y) : Nat) : Int) := hl.mpr (by unfold cutW at hx h2; rw [hx, h2])
    have e : meetN x n y m = n := by unfold meetN; omega
    rw [e]
    exact ⟨hx, rfl⟩
theorem meet_above (x : BitVec 128) (n : Int) (y : BitVec 128) (m : Int) (z : BitVec 128) (k : Int) (hk : 0 ≤ k) (hn : n ≤ 128) (h1 : withinB x n z k = true) (h2 : withinB y m z k = true) : withinB (cutW x (meetN x n y m)) (meetN x n y m) z k = true := by
  rw [within_iff] at *
  have : k ≤ ((leadN (x ^^^ y) : Nat) : Int) := (lead_mask (x ^^^ y) k hk (by omega)).mpr ((xor_mask x y _).mpr (by
    have e1 := h1.2; have e2 := h2.2
    unfold cutW at e1 e2
    rw [e1, e2]))
  have hm : k ≤ meetN x n y m := by unfold meetN; omega
  exact ⟨hm, by rw [cut_cut x k _ hk hm]; exact h1.2⟩
end Go.Proofs.Ytnaghiipfgdimaa
/-
  In a table that is in order the search finds what going over all routes finds.
-/
namespace Go.Proofs.Ytnaghiipfgdimaa
open Go.RowKit
set_option linter.unusedSimpArgs false
set_option linter.unusedVariables false

/-- The routes' prefixes are in order, none twice. -/
def OrdR (l : List Rte) : Prop := ∀ (a b : Nat) (hb : b < l.length) (hab : a < b), pcmpZ (l[a]'(by omega)).1.1 (l[a]'(by omega)).1.2 l[b].1.1 l[b].1.2 < 0
theorem pcmp_lt (x : BitVec 128) (n : Int) (y : BitVec 128) (m : Int) : pcmpZ x n y m < 0 ↔ (x.toNat < y.toNat ∨ (x.toNat = y.toNat ∧ n < m)) := by
  have h := pcmp_le x n y m
  have e := pcmp_eq0 x n y m
  constructor
  · intro q
    rcases h.1 (by omega) with r | ⟨r, s⟩
    · exact .inl r
    · refine .inr ⟨by rw [r], ?_⟩
      rcases Int.lt_or_eq_of_le s with t | t
      · exact t
      · have := e.2 ⟨r, t⟩; omega
  · intro q
    have hle : pcmpZ x n y m ≤ 0 := h.2 (q.imp id fun ⟨r, s⟩ => ⟨BitVec.eq_of_toNat_eq r, by omega⟩)
    have hne : pcmpZ x n y m ≠ 0 := fun q0 => by
      obtain ⟨r, s⟩ := e.1 q0
      rcases q with q | ⟨-, q⟩
      · rw [r] at q; omega
      · omega
    omega
theorem ord_mono {l : List Rte} (h : OrdR l) (y : BitVec 128) (m : Int) : Mono y m l := by
  intro a b hb hab hlt
  rcases Nat.lt_or_eq_of_le hab with q | q
  · have h1 := (pcmp_lt _ _ _ _).1 (h a b hb q)
    have h2 := (pcmp_lt _ _ _ _).1 hlt
    refine (pcmp_lt _ _ _ _).2 ?_
    omega
  · subst q; exact hlt
theorem fndO_none {y : BitVec 128} {m : Int} : ∀ {l : List Rte}, (∀ (j : Nat) (hj : j < l.length), toP y m l[j] ≠ 0) → fndO y m l = none := by
  intro l
  induction l with
  | nil => intro _; rfl
  | cons r l ih =>
    intro h
    have h0 := h 0 (by simp)
    have hn : ¬ ((r.1.1 == y) && (r.1.2 == m)) = true := fun q => by
      simp only [Bool.and_eq_true, beq_iff_eq] at q
      exact h0 ((pcmp_eq0 _ _ _ _).2 q)
    unfold fndO
    rw [if_neg hn]
    exact ih fun j hj => h (j + 1) (by simpa using hj)
theorem fndO_at {y : BitVec 128} {m : Int} : ∀ {l : List Rte} (i : Nat) (hi : i < l.length), (∀ (j : Nat) (hj : j < i), toP y m (l[j]'(by omega)) ≠ 0) → toP y m l[i] = 0 → fndO y m l = some l[i].2 := by
  intro l
  induction l with
  | nil => intro i hi; simp at hi
  | cons r l ih =>
    intro i hi h h0
    unfold fndO
    cases i with
    | zero =>
      obtain ⟨e1, e2⟩ := (pcmp_eq0 _ _ _ _).1 h0
      have hp : ((r.1.1 == y) && (r.1.2 == m)) = true := by
        simp only [Bool.and_eq_true, beq_iff_eq]
        exact ⟨e1, e2⟩
      rw [if_pos hp]
      rfl
    | succ i =>
      have hn : ¬ ((r.1.1 == y) && (r.1.2 == m)) = true := fun q => by
        simp only [Bool.and_eq_true, beq_iff_eq] at q
        exact h 0 (by omega) ((pcmp_eq0 _ _ _ _).2 q)
      rw [if_neg hn]
      exact ih i (by simpa using hi) (fun j hj => h (j + 1) (by omega)) h0
/-- What is found by the place. -/
theorem fnd_place {y : BitVec 128} {m : Int} {l : List Rte} {i : Nat} {ok : Bool} {h : Int} (hO : OrdR l) (hP : Place y m l i ok) (h1 : ok = true → ∃ hi : i < l.length, h = l[i].2) (h0 : ok = false → h = 0) : h = (fndO y m l).getD 0 ∧ ok = (fndO y m l).isSome := by
  obtain ⟨hi, hj, hk⟩ := hP
  cases ok
  · have hn : fndO y m l = none := fndO_none fun j hjl e => by
      have a1 := hj j hjl
      have n1 : ¬ j < i := fun q => by have := a1.1 q; omega
      have hil : i < l.length := by omega
      rw [List.getElem?_eq_getElem hil] at hk
      have ki : toP y m l[i] ≠ 0 := by
        intro q
        have : decide (toP y m l[i] = 0) = true := by simpa using q
        simp only at hk
        rw [this] at hk
        cases hk
      rcases Nat.lt_or_eq_of_le (Nat.le_of_not_lt n1) with q | q
      · have a2 := hj i hil
        have n2 : ¬ toP y m l[i] < 0 := fun q => by have := a2.2 q; omega
        have o1 := (pcmp_lt _ _ _ _).1 (hO i j hjl q)
        obtain ⟨e1, e2⟩ := (pcmp_eq0 _ _ _ _).1 e
        apply n2
        refine (pcmp_lt _ _ _ _).2 ?_
        rw [e1, e2] at o1
        exact o1
      · subst q; exact ki e
    rw [hn]
    exact ⟨h0 rfl, rfl⟩
  · obtain ⟨hil, e⟩ := h1 rfl
    rw [List.getElem?_eq_getElem hil] at hk
    have ki : toP y m l[i] = 0 := by simpa using hk.symm
    have hs := fndO_at i hil (fun j hji q => by have := (hj j (by omega)).1 hji; omega) ki
    rw [hs]
    exact ⟨e, rfl⟩
end Go.Proofs.Ytnaghiipfgdimaa
/-
  What the calls of turnpikeref5's Checked and Check do.
-/
namespace Go.Proofs.Ytnaghiipfgdimaa
open Go.RowKit
set_option linter.unusedSimpArgs false
set_option linter.unusedVariables false

set_option maxHeartbeats 2000000 in
theorem rchecked_any (F : Int) (x : BitVec 128) (n h : Int) (w : World) :
    Calls Try.prog 26 #[.int .i64 F, .agg #[.int .u64 (hI x), .int .u64 (lI x), .int .i64 n, .int .i64 h]] w fun e w' => e = .returned (.int .i64 (rteE F ((x, n), h))) ∧ Below w.heap.size w w' := by
  have KC := fun w => rcheck_any F x n w
  unfold rteE hopB
  dsimp only
  revert KC
  generalize checkE F x n = ce
  intro KC
  obtain ⟨p0, p1, p2, p3⟩ := atr_new w w.heap.size x n h 45 rfl
  have A1 := hidR (atr_new w w.heap.size x n h 45 rfl)
  have b1 := hidR (bl1 w (.cells #[.int .u64 (hI x), .int .u64 (lI x), .int .i64 n, .int .i64 h] 45))
  obtain ⟨re, hre⟩ : ∃ re, re = if ce = 0 then if (decide (1 ≤ h) && decide (h ≤ 65535)) = true then (0 : Int) else 15 else ce := ⟨_, rfl⟩
  rw [← hre]
  have HRE := hidR hre
  clear hre
  go_enter Try.func26, Try.ntmps26
  go_wp2_with fail
  refine (KC _).mono ?_
  rintro e w1 ⟨rfl, hb⟩
  have kB := keepb hb b1.out
  obtain ⟨q0, q1, q2, q3⟩ := A1.out.below hb
  clear KC hb A1 b1 p0 p1 p2 p3
  by_cases hc : ce = 0
  · subst hc
    by_cases g1 : h < 1
    · have HE : Hid (re = 15) := hidR (by rw [HRE.out, if_pos rfl, if_neg (by simp; omega)])
      clear HRE
      go_wp2
      go_ret
      exact ⟨by rw [HE.out]; rfl, kB⟩
    · by_cases g2 : 65535 < h
      · have HE : Hid (re = 15) := hidR (by rw [HRE.out, if_pos rfl, if_neg (by simp; omega)])
        clear HRE
        go_wp2
        go_ret
        exact ⟨by rw [HE.out]; rfl, kB⟩
      · have HE : Hid (re = 0) := hidR (by rw [HRE.out, if_pos rfl, if_pos (by simp; omega)])
        clear HRE
        go_wp2
        go_ret
        exact ⟨by rw [HE.out]; rfl, kB⟩
  · have hn : (ce == 0) = false := by simp [hc]
    have HE : Hid (re = ce) := hidR (by rw [HRE.out, if_neg hc])
    clear HRE
    go_wp2
    go_ret
    exact ⟨by rw [HE.out]; rfl, kB⟩
/-- A table, a route of its row. -/
def C8 (w : World) (F : Int) (v : Value) (b o : Nat) (x : BitVec 128) (n h : Int) (W : World) : Prop := AtT W w.heap.size F v ∧ (W.cell? ⟨b, o, none⟩ = some (.int .u64 (hI x)) ∧ W.cell? ⟨b, o + 1, none⟩ = some (.int .u64 (lI x)) ∧ W.cell? ⟨b, o + 2, none⟩ = some (.int .i64 n) ∧ W.cell? ⟨b, o + 3, none⟩ = some (.int .i64 h)) ∧ Below w.heap.size w W
theorem C8.below {w W W' : World} {F : Int} {v : Value} {b o : Nat} {x : BitVec 128} {n h : Int} (g : C8 w F v b o x n h W) (hb : Below W.heap.size W W') : C8 w F v b o x n h W' := ⟨g.1.below hb, ⟨keepc hb g.2.1.1, keepc hb g.2.1.2.1, keepc hb g.2.1.2.2.1, keepc hb g.2.1.2.2.2⟩, keepb hb g.2.2⟩
theorem C8.drew {w W : World} {F : Int} {v : Value} {b o : Nat} {x : BitVec 128} {n h : Int} (g : C8 w F v b o x n h W) : C8 w F v b o x n h W.drew := ⟨g.1, g.2.1, g.2.2.drew⟩
/-- A table, two routes of its row. -/
def C14 (w : World) (F : Int) (v : Value) (b o u : Nat) (x : BitVec 128) (n h : Int) (y : BitVec 128) (m g : Int) (W : World) : Prop := AtT W w.heap.size F v ∧ (W.cell? ⟨b, o, none⟩ = some (.int .u64 (hI x)) ∧ W.cell? ⟨b, o + 1, none⟩ = some (.int .u64 (lI x)) ∧ W.cell? ⟨b, o + 2, none⟩ = some (.int .i64 n) ∧ W.cell? ⟨b, o + 3, none⟩ = some (.int .i64 h)) ∧ (W.cell? ⟨b, u, none⟩ = some (.int .u64 (hI y)) ∧ W.cell? ⟨b, u + 1, none⟩ = some (.int .u64 (lI y)) ∧ W.cell? ⟨b, u + 2, none⟩ = some (.int .i64 m) ∧ W.cell? ⟨b, u + 3, none⟩ = some (.int .i64 g)) ∧ Below w.heap.size w W
theorem C14.below {w W W' : World} {F : Int} {v : Value} {b o u : Nat} {x : BitVec 128} {n h : Int} {y : BitVec 128} {m g : Int} (q : C14 w F v b o u x n h y m g W) (hb : Below W.heap.size W W') : C14 w F v b o u x n h y m g W' := ⟨q.1.below hb, ⟨keepc hb q.2.1.1, keepc hb q.2.1.2.1, keepc hb q.2.1.2.2.1, keepc hb q.2.1.2.2.2⟩, ⟨keepc hb q.2.2.1.1, keepc hb q.2.2.1.2.1, keepc hb q.2.2.1.2.2.1, keepc hb q.2.2.1.2.2.2⟩, keepb hb q.2.2.2⟩
theorem C14.drew {w W : World} {F : Int} {v : Value} {b o u : Nat} {x : BitVec 128} {n h : Int} {y : BitVec 128} {m g : Int} (q : C14 w F v b o u x n h y m g W) : C14 w F v b o u x n h y m g W.drew := ⟨q.1, q.2.1, q.2.2.1, q.2.2.2.drew⟩
/-- Each route stands ahead of the next one. -/
def Adj (l : List Rte) : Prop := ∀ (a : Nat) (h : a + 1 < l.length), pcmpZ l[a].1.1 l[a].1.2 l[a + 1].1.1 l[a + 1].1.2 < 0
/-- What Check tells of a table. -/
def TabE (F : Int) (l : List Rte) (z : Int) : Prop := (rtsE F l ≠ 0 → z = rtsE F l) ∧ (rtsE F l = 0 → (Adj l ∧ z = 0) ∨ (¬ Adj l ∧ z = 19))
set_option maxRecDepth 20000 in
set_option maxHeartbeats 8000000 in
theorem rcheckT_any (F : Int) (v : Value) (l : List Rte) (w : World) (hv : RwR w v l) :
    Calls Try.prog 29 #[.agg #[.int .i64 F, v]] w fun e w' => (∃ z, TabE F l z ∧ e = .returned (.int .i64 z)) ∧ Below w.heap.size w w' := by
  obtain ⟨ao, c, rfl, hv⟩ := hv
  have KI := fun w => isFamily_any F w
  have HT := hidR (att_new w w.heap.size F (.slice ao l.length c) 25 rfl)
  have HB := hidR (bl1 w (.cells #[.int .i64 F, .slice ao l.length c] 25))
  have HV : Hid (l = [] ∨ ∃ b off, ao = some ⟨b, off, none⟩ ∧ ∀ j u, (rowR l)[j]? = some u → w.cell? ⟨b, off + j, none⟩ = some u) := hv
  obtain ⟨t0, t1⟩ := HT.out
  clear hv
  cases hf : fam F
  · rw [hf] at KI
    have HE : Hid (TabE F l 11) := hidR (by unfold TabE rtsE; rw [if_neg (by simp [hf])]; exact ⟨fun _ => rfl, fun h => by omega⟩)
    clear hf HV HT
    go_enter Try.func29, Try.ntmps29
    go_wp2_with fail
    refine (KI _).mono ?_
    rintro e w1 ⟨rfl, rfl⟩
    clear KI
    go_wp2
    go_ret
    exact ⟨⟨11, HE.out, rfl⟩, HB.out⟩
  · rw [hf] at KI
    by_cases hl : 1048576 < l.length
    · have HE : Hid (TabE F l 16) := hidR (by unfold TabE rtsE; rw [if_pos (by simp [hf]), if_pos hl]; exact ⟨fun _ => rfl, fun h => by omega⟩)
      have h1 : (1048576 : Int) < (l.length : Int) := by omega
      clear hf HV HT
      go_enter Try.func29, Try.ntmps29
      go_wp2_with fail
      refine (KI _).mono ?_
      rintro e w1 ⟨rfl, rfl⟩
      clear KI
      go_wp2
      go_ret
      exact ⟨⟨16, HE.out, rfl⟩, HB.out⟩
    · have h1 : ¬ (1048576 : Int) < (l.length : Int) := by omega
      have HRE : Hid (rtsE F l = rtsG F l) := hidR (by unfold rtsE; rw [if_pos hf, if_neg hl])
      clear hf hl
      go_enter Try.func29, Try.ntmps29
      go_wp2_with fail
      refine (KI _).mono ?_
      rintro e w1 ⟨rfl, rfl⟩
      clear KI
      go_wp2_with fail
      go_loopw [3] (fun i wr => ∃ k : Nat, k ≤ l.length ∧ i = .int .i64 k ∧ Hid (rtsG F (l.drop k) = rtsG F l) ∧ Hid (AtT wr w.heap.size F (.slice ao l.length c)) ∧ Hid (Below w.heap.size w wr)) (fun i _ => l.length - (intOf i).toNat)
      case atStart => exact ⟨0, by omega, rfl, hidR rfl, HT, HB⟩
      case round =>
        clear HT HB t0 t1
        obtain ⟨k, hk, rfl, HG, HT, HB⟩ := hrel
        obtain ⟨t0, t1⟩ := HT.out
        by_cases hlt : (k : Int) < (l.length : Int)
        · have hks : k < l.length := by omega
          rcases HV.out with e | ⟨b, off, rfl, hc⟩
          · rw [e] at hks; simp at hks
          · obtain ⟨x0, x1, x2, x3⟩ := rwr_cells hc k hks
            have HC := hidR (C8.drew ⟨HT.out, ⟨keepc HB.out x0, keepc HB.out x1, keepc HB.out x2, keepc HB.out x3⟩, HB.out⟩ : C8 w F (.slice (some ⟨b, off, none⟩) l.length c) b (off + k * 4) l[k].1.1 l[k].1.2 l[k].2 wr.drew)
            have KC := fun w => rchecked_any F l[k].1.1 l[k].1.2 l[k].2 w
            have HD := hidR (rts_drop F l k hks)
            have eR : ((l[k].1.1, l[k].1.2), l[k].2) = l[k] := rfl
            rw [eR] at KC
            have KC := KC
            clear x0 x1 x2 x3 hc HV eR HT HB
            revert KC HD HC
            generalize rteE F l[k] = ce
            generalize l[k].1.1 = px
            generalize l[k].1.2 = pn
            generalize l[k].2 = ph
            intro HC HD KC
            go_wp2_with fail
            refine qp_region2 9 (qpOk 9 9 (by decide) (fun N => by kernel_rfl) (by kernel_rfl) (by kernel_rfl) (by kernel_rfl) (by kernel_rfl)) (C := C8 w F (.slice (some ⟨b, off, none⟩) l.length c) b (off + k * 4) px pn ph) [some 21, some 22, some 23, some 24, some 25, some 26, some 27, some 28, some 4] [.pointer (some ⟨w.heap.size, 0, none⟩), .int .i64 F, .pointer (some ⟨w.heap.size, 1, none⟩), .slice (some ⟨b, off, none⟩) l.length c, .int .i64 (k : Int), .pointer (some ⟨b, off + k * 4, none⟩), .agg #[.int .u64 (hI px), .int .u64 (lI px), .int .i64 pn, .int .i64 ph], .int .i64 ce, .int .i64 ce] (by kernel_rfl) HC.out ?walk ?fin
            case walk =>
              dsimp only [List.take]
              clear HC HD HG t0 t1
              refine q_run (v := .pointer (some ⟨w.heap.size, 0, none⟩)) (by rfl) ?_ ?_
              · (intro w1 hC; obtain ⟨⟨t0, t1⟩, ⟨x0, x1, x2, x3⟩, -⟩ := hC; go_simp; first | done | (simp; done) | (simp [*]; done) | omega | (simp; omega) | (rw [IntKind.wrap_i64]; omega) | (intro hx; omega) | rfl)
              simp only [Act.put, List.setIfInBounds_toArray, List.set_cons_zero, List.set_cons_succ]
              refine q_run (v := .int .i64 F) (by rfl) ?_ ?_
              · (intro w1 hC; obtain ⟨⟨t0, t1⟩, ⟨x0, x1, x2, x3⟩, -⟩ := hC; go_simp; first | done | (simp; done) | (simp [*]; done) | omega | (simp; omega) | (rw [IntKind.wrap_i64]; omega) | (intro hx; omega) | rfl)
              simp only [Act.put, List.setIfInBounds_toArray, List.set_cons_zero, List.set_cons_succ]
              refine q_run (v := .pointer (some ⟨w.heap.size, 1, none⟩)) (by rfl) ?_ ?_
              · (intro w1 hC; obtain ⟨⟨t0, t1⟩, ⟨x0, x1, x2, x3⟩, -⟩ := hC; go_simp; first | done | (simp; done) | (simp [*]; done) | omega | (simp; omega) | (rw [IntKind.wrap_i64]; omega) | (intro hx; omega) | rfl)
              simp only [Act.put, List.setIfInBounds_toArray, List.set_cons_zero, List.set_cons_succ]
              refine q_run (v := .slice (some ⟨b, off, none⟩) l.length c) (by rfl) ?_ ?_
              · (intro w1 hC; obtain ⟨⟨t0, t1⟩, ⟨x0, x1, x2, x3⟩, -⟩ := hC; go_simp; first | done | (simp; done) | (simp [*]; done) | omega | (simp; omega) | (rw [IntKind.wrap_i64]; omega) | (intro hx; omega) | rfl)
              simp only [Act.put, List.setIfInBounds_toArray, List.set_cons_zero, List.set_cons_succ]
              refine q_run (v := .int .i64 (k : Int)) (by rfl) ?_ ?_
              · (intro w1 hC; obtain ⟨⟨t0, t1⟩, ⟨x0, x1, x2, x3⟩, -⟩ := hC; go_simp; first | done | (simp; done) | (simp [*]; done) | omega | (simp; omega) | (rw [IntKind.wrap_i64]; omega) | (intro hx; omega) | rfl)
              simp only [Act.put, List.setIfInBounds_toArray, List.set_cons_zero, List.set_cons_succ]
              refine q_run (v := .pointer (some ⟨b, off + k * 4, none⟩)) (by rfl) ?_ ?_
              · (intro w1 hC; obtain ⟨⟨t0, t1⟩, ⟨x0, x1, x2, x3⟩, -⟩ := hC; go_simp; first | done | (simp; done) | (simp [*]; done) | omega | (simp; omega) | (rw [IntKind.wrap_i64]; omega) | (intro hx; omega) | rfl)
              simp only [Act.put, List.setIfInBounds_toArray, List.set_cons_zero, List.set_cons_succ]
              refine q_run (v := .agg #[.int .u64 (hI px), .int .u64 (lI px), .int .i64 pn, .int .i64 ph]) (by rfl) ?_ ?_
              · (intro w1 hC; obtain ⟨⟨t0, t1⟩, ⟨x0, x1, x2, x3⟩, -⟩ := hC; go_simp; first | done | (simp; done) | (simp [*]; done) | omega | (simp; omega) | (rw [IntKind.wrap_i64]; omega) | (intro hx; omega) | rfl)
              simp only [Act.put, List.setIfInBounds_toArray, List.set_cons_zero, List.set_cons_succ]
              refine q_call (v := .int .i64 ce) (f := 26) (args := #[.int .i64 F, .agg #[.int .u64 (hI px), .int .u64 (lI px), .int .i64 pn, .int .i64 ph]]) (by rfl) ?_ ?_ ?_
              · (intro w1 hC; clear hC; go_simp)
              · exact fun w1 hC => (KC w1).mono fun e w' ⟨he, hb⟩ => ⟨he, hC.below hb⟩
              simp only [Act.put, List.setIfInBounds_toArray, List.set_cons_zero, List.set_cons_succ]
              refine q_run (v := .int .i64 ce) (by rfl) ?_ ?_
              · (intro w1 hC; obtain ⟨⟨t0, t1⟩, ⟨x0, x1, x2, x3⟩, -⟩ := hC; go_simp; first | done | (simp; done) | (simp [*]; done) | omega | (simp; omega) | (rw [IntKind.wrap_i64]; omega) | (intro hx; omega) | rfl)
              simp only [Act.put, List.setIfInBounds_toArray, List.set_cons_zero, List.set_cons_succ]
              refine wpQuiet_nil ?_
              simp only [putAll, Act.put, List.setIfInBounds_toArray, List.set_cons_zero, List.set_cons_succ]
            case fin =>
              intro W hC
              simp only [putAll, Act.put, List.setIfInBounds_toArray, List.set_cons_zero, List.set_cons_succ]
              dsimp only [List.drop]
              have HT := hidR hC.1
              have HB := hidR hC.2.2
              clear hC HC KC t0 t1
              have mk : IntKind.i64.wrap ((k : Int) + 1) = (k : Int) + 1 := by rw [IntKind.wrap_i64]; omega
              by_cases hce : ce = 0
              · subst hce
                go_wp2
                go_roundw
                case rel => exact ⟨k + 1, by omega, by go_num, hidR (by rw [← HG.out, HD.out]; simp), HT, HB⟩
                case measure => simp [intOf]; omega
              · have hn : (ce != 0) = true := by simp [hce]
                have HE : Hid (TabE F l ce) := hidR (by
                  have e1 : rtsE F l = ce := by rw [HRE.out, ← HG.out, HD.out, if_neg hce]
                  unfold TabE
                  rw [e1]
                  exact ⟨fun _ => rfl, fun h => absurd h hce⟩)
                clear HG HD HRE HT
                go_wp2
                go_ret
                exact ⟨⟨ce, HE.out, rfl⟩, HB.out⟩
        · have hd : ¬ k < l.length := by omega
          have HZ : Hid (rtsE F l = 0) := hidR (by rw [HRE.out, ← HG.out, List.drop_eq_nil_of_le (by omega)]; rfl)
          clear HG HRE
          go_wp2_with fail
          go_loopw [5] (fun i wr => ∃ k1 p : Nat, k1 = p + 1 ∧ p ≤ l.length ∧ i = .int .i64 k1 ∧ Hid (∀ (a : Nat) (h : a + 1 < l.length), a < p → pcmpZ l[a].1.1 l[a].1.2 l[a + 1].1.1 l[a + 1].1.2 < 0) ∧ Hid (AtT wr w.heap.size F (.slice ao l.length c)) ∧ Hid (Below w.heap.size w wr)) (fun i _ => l.length - (intOf i).toNat)
          case atStart => exact ⟨1, 0, rfl, by omega, rfl, hidR fun a h g => by omega, HT, HB⟩
          case round =>
            clear HT HB t0 t1
            obtain ⟨k1, p, hkp, hp, rfl, HG, HT, HB⟩ := hrel
            obtain ⟨t0, t1⟩ := HT.out
            by_cases hlt : (k1 : Int) < (l.length : Int)
            · have hks : k1 < l.length := by omega
              have hps : p < l.length := by omega
              rcases HV.out with e | ⟨b, off, rfl, hc⟩
              · rw [e] at hks; simp at hks
              · obtain ⟨x0, x1, x2, x3⟩ := rwr_cells hc p hps
                obtain ⟨y0, y1, y2, y3⟩ := rwr_cells hc k1 hks
                have HC := hidR (C14.drew ⟨HT.out, ⟨keepc HB.out x0, keepc HB.out x1, keepc HB.out x2, keepc HB.out x3⟩, ⟨keepc HB.out y0, keepc HB.out y1, keepc HB.out y2, keepc HB.out y3⟩, HB.out⟩ : C14 w F (.slice (some ⟨b, off, none⟩) l.length c) b (off + p * 4) (off + k1 * 4) l[p].1.1 l[p].1.2 l[p].2 l[k1].1.1 l[k1].1.2 l[k1].2 wr.drew)
                have KZ := fun w => rpcmp_any l[p].1.1 l[p].1.2 l[k1].1.1 l[k1].1.2 w
                have HD : Hid (∀ z, z = pcmpZ l[p].1.1 l[p].1.2 l[k1].1.1 l[k1].1.2 → (z < 0 → ∀ (a : Nat) (h : a + 1 < l.length), a < k1 → pcmpZ l[a].1.1 l[a].1.2 l[a + 1].1.1 l[a + 1].1.2 < 0) ∧ (¬ z < 0 → ¬ Adj l)) := hidR (by
                  rintro z rfl
                  subst hkp
                  refine ⟨fun hz a h ha => ?_, fun hz hA => hz (hA p hks)⟩
                  rcases Nat.lt_or_eq_of_le (Nat.le_of_lt_succ ha) with q | q
                  · exact HG.out a h q
                  · subst q; exact hz)
                clear x0 x1 x2 x3 y0 y1 y2 y3 hc HV HT HB HG
                have HD2 := hidR (HD.out _ rfl)
                clear HD
                revert KZ HD2 HC
                generalize pcmpZ l[p].1.1 l[p].1.2 l[k1].1.1 l[k1].1.2 = cz
                generalize l[p].1.1 = px
                generalize l[p].1.2 = pn
                generalize l[p].2 = ph
                generalize l[k1].1.1 = qx
                generalize l[k1].1.2 = qn
                generalize l[k1].2 = qh
                intro HC KZ HD2
                have ms : IntKind.i64.wrap ((k1 : Int) - 1) = (p : Int) := by rw [IntKind.wrap_i64]; omega
                clear hkp
                go_wp2_with fail
                refine qp_region2 15 (qpOk 15 15 (by decide) (fun N => by kernel_rfl) (by kernel_rfl) (by kernel_rfl) (by kernel_rfl) (by kernel_rfl)) (C := C14 w F (.slice (some ⟨b, off, none⟩) l.length c) b (off + p * 4) (off + k1 * 4) px pn ph qx qn qh) [some 39, some 40, some 41, some 42, some 43, some 44, some 45, some 46, some 47, some 48, some 49, some 50, some 51, some 52, some 53] [.pointer (some ⟨w.heap.size, 1, none⟩), .slice (some ⟨b, off, none⟩) l.length c, .int .i64 (k1 : Int), .int .i64 (p : Int), .pointer (some ⟨b, off + p * 4, none⟩), .pointer (some ⟨b, off + p * 4, none⟩), .agg #[.int .u64 (hI px), .int .u64 (lI px), .int .i64 pn], .pointer (some ⟨w.heap.size, 1, none⟩), .slice (some ⟨b, off, none⟩) l.length c, .int .i64 (k1 : Int), .pointer (some ⟨b, off + k1 * 4, none⟩), .pointer (some ⟨b, off + k1 * 4, none⟩), .agg #[.int .u64 (hI qx), .int .u64 (lI qx), .int .i64 qn], .int .i64 cz, .bool (decide (0 ≤ cz))] (by kernel_rfl) HC.out ?walk ?fin
                case walk =>
                  dsimp only [List.take]
                  clear HC HD2 t0 t1
                  refine q_run (v := .pointer (some ⟨w.heap.size, 1, none⟩)) (by rfl) ?_ ?_
                  · (intro w1 hC; obtain ⟨⟨t0, t1⟩, ⟨x0, x1, x2, -⟩, ⟨y0, y1, y2, -⟩, -⟩ := hC; go_simp; first | done | (simp; done) | (simp [*]; done) | omega | (simp; omega) | (rw [IntKind.wrap_i64]; omega) | (intro hx; omega) | rfl)
                  simp only [Act.put, List.setIfInBounds_toArray, List.set_cons_zero, List.set_cons_succ]
                  refine q_run (v := .slice (some ⟨b, off, none⟩) l.length c) (by rfl) ?_ ?_
                  · (intro w1 hC; obtain ⟨⟨t0, t1⟩, ⟨x0, x1, x2, -⟩, ⟨y0, y1, y2, -⟩, -⟩ := hC; go_simp; first | done | (simp; done) | (simp [*]; done) | omega | (simp; omega) | (rw [IntKind.wrap_i64]; omega) | (intro hx; omega) | rfl)
                  simp only [Act.put, List.setIfInBounds_toArray, List.set_cons_zero, List.set_cons_succ]
                  refine q_run (v := .int .i64 (k1 : Int)) (by rfl) ?_ ?_
                  · (intro w1 hC; obtain ⟨⟨t0, t1⟩, ⟨x0, x1, x2, -⟩, ⟨y0, y1, y2, -⟩, -⟩ := hC; go_simp; first | done | (simp; done) | (simp [*]; done) | omega | (simp; omega) | (rw [IntKind.wrap_i64]; omega) | (intro hx; omega) | rfl)
                  simp only [Act.put, List.setIfInBounds_toArray, List.set_cons_zero, List.set_cons_succ]
                  refine q_run (v := .int .i64 (p : Int)) (by rfl) ?_ ?_
                  · (intro w1 hC; obtain ⟨⟨t0, t1⟩, ⟨x0, x1, x2, -⟩, ⟨y0, y1, y2, -⟩, -⟩ := hC; go_simp; first | done | (simp; done) | (simp [*]; done) | omega | (simp; omega) | (rw [IntKind.wrap_i64]; omega) | (intro hx; omega) | rfl)
                  simp only [Act.put, List.setIfInBounds_toArray, List.set_cons_zero, List.set_cons_succ]
                  refine q_run (v := .pointer (some ⟨b, off + p * 4, none⟩)) (by rfl) ?_ ?_
                  · (intro w1 hC; obtain ⟨⟨t0, t1⟩, ⟨x0, x1, x2, -⟩, ⟨y0, y1, y2, -⟩, -⟩ := hC; go_simp; first | done | (simp; done) | (simp [*]; done) | omega | (simp; omega) | (rw [IntKind.wrap_i64]; omega) | (intro hx; omega) | rfl)
                  simp only [Act.put, List.setIfInBounds_toArray, List.set_cons_zero, List.set_cons_succ]
                  refine q_run (v := .pointer (some ⟨b, off + p * 4, none⟩)) (by rfl) ?_ ?_
                  · (intro w1 hC; obtain ⟨⟨t0, t1⟩, ⟨x0, x1, x2, -⟩, ⟨y0, y1, y2, -⟩, -⟩ := hC; go_simp; first | done | (simp; done) | (simp [*]; done) | omega | (simp; omega) | (rw [IntKind.wrap_i64]; omega) | (intro hx; omega) | rfl)
                  simp only [Act.put, List.setIfInBounds_toArray, List.set_cons_zero, List.set_cons_succ]
                  refine q_run (v := .agg #[.int .u64 (hI px), .int .u64 (lI px), .int .i64 pn]) (by rfl) ?_ ?_
                  · (intro w1 hC; obtain ⟨⟨t0, t1⟩, ⟨x0, x1, x2, -⟩, ⟨y0, y1, y2, -⟩, -⟩ := hC; go_simp; first | done | (simp; done) | (simp [*]; done) | omega | (simp; omega) | (rw [IntKind.wrap_i64]; omega) | (intro hx; omega) | rfl)
                  simp only [Act.put, List.setIfInBounds_toArray, List.set_cons_zero, List.set_cons_succ]
                  refine q_run (v := .pointer (some ⟨w.heap.size, 1, none⟩)) (by rfl) ?_ ?_
                  · (intro w1 hC; obtain ⟨⟨t0, t1⟩, ⟨x0, x1, x2, -⟩, ⟨y0, y1, y2, -⟩, -⟩ := hC; go_simp; first | done | (simp; done) | (simp [*]; done) | omega | (simp; omega) | (rw [IntKind.wrap_i64]; omega) | (intro hx; omega) | rfl)
                  simp only [Act.put, List.setIfInBounds_toArray, List.set_cons_zero, List.set_cons_succ]
                  refine q_run (v := .slice (some ⟨b, off, none⟩) l.length c) (by rfl) ?_ ?_
                  · (intro w1 hC; obtain ⟨⟨t0, t1⟩, ⟨x0, x1, x2, -⟩, ⟨y0, y1, y2, -⟩, -⟩ := hC; go_simp; first | done | (simp; done) | (simp [*]; done) | omega | (simp; omega) | (rw [IntKind.wrap_i64]; omega) | (intro hx; omega) | rfl)
                  simp only [Act.put, List.setIfInBounds_toArray, List.set_cons_zero, List.set_cons_succ]
                  refine q_run (v := .int .i64 (k1 : Int)) (by rfl) ?_ ?_
                  · (intro w1 hC; obtain ⟨⟨t0, t1⟩, ⟨x0, x1, x2, -⟩, ⟨y0, y1, y2, -⟩, -⟩ := hC; go_simp; first | done | (simp; done) | (simp [*]; done) | omega | (simp; omega) | (rw [IntKind.wrap_i64]; omega) | (intro hx; omega) | rfl)
                  simp only [Act.put, List.setIfInBounds_toArray, List.set_cons_zero, List.set_cons_succ]
                  refine q_run (v := .pointer (some ⟨b, off + k1 * 4, none⟩)) (by rfl) ?_ ?_
                  · (intro w1 hC; obtain ⟨⟨t0, t1⟩, ⟨x0, x1, x2, -⟩, ⟨y0, y1, y2, -⟩, -⟩ := hC; go_simp; first | done | (simp; done) | (simp [*]; done) | omega | (simp; omega) | (rw [IntKind.wrap_i64]; omega) | (intro hx; omega) | rfl)
                  simp only [Act.put, List.setIfInBounds_toArray, List.set_cons_zero, List.set_cons_succ]
                  refine q_run (v := .pointer (some ⟨b, off + k1 * 4, none⟩)) (by rfl) ?_ ?_
                  · (intro w1 hC; obtain ⟨⟨t0, t1⟩, ⟨x0, x1, x2, -⟩, ⟨y0, y1, y2, -⟩, -⟩ := hC; go_simp; first | done | (simp; done) | (simp [*]; done) | omega | (simp; omega) | (rw [IntKind.wrap_i64]; omega) | (intro hx; omega) | rfl)
                  simp only [Act.put, List.setIfInBounds_toArray, List.set_cons_zero, List.set_cons_succ]
                  refine q_run (v := .agg #[.int .u64 (hI qx), .int .u64 (lI qx), .int .i64 qn]) (by rfl) ?_ ?_
                  · (intro w1 hC; obtain ⟨⟨t0, t1⟩, ⟨x0, x1, x2, -⟩, ⟨y0, y1, y2, -⟩, -⟩ := hC; go_simp; first | done | (simp; done) | (simp [*]; done) | omega | (simp; omega) | (rw [IntKind.wrap_i64]; omega) | (intro hx; omega) | rfl)
                  simp only [Act.put, List.setIfInBounds_toArray, List.set_cons_zero, List.set_cons_succ]
                  refine q_call (v := .int .i64 cz) (f := 46) (args := #[.agg #[.int .u64 (hI px), .int .u64 (lI px), .int .i64 pn], .agg #[.int .u64 (hI qx), .int .u64 (lI qx), .int .i64 qn]]) (by rfl) ?_ ?_ ?_
                  · (intro w1 hC; clear hC; go_simp)
                  · exact fun w1 hC => (KZ w1).mono fun e w' ⟨he, hb⟩ => ⟨he, hC.below hb⟩
                  simp only [Act.put, List.setIfInBounds_toArray, List.set_cons_zero, List.set_cons_succ]
                  refine q_run (v := .bool (decide (0 ≤ cz))) (by rfl) ?_ ?_
                  · (intro w1 hC; obtain ⟨⟨t0, t1⟩, ⟨x0, x1, x2, -⟩, ⟨y0, y1, y2, -⟩, -⟩ := hC; go_simp; first | done | (simp; done) | (simp [*]; done) | omega | (simp; omega) | (rw [IntKind.wrap_i64]; omega) | (intro hx; omega) | rfl)
                  simp only [Act.put, List.setIfInBounds_toArray, List.set_cons_zero, List.set_cons_succ]
                  refine wpQuiet_nil ?_
                  simp only [putAll, Act.put, List.setIfInBounds_toArray, List.set_cons_zero, List.set_cons_succ]
                case fin =>
                  intro W hC
                  simp only [putAll, Act.put, List.setIfInBounds_toArray, List.set_cons_zero, List.set_cons_succ]
                  dsimp only [List.drop]
                  have HT := hidR hC.1
                  have HB := hidR hC.2.2.2
                  clear hC HC KZ t0 t1 ms
                  have mk : IntKind.i64.wrap ((k1 : Int) + 1) = (k1 : Int) + 1 := by rw [IntKind.wrap_i64]; omega
                  by_cases hz : cz < 0
                  · have hz' : ¬ 0 ≤ cz := by omega
                    have HG := hidR (HD2.out.1 hz)
                    clear HD2
                    go_wp2
                    go_roundw
                    case rel => exact ⟨k1 + 1, k1, rfl, by omega, by go_num, HG, HT, HB⟩
                    case measure => simp [intOf]; omega
                  · have hz' : 0 ≤ cz := by omega
                    have HE : Hid (TabE F l 19) := hidR ⟨fun h => absurd HZ.out h, fun _ => .inr ⟨HD2.out.2 (by omega), rfl⟩⟩
                    clear HD2 HT HZ
                    go_wp2
                    go_ret
                    exact ⟨⟨19, HE.out, rfl⟩, HB.out⟩
            · have HE : Hid (TabE F l 0) := hidR ⟨fun h => absurd HZ.out h, fun _ => .inl ⟨fun a h => HG.out a h (by omega), rfl⟩⟩
              have hd : ¬ k1 < l.length := by omega
              clear HZ HG HT
              go_wp2
              go_ret
              exact ⟨⟨0, HE.out, rfl⟩, HB.out⟩
end Go.Proofs.Ytnaghiipfgdimaa
/-
  A table whose neighbours are in order is in order.
-/
namespace Go.Proofs.Ytnaghiipfgdimaa
open Go.RowKit

theorem ord_adj {l : List Rte} (h : Adj l) : OrdR l := by
  intro a b hb hab
  induction b with
  | zero => omega
  | succ b ih =>
    have h1 := (pcmp_lt _ _ _ _).1 (h b hb)
    rcases Nat.lt_or_eq_of_le (Nat.le_of_lt_succ hab) with q | q
    · have h2 := (pcmp_lt _ _ _ _).1 (ih (by omega) q)
      refine (pcmp_lt _ _ _ _).2 ?_
      omega
    · subst q
      exact h a hb
end Go.Proofs.Ytnaghiipfgdimaa
