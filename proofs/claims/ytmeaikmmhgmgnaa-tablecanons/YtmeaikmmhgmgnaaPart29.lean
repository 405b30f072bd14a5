/-
  Part 29 of the proof: 5 texts, one behind the other.
-/
import Derived.Test.YtmeaikmmhgmgnaaPart12
import Derived.Test.YtmeaikmmhgmgnaaPart27
import Derived.Test.YtmeaikmmhgmgnaaPart6
import Derived.Test.YtmeaikmmhgmgnaaPart10
import Derived.Test.YtmeaikmmhgmgnaaPart13
import Derived.Test.YtmeaikmmhgmgnaaPart5
import Derived.Test.YtmeaikmmhgmgnaaPart9
import Derived.Test.YtmeaikmmhgmgnaaPart2
import Derived.Test.YtmeaikmmhgmgnaaPart1
/-
  Plain facts: two prefixes are apart, or one lies within the other; what has an address lies between the ends.
-/
namespace Go.Proofs.Ytmeaikmmhgmgnaa
open Go.RowKit
set_option linter.unusedSimpArgs false
set_option linter.unusedVariables false

theorem last_bit (F : Int) (x : BitVec 128) (n : Int) (j : Nat) (hj : j < 128) : (lastW F x n).getLsbD j = (x.getLsbD j || (xor (decide (128 - F.toNat ≤ j)) (decide (128 - n.toNat ≤ j)))) := by
  unfold lastW
  rw [BitVec.getLsbD_or, BitVec.getLsbD_xor, maskW_bit F j hj, maskW_bit n j hj]
theorem cut_bit (x : BitVec 128) (n : Int) (j : Nat) (hj : j < 128) : (cutW x n).getLsbD j = (x.getLsbD j && decide (128 - n.toNat ≤ j)) := by
  unfold cutW
  rw [BitVec.getLsbD_and, maskW_bit n j hj]
theorem last_cut (F : Int) (x : BitVec 128) (n : Int) (h : Rt F x n) : cutW (lastW F x n) n = x := by
  apply BitVec.eq_of_getLsbD_eq
  intro j hj
  have hx := congrArg (fun z => z.getLsbD j) h.2.2
  simp only [cut_bit x n j hj] at hx
  rw [cut_bit _ n j hj, last_bit F x n j hj]
  have h1 := h.1; have h2 := h.2.1
  by_cases c : 128 - n.toNat ≤ j
  · have d : 128 - F.toNat ≤ j := by omega
    simp [c, d]
  · simp [c] at hx ⊢
    exact hx
theorem last_fam (F : Int) (x : BitVec 128) (n : Int) (h : Rt F x n) : cutW (lastW F x n) F = lastW F x n := by
  apply BitVec.eq_of_getLsbD_eq
  intro j hj
  have hx := congrArg (fun z => z.getLsbD j) h.2.2
  simp only [cut_bit x n j hj] at hx
  rw [cut_bit _ F j hj, last_bit F x n j hj]
  have h1 := h.1; have h2 := h.2.1
  by_cases d : 128 - F.toNat ≤ j
  · simp [d]
  · have c : ¬ 128 - n.toNat ≤ j := by omega
    simp [c] at hx
    simp [c, d, hx]
theorem cut_le (x : BitVec 128) (n : Int) : (cutW x n).toNat ≤ x.toNat := by
  rw [cut_nat]; exact Nat.div_mul_le_self _ _
theorem le_last (F : Int) (x : BitVec 128) (n : Int) (h : Rt F x n) (c : BitVec 128) (hc : cutW c F = c) (hx : cutW c n = x) : c.toNat ≤ (lastW F x n).toNat := by
  have e : c &&& lastW F x n = c := by
    apply BitVec.eq_of_getLsbD_eq
    intro j hj
    have e1 := congrArg (fun z => z.getLsbD j) hc
    have e2 := congrArg (fun z => z.getLsbD j) hx
    simp only [cut_bit c F j hj, cut_bit c n j hj] at e1 e2
    rw [BitVec.getLsbD_and, last_bit F x n j hj]
    by_cases a : 128 - n.toNat ≤ j
    · simp [a] at e2
      rw [e2]
      cases x.getLsbD j <;> simp
    · by_cases b : 128 - F.toNat ≤ j
      · simp [a, b]
      · simp [b] at e1
        rw [e1]; simp
  rw [← e, BitVec.toNat_and]
  exact Nat.and_le_right
theorem has_ends (F : Int) (x : BitVec 128) (n : Int) (h : Rt F x n) (c : BitVec 128) (hc : cutW c F = c) : cutW c n = x ↔ (x.toNat ≤ c.toNat ∧ c.toNat ≤ (lastW F x n).toNat) := by
  constructor
  · intro e
    exact ⟨by rw [← e]; exact cut_le c n, le_last F x n h c hc e⟩
  · rintro ⟨h1, h2⟩
    have a := cut_mono x c n h1
    have b := cut_mono c _ n h2
    rw [h.2.2] at a
    rw [last_cut F x n h] at b
    exact BitVec.eq_of_toNat_eq (by omega)
theorem cmp_le (x y : BitVec 128) : cmpZ x y ≤ 0 ↔ x.toNat ≤ y.toNat := by
  rcases cmpZ_ways x y with ⟨h, e⟩ | ⟨h, e⟩ | ⟨h, e⟩ <;> rw [e]
  · exact ⟨fun _ => by omega, fun _ => by decide⟩
  · exact ⟨fun _ => by rw [h]; omega, fun _ => by decide⟩
  · exact ⟨fun q => absurd q (by decide), fun q => by omega⟩
theorem cmp_lt0 (x y : BitVec 128) : cmpZ x y < 0 ↔ x.toNat < y.toNat := by
  rcases cmpZ_ways x y with ⟨h, e⟩ | ⟨h, e⟩ | ⟨h, e⟩ <;> rw [e]
  · exact ⟨fun _ => h, fun _ => by decide⟩
  · exact ⟨fun q => absurd q (by decide), fun q => by rw [h] at q; omega⟩
  · exact ⟨fun q => absurd q (by decide), fun q => by omega⟩
theorem rt_fam (F : Int) (x : BitVec 128) (n : Int) (h : Rt F x n) : cutW x F = x := by
  have := cut_cut2 x n F h.1 h.2.1
  rwa [h.2.2] at this
/-- If one ends ahead of the other, neither lies within the other. -/
theorem ahead_no (F : Int) (x : BitVec 128) (n : Int) (y : BitVec 128) (m : Int) (hx : Rt F x n) (hy : Rt F y m) (h : (lastW F x n).toNat < y.toNat) : withinB x n y m = false ∧ withinB y m x n = false := by
  constructor
  · cases q : withinB x n y m
    · rfl
    · rw [within_iff] at q
      have a := cut_le x m
      rw [q.2] at a
      have b := (has_ends F x n hx x (rt_fam F x n hx)).mp hx.2.2
      omega
  · cases q : withinB y m x n
    · rfl
    · rw [within_iff] at q
      have b := (has_ends F x n hx y (rt_fam F y m hy)).mp q.2
      omega
theorem apart_of (F : Int) (x : BitVec 128) (n : Int) (y : BitVec 128) (m : Int) (hx : Rt F x n) (hy : Rt F y m) (hnm : n ≤ m) (h : withinB y m x n = false) : (lastW F x n).toNat < y.toNat ∨ (lastW F y m).toNat < x.toNat := by
  have hc : ¬ cutW y n = x := by
    intro e
    have := (within_iff y m x n).mpr ⟨hnm, e⟩
    rw [h] at this; cases this
  rcases Nat.lt_or_ge (cutW y n).toNat x.toNat with q | q
  · right
    apply Classical.byContradiction
    intro c
    have a := cut_mono x (lastW F y m) n (by omega)
    rw [hx.2.2, ← cut_cut (lastW F y m) n m hx.1 hnm, last_cut F y m hy] at a
    omega
  · left
    apply Classical.byContradiction
    intro c
    have a := cut_mono y (lastW F x n) n (by omega)
    rw [last_cut F x n hx] at a
    exact hc (BitVec.eq_of_toNat_eq (by omega))
theorem apart_iff (F : Int) (x : BitVec 128) (n : Int) (y : BitVec 128) (m : Int) (hx : Rt F x n) (hy : Rt F y m) :
    ((lastW F x n).toNat < y.toNat ∨ (lastW F y m).toNat < x.toNat) ↔ (withinB x n y m = false ∧ withinB y m x n = false) := by
  constructor
  · rintro (h | h)
    · exact ahead_no F x n y m hx hy h
    · exact (ahead_no F y m x n hy hx h).symm
  · rintro ⟨h1, h2⟩
    by_cases c : n ≤ m
    · exact apart_of F x n y m hx hy c h2
    · exact (apart_of F y m x n hy hx (by omega) h1).symm
theorem both_eq (F : Int) (x : BitVec 128) (n : Int) (y : BitVec 128) (m : Int) (hx : Rt F x n) (hy : Rt F y m) : (withinB x n y m && withinB y m x n) = ((x == y) && (n == m)) := by
  rw [Bool.eq_iff_iff]
  simp only [Bool.and_eq_true, within_iff, beq_iff_eq]
  constructor
  · rintro ⟨⟨a, b⟩, c, d⟩
    have e : n = m := by omega
    subst e
    exact ⟨by rw [← d, hy.2.2], rfl⟩
  · rintro ⟨rfl, rfl⟩
    exact ⟨⟨Int.le_refl _, hx.2.2⟩, Int.le_refl _, hx.2.2⟩
theorem within_ends (F : Int) (x : BitVec 128) (n : Int) (y : BitVec 128) (m : Int) (hx : Rt F x n) (hy : Rt F y m) (h : withinB x n y m = true) : ¬ 0 < cmpZ y x ∧ ¬ 0 < cmpZ (lastW F x n) (lastW F y m) := by
  rw [within_iff] at h
  have a : cmpZ y x ≤ 0 := (cmp_le y x).mpr (by rw [← h.2]; exact cut_le x m)
  have hl : cutW (lastW F x n) m = y := by rw [← cut_cut (lastW F x n) m n hy.1 h.1, last_cut F x n hx, h.2]
  have b : cmpZ (lastW F x n) (lastW F y m) ≤ 0 := (cmp_le _ _).mpr (le_last F y m hy _ (last_fam F x n hx) hl)
  exact ⟨by omega, by omega⟩
theorem within_has (F : Int) (x : BitVec 128) (n : Int) (y : BitVec 128) (m : Int) (c : BitVec 128) (hy : Rt F y m) (h : withinB x n y m = true) (hc : (cutW c n == x) = true) : (cutW c m == y) = true := by
  rw [within_iff] at h
  have e : cutW c n = x := by simpa using hc
  have := cut_cut c m n hy.1 h.1
  rw [e, h.2] at this
  simp [← this]
end Go.Proofs.Ytmeaikmmhgmgnaa
/-
  Plain: the routes within whose prefixes one lies, gone over upwards.
-/
namespace Go.Proofs.Ytmeaikmmhgmgnaa
open Go.RowKit
set_option linter.unusedSimpArgs false
set_option linter.unusedVariables false

/-- Whether a prefix lies within a route's. -/
def inR (px : BitVec 128) (pn : Int) (r : Rte) : Bool := withinB px pn r.1.1 r.1.2
def RtR (F : Int) (l : List Rte) : Prop := ∀ r ∈ l, Rt F r.1.1 r.1.2
theorem toP_le {y : BitVec 128} {m : Int} {l : List Rte} (hO : OrdR l) {k : Nat} (h : UpTo y m l k) : ∀ (j : Nat) (hj : j < l.length), j < k ↔ pcmpZ l[j].1.1 l[j].1.2 y m ≤ 0 := by
  obtain ⟨hk, i, ok, ⟨h1, h2, h3⟩, h4⟩ := h
  intro j hj
  have hj2 := h2 j hj
  unfold toP at hj2 h3
  constructor
  · intro hjk
    by_cases c : j < i
    · have := hj2.mp c; omega
    · have hji : j = i := by
        rw [h4] at hjk
        split at hjk <;> omega
      subst hji
      have hok : ok = true := by
        cases ok with
        | true => rfl
        | false => rw [h4, if_neg (by simp)] at hjk; omega
      rw [hok, List.getElem?_eq_getElem hj] at h3
      have := of_decide_eq_true h3.symm
      omega
  · intro hle
    by_cases c : j < i
    · rw [h4]; split <;> omega
    · by_cases c2 : pcmpZ l[j].1.1 l[j].1.2 y m < 0
      · exact absurd (hj2.mpr c2) c
      · have h0 : pcmpZ l[j].1.1 l[j].1.2 y m = 0 := by omega
        by_cases c3 : j = i
        · subst c3
          rw [List.getElem?_eq_getElem hj] at h3
          have : ok = true := by rw [h3]; exact decide_eq_true h0
          rw [h4, if_pos this]; omega
        · exfalso
          have hij : i < j := by omega
          have hi := hO i j hj hij
          have e := (pcmp_eq0 _ _ _ _).mp h0
          have hi2 := h2 i (by omega)
          unfold toP at hi2
          rw [← e.1, ← e.2] at hi2
          have := hi2.mpr hi
          omega
/-- A route that a prefix lies within stands not behind it. -/
theorem in_le {F : Int} {px : BitVec 128} {pn : Int} {r : Rte} (hr : Rt F r.1.1 r.1.2) (h : withinB px pn r.1.1 r.1.2 = true) : pcmpZ r.1.1 r.1.2 px pn ≤ 0 := by
  obtain ⟨h1, h2⟩ := (within_iff _ _ _ _).mp h
  rw [pcmp_le]
  have := cut_le px r.1.2
  rw [h2] at this
  by_cases c : r.1.1.toNat < px.toNat
  · exact .inl c
  · exact .inr ⟨BitVec.eq_of_toNat_eq (by omega), h1⟩
theorem within_trans {F : Int} {x : BitVec 128} {n : Int} {y : BitVec 128} {m : Int} {z : BitVec 128} {k : Int} (hz : 0 ≤ k) (h1 : withinB x n y m = true) (h2 : withinB y m z k = true) : withinB x n z k = true := by
  obtain ⟨a1, a2⟩ := (within_iff _ _ _ _).mp h1
  obtain ⟨b1, b2⟩ := (within_iff _ _ _ _).mp h2
  refine (within_iff _ _ _ _).mpr ⟨by omega, ?_⟩
  rw [← b2, ← a2, cut_cut _ _ _ hz b1]
/-- How it stands: so many routes are left, all others that have the prefix are told. -/
structure UpS (F : Int) (l : List Rte) (px : BitVec 128) (pn : Int) (nx : BitVec 128) (nn : Int) (k : Nat) (pre : List Rte) : Prop where
  kl : k ≤ l.length
  nr : Rt F nx nn
  pw : withinB px pn nx nn = true
  le : ∀ (j : Nat) (hj : j < l.length), j < k → pcmpZ l[j].1.1 l[j].1.2 nx nn ≤ 0
  has : ∀ (j : Nat) (hj : j < l.length), j < k → inR px pn l[j] = true → withinB nx nn l[j].1.1 l[j].1.2 = true
  pr : pre = ((l.drop k).filter (inR px pn)).reverse
theorem filter_none {px : BitVec 128} {pn : Int} {l : List Rte} : ∀ (d k : Nat), k + d ≤ l.length → (∀ (j : Nat) (hj : j < l.length), k ≤ j → j < k + d → inR px pn l[j] = false) → (l.drop k).filter (inR px pn) = (l.drop (k + d)).filter (inR px pn)
  | 0, k, _, _ => rfl
  | d + 1, k, hk, h => by
    have hkl : k < l.length := by omega
    rw [List.drop_eq_getElem_cons hkl, List.filter_cons_of_neg (by rw [h k hkl (by omega) (by omega)]; simp), filter_none d (k + 1) (by omega) (fun j hj h1 h2 => h j hj (by omega) (by omega)), show k + 1 + d = k + (d + 1) by omega]
theorem up_first {F : Int} {l : List Rte} {px : BitVec 128} {pn : Int} {k : Nat} (hO : OrdR l) (hR : RtR F l) (hp : Rt F px pn) (hk : UpTo px pn l k) : UpS F l px pn px pn k [] := by
  have hj := toP_le hO hk
  have self : withinB px pn px pn = true := (within_iff _ _ _ _).mpr ⟨Int.le_refl _, hp.2.2⟩
  refine ⟨hk.1, hp, self, fun j h1 h2 => (hj j h1).mp h2, fun j h1 _ h3 => h3, ?_⟩
  have e := filter_none (px := px) (pn := pn) (l := l) (l.length - k) k (by have := hk.1; omega) (fun j h1 h2 _ => by
    cases h : inR px pn l[j] with
    | false => rfl
    | true =>
      have := (hj j h1).mpr (in_le (hR _ (List.getElem_mem h1)) h)
      omega)
  rw [e, show k + (l.length - k) = l.length by have := hk.1; omega, List.drop_length]
  rfl
theorem up_step {F : Int} {l : List Rte} {px : BitVec 128} {pn : Int} {nx : BitVec 128} {nn : Int} {k : Nat} {pre : List Rte} (hF : F ≤ 128) (hO : OrdR l) (hR : RtR F l) (hp : Rt F px pn) (s : UpS F l px pn nx nn (k + 1) pre) {k' : Nat} (hk : k < l.length)
    (hU : UpTo (cutW nx (meetN nx nn l[k].1.1 l[k].1.2)) (meetN nx nn l[k].1.1 l[k].1.2) (l.take k) k') :
    withinB nx nn l[k].1.1 l[k].1.2 = inR px pn l[k] ∧ UpS F l px pn (cutW nx (meetN nx nn l[k].1.1 l[k].1.2)) (meetN nx nn l[k].1.1 l[k].1.2) k' (pre ++ if inR px pn l[k] = true then [l[k]] else []) := by
  obtain ⟨rx, rn, hrr⟩ : ∃ rx rn, rx = l[k].1.1 ∧ rn = l[k].1.2 := ⟨_, _, rfl, rfl⟩
  have hr : Rt F l[k].1.1 l[k].1.2 := hR _ (List.getElem_mem hk)
  have hn := s.nr
  have same : withinB nx nn l[k].1.1 l[k].1.2 = inR px pn l[k] := by
    cases h : inR px pn l[k] with
    | true => exact s.has k hk (by omega) h
    | false =>
      cases h2 : withinB nx nn l[k].1.1 l[k].1.2 with
      | false => rfl
      | true =>
        have := within_trans (F := F) hr.1 s.pw h2
        unfold inR at h
        rw [this] at h; cases h
  refine ⟨same, ?_⟩
  have m0 := meetN_nn nx nn l[k].1.1 l[k].1.2 hn.1 hr.1
  have ml := meetN_le nx nn l[k].1.1 l[k].1.2
  have nin : withinB nx nn (cutW nx (meetN nx nn l[k].1.1 l[k].1.2)) (meetN nx nn l[k].1.1 l[k].1.2) = true := (within_iff _ _ _ _).mpr ⟨ml.1, rfl⟩
  have nrt : Rt F (cutW nx (meetN nx nn l[k].1.1 l[k].1.2)) (meetN nx nn l[k].1.1 l[k].1.2) := ⟨m0, by have := hn.2.1; omega, cut_cut _ _ _ m0 (Int.le_refl _)⟩
  have hOt : OrdR (l.take k) := fun a b hb hab => by
    rw [List.length_take] at hb
    have := hO a b (by omega) hab
    simpa [List.getElem_take] using this
  have hlt : (l.take k).length = k := by rw [List.length_take]; omega
  have hj := toP_le hOt hU
  have hk' : k' ≤ k := by have := hU.1; omega
  -- a route further ahead that has the prefix has what is near now
  have key : ∀ (j : Nat) (hjl : j < l.length), j < k → inR px pn l[j] = true → withinB (cutW nx (meetN nx nn l[k].1.1 l[k].1.2)) (meetN nx nn l[k].1.1 l[k].1.2) l[j].1.1 l[j].1.2 = true := by
    intro j hjl hjk hin
    have hrj : Rt F l[j].1.1 l[j].1.2 := hR _ (List.getElem_mem hjl)
    have w1 := s.has j hjl (by omega) hin
    have o1 := hO j k hk hjk
    have o2 := s.le k hk (by omega)
    have w2 := between F l[j].1.1 l[j].1.2 l[k].1.1 l[k].1.2 nx nn hrj hr (by omega) o2 w1
    exact meet_above nx nn l[k].1.1 l[k].1.2 l[j].1.1 l[j].1.2 hrj.1 (by have := hn.2.1; omega) w1 w2
  refine ⟨by omega, nrt, within_trans (F := F) m0 s.pw nin, fun j h1 h2 => ?_, fun j h1 h2 h3 => key j h1 (by omega) h3, ?_⟩
  · have := (hj j (by omega)).mp h2
    simpa [List.getElem_take] using this
  · have e := filter_none (px := px) (pn := pn) (l := l) (k - k') k' (by omega) (fun j h1 h2 h3 => by
      cases h : inR px pn l[j] with
      | false => rfl
      | true =>
        have q := in_le (hR _ (List.getElem_mem h1)) (key j h1 (by omega) h)
        have := (hj j (by omega)).mpr (by simpa [List.getElem_take] using q)
        omega)
    rw [e, show k' + (k - k') = k by omega, s.pr, List.drop_eq_getElem_cons hk]
    by_cases c : inR px pn l[k] = true
    · rw [List.filter_cons_of_pos c, if_pos c]; simp
    · rw [List.filter_cons_of_neg c, if_neg c]; simp
theorem up_end {F : Int} {l : List Rte} {px : BitVec 128} {pn : Int} {nx : BitVec 128} {nn : Int} {pre : List Rte} (s : UpS F l px pn nx nn 0 pre) : pre = (l.filter (inR px pn)).reverse := by
  have := s.pr
  rwa [List.drop_zero] at this
end Go.Proofs.Ytmeaikmmhgmgnaa
/-
  A range over a function that keeps variables of its own: a contract and the law.
-/
namespace Go.Proofs.Ytmeaikmmhgmgnaa
open Go.RowKit Go.Shelf
set_option linter.unusedSimpArgs false
set_option linter.unusedVariables false

/-- Only later blocks were changed, and of those that hold cells only those of one type. -/
structure Gw (Ty : TypeId) (n : Nat) (A B : World) : Prop where
  os : B.os = A.os
  tape : B.tape = A.tape
  output : B.output = A.output
  size : A.heap.size ≤ B.heap.size
  same : ∀ z o, A.heap[z]? = some o → (z < n ∨ ∃ cs T, o = .cells cs T ∧ T ≠ Ty) → B.heap[z]? = some o
theorem Gw.of {Ty : TypeId} {n : Nat} {A B : World} (h : Below A.heap.size A B) : Gw Ty n A B := ⟨h.os, h.tape, h.output, h.size, fun z o hz _ => (h.block z (Array.getElem?_eq_some_iff.1 hz).1).trans hz⟩
theorem Gw.trans {Ty : TypeId} {n : Nat} {A B C : World} (h : Gw Ty n A B) (k : Gw Ty n B C) : Gw Ty n A C := ⟨by rw [k.os, h.os], by rw [k.tape, h.tape], by rw [k.output, h.output], Nat.le_trans h.size k.size, fun z o hz hq => k.same z o (h.same z o hz hq) hq⟩
theorem Gw.mono {Ty : TypeId} {n m : Nat} {A B : World} (h : Gw Ty n A B) (hm : m ≤ n) : Gw Ty m A B := ⟨h.os, h.tape, h.output, h.size, fun z o hz hq => h.same z o hz (hq.imp (fun q => by omega) id)⟩
theorem Gw.low {Ty : TypeId} {n : Nat} {w A B : World} (h : Gw Ty n A B) (hs : Below w.heap.size w A) (hn : w.heap.size ≤ n) : Below w.heap.size w B := ⟨by rw [h.os, hs.os], by rw [h.tape, hs.tape], by rw [h.output, hs.output], Nat.le_trans hs.size h.size, fun k hk => by
  have e := hs.block k hk
  obtain ⟨o, ho⟩ : ∃ o, w.heap[k]? = some o := ⟨_, Array.getElem?_eq_getElem hk⟩
  rw [ho] at e ⊢
  exact h.same k o e (.inl (by omega))⟩
theorem gw_put {Ty : TypeId} {n r : Nat} {A : World} {o : Obj} (hr : n ≤ r) (h : A.heap[r]? = some o) (hc : o.isCells = false) (o' : Obj) : Gw Ty n A (A.putObj r o') := ⟨rfl, rfl, rfl, by simp, fun z x hz hq => by
  have hne : z ≠ r := by
    rintro rfl
    rw [h] at hz
    cases hz
    rcases hq with q | ⟨cs, T, rfl, _⟩
    · omega
    · cases hc
  exact (World.putObj_heap_other hne).trans hz⟩
theorem gw_set {Ty : TypeId} {n N o : Nat} {A : World} {cs : Array Value} (hr : n ≤ N) (h : A.heap[N]? = some (.cells cs Ty)) (v : Value) : Gw Ty n A (A.setCell ⟨N, o, none⟩ v) := ⟨rfl, rfl, rfl, by simp, fun z x hz hq => by
  have hne : ¬ z = N := by
    rintro rfl
    rw [h] at hz
    cases hz
    rcases hq with q | ⟨cs', T, e, ne⟩
    · omega
    · cases e; exact ne rfl
  exact (Below.heap_setCell A ⟨N, o, none⟩ v z hne).trans hz⟩
section
variable {P : Program}
/-- What the rounds keep: all but what is theirs; and theirs becomes only what is new. -/
def Kx (Xc : World → Nat → Prop) (V V' : World) : Prop := V.heap.size ≤ V'.heap.size ∧ (∀ z o, V.heap[z]? = some o → ¬ Xc V z → V'.heap[z]? = some o) ∧ ∀ z, Xc V' z → Xc V z ∨ V.heap.size ≤ z
theorem Kx.trans {Xc : World → Nat → Prop} {A B C : World} (h : Kx Xc A B) (k : Kx Xc B C) : Kx Xc A C := ⟨Nat.le_trans h.1 k.1, fun z o hz hx => k.2.1 z o (h.2.1 z o hz hx) (fun q => by
  rcases h.2.2 z q with q | q
  · exact hx q
  · have := (Array.getElem?_eq_some_iff.1 hz).1
    omega), fun z hz => by
  rcases k.2.2 z hz with q | q
  · exact h.2.2 z q
  · exact .inr (Nat.le_trans h.1 q)⟩
/-- What a sequence tells that keeps variables of its own: of rounds whose invariant abides what it may change. -/
def SeqZ {α : Type} (Ty : TypeId) (n : Nat) (P : Program) (g : Nat) (lb : Array Value) (encs : α → Array Value) (Zs : Nat → Prop) (S Sp : List α → Prop) (w : World) : Prop :=
  ∀ (l : Nat) (J Jx : List α → World → Prop) (Xc : World → Nat → Prop) (W : World), Below w.heap.size w W → (∀ s A B, J s A → Gw Ty W.heap.size A B → J s B) → (∀ s A B, Jx s A → Gw Ty W.heap.size A B → Jx s B) →
    (∀ s A, J s A → ∀ z, Xc A z → z < A.heap.size ∧ ¬ Zs z) → (∀ s A B, J s A → Gw Ty W.heap.size A B → ∀ z, Xc B z → Xc A z) →
    (∀ pre x V, J pre V → Sp (pre ++ [x]) → YieldAt Fence.wide (n - 1) P l (encs x) V fun e V' => (e = .returned (.bool true) ∧ J (pre ++ [x]) V' ∧ Kx Xc V V') ∨ (e = .returned (.bool false) ∧ Jx (pre ++ [x]) V')) →
    J [] W → CallsIn Fence.wide n P g (#[.func (.yield l) #[] #[]] ++ lb) W fun e W' => (∃ v, e = .returned v) ∧ ((∃ xs, S xs ∧ J xs W') ∨ (∃ pre, Sp pre ∧ Jx pre W'))
/-- The law. -/
theorem rangeZ {α : Type} {Ty : TypeId} {g : Operand} {ps : Array Tmp} {assign body : Code} {Q : Exit → Act → World → Prop} {a : Act} {w : World} (n : Nat) (h1 : 1 ≤ n) {gf : Nat} {lb : Array Value} (hg : a.eval g = .func (.func gf) #[] lb) (eg : ∀ args w, (callFunc gf args).run P w = .ok (.enter gf args) w)
    {encs : α → Array Value} {Zs : Nat → Prop} {S Sp : List α → Prop} {w0 : World} (hseq : SeqZ Ty (n - 1) P gf lb encs Zs S Sp w0) (hZs : ∀ z, Zs z → z < w.heap.size)
    (hb0 : Below w0.heap.size w0 w) (hps : ∀ x, (encs x).size = ps.size)
    (I : List α → World → Prop) (Ix : Code → List α → World → Prop) (hI : ∀ s A B, I s A → Gw Ty w.heap.size A B → I s B) (hIx : ∀ c s A B, Ix c s A → Gw Ty w.heap.size A B → Ix c s B) (h0 : I [] w)
    (Xi : World → Nat → Prop) (hX1 : ∀ s A, I s A → ∀ z, Xi A z → z < A.heap.size ∧ ¬ Zs z) (hX2 : ∀ s A B, I s A → Gw Ty w.heap.size A B → ∀ z, Xi B z → Xi A z)
    (Ax : α → Act → World → Prop) (hAx : ∀ x a' (A : World) (o o' : Obj), Ax x a' A → A.heap[w.heap.size + 1]? = some o → o.isCells = false → Ax x a' (A.putObj (w.heap.size + 1) o'))
    (hassign : ∀ (l : Nat) (pre : List α) (x : α) (W : World) (K : Act → World → Prop), I pre W → (∀ a' W', KeepsFrom w.heap.size W W' → Kx Xi W W' → I pre W' → Ax x a' W' → K a' W') →
      assign.wpIn (Fence.wide.inRound l) (n - 1 - 1) P (Exit.then K (fun _ _ _ => False)) { tmps := (ps.zip (encs x)).foldl (fun t (p, v) => t.setIfInBounds p v) a.tmps, defers := [] } W)
    (hbody : ∀ (l : Nat) (pre : List α) (x : α) (a' : Act) (W : World), w.heap.size ≤ l → (∃ r, W.heap[l]? = some (.loop r)) → I pre W → Ax x a' W → Sp (pre ++ [x]) → body.wpIn (Fence.wide.inRound l) (n - 1 - 1) P (postX w.heap.size (Kx Xi) I Ix (pre ++ [x]) W) a' W)
    (hdone : ∀ (D : Nat) (xs : List α) (W : World), w.heap.size ≤ D → S xs → I xs W → W.heap[D]? = some (.deferred (some [])) → Q .normal { a with defers := { target := .collected D, args := #[] } :: a.defers } W)
    (hstop : ∀ (D : Nat) (c : Code) (pre : List α) (W : World), w.heap.size ≤ D → Sp pre → Ix c pre W → W.heap[D]? = some (.deferred (some [])) → c.wpIn Fence.wide n P Q { a with defers := { target := .collected D, args := #[] } :: a.defers } W) :
    (Code.rangeFunc g ps assign body).wpIn Fence.wide n P Q a w := by
  refine wpIn_rangeFunc (fun fn hfn => ?_)
  rw [Fence.wide_round]
  -- the record, by its state and its pending jump
  obtain ⟨rc, hrc⟩ : ∃ rc : LoopState → Option Code → Loop, ∀ s p, rc s p = { state := s, pending := p, fn, tmps := a.tmps, params := ps, assign, body, defers := w.heap.size } := ⟨_, fun _ _ => rfl⟩
  have bw := bl1 w (.deferred (some []))
  have bw2 := bl1 (w.alloc (.deferred (some []))) (.loop (rc .ready none))
  have k1 : Bk w.heap.size (rc .ready none) ((w.alloc (.deferred (some []))).alloc (.loop (rc .ready none))) := by
    refine ⟨?_, ?_⟩
    · have := World.alloc_heap_new (w.alloc (.deferred (some []))) (.loop (rc .ready none))
      rwa [World.size_alloc] at this
    · exact (bw2.block _ (by simp)).trans (World.alloc_heap_new w _)
  have i1 : I [] ((w.alloc (.deferred (some []))).alloc (.loop (rc .ready none))) := hI _ _ _ h0 (Gw.of (keepb bw2 bw))
  have b1 : Below w0.heap.size w0 ((w.alloc (.deferred (some []))).alloc (.loop (rc .ready none))) := keepb bw2 (keepb bw hb0)
  have hent : (Instr.enterLoop fn a.tmps ps assign body none).run P w = .ok (w.heap.size + 1, [{ target := .collected w.heap.size, args := #[] }]) ((w.alloc (.deferred (some []))).alloc (.loop (rc .ready none))) := by
    rw [hrc]
    exact run_enterLoop_outer _ _ _ _ _
  have hs1 : ((w.alloc (.deferred (some []))).alloc (.loop (rc .ready none))).heap.size = w.heap.size + 2 := by simp
  revert k1 i1 b1 hent hs1
  generalize (w.alloc (.deferred (some []))).alloc (.loop (rc .ready none)) = V1
  intro k1 i1 b1 hent hs1
  clear bw bw2
  refine ⟨w.heap.size + 1, _, V1, { target := .fn (.func gf) lb, args := #[.func (.yield (w.heap.size + 1)) #[] #[]] }, V1, gf, #[.func (.yield (w.heap.size + 1)) #[] #[]] ++ lb, V1, hent, by simp only [resolve, hg]; simp [go_sem], fun _ _ => trivial, by simp [invoke, go_sem, eg], fun _ => h1, ?_⟩
  have putB : ∀ {A : World} {r : Loop} (_ : Bk w.heap.size r A) (o : Obj), Gw Ty w.heap.size A (A.putObj (w.heap.size + 1) o) := fun k o => gw_put (by omega) k.rec' rfl o
  have bkB : ∀ {A B : World} {r : Loop}, Bk w.heap.size r A → Gw Ty V1.heap.size A B → Bk w.heap.size r B := fun k h => ⟨h.same _ _ k.rec' (.inl (by omega)), h.same _ _ k.dfr (.inl (by omega))⟩
  refine (hseq (w.heap.size + 1) (fun pre W => I pre W ∧ Bk w.heap.size (rc .ready none) W) (fun pre W => ∃ c, Ix c pre W ∧ Bk w.heap.size (rc .done (some c)) W) (fun A z => Xi A z ∨ z = w.heap.size + 1) V1 b1 (fun s A B hs hgr => ⟨hI s A B hs.1 (hgr.mono (by omega)), bkB hs.2 hgr⟩) (fun s A B hs hgr => ?_) (fun s A hs z hz => ?c1) (fun s A B hs hgr z hz => ?c2) ?round ⟨i1, k1⟩).mono ?behind
  · obtain ⟨c, hc, kc⟩ := hs
    exact ⟨c, hIx c s A B hc (hgr.mono (by omega)), bkB kc hgr⟩
  case c1 =>
    rcases hz with q | rfl
    · exact hX1 s A hs.1 z q
    · exact ⟨hs.2.lt, fun q => by have := hZs _ q; omega⟩
  case c2 =>
    rcases hz with q | q
    · exact .inl (hX2 s A B hs.1 (hgr.mono (by omega)) z q)
    · exact .inr q
  case round =>
    have kup : ∀ {A B : World}, Kx Xi A B → Kx (fun A z => Xi A z ∨ z = w.heap.size + 1) A B := fun h => ⟨h.1, fun z o hz hx => h.2.1 z o hz (fun q => hx (.inl q)), fun z hz => by
      rcases hz with q | q
      · exact (h.2.2 z q).imp .inl id
      · exact .inl (.inr q)⟩
    have kput : ∀ {s : List α} {A : World} {r : Loop} (_ : I s A) (_ : Bk w.heap.size r A) (o : Obj), Kx (fun A z => Xi A z ∨ z = w.heap.size + 1) A (A.putObj (w.heap.size + 1) o) := fun hi k o => ⟨by simp, fun z x hz hx => (World.putObj_heap_other (fun q => hx (.inr q))).trans hz, fun z hz => by
      rcases hz with q | q
      · exact .inl (.inl (hX2 _ _ _ hi (gw_put (by omega) k.rec' rfl o) z q))
      · exact .inl (.inr q)⟩
    rintro pre x V ⟨hi, hk⟩ hlen
    have hy := run_yield (P := P) (args := encs x) hk.rec' (by rw [hrc]; exact hps x)
    rw [hrc] at hy
    refine ⟨fn, _, assign, body, hy, roundIn_of_wpIn hfn (hassign _ pre x V _ hi ?_)⟩
    intro a' Va f1 f2 f3 f4
    have ka := hk.from f1
    have hlt := ka.lt
    refine ⟨_, run_beginRound ka.rec' (by rw [hrc]), ?_⟩
    have kb := ka.turn { rc .ready none with state := .busy }
    have nb : ∀ (o : Obj), w.heap.size ≤ w.heap.size + 1 := fun _ => by omega
    have g1 := hI _ _ _ f3 (putB ka (.loop { rc .ready none with state := .busy }))
    have g2 := hAx x a' Va _ (.loop { rc .ready none with state := .busy }) f4 ka.rec' rfl
    have g3 := kput f3 ka (.loop { rc .ready none with state := .busy })
    revert kb g1 g2 g3
    generalize Va.putObj (w.heap.size + 1) (.loop { rc .ready none with state := .busy }) = Vb
    intro kb g1 g2 g3
    refine wpIn_mono (hbody (w.heap.size + 1) pre x a' Vb (by omega) ⟨_, kb.rec'⟩ g1 g2 hlen) ?_
    have out : ∀ (c : Code) (V3 : World), KeepsFrom w.heap.size Vb V3 → Kx Xi Vb V3 → Ix c (pre ++ [x]) V3 → ∃ (e : Value) (V4 : World), (Instr.endRound (w.heap.size + 1) (some c)).run P V3 = .ok e V4 ∧ (((.returned e : Ending) = .returned (.bool true) ∧ (I (pre ++ [x]) V4 ∧ Bk w.heap.size (rc .ready none) V4) ∧ Kx (fun A z => Xi A z ∨ z = w.heap.size + 1) V V4) ∨ ((.returned e : Ending) = .returned (.bool false) ∧ (∃ c, Ix c (pre ++ [x]) V4 ∧ Bk w.heap.size (rc .done (some c)) V4))) := fun c V3 hk3 hq3 hi3 => by
      have k3 := kb.from hk3
      have k4 := k3.turn (rc .done (some c))
      have := bk_end (P := P) k3 (some c)
      refine ⟨_, _, this, .inr ⟨rfl, ⟨c, ?_, ?_⟩⟩⟩
      · exact hIx c _ _ _ hi3 (putB k3 _)
      · have e : ({ ({ rc .ready none with state := .busy } : Loop) with state := if (some c).isNone then .ready else .done, pending := some c } : Loop) = rc .done (some c) := by rw [hrc, hrc]; rfl
        rw [e]
        exact k4
    rintro e a3 V3 hp
    cases e with
    | normal =>
      obtain ⟨hk3, hq3, hi3⟩ := hp
      have k3 := kb.from hk3
      have k4 := k3.turn (rc .ready none)
      have hr := bk_end (P := P) k3 none
      have e : ({ ({ rc .ready none with state := .busy } : Loop) with state := if (none : Option Code).isNone then .ready else .done, pending := none } : Loop) = rc .ready none := by rw [hrc]; rfl
      rw [e] at hr
      exact ⟨_, _, hr, .inl ⟨rfl, ⟨hI _ _ _ hi3 (putB k3 _), k4⟩, (kup f2).trans (g3.trans ((kup hq3).trans (kput hi3 k3 _)))⟩⟩
    | ret => exact out _ _ hp.1 hp.2.1 hp.2.2
    | exit id => exact out _ _ hp.1 hp.2.1 hp.2.2
    | goto t => exact out _ _ hp.1 hp.2.1 hp.2.2
    | panic ch => exact hp.elim
    | outgrown => exact hp.elim
  case behind =>
    rintro e V2 ⟨⟨v, rfl⟩, (⟨xs, hS, hi, hk⟩ | ⟨pre, hSp, c, hi, hk⟩)⟩
    · have hr := run_endLoop (P := P) hk.rec' (by rw [hrc]; simp)
      have kt := hk.turn { rc .ready none with state := .exhausted }
      exact ⟨_, _, by rw [hr], by rw [hrc]; exact hdone _ xs _ (Nat.le_refl _) hS (hI _ _ _ hi (putB hk _)) (by rw [hrc] at kt; exact kt.dfr)⟩
    · have hr := run_endLoop (P := P) hk.rec' (by rw [hrc]; simp)
      have kt := hk.turn { rc .done (some c) with state := .exhausted }
      exact ⟨_, _, by rw [hr], by rw [hrc]; exact hstop _ c pre _ (Nat.le_refl _) hSp (hIx c _ _ _ hi (putB hk _)) (by rw [hrc] at kt; exact kt.dfr)⟩
/-- The law, where the round's activation is told by one number. -/
theorem rangeZA {α : Type} {Ty : TypeId} {g : Operand} {ps : Array Tmp} {assign body : Code} {Q : Exit → Act → World → Prop} {a : Act} {w : World} (n : Nat) (h1 : 1 ≤ n) {gf : Nat} {lb : Array Value} (hg : a.eval g = .func (.func gf) #[] lb) (eg : ∀ args w, (callFunc gf args).run P w = .ok (.enter gf args) w)
    {encs : α → Array Value} {Zs : Nat → Prop} {S Sp : List α → Prop} {w0 : World} (hseq : SeqZ Ty (n - 1) P gf lb encs Zs S Sp w0) (hZs : ∀ z, Zs z → z < w.heap.size)
    (hb0 : Below w0.heap.size w0 w) (hps : ∀ x, (encs x).size = ps.size)
    (I : List α → World → Prop) (Ix : Code → List α → World → Prop) (hI : ∀ s A B, I s A → Gw Ty w.heap.size A B → I s B) (hIx : ∀ c s A B, Ix c s A → Gw Ty w.heap.size A B → Ix c s B) (h0 : I [] w)
    (Xi : World → Nat → Prop) (hX1 : ∀ s A, I s A → ∀ z, Xi A z → z < A.heap.size ∧ ¬ Zs z) (hX2 : ∀ s A B, I s A → Gw Ty w.heap.size A B → ∀ z, Xi B z → Xi A z)
    (AX : Nat → α → Act) (Nx : α → Nat → World → Prop) (hNx : ∀ x N (A : World) (o o' : Obj), Nx x N A → A.heap[w.heap.size + 1]? = some o → o.isCells = false → Nx x N (A.putObj (w.heap.size + 1) o'))
    (hassign : ∀ (l : Nat) (pre : List α) (x : α) (W : World) (K : Act → World → Prop), I pre W → (∀ N W', KeepsFrom w.heap.size W W' → Kx Xi W W' → I pre W' → Nx x N W' → K (AX N x) W') →
      assign.wpIn (Fence.wide.inRound l) (n - 1 - 1) P (Exit.then K (fun _ _ _ => False)) { tmps := (ps.zip (encs x)).foldl (fun t (p, v) => t.setIfInBounds p v) a.tmps, defers := [] } W)
    (hbody : ∀ (l : Nat) (pre : List α) (x : α) (N : Nat) (W : World), w.heap.size ≤ l → (∃ r, W.heap[l]? = some (.loop r)) → I pre W → Nx x N W → Sp (pre ++ [x]) → body.wpIn (Fence.wide.inRound l) (n - 1 - 1) P (postX w.heap.size (Kx Xi) I Ix (pre ++ [x]) W) (AX N x) W)
    (hdone : ∀ (D : Nat) (xs : List α) (W : World), w.heap.size ≤ D → S xs → I xs W → W.heap[D]? = some (.deferred (some [])) → Q .normal { a with defers := { target := .collected D, args := #[] } :: a.defers } W)
    (hstop : ∀ (D : Nat) (c : Code) (pre : List α) (W : World), w.heap.size ≤ D → Sp pre → Ix c pre W → W.heap[D]? = some (.deferred (some [])) → c.wpIn Fence.wide n P Q { a with defers := { target := .collected D, args := #[] } :: a.defers } W) :
    (Code.rangeFunc g ps assign body).wpIn Fence.wide n P Q a w :=
  rangeZ n h1 hg eg hseq hZs hb0 hps I Ix hI hIx h0 Xi hX1 hX2 (fun x a' V => ∃ N, Nx x N V ∧ a' = AX N x) (fun x a' A o o' hs q1 q2 => by
    obtain ⟨N, e1, e2⟩ := hs
    exact ⟨N, hNx x N A o o' e1 q1 q2, e2⟩)
    (fun l pre x W K hi hK => hassign l pre x W K hi (fun N W' k1 k2 k3 k4 => hK _ W' k1 k2 k3 ⟨N, k4, rfl⟩))
    (fun l pre x a' W hl hr hi hx hs => by
      obtain ⟨N, e1, rfl⟩ := hx
      exact hbody l pre x N W hl hr hi e1 hs) hdone hstop
end
end Go.Proofs.Ytmeaikmmhgmgnaa
/-
  Regions that draw their order, in a round of a range over a function.
-/
namespace Go.Proofs.Ytmeaikmmhgmgnaa
open Go.RowKit Go.Shelf
set_option linter.unusedSimpArgs false
set_option linter.unusedVariables false

section
variable {P : Program}
/-- No deferred call. -/
def notD (o : Oper) : Bool := match o.op with | .defer _ => false | _ => true
theorem notD_ne {o : Oper} (h : notD o = true) : ∀ c, o.op ≠ .defer c := fun c e => by
  unfold notD at h
  rw [e] at h
  cases h
theorem oper_round {n l : Nat} {o : Oper} {a : Act} {w : World} {K : Act → World → Prop} {Q : Exit → Act → World → Prop} (hd : notD o = true) (h : o.wp P a w K Q) : o.wpIn (Fence.wide.inRound l) n P a w K Q := by
  refine ⟨fun _ _ => trivial, ?_⟩
  rw [Fence.inRound_round, Oper.semAt_some l _ o (notD_ne hd)]
  unfold Oper.wp Oper.upon at h
  unfold Oper.uponIn
  cases hr : (execOp a.eval o).run P w with
  | ok x w' =>
    rw [hr] at h
    cases x with
    | value v => exact h
    | skip => exact h
    | defer d => exact h
    | enter f args => exact ⟨fun q => (by cases q), CallsIn.inRound l (callsIn_wide.2 h)⟩
    | row r args => exact ⟨fun q => (by cases q), fun c cs _ => let ⟨v, w'', r', s⟩ := h c cs; ⟨v, w'', r', stepsIn_wide.2 s⟩⟩
    | _ => exact h.elim
  | halt x w' =>
    rw [hr] at h
    cases x with
    | panic v => exact h
    | _ => exact h.elim
theorem any_round {n l : Nat} {md : Region.Mode} {ops : Array Oper} {Q : Exit → Act → World → Prop} (hno : ¬ LetsOut Q) (hd : (ops.toList.all notD) = true) : ∀ (fuel : Nat) (listed : Array Bool) (a : Act) (w : World), wpAny P md ops Q fuel listed a w → wpAnyIn (Fence.wide.inRound l) n P md ops Q fuel listed a w
  | 0, listed, a, w, h => h
  | fuel + 1, listed, a, w, h => by
    refine ⟨h.1, fun i hi => ?_⟩
    have := h.2 i hi
    unfold wpOp at this
    unfold wpOpIn
    cases ho : ops[i]? with
    | none =>
      rw [ho] at this
      exact any_round hno hd fuel _ _ _ this
    | some o =>
      rw [ho] at this
      simp only at this ⊢
      have hnd : notD o = true := List.all_eq_true.mp hd o (by
        have := Array.mem_of_getElem? ho
        simpa using this)
      by_cases hw : Region.wanted o (yielded ops a.tmps) = true
      · rw [if_pos hw] at this ⊢
        exact Oper.wpIn_mono (fun a w h => any_round hno hd fuel _ a w h) (oper_round hnd (this.elim id (fun h => absurd h.2 hno)))
      · rw [if_neg hw] at this ⊢
        exact ⟨fun _ _ => trivial, any_round hno hd fuel _ _ _ this⟩
theorem region_round {n l id : Nat} {ops : Array Oper} {Q : Exit → Act → World → Prop} {a : Act} {w : World} (hno : ¬ LetsOut Q) (hm : P.follows .mixedOrders = true) (hd : (ops.toList.all notD) = true) (h : wpAny P .any ops Q ops.size (Array.replicate ops.size false) a w.drew) : (Code.region id ops true).wpIn (Fence.wide.inRound l) n P Q a w := wpIn_region_any hm (any_round hno hd _ _ _ _ h)
theorem q_regionR {n lo : Nat} {C : World → Prop} {id : Nat} {Q : Exit → Act → World → Prop} {a : Act} {w : World} {l : List Oper} (hno : ¬ LetsOut Q) (hm : P.follows .mixedOrders = true) (hB : Region.lexB .any l.toArray = true) (hd : (l.all notD) = true) (hC : C w.drew)
    (h : QW P l.toArray C (fun a' => ∀ w', C w' → Q .normal a' w') l a) : (Code.region id l.toArray true).wpIn (Fence.wide.inRound lo) n P Q a w := by
  have hq := h.out
  simp only [Region.lexB, Bool.and_eq_true] at hB
  refine region_round hno hm (by simpa using hd) (wpAny_of_quiet (Q := fun a' => ∀ w', C w' → Q .normal a' w') (fun _ w' hw' h => h w' hw') _ _ _ _ hC ?_)
  have := wpAnyQ_lex (C := C) (md := .any) hB.1 l 0 (Array.replicate l.toArray.size false) a (by simp) (by simpa using hB.2) hq
  simpa using this
theorem gh_regionR {n lo : Nat} {γ : Type} {id : Nat} {l : List Oper} (ok : QpOk l l.length l.length) (hgd : (l.all fun o => o.guard.isNone) = true) (hdst : dstG l = true) (hd : (l.all notD) = true) {Q : Exit → Act → World → Prop} {a : Act} {w : World} (hno : ¬ LetsOut Q) (ds : List (Option Tmp)) (vals : γ → List Value) (hm : P.follows .mixedOrders = true) (hds : ∀ d ∈ ds, ∃ o ∈ l, o.dst = d) (R : Array Bool → γ → World → Prop) (g0 : γ) (h0 : R (Array.replicate l.length false) g0 w.drew)
    (hstep : ∀ (i : Nat) (o : Oper) (lp : Array Bool) (g : γ) (w' : World) (a' : Act), l[i]? = some o → lp.size = l.length → lp.getD i false = false → (∀ e ∈ o.after, Region.binds .any e = true → lp.getD e.on false = true) → R lp g w' → Slt l a (putAll a ds (vals g)) lp a' →
      ∀ (K : Act → World → Prop) Q', (∀ g' w'', (∀ (k : Nat) (o : Oper) (s : Nat), l[k]? = some o → lp.getD k false = true → o.dst = some s → (putAll a ds (vals g')).tmps[s]? = (putAll a ds (vals g)).tmps[s]?) → R (lp.setIfInBounds i true) g' w'' → ∀ v, valO (putAll a ds (vals g')) o = v → K (a'.put o.dst v) w'') → o.wp P a' w' K Q')
    (hpost : ∀ g w', R (Array.replicate l.length true) g w' → Q .normal (putAll a ds (vals g)) w') : (Code.region id l.toArray true).wpIn (Fence.wide.inRound lo) n P Q a w := by
  refine region_round hno hm (by simpa using hd) ?_
  have hu : unl (Array.replicate l.length false) = l.length := by unfold unl; simp
  have main := gh_any ok (fun o ho => by have := List.all_eq_true.mp hgd o ho; simpa using this) (dstG_of hdst) (A := fun g => putAll a ds (vals g)) (fun g => putAll_size _ _ _) (fun g => putAll_defers _ _ _) (fun g s h => putAll_other _ _ _ _ (fun d hd e => by obtain ⟨o, ho, hod⟩ := hds d hd; exact h o ho (by rw [hod, e]))) R hstep hpost l.length (Array.replicate l.length false) g0 a w.drew (by simp) hu h0 ⟨fun k o s hk hl => (by rw [Array.getD_eq_getD_getElem?, Array.getElem?_replicate] at hl; split at hl <;> simp at hl), fun s _ => rfl, rfl, rfl⟩
  have e1 : l.length = l.toArray.size := by simp
  rw [e1] at main
  simpa using main
end
end Go.Proofs.Ytmeaikmmhgmgnaa
/-
  What the sequence of package prefix's rising tells.
-/
namespace Go.Proofs.Ytmeaikmmhgmgnaa
open Go.RowKit Go.Shelf
set_option linter.unusedSimpArgs false
set_option linter.unusedVariables false
attribute [local go_sem] Oper.semAt_some

theorem hidX {p : Prop} (h : p) : Hid p := h
/-- The words that rise by a step. -/
def ris (st : BitVec 128) : Nat → BitVec 128 → List (BitVec 128)
  | 0, x => [x]
  | n + 1, x => x :: ris st n (x + st)
/-- So many steps on it comes to the last one, and no sooner. -/
def RisTo (st la : BitVec 128) : Nat → BitVec 128 → Prop
  | 0, x => x = la
  | n + 1, x => x ≠ la ∧ RisTo st la n (x + st)
theorem ris_len (st : BitVec 128) : ∀ (n : Nat) (x : BitVec 128), (ris st n x).length = n + 1
  | 0, x => rfl
  | n + 1, x => by rw [ris, List.length_cons, ris_len st n]
theorem ris_to (st la : BitVec 128) (hs : 0 < st.toNat) : ∀ (n : Nat) (x : BitVec 128), x.toNat + n * st.toNat = la.toNat → RisTo st la n x
  | 0, x, h => BitVec.eq_of_toNat_eq (by simpa using h)
  | n + 1, x, h => by
    have hl := la.isLt
    have e : (n + 1) * st.toNat = n * st.toNat + st.toNat := Nat.succ_mul n _
    refine ⟨fun q => ?_, ris_to st la hs n (x + st) ?_⟩
    · rw [q] at h
      omega
    · rw [BitVec.toNat_add, Nat.mod_eq_of_lt (by omega)]
      omega
theorem ris_one (st la : BitVec 128) : ∀ (m m' : Nat) (y : BitVec 128), RisTo st la m y → RisTo st la m' y → m = m'
  | 0, 0, y, _, _ => rfl
  | 0, m' + 1, y, h, h' => absurd h h'.1
  | m + 1, 0, y, h, h' => absurd h' h.1
  | m + 1, m' + 1, y, h, h' => by rw [ris_one st la m m' (y + st) h.2 h'.2]
theorem at_one {W : World} {b : Nat} {x y : BitVec 128} (h : At W b x) (g : At W b y) : x = y := by
  have a := h.1.symm.trans g.1
  have b := h.2.1.symm.trans g.2.1
  have a' : hI x = hI y := by simpa using a
  have b' : lI x = lI y := by simpa using b
  rcases eqw x y with ⟨-, -, q⟩ | ⟨q, -⟩ | ⟨-, q, -⟩
  · simpa using q
  · rw [a'] at q
    simp at q
  · rw [b'] at q
    simp at q
theorem mu_ex (st la : BitVec 128) : ∃ mu : Value → World → Nat, ∀ (b : Nat) (y : BitVec 128) (m : Nat) (wr : World), At wr b y → RisTo st la m y → mu (.pointer (some ⟨b, 0, none⟩)) wr = m := by
  classical
  refine ⟨fun p wr => if h : ∃ m : Nat, ∃ b y, p = .pointer (some ⟨b, 0, none⟩) ∧ At wr b y ∧ RisTo st la m y then Classical.choose h else 0, fun b y m wr h1 h2 => ?_⟩
  have hex : ∃ m : Nat, ∃ b' y', (Value.pointer (some ⟨b, 0, none⟩)) = .pointer (some ⟨b', 0, none⟩) ∧ At wr b' y' ∧ RisTo st la m y' := ⟨m, b, y, rfl, h1, h2⟩
  simp only
  rw [dif_pos hex]
  obtain ⟨b', y', e, h3, h4⟩ := Classical.choose_spec hex
  injection e with e
  injection e with e
  injection e with e
  subst e
  have := at_one h1 h3
  subst this
  exact ris_one st la _ _ y h4 h2
def encW (x : BitVec 128) : Array Value := #[.agg #[.int .u64 (hI x), .int .u64 (lI x)]]
theorem below_grownX {w W : World} {r : Option Nat} (h : Below w.heap.size w W) : w.grownBy W r := ⟨h.os, h.tape, h.output, h.size, fun z h1 _ => h.block z h1⟩
/-- What rising's sequence reads. -/
structure RsM (Z : Nat → Prop) (B A L T : Nat) (x la st : BitVec 128) (W : World) : Prop where
  a : At W A x
  l : At W L la
  s : At W T st
  za : Z A ∨ B ≤ A
  zl : Z L ∨ B ≤ L
  zs : Z T ∨ B ≤ T
theorem At.kw {Z : Nat → Prop} {B : Nat} {W W' : World} {b : Nat} {x : BitVec 128} (k : At W b x) (h : KW Z B W W') (hz : Z b ∨ B ≤ b) : At W' b x := by
  obtain ⟨c0, c1, f0, f1, hlt⟩ := k
  have e : W'.heap[b]? = W.heap[b]? := by rw [h.2 b _ (Array.getElem?_eq_getElem hlt) hz, Array.getElem?_eq_getElem hlt]
  exact ⟨(World.cell?_of_block (a := ⟨b, 0, none⟩) e).trans c0, (World.cell?_of_block (a := ⟨b, 1, none⟩) e).trans c1, (World.frozen?_of_block (a := ⟨b, 0, none⟩) e).trans f0, (World.frozen?_of_block (a := ⟨b, 1, none⟩) e).trans f1, Nat.lt_of_lt_of_le hlt h.1⟩
theorem RsM.kw {Z : Nat → Prop} {B A L T : Nat} {x la st : BitVec 128} {W W' : World} (k : RsM Z B A L T x la st W) (h : KW Z B W W') : RsM Z B A L T x la st W' := ⟨k.a.kw h k.za, k.l.kw h k.zl, k.s.kw h k.zs, k.za, k.zl, k.zs⟩
theorem At.setR {W : World} {B : Nat} {x : BitVec 128} (k : At W B x) (y : BitVec 128) : At ((W.setCell ⟨B, 0, none⟩ (.int .u64 (hI y))).setCell ⟨B, 1, none⟩ (.int .u64 (lI y))) B y := by
  obtain ⟨a, b, c, d, e⟩ := k
  refine ⟨?_, ?_, ?_, ?_, ?_⟩ <;> simp [go_sem, *]
end Go.Proofs.Ytmeaikmmhgmgnaa
