/-
  Part 28 of the proof: 6 texts, one behind the other.
-/
import Derived.Test.YtonagfmkplbooaaDoorPart27
import Derived.Test.YtonagfmkplbooaaDoorPart8
import Derived.Test.YtonagfmkplbooaaDoorPart23
import Derived.Test.YtonagfmkplbooaaDoorPart4
import Derived.Test.YtonagfmkplbooaaDoorPart9
import Derived.Test.YtonagfmkplbooaaDoorPart2
import Derived.Test.YtonagfmkplbooaaDoorPart5
import Derived.Test.YtonagfmkplbooaaDoorPart6
/-
  How many routes cover right segments that say what so many routes tell: not more than a table may have.
-/
namespace Go.Proofs.YtonagfmkplbooaaDoor
set_option linter.unusedSimpArgs false
set_option linter.unusedVariables false

theorem mask_nat (F : Int) (hf : fam F = true) : (maskW F).toNat + 2 ^ (128 - F.toNat) = 2 ^ 128 := by
  rcases fam_ways F hf with rfl | rfl <;> decide +kernel
theorem covS_cn (F : Int) (s : Sg) (h : sgE F s = 0) : ∃ k, Cn (128 - F.toNat) (s.1.2.toNat + 2 ^ (128 - F.toNat)) s.1.1.toNat k ∧ (covS F s).length ≤ k := by
  obtain ⟨s1, s2, s3, s4, s5⟩ := sgE_zero F s h
  refine ⟨_, cov_cn F s.1.2 (s.1.2.toNat - s.1.1.toNat + 1) s.1.1 ⟨s1, s2, s5⟩ (by omega), ?_⟩
  unfold covS
  split
  · simp
  · rw [List.length_map]
    unfold covT
    split
    · exact Nat.le_refl _
    · simp
/-- Right segments, each with its cover. -/
theorem segs_tot (F : Int) (hf : fam F = true) (B : Nat → Prop) : ∀ (l : List Sg) (s : Sg), sgE F s = 0 → sgsGo F (some s) l = 0 → (∀ r ∈ l, B r.1.1.toNat) → ∃ t, Tot (128 - F.toNat) B (2 ^ 128) s.1.1.toNat t ∧ (covR F (s :: l)).length ≤ t
  | [], s, h1, h2, _ => by
    obtain ⟨k, k1, k2⟩ := covS_cn F s h1
    obtain ⟨s1, s2, s3, s4, s5⟩ := sgE_zero F s h1
    have hn : nextB F s.1.2 = false := by
      rw [sgsGo] at h2
      cases e : nextB F s.1.2 with
      | false => rfl
      | true => rw [if_pos (show moO F (some s) = true from e)] at h2; omega
    have e := mask_nat F hf
    rw [← next_none F s.1.2 s2 hn] at e
    rw [e] at k1
    refine ⟨k, .last _ _ s.1.1.isLt k1, ?_⟩
    simp only [covR, List.append_nil]
    exact k2
  | r :: l, s, h1, h2, hB => by
    obtain ⟨k, k1, k2⟩ := covS_cn F s h1
    obtain ⟨s1, s2, s3, s4, s5⟩ := sgE_zero F s h1
    obtain ⟨r1, r2, r3, r4, r5⟩ := sgsGo_cons F (some s) r l h2
    obtain ⟨t, t1, t2⟩ := segs_tot F hf B l r r1 r5 (fun q hq => hB q (List.mem_cons_of_mem _ hq))
    obtain ⟨n1, n2, n3, n4⟩ := next_nat F s.1.2 r2
    have e : r.1.1.toNat = s.1.2.toNat + 2 ^ (128 - F.toNat) := by rw [r3]; exact n1
    have hp := Nat.two_pow_pos (128 - F.toNat)
    refine ⟨k + t, .more _ r.1.1.toNat k t (by omega) r.1.1.isLt (hB r (by simp)) (by rw [e]; exact k1) t1, ?_⟩
    rw [covR, List.length_append]
    omega
/-- Where segments that say f part, there is an edge. -/
theorem segs_edge (F : Int) (f : BitVec 128 → Int) (E : List (BitVec 128)) (hR : ∀ e ∈ E, rightE F e = 0) (hF : Flat F E f) : ∀ (l : List Sg) (s : Sg), sgE F s = 0 → sgsGo F (some s) l = 0 → Says F f (s :: l) → ∀ r ∈ l, r.1.1 ∈ E
  | [], _, _, _, _, r, hr => by cases hr
  | r :: l, s, h1, h2, hS, q, hq => by
    obtain ⟨s1, s2, s3, s4, s5⟩ := sgE_zero F s h1
    obtain ⟨r1, r2, r3, r4, r5⟩ := sgsGo_cons F (some s) r l h2
    rcases List.mem_cons.mp hq with rfl | hq
    · apply Classical.byContradiction
      intro c
      obtain ⟨q1, q2, q3, q4, q5⟩ := sgE_zero F q r1
      have e : q.1.1 = nextV F s.1.2 := r3
      obtain ⟨n1, n2, n3, n4⟩ := next_nat F s.1.2 r2
      have hp := Nat.two_pow_pos (128 - F.toNat)
      have a := hF s.1.2 q.1.1 s2 q1 (fun z hz => ⟨fun g => by rw [e]; omega, fun g => by
        apply Classical.byContradiction
        intro g2
        obtain ⟨k1, k2, k3, k4⟩ := next_le F s.1.2 z s2 (hR z hz) (by omega)
        rw [← e] at k2
        exact c ((BitVec.eq_of_toNat_eq (show q.1.1.toNat = z.toNat by omega)) ▸ hz)⟩)
      have b1 := hS s (by simp) s.1.2 s2 s5 (Nat.le_refl _)
      have b2 := hS q (by simp) q.1.1 q1 (Nat.le_refl _) q5
      apply r4
      show some s.2 = some q.2
      rw [b1, b2, a]
    · exact segs_edge F f E hR hF l r r1 r5 (fun q hq => hS q (List.mem_cons_of_mem _ hq)) q hq
/-- A route's prefix, by its first number and its power. -/
def prN (r : Rte) : Nat × Nat := (r.1.1.toNat, 128 - r.1.2.toNat)
/-- The edges of routes. -/
def edgL (F : Int) : List Rte → List (BitVec 128)
  | [] => []
  | r :: l => r.1.1 :: (if nextB F (lastW F r.1.1 r.1.2) = true then nextV F (lastW F r.1.1 r.1.2) :: edgL F l else edgL F l)
theorem edgL_mem (F : Int) (hf : fam F = true) : ∀ (l : List Rte), (∀ r ∈ l, Ro F r) → ∀ e ∈ edgL F l, rightE F e = 0 ∧ EndOf (l.map prN) e.toNat
  | [], _, e, he => by cases he
  | r :: l, hL, e, he => by
    have ho := hL r (by simp)
    obtain ⟨f0, f1⟩ := fam_bd F hf
    have tail : e ∈ edgL F l → rightE F e = 0 ∧ EndOf ((r :: l).map prN) e.toNat := fun h => by
      obtain ⟨a, p, b, c⟩ := edgL_mem F hf l (fun q hq => hL q (List.mem_cons_of_mem _ hq)) e h
      exact ⟨a, p, List.mem_cons_of_mem _ b, c⟩
    have hrt : rightE F r.1.1 = 0 := by
      refine right_of F _ hf ?_
      have h0 := ho.1.1
      have h1 := ho.1.2.1
      rw [cut_dvd]
      exact Nat.dvd_trans (Nat.pow_dvd_pow 2 (by omega)) ((cut_dvd _ _).mp ho.1.2.2)
    have head : e = r.1.1 → rightE F e = 0 ∧ EndOf ((r :: l).map prN) e.toNat := fun h => by
      subst h
      exact ⟨hrt, prN r, by simp, .inl rfl⟩
    rw [edgL] at he
    rcases List.mem_cons.mp he with h | h
    · exact head h
    · split at h
      · rename_i hn
        rcases List.mem_cons.mp h with h | h
        · subst h
          obtain ⟨n1, n2, n3, n4⟩ := next_nat F _ hn
          refine ⟨right_of F _ hf n4, prN r, by simp, .inr ?_⟩
          rw [n1, last_nat F _ _ ho.1 f1]
          rfl
        · exact tail h
      · exact tail h
theorem edgL_ends (F : Int) : ∀ (l : List Rte), Ends F (edgL F l) l
  | [], r, hr => by cases hr
  | q :: l, r, hr => by
    rw [edgL]
    rcases List.mem_cons.mp hr with rfl | hr
    · refine ⟨by simp, fun h => ?_⟩
      rw [if_pos h]
      simp
    · obtain ⟨a, b⟩ := edgL_ends F l r hr
      have sub : ∀ x ∈ edgL F l, x ∈ q.1.1 :: (if nextB F (lastW F q.1.1 q.1.2) = true then nextV F (lastW F q.1.1 q.1.2) :: edgL F l else edgL F l) := fun x hx => by
        refine List.mem_cons_of_mem _ ?_
        split
        · exact List.mem_cons_of_mem _ hx
        · exact hx
      exact ⟨sub _ a, fun h => sub _ (b h)⟩
theorem Ends.sub {F : Int} {E E' : List (BitVec 128)} {l : List Rte} (h : Ends F E l) (hs : ∀ e ∈ E, e ∈ E') : Ends F E' l := fun r hr => ⟨hs _ (h r hr).1, fun q => hs _ ((h r hr).2 q)⟩
theorem edgL_part (F : Int) (l m : List Rte) (h : ∀ r ∈ l, r ∈ m) : Ends F (edgL F m) l := fun r hr => edgL_ends F m r (h r hr)
/-- Right segments that say f, where f goes by so many routes. -/
theorem cov_paths (F : Int) (hf : fam F = true) (f : BitVec 128 → Int) (rs : List Rte) (hL : ∀ r ∈ rs, Ro F r) (hF : Flat F (edgL F rs) f) (l : List Sg) (h1 : sgsGo F none l = 0) (h2 : Says F f l) : (covR F l).length ≤ 1 + pthS 128 rs.length := by
  cases l with
  | nil => simp [covR]
  | cons s l =>
    obtain ⟨s1, s2, s3, s4, s5⟩ := sgsGo_cons F none s l h1
    obtain ⟨f0, f1⟩ := fam_bd F hf
    have he := segs_edge F f (edgL F rs) (fun e q => (edgL_mem F hf rs hL e q).1) hF l s s1 s5 h2
    obtain ⟨t, t1, t2⟩ := segs_tot F hf (fun b => ∃ e ∈ edgL F rs, b = e.toNat) l s s1 s5 (fun r hr => ⟨_, he r hr, rfl⟩)
    have z : s.1.1.toNat = 0 := by rw [s3]; rfl
    rw [z] at t1
    have hu : 128 - F.toNat + F.toNat = 128 := by omega
    have := tot_most (128 - F.toNat) (fun b => ∃ e ∈ edgL F rs, b = e.toNat) (by
      rintro b ⟨e, e1, rfl⟩
      exact right_dvd F e (edgL_mem F hf rs hL e e1).1) F.toNat 0 t (rs.map prN) (by omega) (Nat.dvd_zero _) (by
      intro p hp
      obtain ⟨r, hr, rfl⟩ := List.mem_map.mp hp
      exact (cut_dvd _ _).mp (hL r hr).1.2.2) (by
      rintro b ⟨e, e1, rfl⟩ _ _
      exact (edgL_mem F hf rs hL e e1).2) (by rw [hu, Nat.zero_add]; exact t1)
    rw [List.length_map] at this
    have up : ∀ d k, pthS d rs.length ≤ pthS (d + k) rs.length := by
      intro d k
      induction k with
      | zero => exact Nat.le_refl _
      | succ k ih =>
        rw [show d + (k + 1) = (d + k) + 1 by omega, pthS]
        exact Nat.le_trans ih (Nat.le_add_right _ _)
    have := up F.toNat (128 - F.toNat)
    rw [show F.toNat + (128 - F.toNat) = 128 by omega] at this
    omega
/-- With no more than 9000 routes they fit into a table. -/
theorem cov_fits (F : Int) (hf : fam F = true) (f : BitVec 128 → Int) (rs : List Rte) (hL : ∀ r ∈ rs, Ro F r) (hF : Flat F (edgL F rs) f) (l : List Sg) (h1 : sgsGo F none l = 0) (h2 : Says F f l) (hn : rs.length ≤ 9000) : okL F l = true := by
  have a := cov_paths F hf f rs hL hF l h1 h2
  have b := pthS_mono _ _ hn 128
  have c := pthS_9000
  unfold okL
  exact decide_eq_true (by omega)
/-- The segments of one table. -/
theorem swp_fits (F : Int) (hf : fam F = true) (l : List Rte) (hL : ∀ q ∈ l, Ro F q) (hO : l.Pairwise (fun a b => pcmpZ a.1.1 a.1.2 b.1.1 b.1.2 < 0)) (hn : l.length ≤ 9000) : okL F (swp F l) = true := by
  obtain ⟨a, b⟩ := swp_right F hf l hL hO
  exact cov_fits F hf _ l hL (look_flat F hf _ l (edgL_ends F l) hL) _ a b hn
end Go.Proofs.YtonagfmkplbooaaDoor
/-
  The routes that cover right segments are a right table, one behind the other, no two of one segment siblings; it leads
  each address where the segments say, and has them again.
-/
namespace Go.Proofs.YtonagfmkplbooaaDoor
set_option linter.unusedSimpArgs false
set_option linter.unusedVariables false

/-- Two prefixes beside one another that make up one. -/
def Sb (p q : BitVec 128 × Int) : Prop := p.2 = q.2 ∧ 0 < q.2 ∧ q.1.toNat = p.1.toNat + 2 ^ (128 - q.2.toNat) ∧ 2 ^ (128 - (q.2 - 1).toNat) ∣ p.1.toNat
theorem rt_le (F : Int) (x : BitVec 128) (n : Int) (h : Rt F x n) : x.toNat ≤ (lastW F x n).toNat := le_last F x n h x (rt_fam F x n h) h.2.2
theorem covL_all (F : Int) (hf : fam F = true) (b : BitVec 128) : ∀ k a, Rng F a b → b.toNat < a.toNat + k →
    (∀ p ∈ covL F b k a, Rt F p.1 p.2 ∧ a.toNat ≤ p.1.toNat ∧ (lastW F p.1 p.2).toNat ≤ b.toNat) ∧
    (covL F b k a).Pairwise (fun p q => (lastW F p.1 p.2).toNat < q.1.toNat ∧ ¬ Sb p q) ∧
    (∀ x, rightE F x = 0 → a.toNat ≤ x.toNat → x.toNat ≤ b.toNat → ∃ p ∈ covL F b k a, cutW x p.2 = p.1) := by
  intro k
  induction k with
  | zero => intro a h hk; have := h.2.2; omega
  | succ k ih =>
    intro a h hk
    obtain ⟨hr, hl⟩ := wid_rt F a b h
    obtain ⟨f0, f1⟩ := fam_bd F hf
    have here : ∀ x, rightE F x = 0 → a.toNat ≤ x.toNat → x.toNat ≤ (lastW F a (widN F a b)).toNat → cutW x (widN F a b) = a := fun x hx h1 h2 =>
      (has_ends F a _ hr x (right0 F x hx).2).mpr ⟨h1, h2⟩
    by_cases q : lastW F a (widN F a b) = b
    · rw [cov_end F b k a q]
      refine ⟨?_, List.pairwise_singleton _ _, ?_⟩
      · intro p hp
        rw [List.mem_singleton] at hp
        subst hp
        exact ⟨hr, Nat.le_refl _, hl⟩
      · intro x hx h1 h2
        exact ⟨_, List.mem_singleton.mpr rfl, here x hx h1 (by rw [q]; exact h2)⟩
    · obtain ⟨n1, n2, n3⟩ := rng_next F a b h q
      obtain ⟨m1, m2, m3, m4⟩ := next_nat F _ n1
      have pp := Nat.two_pow_pos (128 - (widN F a b).toNat)
      have pu := Nat.two_pow_pos (128 - F.toNat)
      obtain ⟨i1, i2, i3⟩ := ih _ n2 (by omega)
      rw [cov_on F b k a q]
      refine ⟨?_, ?_, ?_⟩
      · intro p hp
        rcases List.mem_cons.mp hp with rfl | hp
        · exact ⟨hr, Nat.le_refl _, hl⟩
        · obtain ⟨j1, j2, j3⟩ := i1 p hp
          exact ⟨j1, by omega, j3⟩
      · refine List.pairwise_cons.mpr ⟨fun p hp => ?_, i2⟩
        obtain ⟨j1, j2, j3⟩ := i1 p hp
        refine ⟨by show (lastW F a (widN F a b)).toNat < _; omega, ?_⟩
        rintro ⟨c1, c2, c3, c4⟩
        have c1 : widN F a b = p.2 := c1
        have c3 : p.1.toNat = a.toNat + 2 ^ (128 - p.2.toNat) := c3
        have c4 : 2 ^ (128 - (p.2 - 1).toNat) ∣ a.toNat := c4
        have h1 := j1.2.1
        have cc := (cut_dvd a (p.2 - 1)).mpr c4
        have l1 := last_nat F a (p.2 - 1) ⟨by omega, by omega, cc⟩ f1
        have l2 := last_nat F p.1 p.2 j1 f1
        have e : 2 ^ (128 - (p.2 - 1).toNat) = 2 ^ (128 - p.2.toNat) + 2 ^ (128 - p.2.toNat) := by
          rw [show 128 - (p.2 - 1).toNat = (128 - p.2.toNat) + 1 by omega, Nat.pow_succ]; omega
        have := (wid_iff F a b h.1 h.2.1 h.2.2 (p.2 - 1) (by omega) (by omega)).mp ⟨cc, by omega⟩
        omega
      · intro x hx h1 h2
        by_cases g : x.toNat ≤ (lastW F a (widN F a b)).toNat
        · exact ⟨_, List.mem_cons_self, here x hx h1 g⟩
        · obtain ⟨k1, k2, k3, k4⟩ := next_le F _ x (right_of F _ hf (last_fam F a _ hr)) hx (by omega)
          obtain ⟨p, p1, p2⟩ := i3 x hx k2 h2
          exact ⟨p, List.mem_cons_of_mem _ p1, p2⟩
theorem look_same (x : BitVec 128) (h : Int) : ∀ (l : List Rte) (a : Int), (∀ r ∈ l, r.2 = h) → ((∃ r ∈ l, hasR r x = true) ∨ a = h) → look x a l = h
  | [], a, _, e => by
    rcases e with ⟨r, hr, _⟩ | e
    · cases hr
    · exact e
  | r :: l, a, hh, e => by
    rw [look]
    refine look_same x h l _ (fun q hq => hh q (List.mem_cons_of_mem _ hq)) ?_
    by_cases hr : hasR r x = true
    · right; rw [if_pos hr]; exact hh r (by simp)
    · rw [if_neg hr]
      rcases e with ⟨q, hq, e⟩ | e
      · rcases List.mem_cons.mp hq with rfl | hq
        · exact absurd e hr
        · exact .inl ⟨q, hq, e⟩
      · exact .inr e
/-- Routes one behind the other; no two with one hop make up one prefix. -/
def Aft (F : Int) (p q : Rte) : Prop := (lastW F p.1.1 p.1.2).toNat < q.1.1.toNat ∧ ¬ (p.2 = q.2 ∧ Sb p.1 q.1)
theorem covS_all (F : Int) (hf : fam F = true) (s : Sg) (h : sgE F s = 0) :
    (∀ r ∈ covS F s, Ro F r ∧ s.1.1.toNat ≤ r.1.1.toNat ∧ (lastW F r.1.1 r.1.2).toNat ≤ s.1.2.toNat ∧ r.2 = s.2 ∧ r.2 ≠ 0) ∧
    (covS F s).Pairwise (Aft F) ∧
    (∀ x, rightE F x = 0 → s.1.1.toNat ≤ x.toNat → x.toNat ≤ s.1.2.toNat → look x 0 (covS F s) = s.2) := by
  obtain ⟨s1, s2, s3, s4, s5⟩ := sgE_zero F s h
  unfold covS
  by_cases z : s.2 = 0
  · rw [if_pos z]
    exact ⟨(fun r hr => nomatch hr), List.Pairwise.nil, fun x _ _ _ => z.symm⟩
  · rw [if_neg z]
    have ce : covE F s.1.1 s.1.2 = 0 := by
      unfold covE
      rw [if_pos s1, if_pos s2, if_neg (by rw [cmp_lt0]; omega)]
    unfold covT
    rw [if_pos ce]
    obtain ⟨a1, a2, a3⟩ := covL_all F hf s.1.2 (s.1.2.toNat - s.1.1.toNat + 1) s.1.1 ⟨s1, s2, s5⟩ (by omega)
    refine ⟨?_, ?_, ?_⟩
    · intro r hr
      obtain ⟨p, hp, rfl⟩ := List.mem_map.mp hr
      obtain ⟨b1, b2, b3⟩ := a1 p hp
      exact ⟨⟨b1, s3, s4⟩, b2, b3, rfl, z⟩
    · rw [List.pairwise_map]
      exact a2.imp (fun g => ⟨g.1, fun c => g.2 c.2⟩)
    · intro x hx h1 h2
      obtain ⟨p, p1, p2⟩ := a3 x hx h1 h2
      refine look_same x s.2 _ 0 (fun r hr => ?_) (.inl ⟨(p, s.2), List.mem_map.mpr ⟨p, p1, rfl⟩, ?_⟩)
      · obtain ⟨p, hp, rfl⟩ := List.mem_map.mp hr
        rfl
      · unfold hasR
        simpa using p2
theorem none_below (F : Int) (hf : fam F = true) (l : List Rte) (x : BitVec 128) (hx : rightE F x = 0) (h : ∀ r ∈ l, Ro F r ∧ x.toNat < r.1.1.toNat) (a : Int) : look x a l = a := by
  refine look_none x l a (fun r hr => ?_)
  obtain ⟨h1, h2⟩ := h r hr
  cases q : hasR r x with
  | false => rfl
  | true => have := (hasR_ends F r hf h1 x hx).mp q; omega
theorem none_above (F : Int) (hf : fam F = true) (l : List Rte) (x : BitVec 128) (hx : rightE F x = 0) (h : ∀ r ∈ l, Ro F r ∧ (lastW F r.1.1 r.1.2).toNat < x.toNat) (a : Int) : look x a l = a := by
  refine look_none x l a (fun r hr => ?_)
  obtain ⟨h1, h2⟩ := h r hr
  cases q : hasR r x with
  | false => rfl
  | true => have := (hasR_ends F r hf h1 x hx).mp q; omega
theorem covR_all (F : Int) (hf : fam F = true) : ∀ (l : List Sg) (s : Sg), sgE F s = 0 → sgsGo F (some s) l = 0 →
    (∀ r ∈ covR F (s :: l), Ro F r ∧ s.1.1.toNat ≤ r.1.1.toNat ∧ r.2 ≠ 0 ∧ (r.1.1.toNat = s.1.1.toNat → r.2 = s.2)) ∧
    (covR F (s :: l)).Pairwise (Aft F) ∧
    (∀ x, rightE F x = 0 → s.1.1.toNat ≤ x.toNat → ∃ t ∈ s :: l, t.1.1.toNat ≤ x.toNat ∧ x.toNat ≤ t.1.2.toNat ∧ look x 0 (covR F (s :: l)) = t.2)
  | [], s, h1, h2 => by
    obtain ⟨s1, s2, s3, s4, s5⟩ := sgE_zero F s h1
    obtain ⟨a1, a2, a3⟩ := covS_all F hf s h1
    have e : covR F [s] = covS F s := by simp [covR]
    rw [e]
    refine ⟨fun r hr => ?_, a2, fun x hx g => ?_⟩
    · obtain ⟨b1, b2, b3, b4, b5⟩ := a1 r hr
      exact ⟨b1, b2, b5, fun _ => b4⟩
    · have hn : nextB F s.1.2 = false := by
        rw [sgsGo] at h2
        cases e : nextB F s.1.2 with
        | false => rfl
        | true => rw [if_pos (show moO F (some s) = true from e)] at h2; omega
      have m := right_max F x hx
      rw [← next_none F s.1.2 s2 hn] at m
      exact ⟨s, by simp, g, m, a3 x hx g m⟩
  | r :: l, s, h1, h2 => by
    obtain ⟨s1, s2, s3, s4, s5⟩ := sgE_zero F s h1
    obtain ⟨a1, a2, a3⟩ := covS_all F hf s h1
    obtain ⟨r1, r2, r3, r4, r5⟩ := sgsGo_cons F (some s) r l h2
    obtain ⟨b1, b2, b3⟩ := covR_all F hf l r r1 r5
    obtain ⟨n1, n2, n3, n4⟩ := next_nat F s.1.2 r2
    have hp := Nat.two_pow_pos (128 - F.toNat)
    have e : r.1.1.toNat = s.1.2.toNat + 2 ^ (128 - F.toNat) := by rw [r3]; exact n1
    obtain ⟨f0, f1⟩ := fam_bd F hf
    rw [show covR F (s :: r :: l) = covS F s ++ covR F (r :: l) from rfl]
    refine ⟨fun q hq => ?_, ?_, fun x hx g => ?_⟩
    · rcases List.mem_append.mp hq with hq | hq
      · obtain ⟨c1, c2, c3, c4, c5⟩ := a1 q hq
        exact ⟨c1, c2, c5, fun _ => c4⟩
      · obtain ⟨c1, c2, c3, c4⟩ := b1 q hq
        exact ⟨c1, by omega, c3, fun z => by omega⟩
    · refine List.pairwise_append.mpr ⟨a2, b2, fun p hp' q hq => ?_⟩
      obtain ⟨c1, c2, c3, c4, c5⟩ := a1 p hp'
      obtain ⟨d1, d2, d3, d4⟩ := b1 q hq
      refine ⟨by omega, ?_⟩
      rintro ⟨g0, g1, g2, g3, g4⟩
      have l1 := last_nat F p.1.1 p.1.2 c1.1 f1
      rw [g1] at l1
      have hz : q.1.1.toNat = r.1.1.toNat := by rw [g1] at c3; omega
      apply r4
      show some s.2 = some r.2
      rw [← d4 hz, ← g0, c4]
    · by_cases g2 : x.toNat ≤ s.1.2.toNat
      · refine ⟨s, by simp, g, g2, ?_⟩
        rw [look_app, a3 x hx g g2]
        exact none_below F hf _ x hx (fun q hq => ⟨(b1 q hq).1, by have := (b1 q hq).2.1; omega⟩) _
      · obtain ⟨k1, k2, k3, k4⟩ := next_le F s.1.2 x s2 hx (by omega)
        obtain ⟨t, t1, t2, t3, t4⟩ := b3 x hx (by rw [r3]; exact k2)
        refine ⟨t, List.mem_cons_of_mem _ t1, t2, t3, ?_⟩
        rw [look_app, none_above F hf (covS F s) x hx (fun q hq => ⟨(a1 q hq).1, by have := (a1 q hq).2.2.1; omega⟩)]
        exact t4
/-- The routes of right segments: a right table in order, that leads where they say. -/
theorem covR_table (F : Int) (hf : fam F = true) (l : List Sg) (h : sgsGo F none l = 0) :
    (∀ r ∈ covR F l, Ro F r ∧ r.2 ≠ 0) ∧ (covR F l).Pairwise (Aft F) ∧ (covR F l).Pairwise (fun a b => pcmpZ a.1.1 a.1.2 b.1.1 b.1.2 < 0) ∧
    (∀ f, Says F f l → ∀ x, rightE F x = 0 → look x 0 (covR F l) = f x) := by
  cases l with
  | nil => simp [sgsGo, moO] at h
  | cons s l =>
    obtain ⟨s1, s2, s3, s4, s5⟩ := sgsGo_cons F none s l h
    obtain ⟨a1, a2, a3⟩ := covR_all F hf l s s1 s5
    have z : s.1.1.toNat = 0 := by rw [s3]; rfl
    refine ⟨fun r hr => ⟨(a1 r hr).1, (a1 r hr).2.2.1⟩, a2, ?_, fun f hs x hx => ?_⟩
    · refine List.Pairwise.imp_of_mem (fun {p q} hp _ g => ?_) a2
      have g1 := rt_le F _ _ (a1 p hp).1.1
      have g2 := g.1
      have le := (pcmp_le p.1.1 p.1.2 q.1.1 q.1.2).mpr (.inl (by omega))
      have ne : ¬ pcmpZ p.1.1 p.1.2 q.1.1 q.1.2 = 0 := fun c => by
        have := congrArg BitVec.toNat ((pcmp_eq0 _ _ _ _).mp c).1
        omega
      omega
    · obtain ⟨t, t1, t2, t3, t4⟩ := a3 x hx (by omega)
      rw [t4]
      exact hs t t1 x hx t2 t3
/-- They have the segments again. -/
theorem covR_swp (F : Int) (hf : fam F = true) (f : BitVec 128 → Int) (l : List Sg) (h : sgsGo F none l = 0) (hs : Says F f l) : swp F (covR F l) = l := by
  obtain ⟨a1, a2, a3, a4⟩ := covR_table F hf l h
  obtain ⟨b1, b2⟩ := swp_right F hf (covR F l) (fun q hq => (a1 q hq).1) a3
  exact segs_unique F f _ _ none none b1 h rfl rfl (fun s hs' x hx h1 h2 => by rw [b2 s hs' x hx h1 h2]; exact a4 f hs x hx) hs
end Go.Proofs.YtonagfmkplbooaaDoor
/-
  What a call of package prefix's Kids does.
-/
namespace Go.Proofs.YtonagfmkplbooaaDoor
open Go.RowKit
set_option linter.unusedSimpArgs false
set_option linter.unusedVariables false

def kidL (F : Int) (x : BitVec 128) (n : Int) : BitVec 128 := if F ≤ n then 0#128 else x
def kidH (F : Int) (x : BitVec 128) (n : Int) : BitVec 128 := if F ≤ n then 0#128 else x ||| bit1 n
def kidN (F : Int) (n : Int) : Int := if F ≤ n then 0 else n + 1
/-- The prefix, the low kid, and the answers, in memory. -/
def KS (w : World) (x : BitVec 128) (n : Int) (W : World) : Prop := AtP W w.heap.size x n ∧ AtP W (w.heap.size + 1) 0#128 0 ∧ AtP W (w.heap.size + 1 + 1) 0#128 0 ∧ AtP W (w.heap.size + 1 + 1 + 1) x (n + 1) ∧ Below w.heap.size w W
theorem KS.below {w W W' : World} {x : BitVec 128} {n : Int} (h : KS w x n W) (hb : Below W.heap.size W W') : KS w x n W' := ⟨h.1.below hb, h.2.1.below hb, h.2.2.1.below hb, h.2.2.2.1.below hb, keepb hb h.2.2.2.2⟩
theorem KS.al {w W : World} {x : BitVec 128} {n : Int} (h : KS w x n W) (o : Obj) : KS w x n (W.alloc o) := h.below (bl1 W o)
theorem KS.drew {w W : World} {x : BitVec 128} {n : Int} (h : KS w x n W) : KS w x n W.drew := ⟨h.1, h.2.1, h.2.2.1, h.2.2.2.1, h.2.2.2.2.drew⟩
theorem AtP.setO {W : World} {B : Nat} {x : BitVec 128} {n : Int} (h : AtP W B x n) {N : Nat} (hN : ¬ N = B) (u v t : Value) : AtP (((W.setCell ⟨N, 0, none⟩ u).setCell ⟨N, 1, none⟩ v).setCell ⟨N, 2, none⟩ t) B x n := by
  obtain ⟨a0, a1, a2, a3, a4, a5⟩ := h
  have d1 : ¬ B = N := fun e => hN e.symm
  refine ⟨?_, ?_, ?_, ?_, ?_, ?_⟩ <;> simp [go_sem, *]
theorem AtP.set {W : World} {B : Nat} {x : BitVec 128} {n : Int} (h : AtP W B x n) (y : BitVec 128) (m : Int) : AtP (((W.setCell ⟨B, 0, none⟩ (.int .u64 (hI y))).setCell ⟨B, 1, none⟩ (.int .u64 (lI y))).setCell ⟨B, 2, none⟩ (.int .i64 m)) B y m := by
  obtain ⟨a0, a1, a2, a3, a4, a5⟩ := h
  refine ⟨?_, ?_, ?_, ?_, ?_, ?_⟩ <;> simp [go_sem, *]
theorem AtP.lt {W : World} {B : Nat} {x : BitVec 128} {n : Int} (h : AtP W B x n) : B < W.heap.size := cell_in h.1
theorem KS.set {w W : World} {x : BitVec 128} {n : Int} (h : KS w x n W) {N : Nat} (hN : w.heap.size + 1 + 1 + 1 < N) (u v t : Value) : KS w x n (((W.setCell ⟨N, 0, none⟩ u).setCell ⟨N, 1, none⟩ v).setCell ⟨N, 2, none⟩ t) :=
  ⟨h.1.setO (by omega) u v t, h.2.1.setO (by omega) u v t, h.2.2.1.setO (by omega) u v t, h.2.2.2.1.setO (by omega) u v t, bset3 h.2.2.2.2 (by omega) u v t⟩
theorem KS.first (w : World) (x : BitVec 128) (n : Int) : KS w x n ((((w.alloc (.cells #[.int .u64 (hI x), .int .u64 (lI x), .int .i64 n] 29)).alloc (.cells #[.int .u64 0, .int .u64 0, .int .i64 0] 29)).alloc (.cells #[.int .u64 0, .int .u64 0, .int .i64 0] 29)).alloc (.cells #[.int .u64 (hI x), .int .u64 (lI x), .int .i64 (n + 1)] 29)) := by
  refine ⟨?_, ?_, ?_, ?_, (bl3 _ _ _ _).alloc (by simp; omega) _⟩
  · exact (((atp_new w w.heap.size x n 29 rfl).below (bl1 _ _)).below (bl1 _ _)).below (bl1 _ _)
  · exact ((atp_new _ (w.heap.size + 1) 0#128 0 29 (by simp)).below (bl1 _ _)).below (bl1 _ _)
  · exact (atp_new _ (w.heap.size + 1 + 1) 0#128 0 29 (by simp)).below (bl1 _ _)
  · exact atp_new _ (w.heap.size + 1 + 1 + 1) x (n + 1) 29 (by simp)
theorem atp_new0 (w : World) : AtP (w.alloc (.cells #[.int .u64 0, .int .u64 0, .int .i64 0] 29)) w.heap.size 0#128 0 := atp_new w w.heap.size 0#128 0 29 rfl
theorem atp_new0d (w : World) (N : Nat) (h : N = w.heap.size) : AtP (w.alloc (.cells #[.int .u64 0, .int .u64 0, .int .i64 0] 29)).drew N 0#128 0 := atp_new w N 0#128 0 29 h

end Go.Proofs.YtonagfmkplbooaaDoor
/-
  What a call of the reference's Kids does.
-/
namespace Go.Proofs.YtonagfmkplbooaaDoor
open Go.RowKit
set_option linter.unusedSimpArgs false
set_option linter.unusedVariables false

theorem eval_of {a : Act} {s : Nat} {v : Value} (h : a.tmps[s]? = some v) : a.eval (.tmp s) = v := by
  show a.tmps.getD s undef = v
  rw [Array.getD_eq_getD_getElem?, h]; rfl
/-- The prefix and both answers in memory; the first one as it stands. -/
def RK (w : World) (x : BitVec 128) (n : Int) (y : BitVec 128) (m : Int) (W : World) : Prop := AtP W w.heap.size x n ∧ AtP W (w.heap.size + 1) y m ∧ AtP W (w.heap.size + 1 + 1) 0#128 0 ∧ Below w.heap.size w W
theorem RK.below {w W W' : World} {x y : BitVec 128} {n m : Int} (h : RK w x n y m W) (hb : Below W.heap.size W W') : RK w x n y m W' := ⟨h.1.below hb, h.2.1.below hb, h.2.2.1.below hb, keepb hb h.2.2.2⟩
theorem rkids_no (F : Int) (x : BitVec 128) (n : Int) (w : World) (h : F ≤ n) :
    Calls Tryd.prog 15 #[.int .i64 F, .agg #[.int .u64 (hI x), .int .u64 (lI x), .int .i64 n]] w fun e w' => e = .returned (.tuple #[.agg #[.int .u64 0, .int .u64 0, .int .i64 0], .agg #[.int .u64 0, .int .u64 0, .int .i64 0], .bool false]) ∧ Below w.heap.size w w' := by
  go_enter Tryd.func15, Tryd.ntmps15
  go_wp2
  exact bodyPost_ret (v := .tuple #[.agg #[.int .u64 0, .int .u64 0, .int .i64 0], .agg #[.int .u64 0, .int .u64 0, .int .i64 0], .bool false]) (by simp [results, Tryd.results15, go_sem, *]) rfl ⟨rfl, bl3 _ _ _ _⟩
set_option maxHeartbeats 4000000 in
set_option maxRecDepth 20000 in
theorem rkids_yes (F : Int) (x : BitVec 128) (n : Int) (w : World) (h : ¬ F ≤ n) (h0 : 0 ≤ n) (h1 : F ≤ 128) :
    Calls Tryd.prog 15 #[.int .i64 F, .agg #[.int .u64 (hI x), .int .u64 (lI x), .int .i64 n]] w fun e w' => e = .returned (.tuple #[.agg #[.int .u64 (hI x), .int .u64 (lI x), .int .i64 (n + 1)], .agg #[.int .u64 (hI (putW x n 1)), .int .u64 (lI (putW x n 1)), .int .i64 (n + 1)], .bool true]) ∧ Below w.heap.size w w' := by
  have hu : IntKind.i64.wrap (n + 1) = n + 1 := by rw [IntKind.wrap_i64]; omega
  have KB := fun w => put_any x n 1 w (by omega) h0 (by omega)
  revert KB
  generalize putW x n 1 = y
  intro KB
  have L0 : RK w x n 0#128 0 (((w.alloc (.cells #[.int .u64 (hI x), .int .u64 (lI x), .int .i64 n] 29)).alloc (.cells #[.int .u64 0, .int .u64 0, .int .i64 0] 29)).alloc (.cells #[.int .u64 0, .int .u64 0, .int .i64 0] 29)) :=
    by
      refine ⟨?_, ?_, ?_, bl3 _ _ _ _⟩
      · exact ((atp_new w w.heap.size x n 29 rfl).below (bl1 _ _)).below (bl1 _ _)
      · exact (atp_new (w.alloc (.cells #[.int .u64 (hI x), .int .u64 (lI x), .int .i64 n] 29)) (w.heap.size + 1) 0#128 0 29 (by simp)).below (bl1 _ _)
      · exact atp_new ((w.alloc (.cells #[.int .u64 (hI x), .int .u64 (lI x), .int .i64 n] 29)).alloc (.cells #[.int .u64 0, .int .u64 0, .int .i64 0] 29)) (w.heap.size + 1 + 1) 0#128 0 29 (by simp)
  go_enter Tryd.func15, Tryd.ntmps15
  go_wp2_with fail
  refine sp_region 16 15 (alOk (qpOk 16 15 (by decide) (fun N => by kernel_rfl) (by kernel_rfl) (by kernel_rfl) (by kernel_rfl) (by kernel_rfl)) (by decide) rfl rfl (by kernel_rfl)) (D := RK w x n 0#128 0) (C1 := fun _ W => RK w x n x (n + 1) W) (A := fun _ => { tmps := #[.int .i64 (F), .agg #[.int .u64 (hI x), .int .u64 (lI x), .int .i64 (n)], undef, .pointer (some ⟨w.heap.size, 0, none⟩), .pointer (some ⟨w.heap.size + 1, 0, none⟩), .pointer (some ⟨w.heap.size + 1 + 1, 0, none⟩), .bool false, .pointer (some ⟨w.heap.size, 2, none⟩), .int .i64 (n), .int .i64 (F), .bool false, undef, undef, .pointer (some ⟨w.heap.size, 0, none⟩), .agg #[.int .u64 (hI x), .int .u64 (lI x)], .pointer (some ⟨w.heap.size, 2, none⟩), .int .i64 (n), .int .i64 (n + 1), .agg #[.int .u64 (hI x), .int .u64 (lI x), .int .i64 (n + 1)], .pointer (some ⟨w.heap.size, 0, none⟩), .agg #[.int .u64 (hI x), .int .u64 (lI x)], .pointer (some ⟨w.heap.size, 2, none⟩), .int .i64 (n), .agg #[.int .u64 (hI y), .int .u64 (lI y)], .pointer (some ⟨w.heap.size, 2, none⟩), .int .i64 (n), .int .i64 (n + 1), .agg #[.int .u64 (hI y), .int .u64 (lI y), .int .i64 (n + 1)]], defers := [] }) (fun _ => undef) [4, 18] (by kernel_rfl) ?hA (read_of (by kernel_rfl)) ?hal ⟨L0.1, L0.2.1, L0.2.2.1, L0.2.2.2.drew⟩ ?walk ?fin
  case hA => intro i o s N _ _ _ _; rfl
  case hal =>
    intro W a hD hr K Q' hK
    have e4 : a.tmps[4]? = some (.pointer (some ⟨w.heap.size + 1, 0, none⟩)) := (hr 4 (by simp)).trans rfl
    have e18 : a.tmps[18]? = some (.agg #[.int .u64 (hI x), .int .u64 (lI x), .int .i64 (n + 1)]) := (hr 18 (by simp)).trans rfl
    have r0 := (hD.2.1).set x (n + 1)
    obtain ⟨q1, ⟨y0, y1, y2, y3, y4, y5⟩, q3, q4⟩ := hD
    have hw : RK w x n x (n + 1) (((W.setCell ⟨w.heap.size + 1, 0, none⟩ (.int .u64 (hI x))).setCell ⟨w.heap.size + 1, 1, none⟩ (.int .u64 (lI x))).setCell ⟨w.heap.size + 1, 2, none⟩ (.int .i64 (n + 1))) :=
      ⟨q1.setO (by omega) _ _ _, r0, q3.setO (by omega) _ _ _, bset3 q4 (by omega) _ _ _⟩
    have hK' := hK 0 _ hw
    unfold Oper.wp
    simp [execOp, e4, e18, go_sem, y0, y1, y2, y3, y4, y5, Oper.upon]
    exact hK'
  case walk =>
    intro N X hX
    have hXD : ∀ W, X W → W.cell? ⟨w.heap.size, 0, none⟩ = some (.int .u64 (hI x)) ∧ W.cell? ⟨w.heap.size, 1, none⟩ = some (.int .u64 (lI x)) ∧ W.cell? ⟨w.heap.size, 2, none⟩ = some (.int .i64 n) := by
      rcases hX with rfl | rfl
      · exact fun W h => ⟨h.1.1, h.1.2.1, h.1.2.2.1⟩
      · exact fun W h => ⟨h.1.1, h.1.2.1, h.1.2.2.1⟩
    have hXb : ∀ W W', X W → Below W.heap.size W W' → X W' := by
      rcases hX with rfl | rfl
      · exact fun W W' h hb => h.below hb
      · exact fun W W' h hb => RK.below h hb
    clear hX L0
    dsimp only [rep, List.take, List.modify, List.modifyTailIdx, List.modifyTailIdx.go, List.modifyHead]
    refine q_run (v := .pointer (some ⟨w.heap.size, 0, none⟩)) (by rfl) ?_ ?_
    · (intro w1 hC; obtain ⟨p0, p1, p2⟩ := hXD w1 hC; go_simp; first | done | (simp; done) | (simp [*]; done) | omega | (simp; omega) | (rw [IntKind.wrap_i64]; omega) | (intro hx; omega) | rfl)
    simp only [Act.put, List.setIfInBounds_toArray, List.set_cons_zero, List.set_cons_succ]
    refine q_run (v := .agg #[.int .u64 (hI x), .int .u64 (lI x)]) (by rfl) ?_ ?_
    · (intro w1 hC; obtain ⟨p0, p1, p2⟩ := hXD w1 hC; go_simp; first | done | (simp; done) | (simp [*]; done) | omega | (simp; omega) | (rw [IntKind.wrap_i64]; omega) | (intro hx; omega) | rfl)
    simp only [Act.put, List.setIfInBounds_toArray, List.set_cons_zero, List.set_cons_succ]
    refine q_run (v := .pointer (some ⟨w.heap.size, 2, none⟩)) (by rfl) ?_ ?_
    · (intro w1 hC; obtain ⟨p0, p1, p2⟩ := hXD w1 hC; go_simp; first | done | (simp; done) | (simp [*]; done) | omega | (simp; omega) | (rw [IntKind.wrap_i64]; omega) | (intro hx; omega) | rfl)
    simp only [Act.put, List.setIfInBounds_toArray, List.set_cons_zero, List.set_cons_succ]
    refine q_run (v := .int .i64 (n)) (by rfl) ?_ ?_
    · (intro w1 hC; obtain ⟨p0, p1, p2⟩ := hXD w1 hC; go_simp; first | done | (simp; done) | (simp [*]; done) | omega | (simp; omega) | (rw [IntKind.wrap_i64]; omega) | (intro hx; omega) | rfl)
    simp only [Act.put, List.setIfInBounds_toArray, List.set_cons_zero, List.set_cons_succ]
    refine q_run (v := .int .i64 (n + 1)) (by rfl) ?_ ?_
    · (intro w1 hC; obtain ⟨p0, p1, p2⟩ := hXD w1 hC; go_simp)
    simp only [Act.put, List.setIfInBounds_toArray, List.set_cons_zero, List.set_cons_succ]
    refine q_run (v := .agg #[.int .u64 (hI x), .int .u64 (lI x), .int .i64 (n + 1)]) (by rfl) ?_ ?_
    · (intro w1 hC; obtain ⟨p0, p1, p2⟩ := hXD w1 hC; go_simp; first | done | (simp; done) | (simp [*]; done) | omega | (simp; omega) | (rw [IntKind.wrap_i64]; omega) | (intro hx; omega) | rfl)
    simp only [Act.put, List.setIfInBounds_toArray, List.set_cons_zero, List.set_cons_succ]
    refine q_run (v := .pointer (some ⟨w.heap.size, 0, none⟩)) (by rfl) ?_ ?_
    · (intro w1 hC; obtain ⟨p0, p1, p2⟩ := hXD w1 hC; go_simp; first | done | (simp; done) | (simp [*]; done) | omega | (simp; omega) | (rw [IntKind.wrap_i64]; omega) | (intro hx; omega) | rfl)
    simp only [Act.put, List.setIfInBounds_toArray, List.set_cons_zero, List.set_cons_succ]
    refine q_run (v := .agg #[.int .u64 (hI x), .int .u64 (lI x)]) (by rfl) ?_ ?_
    · (intro w1 hC; obtain ⟨p0, p1, p2⟩ := hXD w1 hC; go_simp; first | done | (simp; done) | (simp [*]; done) | omega | (simp; omega) | (rw [IntKind.wrap_i64]; omega) | (intro hx; omega) | rfl)
    simp only [Act.put, List.setIfInBounds_toArray, List.set_cons_zero, List.set_cons_succ]
    refine q_run (v := .pointer (some ⟨w.heap.size, 2, none⟩)) (by rfl) ?_ ?_
    · (intro w1 hC; obtain ⟨p0, p1, p2⟩ := hXD w1 hC; go_simp; first | done | (simp; done) | (simp [*]; done) | omega | (simp; omega) | (rw [IntKind.wrap_i64]; omega) | (intro hx; omega) | rfl)
    simp only [Act.put, List.setIfInBounds_toArray, List.set_cons_zero, List.set_cons_succ]
    refine q_run (v := .int .i64 (n)) (by rfl) ?_ ?_
    · (intro w1 hC; obtain ⟨p0, p1, p2⟩ := hXD w1 hC; go_simp; first | done | (simp; done) | (simp [*]; done) | omega | (simp; omega) | (rw [IntKind.wrap_i64]; omega) | (intro hx; omega) | rfl)
    simp only [Act.put, List.setIfInBounds_toArray, List.set_cons_zero, List.set_cons_succ]
    refine q_call (v := .agg #[.int .u64 (hI y), .int .u64 (lI y)]) (f := 31) (args := #[.agg #[.int .u64 (hI x), .int .u64 (lI x)], .int .i64 (n), .int .i64 (1)]) (by rfl) ?_ ?_ ?_
    · (intro w1 hC; clear hC; go_simp)
    · exact fun w1 hC => (KB w1).mono fun e w' ⟨he, hb⟩ => ⟨he, hXb w1 _ hC hb⟩
    simp only [Act.put, List.setIfInBounds_toArray, List.set_cons_zero, List.set_cons_succ]
    refine q_run (v := .pointer (some ⟨w.heap.size, 2, none⟩)) (by rfl) ?_ ?_
    · (intro w1 hC; obtain ⟨p0, p1, p2⟩ := hXD w1 hC; go_simp; first | done | (simp; done) | (simp [*]; done) | omega | (simp; omega) | (rw [IntKind.wrap_i64]; omega) | (intro hx; omega) | rfl)
    simp only [Act.put, List.setIfInBounds_toArray, List.set_cons_zero, List.set_cons_succ]
    refine q_run (v := .int .i64 (n)) (by rfl) ?_ ?_
    · (intro w1 hC; obtain ⟨p0, p1, p2⟩ := hXD w1 hC; go_simp; first | done | (simp; done) | (simp [*]; done) | omega | (simp; omega) | (rw [IntKind.wrap_i64]; omega) | (intro hx; omega) | rfl)
    simp only [Act.put, List.setIfInBounds_toArray, List.set_cons_zero, List.set_cons_succ]
    refine q_run (v := .int .i64 (n + 1)) (by rfl) ?_ ?_
    · (intro w1 hC; obtain ⟨p0, p1, p2⟩ := hXD w1 hC; go_simp)
    simp only [Act.put, List.setIfInBounds_toArray, List.set_cons_zero, List.set_cons_succ]
    refine q_run (v := .agg #[.int .u64 (hI y), .int .u64 (lI y), .int .i64 (n + 1)]) (by rfl) ?_ ?_
    · (intro w1 hC; obtain ⟨p0, p1, p2⟩ := hXD w1 hC; go_simp; first | done | (simp; done) | (simp [*]; done) | omega | (simp; omega) | (rw [IntKind.wrap_i64]; omega) | (intro hx; omega) | rfl)
    simp only [Act.put, List.setIfInBounds_toArray, List.set_cons_zero, List.set_cons_succ]
    refine q_run (v := undef) (by rfl) ?_ ?_
    · (intro w1 hC; go_simp)
    exact wpQuiet_nil rfl
  case fin =>
    intro N W hC
    obtain ⟨-, ⟨y0, y1, y2, -, -, -⟩, hZ, kB⟩ := hC
    obtain ⟨z0, z1, z2, z3, z4, z5⟩ := id hZ
    dsimp only [List.drop]
    go_wp2
    exact bodyPost_ret (v := .tuple #[.agg #[.int .u64 (hI x), .int .u64 (lI x), .int .i64 (n + 1)], .agg #[.int .u64 (hI y), .int .u64 (lI y), .int .i64 (n + 1)], .bool true]) (by simp [results, Tryd.results15, go_sem, y0, y1, y2, z0, z1, z2]) rfl ⟨rfl, bset3 kB (by omega) _ _ _⟩
theorem rkids_any (F : Int) (x : BitVec 128) (n : Int) (w : World) (h0 : 0 ≤ n) (h1 : F ≤ 128) :
    Calls Tryd.prog 15 #[.int .i64 F, .agg #[.int .u64 (hI x), .int .u64 (lI x), .int .i64 n]] w fun e w' => e = .returned (.tuple #[.agg #[.int .u64 (hI (kidL F x n)), .int .u64 (lI (kidL F x n)), .int .i64 (kidN F n)], .agg #[.int .u64 (hI (if F ≤ n then 0#128 else putW x n 1)), .int .u64 (lI (if F ≤ n then 0#128 else putW x n 1)), .int .i64 (kidN F n)], .bool (decide (n < F))]) ∧ Below w.heap.size w w' := by
  unfold kidL kidN
  by_cases h : F ≤ n
  · have h' : ¬ n < F := by omega
    rw [if_pos h, if_pos h, if_pos h, hI_zero, lI_zero]
    simp only [h', decide_false]
    exact rkids_no F x n w h
  · have h' : n < F := by omega
    rw [if_neg h, if_neg h, if_neg h]
    simp only [h', decide_true]
    exact rkids_yes F x n w h h0 h1
end Go.Proofs.YtonagfmkplbooaaDoor
/-
  What the calls of the reference's chapter 3 do: Sibling, Kids.
-/
namespace Go.Proofs.YtonagfmkplbooaaDoor
open Go.RowKit
set_option linter.unusedSimpArgs false
set_option linter.unusedVariables false

def rsibV (x : BitVec 128) (n : Int) : BitVec 128 := if n ≤ 0 then 0#128 else putW x (n - 1) (1 - bitZ x (n - 1))
end Go.Proofs.YtonagfmkplbooaaDoor
/-
  Plain facts: kids and siblings, told by the program and by the reference, are the same.
-/
namespace Go.Proofs.YtonagfmkplbooaaDoor
open Go.RowKit
set_option linter.unusedSimpArgs false
set_option linter.unusedVariables false

theorem bit1_bit (i : Int) (h0 : 0 ≤ i) (j : Nat) (hj : j < 128) : (bit1 i).getLsbD j = decide ((j : Int) = 127 - i) := by
  unfold bit1
  rw [BitVec.getLsbD_ushiftRight]
  by_cases c : i.toNat + j < 128
  · rw [maskW_bit 1 _ c]
    congr 1
    apply propext
    constructor
    · intro h
      have : 128 - (1 : Int).toNat = 127 := by decide
      omega
    · intro h
      have : 128 - (1 : Int).toNat = 127 := by decide
      omega
  · rw [BitVec.getLsbD_of_ge _ _ (by omega)]
    symm
    simp
    omega
/-- Behind its length a right prefix has no bits. -/
theorem rt_bit (F : Int) (x : BitVec 128) (n : Int) (h : Rt F x n) (j : Nat) (hj : j < 128) (hn : (j : Int) < 128 - n) : x.getLsbD j = false := by
  have hx := congrArg (fun z => z.getLsbD j) h.2.2
  simp only [cut_bit x n j hj] at hx
  have h0 := h.1
  have c : ¬ 128 - n.toNat ≤ j := by omega
  simp [c] at hx
  exact hx.symm ▸ rfl
theorem kid_put (F : Int) (x : BitVec 128) (n : Int) (h : Rt F x n) (h1 : F ≤ 128) (hn : n < F) : putW x n 1 = x ||| bit1 n := by
  apply BitVec.eq_of_getLsbD_eq
  intro j hj
  have h0 := h.1
  rw [putW_bit x n 1 (by omega) h0 (by omega) j hj, BitVec.getLsbD_or, bit1_bit n h0 j hj]
  by_cases c : j = (127 - n).toNat
  · have d : (j : Int) = 127 - n := by omega
    simp [c, d]
    omega
  · have d : ¬ (j : Int) = 127 - n := by omega
    simp [c, d]
theorem kidH_eq (F : Int) (x : BitVec 128) (n : Int) (h : Rt F x n) (h1 : F ≤ 128) : (if F ≤ n then 0#128 else putW x n 1) = kidH F x n := by
  unfold kidH
  by_cases c : F ≤ n
  · rw [if_pos c, if_pos c]
  · rw [if_neg c, if_neg c, kid_put F x n h h1 (by omega)]
theorem sib_eq (F : Int) (x : BitVec 128) (n : Int) (h : Rt F x n) (h1 : F ≤ 128) : rsibV x n = sibV x n := by
  have h0 := h.1
  have h2 := h.2.1
  unfold rsibV sibV
  by_cases c : n ≤ 0
  · rw [if_pos c, if_pos c]
  · rw [if_neg c, if_neg c]
    have hz : bitZ x (n - 1) = if x.getLsbD (127 - (n - 1).toNat) = true then 1 else 0 := by
      unfold bitZ bitB
      have e : decide (0 ≤ n - 1) = true := by simp; omega
      rw [e, Bool.true_and, BitVec.getMsbD_eq_getLsbD]
      have : decide ((n - 1).toNat < 128) = true := by simp; omega
      rw [this, Bool.true_and]
    apply BitVec.eq_of_getLsbD_eq
    intro j hj
    rw [putW_bit x (n - 1) _ (by rw [hz]; split <;> omega) (by omega) (by omega) j hj, BitVec.getLsbD_xor, bit1_bit (n - 1) (by omega) j hj]
    by_cases d : j = (127 - (n - 1)).toNat
    · have e : (j : Int) = 127 - (n - 1) := by omega
      rw [if_pos d, hz, show 127 - (n - 1).toNat = j by omega]
      cases x.getLsbD j <;> simp [e]
    · have e : ¬ (j : Int) = 127 - (n - 1) := by omega
      rw [if_neg d]
      simp [e]
end Go.Proofs.YtonagfmkplbooaaDoor
