/-
  Part 33 of the proof: 1 texts, one behind the other.
-/
import Derived.Test.YtonagfmkplbooaaGreatDoorPart32
import Derived.Test.YtonagfmkplbooaaGreatDoorPart8
import Derived.Test.YtonagfmkplbooaaGreatDoorPart27
/-
  How many routes cover right segments that say what so many routes tell: not more than a table may have.
-/
namespace Go.Proofs.YtonagfmkplbooaaGreatDoor
set_option linter.unusedSimpArgs false
set_option linter.unusedVariables false

theorem mask_nat (F : Int) (hf : fam F = true) : (maskW F).toNat + 2 ^ (128 - F.toNat) = 2 ^ 128 := by
  rcases fam_ways F hf with rfl | rfl <;> decide +kernel
theorem covS_cn (F : Int) (s : Sg) (h : sgE F s = 0) : ∃ k, Cn (128 - F.toNat) (s.1.2.toNat + 2 ^ (128 - F.toNat)) s.1.1.toNat k ∧ (covS F s).length ≤ k := by
  obtain ⟨s1, s2, s3, s4, s5⟩ := sgE_zero F s h
  refine ⟨_, cov_cn F s.1.2 (s.1.2.toNat - s.1.1.toNat + 1) s.1.1 ⟨s1, s2, s5⟩ (by omega), ?_⟩
  unfold covS
  split
  · simp
  · rw [List.length_map]
    unfold covT
    split
    · exact Nat.le_refl _
    · simp
/-- Right segments, each with its cover. -/
theorem segs_tot (F : Int) (hf : fam F = true) (B : Nat → Prop) : ∀ (l : List Sg) (s : Sg), sgE F s = 0 → sgsGo F (some s) l = 0 → (∀ r ∈ l, B r.1.1.toNat) → ∃ t, Tot (128 - F.toNat) B (2 ^ 128) s.1.1.toNat t ∧ (covR F (s :: l)).length ≤ t
  | [], s, h1, h2, _ => by
    obtain ⟨k, k1, k2⟩ := covS_cn F s h1
    obtain ⟨s1, s2, s3, s4, s5⟩ := sgE_zero F s h1
    have hn : nextB F s.1.2 = false := by
      rw [sgsGo] at h2
      cases e : nextB F s.1.2 with
      | false => rfl
      | true => rw [if_pos (show moO F (some s) = true from e)] at h2; omega
    have e := mask_nat F hf
    rw [← next_none F s.1.2 s2 hn] at e
    rw [e] at k1
    refine ⟨k, .last _ _ s.1.1.isLt k1, ?_⟩
    simp only [covR, List.append_nil]
    exact k2
  | r :: l, s, h1, h2, hB => by
    obtain ⟨k, k1, k2⟩ := covS_cn F s h1
    obtain ⟨s1, s2, s3, s4, s5⟩ := sgE_zero F s h1
    obtain ⟨r1, r2, r3, r4, r5⟩ := sgsGo_cons F (some s) r l h2
    obtain ⟨t, t1, t2⟩ := segs_tot F hf B l r r1 r5 (fun q hq => hB q (List.mem_cons_of_mem _ hq))
    obtain ⟨n1, n2, n3, n4⟩ := next_nat F s.1.2 r2
    have e : r.1.1.toNat = s.1.2.toNat + 2 ^ (128 - F.toNat) := by rw [r3]; exact n1
    have hp := Nat.two_pow_pos (128 - F.toNat)
    refine ⟨k + t, .more _ r.1.1.toNat k t (by omega) r.1.1.isLt (hB r (by simp)) (by rw [e]; exact k1) t1, ?_⟩
    rw [covR, List.length_append]
    omega
/-- Where segments that say f part, there is an edge. -/
theorem segs_edge (F : Int) (f : BitVec 128 → Int) (E : List (BitVec 128)) (hR : ∀ e ∈ E, rightE F e = 0) (hF : Flat F E f) : ∀ (l : List Sg) (s : Sg), sgE F s = 0 → sgsGo F (some s) l = 0 → Says F f (s :: l) → ∀ r ∈ l, r.1.1 ∈ E
  | [], _, _, _, _, r, hr => by cases hr
  | r :: l, s, h1, h2, hS, q, hq => by
    obtain ⟨s1, s2, s3, s4, s5⟩ := sgE_zero F s h1
    obtain ⟨r1, r2, r3, r4, r5⟩ := sgsGo_cons F (some s) r l h2
    rcases List.mem_cons.mp hq with rfl | hq
    · apply Classical.byContradiction
      intro c
      obtain ⟨q1, q2, q3, q4, q5⟩ := sgE_zero F q r1
      have e : q.1.1 = nextV F s.1.2 := r3
      obtain ⟨n1, n2, n3, n4⟩ := next_nat F s.1.2 r2
      have hp := Nat.two_pow_pos (128 - F.toNat)
      have a := hF s.1.2 q.1.1 s2 q1 (fun z hz => ⟨fun g => by rw [e]; omega, fun g => by
        apply Classical.byContradiction
        intro g2
        obtain ⟨k1, k2, k3, k4⟩ := next_le F s.1.2 z s2 (hR z hz) (by omega)
        rw [← e] at k2
        exact c ((BitVec.eq_of_toNat_eq (show q.1.1.toNat = z.toNat by omega)) ▸ hz)⟩)
      have b1 := hS s (by simp) s.1.2 s2 s5 (Nat.le_refl _)
      have b2 := hS q (by simp) q.1.1 q1 (Nat.le_refl _) q5
      apply r4
      show some s.2 = some q.2
      rw [b1, b2, a]
    · exact segs_edge F f E hR hF l r r1 r5 (fun q hq => hS q (List.mem_cons_of_mem _ hq)) q hq
/-- A route's prefix, by its first number and its power. -/
def prN (r : Rte) : Nat × Nat := (r.1.1.toNat, 128 - r.1.2.toNat)
/-- The edges of routes. -/
def edgL (F : Int) : List Rte → List (BitVec 128)
  | [] => []
  | r :: l => r.1.1 :: (if nextB F (lastW F r.1.1 r.1.2) = true then nextV F (lastW F r.1.1 r.1.2) :: edgL F l else edgL F l)
theorem edgL_mem (F : Int) (hf : fam F = true) : ∀ (l : List Rte), (∀ r ∈ l, Ro F r) → ∀ e ∈ edgL F l, rightE F e = 0 ∧ EndOf (l.map prN) e.toNat
  | [], _, e, he => by cases he
  | r :: l, hL, e, he => by
    have ho := hL r (by simp)
    obtain ⟨f0, f1⟩ := fam_bd F hf
    have tail : e ∈ edgL F l → rightE F e = 0 ∧ EndOf ((r :: l).map prN) e.toNat := fun h => by
      obtain ⟨a, p, b, c⟩ := edgL_mem F hf l (fun q hq => hL q (List.mem_cons_of_mem _ hq)) e h
      exact ⟨a, p, List.mem_cons_of_mem _ b, c⟩
    have hrt : rightE F r.1.1 = 0 := by
      refine right_of F _ hf ?_
      have h0 := ho.1.1
      have h1 := ho.1.2.1
      rw [cut_dvd]
      exact Nat.dvd_trans (Nat.pow_dvd_pow 2 (by omega)) ((cut_dvd _ _).mp ho.1.2.2)
    have head : e = r.1.1 → rightE F e = 0 ∧ EndOf ((r :: l).map prN) e.toNat := fun h => by
      subst h
      exact ⟨hrt, prN r, by simp, .inl rfl⟩
    rw [edgL] at he
    rcases List.mem_cons.mp he with h | h
    · exact head h
    · split at h
      · rename_i hn
        rcases List.mem_cons.mp h with h | h
        · subst h
          obtain ⟨n1, n2, n3, n4⟩ := next_nat F _ hn
          refine ⟨right_of F _ hf n4, prN r, by simp, .inr ?_⟩
          rw [n1, last_nat F _ _ ho.1 f1]
          rfl
        · exact tail h
      · exact tail h
theorem edgL_ends (F : Int) : ∀ (l : List Rte), Ends F (edgL F l) l
  | [], r, hr => by cases hr
  | q :: l, r, hr => by
    rw [edgL]
    rcases List.mem_cons.mp hr with rfl | hr
    · refine ⟨by simp, fun h => ?_⟩
      rw [if_pos h]
      simp
    · obtain ⟨a, b⟩ := edgL_ends F l r hr
      have sub : ∀ x ∈ edgL F l, x ∈ q.1.1 :: (if nextB F (lastW F q.1.1 q.1.2) = true then nextV F (lastW F q.1.1 q.1.2) :: edgL F l else edgL F l) := fun x hx => by
        refine List.mem_cons_of_mem _ ?_
        split
        · exact List.mem_cons_of_mem _ hx
        · exact hx
      exact ⟨sub _ a, fun h => sub _ (b h)⟩
theorem Ends.sub {F : Int} {E E' : List (BitVec 128)} {l : List Rte} (h : Ends F E l) (hs : ∀ e ∈ E, e ∈ E') : Ends F E' l := fun r hr => ⟨hs _ (h r hr).1, fun q => hs _ ((h r hr).2 q)⟩
theorem edgL_part (F : Int) (l m : List Rte) (h : ∀ r ∈ l, r ∈ m) : Ends F (edgL F m) l := fun r hr => edgL_ends F m r (h r hr)
/-- Right segments that say f, where f goes by so many routes. -/
theorem cov_paths (F : Int) (hf : fam F = true) (f : BitVec 128 → Int) (rs : List Rte) (hL : ∀ r ∈ rs, Ro F r) (hF : Flat F (edgL F rs) f) (l : List Sg) (h1 : sgsGo F none l = 0) (h2 : Says F f l) : (covR F l).length ≤ 1 + pthS 128 rs.length := by
  cases l with
  | nil => simp [covR]
  | cons s l =>
    obtain ⟨s1, s2, s3, s4, s5⟩ := sgsGo_cons F none s l h1
    obtain ⟨f0, f1⟩ := fam_bd F hf
    have he := segs_edge F f (edgL F rs) (fun e q => (edgL_mem F hf rs hL e q).1) hF l s s1 s5 h2
    obtain ⟨t, t1, t2⟩ := segs_tot F hf (fun b => ∃ e ∈ edgL F rs, b = e.toNat) l s s1 s5 (fun r hr => ⟨_, he r hr, rfl⟩)
    have z : s.1.1.toNat = 0 := by rw [s3]; rfl
    rw [z] at t1
    have hu : 128 - F.toNat + F.toNat = 128 := by omega
    have := tot_most (128 - F.toNat) (fun b => ∃ e ∈ edgL F rs, b = e.toNat) (by
      rintro b ⟨e, e1, rfl⟩
      exact right_dvd F e (edgL_mem F hf rs hL e e1).1) F.toNat 0 t (rs.map prN) (by omega) (Nat.dvd_zero _) (by
      intro p hp
      obtain ⟨r, hr, rfl⟩ := List.mem_map.mp hp
      exact (cut_dvd _ _).mp (hL r hr).1.2.2) (by
      rintro b ⟨e, e1, rfl⟩ _ _
      exact (edgL_mem F hf rs hL e e1).2) (by rw [hu, Nat.zero_add]; exact t1)
    rw [List.length_map] at this
    have up : ∀ d k, pthS d rs.length ≤ pthS (d + k) rs.length := by
      intro d k
      induction k with
      | zero => exact Nat.le_refl _
      | succ k ih =>
        rw [show d + (k + 1) = (d + k) + 1 by omega, pthS]
        exact Nat.le_trans ih (Nat.le_add_right _ _)
    have := up F.toNat (128 - F.toNat)
    rw [show F.toNat + (128 - F.toNat) = 128 by omega] at this
    omega
/-- With no more than 9000 routes they fit into a table. -/
theorem cov_fits (F : Int) (hf : fam F = true) (f : BitVec 128 → Int) (rs : List Rte) (hL : ∀ r ∈ rs, Ro F r) (hF : Flat F (edgL F rs) f) (l : List Sg) (h1 : sgsGo F none l = 0) (h2 : Says F f l) (hn : rs.length ≤ 9000) : okL F l = true := by
  have a := cov_paths F hf f rs hL hF l h1 h2
  have b := pthS_mono _ _ hn 128
  have c := pthS_9000
  unfold okL
  exact decide_eq_true (by omega)
/-- The segments of one table. -/
theorem swp_fits (F : Int) (hf : fam F = true) (l : List Rte) (hL : ∀ q ∈ l, Ro F q) (hO : l.Pairwise (fun a b => pcmpZ a.1.1 a.1.2 b.1.1 b.1.2 < 0)) (hn : l.length ≤ 9000) : okL F (swp F l) = true := by
  obtain ⟨a, b⟩ := swp_right F hf l hL hO
  exact cov_fits F hf _ l hL (look_flat F hf _ l (edgL_ends F l) hL) _ a b hn
end Go.Proofs.YtonagfmkplbooaaGreatDoor
