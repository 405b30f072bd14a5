/-
  Part 9 of the proof: 3 texts, one behind the other.
-/
import Derived.Test.YtonagfmkplbooaaGreatDoorPart8
import Derived.Test.YtonagfmkplbooaaGreatDoorPart3
import Derived.Test.YtonagfmkplbooaaGreatDoorPart7
import Derived.Deep.AppendLies
import Derived.Test.YtonagfmkplbooaaGreatDoorPart5
/-
  Two lists of segments gone through at a time: the stretches that lie in one segment of each part all addresses.
-/
namespace Go.Proofs.YtonagfmkplbooaaGreatDoor
set_option linter.unusedSimpArgs false
set_option linter.unusedVariables false

/-- A stretch of addresses, and its next hops in both. -/
abbrev Str := (BitVec 128 × BitVec 128) × (Int × Int)
def comF (s t : Sg) : BitVec 128 := if cmpZ s.1.1 t.1.1 < 0 then t.1.1 else s.1.1
def comL (s t : Sg) : BitVec 128 := if cmpZ t.1.2 s.1.2 < 0 then t.1.2 else s.1.2
def al : List Sg → List Sg → List Str
  | [], _ => []
  | _ :: _, [] => []
  | s :: l, t :: m => ((comF s t, comL s t), (s.2, t.2)) :: (if t.1.2.toNat < s.1.2.toNat then al (s :: l) m else if s.1.2 = t.1.2 then al l m else al l (t :: m))
termination_by l m => l.length + m.length
decreasing_by all_goals (simp; try omega)
theorem com_ways (s t : Sg) : (t.1.2.toNat < s.1.2.toNat ∧ comL s t = t.1.2 ∧ ¬ s.1.2 = t.1.2) ∨ (s.1.2 = t.1.2 ∧ ¬ t.1.2.toNat < s.1.2.toNat ∧ comL s t = s.1.2) ∨ (s.1.2.toNat < t.1.2.toNat ∧ ¬ t.1.2.toNat < s.1.2.toNat ∧ comL s t = s.1.2 ∧ ¬ s.1.2 = t.1.2) := by
  unfold comL
  rcases cmpZ_ways t.1.2 s.1.2 with ⟨h, e⟩ | ⟨h, e⟩ | ⟨h, e⟩
  · left
    refine ⟨h, ?_, fun q => ?_⟩
    · rw [e]; rfl
    · rw [q] at h; omega
  · right; left
    refine ⟨h.symm, ?_, ?_⟩
    · rw [h]; omega
    · rw [e]; rfl
  · right; right
    refine ⟨h, by omega, ?_, fun q => ?_⟩
    · rw [e]; rfl
    · rw [q] at h; omega
theorem comF_ways (s t : Sg) : (s.1.1.toNat ≤ t.1.1.toNat ∧ comF s t = t.1.1) ∨ (t.1.1.toNat ≤ s.1.1.toNat ∧ comF s t = s.1.1) := by
  unfold comF
  rcases cmpZ_ways s.1.1 t.1.1 with ⟨h, e⟩ | ⟨h, e⟩ | ⟨h, e⟩
  · exact .inl ⟨by omega, by rw [e]; rfl⟩
  · exact .inr ⟨by rw [h]; omega, by rw [e]; rfl⟩
  · exact .inr ⟨by omega, by rw [e]; rfl⟩
def nxt (F : Int) (x : BitVec 128) : Option (BitVec 128) := if nextB F x = true then some (nextV F x) else none
/-- Stretches one behind the other, from an address on to the last one, with what two functions say there. -/
def Chn (F : Int) (f g : BitVec 128 → Int) : Option (BitVec 128) → List Str → Prop
  | none, [] => True
  | some c, e :: L => e.1.1 = c ∧ rightE F c = 0 ∧ rightE F e.1.2 = 0 ∧ c.toNat ≤ e.1.2.toNat ∧ (∀ x, rightE F x = 0 → c.toNat ≤ x.toNat → x.toNat ≤ e.1.2.toNat → e.2.1 = f x ∧ e.2.2 = g x) ∧ Chn F f g (nxt F e.1.2) L
  | none, _ :: _ => False
  | some _, [] => False
theorem go_nil (F : Int) (s : Sg) (h : sgsGo F (some s) [] = 0) : nextB F s.1.2 = false := by
  rw [sgsGo, moO] at h
  cases hb : nextB F s.1.2 with
  | false => rfl
  | true => rw [hb] at h; simp at h
theorem al_chn (F : Int) (f g : BitVec 128 → Int) : ∀ (n : Nat) (l m : List Sg) (s t : Sg) (c : BitVec 128), l.length + m.length ≤ n → sgE F s = 0 → sgE F t = 0 → sgsGo F (some s) l = 0 → sgsGo F (some t) m = 0 → Says F f (s :: l) → Says F g (t :: m) → comF s t = c → c.toNat ≤ s.1.2.toNat → c.toNat ≤ t.1.2.toNat → Chn F f g (some c) (al (s :: l) (t :: m)) := by
  intro n
  induction n with
  | zero =>
    intro l m s t c hn hs ht hl hm sf sg hc h1 h2
    have : l = [] := List.eq_nil_of_length_eq_zero (by omega)
    subst this
    have : m = [] := List.eq_nil_of_length_eq_zero (by omega)
    subst this
    obtain ⟨a1, a2, a3, a4, a5⟩ := sgE_zero F s hs
    obtain ⟨b1, b2, b3, b4, b5⟩ := sgE_zero F t ht
    have e1 := go_nil F s hl
    have e2 := go_nil F t hm
    have hcr : rightE F c = 0 := by
      rcases comF_ways s t with ⟨_, q⟩ | ⟨_, q⟩ <;> rw [← hc, q] <;> assumption
    have hcs : s.1.1.toNat ≤ c.toNat ∧ t.1.1.toNat ≤ c.toNat := by
      rcases comF_ways s t with ⟨k, q⟩ | ⟨k, q⟩ <;> rw [← hc, q] <;> omega
    have heq : s.1.2 = t.1.2 := by
      rcases com_ways s t with ⟨k, q, _⟩ | ⟨k, _, q⟩ | ⟨k, _, q, _⟩
      · have := (next_le F t.1.2 s.1.2 b2 a2 k).1
        rw [e2] at this; cases this
      · exact k
      · have := (next_le F s.1.2 t.1.2 a2 b2 k).1
        rw [e1] at this; cases this
    have hL : comL s t = s.1.2 := by
      rcases com_ways s t with ⟨k, q, r⟩ | ⟨k, _, q⟩ | ⟨k, _, q, _⟩
      · exact absurd heq r
      · exact q
      · exact q
    rw [al]
    refine ⟨hc, hcr, by rw [hL]; exact a2, by rw [hL]; exact h1, ?_, ?_⟩
    · intro x hx k1 k2
      rw [hL] at k2
      exact ⟨sf s (by simp) x hx (by omega) k2, sg t (by simp) x hx (by omega) (by rw [← heq]; exact k2)⟩
    · rw [hL]
      unfold nxt
      rw [e1, if_neg (by decide), if_neg (by rw [heq]; omega), if_pos heq, al]
      trivial
  | succ n ih =>
    intro l m s t c hn hs ht hl hm sf sg hc h1 h2
    obtain ⟨a1, a2, a3, a4, a5⟩ := sgE_zero F s hs
    obtain ⟨b1, b2, b3, b4, b5⟩ := sgE_zero F t ht
    have hcr : rightE F c = 0 := by
      rcases comF_ways s t with ⟨_, q⟩ | ⟨_, q⟩ <;> rw [← hc, q] <;> assumption
    have hcs : s.1.1.toNat ≤ c.toNat ∧ t.1.1.toNat ≤ c.toNat := by
      rcases comF_ways s t with ⟨k, q⟩ | ⟨k, q⟩ <;> rw [← hc, q] <;> omega
    have sf' : ∀ l', (∀ u ∈ l', u ∈ l) → Says F f l' := fun l' h u hu => sf u (List.mem_cons_of_mem _ (h u hu))
    have sg' : ∀ l', (∀ u ∈ l', u ∈ m) → Says F g l' := fun l' h u hu => sg u (List.mem_cons_of_mem _ (h u hu))
    rw [al]
    rcases com_ways s t with ⟨k, q, r⟩ | ⟨k, k', q⟩ | ⟨k, k', q, r⟩
    · refine ⟨hc, hcr, by rw [q]; exact b2, by rw [q]; exact h2, ?_, ?_⟩
      · intro x hx k1 k2
        rw [q] at k2
        replace k2 : x.toNat ≤ t.1.2.toNat := k2
        exact ⟨sf s (by simp) x hx (by omega) (by omega), sg t (by simp) x hx (by omega) k2⟩
      · rw [q, if_pos k]
        obtain ⟨n1, n2, n3, n4⟩ := next_le F t.1.2 s.1.2 b2 a2 k
        cases m with
        | nil => have := go_nil F t hm; rw [n1] at this; cases this
        | cons t' m =>
          obtain ⟨g1, g2, g3, g4, g5⟩ := sgsGo_cons F _ _ _ hm
          have g3 : t'.1.1 = nextV F t.1.2 := g3
          obtain ⟨d1, d2, d3, d4, d5⟩ := sgE_zero F t' g1
          unfold nxt
          rw [if_pos n1]
          refine ih l m s t' _ (by simp at hn; omega) hs g1 hl g5 sf (sg' _ (fun u hu => hu)) ?_ n2 (by rw [← g3]; exact d5)
          rcases comF_ways s t' with ⟨w1, w2⟩ | ⟨w1, w2⟩
          · rw [w2, g3]
          · rw [g3] at w1
            omega
    · refine ⟨hc, hcr, by rw [q]; exact a2, by rw [q]; exact h1, ?_, ?_⟩
      · intro x hx k1 k2
        rw [q] at k2
        replace k2 : x.toNat ≤ s.1.2.toNat := k2
        exact ⟨sf s (by simp) x hx (by omega) k2, sg t (by simp) x hx (by omega) (by rw [← k]; exact k2)⟩
      · rw [q, if_neg k', if_pos k]
        cases l with
        | nil =>
          have e1 := go_nil F s hl
          cases m with
          | nil => unfold nxt; rw [e1, if_neg (by decide), al]; trivial
          | cons t' m =>
            obtain ⟨g1, g2, g3, g4, g5⟩ := sgsGo_cons F _ _ _ hm
            have g2 : nextB F t.1.2 = true := g2
            rw [← k, e1] at g2
            cases g2
        | cons s' l =>
          obtain ⟨f1, f2, f3, f4, f5⟩ := sgsGo_cons F _ _ _ hl
          have f2 : nextB F s.1.2 = true := f2
          have f3 : s'.1.1 = nextV F s.1.2 := f3
          cases m with
          | nil => have := go_nil F t hm; rw [← k, f2] at this; cases this
          | cons t' m =>
            obtain ⟨g1, g2, g3, g4, g5⟩ := sgsGo_cons F _ _ _ hm
            have g3 : t'.1.1 = nextV F t.1.2 := g3
            obtain ⟨d1, d2, d3, d4, d5⟩ := sgE_zero F t' g1
            obtain ⟨c1, c2, c3, c4, c5⟩ := sgE_zero F s' f1
            unfold nxt
            rw [if_pos f2]
            refine ih l m s' t' _ (by simp at hn; omega) f1 g1 f5 g5 (sf' _ (fun u hu => hu)) (sg' _ (fun u hu => hu)) ?_ (by rw [← f3]; exact c5) (by rw [k, ← g3]; exact d5)
            rcases comF_ways s' t' with ⟨w1, w2⟩ | ⟨w1, w2⟩
            · rw [w2, g3, k]
            · rw [w2, f3]
    · refine ⟨hc, hcr, by rw [q]; exact a2, by rw [q]; exact h1, ?_, ?_⟩
      · intro x hx k1 k2
        rw [q] at k2
        replace k2 : x.toNat ≤ s.1.2.toNat := k2
        exact ⟨sf s (by simp) x hx (by omega) k2, sg t (by simp) x hx (by omega) (by omega)⟩
      · rw [q, if_neg k', if_neg r]
        obtain ⟨n1, n2, n3, n4⟩ := next_le F s.1.2 t.1.2 a2 b2 k
        cases l with
        | nil => have := go_nil F s hl; rw [n1] at this; cases this
        | cons s' l =>
          obtain ⟨g1, g2, g3, g4, g5⟩ := sgsGo_cons F _ _ _ hl
          have g3 : s'.1.1 = nextV F s.1.2 := g3
          obtain ⟨d1, d2, d3, d4, d5⟩ := sgE_zero F s' g1
          unfold nxt
          rw [if_pos n1]
          refine ih l m s' t _ (by simp at hn; omega) g1 ht g5 hm (sf' _ (fun u hu => hu)) sg ?_ (by rw [← g3]; exact d5) n2
          rcases comF_ways s' t with ⟨w1, w2⟩ | ⟨w1, w2⟩
          · rw [g3] at w1
            omega
          · rw [w2, g3]
/-- Two whole right lists. -/
theorem al_all (F : Int) (f g : BitVec 128 → Int) (l m : List Sg) (hl : sgsGo F none l = 0) (hm : sgsGo F none m = 0) (sf : Says F f l) (sg : Says F g m) : Chn F f g (some 0#128) (al l m) := by
  cases l with
  | nil => rw [sgsGo, moO] at hl; simp at hl
  | cons s l =>
    cases m with
    | nil => rw [sgsGo, moO] at hm; simp at hm
    | cons t m =>
      obtain ⟨f1, f2, f3, f4, f5⟩ := sgsGo_cons F _ _ _ hl
      obtain ⟨g1, g2, g3, g4, g5⟩ := sgsGo_cons F _ _ _ hm
      have f3 : s.1.1 = 0#128 := f3
      have g3 : t.1.1 = 0#128 := g3
      refine al_chn F f g _ l m s t _ (Nat.le_refl _) f1 g1 f5 g5 sf sg ?_ (by simp) (by simp)
      rcases comF_ways s t with ⟨_, w⟩ | ⟨_, w⟩
      · rw [w, g3]
      · rw [w, f3]
/-- The first address that two functions don't lead alike. -/
def Unl (F : Int) (f g : BitVec 128 → Int) : Option (BitVec 128) → Prop
  | some a => rightE F a = 0 ∧ f a ≠ g a ∧ ∀ z, rightE F z = 0 → z.toNat < a.toNat → f z = g z
  | none => ∀ z, rightE F z = 0 → f z = g z
theorem unl_one (F : Int) (f g : BitVec 128 → Int) (a b : Option (BitVec 128)) (ha : Unl F f g a) (hb : Unl F f g b) : a = b := by
  cases a with
  | none =>
    cases b with
    | none => rfl
    | some b => exact absurd (ha b hb.1) hb.2.1
  | some a =>
    cases b with
    | none => exact absurd (hb a ha.1) ha.2.1
    | some b =>
      congr 1
      apply BitVec.eq_of_toNat_eq
      apply Decidable.byContradiction
      intro q
      by_cases h : a.toNat < b.toNat
      · exact ha.2.1 (hb.2.2 a ha.1 h)
      · exact hb.2.1 (ha.2.2 b hb.1 (by omega))
def frs (L : List Str) : Option (BitVec 128) := (L.find? (fun e => e.2.1 != e.2.2)).map (·.1.1)
theorem chn_unl (F : Int) (f g : BitVec 128 → Int) : ∀ (L : List Str) (c : BitVec 128), Chn F f g (some c) L → (∀ z, rightE F z = 0 → z.toNat < c.toNat → f z = g z) → Unl F f g (frs L)
  | [], c, h, _ => h.elim
  | e :: L, c, h, hz => by
    obtain ⟨h1, h2, h3, h4, h5, h6⟩ := h
    unfold frs
    rw [List.find?_cons]
    cases hb : (e.2.1 != e.2.2) with
    | true =>
      simp only [Option.map_some]
      have hb : e.2.1 ≠ e.2.2 := by simpa using hb
      obtain ⟨k1, k2⟩ := h5 c h2 (Nat.le_refl _) h4
      refine ⟨by rw [h1]; exact h2, ?_, ?_⟩
      · rw [h1, ← k1, ← k2]; exact hb
      · intro z hz1 hz2
        rw [h1] at hz2
        exact hz z hz1 hz2
    | false =>
      have hb : e.2.1 = e.2.2 := by simpa using hb
      have hz' : ∀ z, rightE F z = 0 → z.toNat ≤ e.1.2.toNat → f z = g z := by
        intro z hz1 hz2
        by_cases q : z.toNat < c.toNat
        · exact hz z hz1 q
        · obtain ⟨k1, k2⟩ := h5 z hz1 (by omega) hz2
          rw [← k1, ← k2]; exact hb
      simp only
      unfold nxt at h6
      by_cases hn : nextB F e.1.2 = true
      · rw [if_pos hn] at h6
        refine chn_unl F f g L _ h6 ?_
        intro z hz1 hz2
        refine hz' z hz1 ?_
        apply Decidable.byContradiction
        intro q
        have := (next_le F e.1.2 z h3 hz1 (by omega)).2.1
        omega
      · rw [if_neg hn] at h6
        cases L with
        | nil =>
          intro z hz1
          refine hz' z hz1 ?_
          apply Decidable.byContradiction
          intro q
          exact hn (next_le F e.1.2 z h3 hz1 (by omega)).1
        | cons _ _ => exact h6.elim
theorem greatest (z : BitVec 128) : ∀ (R : List (BitVec 128)), (∃ d ∈ R, d.toNat ≤ z.toNat) → ∃ e ∈ R, e.toNat ≤ z.toNat ∧ ∀ q ∈ R, q.toNat ≤ z.toNat → q.toNat ≤ e.toNat := by
  intro R
  induction R with
  | nil => rintro ⟨d, h, _⟩; cases h
  | cons r R ihR =>
    rintro ⟨d, h1, h2⟩
    by_cases hR' : ∃ d ∈ R, d.toNat ≤ z.toNat
    · obtain ⟨e, e1, e2, e3⟩ := ihR hR'
      by_cases hrz : r.toNat ≤ z.toNat ∧ e.toNat < r.toNat
      · refine ⟨r, by simp, hrz.1, ?_⟩
        intro x hx hxz
        rcases List.mem_cons.mp hx with rfl | hx
        · exact Nat.le_refl _
        · have := e3 x hx hxz; omega
      · refine ⟨e, List.mem_cons_of_mem _ e1, e2, ?_⟩
        intro x hx hxz
        rcases List.mem_cons.mp hx with rfl | hx
        · omega
        · exact e3 x hx hxz
    · have : d = r := by
        rcases List.mem_cons.mp h1 with q | q
        · exact q
        · exact absurd ⟨d, q, h2⟩ hR'
      subst this
      refine ⟨d, by simp, h2, ?_⟩
      intro x hx hxz
      rcases List.mem_cons.mp hx with rfl | hx
      · exact Nat.le_refl _
      · exact absurd ⟨x, hx, hxz⟩ hR'
/-- The first edge at which two functions say otherwise. -/
theorem edge_unl (F : Int) (f g : BitVec 128 → Int) (E : List (BitVec 128)) (hS : Asc E) (h0 : 0#128 ∈ E) (hR : ∀ e ∈ E, rightE F e = 0) (hf : Flat F E f) (hg : Flat F E g) : Unl F f g (E.find? (fun e => f e != g e)) := by
  have key : ∀ (P L : List (BitVec 128)), E = P ++ L → (∀ p ∈ P, f p = g p) → Unl F f g (L.find? (fun e => f e != g e)) := by
    intro P L
    induction L generalizing P with
    | nil =>
      intro hE hP z hz
      obtain ⟨e, e1, e2, e3⟩ := greatest z E ⟨0#128, h0, by simp⟩
      have hA : Alk E e z := fun y hy => ⟨fun q => by omega, fun q => e3 y hy q⟩
      rw [← hf e z (hR e e1) hz hA, ← hg e z (hR e e1) hz hA]
      rw [List.append_nil] at hE
      rw [hE] at e1
      exact hP e e1
    | cons a L ih =>
      intro hE hP
      rw [List.find?_cons]
      cases hb : (f a != g a) with
      | true =>
        have hb : f a ≠ g a := by simpa using hb
        refine ⟨hR a (by rw [hE]; simp), hb, ?_⟩
        intro z hz hza
        have hS' : Asc (P ++ a :: L) := by rw [← hE]; exact hS
        obtain ⟨s1, s2, s3⟩ := List.pairwise_append.mp hS'
        have h0P : 0#128 ∈ P := by
          rw [hE] at h0
          rcases List.mem_append.mp h0 with q | q
          · exact q
          · exfalso
            have : a.toNat = 0 := by
              rcases List.mem_cons.mp q with q | q
              · rw [← q]; rfl
              · have := (List.pairwise_cons.mp s2).1 _ q
                simp at this
            omega
        obtain ⟨e, e1, e2, e3⟩ := greatest z P ⟨0#128, h0P, by simp⟩
        have eE : e ∈ E := by rw [hE]; exact List.mem_append_left _ e1
        have hA : Alk E e z := by
          intro y hy
          refine ⟨fun q => by omega, fun q => ?_⟩
          rw [hE] at hy
          rcases List.mem_append.mp hy with hy | hy
          · exact e3 y hy q
          · exfalso
            rcases List.mem_cons.mp hy with rfl | hy
            · omega
            · have := (List.pairwise_cons.mp s2).1 _ hy
              omega
        rw [← hf e z (hR e eE) hz hA, ← hg e z (hR e eE) hz hA]
        exact hP e e1
      | false =>
        have hb : f a = g a := by simpa using hb
        refine ih (P ++ [a]) (by rw [hE]; simp) ?_
        intro p hp
        rcases List.mem_append.mp hp with q | q
        · exact hP p q
        · simp at q; rw [q]; exact hb
  exact key [] E rfl (fun p hp => by cases hp)
end Go.Proofs.YtonagfmkplbooaaGreatDoor
/-
  What lies in one block of memory goes by that block alone.
-/
namespace Go.Proofs.YtonagfmkplbooaaGreatDoor
open Go.RowKit
set_option linter.unusedSimpArgs false
set_option linter.unusedVariables false

theorem cellH {W W' : World} {B : Nat} (e : W'.heap[B]? = W.heap[B]?) (o : Nat) : W'.cell? ⟨B, o, none⟩ = W.cell? ⟨B, o, none⟩ := World.cell?_of_block (w := W) (a := ⟨B, o, none⟩) e
theorem frozH {W W' : World} {B : Nat} (e : W'.heap[B]? = W.heap[B]?) (o : Nat) : W'.frozen? ⟨B, o, none⟩ = W.frozen? ⟨B, o, none⟩ := World.frozen?_of_block (w := W) (a := ⟨B, o, none⟩) e
theorem AtG.heap {W W' : World} {B : Nat} {x y : BitVec 128} {h : Int} (k : AtG W B x y h) (e : W'.heap[B]? = W.heap[B]?) : AtG W' B x y h := by
  unfold AtG at *
  simpa only [cellH e, frozH e] using k
theorem At.heap {W W' : World} {B : Nat} {x : BitVec 128} (k : At W B x) (e : W'.heap[B]? = W.heap[B]?) (hs : W.heap.size ≤ W'.heap.size) : At W' B x := by
  unfold At at *
  simp only [cellH e, frozH e]
  exact ⟨k.1, k.2.1, k.2.2.1, k.2.2.2.1, by omega⟩
theorem AtR.heap {W W' : World} {B : Nat} {x : BitVec 128} {n h : Int} (k : AtR W B x n h) (e : W'.heap[B]? = W.heap[B]?) : AtR W' B x n h := by
  unfold AtR at *
  simpa only [cellH e] using k
/-- A table in memory, which may be written. -/
def AtU (W : World) (B : Nat) (F : Int) (v : Value) : Prop := W.cell? ⟨B, 0, none⟩ = some (.int .i64 F) ∧ W.cell? ⟨B, 1, none⟩ = some v ∧ W.frozen? ⟨B, 0, none⟩ = false ∧ W.frozen? ⟨B, 1, none⟩ = false
theorem AtU.heap {W W' : World} {B : Nat} {F : Int} {v : Value} (k : AtU W B F v) (e : W'.heap[B]? = W.heap[B]?) : AtU W' B F v := by
  unfold AtU at *
  simpa only [cellH e, frozH e] using k
theorem AtU.lt {W : World} {B : Nat} {F : Int} {v : Value} (k : AtU W B F v) : B < W.heap.size := cell_in k.1
theorem AtU.set1 {W : World} {B : Nat} {F : Int} {v : Value} (k : AtU W B F v) (u : Value) : AtU (W.setCell ⟨B, 1, none⟩ u) B F u := by
  obtain ⟨a, b, c, d⟩ := k
  refine ⟨?_, ?_, ?_, ?_⟩ <;> simp [go_sem, *]
theorem AtU.set2 {W : World} {B : Nat} {F : Int} {v : Value} (k : AtU W B F v) (G : Int) (u : Value) : AtU ((W.setCell ⟨B, 0, none⟩ (.int .i64 G)).setCell ⟨B, 1, none⟩ u) B G u := by
  obtain ⟨a, b, c, d⟩ := k
  refine ⟨?_, ?_, ?_, ?_⟩ <;> simp [go_sem, *]
theorem atu_new (W : World) (B : Nat) (F : Int) (v : Value) (T : TypeId) (e : B = W.heap.size) : AtU (W.alloc (.cells #[.int .i64 F, v] T)) B F v := by
  subst e
  refine ⟨?_, ?_, ?_, ?_⟩ <;> simp [go_sem]
theorem own_heap {W W' : World} {base e size n : Nat} {v : Value} {xs : List Value} (h : W.ownsRow base e size v n xs) (he : ∀ g, v.ownBlock = some g → W'.heap[g]? = W.heap[g]?) : W'.ownsRow base e size v n xs := by
  refine ⟨h.1, ?_⟩
  rcases h.2 with hn | ⟨g, cap, cur, rfl, hb, hg, rest⟩
  · exact .inl hn
  · exact .inr ⟨g, cap, cur, rfl, hb, by rw [he g rfl]; exact hg, rest⟩
theorem hAl {W : World} (o : Obj) {k : Nat} (h : k < W.heap.size) : (W.alloc o).heap[k]? = W.heap[k]? := Below.heap_alloc W o k h
theorem hSet {W : World} {b o : Nat} (u : Value) {k : Nat} (h : ¬ k = b) : (W.setCell ⟨b, o, none⟩ u).heap[k]? = W.heap[k]? := Below.heap_setCell W ⟨b, o, none⟩ u k h
theorem own_lt {W : World} {base e size n : Nat} {v : Value} {xs : List Value} (h : W.ownsRow base e size v n xs) {g : Nat} (e : v.ownBlock = some g) : base ≤ g ∧ g < W.heap.size := h.lt g e
theorem own_wide {w : World} {base base' e size n : Nat} {v : Value} {xs : List Value} (h : w.ownsRow base e size v n xs) (hb : base' ≤ base) : w.ownsRow base' e size v n xs := by
  refine ⟨h.1, ?_⟩
  rcases h.2 with hn | ⟨g, cap, cur, hv, h1, h2⟩
  · exact .inl hn
  · exact .inr ⟨g, cap, cur, hv, by omega, h2⟩
end Go.Proofs.YtonagfmkplbooaaGreatDoor
/-
  The walk of Qt under a cover that no reckoning opens: for regions in which operations are passed over.
-/
namespace Go.Proofs.YtonagfmkplbooaaGreatDoor
open Go.RowKit
set_option linter.unusedSimpArgs false
set_option linter.unusedVariables false

structure QW (P : Program) (ops : Array Oper) (C : World → Prop) (Q : Act → Prop) (l : List Oper) (a : Act) : Prop where
  out : wpQuiet P ops C Q l a
theorem qw_run {P : Program} {ops : Array Oper} {C : World → Prop} {Q : Act → Prop} {a : Act} {o : Oper} {rest : List Oper} {v : Value}
    (hw : Region.wanted o (yielded ops a.tmps) = true) (h : ∀ w, C w → (execOp a.eval o).run P w = .ok (.value v) w) (k : QW P ops C Q rest (a.put o.dst v)) : QW P ops C Q (o :: rest) a := ⟨q_run hw h k.out⟩
theorem qw_skip {P : Program} {ops : Array Oper} {C : World → Prop} {Q : Act → Prop} {a : Act} {o : Oper} {rest : List Oper}
    (hw : Region.wanted o (yielded ops a.tmps) = false) (k : QW P ops C Q rest (a.put o.dst undef)) : QW P ops C Q (o :: rest) a := ⟨q_skip hw k.out⟩
theorem qw_call {P : Program} {ops : Array Oper} {C : World → Prop} {Q : Act → Prop} {a : Act} {o : Oper} {rest : List Oper} {v : Value} {f : FuncId} {args : Array Value}
    (hw : Region.wanted o (yielded ops a.tmps) = true) (h : ∀ w, C w → (execOp a.eval o).run P w = .ok (.enter f args) w) (hc : ∀ w, C w → Calls P f args w fun e w' => e = .returned v ∧ C w') (k : QW P ops C Q rest (a.put o.dst v)) : QW P ops C Q (o :: rest) a := ⟨q_call hw h hc k.out⟩
theorem qw_nil {P : Program} {ops : Array Oper} {C : World → Prop} {Q : Act → Prop} {a : Act} (h : Q a) : QW P ops C Q [] a := ⟨wpQuiet_nil h⟩
theorem qw_region {P : Program} {C : World → Prop} {id : Nat} {Q : Exit → Act → World → Prop} {a : Act} {w : World} {l : List Oper} (hm : P.follows .mixedOrders = true) (hB : Region.lexB .any l.toArray = true) (hC : C w.drew)
    (h : QW P l.toArray C (fun a' => ∀ w', C w' → Q .normal a' w') l a) : (Code.region id l.toArray true).wp P Q a w := q_region hm hB hC h.out
end Go.Proofs.YtonagfmkplbooaaGreatDoor
