/-
  Part 21 of the proof: 1 texts, one behind the other.
-/
import Derived.Test.YtkgfeegcdohkdaaDoorPart19
/-
  Rows are one list: what the document's Rows makes is what the program's makes: plain facts.
-/
namespace Go.Proofs.YtkgfeegcdohkdaaDoor
set_option linter.unusedSimpArgs false
set_option linter.unusedVariables false

/-- A gap lies between two segments. -/
def Gp (F : Int) (a b : BitVec 128 × BitVec 128) : Prop := a.2.toNat + 2 ^ (128 - F.toNat) < b.1.toNat
/-- A segment of a family. -/
def Ok (F : Int) (s : BitVec 128 × BitVec 128) : Prop := s.1.toNat ≤ s.2.toNat ∧ cutW s.1 F = s.1 ∧ cutW s.2 F = s.2
theorem al_next {F : Int} {a b : BitVec 128} (ha : cutW a F = a) (hb : cutW b F = b) (h : a.toNat < b.toNat) : a.toNat + 2 ^ (128 - F.toNat) ≤ b.toNat := by
  obtain ⟨i, hi⟩ := fam_dvd F a ha
  obtain ⟨j, hj⟩ := fam_dvd F b hb
  rw [hi, hj] at h ⊢
  have h1 : i < j := Nat.lt_of_mul_lt_mul_left h
  have h2 := Nat.mul_le_mul_left (2 ^ (128 - F.toNat)) (show i + 1 ≤ j from h1)
  rw [Nat.mul_add, Nat.mul_one] at h2
  exact h2
theorem rows_unique {F : Int} : ∀ (R Q : List (BitVec 128 × BitVec 128)), (∀ s ∈ R, Ok F s) → R.Pairwise (Gp F) → (∀ s ∈ Q, Ok F s) → Q.Pairwise (Gp F) → (∀ d, cutW d F = d → ((∃ s ∈ R, Ss s d) ↔ ∃ s ∈ Q, Ss s d)) → R = Q := by
  intro R
  have pos := Nat.two_pow_pos (128 - F.toNat)
  induction R with
  | nil =>
    intro Q _ _ hq _ h
    cases Q with
    | nil => rfl
    | cons q Q =>
      have o := hq q (List.mem_cons_self ..)
      obtain ⟨s, hs, -⟩ := (h q.1 o.2.1).mpr ⟨q, List.mem_cons_self .., ⟨Nat.le_refl _, o.1⟩⟩
      cases hs
  | cons r R ih =>
    intro Q hr hrp hq hqp h
    have or := hr r (List.mem_cons_self ..)
    cases Q with
    | nil =>
      obtain ⟨s, hs, -⟩ := (h r.1 or.2.1).mp ⟨r, List.mem_cons_self .., ⟨Nat.le_refl _, or.1⟩⟩
      cases hs
    | cons q Q =>
      have oq := hq q (List.mem_cons_self ..)
      have hrp' := List.pairwise_cons.mp hrp
      have hqp' := List.pairwise_cons.mp hqp
      have firstQ : ∀ s ∈ q :: Q, q.1.toNat ≤ s.1.toNat := fun s hs => by
        rcases List.mem_cons.mp hs with rfl | hs
        · exact Nat.le_refl _
        · have g : q.2.toNat + 2 ^ (128 - F.toNat) < s.1.toNat := hqp'.1 s hs
          have := oq.1
          omega
      have firstR : ∀ s ∈ r :: R, r.1.toNat ≤ s.1.toNat := fun s hs => by
        rcases List.mem_cons.mp hs with rfl | hs
        · exact Nat.le_refl _
        · have g : r.2.toNat + 2 ^ (128 - F.toNat) < s.1.toNat := hrp'.1 s hs
          have := or.1
          omega
      have e1 : r.1.toNat = q.1.toNat := by
        obtain ⟨s, hs, c⟩ := (h r.1 or.2.1).mp ⟨r, List.mem_cons_self .., ⟨Nat.le_refl _, or.1⟩⟩
        obtain ⟨t, ht, c'⟩ := (h q.1 oq.2.1).mpr ⟨q, List.mem_cons_self .., ⟨Nat.le_refl _, oq.1⟩⟩
        have a1 := firstQ s hs
        have a2 := firstR t ht
        have b1 := c.1
        have b2 := c'.1
        omega
      have step : ∀ (x y : BitVec 128 × BitVec 128) (X Y : List (BitVec 128 × BitVec 128)), Ok F x → Ok F y → x.1.toNat = y.1.toNat → (∀ s ∈ X, Gp F x s) → (∀ d, cutW d F = d → (∃ s ∈ y :: Y, Ss s d) → ∃ s ∈ x :: X, Ss s d) → ¬ x.2.toNat < y.2.toNat := by
        intro x y X Y ox oy exy hg hc hlt
        have nx := al_next ox.2.2 oy.2.2 hlt
        have hb := y.2.isLt
        have dn : (BitVec.ofNat 128 (x.2.toNat + 2 ^ (128 - F.toNat))).toNat = x.2.toNat + 2 ^ (128 - F.toNat) := by
          rw [BitVec.toNat_ofNat]
          exact Nat.mod_eq_of_lt (by omega)
        have da : cutW (BitVec.ofNat 128 (x.2.toNat + 2 ^ (128 - F.toNat))) F = BitVec.ofNat 128 (x.2.toNat + 2 ^ (128 - F.toNat)) := by
          rw [cut_dvd, dn]
          exact Nat.dvd_add (fam_dvd F x.2 ox.2.2) (Nat.dvd_refl _)
        obtain ⟨s, hs, c1, c2⟩ := hc _ da ⟨y, List.mem_cons_self .., ⟨by rw [dn]; have := ox.1; omega, by rw [dn]; exact nx⟩⟩
        rw [dn] at c1 c2
        rcases List.mem_cons.mp hs with rfl | hs
        · omega
        · have g : x.2.toNat + 2 ^ (128 - F.toNat) < s.1.toNat := hg s hs
          omega
      have e2 : r.2.toNat = q.2.toNat := by
        have a := step r q R Q or oq e1 hrp'.1 (fun d hd => (h d hd).mpr)
        have b := step q r Q R oq or e1.symm hqp'.1 (fun d hd => (h d hd).mp)
        omega
      have e : r = q := Prod.ext (BitVec.eq_of_toNat_eq e1) (BitVec.eq_of_toNat_eq e2)
      subst e
      have tail : ∀ (X Y : List (BitVec 128 × BitVec 128)), (∀ s ∈ X, Gp F r s) → (∀ d, cutW d F = d → (∃ s ∈ r :: X, Ss s d) → ∃ s ∈ r :: Y, Ss s d) → ∀ d, cutW d F = d → (∃ s ∈ X, Ss s d) → ∃ s ∈ Y, Ss s d := by
        rintro X Y hg hc d hd ⟨s, hs, c⟩
        obtain ⟨t, ht, c'⟩ := hc d hd ⟨s, List.mem_cons_of_mem _ hs, c⟩
        rcases List.mem_cons.mp ht with rfl | ht
        · have g : t.2.toNat + 2 ^ (128 - F.toNat) < s.1.toNat := hg s hs
          have a1 := c.1
          have a2 := c'.2
          omega
        · exact ⟨t, ht, c'⟩
      rw [ih Q (fun s hs => hr s (List.mem_cons_of_mem _ hs)) hrp'.2 (fun s hs => hq s (List.mem_cons_of_mem _ hs)) hqp'.2 (fun d hd => ⟨tail R Q hrp'.1 (fun d hd => (h d hd).mp) d hd, tail Q R hqp'.1 (fun d hd => (h d hd).mpr) d hd⟩)]
theorem not_last {F : Int} {a b : BitVec 128} (hf : fam F = true) (ha : cutW a F = a) (hb : cutW b F = b) (h : a.toNat < b.toNat) : nextB F a = true ∧ (nextV F a).toNat = a.toNat + 2 ^ (128 - F.toNat) := by
  have nb : nextB F a = true := by
    cases e : nextB F a with
    | true => rfl
    | false =>
      have e2 := next_none F a (right_of F a hf ha) e
      have : b.toNat ≤ (maskW F).toNat := by
        rw [← hb]
        unfold cutW
        rw [BitVec.toNat_and]
        exact Nat.and_le_right
      rw [e2] at h
      omega
  exact ⟨nb, (next_nat F a nb).1⟩
theorem psIn_good {F : Int} (hf : fam F = true) : ∀ (st : List (BitVec 128 × BitVec 128)) (p : BitVec 128 × BitVec 128), (∀ a ∈ st, Ok F a) → Ok F p → st.Pairwise (fun x y => Gp F y x) → (∀ a ∈ st, a.2.toNat < p.1.toNat) → (∀ a ∈ psIn F st p, Ok F a) ∧ (psIn F st p).Pairwise (fun x y => Gp F y x) ∧ ∀ a ∈ psIn F st p, a.2.toNat ≤ p.2.toNat := by
  intro st
  have pos := Nat.two_pow_pos (128 - F.toNat)
  induction st with
  | nil =>
    intro p _ hp _ _
    refine ⟨?_, by simp [psIn], ?_⟩
    · intro a ha; simp [psIn] at ha; rw [ha]; exact hp
    · intro a ha; simp [psIn] at ha; rw [ha]; exact Nat.le_refl _
  | cons a st ih =>
    intro p hs hp hpw hlt
    have ha := hs a (List.mem_cons_self ..)
    have hs' := fun b hb => hs b (List.mem_cons_of_mem a hb)
    have hpw' := List.pairwise_cons.mp hpw
    have la := hlt a (List.mem_cons_self ..)
    obtain ⟨n1, n2⟩ := not_last hf ha.2.2 hp.2.1 la
    cases e : besV F a p with
    | none =>
      rw [psIn_none e]
      have gap : Gp F a p := by
        unfold besV at e
        split at e
        · cases e
        · rename_i c
          have nx := al_next ha.2.2 hp.2.1 la
          have : ¬ (nextV F a.2).toNat = p.1.toNat := fun h => c ⟨n1, BitVec.eq_of_toNat_eq h⟩
          show a.2.toNat + 2 ^ (128 - F.toNat) < p.1.toNat
          omega
      refine ⟨?_, List.pairwise_cons.mpr ⟨?_, hpw⟩, ?_⟩
      · intro b hb
        rcases List.mem_cons.mp hb with rfl | hb
        · exact hp
        · exact hs b hb
      · intro b hb
        rcases List.mem_cons.mp hb with rfl | hb
        · exact gap
        · have g : b.2.toNat + 2 ^ (128 - F.toNat) < a.1.toNat := hpw'.1 b hb
          have := ha.1
          show b.2.toNat + 2 ^ (128 - F.toNat) < p.1.toNat
          omega
      · intro b hb
        rcases List.mem_cons.mp hb with rfl | hb
        · exact Nat.le_refl _
        · have := hlt b hb
          have := hp.1
          omega
    | some r =>
      rw [psIn_some e]
      unfold besV at e
      split at e
      · cases e
        have hr : Ok F (a.1, p.2) := ⟨by show a.1.toNat ≤ p.2.toNat; have := ha.1; have := hp.1; omega, ha.2.1, hp.2.2⟩
        exact ih (a.1, p.2) hs' hr hpw'.2 (fun b hb => by
          have g : b.2.toNat + 2 ^ (128 - F.toNat) < a.1.toNat := hpw'.1 b hb
          show b.2.toNat < a.1.toNat
          omega)
      · cases e
theorem psAll_good {F : Int} (hf : fam F = true) : ∀ (m : List (BitVec 128 × Int)) (st : List (BitVec 128 × BitVec 128)), (∀ a ∈ st, Ok F a) → st.Pairwise (fun x y => Gp F y x) → (∀ p ∈ m, Rp F p) → m.Pairwise Bf → (∀ a ∈ st, ∀ p ∈ m, a.2.toNat < p.1.toNat) → (∀ a ∈ psAll F st (segL F m), Ok F a) ∧ (psAll F st (segL F m)).Pairwise (fun x y => Gp F y x) := by
  intro m
  have hF := (fam_bd F hf).2
  induction m with
  | nil => intro st h1 h2 _ _ _; exact ⟨h1, h2⟩
  | cons p m ih =>
    intro st h1 h2 hr hb hlt
    have hp := hr p (List.mem_cons_self ..)
    have hb' := List.pairwise_cons.mp hb
    have op : Ok F (p.1, lastW F p.1 p.2) := ⟨rp_le hp, rt_fam F p.1 p.2 hp, last_fam F p.1 p.2 hp⟩
    obtain ⟨g1, g2, g3⟩ := psIn_good hf st (p.1, lastW F p.1 p.2) h1 op h2 (fun a ha => hlt a ha p (List.mem_cons_self ..))
    refine ih _ g1 g2 (fun q hq => hr q (List.mem_cons_of_mem _ hq)) hb'.2 ?_
    intro a ha q hq
    have a1 : a.2.toNat ≤ (lastW F p.1 p.2).toNat := g3 a ha
    have b1 : p.1.toNat + 2 ^ (128 - p.2.toNat) ≤ q.1.toNat := hb'.1 q hq
    have l1 := last_nat F p.1 p.2 hp hF
    have pos := Nat.two_pow_pos (128 - F.toNat)
    omega
/-- How the document puts one more to its rows (the last one first). -/
def rrIn (F : Int) : List (BitVec 128 × BitVec 128) → BitVec 128 × BitVec 128 → List (BitVec 128 × BitVec 128)
  | [], s => [s]
  | a :: st, s => if nextB F a.2 = false ∨ cmpZ s.1 (nextV F a.2) ≤ 0 then (if 0 < cmpZ s.2 a.2 then (a.1, s.2) :: st else a :: st) else s :: a :: st
def rrAll (F : Int) (st : List (BitVec 128 × BitVec 128)) : List (BitVec 128 × BitVec 128) → List (BitVec 128 × BitVec 128)
  | [] => st
  | s :: l => rrAll F (rrIn F st s) l
theorem rrIn_good {F : Int} (hf : fam F = true) (st : List (BitVec 128 × BitVec 128)) (s : BitVec 128 × BitVec 128) (h1 : ∀ a ∈ st, Ok F a) (hs : Ok F s) (h2 : st.Pairwise (fun x y => Gp F y x)) (h3 : ∀ a ∈ st, a.1.toNat ≤ s.1.toNat) :
    (∀ a ∈ rrIn F st s, Ok F a) ∧ (rrIn F st s).Pairwise (fun x y => Gp F y x) ∧ (∀ a ∈ rrIn F st s, a.1.toNat ≤ s.1.toNat) ∧ ∀ d, cutW d F = d → ((∃ q ∈ rrIn F st s, Ss q d) ↔ (∃ q ∈ st, Ss q d) ∨ Ss s d) := by
  have pos := Nat.two_pow_pos (128 - F.toNat)
  cases st with
  | nil =>
    refine ⟨?_, by simp [rrIn], ?_, ?_⟩
    · intro a ha; simp [rrIn] at ha; rw [ha]; exact hs
    · intro a ha; simp [rrIn] at ha; rw [ha]; exact Nat.le_refl _
    · intro d hd; simp [rrIn]
  | cons a st =>
    have ha := h1 a (List.mem_cons_self ..)
    have h1' := fun b hb => h1 b (List.mem_cons_of_mem a hb)
    have h2' := List.pairwise_cons.mp h2
    have la := h3 a (List.mem_cons_self ..)
    by_cases c : nextB F a.2 = false ∨ cmpZ s.1 (nextV F a.2) ≤ 0
    · have near : s.1.toNat ≤ a.2.toNat + 2 ^ (128 - F.toNat) ∨ s.2.toNat ≤ a.2.toNat := by
        rcases Nat.lt_or_ge a.2.toNat s.2.toNat with q | q
        · obtain ⟨n1, n2⟩ := not_last hf ha.2.2 hs.2.2 q
          rcases c with c | c
          · rw [c] at n1; cases n1
          · rw [cmp_le, n2] at c
            exact .inl c
        · exact .inr q
      by_cases g : 0 < cmpZ s.2 a.2
      · have gl : a.2.toNat < s.2.toNat := by
          rcases cmpZ_ways s.2 a.2 with ⟨h, e⟩ | ⟨h, e⟩ | ⟨h, e⟩ <;> rw [e] at g
          · omega
          · omega
          · exact h
        have e : rrIn F (a :: st) s = (a.1, s.2) :: st := by simp only [rrIn]; rw [if_pos c, if_pos g]
        rw [e]
        have near' : s.1.toNat ≤ a.2.toNat + 2 ^ (128 - F.toNat) := by omega
        refine ⟨?_, List.pairwise_cons.mpr ⟨h2'.1, h2'.2⟩, ?_, ?_⟩
        · intro b hb
          rcases List.mem_cons.mp hb with rfl | hb
          · exact ⟨by show a.1.toNat ≤ s.2.toNat; have := ha.1; omega, ha.2.1, hs.2.2⟩
          · exact h1' b hb
        · intro b hb
          rcases List.mem_cons.mp hb with rfl | hb
          · exact la
          · exact h3 b (List.mem_cons_of_mem _ hb)
        · intro d hd
          have key : Ss (a.1, s.2) d ↔ Ss a d ∨ Ss s d := by
            constructor
            · rintro ⟨d1, d2⟩
              rcases Nat.lt_or_ge a.2.toNat d.toNat with q | q
              · have := al_next ha.2.2 hd q
                exact .inr ⟨by omega, d2⟩
              · exact .inl ⟨d1, q⟩
            · rintro (⟨d1, d2⟩ | ⟨d1, d2⟩)
              · exact ⟨d1, by show d.toNat ≤ s.2.toNat; omega⟩
              · exact ⟨by show a.1.toNat ≤ d.toNat; omega, d2⟩
          simp only [List.mem_cons, exists_eq_or_imp]
          rw [key]
          constructor
          · rintro ((h | h) | h)
            · exact .inl (.inl h)
            · exact .inr h
            · exact .inl (.inr h)
          · rintro ((h | h) | h)
            · exact .inl (.inl h)
            · exact .inr h
            · exact .inl (.inr h)
      · have gl : s.2.toNat ≤ a.2.toNat := by
          rcases cmpZ_ways s.2 a.2 with ⟨h, e⟩ | ⟨h, e⟩ | ⟨h, e⟩ <;> rw [e] at g
          · omega
          · rw [h]; exact Nat.le_refl _
          · omega
        have e : rrIn F (a :: st) s = a :: st := by simp only [rrIn]; rw [if_pos c, if_neg g]
        rw [e]
        refine ⟨h1, h2, h3, ?_⟩
        intro d hd
        constructor
        · exact .inl
        · rintro (h | ⟨d1, d2⟩)
          · exact h
          · exact ⟨a, List.mem_cons_self .., ⟨by omega, by omega⟩⟩
    · have e : rrIn F (a :: st) s = s :: a :: st := by simp only [rrIn]; rw [if_neg c]
      rw [e]
      have c1 : nextB F a.2 = true := by
        cases q : nextB F a.2 with
        | true => rfl
        | false => exact absurd (.inl q) c
      have n2 := (next_nat F a.2 c1).1
      have gap : a.2.toNat + 2 ^ (128 - F.toNat) < s.1.toNat := by
        rcases Nat.lt_or_ge (a.2.toNat + 2 ^ (128 - F.toNat)) s.1.toNat with q | q
        · exact q
        · exact absurd (.inr ((cmp_le _ _).mpr (by rw [n2]; exact q))) c
      refine ⟨?_, List.pairwise_cons.mpr ⟨?_, h2⟩, ?_, ?_⟩
      · intro b hb
        rcases List.mem_cons.mp hb with rfl | hb
        · exact hs
        · exact h1 b hb
      · intro b hb
        rcases List.mem_cons.mp hb with rfl | hb
        · exact gap
        · have g : b.2.toNat + 2 ^ (128 - F.toNat) < a.1.toNat := h2'.1 b hb
          show b.2.toNat + 2 ^ (128 - F.toNat) < s.1.toNat
          omega
      · intro b hb
        rcases List.mem_cons.mp hb with rfl | hb
        · exact Nat.le_refl _
        · exact h3 b hb
      · intro d hd
        simp only [List.mem_cons, exists_eq_or_imp]
        constructor
        · rintro (h | h)
          · exact .inr h
          · exact .inl h
        · rintro (h | h)
          · exact .inr h
          · exact .inl h
theorem rrAll_good {F : Int} (hf : fam F = true) : ∀ (l st : List (BitVec 128 × BitVec 128)), (∀ a ∈ st, Ok F a) → (∀ a ∈ l, Ok F a) → st.Pairwise (fun x y => Gp F y x) → (∀ a ∈ st, ∀ s ∈ l, a.1.toNat ≤ s.1.toNat) → l.Pairwise (fun x y => x.1.toNat ≤ y.1.toNat) → (∀ a ∈ rrAll F st l, Ok F a) ∧ (rrAll F st l).Pairwise (fun x y => Gp F y x) ∧ ∀ d, cutW d F = d → ((∃ q ∈ rrAll F st l, Ss q d) ↔ (∃ q ∈ st, Ss q d) ∨ ∃ q ∈ l, Ss q d) := by
  intro l
  induction l with
  | nil => intro st h1 _ h2 _ _; exact ⟨h1, h2, fun d _ => by simp [rrAll]⟩
  | cons s l ih =>
    intro st h1 hl h2 h3 h4
    have h4' := List.pairwise_cons.mp h4
    obtain ⟨g1, g2, g3, g4⟩ := rrIn_good hf st s h1 (hl s (List.mem_cons_self ..)) h2 (fun a ha => h3 a ha s (List.mem_cons_self ..))
    obtain ⟨i1, i2, i3⟩ := ih (rrIn F st s) g1 (fun a ha => hl a (List.mem_cons_of_mem _ ha)) g2 (fun a ha q hq => Nat.le_trans (g3 a ha) (h4'.1 q hq)) h4'.2
    refine ⟨i1, i2, fun d hd => ?_⟩
    show (∃ q ∈ rrAll F (rrIn F st s) l, Ss q d) ↔ _
    rw [i3 d hd, g4 d hd]
    simp only [List.mem_cons, exists_eq_or_imp, or_assoc]
/-- The document's rows are the program's. -/
theorem rows_same {F : Int} (hf : fam F = true) (l : List (BitVec 128 × Int)) (hl : ∀ p ∈ l, Rp F p) : (rrAll F [] (segL F (sortL l))).reverse = (psAll F [] (segL F (ptAll [] (sortL l)).reverse)).reverse := by
  have hF := (fam_bd F hf).2
  have hs : ∀ p ∈ sortL l, Rp F p := fun p hp => hl p (sortL_mem.mp hp)
  have okS : ∀ s ∈ segL F (sortL l), Ok F s := fun s h => by
    unfold segL at h
    obtain ⟨p, hp, rfl⟩ := List.mem_map.mp h
    have r := hs p hp
    exact ⟨rp_le r, rt_fam F p.1 p.2 r, last_fam F p.1 p.2 r⟩
  have ordS : (segL F (sortL l)).Pairwise (fun x y => x.1.toNat ≤ y.1.toNat) := by
    unfold segL
    rw [List.pairwise_map]
    refine (sortL_le l).imp ?_
    intro a b h
    rcases h with h | ⟨h, -⟩
    · exact Nat.le_of_lt h
    · show a.1.toNat ≤ b.1.toNat
      rw [h]
      exact Nat.le_refl _
  obtain ⟨a1, a2, a3⟩ := rrAll_good hf (segL F (sortL l)) [] (fun a h => by cases h) okS List.Pairwise.nil (fun a h => by cases h) ordS
  have hm : ∀ p ∈ (ptAll [] (sortL l)).reverse, Rp F p := fun p hp => ptAll_rp hF (sortL l) [] (fun a ha => by cases ha) hs p (by simpa using hp)
  obtain ⟨b1, b2⟩ := psAll_good hf (ptAll [] (sortL l)).reverse [] (fun a h => by cases h) List.Pairwise.nil hm (merge_ord hF l hl) (fun a h => by cases h)
  refine rows_unique _ _ (fun s h => a1 s (by simpa using h)) (List.pairwise_reverse.mpr a2) (fun s h => b1 s (by simpa using h)) (List.pairwise_reverse.mpr b2) ?_
  intro d hd
  rw [rows_ss _ hm d hd, merge_hs hF d l hl]
  simp only [List.mem_reverse]
  rw [a3 d hd]
  simp only [List.not_mem_nil, false_and, exists_false, false_or]
  unfold segL
  simp only [List.mem_map]
  constructor
  · rintro ⟨q, ⟨p, hp, rfl⟩, h⟩
    exact ⟨p, sortL_mem.mp hp, (has_ends F p.1 p.2 (hs p hp) d hd).mpr h⟩
  · rintro ⟨p, hp, h⟩
    exact ⟨_, ⟨p, sortL_mem.mpr hp, rfl⟩, (has_ends F p.1 p.2 (hl p hp) d hd).mp h⟩
end Go.Proofs.YtkgfeegcdohkdaaDoor
