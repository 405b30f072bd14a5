/-
  Part 32 of the proof: 3 texts, one behind the other.
-/
import Derived.Test.YtmeaikmmhgmgnaaPart31
import Derived.Test.YtmeaikmmhgmgnaaPart10
import Derived.Test.YtmeaikmmhgmgnaaPart29
import Derived.Test.YtmeaikmmhgmgnaaPart12
import Derived.Test.YtmeaikmmhgmgnaaPart5
import Derived.Test.YtmeaikmmhgmgnaaPart6
import Derived.Test.YtmeaikmmhgmgnaaPart11
/-
  A sweep through a table's routes tells the right segments that say where each address goes.
-/
namespace Go.Proofs.Ytmeaikmmhgmgnaa
set_option linter.unusedSimpArgs false
set_option linter.unusedVariables false

/-- Whether a route has an address. -/
def hasR (o : Rte) (x : BitVec 128) : Bool := cutW x o.1.2 == o.1.1
/-- The next hop of the last route that has an address. -/
def look (x : BitVec 128) : Int → List Rte → Int
  | a, [] => a
  | a, r :: l => look x (if hasR r x = true then r.2 else a) l
theorem look_app (x : BitVec 128) : ∀ (l m : List Rte) (a : Int), look x a (l ++ m) = look x (look x a l) m
  | [], m, a => rfl
  | r :: l, m, a => by rw [List.cons_append, look, look, look_app x l m]
theorem look_none (x : BitVec 128) : ∀ (l : List Rte) (a : Int), (∀ r ∈ l, hasR r x = false) → look x a l = a
  | [], a, _ => rfl
  | r :: l, a, h => by
    rw [look, if_neg (by rw [h r (by simp)]; decide), look_none x l a (fun r hr => h r (List.mem_cons_of_mem _ hr))]
def oh (x : BitVec 128) : List Rte → Int
  | [] => 0
  | o :: os => if hasR o x = true then o.2 else oh x os
/-- A right route of a family, or the one that has all addresses. -/
def Ro (F : Int) (o : Rte) : Prop := Rt F o.1.1 o.1.2 ∧ 0 ≤ o.2 ∧ o.2 ≤ 65535
structure Tol (F : Int) (f : BitVec 128 → Int) (t : T3) : Prop where
  good : Good F t.2.2
  mo : moO F t.2.2.head? = !t.2.1
  nx : t.2.1 = false → nxO F t.2.2.head? = t.1 ∧ rightE F t.1 = 0
  says : Says F f t.2.2
theorem tell_ok (F : Int) (f : BitVec 128 → Int) (la : BitVec 128) (h : Int) (t : T3) (hT : Tol F f t) (hr : rightE F la = 0) (h0 : 0 ≤ h) (h1 : h ≤ 65535)
    (hs : t.2.1 = false → ∀ x, rightE F x = 0 → t.1.toNat ≤ x.toNat → x.toNat ≤ la.toNat → h = f x) : Tol F f (tell3 F la h t) := by
  unfold tell3
  by_cases he : t.2.1 = true
  · rw [if_pos he]; exact hT
  · rw [if_neg he]
    have he : t.2.1 = false := by simpa using he
    by_cases hc : cmpZ la t.1 < 0
    · rw [if_pos hc]; exact hT
    · rw [if_neg hc]
      rw [cmp_lt0] at hc
      obtain ⟨n1, n2⟩ := hT.nx he
      have hm := hT.mo
      rw [he] at hm
      have hs2 := hs he
      clear hs
      have hnr : nextB F la = true → rightE F (nextV F la) = 0 := fun hb => by
        obtain ⟨_, hf, _, h3⟩ := next_nat F la hb
        exact right_of F _ hf h3
      obtain ⟨nx, en, st⟩ := t
      simp only at n1 n2 hm hs2 hc he
      cases st with
      | nil =>
        refine ⟨⟨sgE_of F _ n2 hr h0 h1 (by simpa using hc), rfl, n1.symm, by simp, trivial⟩, ?_, ?_, ?_⟩
        · simp [behS, moO]
        · intro hb
          simp only [Bool.not_eq_false'] at hb
          exact ⟨rfl, hnr hb⟩
        · intro s hs' x hx h3 h4
          simp only [behS, List.mem_singleton] at hs'
          subst hs'
          exact hs2 x hx h3 h4
      | cons a st =>
        obtain ⟨g1, g2, g3, g4, g5⟩ := hT.good
        obtain ⟨a1, a2, a3, a4, a5⟩ := sgE_zero F a g1
        have en1 : nextV F a.1.2 = nx := n1
        have eb : nextB F a.1.2 = true := hm
        have hn := (next_nat F a.1.2 eb).1
        rw [en1] at hn
        have hp : 0 < 2 ^ (128 - F.toNat) := Nat.two_pow_pos _
        by_cases hh : a.2 = h
        · have e : behS (a :: st) ((nx, la), h) = ((a.1.1, la), a.2) :: st := by rw [behS, if_pos hh]
          simp only
          rw [e]
          refine ⟨⟨sgE_of F _ a1 hr a3 a4 (by simp only; omega), g2, g3, g4, g5⟩, ?_, ?_, ?_⟩
          · simp [moO]
          · intro hb
            simp only [Bool.not_eq_false'] at hb
            exact ⟨rfl, hnr hb⟩
          · intro s hs' x hx h3 h4
            rcases List.mem_cons.mp hs' with e | e
            · subst e
              simp only at h3 h4
              by_cases hx2 : x.toNat ≤ a.1.2.toNat
              · exact hT.says a (by simp) x hx h3 hx2
              · obtain ⟨-, k2, -, -⟩ := next_le F a.1.2 x a2 hx (by omega)
                rw [en1] at k2
                rw [← hs2 x hx k2 h4]
                exact hh
            · exact hT.says s (List.mem_cons_of_mem _ e) x hx h3 h4
        · have e : behS (a :: st) ((nx, la), h) = ((nx, la), h) :: a :: st := by rw [behS, if_neg hh]
          simp only
          rw [e]
          refine ⟨⟨sgE_of F _ n2 hr h0 h1 (by simpa using hc), eb, en1.symm, by simpa using hh, hT.good⟩, ?_, ?_, ?_⟩
          · simp [moO]
          · intro hb
            simp only [Bool.not_eq_false'] at hb
            exact ⟨rfl, hnr hb⟩
          · intro s hs' x hx h3 h4
            rcases List.mem_cons.mp hs' with e | e
            · subst e
              exact hs2 x hx h3 h4
            · exact hT.says s e x hx h3 h4
/-- What stands open, and what is told, when some routes are gone through and others are not. -/
structure Inv (F : Int) (f : BitVec 128 → Int) (P op L : List Rte) (t : T3) : Prop where
  tol : Tol F f t
  ro : ∀ o ∈ op, Ro F o
  at0 : t.2.1 = false → ∀ o ∈ op, o.1.1.toNat ≤ t.1.toNat
  oh : t.2.1 = false → ∀ x, rightE F x = 0 → t.1.toNat ≤ x.toNat → look x 0 P = oh x op
  ord : ∀ o ∈ op, ∀ r ∈ L, pcmpZ o.1.1 o.1.2 r.1.1 r.1.2 ≤ 0
theorem last_right (F : Int) (o : Rte) (hf : fam F = true) (h : Ro F o) : rightE F (lastW F o.1.1 o.1.2) = 0 := right_of F _ hf (last_fam F _ _ h.1)
theorem hasR_ends (F : Int) (o : Rte) (hf : fam F = true) (h : Ro F o) (x : BitVec 128) (hx : rightE F x = 0) : hasR o x = true ↔ (o.1.1.toNat ≤ x.toNat ∧ x.toNat ≤ (lastW F o.1.1 o.1.2).toNat) := by
  obtain ⟨_, hc⟩ := right0 F x hx
  rw [← has_ends F _ _ h.1 x hc]
  unfold hasR
  simp
theorem look_ahead (F : Int) (hf : fam F = true) (P L : List Rte) (x : BitVec 128) (hx : rightE F x = 0) (hL : ∀ r ∈ L, Ro F r) (h : ∀ r ∈ L, x.toNat < r.1.1.toNat) : look x 0 (P ++ L) = look x 0 P := by
  rw [look_app, look_none]
  intro r hr
  have := h r hr
  have e := hasR_ends F r hf (hL r hr) x hx
  cases q : hasR r x with
  | false => rfl
  | true => have := e.mp q; omega
/-- The inner route is left: what it has yet is told. -/
theorem inv_leave (F : Int) (hf : fam F = true) (l P L os : List Rte) (o : Rte) (t : T3) (hl : l = P ++ L) (hL : ∀ r ∈ L, Ro F r) (h : Inv F (fun x => look x 0 l) P (o :: os) L t) (hw : ∀ r ∈ L, (lastW F o.1.1 o.1.2).toNat < r.1.1.toNat) :
    Inv F (fun x => look x 0 l) P os L (tell3 F (lastW F o.1.1 o.1.2) o.2 t) := by
  have ro := h.ro o (by simp)
  have lr := last_right F o hf ro
  have key : t.2.1 = false → ∀ x, rightE F x = 0 → t.1.toNat ≤ x.toNat → x.toNat ≤ (lastW F o.1.1 o.1.2).toNat → o.2 = look x 0 l := by
    intro he x hx h1 h2
    rw [hl, look_ahead F hf P L x hx hL (fun r hr => by have := hw r hr; omega), h.oh he x hx h1, oh, if_pos ((hasR_ends F o hf ro x hx).mpr ⟨by have := h.at0 he o (by simp); omega, h2⟩)]
  refine ⟨tell_ok F _ _ _ t h.tol lr ro.2.1 ro.2.2 key, fun q hq => h.ro q (List.mem_cons_of_mem _ hq), ?_, ?_, fun q hq => h.ord q (List.mem_cons_of_mem _ hq)⟩
  · unfold tell3
    by_cases he : t.2.1 = true
    · rw [if_pos he]; intro hc; rw [he] at hc; cases hc
    · rw [if_neg he]
      have he : t.2.1 = false := by simpa using he
      by_cases hc : cmpZ (lastW F o.1.1 o.1.2) t.1 < 0
      · rw [if_pos hc]; exact fun e q hq => h.at0 e q (List.mem_cons_of_mem _ hq)
      · rw [if_neg hc]
        rw [cmp_lt0] at hc
        intro hb q hq
        simp only [Bool.not_eq_false'] at hb
        have := (next_nat F _ hb).1
        have hp : 0 < 2 ^ (128 - F.toNat) := Nat.two_pow_pos _
        have := h.at0 he q (List.mem_cons_of_mem _ hq)
        simp only
        omega
  · have gone : ∀ x, rightE F x = 0 → (lastW F o.1.1 o.1.2).toNat < x.toNat → oh x (o :: os) = oh x os := by
      intro x hx h2
      rw [oh, if_neg]
      intro q
      have := (hasR_ends F o hf ro x hx).mp q
      omega
    unfold tell3
    by_cases he : t.2.1 = true
    · rw [if_pos he]; intro hc; rw [he] at hc; cases hc
    · rw [if_neg he]
      have he : t.2.1 = false := by simpa using he
      by_cases hc : cmpZ (lastW F o.1.1 o.1.2) t.1 < 0
      · rw [if_pos hc]
        rw [cmp_lt0] at hc
        intro e x hx h1
        rw [h.oh e x hx h1, gone x hx (by omega)]
      · rw [if_neg hc]
        rw [cmp_lt0] at hc
        intro hb x hx h1
        simp only [Bool.not_eq_false'] at hb
        have hn := (next_nat F _ hb).1
        have hp : 0 < 2 ^ (128 - F.toNat) := Nat.two_pow_pos _
        simp only at h1
        rw [h.oh he x hx (by omega), gone x hx (by omega)]
/-- A route that another one does not lie within, behind it in order, lies behind its last address. -/
theorem not_in (F : Int) (o r : Rte) (ho : Ro F o) (hr : Ro F r) (h : pcmpZ o.1.1 o.1.2 r.1.1 r.1.2 ≤ 0) (hw : ¬ withinB r.1.1 r.1.2 o.1.1 o.1.2 = true) : (lastW F o.1.1 o.1.2).toNat < r.1.1.toNat := by
  have hw : withinB r.1.1 r.1.2 o.1.1 o.1.2 = false := by simpa using hw
  have h := (pcmp_le _ _ _ _).mp h
  have e1 : r.1.1.toNat ≤ (lastW F r.1.1 r.1.2).toNat := le_last F _ _ hr.1 _ (rt_fam F _ _ hr.1) hr.1.2.2
  have h' : o.1.1.toNat ≤ r.1.1.toNat := by
    rcases h with h | ⟨h, _⟩
    · omega
    · rw [h]; exact Nat.le_refl _
  by_cases hn : o.1.2 ≤ r.1.2
  · rcases apart_of F _ _ _ _ ho.1 hr.1 hn hw with q | q
    · exact q
    · omega
  · have hw2 : withinB o.1.1 o.1.2 r.1.1 r.1.2 = false := by
      cases q : withinB o.1.1 o.1.2 r.1.1 r.1.2 with
      | false => rfl
      | true =>
        obtain ⟨_, q⟩ := (within_iff _ _ _ _).mp q
        have q2 := cut_le o.1.1 r.1.2
        rw [q] at q2
        rcases h with h | ⟨_, h⟩ <;> omega
    rcases apart_of F _ _ _ _ hr.1 ho.1 (by omega) hw2 with q | q
    · omega
    · exact q
theorem pcmp_first (o r : Rte) (h : pcmpZ o.1.1 o.1.2 r.1.1 r.1.2 ≤ 0) : o.1.1.toNat ≤ r.1.1.toNat := by
  rcases (pcmp_le _ _ _ _).mp h with h | ⟨h, _⟩
  · omega
  · rw [h]; exact Nat.le_refl _
theorem inv_pop (F : Int) (hf : fam F = true) (l P L : List Rte) (r : Rte) (hl : l = P ++ r :: L) (hL : ∀ q ∈ r :: L, Ro F q) (hO : ∀ q ∈ L, r.1.1.toNat ≤ q.1.1.toNat) : ∀ (op : List Rte) (t : T3), Bot op → Inv F (fun x => look x 0 l) P op (r :: L) t → t.2.1 = false → t.1.toNat ≤ r.1.1.toNat →
    Inv F (fun x => look x 0 l) P (popO r op) (r :: L) (popT F r op t) ∧ (popT F r op t).2.1 = false ∧ (popT F r op t).1.toNat ≤ r.1.1.toNat ∧ ∃ o os, popO r op = o :: os ∧ withinB r.1.1 r.1.2 o.1.1 o.1.2 = true
  | [], t, hb, h, he, hn => absurd rfl hb.ne
  | o :: os, t, hb, h, he, hn => by
    rw [popO, popT]
    by_cases hw : withinB r.1.1 r.1.2 o.1.1 o.1.2 = true
    · rw [if_pos hw, if_pos hw]
      exact ⟨h, he, hn, o, os, rfl, hw⟩
    · rw [if_neg hw, if_neg hw]
      have ro := h.ro o (by simp)
      have rr := hL r (by simp)
      have hlt := not_in F o r ro rr (h.ord o (by simp) r (by simp)) hw
      have lr := last_right F o hf ro
      obtain ⟨_, frr⟩ := And.intro trivial (right_of F r.1.1 hf (rt_fam F _ _ rr.1))
      obtain ⟨n1, n2, n3, n4⟩ := next_le F _ _ lr frr hlt
      have hi := inv_leave F hf l P (r :: L) os o t hl hL h (fun q hq => by
        rcases List.mem_cons.mp hq with e | e
        · rw [e]; exact hlt
        · have := hO q e; omega)
      refine inv_pop F hf l P L r hl hL hO os _ (hb.tl r rr.1.1 hw) hi ?_ ?_
      · unfold tell3
        rw [if_neg (by rw [he]; decide)]
        split
        · exact he
        · simp [n1]
      · unfold tell3
        rw [if_neg (by rw [he]; decide)]
        split
        · exact hn
        · exact n2
theorem prev_all (F : Int) (x : BitVec 128) (hx : rightE F x = 0) : (prevB F x = true ∧ rightE F (prevV F x) = 0 ∧ (prevV F x).toNat < x.toNat ∧ nextB F (prevV F x) = true ∧ nextV F (prevV F x) = x) ∨ (prevB F x = false ∧ x = 0#128) := by
  obtain ⟨hf, hc⟩ := right0 F x hx
  have hs := step_nat F hf
  have hp : 0 < 2 ^ (128 - F.toNat) := Nat.two_pow_pos _
  cases hb : prevB F x with
  | false =>
    right
    refine ⟨rfl, ?_⟩
    unfold prevB underB at hb
    rw [hx, hs] at hb
    simp at hb
    obtain ⟨a, ha⟩ := right_dvd F x hx
    apply BitVec.eq_of_toNat_eq
    cases a with
    | zero => rw [ha]; rfl
    | succ a =>
      exfalso
      have : 2 ^ (128 - F.toNat) * (a + 1) = 2 ^ (128 - F.toNat) * a + 2 ^ (128 - F.toNat) := by rw [Nat.mul_add, Nat.mul_one]
      omega
  | true =>
    left
    have hu : ¬ x.toNat < 2 ^ (128 - F.toNat) := by
      intro q
      unfold prevB underB at hb
      rw [hx, hs] at hb
      simp at hb
      omega
    have hv : prevV F x = x - stepW F := by unfold prevV; rw [if_pos hb]
    have hn : (prevV F x).toNat = x.toNat - 2 ^ (128 - F.toNat) := by
      rw [hv, BitVec.toNat_sub, hs]
      have := x.isLt
      rw [show 2 ^ 128 - 2 ^ (128 - F.toNat) + x.toNat = 2 ^ 128 + (x.toNat - 2 ^ (128 - F.toNat)) by omega, Nat.add_mod_left]
      exact Nat.mod_eq_of_lt (by omega)
    have hr : rightE F (prevV F x) = 0 := by
      apply right_of F _ hf
      rw [cut_dvd, hn]
      exact Nat.dvd_sub (right_dvd F x hx) (Nat.dvd_refl _)
    obtain ⟨n1, n2, n3, n4⟩ := next_le F _ x hr hx (by omega)
    refine ⟨rfl, hr, by omega, n1, ?_⟩
    apply BitVec.eq_of_toNat_eq
    rw [(next_nat F _ n1).1]
    omega
/-- A route is opened: what lies ahead of it is told. -/
theorem inv_enter (F : Int) (hf : fam F = true) (l P L os : List Rte) (r o : Rte) (t : T3) (hl : l = P ++ r :: L) (hL : ∀ q ∈ r :: L, Ro F q) (hO : ∀ q ∈ L, pcmpZ r.1.1 r.1.2 q.1.1 q.1.2 ≤ 0) (h : Inv F (fun x => look x 0 l) P (o :: os) (r :: L) t) (he : t.2.1 = false) (hn : t.1.toNat ≤ r.1.1.toNat) (hw : withinB r.1.1 r.1.2 o.1.1 o.1.2 = true) :
    Inv F (fun x => look x 0 l) (P ++ [r]) (r :: o :: os) L (entT F r o.2 t) ∧ (entT F r o.2 t).2.1 = false ∧ (entT F r o.2 t).1 = r.1.1 := by
  have rr := hL r (by simp)
  have ro := h.ro o (by simp)
  have fr := right_of F r.1.1 hf (rt_fam F _ _ rr.1)
  obtain ⟨n1, n2⟩ := h.tol.nx he
  have hro : r.1.1.toNat ≤ (lastW F o.1.1 o.1.2).toNat := by
    obtain ⟨_, q⟩ := (within_iff _ _ _ _).mp hw
    exact le_last F _ _ ro.1 _ (rt_fam F _ _ rr.1) q
  have hL0 : ∀ q ∈ r :: L, r.1.1.toNat ≤ q.1.1.toNat := fun q hq => by
    rcases List.mem_cons.mp hq with e | e
    · rw [e]; exact Nat.le_refl _
    · exact pcmp_first r q (hO q e)
  have key : ∀ x, rightE F x = 0 → t.1.toNat ≤ x.toNat → x.toNat < r.1.1.toNat → o.2 = look x 0 l := by
    intro x hx h1 h2
    rw [hl, look_ahead F hf P (r :: L) x hx hL (fun q hq => by have := hL0 q hq; omega), h.oh he x hx h1, oh, if_pos ((hasR_ends F o hf ro x hx).mpr ⟨by have := h.at0 he o (by simp); omega, by omega⟩)]
  have fin : ∀ T : T3, Tol F (fun x => look x 0 l) T → T.2.1 = false → T.1 = r.1.1 → Inv F (fun x => look x 0 l) (P ++ [r]) (r :: o :: os) L T ∧ T.2.1 = false ∧ T.1 = r.1.1 := by
    intro T hT hTe hT1
    refine ⟨⟨hT, ?_, ?_, ?_, ?_⟩, hTe, hT1⟩
    · intro q hq
      rcases List.mem_cons.mp hq with e | e
      · rw [e]; exact rr
      · exact h.ro q e
    · intro _ q hq
      rw [hT1]
      rcases List.mem_cons.mp hq with e | e
      · rw [e]; exact Nat.le_refl _
      · have := h.at0 he q e; omega
    · intro _ x hx h1
      rw [hT1] at h1
      rw [look_app, look, look, Go.Proofs.Ytmeaikmmhgmgnaa.oh]
      split
      · rfl
      · exact h.oh he x hx (by omega)
    · intro q hq q' hq'
      rcases List.mem_cons.mp hq with e | e
      · rw [e]; exact hO q' hq'
      · exact h.ord q e q' (List.mem_cons_of_mem _ hq')
  unfold entT
  rcases prev_all F r.1.1 fr with ⟨p1, p2, p3, p4, p5⟩ | ⟨p1, p2⟩
  · rw [if_pos p1]
    refine fin _ (tell_ok F _ _ _ t h.tol p2 ro.2.1 ro.2.2 (fun _ x hx h1 h2 => key x hx h1 (by omega))) ?_ ?_
    · unfold tell3
      rw [if_neg (by rw [he]; decide)]
      split
      · exact he
      · simp [p4]
    · unfold tell3
      rw [if_neg (by rw [he]; decide)]
      split
      · rename_i hc
        rw [cmp_lt0] at hc
        obtain ⟨k1, k2, k3, k4⟩ := next_le F _ t.1 p2 n2 hc
        rw [p5] at k2
        exact BitVec.eq_of_toNat_eq (by omega)
      · exact p5
  · rw [if_neg (by rw [p1]; decide)]
    refine fin t h.tol he ?_
    rw [p2] at hn
    rw [p2]
    exact BitVec.eq_of_toNat_eq (by simpa using hn)
theorem mask_end (F : Int) (hf : fam F = true) : lastW F 0#128 0 = maskW F ∧ nextB F (maskW F) = false := by
  rcases fam_ways F hf with rfl | rfl <;> decide +kernel
theorem end_ok (F : Int) (hf : fam F = true) (l : List Rte) : ∀ (op : List Rte) (t : T3), Bot op → Inv F (fun x => look x 0 l) l op [] t → Tol F (fun x => look x 0 l) (endT F op t) ∧ (endT F op t).2.1 = true
  | [], t, hb, h => absurd rfl hb.ne
  | o :: os, t, hb, h => by
    rw [endT]
    have hi := inv_leave F hf l l [] os o t (by simp) (fun q hq => by cases hq) h (fun q hq => by cases hq)
    cases os with
    | nil =>
      have e : o = ((0#128, 0), 0) := by
        obtain ⟨k, e⟩ := hb
        cases k with
        | nil => exact (List.cons.inj e).1
        | cons a k =>
          have := congrArg List.length e
          simp [op0] at this
      refine ⟨hi.tol, ?_⟩
      subst e
      rw [endT]
      unfold tell3
      by_cases he : t.2.1 = true
      · rw [if_pos he]; exact he
      · rw [if_neg he]
        have he : t.2.1 = false := by simpa using he
        obtain ⟨_, n2⟩ := h.tol.nx he
        simp only
        rw [(mask_end F hf).1, if_neg (by rw [cmp_lt0]; have := right_max F _ n2; omega)]
        simp [(mask_end F hf).2]
    | cons a os =>
      refine end_ok F hf l (a :: os) _ ?_ hi
      obtain ⟨k, e⟩ := hb
      cases k with
      | nil =>
        have := congrArg List.length e
        simp [op0] at this
      | cons b k => exact ⟨k, (List.cons.inj e).2⟩
theorem swp_inv (F : Int) (hf : fam F = true) (l : List Rte) : ∀ (L P op : List Rte) (t : T3), l = P ++ L → (∀ q ∈ L, Ro F q) → L.Pairwise (fun a b => pcmpZ a.1.1 a.1.2 b.1.1 b.1.2 < 0) → Bot op → Inv F (fun x => look x 0 l) P op L t → (L ≠ [] → t.2.1 = false ∧ ∀ r ∈ L, t.1.toNat ≤ r.1.1.toNat) →
    Tol F (fun x => look x 0 l) (swpGo F op t L) ∧ (swpGo F op t L).2.1 = true
  | [], P, op, t, hl, hL, hO, hb, h, hn => by
    rw [swpGo]
    have e : l = P := by simpa using hl
    rw [← e] at h
    exact end_ok F hf l op t hb h
  | r :: L, P, op, t, hl, hL, hO, hb, h, hn => by
    rw [swpGo]
    obtain ⟨he, hn⟩ := hn (by simp)
    obtain ⟨o1, o2⟩ := List.pairwise_cons.mp hO
    have o1' : ∀ q ∈ L, pcmpZ r.1.1 r.1.2 q.1.1 q.1.2 ≤ 0 := fun q hq => Int.le_of_lt (o1 q hq)
    obtain ⟨hi, e1, e2, o, os, e3, hw⟩ := inv_pop F hf l P L r hl hL (fun q hq => pcmp_first r q (o1' q hq)) op t hb h he (hn r (by simp))
    have hb2 := hb.pop r (hL r (by simp)).1.1
    rw [e3] at hi hb2 ⊢
    obtain ⟨j1, j2, j3⟩ := inv_enter F hf l P L os r o _ hl hL o1' hi e1 e2 hw
    refine swp_inv F hf l L (P ++ [r]) (r :: o :: os) _ (by rw [hl]; simp) (fun q hq => hL q (List.mem_cons_of_mem _ hq)) o2 ?_ j1 (fun _ => ⟨j2, fun q hq => ?_⟩)
    · obtain ⟨k, e⟩ := hb2
      exact ⟨r :: k, by rw [e]; rfl⟩
    · show (entT F r o.2 _).1.toNat ≤ _
      rw [j3]
      exact pcmp_first r q (o1' q hq)
/-- The segments of a right table. -/
theorem swp_right (F : Int) (hf : fam F = true) (l : List Rte) (hL : ∀ q ∈ l, Ro F q) (hO : l.Pairwise (fun a b => pcmpZ a.1.1 a.1.2 b.1.1 b.1.2 < 0)) : sgsGo F none (swp F l) = 0 ∧ Says F (fun x => look x 0 l) (swp F l) := by
  have z : rightE F 0#128 = 0 := by unfold rightE; rw [if_pos hf, if_pos BitVec.zero_and]
  have r0 : Ro F ((0#128, 0), 0) := by
    refine ⟨?_, by decide, by decide⟩
    have := fam_bd F hf
    exact ⟨by decide, by simp only; omega, by simp [cutW]⟩
  obtain ⟨hT, he⟩ := swp_inv F hf l l [] op0 t30 (by simp) hL hO ⟨[], rfl⟩
    ⟨⟨trivial, rfl, fun _ => ⟨rfl, z⟩, fun s hs => by cases hs⟩, fun o ho => by
      have : o = ((0#128, 0), 0) := by simpa [op0] using ho
      rw [this]; exact r0, fun _ o ho => by
      have : o = ((0#128, 0), 0) := by simpa [op0] using ho
      rw [this]; exact Nat.zero_le _, fun _ x hx _ => by simp [look, op0, oh], fun o ho r hr => by
      have : o = ((0#128, 0), 0) := by simpa [op0] using ho
      rw [this, pcmp_le]
      by_cases q : r.1.1 = 0#128
      · exact .inr ⟨q.symm, (hL r hr).1.1⟩
      · left
        have : r.1.1.toNat ≠ 0 := fun e => q (BitVec.eq_of_toNat_eq e)
        simp only [BitVec.toNat_zero, BitVec.toNat_ofNat, Nat.zero_mod]
        omega⟩ (fun _ => ⟨rfl, fun r _ => Nat.zero_le _⟩)
  unfold swp
  constructor
  · have := good_go F (swpGo F op0 t30 l).2.2 [] hT.good
    rw [List.append_nil] at this
    rw [this, sgsGo, hT.mo, he]
    rfl
  · intro s hs
    exact hT.says s (List.mem_reverse.mp hs)
end Go.Proofs.Ytmeaikmmhgmgnaa
/-
  The document's segments of a table: edges in order, the next hop at each, neighbours made one: they are right and say where each address goes.
-/
namespace Go.Proofs.Ytmeaikmmhgmgnaa
set_option linter.unusedSimpArgs false
set_option linter.unusedVariables false

/-- The match as the document asks for it. -/
def mat (x : BitVec 128) : Option Rte → List Rte → Option Rte
  | b, [] => b
  | b, r :: l => mat x (if (hasR r x && (b.all fun o => decide (o.1.2 < r.1.2))) = true then some r else b) l
def hopM (b : Option Rte) : Int := (b.map (·.2)).getD 0
theorem has_longer (x : BitVec 128) (o r : Rte) (ho : hasR o x = true) (hr : hasR r x = true) (h0 : 0 ≤ r.1.2) (h : pcmpZ o.1.1 o.1.2 r.1.1 r.1.2 < 0) : o.1.2 < r.1.2 := by
  unfold hasR at ho hr
  have ho : cutW x o.1.2 = o.1.1 := by simpa using ho
  have hr : cutW x r.1.2 = r.1.1 := by simpa using hr
  rcases (pcmp_le _ _ _ _).mp (Int.le_of_lt h) with q | ⟨q, q2⟩
  · by_cases hc : r.1.2 ≤ o.1.2
    · exfalso
      have := cut_cut x r.1.2 o.1.2 h0 hc
      rw [ho, hr] at this
      have h2 := cut_le o.1.1 r.1.2
      rw [this] at h2
      omega
    · omega
  · by_cases hc : o.1.2 = r.1.2
    · have := (pcmp_eq0 _ _ _ _).mpr ⟨q, hc⟩
      omega
    · omega
theorem mat_look (F : Int) (x : BitVec 128) : ∀ (l : List Rte) (b : Option Rte), (∀ o, b = some o → hasR o x = true ∧ ∀ r ∈ l, pcmpZ o.1.1 o.1.2 r.1.1 r.1.2 < 0) → (∀ q ∈ l, Ro F q) → l.Pairwise (fun a b => pcmpZ a.1.1 a.1.2 b.1.1 b.1.2 < 0) → hopM (mat x b l) = look x (hopM b) l
  | [], b, _, _, _ => rfl
  | r :: l, b, hb, hL, hO => by
    obtain ⟨o1, o2⟩ := List.pairwise_cons.mp hO
    rw [mat, look]
    have hL' : ∀ q ∈ l, Ro F q := fun q hq => hL q (List.mem_cons_of_mem _ hq)
    cases hr : hasR r x with
    | false =>
      simp only [Bool.false_and, Bool.false_eq_true, if_false]
      exact mat_look F x l b (fun o e => ⟨(hb o e).1, fun q hq => (hb o e).2 q (List.mem_cons_of_mem _ hq)⟩) hL' o2
    | true =>
      have e : (true && (b.all fun o => decide (o.1.2 < r.1.2))) = true := by
        cases b with
        | none => rfl
        | some o =>
          obtain ⟨k1, k2⟩ := hb o rfl
          simp [has_longer x o r k1 hr (hL r (by simp)).1.1 (k2 r (by simp))]
      rw [if_pos e]
      simp only [if_true]
      have := mat_look F x l (some r) (fun o e => by cases e; exact ⟨hr, o1⟩) hL' o2
      rw [this]
      rfl
/-- Neighbours with one next hop made one; the last one stands first. -/
def jn (F : Int) : List Sg → List (BitVec 128 × Int) → List Sg
  | st, [] => st
  | [], e :: l => jn F [((e.1, lastV F), e.2)] l
  | s :: st, e :: l => if s.2 = e.2 then jn F (s :: st) l else jn F (((e.1, lastV F), e.2) :: ((s.1.1, prevV F e.1), s.2) :: st) l
/-- What holds while neighbours are made one: all ahead of a is said. -/
structure Jin (F : Int) (f : BitVec 128 → Int) (st : List Sg) (s : Sg) (a : Nat) : Prop where
  good : Good F st
  mo : moO F st.head? = true
  nx : s.1.1 = nxO F st.head?
  hop : st.head?.map (·.2) ≠ some s.2
  says : Says F f st
  right : rightE F s.1.1 = 0
  la : s.1.2 = maskW F
  h0 : 0 ≤ s.2 ∧ s.2 ≤ 65535
  here : ∀ x, rightE F x = 0 → s.1.1.toNat ≤ x.toNat → x.toNat < a → s.2 = f x
theorem mask_right (F : Int) (hf : fam F = true) : rightE F (maskW F) = 0 := by
  rcases fam_ways F hf with rfl | rfl <;> decide +kernel
theorem jn_end (F : Int) (hf : fam F = true) (f : BitVec 128 → Int) (st : List Sg) (s : Sg) (h : Jin F f st s (2 ^ 128)) : sgsGo F none (s :: st).reverse = 0 ∧ Says F f (s :: st).reverse := by
  have g : Good F (s :: st) := by
    refine ⟨sgE_of F s h.right (by rw [h.la]; exact mask_right F hf) h.h0.1 h.h0.2 ?_, h.mo, h.nx, h.hop, h.good⟩
    rw [h.la]
    exact right_max F _ h.right
  constructor
  · have := good_go F (s :: st) [] g
    rw [List.append_nil] at this
    rw [this, List.head?_cons, sgsGo, moO, h.la, (mask_end F hf).2]
    rfl
  · intro u hu x hx h1 h2
    rcases List.mem_cons.mp (List.mem_reverse.mp hu) with e | e
    · rw [e]
      exact h.here x hx (by rw [e] at h1; exact h1) x.isLt
    · exact h.says u e x hx h1 h2
/-- Edges in order behind one; between two of them f does not change. -/
def Edg (F : Int) (f : BitVec 128 → Int) : List (BitVec 128 × Int) → Prop
  | [] => True
  | e :: l => rightE F e.1 = 0 ∧ 0 ≤ e.2 ∧ e.2 ≤ 65535 ∧ (∀ d ∈ l.head?, e.1.toNat < d.1.toNat) ∧ (∀ x, rightE F x = 0 → e.1.toNat ≤ x.toNat → x.toNat < (l.head?.map (·.1.toNat)).getD (2 ^ 128) → e.2 = f x) ∧ Edg F f l
theorem jn_ok (F : Int) (hf : fam F = true) (f : BitVec 128 → Int) : ∀ (l : List (BitVec 128 × Int)) (st : List Sg) (s : Sg), Edg F f l → Jin F f st s ((l.head?.map (·.1.toNat)).getD (2 ^ 128)) → (∀ e ∈ l.head?, s.1.1.toNat < e.1.toNat) → sgsGo F none (jn F (s :: st) l).reverse = 0 ∧ Says F f (jn F (s :: st) l).reverse
  | [], st, s, hE, h, _ => by rw [jn]; exact jn_end F hf f st s h
  | e :: l, st, s, hE, h, hlt => by
    obtain ⟨e1, e2, e3, e4, e5, e6⟩ := hE
    have hlt := hlt e (by simp)
    have here : ∀ x, rightE F x = 0 → s.1.1.toNat ≤ x.toNat → x.toNat < e.1.toNat → s.2 = f x := h.here
    rw [jn]
    by_cases hh : s.2 = e.2
    · rw [if_pos hh]
      refine jn_ok F hf f l st s e6 ⟨h.good, h.mo, h.nx, h.hop, h.says, h.right, h.la, h.h0, ?_⟩ (fun d hd => by have := e4 d hd; omega)
      intro x hx h1 h2
      by_cases hx2 : x.toNat < e.1.toNat
      · exact here x hx h1 hx2
      · rw [hh]; exact e5 x hx (by omega) h2
    · rw [if_neg hh]
      rcases prev_all F e.1 e1 with ⟨p1, p2, p3, p4, p5⟩ | ⟨p1, p2⟩
      · have le : s.1.1.toNat ≤ (prevV F e.1).toNat := by
          apply Decidable.byContradiction
          intro q
          obtain ⟨k1, k2, k3, k4⟩ := next_le F (prevV F e.1) s.1.1 p2 h.right (by omega)
          rw [p5] at k2
          omega
        refine jn_ok F hf f l _ _ e6 ⟨⟨sgE_of F _ h.right p2 h.h0.1 h.h0.2 le, h.mo, h.nx, h.hop, h.good⟩, p4, p5.symm, by simpa using hh, ?_, e1, ?_, ⟨e2, e3⟩, ?_⟩ (fun d hd => e4 d hd)
        · intro u hu x hx h1 h2
          rcases List.mem_cons.mp hu with q | q
          · subst q
            simp only at h1 h2
            exact here x hx h1 (by omega)
          · exact h.says u q x hx h1 h2
        · show lastV F = maskW F
          unfold lastV; rw [if_pos hf]
        · intro x hx h1 h2
          exact e5 x hx h1 h2
      · exfalso
        rw [p2] at hlt
        simp at hlt
/-- The segments of edges in order, the first of them 0. -/
theorem jn_right (F : Int) (hf : fam F = true) (f : BitVec 128 → Int) (h : Int) (l : List (BitVec 128 × Int)) (hE : Edg F f ((0#128, h) :: l)) : sgsGo F none (jn F [] ((0#128, h) :: l)).reverse = 0 ∧ Says F f (jn F [] ((0#128, h) :: l)).reverse := by
  obtain ⟨e1, e2, e3, e4, e5, e6⟩ := hE
  rw [jn]
  refine jn_ok F hf f l [] _ e6 ⟨trivial, rfl, rfl, by simp, (fun u hu => by cases hu), e1, ?_, ⟨e2, e3⟩, fun x hx h1 h2 => e5 x hx h1 h2⟩ (fun d hd => e4 d hd)
  show lastV F = maskW F
  unfold lastV; rw [if_pos hf]
end Go.Proofs.Ytmeaikmmhgmgnaa
/-
  What the calls of turnpikeref5's Match and Lookup do.
-/
namespace Go.Proofs.Ytmeaikmmhgmgnaa
open Go.RowKit
set_option linter.unusedSimpArgs false
set_option linter.unusedVariables false

/-- A route in a block that may be written. -/
def AtV (W : World) (B : Nat) (x : BitVec 128) (n h : Int) : Prop := AtR W B x n h ∧ W.frozen? ⟨B, 0, none⟩ = false ∧ W.frozen? ⟨B, 1, none⟩ = false ∧ W.frozen? ⟨B, 2, none⟩ = false ∧ W.frozen? ⟨B, 3, none⟩ = false
theorem AtV.heap {W W' : World} {B : Nat} {x : BitVec 128} {n h : Int} (k : AtV W B x n h) (e : W'.heap[B]? = W.heap[B]?) : AtV W' B x n h := by
  obtain ⟨k0, k1, k2, k3, k4⟩ := k
  exact ⟨k0.heap e, by rw [frozH e]; exact k1, by rw [frozH e]; exact k2, by rw [frozH e]; exact k3, by rw [frozH e]; exact k4⟩
theorem AtV.lt {W : World} {B : Nat} {x : BitVec 128} {n h : Int} (k : AtV W B x n h) : B < W.heap.size := cell_in k.1.1
theorem atv_new (W : World) (B : Nat) (x : BitVec 128) (n h : Int) (T : TypeId) (e : B = W.heap.size) : AtV (W.alloc (.cells #[.int .u64 (hI x), .int .u64 (lI x), .int .i64 n, .int .i64 h] T)) B x n h := by
  refine ⟨atr_new W B x n h T e, ?_, ?_, ?_, ?_⟩ <;> subst e <;> simp [go_sem]
theorem AtV.set4 {W : World} {B : Nat} {x : BitVec 128} {n h : Int} (k : AtV W B x n h) (y : BitVec 128) (m g : Int) : AtV ((((W.setCell ⟨B, 0, none⟩ (.int .u64 (hI y))).setCell ⟨B, 1, none⟩ (.int .u64 (lI y))).setCell ⟨B, 2, none⟩ (.int .i64 m)).setCell ⟨B, 3, none⟩ (.int .i64 g)) B y m g := by
  obtain ⟨⟨c0, c1, c2, c3⟩, k1, k2, k3, k4⟩ := k
  refine ⟨⟨?_, ?_, ?_, ?_⟩, ?_, ?_, ?_, ?_⟩ <;> simp [go_sem, c0, c1, c2, c3, k1, k2, k3, k4]
theorem hSet4 {W : World} {B : Nat} {u0 u1 u2 u3 : Value} {k : Nat} (h : ¬ k = B) : ((((W.setCell ⟨B, 0, none⟩ u0).setCell ⟨B, 1, none⟩ u1).setCell ⟨B, 2, none⟩ u2).setCell ⟨B, 3, none⟩ u3).heap[k]? = W.heap[k]? := by
  rw [hSet _ h, hSet _ h, hSet _ h, hSet _ h]
theorem bset4m {n C : Nat} {w W : World} (h : Below n w W) (hp : n ≤ C) (u0 u1 u2 u3 : Value) : Below n w ((((W.setCell ⟨C, 0, none⟩ u0).setCell ⟨C, 1, none⟩ u1).setCell ⟨C, 2, none⟩ u2).setCell ⟨C, 3, none⟩ u3) := (((h.setCell hp _).setCell hp _).setCell hp _).setCell hp _
/-- What is known between two rounds. -/
structure MtI (w : World) (F : Int) (v : Value) (x : BitVec 128) (bx : BitVec 128) (bn bh : Int) (W : World) : Prop where
  t : AtU W w.heap.size F v
  p : At W (w.heap.size + 1) x
  z : AtV W (w.heap.size + 2) 0#128 0 0
  b : AtV W (w.heap.size + 3) bx bn bh
  bel : Below w.heap.size w W
theorem MtI.below {w : World} {F : Int} {v : Value} {x : BitVec 128} {bx : BitVec 128} {bn bh : Int} {W W' : World} (k : MtI w F v x bx bn bh W) (hb : Below W.heap.size W W') : MtI w F v x bx bn bh W' :=
  ⟨k.t.heap (hb.block _ k.t.lt), k.p.below hb, k.z.heap (hb.block _ k.z.lt), k.b.heap (hb.block _ k.b.lt), keepb hb k.bel⟩
theorem MtI.take {w : World} {F : Int} {v : Value} {x : BitVec 128} {bx : BitVec 128} {bn bh : Int} {W : World} (k : MtI w F v x bx bn bh W) (y : BitVec 128) (m g : Int) : MtI w F v x y m g ((((W.setCell ⟨w.heap.size + 3, 0, none⟩ (.int .u64 (hI y))).setCell ⟨w.heap.size + 3, 1, none⟩ (.int .u64 (lI y))).setCell ⟨w.heap.size + 3, 2, none⟩ (.int .i64 m)).setCell ⟨w.heap.size + 3, 3, none⟩ (.int .i64 g)) := by
  have hb : Below W.heap.size W W := Below.refl _ _
  refine ⟨k.t.heap (hSet4 (by omega)), k.p.heap (hSet4 (by omega)) (by have := (bset4m (C := w.heap.size + 3) (Below.refl 0 W) (Nat.zero_le _) (.int .u64 (hI y)) (.int .u64 (lI y)) (.int .i64 m) (.int .i64 g)).size; exact this), k.z.heap (hSet4 (by omega)), k.b.set4 y m g, bset4m k.bel (by omega) _ _ _ _⟩
/-- What is known while one route is asked. -/
def MtC (P N B : Nat) (px : BitVec 128) (pn ph : Int) (x bx : BitVec 128) (bn bh : Int) (V W : World) : Prop := AtR W N px pn ph ∧ (W.cell? ⟨P, 0, none⟩ = some (.int .u64 (hI x)) ∧ W.cell? ⟨P, 1, none⟩ = some (.int .u64 (lI x))) ∧ AtR W B bx bn bh ∧ Below V.heap.size V W
theorem MtC.below {P N B : Nat} {px : BitVec 128} {pn ph : Int} {x bx : BitVec 128} {bn bh : Int} {V W W' : World} (k : MtC P N B px pn ph x bx bn bh V W) (hb : Below W.heap.size W W') : MtC P N B px pn ph x bx bn bh V W' := ⟨k.1.below hb, ⟨keepc hb k.2.1.1, keepc hb k.2.1.2⟩, k.2.2.1.below hb, keepb hb k.2.2.2⟩
theorem MtC.drew {P N B : Nat} {px : BitVec 128} {pn ph : Int} {x bx : BitVec 128} {bn bh : Int} {V W : World} (k : MtC P N B px pn ph x bx bn bh V W) : MtC P N B px pn ph x bx bn bh V W.drew := k.below (below_drewN (Below.refl _ _) 1)
/-- The match as it stands in memory. -/
def bX (o : Option Rte) : BitVec 128 := (o.map (·.1.1)).getD 0#128
def bN (o : Option Rte) : Int := (o.map (·.1.2)).getD 0
theorem mat_drop (x : BitVec 128) (b : Option Rte) (l : List Rte) (k : Nat) (hk : k < l.length) : mat x b (l.drop k) = mat x (if (hasR l[k] x && (b.all fun o => decide (o.1.2 < l[k].1.2))) = true then some l[k] else b) (l.drop (k + 1)) := by
  rw [List.drop_eq_getElem_cons hk]
  rfl
end Go.Proofs.Ytmeaikmmhgmgnaa
