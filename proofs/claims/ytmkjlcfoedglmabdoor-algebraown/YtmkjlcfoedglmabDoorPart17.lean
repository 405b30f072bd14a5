/-
  Part 17 of the proof: 2 texts, one behind the other.
-/
import Derived.Test.YtmkjlcfoedglmabDoorPart16
import Derived.Test.YtmkjlcfoedglmabDoorPart9
import Derived.Test.YtmkjlcfoedglmabDoorPart6
import Derived.Test.YtmkjlcfoedglmabDoorPart15
/-
  A sweep through a table's routes tells the right segments that say where each address goes.
-/
namespace Go.Proofs.YtmkjlcfoedglmabDoor
set_option linter.unusedSimpArgs false
set_option linter.unusedVariables false

/-- Whether a route has an address. -/
def hasR (o : Rte) (x : BitVec 128) : Bool := cutW x o.1.2 == o.1.1
/-- The next hop of the last route that has an address. -/
def look (x : BitVec 128) : Int → List Rte → Int
  | a, [] => a
  | a, r :: l => look x (if hasR r x = true then r.2 else a) l
theorem look_app (x : BitVec 128) : ∀ (l m : List Rte) (a : Int), look x a (l ++ m) = look x (look x a l) m
  | [], m, a => rfl
  | r :: l, m, a => by rw [List.cons_append, look, look, look_app x l m]
theorem look_none (x : BitVec 128) : ∀ (l : List Rte) (a : Int), (∀ r ∈ l, hasR r x = false) → look x a l = a
  | [], a, _ => rfl
  | r :: l, a, h => by
    rw [look, if_neg (by rw [h r (by simp)]; decide), look_none x l a (fun r hr => h r (List.mem_cons_of_mem _ hr))]
def oh (x : BitVec 128) : List Rte → Int
  | [] => 0
  | o :: os => if hasR o x = true then o.2 else oh x os
/-- A right route of a family, or the one that has all addresses. -/
def Ro (F : Int) (o : Rte) : Prop := Rt F o.1.1 o.1.2 ∧ 0 ≤ o.2 ∧ o.2 ≤ 65535
structure Tol (F : Int) (f : BitVec 128 → Int) (t : T3) : Prop where
  good : Good F t.2.2
  mo : moO F t.2.2.head? = !t.2.1
  nx : t.2.1 = false → nxO F t.2.2.head? = t.1 ∧ rightE F t.1 = 0
  says : Says F f t.2.2
theorem tell_ok (F : Int) (f : BitVec 128 → Int) (la : BitVec 128) (h : Int) (t : T3) (hT : Tol F f t) (hr : rightE F la = 0) (h0 : 0 ≤ h) (h1 : h ≤ 65535)
    (hs : t.2.1 = false → ∀ x, rightE F x = 0 → t.1.toNat ≤ x.toNat → x.toNat ≤ la.toNat → h = f x) : Tol F f (tell3 F la h t) := by
  unfold tell3
  by_cases he : t.2.1 = true
  · rw [if_pos he]; exact hT
  · rw [if_neg he]
    have he : t.2.1 = false := by simpa using he
    by_cases hc : cmpZ la t.1 < 0
    · rw [if_pos hc]; exact hT
    · rw [if_neg hc]
      rw [cmp_lt0] at hc
      obtain ⟨n1, n2⟩ := hT.nx he
      have hm := hT.mo
      rw [he] at hm
      have hs2 := hs he
      clear hs
      have hnr : nextB F la = true → rightE F (nextV F la) = 0 := fun hb => by
        obtain ⟨_, hf, _, h3⟩ := next_nat F la hb
        exact right_of F _ hf h3
      obtain ⟨nx, en, st⟩ := t
      simp only at n1 n2 hm hs2 hc he
      cases st with
      | nil =>
        refine ⟨⟨sgE_of F _ n2 hr h0 h1 (by simpa using hc), rfl, n1.symm, by simp, trivial⟩, ?_, ?_, ?_⟩
        · simp [behS, moO]
        · intro hb
          simp only [Bool.not_eq_false'] at hb
          exact ⟨rfl, hnr hb⟩
        · intro s hs' x hx h3 h4
          simp only [behS, List.mem_singleton] at hs'
          subst hs'
          exact hs2 x hx h3 h4
      | cons a st =>
        obtain ⟨g1, g2, g3, g4, g5⟩ := hT.good
        obtain ⟨a1, a2, a3, a4, a5⟩ := sgE_zero F a g1
        have en1 : nextV F a.1.2 = nx := n1
        have eb : nextB F a.1.2 = true := hm
        have hn := (next_nat F a.1.2 eb).1
        rw [en1] at hn
        have hp : 0 < 2 ^ (128 - F.toNat) := Nat.two_pow_pos _
        by_cases hh : a.2 = h
        · have e : behS (a :: st) ((nx, la), h) = ((a.1.1, la), a.2) :: st := by rw [behS, if_pos hh]
          simp only
          rw [e]
          refine ⟨⟨sgE_of F _ a1 hr a3 a4 (by simp only; omega), g2, g3, g4, g5⟩, ?_, ?_, ?_⟩
          · simp [moO]
          · intro hb
            simp only [Bool.not_eq_false'] at hb
            exact ⟨rfl, hnr hb⟩
          · intro s hs' x hx h3 h4
            rcases List.mem_cons.mp hs' with e | e
            · subst e
              simp only at h3 h4
              by_cases hx2 : x.toNat ≤ a.1.2.toNat
              · exact hT.says a (by simp) x hx h3 hx2
              · obtain ⟨-, k2, -, -⟩ := next_le F a.1.2 x a2 hx (by omega)
                rw [en1] at k2
                rw [← hs2 x hx k2 h4]
                exact hh
            · exact hT.says s (List.mem_cons_of_mem _ e) x hx h3 h4
        · have e : behS (a :: st) ((nx, la), h) = ((nx, la), h) :: a :: st := by rw [behS, if_neg hh]
          simp only
          rw [e]
          refine ⟨⟨sgE_of F _ n2 hr h0 h1 (by simpa using hc), eb, en1.symm, by simpa using hh, hT.good⟩, ?_, ?_, ?_⟩
          · simp [moO]
          · intro hb
            simp only [Bool.not_eq_false'] at hb
            exact ⟨rfl, hnr hb⟩
          · intro s hs' x hx h3 h4
            rcases List.mem_cons.mp hs' with e | e
            · subst e
              exact hs2 x hx h3 h4
            · exact hT.says s e x hx h3 h4
/-- What stands open, and what is told, when some routes are gone through and others are not. -/
structure Inv (F : Int) (f : BitVec 128 → Int) (P op L : List Rte) (t : T3) : Prop where
  tol : Tol F f t
  ro : ∀ o ∈ op, Ro F o
  at0 : t.2.1 = false → ∀ o ∈ op, o.1.1.toNat ≤ t.1.toNat
  oh : t.2.1 = false → ∀ x, rightE F x = 0 → t.1.toNat ≤ x.toNat → look x 0 P = oh x op
  ord : ∀ o ∈ op, ∀ r ∈ L, pcmpZ o.1.1 o.1.2 r.1.1 r.1.2 ≤ 0
theorem last_right (F : Int) (o : Rte) (hf : fam F = true) (h : Ro F o) : rightE F (lastW F o.1.1 o.1.2) = 0 := right_of F _ hf (last_fam F _ _ h.1)
theorem hasR_ends (F : Int) (o : Rte) (hf : fam F = true) (h : Ro F o) (x : BitVec 128) (hx : rightE F x = 0) : hasR o x = true ↔ (o.1.1.toNat ≤ x.toNat ∧ x.toNat ≤ (lastW F o.1.1 o.1.2).toNat) := by
  obtain ⟨_, hc⟩ := right0 F x hx
  rw [← has_ends F _ _ h.1 x hc]
  unfold hasR
  simp
theorem look_ahead (F : Int) (hf : fam F = true) (P L : List Rte) (x : BitVec 128) (hx : rightE F x = 0) (hL : ∀ r ∈ L, Ro F r) (h : ∀ r ∈ L, x.toNat < r.1.1.toNat) : look x 0 (P ++ L) = look x 0 P := by
  rw [look_app, look_none]
  intro r hr
  have := h r hr
  have e := hasR_ends F r hf (hL r hr) x hx
  cases q : hasR r x with
  | false => rfl
  | true => have := e.mp q; omega
/-- The inner route is left: what it has yet is told. -/
theorem inv_leave (F : Int) (hf : fam F = true) (l P L os : List Rte) (o : Rte) (t : T3) (hl : l = P ++ L) (hL : ∀ r ∈ L, Ro F r) (h : Inv F (fun x => look x 0 l) P (o :: os) L t) (hw : ∀ r ∈ L, (lastW F o.1.1 o.1.2).toNat < r.1.1.toNat) :
    Inv F (fun x => look x 0 l) P os L (tell3 F (lastW F o.1.1 o.1.2) o.2 t) := by
  have ro := h.ro o (by simp)
  have lr := last_right F o hf ro
  have key : t.2.1 = false → ∀ x, rightE F x = 0 → t.1.toNat ≤ x.toNat → x.toNat ≤ (lastW F o.1.1 o.1.2).toNat → o.2 = look x 0 l := by
    intro he x hx h1 h2
    rw [hl, look_ahead F hf P L x hx hL (fun r hr => by have := hw r hr; omega), h.oh he x hx h1, oh, if_pos ((hasR_ends F o hf ro x hx).mpr ⟨by have := h.at0 he o (by simp); omega, h2⟩)]
  refine ⟨tell_ok F _ _ _ t h.tol lr ro.2.1 ro.2.2 key, fun q hq => h.ro q (List.mem_cons_of_mem _ hq), ?_, ?_, fun q hq => h.ord q (List.mem_cons_of_mem _ hq)⟩
  · unfold tell3
    by_cases he : t.2.1 = true
    · rw [if_pos he]; intro hc; rw [he] at hc; cases hc
    · rw [if_neg he]
      have he : t.2.1 = false := by simpa using he
      by_cases hc : cmpZ (lastW F o.1.1 o.1.2) t.1 < 0
      · rw [if_pos hc]; exact fun e q hq => h.at0 e q (List.mem_cons_of_mem _ hq)
      · rw [if_neg hc]
        rw [cmp_lt0] at hc
        intro hb q hq
        simp only [Bool.not_eq_false'] at hb
        have := (next_nat F _ hb).1
        have hp : 0 < 2 ^ (128 - F.toNat) := Nat.two_pow_pos _
        have := h.at0 he q (List.mem_cons_of_mem _ hq)
        simp only
        omega
  · have gone : ∀ x, rightE F x = 0 → (lastW F o.1.1 o.1.2).toNat < x.toNat → oh x (o :: os) = oh x os := by
      intro x hx h2
      rw [oh, if_neg]
      intro q
      have := (hasR_ends F o hf ro x hx).mp q
      omega
    unfold tell3
    by_cases he : t.2.1 = true
    · rw [if_pos he]; intro hc; rw [he] at hc; cases hc
    · rw [if_neg he]
      have he : t.2.1 = false := by simpa using he
      by_cases hc : cmpZ (lastW F o.1.1 o.1.2) t.1 < 0
      · rw [if_pos hc]
        rw [cmp_lt0] at hc
        intro e x hx h1
        rw [h.oh e x hx h1, gone x hx (by omega)]
      · rw [if_neg hc]
        rw [cmp_lt0] at hc
        intro hb x hx h1
        simp only [Bool.not_eq_false'] at hb
        have hn := (next_nat F _ hb).1
        have hp : 0 < 2 ^ (128 - F.toNat) := Nat.two_pow_pos _
        simp only at h1
        rw [h.oh he x hx (by omega), gone x hx (by omega)]
/-- A route that another one does not lie within, behind it in order, lies behind its last address. -/
theorem not_in (F : Int) (o r : Rte) (ho : Ro F o) (hr : Ro F r) (h : pcmpZ o.1.1 o.1.2 r.1.1 r.1.2 ≤ 0) (hw : ¬ withinB r.1.1 r.1.2 o.1.1 o.1.2 = true) : (lastW F o.1.1 o.1.2).toNat < r.1.1.toNat := by
  have hw : withinB r.1.1 r.1.2 o.1.1 o.1.2 = false := by simpa using hw
  have h := (pcmp_le _ _ _ _).mp h
  have e1 : r.1.1.toNat ≤ (lastW F r.1.1 r.1.2).toNat := le_last F _ _ hr.1 _ (rt_fam F _ _ hr.1) hr.1.2.2
  have h' : o.1.1.toNat ≤ r.1.1.toNat := by
    rcases h with h | ⟨h, _⟩
    · omega
    · rw [h]; exact Nat.le_refl _
  by_cases hn : o.1.2 ≤ r.1.2
  · rcases apart_of F _ _ _ _ ho.1 hr.1 hn hw with q | q
    · exact q
    · omega
  · have hw2 : withinB o.1.1 o.1.2 r.1.1 r.1.2 = false := by
      cases q : withinB o.1.1 o.1.2 r.1.1 r.1.2 with
      | false => rfl
      | true =>
        obtain ⟨_, q⟩ := (within_iff _ _ _ _).mp q
        have q2 := cut_le o.1.1 r.1.2
        rw [q] at q2
        rcases h with h | ⟨_, h⟩ <;> omega
    rcases apart_of F _ _ _ _ hr.1 ho.1 (by omega) hw2 with q | q
    · omega
    · exact q
theorem pcmp_first (o r : Rte) (h : pcmpZ o.1.1 o.1.2 r.1.1 r.1.2 ≤ 0) : o.1.1.toNat ≤ r.1.1.toNat := by
  rcases (pcmp_le _ _ _ _).mp h with h | ⟨h, _⟩
  · omega
  · rw [h]; exact Nat.le_refl _
theorem inv_pop (F : Int) (hf : fam F = true) (l P L : List Rte) (r : Rte) (hl : l = P ++ r :: L) (hL : ∀ q ∈ r :: L, Ro F q) (hO : ∀ q ∈ L, r.1.1.toNat ≤ q.1.1.toNat) : ∀ (op : List Rte) (t : T3), Bot op → Inv F (fun x => look x 0 l) P op (r :: L) t → t.2.1 = false → t.1.toNat ≤ r.1.1.toNat →
    Inv F (fun x => look x 0 l) P (popO r op) (r :: L) (popT F r op t) ∧ (popT F r op t).2.1 = false ∧ (popT F r op t).1.toNat ≤ r.1.1.toNat ∧ ∃ o os, popO r op = o :: os ∧ withinB r.1.1 r.1.2 o.1.1 o.1.2 = true
  | [], t, hb, h, he, hn => absurd rfl hb.ne
  | o :: os, t, hb, h, he, hn => by
    rw [popO, popT]
    by_cases hw : withinB r.1.1 r.1.2 o.1.1 o.1.2 = true
    · rw [if_pos hw, if_pos hw]
      exact ⟨h, he, hn, o, os, rfl, hw⟩
    · rw [if_neg hw, if_neg hw]
      have ro := h.ro o (by simp)
      have rr := hL r (by simp)
      have hlt := not_in F o r ro rr (h.ord o (by simp) r (by simp)) hw
      have lr := last_right F o hf ro
      obtain ⟨_, frr⟩ := And.intro trivial (right_of F r.1.1 hf (rt_fam F _ _ rr.1))
      obtain ⟨n1, n2, n3, n4⟩ := next_le F _ _ lr frr hlt
      have hi := inv_leave F hf l P (r :: L) os o t hl hL h (fun q hq => by
        rcases List.mem_cons.mp hq with e | e
        · rw [e]; exact hlt
        · have := hO q e; omega)
      refine inv_pop F hf l P L r hl hL hO os _ (hb.tl r rr.1.1 hw) hi ?_ ?_
      · unfold tell3
        rw [if_neg (by rw [he]; decide)]
        split
        · exact he
        · simp [n1]
      · unfold tell3
        rw [if_neg (by rw [he]; decide)]
        split
        · exact hn
        · exact n2
theorem prev_all (F : Int) (x : BitVec 128) (hx : rightE F x = 0) : (prevB F x = true ∧ rightE F (prevV F x) = 0 ∧ (prevV F x).toNat < x.toNat ∧ nextB F (prevV F x) = true ∧ nextV F (prevV F x) = x) ∨ (prevB F x = false ∧ x = 0#128) := by
  obtain ⟨hf, hc⟩ := right0 F x hx
  have hs := step_nat F hf
  have hp : 0 < 2 ^ (128 - F.toNat) := Nat.two_pow_pos _
  cases hb : prevB F x with
  | false =>
    right
    refine ⟨rfl, ?_⟩
    unfold prevB underB at hb
    rw [hx, hs] at hb
    simp at hb
    obtain ⟨a, ha⟩ := right_dvd F x hx
    apply BitVec.eq_of_toNat_eq
    cases a with
    | zero => rw [ha]; rfl
    | succ a =>
      exfalso
      have : 2 ^ (128 - F.toNat) * (a + 1) = 2 ^ (128 - F.toNat) * a + 2 ^ (128 - F.toNat) := by rw [Nat.mul_add, Nat.mul_one]
      omega
  | true =>
    left
    have hu : ¬ x.toNat < 2 ^ (128 - F.toNat) := by
      intro q
      unfold prevB underB at hb
      rw [hx, hs] at hb
      simp at hb
      omega
    have hv : prevV F x = x - stepW F := by unfold prevV; rw [if_pos hb]
    have hn : (prevV F x).toNat = x.toNat - 2 ^ (128 - F.toNat) := by
      rw [hv, BitVec.toNat_sub, hs]
      have := x.isLt
      rw [show 2 ^ 128 - 2 ^ (128 - F.toNat) + x.toNat = 2 ^ 128 + (x.toNat - 2 ^ (128 - F.toNat)) by omega, Nat.add_mod_left]
      exact Nat.mod_eq_of_lt (by omega)
    have hr : rightE F (prevV F x) = 0 := by
      apply right_of F _ hf
      rw [cut_dvd, hn]
      exact Nat.dvd_sub (right_dvd F x hx) (Nat.dvd_refl _)
    obtain ⟨n1, n2, n3, n4⟩ := next_le F _ x hr hx (by omega)
    refine ⟨rfl, hr, by omega, n1, ?_⟩
    apply BitVec.eq_of_toNat_eq
    rw [(next_nat F _ n1).1]
    omega
/-- A route is opened: what lies ahead of it is told. -/
theorem inv_enter (F : Int) (hf : fam F = true) (l P L os : List Rte) (r o : Rte) (t : T3) (hl : l = P ++ r :: L) (hL : ∀ q ∈ r :: L, Ro F q) (hO : ∀ q ∈ L, pcmpZ r.1.1 r.1.2 q.1.1 q.1.2 ≤ 0) (h : Inv F (fun x => look x 0 l) P (o :: os) (r :: L) t) (he : t.2.1 = false) (hn : t.1.toNat ≤ r.1.1.toNat) (hw : withinB r.1.1 r.1.2 o.1.1 o.1.2 = true) :
    Inv F (fun x => look x 0 l) (P ++ [r]) (r :: o :: os) L (entT F r o.2 t) ∧ (entT F r o.2 t).2.1 = false ∧ (entT F r o.2 t).1 = r.1.1 := by
  have rr := hL r (by simp)
  have ro := h.ro o (by simp)
  have fr := right_of F r.1.1 hf (rt_fam F _ _ rr.1)
  obtain ⟨n1, n2⟩ := h.tol.nx he
  have hro : r.1.1.toNat ≤ (lastW F o.1.1 o.1.2).toNat := by
    obtain ⟨_, q⟩ := (within_iff _ _ _ _).mp hw
    exact le_last F _ _ ro.1 _ (rt_fam F _ _ rr.1) q
  have hL0 : ∀ q ∈ r :: L, r.1.1.toNat ≤ q.1.1.toNat := fun q hq => by
    rcases List.mem_cons.mp hq with e | e
    · rw [e]; exact Nat.le_refl _
    · exact pcmp_first r q (hO q e)
  have key : ∀ x, rightE F x = 0 → t.1.toNat ≤ x.toNat → x.toNat < r.1.1.toNat → o.2 = look x 0 l := by
    intro x hx h1 h2
    rw [hl, look_ahead F hf P (r :: L) x hx hL (fun q hq => by have := hL0 q hq; omega), h.oh he x hx h1, oh, if_pos ((hasR_ends F o hf ro x hx).mpr ⟨by have := h.at0 he o (by simp); omega, by omega⟩)]
  have fin : ∀ T : T3, Tol F (fun x => look x 0 l) T → T.2.1 = false → T.1 = r.1.1 → Inv F (fun x => look x 0 l) (P ++ [r]) (r :: o :: os) L T ∧ T.2.1 = false ∧ T.1 = r.1.1 := by
    intro T hT hTe hT1
    refine ⟨⟨hT, ?_, ?_, ?_, ?_⟩, hTe, hT1⟩
    · intro q hq
      rcases List.mem_cons.mp hq with e | e
      · rw [e]; exact rr
      · exact h.ro q e
    · intro _ q hq
      rw [hT1]
      rcases List.mem_cons.mp hq with e | e
      · rw [e]; exact Nat.le_refl _
      · have := h.at0 he q e; omega
    · intro _ x hx h1
      rw [hT1] at h1
      rw [look_app, look, look, Go.Proofs.YtmkjlcfoedglmabDoor.oh]
      split
      · rfl
      · exact h.oh he x hx (by omega)
    · intro q hq q' hq'
      rcases List.mem_cons.mp hq with e | e
      · rw [e]; exact hO q' hq'
      · exact h.ord q e q' (List.mem_cons_of_mem _ hq')
  unfold entT
  rcases prev_all F r.1.1 fr with ⟨p1, p2, p3, p4, p5⟩ | ⟨p1, p2⟩
  · rw [if_pos p1]
    refine fin _ (tell_ok F _ _ _ t h.tol p2 ro.2.1 ro.2.2 (fun _ x hx h1 h2 => key x hx h1 (by omega))) ?_ ?_
    · unfold tell3
      rw [if_neg (by rw [he]; decide)]
      split
      · exact he
      · simp [p4]
    · unfold tell3
      rw [if_neg (by rw [he]; decide)]
      split
      · rename_i hc
        rw [cmp_lt0] at hc
        obtain ⟨k1, k2, k3, k4⟩ := next_le F _ t.1 p2 n2 hc
        rw [p5] at k2
        exact BitVec.eq_of_toNat_eq (by omega)
      · exact p5
  · rw [if_neg (by rw [p1]; decide)]
    refine fin t h.tol he ?_
    rw [p2] at hn
    rw [p2]
    exact BitVec.eq_of_toNat_eq (by simpa using hn)
theorem mask_end (F : Int) (hf : fam F = true) : lastW F 0#128 0 = maskW F ∧ nextB F (maskW F) = false := by
  rcases fam_ways F hf with rfl | rfl <;> decide +kernel
theorem end_ok (F : Int) (hf : fam F = true) (l : List Rte) : ∀ (op : List Rte) (t : T3), Bot op → Inv F (fun x => look x 0 l) l op [] t → Tol F (fun x => look x 0 l) (endT F op t) ∧ (endT F op t).2.1 = true
  | [], t, hb, h => absurd rfl hb.ne
  | o :: os, t, hb, h => by
    rw [endT]
    have hi := inv_leave F hf l l [] os o t (by simp) (fun q hq => by cases hq) h (fun q hq => by cases hq)
    cases os with
    | nil =>
      have e : o = ((0#128, 0), 0) := by
        obtain ⟨k, e⟩ := hb
        cases k with
        | nil => exact (List.cons.inj e).1
        | cons a k =>
          have := congrArg List.length e
          simp [op0] at this
      refine ⟨hi.tol, ?_⟩
      subst e
      rw [endT]
      unfold tell3
      by_cases he : t.2.1 = true
      · rw [if_pos he]; exact he
      · rw [if_neg he]
        have he : t.2.1 = false := by simpa using he
        obtain ⟨_, n2⟩ := h.tol.nx he
        simp only
        rw [(mask_end F hf).1, if_neg (by rw [cmp_lt0]; have := right_max F _ n2; omega)]
        simp [(mask_end F hf).2]
    | cons a os =>
      refine end_ok F hf l (a :: os) _ ?_ hi
      obtain ⟨k, e⟩ := hb
      cases k with
      | nil =>
        have := congrArg List.length e
        simp [op0] at this
      | cons b k => exact ⟨k, (List.cons.inj e).2⟩
theorem swp_inv (F : Int) (hf : fam F = true) (l : List Rte) : ∀ (L P op : List Rte) (t : T3), l = P ++ L → (∀ q ∈ L, Ro F q) → L.Pairwise (fun a b => pcmpZ a.1.1 a.1.2 b.1.1 b.1.2 < 0) → Bot op → Inv F (fun x => look x 0 l) P op L t → (L ≠ [] → t.2.1 = false ∧ ∀ r ∈ L, t.1.toNat ≤ r.1.1.toNat) →
    Tol F (fun x => look x 0 l) (swpGo F op t L) ∧ (swpGo F op t L).2.1 = true
  | [], P, op, t, hl, hL, hO, hb, h, hn => by
    rw [swpGo]
    have e : l = P := by simpa using hl
    rw [← e] at h
    exact end_ok F hf l op t hb h
  | r :: L, P, op, t, hl, hL, hO, hb, h, hn => by
    rw [swpGo]
    obtain ⟨he, hn⟩ := hn (by simp)
    obtain ⟨o1, o2⟩ := List.pairwise_cons.mp hO
    have o1' : ∀ q ∈ L, pcmpZ r.1.1 r.1.2 q.1.1 q.1.2 ≤ 0 := fun q hq => Int.le_of_lt (o1 q hq)
    obtain ⟨hi, e1, e2, o, os, e3, hw⟩ := inv_pop F hf l P L r hl hL (fun q hq => pcmp_first r q (o1' q hq)) op t hb h he (hn r (by simp))
    have hb2 := hb.pop r (hL r (by simp)).1.1
    rw [e3] at hi hb2 ⊢
    obtain ⟨j1, j2, j3⟩ := inv_enter F hf l P L os r o _ hl hL o1' hi e1 e2 hw
    refine swp_inv F hf l L (P ++ [r]) (r :: o :: os) _ (by rw [hl]; simp) (fun q hq => hL q (List.mem_cons_of_mem _ hq)) o2 ?_ j1 (fun _ => ⟨j2, fun q hq => ?_⟩)
    · obtain ⟨k, e⟩ := hb2
      exact ⟨r :: k, by rw [e]; rfl⟩
    · show (entT F r o.2 _).1.toNat ≤ _
      rw [j3]
      exact pcmp_first r q (o1' q hq)
/-- The segments of a right table. -/
theorem swp_right (F : Int) (hf : fam F = true) (l : List Rte) (hL : ∀ q ∈ l, Ro F q) (hO : l.Pairwise (fun a b => pcmpZ a.1.1 a.1.2 b.1.1 b.1.2 < 0)) : sgsGo F none (swp F l) = 0 ∧ Says F (fun x => look x 0 l) (swp F l) := by
  have z : rightE F 0#128 = 0 := by unfold rightE; rw [if_pos hf, if_pos BitVec.zero_and]
  have r0 : Ro F ((0#128, 0), 0) := by
    refine ⟨?_, by decide, by decide⟩
    have := fam_bd F hf
    exact ⟨by decide, by simp only; omega, by simp [cutW]⟩
  obtain ⟨hT, he⟩ := swp_inv F hf l l [] op0 t30 (by simp) hL hO ⟨[], rfl⟩
    ⟨⟨trivial, rfl, fun _ => ⟨rfl, z⟩, fun s hs => by cases hs⟩, fun o ho => by
      have : o = ((0#128, 0), 0) := by simpa [op0] using ho
      rw [this]; exact r0, fun _ o ho => by
      have : o = ((0#128, 0), 0) := by simpa [op0] using ho
      rw [this]; exact Nat.zero_le _, fun _ x hx _ => by simp [look, op0, oh], fun o ho r hr => by
      have : o = ((0#128, 0), 0) := by simpa [op0] using ho
      rw [this, pcmp_le]
      by_cases q : r.1.1 = 0#128
      · exact .inr ⟨q.symm, (hL r hr).1.1⟩
      · left
        have : r.1.1.toNat ≠ 0 := fun e => q (BitVec.eq_of_toNat_eq e)
        simp only [BitVec.toNat_zero, BitVec.toNat_ofNat, Nat.zero_mod]
        omega⟩ (fun _ => ⟨rfl, fun r _ => Nat.zero_le _⟩)
  unfold swp
  constructor
  · have := good_go F (swpGo F op0 t30 l).2.2 [] hT.good
    rw [List.append_nil] at this
    rw [this, sgsGo, hT.mo, he]
    rfl
  · intro s hs
    exact hT.says s (List.mem_reverse.mp hs)
end Go.Proofs.YtmkjlcfoedglmabDoor
/-
  What the calls of package table's Check and of package algebra's Segs do.
-/
namespace Go.Proofs.YtmkjlcfoedglmabDoor
open Go.RowKit
set_option linter.unusedSimpArgs false
set_option linter.unusedVariables false

/-- What Check reads of two routes beside one another. -/
def T6 (w : World) (F : Int) (v : Value) (b oa ob : Nat) (ax : BitVec 128) (an ah : Int) (bx : BitVec 128) (bn bh : Int) (W : World) : Prop := AtT W w.heap.size F v ∧ (W.cell? ⟨b, oa, none⟩ = some (.int .u64 (hI ax)) ∧ W.cell? ⟨b, oa + 1, none⟩ = some (.int .u64 (lI ax)) ∧ W.cell? ⟨b, oa + 2, none⟩ = some (.int .i64 an) ∧ W.cell? ⟨b, oa + 3, none⟩ = some (.int .i64 ah)) ∧ (W.cell? ⟨b, ob, none⟩ = some (.int .u64 (hI bx)) ∧ W.cell? ⟨b, ob + 1, none⟩ = some (.int .u64 (lI bx)) ∧ W.cell? ⟨b, ob + 2, none⟩ = some (.int .i64 bn) ∧ W.cell? ⟨b, ob + 3, none⟩ = some (.int .i64 bh)) ∧ Below w.heap.size w W
theorem T6.below {w W W' : World} {F : Int} {v : Value} {b oa ob : Nat} {ax : BitVec 128} {an ah : Int} {bx : BitVec 128} {bn bh : Int} (k : T6 w F v b oa ob ax an ah bx bn bh W) (hb : Below W.heap.size W W') : T6 w F v b oa ob ax an ah bx bn bh W' :=
  ⟨k.1.below hb, ⟨keepc hb k.2.1.1, keepc hb k.2.1.2.1, keepc hb k.2.1.2.2.1, keepc hb k.2.1.2.2.2⟩, ⟨keepc hb k.2.2.1.1, keepc hb k.2.2.1.2.1, keepc hb k.2.2.1.2.2.1, keepc hb k.2.2.1.2.2.2⟩, keepb hb k.2.2.2⟩
set_option maxRecDepth 20000 in
set_option maxHeartbeats 8000000 in
theorem tcheck_any (F : Int) (v : Value) (l : List Rte) (w : World) (hv : RwR w v l) :
    Calls Tryd.prog 31 #[.agg #[.int .i64 F, v]] w fun e w' => (∃ z, TabE F l z ∧ e = .returned (.int .i64 z)) ∧ Below w.heap.size w w' := by
  have b0 := bl1 w (.cells #[.int .i64 F, v] 24)
  have KC := checkRoutes_any F v l _ (hv.below b0)
  obtain ⟨ao, c, rfl, hv⟩ := hv
  have HT := hidR (att_new w w.heap.size F (.slice ao l.length c) 24 rfl)
  obtain ⟨t0, t1⟩ := HT.out
  have HV := hidR hv
  have HB := hidR b0
  have HE : Hid (∀ z, (rtsE F l ≠ 0 → z = rtsE F l) ∧ (rtsE F l = 0 → (Adj l ∧ z = 0) ∨ (¬ Adj l ∧ z = 19)) → TabE F l z) := hidR (fun z h => h)
  have HL : Hid (rtsE F l = 0 → l.length ≤ 1048576) := hidR (fun h => by
    unfold rtsE at h
    split at h
    · split at h
      · omega
      · omega
    · omega)
  clear hv b0
  revert KC HE HL
  generalize rtsE F l = ce
  intro KC HE HL
  go_enter Tryd.func31, Tryd.ntmps31
  go_wp2_with fail
  refine KC.mono ?_
  rintro e w1 ⟨rfl, hb⟩
  have HB1 := hidR (keepb hb HB.out)
  have HT1 := hidR (HT.out.below hb)
  clear KC hb t0 t1 HB HT
  by_cases hce : ce = 0
  · subst hce
    have hll := HL.out rfl
    have HE1 : Hid (∀ z, (Adj l ∧ z = 0) ∨ (¬ Adj l ∧ z = 19) → TabE F l z) := hidR (fun z h => HE.out z ⟨fun h0 => absurd rfl h0, fun _ => h⟩)
    clear HL HE
    go_wp2_with fail
    go_loopw [4] (fun i wr => ∃ k : Nat, 1 ≤ k ∧ (k ≤ l.length ∨ k = 1) ∧ i = .int .i64 k ∧ Hid (∀ (a : Nat) (h : a + 1 < l.length), a + 1 < k → pcmpZ l[a].1.1 l[a].1.2 l[a + 1].1.1 l[a + 1].1.2 < 0) ∧ Hid (AtT wr w.heap.size F (.slice ao l.length c)) ∧ Hid (Below w.heap.size w wr)) (fun i _ => l.length - (intOf i).toNat)
    case atStart => exact ⟨1, by omega, .inr rfl, rfl, hidR (fun a h h2 => by omega), HT1, HB1⟩
    case round =>
      clear HT1 HB1
      obtain ⟨k, hk1, hk2, rfl, HG, HT, HB⟩ := hrel
      obtain ⟨t0, t1⟩ := HT.out
      by_cases hlt : (k : Int) < (l.length : Int)
      · have hks : k < l.length := by omega
        obtain ⟨j, hj⟩ : ∃ j, j + 1 = k := ⟨k - 1, by omega⟩
        have hjs : j < l.length := by omega
        rcases HV.out with h | ⟨b, off, rfl, hc⟩
        · rw [h] at hks; simp at hks
        · obtain ⟨x0, x1, x2, x3⟩ := rwr_cells hc j hjs
          obtain ⟨y0, y1, y2, y3⟩ := rwr_cells hc k hks
          have HC := hidR (⟨HT.out, ⟨keepc HB.out x0, keepc HB.out x1, keepc HB.out x2, keepc HB.out x3⟩, ⟨keepc HB.out y0, keepc HB.out y1, keepc HB.out y2, keepc HB.out y3⟩, HB.out⟩ : T6 w F (.slice (some ⟨b, off, none⟩) l.length c) b (off + j * 4) (off + k * 4) l[j].1.1 l[j].1.2 l[j].2 l[k].1.1 l[k].1.2 l[k].2 wr)
          have KB := fun w => byPrefix_any l[j].1.1 l[j].1.2 l[j].2 l[k].1.1 l[k].1.2 l[k].2 w
          have HA : Hid ((Adj l → pcmpZ l[j].1.1 l[j].1.2 l[k].1.1 l[k].1.2 < 0) ∧ (pcmpZ l[j].1.1 l[j].1.2 l[k].1.1 l[k].1.2 < 0 → ∀ (a : Nat) (h : a + 1 < l.length), a + 1 < k + 1 → pcmpZ l[a].1.1 l[a].1.2 l[a + 1].1.1 l[a + 1].1.2 < 0)) := hidR (by
            subst hj
            refine ⟨fun hA => hA j hks, fun h a ha ha2 => ?_⟩
            by_cases e : a = j
            · subst e; exact h
            · exact HG.out a ha (by omega))
          have m1 : IntKind.i64.wrap ((k : Int) - 1) = (j : Int) := by rw [IntKind.wrap_i64]; omega
          have m2 : IntKind.i64.wrap ((k : Int) + 1) = (k : Int) + 1 := by rw [IntKind.wrap_i64]; omega
          have i1 : (0 : Int) ≤ (j : Int) := by omega
          have i2 : (j : Int) < (l.length : Int) := by omega
          clear x0 x1 x2 x3 y0 y1 y2 y3 hc HV HT HB hj
          revert KB HA HC
          generalize pcmpZ l[j].1.1 l[j].1.2 l[k].1.1 l[k].1.2 = z
          generalize l[j].1.1 = ax
          generalize l[j].1.2 = an
          generalize l[j].2 = ah
          generalize l[k].1.1 = bx
          generalize l[k].1.2 = bn
          generalize l[k].2 = bh
          intro HC KB HA
          have HAo := hidR HA.out
          by_cases hz : 0 ≤ z
          · have HN : Hid (¬ Adj l) := hidR (fun h => by have := HA.out.1 h; omega)
            go_wp2_with fail
            refine q_region (C := T6 w F (.slice (some ⟨b, off, none⟩) l.length c) b (off + j * 4) (off + k * 4) ax an ah bx bn bh) (by kernel_rfl) (by kernel_rfl) (T6.below HC.out (below_drewN (Below.refl _ _) 1)) ?_
            clear HC HA HG
            refine q_run (v := .pointer (some ⟨w.heap.size, 1, none⟩)) (by rfl) ?_ ?_
            · (intro w1 hC; obtain ⟨⟨t0, t1⟩, ⟨y0, y1, y2, y3⟩, ⟨z0, z1, z2, z3⟩, -⟩ := hC; go_simp; first | done | (simp; done) | (simp [*]; done) | omega | (simp; omega) | (rw [IntKind.wrap_i64]; omega) | (intro hx; omega) | rfl)
            simp only [Act.put, List.setIfInBounds_toArray, List.set_cons_zero, List.set_cons_succ]
            refine q_run (v := .slice (some ⟨b, off, none⟩) l.length c) (by rfl) ?_ ?_
            · (intro w1 hC; obtain ⟨⟨t0, t1⟩, ⟨y0, y1, y2, y3⟩, ⟨z0, z1, z2, z3⟩, -⟩ := hC; go_simp; first | done | (simp; done) | (simp [*]; done) | omega | (simp; omega) | (rw [IntKind.wrap_i64]; omega) | (intro hx; omega) | rfl)
            simp only [Act.put, List.setIfInBounds_toArray, List.set_cons_zero, List.set_cons_succ]
            refine q_run (v := .int .i64 (k : Int)) (by rfl) ?_ ?_
            · (intro w1 hC; obtain ⟨⟨t0, t1⟩, ⟨y0, y1, y2, y3⟩, ⟨z0, z1, z2, z3⟩, -⟩ := hC; go_simp; first | done | (simp; done) | (simp [*]; done) | omega | (simp; omega) | (rw [IntKind.wrap_i64]; omega) | (intro hx; omega) | rfl)
            simp only [Act.put, List.setIfInBounds_toArray, List.set_cons_zero, List.set_cons_succ]
            refine q_run (v := .int .i64 (j : Int)) (by rfl) ?_ ?_
            · (intro w1 hC; obtain ⟨⟨t0, t1⟩, ⟨y0, y1, y2, y3⟩, ⟨z0, z1, z2, z3⟩, -⟩ := hC; go_simp; first | done | (simp; done) | (simp [*]; done) | omega | (simp; omega) | (rw [IntKind.wrap_i64]; omega) | (intro hx; omega) | rfl)
            simp only [Act.put, List.setIfInBounds_toArray, List.set_cons_zero, List.set_cons_succ]
            refine q_run (v := .pointer (some ⟨b, off + j * 4, none⟩)) (by rfl) ?_ ?_
            · (intro w1 hC; obtain ⟨⟨t0, t1⟩, ⟨y0, y1, y2, y3⟩, ⟨z0, z1, z2, z3⟩, -⟩ := hC; go_simp; first | done | (simp; done) | (simp [*]; done) | omega | (simp; omega) | (rw [IntKind.wrap_i64]; omega) | (intro hx; omega) | rfl)
            simp only [Act.put, List.setIfInBounds_toArray, List.set_cons_zero, List.set_cons_succ]
            refine q_run (v := .agg #[.int .u64 (hI ax), .int .u64 (lI ax), .int .i64 an, .int .i64 ah]) (by rfl) ?_ ?_
            · (intro w1 hC; obtain ⟨⟨t0, t1⟩, ⟨y0, y1, y2, y3⟩, ⟨z0, z1, z2, z3⟩, -⟩ := hC; go_simp; first | done | (simp; done) | (simp [*]; done) | omega | (simp; omega) | (rw [IntKind.wrap_i64]; omega) | (intro hx; omega) | rfl)
            simp only [Act.put, List.setIfInBounds_toArray, List.set_cons_zero, List.set_cons_succ]
            refine q_run (v := .pointer (some ⟨w.heap.size, 1, none⟩)) (by rfl) ?_ ?_
            · (intro w1 hC; obtain ⟨⟨t0, t1⟩, ⟨y0, y1, y2, y3⟩, ⟨z0, z1, z2, z3⟩, -⟩ := hC; go_simp; first | done | (simp; done) | (simp [*]; done) | omega | (simp; omega) | (rw [IntKind.wrap_i64]; omega) | (intro hx; omega) | rfl)
            simp only [Act.put, List.setIfInBounds_toArray, List.set_cons_zero, List.set_cons_succ]
            refine q_run (v := .slice (some ⟨b, off, none⟩) l.length c) (by rfl) ?_ ?_
            · (intro w1 hC; obtain ⟨⟨t0, t1⟩, ⟨y0, y1, y2, y3⟩, ⟨z0, z1, z2, z3⟩, -⟩ := hC; go_simp; first | done | (simp; done) | (simp [*]; done) | omega | (simp; omega) | (rw [IntKind.wrap_i64]; omega) | (intro hx; omega) | rfl)
            simp only [Act.put, List.setIfInBounds_toArray, List.set_cons_zero, List.set_cons_succ]
            refine q_run (v := .int .i64 (k : Int)) (by rfl) ?_ ?_
            · (intro w1 hC; obtain ⟨⟨t0, t1⟩, ⟨y0, y1, y2, y3⟩, ⟨z0, z1, z2, z3⟩, -⟩ := hC; go_simp; first | done | (simp; done) | (simp [*]; done) | omega | (simp; omega) | (rw [IntKind.wrap_i64]; omega) | (intro hx; omega) | rfl)
            simp only [Act.put, List.setIfInBounds_toArray, List.set_cons_zero, List.set_cons_succ]
            refine q_run (v := .pointer (some ⟨b, off + k * 4, none⟩)) (by rfl) ?_ ?_
            · (intro w1 hC; obtain ⟨⟨t0, t1⟩, ⟨y0, y1, y2, y3⟩, ⟨z0, z1, z2, z3⟩, -⟩ := hC; go_simp; first | done | (simp; done) | (simp [*]; done) | omega | (simp; omega) | (rw [IntKind.wrap_i64]; omega) | (intro hx; omega) | rfl)
            simp only [Act.put, List.setIfInBounds_toArray, List.set_cons_zero, List.set_cons_succ]
            refine q_run (v := .agg #[.int .u64 (hI bx), .int .u64 (lI bx), .int .i64 bn, .int .i64 bh]) (by rfl) ?_ ?_
            · (intro w1 hC; obtain ⟨⟨t0, t1⟩, ⟨y0, y1, y2, y3⟩, ⟨z0, z1, z2, z3⟩, -⟩ := hC; go_simp; first | done | (simp; done) | (simp [*]; done) | omega | (simp; omega) | (rw [IntKind.wrap_i64]; omega) | (intro hx; omega) | rfl)
            simp only [Act.put, List.setIfInBounds_toArray, List.set_cons_zero, List.set_cons_succ]
            refine q_call (v := .int .i64 z) (f := 53) (args := #[.agg #[.int .u64 (hI ax), .int .u64 (lI ax), .int .i64 an, .int .i64 ah], .agg #[.int .u64 (hI bx), .int .u64 (lI bx), .int .i64 bn, .int .i64 bh]]) (by rfl) ?_ ?_ ?_
            · (intro w1 hC; clear hC; go_simp)
            · exact fun w1 hC => (KB w1).mono fun e w' ⟨he, hb⟩ => ⟨he, T6.below hC hb⟩
            simp only [Act.put, List.setIfInBounds_toArray, List.set_cons_zero, List.set_cons_succ]
            refine q_run (v := .bool true) (by rfl) ?_ ?_
            · (intro w1 hC; obtain ⟨⟨t0, t1⟩, ⟨y0, y1, y2, y3⟩, ⟨z0, z1, z2, z3⟩, -⟩ := hC; go_simp; first | done | (simp; done) | (simp [*]; done) | omega | (simp; omega) | (rw [IntKind.wrap_i64]; omega) | (intro hx; omega) | rfl)
            simp only [Act.put, List.setIfInBounds_toArray, List.set_cons_zero, List.set_cons_succ]
            refine wpQuiet_nil ?_
            intro W hC
            have HW := hidR hC
            clear hC
            go_wp2
            go_ret
            exact ⟨⟨19, HE1.out 19 (.inr ⟨HN.out, rfl⟩), rfl⟩, HW.out.2.2.2⟩
          · have HG2 := hidR (HA.out.2 (by omega))
            have hzd : decide (0 ≤ z) = false := by simpa using hz
            go_wp2_with fail
            refine q_region (C := T6 w F (.slice (some ⟨b, off, none⟩) l.length c) b (off + j * 4) (off + k * 4) ax an ah bx bn bh) (by kernel_rfl) (by kernel_rfl) (T6.below HC.out (below_drewN (Below.refl _ _) 1)) ?_
            clear HC HA HG
            refine q_run (v := .pointer (some ⟨w.heap.size, 1, none⟩)) (by rfl) ?_ ?_
            · (intro w1 hC; obtain ⟨⟨t0, t1⟩, ⟨y0, y1, y2, y3⟩, ⟨z0, z1, z2, z3⟩, -⟩ := hC; go_simp; first | done | (simp; done) | (simp [*]; done) | omega | (simp; omega) | (rw [IntKind.wrap_i64]; omega) | (intro hx; omega) | rfl)
            simp only [Act.put, List.setIfInBounds_toArray, List.set_cons_zero, List.set_cons_succ]
            refine q_run (v := .slice (some ⟨b, off, none⟩) l.length c) (by rfl) ?_ ?_
            · (intro w1 hC; obtain ⟨⟨t0, t1⟩, ⟨y0, y1, y2, y3⟩, ⟨z0, z1, z2, z3⟩, -⟩ := hC; go_simp; first | done | (simp; done) | (simp [*]; done) | omega | (simp; omega) | (rw [IntKind.wrap_i64]; omega) | (intro hx; omega) | rfl)
            simp only [Act.put, List.setIfInBounds_toArray, List.set_cons_zero, List.set_cons_succ]
            refine q_run (v := .int .i64 (k : Int)) (by rfl) ?_ ?_
            · (intro w1 hC; obtain ⟨⟨t0, t1⟩, ⟨y0, y1, y2, y3⟩, ⟨z0, z1, z2, z3⟩, -⟩ := hC; go_simp; first | done | (simp; done) | (simp [*]; done) | omega | (simp; omega) | (rw [IntKind.wrap_i64]; omega) | (intro hx; omega) | rfl)
            simp only [Act.put, List.setIfInBounds_toArray, List.set_cons_zero, List.set_cons_succ]
            refine q_run (v := .int .i64 (j : Int)) (by rfl) ?_ ?_
            · (intro w1 hC; obtain ⟨⟨t0, t1⟩, ⟨y0, y1, y2, y3⟩, ⟨z0, z1, z2, z3⟩, -⟩ := hC; go_simp; first | done | (simp; done) | (simp [*]; done) | omega | (simp; omega) | (rw [IntKind.wrap_i64]; omega) | (intro hx; omega) | rfl)
            simp only [Act.put, List.setIfInBounds_toArray, List.set_cons_zero, List.set_cons_succ]
            refine q_run (v := .pointer (some ⟨b, off + j * 4, none⟩)) (by rfl) ?_ ?_
            · (intro w1 hC; obtain ⟨⟨t0, t1⟩, ⟨y0, y1, y2, y3⟩, ⟨z0, z1, z2, z3⟩, -⟩ := hC; go_simp; first | done | (simp; done) | (simp [*]; done) | omega | (simp; omega) | (rw [IntKind.wrap_i64]; omega) | (intro hx; omega) | rfl)
            simp only [Act.put, List.setIfInBounds_toArray, List.set_cons_zero, List.set_cons_succ]
            refine q_run (v := .agg #[.int .u64 (hI ax), .int .u64 (lI ax), .int .i64 an, .int .i64 ah]) (by rfl) ?_ ?_
            · (intro w1 hC; obtain ⟨⟨t0, t1⟩, ⟨y0, y1, y2, y3⟩, ⟨z0, z1, z2, z3⟩, -⟩ := hC; go_simp; first | done | (simp; done) | (simp [*]; done) | omega | (simp; omega) | (rw [IntKind.wrap_i64]; omega) | (intro hx; omega) | rfl)
            simp only [Act.put, List.setIfInBounds_toArray, List.set_cons_zero, List.set_cons_succ]
            refine q_run (v := .pointer (some ⟨w.heap.size, 1, none⟩)) (by rfl) ?_ ?_
            · (intro w1 hC; obtain ⟨⟨t0, t1⟩, ⟨y0, y1, y2, y3⟩, ⟨z0, z1, z2, z3⟩, -⟩ := hC; go_simp; first | done | (simp; done) | (simp [*]; done) | omega | (simp; omega) | (rw [IntKind.wrap_i64]; omega) | (intro hx; omega) | rfl)
            simp only [Act.put, List.setIfInBounds_toArray, List.set_cons_zero, List.set_cons_succ]
            refine q_run (v := .slice (some ⟨b, off, none⟩) l.length c) (by rfl) ?_ ?_
            · (intro w1 hC; obtain ⟨⟨t0, t1⟩, ⟨y0, y1, y2, y3⟩, ⟨z0, z1, z2, z3⟩, -⟩ := hC; go_simp; first | done | (simp; done) | (simp [*]; done) | omega | (simp; omega) | (rw [IntKind.wrap_i64]; omega) | (intro hx; omega) | rfl)
            simp only [Act.put, List.setIfInBounds_toArray, List.set_cons_zero, List.set_cons_succ]
            refine q_run (v := .int .i64 (k : Int)) (by rfl) ?_ ?_
            · (intro w1 hC; obtain ⟨⟨t0, t1⟩, ⟨y0, y1, y2, y3⟩, ⟨z0, z1, z2, z3⟩, -⟩ := hC; go_simp; first | done | (simp; done) | (simp [*]; done) | omega | (simp; omega) | (rw [IntKind.wrap_i64]; omega) | (intro hx; omega) | rfl)
            simp only [Act.put, List.setIfInBounds_toArray, List.set_cons_zero, List.set_cons_succ]
            refine q_run (v := .pointer (some ⟨b, off + k * 4, none⟩)) (by rfl) ?_ ?_
            · (intro w1 hC; obtain ⟨⟨t0, t1⟩, ⟨y0, y1, y2, y3⟩, ⟨z0, z1, z2, z3⟩, -⟩ := hC; go_simp; first | done | (simp; done) | (simp [*]; done) | omega | (simp; omega) | (rw [IntKind.wrap_i64]; omega) | (intro hx; omega) | rfl)
            simp only [Act.put, List.setIfInBounds_toArray, List.set_cons_zero, List.set_cons_succ]
            refine q_run (v := .agg #[.int .u64 (hI bx), .int .u64 (lI bx), .int .i64 bn, .int .i64 bh]) (by rfl) ?_ ?_
            · (intro w1 hC; obtain ⟨⟨t0, t1⟩, ⟨y0, y1, y2, y3⟩, ⟨z0, z1, z2, z3⟩, -⟩ := hC; go_simp; first | done | (simp; done) | (simp [*]; done) | omega | (simp; omega) | (rw [IntKind.wrap_i64]; omega) | (intro hx; omega) | rfl)
            simp only [Act.put, List.setIfInBounds_toArray, List.set_cons_zero, List.set_cons_succ]
            refine q_call (v := .int .i64 z) (f := 53) (args := #[.agg #[.int .u64 (hI ax), .int .u64 (lI ax), .int .i64 an, .int .i64 ah], .agg #[.int .u64 (hI bx), .int .u64 (lI bx), .int .i64 bn, .int .i64 bh]]) (by rfl) ?_ ?_ ?_
            · (intro w1 hC; clear hC; go_simp)
            · exact fun w1 hC => (KB w1).mono fun e w' ⟨he, hb⟩ => ⟨he, T6.below hC hb⟩
            simp only [Act.put, List.setIfInBounds_toArray, List.set_cons_zero, List.set_cons_succ]
            refine q_run (v := .bool false) (by rfl) ?_ ?_
            · (intro w1 hC; obtain ⟨⟨t0, t1⟩, ⟨y0, y1, y2, y3⟩, ⟨z0, z1, z2, z3⟩, -⟩ := hC; go_simp; first | done | (simp; done) | (simp [*]; done) | omega | (simp; omega) | (rw [IntKind.wrap_i64]; omega) | (intro hx; omega) | rfl)
            simp only [Act.put, List.setIfInBounds_toArray, List.set_cons_zero, List.set_cons_succ]
            refine wpQuiet_nil ?_
            intro W hC
            have HW := hidR hC
            clear hC
            go_wp2
            go_roundw
            case rel => exact ⟨k + 1, by omega, .inl (by omega), by simp, HG2, hidR HW.out.1, hidR HW.out.2.2.2⟩
            case measure => simp [intOf]; omega
      · have hd : decide ((k : Int) < (l.length : Int)) = false := by simpa using hlt
        have HA : Hid (Adj l) := hidR (fun a h => HG.out a h (by omega))
        go_wp2
        go_ret
        exact ⟨⟨0, HE1.out 0 (.inl ⟨HA.out, rfl⟩), rfl⟩, HB.out⟩
  · have hn : (ce != 0) = true := by simp [hce]
    have HE1 := hidR (HE.out ce ⟨fun _ => rfl, fun h => absurd h hce⟩)
    clear HE
    go_wp2
    go_ret
    exact ⟨⟨ce, HE1.out, rfl⟩, HB1.out⟩
theorem rtsG_all (F : Int) : ∀ l : List Rte, rtsG F l = 0 → ∀ r ∈ l, rteE F r = 0
  | [], _, r, hr => by cases hr
  | a :: l, h, r, hr => by
    rw [rtsG] at h
    split at h
    · rename_i h1
      rcases List.mem_cons.mp hr with e | e
      · rw [e]; exact h1
      · exact rtsG_all F l h r e
    · rename_i h1; exact absurd h h1
theorem rts_all (F : Int) (l : List Rte) (h : rtsE F l = 0) : fam F = true ∧ l.length ≤ 1048576 ∧ ∀ r ∈ l, rteE F r = 0 := by
  unfold rtsE at h
  split at h
  · rename_i h1
    split at h
    · omega
    · rename_i h2
      exact ⟨h1, by omega, rtsG_all F l h⟩
  · omega
theorem rte_ro (F : Int) (r : Rte) (hf : fam F = true) (h : rteE F r = 0) : Ro F r := by
  unfold rteE at h
  split at h
  · rename_i h1
    split at h
    · rename_i h2
      unfold hopB at h2
      simp only [Bool.and_eq_true, decide_eq_true_iff] at h2
      refine ⟨?_, by omega, by omega⟩
      unfold checkE at h1
      rw [if_pos hf] at h1
      split at h1
      · omega
      · split at h1
        · omega
        · split at h1
          · rename_i h3 h4 h5
            exact ⟨by omega, by omega, by simpa using h5⟩
          · omega
    · omega
  · rename_i h1; exact absurd h h1
set_option maxRecDepth 20000 in
set_option maxHeartbeats 8000000 in
theorem segs_any (F : Int) (v : Value) (l : List Rte) (w : World) (hv : RwR w v l) :
    Calls Tryd.prog 14 #[.agg #[.int .i64 F, v]] w fun e w' => (∃ z v', TabE F l z ∧ e = .returned (.tuple #[v', .int .i64 z]) ∧ (z = 0 → w'.ownsRow w.heap.size 48 5 v' (swp F l).length (rowG (swp F l))) ∧ (z ≠ 0 → v' = .slice none 0 0)) ∧ Below w.heap.size w w' := by
  have b0 := bl1 w (.cells #[.int .i64 F, v] 24)
  have KC := tcheck_any F v l _ (hv.below b0)
  have HT := hidR (att_new w w.heap.size F v 24 rfl)
  have HV := hidR (hv.below b0)
  have HB := hidR b0
  have HX : Hid (∀ W, RwR W v l → TabE F l 0 → Calls Tryd.prog 26 #[.agg #[.int .i64 F, v]] W fun e w' => (∃ v', e = .returned v' ∧ w'.ownsRow W.heap.size 48 5 v' (swp F l).length (rowG (swp F l))) ∧ Below W.heap.size W w') := hidR (fun W hW hE => by
    have h0 : rtsE F l = 0 := by
      by_cases h : rtsE F l = 0
      · exact h
      · have := hE.1 h; omega
    obtain ⟨hf, h1, h2⟩ := rts_all F l h0
    exact sweep_any F v l W hW (by omega) (fun r hr => (rte_ro F r hf (h2 r hr)).1.1))
  obtain ⟨t0, t1⟩ := HT.out
  obtain ⟨ao, c, rfl, -⟩ := hv
  clear b0
  go_enter Tryd.func14, Tryd.ntmps14
  go_wp2_with fail
  refine KC.mono ?_
  rintro e w1 ⟨⟨z, hz, rfl⟩, hb⟩
  have HB1 := hidR (keepb hb HB.out)
  have HT1 := hidR (HT.out.below hb)
  have HV1 := hidR (HV.out.below hb)
  clear KC hb t0 t1 HB HT HV
  obtain ⟨t0, t1⟩ := HT1.out
  by_cases hz0 : z = 0
  · subst hz0
    have HE := hidR hz
    clear hz
    have KS := HX.out w1 HV1.out HE.out
    go_wp2_with fail
    refine KS.mono ?_
    rintro e w2 ⟨⟨v', rfl, hown⟩, hb2⟩
    have HO := hidR (own_wide hown HB1.out.size)
    have HB2 := hidR (keepb hb2 HB1.out)
    clear KS hown hb2 t0 t1
    go_wp2
    exact bodyPost_ret (v := .tuple #[v', .int .i64 0]) (by simp [results, Tryd.results14, go_sem]) rfl ⟨⟨0, v', HE.out, rfl, fun _ => HO.out, fun h => absurd rfl h⟩, HB2.out⟩
  · have hn : (z != 0) = true := by simp [hz0]
    have HE := hidR hz
    have HZ := hidR hz0
    clear hz hz0
    go_wp2
    exact bodyPost_ret (v := .tuple #[.slice none 0 0, .int .i64 z]) (by simp [results, Tryd.results14, go_sem]) rfl ⟨⟨z, _, HE.out, rfl, fun h => absurd h HZ.out, fun _ => rfl⟩, HB1.out⟩
end Go.Proofs.YtmkjlcfoedglmabDoor
