/-
  Part 24 of the proof: 7 texts, one behind the other.
-/
import Derived.Test.YtdpmhpmnkollaaaPart23
import Derived.Test.YtdpmhpmnkollaaaPart22
import Derived.Test.YtdpmhpmnkollaaaPart6
namespace Go.Proofs.Ytdpmhpmnkollaaa
open Go.RowKit
set_option linter.unusedSimpArgs false
set_option linter.unusedVariables false

structure Emt (L : List Nde) (P o : List Int) : Prop where
  ok : NdsOk L
  nd : o.Nodup
  all : ∀ z : Nat, z < L.length → (z : Int) ∈ o
  mem : ∀ x ∈ o, 0 ≤ x ∧ x.toNat < L.length
  z : o[0]? = some 0
  at' : ∀ (i : Nat) (x : Int), o[i]? = some x → P.getD x.toNat 0 = ((wsum L (o.take i) : Nat) : Int)
  lay : LayOk L P 0 o
  bits : ∀ d ∈ L, 1 ≤ d.b ∧ d.b ≤ 24
  od : OrdOk L o
  n : o.length = L.length
def qsN (L : List Nde) (P o : List Int) : List Int := (bksN L P 0 o).map PB.a
theorem bks_at (L : List Nde) (P : List Int) : ∀ (o : List Int) (a i : Nat) (x : Int), o[i]? = some x → (bksN L P a o)[i]? = some (bkN P (a + wsum L (o.take i)) (L.getD x.toNat ⟨0, []⟩))
  | [], a, i, x, h => by simp at h
  | k :: o, a, 0, x, h => by
    simp at h
    subst h
    rfl
  | k :: o, a, i + 1, x, h => by
    have := bks_at L P o (a + szN (L.getD k.toNat ⟨0, []⟩)) i x (by simpa using h)
    show (bksN L P (a + szN (L.getD k.toNat ⟨0, []⟩)) o)[i]? = _
    rw [this, List.take_succ_cons]
    show _ = some (bkN P (a + (szN (L.getD k.toNat ⟨0, []⟩) + wsum L (o.take i))) _)
    rw [Nat.add_assoc]
theorem bks_len (L : List Nde) (P : List Int) : ∀ (o : List Int) (a : Nat), (bksN L P a o).length = o.length
  | [], a => rfl
  | k :: o, a => by
    show (bksN L P (a + szN (L.getD k.toNat ⟨0, []⟩)) o).length + 1 = _
    rw [bks_len L P o]; rfl
theorem qs_at (L : List Nde) (P o : List Int) (i : Nat) (x : Int) (h : o[i]? = some x) : (qsN L P o)[i]? = some ((wsum L (o.take i) : Nat) : Int) := by
  unfold qsN
  rw [List.getElem?_map, bks_at L P o 0 i x h, Nat.zero_add]; rfl
theorem wsum_rise (L : List Nde) (o : List Int) (i j : Nat) (h : i < j) (hj : j ≤ o.length) : wsum L (o.take i) < wsum L (o.take j) := by
  have e : o.take j = o.take i ++ (o.drop i).take (j - i) := by
    rw [show j = i + (j - i) by omega, List.take_add]
    rw [show i + (j - i) - i = j - i by omega]
  rw [e, wsum_app]
  have : 0 < ((o.drop i).take (j - i)).length := by rw [List.length_take, List.length_drop]; omega
  cases hc : (o.drop i).take (j - i) with
  | nil => rw [hc] at this; simp at this
  | cons x t =>
    show _ < _ + (szN (L.getD x.toNat ⟨0, []⟩) + wsum L t)
    have := sz_pos (L.getD x.toNat ⟨0, []⟩)
    omega
theorem qs_rise (L : List Nde) (P o : List Int) : (qsN L P o).Pairwise (· < ·) := by
  have hl : (qsN L P o).length = o.length := by unfold qsN; rw [List.length_map, bks_len]
  rw [List.pairwise_iff_getElem]
  intro i j hi hj hij
  have h1 := qs_at L P o i o[i] (List.getElem?_eq_getElem (by omega))
  have h2 := qs_at L P o j o[j] (List.getElem?_eq_getElem (by omega))
  have h3 := (List.getElem?_eq_some_iff.mp h1).2
  have h4 := (List.getElem?_eq_some_iff.mp h2).2
  rw [h3, h4]
  have := wsum_rise L o i j hij (by omega)
  omega
def posN (L : List Nde) (P o : List Int) (x : Int) : Int := fnB (qsN L P o) (P.getD x.toNat 0)
theorem Emt.pos {L : List Nde} {P o : List Int} (h : Emt L P o) {i : Nat} {x : Int} (hx : o[i]? = some x) : posN L P o x = (i : Int) := by
  unfold posN
  rw [h.at' i x hx]
  exact fnB_at (qs_rise L P o) (qs_at L P o i x hx)
theorem Emt.inj {L : List Nde} {P o : List Int} (h : Emt L P o) {x y : Int} (hx : x ∈ o) (hy : y ∈ o) (e : P.getD x.toNat 0 = P.getD y.toNat 0) : x = y := by
  obtain ⟨i, hi⟩ := List.getElem?_of_mem hx
  obtain ⟨j, hj⟩ := List.getElem?_of_mem hy
  have h1 := h.pos hi
  have h2 := h.pos hj
  unfold posN at h1 h2
  rw [e, h2] at h1
  have : j = i := by omega
  subst this
  rw [hi] at hj
  exact Option.some.inj hj
theorem adj_sm : ∀ (l : List Rn), adjG l = true → ∀ (j : Nat) (a b : Rn), l[j]? = some a → l[j + 1]? = some b → smR a b = false
  | [], _, j, a, b, h, _ => by simp at h
  | [x], _, j, a, b, _, h => by simp at h
  | x :: y :: t, hG, 0, a, b, ha, hb => by
    simp at ha hb
    subst ha hb
    unfold adjG at hG
    simp only [Bool.and_eq_true, Bool.not_eq_true'] at hG
    exact hG.1.2
  | x :: y :: t, hG, j + 1, a, b, ha, hb => by
    unfold adjG at hG
    simp only [Bool.and_eq_true] at hG
    exact adj_sm (y :: t) hG.2 j a b (by simpa using ha) (by simpa using hb)
theorem io_adj {d : Nde} (h : ioB d = true) : adjG d.r = true := by
  unfold ioB at h
  split at h
  · simp only [Bool.and_eq_true] at h
    exact h.2.1
  · cases h
theorem Emt.kid {L : List Nde} {P o : List Int} (h : Emt L P o) {k : Nat} {d : Nde} (hd : L[k]? = some d) {r : Rn} (hr : r ∈ d.r) (hk : r.k = true) : r.n ∈ o ∧ (k : Int) < r.n ∧ r.n < L.length := by
  have := (h.ok.2 k d hd).kid r hr hk
  have h2 := h.all r.n.toNat (by omega)
  rw [show ((r.n.toNat : Nat) : Int) = r.n by omega] at h2
  exact ⟨h2, this⟩
theorem Emt.adj {L : List Nde} {P o : List Int} (h : Emt L P o) {k : Nat} {d : Nde} (hd : L[k]? = some d) : Adj (d.r.map (eR P)) := by
  have hG := io_adj (h.ok.2 k d hd).io
  intro j x y hx hy
  rw [List.getElem?_map] at hx hy
  cases ha : d.r[j]? with
  | none => rw [ha] at hx; cases hx
  | some a =>
    cases hb : d.r[j + 1]? with
    | none => rw [hb] at hy; cases hy
    | some b =>
      rw [ha] at hx
      rw [hb] at hy
      injection hx with hx
      injection hy with hy
      subst hx hy
      have hs := adj_sm d.r hG j a b ha hb
      have ka := fun q => h.kid hd (List.mem_of_getElem? ha) q
      have kb := fun q => h.kid hd (List.mem_of_getElem? hb) q
      obtain ⟨af, ak, an⟩ := a
      obtain ⟨bf, bk, bn⟩ := b
      unfold smR at hs
      unfold eR
      dsimp only at hs ka kb ⊢
      cases ak <;> cases bk <;> simp only [if_true, Bool.false_eq_true, if_false]
      · intro q
        injection q with _ q
        subst q
        simp at hs
      · intro q; injection q with q; cases q
      · intro q; injection q with q; cases q
      · intro q
        injection q with _ q
        have := h.inj (ka rfl).1 (kb rfl).1 q
        subst this
        simp at hs
theorem two_mw (n : Nat) : 2 ^ n ≤ 32 * mwN n := by
  unfold mwN
  split
  · have : 2 ^ n ≤ 2 ^ 4 := Nat.pow_le_pow_right (by decide) (by omega)
    omega
  · rw [show (32 : Nat) = 2 ^ 5 by decide, ← Nat.pow_add, show 5 + (n - 5) = n by omega]
    exact Nat.le_refl _
theorem Emt.froms {L : List Nde} {P o : List Int} (h : Emt L P o) {k : Nat} {d : Nde} (hd : L[k]? = some d) : (∀ r ∈ d.r, r.f.toNat < 32 * mwN d.b.toNat) ∧ (d.r.map fun r => (r.f.toNat : Int)).Pairwise (· < ·) := by
  have io := io_ok (h.ok.2 k d hd).io
  refine ⟨fun r hr => Nat.lt_of_lt_of_le (io.lt r hr) (two_mw _), ?_⟩
  rw [List.pairwise_iff_getElem]
  intro i j hi hj hij
  rw [List.length_map] at hi hj
  rw [List.getElem_map, List.getElem_map]
  have := io.rise i j d.r[i] d.r[j] hij (List.getElem?_eq_getElem hi) (List.getElem?_eq_getElem hj)
  omega
end Go.Proofs.Ytdpmhpmnkollaaa
namespace Go.Proofs.Ytdpmhpmnkollaaa
open Go.RowKit
set_option linter.unusedSimpArgs false
set_option linter.unusedVariables false

def fN (L : List Nde) (P o : List Int) (r : Rn) : Bool × Int := if r.k then (true, posN L P o r.n) else (false, r.n)
theorem lk_eR (L : List Nde) (P o : List Int) (r : Rn) : lkX (qsN L P o) (eR P r) = fN L P o r := by
  unfold eR fN lkX posN
  cases r.k <;> rfl
def rnM (L : List Nde) (P o : List Int) (r : Rn) : Rn := ⟨r.f, (fN L P o r).1, (fN L P o r).2⟩
def numL (L : List Nde) (P o : List Int) : List Nde := o.map fun x => ⟨(L.getD x.toNat ⟨0, []⟩).b, (L.getD x.toNat ⟨0, []⟩).r.map (rnM L P o)⟩
def lnkP (L : List Nde) (P o : List Int) : List PB := (bksN L P 0 o).map (lkB (qsN L P o))
theorem lnk_len (L : List Nde) (P o : List Int) : (lnkP L P o).length = o.length := by unfold lnkP; rw [List.length_map, bks_len]
theorem Emt.nde {L : List Nde} {P o : List Int} (h : Emt L P o) {i : Nat} {x : Int} (hx : o[i]? = some x) : ∃ d, L[x.toNat]? = some d ∧ L.getD x.toNat ⟨0, []⟩ = d := by
  have := (h.mem x (List.mem_of_getElem? hx)).2
  exact ⟨L[x.toNat], List.getElem?_eq_getElem this, by rw [List.getD_eq_getElem?_getD, List.getElem?_eq_getElem this]; rfl⟩
theorem Emt.lnk {L : List Nde} {P o : List Int} (h : Emt L P o) {i : Nat} {x : Int} {d : Nde} (hx : o[i]? = some x) (hd : L.getD x.toNat ⟨0, []⟩ = d) : (lnkP L P o)[i]? = some ⟨((wsum L (o.take i) : Nat) : Int), d.b, mapL d.b.toNat d.r, d.r.map (fN L P o)⟩ := by
  unfold lnkP
  rw [List.getElem?_map, bks_at L P o 0 i x hx, hd, Nat.zero_add]
  show some (lkB (qsN L P o) (bkN P _ d)) = _
  unfold lkB bkN
  dsimp only
  rw [List.map_map]
  have : (lkX (qsN L P o) ∘ eR P) = fN L P o := funext fun r => lk_eR L P o r
  rw [this]
theorem Emt.tree {L : List Nde} {P o : List Int} (h : Emt L P o) : ndsL (lnkP L P o) = numL L P o := by
  apply List.ext_getElem?
  intro i
  unfold ndsL numL
  rw [List.getElem?_map, List.getElem?_map]
  cases hx : o[i]? with
  | none =>
    have h1 : o.length ≤ i := List.getElem?_eq_none_iff.mp hx
    rw [List.getElem?_eq_none (by rw [lnk_len]; exact h1)]
    rfl
  | some x =>
    obtain ⟨d, hd, hd2⟩ := h.nde hx
    obtain ⟨f1, f2⟩ := h.froms hd
    have hb := h.bits d (List.mem_of_getElem? hd)
    rw [h.lnk hx hd2]
    show some (⟨d.b, runsV (mapL d.b.toNat d.r) (d.r.map (fN L P o))⟩ : Nde) = some ⟨(L.getD x.toNat ⟨0, []⟩).b, (L.getD x.toNat ⟨0, []⟩).r.map (rnM L P o)⟩
    rw [hd2, runs_map d.b.toNat d.r (fN L P o) f1 (by omega) f2]
    rfl
theorem lkI_all (qs : List Int) : ∀ (es : List (Bool × Int)) (p : Int), (∀ e ∈ es, e.1 = true → fnB qs e.2 ≠ -1) → lkI qs p es = none
  | [], p, _ => rfl
  | e :: t, p, h => by
    unfold lkI
    rw [if_neg (fun q => h e (by simp) q.1 q.2)]
    exact lkI_all qs t _ (fun x hx => h x (by simp [hx]))
theorem lkA_all (qs : List Int) : ∀ (B : List PB), (∀ b ∈ B, ∀ e ∈ b.es, e.1 = true → fnB qs e.2 ≠ -1) → lkA qs B = none
  | [], _ => rfl
  | b :: t, h => by
    unfold lkA
    rw [lkI_all qs b.es _ (fun e he => h b (by simp) e he)]
    exact lkA_all qs t (fun x hx => h x (by simp [hx]))
theorem Emt.link {L : List Nde} {P o : List Int} (h : Emt L P o) : lkA (qsN L P o) (bksN L P 0 o) = none := by
  refine lkA_all _ _ (fun b hb e he hk => ?_)
  obtain ⟨i, hi⟩ := List.getElem?_of_mem hb
  have hil := (List.getElem?_eq_some_iff.mp hi).1
  rw [bks_len] at hil
  have hx : o[i]? = some o[i] := List.getElem?_eq_getElem hil
  obtain ⟨d, hd, hd2⟩ := h.nde hx
  rw [bks_at L P o 0 i _ hx, hd2] at hi
  injection hi with hi
  subst hi
  have he' : e ∈ d.r.map (eR P) := he
  obtain ⟨r, hr, rfl⟩ := List.mem_map.mp he'
  have hrk : r.k = true := by
    unfold eR at hk
    cases c : r.k with
    | true => rfl
    | false => rw [c] at hk; exact absurd hk (by simp)
  obtain ⟨j, hj⟩ := List.getElem?_of_mem (h.kid hd hr hrk).1
  have hp := h.pos hj
  unfold posN at hp
  have : (eR P r).2 = P.getD r.n.toNat 0 := by unfold eR; rw [hrk]; rfl
  rw [this, hp]
  omega
theorem mkX_keep (s : List Bool) (e : Bool × Int) (k : Nat) (h : s.getD k false = true) : (mkX s e).getD k false = true := by
  unfold mkX
  split
  · rw [List.getD_eq_getElem?_getD, List.getElem?_set]
    rw [List.getD_eq_getElem?_getD] at h
    by_cases c : e.2.toNat = k
    · subst c
      rw [if_pos rfl]
      split
      · rfl
      · rename_i hn
        rw [List.getElem?_eq_none (by omega)] at h
        exact absurd h (by decide)
    · rw [if_neg c]; exact h
  · exact h
theorem mkF_keep : ∀ (es : List (Bool × Int)) (s : List Bool) (k : Nat), s.getD k false = true → (es.foldl mkX s).getD k false = true
  | [], s, k, h => h
  | e :: t, s, k, h => by rw [List.foldl_cons]; exact mkF_keep t _ k (mkX_keep s e k h)
theorem mkF_mark : ∀ (es : List (Bool × Int)) (s : List Bool) (k : Nat), k < s.length → (true, (k : Int)) ∈ es → (es.foldl mkX s).getD k false = true
  | [], s, k, hk, h => by cases h
  | e :: t, s, k, hk, h => by
    rw [List.foldl_cons]
    rcases List.mem_cons.mp h with q | q
    · refine mkF_keep t _ k ?_
      rw [← q]
      unfold mkX
      rw [if_pos rfl, Int.toNat_natCast, List.getD_eq_getElem?_getD, List.getElem?_set, if_pos rfl, if_pos hk]
      rfl
    · exact mkF_mark t _ k (by rw [mkX_len]; exact hk) q
theorem mkA_keep : ∀ (B : List PB) (s : List Bool) (k : Nat), s.getD k false = true → (B.foldl mkB s).getD k false = true
  | [], s, k, h => h
  | b :: t, s, k, h => by rw [List.foldl_cons]; exact mkA_keep t _ k (mkF_keep b.es s k h)
theorem mkA_mark : ∀ (B : List PB) (s : List Bool) (k : Nat), k < s.length → (∃ b ∈ B, (true, (k : Int)) ∈ b.es) → (B.foldl mkB s).getD k false = true
  | [], s, k, hk, ⟨b, hb, _⟩ => by cases hb
  | c :: t, s, k, hk, ⟨b, hb, he⟩ => by
    rw [List.foldl_cons]
    rcases List.mem_cons.mp hb with rfl | q
    · exact mkA_keep t _ k (mkF_mark b.es s k hk he)
    · exact mkA_mark t _ k (by show k < (c.es.foldl mkX s).length; rw [mkF_len18]; exact hk) ⟨b, q, he⟩
theorem Emt.used {L : List Nde} {P o : List Int} (h : Emt L P o) (hu : usedB L = true) : usR (lnkP L P o) = (0, 0) := by
  refine usR_no (fun k h1 h2 => ?_)
  rw [lnk_len] at h2
  refine mkA_mark _ _ k (by rw [List.length_replicate, lnk_len]; exact h2) ?_
  have hx : o[k]? = some o[k] := List.getElem?_eq_getElem h2
  have hm := h.mem o[k] (List.getElem_mem h2)
  have hz : o[k] ≠ 0 := by
    intro q
    have h0 := h.pos h.z
    have hk := h.pos hx
    rw [q, h0] at hk
    omega
  obtain ⟨n, d, r, hd, hr, hrk, hrn, hlt⟩ := used_lead h.ok hu o[k].toNat (by omega) hm.2
  obtain ⟨i, hi⟩ := List.getElem?_of_mem (h.all n (List.getElem?_eq_some_iff.mp hd).1)
  have hd2 : L.getD ((n : Int)).toNat ⟨0, []⟩ = d := by rw [Int.toNat_natCast, List.getD_eq_getElem?_getD, hd]; rfl
  refine ⟨_, List.mem_of_getElem? (h.lnk hi hd2), ?_⟩
  dsimp only
  refine List.mem_map.mpr ⟨r, hr, ?_⟩
  unfold fN
  rw [if_pos hrk]
  have : r.n = o[k] := by omega
  rw [this, h.pos hx]
theorem kid_ren (L : List Nde) (P o : List Int) : ∀ (l : List Rn), kidL (l.map (rnM L P o)) = (kidL l).map (posN L P o)
  | [] => rfl
  | r :: t => by
    have ih := kid_ren L P o t
    unfold kidL at ih ⊢
    rw [List.map_cons, List.filter_cons, List.filter_cons]
    cases c : r.k with
    | true =>
      have e : rnM L P o r = ⟨r.f, true, posN L P o r.n⟩ := by unfold rnM fN; rw [c]; rfl
      rw [e]
      dsimp only
      rw [if_pos rfl, if_pos rfl, List.map_cons, List.map_cons, List.map_cons, ih]
    | false =>
      have e : rnM L P o r = ⟨r.f, false, r.n⟩ := by unfold rnM fN; rw [c]; rfl
      rw [e]
      dsimp only
      rw [if_neg (by simp), if_neg (by simp), ih]
theorem Emt.ren {L : List Nde} {P o : List Int} (h : Emt L P o) : Ren L (numL L P o) (fun j => (o.getD j 0).toNat) := by
  have hn : (numL L P o).length = o.length := by unfold numL; rw [List.length_map]
  have hat : ∀ j, j < o.length → ∃ x d, o[j]? = some x ∧ o.getD j 0 = x ∧ L[x.toNat]? = some d ∧ ndAt L x.toNat = d ∧ ndAt (numL L P o) j = ⟨d.b, d.r.map (rnM L P o)⟩ := fun j hj => by
    have hx : o[j]? = some o[j] := List.getElem?_eq_getElem hj
    obtain ⟨d, hd, hd2⟩ := h.nde hx
    refine ⟨o[j], d, hx, by rw [List.getD_eq_getElem?_getD, hx]; rfl, hd, hd2, ?_⟩
    unfold ndAt numL
    rw [List.getD_eq_getElem?_getD, List.getElem?_map, hx]
    show (⟨(L.getD o[j].toNat ⟨0, []⟩).b, (L.getD o[j].toNat ⟨0, []⟩).r.map (rnM L P o)⟩ : Nde) = _
    rw [hd2]
  have hkd : ∀ i j, i < o.length → j < o.length → (edgW (numL L P o) i j ↔ edgW L (o.getD i 0).toNat (o.getD j 0).toNat) := fun i j hi hj => by
    obtain ⟨x, d, x1, x2, x3, x4, x5⟩ := hat i hi
    obtain ⟨y, e, y1, y2, y3, y4, y5⟩ := hat j hj
    unfold edgW
    rw [x5, x2, x4, y2, kid_ren]
    have hy0 := (h.mem y (List.mem_of_getElem? y1)).1
    constructor
    · intro hm
      obtain ⟨n, hn1, hn2⟩ := List.mem_map.mp hm
      obtain ⟨r, hr, hrk, rfl⟩ := mem_kidL hn1
      obtain ⟨i', hi'⟩ := List.getElem?_of_mem (h.kid x3 hr hrk).1
      have := h.pos hi'
      have e9 : i' = j := by omega
      subst e9
      rw [hi'] at y1
      injection y1 with y1
      rw [show ((y.toNat : Nat) : Int) = y by omega, ← y1]
      exact hn1
    · intro hm
      rw [show ((y.toNat : Nat) : Int) = y by omega] at hm
      exact List.mem_map.mpr ⟨y, hm, h.pos y1⟩
  have hfl : ∀ p k, p < L.length → k < L.length → edgW L p k → p < k := fun p k hp hk he => by
    have hd : L[p]? = some (ndAt L p) := by unfold ndAt; rw [List.getD_eq_getElem?_getD, List.getElem?_eq_getElem hp]; rfl
    obtain ⟨r, hr, hrk, hrn⟩ := mem_kidL he
    have := (h.kid hd hr hrk).2.1
    omega
  refine ⟨by rw [hn, h.n], fun j hj => ?_, fun k hk => ?_, fun j hj => ?_, fun i j hi hj => hkd i j (by omega) (by omega), fun i j hi hj he => ?_, hfl, fun p x hx => ?_, fun p x hx => ?_⟩
  · obtain ⟨x, d, x1, x2, x3, x4, x5⟩ := hat j (by omega)
    show (o.getD j 0).toNat < L.length
    rw [x2]
    exact (List.getElem?_eq_some_iff.mp x3).1
  · obtain ⟨j, hj⟩ := List.getElem?_of_mem (h.all k hk)
    refine ⟨j, by rw [hn]; exact (List.getElem?_eq_some_iff.mp hj).1, ?_⟩
    show (o.getD j 0).toNat = k
    rw [List.getD_eq_getElem?_getD, hj]
    exact Int.toNat_natCast k
  · obtain ⟨x, d, x1, x2, x3, x4, x5⟩ := hat j (by omega)
    show (ndAt (numL L P o) j).b = (ndAt L (o.getD j 0).toNat).b
    rw [x5, x2, x4]
  · rw [hn] at hi hj
    have he2 := (hkd i j hi hj).mp he
    obtain ⟨x, d, x1, x2, x3, x4, x5⟩ := hat i hi
    obtain ⟨y, e, y1, y2, y3, y4, y5⟩ := hat j hj
    rw [x2, y2] at he2
    unfold edgW at he2
    rw [x4] at he2
    obtain ⟨r, hr, hrk, hrn⟩ := mem_kidL he2
    have hy0 := (h.mem y (List.mem_of_getElem? y1)).1
    have hsp : o = o.take i ++ x :: o.drop (i + 1) := by
      have h9 := (List.getElem?_eq_some_iff.mp x1)
      obtain ⟨h9a, h9b⟩ := h9
      rw [← h9b, ← List.drop_eq_getElem_cons h9a, List.take_append_drop]
    have hin := h.od.kid _ x _ hsp d r x3 hr hrk
    rw [hrn, show ((y.toNat : Nat) : Int) = y by omega] at hin
    obtain ⟨t, ht⟩ := List.getElem?_of_mem hin
    rw [List.getElem?_drop] at ht
    have p1 := h.pos ht
    have p2 := h.pos y1
    omega
  · by_cases hp : p < o.length
    · obtain ⟨y, e, y1, y2, y3, y4, y5⟩ := hat p hp
      rw [y5, kid_ren] at hx
      obtain ⟨n, hn1, rfl⟩ := List.mem_map.mp hx
      obtain ⟨r, hr, hrk, rfl⟩ := mem_kidL hn1
      obtain ⟨i', hi'⟩ := List.getElem?_of_mem (h.kid y3 hr hrk).1
      have := h.pos hi'
      omega
    · have : ndAt (numL L P o) p = ⟨0, []⟩ := by
        unfold ndAt
        rw [List.getD_eq_getElem?_getD, List.getElem?_eq_none (by omega)]; rfl
      rw [this] at hx
      cases hx
  · by_cases hp : p < L.length
    · have hd : L[p]? = some (ndAt L p) := by unfold ndAt; rw [List.getD_eq_getElem?_getD, List.getElem?_eq_getElem hp]; rfl
      obtain ⟨r, hr, hrk, hrn⟩ := mem_kidL hx
      have := (h.kid hd hr hrk).2.1
      omega
    · have : ndAt L p = ⟨0, []⟩ := by
        unfold ndAt
        rw [List.getD_eq_getElem?_getD, List.getElem?_eq_none (by omega)]; rfl
      rw [this] at hx
      cases hx
end Go.Proofs.Ytdpmhpmnkollaaa
namespace Go.Proofs.Ytdpmhpmnkollaaa
open Go.RowKit
set_option linter.unusedSimpArgs false
set_option linter.unusedVariables false

theorem ms_dp (F : Int) : ∀ (t : List PB) (k : Nat) (A : List (Int × Int)) (dp : Int), (∀ b ∈ t, 1 ≤ b.t ∧ b.es.length = sumW b.m b.m.length) → (dpG F (ndsL t) k (A.map Prod.swap) dp).2 = 0 → (msG F t k A dp).2.2 = 0
  | [], k, A, dp, _, _ => rfl
  | b :: t, k, A, dp, hb, h => by
    have hb1 := hb b (by simp)
    have h' : (dpG F (⟨b.t, runsV b.m b.es⟩ :: ndsL t) k (A.map Prod.swap) dp).2 = 0 := h
    unfold msG
    unfold dpG at h'
    rw [getD_swap] at h'
    dsimp only at h'
    by_cases c : F < (A.getD k (0, 0)).2 + b.t
    · rw [if_pos c] at h'
      exact absurd h' (by decide)
    · rw [if_neg c] at h' ⊢
      have hm : min 1 b.t = 1 := by omega
      rw [kid_runs _ _ hb1.2, hm, up_swap] at h'
      exact ms_dp F t (k + 1) _ _ (fun x hx => hb x (by simp [hx])) h'
theorem wsum_len (L : List Nde) : ∀ (o : List Int), o.length ≤ wsum L o
  | [] => Nat.le_refl _
  | k :: o => by
    have := wsum_len L o
    have h2 := sz_pos (L.getD k.toNat ⟨0, []⟩)
    show o.length + 1 ≤ szN _ + wsum L o
    omega
theorem emt_of {F : Int} {L : List Nde} {most : Int} (h : codE F L most = 0) (hb : ∀ d ∈ L, 1 ≤ d.b) : Emt L (layR F L).1.2.1 (ordL L) ∧ (chkM F L).2 = 0 ∧ usedB L = true ∧ fam F = true ∧ codB F L most = lyB L (layR F L).1.2.1 0 (ordL L) ∧ chkM F L = deepR F L := by
  have hl : (layR F L).2 = 0 := by
    unfold codE at h
    by_cases c : (layR F L).2 = 0
    · exact c
    · rw [if_neg c] at h; exact h
  have hm : ¬ min most 4194304 < 4 * ((layR F L).1.2.2 : Int) := by
    intro q
    unfold codE at h
    rw [if_pos hl, if_pos q] at h
    exact absurd h (by decide)
  obtain ⟨ok, hc, hp, ho⟩ := lay_zero hl
  obtain ⟨-, hu, hf, hcd⟩ := chk_ok hc
  have hn : (layR F L).1.2.2 ≤ 1048576 := by omega
  obtain ⟨hlay, hws⟩ := lay_ok ok hp hn
  have od := ord_ok ok
  have hmem : ∀ x ∈ ordL L, 0 ≤ x ∧ x.toNat < L.length := fun x hx => by
    obtain ⟨i, hi⟩ := List.getElem?_of_mem hx
    obtain ⟨k, d, rfl, hd⟩ := lay_in hlay i x hi
    exact ⟨by omega, by rw [Int.toNat_natCast]; exact (List.getElem?_eq_some_iff.mp hd).1⟩
  have pl := pl_ok (ordL L) (List.replicate L.length 0) (layR F L).1.2.1 0 (layR F L).1.2.2 od.nd (fun k hk => by rw [List.length_replicate]; exact hmem k hk) hp
  have hall := ord_all ok hu
  refine ⟨⟨ok, od.nd, hall, hmem, ?_, fun i x hx => ?_, hlay, fun d hd => ⟨hb d hd, ?_⟩, od, ord_full ok hu⟩, hc, hu, hf, ?_, hcd⟩
  · obtain ⟨B, hB⟩ := od.zero
    rw [hB]; rfl
  · have hsp : ordL L = (ordL L).take i ++ x :: (ordL L).drop (i + 1) := by
      obtain ⟨h9a, h9b⟩ := List.getElem?_eq_some_iff.mp hx
      rw [← h9b, ← List.drop_eq_getElem_cons h9a, List.take_append_drop]
    have := pl.at' _ x _ hsp
    rw [Nat.zero_add] at this
    rw [List.getD_eq_getElem?_getD, this]; rfl
  · obtain ⟨z, hz⟩ := List.getElem?_of_mem hd
    have := pl.bits _ (hall z (List.getElem?_eq_some_iff.mp hz).1)
    rw [Int.toNat_natCast, List.getD_eq_getElem?_getD, hz] at this
    exact this
  · unfold codB
    rw [if_pos h, ho]
theorem emit_ok {F : Int} {L : List Nde} {most : Int} (h : codE F L most = 0) (hb : ∀ d ∈ L, 1 ≤ d.b) : vfR F (codB F L most) = ((chkM F L).1, 0, 0) ∧ trL (codB F L most) = numL L (layR F L).1.2.1 (ordL L) := by
  obtain ⟨E, hc, hu, hf, hcb, hcd⟩ := emt_of h hb
  obtain ⟨P, hP⟩ : ∃ P, P = (layR F L).1.2.1 := ⟨_, rfl⟩
  obtain ⟨o, ho⟩ : ∃ o, o = ordL L := ⟨_, rfl⟩
  rw [← hP, ← ho] at E hcb ⊢
  rw [hcb]
  obtain ⟨l, hl⟩ : ∃ l, l = lyB L P 0 o := ⟨_, rfl⟩
  rw [← hl]
  have hlen : l.length = 4 * wsum L o := by rw [hl, lyB_len E.lay]
  have hwl := wsum_len L o
  have ho0 : 0 < o.length := by rw [E.n]; exact E.ok.1
  have hbs : bsG l (l.length / 4) 0 [] = (bksN L P 0 o, 0, 0) := by
    have := bsG_nodes (L := L) (P := P) (fun k d hd => by
      obtain ⟨f1, f2⟩ := E.froms hd
      have := (E.bits d (List.mem_of_getElem? hd)).1
      exact ⟨by omega, sum_map _ _ f1 f2, E.adj hd⟩) o [] 0 (l.length / 4) [] rfl E.lay (List.length_pos_iff.mp ho0) (by omega)
    rw [List.nil_append, ← hl] at this
    exact this
  have hvp : vfP l = lnkP L P o := by
    unfold vfP
    rw [hbs]; rfl
  have hn : ¬ (dcE l 0 = 0 ∧ (dcI l 0).op = 4) := by
    intro q
    obtain ⟨f, hfe⟩ : ∃ f, l.length / 4 = f + 1 := ⟨l.length / 4 - 1, by omega⟩
    rw [hfe] at hbs
    by_cases c : (bkE l 0).1 = 0
    · have := (bk_okd c).2.1
      omega
    · rw [bs_err c] at hbs
      have := congrArg (fun z => z.2.2) hbs
      exact c this
  have hT : ndsL (vfP l) = numL L P o := by rw [hvp]; exact E.tree
  have hdeep : deepR F (ndsL (vfP l)) = chkM F L := by
    rw [hT, hcd]
    exact E.ren.deep F (by rw [← hcd]; exact hc)
  have hbk : ∀ b ∈ vfP l, 1 ≤ b.t ∧ b.es.length = sumW b.m b.m.length := fun b hbm => by
    rw [hvp] at hbm
    obtain ⟨i, hi⟩ := List.getElem?_of_mem hbm
    have hil := (List.getElem?_eq_some_iff.mp hi).1
    rw [lnk_len] at hil
    obtain ⟨d, hd, hd2⟩ := E.nde (List.getElem?_eq_getElem hil)
    rw [E.lnk (List.getElem?_eq_getElem hil) hd2] at hi
    injection hi with hi
    subst hi
    obtain ⟨f1, f2⟩ := E.froms hd
    refine ⟨(E.bits d (List.mem_of_getElem? hd)).1, ?_⟩
    dsimp only
    rw [List.length_map, sum_map _ _ f1 f2]
  have hms : (msR F (vfP l)).2.2 = 0 := by
    have h1 : (deepR F (ndsL (vfP l))).2 = 0 := by rw [hdeep]; exact hc
    refine ms_dp F (vfP l) 0 (List.replicate (vfP l).length (0, 0)) 0 hbk ?_
    rw [List.map_replicate]
    unfold deepR at h1
    rw [show (ndsL (vfP l)).length = (vfP l).length by unfold ndsL; rw [List.length_map]] at h1
    exact h1
  have hd1 := deep_ms F (vfP l) hbk hms
  rw [hdeep] at hd1
  have hF := fam_ways F hf
  refine ⟨?_, by unfold trL; rw [if_neg hn]; exact hT⟩
  unfold vfR
  rw [if_neg (by omega), if_neg (by omega), if_neg hn]
  unfold vfB
  have hlk : lkR ((bsG l (l.length / 4) 0 []).1.map PB.a) (bsG l (l.length / 4) 0 []).1 = (0, 0) := by
    rw [hbs]
    have := E.link
    unfold qsN at this
    unfold lkR
    rw [this]
  rw [if_neg (by rw [hbs]; simp), if_neg (by rw [hlk]; simp), if_neg (by rw [hvp, E.used hu]; simp)]
  have hw := msG_word F (vfP l) 0 (List.replicate (vfP l).length (0, 0)) 0 hms
  have hw2 : (msR F (vfP l)).2.1 = 0 := hw
  rw [hd1]
  exact Prod.ext rfl (Prod.ext hw2 hms)
end Go.Proofs.Ytdpmhpmnkollaaa
namespace Go.Proofs.Ytdpmhpmnkollaaa
open Go.RowKit
set_option linter.unusedSimpArgs false
set_option linter.unusedVariables false

theorem nodes_two {L : List Nde} (ok : NdsOk L) : (∀ d ∈ L, 1 ≤ d.b) ∨ ∃ n : Int, L = oneN n ∧ 0 ≤ n ∧ n ≤ 65535 := by
  by_cases h : ∀ d ∈ L, 1 ≤ d.b
  · exact .inl h
  · right
    have hex : ∃ d ∈ L, ¬ 1 ≤ d.b := by
      by_cases q : ∃ d ∈ L, ¬ 1 ≤ d.b
      · exact q
      · exact absurd (fun d hd => by
          by_cases c : 1 ≤ d.b
          · exact c
          · exact absurd ⟨d, hd, c⟩ q) h
    obtain ⟨d, hd, hb⟩ := hex
    obtain ⟨k, hk⟩ := List.getElem?_of_mem hd
    have nd := ok.2 k d hk
    have hb0 : d.b = 0 := by have := nd.b0; omega
    have hl1 : L.length ≤ 1 := by have := nd.bz hb0; omega
    have hk0 : k = 0 := by have := (List.getElem?_eq_some_iff.mp hk).1; omega
    subst hk0
    have hL : L = [d] := by
      match L, hl1, hk with
      | [x], _, hk => simp at hk; rw [hk]
      | [], _, hk => simp at hk
      | x :: y :: t, hl, _ => simp at hl
    have io := io_ok nd.io
    have hr1 := io_zero io hb0
    obtain ⟨r, hr⟩ : ∃ r, d.r = [r] := List.length_eq_one_iff.mp hr1
    have hf : r.f = 0#128 := io.z r (by rw [hr]; rfl)
    have hkk : r.k = false := by
      cases c : r.k with
      | false => rfl
      | true =>
        have := nd.kid r (by rw [hr]; simp) c
        rw [hL] at this
        simp at this
        omega
    have hh := nd.hop r (by rw [hr]; simp) hkk
    refine ⟨r.n, ?_, hh.1, hh.2⟩
    rw [hL]
    unfold oneN
    obtain ⟨b, l⟩ := d
    obtain ⟨f, kk, n⟩ := r
    dsimp only at hb0 hr hf hkk ⊢
    subst hb0 hr hf hkk
    rfl
theorem emit_all {F : Int} {L : List Nde} {most : Int} (h : codE F L most = 0) : vfR F (codB F L most) = ((chkM F L).1, 0, 0) ∧ trL (codB F L most) = numL L (layR F L).1.2.1 (ordL L) := by
  have hl : (layR F L).2 = 0 := by
    unfold codE at h
    by_cases c : (layR F L).2 = 0
    · exact c
    · rw [if_neg c] at h; exact h
  have hm : ¬ min most 4194304 < 4 * ((layR F L).1.2.2 : Int) := by
    intro q
    unfold codE at h
    rw [if_pos hl, if_pos q] at h
    exact absurd h (by decide)
  obtain ⟨ok, hc, hp, ho⟩ := lay_zero hl
  rcases nodes_two ok with hb | ⟨n, hL, n0, n1⟩
  · exact emit_ok h hb
  · obtain ⟨-, hu, hf, hcd⟩ := chk_ok hc
    have hF := fam_ways F hf
    obtain ⟨hlay, hws⟩ := lay_ok ok hp (by omega)
    have hcb : codB F L most = lyB L (layR F L).1.2.1 0 (ordL L) := by unfold codB; rw [if_pos h, ho]
    generalize (layR F L).1.2.1 = P at *
    have hord : ordL L = [0] := by
      have h1 := ord_full ok hu
      obtain ⟨B, hB⟩ := (ord_ok ok).zero
      rw [hB] at h1 ⊢
      rw [hL] at h1
      have : B.length = 0 := by simpa [oneN] using h1
      rw [List.length_eq_zero_iff.mp this]
    rw [hcb, hord]
    rw [hord] at hlay
    obtain ⟨⟨d, hd, -, hnd⟩, -⟩ := hlay
    have hd1 : d = ⟨0, [⟨0#128, false, n⟩]⟩ := by
      rw [hL] at hd
      simpa [oneN] using hd.symm
    have hgd : L.getD (0 : Int).toNat ⟨0, []⟩ = d := by rw [List.getD_eq_getElem?_getD, hd]; rfl
    have hk := hnd.r
    rw [hd1] at hk
    have hk0 := (hk 0 ⟨0#128, false, n⟩ rfl).1
    have hk1 : chkE 4 n [] = 0 := hk0
    have hly : lyB L P 0 [0] = [] ++ wdB (4 : Int).toNat n.toNat [] ++ [] := by
      show ndB P 0 (L.getD (0 : Int).toNat ⟨0, []⟩) ++ [] = _
      rw [hgd, hd1]
      rfl
    obtain ⟨d1, d2, -⟩ := dec_enc [] [] 0 4 n [] rfl hk1
    rw [← hly] at d1 d2
    have hll : (lyB L P 0 [0]).length = 4 := by rw [hly, List.length_append, List.length_append, wdB_len]; rfl
    generalize lyB L P 0 [0] = l at *
    have d1' : dcE l 0 = 0 := d1
    have d2' : dcI l 0 = ⟨4, n, []⟩ := d2
    have hcond : dcE l 0 = 0 ∧ (dcI l 0).op = 4 := ⟨d1', by rw [d2']⟩
    have hvf : vfR F l = (0, 0, 0) := by
      unfold vfR
      rw [if_neg (by omega), if_neg (by omega), if_pos hcond, if_neg (by omega)]
    have htr : trL l = oneN n := by
      unfold trL
      rw [if_pos hcond, d2']
    have hch : (chkM F L).1 = 0 := by
      rw [hcd, hL]
      unfold deepR oneN dpG
      rw [if_neg (by simp; omega)]
      rfl
    rw [hvf, htr, hch]
    refine ⟨rfl, ?_⟩
    show oneN n = [(⟨(L.getD (0 : Int).toNat ⟨0, []⟩).b, (L.getD (0 : Int).toNat ⟨0, []⟩).r.map (rnM L P [0])⟩ : Nde)]
    rw [hgd, hd1]
    rfl
end Go.Proofs.Ytdpmhpmnkollaaa
namespace Go.Proofs.Ytdpmhpmnkollaaa
open Go.RowKit
set_option linter.unusedSimpArgs false
set_option linter.unusedVariables false

theorem plcG_not : ∀ (o : List Int) (i : Nat) (P : List Int) (k : Nat), (∀ x ∈ o, x.toNat ≠ k) → (plcG o i P).getD k 0 = P.getD k 0
  | [], i, P, k, h => rfl
  | x :: t, i, P, k, h => by
    show (plcG t (i + 1) (P.set x.toNat (i : Int))).getD k 0 = _
    rw [plcG_not t (i + 1) _ k (fun y hy => h y (by simp [hy])), List.getD_eq_getElem?_getD, List.getElem?_set_ne (h x (by simp)), ← List.getD_eq_getElem?_getD]
theorem plcG_at : ∀ (o : List Int) (i : Nat) (P : List Int) (k : Nat) (x : Int), o.Nodup → (∀ x ∈ o, 0 ≤ x ∧ x.toNat < P.length) → o[k]? = some x → (plcG o i P).getD x.toNat 0 = ((i + k : Nat) : Int)
  | [], i, P, k, x, hn, hp, h => by simp at h
  | y :: t, i, P, 0, x, hn, hp, h => by
    simp at h
    subst h
    show (plcG t (i + 1) (P.set y.toNat (i : Int))).getD y.toNat 0 = _
    obtain ⟨hy, -⟩ := List.nodup_cons.mp hn
    rw [plcG_not t (i + 1) _ _ (fun z hz e => hy (by
      have h1 := hp z (by simp [hz]); have h2 := hp y (by simp)
      have : z = y := by omega
      rw [← this]; exact hz)), List.getD_eq_getElem?_getD, List.getElem?_set_self (hp y (by simp)).2]
    rfl
  | y :: t, i, P, k + 1, x, hn, hp, h => by
    show (plcG t (i + 1) (P.set y.toNat (i : Int))).getD x.toNat 0 = _
    rw [plcG_at t (i + 1) _ k x (List.nodup_cons.mp hn).2 (fun z hz => by rw [List.length_set]; exact hp z (by simp [hz])) (by simpa using h)]
    congr 1
    omega
theorem num_nb {F : Int} {L : List Nde} {most : Int} (h : codE F L most = 0) : numL L (layR F L).1.2.1 (ordL L) = nbL L (plcG (ordL L) 0 (List.replicate L.length 0)) (ordL L) := by
  have hl : (layR F L).2 = 0 := by
    unfold codE at h
    by_cases c : (layR F L).2 = 0
    · exact c
    · rw [if_neg c] at h; exact h
  obtain ⟨ok, hc, hp, ho⟩ := lay_zero hl
  unfold numL nbL
  refine List.map_congr_left fun x hx => ?_
  congr 1
  refine List.map_congr_left fun r hr => ?_
  unfold rnM rnP fN
  cases hk : r.k with
  | false => rfl
  | true =>
    rw [if_pos rfl, if_pos rfl]
    dsimp only
    congr 1
    rcases nodes_two ok with hb | ⟨n, hL, -, -⟩
    · obtain ⟨E, -⟩ := emt_of h hb
      obtain ⟨i, hi⟩ := List.getElem?_of_mem hx
      obtain ⟨d, d1, d2⟩ := E.nde hi
      rw [d2] at hr
      have hm := (E.kid d1 hr hk).1
      obtain ⟨j, hj⟩ := List.getElem?_of_mem hm
      rw [E.pos hj, plcG_at _ 0 _ j r.n E.nd (fun y hy => by rw [List.length_replicate]; exact E.mem y hy) hj, Nat.zero_add]
    · exfalso
      rw [hL] at hr
      unfold oneN at hr
      rw [List.getD_eq_getElem?_getD] at hr
      cases hx0 : x.toNat with
      | zero => rw [hx0] at hr; simp at hr; rw [hr] at hk; exact Bool.false_ne_true hk
      | succ m => rw [hx0] at hr; simp at hr
theorem cod_err {F : Int} {L : List Nde} (most : Int) (h : (chkM F L).2 ≠ 0) : codE F L most = (chkM F L).2 ∧ codB F L most = [] := by
  have h1 : (layR F L).2 = (chkM F L).2 := by unfold layR; rw [if_neg h]
  have h2 : codE F L most = (chkM F L).2 := by unfold codE; rw [h1, if_neg h]
  exact ⟨h2, by unfold codB; rw [h2, if_neg h]⟩
theorem cod_big {F : Int} {L : List Nde} {most : Int} (h : (chkM F L).2 = 0) (hc : codE F L most ≠ 0) : codE F L most = 18 ∧ codB F L most = [] := by
  refine ⟨?_, by unfold codB; rw [if_neg hc]⟩
  have h1 : (layR F L).2 = 0 ∨ (layR F L).2 = 18 := by
    unfold layR
    rw [if_pos h]
    split
    · exact .inl rfl
    · exact .inr rfl
  unfold codE at hc ⊢
  rcases h1 with h1 | h1
  · rw [if_pos h1] at hc ⊢
    split
    · rfl
    · rename_i q; rw [if_neg q] at hc; exact absurd rfl hc
  · rw [if_neg (by omega)]; exact h1
theorem ver_all {F : Int} {L : List Nde} {most : Int} (h : codE F L most = 0) (hl : L.length ≤ 1000000) (hr : ∀ d ∈ L, d.r.length ≤ 1000000) :
    ∃ M, vfR F (codB F L most) = ((chkM F L).1, 0, 0) ∧ trL (codB F L most) = M ∧ nbL L (plcG (ordL L) 0 (List.replicate L.length 0)) (ordL L) = M ∧ NdsOk L ∧ M.length ≤ 1000000 ∧ (∀ d ∈ M, d.r.length ≤ 1000000) ∧ (ordL L).length ≤ L.length ∧ (∀ x ∈ ordL L, 0 ≤ x ∧ x < (L.length : Int)) ∧ ∀ x ∈ ordL L, ∀ r ∈ (L.getD x.toNat ⟨0, []⟩).r, r.k = true → 0 ≤ r.n ∧ r.n < (L.length : Int) := by
  obtain ⟨a1, a2⟩ := emit_all h
  have hl0 : (layR F L).2 = 0 := by
    unfold codE at h
    by_cases c : (layR F L).2 = 0
    · exact c
    · rw [if_neg c] at h; exact h
  obtain ⟨ok, hc, -, -⟩ := lay_zero hl0
  refine ⟨_, a1, rfl, by rw [a2, num_nb h], ok, ?_, ?_, ord_len ok, ord_in ok, ?_⟩
  · rw [a2]; unfold numL; rw [List.length_map]; exact Nat.le_trans (ord_len ok) hl
  · rw [a2]
    intro d hd
    unfold numL at hd
    obtain ⟨x, hx1, rfl⟩ := List.mem_map.mp hd
    dsimp only
    rw [List.length_map, List.getD_eq_getElem?_getD]
    cases hq : L[x.toNat]? with
    | none => simp
    | some d => exact hr d (List.mem_of_getElem? hq)
  · intro x hx r hr1 hk
    rw [List.getD_eq_getElem?_getD] at hr1
    cases hq : L[x.toNat]? with
    | none => rw [hq] at hr1; simp at hr1
    | some d =>
      rw [hq] at hr1
      have := (ok.2 _ d hq).kid r hr1 hk
      omega
end Go.Proofs.Ytdpmhpmnkollaaa
namespace Go.Proofs.Ytdpmhpmnkollaaa
open Go.RowKit
set_option linter.unusedSimpArgs false
set_option linter.unusedVariables false

end Go.Proofs.Ytdpmhpmnkollaaa
namespace Go.Proofs.Ytdpmhpmnkollaaa
open Go.RowKit
set_option linter.unusedSimpArgs false
set_option linter.unusedVariables false

theorem and24 (x : BitVec 32) : bits .and .u32 (uI x) 16777215 = uI x % 16777216 := by
  have e : (16777215 : Int) = uI 16777215#32 := lit32 16777215 (by decide)
  have h : bits .and .u32 (uI x) (uI 16777215#32) = uI x % 16777216 := by
    rw [and32, uI_eq, uI_eq, BitVec.toNat_and]
    have : (16777215#32).toNat = 2 ^ 24 - 1 := by decide
    rw [this, Nat.and_two_pow_sub_one_eq_mod]
    have : (2 : Nat) ^ 24 = 16777216 := by decide
    omega
  rw [← e] at h
  exact h
theorem dc_err {l : List Nat} {a z : Int} (h : dcE l a = z) (hz : z ≠ 0) : dcI l a = ⟨0, 0, []⟩ ∧ dcZ l a = 0 ∧ dcE l a = z := by
  have hne : ¬ dcE l a = 0 := by rw [h]; exact hz
  exact ⟨by unfold dcI; rw [if_neg hne], by unfold dcZ; rw [if_neg hne], h⟩
theorem dc_ok {l : List Nat} {k : Nat} {m : List (BitVec 32)} (hk : k < l.length / 4) (h : rdP l k = (m, 0)) : dcI l (k : Int) = ⟨insO l k, insN l k, m⟩ ∧ dcZ l (k : Int) = 1 + (m.length : Int) ∧ dcE l (k : Int) = 0 := by
  have hs : stB l.length (k : Int) 1 = true := by unfold stB; simp; omega
  have hE : dcE l (k : Int) = 0 := by unfold dcE; rw [if_pos hs, Int.toNat_natCast, h]
  have hI : dcI l (k : Int) = ⟨insO l k, insN l k, m⟩ := by unfold dcI; rw [if_pos hE, Int.toNat_natCast, h]
  exact ⟨hI, by unfold dcZ; rw [if_pos hE, hI], hE⟩
theorem dc_bad {l : List Nat} {k : Nat} {m : List (BitVec 32)} {z : Int} (hk : k < l.length / 4) (h : rdP l k = (m, z)) (hz : z ≠ 0) : dcI l (k : Int) = ⟨0, 0, []⟩ ∧ dcZ l (k : Int) = 0 ∧ dcE l (k : Int) = z := by
  have hs : stB l.length (k : Int) 1 = true := by unfold stB; simp; omega
  exact dc_err (by unfold dcE; rw [if_pos hs, Int.toNat_natCast, h]) hz
set_option maxRecDepth 100000 in
set_option maxHeartbeats 8000000 in
theorem rdecode_out (v : Value) (l : List Nat) (a : Int) (w : World) (hv : RwX cB w v l) (hl : l.length ≤ 10000000) (hx : ∀ b ∈ l, b < 256) (ha : stB l.length a 1 = false) :
    Calls Try.prog 25 #[v, .int .i64 a] w fun e w' => ∃ v', e = .returned (.tuple #[insV (dcI l a) v', .int .i64 (dcZ l a), .int .i64 (dcE l a)]) ∧ w'.ownsRow w.heap.size 96 1 v' (dcI l a).m.length ((dcI l a).m.map cU) ∧ Below w.heap.size w w' := by
  have hE : dcE l a = 30 := by unfold dcE; rw [if_neg (by rw [ha]; decide)]
  have HE := hid13 (dc_err hE (by decide))
  have hs : ¬ (0 ≤ a ∧ 4 * a + 4 ≤ (l.length : Int)) := by
    unfold stB at ha
    intro q
    have : (decide (0 ≤ a) && decide (a ≤ (l.length : Int) / 4 - 1)) = true := by simp; omega
    rw [this] at ha; cases ha
  have fin : ∀ (W : World) (hb : Below w.heap.size w W), ∃ v', (Ending.returned (.tuple #[.agg #[.int .i64 0, .int .i64 0, .slice none 0 0], .int .i64 0, .int .i64 30])) = .returned (.tuple #[insV (dcI l a) v', .int .i64 (dcZ l a), .int .i64 (dcE l a)]) ∧ W.ownsRow w.heap.size 96 1 v' (dcI l a).m.length ((dcI l a).m.map cU) ∧ Below w.heap.size w W := by
    intro W hb
    refine ⟨.slice none 0 0, ?_, ?_, hb⟩
    · rw [HE.out.1, HE.out.2.1, HE.out.2.2]; rfl
    · rw [HE.out.1]; exact World.ownsRow_nil _ _ _ _
  have HFin := hid13 fin
  obtain ⟨ao, cc, hvf, -⟩ := id hv
  by_cases d0 : a < 0
  · subst hvf
    clear hs ha hE fin hv
    go_enter Try.func25, Try.ntmps25
    go_wp2
    exact bodyPost_ret (v := .tuple #[.agg #[.int .i64 0, .int .i64 0, .slice none 0 0], .int .i64 0, .int .i64 30]) (by simp [results, Try.results25, go_sem]) rfl (HFin.out _ (bl1 _ _))
  by_cases d1 : (l.length : Int) ≤ a
  · subst hvf
    clear hs ha hE fin hv
    go_enter Try.func25, Try.ntmps25
    go_wp2
    exact bodyPost_ret (v := .tuple #[.agg #[.int .i64 0, .int .i64 0, .slice none 0 0], .int .i64 0, .int .i64 30]) (by simp [results, Try.results25, go_sem]) rfl (HFin.out _ (bl1 _ _))
  have q1 := bl1 w (.cells #[.int .i64 0, .int .i64 0, .slice none 0 0] 67)
  have K1 := rget13 v l (4 * a) 4 4 rfl (by decide) (by decide) _ (hv.below q1) (by omega) hx (by omega) (by omega)
  have hno : ¬ (0 ≤ 4 * a ∧ 4 * a ≤ (l.length : Int) - ((4 : Nat) : Int)) := by rintro ⟨q1, q2⟩; exact hs ⟨by omega, by omega⟩
  rw [decide_eq_false hno, show gtN l (4 * a) 4 = 0 by unfold gtN; rw [if_neg hno]] at K1
  have mw : IntKind.i64.wrap (4 * a) = 4 * a := by rw [IntKind.wrap_i64]; omega
  subst hvf
  clear hs ha hE fin hv hno q1
  go_enter Try.func25, Try.ntmps25
  go_wp2_with fail
  refine K1.mono ?_
  rintro e w2 ⟨rfl, hw2⟩
  replace hw2 := hw2.symm
  subst hw2
  go_wp2
  exact bodyPost_ret (v := .tuple #[.agg #[.int .i64 0, .int .i64 0, .slice none 0 0], .int .i64 0, .int .i64 30]) (by simp [results, Try.results25, go_sem]) rfl (HFin.out _ (bl1 _ _))
structure DcW (w W : World) (B : Nat) (o n : Int) (vb : Value) (R : List (BitVec 32)) : Prop where
  b : Below w.heap.size w W
  r : AtIF W w.heap.size 0 0 (.slice none 0 0)
  i : AtIF W B o n vb
  o : W.ownsRow (B + 1) 96 1 vb R.length (R.map cU)
  s : B + 1 ≤ W.heap.size
section
variable {w W W' : World} {B : Nat} {o n : Int} {vb v' : Value} {R R' : List (BitVec 32)}
theorem DcW.below (h : DcW w W B o n vb R) (hb : Below W.heap.size W W') : DcW w W' B o n vb R := ⟨keepb hb h.b, h.r.below hb, h.i.below hb, own_b13 hb h.o, Nat.le_trans h.s hb.size⟩
theorem AtIF.grown {C : Nat} {row : Option Nat} (h : AtIF W C o n vb) (hg : W.grownBy W' row) (hne : some C ≠ row) : AtIF W' C o n vb := by
  have e : W'.heap[C]? = W.heap[C]? := hg.block C (cell_in h.1.1) hne
  have f : ∀ j, W'.frozen? ⟨C, j, none⟩ = W.frozen? ⟨C, j, none⟩ := fun j => World.frozen?_of_block (a := ⟨C, j, none⟩) e
  exact ⟨⟨hg.cell h.1.1 hne, hg.cell h.1.2.1 hne, hg.cell h.1.2.2 hne⟩, (f 0).trans h.2.1, (f 1).trans h.2.2.1, (f 2).trans h.2.2.2⟩
theorem DcW.app (h : DcW w W B o n vb R) (hB : w.heap.size < B) (ho : W'.ownsRow (B + 1) 96 1 v' R'.length (R'.map cU)) (hg : W.grownBy W' vb.ownBlock) : AtIF W' B o n vb ∧ DcW w (W'.setCell ⟨B, 2, none⟩ v') B o n v' R' := by
  have hne : ∀ C, C ≤ B → some C ≠ vb.ownBlock := fun C hC e => by have := (h.o.lt C e.symm).1; omega
  have hi := h.i.grown hg (hne B (Nat.le_refl _))
  have hr := h.r.grown hg (hne w.heap.size (by omega))
  have hb : Below w.heap.size w W' := h.b.grown hg (by have := h.s; omega) (fun k e => by have := (h.o.lt k e).1; omega)
  refine ⟨hi, ?_⟩
  obtain ⟨⟨i0, i1, i2⟩, f0, f1, f2⟩ := hi
  obtain ⟨⟨r0, r1, r2⟩, g0, g1, g2⟩ := hr
  have hBw : ¬ w.heap.size = B := by omega
  have hBw' : ¬ B = w.heap.size := by omega
  refine ⟨hb.setCell (p := ⟨B, 2, none⟩) (by show w.heap.size ≤ B; omega) _, ⟨⟨?_, ?_, ?_⟩, ?_, ?_, ?_⟩, ⟨⟨?_, ?_, ?_⟩, ?_, ?_, ?_⟩, ownsRow_setCell_below ho (Nat.lt_succ_self _) _, ?_⟩
  all_goals first | (simp [go_sem, *]; done) | skip
  · simp [World.setCell]; exact Nat.le_trans h.s hg.size
end
end Go.Proofs.Ytdpmhpmnkollaaa
