/-
  Part 24 of the proof: 3 texts, one behind the other.
-/
import Derived.Test.YtdpfdlkaickkiaaPart23
import Derived.Test.YtdpfdlkaickkiaaPart8
import Derived.Test.YtdpfdlkaickkiaaPart22
namespace Go.Proofs.Ytdpfdlkaickkiaa
set_option linter.unusedSimpArgs false
set_option linter.unusedVariables false

theorem nodup_at12 {α : Type} {l : List α} (h : l.Nodup) {i j : Nat} {a : α} (hi : l[i]? = some a) (hj : l[j]? = some a) : i = j := by
  have hp := List.pairwise_iff_getElem.mp h
  obtain ⟨i1, i2⟩ := List.getElem?_eq_some_iff.mp hi
  obtain ⟨j1, j2⟩ := List.getElem?_eq_some_iff.mp hj
  rcases Nat.lt_trichotomy i j with q | q | q
  · exact absurd (i2.trans j2.symm) (hp i j i1 j1 q)
  · exact q
  · exact absurd (j2.trans i2.symm) (hp j i j1 i1 q)
theorem fsQ_some (NL : List Nde) (d : Nde) : ∀ (l : List Int) (x : Int), fsQ NL d l = some x → x ∈ l ∧ NL.getD x.toNat ⟨0, []⟩ = d
  | [], x, h => by cases h
  | y :: l, x, h => by
    have h' : (if sqD (NL.getD y.toNat ⟨0, []⟩) d then some y else fsQ NL d l) = some x := h
    by_cases c : sqD (NL.getD y.toNat ⟨0, []⟩) d = true
    · rw [if_pos c] at h'
      cases h'
      exact ⟨List.mem_cons_self .., (sqD_iff _ _).mp c⟩
    · rw [if_neg c] at h'
      obtain ⟨h1, h2⟩ := fsQ_some NL d l x h'
      exact ⟨List.mem_cons_of_mem _ h1, h2⟩
theorem fsQ_none (NL : List Nde) (d : Nde) : ∀ (l : List Int), fsQ NL d l = none → ∀ x ∈ l, NL.getD x.toNat ⟨0, []⟩ ≠ d
  | [], h, x, hx => by cases hx
  | y :: l, h, x, hx => by
    have h' : (if sqD (NL.getD y.toNat ⟨0, []⟩) d then some y else fsQ NL d l) = none := h
    by_cases c : sqD (NL.getD y.toNat ⟨0, []⟩) d = true
    · rw [if_pos c] at h'; cases h'
    · rw [if_neg c] at h'
      rcases List.mem_cons.mp hx with rfl | hx
      · exact fun e => c ((sqD_iff _ _).mpr e)
      · exact fsQ_none NL d l h' x hx
theorem bkG_mem (d : Nde) : ∀ (l : List Nde) (i j : Nat), l[j]? = some d → ((i + j : Nat) : Int) ∈ bkG d l i
  | [], i, j, h => by simp at h
  | x :: l, i, 0, h => by
    simp at h
    subst h
    show _ ∈ (if oE x x then (i : Int) :: bkG x l (i + 1) else bkG x l (i + 1))
    rw [if_pos ((oE_iff x x).mpr rfl)]
    simp
  | x :: l, i, j + 1, h => by
    have := bkG_mem d l (i + 1) j (by simpa using h)
    rw [show i + 1 + j = i + (j + 1) by omega] at this
    show _ ∈ (if oE x d then (i : Int) :: bkG d l (i + 1) else bkG d l (i + 1))
    split
    · exact List.mem_cons_of_mem _ this
    · exact this
theorem ad_in {NL : List Nde} (hn : NL.Nodup) {d : Nde} {j : Nat} (h : NL[j]? = some d) : adI NL d = (j : Int) ∧ adN NL d = NL := by
  unfold adI adN
  cases hf : fsQ NL d (bkG d NL 0) with
  | none =>
    have h1 := fsQ_none NL d _ hf _ (bkG_mem d NL 0 j h)
    rw [Nat.zero_add, Int.toNat_natCast, List.getD_eq_getElem?_getD, h] at h1
    exact absurd rfl h1
  | some x =>
    obtain ⟨h1, h2⟩ := fsQ_some NL d _ x hf
    have h3 := bkG_in d NL 0 x h1
    obtain ⟨k, rfl⟩ : ∃ k : Nat, x = (k : Int) := ⟨x.toNat, by omega⟩
    have hk : k < NL.length := by omega
    rw [Int.toNat_natCast, List.getD_eq_getElem?_getD, List.getElem?_eq_getElem hk] at h2
    have hj := (List.getElem?_eq_some_iff.mp h)
    have : k = j := nodup_at12 hn (by rw [List.getElem?_eq_getElem hk]; exact congrArg some h2) h
    rw [this]
    exact ⟨rfl, rfl⟩
theorem ad_out {NL : List Nde} {d : Nde} (h : d ∉ NL) : adI NL d = (NL.length : Int) ∧ adN NL d = NL ++ [d] := by
  unfold adI adN
  cases hf : fsQ NL d (bkG d NL 0) with
  | none => exact ⟨rfl, rfl⟩
  | some x =>
    obtain ⟨h1, h2⟩ := fsQ_some NL d _ x hf
    have h3 := bkG_in d NL 0 x h1
    have hk : x.toNat < NL.length := by omega
    rw [List.getD_eq_getElem?_getD, List.getElem?_eq_getElem hk] at h2
    exact absurd (h2 ▸ List.getElem_mem hk) h
theorem fd_cases (C : List Int) (ND : List Nde) (n : Nde) (i : Nat) : ∀ m : Nat, (fdK C ND n i m = (i : Int) ∧ ∀ k, i < k → k < m → ¬ (C.getD k 0 = (k : Int) ∧ ND.getD k ⟨0, []⟩ = n)) ∨ ∃ k, i < k ∧ k < m ∧ fdK C ND n i m = (k : Int) ∧ C.getD k 0 = (k : Int) ∧ ND.getD k ⟨0, []⟩ = n
  | 0 => .inl ⟨rfl, fun k _ h => absurd h (Nat.not_lt_zero k)⟩
  | m + 1 => by
    unfold fdK
    by_cases him : i < m
    · rw [if_pos him]
      by_cases c : ((C.getD m 0 == (m : Int)) && sqD (ND.getD m ⟨0, []⟩) n) = true
      · rw [if_pos c]
        rw [Bool.and_eq_true, sqD_iff] at c
        exact .inr ⟨m, him, by omega, rfl, by simpa using c.1, c.2⟩
      · rw [if_neg c]
        rcases fd_cases C ND n i m with ⟨h1, h2⟩ | ⟨k, h1, h2, h3⟩
        · refine .inl ⟨h1, fun k hk hkm h => ?_⟩
          by_cases e : k = m
          · subst e
            apply c
            rw [Bool.and_eq_true, sqD_iff]
            exact ⟨by simpa using h.1, h.2⟩
          · exact h2 k hk (by omega) h
        · exact .inr ⟨k, h1, by omega, h3⟩
    · rw [if_neg him]
      exact .inl ⟨rfl, fun k h1 h2 => by omega⟩
def renR (RP : List Nat) (r : Rn) : Rn := if r.k then ⟨r.f, true, ((RP.getD r.n.toNat 0 : Nat) : Int)⟩ else r
def renD (RP : List Nat) (d : Nde) : Nde := ⟨d.b, d.r.map (renR RP)⟩
def OkR (N : Nat) (r : Rn) : Prop := r.k = true → 0 ≤ r.n ∧ r.n < (N : Int)
theorem nodup_getD {RP : List Nat} (h : RP.Nodup) {a b : Nat} (ha : a < RP.length) (hb : b < RP.length) (e : RP.getD a 0 = RP.getD b 0) : a = b := by
  rw [List.getD_eq_getElem?_getD, List.getD_eq_getElem?_getD, List.getElem?_eq_getElem ha, List.getElem?_eq_getElem hb] at e
  exact nodup_at12 h (List.getElem?_eq_getElem ha) (by rw [List.getElem?_eq_getElem hb]; exact congrArg some e.symm)
theorem renR_inj {RP : List Nat} (h : RP.Nodup) {r s : Rn} (hr : OkR RP.length r) (hs : OkR RP.length s) (e : renR RP r = renR RP s) : r = s := by
  obtain ⟨rf, rk, rn⟩ := r
  obtain ⟨sf, sk, sn⟩ := s
  unfold renR at e
  cases rk <;> cases sk
  · exact e
  · simp at e
  · simp at e
  · have h1 := hr rfl
    have h2 := hs rfl
    dsimp only at h1 h2 e
    simp only [if_true] at e
    injection e with e1 _ e3
    have e4 : RP.getD rn.toNat 0 = RP.getD sn.toNat 0 := by exact_mod_cast e3
    have := nodup_getD h (by omega) (by omega) e4
    have : rn = sn := by omega
    rw [e1, this]
theorem smR_ren {RP : List Nat} (h : RP.Nodup) {r s : Rn} (hr : OkR RP.length r) (hs : OkR RP.length s) : smR (renR RP r) (renR RP s) = smR r s := by
  obtain ⟨rf, rk, rn⟩ := r
  obtain ⟨sf, sk, sn⟩ := s
  unfold renR smR
  cases rk <;> cases sk <;> simp
  have h1 := hr rfl
  have h2 := hs rfl
  dsimp only at h1 h2
  rw [Bool.eq_iff_iff]
  simp
  constructor
  · intro e
    have := nodup_getD h (a := rn.toNat) (b := sn.toNat) (by omega) (by omega) (by rw [List.getD_eq_getElem?_getD, List.getD_eq_getElem?_getD]; exact_mod_cast e)
    omega
  · rintro rfl; rfl
theorem map_inj12 {α β : Type} {f : α → β} : ∀ {l m : List α}, (∀ a ∈ l, ∀ b ∈ m, f a = f b → a = b) → l.map f = m.map f → l = m
  | [], [], _, _ => rfl
  | [], _ :: _, _, e => by simp at e
  | _ :: _, [], _, e => by simp at e
  | a :: l, b :: m, h, e => by
    simp at e
    have h1 := h a (List.mem_cons_self ..) b (List.mem_cons_self ..) e.1
    have h2 : l = m := map_inj12 (f := f) (fun x hx y hy => h x (List.mem_cons_of_mem _ hx) y (List.mem_cons_of_mem _ hy)) (by simpa using e.2)
    rw [h1, h2]
theorem renD_inj {RP : List Nat} (h : RP.Nodup) {d e : Nde} (hd : ∀ r ∈ d.r, OkR RP.length r) (he : ∀ r ∈ e.r, OkR RP.length r) (q : renD RP d = renD RP e) : d = e := by
  obtain ⟨a, l⟩ := d
  obtain ⟨b, m⟩ := e
  unfold renD at q
  injection q with q1 q2
  dsimp only at q1 q2 hd he
  have e2 := map_inj12 (f := renR RP) (l := l) (m := m) (fun r hr s hs => renR_inj h (hd r hr) (he s hs)) q2
  rw [q1, e2]
theorem mg_ren {RP : List Nat} (h : RP.Nodup) (RS : List Rn) (r : Rn) (hS : ∀ q ∈ RS, OkR RP.length q) (hr : OkR RP.length r) : mgR (RS.map (renR RP)) (renR RP r) = (mgR RS r).map (renR RP) := by
  rcases List.eq_nil_or_concat RS with rfl | ⟨RS0, q, rfl⟩
  · rfl
  · rw [List.concat_eq_append, List.map_append, List.map_cons, List.map_nil, mgR_app, mgR_app, smR_ren h (hS q (by simp)) hr]
    split <;> simp
theorem mg_ok {N : Nat} {RS : List Rn} {r : Rn} (hS : ∀ q ∈ RS, OkR N q) (hr : OkR N r) : ∀ q ∈ mgR RS r, OkR N q := by
  intro q hq
  unfold mgR at hq
  split at hq
  · rcases List.mem_append.mp hq with h | h
    · exact hS q h
    · rw [List.mem_singleton.mp h]; exact hr
  · split at hq
    · exact hS q hq
    · rcases List.mem_append.mp hq with h | h
      · exact hS q h
      · rw [List.mem_singleton.mp h]; exact hr
theorem nb_ren {RP : List Nat} (h : RP.Nodup) (OF C : List Int) : ∀ (t pre RS : List Rn), (∀ q ∈ RS, OkR RP.length q) → (∀ r ∈ t, r.k = true → 0 ≤ OF.getD r.n.toNat 0 ∧ OF.getD r.n.toNat 0 < (RP.length : Int) ∧ C.getD r.n.toNat 0 = ((RP.getD (OF.getD r.n.toNat 0).toNat 0 : Nat) : Int)) →
    nbG (fun _ r => C.getD r.n.toNat 0) pre (RS.map (renR RP)) t = (nbG (fun _ r => OF.getD r.n.toNat 0) pre RS t).map (renR RP) ∧ ∀ q ∈ nbG (fun _ r => OF.getD r.n.toNat 0) pre RS t, OkR RP.length q
  | [], pre, RS, hS, _ => ⟨rfl, hS⟩
  | r :: t, pre, RS, hS, ht => by
    have hr : OkR RP.length (rnK (fun _ r => OF.getD r.n.toNat 0) pre r) := by
      unfold rnK
      by_cases hk : r.k = true
      · rw [if_pos hk]
        intro _
        have := ht r (by simp) hk
        exact ⟨this.1, this.2.1⟩
      · rw [if_neg hk]
        exact fun q => absurd q hk
    have he : rnK (fun _ r => C.getD r.n.toNat 0) pre r = renR RP (rnK (fun _ r => OF.getD r.n.toNat 0) pre r) := by
      unfold rnK renR
      by_cases hk : r.k = true
      · have h9 := (ht r (by simp) hk).2.2
        rw [if_pos hk, if_pos hk, if_pos rfl]
        dsimp only
        rw [h9]
      · rw [if_neg hk, if_neg hk, if_neg hk]
    show nbG _ (pre ++ [r]) (mgR (RS.map (renR RP)) (rnK (fun _ r => C.getD r.n.toNat 0) pre r)) t = (nbG _ (pre ++ [r]) (mgR RS (rnK (fun _ r => OF.getD r.n.toNat 0) pre r)) t).map (renR RP) ∧ ∀ q ∈ nbG _ (pre ++ [r]) (mgR RS (rnK (fun _ r => OF.getD r.n.toNat 0) pre r)) t, OkR RP.length q
    rw [he, mg_ren h RS _ hS hr]
    exact nb_ren h OF C t (pre ++ [r]) _ (mg_ok hS hr) (fun s hs => ht s (by simp [hs]))
theorem renD_app {RP : List Nat} (i : Nat) {d : Nde} (hd : ∀ r ∈ d.r, OkR RP.length r) : renD (RP ++ [i]) d = renD RP d := by
  unfold renD
  congr 1
  apply List.map_congr_left
  intro r hr
  unfold renR
  by_cases hk : r.k = true
  · rw [if_pos hk, if_pos hk]
    have := hd r hr hk
    rw [List.getD_eq_getElem?_getD, List.getD_eq_getElem?_getD, List.getElem?_append_left (by omega)]
  · rw [if_neg hk, if_neg hk]
structure RelJ (L : List Nde) (g : Nat) (NL : List Nde) (OF C : List Int) (ND : List Nde) (RP : List Nat) : Prop where
  len : RP.length = NL.length
  ol : OF.length = L.length
  cl : C.length = L.length
  nl : ND.length = L.length
  nd : NL.Nodup
  pd : RP.Nodup
  rep : ∀ (j p : Nat) (d : Nde), RP[j]? = some p → NL[j]? = some d → g ≤ p ∧ p < L.length ∧ C.getD p 0 = (p : Int) ∧ ND.getD p ⟨0, []⟩ = renD RP d
  cls : ∀ k, g ≤ k → k < L.length → ∃ j p : Nat, OF.getD k 0 = (j : Int) ∧ RP[j]? = some p ∧ C.getD k 0 = (p : Int)
  kid : ∀ d ∈ NL, ∀ r ∈ d.r, OkR RP.length r
theorem set_at12 {α : Type} (l : List α) (i k : Nat) (a z : α) (hi : i < l.length) : (l.set i a).getD k z = if i = k then a else l.getD k z := by
  rw [List.getD_eq_getElem?_getD, List.getElem?_set, List.getD_eq_getElem?_getD]
  by_cases h : i = k
  · rw [if_pos h, if_pos (by omega), if_pos h]; rfl
  · rw [if_neg h, if_neg h]
theorem RelJ.step {L : List Nde} {i : Nat} {NL : List Nde} {OF C : List Int} {ND : List Nde} {RP : List Nat} (h : RelJ L (i + 1) NL OF C ND RP) (hi : i < L.length) (hk : ∀ r ∈ (L.getD i ⟨0, []⟩).r, r.k = true → (i : Int) < r.n ∧ r.n < (L.length : Int)) :
    ∃ RP', RelJ L i (stJ L (NL, OF) i).1 (stJ L (NL, OF) i).2 (stC L (C, ND) i).1 (stC L (C, ND) i).2 RP' := by
  obtain ⟨d, hd⟩ : ∃ d, d = L.getD i ⟨0, []⟩ := ⟨_, rfl⟩
  rw [← hd] at hk
  obtain ⟨n1, hn1⟩ : ∃ n, n = nmD OF d := ⟨_, rfl⟩
  obtain ⟨n2, hn2⟩ : ∃ n, n = nmD C d := ⟨_, rfl⟩
  obtain ⟨e1, e2⟩ := nb_ren h.pd OF C d.r [] [] (fun q hq => (by cases hq)) (fun r hr hkr => by
    have h1 := hk r hr hkr
    obtain ⟨j, p, a1, a2, a3⟩ := h.cls r.n.toNat (by omega) (by omega)
    have hj := (List.getElem?_eq_some_iff.mp a2).1
    refine ⟨by omega, by omega, ?_⟩
    rw [a3, a1, Int.toNat_natCast, List.getD_eq_getElem?_getD, a2]; rfl)
  have hren : n2 = renD RP n1 := by
    rw [hn1, hn2]
    unfold nmD renD
    dsimp only
    rw [← e1]; rfl
  have hok : ∀ r ∈ n1.r, OkR RP.length r := by rw [hn1]; exact e2
  have hstJ : stJ L (NL, OF) i = (adN NL n1, OF.set i (adI NL n1)) := by unfold stJ; rw [← hd, ← hn1]
  have hstC : stC L (C, ND) i = ((C.set i (i : Int)).set i (fdK (C.set i (i : Int)) (ND.set i n2) n2 i L.length), ND.set i n2) := by unfold stC; rw [← hd, ← hn2]
  rw [hstJ, hstC]
  dsimp only
  have hiO : i < OF.length := by rw [h.ol]; exact hi
  have hiC : i < C.length := by rw [h.cl]; exact hi
  have hiN : i < ND.length := by rw [h.nl]; exact hi
  rw [List.set_set]
  have gC := fun k (c : Int) => set_at12 C i k c 0 hiC
  have gN := fun k => set_at12 ND i k n2 ⟨0, []⟩ hiN
  have gO := fun k (c : Int) => set_at12 OF i k c 0 hiO
  -- what the search finds
  have hfound : ∀ k, i < k → k < L.length → (C.set i (i : Int)).getD k 0 = (k : Int) → (ND.set i n2).getD k ⟨0, []⟩ = n2 → ∃ j : Nat, RP[j]? = some k ∧ NL[j]? = some n1 := by
    intro k h1 h2 h3 h4
    rw [gC, if_neg (by omega)] at h3
    rw [gN, if_neg (by omega)] at h4
    obtain ⟨j, p, a1, a2, a3⟩ := h.cls k (by omega) h2
    have hp : p = k := by rw [h3] at a3; exact_mod_cast a3.symm
    subst hp
    have hj := (List.getElem?_eq_some_iff.mp a2).1
    obtain ⟨dj, hdj⟩ : ∃ dj, NL[j]? = some dj := ⟨_, List.getElem?_eq_getElem (by rw [← h.len]; exact hj)⟩
    obtain ⟨b1, b2, b3, b4⟩ := h.rep j p dj a2 hdj
    rw [h4, hren] at b4
    have := renD_inj h.pd hok (h.kid dj (List.mem_of_getElem? hdj)) b4
    subst this
    exact ⟨j, a2, hdj⟩
  by_cases hm : n1 ∈ NL
  · obtain ⟨j, hj⟩ := List.getElem?_of_mem hm
    obtain ⟨c1, c2⟩ := ad_in h.nd hj
    have hjl := (List.getElem?_eq_some_iff.mp hj).1
    obtain ⟨p, hp⟩ : ∃ p, RP[j]? = some p := ⟨_, List.getElem?_eq_getElem (by rw [h.len]; exact hjl)⟩
    obtain ⟨b1, b2, b3, b4⟩ := h.rep j p n1 hp hj
    have hF : fdK (C.set i (i : Int)) (ND.set i n2) n2 i L.length = (p : Int) := by
      rcases fd_cases (C.set i (i : Int)) (ND.set i n2) n2 i L.length with ⟨_, q2⟩ | ⟨k, q1, q2, q3, q4, q5⟩
      · exact absurd ⟨by rw [gC, if_neg (by omega)]; exact b3, by rw [gN, if_neg (by omega), b4, hren]⟩ (q2 p (by omega) b2)
      · obtain ⟨j2, r1, r2⟩ := hfound k q1 q2 q4 q5
        have : j2 = j := nodup_at12 h.nd r2 hj
        subst this
        rw [hp] at r1
        cases r1
        exact q3
    rw [c1, c2, hF]
    refine ⟨RP, ⟨h.len, by rw [List.length_set]; exact h.ol, by rw [List.length_set]; exact h.cl, by rw [List.length_set]; exact h.nl, h.nd, h.pd, fun j' p' d' g1 g2 => ?_, fun k g1 g2 => ?_, h.kid⟩⟩
    · obtain ⟨s1, s2, s3, s4⟩ := h.rep j' p' d' g1 g2
      exact ⟨by omega, s2, by rw [gC, if_neg (by omega)]; exact s3, by rw [gN, if_neg (by omega)]; exact s4⟩
    · by_cases e : i = k
      · subst e
        exact ⟨j, p, by rw [gO, if_pos rfl], hp, by rw [gC, if_pos rfl]⟩
      · obtain ⟨j', p', s1, s2, s3⟩ := h.cls k (by omega) g2
        exact ⟨j', p', by rw [gO, if_neg e]; exact s1, s2, by rw [gC, if_neg e]; exact s3⟩
  · obtain ⟨c1, c2⟩ := ad_out hm
    have hF : fdK (C.set i (i : Int)) (ND.set i n2) n2 i L.length = (i : Int) := by
      rcases fd_cases (C.set i (i : Int)) (ND.set i n2) n2 i L.length with ⟨q1, _⟩ | ⟨k, q1, q2, q3, q4, q5⟩
      · exact q1
      · obtain ⟨j2, r1, r2⟩ := hfound k q1 q2 q4 q5
        exact absurd (List.mem_of_getElem? r2) hm
    rw [c1, c2, hF]
    have hnew : i ∉ RP := by
      intro q
      obtain ⟨j, hj⟩ := List.getElem?_of_mem q
      have hjl := (List.getElem?_eq_some_iff.mp hj).1
      obtain ⟨dj, hdj⟩ : ∃ dj, NL[j]? = some dj := ⟨_, List.getElem?_eq_getElem (by rw [← h.len]; exact hjl)⟩
      have := (h.rep j i dj hj hdj).1
      omega
    have hwide : ∀ {r : Rn}, OkR RP.length r → OkR (RP ++ [i]).length r := fun hr q => by
      have := hr q
      rw [List.length_append, List.length_singleton]
      omega
    refine ⟨RP ++ [i], ⟨by rw [List.length_append, List.length_append, h.len]; rfl, by rw [List.length_set]; exact h.ol, by rw [List.length_set]; exact h.cl, by rw [List.length_set]; exact h.nl, ?_, ?_, fun j' p' d' g1 g2 => ?_, fun k g1 g2 => ?_, fun d' hd' r hr => ?_⟩⟩
    · rw [List.nodup_append]
      exact ⟨h.nd, by simp, fun a ha b hb => by rw [List.mem_singleton.mp hb]; rintro rfl; exact hm ha⟩
    · rw [List.nodup_append]
      exact ⟨h.pd, by simp, fun a ha b hb => by rw [List.mem_singleton.mp hb]; rintro rfl; exact hnew ha⟩
    · by_cases e : j' < RP.length
      · rw [List.getElem?_append_left e] at g1
        rw [List.getElem?_append_left (by rw [← h.len]; exact e)] at g2
        obtain ⟨s1, s2, s3, s4⟩ := h.rep j' p' d' g1 g2
        exact ⟨by omega, s2, by rw [gC, if_neg (by omega)]; exact s3, by rw [gN, if_neg (by omega), s4, renD_app i (h.kid d' (List.mem_of_getElem? g2))]⟩
      · have e2 : j' = RP.length := by
          have := (List.getElem?_eq_some_iff.mp g1).1
          rw [List.length_append, List.length_singleton] at this
          omega
        rw [e2, List.getElem?_append_right (Nat.le_refl _), Nat.sub_self] at g1
        rw [e2, h.len, List.getElem?_append_right (Nat.le_refl _), Nat.sub_self] at g2
        cases g1
        cases g2
        exact ⟨Nat.le_refl _, hi, by rw [gC, if_pos rfl], by rw [gN, if_pos rfl, hren, renD_app _ hok]⟩
    · by_cases e : i = k
      · subst e
        exact ⟨NL.length, i, by rw [gO, if_pos rfl], by rw [← h.len, List.getElem?_append_right (Nat.le_refl _), Nat.sub_self]; rfl, by rw [gC, if_pos rfl]⟩
      · obtain ⟨j', p', s1, s2, s3⟩ := h.cls k (by omega) g2
        exact ⟨j', p', by rw [gO, if_neg e]; exact s1, by rw [List.getElem?_append_left (List.getElem?_eq_some_iff.mp s2).1]; exact s2, by rw [gC, if_neg e]; exact s3⟩
    · rcases List.mem_append.mp hd' with q | q
      · exact hwide (h.kid d' q r hr)
      · rw [List.mem_singleton.mp q] at hr
        exact hwide (hok r hr)
theorem rel_all (L : List Nde) (hk : ∀ (i : Nat) (d : Nde), L[i]? = some d → ∀ r ∈ d.r, r.k = true → (i : Int) < r.n ∧ r.n < (L.length : Int)) : ∀ (g : Nat) (NL : List Nde) (OF C : List Int) (ND : List Nde) (RP : List Nat), g ≤ L.length → RelJ L g NL OF C ND RP →
    ∃ RP', RelJ L 0 ((List.range g).reverse.foldl (stJ L) (NL, OF)).1 ((List.range g).reverse.foldl (stJ L) (NL, OF)).2 (clsD L g (C, ND)).1 (clsD L g (C, ND)).2 RP'
  | 0, NL, OF, C, ND, RP, _, h => ⟨RP, h⟩
  | i + 1, NL, OF, C, ND, RP, hg, h => by
    obtain ⟨RP', h'⟩ := h.step (by omega) (fun r hr hkr => by
      rw [List.getD_eq_getElem?_getD, List.getElem?_eq_getElem (by omega)] at hr
      exact hk i _ (List.getElem?_eq_getElem (by omega)) r hr hkr)
    have := rel_all L hk i _ _ _ _ RP' (by omega) h'
    rw [List.range_succ, List.reverse_append]
    exact this
theorem rel_join (L : List Nde) (hk : ∀ (i : Nat) (d : Nde), L[i]? = some d → ∀ r ∈ d.r, r.k = true → (i : Int) < r.n ∧ r.n < (L.length : Int)) : ∃ RP, RelJ L 0 (joinL L).1 (joinL L).2 (clsL L).1 (clsL L).2 RP :=
  rel_all L hk L.length [] (List.replicate L.length 0) (List.replicate L.length 0) (List.replicate L.length ⟨0, []⟩) [] (Nat.le_refl _) ⟨rfl, by simp, by simp, by simp, by simp, by simp, fun j p d h => (by simp at h), fun k h1 h2 => by omega, fun d hd => (by cases hd)⟩
end Go.Proofs.Ytdpfdlkaickkiaa
namespace Go.Proofs.Ytdpfdlkaickkiaa
set_option linter.unusedSimpArgs false
set_option linter.unusedVariables false

structure DRelS (L : List Nde) (lo m : Nat) (s t : DfS) : Prop where
  inv : DInv L t
  st : ∀ z : Nat, Met t z → (z : Int) ∈ t.2 ∨ m ≤ z
  mono : ∀ z, Met s z → Met t z
  new : ∀ z, Met t z → Met s z ∨ z < lo
  ext : ∃ E, t.2 = s.2 ++ E ∧ ∀ x ∈ E, x < (lo : Int)
theorem dfs_mainS {L : List Nde} (ok : RevOk L) : ∀ (f n : Nat) (s : DfS) (m : Nat), n < L.length → ¬ Met s n → n < f → n < m → DInv L s → (∀ z : Nat, Met s z → (z : Int) ∈ s.2 ∨ m ≤ z) → DRelS L (n + 1) m s (dfs L f n s) ∧ Met (dfs L f n s) n ∧ (n : Int) ∈ (dfs L f n s).2
  | 0, n, s, m, hn, _, hf, _, _, _ => by omega
  | f + 1, n, s, m, hn, hmet, hf, hmn, hI, hst => by
    obtain ⟨d, hd⟩ : ∃ d, L[n]? = some d := ⟨L[n], by simp [hn]⟩
    rw [dfs_succ L f n s d hd]
    have hnl : n < s.1.length := by rw [hI.len]; exact hn
    have ms := fun z => met_set (s := s) hnl z
    have I1 : DInv L (s.1.set n true, s.2) := ⟨by simp [hI.len], fun x hx => ⟨(hI.dm x hx).1, (ms _).2 (.inr (hI.dm x hx).2)⟩, hI.nd, hI.cl⟩
    -- over the runs
    have loop : ∀ (l : List Rn) (u : DfS), (∀ r ∈ l, r ∈ d.r) → DRelS L n n (s.1.set n true, s.2) u → DRelS L n n (s.1.set n true, s.2) (l.foldl (stpR (dfs L f)) u) ∧ (∀ r ∈ l, r.k = true → Met (l.foldl (stpR (dfs L f)) u) r.n.toNat) ∧ (∀ z, Met u z → Met (l.foldl (stpR (dfs L f)) u) z) := by
      intro l
      induction l with
      | nil => intro u _ h; exact ⟨h, fun r hr => (by cases hr), fun z h => h⟩
      | cons r l ih =>
        intro u hl h
        have hr := hl r (List.mem_cons_self ..)
        have step : DRelS L n n (s.1.set n true, s.2) (stpR (dfs L f) u r) ∧ (r.k = true → Met (stpR (dfs L f) u r) r.n.toNat) ∧ (∀ z, Met u z → Met (stpR (dfs L f) u r) z) := by
          unfold stpR
          by_cases hk : r.k = true
          · obtain ⟨a1, a2, a3⟩ := ok.lead hd hr hk
            by_cases hm : Met u r.n.toNat
            · have hm' : u.1.getD r.n.toNat false = true := hm
              rw [hm', hk]
              exact ⟨h, fun _ => hm, fun z q => q⟩
            · have hm' : u.1.getD r.n.toNat false = false := by unfold Met at hm; simpa using hm
              rw [hm', hk]
              simp only [Bool.not_false, Bool.and_true, if_true]
              obtain ⟨b1, b2, b3⟩ := dfs_mainS ok f r.n.toNat u n a2 hm (by omega) (by omega) h.inv h.st
              refine ⟨⟨b1.inv, b1.st, fun z q => b1.mono z (h.mono z q), fun z q => ?_, ?_⟩, fun _ => b2, b1.mono⟩
              · rcases b1.new z q with c | c
                · exact h.new z c
                · exact .inr (by omega)
              · obtain ⟨E, e1, e2⟩ := h.ext
                obtain ⟨E2, e3, e4⟩ := b1.ext
                refine ⟨E ++ E2, by rw [e3, e1, List.append_assoc], fun x hx => ?_⟩
                rcases List.mem_append.mp hx with q | q
                · exact e2 x q
                · have := e4 x q; omega
          · have hk' : r.k = false := by simpa using hk
            rw [hk']
            exact ⟨h, fun q => absurd q (by decide), fun z q => q⟩
        obtain ⟨s1, s2, s3⟩ := step
        obtain ⟨t1, t2, t3⟩ := ih _ (fun r' hr' => hl r' (List.mem_cons_of_mem _ hr')) s1
        rw [List.foldl_cons]
        refine ⟨t1, fun r' hr' hk' => ?_, fun z q => t3 z (s3 z q)⟩
        rcases List.mem_cons.mp hr' with rfl | q
        · exact t3 _ (s2 hk')
        · exact t2 r' q hk'
    have R0 : DRelS L n n (s.1.set n true, s.2) (s.1.set n true, s.2) := ⟨I1, fun z q => by
      rcases (ms z).1 q with c | c
      · exact .inr (by omega)
      · rcases hst z c with k | k
        · exact .inl k
        · exact .inr (by omega), fun z q => q, fun z q => .inl q, [], by simp, fun x hx => by cases hx⟩
    obtain ⟨u1, u2, u3⟩ := loop d.r.reverse _ (fun r hr => List.mem_reverse.mp hr) R0
    generalize d.r.reverse.foldl (stpR (dfs L f)) (s.1.set n true, s.2) = u at *
    have hmn' : Met u n := u1.mono n ((ms n).2 (.inl rfl))
    obtain ⟨E, e1, e2⟩ := u1.ext
    dsimp only at e1
    have hnot : (n : Int) ∉ u.2 := by
      rw [e1]
      intro q
      rcases List.mem_append.mp q with q | q
      · have := (hI.dm _ q).2
        rw [Int.toNat_natCast] at this
        exact hmet this
      · have := e2 _ q; omega
    have hmt : ∀ z, Met (u.1, u.2 ++ [(n : Int)]) z ↔ Met u z := fun z => Iff.rfl
    refine ⟨⟨⟨u1.inv.len, ?_, ?_, ?_⟩, ?_, ?_, ?_, ?_⟩, hmn', by simp⟩
    · intro x hx
      rcases List.mem_append.mp hx with q | q
      · exact u1.inv.dm x q
      · simp at q; subst q; exact ⟨by omega, by rw [Int.toNat_natCast]; exact hmn'⟩
    · rw [List.nodup_append]
      refine ⟨u1.inv.nd, by simp, fun a ha b hb => ?_⟩
      simp at hb
      subst hb
      rintro rfl
      exact hnot ha
    · intro A x B hs d' r hd' hr hk
      dsimp only at hs
      rcases List.eq_nil_or_concat B with rfl | ⟨B', y, rfl⟩
      · have e : u.2 ++ [(n : Int)] = A ++ [x] := hs
        obtain ⟨h1, h2⟩ := List.append_inj' e rfl
        injection h2 with h2
        subst h1 h2
        rw [Int.toNat_natCast, hd] at hd'
        cases hd'
        obtain ⟨a1, a2, a3⟩ := ok.lead hd hr hk
        have hm := u2 r (List.mem_reverse.mpr hr) hk
        rcases u1.st _ hm with q | q
        · rw [← a3] at q; exact q
        · omega
      · have e : u.2 ++ [(n : Int)] = (A ++ x :: B') ++ [y] := by rw [hs]; simp
        obtain ⟨h1, h2⟩ := List.append_inj' e rfl
        exact u1.inv.cl A x B' h1 d' r hd' hr hk
    · intro z q
      have q' : Met u z := q
      rcases u1.st z q' with c | c
      · exact .inl (List.mem_append_left _ c)
      · by_cases hz : z = n
        · subst hz; exact .inl (by simp)
        · rcases u1.new z q' with k | k
          · rcases (ms z).1 k with k | k
            · exact absurd k hz
            · rcases hst z k with k | k
              · exact .inl (by rw [e1]; simp [k])
              · exact .inr k
          · omega
    · intro z q
      exact u1.mono z ((ms z).2 (.inr q))
    · intro z q
      have q' : Met u z := q
      rcases u1.new z q' with k | k
      · rcases (ms z).1 k with k | k
        · exact .inr (by omega)
        · exact .inl k
      · exact .inr (by omega)
    · refine ⟨E ++ [(n : Int)], by dsimp only; rw [e1, List.append_assoc], fun x hx => ?_⟩
      rcases List.mem_append.mp hx with q | q
      · have := e2 x q; omega
      · simp at q; omega
end Go.Proofs.Ytdpfdlkaickkiaa
namespace Go.Proofs.Ytdpfdlkaickkiaa
open Go.RowKit Go.Shelf
set_option linter.unusedSimpArgs false
set_option linter.unusedVariables false
attribute [local go_sem] Oper.semAt_some

structure JOk (J : List Nde) : Prop where
  rev : RevOk J
  pos : 0 < J.length
  len : (ordS J).length = J.length
  rng : ∀ x ∈ ordS J, 0 ≤ x ∧ x < (J.length : Int)
  bit : ∀ d ∈ J, 0 ≤ d.b ∧ d.b ≤ 128
def shR (F : Int) (L : List Nde) : List Nde := if (chkM F L).2 = 0 then ioS (joinL L).1 else []
set_option maxRecDepth 20000 in
set_option maxHeartbeats 8000000 in
theorem share12_any (F : Int) (v : Value) (L : List Nde) (w : World) (hv : RwD w v L) (hl : L.length ≤ 1000000) (hr : ∀ d ∈ L, d.r.length ≤ 1000000) (hj : (chkM F L).2 = 0 → JOk (joinL L).1) :
    Calls Try.prog 12 #[.int .i64 F, v] w fun e w' => ∃ v' V, e = .returned (.tuple #[v', .int .i64 (chkM F L).2]) ∧ NdO w' w.heap.size v' V (shR F L) ∧ Below w.heap.size w w' := by
  have KC := mcheck_any F v L w hv (by omega) (fun d hd => Nat.le_trans (hr d hd) (by omega))
  have HV := hid13 hv
  obtain ⟨ao, c, hvf, -⟩ := id hv
  subst hvf
  have HJ := hid13 hj
  have HJi := hid13 (joinS_inv L hr (List.range L.length).reverse)
  have HOk := fun h => (chk_ok (F := F) (L := L) h).1
  have HOk := hid13 HOk
  have HL : Hid (L.length ≤ 1000000 ∧ ∀ d ∈ L, d.r.length ≤ 1000000) := ⟨hl, hr⟩
  have HR : Hid (((chkM F L).2 = 0 → shR F L = ioS (joinL L).1) ∧ ((chkM F L).2 ≠ 0 → shR F L = [])) := ⟨fun h => by unfold shR; rw [if_pos h], fun h => by unfold shR; rw [if_neg h]⟩
  obtain ⟨S, hS⟩ : ∃ S, S = shR F L := ⟨_, rfl⟩
  obtain ⟨D, hD⟩ : ∃ D, D = (chkM F L).1 := ⟨_, rfl⟩
  obtain ⟨E, hE⟩ : ∃ E, E = (chkM F L).2 := ⟨_, rfl⟩
  rw [← hS] at HR ⊢
  rw [← hD, ← hE] at KC
  rw [← hE] at HR HJ HOk ⊢
  clear hv hj hl hr hS hD hE
  go_enter Try.func12, Try.ntmps12
  go_wp2_with fail
  refine KC.mono ?_
  rintro e w1 ⟨rfl, hb1⟩
  have HB1 := hid13 hb1
  clear KC hb1
  by_cases hE : E = 0
  · have hjk := HJ.out hE
    have hok := HOk.out hE
    have KJ := join12_any (.slice ao L.length c) L w1 (HV.out.below HB1.out) HL.out.1 HL.out.2 (fun d hd => by
      obtain ⟨i, hi⟩ := List.getElem?_of_mem hd
      exact ⟨(hok.2 i d hi).b0, (hok.2 i d hi).b1⟩) (fun d hd r hr hk => by
      obtain ⟨i, hi⟩ := List.getElem?_of_mem hd
      have := (hok.2 i d hi).kid r hr hk
      omega)
    have HJk := hid13 hjk
    clear hjk hok
    go_wp2_with fail
    refine KJ.mono ?_
    rintro e w2 ⟨vn, V, Gf, M, rfl, hN, hG, hGf, hb2⟩
    have KI := inOrder12_any vn (.slice (some ⟨Gf, 0, none⟩) L.length L.length) (.map (some M)) (joinL L).1 w2 hN.rwd HJk.out.rev HJk.out.pos (by have := HJi.out.n; rw [List.length_reverse, List.length_range] at this; have := HL.out.1; show (joinL L).1.length ≤ _; unfold joinL; omega) HJi.out.r HJk.out.bit HJk.out.len HJk.out.rng
    have HB2 := hid13 (HB1.out.trans (hb2.mono HB1.out.size))
    have hSE : S = ioS (joinL L).1 := HR.out.1 hE
    rw [← hSE] at KI
    clear KJ hN hG hGf hb2 hSE
    go_wp2_with fail
    refine KI.mono ?_
    rintro e w3 ⟨v3, V3, rfl, hN3, hb3⟩
    have HF : Hid (NdO w3 w.heap.size v3 V3 S ∧ Below w.heap.size w w3) := hid13 ⟨hN3.base HB2.out.size, HB2.out.trans (hb3.mono HB2.out.size)⟩
    obtain ⟨a3, c3, hv3⟩ := own_form hN3.o
    subst hv3
    clear KI hN3 hb3
    go_wp2
    exact bodyPost_ret (v := .tuple #[.slice a3 S.length c3, .int .i64 0]) (by simp [results, Try.results12, go_sem, hE]) rfl ⟨_, _, by rw [hE], HF.out.1, HF.out.2⟩
  · have hS := HR.out.2 hE
    have HF : Hid (NdO w1 w.heap.size (.slice none 0 0) [] S) := hid13 (by rw [hS]; exact NdO.nil (World.ownsRow_nil _ _ _ _))
    clear hS
    go_wp2
    exact bodyPost_ret (v := .tuple #[.slice none 0 0, .int .i64 E]) (by simp [results, Try.results12, go_sem, hE]) rfl ⟨_, _, rfl, HF.out, HB1.out⟩
end Go.Proofs.Ytdpfdlkaickkiaa
