/-
  Part 23 of the proof: 4 texts, one behind the other.
-/
import Derived.Test.YtdpfdlkaickkiaaPart22
import Derived.Test.YtdpfdlkaickkiaaPart21
import Derived.Test.YtdpfdlkaickkiaaPart8
import Derived.Test.YtdpfdlkaickkiaaPart20
namespace Go.Proofs.Ytdpfdlkaickkiaa
set_option linter.unusedSimpArgs false
set_option linter.unusedVariables false

theorem nodup_at12 {α : Type} {l : List α} (h : l.Nodup) {i j : Nat} {a : α} (hi : l[i]? = some a) (hj : l[j]? = some a) : i = j := by
  have hp := List.pairwise_iff_getElem.mp h
  obtain ⟨i1, i2⟩ := List.getElem?_eq_some_iff.mp hi
  obtain ⟨j1, j2⟩ := List.getElem?_eq_some_iff.mp hj
  rcases Nat.lt_trichotomy i j with q | q | q
  · exact absurd (i2.trans j2.symm) (hp i j i1 j1 q)
  · exact q
  · exact absurd (j2.trans i2.symm) (hp j i j1 i1 q)
theorem fsQ_some (NL : List Nde) (d : Nde) : ∀ (l : List Int) (x : Int), fsQ NL d l = some x → x ∈ l ∧ NL.getD x.toNat ⟨0, []⟩ = d
  | [], x, h => by cases h
  | y :: l, x, h => by
    have h' : (if sqD (NL.getD y.toNat ⟨0, []⟩) d then some y else fsQ NL d l) = some x := h
    by_cases c : sqD (NL.getD y.toNat ⟨0, []⟩) d = true
    · rw [if_pos c] at h'
      cases h'
      exact ⟨List.mem_cons_self .., (sqD_iff _ _).mp c⟩
    · rw [if_neg c] at h'
      obtain ⟨h1, h2⟩ := fsQ_some NL d l x h'
      exact ⟨List.mem_cons_of_mem _ h1, h2⟩
theorem fsQ_none (NL : List Nde) (d : Nde) : ∀ (l : List Int), fsQ NL d l = none → ∀ x ∈ l, NL.getD x.toNat ⟨0, []⟩ ≠ d
  | [], h, x, hx => by cases hx
  | y :: l, h, x, hx => by
    have h' : (if sqD (NL.getD y.toNat ⟨0, []⟩) d then some y else fsQ NL d l) = none := h
    by_cases c : sqD (NL.getD y.toNat ⟨0, []⟩) d = true
    · rw [if_pos c] at h'; cases h'
    · rw [if_neg c] at h'
      rcases List.mem_cons.mp hx with rfl | hx
      · exact fun e => c ((sqD_iff _ _).mpr e)
      · exact fsQ_none NL d l h' x hx
theorem bkG_mem (d : Nde) : ∀ (l : List Nde) (i j : Nat), l[j]? = some d → ((i + j : Nat) : Int) ∈ bkG d l i
  | [], i, j, h => by simp at h
  | x :: l, i, 0, h => by
    simp at h
    subst h
    show _ ∈ (if oE x x then (i : Int) :: bkG x l (i + 1) else bkG x l (i + 1))
    rw [if_pos ((oE_iff x x).mpr rfl)]
    simp
  | x :: l, i, j + 1, h => by
    have := bkG_mem d l (i + 1) j (by simpa using h)
    rw [show i + 1 + j = i + (j + 1) by omega] at this
    show _ ∈ (if oE x d then (i : Int) :: bkG d l (i + 1) else bkG d l (i + 1))
    split
    · exact List.mem_cons_of_mem _ this
    · exact this
theorem ad_in {NL : List Nde} (hn : NL.Nodup) {d : Nde} {j : Nat} (h : NL[j]? = some d) : adI NL d = (j : Int) ∧ adN NL d = NL := by
  unfold adI adN
  cases hf : fsQ NL d (bkG d NL 0) with
  | none =>
    have h1 := fsQ_none NL d _ hf _ (bkG_mem d NL 0 j h)
    rw [Nat.zero_add, Int.toNat_natCast, List.getD_eq_getElem?_getD, h] at h1
    exact absurd rfl h1
  | some x =>
    obtain ⟨h1, h2⟩ := fsQ_some NL d _ x hf
    have h3 := bkG_in d NL 0 x h1
    obtain ⟨k, rfl⟩ : ∃ k : Nat, x = (k : Int) := ⟨x.toNat, by omega⟩
    have hk : k < NL.length := by omega
    rw [Int.toNat_natCast, List.getD_eq_getElem?_getD, List.getElem?_eq_getElem hk] at h2
    have hj := (List.getElem?_eq_some_iff.mp h)
    have : k = j := nodup_at12 hn (by rw [List.getElem?_eq_getElem hk]; exact congrArg some h2) h
    rw [this]
    exact ⟨rfl, rfl⟩
theorem ad_out {NL : List Nde} {d : Nde} (h : d ∉ NL) : adI NL d = (NL.length : Int) ∧ adN NL d = NL ++ [d] := by
  unfold adI adN
  cases hf : fsQ NL d (bkG d NL 0) with
  | none => exact ⟨rfl, rfl⟩
  | some x =>
    obtain ⟨h1, h2⟩ := fsQ_some NL d _ x hf
    have h3 := bkG_in d NL 0 x h1
    have hk : x.toNat < NL.length := by omega
    rw [List.getD_eq_getElem?_getD, List.getElem?_eq_getElem hk] at h2
    exact absurd (h2 ▸ List.getElem_mem hk) h
theorem fd_cases (C : List Int) (ND : List Nde) (n : Nde) (i : Nat) : ∀ m : Nat, (fdK C ND n i m = (i : Int) ∧ ∀ k, i < k → k < m → ¬ (C.getD k 0 = (k : Int) ∧ ND.getD k ⟨0, []⟩ = n)) ∨ ∃ k, i < k ∧ k < m ∧ fdK C ND n i m = (k : Int) ∧ C.getD k 0 = (k : Int) ∧ ND.getD k ⟨0, []⟩ = n
  | 0 => .inl ⟨rfl, fun k _ h => absurd h (Nat.not_lt_zero k)⟩
  | m + 1 => by
    unfold fdK
    by_cases him : i < m
    · rw [if_pos him]
      by_cases c : ((C.getD m 0 == (m : Int)) && sqD (ND.getD m ⟨0, []⟩) n) = true
      · rw [if_pos c]
        rw [Bool.and_eq_true, sqD_iff] at c
        exact .inr ⟨m, him, by omega, rfl, by simpa using c.1, c.2⟩
      · rw [if_neg c]
        rcases fd_cases C ND n i m with ⟨h1, h2⟩ | ⟨k, h1, h2, h3⟩
        · refine .inl ⟨h1, fun k hk hkm h => ?_⟩
          by_cases e : k = m
          · subst e
            apply c
            rw [Bool.and_eq_true, sqD_iff]
            exact ⟨by simpa using h.1, h.2⟩
          · exact h2 k hk (by omega) h
        · exact .inr ⟨k, h1, by omega, h3⟩
    · rw [if_neg him]
      exact .inl ⟨rfl, fun k h1 h2 => by omega⟩
def renR (RP : List Nat) (r : Rn) : Rn := if r.k then ⟨r.f, true, ((RP.getD r.n.toNat 0 : Nat) : Int)⟩ else r
def renD (RP : List Nat) (d : Nde) : Nde := ⟨d.b, d.r.map (renR RP)⟩
def OkR (N : Nat) (r : Rn) : Prop := r.k = true → 0 ≤ r.n ∧ r.n < (N : Int)
theorem nodup_getD {RP : List Nat} (h : RP.Nodup) {a b : Nat} (ha : a < RP.length) (hb : b < RP.length) (e : RP.getD a 0 = RP.getD b 0) : a = b := by
  rw [List.getD_eq_getElem?_getD, List.getD_eq_getElem?_getD, List.getElem?_eq_getElem ha, List.getElem?_eq_getElem hb] at e
  exact nodup_at12 h (List.getElem?_eq_getElem ha) (by rw [List.getElem?_eq_getElem hb]; exact congrArg some e.symm)
theorem renR_inj {RP : List Nat} (h : RP.Nodup) {r s : Rn} (hr : OkR RP.length r) (hs : OkR RP.length s) (e : renR RP r = renR RP s) : r = s := by
  obtain ⟨rf, rk, rn⟩ := r
  obtain ⟨sf, sk, sn⟩ := s
  unfold renR at e
  cases rk <;> cases sk
  · exact e
  · simp at e
  · simp at e
  · have h1 := hr rfl
    have h2 := hs rfl
    dsimp only at h1 h2 e
    simp only [if_true] at e
    injection e with e1 _ e3
    have e4 : RP.getD rn.toNat 0 = RP.getD sn.toNat 0 := by exact_mod_cast e3
    have := nodup_getD h (by omega) (by omega) e4
    have : rn = sn := by omega
    rw [e1, this]
theorem smR_ren {RP : List Nat} (h : RP.Nodup) {r s : Rn} (hr : OkR RP.length r) (hs : OkR RP.length s) : smR (renR RP r) (renR RP s) = smR r s := by
  obtain ⟨rf, rk, rn⟩ := r
  obtain ⟨sf, sk, sn⟩ := s
  unfold renR smR
  cases rk <;> cases sk <;> simp
  have h1 := hr rfl
  have h2 := hs rfl
  dsimp only at h1 h2
  rw [Bool.eq_iff_iff]
  simp
  constructor
  · intro e
    have := nodup_getD h (a := rn.toNat) (b := sn.toNat) (by omega) (by omega) (by rw [List.getD_eq_getElem?_getD, List.getD_eq_getElem?_getD]; exact_mod_cast e)
    omega
  · rintro rfl; rfl
theorem map_inj12 {α β : Type} {f : α → β} : ∀ {l m : List α}, (∀ a ∈ l, ∀ b ∈ m, f a = f b → a = b) → l.map f = m.map f → l = m
  | [], [], _, _ => rfl
  | [], _ :: _, _, e => by simp at e
  | _ :: _, [], _, e => by simp at e
  | a :: l, b :: m, h, e => by
    simp at e
    have h1 := h a (List.mem_cons_self ..) b (List.mem_cons_self ..) e.1
    have h2 : l = m := map_inj12 (f := f) (fun x hx y hy => h x (List.mem_cons_of_mem _ hx) y (List.mem_cons_of_mem _ hy)) (by simpa using e.2)
    rw [h1, h2]
theorem renD_inj {RP : List Nat} (h : RP.Nodup) {d e : Nde} (hd : ∀ r ∈ d.r, OkR RP.length r) (he : ∀ r ∈ e.r, OkR RP.length r) (q : renD RP d = renD RP e) : d = e := by
  obtain ⟨a, l⟩ := d
  obtain ⟨b, m⟩ := e
  unfold renD at q
  injection q with q1 q2
  dsimp only at q1 q2 hd he
  have e2 := map_inj12 (f := renR RP) (l := l) (m := m) (fun r hr s hs => renR_inj h (hd r hr) (he s hs)) q2
  rw [q1, e2]
theorem mg_ren {RP : List Nat} (h : RP.Nodup) (RS : List Rn) (r : Rn) (hS : ∀ q ∈ RS, OkR RP.length q) (hr : OkR RP.length r) : mgR (RS.map (renR RP)) (renR RP r) = (mgR RS r).map (renR RP) := by
  rcases List.eq_nil_or_concat RS with rfl | ⟨RS0, q, rfl⟩
  · rfl
  · rw [List.concat_eq_append, List.map_append, List.map_cons, List.map_nil, mgR_app, mgR_app, smR_ren h (hS q (by simp)) hr]
    split <;> simp
theorem mg_ok {N : Nat} {RS : List Rn} {r : Rn} (hS : ∀ q ∈ RS, OkR N q) (hr : OkR N r) : ∀ q ∈ mgR RS r, OkR N q := by
  intro q hq
  unfold mgR at hq
  split at hq
  · rcases List.mem_append.mp hq with h | h
    · exact hS q h
    · rw [List.mem_singleton.mp h]; exact hr
  · split at hq
    · exact hS q hq
    · rcases List.mem_append.mp hq with h | h
      · exact hS q h
      · rw [List.mem_singleton.mp h]; exact hr
theorem nb_ren {RP : List Nat} (h : RP.Nodup) (OF C : List Int) : ∀ (t pre RS : List Rn), (∀ q ∈ RS, OkR RP.length q) → (∀ r ∈ t, r.k = true → 0 ≤ OF.getD r.n.toNat 0 ∧ OF.getD r.n.toNat 0 < (RP.length : Int) ∧ C.getD r.n.toNat 0 = ((RP.getD (OF.getD r.n.toNat 0).toNat 0 : Nat) : Int)) →
    nbG (fun _ r => C.getD r.n.toNat 0) pre (RS.map (renR RP)) t = (nbG (fun _ r => OF.getD r.n.toNat 0) pre RS t).map (renR RP) ∧ ∀ q ∈ nbG (fun _ r => OF.getD r.n.toNat 0) pre RS t, OkR RP.length q
  | [], pre, RS, hS, _ => ⟨rfl, hS⟩
  | r :: t, pre, RS, hS, ht => by
    have hr : OkR RP.length (rnK (fun _ r => OF.getD r.n.toNat 0) pre r) := by
      unfold rnK
      by_cases hk : r.k = true
      · rw [if_pos hk]
        intro _
        have := ht r (by simp) hk
        exact ⟨this.1, this.2.1⟩
      · rw [if_neg hk]
        exact fun q => absurd q hk
    have he : rnK (fun _ r => C.getD r.n.toNat 0) pre r = renR RP (rnK (fun _ r => OF.getD r.n.toNat 0) pre r) := by
      unfold rnK renR
      by_cases hk : r.k = true
      · have h9 := (ht r (by simp) hk).2.2
        rw [if_pos hk, if_pos hk, if_pos rfl]
        dsimp only
        rw [h9]
      · rw [if_neg hk, if_neg hk, if_neg hk]
    show nbG _ (pre ++ [r]) (mgR (RS.map (renR RP)) (rnK (fun _ r => C.getD r.n.toNat 0) pre r)) t = (nbG _ (pre ++ [r]) (mgR RS (rnK (fun _ r => OF.getD r.n.toNat 0) pre r)) t).map (renR RP) ∧ ∀ q ∈ nbG _ (pre ++ [r]) (mgR RS (rnK (fun _ r => OF.getD r.n.toNat 0) pre r)) t, OkR RP.length q
    rw [he, mg_ren h RS _ hS hr]
    exact nb_ren h OF C t (pre ++ [r]) _ (mg_ok hS hr) (fun s hs => ht s (by simp [hs]))
theorem renD_app {RP : List Nat} (i : Nat) {d : Nde} (hd : ∀ r ∈ d.r, OkR RP.length r) : renD (RP ++ [i]) d = renD RP d := by
  unfold renD
  congr 1
  apply List.map_congr_left
  intro r hr
  unfold renR
  by_cases hk : r.k = true
  · rw [if_pos hk, if_pos hk]
    have := hd r hr hk
    rw [List.getD_eq_getElem?_getD, List.getD_eq_getElem?_getD, List.getElem?_append_left (by omega)]
  · rw [if_neg hk, if_neg hk]
structure RelJ (L : List Nde) (g : Nat) (NL : List Nde) (OF C : List Int) (ND : List Nde) (RP : List Nat) : Prop where
  len : RP.length = NL.length
  ol : OF.length = L.length
  cl : C.length = L.length
  nl : ND.length = L.length
  nd : NL.Nodup
  pd : RP.Nodup
  rep : ∀ (j p : Nat) (d : Nde), RP[j]? = some p → NL[j]? = some d → g ≤ p ∧ p < L.length ∧ C.getD p 0 = (p : Int) ∧ ND.getD p ⟨0, []⟩ = renD RP d
  cls : ∀ k, g ≤ k → k < L.length → ∃ j p : Nat, OF.getD k 0 = (j : Int) ∧ RP[j]? = some p ∧ C.getD k 0 = (p : Int)
  kid : ∀ d ∈ NL, ∀ r ∈ d.r, OkR RP.length r
theorem set_at12 {α : Type} (l : List α) (i k : Nat) (a z : α) (hi : i < l.length) : (l.set i a).getD k z = if i = k then a else l.getD k z := by
  rw [List.getD_eq_getElem?_getD, List.getElem?_set, List.getD_eq_getElem?_getD]
  by_cases h : i = k
  · rw [if_pos h, if_pos (by omega), if_pos h]; rfl
  · rw [if_neg h, if_neg h]
theorem RelJ.step {L : List Nde} {i : Nat} {NL : List Nde} {OF C : List Int} {ND : List Nde} {RP : List Nat} (h : RelJ L (i + 1) NL OF C ND RP) (hi : i < L.length) (hk : ∀ r ∈ (L.getD i ⟨0, []⟩).r, r.k = true → (i : Int) < r.n ∧ r.n < (L.length : Int)) :
    ∃ RP', RelJ L i (stJ L (NL, OF) i).1 (stJ L (NL, OF) i).2 (stC L (C, ND) i).1 (stC L (C, ND) i).2 RP' := by
  obtain ⟨d, hd⟩ : ∃ d, d = L.getD i ⟨0, []⟩ := ⟨_, rfl⟩
  rw [← hd] at hk
  obtain ⟨n1, hn1⟩ : ∃ n, n = nmD OF d := ⟨_, rfl⟩
  obtain ⟨n2, hn2⟩ : ∃ n, n = nmD C d := ⟨_, rfl⟩
  obtain ⟨e1, e2⟩ := nb_ren h.pd OF C d.r [] [] (fun q hq => (by cases hq)) (fun r hr hkr => by
    have h1 := hk r hr hkr
    obtain ⟨j, p, a1, a2, a3⟩ := h.cls r.n.toNat (by omega) (by omega)
    have hj := (List.getElem?_eq_some_iff.mp a2).1
    refine ⟨by omega, by omega, ?_⟩
    rw [a3, a1, Int.toNat_natCast, List.getD_eq_getElem?_getD, a2]; rfl)
  have hren : n2 = renD RP n1 := by
    rw [hn1, hn2]
    unfold nmD renD
    dsimp only
    rw [← e1]; rfl
  have hok : ∀ r ∈ n1.r, OkR RP.length r := by rw [hn1]; exact e2
  have hstJ : stJ L (NL, OF) i = (adN NL n1, OF.set i (adI NL n1)) := by unfold stJ; rw [← hd, ← hn1]
  have hstC : stC L (C, ND) i = ((C.set i (i : Int)).set i (fdK (C.set i (i : Int)) (ND.set i n2) n2 i L.length), ND.set i n2) := by unfold stC; rw [← hd, ← hn2]
  rw [hstJ, hstC]
  dsimp only
  have hiO : i < OF.length := by rw [h.ol]; exact hi
  have hiC : i < C.length := by rw [h.cl]; exact hi
  have hiN : i < ND.length := by rw [h.nl]; exact hi
  rw [List.set_set]
  have gC := fun k (c : Int) => set_at12 C i k c 0 hiC
  have gN := fun k => set_at12 ND i k n2 ⟨0, []⟩ hiN
  have gO := fun k (c : Int) => set_at12 OF i k c 0 hiO
  -- what the search finds
  have hfound : ∀ k, i < k → k < L.length → (C.set i (i : Int)).getD k 0 = (k : Int) → (ND.set i n2).getD k ⟨0, []⟩ = n2 → ∃ j : Nat, RP[j]? = some k ∧ NL[j]? = some n1 := by
    intro k h1 h2 h3 h4
    rw [gC, if_neg (by omega)] at h3
    rw [gN, if_neg (by omega)] at h4
    obtain ⟨j, p, a1, a2, a3⟩ := h.cls k (by omega) h2
    have hp : p = k := by rw [h3] at a3; exact_mod_cast a3.symm
    subst hp
    have hj := (List.getElem?_eq_some_iff.mp a2).1
    obtain ⟨dj, hdj⟩ : ∃ dj, NL[j]? = some dj := ⟨_, List.getElem?_eq_getElem (by rw [← h.len]; exact hj)⟩
    obtain ⟨b1, b2, b3, b4⟩ := h.rep j p dj a2 hdj
    rw [h4, hren] at b4
    have := renD_inj h.pd hok (h.kid dj (List.mem_of_getElem? hdj)) b4
    subst this
    exact ⟨j, a2, hdj⟩
  by_cases hm : n1 ∈ NL
  · obtain ⟨j, hj⟩ := List.getElem?_of_mem hm
    obtain ⟨c1, c2⟩ := ad_in h.nd hj
    have hjl := (List.getElem?_eq_some_iff.mp hj).1
    obtain ⟨p, hp⟩ : ∃ p, RP[j]? = some p := ⟨_, List.getElem?_eq_getElem (by rw [h.len]; exact hjl)⟩
    obtain ⟨b1, b2, b3, b4⟩ := h.rep j p n1 hp hj
    have hF : fdK (C.set i (i : Int)) (ND.set i n2) n2 i L.length = (p : Int) := by
      rcases fd_cases (C.set i (i : Int)) (ND.set i n2) n2 i L.length with ⟨_, q2⟩ | ⟨k, q1, q2, q3, q4, q5⟩
      · exact absurd ⟨by rw [gC, if_neg (by omega)]; exact b3, by rw [gN, if_neg (by omega), b4, hren]⟩ (q2 p (by omega) b2)
      · obtain ⟨j2, r1, r2⟩ := hfound k q1 q2 q4 q5
        have : j2 = j := nodup_at12 h.nd r2 hj
        subst this
        rw [hp] at r1
        cases r1
        exact q3
    rw [c1, c2, hF]
    refine ⟨RP, ⟨h.len, by rw [List.length_set]; exact h.ol, by rw [List.length_set]; exact h.cl, by rw [List.length_set]; exact h.nl, h.nd, h.pd, fun j' p' d' g1 g2 => ?_, fun k g1 g2 => ?_, h.kid⟩⟩
    · obtain ⟨s1, s2, s3, s4⟩ := h.rep j' p' d' g1 g2
      exact ⟨by omega, s2, by rw [gC, if_neg (by omega)]; exact s3, by rw [gN, if_neg (by omega)]; exact s4⟩
    · by_cases e : i = k
      · subst e
        exact ⟨j, p, by rw [gO, if_pos rfl], hp, by rw [gC, if_pos rfl]⟩
      · obtain ⟨j', p', s1, s2, s3⟩ := h.cls k (by omega) g2
        exact ⟨j', p', by rw [gO, if_neg e]; exact s1, s2, by rw [gC, if_neg e]; exact s3⟩
  · obtain ⟨c1, c2⟩ := ad_out hm
    have hF : fdK (C.set i (i : Int)) (ND.set i n2) n2 i L.length = (i : Int) := by
      rcases fd_cases (C.set i (i : Int)) (ND.set i n2) n2 i L.length with ⟨q1, _⟩ | ⟨k, q1, q2, q3, q4, q5⟩
      · exact q1
      · obtain ⟨j2, r1, r2⟩ := hfound k q1 q2 q4 q5
        exact absurd (List.mem_of_getElem? r2) hm
    rw [c1, c2, hF]
    have hnew : i ∉ RP := by
      intro q
      obtain ⟨j, hj⟩ := List.getElem?_of_mem q
      have hjl := (List.getElem?_eq_some_iff.mp hj).1
      obtain ⟨dj, hdj⟩ : ∃ dj, NL[j]? = some dj := ⟨_, List.getElem?_eq_getElem (by rw [← h.len]; exact hjl)⟩
      have := (h.rep j i dj hj hdj).1
      omega
    have hwide : ∀ {r : Rn}, OkR RP.length r → OkR (RP ++ [i]).length r := fun hr q => by
      have := hr q
      rw [List.length_append, List.length_singleton]
      omega
    refine ⟨RP ++ [i], ⟨by rw [List.length_append, List.length_append, h.len]; rfl, by rw [List.length_set]; exact h.ol, by rw [List.length_set]; exact h.cl, by rw [List.length_set]; exact h.nl, ?_, ?_, fun j' p' d' g1 g2 => ?_, fun k g1 g2 => ?_, fun d' hd' r hr => ?_⟩⟩
    · rw [List.nodup_append]
      exact ⟨h.nd, by simp, fun a ha b hb => by rw [List.mem_singleton.mp hb]; rintro rfl; exact hm ha⟩
    · rw [List.nodup_append]
      exact ⟨h.pd, by simp, fun a ha b hb => by rw [List.mem_singleton.mp hb]; rintro rfl; exact hnew ha⟩
    · by_cases e : j' < RP.length
      · rw [List.getElem?_append_left e] at g1
        rw [List.getElem?_append_left (by rw [← h.len]; exact e)] at g2
        obtain ⟨s1, s2, s3, s4⟩ := h.rep j' p' d' g1 g2
        exact ⟨by omega, s2, by rw [gC, if_neg (by omega)]; exact s3, by rw [gN, if_neg (by omega), s4, renD_app i (h.kid d' (List.mem_of_getElem? g2))]⟩
      · have e2 : j' = RP.length := by
          have := (List.getElem?_eq_some_iff.mp g1).1
          rw [List.length_append, List.length_singleton] at this
          omega
        rw [e2, List.getElem?_append_right (Nat.le_refl _), Nat.sub_self] at g1
        rw [e2, h.len, List.getElem?_append_right (Nat.le_refl _), Nat.sub_self] at g2
        cases g1
        cases g2
        exact ⟨Nat.le_refl _, hi, by rw [gC, if_pos rfl], by rw [gN, if_pos rfl, hren, renD_app _ hok]⟩
    · by_cases e : i = k
      · subst e
        exact ⟨NL.length, i, by rw [gO, if_pos rfl], by rw [← h.len, List.getElem?_append_right (Nat.le_refl _), Nat.sub_self]; rfl, by rw [gC, if_pos rfl]⟩
      · obtain ⟨j', p', s1, s2, s3⟩ := h.cls k (by omega) g2
        exact ⟨j', p', by rw [gO, if_neg e]; exact s1, by rw [List.getElem?_append_left (List.getElem?_eq_some_iff.mp s2).1]; exact s2, by rw [gC, if_neg e]; exact s3⟩
    · rcases List.mem_append.mp hd' with q | q
      · exact hwide (h.kid d' q r hr)
      · rw [List.mem_singleton.mp q] at hr
        exact hwide (hok r hr)
theorem rel_all (L : List Nde) (hk : ∀ (i : Nat) (d : Nde), L[i]? = some d → ∀ r ∈ d.r, r.k = true → (i : Int) < r.n ∧ r.n < (L.length : Int)) : ∀ (g : Nat) (NL : List Nde) (OF C : List Int) (ND : List Nde) (RP : List Nat), g ≤ L.length → RelJ L g NL OF C ND RP →
    ∃ RP', RelJ L 0 ((List.range g).reverse.foldl (stJ L) (NL, OF)).1 ((List.range g).reverse.foldl (stJ L) (NL, OF)).2 (clsD L g (C, ND)).1 (clsD L g (C, ND)).2 RP'
  | 0, NL, OF, C, ND, RP, _, h => ⟨RP, h⟩
  | i + 1, NL, OF, C, ND, RP, hg, h => by
    obtain ⟨RP', h'⟩ := h.step (by omega) (fun r hr hkr => by
      rw [List.getD_eq_getElem?_getD, List.getElem?_eq_getElem (by omega)] at hr
      exact hk i _ (List.getElem?_eq_getElem (by omega)) r hr hkr)
    have := rel_all L hk i _ _ _ _ RP' (by omega) h'
    rw [List.range_succ, List.reverse_append]
    exact this
theorem rel_join (L : List Nde) (hk : ∀ (i : Nat) (d : Nde), L[i]? = some d → ∀ r ∈ d.r, r.k = true → (i : Int) < r.n ∧ r.n < (L.length : Int)) : ∃ RP, RelJ L 0 (joinL L).1 (joinL L).2 (clsL L).1 (clsL L).2 RP :=
  rel_all L hk L.length [] (List.replicate L.length 0) (List.replicate L.length 0) (List.replicate L.length ⟨0, []⟩) [] (Nat.le_refl _) ⟨rfl, by simp, by simp, by simp, by simp, by simp, fun j p d h => (by simp at h), fun k h1 h2 => by omega, fun d hd => (by cases hd)⟩
theorem join_class (L : List Nde) (hk : ∀ (i : Nat) (d : Nde), L[i]? = some d → ∀ r ∈ d.r, r.k = true → (i : Int) < r.n ∧ r.n < (L.length : Int)) (a b : Nat) (ha : a < L.length) (hb : b < L.length) : ((joinL L).2.getD a 0 == (joinL L).2.getD b 0) = ((clsL L).1.getD a 0 == (clsL L).1.getD b 0) := by
  obtain ⟨RP, h⟩ := rel_join L hk
  obtain ⟨j, p, a1, a2, a3⟩ := h.cls a (Nat.zero_le _) ha
  obtain ⟨k, q, b1, b2, b3⟩ := h.cls b (Nat.zero_le _) hb
  rw [a1, a3, b1, b3, Bool.eq_iff_iff]
  simp
  constructor
  · intro e
    have e : j = k := by exact_mod_cast e
    subst e
    rw [a2] at b2
    cases b2; rfl
  · intro e
    have e : p = q := by exact_mod_cast e
    subst e
    have := nodup_at12 h.pd a2 b2
    exact_mod_cast this
end Go.Proofs.Ytdpfdlkaickkiaa
namespace Go.Proofs.Ytdpfdlkaickkiaa
open Go.RowKit Go.Shelf
set_option linter.unusedSimpArgs false
set_option linter.unusedVariables false
attribute [local go_sem] Oper.semAt_some

structure JOk (J : List Nde) : Prop where
  rev : RevOk J
  pos : 0 < J.length
  len : (ordS J).length = J.length
  rng : ∀ x ∈ ordS J, 0 ≤ x ∧ x < (J.length : Int)
  bit : ∀ d ∈ J, 0 ≤ d.b ∧ d.b ≤ 128
def shR (F : Int) (L : List Nde) : List Nde := if (chkM F L).2 = 0 then ioS (joinL L).1 else []
def isN (L : List Nde) (a : Int) : Bool := decide (0 ≤ a) && decide (a < (L.length : Int))
def eqE (L : List Nde) (a b : Int) : Int := if (chkM 128 L).2 = 0 then (if isN L a && isN L b then 0 else 1) else (chkM 128 L).2
def eqR (L : List Nde) (a b : Int) : Bool := (chkM 128 L).2 == 0 && isN L a && isN L b && ((joinL L).2.getD a.toNat 0 == (joinL L).2.getD b.toNat 0)
theorem isNumber12 (v : Value) (L : List Nde) (a : Int) (w : World) (hv : RwD w v L) (hl : L.length ≤ 1000000) :
    Calls Try.prog 29 #[v, .int .i64 a] w fun e w' => e = .returned (.bool (isN L a)) ∧ w' = w := by
  obtain ⟨ao, c, rfl, -, -⟩ := hv
  unfold isN
  by_cases h0 : 0 ≤ a <;> by_cases h1 : a < (L.length : Int) <;> (
    go_enter Try.func29, Try.ntmps29
    go_wp2
    exact bodyPost_ret (v := .bool (decide (0 ≤ a) && decide (a < (L.length : Int)))) (by simp [results, Try.results29, go_sem, h0, h1]) rfl ⟨by simp [h0, h1], rfl⟩)
set_option maxRecDepth 20000 in
set_option maxHeartbeats 8000000 in
theorem share12_any (F : Int) (v : Value) (L : List Nde) (w : World) (hv : RwD w v L) (hl : L.length ≤ 1000000) (hr : ∀ d ∈ L, d.r.length ≤ 1000000) (hj : (chkM F L).2 = 0 → JOk (joinL L).1) :
    Calls Try.prog 12 #[.int .i64 F, v] w fun e w' => ∃ v' V, e = .returned (.tuple #[v', .int .i64 (chkM F L).2]) ∧ NdO w' w.heap.size v' V (shR F L) ∧ Below w.heap.size w w' := by
  have KC := mcheck_any F v L w hv (by omega) (fun d hd => Nat.le_trans (hr d hd) (by omega))
  have HV := hid13 hv
  obtain ⟨ao, c, hvf, -⟩ := id hv
  subst hvf
  have HJ := hid13 hj
  have HJi := hid13 (joinS_inv L hr (List.range L.length).reverse)
  have HOk := fun h => (chk_ok (F := F) (L := L) h).1
  have HOk := hid13 HOk
  have HL : Hid (L.length ≤ 1000000 ∧ ∀ d ∈ L, d.r.length ≤ 1000000) := ⟨hl, hr⟩
  have HR : Hid (((chkM F L).2 = 0 → shR F L = ioS (joinL L).1) ∧ ((chkM F L).2 ≠ 0 → shR F L = [])) := ⟨fun h => by unfold shR; rw [if_pos h], fun h => by unfold shR; rw [if_neg h]⟩
  obtain ⟨S, hS⟩ : ∃ S, S = shR F L := ⟨_, rfl⟩
  obtain ⟨D, hD⟩ : ∃ D, D = (chkM F L).1 := ⟨_, rfl⟩
  obtain ⟨E, hE⟩ : ∃ E, E = (chkM F L).2 := ⟨_, rfl⟩
  rw [← hS] at HR ⊢
  rw [← hD, ← hE] at KC
  rw [← hE] at HR HJ HOk ⊢
  clear hv hj hl hr hS hD hE
  go_enter Try.func12, Try.ntmps12
  go_wp2_with fail
  refine KC.mono ?_
  rintro e w1 ⟨rfl, hb1⟩
  have HB1 := hid13 hb1
  clear KC hb1
  by_cases hE : E = 0
  · have hjk := HJ.out hE
    have hok := HOk.out hE
    have KJ := join12_any (.slice ao L.length c) L w1 (HV.out.below HB1.out) HL.out.1 HL.out.2 (fun d hd => by
      obtain ⟨i, hi⟩ := List.getElem?_of_mem hd
      exact ⟨(hok.2 i d hi).b0, (hok.2 i d hi).b1⟩) (fun d hd r hr hk => by
      obtain ⟨i, hi⟩ := List.getElem?_of_mem hd
      have := (hok.2 i d hi).kid r hr hk
      omega)
    have HJk := hid13 hjk
    clear hjk hok
    go_wp2_with fail
    refine KJ.mono ?_
    rintro e w2 ⟨vn, V, Gf, M, rfl, hN, hG, hGf, hb2⟩
    have KI := inOrder12_any vn (.slice (some ⟨Gf, 0, none⟩) L.length L.length) (.map (some M)) (joinL L).1 w2 hN.rwd HJk.out.rev HJk.out.pos (by have := HJi.out.n; rw [List.length_reverse, List.length_range] at this; have := HL.out.1; show (joinL L).1.length ≤ _; unfold joinL; omega) HJi.out.r HJk.out.bit HJk.out.len HJk.out.rng
    have HB2 := hid13 (HB1.out.trans (hb2.mono HB1.out.size))
    have hSE : S = ioS (joinL L).1 := HR.out.1 hE
    rw [← hSE] at KI
    clear KJ hN hG hGf hb2 hSE
    go_wp2_with fail
    refine KI.mono ?_
    rintro e w3 ⟨v3, V3, rfl, hN3, hb3⟩
    have HF : Hid (NdO w3 w.heap.size v3 V3 S ∧ Below w.heap.size w w3) := hid13 ⟨hN3.base HB2.out.size, HB2.out.trans (hb3.mono HB2.out.size)⟩
    obtain ⟨a3, c3, hv3⟩ := own_form hN3.o
    subst hv3
    clear KI hN3 hb3
    go_wp2
    exact bodyPost_ret (v := .tuple #[.slice a3 S.length c3, .int .i64 0]) (by simp [results, Try.results12, go_sem, hE]) rfl ⟨_, _, by rw [hE], HF.out.1, HF.out.2⟩
  · have hS := HR.out.2 hE
    have HF : Hid (NdO w1 w.heap.size (.slice none 0 0) [] S) := hid13 (by rw [hS]; exact NdO.nil (World.ownsRow_nil _ _ _ _))
    clear hS
    go_wp2
    exact bodyPost_ret (v := .tuple #[.slice none 0 0, .int .i64 E]) (by simp [results, Try.results12, go_sem, hE]) rfl ⟨_, _, rfl, HF.out, HB1.out⟩
set_option maxRecDepth 20000 in
set_option maxHeartbeats 8000000 in
theorem equal12_any (v : Value) (L : List Nde) (a b : Int) (w : World) (hv : RwD w v L) (hl : L.length ≤ 1000000) (hr : ∀ d ∈ L, d.r.length ≤ 1000000) :
    Calls Try.prog 15 #[v, .int .i64 a, .int .i64 b] w fun e w' => e = .returned (.tuple #[.bool (eqR L a b), .int .i64 (eqE L a b)]) ∧ Below w.heap.size w w' := by
  have KC := mcheck_any 128 v L w hv (by omega) (fun d hd => Nat.le_trans (hr d hd) (by omega))
  have HV := hid13 hv
  obtain ⟨ao, c, hvf, -⟩ := id hv
  subst hvf
  have HJi := hid13 (joinS_inv L hr (List.range L.length).reverse)
  have HOk := fun h => (chk_ok (F := 128) (L := L) h).1
  have HOk := hid13 HOk
  have HL : Hid (L.length ≤ 1000000 ∧ ∀ d ∈ L, d.r.length ≤ 1000000) := ⟨hl, hr⟩
  have HQ : Hid (((chkM 128 L).2 ≠ 0 → eqR L a b = false ∧ eqE L a b = (chkM 128 L).2) ∧ ((chkM 128 L).2 = 0 → (isN L a && isN L b) = false → eqR L a b = false ∧ eqE L a b = 1) ∧ ((chkM 128 L).2 = 0 → isN L a = true → isN L b = true → eqR L a b = ((joinL L).2.getD a.toNat 0 == (joinL L).2.getD b.toNat 0) ∧ eqE L a b = 0)) := by
    unfold eqR eqE
    refine ⟨fun h => ⟨by simp [h], by rw [if_neg h]⟩, fun h h2 => ⟨by rw [Bool.and_assoc ((chkM 128 L).2 == 0), h2]; simp, by rw [if_pos h, h2]; rfl⟩, fun h h2 h3 => ⟨by rw [h2, h3]; simp [h], by rw [if_pos h, h2, h3]; rfl⟩⟩
  have KA := fun W h => isNumber12 (.slice ao L.length c) L a W h hl
  have KB := fun W h => isNumber12 (.slice ao L.length c) L b W h hl
  have HA : Hid (isN L a = true → 0 ≤ a ∧ a < (L.length : Int)) := fun h => by unfold isN at h; simpa using h
  have HB : Hid (isN L b = true → 0 ≤ b ∧ b < (L.length : Int)) := fun h => by unfold isN at h; simpa using h
  obtain ⟨R, hR⟩ : ∃ R, R = eqR L a b := ⟨_, rfl⟩
  obtain ⟨Q, hQ⟩ : ∃ Q, Q = eqE L a b := ⟨_, rfl⟩
  obtain ⟨D, hD⟩ : ∃ D, D = (chkM 128 L).1 := ⟨_, rfl⟩
  obtain ⟨E, hE⟩ : ∃ E, E = (chkM 128 L).2 := ⟨_, rfl⟩
  rw [← hR, ← hQ] at HQ ⊢
  rw [← hD, ← hE] at KC
  rw [← hE] at HQ HOk
  generalize isN L a = na at *
  generalize isN L b = nb at *
  clear hv hl hr hR hQ hD hE
  go_enter Try.func15, Try.ntmps15
  go_wp2_with fail
  refine KC.mono ?_
  rintro e w1 ⟨rfl, hb1⟩
  have HB1 := hid13 hb1
  have K1 := KA _ (HV.out.below hb1)
  have K2 := KB _ (HV.out.below hb1)
  clear KC hb1 KA KB
  by_cases hE : E = 0
  · go_wp2_with fail
    refine K1.mono ?_
    rintro e w2 ⟨rfl, rfl⟩
    cases na with
    | false =>
      obtain ⟨h1, h2⟩ := HQ.out.2.1 hE rfl
      subst h1 h2
      go_wp2
      exact bodyPost_ret (v := .tuple #[.bool false, .int .i64 1]) (by simp [results, Try.results15, go_sem]) rfl ⟨rfl, HB1.out⟩
    | true =>
    go_wp2_with fail
    refine K2.mono ?_
    rintro e w3 ⟨rfl, rfl⟩
    cases nb with
    | false =>
      obtain ⟨h1, h2⟩ := HQ.out.2.1 hE rfl
      subst h1 h2
      go_wp2
      exact bodyPost_ret (v := .tuple #[.bool false, .int .i64 1]) (by simp [results, Try.results15, go_sem]) rfl ⟨rfl, HB1.out⟩
    | true =>
      have hok := HOk.out hE
      have KJ := join12_any (.slice ao L.length c) L w3 (HV.out.below HB1.out) HL.out.1 HL.out.2 (fun d hd => by
        obtain ⟨i, hi⟩ := List.getElem?_of_mem hd
        exact ⟨(hok.2 i d hi).b0, (hok.2 i d hi).b1⟩) (fun d hd r hr hk => by
        obtain ⟨i, hi⟩ := List.getElem?_of_mem hd
        have := (hok.2 i d hi).kid r hr hk
        omega)
      obtain ⟨h1, h2⟩ := HQ.out.2.2 hE (by simp) (by simp)
      obtain ⟨a0, a1⟩ := HA.out (by simp)
      obtain ⟨b0, b1⟩ := HB.out (by simp)
      obtain ⟨ka, rfl⟩ : ∃ k : Nat, a = (k : Int) := ⟨a.toNat, by omega⟩
      obtain ⟨kb, rfl⟩ : ∃ k : Nat, b = (k : Int) := ⟨b.toNat, by omega⟩
      rw [Int.toNat_natCast, Int.toNat_natCast] at h1
      have HR1 := hid13 h1
      subst h2
      have hOl : (joinL L).2.length = L.length := HJi.out.o
      have HOl := hid13 hOl
      generalize joinL L = J at *
      clear hok h1 hOl
      go_wp2_with fail
      refine KJ.mono ?_
      rintro e w4 ⟨vn, V, Gf, M, rfl, hN, hG, hGf, hb2⟩
      obtain ⟨va, vc, hvn⟩ := own_form hN.o
      obtain ⟨ln, hln⟩ : ∃ n, n = J.1.length := ⟨_, rfl⟩
      rw [← hln] at hvn
      subst hvn
      have HB2 := hid13 (HB1.out.trans (hb2.mono HB1.out.size))
      have g0 : ∀ k, k < L.length → ∀ O, (w4.alloc O).cell? ⟨Gf, k, none⟩ = some (.int .i64 (J.2.getD k 0)) := fun k hk O => keepc (bl1 _ _) (at_16 hG k _ (by rw [List.getElem?_toArray, List.getElem?_map, List.getElem?_eq_getElem (by rw [HOl.out]; exact hk), List.getD_eq_getElem?_getD, List.getElem?_eq_getElem (by rw [HOl.out]; exact hk)]; rfl))
      have ga := g0 ka (by omega)
      have gb := g0 kb (by omega)
      generalize J.2.getD ka 0 = xa at *
      generalize J.2.getD kb 0 = xb at *
      have HBe := hid13 ((HB2.out.trans ((bl1 w4 (.cells #[.slice va ln vc, .slice (some ⟨Gf, 0, none⟩) L.length L.length, .map (some M)] 64)).mono HB2.out.size)))
      clear KJ hN hG hGf hb2 hln g0
      go_wp2_with fail
      go_quiet (fail)
      go_wp2
      exact bodyPost_ret (v := .tuple #[.bool (xa == xb), .int .i64 0]) (by simp [results, Try.results15, go_sem]) rfl ⟨by rw [HR1.out], HBe.out.trans (below_drewN (Below.refl _ _) nq)⟩
  · obtain ⟨h1, h2⟩ := HQ.out.1 hE
    subst h1 h2
    go_wp2
    exact bodyPost_ret (v := .tuple #[.bool false, .int .i64 Q]) (by simp [results, Try.results15, go_sem]) rfl ⟨rfl, HB1.out⟩
end Go.Proofs.Ytdpfdlkaickkiaa
namespace Go.Proofs.Ytdpfdlkaickkiaa
open Go.RowKit Go.Shelf
set_option linter.unusedSimpArgs false
set_option linter.unusedVariables false
attribute [local go_sem] Oper.semAt_some

set_option maxRecDepth 20000 in
set_option maxHeartbeats 8000000 in
theorem requal12 (v : Value) (L : List Nde) (a b : Int) (w : World) (hv : RwD w v L) (hl : L.length ≤ 1000000) (hr : ∀ d ∈ L, d.r.length ≤ 1000000) :
    Calls Try.prog 16 #[v, .int .i64 a, .int .i64 b] w fun e w' => e = .returned (.tuple #[.bool (eqR L a b), .int .i64 (eqE L a b)]) ∧ Below w.heap.size w w' := by
  have KC := rcheck_any 128 v L w hv hl hr
  have HV := hid13 hv
  obtain ⟨ao, c, hvf, -⟩ := id hv
  subst hvf
  have HOk := fun h => (chk_ok (F := 128) (L := L) h).1
  have HOk := hid13 HOk
  have HL : Hid (L.length ≤ 1000000 ∧ ∀ d ∈ L, d.r.length ≤ 1000000) := ⟨hl, hr⟩
  have HQ : Hid (((chkM 128 L).2 ≠ 0 → eqR L a b = false ∧ eqE L a b = (chkM 128 L).2) ∧ ((chkM 128 L).2 = 0 → (isN L a && isN L b) = false → eqR L a b = false ∧ eqE L a b = 1) ∧ ((chkM 128 L).2 = 0 → isN L a = true → isN L b = true → eqR L a b = ((joinL L).2.getD a.toNat 0 == (joinL L).2.getD b.toNat 0) ∧ eqE L a b = 0)) := by
    unfold eqR eqE
    refine ⟨fun h => ⟨by simp [h], by rw [if_neg h]⟩, fun h h2 => ⟨by rw [Bool.and_assoc ((chkM 128 L).2 == 0), h2]; simp, by rw [if_pos h, h2]; rfl⟩, fun h h2 h3 => ⟨by rw [h2, h3]; simp [h], by rw [if_pos h, h2, h3]; rfl⟩⟩
  have HA : Hid (isN L a = (decide (0 ≤ a) && decide (a < (L.length : Int))) ∧ isN L b = (decide (0 ≤ b) && decide (b < (L.length : Int)))) := ⟨rfl, rfl⟩
  obtain ⟨R, hR⟩ : ∃ R, R = eqR L a b := ⟨_, rfl⟩
  obtain ⟨Q, hQ⟩ : ∃ Q, Q = eqE L a b := ⟨_, rfl⟩
  obtain ⟨D, hD⟩ : ∃ D, D = (chkM 128 L).1 := ⟨_, rfl⟩
  obtain ⟨E, hE⟩ : ∃ E, E = (chkM 128 L).2 := ⟨_, rfl⟩
  rw [← hR, ← hQ] at HQ ⊢
  rw [← hD, ← hE] at KC
  rw [← hE] at HQ HOk
  clear hv hl hr hR hQ hD hE
  go_enter Try.func16, Try.ntmps16
  go_wp2_with fail
  refine KC.mono ?_
  rintro e w1 ⟨rfl, hb1⟩
  have HB1 := hid13 hb1
  clear KC hb1
  by_cases hE : E = 0
  · by_cases a0 : a < 0
    · obtain ⟨h1, h2⟩ := HQ.out.2.1 hE (by rw [HA.out.1, decide_eq_false (by omega : ¬ 0 ≤ a)]; rfl)
      subst h1 h2
      go_wp2
      exact bodyPost_ret (v := .tuple #[.bool false, .int .i64 1]) (by simp [results, Try.results16, go_sem]) rfl ⟨rfl, HB1.out⟩
    by_cases a1 : (L.length : Int) ≤ a
    · obtain ⟨h1, h2⟩ := HQ.out.2.1 hE (by rw [HA.out.1, decide_eq_false (by omega : ¬ a < (L.length : Int))]; simp)
      subst h1 h2
      go_wp2
      exact bodyPost_ret (v := .tuple #[.bool false, .int .i64 1]) (by simp [results, Try.results16, go_sem]) rfl ⟨rfl, HB1.out⟩
    by_cases b0 : b < 0
    · obtain ⟨h1, h2⟩ := HQ.out.2.1 hE (by rw [HA.out.2, decide_eq_false (by omega : ¬ 0 ≤ b)]; simp)
      subst h1 h2
      go_wp2
      exact bodyPost_ret (v := .tuple #[.bool false, .int .i64 1]) (by simp [results, Try.results16, go_sem]) rfl ⟨rfl, HB1.out⟩
    by_cases b1 : (L.length : Int) ≤ b
    · obtain ⟨h1, h2⟩ := HQ.out.2.1 hE (by rw [HA.out.2, decide_eq_false (by omega : ¬ b < (L.length : Int))]; simp)
      subst h1 h2
      go_wp2
      exact bodyPost_ret (v := .tuple #[.bool false, .int .i64 1]) (by simp [results, Try.results16, go_sem]) rfl ⟨rfl, HB1.out⟩
    obtain ⟨ka, rfl⟩ : ∃ k : Nat, a = (k : Int) := ⟨a.toNat, by omega⟩
    obtain ⟨kb, rfl⟩ : ∃ k : Nat, b = (k : Int) := ⟨b.toNat, by omega⟩
    have hok := HOk.out hE
    have hkid : ∀ (i : Nat) (d : Nde), L[i]? = some d → ∀ r ∈ d.r, r.k = true → (i : Int) < r.n ∧ r.n < (L.length : Int) := fun i d hi r hr hk => (hok.2 i d hi).kid r hr hk
    have KJ := rclasses12 (.slice ao L.length c) L w1 (HV.out.below HB1.out) hok.1 HL.out.1 HL.out.2 (fun d hd r hr hk => by
      obtain ⟨i, hi⟩ := List.getElem?_of_mem hd
      have := (hok.2 i d hi).kid r hr hk
      omega)
    obtain ⟨h1, h2⟩ := HQ.out.2.2 hE (by rw [HA.out.1]; simp; omega) (by rw [HA.out.2]; simp; omega)
    rw [Int.toNat_natCast, Int.toNat_natCast, join_class L hkid ka kb (by omega) (by omega)] at h1
    have HR1 := hid13 h1
    subst h2
    have a2 : (ka : Int) < (L.length : Int) := by omega
    have b2 : (kb : Int) < (L.length : Int) := by omega
    have a3 : ka < L.length := by omega
    have b3 : kb < L.length := by omega
    generalize clsL L = J at *
    clear hok hkid h1
    go_wp2_with fail
    refine KJ.mono ?_
    rintro e w4 ⟨V, rfl, hC⟩
    have ga := hC.cell a3
    have gb := hC.cell b3
    have HB2 := hid13 (HB1.out.trans (hC.b.mono HB1.out.size))
    generalize J.1.getD ka 0 = xa at *
    generalize J.1.getD kb 0 = xb at *
    clear KJ hC
    go_wp2_with fail
    go_quiet (fail)
    go_wp2
    exact bodyPost_ret (v := .tuple #[.bool (xa == xb), .int .i64 0]) (by simp [results, Try.results16, go_sem]) rfl ⟨by rw [HR1.out], HB2.out.trans (below_drewN (Below.refl _ _) nq)⟩
  · obtain ⟨h1, h2⟩ := HQ.out.1 hE
    subst h1 h2
    go_wp2
    exact bodyPost_ret (v := .tuple #[.bool false, .int .i64 Q]) (by simp [results, Try.results16, go_sem]) rfl ⟨rfl, HB1.out⟩
end Go.Proofs.Ytdpfdlkaickkiaa
namespace Go.Proofs.Ytdpfdlkaickkiaa
open Go.RowKit Go.Shelf
set_option linter.unusedSimpArgs false
set_option linter.unusedVariables false
attribute [local go_sem] Oper.semAt_some

def kdS : List Rn := [⟨0#128, false, 5⟩, ⟨1#128, false, 6⟩]
def knS : List Nde := [⟨1, [⟨0#128, true, 1⟩, ⟨1#128, true, 2⟩]⟩, ⟨1, kdS⟩, ⟨1, kdS⟩]
instance : DecidableEq Rn := fun a b => decidable_of_iff (eqRn a b = true) (eqRn_iff a b)
instance : DecidableEq Nde := fun a b => decidable_of_iff (sqD a b = true) (sqD_iff a b)
theorem knS_E : (chkM 32 knS).2 = 0 := by decide +kernel
theorem knS_J : (joinL knS).1 = [⟨1, kdS⟩, ⟨1, [⟨0#128, true, 0⟩]⟩] := by decide +kernel
theorem knS_O : ordS (joinL knS).1 = [1, 0] := by decide +kernel
theorem knS_R : shR 32 knS = [⟨1, [⟨0#128, true, 1⟩]⟩, ⟨1, kdS⟩] := by decide +kernel
theorem knS_ok : JOk (joinL knS).1 := by
  refine ⟨?_, by rw [knS_J]; decide, by rw [knS_O, knS_J]; rfl, ?_, ?_⟩
  · rw [knS_J]
    intro n d hd r hr hk
    match n, hd with
    | 0, hd => simp at hd; subst hd; simp [kdS] at hr; rcases hr with rfl | rfl <;> simp at hk
    | 1, hd => simp at hd; subst hd; simp at hr; subst hr; simp
    | n + 2, hd => simp at hd
  · rw [knS_O, knS_J]
    intro x hx
    simp at hx
    rcases hx with rfl | rfl <;> simp
  · rw [knS_J]
    intro d hd
    simp at hd
    rcases hd with rfl | rfl <;> simp
theorem rwn_two12 (w : World) (B : Nat) (r s : Rn) (T : TypeId) (h : w.heap[B]? = some (.cells #[.int .u64 (hI r.f), .int .u64 (lI r.f), .bool r.k, .int .i64 r.n, .int .u64 (hI s.f), .int .u64 (lI s.f), .bool s.k, .int .i64 s.n] T)) : RwN w (.slice (some ⟨B, 0, none⟩) 2 2) [r, s] := by
  refine ⟨_, 2, rfl, Nat.le_refl _, .inr ⟨B, 0, rfl, fun j x hj => ?_⟩⟩
  match j, hj with
  | 0, hj =>
    simp at hj
    subst hj
    exact ⟨at_16 h 0 _ rfl, at_16 h 1 _ rfl, at_16 h 2 _ rfl, at_16 h 3 _ rfl⟩
  | 1, hj =>
    simp at hj
    subst hj
    exact ⟨at_16 h 4 _ rfl, at_16 h 5 _ rfl, at_16 h 6 _ rfl, at_16 h 7 _ rfl⟩
  | j + 2, hj => simp at hj
set_option maxRecDepth 20000 in
set_option maxHeartbeats 8000000 in
theorem known12 (w : World) :
    Calls Try.prog 9 #[] w fun e w' => e = .returned (.bool true) ∧ Below w.heap.size w w' := by
  have hI1 : hI 1#128 = 0 := by decide +kernel
  have lI1 : lI 1#128 = 1 := by decide +kernel
  obtain ⟨W, hW⟩ : ∃ W, W = ((w.alloc (.cells #[.int .u64 0, .int .u64 0, .bool false, .int .i64 5, .int .u64 0, .int .u64 1, .bool false, .int .i64 6] 54)).alloc (.cells #[.int .u64 0, .int .u64 0, .bool true, .int .i64 1, .int .u64 0, .int .u64 1, .bool true, .int .i64 2] 54)).alloc (.cells #[.int .i64 1, .slice (some ⟨w.heap.size + 1, 0, none⟩) 2 2, .int .i64 1, .slice (some ⟨w.heap.size, 0, none⟩) 2 2, .int .i64 1, .slice (some ⟨w.heap.size, 0, none⟩) 2 2] 57) := ⟨_, rfl⟩
  have n1 := new_16 w (.cells #[.int .u64 0, .int .u64 0, .bool false, .int .i64 5, .int .u64 0, .int .u64 1, .bool false, .int .i64 6] 54)
  have n2 := new_16 (w.alloc (.cells #[.int .u64 0, .int .u64 0, .bool false, .int .i64 5, .int .u64 0, .int .u64 1, .bool false, .int .i64 6] 54)) (.cells #[.int .u64 0, .int .u64 0, .bool true, .int .i64 1, .int .u64 0, .int .u64 1, .bool true, .int .i64 2] 54)
  have n3 := new_16 ((w.alloc (.cells #[.int .u64 0, .int .u64 0, .bool false, .int .i64 5, .int .u64 0, .int .u64 1, .bool false, .int .i64 6] 54)).alloc (.cells #[.int .u64 0, .int .u64 0, .bool true, .int .i64 1, .int .u64 0, .int .u64 1, .bool true, .int .i64 2] 54)) (.cells #[.int .i64 1, .slice (some ⟨w.heap.size + 1, 0, none⟩) 2 2, .int .i64 1, .slice (some ⟨w.heap.size, 0, none⟩) 2 2, .int .i64 1, .slice (some ⟨w.heap.size, 0, none⟩) 2 2] 57)
  simp only [World.size_alloc] at n2 n3
  have m1 := old_16 (.cells #[.int .i64 1, .slice (some ⟨w.heap.size + 1, 0, none⟩) 2 2, .int .i64 1, .slice (some ⟨w.heap.size, 0, none⟩) 2 2, .int .i64 1, .slice (some ⟨w.heap.size, 0, none⟩) 2 2] 57) (old_16 (.cells #[.int .u64 0, .int .u64 0, .bool true, .int .i64 1, .int .u64 0, .int .u64 1, .bool true, .int .i64 2] 54) n1)
  have m2 := old_16 (.cells #[.int .i64 1, .slice (some ⟨w.heap.size + 1, 0, none⟩) 2 2, .int .i64 1, .slice (some ⟨w.heap.size, 0, none⟩) 2 2, .int .i64 1, .slice (some ⟨w.heap.size, 0, none⟩) 2 2] 57) n2
  have hbW : Below w.heap.size w W := by rw [hW]; exact ((((Below.refl _ _).alloc (Nat.le_refl _) _).alloc (by simp) _).alloc (by simp; omega) _)
  rw [← hW] at n3 m1 m2
  have hk : RwN W (.slice (some ⟨w.heap.size, 0, none⟩) 2 2) kdS := rwn_two12 W _ ⟨0#128, false, 5⟩ ⟨1#128, false, 6⟩ 54 (by rw [hI_zero, lI_zero, hI1, lI1]; exact m1)
  have hr : RwN W (.slice (some ⟨w.heap.size + 1, 0, none⟩) 2 2) [⟨0#128, true, 1⟩, ⟨1#128, true, 2⟩] := rwn_two12 W _ ⟨0#128, true, 1⟩ ⟨1#128, true, 2⟩ 54 (by rw [hI_zero, lI_zero, hI1, lI1]; exact m2)
  have hv : RwD W (.slice (some ⟨w.heap.size + 1 + 1, 0, none⟩) 3 3) knS := by
    refine ⟨_, 3, rfl, Nat.le_refl _, .inr ⟨w.heap.size + 1 + 1, 0, rfl, fun j d hj => ?_⟩⟩
    match j, hj with
    | 0, hj => simp [knS] at hj; subst hj; exact ⟨_, at_16 n3 0 _ rfl, at_16 n3 1 _ rfl, hr⟩
    | 1, hj => simp [knS] at hj; subst hj; exact ⟨_, at_16 n3 2 _ rfl, at_16 n3 3 _ rfl, hk⟩
    | 2, hj => simp [knS] at hj; subst hj; exact ⟨_, at_16 n3 4 _ rfl, at_16 n3 5 _ rfl, hk⟩
    | j + 3, hj => simp [knS] at hj
  have KS := share12_any 32 _ knS W hv (by decide) (by decide) (fun _ => knS_ok)
  rw [knS_E, knS_R] at KS
  have HB := hid13 hbW
  clear n1 n2 n3 m1 m2 hbW hk hr hv hI1 lI1
  go_enter Try.func9, Try.ntmps9
  go_wp2_with fail
  rw [← hW]
  refine KS.mono ?_
  rintro e w3 ⟨v3, V3, rfl, hN, hb3⟩
  have HB3 := hid13 (HB.out.trans (hb3.mono HB.out.size))
  obtain ⟨ao, c, hv3, hc, hrow⟩ := hN.rwd
  subst hv3
  obtain ⟨b, off, hao, hcell⟩ := hrow.resolve_left (by simp)
  subst hao
  obtain ⟨u0, -, y0, ⟨a0, c0, hu0, -⟩⟩ := hcell 0 _ rfl
  obtain ⟨u1, -, y1, ⟨a1, c1, hu1, -⟩⟩ := hcell 1 _ rfl
  subst hu0 hu1
  simp [kdS] at y0 y1
  clear KS hW hN hb3 hcell hrow hc
  go_wp2
  exact bodyPost_ret (v := .bool true) (by simp [results, Try.results9, go_sem]) rfl ⟨rfl, HB3.out⟩
end Go.Proofs.Ytdpfdlkaickkiaa
