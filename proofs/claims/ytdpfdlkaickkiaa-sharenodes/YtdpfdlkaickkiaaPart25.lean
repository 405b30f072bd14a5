/-
  Part 25 of the proof: 3 texts, one behind the other.
-/
import Derived.Test.YtdpfdlkaickkiaaPart24
import Derived.Test.YtdpfdlkaickkiaaPart20
namespace Go.Proofs.Ytdpfdlkaickkiaa
set_option linter.unusedSimpArgs false
set_option linter.unusedVariables false

theorem mg_sub {RS : List Rn} {r q : Rn} (h : q ∈ RS) : q ∈ mgR RS r := by
  unfold mgR
  split
  · exact List.mem_append_left _ h
  · split
    · exact h
    · exact List.mem_append_left _ h
theorem mg_mem (RS : List Rn) (r : Rn) : ∃ q ∈ mgR RS r, q.k = r.k ∧ q.n = r.n := by
  rcases List.eq_nil_or_concat RS with rfl | ⟨RS0, q, rfl⟩
  · exact ⟨r, by rw [mgR_nil]; simp, rfl, rfl⟩
  · rw [List.concat_eq_append, mgR_app]
    by_cases c : smR q r = true
    · rw [if_pos c]
      unfold smR at c
      rw [Bool.and_eq_true] at c
      exact ⟨q, by simp, by simpa using c.1, by simpa using c.2⟩
    · rw [if_neg c]
      exact ⟨r, by simp, rfl, rfl⟩
theorem nb_sub (nm : List Rn → Rn → Int) : ∀ (t pre RS : List Rn) (q : Rn), q ∈ RS → q ∈ nbG nm pre RS t
  | [], _, _, q, h => h
  | r :: t, pre, RS, q, h => nb_sub nm t (pre ++ [r]) _ q (mg_sub h)
theorem nb_mem (OF : List Int) : ∀ (t pre RS : List Rn) (r : Rn), r ∈ t → r.k = true → ∃ q ∈ nbG (fun _ r => OF.getD r.n.toNat 0) pre RS t, q.k = true ∧ q.n = OF.getD r.n.toNat 0
  | s :: t, pre, RS, r, h, hk => by
    rcases List.mem_cons.mp h with rfl | h
    · obtain ⟨q, h1, h2, h3⟩ := mg_mem RS (rnK (fun _ r => OF.getD r.n.toNat 0) pre r)
      have e : rnK (fun _ r => OF.getD r.n.toNat 0) pre r = ⟨r.f, true, OF.getD r.n.toNat 0⟩ := by unfold rnK; rw [if_pos hk]
      rw [e] at h1 h2 h3
      refine ⟨q, ?_, h2, h3⟩
      show q ∈ nbG _ (pre ++ [r]) (mgR RS (rnK (fun _ r => OF.getD r.n.toNat 0) pre r)) t
      rw [e]
      exact nb_sub _ t _ _ q h1
    · exact nb_mem OF t (pre ++ [s]) _ r h hk
theorem nb_okN (N : Nat) (OF : List Int) : ∀ (t pre RS : List Rn), (∀ q ∈ RS, OkR N q) → (∀ r ∈ t, r.k = true → 0 ≤ OF.getD r.n.toNat 0 ∧ OF.getD r.n.toNat 0 < (N : Int)) → ∀ q ∈ nbG (fun _ r => OF.getD r.n.toNat 0) pre RS t, OkR N q
  | [], pre, RS, hS, _ => hS
  | r :: t, pre, RS, hS, ht => by
    have hr : OkR N (rnK (fun _ r => OF.getD r.n.toNat 0) pre r) := by
      unfold rnK
      by_cases hk : r.k = true
      · rw [if_pos hk]
        exact fun _ => ht r (by simp) hk
      · rw [if_neg hk]
        exact fun q => absurd q hk
    exact nb_okN N OF t (pre ++ [r]) _ (mg_ok hS hr) (fun s hs => ht s (by simp [hs]))
structure JnI (L : List Nde) (g : Nat) (NL : List Nde) (OF : List Int) : Prop where
  ol : OF.length = L.length
  nd : NL.Nodup
  rng : ∀ k, g ≤ k → k < L.length → ∃ j : Nat, OF.getD k 0 = (j : Int) ∧ j < NL.length
  rv : ∀ (j : Nat) (d : Nde), NL[j]? = some d → ∀ r ∈ d.r, OkR j r
  bit : ∀ d ∈ NL, ∃ e ∈ L, d.b = e.b
  sur : ∀ j, j < NL.length → ∃ k, g ≤ k ∧ k < L.length ∧ OF.getD k 0 = (j : Int)
  edge : ∀ (k : Nat) (e : Nde) (r : Rn), g ≤ k → L[k]? = some e → r ∈ e.r → r.k = true → ∃ d q, NL[(OF.getD k 0).toNat]? = some d ∧ q ∈ d.r ∧ q.k = true ∧ q.n = OF.getD r.n.toNat 0
theorem JnI.step {L : List Nde} {i : Nat} {NL : List Nde} {OF : List Int} (h : JnI L (i + 1) NL OF) (hi : i < L.length) (hk : ∀ (i : Nat) (d : Nde), L[i]? = some d → ∀ r ∈ d.r, r.k = true → (i : Int) < r.n ∧ r.n < (L.length : Int)) :
    JnI L i (stJ L (NL, OF) i).1 (stJ L (NL, OF) i).2 := by
  obtain ⟨d, hd⟩ : ∃ d, L[i]? = some d := ⟨_, List.getElem?_eq_getElem hi⟩
  have hgd : L.getD i ⟨0, []⟩ = d := by rw [List.getD_eq_getElem?_getD, hd]; rfl
  have hkd := hk i d hd
  obtain ⟨n1, hn1⟩ : ∃ n, n = nmD OF d := ⟨_, rfl⟩
  have hstJ : stJ L (NL, OF) i = (adN NL n1, OF.set i (adI NL n1)) := by unfold stJ; rw [hgd, ← hn1]
  have hokd : ∀ r ∈ d.r, r.k = true → 0 ≤ OF.getD r.n.toNat 0 ∧ OF.getD r.n.toNat 0 < (NL.length : Int) := fun r hr hkr => by
    have h1 := hkd r hr hkr
    obtain ⟨j, a1, a2⟩ := h.rng r.n.toNat (by omega) (by omega)
    omega
  have hok : ∀ r ∈ n1.r, OkR NL.length r := by
    rw [hn1]
    exact nb_okN NL.length OF d.r [] [] (fun q hq => (by cases hq)) hokd
  have hmem : ∀ r ∈ d.r, r.k = true → ∃ q ∈ n1.r, q.k = true ∧ q.n = OF.getD r.n.toNat 0 := fun r hr hkr => by
    rw [hn1]
    exact nb_mem OF d.r [] [] r hr hkr
  have hnb : n1.b = d.b := by rw [hn1]; rfl
  have hiO : i < OF.length := by rw [h.ol]; exact hi
  have gO := fun k (c : Int) => set_at12 OF i k c 0 hiO
  rw [hstJ]
  dsimp only
  by_cases hm : n1 ∈ NL
  · obtain ⟨j, hj⟩ := List.getElem?_of_mem hm
    obtain ⟨c1, c2⟩ := ad_in h.nd hj
    have hjl := (List.getElem?_eq_some_iff.mp hj).1
    rw [c1, c2]
    refine ⟨by rw [List.length_set]; exact h.ol, h.nd, fun k g1 g2 => ?_, h.rv, h.bit, fun j' hj' => ?_, fun k e r g1 g2 g3 g4 => ?_⟩
    · rw [gO]
      by_cases e : i = k
      · exact ⟨j, by rw [if_pos e], hjl⟩
      · rw [if_neg e]
        exact h.rng k (by omega) g2
    · obtain ⟨k, s1, s2, s3⟩ := h.sur j' hj'
      exact ⟨k, by omega, s2, by rw [gO, if_neg (by omega)]; exact s3⟩
    · have h9 := hk k e g2 r g3 g4
      rw [gO, gO, if_neg (by omega : ¬ i = r.n.toNat)]
      by_cases e9 : i = k
      · subst e9
        rw [hd] at g2
        cases g2
        rw [if_pos rfl, Int.toNat_natCast]
        obtain ⟨q, q1, q2, q3⟩ := hmem r g3 g4
        exact ⟨n1, q, hj, q1, q2, q3⟩
      · rw [if_neg e9]
        exact h.edge k e r (by omega) g2 g3 g4
  · obtain ⟨c1, c2⟩ := ad_out hm
    rw [c1, c2]
    refine ⟨by rw [List.length_set]; exact h.ol, ?_, fun k g1 g2 => ?_, fun j' d' g1 => ?_, fun d' hd' => ?_, fun j' hj' => ?_, fun k e r g1 g2 g3 g4 => ?_⟩
    · rw [List.nodup_append]
      exact ⟨h.nd, by simp, fun a ha b hb => by rw [List.mem_singleton.mp hb]; rintro rfl; exact hm ha⟩
    · rw [gO, List.length_append, List.length_singleton]
      by_cases e : i = k
      · exact ⟨NL.length, by rw [if_pos e], by omega⟩
      · rw [if_neg e]
        obtain ⟨j, s1, s2⟩ := h.rng k (by omega) g2
        exact ⟨j, s1, by omega⟩
    · by_cases e : j' < NL.length
      · rw [List.getElem?_append_left e] at g1
        exact h.rv j' d' g1
      · have e2 : j' = NL.length := by
          have := (List.getElem?_eq_some_iff.mp g1).1
          rw [List.length_append, List.length_singleton] at this
          omega
        rw [e2, List.getElem?_append_right (Nat.le_refl _), Nat.sub_self] at g1
        cases g1
        rw [e2]
        exact hok
    · rcases List.mem_append.mp hd' with q | q
      · exact h.bit d' q
      · rw [List.mem_singleton.mp q]
        exact ⟨d, List.mem_of_getElem? hd, hnb⟩
    · rw [List.length_append, List.length_singleton] at hj'
      by_cases e : j' < NL.length
      · obtain ⟨k, s1, s2, s3⟩ := h.sur j' e
        exact ⟨k, by omega, s2, by rw [gO, if_neg (by omega)]; exact s3⟩
      · exact ⟨i, Nat.le_refl _, hi, by rw [gO, if_pos rfl]; congr 1; omega⟩
    · have h9 := hk k e g2 r g3 g4
      rw [gO, gO, if_neg (by omega : ¬ i = r.n.toNat)]
      by_cases e9 : i = k
      · subst e9
        rw [hd] at g2
        cases g2
        rw [if_pos rfl, Int.toNat_natCast]
        obtain ⟨q, q1, q2, q3⟩ := hmem r g3 g4
        exact ⟨n1, q, by rw [List.getElem?_append_right (Nat.le_refl _), Nat.sub_self]; rfl, q1, q2, q3⟩
      · rw [if_neg e9]
        obtain ⟨d', q, s1, s2⟩ := h.edge k e r (by omega) g2 g3 g4
        exact ⟨d', q, by rw [List.getElem?_append_left (List.getElem?_eq_some_iff.mp s1).1]; exact s1, s2⟩
theorem jni_all (L : List Nde) (hk : ∀ (i : Nat) (d : Nde), L[i]? = some d → ∀ r ∈ d.r, r.k = true → (i : Int) < r.n ∧ r.n < (L.length : Int)) : ∀ (g : Nat) (NL : List Nde) (OF : List Int), g ≤ L.length → JnI L g NL OF →
    JnI L 0 ((List.range g).reverse.foldl (stJ L) (NL, OF)).1 ((List.range g).reverse.foldl (stJ L) (NL, OF)).2
  | 0, NL, OF, _, h => h
  | i + 1, NL, OF, hg, h => by
    have := jni_all L hk i _ _ (by omega) (h.step (by omega) hk)
    rw [List.range_succ, List.reverse_append]
    exact this
theorem jni_join (L : List Nde) (hk : ∀ (i : Nat) (d : Nde), L[i]? = some d → ∀ r ∈ d.r, r.k = true → (i : Int) < r.n ∧ r.n < (L.length : Int)) : JnI L 0 (joinL L).1 (joinL L).2 :=
  jni_all L hk L.length [] (List.replicate L.length 0) (Nat.le_refl _) ⟨by simp, by simp, fun k h1 h2 => by omega, fun j d h => (by simp at h), fun d hd => (by cases hd), fun j hj => absurd hj (Nat.not_lt_zero j), fun k e r h1 h2 => by have := (List.getElem?_eq_some_iff.mp h2).1; omega⟩
theorem sub_len12 : ∀ (l m : List Int), l.Nodup → (∀ x ∈ l, x ∈ m) → l.length ≤ m.length
  | [], m, _, _ => Nat.zero_le _
  | a :: l, m, hn, hs => by
    obtain ⟨A, B, rfl⟩ := List.append_of_mem (hs a (List.mem_cons_self ..))
    have hn' := List.nodup_cons.mp hn
    have := sub_len12 l (A ++ B) hn'.2 (fun x hx => by
      have h1 := hs x (List.mem_cons_of_mem _ hx)
      rcases List.mem_append.mp h1 with q | q
      · exact List.mem_append_left _ q
      · rcases List.mem_cons.mp q with rfl | q
        · exact absurd hx hn'.1
        · exact List.mem_append_right _ q)
    rw [List.length_cons, List.length_append, List.length_cons]
    rw [List.length_append] at this
    omega
theorem join_ok {L : List Nde} (ok : NdsOk L) (hu : usedB L = true) : JOk (joinL L).1 ∧ (joinL L).2.getD 0 0 = (((joinL L).1.length - 1 : Nat) : Int) ∧ (∀ z, z < L.length → (z = 0 ∨ (joinL L).2.getD z 0 < (joinL L).2.getD 0 0)) ∧ (ordS (joinL L).1).Nodup ∧ (∀ j : Nat, j < (joinL L).1.length → (j : Int) ∈ ordS (joinL L).1) := by
  have hk : ∀ (i : Nat) (d : Nde), L[i]? = some d → ∀ r ∈ d.r, r.k = true → (i : Int) < r.n ∧ r.n < (L.length : Int) := fun i d hi r hr hkr => (ok.2 i d hi).kid r hr hkr
  have J := jni_join L hk
  generalize hJ : joinL L = S at *
  obtain ⟨NL, OF⟩ := S
  dsimp only at J ⊢
  have rev : RevOk NL := fun n d hd r hr hkr => J.rv n d hd r hr hkr
  obtain ⟨j0, a0, a1⟩ := J.rng 0 (Nat.zero_le _) ok.1
  have hpos : 0 < NL.length := by omega
  have hlt : ∀ (k : Nat) (e : Nde) (r : Rn), L[k]? = some e → r ∈ e.r → r.k = true → OF.getD r.n.toNat 0 < OF.getD k 0 := fun k e r h1 h2 h3 => by
    obtain ⟨d, q, s1, s2, s3, s4⟩ := J.edge k e r (Nat.zero_le _) h1 h2 h3
    have := J.rv _ d s1 q s2 s3
    obtain ⟨j, b1, b2⟩ := J.rng k (Nat.zero_le _) (List.getElem?_eq_some_iff.mp h1).1
    rw [s4, b1, Int.toNat_natCast] at this
    rw [b1]
    exact this.2
  have hle : ∀ z, z < L.length → (z = 0 ∨ OF.getD z 0 < OF.getD 0 0) := by
    intro z
    induction z using Nat.strongRecOn with
    | _ z ih =>
      intro hz
      by_cases h0 : z = 0
      · exact .inl h0
      · obtain ⟨n, d, r, h1, h2, h3, h4, h5⟩ := used_lead ok hu z (by omega) hz
        have h6 := hlt n d r h1 h2 h3
        rw [h4, Int.toNat_natCast] at h6
        rcases ih n h5 (by omega) with rfl | h7
        · exact .inr h6
        · exact .inr (by omega)
  have hlast : OF.getD 0 0 = ((NL.length - 1 : Nat) : Int) := by
    obtain ⟨k, _, s2, s3⟩ := J.sur (NL.length - 1) (by omega)
    rcases hle k s2 with rfl | h7
    · exact s3
    · omega
  have h0m : ¬ Met (List.replicate NL.length false, []) (NL.length - 1) := met_rep
  obtain ⟨D1, D2, D3⟩ := dfs_mainS rev NL.length (NL.length - 1) (List.replicate NL.length false, []) NL.length (by omega) h0m (by omega) (by omega) ⟨by simp, fun x hx => (by cases hx), List.nodup_nil, fun A x B h => (by simp at h)⟩ (fun z q => absurd q met_rep)
  have hcnt := dfs_cntS rev NL.length (NL.length - 1) (List.replicate NL.length false, []) 0 (by omega) (by rw [List.getD_eq_getElem?_getD, List.getElem?_replicate_of_lt (by omega)]; rfl) ⟨by simp, by simp [List.count_replicate]⟩ (by omega)
  have hord : ordS NL = (dfs NL NL.length (NL.length - 1) (List.replicate NL.length false, [])).2.reverse := rfl
  generalize dfs NL NL.length (NL.length - 1) (List.replicate NL.length false, []) = T at *
  have hmem : ∀ z, z < L.length → OF.getD z 0 ∈ T.2 := by
    intro z
    induction z using Nat.strongRecOn with
    | _ z ih =>
      intro hz
      by_cases h0 : z = 0
      · subst h0
        rw [hlast]
        exact D3
      · obtain ⟨n, d, r, h1, h2, h3, h4, h5⟩ := used_lead ok hu z (by omega) hz
        obtain ⟨A, B, hs⟩ := List.append_of_mem (ih n h5 (by omega))
        obtain ⟨e, q, s1, s2, s3, s4⟩ := J.edge n d r (Nat.zero_le _) h1 h2 h3
        have := D1.inv.cl A _ B hs e q s1 s2 s3
        rw [s4, h4, Int.toNat_natCast] at this
        rw [hs]
        exact List.mem_append_left _ this
  have hrng : ∀ x ∈ T.2, 0 ≤ x ∧ x < (NL.length : Int) := fun x hx => by
    obtain ⟨h1, h2⟩ := D1.inv.dm x hx
    refine ⟨h1, ?_⟩
    unfold Met at h2
    have h3 : x.toNat < T.1.length := by
      by_cases c : x.toNat < T.1.length
      · exact c
      · rw [List.getD_eq_getElem?_getD, List.getElem?_eq_none (by omega)] at h2
        cases h2
    rw [D1.inv.len] at h3
    omega
  have hlen : T.2.length = NL.length := by
    have h1 := hcnt.2
    have h2 := hcnt.1
    have h3 : T.1.count true ≤ T.1.length := List.count_le_length
    have h4 := sub_len12 ((List.range NL.length).map (fun i : Nat => (i : Int))) T.2 (by
      rw [List.nodup_iff_pairwise_ne, List.pairwise_map]
      exact List.Pairwise.imp (fun h e => h (by exact_mod_cast e)) (List.nodup_iff_pairwise_ne.mp List.nodup_range)) (fun x hx => by
      obtain ⟨j, hj, rfl⟩ := List.mem_map.mp hx
      obtain ⟨k, _, s2, s3⟩ := J.sur j (List.mem_range.mp hj)
      rw [← s3]
      exact hmem k s2)
    rw [List.length_map, List.length_range] at h4
    omega
  refine ⟨⟨rev, hpos, by rw [hord, List.length_reverse]; exact hlen, fun x hx => by rw [hord] at hx; exact hrng x (List.mem_reverse.mp hx), fun d hd => ?_⟩, hlast, hle, by rw [hord]; exact ((List.reverse_perm _).nodup_iff).mpr D1.inv.nd, fun j hj => by rw [hord]; obtain ⟨k, _, s2, s3⟩ := J.sur j hj; rw [← s3]; exact List.mem_reverse.mpr (hmem k s2)⟩
  obtain ⟨e, h1, h2⟩ := J.bit d hd
  rw [h2]
  exact ok.bits e h1
end Go.Proofs.Ytdpfdlkaickkiaa
namespace Go.Proofs.Ytdpfdlkaickkiaa
open Go.RowKit Go.Shelf
set_option linter.unusedSimpArgs false
set_option linter.unusedVariables false
attribute [local go_sem] Oper.semAt_some

def FwdOk (L : List Nde) : Prop := 0 < L.length ∧ ∀ (n : Nat) (d : Nde), L[n]? = some d → ∀ r ∈ d.r, r.k = true → (n : Int) < r.n ∧ r.n < (L.length : Int)
theorem FwdOk.lead {L : List Nde} (h : FwdOk L) {n : Nat} {d : Nde} (hd : L[n]? = some d) {r : Rn} (hr : r ∈ d.r) (hk : r.k = true) : n < r.n.toNat ∧ r.n.toNat < L.length ∧ r.n = (r.n.toNat : Int) := by
  have := h.2 n d hd r hr hk
  omega
theorem dfs_cntF {L : List Nde} (ok : FwdOk L) : ∀ (f n : Nat) (s : DfS) (c : Nat), n < L.length → s.1.getD n false = false → CntD L.length c s → L.length ≤ n + f → CntD L.length c (dfs L f n s)
  | 0, n, s, c, hn, _, _, hf => by omega
  | f + 1, n, s, c, hn, h0, h, hf => by
    obtain ⟨d, hd⟩ : ∃ d, L[n]? = some d := ⟨L[n], by simp [hn]⟩
    rw [dfs_succ L f n s d hd]
    have key := stps_keep (P := CntD L.length (c + 1)) (go := dfs L f) d.r.reverse _ (cnt_set16 h hn h0) (fun r hr m s' hk hm hf' hs' => by
      obtain ⟨a1, a2, -⟩ := ok.lead hd (List.mem_reverse.mp hr) hk
      exact dfs_cntF ok f m s' (c + 1) (by omega) hf' hs' (by omega))
    refine ⟨key.1, ?_⟩
    rw [key.2, List.length_append]
    simp; omega
theorem ord_lenF {L : List Nde} (ok : FwdOk L) : (ordL L).length ≤ L.length := by
  have h0 := ok.1
  have := dfs_cntF ok L.length 0 (List.replicate L.length false, []) 0 h0 (by rw [List.getD_eq_getElem?_getD, List.getElem?_replicate_of_lt h0]; rfl) ⟨by simp, by simp [List.count_replicate]⟩ (by omega)
  unfold ordL
  rw [List.length_reverse]
  have h1 := this.2
  have h2 := this.1
  have h3 : (dfs L L.length 0 (List.replicate L.length false, [])).1.count true ≤ _ := List.count_le_length
  omega
set_option maxRecDepth 100000 in
set_option maxHeartbeats 16000000 in
theorem rwalkF_any (v : Value) (L : List Nde) (w : World) (Gm : Nat) (hv : RwD w v L) (ok : FwdOk L) (hl : L.length ≤ 1000000) (hr : ∀ d ∈ L, d.r.length ≤ 1000000) : ∀ (f n : Nat) (s : DfS) (c : Nat) (vd : Value) (W : World), n < L.length → s.1.getD n false = false → CntD L.length c s → L.length ≤ n + f → DwV w Gm vd s W →
    Calls Try.prog 50 #[v, .int .i64 (n : Int), .slice (some ⟨Gm, 0, none⟩) L.length L.length, vd] W fun e W' => ∃ v', e = .returned v' ∧ DwV w Gm v' (dfs L f n s) W' := by
  intro f
  induction f with
  | zero => intro n s c vd W hn _ _ hf; omega
  | succ f ih =>
  intro n s c vd W hn hs0 hcnt hf hD
  obtain ⟨i0, hi, hz0, hz1, hz2⟩ := info13 Try.infoN16
  obtain ⟨⟨db, dr⟩, hd⟩ : ∃ d, L[n]? = some d := ⟨L[n], by simp [hn]⟩
  have hmem := List.mem_of_getElem? hd
  have hdr := hr _ hmem
  have HIH := hid13 ih
  have HE := hid13 (dfs_succ L f n s _ hd)
  have HLd := hid13 (fun r (h1 : r ∈ dr) (h2 : r.k = true) => ok.lead hd h1 h2)
  have HCn := hid13 (cnt_set16 hcnt hn hs0)
  obtain ⟨ao, lc, hvf, hlc, hrow⟩ := id hv
  obtain ⟨b, off, hao, hcell⟩ := hrow.resolve_left (by rintro rfl; simp at hn)
  obtain ⟨vr, -, x1, hR⟩ := hcell n _ hd
  subst hao
  subst hvf
  have hni : (n : Int) < (L.length : Int) := by omega
  have HN : Hid (n < L.length ∧ L.length ≤ n + (f + 1) ∧ L.length ≤ 1000000) := ⟨hn, hf, hl⟩
  obtain ⟨vo, vc, rfl, -, hrr⟩ := hR
  have HR := hid13 hrr
  have HX1 := hid13 x1
  dsimp only at hdr HE
  have g0 := hD.cell (k := n) (by rw [hcnt.1]; exact hn)
  rw [hs0] at g0
  have g0f := fr_16 (j := n) hD.gm
  have D1 := hD.met n
  have x1 := keepc D1.b x1
  obtain ⟨S1, hS1⟩ : ∃ S1 : DfS, S1 = (s.1.set n true, s.2) := ⟨_, rfl⟩
  rw [← hS1] at D1 HE HCn
  have HD1 := hid13 D1
  have md : IntKind.i64.wrap ((dr.length : Int) - 1) = (dr.length : Int) - 1 := by rw [IntKind.wrap_i64]; omega
  clear hcell hrow hrr D1 hmem ih hs0 hcnt hf hr hv hD hS1 hd
  go_enter Try.func50, Try.ntmps50
  go_wp2_with fail
  revert HD1
  generalize W.setCell ⟨Gm, n, none⟩ (.bool true) = W1
  intro HD1
  go_loopg [3, 9] dr.length (fun g dv kv wr => ∃ vd, dv = vd ∧ g ≤ dr.length ∧ kv = .int .i64 ((g : Int) - 1) ∧ Hid (DwV w Gm vd ((dr.drop g).reverse.foldl (stpR (dfs L f)) S1) wr ∧ CntD L.length (c + 1) ((dr.drop g).reverse.foldl (stpR (dfs L f)) S1)))
  case atStart => exact ⟨vd, rfl, Nat.le_refl _, rfl, by rw [List.drop_length]; exact ⟨HD1.out, HCn.out⟩⟩
  case round =>
    clear HD1 x1 HCn md g0 g0f
    obtain ⟨ud, hud, hg, rfl, HS⟩ := hrel
    replace hud := hud.symm
    subst hud
    by_cases h0 : gk = 0
    · rw [h0, List.drop_zero] at HS
      have hneg : ¬ (0 : Int) ≤ (gk : Int) - 1 := by omega
      have HE2 := hid13 HE.out
      generalize dr.reverse.foldl (stpR (dfs L f)) S1 = S at *
      have HD := hid13 HS.out.1
      have HCc : Hid (S.2.length + 1 ≤ L.length) := hid13 (by
        have h1 := HS.out.2.2
        have h2 := HS.out.2.1
        have h3 : S.1.count true ≤ S.1.length := List.count_le_length
        omega)
      have h63 : S.2.length + 1 ≤ maxLen := by have := HCc.out; unfold maxLen; omega
      have h47 : (S.2.length + 1) * 8 ≤ 140737488355328 := by have := HCc.out; omega
      have q9 := bl1 wr (.cells #[.int .i64 (n : Int)] 3)
      have HO9 := hid13 (own_b13 q9 HD.out.go)
      have HD9 := hid13 (HD.out.below q9)
      have HS9 : Hid (w.heap.size ≤ (wr.alloc (.cells #[.int .i64 (n : Int)] 3)).heap.size) := hid13 (Nat.le_trans HD.out.b.size q9.size)
      clear hg h0 HS q9 HD
      go_wp2_with (at_builtin; apply stopHere9)
      refine (show wpList _ _ _ _ _ _ from ?_)
      refine wpList_append_lies _ rfl _ _ 61 rfl w.heap.size 3 i0 (.int .i64 0) 1 8 Try.underlying61 hi hz0 hz1 hz2 rfl (by decide) _ _ _ rfl HO9.out ⟨wr.heap.size, 0, none⟩ 1 1 [.int .i64 (n : Int)] rfl rfl (news13 (by simp [go_sem])) (by intro u hu; simp at hu; subst hu; rfl) (by decide) h63 h47 HS9.out _ rfl ?_
      intro g4 cap4 w4 hown4 hgrow hat hlt4
      have HF := hid13 (HD9.out.app (x := (n : Int)) hown4 hgrow hat)
      clear hgrow hat hown4 hlt4 h63 h47 HO9 HS9 HD9
      go_wp2
      go_ret
      exact ⟨_, rfl, by rw [HE2.out]; exact HF.out⟩
    · obtain ⟨k, hk⟩ : ∃ k, k + 1 = gk := ⟨gk - 1, by omega⟩
      have hkl : k < dr.length := by omega
      have ek : (gk : Int) - 1 = (k : Int) := by omega
      rw [ek]
      have hki : (k : Int) < (dr.length : Int) := by omega
      obtain ⟨rb, rof, rfl, hrc⟩ := HR.out.resolve_left (by rintro rfl; simp at hkl)
      obtain ⟨r, hrr⟩ : ∃ r, dr[k]? = some r := ⟨_, List.getElem?_eq_getElem hkl⟩
      have HF : Hid ((dr.drop k).reverse.foldl (stpR (dfs L f)) S1 = stpR (dfs L f) ((dr.drop gk).reverse.foldl (stpR (dfs L f)) S1) r) := by
        show _ = _
        have e : dr.drop k = r :: dr.drop (k + 1) := by
          obtain ⟨h1, h2⟩ := List.getElem?_eq_some_iff.mp hrr
          rw [List.drop_eq_getElem_cons h1, h2]
        rw [e, hk, List.reverse_cons, List.foldl_append]; rfl
      generalize (dr.drop gk).reverse.foldl (stpR (dfs L f)) S1 = S at *
      have HD := hid13 HS.out.1
      have HCS := hid13 HS.out.2
      obtain ⟨r0, r1, r2, r3⟩ := hrc k r hrr
      have HKn := hid13 (HLd.out r (List.mem_of_getElem? hrr))
      have r0 := keepc HD.out.b r0
      have r1 := keepc HD.out.b r1
      have r2 := keepc HD.out.b r2
      have r3 := keepc HD.out.b r3
      have x1 := keepc HD.out.b HX1.out
      obtain ⟨rf, rk, rn⟩ := r
      dsimp only at r0 r1 r2 r3 HKn
      have q7 := bl1 wr (.cells #[.int .u64 (hI rf), .int .u64 (lI rf), .bool rk, .int .i64 rn] 54)
      have HD7 := hid13 (HD.out.below q7)
      have mk : IntKind.i64.wrap ((k : Int) - 1) = (k : Int) - 1 := by rw [IntKind.wrap_i64]; omega
      have HK : Hid (k + 1 = gk ∧ k < dr.length) := ⟨hk, hkl⟩
      have hk0 : (0 : Int) ≤ (k : Int) := by omega
      clear hrc hrr q7 hk hg h0 ek HS
      cases rk with
      | false =>
        have HD8 : Hid (DwV w Gm ud ((dr.drop k).reverse.foldl (stpR (dfs L f)) S1) (wr.alloc (.cells #[.int .u64 (hI rf), .int .u64 (lI rf), .bool false, .int .i64 rn] 54)) ∧ CntD L.length (c + 1) ((dr.drop k).reverse.foldl (stpR (dfs L f)) S1)) := by
          show _ ∧ _
          rw [HF.out]
          exact ⟨HD7.out, HCS.out⟩
        clear HD7 HD HF HKn
        go_wp2
        go_roundg k
        case measure => have := HK.out; omega
        case rel => exact ⟨_, rfl, by have := HK.out; omega, rfl, HD8⟩
      | true =>
        obtain ⟨k1, k2, k3⟩ := HKn.out rfl
        obtain ⟨q, hq⟩ : ∃ q : Nat, q = rn.toNat := ⟨_, rfl⟩
        rw [← hq] at k1 k2 k3
        subst k3
        have hqi : (q : Int) < (L.length : Int) := by omega
        have c0 := HD7.out.cell (k := q) (by rw [HCS.out.1]; exact k2)
        cases hm : S.1.getD q false with
        | true =>
          rw [hm] at c0
          have HD8 : Hid (DwV w Gm ud ((dr.drop k).reverse.foldl (stpR (dfs L f)) S1) (wr.alloc (.cells #[.int .u64 (hI rf), .int .u64 (lI rf), .bool true, .int .i64 (q : Int)] 54)) ∧ CntD L.length (c + 1) ((dr.drop k).reverse.foldl (stpR (dfs L f)) S1)) := by
            show _ ∧ _
            have e9 : stpR (dfs L f) S ⟨rf, true, (q : Int)⟩ = S := by unfold stpR; dsimp only; rw [Int.toNat_natCast, hm]; rfl
            rw [HF.out, e9]
            exact ⟨HD7.out, HCS.out⟩
          clear HD7 HD HF HKn hm hq k1 k2
          go_wp2
          go_roundg k
          case measure => have := HK.out; omega
          case rel => exact ⟨_, rfl, by have := HK.out; omega, rfl, HD8⟩
        | false =>
          rw [hm] at c0
          have HG : Hid (stpR (dfs L f) S ⟨rf, true, (q : Int)⟩ = dfs L f q S) := by show _ = _; unfold stpR; dsimp only; rw [Int.toNat_natCast, hm]; rfl
          have KD := HIH.out q S (c + 1) ud (wr.alloc (.cells #[.int .u64 (hI rf), .int .u64 (lI rf), .bool true, .int .i64 (q : Int)] 54)) k2 hm HCS.out (by have := HN.out; omega) HD7.out
          have HC2 := hid13 (dfs_cntF ok f q S (c + 1) k2 hm HCS.out (by have := HN.out; omega))
          clear hm hq k1 k2 HD7 HD HKn
          go_wp2_with fail
          refine KD.mono ?_
          rintro e V2 ⟨v2, rfl, hD2⟩
          have HD8 : Hid (DwV w Gm v2 ((dr.drop k).reverse.foldl (stpR (dfs L f)) S1) V2 ∧ CntD L.length (c + 1) ((dr.drop k).reverse.foldl (stpR (dfs L f)) S1)) := by
            show _ ∧ _
            rw [HF.out, HG.out]
            exact ⟨hD2, HC2.out⟩
          clear KD hD2 HF HG
          go_wp2
          go_roundg k
          case measure => have := HK.out; omega
          case rel => exact ⟨_, rfl, by have := HK.out; omega, rfl, HD8⟩
set_option maxRecDepth 20000 in
set_option maxHeartbeats 8000000 in
theorem rorder12F_any (v : Value) (L : List Nde) (w : World) (hv : RwD w v L) (ok : FwdOk L) (hl : L.length ≤ 1000000) (hr : ∀ d ∈ L, d.r.length ≤ 1000000) :
    Calls Try.prog 28 #[v, .int .i64 0] w fun e w' => ∃ v', e = .returned v' ∧ w'.ownsRow w.heap.size 3 1 v' (ordL L).length ((ordL L).map cI) ∧ Below w.heap.size w w' := by
  obtain ⟨i0, hi, hz0, hz1, hz2⟩ := info13 Try.infoO16
  obtain ⟨ao, c, hvf, -⟩ := id hv
  have h0 := ok.1
  have KD := fun W vd h => rwalkF_any v L w w.heap.size hv ok hl hr L.length 0 (List.replicate L.length false, []) 0 vd W h0 (by rw [List.getD_eq_getElem?_getD, List.getElem?_replicate_of_lt h0]; rfl) ⟨by simp, by simp [List.count_replicate]⟩ (by omega) h
  have HCn := hid13 (dfs_cntF ok L.length 0 (List.replicate L.length false, []) 0 h0 (by rw [List.getD_eq_getElem?_getD, List.getElem?_replicate_of_lt h0]; rfl) ⟨by simp, by simp [List.count_replicate]⟩ (by omega))
  have HOr : Hid (ordL L = (dfs L L.length 0 (List.replicate L.length false, [])).2.reverse) := rfl
  simp only [Int.natCast_zero] at KD
  subst hvf
  clear hv hr
  go_enter Try.func28, Try.ntmps28
  go_wp2_with (at_make; apply stopHere9)
  refine (show wpList _ _ _ _ _ _ from ?_)
  refine wpList_make16 _ rfl _ _ 76 rfl 4 i0 (.bool false) Try.underlying76 hi hz0 .i64 .i64 _ _ L.length L.length rfl rfl rfl rfl (Nat.le_refl _) (by rw [hz2]; omega) (by unfold maxLen; omega) ?_
  have eO : madeCells (Value.bool false).cells (L.length * i0.size) = ((List.replicate L.length false).map cBo).toArray := by rw [hz1, Nat.mul_one, List.map_replicate]; exact made_one16 _ _
  rw [eO]
  obtain ⟨O1, hO1⟩ : ∃ O : Obj, O = .cells ((List.replicate L.length false).map cBo).toArray 4 := ⟨_, rfl⟩
  rw [← hO1]
  have D0 : DwV w w.heap.size (.slice none 0 0) (List.replicate L.length false, []) (w.alloc O1) := ⟨by rw [hO1]; exact new_16 _ _, World.ownsRow_nil _ _ _ _, bl1 _ _, Nat.le_refl _, fun e => by cases e⟩
  have KD1 := KD _ _ D0
  clear D0 KD eO hO1
  generalize dfs L L.length 0 (List.replicate L.length false, []) = S at *
  go_wp2_with fail
  refine KD1.mono ?_
  rintro e W2 ⟨v2, rfl, hD2⟩
  obtain ⟨o2, c2, hv2⟩ := own_form hD2.go
  subst hv2
  have hSl : S.2.length ≤ L.length := by
    have h1 := HCn.out.2
    have h2 := HCn.out.1
    have h3 : S.1.count true ≤ S.1.length := List.count_le_length
    omega
  have HO := hid13 hD2.go
  have HB := hid13 hD2.b
  have HSl : Hid (S.2.length ≤ 1000000) := hid13 (by omega)
  have m0 : IntKind.i64.wrap ((S.2.length : Int) - 1) = (S.2.length : Int) - 1 := by rw [IntKind.wrap_i64]; omega
  generalize S.2 = xs at *
  clear KD1 hD2 HCn hSl
  go_wp2_with fail
  go_loopw [6, 7] (fun x2 x3 wr => ∃ (i : Nat) (ys : List Int), x2 = .int .i64 (i : Int) ∧ x3 = .int .i64 ((xs.length : Int) - 1 - i) ∧ Hid (i ≤ xs.length ∧ RvI xs ys i ∧ wr.ownsRow w.heap.size 3 1 (.slice o2 xs.length c2) xs.length (ys.map cI) ∧ Below w.heap.size w wr)) (fun x2 x3 wr => xs.length - (intOf x2).toNat)
  case atStart => exact ⟨0, xs, rfl, by simp, hid13 ⟨Nat.zero_le _, ⟨rfl, fun k hk => by rw [if_neg (by omega)]⟩, HO.out, HB.out⟩⟩
  case round =>
    clear HO HB m0
    obtain ⟨i, ys, rfl, rfl, HS⟩ := hrel
    by_cases hlt : 2 * i + 1 < xs.length
    · obtain ⟨j, hj⟩ : ∃ j, j = xs.length - 1 - i := ⟨_, rfl⟩
      have ej : (xs.length : Int) - 1 - (i : Int) = (j : Int) := by omega
      rw [ej]
      have hij : (i : Int) < (j : Int) := by omega
      have hne : i ≠ j := by omega
      have hni : (i : Int) < (xs.length : Int) := by omega
      have hnj : (j : Int) < (xs.length : Int) := by omega
      have hyl : ys.length = xs.length := HS.out.2.1.1
      obtain ⟨a, ha⟩ : ∃ a, ys[i]? = some a := ⟨ys[i]'(by omega), List.getElem?_eq_getElem _⟩
      obtain ⟨b, hb⟩ : ∃ b, ys[j]? = some b := ⟨ys[j]'(by omega), List.getElem?_eq_getElem _⟩
      obtain ⟨g, ho2, hgw⟩ : ∃ g, o2 = some ⟨g, 0, none⟩ ∧ w.heap.size ≤ g := by
        rcases HS.out.2.2.1.2 with h1 | ⟨g, cap, cur, e, h1, -⟩
        · have := h1.1
          injection this with _ e2 _
          omega
        · injection e with e1 _ _
          exact ⟨g, e1, h1⟩
      subst ho2
      obtain ⟨c1, f1⟩ := own_cell16 HS.out.2.2.1 ha
      obtain ⟨c2', f2⟩ := own_cell16 HS.out.2.2.1 hb
      have HN : Hid (RvI xs ((ys.set i b).set j a) (i + 1)) := hid13 (by have := rv_step HS.out.2.1 hlt a b ha (by rw [← hj]; exact hb); rwa [← hj] at this)
      have HJ : Hid (i + 1 ≤ xs.length ∧ (j : Int) = (xs.length : Int) - 1 - i) := ⟨by omega, ej.symm⟩
      have mi : IntKind.i64.wrap ((i : Int) + 1) = ((i + 1 : Nat) : Int) := by rw [IntKind.wrap_i64]; have := HSl.out; push_cast; omega
      have mj : IntKind.i64.wrap ((j : Int) - 1) = (xs.length : Int) - 1 - ((i + 1 : Nat) : Int) := by rw [IntKind.wrap_i64]; have := HSl.out; push_cast; omega
      have HGw := hid13 hgw
      clear hj ej hyl ha hb hlt hgw
      go_wp2_with fail
      go_region
      have k1 := own_set16 HS.out.2.2.1 i b
      have k2 := own_set16 k1.1 j a
      have HO2 := hid13 (k2.1.drew)
      have HG2 : Hid (Below w.heap.size w ((wr.setCell ⟨g, i, none⟩ (.int .i64 b)).setCell ⟨g, j, none⟩ (.int .i64 a)).drew) := hid13 ((((HS.out.2.2.2.setCell (p := ⟨g, i, none⟩) HGw.out _).setCell (p := ⟨g, j, none⟩) HGw.out _)).drew)
      clear k1 k2 c1 f1 c2' f2 HS
      go_wp2
      go_roundw
      case rel => exact ⟨i + 1, (ys.set i b).set j a, by first | rfl | simp, by first | rfl | simp, hid13 ⟨HJ.out.1, HN.out, HO2.out, HG2.out⟩⟩
      case measure => have := HJ.out.1; first | (simp [intOf]; done) | (simp [intOf]; omega) | (unfold intOf; simp; omega)
    · have hge : ¬ (i : Int) < (xs.length : Int) - 1 - (i : Int) := by omega
      have HE := hid13 (rv_end HS.out.2.1 (by omega))
      have HFo := hid13 HS.out.2.2.1
      have HFb := hid13 HS.out.2.2.2
      clear hlt HS
      go_wp2
      go_ret
      refine ⟨_, rfl, ?_, HFb.out⟩
      rw [HOr.out, List.length_reverse, ← HE.out]
      exact HFo.out
end Go.Proofs.Ytdpfdlkaickkiaa
namespace Go.Proofs.Ytdpfdlkaickkiaa
set_option linter.unusedSimpArgs false
set_option linter.unusedVariables false

theorem nb_pred (p : Rn → Prop) (C : List Int) : ∀ (t pre RS : List Rn), (∀ q ∈ RS, p q) → (∀ r ∈ t, p (if r.k then ⟨r.f, true, C.getD r.n.toNat 0⟩ else r)) → ∀ q ∈ nbG (fun _ r => C.getD r.n.toNat 0) pre RS t, p q
  | [], pre, RS, hS, _ => hS
  | r :: t, pre, RS, hS, ht => by
    refine nb_pred p C t (pre ++ [r]) _ (fun q hq => ?_) (fun s hs => ht s (by simp [hs]))
    have e : rnK (fun _ r => C.getD r.n.toNat 0) pre r = (if r.k then ⟨r.f, true, C.getD r.n.toNat 0⟩ else r) := rfl
    rw [e] at hq
    have hr := ht r (by simp)
    generalize (if r.k then (⟨r.f, true, C.getD r.n.toNat 0⟩ : Rn) else r) = r9 at hq hr
    unfold mgR at hq
    split at hq
    · rcases List.mem_append.mp hq with h | h
      · exact hS q h
      · rw [List.mem_singleton.mp h]; exact hr
    · split at hq
      · exact hS q hq
      · rcases List.mem_append.mp hq with h | h
        · exact hS q h
        · rw [List.mem_singleton.mp h]; exact hr
structure ClF (L : List Nde) (g : Nat) (C : List Int) (ND : List Nde) : Prop where
  cl : C.length = L.length
  nl : ND.length = L.length
  c : ∀ k : Nat, g ≤ k → k < L.length → (k : Int) ≤ C.getD k 0 ∧ C.getD k 0 < (L.length : Int)
  f : ∀ k : Nat, g ≤ k → k < L.length → ∀ r ∈ (ND.getD k ⟨0, []⟩).r, r.k = true → (k : Int) < r.n ∧ r.n < (L.length : Int)
  w : ∀ k : Nat, g ≤ k → k < L.length → (ND.getD k ⟨0, []⟩).r.length ≤ (L.getD k ⟨0, []⟩).r.length
theorem ClF.step {L : List Nde} {i : Nat} {C : List Int} {ND : List Nde} (h : ClF L (i + 1) C ND) (hi : i < L.length) (hk : ∀ r ∈ (L.getD i ⟨0, []⟩).r, r.k = true → (i : Int) < r.n ∧ r.n < (L.length : Int)) : ClF L i (stC L (C, ND) i).1 (stC L (C, ND) i).2 := by
  obtain ⟨d, hd⟩ : ∃ d, d = L.getD i ⟨0, []⟩ := ⟨_, rfl⟩
  rw [← hd] at hk
  obtain ⟨n2, hn2⟩ : ∃ n, n = nmD C d := ⟨_, rfl⟩
  have hstC : stC L (C, ND) i = ((C.set i (i : Int)).set i (fdK (C.set i (i : Int)) (ND.set i n2) n2 i L.length), ND.set i n2) := by unfold stC; rw [← hd, ← hn2]
  rw [hstC, List.set_set]
  dsimp only
  have hiC : i < C.length := by rw [h.cl]; exact hi
  have hiN : i < ND.length := by rw [h.nl]; exact hi
  have gC := fun k (c : Int) => set_at12 C i k c 0 hiC
  have gN := fun k => set_at12 ND i k n2 ⟨0, []⟩ hiN
  refine ⟨by rw [List.length_set]; exact h.cl, by rw [List.length_set]; exact h.nl, fun k g1 g2 => ?_, fun k g1 g2 => ?_, fun k g1 g2 => ?_⟩
  · rw [gC]
    by_cases e : i = k
    · subst e
      rw [if_pos rfl]
      rcases fd_cases (C.set i (i : Int)) (ND.set i n2) n2 i L.length with ⟨q1, _⟩ | ⟨j, q1, q2, q3, _⟩
      · rw [q1]; omega
      · rw [q3]; omega
    · rw [if_neg e]
      exact h.c k (by omega) g2
  · rw [gN]
    by_cases e : i = k
    · subst e
      rw [if_pos rfl, hn2]
      exact nb_pred (fun r => r.k = true → (i : Int) < r.n ∧ r.n < (L.length : Int)) C d.r [] [] (fun q hq => (by cases hq)) (fun r hr => by
        by_cases hkr : r.k = true
        · rw [if_pos hkr]
          intro _
          have h1 := hk r hr hkr
          have h2 := h.c r.n.toNat (by omega) (by omega)
          dsimp only
          omega
        · rw [if_neg hkr]
          exact fun q => absurd q hkr)
    · rw [if_neg e]
      exact h.f k (by omega) g2
  · rw [gN]
    by_cases e : i = k
    · subst e
      rw [if_pos rfl, hn2, ← hd]
      exact nmD_len C d
    · rw [if_neg e]
      exact h.w k (by omega) g2
theorem clf_all (L : List Nde) (hk : ∀ (i : Nat) (d : Nde), L[i]? = some d → ∀ r ∈ d.r, r.k = true → (i : Int) < r.n ∧ r.n < (L.length : Int)) : ∀ (g : Nat) (C : List Int) (ND : List Nde), g ≤ L.length → ClF L g C ND → ClF L 0 (clsD L g (C, ND)).1 (clsD L g (C, ND)).2
  | 0, C, ND, _, h => h
  | i + 1, C, ND, hg, h => clf_all L hk i _ _ (by omega) (h.step (by omega) (fun r hr hkr => by
      rw [List.getD_eq_getElem?_getD, List.getElem?_eq_getElem (by omega)] at hr
      exact hk i _ (List.getElem?_eq_getElem (by omega)) r hr hkr))
theorem clf_cls (L : List Nde) (hk : ∀ (i : Nat) (d : Nde), L[i]? = some d → ∀ r ∈ d.r, r.k = true → (i : Int) < r.n ∧ r.n < (L.length : Int)) : ClF L 0 (clsL L).1 (clsL L).2 :=
  clf_all L hk L.length (List.replicate L.length 0) (List.replicate L.length ⟨0, []⟩) (Nat.le_refl _) ⟨by simp, by simp, fun k h1 h2 => by omega, fun k h1 h2 => by omega, fun k h1 h2 => by omega⟩
def AdjR (l : List Rn) : Prop := ∀ (A B : List Rn) (a b : Rn), l = A ++ a :: b :: B → smR a b = false
theorem adj_mg {RS : List Rn} {r : Rn} (h : AdjR RS) : AdjR (mgR RS r) := by
  rcases List.eq_nil_or_concat RS with rfl | ⟨RS0, q, rfl⟩
  · rw [mgR_nil]
    intro A B a b e
    have := congrArg List.length e
    simp at this
    omega
  · rw [List.concat_eq_append] at h ⊢
    rw [mgR_app]
    by_cases c : smR q r = true
    · rw [if_pos c]; exact h
    · rw [if_neg c]
      intro A B a b e
      rcases List.eq_nil_or_concat B with rfl | ⟨B', y, rfl⟩
      · have e' : (RS0 ++ [q]) ++ [r] = (A ++ [a]) ++ [b] := by rw [e]; simp
        obtain ⟨h1, h2⟩ := List.append_inj' e' rfl
        obtain ⟨h3, h4⟩ := List.append_inj' h1 rfl
        injection h2 with h2
        injection h4 with h4
        subst h2 h4
        simpa using c
      · have e' : (RS0 ++ [q]) ++ [r] = (A ++ a :: b :: B') ++ [y] := by rw [e]; simp
        obtain ⟨h1, h2⟩ := List.append_inj' e' rfl
        exact h A B' a b h1
theorem adj_nb (nm : List Rn → Rn → Int) : ∀ (t pre RS : List Rn), AdjR RS → AdjR (nbG nm pre RS t)
  | [], _, _, h => h
  | r :: t, pre, RS, h => adj_nb nm t (pre ++ [r]) _ (adj_mg h)
theorem adj_join (L : List Nde) : ∀ (is : List Nat) (S : List Nde × List Int), (∀ d ∈ S.1, AdjR d.r) → ∀ d ∈ (is.foldl (stJ L) S).1, AdjR d.r
  | [], S, h => h
  | i :: is, S, h => adj_join L is _ (fun d hd => by
      rcases adN_in hd with q | q
      · exact h d q
      · rw [q]
        exact adj_nb _ _ _ _ (fun A B a b e => by have := congrArg List.length e; simp at this))
theorem nb_id (P : List Int) : ∀ (t pre : List Rn), AdjR (pre ++ t) → (∀ r ∈ pre ++ t, ∀ s ∈ pre ++ t, r.k = true → s.k = true → P.getD r.n.toNat 0 = P.getD s.n.toNat 0 → r.n = s.n) → nbG (fun _ r => P.getD r.n.toNat 0) pre (pre.map (rnP P)) t = (pre ++ t).map (rnP P)
  | [], pre, _, _ => by rw [List.append_nil]; rfl
  | r :: t, pre, ha, hi => by
    have e : rnK (fun _ r => P.getD r.n.toNat 0) pre r = rnP P r := by
      unfold rnK rnP
      by_cases hk : r.k = true
      · rw [if_pos hk, if_pos hk, hk]
      · rw [if_neg hk, if_neg hk]
    have e2 : mgR (pre.map (rnP P)) (rnP P r) = (pre ++ [r]).map (rnP P) := by
      rcases List.eq_nil_or_concat pre with rfl | ⟨pre0, q, rfl⟩
      · rfl
      · rw [List.concat_eq_append] at ha hi ⊢
        have hs : smR q r = false := ha pre0 t q r (by simp)
        have hsm : smR (rnP P q) (rnP P r) = false := by
          have hq := hi q (by simp) r (by simp)
          unfold smR rnP at *
          dsimp only
          cases hqk : q.k <;> cases hrk : r.k <;> simp [hqk, hrk] at hs hq ⊢
          · exact hs
          · exact fun e => hs (hq e)
        rw [List.map_append, List.map_cons, List.map_nil, mgR_app, hsm]
        simp
    show nbG _ (pre ++ [r]) (mgR (pre.map (rnP P)) (rnK (fun _ r => P.getD r.n.toNat 0) pre r)) t = _
    rw [e, e2, nb_id P t (pre ++ [r]) (by simpa using ha) (by simpa using hi)]
    simp
theorem plc_not12 : ∀ (o : List Int) (i : Nat) (P : List Int) (k : Nat), (∀ x ∈ o, x.toNat ≠ k) → (plcG o i P).getD k 0 = P.getD k 0
  | [], i, P, k, h => rfl
  | x :: t, i, P, k, h => by
    show (plcG t (i + 1) (P.set x.toNat (i : Int))).getD k 0 = _
    rw [plc_not12 t (i + 1) _ k (fun y hy => h y (by simp [hy])), List.getD_eq_getElem?_getD, List.getElem?_set_ne (h x (by simp)), ← List.getD_eq_getElem?_getD]
theorem plc_at12 : ∀ (o : List Int) (i : Nat) (P : List Int) (k : Nat) (x : Int), o.Nodup → (∀ x ∈ o, 0 ≤ x ∧ x.toNat < P.length) → o[k]? = some x → (plcG o i P).getD x.toNat 0 = ((i + k : Nat) : Int)
  | [], i, P, k, x, hn, hp, h => by simp at h
  | y :: t, i, P, 0, x, hn, hp, h => by
    simp at h
    subst h
    show (plcG t (i + 1) (P.set y.toNat (i : Int))).getD y.toNat 0 = _
    obtain ⟨hy, -⟩ := List.nodup_cons.mp hn
    rw [plc_not12 t (i + 1) _ _ (fun z hz e => hy (by
      have h1 := hp z (by simp [hz]); have h2 := hp y (by simp)
      have : z = y := by omega
      rw [← this]; exact hz)), List.getD_eq_getElem?_getD, List.getElem?_set_self (hp y (by simp)).2]
    rfl
  | y :: t, i, P, k + 1, x, hn, hp, h => by
    show (plcG t (i + 1) (P.set y.toNat (i : Int))).getD x.toNat 0 = _
    rw [plc_at12 t (i + 1) _ k x (List.nodup_cons.mp hn).2 (fun z hz => by rw [List.length_set]; exact hp z (by simp [hz])) (by simpa using h)]
    congr 1
    omega
structure DfT (J : List Nde) (N : Nat) (RP : List Nat) (s t : DfS) : Prop where
  l : s.1.length = J.length ∧ t.1.length = N
  m : ∀ k : Nat, k < J.length → t.1.getD (RP.getD k 0) false = s.1.getD k false
  r : t.2 = s.2.map fun x => ((RP.getD x.toNat 0 : Nat) : Int)
theorem set_getB12 (A : List Bool) (k i : Nat) (hk : k < A.length) : (A.set k true).getD i false = if k = i then true else A.getD i false := set_at12 A k i true false hk
theorem dfs_renS {J ND : List Nde} {RP : List Nat} (rev : RevOk J) (fwd : FwdOk ND) (hl : RP.length = J.length) (hp : RP.Nodup) (hN : ∀ k, k < J.length → RP.getD k 0 < ND.length) (hD : ∀ (n : Nat) (d : Nde), J[n]? = some d → ND[RP.getD n 0]? = some (renD RP d)) : ∀ (f f' n : Nat) (s t : DfS), n < f → ND.length ≤ RP.getD n 0 + f' → n < J.length → DfT J ND.length RP s t → DfT J ND.length RP (dfs J f n s) (dfs ND f' (RP.getD n 0) t)
  | 0, f', n, s, t, hf, _, _, _ => absurd hf (Nat.not_lt_zero n)
  | f + 1, 0, n, s, t, _, hf', hn, h => by have := hN n hn; omega
  | f + 1, f' + 1, n, s, t, hf, hf', hn, h => by
    obtain ⟨d, hd⟩ : ∃ d, J[n]? = some d := ⟨J[n], by simp [hn]⟩
    have hd' := hD n d hd
    rw [dfs_succ J f n s d hd, dfs_succ ND f' _ t _ hd']
    have key : ∀ (l : List Rn) (a b : DfS), (∀ r ∈ l, r ∈ d.r) → DfT J ND.length RP a b → DfT J ND.length RP (l.foldl (stpR (dfs J f)) a) ((l.map (renR RP)).foldl (stpR (dfs ND f')) b) := by
      intro l
      induction l with
      | nil => intro a b _ hab; exact hab
      | cons r l ih =>
        intro a b hl9 hab
        rw [List.map_cons, List.foldl_cons, List.foldl_cons]
        refine ih _ _ (fun q hq => hl9 q (by simp [hq])) ?_
        have hr := hl9 r (by simp)
        unfold stpR
        cases c : r.k with
        | false =>
          have e : (renR RP r).k = false := by unfold renR; rw [c]; exact c
          rw [e]
          exact hab
        | true =>
          obtain ⟨a1, a2, a3⟩ := rev.lead hd hr c
          have e1 : (renR RP r).k = true := by unfold renR; rw [c]; rfl
          have e2 : (renR RP r).n = ((RP.getD r.n.toNat 0 : Nat) : Int) := by unfold renR; rw [c]; rfl
          have hfw := fwd.2 _ _ hd' (renR RP r) (List.mem_map.mpr ⟨r, hr, rfl⟩) e1
          rw [e2] at hfw
          rw [e1, e2, Int.toNat_natCast, hab.m _ a2]
          split
          · exact dfs_renS rev fwd hl hp hN hD f f' r.n.toNat a b (by omega) (by omega) a2 hab
          · exact hab
    have h1 : DfT J ND.length RP (s.1.set n true, s.2) (t.1.set (RP.getD n 0) true, t.2) := by
      refine ⟨⟨by rw [List.length_set]; exact h.l.1, by rw [List.length_set]; exact h.l.2⟩, fun k hk => ?_, h.r⟩
      dsimp only
      rw [set_getB12 _ _ _ (by rw [h.l.2]; exact hN n hn), set_getB12 _ _ _ (by rw [h.l.1]; exact hn), h.m k hk]
      by_cases c : n = k
      · subst c
        rw [if_pos rfl, if_pos rfl]
      · rw [if_neg (fun q => c (nodup_getD hp (by omega) (by omega) q)), if_neg c]
    have h2 := key d.r.reverse _ _ (fun r hr => List.mem_reverse.mp hr) h1
    rw [List.map_reverse] at h2
    refine ⟨h2.l, h2.m, ?_⟩
    dsimp only
    show (((d.r.map (renR RP)).reverse).foldl (stpR (dfs ND f')) (t.1.set (RP.getD n 0) true, t.2)).2 ++ _ = _
    rw [h2.r, List.map_append]
    rfl
end Go.Proofs.Ytdpfdlkaickkiaa
