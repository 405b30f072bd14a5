/-
  Part 28 of the proof: 4 texts, one behind the other.
-/
import Derived.Test.YtdpmhpmnkollaaaPart27
import Derived.Test.YtdpmhpmnkollaaaPart19
import Derived.Test.YtdpmhpmnkollaaaPart26
namespace Go.Proofs.Ytdpmhpmnkollaaa
open Go.RowKit
set_option linter.unusedSimpArgs false
set_option linter.unusedVariables false

def eR (P : List Int) (r : Rn) : Bool × Int := if r.k then (true, P.getD r.n.toNat 0) else (false, r.n)
def rwR (P : List Int) : Nat → List Rn → List (Int × Int)
  | _, [] => []
  | p, r :: t => (rnO r, rnI P p r) :: rwR P (p + 1) t
theorem rwR_len (P : List Int) : ∀ (t : List Rn) (p : Nat), (rwR P p t).length = t.length
  | [], p => rfl
  | r :: t, p => by
    show (rwR P (p + 1) t).length + 1 = _
    rw [rwR_len P t]; rfl
theorem rwR_app (P : List Int) : ∀ (s : List Rn) (p : Nat) (r : Rn), rwR P p (s ++ [r]) = rwR P p s ++ [(rnO r, rnI P (p + s.length) r)]
  | [], p, r => rfl
  | q :: s, p, r => by
    show (rnO q, rnI P p q) :: rwR P (p + 1) (s ++ [r]) = _
    rw [rwR_app P s (p + 1) r, List.length_cons, show p + 1 + s.length = p + (s.length + 1) by omega]
    rfl
theorem prX_run (P : List Int) (p : Nat) (r : Rn) : prX (p : Int) (rnO r, rnI P p r) = eR P r := by
  unfold prX rnO rnI eR
  cases h : r.k
  · simp
  · simp
    omega
theorem pr_runs (P : List Int) : ∀ (t : List Rn) (p : Nat), prE (p : Int) (rwR P p t) = t.map (eR P)
  | [], p => rfl
  | r :: t, p => by
    show prX (p : Int) (rnO r, rnI P p r) :: prE ((p : Int) + 1) (rwR P (p + 1) t) = _
    have := pr_runs P t (p + 1)
    push_cast at this
    rw [prX_run, this]; rfl
theorem rwR_op (P : List Int) : ∀ (t : List Rn) (p : Nat), ∀ e ∈ rwR P p t, e.1 = 3 ∨ e.1 = 4
  | [], p, e, h => by cases h
  | r :: t, p, e, h => by
    rcases List.mem_cons.mp h with rfl | q
    · unfold rnO
      cases r.k
      · exact .inr rfl
      · exact .inl rfl
    · exact rwR_op P t _ e q
theorem adj_last {A B : List (Bool × Int)} {x : Bool × Int} (h : Adj (A ++ x :: B)) : A.getLast? ≠ some x := by
  intro q
  have hne : A ≠ [] := fun e => by rw [e] at q; cases q
  have hl := List.length_pos_iff.mpr hne
  rw [List.getLast?_eq_getElem?] at q
  refine h (A.length - 1) x x (by rw [List.getElem?_append_left (by omega)]; exact q) (by rw [List.getElem?_append_right (by omega), show A.length - 1 + 1 - A.length = 0 by omega]; rfl) rfl
theorem enG_runs (P : List Int) (en : Nat) (l : List Nat) : ∀ (t s : List Rn) (q z : List Nat), l = q ++ rnB P (en + s.length) t ++ z → q.length = 4 * (en + s.length) → RnLay P (en + s.length) t → Adj ((s ++ t).map (eR P)) → enG l (en : Int) t.length s.length (rwR P en s) = (rwR P en (s ++ t), 0, 0)
  | [], s, q, z, hl, hq, hr, ha => by rw [List.append_nil]; rfl
  | r :: t, s, q, z, hl, hq, hr, ha => by
    have h0 := (hr 0 r rfl).1
    rw [Nat.add_zero] at h0
    have e1 : l = q ++ wdB (rnO r).toNat (rnI P (en + s.length) r).toNat [] ++ (rnB P (en + s.length + 1) t ++ z) := by
      rw [hl]
      show q ++ (wdB (rnO r).toNat (rnI P (en + s.length) r).toNat [] ++ rnB P (en + s.length + 1) t) ++ z = _
      simp only [List.append_assoc]
    have d := dec_enc q (rnB P (en + s.length + 1) t ++ z) (en + s.length) (rnO r) (rnI P (en + s.length) r) [] hq h0
    rw [← e1] at d
    push_cast at d
    obtain ⟨d1, d2, -⟩ := d
    have ho : rnO r = 3 ∨ rnO r = 4 := by
      unfold rnO
      cases r.k
      · exact .inr rfl
      · exact .inl rfl
    have hE := enE_pr l (en : Int) (rwR P en s) (by rw [rwR_len]; exact d1) (by rw [rwR_len, d2]; exact ho) (rwR_op P s en)
    rw [rwR_len, d2, pr_runs] at hE
    have hx := prX_run P (en + s.length) r
    push_cast at hx
    rw [List.map_append, List.map_cons] at ha
    rw [if_neg (by
      dsimp only
      rw [hx]
      exact adj_last ha)] at hE
    rw [List.length_cons, enG_succ, if_pos hE, d2]
    dsimp only
    have hc : rwR P en s ++ [(rnO r, rnI P (en + s.length) r)] = rwR P en (s ++ [r]) := (rwR_app P s en r).symm
    rw [hc]
    have ih := enG_runs P en l t (s ++ [r]) (q ++ wdB (rnO r).toNat (rnI P (en + s.length) r).toNat []) z (by
      rw [e1, List.length_append, List.length_singleton, ← Nat.add_assoc]
      simp only [List.append_assoc]) (by
      rw [List.length_append, hq, wdB_len, List.length_append, List.length_singleton]
      simp; omega) (by
      rw [List.length_append, List.length_singleton, ← Nat.add_assoc]
      intro j x hj
      have := hr (j + 1) x (by simpa using hj)
      rw [show en + s.length + (j + 1) = en + s.length + 1 + j by omega] at this
      exact this) (by
      rw [List.append_assoc, List.map_append]
      exact ha)
    rw [List.length_append, List.length_singleton, List.append_assoc] at ih
    exact ih
def bkN (P : List Int) (a : Nat) (d : Nde) : PB := ⟨(a : Int), d.b, mapL d.b.toNat d.r, d.r.map (eR P)⟩
theorem bsG_node (P : List Int) (d : Nde) (p z : List Nat) (a : Nat) (hp : p.length = 4 * a) (hd : NdLay P a d) (hb : d.b ≠ 0) (hs : sumW (mapL d.b.toNat d.r) (mapL d.b.toNat d.r).length = d.r.length) (ha : Adj (d.r.map (eR P))) (f : Nat) (B : List PB) (hz : z.length % 4 = 0) :
    bsG (p ++ ndB P a d ++ z) (f + 1) a B = if 0 < z.length then bsG (p ++ ndB P a d ++ z) f ((a + szN d : Nat) : Int) (B ++ [bkN P a d]) else (B ++ [bkN P a d], 0, 0) := by
  obtain ⟨k1, k2⟩ := hd.e hb
  have hlen : (p ++ ndB P a d ++ z).length = 4 * (a + szN d) + z.length := by rw [List.length_append, List.length_append, hp, ndB_len hd]; omega
  have hsz : szN d = 2 + mwN d.b.toNat + d.r.length := by unfold szN; rw [if_neg hb]
  have hr := hd.r
  rw [if_neg hb] at hr
  have hml := mapL_len d.b.toNat d.r
  obtain ⟨l, hl⟩ : ∃ l, l = p ++ ndB P a d ++ z := ⟨_, rfl⟩
  have hnd : ndB P a d = wdB 1 d.b.toNat [] ++ (wdB 2 d.b.toNat (mapL d.b.toNat d.r) ++ rnB P (a + 2 + mwN d.b.toNat) d.r) := by unfold ndB; rw [if_neg hb]
  have e1 : l = p ++ wdB (1 : Int).toNat d.b.toNat [] ++ (wdB 2 d.b.toNat (mapL d.b.toNat d.r) ++ rnB P (a + 2 + mwN d.b.toNat) d.r ++ z) := by
    rw [hl, hnd]; simp only [List.append_assoc]; rfl
  have d1 := dec_enc p (wdB 2 d.b.toNat (mapL d.b.toNat d.r) ++ rnB P (a + 2 + mwN d.b.toNat) d.r ++ z) a 1 d.b [] hp k1
  rw [← e1] at d1
  have e2 : l = (p ++ wdB 1 d.b.toNat []) ++ wdB (2 : Int).toNat d.b.toNat (mapL d.b.toNat d.r) ++ (rnB P (a + 2 + mwN d.b.toNat) d.r ++ z) := by
    rw [hl, hnd]; simp only [List.append_assoc]; rfl
  have d2 := dec_enc (p ++ wdB 1 d.b.toNat []) (rnB P (a + 2 + mwN d.b.toNat) d.r ++ z) (a + 1) 2 d.b (mapL d.b.toNat d.r) (by rw [List.length_append, hp, wdB_len]; simp; omega) k2
  rw [← e2] at d2
  have hG := enG_runs P (a + 2 + mwN d.b.toNat) l d.r [] (p ++ wdB 1 d.b.toNat [] ++ wdB 2 d.b.toNat (mapL d.b.toNat d.r)) z (by
    rw [hl, hnd]; simp only [List.append_assoc]; rfl) (by
    rw [List.length_append, List.length_append, hp, wdB_len, wdB_len, hml]; simp; omega) hr ha
  rw [← hl] at hlen ⊢
  have ha1 : ((a : Nat) : Int) + 1 = ((a + 1 : Nat) : Int) := by push_cast; rfl
  rw [bsG_succ, if_neg (fun q => q d1.1), if_neg (fun q => q (by rw [d1.2.1])), ha1, if_neg (fun q => q d2.1), if_neg (fun q => q (by rw [d2.2.1])), if_neg (fun q => q (by rw [d2.2.1, d1.2.1])), d2.2.1, d2.2.2, d1.2.1]
  dsimp only
  rw [hs, hml]
  have hen : ((a + 1 : Nat) : Int) + (1 + (mwN d.b.toNat : Int)) = ((a + 2 + mwN d.b.toNat : Nat) : Int) := by push_cast; omega
  rw [hen]
  have hG2 : enG l ((a + 2 + mwN d.b.toNat : Nat) : Int) d.r.length 0 [] = (rwR P (a + 2 + mwN d.b.toNat) d.r, 0, 0) := hG
  rw [hG2]
  unfold bsF
  rw [if_neg (by simp)]
  dsimp only
  have hpr : (⟨(a : Int), d.b, mapL d.b.toNat d.r, prE ((a + 2 + mwN d.b.toNat : Nat) : Int) (rwR P (a + 2 + mwN d.b.toNat) d.r)⟩ : PB) = bkN P a d := by
    unfold bkN
    rw [pr_runs]
  rw [hpr, hs]
  have hnx : ((a + 2 + mwN d.b.toNat : Nat) : Int) + ((d.r.length : Nat) : Int) = ((a + szN d : Nat) : Int) := by rw [hsz]; push_cast; omega
  rw [hnx]
  have hw : (((a + szN d : Nat) : Int) < wds l) ↔ 0 < z.length := by
    unfold wds; rw [hlen]; omega
  by_cases hz0 : 0 < z.length
  · rw [if_pos (hw.2 hz0), if_pos hz0]
  · rw [if_neg (fun q => hz0 (hw.1 q)), if_neg hz0]
def bksN (L : List Nde) (P : List Int) : Nat → List Int → List PB
  | _, [] => []
  | a, k :: o => bkN P a (L.getD k.toNat ⟨0, []⟩) :: bksN L P (a + szN (L.getD k.toNat ⟨0, []⟩)) o
theorem bsG_nodes {L : List Nde} {P : List Int} (hN : ∀ (k : Nat) (d : Nde), L[k]? = some d → d.b ≠ 0 ∧ sumW (mapL d.b.toNat d.r) (mapL d.b.toNat d.r).length = d.r.length ∧ Adj (d.r.map (eR P))) : ∀ (o : List Int) (p : List Nat) (a f : Nat) (B : List PB), p.length = 4 * a → LayOk L P a o → o ≠ [] → o.length ≤ f → bsG (p ++ lyB L P a o) f a B = (B ++ bksN L P a o, 0, 0)
  | [], p, a, f, B, hp, h, h0, hf => absurd rfl h0
  | k :: o, p, a, 0, B, hp, h, h0, hf => by simp at hf
  | k :: o, p, a, f + 1, B, hp, h, h0, hf => by
    obtain ⟨⟨d, h1, h2, h3⟩, h4⟩ := h
    have e : L.getD k.toNat ⟨0, []⟩ = d := by rw [List.getD_eq_getElem?_getD, h1]; rfl
    obtain ⟨n1, n2, n3⟩ := hN _ d h1
    have hl : p ++ lyB L P a (k :: o) = p ++ ndB P a d ++ lyB L P (a + szN d) o := by
      show p ++ (ndB P a (L.getD k.toNat ⟨0, []⟩) ++ lyB L P (a + szN (L.getD k.toNat ⟨0, []⟩)) o) = _
      rw [e, List.append_assoc]
    rw [e] at h4
    have hll := lyB_len h4
    have hbk : bksN L P a (k :: o) = bkN P a d :: bksN L P (a + szN d) o := by
      show bkN P a (L.getD k.toNat ⟨0, []⟩) :: bksN L P (a + szN (L.getD k.toNat ⟨0, []⟩)) o = _
      rw [e]
    rw [hl, hbk, bsG_node P d p _ a hp h3 n1 n2 n3 f B (by rw [hll]; omega)]
    by_cases ho : o = []
    · subst ho
      rw [if_neg (by rw [hll]; simp [wsum])]
      rfl
    · have hpos : 0 < wsum L o := by
        cases o with
        | nil => exact absurd rfl ho
        | cons x t =>
          show 0 < szN _ + wsum L t
          have := sz_pos (L.getD x.toNat ⟨0, []⟩)
          omega
      rw [if_pos (by rw [hll]; omega)]
      rw [bsG_nodes hN o (p ++ ndB P a d) (a + szN d) f _ (by rw [List.length_append, hp, ndB_len h3]; omega) h4 ho (by simpa using hf)]
      rw [List.append_assoc]; rfl
end Go.Proofs.Ytdpmhpmnkollaaa
namespace Go.Proofs.Ytdpmhpmnkollaaa
open Go.RowKit
set_option linter.unusedSimpArgs false
set_option linter.unusedVariables false

def ndAt (L : List Nde) (k : Nat) : Nde := L.getD k ⟨0, []⟩
def tabW (L : List Nde) : Nat → Prs
  | 0 => List.replicate L.length (0, 0)
  | i + 1 => (kidL (ndAt L i).r).foldl (upR (((tabW L i).getD i (0, 0)).1 + (ndAt L i).b) (((tabW L i).getD i (0, 0)).2 + min 1 (ndAt L i).b)) (tabW L i)
def valW (L : List Nde) (k : Nat) : Int × Int := (tabW L k).getD k (0, 0)
def edgW (L : List Nde) (p k : Nat) : Prop := (k : Int) ∈ kidL (ndAt L p).r
theorem tabW_succ (L : List Nde) (i : Nat) : tabW L (i + 1) = (kidL (ndAt L i).r).foldl (upR ((valW L i).1 + (ndAt L i).b) ((valW L i).2 + min 1 (ndAt L i).b)) (tabW L i) := rfl
theorem upR_len (b m : Int) (T : Prs) (x : Int) : (upR b m T x).length = T.length := by unfold upR; rw [List.length_set]
theorem foldR_len (b m : Int) : ∀ (ks : List Int) (T : Prs), (ks.foldl (upR b m) T).length = T.length
  | [], T => rfl
  | x :: t, T => by rw [List.foldl_cons, foldR_len b m t, upR_len]
theorem tabW_len (L : List Nde) : ∀ i, (tabW L i).length = L.length
  | 0 => by show (List.replicate _ _).length = _; rw [List.length_replicate]
  | i + 1 => by rw [tabW_succ, foldR_len, tabW_len L i]
theorem setR_getD (A : Prs) (k i : Nat) (v : Int × Int) : (A.set k v).getD i (0, 0) = if k = i ∧ k < A.length then v else A.getD i (0, 0) := by
  rw [List.getD_eq_getElem?_getD, List.getElem?_set, List.getD_eq_getElem?_getD]
  by_cases c : k = i
  · subst c
    by_cases d : k < A.length
    · rw [if_pos rfl, if_pos d, if_pos ⟨rfl, d⟩]; rfl
    · rw [if_pos rfl, if_neg d, if_neg (fun q => d q.2), List.getElem?_eq_none (by omega)]
  · rw [if_neg c, if_neg (fun q => c q.1)]
theorem foldR_at (b m : Int) (k : Nat) : ∀ (ks : List Int) (T : Prs), k < T.length → (∀ x ∈ ks, 0 ≤ x) → (ks.foldl (upR b m) T).getD k (0, 0) = if (k : Int) ∈ ks then (max (T.getD k (0, 0)).1 b, max (T.getD k (0, 0)).2 m) else T.getD k (0, 0)
  | [], T, hk, _ => by rw [if_neg (by simp)]; rfl
  | x :: t, T, hk, hx => by
    have hx0 := hx x (by simp)
    rw [List.foldl_cons, foldR_at b m k t _ (by rw [upR_len]; exact hk) (fun y hy => hx y (by simp [hy]))]
    have hu : (upR b m T x).getD k (0, 0) = if x = (k : Int) then (max (T.getD k (0, 0)).1 b, max (T.getD k (0, 0)).2 m) else T.getD k (0, 0) := by
      unfold upR
      rw [setR_getD]
      by_cases c : x = (k : Int)
      · subst c
        rw [Int.toNat_natCast, if_pos ⟨rfl, hk⟩, if_pos rfl]
      · rw [if_neg (fun q => c (by omega)), if_neg c]
    rw [hu]
    by_cases c : x = (k : Int)
    · rw [if_pos c, if_pos (show (k : Int) ∈ x :: t by rw [c]; simp)]
      split
      · dsimp only
        congr 1 <;> omega
      · rfl
    · rw [if_neg c]
      by_cases d : (k : Int) ∈ t
      · rw [if_pos d, if_pos (by simp [d])]
      · rw [if_neg d, if_neg (by
          intro q
          rcases List.mem_cons.mp q with q | q
          · exact c q.symm
          · exact d q)]
structure IsP (L : List Nde) (i k : Nat) (v : Int × Int) : Prop where
  u : ∀ p, p < i → edgW L p k → (valW L p).1 + (ndAt L p).b ≤ v.1 ∧ (valW L p).2 + min 1 (ndAt L p).b ≤ v.2
  z : 0 ≤ v.1 ∧ 0 ≤ v.2
  a1 : v.1 = 0 ∨ ∃ p, p < i ∧ edgW L p k ∧ v.1 = (valW L p).1 + (ndAt L p).b
  a2 : v.2 = 0 ∨ ∃ p, p < i ∧ edgW L p k ∧ v.2 = (valW L p).2 + min 1 (ndAt L p).b
theorem tab_part (L : List Nde) (h0 : ∀ p, ∀ x ∈ kidL (ndAt L p).r, 0 ≤ x) (k : Nat) (hk : k < L.length) : ∀ i, IsP L i k ((tabW L i).getD k (0, 0))
  | 0 => by
    have e : (tabW L 0).getD k (0, 0) = (0, 0) := by
      show (List.replicate L.length ((0 : Int), (0 : Int))).getD k (0, 0) = _
      rw [List.getD_eq_getElem?_getD, List.getElem?_replicate]
      split <;> rfl
    rw [e]
    exact ⟨fun p hp => by omega, ⟨Int.le_refl _, Int.le_refl _⟩, .inl rfl, .inl rfl⟩
  | i + 1 => by
    have ih := tab_part L h0 k hk i
    have e := foldR_at ((valW L i).1 + (ndAt L i).b) ((valW L i).2 + min 1 (ndAt L i).b) k (kidL (ndAt L i).r) (tabW L i) (by rw [tabW_len]; exact hk) (h0 i)
    rw [← tabW_succ] at e
    rw [e]
    obtain ⟨u, z, a1, a2⟩ := ih
    by_cases c : (k : Int) ∈ kidL (ndAt L i).r
    · rw [if_pos c]
      refine ⟨fun p hp he => ?_, ⟨by dsimp only; omega, by dsimp only; omega⟩, ?_, ?_⟩
      · by_cases q : p = i
        · subst q
          exact ⟨Int.le_max_right _ _, Int.le_max_right _ _⟩
        · have := u p (by omega) he
          dsimp only
          omega
      · dsimp only
        by_cases q : ((tabW L i).getD k (0, 0)).1 ≤ (valW L i).1 + (ndAt L i).b
        · right
          exact ⟨i, by omega, c, by omega⟩
        · rcases a1 with r | ⟨p, p1, p2, p3⟩
          · left; omega
          · right; exact ⟨p, by omega, p2, by omega⟩
      · dsimp only
        by_cases q : ((tabW L i).getD k (0, 0)).2 ≤ (valW L i).2 + min 1 (ndAt L i).b
        · right
          exact ⟨i, by omega, c, by omega⟩
        · rcases a2 with r | ⟨p, p1, p2, p3⟩
          · left; omega
          · right; exact ⟨p, by omega, p2, by omega⟩
    · rw [if_neg c]
      refine ⟨fun p hp he => ?_, z, ?_, ?_⟩
      · by_cases q : p = i
        · subst q
          exact absurd he c
        · exact u p (by omega) he
      · rcases a1 with r | ⟨p, p1, p2, p3⟩
        · exact .inl r
        · exact .inr ⟨p, by omega, p2, p3⟩
      · rcases a2 with r | ⟨p, p1, p2, p3⟩
        · exact .inl r
        · exact .inr ⟨p, by omega, p2, p3⟩
theorem val_is (L : List Nde) (h0 : ∀ p, ∀ x ∈ kidL (ndAt L p).r, 0 ≤ x) (k : Nat) (hk : k < L.length) : IsP L k k (valW L k) := tab_part L h0 k hk k
structure Ren (L M : List Nde) (o : Nat → Nat) : Prop where
  n : M.length = L.length
  i : ∀ j, j < M.length → o j < L.length
  s : ∀ k, k < L.length → ∃ j, j < M.length ∧ o j = k
  b : ∀ j, j < M.length → (ndAt M j).b = (ndAt L (o j)).b
  e : ∀ i j, i < M.length → j < M.length → (edgW M i j ↔ edgW L (o i) (o j))
  fm : ∀ i j, i < M.length → j < M.length → edgW M i j → i < j
  fl : ∀ p k, p < L.length → k < L.length → edgW L p k → p < k
  zm : ∀ p, ∀ x ∈ kidL (ndAt M p).r, 0 ≤ x
  zl : ∀ p, ∀ x ∈ kidL (ndAt L p).r, 0 ≤ x
theorem Ren.val {L M : List Nde} {o : Nat → Nat} (h : Ren L M o) : ∀ j, j < M.length → valW M j = valW L (o j) := by
  intro j
  induction j using Nat.strongRecOn with
  | ind j ih =>
    intro hj
    have hoj := h.i j hj
    obtain ⟨u, z, a1, a2⟩ := val_is M h.zm j hj
    obtain ⟨u', z', a1', a2'⟩ := val_is L h.zl (o j) hoj
    have f1 : ∀ i, i < j → edgW M i j → edgW L (o i) (o j) ∧ o i < o j ∧ valW M i = valW L (o i) ∧ (ndAt M i).b = (ndAt L (o i)).b := fun i hi he => by
      have hi2 : i < M.length := by omega
      have := (h.e i j hi2 hj).mp he
      exact ⟨this, h.fl _ _ (h.i i hi2) hoj this, ih i hi hi2, h.b i hi2⟩
    have f2 : ∀ p, p < o j → edgW L p (o j) → ∃ i, i < j ∧ edgW M i j ∧ valW M i = valW L p ∧ (ndAt M i).b = (ndAt L p).b := fun p hp he => by
      obtain ⟨i, hi, rfl⟩ := h.s p (by omega)
      have he2 := (h.e i j hi hj).mpr he
      have hlt := h.fm i j hi hj he2
      exact ⟨i, hlt, he2, ih i hlt hi, h.b i hi⟩
    have e1 : (valW M j).1 = (valW L (o j)).1 := by
      apply Int.le_antisymm
      · rcases a1 with q | ⟨p, p1, p2, p3⟩
        · omega
        · obtain ⟨g1, g2, g3, g4⟩ := f1 p p1 p2
          have := (u' (o p) g2 g1).1
          rw [p3, g3, g4]; exact this
      · rcases a1' with q | ⟨p, p1, p2, p3⟩
        · omega
        · obtain ⟨i, g1, g2, g3, g4⟩ := f2 p p1 p2
          have := (u i g1 g2).1
          rw [g3, g4] at this
          omega
    have e2 : (valW M j).2 = (valW L (o j)).2 := by
      apply Int.le_antisymm
      · rcases a2 with q | ⟨p, p1, p2, p3⟩
        · omega
        · obtain ⟨g1, g2, g3, g4⟩ := f1 p p1 p2
          have := (u' (o p) g2 g1).2
          rw [p3, g3, g4]; exact this
      · rcases a2' with q | ⟨p, p1, p2, p3⟩
        · omega
        · obtain ⟨i, g1, g2, g3, g4⟩ := f2 p p1 p2
          have := (u i g1 g2).2
          rw [g3, g4] at this
          omega
    exact Prod.ext e1 e2
theorem dp_tab (F : Int) (L : List Nde) : ∀ (n i : Nat) (d : Int), i + n = L.length →
    ((∀ k, i ≤ k → k < L.length → (valW L k).1 + (ndAt L k).b ≤ F) → (dpG F (L.drop i) i (tabW L i) d).2 = 0 ∧ d ≤ (dpG F (L.drop i) i (tabW L i) d).1 ∧ (∀ k, i ≤ k → k < L.length → (valW L k).2 + min 1 (ndAt L k).b ≤ (dpG F (L.drop i) i (tabW L i) d).1) ∧ ((dpG F (L.drop i) i (tabW L i) d).1 = d ∨ ∃ k, i ≤ k ∧ k < L.length ∧ (dpG F (L.drop i) i (tabW L i) d).1 = (valW L k).2 + min 1 (ndAt L k).b)) ∧
    ((dpG F (L.drop i) i (tabW L i) d).2 = 0 → ∀ k, i ≤ k → k < L.length → (valW L k).1 + (ndAt L k).b ≤ F)
  | 0, i, d, h => by
    rw [List.drop_of_length_le (by omega)]
    refine ⟨fun _ => ⟨rfl, Int.le_refl _, fun k h1 h2 => by omega, .inl rfl⟩, fun _ k h1 h2 => by omega⟩
  | n + 1, i, d, h => by
    have hi : i < L.length := by omega
    have hd : L[i]? = some (ndAt L i) := by unfold ndAt; rw [List.getD_eq_getElem?_getD, List.getElem?_eq_getElem hi]; rfl
    have ih := dp_tab F L n (i + 1) (max d ((valW L i).2 + min 1 (ndAt L i).b)) (by omega)
    have e := dp_drop F L i (ndAt L i) hd (tabW L i) d
    have e' : dpG F (L.drop i) i (tabW L i) d = if F < (valW L i).1 + (ndAt L i).b then (0, 27) else dpG F (L.drop (i + 1)) (i + 1) (tabW L (i + 1)) (max d ((valW L i).2 + min 1 (ndAt L i).b)) := e
    rw [e']
    obtain ⟨ih1, ih2⟩ := ih
    refine ⟨fun hall => ?_, fun h0 => ?_⟩
    · have hi0 := hall i (Nat.le_refl _) hi
      rw [if_neg (by omega)]
      obtain ⟨g1, g2, g3, g4⟩ := ih1 (fun k h1 h2 => hall k (by omega) h2)
      refine ⟨g1, by clear g4; omega, fun k h1 h2 => ?_, ?_⟩
      · by_cases q : k = i
        · subst q
          clear g4 g3 ih1 ih2
          omega
        · exact g3 k (by omega) h2
      · rcases g4 with q | ⟨k, k1, k2, k3⟩
        · by_cases r : d ≤ (valW L i).2 + min 1 (ndAt L i).b
          · right; exact ⟨i, Nat.le_refl _, hi, by rw [q]; omega⟩
          · left; rw [q]; omega
        · right; exact ⟨k, by omega, k2, k3⟩
    · by_cases c : F < (valW L i).1 + (ndAt L i).b
      · rw [if_pos c] at h0; exact absurd h0 (by decide)
      · rw [if_neg c] at h0
        intro k h1 h2
        by_cases q : k = i
        · subst q; omega
        · exact ih2 h0 k (by omega) h2
theorem Ren.deep {L M : List Nde} {o : Nat → Nat} (h : Ren L M o) (F : Int) (h0 : (deepR F L).2 = 0) : deepR F M = deepR F L := by
  obtain ⟨l1, l2⟩ := dp_tab F L L.length 0 0 (by omega)
  obtain ⟨m1, m2⟩ := dp_tab F M M.length 0 0 (by omega)
  have eL : dpG F (L.drop 0) 0 (tabW L 0) 0 = deepR F L := rfl
  have eM : dpG F (M.drop 0) 0 (tabW M 0) 0 = deepR F M := rfl
  rw [eL] at l1 l2
  rw [eM] at m1 m2
  have hL := l2 h0
  obtain ⟨a1, a2, a3, a4⟩ := l1 hL
  obtain ⟨b1, b2, b3, b4⟩ := m1 (fun j _ hj => by
    rw [h.val j hj, h.b j hj]
    exact hL (o j) (Nat.zero_le _) (h.i j hj))
  have e1 : (deepR F M).1 = (deepR F L).1 := by
    apply Int.le_antisymm
    · rcases b4 with q | ⟨j, -, j2, j3⟩
      · omega
      · rw [j3, h.val j j2, h.b j j2]
        exact a3 (o j) (Nat.zero_le _) (h.i j j2)
    · rcases a4 with q | ⟨k, -, k2, k3⟩
      · omega
      · obtain ⟨j, hj, rfl⟩ := h.s k k2
        have := b3 j (Nat.zero_le _) hj
        rw [h.val j hj, h.b j hj] at this
        omega
  exact Prod.ext e1 (by rw [b1, h0])
end Go.Proofs.Ytdpmhpmnkollaaa
namespace Go.Proofs.Ytdpmhpmnkollaaa
open Go.RowKit
set_option linter.unusedSimpArgs false
set_option linter.unusedVariables false

structure Emt (L : List Nde) (P o : List Int) : Prop where
  ok : NdsOk L
  nd : o.Nodup
  all : ∀ z : Nat, z < L.length → (z : Int) ∈ o
  mem : ∀ x ∈ o, 0 ≤ x ∧ x.toNat < L.length
  z : o[0]? = some 0
  at' : ∀ (i : Nat) (x : Int), o[i]? = some x → P.getD x.toNat 0 = ((wsum L (o.take i) : Nat) : Int)
  lay : LayOk L P 0 o
  bits : ∀ d ∈ L, 1 ≤ d.b ∧ d.b ≤ 24
  od : OrdOk L o
  n : o.length = L.length
def qsN (L : List Nde) (P o : List Int) : List Int := (bksN L P 0 o).map PB.a
theorem bks_at (L : List Nde) (P : List Int) : ∀ (o : List Int) (a i : Nat) (x : Int), o[i]? = some x → (bksN L P a o)[i]? = some (bkN P (a + wsum L (o.take i)) (L.getD x.toNat ⟨0, []⟩))
  | [], a, i, x, h => by simp at h
  | k :: o, a, 0, x, h => by
    simp at h
    subst h
    rfl
  | k :: o, a, i + 1, x, h => by
    have := bks_at L P o (a + szN (L.getD k.toNat ⟨0, []⟩)) i x (by simpa using h)
    show (bksN L P (a + szN (L.getD k.toNat ⟨0, []⟩)) o)[i]? = _
    rw [this, List.take_succ_cons]
    show _ = some (bkN P (a + (szN (L.getD k.toNat ⟨0, []⟩) + wsum L (o.take i))) _)
    rw [Nat.add_assoc]
theorem bks_len (L : List Nde) (P : List Int) : ∀ (o : List Int) (a : Nat), (bksN L P a o).length = o.length
  | [], a => rfl
  | k :: o, a => by
    show (bksN L P (a + szN (L.getD k.toNat ⟨0, []⟩)) o).length + 1 = _
    rw [bks_len L P o]; rfl
theorem qs_at (L : List Nde) (P o : List Int) (i : Nat) (x : Int) (h : o[i]? = some x) : (qsN L P o)[i]? = some ((wsum L (o.take i) : Nat) : Int) := by
  unfold qsN
  rw [List.getElem?_map, bks_at L P o 0 i x h, Nat.zero_add]; rfl
theorem wsum_rise (L : List Nde) (o : List Int) (i j : Nat) (h : i < j) (hj : j ≤ o.length) : wsum L (o.take i) < wsum L (o.take j) := by
  have e : o.take j = o.take i ++ (o.drop i).take (j - i) := by
    rw [show j = i + (j - i) by omega, List.take_add]
    rw [show i + (j - i) - i = j - i by omega]
  rw [e, wsum_app]
  have : 0 < ((o.drop i).take (j - i)).length := by rw [List.length_take, List.length_drop]; omega
  cases hc : (o.drop i).take (j - i) with
  | nil => rw [hc] at this; simp at this
  | cons x t =>
    show _ < _ + (szN (L.getD x.toNat ⟨0, []⟩) + wsum L t)
    have := sz_pos (L.getD x.toNat ⟨0, []⟩)
    omega
theorem qs_rise (L : List Nde) (P o : List Int) : (qsN L P o).Pairwise (· < ·) := by
  have hl : (qsN L P o).length = o.length := by unfold qsN; rw [List.length_map, bks_len]
  rw [List.pairwise_iff_getElem]
  intro i j hi hj hij
  have h1 := qs_at L P o i o[i] (List.getElem?_eq_getElem (by omega))
  have h2 := qs_at L P o j o[j] (List.getElem?_eq_getElem (by omega))
  have h3 := (List.getElem?_eq_some_iff.mp h1).2
  have h4 := (List.getElem?_eq_some_iff.mp h2).2
  rw [h3, h4]
  have := wsum_rise L o i j hij (by omega)
  omega
def posN (L : List Nde) (P o : List Int) (x : Int) : Int := fnB (qsN L P o) (P.getD x.toNat 0)
theorem Emt.pos {L : List Nde} {P o : List Int} (h : Emt L P o) {i : Nat} {x : Int} (hx : o[i]? = some x) : posN L P o x = (i : Int) := by
  unfold posN
  rw [h.at' i x hx]
  exact fnB_at (qs_rise L P o) (qs_at L P o i x hx)
theorem Emt.inj {L : List Nde} {P o : List Int} (h : Emt L P o) {x y : Int} (hx : x ∈ o) (hy : y ∈ o) (e : P.getD x.toNat 0 = P.getD y.toNat 0) : x = y := by
  obtain ⟨i, hi⟩ := List.getElem?_of_mem hx
  obtain ⟨j, hj⟩ := List.getElem?_of_mem hy
  have h1 := h.pos hi
  have h2 := h.pos hj
  unfold posN at h1 h2
  rw [e, h2] at h1
  have : j = i := by omega
  subst this
  rw [hi] at hj
  exact Option.some.inj hj
theorem adj_sm : ∀ (l : List Rn), adjG l = true → ∀ (j : Nat) (a b : Rn), l[j]? = some a → l[j + 1]? = some b → smR a b = false
  | [], _, j, a, b, h, _ => by simp at h
  | [x], _, j, a, b, _, h => by simp at h
  | x :: y :: t, hG, 0, a, b, ha, hb => by
    simp at ha hb
    subst ha hb
    unfold adjG at hG
    simp only [Bool.and_eq_true, Bool.not_eq_true'] at hG
    exact hG.1.2
  | x :: y :: t, hG, j + 1, a, b, ha, hb => by
    unfold adjG at hG
    simp only [Bool.and_eq_true] at hG
    exact adj_sm (y :: t) hG.2 j a b (by simpa using ha) (by simpa using hb)
theorem io_adj {d : Nde} (h : ioB d = true) : adjG d.r = true := by
  unfold ioB at h
  split at h
  · simp only [Bool.and_eq_true] at h
    exact h.2.1
  · cases h
theorem Emt.kid {L : List Nde} {P o : List Int} (h : Emt L P o) {k : Nat} {d : Nde} (hd : L[k]? = some d) {r : Rn} (hr : r ∈ d.r) (hk : r.k = true) : r.n ∈ o ∧ (k : Int) < r.n ∧ r.n < L.length := by
  have := (h.ok.2 k d hd).kid r hr hk
  have h2 := h.all r.n.toNat (by omega)
  rw [show ((r.n.toNat : Nat) : Int) = r.n by omega] at h2
  exact ⟨h2, this⟩
theorem Emt.adj {L : List Nde} {P o : List Int} (h : Emt L P o) {k : Nat} {d : Nde} (hd : L[k]? = some d) : Adj (d.r.map (eR P)) := by
  have hG := io_adj (h.ok.2 k d hd).io
  intro j x y hx hy
  rw [List.getElem?_map] at hx hy
  cases ha : d.r[j]? with
  | none => rw [ha] at hx; cases hx
  | some a =>
    cases hb : d.r[j + 1]? with
    | none => rw [hb] at hy; cases hy
    | some b =>
      rw [ha] at hx
      rw [hb] at hy
      injection hx with hx
      injection hy with hy
      subst hx hy
      have hs := adj_sm d.r hG j a b ha hb
      have ka := fun q => h.kid hd (List.mem_of_getElem? ha) q
      have kb := fun q => h.kid hd (List.mem_of_getElem? hb) q
      obtain ⟨af, ak, an⟩ := a
      obtain ⟨bf, bk, bn⟩ := b
      unfold smR at hs
      unfold eR
      dsimp only at hs ka kb ⊢
      cases ak <;> cases bk <;> simp only [if_true, Bool.false_eq_true, if_false]
      · intro q
        injection q with _ q
        subst q
        simp at hs
      · intro q; injection q with q; cases q
      · intro q; injection q with q; cases q
      · intro q
        injection q with _ q
        have := h.inj (ka rfl).1 (kb rfl).1 q
        subst this
        simp at hs
theorem two_mw (n : Nat) : 2 ^ n ≤ 32 * mwN n := by
  unfold mwN
  split
  · have : 2 ^ n ≤ 2 ^ 4 := Nat.pow_le_pow_right (by decide) (by omega)
    omega
  · rw [show (32 : Nat) = 2 ^ 5 by decide, ← Nat.pow_add, show 5 + (n - 5) = n by omega]
    exact Nat.le_refl _
theorem Emt.froms {L : List Nde} {P o : List Int} (h : Emt L P o) {k : Nat} {d : Nde} (hd : L[k]? = some d) : (∀ r ∈ d.r, r.f.toNat < 32 * mwN d.b.toNat) ∧ (d.r.map fun r => (r.f.toNat : Int)).Pairwise (· < ·) := by
  have io := io_ok (h.ok.2 k d hd).io
  refine ⟨fun r hr => Nat.lt_of_lt_of_le (io.lt r hr) (two_mw _), ?_⟩
  rw [List.pairwise_iff_getElem]
  intro i j hi hj hij
  rw [List.length_map] at hi hj
  rw [List.getElem_map, List.getElem_map]
  have := io.rise i j d.r[i] d.r[j] hij (List.getElem?_eq_getElem hi) (List.getElem?_eq_getElem hj)
  omega
end Go.Proofs.Ytdpmhpmnkollaaa
namespace Go.Proofs.Ytdpmhpmnkollaaa
open Go.RowKit
set_option linter.unusedSimpArgs false
set_option linter.unusedVariables false

def fN (L : List Nde) (P o : List Int) (r : Rn) : Bool × Int := if r.k then (true, posN L P o r.n) else (false, r.n)
theorem lk_eR (L : List Nde) (P o : List Int) (r : Rn) : lkX (qsN L P o) (eR P r) = fN L P o r := by
  unfold eR fN lkX posN
  cases r.k <;> rfl
def rnM (L : List Nde) (P o : List Int) (r : Rn) : Rn := ⟨r.f, (fN L P o r).1, (fN L P o r).2⟩
def numL (L : List Nde) (P o : List Int) : List Nde := o.map fun x => ⟨(L.getD x.toNat ⟨0, []⟩).b, (L.getD x.toNat ⟨0, []⟩).r.map (rnM L P o)⟩
def lnkP (L : List Nde) (P o : List Int) : List PB := (bksN L P 0 o).map (lkB (qsN L P o))
theorem lnk_len (L : List Nde) (P o : List Int) : (lnkP L P o).length = o.length := by unfold lnkP; rw [List.length_map, bks_len]
theorem Emt.nde {L : List Nde} {P o : List Int} (h : Emt L P o) {i : Nat} {x : Int} (hx : o[i]? = some x) : ∃ d, L[x.toNat]? = some d ∧ L.getD x.toNat ⟨0, []⟩ = d := by
  have := (h.mem x (List.mem_of_getElem? hx)).2
  exact ⟨L[x.toNat], List.getElem?_eq_getElem this, by rw [List.getD_eq_getElem?_getD, List.getElem?_eq_getElem this]; rfl⟩
theorem Emt.lnk {L : List Nde} {P o : List Int} (h : Emt L P o) {i : Nat} {x : Int} {d : Nde} (hx : o[i]? = some x) (hd : L.getD x.toNat ⟨0, []⟩ = d) : (lnkP L P o)[i]? = some ⟨((wsum L (o.take i) : Nat) : Int), d.b, mapL d.b.toNat d.r, d.r.map (fN L P o)⟩ := by
  unfold lnkP
  rw [List.getElem?_map, bks_at L P o 0 i x hx, hd, Nat.zero_add]
  show some (lkB (qsN L P o) (bkN P _ d)) = _
  unfold lkB bkN
  dsimp only
  rw [List.map_map]
  have : (lkX (qsN L P o) ∘ eR P) = fN L P o := funext fun r => lk_eR L P o r
  rw [this]
theorem Emt.tree {L : List Nde} {P o : List Int} (h : Emt L P o) : ndsL (lnkP L P o) = numL L P o := by
  apply List.ext_getElem?
  intro i
  unfold ndsL numL
  rw [List.getElem?_map, List.getElem?_map]
  cases hx : o[i]? with
  | none =>
    have h1 : o.length ≤ i := List.getElem?_eq_none_iff.mp hx
    rw [List.getElem?_eq_none (by rw [lnk_len]; exact h1)]
    rfl
  | some x =>
    obtain ⟨d, hd, hd2⟩ := h.nde hx
    obtain ⟨f1, f2⟩ := h.froms hd
    have hb := h.bits d (List.mem_of_getElem? hd)
    rw [h.lnk hx hd2]
    show some (⟨d.b, runsV (mapL d.b.toNat d.r) (d.r.map (fN L P o))⟩ : Nde) = some ⟨(L.getD x.toNat ⟨0, []⟩).b, (L.getD x.toNat ⟨0, []⟩).r.map (rnM L P o)⟩
    rw [hd2, runs_map d.b.toNat d.r (fN L P o) f1 (by omega) f2]
    rfl
theorem lkI_all (qs : List Int) : ∀ (es : List (Bool × Int)) (p : Int), (∀ e ∈ es, e.1 = true → fnB qs e.2 ≠ -1) → lkI qs p es = none
  | [], p, _ => rfl
  | e :: t, p, h => by
    unfold lkI
    rw [if_neg (fun q => h e (by simp) q.1 q.2)]
    exact lkI_all qs t _ (fun x hx => h x (by simp [hx]))
theorem lkA_all (qs : List Int) : ∀ (B : List PB), (∀ b ∈ B, ∀ e ∈ b.es, e.1 = true → fnB qs e.2 ≠ -1) → lkA qs B = none
  | [], _ => rfl
  | b :: t, h => by
    unfold lkA
    rw [lkI_all qs b.es _ (fun e he => h b (by simp) e he)]
    exact lkA_all qs t (fun x hx => h x (by simp [hx]))
theorem Emt.link {L : List Nde} {P o : List Int} (h : Emt L P o) : lkA (qsN L P o) (bksN L P 0 o) = none := by
  refine lkA_all _ _ (fun b hb e he hk => ?_)
  obtain ⟨i, hi⟩ := List.getElem?_of_mem hb
  have hil := (List.getElem?_eq_some_iff.mp hi).1
  rw [bks_len] at hil
  have hx : o[i]? = some o[i] := List.getElem?_eq_getElem hil
  obtain ⟨d, hd, hd2⟩ := h.nde hx
  rw [bks_at L P o 0 i _ hx, hd2] at hi
  injection hi with hi
  subst hi
  have he' : e ∈ d.r.map (eR P) := he
  obtain ⟨r, hr, rfl⟩ := List.mem_map.mp he'
  have hrk : r.k = true := by
    unfold eR at hk
    cases c : r.k with
    | true => rfl
    | false => rw [c] at hk; exact absurd hk (by simp)
  obtain ⟨j, hj⟩ := List.getElem?_of_mem (h.kid hd hr hrk).1
  have hp := h.pos hj
  unfold posN at hp
  have : (eR P r).2 = P.getD r.n.toNat 0 := by unfold eR; rw [hrk]; rfl
  rw [this, hp]
  omega
theorem mkX_keep (s : List Bool) (e : Bool × Int) (k : Nat) (h : s.getD k false = true) : (mkX s e).getD k false = true := by
  unfold mkX
  split
  · rw [List.getD_eq_getElem?_getD, List.getElem?_set]
    rw [List.getD_eq_getElem?_getD] at h
    by_cases c : e.2.toNat = k
    · subst c
      rw [if_pos rfl]
      split
      · rfl
      · rename_i hn
        rw [List.getElem?_eq_none (by omega)] at h
        exact absurd h (by decide)
    · rw [if_neg c]; exact h
  · exact h
theorem mkF_keep : ∀ (es : List (Bool × Int)) (s : List Bool) (k : Nat), s.getD k false = true → (es.foldl mkX s).getD k false = true
  | [], s, k, h => h
  | e :: t, s, k, h => by rw [List.foldl_cons]; exact mkF_keep t _ k (mkX_keep s e k h)
theorem mkF_mark : ∀ (es : List (Bool × Int)) (s : List Bool) (k : Nat), k < s.length → (true, (k : Int)) ∈ es → (es.foldl mkX s).getD k false = true
  | [], s, k, hk, h => by cases h
  | e :: t, s, k, hk, h => by
    rw [List.foldl_cons]
    rcases List.mem_cons.mp h with q | q
    · refine mkF_keep t _ k ?_
      rw [← q]
      unfold mkX
      rw [if_pos rfl, Int.toNat_natCast, List.getD_eq_getElem?_getD, List.getElem?_set, if_pos rfl, if_pos hk]
      rfl
    · exact mkF_mark t _ k (by rw [mkX_len]; exact hk) q
theorem mkA_keep : ∀ (B : List PB) (s : List Bool) (k : Nat), s.getD k false = true → (B.foldl mkB s).getD k false = true
  | [], s, k, h => h
  | b :: t, s, k, h => by rw [List.foldl_cons]; exact mkA_keep t _ k (mkF_keep b.es s k h)
theorem mkA_mark : ∀ (B : List PB) (s : List Bool) (k : Nat), k < s.length → (∃ b ∈ B, (true, (k : Int)) ∈ b.es) → (B.foldl mkB s).getD k false = true
  | [], s, k, hk, ⟨b, hb, _⟩ => by cases hb
  | c :: t, s, k, hk, ⟨b, hb, he⟩ => by
    rw [List.foldl_cons]
    rcases List.mem_cons.mp hb with rfl | q
    · exact mkA_keep t _ k (mkF_mark b.es s k hk he)
    · exact mkA_mark t _ k (by show k < (c.es.foldl mkX s).length; rw [mkF_len18]; exact hk) ⟨b, q, he⟩
theorem Emt.used {L : List Nde} {P o : List Int} (h : Emt L P o) (hu : usedB L = true) : usR (lnkP L P o) = (0, 0) := by
  refine usR_no (fun k h1 h2 => ?_)
  rw [lnk_len] at h2
  refine mkA_mark _ _ k (by rw [List.length_replicate, lnk_len]; exact h2) ?_
  have hx : o[k]? = some o[k] := List.getElem?_eq_getElem h2
  have hm := h.mem o[k] (List.getElem_mem h2)
  have hz : o[k] ≠ 0 := by
    intro q
    have h0 := h.pos h.z
    have hk := h.pos hx
    rw [q, h0] at hk
    omega
  obtain ⟨n, d, r, hd, hr, hrk, hrn, hlt⟩ := used_lead h.ok hu o[k].toNat (by omega) hm.2
  obtain ⟨i, hi⟩ := List.getElem?_of_mem (h.all n (List.getElem?_eq_some_iff.mp hd).1)
  have hd2 : L.getD ((n : Int)).toNat ⟨0, []⟩ = d := by rw [Int.toNat_natCast, List.getD_eq_getElem?_getD, hd]; rfl
  refine ⟨_, List.mem_of_getElem? (h.lnk hi hd2), ?_⟩
  dsimp only
  refine List.mem_map.mpr ⟨r, hr, ?_⟩
  unfold fN
  rw [if_pos hrk]
  have : r.n = o[k] := by omega
  rw [this, h.pos hx]
theorem kid_ren (L : List Nde) (P o : List Int) : ∀ (l : List Rn), kidL (l.map (rnM L P o)) = (kidL l).map (posN L P o)
  | [] => rfl
  | r :: t => by
    have ih := kid_ren L P o t
    unfold kidL at ih ⊢
    rw [List.map_cons, List.filter_cons, List.filter_cons]
    cases c : r.k with
    | true =>
      have e : rnM L P o r = ⟨r.f, true, posN L P o r.n⟩ := by unfold rnM fN; rw [c]; rfl
      rw [e]
      dsimp only
      rw [if_pos rfl, if_pos rfl, List.map_cons, List.map_cons, List.map_cons, ih]
    | false =>
      have e : rnM L P o r = ⟨r.f, false, r.n⟩ := by unfold rnM fN; rw [c]; rfl
      rw [e]
      dsimp only
      rw [if_neg (by simp), if_neg (by simp), ih]
theorem Emt.ren {L : List Nde} {P o : List Int} (h : Emt L P o) : Ren L (numL L P o) (fun j => (o.getD j 0).toNat) := by
  have hn : (numL L P o).length = o.length := by unfold numL; rw [List.length_map]
  have hat : ∀ j, j < o.length → ∃ x d, o[j]? = some x ∧ o.getD j 0 = x ∧ L[x.toNat]? = some d ∧ ndAt L x.toNat = d ∧ ndAt (numL L P o) j = ⟨d.b, d.r.map (rnM L P o)⟩ := fun j hj => by
    have hx : o[j]? = some o[j] := List.getElem?_eq_getElem hj
    obtain ⟨d, hd, hd2⟩ := h.nde hx
    refine ⟨o[j], d, hx, by rw [List.getD_eq_getElem?_getD, hx]; rfl, hd, hd2, ?_⟩
    unfold ndAt numL
    rw [List.getD_eq_getElem?_getD, List.getElem?_map, hx]
    show (⟨(L.getD o[j].toNat ⟨0, []⟩).b, (L.getD o[j].toNat ⟨0, []⟩).r.map (rnM L P o)⟩ : Nde) = _
    rw [hd2]
  have hkd : ∀ i j, i < o.length → j < o.length → (edgW (numL L P o) i j ↔ edgW L (o.getD i 0).toNat (o.getD j 0).toNat) := fun i j hi hj => by
    obtain ⟨x, d, x1, x2, x3, x4, x5⟩ := hat i hi
    obtain ⟨y, e, y1, y2, y3, y4, y5⟩ := hat j hj
    unfold edgW
    rw [x5, x2, x4, y2, kid_ren]
    have hy0 := (h.mem y (List.mem_of_getElem? y1)).1
    constructor
    · intro hm
      obtain ⟨n, hn1, hn2⟩ := List.mem_map.mp hm
      obtain ⟨r, hr, hrk, rfl⟩ := mem_kidL hn1
      obtain ⟨i', hi'⟩ := List.getElem?_of_mem (h.kid x3 hr hrk).1
      have := h.pos hi'
      have e9 : i' = j := by omega
      subst e9
      rw [hi'] at y1
      injection y1 with y1
      rw [show ((y.toNat : Nat) : Int) = y by omega, ← y1]
      exact hn1
    · intro hm
      rw [show ((y.toNat : Nat) : Int) = y by omega] at hm
      exact List.mem_map.mpr ⟨y, hm, h.pos y1⟩
  have hfl : ∀ p k, p < L.length → k < L.length → edgW L p k → p < k := fun p k hp hk he => by
    have hd : L[p]? = some (ndAt L p) := by unfold ndAt; rw [List.getD_eq_getElem?_getD, List.getElem?_eq_getElem hp]; rfl
    obtain ⟨r, hr, hrk, hrn⟩ := mem_kidL he
    have := (h.kid hd hr hrk).2.1
    omega
  refine ⟨by rw [hn, h.n], fun j hj => ?_, fun k hk => ?_, fun j hj => ?_, fun i j hi hj => hkd i j (by omega) (by omega), fun i j hi hj he => ?_, hfl, fun p x hx => ?_, fun p x hx => ?_⟩
  · obtain ⟨x, d, x1, x2, x3, x4, x5⟩ := hat j (by omega)
    show (o.getD j 0).toNat < L.length
    rw [x2]
    exact (List.getElem?_eq_some_iff.mp x3).1
  · obtain ⟨j, hj⟩ := List.getElem?_of_mem (h.all k hk)
    refine ⟨j, by rw [hn]; exact (List.getElem?_eq_some_iff.mp hj).1, ?_⟩
    show (o.getD j 0).toNat = k
    rw [List.getD_eq_getElem?_getD, hj]
    exact Int.toNat_natCast k
  · obtain ⟨x, d, x1, x2, x3, x4, x5⟩ := hat j (by omega)
    show (ndAt (numL L P o) j).b = (ndAt L (o.getD j 0).toNat).b
    rw [x5, x2, x4]
  · rw [hn] at hi hj
    have he2 := (hkd i j hi hj).mp he
    obtain ⟨x, d, x1, x2, x3, x4, x5⟩ := hat i hi
    obtain ⟨y, e, y1, y2, y3, y4, y5⟩ := hat j hj
    rw [x2, y2] at he2
    unfold edgW at he2
    rw [x4] at he2
    obtain ⟨r, hr, hrk, hrn⟩ := mem_kidL he2
    have hy0 := (h.mem y (List.mem_of_getElem? y1)).1
    have hsp : o = o.take i ++ x :: o.drop (i + 1) := by
      have h9 := (List.getElem?_eq_some_iff.mp x1)
      obtain ⟨h9a, h9b⟩ := h9
      rw [← h9b, ← List.drop_eq_getElem_cons h9a, List.take_append_drop]
    have hin := h.od.kid _ x _ hsp d r x3 hr hrk
    rw [hrn, show ((y.toNat : Nat) : Int) = y by omega] at hin
    obtain ⟨t, ht⟩ := List.getElem?_of_mem hin
    rw [List.getElem?_drop] at ht
    have p1 := h.pos ht
    have p2 := h.pos y1
    omega
  · by_cases hp : p < o.length
    · obtain ⟨y, e, y1, y2, y3, y4, y5⟩ := hat p hp
      rw [y5, kid_ren] at hx
      obtain ⟨n, hn1, rfl⟩ := List.mem_map.mp hx
      obtain ⟨r, hr, hrk, rfl⟩ := mem_kidL hn1
      obtain ⟨i', hi'⟩ := List.getElem?_of_mem (h.kid y3 hr hrk).1
      have := h.pos hi'
      omega
    · have : ndAt (numL L P o) p = ⟨0, []⟩ := by
        unfold ndAt
        rw [List.getD_eq_getElem?_getD, List.getElem?_eq_none (by omega)]; rfl
      rw [this] at hx
      cases hx
  · by_cases hp : p < L.length
    · have hd : L[p]? = some (ndAt L p) := by unfold ndAt; rw [List.getD_eq_getElem?_getD, List.getElem?_eq_getElem hp]; rfl
      obtain ⟨r, hr, hrk, hrn⟩ := mem_kidL hx
      have := (h.kid hd hr hrk).2.1
      omega
    · have : ndAt L p = ⟨0, []⟩ := by
        unfold ndAt
        rw [List.getD_eq_getElem?_getD, List.getElem?_eq_none (by omega)]; rfl
      rw [this] at hx
      cases hx
end Go.Proofs.Ytdpmhpmnkollaaa
