/-
  Part 15 of the proof: 2 texts, one behind the other.
-/
import Derived.Test.YtdpmhpmnkollaaaPart14
import Derived.Test.YtdpmhpmnkollaaaPart5
namespace Go.Proofs.Ytdpmhpmnkollaaa
open Go.RowKit
set_option linter.unusedSimpArgs false
set_option linter.unusedVariables false
attribute [local go_sem] Oper.semAt_some storeF_run18 storeN_run18

theorem arr43 (t : Array Value) (h : t.size = 43) : ∃ u : Nat → Value, (∀ i, u i = t.getD i undef) ∧ t = #[u 0, u 1, u 2, u 3, u 4, u 5, u 6, u 7, u 8, u 9, u 10, u 11, u 12, u 13, u 14, u 15, u 16, u 17, u 18, u 19, u 20, u 21, u 22, u 23, u 24, u 25, u 26, u 27, u 28, u 29, u 30, u 31, u 32, u 33, u 34, u 35, u 36, u 37, u 38, u 39, u 40, u 41, u 42] := by
  refine ⟨fun i => t.getD i undef, fun _ => rfl, ?_⟩
  obtain ⟨l⟩ := t
  have h' : l.length = 43 := h
  have e : l = (List.range 43).map (fun i => (⟨l⟩ : Array Value).getD i undef) := by
    apply List.ext_getElem
    · simp [h']
    · intro i h1 h2
      simp [Array.getD, h1]
  have e2 : (List.range 43).map (fun i => (⟨l⟩ : Array Value).getD i undef) = [(⟨l⟩ : Array Value).getD 0 undef, (⟨l⟩ : Array Value).getD 1 undef, (⟨l⟩ : Array Value).getD 2 undef, (⟨l⟩ : Array Value).getD 3 undef, (⟨l⟩ : Array Value).getD 4 undef, (⟨l⟩ : Array Value).getD 5 undef, (⟨l⟩ : Array Value).getD 6 undef, (⟨l⟩ : Array Value).getD 7 undef, (⟨l⟩ : Array Value).getD 8 undef, (⟨l⟩ : Array Value).getD 9 undef, (⟨l⟩ : Array Value).getD 10 undef, (⟨l⟩ : Array Value).getD 11 undef, (⟨l⟩ : Array Value).getD 12 undef, (⟨l⟩ : Array Value).getD 13 undef, (⟨l⟩ : Array Value).getD 14 undef, (⟨l⟩ : Array Value).getD 15 undef, (⟨l⟩ : Array Value).getD 16 undef, (⟨l⟩ : Array Value).getD 17 undef, (⟨l⟩ : Array Value).getD 18 undef, (⟨l⟩ : Array Value).getD 19 undef, (⟨l⟩ : Array Value).getD 20 undef, (⟨l⟩ : Array Value).getD 21 undef, (⟨l⟩ : Array Value).getD 22 undef, (⟨l⟩ : Array Value).getD 23 undef, (⟨l⟩ : Array Value).getD 24 undef, (⟨l⟩ : Array Value).getD 25 undef, (⟨l⟩ : Array Value).getD 26 undef, (⟨l⟩ : Array Value).getD 27 undef, (⟨l⟩ : Array Value).getD 28 undef, (⟨l⟩ : Array Value).getD 29 undef, (⟨l⟩ : Array Value).getD 30 undef, (⟨l⟩ : Array Value).getD 31 undef, (⟨l⟩ : Array Value).getD 32 undef, (⟨l⟩ : Array Value).getD 33 undef, (⟨l⟩ : Array Value).getD 34 undef, (⟨l⟩ : Array Value).getD 35 undef, (⟨l⟩ : Array Value).getD 36 undef, (⟨l⟩ : Array Value).getD 37 undef, (⟨l⟩ : Array Value).getD 38 undef, (⟨l⟩ : Array Value).getD 39 undef, (⟨l⟩ : Array Value).getD 40 undef, (⟨l⟩ : Array Value).getD 41 undef, (⟨l⟩ : Array Value).getD 42 undef] := rfl
  rw [e2] at e
  exact congrArg _ e

theorem set_last18 {α : Type} (P : List α) (x y : α) : (P ++ [x]).set P.length y = P ++ [y] := by simp
theorem get_last18 {α : Type} (P : List α) (x : α) : (P ++ [x])[P.length]? = some x := by simp
theorem dcI_len18 (l : List Nat) (a : Int) : (dcI l a).m.length ≤ 524288 := by
  unfold dcI
  split
  · exact rdP_len _ _
  · simp
theorem cfE : ∀ (f : Nat), f = 103 ∨ f = 104 ∨ f = 105 ∨ f = 106 → ∀ (args : Array Value) (X : World), (callFunc f args).run Try.prog X = .ok (.enter f args) X := by
  intro f hf args X
  rcases hf with rfl | rfl | rfl | rfl <;> (go_simp; first | done | simp)
def ThB (w : World) (base M : Nat) (W : World) : Prop := W.heap[M]? = some (.cells msA 159) ∧ Below base w W ∧ Kt w W
def Th0 (lb : List Nat) (base G : Nat) (vc : Value) (R : Out18) (W : World) : Prop := ∃ (f a : Nat) (l : Int) (P : List PB), RdQ W base G vc (a : Int) l P ∧ a < lb.length / 4 ∧ lb.length / 4 - a ≤ f ∧ P.length ≤ a ∧ bsG lb f (a : Int) P = R
structure Th1D (lb : List Nat) (R : Out18) (f a en k r : Nat) (P : List PB) (t : Int) (m : List (BitVec 32)) (es : List (Int × Int)) : Prop where
  lk : es.length = k
  r1 : 1 ≤ r
  kr : k + r = sumW m m.length
  pa : P.length ≤ a
  ae : a + 2 ≤ en
  ew : en + k ≤ lb.length / 4
  fu : lb.length / 4 ≤ f + (a + 1)
  ml : m.length ≤ 524288
  es34 : ∀ e ∈ es, e.1 = 3 ∨ e.1 = 4
  res : bsF lb (bsG lb f) P (a : Int) t m (en : Int) (enG lb (en : Int) r k es) = R
def Th1 (lb : List Nat) (base G : Nat) (vc : Value) (R : Out18) (W : World) : Prop := ∃ (f a en k r : Nat) (P : List PB) (t : Int) (m : List (BitVec 32)) (es : List (Int × Int)), RdQ W base G vc ((en + k : Nat) : Int) (r : Int) (P ++ [⟨(a : Int), t, m, prE (en : Int) es⟩]) ∧ Th1D lb R f a en k r P t m es
def muT (lb : List Nat) (G : Nat) (W : World) : Nat := lb.length / 4 + 1 - (intOf13 ((W.cell? ⟨G, 1, none⟩).getD undef)).toNat
theorem mu_at {lb : List Nat} {G : Nat} {W : World} {base : Nat} {vc : Value} {a : Nat} {l : Int} {P : List PB} (h : RdQ W base G vc (a : Int) l P) : muT lb G W = lb.length / 4 + 1 - a := by
  obtain ⟨vb, L, h⟩ := h
  unfold muT
  rw [h.c1]
  simp [intOf13]
def ThQ (base G : Nat) (vc : Value) (w : World) (R : Out18) (e : Ending) (w' : World) : Prop := e = .returned (.int .i64 R.2.2) ∧ (∃ a l P, RdQ w' base G vc a l P ∧ (R.2.2 = 0 → P = R.1) ∧ (R.2.2 ≠ 0 → a = R.2.1)) ∧ Below base w w' ∧ Kt w w'
theorem ThQ.err {base G : Nat} {vc : Value} {w w' : World} {R : Out18} {er a l : Int} {P : List PB} (hR : R = ([], a, er)) (h0 : er ≠ 0) (h : RdQ w' base G vc a l P) (hb : Below base w w' ∧ Kt w w') : ThQ base G vc w R (.returned (.int .i64 er)) w' := by
  subst hR
  exact ⟨rfl, ⟨a, l, P, h, fun q => absurd q h0, fun _ => rfl⟩, hb⟩
theorem ThQ.ok {base G : Nat} {vc : Value} {w w' : World} {R : Out18} {a l : Int} {P : List PB} {x : Int} (hR : R = (P, x, 0)) (h : RdQ w' base G vc a l P) (hb : Below base w w' ∧ Kt w w') : ThQ base G vc w R (.returned (.int .i64 0)) w' := by
  subst hR
  exact ⟨rfl, ⟨a, l, P, h, fun _ => rfl, fun q => absurd rfl q⟩, hb⟩
theorem rl_one (f o : Nat) (h : [none, some 103, none, none, none][o]? = some (some f)) : o = 1 ∧ f = 103 := by
  match o, h with
  | 1, h => simp at h; exact ⟨rfl, h.symm⟩
  | 0, h | 2, h | 3, h | 4, h | n + 5, h => simp at h
theorem rl_two (f o : Nat) (h : [none, none, some 104, none, none][o]? = some (some f)) : o = 2 ∧ f = 104 := by
  match o, h with
  | 2, h => simp at h; exact ⟨rfl, h.symm⟩
  | 0, h | 1, h | 3, h | 4, h | n + 5, h => simp at h
theorem rl_thr (f o : Nat) (h : [none, none, none, some 105, some 106][o]? = some (some f)) : (o = 3 ∧ f = 105) ∨ (o = 4 ∧ f = 106) := by
  match o, h with
  | 3, h => simp at h; exact .inl ⟨rfl, h.symm⟩
  | 4, h => simp at h; exact .inr ⟨rfl, h.symm⟩
  | 0, h | 1, h | 2, h | n + 5, h => simp at h
section
variable (w w0 : World) (base G : Nat) (co : Option Addr) (cc : Nat) (lb : List Nat)
theorem take1_18 (hxb : ∀ b ∈ lb, b < 256) (hlb : lb.length ≤ 4194304) (W : World) (hcode : RwX cB W (.slice co lb.length cc) lb) (a : Nat) (l : Int) (P : List PB) (h : RdQ W base G (.slice co lb.length cc) (a : Int) l P) (ha : a < lb.length / 4) (hP : P.length ≤ a) :
    Calls Try.prog 84 #[.pointer (some ⟨G, 0, none⟩), .agg #[rlV none, rlV (some 103), rlV none, rlV none, rlV none]] W fun e W' => (∃ er a' l' P', e = .returned (.int .i64 er) ∧ RdQ W' base G (.slice co lb.length cc) a' l' P' ∧ (er ≠ 0 → a' = (a : Int) ∧ ((dcE lb (a : Int) ≠ 0 ∧ er = dcE lb (a : Int)) ∨ (dcE lb (a : Int) = 0 ∧ (dcI lb (a : Int)).op ≠ 1 ∧ er = 24))) ∧ (er = 0 → a' = ((a + 1 : Nat) : Int) ∧ l' = l ∧ dcE lb (a : Int) = 0 ∧ (dcI lb (a : Int)).op = 1 ∧ P' = P ++ [⟨(a : Int), (dcI lb (a : Int)).n, [], []⟩])) ∧ Below base W W' ∧ Kt W W' := by
  obtain ⟨vb, L, h⟩ := h
  refine (take_any18 W base G co lb.length cc lb hcode (by omega) hxb (a : Int) l vb L P h ⟨by omega, by omega⟩ none (some 103) none none none (fun _ er l' P' => er = 0 ∧ l' = l ∧ P' = P ++ [⟨(a : Int), (dcI lb (a : Int)).n, [], []⟩]) ?_ ?_ ?_ ?_).mono ?_
  · intro o f hE hop hf X v hX hv
    obtain ⟨rfl, rfl⟩ := rl_one f o hf
    refine (extract_any18 X base G _ (a : Int) l vb L P hX _ _ v (by have := h.b.l; omega)).mono ?_
    rintro e W' ⟨rfl, h1, h2⟩
    exact ⟨0, l, _, rfl, ⟨rfl, rfl, rfl⟩, h1, h2⟩
  · intro o f hf args X
    obtain ⟨rfl, rfl⟩ := rl_one f o hf
    exact cfE _ (.inl rfl) args X
  · intro hE
    rcases (dcF hE).op with q | q | q | q
    · exact ⟨1, q, by omega⟩
    · exact ⟨2, q, by omega⟩
    · exact ⟨3, q, by omega⟩
    · exact ⟨4, q, by omega⟩
  · have := dcI_len18 lb (a : Int)
    unfold dcZ
    split <;> omega
  · rintro e W' ⟨hT, hB⟩
    refine ⟨?_, hB⟩
    rcases hT with ⟨h1, rfl, h3⟩ | ⟨h0, o, h1, h2⟩
    · exact ⟨_, _, _, _, rfl, h3, fun _ => ⟨rfl, .inl ⟨h1, rfl⟩⟩, fun q => absurd q h1⟩
    · rcases h2 with ⟨h2, rfl, h3⟩ | ⟨f, er, l', P', h2, ⟨rfl, rfl, rfl⟩, rfl, h3⟩
      · refine ⟨_, _, _, _, rfl, h3, fun _ => ⟨rfl, .inr ⟨h0, fun q => ?_, rfl⟩⟩, fun q => by cases q⟩
        rw [h1] at q
        have : o = 1 := by omega
        subst this
        simp at h2
      · obtain ⟨rfl, rfl⟩ := rl_one f o h2
        refine ⟨_, _, _, _, rfl, h3, fun q => absurd rfl q, fun _ => ⟨?_, rfl, h0, h1, rfl⟩⟩
        rw [if_pos rfl, dcZ_zero h0, (dcF h0).m0 (by rw [h1]; decide)]
        simp
theorem take2_18 (hxb : ∀ b ∈ lb, b < 256) (hlb : lb.length ≤ 4194304) (W : World) (hcode : RwX cB W (.slice co lb.length cc) lb) (a : Nat) (l : Int) (P : List PB) (x t : Int) (h : RdQ W base G (.slice co lb.length cc) (a : Int) l (P ++ [⟨x, t, [], []⟩])) (ha : a ≤ lb.length / 4) (hP : P.length ≤ a) :
    Calls Try.prog 84 #[.pointer (some ⟨G, 0, none⟩), .agg #[rlV none, rlV none, rlV (some 104), rlV none, rlV none]] W fun e W' => (∃ er a' l' P', e = .returned (.int .i64 er) ∧ RdQ W' base G (.slice co lb.length cc) a' l' P' ∧ (er ≠ 0 → a' = (a : Int) ∧ ((dcE lb (a : Int) ≠ 0 ∧ er = dcE lb (a : Int)) ∨ (dcE lb (a : Int) = 0 ∧ (dcI lb (a : Int)).op ≠ 2 ∧ er = 24) ∨ (dcE lb (a : Int) = 0 ∧ (dcI lb (a : Int)).op = 2 ∧ (dcI lb (a : Int)).n ≠ t ∧ er = 25))) ∧ (er = 0 → a' = (a : Int) + dcZ lb (a : Int) ∧ l' = (sumW (dcI lb (a : Int)).m (dcI lb (a : Int)).m.length : Nat) ∧ dcE lb (a : Int) = 0 ∧ (dcI lb (a : Int)).op = 2 ∧ (dcI lb (a : Int)).n = t ∧ P' = P ++ [⟨x, t, (dcI lb (a : Int)).m, []⟩])) ∧ Below base W W' ∧ Kt W W' := by
  obtain ⟨vb, L, h⟩ := h
  have hL : L.length = P.length + 1 := by rw [h.b.l]; simp
  refine (take_any18 W base G co lb.length cc lb hcode (by omega) hxb (a : Int) l vb L _ h ⟨by omega, by omega⟩ none none (some 104) none none (fun _ er l' P' => ((dcI lb (a : Int)).n ≠ t → er = 25 ∧ l' = l) ∧ ((dcI lb (a : Int)).n = t → er = 0 ∧ l' = (sumW (dcI lb (a : Int)).m (dcI lb (a : Int)).m.length : Nat) ∧ P' = P ++ [⟨x, t, (dcI lb (a : Int)).m, []⟩])) ?_ ?_ ?_ ?_).mono ?_
  · intro o f hE hop hf X v hX hv
    obtain ⟨rfl, rfl⟩ := rl_two f o hf
    have hd := dcF hE
    refine (index_any18 X base G co lb.length cc (a : Int) l vb L _ hX P.length _ hL (get_last18 P _) _ _ v _ hv (dcI_len18 lb _) (by omega) ⟨by omega, by have := hd.a1; omega⟩ (by omega)).mono ?_
    rintro e W' ⟨h1, h2, h3⟩
    dsimp only at h1 h2
    by_cases hn : (dcI lb (a : Int)).n = t
    · obtain ⟨rfl, h4⟩ := h2 hn
      rw [set_last18] at h4
      exact ⟨0, _, _, rfl, ⟨fun q => absurd hn q, fun _ => ⟨rfl, rfl, rfl⟩⟩, h4, h3⟩
    · obtain ⟨rfl, h4⟩ := h1 hn
      exact ⟨25, _, _, rfl, ⟨fun _ => ⟨rfl, rfl⟩, fun q => absurd q hn⟩, h4, h3⟩
  · intro o f hf args X
    obtain ⟨rfl, rfl⟩ := rl_two f o hf
    exact cfE _ (.inr (.inl rfl)) args X
  · intro hE
    rcases (dcF hE).op with q | q | q | q
    · exact ⟨1, q, by omega⟩
    · exact ⟨2, q, by omega⟩
    · exact ⟨3, q, by omega⟩
    · exact ⟨4, q, by omega⟩
  · have := dcI_len18 lb (a : Int)
    unfold dcZ
    split <;> omega
  · rintro e W' ⟨hT, hB⟩
    refine ⟨?_, hB⟩
    rcases hT with ⟨h1, rfl, h3⟩ | ⟨h0, o, h1, h2⟩
    · exact ⟨_, _, _, _, rfl, h3, fun _ => ⟨rfl, .inl ⟨h1, rfl⟩⟩, fun q => absurd q h1⟩
    · rcases h2 with ⟨h2, rfl, h3⟩ | ⟨f, er, l', P', h2, ht, rfl, h3⟩
      · refine ⟨_, _, _, _, rfl, h3, fun _ => ⟨rfl, .inr (.inl ⟨h0, fun q => ?_, rfl⟩)⟩, fun q => by cases q⟩
        rw [h1] at q
        have : o = 2 := by omega
        subst this
        simp at h2
      · obtain ⟨rfl, rfl⟩ := rl_two f o h2
        by_cases hn : (dcI lb (a : Int)).n = t
        · obtain ⟨rfl, rfl, rfl⟩ := ht.2 hn
          exact ⟨_, _, _, _, rfl, h3, fun q => absurd rfl q, fun _ => ⟨by rw [if_pos rfl], rfl, h0, h1, hn, rfl⟩⟩
        · obtain ⟨rfl, rfl⟩ := ht.1 hn
          exact ⟨_, _, _, _, rfl, h3, fun _ => ⟨by rw [if_neg (by decide)], .inr (.inr ⟨h0, h1, hn, rfl⟩)⟩, fun q => by cases q⟩
theorem take3_18 (hxb : ∀ b ∈ lb, b < 256) (hlb : lb.length ≤ 4194304) (W : World) (hcode : RwX cB W (.slice co lb.length cc) lb) (en k r : Nat) (P : List PB) (x t : Int) (m : List (BitVec 32)) (es : List (Int × Int)) (h : RdQ W base G (.slice co lb.length cc) ((en + k : Nat) : Int) (r : Int) (P ++ [⟨x, t, m, prE (en : Int) es⟩])) (ha : en + k ≤ lb.length / 4) (hk : es.length = k) (hP : P.length ≤ en) (hr : r ≤ 100000000) (hes : ∀ e ∈ es, e.1 = 3 ∨ e.1 = 4) :
    Calls Try.prog 84 #[.pointer (some ⟨G, 0, none⟩), .agg #[rlV none, rlV none, rlV none, rlV (some 105), rlV (some 106)]] W fun e W' => (∃ a' l' P', e = .returned (.int .i64 (enE lb ((en : Int) + (k : Int)) es)) ∧ RdQ W' base G (.slice co lb.length cc) a' l' P' ∧ (enE lb ((en : Int) + (k : Int)) es ≠ 0 → a' = (en : Int) + (k : Int)) ∧ (enE lb ((en : Int) + (k : Int)) es = 0 → a' = ((en + (k + 1) : Nat) : Int) ∧ l' = (r : Int) - 1 ∧ en + k < lb.length / 4 ∧ ((dcI lb ((en : Int) + (k : Int))).op = 3 ∨ (dcI lb ((en : Int) + (k : Int))).op = 4) ∧ P' = P ++ [⟨x, t, m, prE (en : Int) (es ++ [((dcI lb ((en : Int) + (k : Int))).op, (dcI lb ((en : Int) + (k : Int))).n)])⟩])) ∧ Below base W W' ∧ Kt W W' := by
  obtain ⟨vb, L, h⟩ := h
  have hL : L.length = P.length + 1 := by rw [h.b.l]; simp
  have ec : ((en + k : Nat) : Int) = (en : Int) + (k : Int) := by omega
  rw [ec] at h
  have hpl : (prE (en : Int) es).length = k := by rw [prE_len, hk]
  refine (take_any18 W base G co lb.length cc lb hcode (by omega) hxb ((en : Int) + (k : Int)) (r : Int) vb L _ h ⟨by omega, by omega⟩ none none none (some 105) (some 106) (fun _ er l' P' => er = enE lb ((en : Int) + (k : Int)) es ∧ (er = 0 → l' = (r : Int) - 1 ∧ P' = P ++ [⟨x, t, m, prE (en : Int) (es ++ [((dcI lb ((en : Int) + (k : Int))).op, (dcI lb ((en : Int) + (k : Int))).n)])⟩])) ?_ ?_ ?_ ?_).mono ?_
  · intro o f hE hop hf X v hX hv
    have hd := dcF hE
    have hen := enE_pr lb (en : Int) es (by rw [hk]; exact hE) (by rw [hk]; rcases rl_thr f o hf with ⟨rfl, -⟩ | ⟨rfl, -⟩; exact .inl hop; exact .inr hop) hes
    have hap := prE_app (en : Int) es ((dcI lb ((en : Int) + (k : Int))).op, (dcI lb ((en : Int) + (k : Int))).n)
    rw [hk] at hen hap
    rw [hap]
    rcases rl_thr f o hf with ⟨rfl, rfl⟩ | ⟨rfl, rfl⟩
    · have hpx : prX ((en : Int) + (k : Int)) ((dcI lb ((en : Int) + (k : Int))).op, (dcI lb ((en : Int) + (k : Int))).n) = (true, (en : Int) + (k : Int) + (dcI lb ((en : Int) + (k : Int))).n) := by unfold prX; rw [hop]; rfl
      rw [hpx] at hen ⊢
      refine (jump_any18 X base G _ _ _ vb L _ hX P.length _ hL (get_last18 P _) _ _ v (by omega) (by rw [hpl]; omega) ⟨by omega, by omega⟩ (by have := hd.n0; have := hd.n1; omega)).mono ?_
      rintro e W' ⟨rfl, h1, h2⟩
      refine ⟨_, _, _, rfl, ⟨?_, fun q => ?_⟩, h1, h2⟩
      · rw [hen]; rfl
      · unfold entE at q
        unfold entL entP
        split at q
        · cases q
        · rename_i hq
          rw [if_neg hq, if_neg hq, set_last18]
          exact ⟨rfl, rfl⟩
    · have hpx : prX ((en : Int) + (k : Int)) ((dcI lb ((en : Int) + (k : Int))).op, (dcI lb ((en : Int) + (k : Int))).n) = (false, (dcI lb ((en : Int) + (k : Int))).n) := by unfold prX; rw [hop]; rfl
      rw [hpx] at hen ⊢
      refine (answer_any18 X base G _ _ _ vb L _ hX P.length _ hL (get_last18 P _) _ _ v (by omega) (by rw [hpl]; omega) ⟨by omega, by omega⟩).mono ?_
      rintro e W' ⟨rfl, h1, h2⟩
      refine ⟨_, _, _, rfl, ⟨?_, fun q => ?_⟩, h1, h2⟩
      · rw [hen]; rfl
      · unfold entE at q
        unfold entL entP
        split at q
        · cases q
        · rename_i hq
          rw [if_neg hq, if_neg hq, set_last18]
          exact ⟨rfl, rfl⟩
  · intro o f hf args X
    rcases rl_thr f o hf with ⟨rfl, rfl⟩ | ⟨rfl, rfl⟩
    · exact cfE _ (.inr (.inr (.inl rfl))) args X
    · exact cfE _ (.inr (.inr (.inr rfl))) args X
  · intro hE
    rcases (dcF hE).op with q | q | q | q
    · exact ⟨1, q, by omega⟩
    · exact ⟨2, q, by omega⟩
    · exact ⟨3, q, by omega⟩
    · exact ⟨4, q, by omega⟩
  · have := dcI_len18 lb ((en : Int) + (k : Int))
    unfold dcZ
    split <;> omega
  · rintro e W' ⟨hT, hB⟩
    refine ⟨?_, hB⟩
    rcases hT with ⟨h1, rfl, h3⟩ | ⟨h0, o, h1, h2⟩
    · have hee : enE lb ((en : Int) + (k : Int)) es = dcE lb ((en : Int) + (k : Int)) := by unfold enE; rw [if_pos h1]
      rw [hee]
      exact ⟨_, _, _, rfl, h3, fun _ => rfl, fun q => absurd q h1⟩
    · rcases h2 with ⟨h2, rfl, h3⟩ | ⟨f, er, l', P', h2, ⟨rfl, ht⟩, rfl, h3⟩
      · have ho : (dcI lb ((en : Int) + (k : Int))).op < 3 := by
          rcases (dcF h0).op with q | q | q | q
          · omega
          · omega
          · rw [h1] at q; have : o = 3 := by omega
            subst this; simp at h2
          · rw [h1] at q; have : o = 4 := by omega
            subst this; simp at h2
        have hee : enE lb ((en : Int) + (k : Int)) es = 24 := by unfold enE; rw [if_neg (by simp [h0]), if_pos ho]
        rw [hee]
        exact ⟨_, _, _, rfl, h3, fun _ => rfl, fun q => by cases q⟩
      · refine ⟨_, _, _, rfl, h3, fun q => by rw [if_neg q], fun q => ?_⟩
        obtain ⟨q1, q2⟩ := ht q
        have ho34 : (dcI lb ((en : Int) + (k : Int))).op = 3 ∨ (dcI lb ((en : Int) + (k : Int))).op = 4 := by
          rcases rl_thr f o h2 with ⟨rfl, -⟩ | ⟨rfl, -⟩
          · exact .inl h1
          · exact .inr h1
        refine ⟨?_, q1, by have := (dcF h0).a1; omega, ho34, q2⟩
        rw [if_pos q, dcZ_zero h0, (dcF h0).m0 (by rcases ho34 with z | z <;> rw [z] <;> decide)]
        simp
        omega
end
end Go.Proofs.Ytdpmhpmnkollaaa
namespace Go.Proofs.Ytdpmhpmnkollaaa
open Go.RowKit
set_option linter.unusedSimpArgs false
set_option linter.unusedVariables false
attribute [local go_sem] Oper.semAt_some storeF_run18 storeN_run18

theorem ThB.more {w : World} {base M : Nat} {W W' : World} (h : ThB w base M W) (hb : Below base W W') (hk : Kt W W') : ThB w base M W' :=
  ⟨hk.2 _ _ _ _ h.1 (by unfold vTy; decide), h.2.1.trans hb, h.2.2.trans hk⟩
theorem msA_at {W : World} {M : Nat} (h : W.heap[M]? = some (.cells msA 159)) (j : Nat) (u : Value) (hj : msA[j]? = some u) : W.cell? ⟨M, j, none⟩ = some u := at_16 h j u hj
set_option maxRecDepth 20000 in
set_option maxHeartbeats 16000000 in
theorem through_any18 (w0 w : World) (base G : Nat) (co : Option Addr) (cc : Nat) (lb : List Nat) (hw0 : w0.heap.size = base) (hb0 : Below base w0 w) (hcode : RwX cB w0 (.slice co lb.length cc) lb) (hlb : lb.length ≤ 4194304) (hxb : ∀ b ∈ lb, b < 256) (hw1 : 0 < lb.length / 4) (h : RdR w base G (.slice co lb.length cc) 0 0 (.slice none 0 0) [] []) :
    Calls Try.prog 62 #[.pointer (some ⟨G, 0, none⟩)] w (ThQ base G (.slice co lb.length cc) w (bsG lb (lb.length / 4) 0 [])) := by
  obtain ⟨R, hR⟩ : ∃ R, R = bsG lb (lb.length / 4) 0 [] := ⟨_, rfl⟩
  rw [← hR]
  have HR := hid13 hR
  have HC : Hid (∀ W, Below base w W → RwX cB W (.slice co lb.length cc) lb) := hid13 (fun W hW => hcode.below (by rw [hw0]; exact hb0.trans hW))
  have HX := hid13 hxb
  have HL : Hid (lb.length ≤ 4194304 ∧ 0 < lb.length / 4) := ⟨hlb, hw1⟩
  have H0 := hid13 h
  clear h hw1 hlb hxb hcode hb0 hw0 hR
  go_enter Try.func62, Try.ntmps62
  go_wp2_with fail
  refine scope_two18 (fun l a W => ∃ M, a.tmps.size = 43 ∧ a.tmps.getD 0 undef = .pointer (some ⟨G, 0, none⟩) ∧ a.tmps.getD 4 undef = .pointer (some ⟨M, 0, none⟩) ∧ a.defers = [] ∧ Hid (ThB w base M W ∧ (l = 0 → Th0 lb base G (.slice co lb.length cc) R W) ∧ (l = 1 → Th1 lb base G (.slice co lb.length cc) R W))) (fun l a W => muT lb G W) (by kernel_rfl) (by kernel_rfl) ?pre ?p0 (fun _ _ _ => rfl) ?p1
  case pre =>
    have K0 := mayStand_any18 w
    unfold msA rlV at K0
    dsimp only at K0
    go_wp2_with fail
    refine K0.mono ?_
    rintro e W1 ⟨rfl, hb1⟩
    have q2 := bl1 W1 (.cells msA 159)
    have hbz : base ≤ w.heap.size := Nat.le_of_lt (Nat.lt_of_le_of_lt H0.out.bG (lt_16 H0.out.g))
    have HB2 : Hid (ThB w base W1.heap.size (W1.alloc (.cells msA 159))) := ⟨new_16 _ _, (hb1.mono hbz).trans (q2.mono (Nat.le_trans hbz hb1.size)), (Kt.below hb1).trans (Kt.below q2)⟩
    have H2 : Hid (RdR (W1.alloc (.cells msA 159)) base G (.slice co lb.length cc) 0 0 (.slice none 0 0) [] []) := H0.out.below (keepb q2 hb1)
    unfold msA rlV at HB2 H2
    dsimp only at HB2 H2
    clear K0 hb1 q2 H0 hbz
    go_wp2
    exact ⟨_, (by first | rfl | trivial), (by first | rfl | trivial), (by first | rfl | trivial), (by first | rfl | trivial), hid13 ⟨HB2.out, fun _ => ⟨lb.length / 4, 0, 0, [], ⟨_, _, H2.out⟩, HL.out.2, by omega, Nat.le_refl _, HR.out.symm⟩, fun q => (by cases q)⟩⟩
  case p0 =>
    clear H0 HR
    rintro ⟨tm, df⟩ W ⟨M, hs, h0, h4, hd, HJ⟩
    dsimp only at hs h0 h4 hd
    obtain ⟨u, hu, htm⟩ := arr43 tm hs
    rw [← hu] at h0 h4
    rw [htm, hd, h0, h4]
    clear hu htm hs hd h0 h4 tm df
    obtain ⟨hB, hJ0, -⟩ := HJ.out
    obtain ⟨f, a, l, P, hQ, ha, hf, hP, hres⟩ := hJ0 rfl
    obtain ⟨f, rfl⟩ : ∃ f', f = f' + 1 := ⟨f - 1, by omega⟩
    rw [bsG_succ] at hres
    have K1 := take1_18 base G co cc lb HX.out HL.out.1 W (HC.out W hB.2.1) a l P hQ ha hP
    simp only [rlV] at K1
    have c0 := msA_at hB.1 0 .nilFunc rfl
    have c1 := msA_at hB.1 1 (.func (.func 103) #[] #[]) rfl
    have c2 := msA_at hB.1 2 .nilFunc rfl
    have c3 := msA_at hB.1 3 .nilFunc rfl
    have c4 := msA_at hB.1 4 .nilFunc rfl
    have HBB := hid13 hB
    have HRes := hid13 hres
    have HA : Hid (a < lb.length / 4 ∧ lb.length / 4 - a ≤ f + 1 ∧ P.length ≤ a) := ⟨ha, hf, hP⟩
    have HMu := hid13 (mu_at (lb := lb) hQ)
    clear hB hJ0 hQ ha hf hP hres HJ
    go_wp2_with fail
    refine K1.mono ?_
    rintro e W1 ⟨⟨er, a', l', P', rfl, hQ1, hno, hok⟩, hb1, hk1⟩
    have HB1 := hid13 (HBB.out.more hb1 hk1)
    clear K1 c0 c1 c2 c3 c4 hb1 hk1 HBB
    by_cases h0 : er = 0
    · subst h0
      obtain ⟨rfl, rfl, hE, hop, rfl⟩ := hok rfl
      have hr2 := HRes.out
      rw [if_neg (by simp [hE]), if_neg (by simp [hop])] at hr2
      have K2 := take2_18 base G co cc lb HX.out HL.out.1 W1 (HC.out W1 HB1.out.2.1) (a + 1) l' P (a : Int) (dcI lb (a : Int)).n hQ1 (by have := HA.out; omega) (by have := HA.out; omega)
      simp only [rlV] at K2
      have e1 : ((a + 1 : Nat) : Int) = (a : Int) + 1 := by omega
      rw [e1] at K2
      have HRes2 := hid13 hr2
      have c5 := msA_at HB1.out.1 5 .nilFunc rfl
      have c6 := msA_at HB1.out.1 6 .nilFunc rfl
      have c7 := msA_at HB1.out.1 7 (.func (.func 104) #[] #[]) rfl
      have c8 := msA_at HB1.out.1 8 .nilFunc rfl
      have c9 := msA_at HB1.out.1 9 .nilFunc rfl
      clear hno hok hE hop hr2 HRes hQ1 e1
      go_wp2_with fail
      refine K2.mono ?_
      rintro e W2 ⟨⟨er, a', l2, P', rfl, hQ2, hno, hok⟩, hb2, hk2⟩
      have HB2 := hid13 (HB1.out.more hb2 hk2)
      clear K2 c5 c6 c7 c8 c9 hb2 hk2 HB1
      by_cases h0 : er = 0
      · subst h0
        obtain ⟨rfl, rfl, hE, hop, hn, rfl⟩ := hok rfl
        have hd := dcF hE
        have hr3 := HRes2.out
        rw [if_neg (by simp [hE]), if_neg (by simp [hop]), if_neg (by simp [hn])] at hr3
        have hz := dcZ_zero hE
        obtain ⟨m, hm⟩ : ∃ m, m = (dcI lb ((a : Int) + 1)).m := ⟨_, rfl⟩
        have hm2 := hd.m2 hop
        have hml := dcI_len18 lb ((a : Int) + 1)
        rw [← hm] at hz hm2 hml hr3 hQ2
        obtain ⟨en, hen⟩ : ∃ en : Nat, en = a + 2 + m.length := ⟨_, rfl⟩
        have eA : (a : Int) + 1 + dcZ lb ((a : Int) + 1) = (en : Int) := by rw [hz]; omega
        rw [eA] at hr3 hQ2
        have HT1 : Hid (Th1 lb base G (.slice co lb.length cc) R W2) := hid13 ⟨f, a, en, 0, sumW m m.length, P, (dcI lb (a : Int)).n, m, [], by rw [Nat.add_zero]; exact hQ2, ⟨rfl, hm2.2.2, by omega, HA.out.2.2, by omega, by omega, by have := HA.out; omega, hml, fun e he => (by cases he), hr3⟩⟩
        have HM2 : Hid (muT lb G W2 ≤ muT lb G W) := hid13 (by
          show _ ≤ _
          rw [HMu.out, mu_at (lb := lb) hQ2]; omega)
        clear hno hok hE hop hn hd hr3 hz hm hm2 hml hen eA hQ2 HRes2 HMu
        go_wp2
        exact ⟨⟨_, (by first | rfl | trivial), (by first | rfl | trivial), (by first | rfl | trivial), (by first | rfl | trivial), hid13 ⟨HB2.out, fun q => (by cases q), fun _ => HT1.out⟩⟩, HM2.out⟩
      · have hne : (er != 0) = true := by simpa using h0
        obtain ⟨rfl, hc⟩ := hno h0
        have HE : Hid (R = ([], (a : Int) + 1, er)) := hid13 (by
          have hr3 := HRes2.out
          show R = _
          rw [← hr3]
          rcases hc with ⟨q1, q2⟩ | ⟨q1, q2, q3⟩ | ⟨q1, q2, q3, q4⟩
          · rw [if_pos q1, q2]
          · rw [if_neg (by simp [q1]), if_pos q2, q3]
          · rw [if_neg (by simp [q1]), if_neg (by simp [q2]), if_pos q3, q4])
        have HQ2 := hid13 hQ2
        have H00 := hid13 h0
        clear hno hok hc hQ2 h0 HRes2
        go_wp2
        exact ⟨(by first | rfl | trivial), bodyPost_ret (v := .int .i64 er) (by simp [results, Try.results62, go_sem]) rfl (ThQ.err HE.out H00.out HQ2.out HB2.out.2)⟩
    · have hne : (er != 0) = true := by simpa using h0
      obtain ⟨rfl, hc⟩ := hno h0
      have HE : Hid (R = ([], (a : Int), er)) := hid13 (by
        have hr3 := HRes.out
        show R = _
        rw [← hr3]
        rcases hc with ⟨q1, q2⟩ | ⟨q1, q2, q3⟩
        · rw [if_pos q1, q2]
        · rw [if_neg (by simp [q1]), if_pos q2, q3])
      have HQ2 := hid13 hQ1
      have H00 := hid13 h0
      clear hno hok hc hQ1 h0 HRes
      go_wp2
      exact ⟨(by first | rfl | trivial), bodyPost_ret (v := .int .i64 er) (by simp [results, Try.results62, go_sem]) rfl (ThQ.err HE.out H00.out HQ2.out HB1.out.2)⟩
  case p1 =>
    clear H0 HR
    rintro ⟨tm, df⟩ W ⟨M, hs, h0, h4, hd, HJ⟩
    dsimp only at hs h0 h4 hd
    obtain ⟨u, hu, htm⟩ := arr43 tm hs
    rw [← hu] at h0 h4
    rw [htm, hd, h0, h4]
    clear hu htm hs hd h0 h4 tm df
    obtain ⟨hB, -, hJ1⟩ := HJ.out
    obtain ⟨f, a, en, k, r, P, t, m, es, hQ, hD⟩ := hJ1 rfl
    have hsw := sumW_le m m.length
    have K3 := take3_18 base G co cc lb HX.out HL.out.1 W (HC.out W hB.2.1) en k r P (a : Int) t m es hQ hD.ew hD.lk (by have := hD.pa; have := hD.ae; omega) (by have := hD.kr; have := hD.ml; omega) hD.es34
    simp only [rlV] at K3
    have c0 := msA_at hB.1 10 .nilFunc rfl
    have c1 := msA_at hB.1 11 .nilFunc rfl
    have c2 := msA_at hB.1 12 .nilFunc rfl
    have c3 := msA_at hB.1 13 (.func (.func 105) #[] #[]) rfl
    have c4 := msA_at hB.1 14 (.func (.func 106) #[] #[]) rfl
    have HBB := hid13 hB
    have HD := hid13 hD
    have HMu := hid13 (mu_at (lb := lb) hQ)
    obtain ⟨E, hE⟩ : ∃ E, E = enE lb ((en : Int) + (k : Int)) es := ⟨_, rfl⟩
    rw [← hE] at K3
    have HE := hid13 hE
    clear hB hJ1 hQ hD HJ hsw hE
    go_wp2_with fail
    refine K3.mono ?_
    rintro e W1 ⟨⟨a', l', P', rfl, hQ1, hno, hok⟩, hb1, hk1⟩
    have HB1 := hid13 (HBB.out.more hb1 hk1)
    clear K3 c0 c1 c2 c3 c4 hb1 hk1 HBB
    obtain ⟨r, rfl⟩ : ∃ r', r = r' + 1 := ⟨r - 1, by have := HD.out.r1; omega⟩
    by_cases h0 : E = 0
    · subst h0
      obtain ⟨rfl, hl', hlt, hop, rfl⟩ := hok rfl
      have el : l' = (r : Int) := by rw [hl']; omega
      subst el
      have hres := HD.out.res
      rw [enG_succ, if_pos HE.out.symm] at hres
      obtain ⟨es2, he2⟩ : ∃ es2, es2 = es ++ [((dcI lb ((en : Int) + (k : Int))).op, (dcI lb ((en : Int) + (k : Int))).n)] := ⟨_, rfl⟩
      rw [← he2] at hres hQ1
      have hl2 : es2.length = k + 1 := by rw [he2, List.length_append, HD.out.lk]; rfl
      have h34 : ∀ e ∈ es2, e.1 = 3 ∨ e.1 = 4 := by
        intro e he
        rw [he2] at he
        rcases List.mem_append.mp he with q | q
        · exact HD.out.es34 e q
        · simp at q
          subst q
          exact hop
      obtain ⟨vb1, L1, hq1⟩ := id hQ1
      have d1 := hq1.c1
      have d0 := hq1.c0
      have d3 := hq1.c3
      have HQ1 := hid13 hQ1
      have HMx : Hid (muT lb G W1 < muT lb G W) := hid13 (by
        show _ < _
        rw [HMu.out, mu_at (lb := lb) hQ1]; omega)
      clear hno hok hl' he2 hop hQ1 hq1 HE HMu
      by_cases hr0 : r = 0
      · subst hr0
        have hres' : bsF lb (bsG lb f) P (a : Int) t m (en : Int) (es2, 0, 0) = R := hres
        unfold bsF at hres'
        rw [if_neg (by simp)] at hres'
        have hon : sumW m m.length = k + 1 := by have := HD.out.kr; omega
        rw [hon] at hres'
        have eN : (en : Int) + ((k + 1 : Nat) : Int) = ((en + (k + 1) : Nat) : Int) := by omega
        rw [eN] at hres'
        obtain ⟨Wd, hWd⟩ : ∃ Wd : Nat, Wd = lb.length / 4 := ⟨_, rfl⟩
        have mq : ((lb.length : Nat) : Int).tdiv 4 = (Wd : Int) := by rw [Int.tdiv_eq_ediv_of_nonneg (by omega)]; omega
        have mq2 : ((lb.length : Nat) : Int) / 4 = (Wd : Int) := by omega
        have mq3 : wrap64 (Wd : Int) = (Wd : Int) := by
          have := HL.out.1
          unfold wrap64; omega
        have HWd := hid13 hWd
        obtain ⟨A, hA⟩ : ∃ A, A = en + (k + 1) := ⟨_, rfl⟩
        rw [← hA] at hres' d1 HQ1
        have HW : Hid (A ≤ lb.length / 4 ∧ lb.length / 4 - A ≤ f ∧ (P ++ [(⟨(a : Int), t, m, prE (en : Int) es2⟩ : PB)]).length ≤ A) := hid13 ⟨by omega, by have := HD.out.fu; have := HD.out.ae; omega, by have := HD.out.pa; have := HD.out.ae; simp; omega⟩
        have HRs := hid13 hres'
        have d1' : W1.drew.cell? ⟨G, 1, none⟩ = some (.int .i64 (A : Int)) := d1
        have d0' : W1.drew.cell? ⟨G, 0, none⟩ = some (.slice co lb.length cc) := d0
        clear hres hres' hlt hl2 h34 hon eN hA HD hWd
        by_cases hAw : A < lb.length / 4
        · have hlt : (A : Int) < (Wd : Int) := by rw [HWd.out]; omega
          have HT0 : Hid (Th0 lb base G (.slice co lb.length cc) R W1.drew) := hid13 (by
            have h9 := HRs.out
            rw [if_pos (show (A : Int) < wds lb by unfold wds; rw [← HWd.out]; exact hlt)] at h9
            obtain ⟨vb9, L9, h8⟩ := HQ1.out
            exact ⟨f, A, _, _, ⟨vb9, L9, h8.below ((Below.refl _ _).drew)⟩, hAw, HW.out.2.1, HW.out.2.2, h9⟩)
          have HB9 : Hid (ThB w base M W1.drew) := HB1.out.more ((Below.refl _ _).drew.mono (by obtain ⟨vb9, L9, h8⟩ := HQ1.out; exact Nat.le_of_lt (Nat.lt_of_le_of_lt h8.bG (lt_16 h8.g)))) (Kt.below ((Below.refl _ _).drew))
          have HM9 : Hid (muT lb G W1.drew < muT lb G W) := HMx
          clear hAw HRs HQ1 HW HB1 HMx
          go_wp2
          go_region
          go_wp2
          refine wp_goto ?_
          exact ⟨(by first | exact .inl rfl | trivial), ⟨_, (by first | rfl | trivial), (by first | rfl | trivial), (by first | rfl | trivial), (by first | rfl | trivial), hid13 ⟨HB9.out, fun _ => HT0.out, fun q => (by cases q)⟩⟩, HM9.out⟩
        · have hlt : ¬ (A : Int) < (Wd : Int) := by rw [HWd.out]; omega
          have HRr : Hid (R = (P ++ [⟨(a : Int), t, m, prE (en : Int) es2⟩], 0, 0)) := hid13 (by
            have h9 := HRs.out
            rw [if_neg (show ¬ (A : Int) < wds lb by unfold wds; rw [← HWd.out]; exact hlt)] at h9
            exact h9.symm)
          have HQ9 : Hid (RdQ W1.drew base G (.slice co lb.length cc) (A : Int) ((0 : Nat) : Int) (P ++ [⟨(a : Int), t, m, prE (en : Int) es2⟩])) := hid13 (by
            obtain ⟨vb9, L9, h8⟩ := HQ1.out
            exact ⟨vb9, L9, h8.below ((Below.refl _ _).drew)⟩)
          have HB9 : Hid (ThB w base M W1.drew) := HB1.out.more ((Below.refl _ _).drew.mono (by obtain ⟨vb9, L9, h8⟩ := HQ1.out; exact Nat.le_of_lt (Nat.lt_of_le_of_lt h8.bG (lt_16 h8.g)))) (Kt.below ((Below.refl _ _).drew))
          clear hAw HRs HQ1 HW HB1 HMx
          go_wp2
          go_region
          go_wp2
          exact bodyPost_ret (v := .int .i64 0) (by simp [results, Try.results62, go_sem]) rfl (ThQ.ok HRr.out HQ9.out HB9.out.2)
      · have hpos : (0 : Int) < (r : Int) := by omega
        have HT1 : Hid (Th1 lb base G (.slice co lb.length cc) R W1) := hid13 ⟨f, a, en, k + 1, r, P, t, m, es2, HQ1.out, ⟨hl2, by omega, by have := HD.out.kr; omega, HD.out.pa, HD.out.ae, by omega, HD.out.fu, HD.out.ml, h34, hres⟩⟩
        clear hres hlt hl2 h34 HD hr0 HQ1 d0 d1
        go_wp2
        refine wp_goto ?_
        exact ⟨(by first | exact .inr rfl | trivial), ⟨_, (by first | rfl | trivial), (by first | rfl | trivial), (by first | rfl | trivial), (by first | rfl | trivial), hid13 ⟨HB1.out, fun q => (by cases q), fun _ => HT1.out⟩⟩, HMx.out⟩
    · have hne : (E != 0) = true := by simpa using h0
      have hce := hno h0
      subst hce
      have HRr : Hid (R = ([], (en : Int) + (k : Int), E)) := hid13 (by
        have h9 := HD.out.res
        rw [enG_succ, if_neg (by rw [← HE.out]; exact h0)] at h9
        unfold bsF at h9
        rw [if_pos (by rw [← HE.out]; exact h0)] at h9
        rw [← h9, ← HE.out])
      have HQ1 := hid13 hQ1
      have H00 := hid13 h0
      clear hno hok hQ1 h0 HD HE
      go_wp2
      exact bodyPost_ret (v := .int .i64 E) (by simp [results, Try.results62, go_sem]) rfl (ThQ.err HRr.out H00.out HQ1.out HB1.out.2)
end Go.Proofs.Ytdpmhpmnkollaaa
