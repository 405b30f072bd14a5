/-
  Part 15 of the proof: 2 texts, one behind the other.
-/
import Derived.Test.YtologchdnjnadaaDoorPart13
import Derived.Test.YtologchdnjnadaaDoorPart14
import Derived.Test.YtologchdnjnadaaDoorPart3
/-
  Plain: code's text is read as the code.
-/
namespace Go.Proofs.YtologchdnjnadaaDoor
open Go.RowKit
set_option linter.unusedSimpArgs false
set_option linter.unusedVariables false

theorem hxV_dg (d : Nat) (h : d < 16) : hxV (dg16 d) = some d := by
  have : ∀ d : Fin 16, hxV (dg16 d.val) = some d.val := by decide
  exact this ⟨d, h⟩
theorem hx_hex (x : Nat) : ∀ (c v : Nat), hxP c v (hexN x c) = some (v * 16 ^ c + x % 16 ^ c)
  | 0, v => by simp [hxP, hexN, Nat.mod_one]
  | c + 1, v => by
    have e : hxP (c + 1) v (hexN x (c + 1)) = (match hxV (dg16 (x / 16 ^ c % 16)) with | some d => hxP c (v * 16 + d) (hexN x c) | none => none) := rfl
    rw [e, hxV_dg _ (Nat.mod_lt _ (by decide))]
    show hxP c (v * 16 + x / 16 ^ c % 16) (hexN x c) = _
    rw [hx_hex x c]
    congr 1
    rw [Nat.mod_pow_succ, Nat.pow_succ, Nat.add_mul, Nat.mul_assoc, Nat.mul_comm 16 (16 ^ c), Nat.mul_comm (x / 16 ^ c % 16)]
    omega
theorem hex_clean (x : Nat) : ∀ (c : Nat), ∀ b ∈ hexN x c, b ≠ 10 ∧ b ≠ 32
  | 0 => by intro b hb; cases hb
  | c + 1 => by
    intro b hb
    rcases List.mem_cons.1 hb with rfl | hb
    · have : ∀ d : Fin 16, dg16 d.val ≠ 10 ∧ dg16 d.val ≠ 32 := by decide
      exact this ⟨x / 16 ^ c % 16, Nat.mod_lt _ (by decide)⟩
    · exact hex_clean x c b hb
theorem wordD_hex (x : BitVec 32) : wordD (hexL x) = some x.toNat := by
  unfold wordD hexL
  rw [hexN_len, if_pos rfl, hx_hex]
  have := x.isLt
  have e : 16 ^ 8 = 4294967296 := by decide
  rw [e, Nat.mod_eq_of_lt this]
  simp
theorem wordsD_hex : ∀ (M : List (BitVec 32)), wordsD (M.map hexL) = some M
  | [] => rfl
  | x :: M => by
    show (match wordD (hexL x) with | some v => (wordsD (M.map hexL)).map (BitVec.ofNat 32 v :: ·) | none => none) = _
    rw [wordD_hex, wordsD_hex M]
    simp
theorem dg_snoc : ∀ (D : List UInt8) (f a : Nat) (c : UInt8), (dgP f a D).2 = D.length → D.length < f → isD c = true → dgP f a (D ++ [c]) = (10 * (dgP f a D).1 + (c.toNat - 48), D.length + 1)
  | [], 0, _, _, _, h, _ => by simp at h
  | [], f + 1, a, c, _, _, hc => by
    show (if isD c = true then ((dgP f (10 * a + (c.toNat - 48)) []).1, (dgP f (10 * a + (c.toNat - 48)) []).2 + 1) else (a, 0)) = _
    rw [if_pos hc]
    cases f <;> rfl
  | x :: D, 0, _, _, _, h, _ => by simp at h
  | x :: D, f + 1, a, c, h1, h2, hc => by
    by_cases hx : isD x = true
    · have e : ∀ W, dgP (f + 1) a (x :: W) = ((dgP f (10 * a + (x.toNat - 48)) W).1, (dgP f (10 * a + (x.toNat - 48)) W).2 + 1) := fun W => by
        show (if isD x = true then _ else _) = _
        rw [if_pos hx]
      rw [e] at h1
      have ih := dg_snoc D f (10 * a + (x.toNat - 48)) c (by simp only [List.length_cons] at h1; omega) (by simp only [List.length_cons] at h2; omega) hc
      rw [List.cons_append, e, ih, e]
      rfl
    · exfalso
      have e : dgP (f + 1) a (x :: D) = (a, 0) := by
        show (if isD x = true then _ else _) = _
        rw [if_neg hx]
      rw [e] at h1
      simp at h1
theorem isD_of (d : Nat) (h : d < 10) : isD (UInt8.ofNat (48 + d)) = true ∧ (UInt8.ofNat (48 + d)).toNat - 48 = d := by
  have : ∀ d : Fin 10, isD (UInt8.ofNat (48 + d.val)) = true ∧ (UInt8.ofNat (48 + d.val)).toNat - 48 = d.val := by decide
  exact this ⟨d, h⟩
theorem decD_big {n : Nat} (h : ¬ n < 10) : Lib.decDigits n = Lib.decDigits (n / 10) ++ [UInt8.ofNat (48 + n % 10)] := by rw [Lib.decDigits, dif_neg h]
theorem dg_dec : ∀ (k n : Nat), n < 10 ^ (k + 1) → k < 9 → dgP 9 0 (Lib.decDigits n) = (n, (Lib.decDigits n).length) ∧ (∀ c ∈ Lib.decDigits n, isD c = true)
  | 0, n, h, _ => by
    have hn : n < 10 := by simpa using h
    rw [Lib.decDigits_one hn]
    obtain ⟨h1, h2⟩ := isD_of n hn
    refine ⟨?_, fun c hc => by rw [List.mem_singleton] at hc; rw [hc]; exact h1⟩
    show (if isD _ = true then ((dgP 8 (10 * 0 + (_ - 48)) []).1, (dgP 8 (10 * 0 + (_ - 48)) []).2 + 1) else (0, 0)) = _
    rw [if_pos h1, h2]
    simp [dgP]
  | k + 1, n, h, hk => by
    by_cases q : n < 10
    · exact dg_dec 0 n (by simpa using q) (by omega)
    · obtain ⟨i1, i2⟩ := dg_dec k (n / 10) (by rw [Nat.pow_succ] at h; omega) (by omega)
      obtain ⟨h1, h2⟩ := isD_of (n % 10) (Nat.mod_lt _ (by decide))
      have hl := decD_le k (n / 10) (by rw [Nat.pow_succ] at h; omega)
      rw [decD_big q]
      refine ⟨?_, fun c hc => ?_⟩
      · rw [dg_snoc _ 9 0 _ (by rw [i1]) (by omega) h1, i1, h2]
        simp only [List.length_append, List.length_singleton]
        congr 1
        omega
      · rcases List.mem_append.1 hc with hc | hc
        · exact i2 c hc
        · rw [List.mem_singleton] at hc; rw [hc]; exact h1
theorem dec_head : ∀ (k n : Nat), n < 10 ^ (k + 1) → 1 ≤ n → (Lib.decDigits n).head? ≠ some 48
  | 0, n, h, h1 => by
    have hn : n < 10 := by simpa using h
    rw [Lib.decDigits_one hn]
    have : ∀ d : Fin 10, 1 ≤ d.val → UInt8.ofNat (48 + d.val) ≠ 48 := by decide
    intro e
    injection e with e
    exact this ⟨n, hn⟩ h1 e
  | k + 1, n, h, h1 => by
    by_cases q : n < 10
    · exact dec_head 0 n (by simpa using q) h1
    · rw [decD_big q]
      have hne : Lib.decDigits (n / 10) ≠ [] := by
        intro e
        have := Lib.decDigits_length (n / 10)
        rw [e] at this
        have h2 : 1 ≤ Lib.nDigits (n / 10) := by
          by_cases q2 : n / 10 < 10
          · rw [Lib.nDigits_small q2]; exact Nat.le_refl _
          · rw [Lib.nDigits_big q2]; omega
        simp at this
        omega
      have ih := dec_head k (n / 10) (by rw [Nat.pow_succ] at h; omega) (by omega)
      cases hq : Lib.decDigits (n / 10) with
      | nil => exact absurd hq hne
      | cons c t => rw [hq] at ih; exact ih
theorem numD_dec (n : Nat) (h : n ≤ 16777215) : numD (Lib.decDigits n) = some n := by
  have hb : n < 10 ^ (7 + 1) := by have : 10 ^ (7 + 1) = 100000000 := by decide
                                   omega
  obtain ⟨h1, -⟩ := dg_dec 7 n hb (by decide)
  have hl := decD_le 7 n hb
  have hpos : 1 ≤ (Lib.decDigits n).length := by
    rw [Lib.decDigits_length]
    by_cases q : n < 10
    · rw [Lib.nDigits_small q]; exact Nat.le_refl _
    · rw [Lib.nDigits_big q]; omega
  unfold numD
  rw [h1]
  have hnn : ¬ ((Lib.decDigits n).length < 1 ∨ 9 < (Lib.decDigits n).length ∨ (1 < (Lib.decDigits n).length ∧ (Lib.decDigits n).head? = some 48)) := by
    intro h
    rcases h with h | h | ⟨h2, h3⟩
    · omega
    · omega
    · refine dec_head 7 n hb ?_ h3
      apply Classical.byContradiction
      intro q
      obtain rfl : n = 0 := by omega
      rw [Lib.decDigits_one (by decide)] at h2
      simp at h2
  rw [if_neg hnn, if_pos rfl]
theorem dec_clean (n : Nat) (h : n ≤ 16777215) : ∀ c ∈ Lib.decDigits n, c ≠ 10 ∧ c ≠ 32 := fun c hc => by
  have hb : n < 10 ^ (7 + 1) := by have : 10 ^ (7 + 1) = 100000000 := by decide
                                   omega
  have := (dg_dec 7 n hb (by decide)).2 c hc
  constructor
  · rintro rfl; revert this; decide
  · rintro rfl; revert this; decide
theorem spl_wds : ∀ (M : List (BitVec 32)) (D : List UInt8), (∀ c ∈ D, c ≠ 32) → spl (D ++ wdsL M) = D :: M.map hexL
  | [], D, h => by
    show spl (D ++ []) = _
    rw [List.append_nil, spl_own _ h]; rfl
  | x :: M, D, h => by
    have e : D ++ wdsL (x :: M) = D ++ 32 :: (hexL x ++ wdsL M) := by
      unfold wdsL; rw [List.flatMap_cons]; simp
    rw [e, spl_app _ _ h, spl_wds M (hexL x) (fun c hc => (hex_clean x.toNat 8 c hc).2)]
    rfl
theorem wds_clean : ∀ (M : List (BitVec 32)), ∀ c ∈ wdsL M, c ≠ 10 := fun M c hc => by
  unfold wdsL at hc
  obtain ⟨x, -, hx⟩ := List.mem_flatMap.1 hc
  rcases List.mem_cons.1 hx with rfl | hx
  · decide
  · exact (hex_clean x.toNat 8 c hx).1
/-- The line of what stands at a word, without its end. -/
noncomputable def lnX (l : List Nat) (k : Nat) : List UInt8 := if dcE l k = 0 then nmL (dcI l k).op.toNat ++ 32 :: (Lib.decDigits (dcI l k).n.toNat ++ wdsL (dcI l k).m) else nmL 0 ++ wdsL [wdV l k]
theorem lnT_X (l : List Nat) (k : Nat) : lnT l k = lnX l k ++ [10] := by
  unfold lnT lnX
  by_cases h : dcE l (k : Int) = 0
  · rw [if_pos h, if_pos h]; simp
  · rw [if_neg h, if_neg h]
theorem chk_maps {o n : Int} {m : List (BitVec 32)} (h : chkE o n m = 0) : o ≠ 2 → m = [] := by
  intro ho
  unfold chkE at h
  split at h
  · split at h
    · split at h
      · assumption
      · cases h
    · cases h
  · cases h
theorem lnX_line (l : List Nat) (k : Nat) (hx : ∀ b ∈ l, b < 256) (hk : k < l.length / 4) : (∀ c ∈ lnX l k, c ≠ 10) ∧ lnX l k ≠ [] ∧ lineD (lnX l k) = (0, (l.drop (4 * k)).take (4 * lnZ l k)) := by
  unfold lnX lnZ
  by_cases h : dcE l (k : Int) = 0
  · rw [if_pos h, if_pos h]
    obtain ⟨h1, h2, h3⟩ := enc_dec l (k : Int) hx h
    obtain ⟨h4, h5, h6⟩ := chk_zero h1
    have hm := chk_maps h1
    rw [Int.toNat_natCast] at h2 h3
    generalize dcI l (k : Int) = ins at *
    obtain ⟨o', n', M⟩ := ins
    simp only at *
    obtain ⟨O, rfl⟩ : ∃ O : Nat, o' = (O : Int) := ⟨o'.toNat, by omega⟩
    obtain ⟨N, rfl⟩ : ∃ N : Nat, n' = (N : Int) := ⟨n'.toNat, by omega⟩
    simp only [Int.toNat_natCast] at *
    have hO : O < 5 := by omega
    have hN : N ≤ 16777215 := by omega
    have hc := dec_clean N hN
    refine ⟨fun c hc' => ?_, by simp, ?_⟩
    · rcases List.mem_append.1 hc' with q | q
      · exact (nm_clean O hO c q).1
      · rcases List.mem_cons.1 q with rfl | q
        · decide
        · rcases List.mem_append.1 q with q | q
          · exact (hc c q).1
          · exact wds_clean M c q
    · have e1 : spl (nmL O ++ 32 :: (Lib.decDigits N ++ wdsL M)) = nmL O :: Lib.decDigits N :: M.map hexL := by
        rw [spl_app _ _ (fun c q => (nm_clean O hO c q).2), spl_wds M _ (fun c q => (hc c q).2)]
      obtain ⟨o1, o2⟩ := opD_of O hO
      unfold lineD
      rw [e1]
      simp only
      rw [if_neg (o2 (by omega)), o1, if_neg (by omega), numD_dec N hN, wordsD_hex]
      simp only
      rw [if_neg, h1]
      · have : enL [] (O : Int) (N : Int) M = wdB O N M := by unfold enL; rw [if_pos h1]; simp
        rw [this, h2]
      · intro ⟨q1, q2⟩
        have := hm (by omega)
        subst this
        exact q2 rfl
  · rw [if_neg h, if_neg h]
    have e0 : wdsL [wdV l k] = 32 :: hexL (wdV l k) := by unfold wdsL; simp
    rw [e0]
    refine ⟨fun c hc' => ?_, by simp, ?_⟩
    · rcases List.mem_append.1 hc' with q | q
      · exact (nm_clean 0 (by decide) c q).1
      · rcases List.mem_cons.1 q with rfl | q
        · decide
        · exact (hex_clean _ 8 c q).1
    · have e1 : spl (nmL 0 ++ 32 :: hexL (wdV l k)) = [nmL 0, hexL (wdV l k)] := by
        rw [spl_app _ _ (fun c q => (nm_clean 0 (by decide) c q).2), spl_own (hexL (wdV l k)) (fun c q => (hex_clean (wdV l k).toNat 8 c q).2)]
      unfold lineD
      rw [e1]
      simp only
      rw [if_pos trivial, wordD_hex]
      simp only [if_true]
      rw [by4_wd l k hx hk]
theorem pd_pr (l : List Nat) (hx : ∀ b ∈ l, b < 256) (h4 : l.length % 4 = 0) : ∀ (f k : Nat), l.length / 4 - k < f → k ≤ l.length / 4 → pd (prL l f k) = (l.drop (4 * k), 0, 0) ∧ (k < l.length / 4 → ∃ P X, prL l f k = P ++ X ++ [10] ∧ X ≠ [] ∧ ∀ c ∈ X, c ≠ 10) ∧ Whl (prL l f k)
  | 0, k, h, _ => by omega
  | f + 1, k, h, hk => by
    have e : prL l (f + 1) k = if k < l.length / 4 then lnT l k ++ prL l f (k + lnZ l k) else [] := rfl
    rw [e]
    by_cases hlt : k < l.length / 4
    · rw [if_pos hlt, lnT_X]
      obtain ⟨z1, z2⟩ := lnZ_le l k hx hlt
      obtain ⟨x1, x2, x3⟩ := lnX_line l k hx hlt
      obtain ⟨i1, i2, i3⟩ := pd_pr l hx h4 f (k + lnZ l k) (by omega) z2
      have e2 : lnX l k ++ [10] ++ prL l f (k + lnZ l k) = lnX l k ++ 10 :: prL l f (k + lnZ l k) := by simp
      refine ⟨?_, fun _ => ?_, ?_⟩
      · rw [e2, pd_line _ _ x1, x3, i1]
        unfold pdS
        simp only [if_true]
        rw [show 4 * (k + lnZ l k) = 4 * k + 4 * lnZ l k by omega, ← List.drop_drop, List.take_append_drop]
      · by_cases hl : k + lnZ l k < l.length / 4
        · obtain ⟨P, X, h1, h2, h3⟩ := i2 hl
          exact ⟨lnX l k ++ [10] ++ P, X, by rw [h1]; simp, h2, h3⟩
        · have : prL l f (k + lnZ l k) = [] := by
            cases f with
            | zero => rfl
            | succ f => show (if k + lnZ l k < l.length / 4 then _ else _) = _; rw [if_neg hl]
          exact ⟨[], lnX l k, by rw [this]; simp, x2, x1⟩
      · rw [e2]; exact .line _ _ x1 i3
    · rw [if_neg hlt]
      refine ⟨?_, fun q => absurd q hlt, .nil⟩
      rw [pd_nil, List.drop_eq_nil_of_le (by omega)]
theorem pd_chop {S : List UInt8} (hS : Whl S) : ∀ U, S = U ++ [10] → U ≠ [] → U.getLast? ≠ some 10 → pd U = pd S := by
  induction hS with
  | nil => intro U h; simp at h
  | line X S' hX hS' ih =>
    intro U h h0 hl
    by_cases hz : S' = []
    · subst hz
      have : U = X := by
        have h2 := congrArg List.dropLast h
        simpa using h2.symm
      subst this
      rw [pd_line _ _ hX, pd_last _ hX h0, pd_nil]
    · obtain ⟨U', c, rfl⟩ : ∃ U' c, S' = U' ++ [c] := ⟨S'.dropLast, S'.getLast hz, (List.dropLast_concat_getLast hz).symm⟩
      have h2 : X ++ 10 :: U' = U ∧ c = 10 := by
        have h3 : (X ++ 10 :: U') ++ [c] = U ++ [10] := by rw [← h]; simp
        have := List.append_inj' h3 rfl
        exact ⟨this.1, by simpa using this.2⟩
      obtain ⟨rfl, rfl⟩ := h2
      have hU' : U' ≠ [] := by
        rintro rfl
        apply hl
        simp
      have hl' : U'.getLast? ≠ some 10 := by
        intro q
        apply hl
        rw [List.getLast?_append, List.getLast?_cons_of_ne_nil hU', q]
        rfl
      rw [pd_line _ _ hX, pd_line _ _ hX, ih U' rfl hU' hl']
/-- The whole: code's text, with its last line's end and without, is read as the code. -/
theorem pr_back (l : List Nat) (hx : ∀ b ∈ l, b < 256) (h4 : l.length % 4 = 0) : paP (prT l) = (l, 0, 0, 0) ∧ (prT l = [] → l = []) ∧ (prT l ≠ [] → ∃ U, prT l = U ++ [10] ∧ paP U = (l, 0, 0, 0)) := by
  have e : prT l = prL l (l.length / 4 + 1) 0 := by unfold prT; rw [if_pos h4]
  rw [e]
  obtain ⟨h1, h2, h3⟩ := pd_pr l hx h4 (l.length / 4 + 1) 0 (by omega) (Nat.zero_le _)
  rw [Nat.mul_zero, List.drop_zero] at h1
  have hp : ∀ L, pd L = (l, 0, 0) → paP L = (l, 0, 0, 0) := fun L hL => by rw [paP_pd, hL]; unfold pdO; simp
  refine ⟨hp _ h1, fun q => ?_, fun q => ?_⟩
  · rw [q, pd_nil] at h1
    injection h1 with h1
    exact h1.symm
  · by_cases h0 : 0 < l.length / 4
    · obtain ⟨P, X, e1, e2, e3⟩ := h2 h0
      refine ⟨P ++ X, e1, hp _ ?_⟩
      rw [pd_chop h3 (P ++ X) e1 (by simp [e2]) ?_, h1]
      rw [List.getLast?_append]
      cases hq : X.getLast? with
      | none => exact absurd (List.getLast?_eq_none_iff.1 hq) e2
      | some c =>
        simp only [Option.some_or]
        intro e
        injection e with e
        exact e3 c (List.mem_of_getLast? hq) e
    · exfalso
      apply q
      show (if 0 < l.length / 4 then _ else _) = _
      rw [if_neg h0]
end Go.Proofs.YtologchdnjnadaaDoor
/-
  The law's known.
-/
namespace Go.Proofs.YtologchdnjnadaaDoor
open Go.RowKit
set_option linter.unusedSimpArgs false
set_option linter.unusedVariables false

theorem eqF_run (a b c a' b' c' : Int) (w : World) :
    (Op.equalIn 10000 31 (.agg #[.int .i64 a, .int .i64 b, .int .i64 c]) (.agg #[.int .i64 a', .int .i64 b', .int .i64 c'])).run Tryd.prog w = .ok ((a == a') && (b == b') && (c == c')) w := by
  by_cases h1 : a = a' <;> by_cases h2 : b = b' <;> by_cases h3 : c = c' <;> go_simp <;> simp [*]
theorem kn_l0 : lnT [4, 0, 0, 5, 3, 0, 0, 2] 0 = [114, 101, 116, 117, 114, 110, 32, 53, 10] ∧ lnZ [4, 0, 0, 5, 3, 0, 0, 2] 0 = 1 := by
  have h := dec_enc [] [3, 0, 0, 2] 0 4 5 [] rfl (by decide +kernel)
  have e : ([] ++ wdB (4 : Int).toNat (5 : Int).toNat [] ++ [3, 0, 0, 2]) = [4, 0, 0, 5, 3, 0, 0, 2] := by decide +kernel
  rw [e] at h
  obtain ⟨h1, h2, h3⟩ := h
  unfold lnT lnZ
  rw [if_pos h1, if_pos h1, h2]
  refine ⟨?_, rfl⟩
  show nmL 4 ++ [32] ++ Lib.decDigits 5 ++ wdsL [] ++ [10] = _
  rw [Lib.decDigits_one (by decide)]
  rfl
theorem kn_l1 : lnT [4, 0, 0, 5, 3, 0, 0, 2] 1 = [106, 117, 109, 112, 32, 50, 10] ∧ lnZ [4, 0, 0, 5, 3, 0, 0, 2] 1 = 1 := by
  have h := dec_enc [4, 0, 0, 5] [] 1 3 2 [] rfl (by decide +kernel)
  have e : ([4, 0, 0, 5] ++ wdB (3 : Int).toNat (2 : Int).toNat [] ++ []) = [4, 0, 0, 5, 3, 0, 0, 2] := by decide +kernel
  rw [e] at h
  obtain ⟨h1, h2, h3⟩ := h
  unfold lnT lnZ
  rw [if_pos h1, if_pos h1, h2]
  refine ⟨?_, rfl⟩
  show nmL 3 ++ [32] ++ Lib.decDigits 2 ++ wdsL [] ++ [10] = _
  rw [Lib.decDigits_one (by decide)]
  rfl
theorem kn_pr : prT [4, 0, 0, 5, 3, 0, 0, 2] = [114, 101, 116, 117, 114, 110, 32, 53, 10, 106, 117, 109, 112, 32, 50, 10] := by
  unfold prT
  rw [if_pos (by decide)]
  show prL _ 3 0 = _
  show (if 0 < 2 then lnT _ 0 ++ prL _ 2 (0 + lnZ _ 0) else []) = _
  rw [if_pos (by decide), kn_l0.1, kn_l0.2]
  show _ ++ (if 1 < 2 then lnT _ 1 ++ prL _ 1 (1 + lnZ _ 1) else []) = _
  rw [if_pos (by decide), kn_l1.1, kn_l1.2]
  rfl
def knS : ByteArray := ⟨#[101, 120, 116, 114, 97, 99, 116, 32, 49, 10, 105, 110, 100, 101, 120, 32, 49, 32, 99, 48, 48, 48, 48, 48, 48, 48, 10]⟩
theorem kn_pa : paP (fr knS 0) = ([1, 0, 0, 1, 2, 0, 0, 1, 192, 0, 0, 0], 0, 0, 0) := by decide +kernel
set_option maxHeartbeats 4000000 in
set_option maxRecDepth 20000 in
theorem known15 (w : World) (hN : Nm w) (hP : Pow15 w) :
    Calls Tryd.prog 8 #[] w fun e w' => e = .returned (.bool true) ∧ Below w.heap.size w w' := by
  have q1 := bl1 w (.cells #[.int .u8 4, .int .u8 0, .int .u8 0, .int .u8 5, .int .u8 3, .int .u8 0, .int .u8 0, .int .u8 2] 5)
  have hby : ∀ b ∈ [4, 0, 0, 5, 3, 0, 0, 2], b < 256 := by decide
  have K1 := print15_any (.slice (some ⟨w.heap.size, 0, none⟩) 8 8) [4, 0, 0, 5, 3, 0, 0, 2] (w.alloc (.cells #[.int .u8 4, .int .u8 0, .int .u8 0, .int .u8 5, .int .u8 3, .int .u8 0, .int .u8 0, .int .u8 2] 5)) ⟨some ⟨w.heap.size, 0, none⟩, 8, rfl, Nat.le_refl _, .inr ⟨w.heap.size, 0, rfl, fun j x hj => by
    match j, hj with
    | 0, hj | 1, hj | 2, hj | 3, hj | 4, hj | 5, hj | 6, hj | 7, hj => simp at hj; subst hj; simp [cB]⟩⟩ (hN.below q1) (hP.keep q1) (by decide) hby
  rw [kn_pr] at K1
  have e1 : prE [4, 0, 0, 5, 3, 0, 0, 2] = 0 := rfl
  rw [e1] at K1
  have HN := hid13 hN
  have HQ1 := hid13 q1
  clear hN hP q1 hby e1
  go_enter Tryd.func8, Tryd.ntmps8
  go_wp2_with fail
  refine K1.mono ?_
  rintro e w1 ⟨rfl, hb1⟩
  have HB1 := hid13 (keepb hb1 HQ1.out)
  have K2 := parse15_any knS w1 (by decide) (HN.out.below HB1.out)
  rw [kn_pa] at K2
  unfold knS at K2
  clear K1 hb1
  go_wp2_with fail
  refine K2.mono ?_
  rintro e w2 ⟨v', rfl, ho, hb2⟩
  have q3 := bl1 w2 (.cells #[.int .i64 0, .int .i64 0, .int .i64 0] 31)
  have HB2 := hid13 (keepb q3 (keepb hb2 HB1.out))
  have hc := conv13 (l := [1, 0, 0, 1, 2, 0, 0, 1, 192, 0, 0, 0]) (own_rwx (own_b13 q3 ho)) (by decide)
  have e9 : bsA [1, 0, 0, 1, 2, 0, 0, 1, 192, 0, 0, 0] = ⟨#[1, 0, 0, 1, 2, 0, 0, 1, 192, 0, 0, 0]⟩ := by rfl
  rw [e9] at hc
  obtain ⟨ao, bc, hv⟩ := own_form ho
  subst hv
  change (convert 22 9 (.slice ao 12 bc)).run Tryd.prog _ = _ at hc
  have hF := fun w => eqF_run 0 0 0 0 0 0 w
  clear K2 ho hb2 q3 HB1
  go_wp2
  go_ret
  exact ⟨rfl, HB2.out⟩
end Go.Proofs.YtologchdnjnadaaDoor
