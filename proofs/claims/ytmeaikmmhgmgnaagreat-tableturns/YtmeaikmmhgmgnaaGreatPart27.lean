/-
  Part 27 of the proof: 3 texts, one behind the other.
-/
import Derived.Test.YtmeaikmmhgmgnaaGreatPart26
import Derived.Test.YtmeaikmmhgmgnaaGreatPart6
namespace Go.Proofs.YtmeaikmmhgmgnaaGreat
open Go.RowKit
set_option linter.unusedSimpArgs false
set_option linter.unusedVariables false

theorem sixR_shift (s : ByteArray) (a : Nat) (ha : a ≤ s.size) : ∀ n b f c p, sixR s n (a + b) f c p = sixR (s.extract a s.size) n b f c p := by
  intro n
  induction n with
  | zero => intro b f c p; rfl
  | succ n ih =>
    intro b f c p
    have hT : (s.extract a s.size).size = s.size - a := size_sub s a s.size (Nat.le_refl _)
    have hE := ext_end s a b ha
    have hB : ∀ k, byteAt (s.extract a s.size) k = byteAt s (a + k) := fun k => byteAt_ext s a k
    have c1 : ((s.extract a s.size).size ≤ b) = (s.size ≤ a + b) := propext (by rw [hT]; omega)
    have c2 : ∀ z, (b + z = (s.extract a s.size).size) = (a + b + z = s.size) := fun z => propext (by rw [hT]; omega)
    have c3 : ∀ z, (1 < (s.extract a s.size).size - (b + z)) = (1 < s.size - (a + b + z)) := fun z => propext (by rw [hT]; omega)
    rw [sixR_succ, sixR_succ]
    rw [hE]
    generalize grpN (s.extract (a + b) s.size) = zz
    generalize grpV (s.extract (a + b) s.size) = v
    generalize fourB (s.extract (a + b) s.size) = fb
    generalize quadA (s.extract (a + b) s.size) = qa
    generalize quadB (s.extract (a + b) s.size) = qb
    simp only [hB, c1, c2, c3]
    rw [← ih (b + zz.toNat + 2), ← ih (b + zz.toNat + 1)]
    simp only [Nat.add_assoc]
theorem grpN_nn (T : ByteArray) : 0 ≤ grpN T := (grp_bd T).2.2.1
theorem sixR_fuel (s : ByteArray) : ∀ n m a f c p, s.size - a < n → s.size - a < m → sixR s n a f c p = sixR s m a f c p := by
  intro n
  induction n with
  | zero => intro m a f c p h; omega
  | succ n ih =>
    intro m a f c p hn hm
    obtain ⟨m, rfl⟩ : ∃ k, m = k + 1 := ⟨m - 1, by omega⟩
    rw [sixR_succ, sixR_succ]
    by_cases h0 : s.size ≤ a
    · rw [if_pos h0, if_pos h0]
    rw [if_neg h0, if_neg h0]
    by_cases h1 : byteAt s (a + (grpN (s.extract a s.size)).toNat) = 46
    · rw [if_pos h1, if_pos h1]
    rw [if_neg h1, if_neg h1]
    by_cases h2 : grpN (s.extract a s.size) = 0 ∨ c = 8
    · rw [if_pos h2, if_pos h2]
    rw [if_neg h2, if_neg h2]
    have hz : 1 ≤ (grpN (s.extract a s.size)).toNat := by
      have := grpN_nn (s.extract a s.size)
      omega
    rw [ih m (a + (grpN (s.extract a s.size)).toNat + 2) _ _ _ (by omega) (by omega), ih m (a + (grpN (s.extract a s.size)).toNat + 1) _ _ _ (by omega) (by omega)]

def SS (T : ByteArray) (f : Nat → Int) (c : Nat) (p : Int) : BitVec 128 × Bool := sixR T (T.size + 1) 0 f c p
def finP (f : Nat → Int) (c : Nat) (p : Int) : BitVec 128 × Bool := (finV f c p, finB c p)
def addL : (Nat → Int) → Nat → List Int → Nat → Int
  | f, _, [] => f
  | f, c, g :: gs => addL (upd f c g) (c + 1) gs
def outG (o : Option (List Int)) (f : Nat → Int) (c : Nat) (p : Int) : BitVec 128 × Bool := match o with
  | some gs => if c + gs.length ≤ 8 then finP (addL f c gs) (c + gs.length) p else (0#128, false)
  | none => (0#128, false)
theorem SS_tail (T : ByteArray) (a : Nat) (f : Nat → Int) (c : Nat) (p : Int) (h1 : 1 ≤ a) (h2 : a ≤ T.size) : sixR T T.size a f c p = SS (T.extract a T.size) f c p := by
  have h := sixR_shift T a h2 T.size 0 f c p
  rw [Nat.add_zero] at h
  rw [h]
  unfold SS
  have := size_sub T a T.size (Nat.le_refl _)
  exact sixR_fuel _ _ _ _ _ _ _ (by omega) (by omega)
theorem SS_step (T : ByteArray) (f : Nat → Int) (c : Nat) (p : Int) (z : Nat) (h : 0 < T.size) (hz : grpN T = z) :
    SS T f c p = if byteAt T z = 46 then (if fourB T = true ∧ c ≤ 6 then finP (upd (upd f c (quadA T)) (c + 1) (quadB T)) (c + 2) p else (0#128, false))
    else if z = 0 ∨ c = 8 then (0#128, false)
    else if z = T.size then finP (upd f c (grpV T)) (c + 1) p
    else if p = -1 ∧ byteAt T z = 58 ∧ byteAt T (z + 1) = 58 then SS (T.extract (z + 2) T.size) (upd f c (grpV T)) (c + 1) ((c : Int) + 1)
    else if 1 < T.size - z ∧ byteAt T z = 58 then SS (T.extract (z + 1) T.size) (upd f c (grpV T)) (c + 1) p
    else (0#128, false) := by
  conv => lhs; unfold SS
  rw [sixR_succ, if_neg (by omega), ext_all, hz, Int.toNat_natCast, Nat.zero_add]
  split
  · rfl
  · have e : ((z : Int) = 0 ∨ c = 8) = (z = 0 ∨ c = 8) := propext (by omega)
    simp only [e]
    split
    · rfl
    · split
      · rfl
      · split
        · rename_i hg
          have : z + 1 < T.size := by
            apply Classical.byContradiction; intro q
            rw [byteAt_end T (z + 1) (by omega)] at hg; omega
          exact SS_tail T (z + 2) _ _ _ (by omega) (by omega)
        · split
          · exact SS_tail T (z + 1) _ _ _ (by omega) (by omega)
          · rfl
theorem SS_nil (T : ByteArray) (f : Nat → Int) (c : Nat) (p : Int) (h : T.size = 0) : SS T f c p = finP f c p := by
  unfold SS
  rw [h, sixR_succ, if_pos (by omega)]; rfl

theorem quad_val (T : ByteArray) (u : Int) (h : dotO T = some u) : quadA T = u / 65536 ∧ quadB T = u % 65536 := by
  obtain ⟨u0, u1⟩ := dotO_bd T u h
  have hv := (four_eq T).2 u h
  obtain ⟨n, rfl⟩ := Int.eq_ofNat_of_zero_le u0
  have hn : (mkW ((n : Int) * 4294967296) 0).toNat = n * 79228162514264337593543950336 := by
    unfold mkW
    rw [BitVec.toNat_append, BitVec.toNat_ofInt, BitVec.toNat_ofInt]
    have e1 : ((n : Int) * 4294967296 % ((2 ^ 64 : Nat) : Int)).toNat = n * 4294967296 := by
      have : ((2 ^ 64 : Nat) : Int) = 18446744073709551616 := by decide
      rw [this]; omega
    rw [e1]
    simp [Nat.shiftLeft_eq]
    omega
  have lo : ∀ y : BitVec 128, y.toNat < 65536 → lI y = (y.toNat : Int) := by
    intro y hy
    unfold lI lv
    rw [BitVec.extractLsb'_toNat, Nat.shiftRight_zero, Nat.mod_eq_of_lt (by omega)]
  have a1 : ((fourV T <<< (16 * (0 : Int)).toNat) >>> (128 - (16 : Int)).toNat).toNat = n / 65536 := by
    rw [hv, show (16 * (0 : Int)).toNat = 0 by decide, show (128 - (16 : Int)).toNat = 112 by decide, BitVec.toNat_ushiftRight, BitVec.toNat_shiftLeft, hn, Nat.shiftLeft_zero, Nat.shiftRight_eq_div_pow]
    have e : (2 : Nat) ^ 112 = 5192296858534827628530496329220096 := by decide
    have e' : (2 : Nat) ^ 128 = 340282366920938463463374607431768211456 := by decide
    rw [e, e']; omega
  have a2 : ((fourV T <<< (16 * (1 : Int)).toNat) >>> (128 - (16 : Int)).toNat).toNat = n % 65536 := by
    rw [hv, show (16 * (1 : Int)).toNat = 16 by decide, show (128 - (16 : Int)).toNat = 112 by decide, BitVec.toNat_ushiftRight, BitVec.toNat_shiftLeft, hn, Nat.shiftLeft_eq, Nat.shiftRight_eq_div_pow]
    have e : (2 : Nat) ^ 112 = 5192296858534827628530496329220096 := by decide
    have e' : (2 : Nat) ^ 128 = 340282366920938463463374607431768211456 := by decide
    have e'' : (2 : Nat) ^ 16 = 65536 := by decide
    rw [e, e', e'']; omega
  unfold quadA quadB
  rw [lo _ (by rw [a1]; omega), lo _ (by rw [a2]; omega), a1, a2]
  omega

theorem gsP_empty (last : Bool) (T : ByteArray) (h : T.size = 0) : gsP last T = none := by
  have hs : spl T 58 T.size 0 0 = [T] := by
    rw [h]
    show [T.extract 0 T.size] = [T]
    rw [ext_all]
  have hd : (dotO T).isSome = false := by
    cases hx : (dotO T).isSome with
    | false => rfl
    | true =>
      have := dot_first T hx
      rw [byteAt_end T _ (by omega)] at this; omega
  rw [gsP_one last T hs, if_neg (by rw [hd]; simp)]
  rw [if_pos]
  unfold grV; rw [if_pos (Or.inl (by omega))]; omega
theorem outG_map (v : Int) (o : Option (List Int)) (f : Nat → Int) (c : Nat) (p : Int) : outG (o.map (v :: ·)) f c p = outG o (upd f c v) (c + 1) p := by
  cases o with
  | none => rfl
  | some gs =>
    show (if c + (gs.length + 1) ≤ 8 then finP (addL f c (v :: gs)) (c + (gs.length + 1)) p else (0#128, false)) = (if c + 1 + gs.length ≤ 8 then finP (addL (upd f c v) (c + 1) gs) (c + 1 + gs.length) p else (0#128, false))
    rw [show c + (gs.length + 1) = c + 1 + gs.length by omega]; rfl

theorem last_piece (T : ByteArray) (f : Nat → Int) (c : Nat) (p : Int) (h0 : 0 < T.size) (hc : c ≤ 8) (hno : ∀ k, k < T.size → ¬ byteAt T k = 58) (hs : spl T 58 T.size 0 0 = [T]) : SS T f c p = outG (gsP true T) f c p := by
  obtain ⟨z, hz⟩ := Int.eq_ofNat_of_zero_le (grpN_nn T)
  have hgp := grp_piece T T.size (Nat.le_refl _) (Or.inl rfl)
  rw [ext_all] at hgp
  have hzn : ¬ byteAt T z = 58 := by
    by_cases q : z < T.size
    · exact hno z q
    · rw [byteAt_end T z (by omega)]; omega
  rw [SS_step T f c p z h0 hz, gsP_one true T hs]
  by_cases hd : byteAt T z = 46
  · rw [if_pos hd]
    cases hx : dotO T with
    | none =>
      have hf : fourB T = false := by rw [(four_eq T).1, hx]; rfl
      rw [hf, if_neg (by simp), if_neg (by simp)]
      have hg : grV T < 0 := by
        apply Classical.byContradiction; intro q
        have := (hgp.1 (by omega)).2.1
        have e : z = T.size := by omega
        rw [e, byteAt_end T T.size (Nat.le_refl _)] at hd; omega
      rw [if_pos hg]; rfl
    | some u =>
      have hf : fourB T = true := by rw [(four_eq T).1, hx]; rfl
      obtain ⟨q1, q2⟩ := quad_val T u hx
      rw [hf, if_pos (show true = true ∧ (some u).isSome = true from ⟨rfl, rfl⟩), q1, q2]
      show _ = (if c + 2 ≤ 8 then finP _ _ _ else _)
      by_cases h6 : c ≤ 6
      · rw [if_pos ⟨rfl, h6⟩, if_pos (by omega)]; rfl
      · rw [if_neg (by simp [h6]), if_neg (by omega)]
  · rw [if_neg hd]
    have hx : (dotO T).isSome = false := by
      cases hq : (dotO T).isSome with
      | false => rfl
      | true =>
        have := dot_first T hq
        rw [hz, Int.toNat_natCast] at this
        exact absurd this hd
    rw [hx, if_neg (show ¬ (true = true ∧ false = true) by simp)]
    by_cases hg : grV T < 0
    · rw [if_pos hg]
      split
      · rfl
      · rename_i h1
        obtain ⟨z', e1, e2⟩ := hgp.2 hg
        have : z' = z := by omega
        subst this
        rw [if_neg (by omega), if_neg (fun q => hzn q.2.1), if_neg (fun q => hzn q.2)]; rfl
    · rw [if_neg hg]
      obtain ⟨e1, e2, e3⟩ := hgp.1 (by omega)
      have hzT : z = T.size := by omega
      show _ = (if c + 1 ≤ 8 then finP _ _ _ else _)
      by_cases h8 : c = 8
      · rw [if_pos (Or.inr h8), if_neg (by omega)]
      · rw [if_neg (by omega), if_pos hzT, if_pos (by omega), e1]; rfl
theorem bad_piece (T : ByteArray) (f : Nat → Int) (c : Nat) (p : Int) (j : Nat) (hj : j < T.size) (hno : ∀ k, k < j → ¬ byteAt T k = 58) (hc : byteAt T j = 58) (hg : grV (T.extract 0 j) < 0) : SS T f c p = (0#128, false) := by
  obtain ⟨z, hz, hz2⟩ := (grp_piece T j (by omega) (Or.inr (by rw [hc]; decide))).2 hg
  rw [SS_step T f c p z (by omega) hz]
  by_cases hd : byteAt T z = 46
  · rw [if_pos hd]
    have hx : fourB T = false := by
      rw [(four_eq T).1]
      cases hq : (dotO T).isSome with
      | false => rfl
      | true => exact absurd hc (dot_no_colon T hq j hj)
    rw [hx, if_neg (by simp)]
  · rw [if_neg hd]
    split
    · rfl
    · rename_i h1
      have hzj : z < j := by omega
      rw [if_neg (by omega), if_neg (fun q => hno z hzj q.2.1), if_neg (fun q => hno z hzj q.2)]

theorem behind_gap : ∀ n (T : ByteArray) (f : Nat → Int) (c : Nat) (p : Int), T.size ≤ n → c ≤ 8 → ¬ p = -1 → 0 < T.size → SS T f c p = outG (gsP true T) f c p := by
  intro n
  induction n with
  | zero => intro T f c p h _ _ h0; omega
  | succ n ih =>
    intro T f c p hn hc hp h0
    obtain ⟨j, hj, hno, hw⟩ := spl_first T 58
    rcases hw with ⟨rfl, hs⟩ | ⟨hlt, hcol, hs⟩
    · exact last_piece T f c p h0 hc hno hs
    · rw [gsP_more true T j hs]
      by_cases hg : grV (T.extract 0 j) < 0
      · rw [if_pos hg, bad_piece T f c p j hlt hno hcol hg]; rfl
      · rw [if_neg hg]
        obtain ⟨e1, e2, e3⟩ := (grp_piece T j hj (Or.inr (by rw [hcol]; decide))).1 (by omega)
        rw [SS_step T f c p j h0 e2, if_neg (by rw [hcol]; omega), e1, outG_map]
        have hTs := size_sub T (j + 1) T.size (Nat.le_refl _)
        by_cases h8 : c = 8
        · rw [if_pos (Or.inr h8)]
          cases gsP true (T.extract (j + 1) T.size) with
          | none => rfl
          | some gs =>
            show _ = (if c + 1 + gs.length ≤ 8 then _ else _)
            rw [if_neg (by omega)]
        · rw [if_neg (by omega), if_neg (by omega), if_neg (fun q => hp q.1)]
          by_cases h1 : 1 < T.size - j
          · rw [if_pos ⟨h1, hcol⟩]
            exact ih _ _ _ _ (by omega) (by omega) hp (by omega)
          · rw [if_neg (fun q => h1 q.1), gsP_empty true _ (by omega)]; rfl
end Go.Proofs.YtmeaikmmhgmgnaaGreat
namespace Go.Proofs.YtmeaikmmhgmgnaaGreat
open Go.RowKit
set_option linter.unusedSimpArgs false
set_option linter.unusedVariables false

def both (T : ByteArray) (k : Nat) : Prop := byteAt T k = 58 ∧ byteAt T (k + 1) = 58
theorem both_lt (T : ByteArray) (k : Nat) (h : both T k) : k + 1 < T.size := by
  apply Classical.byContradiction; intro q
  have := h.2
  rw [byteAt_end T (k + 1) (by omega)] at this; omega
theorem gapG_spec (T : ByteArray) : ∀ f i, T.size < i + f → (gapG T f i = -1 ∧ ∀ k, i ≤ k → ¬ both T k) ∨ (∃ k, i ≤ k ∧ gapG T f i = (k : Int) ∧ both T k ∧ ∀ m, i ≤ m → m < k → ¬ both T m) := by
  intro f
  induction f with
  | zero =>
    intro i h
    exact Or.inl ⟨rfl, fun k hk hb => by have := both_lt T k hb; omega⟩
  | succ f ih =>
    intro i h
    by_cases h1 : i + 1 < T.size
    · by_cases h2 : byteAt T i = 58 ∧ byteAt T (i + 1) = 58
      · right
        refine ⟨i, Nat.le_refl _, ?_, h2, fun m h3 h4 => by omega⟩
        show (if _ then _ else _) = _
        rw [if_pos h1, if_pos h2]
      · have e : gapG T (f + 1) i = gapG T f (i + 1) := by
          show (if _ then _ else _) = _
          rw [if_pos h1, if_neg h2]
        rw [e]
        rcases ih (i + 1) (by omega) with ⟨a, b⟩ | ⟨k, a, b, d, g⟩
        · left
          refine ⟨a, fun k hk => ?_⟩
          by_cases q : k = i
          · subst q; exact h2
          · exact b k (by omega)
        · right
          refine ⟨k, by omega, b, d, fun m hm1 hm2 => ?_⟩
          by_cases q : m = i
          · subst q; exact h2
          · exact g m (by omega) hm2
    · left
      exact ⟨if_neg h1, fun k hk hb => by have := both_lt T k hb; omega⟩
theorem gapV_spec (T : ByteArray) : (gapV T = -1 ∧ ∀ k, ¬ both T k) ∨ (∃ k : Nat, gapV T = (k : Int) ∧ both T k ∧ ∀ m, m < k → ¬ both T m) := by
  rcases gapG_spec T (T.size + 1) 0 (by omega) with ⟨a, b⟩ | ⟨k, -, b, d, g⟩
  · exact Or.inl ⟨a, fun k => b k (by omega)⟩
  · exact Or.inr ⟨k, b, d, fun m hm => g m (by omega) hm⟩
theorem gap_none (T : ByteArray) (hno : ∀ k, ¬ both T k) : gapV T = -1 := by
  rcases gapV_spec T with ⟨a, -⟩ | ⟨k, -, b, -⟩
  · exact a
  · exact absurd b (hno k)
theorem gap_at (T : ByteArray) (j : Nat) (hb : both T j) (hno : ∀ m, m < j → ¬ both T m) : gapV T = (j : Int) := by
  rcases gapV_spec T with ⟨-, b⟩ | ⟨k, a, b, d⟩
  · exact absurd hb (b j)
  · have : k = j := by
      rcases Nat.lt_trichotomy k j with h | h | h
      · exact absurd b (hno k h)
      · exact h
      · exact absurd hb (d j h)
    rw [a, this]
theorem both_shift (T : ByteArray) (a k : Nat) : both (T.extract a T.size) k ↔ both T (a + k) := by
  unfold both
  rw [byteAt_ext, byteAt_ext]; rfl
theorem gap_tail (T : ByteArray) (j : Nat) (hj : j < T.size) (hno : ∀ k, k < j → ¬ byteAt T k = 58) (hb : ¬ both T j) :
    (gapV (T.extract (j + 1) T.size) = -1 ∧ gapV T = -1) ∨ (∃ k : Nat, gapV (T.extract (j + 1) T.size) = (k : Int) ∧ gapV T = ((j + 1 + k : Nat) : Int)) := by
  have hlow : ∀ m, m < j + 1 → ¬ both T m := fun m hm q => by
    by_cases h : m = j
    · subst h; exact hb q
    · exact hno m (by omega) q.1
  rcases gapV_spec (T.extract (j + 1) T.size) with ⟨a, b⟩ | ⟨k, a, b, d⟩
  · left
    refine ⟨a, gap_none T (fun k q => ?_)⟩
    by_cases h : k < j + 1
    · exact hlow k h q
    · exact b (k - (j + 1)) ((both_shift T (j + 1) _).mpr (by rw [show j + 1 + (k - (j + 1)) = k by omega]; exact q))
  · right
    refine ⟨k, a, gap_at T (j + 1 + k) ((both_shift T (j + 1) k).mp b) (fun m hm q => ?_)⟩
    by_cases h : m < j + 1
    · exact hlow m h q
    · exact d (m - (j + 1)) (by omega) ((both_shift T (j + 1) _).mpr (by rw [show j + 1 + (m - (j + 1)) = m by omega]; exact q))

theorem pre_one (T : ByteArray) (j : Nat) (hj : j ≤ T.size) (hno : ∀ k, k < j → ¬ byteAt T k = 58) : spl (T.extract 0 j) 58 (T.extract 0 j).size 0 0 = [T.extract 0 j] := by
  obtain ⟨i, hi, -, hw⟩ := spl_first (T.extract 0 j) 58
  have hs := size_sub T 0 j hj
  rcases hw with ⟨-, h⟩ | ⟨hlt, hc, -⟩
  · exact h
  · exfalso
    rw [byteAt_sub T 0 j i hj, if_pos (by omega), Nat.zero_add] at hc
    exact hno i (by omega) hc
theorem pre_more (T : ByteArray) (j k : Nat) (hk : k ≤ T.size) (hjk : j < k) (hno : ∀ m, m < j → ¬ byteAt T m = 58) (hc : byteAt T j = 58) :
    spl (T.extract 0 k) 58 (T.extract 0 k).size 0 0 = (T.extract 0 k).extract 0 j :: spl ((T.extract 0 k).extract (j + 1) (T.extract 0 k).size) 58 ((T.extract 0 k).extract (j + 1) (T.extract 0 k).size).size 0 0 := by
  obtain ⟨i, hi, hn2, hw⟩ := spl_first (T.extract 0 k) 58
  have hs := size_sub T 0 k hk
  have hbj : byteAt (T.extract 0 k) j = 58 := by rw [byteAt_sub T 0 k j hk, if_pos (by omega), Nat.zero_add]; exact hc
  rcases hw with ⟨he, -⟩ | ⟨hlt, hci, h⟩
  · exact absurd hbj (hn2 j (by omega))
  · have : i = j := by
      rcases Nat.lt_trichotomy i j with q | q | q
      · exfalso
        rw [byteAt_sub T 0 k i hk, if_pos (by omega), Nat.zero_add] at hci
        exact hno i q hci
      · exact q
      · exact absurd hbj (hn2 j q)
    subst this
    exact h
theorem sub_sub (T : ByteArray) (a j k : Nat) (hk : k ≤ T.size) (hj : j ≤ k) : (T.extract 0 k).extract a j = T.extract a j := by
  rw [Lib.extract_eq, Lib.extract_data, Lib.extract_eq, List.drop_zero, Nat.sub_zero, List.drop_take, List.take_take]
  congr 3
  omega
theorem sub_tail (T : ByteArray) (a k : Nat) (h : a + k ≤ T.size) : (T.extract a T.size).extract 0 k = T.extract a (a + k) := by
  rw [ext_ext T a 0 k h, Nat.add_zero]

def gapRes (T : ByteArray) (f : Nat → Int) (c : Nat) : BitVec 128 × Bool :=
  if gapV T < 0 then outG (gsP true T) f c (-1) else
  match gsP false (T.extract 0 (gapV T).toNat) with
  | some ag => if c + ag.length ≤ 8 then SS (T.extract ((gapV T).toNat + 2) T.size) (addL f c ag) (c + ag.length) ((c + ag.length : Nat) : Int) else (0#128, false)
  | none => (0#128, false)
theorem gapRes_no (T : ByteArray) (f : Nat → Int) (c : Nat) (h : gapV T = -1) : gapRes T f c = outG (gsP true T) f c (-1) := by
  unfold gapRes; rw [h, if_pos (by omega)]
theorem gapRes_at (T : ByteArray) (f : Nat → Int) (c k : Nat) (h : gapV T = (k : Int)) : gapRes T f c = match gsP false (T.extract 0 k) with
  | some ag => if c + ag.length ≤ 8 then SS (T.extract (k + 2) T.size) (addL f c ag) (c + ag.length) ((c + ag.length : Nat) : Int) else (0#128, false)
  | none => (0#128, false) := by
  unfold gapRes; rw [h, if_neg (by omega), Int.toNat_natCast]
theorem outG_full (o : Option (List Int)) (f : Nat → Int) (p : Int) : outG o f 9 p = (0#128, false) := by
  cases o with
  | none => rfl
  | some gs =>
    show (if 9 + gs.length ≤ 8 then _ else _) = _
    rw [if_neg (by omega)]

theorem ahead_gap : ∀ n (T : ByteArray) (f : Nat → Int) (c : Nat), T.size ≤ n → 0 < T.size → c ≤ 8 → ¬ both T 0 → SS T f c (-1) = gapRes T f c := by
  intro n
  induction n with
  | zero => intro T f c h h0; omega
  | succ n ih =>
    intro T f c hn h0 hc hb0
    obtain ⟨j, hj, hno, hw⟩ := spl_first T 58
    rcases hw with ⟨rfl, hs⟩ | ⟨hlt, hcol, hs⟩
    · rw [gapRes_no T f c (gap_none T (fun k q => by
        have := both_lt T k q
        exact hno k (by omega) q.1))]
      exact last_piece T f c (-1) h0 hc hno hs
    · have hlow : ∀ m, m < j → ¬ both T m := fun m hm q => hno m hm q.1
      by_cases hg : grV (T.extract 0 j) < 0
      · rw [bad_piece T f c (-1) j hlt hno hcol hg]
        rcases gapV_spec T with ⟨a, -⟩ | ⟨k, a, b, d⟩
        · rw [gapRes_no T f c a, gsP_more true T j hs, if_pos hg]; rfl
        · rw [gapRes_at T f c k a]
          have hkj : j ≤ k := by
            apply Classical.byContradiction; intro q
            exact hno k (by omega) b.1
          have hk1 := both_lt T k b
          have : gsP false (T.extract 0 k) = none := by
            by_cases e : k = j
            · subst e
              rw [gsP_one false _ (pre_one T k hj hno), if_neg (by simp), if_pos hg]
            · rw [gsP_more false _ j (pre_more T j k (by omega) (by omega) hno hcol), sub_sub T 0 j k (by omega) (by omega), if_pos hg]
          rw [this]
      · obtain ⟨e1, e2, e3⟩ := (grp_piece T j hj (Or.inr (by rw [hcol]; decide))).1 (by omega)
        have hTs := size_sub T (j + 1) T.size (Nat.le_refl _)
        rw [SS_step T f c (-1) j h0 e2, if_neg (by rw [hcol]; omega), e1]
        by_cases hbj : both T j
        · have hgap := gap_at T j hbj hlow
          rw [gapRes_at T f c j hgap, gsP_one false _ (pre_one T j hj hno), if_neg (show ¬ (false = true ∧ _) by simp), if_neg hg]
          show _ = (if c + 1 ≤ 8 then _ else _)
          by_cases h8 : c = 8
          · rw [if_pos (Or.inr h8), if_neg (by omega)]
          · rw [if_neg (by omega), if_neg (by omega), if_pos ⟨rfl, hbj⟩, if_pos (by omega)]
            rfl
        · have key : gapRes T f c = gapRes (T.extract (j + 1) T.size) (upd f c (grV (T.extract 0 j))) (c + 1) := by
            rcases gap_tail T j hlt hno hbj with ⟨a, b⟩ | ⟨k, a, b⟩
            · rw [gapRes_no _ _ _ a, gapRes_no _ _ _ b, gsP_more true T j hs, if_neg hg, outG_map]
            · have hk1 : both T (j + 1 + k) := by
                rcases gapV_spec T with ⟨q, -⟩ | ⟨m, q, q2, -⟩
                · rw [q] at b; omega
                · have : m = j + 1 + k := by omega
                  subst this; exact q2
              have hk2 := both_lt T _ hk1
              rw [gapRes_at _ _ _ _ a, gapRes_at _ _ _ _ b, gsP_more false _ j (pre_more T j (j + 1 + k) (by omega) (by omega) hno hcol), sub_sub T 0 j _ (by omega) (by omega), if_neg hg, size_sub T 0 (j + 1 + k) (by omega), Nat.sub_zero, sub_sub T (j + 1) (j + 1 + k) _ (by omega) (by omega), sub_tail T (j + 1) k (by omega), ext_end T (j + 1) (k + 2) (by omega)]
              cases gsP false (T.extract (j + 1) (j + 1 + k)) with
              | none => rfl
              | some ag =>
                show (if c + (ag.length + 1) ≤ 8 then SS (T.extract (j + 1 + k + 2) T.size) (addL f c (grV (T.extract 0 j) :: ag)) (c + (ag.length + 1)) ((c + (ag.length + 1) : Nat) : Int) else (0#128, false)) = (if c + 1 + ag.length ≤ 8 then SS (T.extract (j + 1 + (k + 2)) T.size) (addL (upd f c (grV (T.extract 0 j))) (c + 1) ag) (c + 1 + ag.length) ((c + 1 + ag.length : Nat) : Int) else (0#128, false))
                rw [show c + (ag.length + 1) = c + 1 + ag.length by omega, show j + 1 + k + 2 = j + 1 + (k + 2) by omega]; rfl
          rw [key]
          by_cases h8 : c = 8
          · rw [if_pos (Or.inr h8)]
            subst h8
            rcases gapV_spec (T.extract (j + 1) T.size) with ⟨a, -⟩ | ⟨k, a, -, -⟩
            · rw [gapRes_no _ _ _ a, outG_full]
            · rw [gapRes_at _ _ _ _ a]
              cases gsP false ((T.extract (j + 1) T.size).extract 0 k) with
              | none => rfl
              | some ag =>
                show _ = (if 9 + ag.length ≤ 8 then _ else _)
                rw [if_neg (by omega)]
          · rw [if_neg (by omega), if_neg (by omega), if_neg (fun q => hbj q.2)]
            by_cases h1 : 1 < T.size - j
            · rw [if_pos ⟨h1, hcol⟩]
              refine ih _ _ _ (by omega) (by omega) (by omega) (fun q => ?_)
              have := (both_shift T (j + 1) 0).mp q
              exact hbj ⟨hcol, by have := this.1; rw [Nat.add_zero] at this; exact this⟩
            · rw [if_neg (fun q => h1 q.1), gapRes_no _ _ _ (gap_none _ (fun k q => by
                have := both_lt _ k q
                omega)), gsP_empty true _ (by omega)]
              rfl
end Go.Proofs.YtmeaikmmhgmgnaaGreat
namespace Go.Proofs.YtmeaikmmhgmgnaaGreat
open Go.RowKit
set_option linter.unusedSimpArgs false
set_option linter.unusedVariables false

theorem addL_get : ∀ (gs : List Int) (f : Nat → Int) (c k : Nat), addL f c gs k = if c ≤ k ∧ k < c + gs.length then gs.getD (k - c) 0 else f k := by
  intro gs
  induction gs with
  | nil => intro f c k; rw [if_neg (by simp only [List.length_nil]; omega)]; rfl
  | cons g gs ih =>
    intro f c k
    show addL (upd f c g) (c + 1) gs k = _
    rw [ih]
    by_cases h : c + 1 ≤ k ∧ k < c + 1 + gs.length
    · rw [if_pos h, if_pos (by simp; omega), show k - c = (k - (c + 1)) + 1 by omega]; rfl
    · rw [if_neg h]
      by_cases h2 : k = c
      · subst h2
        rw [if_pos (by simp), Nat.sub_self]
        unfold upd; rw [if_pos rfl]; rfl
      · rw [if_neg (by simp; omega)]
        unfold upd; rw [if_neg h2]
theorem plc_no (c k : Nat) : plc c (-1) k = (k : Int) := by unfold plc; rw [if_neg (by simp)]
theorem lay16 (x : BitVec 128) (k : Nat) (v : Int) (hk : k < 8) : layW x k 16 v = x ||| (mkW 0 v <<< (112 - 16 * k)) := by
  unfold layW
  rw [show (128 - 16 * ((k : Int) + 1)).toNat = 112 - 16 * k by omega]
theorem lay16_zero (x : BitVec 128) (i : Int) : layW x i 16 0 = x := by
  unfold layW
  rw [show mkW 0 0 = 0#128 by decide +kernel, BitVec.zero_shiftLeft, BitVec.or_zero]
theorem six_gW (g : Nat → Int) (L : List Int) (h : ∀ k, k < 8 → g k = L.getD k 0) : ∀ k, k ≤ 8 → sixW g 8 (-1) k = gW L k <<< (128 - 16 * k) := by
  intro k
  induction k with
  | zero => intro _; show 0#128 = 0#128 <<< _; rw [BitVec.zero_shiftLeft]
  | succ k ih =>
    intro hk
    show layW (sixW g 8 (-1) k) (plc 8 (-1) k) 16 (g k) = ((gW L k <<< 16) ||| mkW 0 (L.getD k 0)) <<< (128 - 16 * (k + 1))
    rw [plc_no, lay16 _ _ _ (by omega), ih (by omega), h k (by omega), BitVec.shiftLeft_or_distrib, show 128 - 16 * (k + 1) = 112 - 16 * k by omega, show 128 - 16 * k = 16 + (112 - 16 * k) by omega, BitVec.shiftLeft_add]
theorem fin_no (gs : List Int) (h : gs.length ≤ 8) : (gs.length = 8 → finP (addL (fun _ => 0) 0 gs) gs.length (-1) = (gW gs 8, true)) ∧ (¬ gs.length = 8 → (finP (addL (fun _ => 0) 0 gs) gs.length (-1)).2 = false) := by
  refine ⟨fun h8 => ?_, fun h8 => ?_⟩
  · unfold finP finV finB
    rw [h8, if_pos (by simp)]
    have := six_gW (addL (fun _ => 0) 0 gs) gs (fun k hk => by rw [addL_get, if_pos (by omega), Nat.sub_zero]) 8 (by omega)
    rw [this, show 128 - 16 * 8 = 0 by omega, BitVec.shiftLeft_zero]
    simp
  · unfold finP finB
    simp [h8]
theorem fin_gap (A B : List Int) (h : A.length + B.length ≤ 7) :
    finP (addL (addL (fun _ => 0) 0 A) A.length B) (A.length + B.length) ((A.length : Nat) : Int) = (gW (A ++ List.replicate (8 - (A.length + B.length)) 0 ++ B) 8, true) := by
  have hp : ¬ ((A.length : Nat) : Int) = -1 := by omega
  have h8 : ¬ A.length + B.length = 8 := by omega
  have hF : ∀ k, addL (addL (fun _ => 0) 0 A) A.length B k = if A.length ≤ k ∧ k < A.length + B.length then B.getD (k - A.length) 0 else if k < A.length then A.getD k 0 else 0 := by
    intro k
    rw [addL_get, addL_get]
    by_cases h1 : A.length ≤ k ∧ k < A.length + B.length
    · rw [if_pos h1, if_pos h1]
    · rw [if_neg h1, if_neg h1]
      by_cases h2 : k < A.length
      · rw [if_pos (by omega), if_pos h2, Nat.sub_zero]
      · rw [if_neg (by omega), if_neg h2]
  generalize addL (addL (fun _ => 0) 0 A) A.length B = F at *
  obtain ⟨z, hz⟩ : ∃ z, 8 - (A.length + B.length) = z := ⟨_, rfl⟩
  rw [hz]
  obtain ⟨L, hL⟩ : ∃ L : List Int, A ++ List.replicate z 0 ++ B = L := ⟨_, rfl⟩
  rw [hL]
  have g1 : ∀ k, k < A.length → L.getD k 0 = A.getD k 0 := by
    intro k hk
    rw [← hL, List.append_assoc, List.getD_eq_getElem?_getD, List.getElem?_append_left hk, ← List.getD_eq_getElem?_getD]
  have g2 : ∀ k, A.length ≤ k → k < A.length + z → L.getD k 0 = 0 := by
    intro k h1 h2
    rw [← hL, List.append_assoc, List.getD_eq_getElem?_getD, List.getElem?_append_right h1, List.getElem?_append_left (by simp; omega), List.getElem?_replicate]
    split <;> rfl
  have g3 : ∀ k, k < B.length → L.getD (A.length + z + k) 0 = B.getD k 0 := by
    intro k hk
    rw [← hL, List.getD_eq_getElem?_getD, List.getElem?_append_right (by simp), List.getD_eq_getElem?_getD]
    congr 2
    simp
  have s1 : ∀ k, k ≤ A.length → sixW F (A.length + B.length) (A.length : Nat) k = sixW (fun k => L.getD k 0) 8 (-1) k := by
    intro k
    induction k with
    | zero => intro _; rfl
    | succ k ih =>
      intro hk
      show layW (sixW F _ _ k) (plc _ _ k) 16 (F k) = layW (sixW _ 8 (-1) k) (plc 8 (-1) k) 16 (L.getD k 0)
      rw [ih (by omega), plc_no, hF, if_neg (by omega), if_pos (by omega), g1 k (by omega)]
      unfold plc; rw [if_neg (by omega)]
  have s2 : ∀ m, m ≤ z → sixW (fun k => L.getD k 0) 8 (-1) (A.length + m) = sixW (fun k => L.getD k 0) 8 (-1) A.length := by
    intro m
    induction m with
    | zero => intro _; rfl
    | succ m ih =>
      intro hm
      show layW (sixW _ 8 (-1) (A.length + m)) (plc 8 (-1) (A.length + m)) 16 (L.getD (A.length + m) 0) = _
      rw [g2 _ (by omega) (by omega), lay16_zero, ih (by omega)]
  have s3 : ∀ m, m ≤ B.length → sixW F (A.length + B.length) (A.length : Nat) (A.length + m) = sixW (fun k => L.getD k 0) 8 (-1) (A.length + z + m) := by
    intro m
    induction m with
    | zero => intro _; rw [Nat.add_zero, Nat.add_zero, s1 _ (Nat.le_refl _), s2 z (Nat.le_refl _)]
    | succ m ih =>
      intro hm
      show layW (sixW F _ _ (A.length + m)) (plc _ _ (A.length + m)) 16 (F (A.length + m)) = layW (sixW _ 8 (-1) (A.length + z + m)) (plc 8 (-1) (A.length + z + m)) 16 (L.getD (A.length + z + m) 0)
      rw [ih (by omega), plc_no, hF, if_pos (by omega), show A.length + m - A.length = m by omega, g3 m (by omega)]
      have : plc (A.length + B.length) (A.length : Nat) (A.length + m) = ((A.length + z + m : Nat) : Int) := by
        unfold plc; rw [if_pos (by omega)]; omega
      rw [this]
  unfold finP finV finB
  rw [if_pos (by simp [hp, h8])]
  have e := s3 B.length (Nat.le_refl _)
  rw [show A.length + z + B.length = 8 by omega] at e
  rw [e, six_gW (fun k => L.getD k 0) L (fun k _ => rfl) 8 (by omega), show 128 - 16 * 8 = 0 by omega, BitVec.shiftLeft_zero]
  simp [hp, h8]
theorem fin_gap8 (f : Nat → Int) (n : Nat) (p : Int) (hp : ¬ p = -1) (h : n = 8) : (finP f n p).2 = false := by
  unfold finP finB
  simp [hp, h]

theorem gsO_full (T : ByteArray) (last : Bool) (h : ¬ T.size = 0) : gsO T last = gsP last T := if_neg h
theorem rest_eq (T : ByteArray) (A : List Int) (hA : A.length ≤ 8) :
    ((SS T (addL (fun _ => 0) 0 A) A.length ((A.length : Nat) : Int)).2 = (match gsO T true with | some B => decide (A.length + B.length ≤ 7) | none => false)) ∧
    (∀ B, gsO T true = some B → A.length + B.length ≤ 7 → (SS T (addL (fun _ => 0) 0 A) A.length ((A.length : Nat) : Int)).1 = gW (A ++ List.replicate (8 - (A.length + B.length)) 0 ++ B) 8) := by
  have hp : ¬ ((A.length : Nat) : Int) = -1 := by omega
  by_cases h0 : T.size = 0
  · rw [SS_nil T _ _ _ h0, show gsO T true = some [] from if_pos h0]
    by_cases h7 : A.length ≤ 7
    · have e := fin_gap A [] (by simp; exact h7)
      have e2 : addL (addL (fun _ => 0) 0 A) A.length [] = addL (fun _ => 0) 0 A := rfl
      rw [e2, List.length_nil, Nat.add_zero] at e
      rw [e]
      refine ⟨by simp [h7], fun B hB _ => ?_⟩
      injection hB with hB; subst hB
      rfl
    · rw [fin_gap8 _ _ _ hp (by omega)]
      refine ⟨by simp; omega, fun B hB h => ?_⟩
      injection hB with hB; subst hB
      simp at h; omega
  · rw [gsO_full T true h0, behind_gap T.size T _ _ _ (Nat.le_refl _) hA hp (by omega)]
    cases gsP true T with
    | none => exact ⟨rfl, fun B hB => by cases hB⟩
    | some B =>
      show (if A.length + B.length ≤ 8 then _ else _ : BitVec 128 × Bool).2 = decide (A.length + B.length ≤ 7) ∧ _
      by_cases h7 : A.length + B.length ≤ 7
      · rw [if_pos (by omega), fin_gap A B h7]
        refine ⟨by simp [h7], fun B' hB _ => ?_⟩
        injection hB with hB; subst hB
        show (if A.length + B.length ≤ 8 then _ else _ : BitVec 128 × Bool).1 = _
        rw [if_pos (by omega), fin_gap A B h7]
      · refine ⟨?_, fun B' hB h => by injection hB with hB; subst hB; omega⟩
        by_cases h8 : A.length + B.length ≤ 8
        · rw [if_pos h8, fin_gap8 _ _ _ hp (by omega)]; simp; omega
        · rw [if_neg h8]; simp; omega
theorem rsB_none1 (s : ByteArray) (k : Nat) (h : gsO (s.extract 0 k) false = none) : rsB s k = none := by unfold rsB; rw [h]
theorem rsB_none2 (s : ByteArray) (k : Nat) (A : List Int) (h : gsO (s.extract 0 k) false = some A) (h2 : gsO (s.extract (k + 2) s.size) true = none) : rsB s k = none := by unfold rsB; rw [h, h2]
theorem rsB_some (s : ByteArray) (k : Nat) (A B : List Int) (h : gsO (s.extract 0 k) false = some A) (h2 : gsO (s.extract (k + 2) s.size) true = some B) : rsB s k = if A.length + B.length ≤ 7 then some (A ++ List.replicate (8 - (A.length + B.length)) 0 ++ B) else none := by unfold rsB; rw [h, h2]
theorem six_gap (s : ByteArray) (k : Nat) (A : List Int) (x : BitVec 128 × Bool) (hA : gsO (s.extract 0 k) false = some A) (h8 : A.length ≤ 8) (hx : x = SS (s.extract (k + 2) s.size) (addL (fun _ => 0) 0 A) A.length ((A.length : Nat) : Int)) :
    x.2 = (rsB s k).isSome ∧ ∀ L, rsB s k = some L → x.1 = gW L 8 := by
  have hrs := rest_eq (s.extract (k + 2) s.size) A h8
  rw [← hx] at hrs
  clear hx
  obtain ⟨r1, r2⟩ := hrs
  rw [r1]
  cases hB : gsO (s.extract (k + 2) s.size) true with
  | none =>
    rw [rsB_none2 s k A hA hB]
    exact ⟨rfl, fun L hL => by cases hL⟩
  | some B =>
    rw [rsB_some s k A B hA hB]
    by_cases h7 : A.length + B.length ≤ 7
    · rw [if_pos h7]
      refine ⟨decide_eq_true h7, fun L hL => ?_⟩
      injection hL with hL
      rw [← hL]; exact r2 B hB h7
    · rw [if_neg h7]
      exact ⟨decide_eq_false h7, fun L hL => by cases hL⟩
theorem six_eq (s : ByteArray) : (six0 s).2 = (rsO s).isSome ∧ ∀ L, rsO s = some L → (six0 s).1 = gW L 8 := by
  by_cases hb : both s 0
  · have hgap := gap_at s 0 hb (fun m hm => by omega)
    have hlt := both_lt s 0 hb
    have e : six0 s = SS (s.extract 2 s.size) (fun _ => 0) 0 0 := by
      have h1 : six0 s = sixR s (s.size + 1) 2 (fun _ => 0) 0 0 := if_pos hb
      rw [h1]
      have h2 := sixR_shift s 2 (by omega) (s.size + 1) 0 (fun _ => 0) 0 0
      rw [Nat.add_zero] at h2
      rw [h2]
      have hz := size_sub s 2 s.size (Nat.le_refl _)
      exact sixR_fuel _ _ _ _ _ _ _ (by omega) (by omega)
    have hr : rsO s = rsB s 0 := by
      unfold rsO; rw [hgap, if_neg (by omega)]; rfl
    have hA : gsO (s.extract 0 0) false = some [] := if_pos (by rw [size_sub s 0 0 (by omega)])
    rw [hr]
    exact six_gap s 0 [] (six0 s) hA (by simp) e
  · have e : six0 s = SS s (fun _ => 0) 0 (-1) := if_neg hb
    rw [e]
    by_cases h0 : s.size = 0
    · have hg : gapV s = -1 := gap_none s (fun k q => by have := both_lt s k q; omega)
      have hr : rsO s = none := by
        unfold rsO rsA; rw [hg, if_pos (by omega), show gsO s true = some [] from if_pos h0]; rfl
      rw [SS_nil s _ _ _ h0, hr]
      exact ⟨by unfold finP finB; simp, fun L hL => by cases hL⟩
    · rw [ahead_gap s.size s _ _ (Nat.le_refl _) (by omega) (by omega) hb]
      rcases gapV_spec s with ⟨a, -⟩ | ⟨k, a, b, -⟩
      · rw [gapRes_no _ _ _ a]
        have hr : rsO s = rsA s := by unfold rsO; rw [a, if_pos (by omega)]
        rw [hr]
        unfold rsA
        rw [gsO_full s true h0]
        cases gsP true s with
        | none => exact ⟨rfl, fun L hL => by cases hL⟩
        | some gs =>
          have e1 : outG (some gs) (fun _ => 0) 0 (-1) = if gs.length ≤ 8 then finP (addL (fun _ => 0) 0 gs) gs.length (-1) else (0#128, false) := by
            unfold outG; simp only [Nat.zero_add]
          rw [e1]
          by_cases h8 : gs.length = 8
          · rw [if_pos (by omega), (fin_no gs (by omega)).1 h8]
            simp only [h8, if_true]
            exact ⟨rfl, fun L hL => by injection hL with hL; rw [hL]⟩
          · simp only [h8, if_false]
            refine ⟨?_, fun L hL => by cases hL⟩
            by_cases hl : gs.length ≤ 8
            · rw [if_pos hl, (fin_no gs hl).2 h8]; rfl
            · rw [if_neg hl]; rfl
      · rw [gapRes_at _ _ _ _ a]
        have hk := both_lt s k b
        have hk0 : ¬ k = 0 := fun q => by subst q; exact hb b
        have hr : rsO s = rsB s k := by unfold rsO; rw [a, if_neg (by omega), Int.toNat_natCast]
        rw [hr]
        have hfull := gsO_full (s.extract 0 k) false (by rw [size_sub s 0 k (by omega)]; omega)
        cases hA : gsP false (s.extract 0 k) with
        | none =>
          rw [rsB_none1 s k (by rw [hfull, hA])]
          exact ⟨rfl, fun L hL => by cases hL⟩
        | some A =>
          simp only [Nat.zero_add]
          by_cases h8 : A.length ≤ 8
          · rw [if_pos h8]
            exact six_gap s k A _ (by rw [hfull, hA]) h8 rfl
          · rw [if_neg h8]
            have hn : rsB s k = none := by
              cases hB : gsO (s.extract (k + 2) s.size) true with
              | none => exact rsB_none2 s k A (by rw [hfull, hA]) hB
              | some B => rw [rsB_some s k A B (by rw [hfull, hA]) hB, if_neg (by omega)]
            rw [hn]
            exact ⟨rfl, fun L hL => by cases hL⟩

theorem dot_size (T : ByteArray) : ∀ n p, p ≤ T.size → T.size - p ≤ n → (∀ q ∈ spl T 46 (T.size - p) p p, 0 ≤ octV q) → T.size - p + 1 ≤ 4 * (spl T 46 (T.size - p) p p).length := by
  intro n
  induction n with
  | zero =>
    intro p hp hn _
    have := (spl_len T 46 (T.size - p) p p).1
    omega
  | succ n ih =>
    intro p hp hn hall
    obtain ⟨j, hpj, hj, hno, hw⟩ := spl_next T 46 p hp
    have hpiece : 0 ≤ octV (T.extract p j) := by
      rcases hw with ⟨rfl, hs⟩ | ⟨_, _, hs⟩
      · exact hall _ (by rw [hs]; simp)
      · exact hall _ (by rw [hs]; simp)
    have h3 := (oct_facts _ hpiece).2.1
    rw [size_sub T p j hj] at h3
    rcases hw with ⟨rfl, hs⟩ | ⟨hlt, hc, hs⟩
    · rw [hs]; simp; omega
    · have := ih (j + 1) (by omega) (by omega) (fun q hq => hall q (by rw [hs]; exact List.mem_cons_of_mem _ hq))
      rw [hs, List.length_cons]; omega
theorem dot_short (T : ByteArray) (h : (dotO T).isSome = true) : T.size ≤ 15 := by
  obtain ⟨hl, hall⟩ := dotO_pieces T h
  have := dot_size T T.size 0 (by omega) (by omega) (by rw [Nat.sub_zero]; exact hall)
  rw [Nat.sub_zero, hl] at this
  omega
theorem gr_short (q : ByteArray) (h : ¬ grV q < 0) : q.size ≤ 4 := by
  unfold grV at h
  split at h
  · omega
  · omega
theorem gs_short (last : Bool) : ∀ n (T : ByteArray) (gs : List Int), T.size ≤ n → gsP last T = some gs → T.size + 1 ≤ 5 * gs.length + 6 := by
  intro n
  induction n with
  | zero => intro T gs h _; omega
  | succ n ih =>
    intro T gs hn h
    obtain ⟨j, hj, hno, hw⟩ := spl_first T 58
    rcases hw with ⟨rfl, hs⟩ | ⟨hlt, hcol, hs⟩
    · rw [gsP_one last T hs] at h
      split at h
      · rename_i hd
        have := dot_short T hd.2
        injection h with h
        subst h; simp; omega
      · split at h
        · cases h
        · rename_i hg
          have := gr_short T hg
          omega
    · rw [gsP_more last T j hs] at h
      split at h
      · cases h
      · rename_i hg
        have h4 := gr_short _ hg
        rw [size_sub T 0 j hj] at h4
        have hT := size_sub T (j + 1) T.size (Nat.le_refl _)
        cases hx : gsP last (T.extract (j + 1) T.size) with
        | none => rw [hx] at h; cases h
        | some g2 =>
          rw [hx] at h
          injection h with h
          subst h
          have := ih _ g2 (by omega) hx
          simp only [List.length_cons]; omega
theorem gsO_short (T : ByteArray) (last : Bool) (gs : List Int) (h : gsO T last = some gs) : T.size ≤ 5 * gs.length + 5 := by
  by_cases h0 : T.size = 0
  · omega
  · rw [gsO_full T last h0] at h
    have := gs_short last T.size T gs (Nat.le_refl _) h
    omega
theorem rs_short (s : ByteArray) (L : List Int) (h : rsO s = some L) : s.size ≤ 60 := by
  unfold rsO at h
  rcases gapV_spec s with ⟨a, -⟩ | ⟨k, a, b, -⟩
  · rw [a, if_pos (by omega)] at h
    unfold rsA at h
    cases hx : gsO s true with
    | none => rw [hx] at h; cases h
    | some m =>
      have := gsO_short s true m hx
      rw [hx] at h
      by_cases h8 : m.length = 8
      · omega
      · simp [h8] at h
  · rw [a, if_neg (by omega), Int.toNat_natCast] at h
    have hk := both_lt s k b
    cases hA : gsO (s.extract 0 k) false with
    | none => rw [rsB_none1 s k hA] at h; cases h
    | some A =>
      cases hB : gsO (s.extract (k + 2) s.size) true with
      | none => rw [rsB_none2 s k A hA hB] at h; cases h
      | some B =>
        rw [rsB_some s k A B hA hB] at h
        have h1 := gsO_short _ _ _ hA
        have h2 := gsO_short _ _ _ hB
        rw [size_sub s 0 k (by omega)] at h1
        rw [size_sub s (k + 2) s.size (Nat.le_refl _)] at h2
        by_cases h7 : A.length + B.length ≤ 7
        · omega
        · rw [if_neg h7] at h; cases h
theorem parse_eq (F : Int) (s : ByteArray) : apV F s = rpV F s ∧ apE F s = rpE F s := by
  unfold apV apE rpV rpE
  by_cases h32 : F = 32
  · subst h32
    have hf : fam 32 = true := by decide
    obtain ⟨e1, e2⟩ := four_eq s
    rw [hf]
    simp only [if_true, if_pos, Bool.true_eq_false, false_or, if_false]
    by_cases hl : 60 < s.size
    · have hb : fourB s = false := by
        rw [e1]
        cases hx : (dotO s).isSome with
        | false => rfl
        | true => have := dot_short s hx; omega
      rw [hb]
      simp [hl]
    · simp only [hl, if_false]
      cases hx : dotO s with
      | none => rw [e1, hx]; simp
      | some u => rw [e1, hx, e2 u hx]; simp
  · by_cases h128 : F = 128
    · subst h128
      have hf : fam 128 = true := by decide
      obtain ⟨e1, e2⟩ := six_eq s
      rw [hf]
      simp only [show ¬ (128 : Int) = 32 by decide, if_false, if_true, Bool.true_eq_false, false_or]
      by_cases hl : 60 < s.size
      · have hb : (six0 s).2 = false := by
          rw [e1]
          cases hx : rsO s with
          | none => rfl
          | some L => have := rs_short s L hx; omega
        rw [hb]
        simp [hl]
      · simp only [hl, if_false]
        cases hx : rsO s with
        | none => rw [e1, hx]; simp [outV, outE]
        | some L => rw [e1, hx, e2 L hx]; simp [outV, outE]
    · have hf : fam F = false := by unfold fam; simp [h32, h128]
      rw [hf]
      simp [h32, h128]
end Go.Proofs.YtmeaikmmhgmgnaaGreat
