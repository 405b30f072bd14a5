/-
  Plain facts: readSix behind a gap reads what the reference's groups read.
-/
import Derived.Test.YtpchhfhdepkbcaaDoorPure3
namespace Go.Proofs.YtpchhfhdepkbcaaDoor
open Go.RowKit
set_option linter.unusedSimpArgs false
set_option linter.unusedVariables false

theorem sixR_shift (s : ByteArray) (a : Nat) (ha : a ≤ s.size) : ∀ n b f c p, sixR s n (a + b) f c p = sixR (s.extract a s.size) n b f c p := by
  intro n
  induction n with
  | zero => intro b f c p; rfl
  | succ n ih =>
    intro b f c p
    have hT : (s.extract a s.size).size = s.size - a := size_sub s a s.size (Nat.le_refl _)
    have hE := ext_end s a b ha
    have hB : ∀ k, byteAt (s.extract a s.size) k = byteAt s (a + k) := fun k => byteAt_ext s a k
    have c1 : ((s.extract a s.size).size ≤ b) = (s.size ≤ a + b) := propext (by rw [hT]; omega)
    have c2 : ∀ z, (b + z = (s.extract a s.size).size) = (a + b + z = s.size) := fun z => propext (by rw [hT]; omega)
    have c3 : ∀ z, (1 < (s.extract a s.size).size - (b + z)) = (1 < s.size - (a + b + z)) := fun z => propext (by rw [hT]; omega)
    rw [sixR_succ, sixR_succ]
    rw [hE]
    generalize grpN (s.extract (a + b) s.size) = zz
    generalize grpV (s.extract (a + b) s.size) = v
    generalize fourB (s.extract (a + b) s.size) = fb
    generalize quadA (s.extract (a + b) s.size) = qa
    generalize quadB (s.extract (a + b) s.size) = qb
    simp only [hB, c1, c2, c3]
    rw [← ih (b + zz.toNat + 2), ← ih (b + zz.toNat + 1)]
    simp only [Nat.add_assoc]
theorem grpN_nn (T : ByteArray) : 0 ≤ grpN T := (grp_bd T).2.2.1
theorem sixR_fuel (s : ByteArray) : ∀ n m a f c p, s.size - a < n → s.size - a < m → sixR s n a f c p = sixR s m a f c p := by
  intro n
  induction n with
  | zero => intro m a f c p h; omega
  | succ n ih =>
    intro m a f c p hn hm
    obtain ⟨m, rfl⟩ : ∃ k, m = k + 1 := ⟨m - 1, by omega⟩
    rw [sixR_succ, sixR_succ]
    by_cases h0 : s.size ≤ a
    · rw [if_pos h0, if_pos h0]
    rw [if_neg h0, if_neg h0]
    by_cases h1 : byteAt s (a + (grpN (s.extract a s.size)).toNat) = 46
    · rw [if_pos h1, if_pos h1]
    rw [if_neg h1, if_neg h1]
    by_cases h2 : grpN (s.extract a s.size) = 0 ∨ c = 8
    · rw [if_pos h2, if_pos h2]
    rw [if_neg h2, if_neg h2]
    have hz : 1 ≤ (grpN (s.extract a s.size)).toNat := by
      have := grpN_nn (s.extract a s.size)
      omega
    rw [ih m (a + (grpN (s.extract a s.size)).toNat + 2) _ _ _ (by omega) (by omega), ih m (a + (grpN (s.extract a s.size)).toNat + 1) _ _ _ (by omega) (by omega)]

/-- A text read from its beginning, groups being there. -/
def SS (T : ByteArray) (f : Nat → Int) (c : Nat) (p : Int) : BitVec 128 × Bool := sixR T (T.size + 1) 0 f c p
def finP (f : Nat → Int) (c : Nat) (p : Int) : BitVec 128 × Bool := (finV f c p, finB c p)
def addL : (Nat → Int) → Nat → List Int → Nat → Int
  | f, _, [] => f
  | f, c, g :: gs => addL (upd f c g) (c + 1) gs
def outG (o : Option (List Int)) (f : Nat → Int) (c : Nat) (p : Int) : BitVec 128 × Bool := match o with
  | some gs => if c + gs.length ≤ 8 then finP (addL f c gs) (c + gs.length) p else (0#128, false)
  | none => (0#128, false)
theorem SS_tail (T : ByteArray) (a : Nat) (f : Nat → Int) (c : Nat) (p : Int) (h1 : 1 ≤ a) (h2 : a ≤ T.size) : sixR T T.size a f c p = SS (T.extract a T.size) f c p := by
  have h := sixR_shift T a h2 T.size 0 f c p
  rw [Nat.add_zero] at h
  rw [h]
  unfold SS
  have := size_sub T a T.size (Nat.le_refl _)
  exact sixR_fuel _ _ _ _ _ _ _ (by omega) (by omega)
theorem SS_step (T : ByteArray) (f : Nat → Int) (c : Nat) (p : Int) (z : Nat) (h : 0 < T.size) (hz : grpN T = z) :
    SS T f c p = if byteAt T z = 46 then (if fourB T = true ∧ c ≤ 6 then finP (upd (upd f c (quadA T)) (c + 1) (quadB T)) (c + 2) p else (0#128, false))
    else if z = 0 ∨ c = 8 then (0#128, false)
    else if z = T.size then finP (upd f c (grpV T)) (c + 1) p
    else if p = -1 ∧ byteAt T z = 58 ∧ byteAt T (z + 1) = 58 then SS (T.extract (z + 2) T.size) (upd f c (grpV T)) (c + 1) ((c : Int) + 1)
    else if 1 < T.size - z ∧ byteAt T z = 58 then SS (T.extract (z + 1) T.size) (upd f c (grpV T)) (c + 1) p
    else (0#128, false) := by
  conv => lhs; unfold SS
  rw [sixR_succ, if_neg (by omega), ext_all, hz, Int.toNat_natCast, Nat.zero_add]
  split
  · rfl
  · have e : ((z : Int) = 0 ∨ c = 8) = (z = 0 ∨ c = 8) := propext (by omega)
    simp only [e]
    split
    · rfl
    · split
      · rfl
      · split
        · rename_i hg
          have : z + 1 < T.size := by
            apply Classical.byContradiction; intro q
            rw [byteAt_end T (z + 1) (by omega)] at hg; omega
          exact SS_tail T (z + 2) _ _ _ (by omega) (by omega)
        · split
          · exact SS_tail T (z + 1) _ _ _ (by omega) (by omega)
          · rfl
theorem SS_nil (T : ByteArray) (f : Nat → Int) (c : Nat) (p : Int) (h : T.size = 0) : SS T f c p = finP f c p := by
  unfold SS
  rw [h, sixR_succ, if_pos (by omega)]; rfl

theorem quad_val (T : ByteArray) (u : Int) (h : dotO T = some u) : quadA T = u / 65536 ∧ quadB T = u % 65536 := by
  obtain ⟨u0, u1⟩ := dotO_bd T u h
  have hv := (four_eq T).2 u h
  obtain ⟨n, rfl⟩ := Int.eq_ofNat_of_zero_le u0
  have hn : (mkW ((n : Int) * 4294967296) 0).toNat = n * 79228162514264337593543950336 := by
    unfold mkW
    rw [BitVec.toNat_append, BitVec.toNat_ofInt, BitVec.toNat_ofInt]
    have e1 : ((n : Int) * 4294967296 % ((2 ^ 64 : Nat) : Int)).toNat = n * 4294967296 := by
      have : ((2 ^ 64 : Nat) : Int) = 18446744073709551616 := by decide
      rw [this]; omega
    rw [e1]
    simp [Nat.shiftLeft_eq]
    omega
  have lo : ∀ y : BitVec 128, y.toNat < 65536 → lI y = (y.toNat : Int) := by
    intro y hy
    unfold lI lv
    rw [BitVec.extractLsb'_toNat, Nat.shiftRight_zero, Nat.mod_eq_of_lt (by omega)]
  have a1 : ((fourV T <<< (16 * (0 : Int)).toNat) >>> (128 - (16 : Int)).toNat).toNat = n / 65536 := by
    rw [hv, show (16 * (0 : Int)).toNat = 0 by decide, show (128 - (16 : Int)).toNat = 112 by decide, BitVec.toNat_ushiftRight, BitVec.toNat_shiftLeft, hn, Nat.shiftLeft_zero, Nat.shiftRight_eq_div_pow]
    have e : (2 : Nat) ^ 112 = 5192296858534827628530496329220096 := by decide
    have e' : (2 : Nat) ^ 128 = 340282366920938463463374607431768211456 := by decide
    rw [e, e']; omega
  have a2 : ((fourV T <<< (16 * (1 : Int)).toNat) >>> (128 - (16 : Int)).toNat).toNat = n % 65536 := by
    rw [hv, show (16 * (1 : Int)).toNat = 16 by decide, show (128 - (16 : Int)).toNat = 112 by decide, BitVec.toNat_ushiftRight, BitVec.toNat_shiftLeft, hn, Nat.shiftLeft_eq, Nat.shiftRight_eq_div_pow]
    have e : (2 : Nat) ^ 112 = 5192296858534827628530496329220096 := by decide
    have e' : (2 : Nat) ^ 128 = 340282366920938463463374607431768211456 := by decide
    have e'' : (2 : Nat) ^ 16 = 65536 := by decide
    rw [e, e', e'']; omega
  unfold quadA quadB
  rw [lo _ (by rw [a1]; omega), lo _ (by rw [a2]; omega), a1, a2]
  omega

theorem gsP_empty (last : Bool) (T : ByteArray) (h : T.size = 0) : gsP last T = none := by
  have hs : spl T 58 T.size 0 0 = [T] := by
    rw [h]
    show [T.extract 0 T.size] = [T]
    rw [ext_all]
  have hd : (dotO T).isSome = false := by
    cases hx : (dotO T).isSome with
    | false => rfl
    | true =>
      have := dot_first T hx
      rw [byteAt_end T _ (by omega)] at this; omega
  rw [gsP_one last T hs, if_neg (by rw [hd]; simp)]
  rw [if_pos]
  unfold grV; rw [if_pos (Or.inl (by omega))]; omega
theorem outG_map (v : Int) (o : Option (List Int)) (f : Nat → Int) (c : Nat) (p : Int) : outG (o.map (v :: ·)) f c p = outG o (upd f c v) (c + 1) p := by
  cases o with
  | none => rfl
  | some gs =>
    show (if c + (gs.length + 1) ≤ 8 then finP (addL f c (v :: gs)) (c + (gs.length + 1)) p else (0#128, false)) = (if c + 1 + gs.length ≤ 8 then finP (addL (upd f c v) (c + 1) gs) (c + 1 + gs.length) p else (0#128, false))
    rw [show c + (gs.length + 1) = c + 1 + gs.length by omega]; rfl

/-- A text without a colon: one group, or the other family. -/
theorem last_piece (T : ByteArray) (f : Nat → Int) (c : Nat) (p : Int) (h0 : 0 < T.size) (hc : c ≤ 8) (hno : ∀ k, k < T.size → ¬ byteAt T k = 58) (hs : spl T 58 T.size 0 0 = [T]) : SS T f c p = outG (gsP true T) f c p := by
  obtain ⟨z, hz⟩ := Int.eq_ofNat_of_zero_le (grpN_nn T)
  have hgp := grp_piece T T.size (Nat.le_refl _) (Or.inl rfl)
  rw [ext_all] at hgp
  have hzn : ¬ byteAt T z = 58 := by
    by_cases q : z < T.size
    · exact hno z q
    · rw [byteAt_end T z (by omega)]; omega
  rw [SS_step T f c p z h0 hz, gsP_one true T hs]
  by_cases hd : byteAt T z = 46
  · rw [if_pos hd]
    cases hx : dotO T with
    | none =>
      have hf : fourB T = false := by rw [(four_eq T).1, hx]; rfl
      rw [hf, if_neg (by simp), if_neg (by simp)]
      have hg : grV T < 0 := by
        apply Classical.byContradiction; intro q
        have := (hgp.1 (by omega)).2.1
        have e : z = T.size := by omega
        rw [e, byteAt_end T T.size (Nat.le_refl _)] at hd; omega
      rw [if_pos hg]; rfl
    | some u =>
      have hf : fourB T = true := by rw [(four_eq T).1, hx]; rfl
      obtain ⟨q1, q2⟩ := quad_val T u hx
      rw [hf, if_pos (show true = true ∧ (some u).isSome = true from ⟨rfl, rfl⟩), q1, q2]
      show _ = (if c + 2 ≤ 8 then finP _ _ _ else _)
      by_cases h6 : c ≤ 6
      · rw [if_pos ⟨rfl, h6⟩, if_pos (by omega)]; rfl
      · rw [if_neg (by simp [h6]), if_neg (by omega)]
  · rw [if_neg hd]
    have hx : (dotO T).isSome = false := by
      cases hq : (dotO T).isSome with
      | false => rfl
      | true =>
        have := dot_first T hq
        rw [hz, Int.toNat_natCast] at this
        exact absurd this hd
    rw [hx, if_neg (show ¬ (true = true ∧ false = true) by simp)]
    by_cases hg : grV T < 0
    · rw [if_pos hg]
      split
      · rfl
      · rename_i h1
        obtain ⟨z', e1, e2⟩ := hgp.2 hg
        have : z' = z := by omega
        subst this
        rw [if_neg (by omega), if_neg (fun q => hzn q.2.1), if_neg (fun q => hzn q.2)]; rfl
    · rw [if_neg hg]
      obtain ⟨e1, e2, e3⟩ := hgp.1 (by omega)
      have hzT : z = T.size := by omega
      show _ = (if c + 1 ≤ 8 then finP _ _ _ else _)
      by_cases h8 : c = 8
      · rw [if_pos (Or.inr h8), if_neg (by omega)]
      · rw [if_neg (by omega), if_pos hzT, if_pos (by omega), e1]; rfl
/-- A first piece that is no group ends it. -/
theorem bad_piece (T : ByteArray) (f : Nat → Int) (c : Nat) (p : Int) (j : Nat) (hj : j < T.size) (hno : ∀ k, k < j → ¬ byteAt T k = 58) (hc : byteAt T j = 58) (hg : grV (T.extract 0 j) < 0) : SS T f c p = (0#128, false) := by
  obtain ⟨z, hz, hz2⟩ := (grp_piece T j (by omega) (Or.inr (by rw [hc]; decide))).2 hg
  rw [SS_step T f c p z (by omega) hz]
  by_cases hd : byteAt T z = 46
  · rw [if_pos hd]
    have hx : fourB T = false := by
      rw [(four_eq T).1]
      cases hq : (dotO T).isSome with
      | false => rfl
      | true => exact absurd hc (dot_no_colon T hq j hj)
    rw [hx, if_neg (by simp)]
  · rw [if_neg hd]
    split
    · rfl
    · rename_i h1
      have hzj : z < j := by omega
      rw [if_neg (by omega), if_neg (fun q => hno z hzj q.2.1), if_neg (fun q => hno z hzj q.2)]

theorem behind_gap : ∀ n (T : ByteArray) (f : Nat → Int) (c : Nat) (p : Int), T.size ≤ n → c ≤ 8 → ¬ p = -1 → 0 < T.size → SS T f c p = outG (gsP true T) f c p := by
  intro n
  induction n with
  | zero => intro T f c p h _ _ h0; omega
  | succ n ih =>
    intro T f c p hn hc hp h0
    obtain ⟨j, hj, hno, hw⟩ := spl_first T 58
    rcases hw with ⟨rfl, hs⟩ | ⟨hlt, hcol, hs⟩
    · exact last_piece T f c p h0 hc hno hs
    · rw [gsP_more true T j hs]
      by_cases hg : grV (T.extract 0 j) < 0
      · rw [if_pos hg, bad_piece T f c p j hlt hno hcol hg]; rfl
      · rw [if_neg hg]
        obtain ⟨e1, e2, e3⟩ := (grp_piece T j hj (Or.inr (by rw [hcol]; decide))).1 (by omega)
        rw [SS_step T f c p j h0 e2, if_neg (by rw [hcol]; omega), e1, outG_map]
        have hTs := size_sub T (j + 1) T.size (Nat.le_refl _)
        by_cases h8 : c = 8
        · rw [if_pos (Or.inr h8)]
          cases gsP true (T.extract (j + 1) T.size) with
          | none => rfl
          | some gs =>
            show _ = (if c + 1 + gs.length ≤ 8 then _ else _)
            rw [if_neg (by omega)]
        · rw [if_neg (by omega), if_neg (by omega), if_neg (fun q => hp q.1)]
          by_cases h1 : 1 < T.size - j
          · rw [if_pos ⟨h1, hcol⟩]
            exact ih _ _ _ _ (by omega) (by omega) hp (by omega)
          · rw [if_neg (fun q => h1 q.1), gsP_empty true _ (by omega)]; rfl
end Go.Proofs.YtpchhfhdepkbcaaDoor
