/-
  Plain facts: readSix ahead of a gap.
-/
import Derived.Test.YtpchhfhdepkbcaaDoorPure4
namespace Go.Proofs.YtpchhfhdepkbcaaDoor
open Go.RowKit
set_option linter.unusedSimpArgs false
set_option linter.unusedVariables false

def both (T : ByteArray) (k : Nat) : Prop := byteAt T k = 58 ∧ byteAt T (k + 1) = 58
theorem both_lt (T : ByteArray) (k : Nat) (h : both T k) : k + 1 < T.size := by
  apply Classical.byContradiction; intro q
  have := h.2
  rw [byteAt_end T (k + 1) (by omega)] at this; omega
theorem gapG_spec (T : ByteArray) : ∀ f i, T.size < i + f → (gapG T f i = -1 ∧ ∀ k, i ≤ k → ¬ both T k) ∨ (∃ k, i ≤ k ∧ gapG T f i = (k : Int) ∧ both T k ∧ ∀ m, i ≤ m → m < k → ¬ both T m) := by
  intro f
  induction f with
  | zero =>
    intro i h
    exact Or.inl ⟨rfl, fun k hk hb => by have := both_lt T k hb; omega⟩
  | succ f ih =>
    intro i h
    by_cases h1 : i + 1 < T.size
    · by_cases h2 : byteAt T i = 58 ∧ byteAt T (i + 1) = 58
      · right
        refine ⟨i, Nat.le_refl _, ?_, h2, fun m h3 h4 => by omega⟩
        show (if _ then _ else _) = _
        rw [if_pos h1, if_pos h2]
      · have e : gapG T (f + 1) i = gapG T f (i + 1) := by
          show (if _ then _ else _) = _
          rw [if_pos h1, if_neg h2]
        rw [e]
        rcases ih (i + 1) (by omega) with ⟨a, b⟩ | ⟨k, a, b, d, g⟩
        · left
          refine ⟨a, fun k hk => ?_⟩
          by_cases q : k = i
          · subst q; exact h2
          · exact b k (by omega)
        · right
          refine ⟨k, by omega, b, d, fun m hm1 hm2 => ?_⟩
          by_cases q : m = i
          · subst q; exact h2
          · exact g m (by omega) hm2
    · left
      exact ⟨if_neg h1, fun k hk hb => by have := both_lt T k hb; omega⟩
theorem gapV_spec (T : ByteArray) : (gapV T = -1 ∧ ∀ k, ¬ both T k) ∨ (∃ k : Nat, gapV T = (k : Int) ∧ both T k ∧ ∀ m, m < k → ¬ both T m) := by
  rcases gapG_spec T (T.size + 1) 0 (by omega) with ⟨a, b⟩ | ⟨k, -, b, d, g⟩
  · exact Or.inl ⟨a, fun k => b k (by omega)⟩
  · exact Or.inr ⟨k, b, d, fun m hm => g m (by omega) hm⟩
theorem gap_none (T : ByteArray) (hno : ∀ k, ¬ both T k) : gapV T = -1 := by
  rcases gapV_spec T with ⟨a, -⟩ | ⟨k, -, b, -⟩
  · exact a
  · exact absurd b (hno k)
theorem gap_at (T : ByteArray) (j : Nat) (hb : both T j) (hno : ∀ m, m < j → ¬ both T m) : gapV T = (j : Int) := by
  rcases gapV_spec T with ⟨-, b⟩ | ⟨k, a, b, d⟩
  · exact absurd hb (b j)
  · have : k = j := by
      rcases Nat.lt_trichotomy k j with h | h | h
      · exact absurd b (hno k h)
      · exact h
      · exact absurd hb (d j h)
    rw [a, this]
theorem both_shift (T : ByteArray) (a k : Nat) : both (T.extract a T.size) k ↔ both T (a + k) := by
  unfold both
  rw [byteAt_ext, byteAt_ext]; rfl
theorem gap_tail (T : ByteArray) (j : Nat) (hj : j < T.size) (hno : ∀ k, k < j → ¬ byteAt T k = 58) (hb : ¬ both T j) :
    (gapV (T.extract (j + 1) T.size) = -1 ∧ gapV T = -1) ∨ (∃ k : Nat, gapV (T.extract (j + 1) T.size) = (k : Int) ∧ gapV T = ((j + 1 + k : Nat) : Int)) := by
  have hlow : ∀ m, m < j + 1 → ¬ both T m := fun m hm q => by
    by_cases h : m = j
    · subst h; exact hb q
    · exact hno m (by omega) q.1
  rcases gapV_spec (T.extract (j + 1) T.size) with ⟨a, b⟩ | ⟨k, a, b, d⟩
  · left
    refine ⟨a, gap_none T (fun k q => ?_)⟩
    by_cases h : k < j + 1
    · exact hlow k h q
    · exact b (k - (j + 1)) ((both_shift T (j + 1) _).mpr (by rw [show j + 1 + (k - (j + 1)) = k by omega]; exact q))
  · right
    refine ⟨k, a, gap_at T (j + 1 + k) ((both_shift T (j + 1) k).mp b) (fun m hm q => ?_)⟩
    by_cases h : m < j + 1
    · exact hlow m h q
    · exact d (m - (j + 1)) (by omega) ((both_shift T (j + 1) _).mpr (by rw [show j + 1 + (m - (j + 1)) = m by omega]; exact q))

/-- The pieces of a text's beginning. -/
theorem pre_one (T : ByteArray) (j : Nat) (hj : j ≤ T.size) (hno : ∀ k, k < j → ¬ byteAt T k = 58) : spl (T.extract 0 j) 58 (T.extract 0 j).size 0 0 = [T.extract 0 j] := by
  obtain ⟨i, hi, -, hw⟩ := spl_first (T.extract 0 j) 58
  have hs := size_sub T 0 j hj
  rcases hw with ⟨-, h⟩ | ⟨hlt, hc, -⟩
  · exact h
  · exfalso
    rw [byteAt_sub T 0 j i hj, if_pos (by omega), Nat.zero_add] at hc
    exact hno i (by omega) hc
theorem pre_more (T : ByteArray) (j k : Nat) (hk : k ≤ T.size) (hjk : j < k) (hno : ∀ m, m < j → ¬ byteAt T m = 58) (hc : byteAt T j = 58) :
    spl (T.extract 0 k) 58 (T.extract 0 k).size 0 0 = (T.extract 0 k).extract 0 j :: spl ((T.extract 0 k).extract (j + 1) (T.extract 0 k).size) 58 ((T.extract 0 k).extract (j + 1) (T.extract 0 k).size).size 0 0 := by
  obtain ⟨i, hi, hn2, hw⟩ := spl_first (T.extract 0 k) 58
  have hs := size_sub T 0 k hk
  have hbj : byteAt (T.extract 0 k) j = 58 := by rw [byteAt_sub T 0 k j hk, if_pos (by omega), Nat.zero_add]; exact hc
  rcases hw with ⟨he, -⟩ | ⟨hlt, hci, h⟩
  · exact absurd hbj (hn2 j (by omega))
  · have : i = j := by
      rcases Nat.lt_trichotomy i j with q | q | q
      · exfalso
        rw [byteAt_sub T 0 k i hk, if_pos (by omega), Nat.zero_add] at hci
        exact hno i q hci
      · exact q
      · exact absurd hbj (hn2 j q)
    subst this
    exact h
theorem sub_sub (T : ByteArray) (a j k : Nat) (hk : k ≤ T.size) (hj : j ≤ k) : (T.extract 0 k).extract a j = T.extract a j := by
  rw [Lib.extract_eq, Lib.extract_data, Lib.extract_eq, List.drop_zero, Nat.sub_zero, List.drop_take, List.take_take]
  congr 3
  omega
theorem sub_tail (T : ByteArray) (a k : Nat) (h : a + k ≤ T.size) : (T.extract a T.size).extract 0 k = T.extract a (a + k) := by
  rw [ext_ext T a 0 k h, Nat.add_zero]

def gapRes (T : ByteArray) (f : Nat → Int) (c : Nat) : BitVec 128 × Bool :=
  if gapV T < 0 then outG (gsP true T) f c (-1) else
  match gsP false (T.extract 0 (gapV T).toNat) with
  | some ag => if c + ag.length ≤ 8 then SS (T.extract ((gapV T).toNat + 2) T.size) (addL f c ag) (c + ag.length) ((c + ag.length : Nat) : Int) else (0#128, false)
  | none => (0#128, false)
theorem gapRes_no (T : ByteArray) (f : Nat → Int) (c : Nat) (h : gapV T = -1) : gapRes T f c = outG (gsP true T) f c (-1) := by
  unfold gapRes; rw [h, if_pos (by omega)]
theorem gapRes_at (T : ByteArray) (f : Nat → Int) (c k : Nat) (h : gapV T = (k : Int)) : gapRes T f c = match gsP false (T.extract 0 k) with
  | some ag => if c + ag.length ≤ 8 then SS (T.extract (k + 2) T.size) (addL f c ag) (c + ag.length) ((c + ag.length : Nat) : Int) else (0#128, false)
  | none => (0#128, false) := by
  unfold gapRes; rw [h, if_neg (by omega), Int.toNat_natCast]
theorem outG_full (o : Option (List Int)) (f : Nat → Int) (p : Int) : outG o f 9 p = (0#128, false) := by
  cases o with
  | none => rfl
  | some gs =>
    show (if 9 + gs.length ≤ 8 then _ else _) = _
    rw [if_neg (by omega)]

theorem ahead_gap : ∀ n (T : ByteArray) (f : Nat → Int) (c : Nat), T.size ≤ n → 0 < T.size → c ≤ 8 → ¬ both T 0 → SS T f c (-1) = gapRes T f c := by
  intro n
  induction n with
  | zero => intro T f c h h0; omega
  | succ n ih =>
    intro T f c hn h0 hc hb0
    obtain ⟨j, hj, hno, hw⟩ := spl_first T 58
    rcases hw with ⟨rfl, hs⟩ | ⟨hlt, hcol, hs⟩
    · rw [gapRes_no T f c (gap_none T (fun k q => by
        have := both_lt T k q
        exact hno k (by omega) q.1))]
      exact last_piece T f c (-1) h0 hc hno hs
    · have hlow : ∀ m, m < j → ¬ both T m := fun m hm q => hno m hm q.1
      by_cases hg : grV (T.extract 0 j) < 0
      · rw [bad_piece T f c (-1) j hlt hno hcol hg]
        rcases gapV_spec T with ⟨a, -⟩ | ⟨k, a, b, d⟩
        · rw [gapRes_no T f c a, gsP_more true T j hs, if_pos hg]; rfl
        · rw [gapRes_at T f c k a]
          have hkj : j ≤ k := by
            apply Classical.byContradiction; intro q
            exact hno k (by omega) b.1
          have hk1 := both_lt T k b
          have : gsP false (T.extract 0 k) = none := by
            by_cases e : k = j
            · subst e
              rw [gsP_one false _ (pre_one T k hj hno), if_neg (by simp), if_pos hg]
            · rw [gsP_more false _ j (pre_more T j k (by omega) (by omega) hno hcol), sub_sub T 0 j k (by omega) (by omega), if_pos hg]
          rw [this]
      · obtain ⟨e1, e2, e3⟩ := (grp_piece T j hj (Or.inr (by rw [hcol]; decide))).1 (by omega)
        have hTs := size_sub T (j + 1) T.size (Nat.le_refl _)
        rw [SS_step T f c (-1) j h0 e2, if_neg (by rw [hcol]; omega), e1]
        by_cases hbj : both T j
        · have hgap := gap_at T j hbj hlow
          rw [gapRes_at T f c j hgap, gsP_one false _ (pre_one T j hj hno), if_neg (show ¬ (false = true ∧ _) by simp), if_neg hg]
          show _ = (if c + 1 ≤ 8 then _ else _)
          by_cases h8 : c = 8
          · rw [if_pos (Or.inr h8), if_neg (by omega)]
          · rw [if_neg (by omega), if_neg (by omega), if_pos ⟨rfl, hbj⟩, if_pos (by omega)]
            rfl
        · have key : gapRes T f c = gapRes (T.extract (j + 1) T.size) (upd f c (grV (T.extract 0 j))) (c + 1) := by
            rcases gap_tail T j hlt hno hbj with ⟨a, b⟩ | ⟨k, a, b⟩
            · rw [gapRes_no _ _ _ a, gapRes_no _ _ _ b, gsP_more true T j hs, if_neg hg, outG_map]
            · have hk1 : both T (j + 1 + k) := by
                rcases gapV_spec T with ⟨q, -⟩ | ⟨m, q, q2, -⟩
                · rw [q] at b; omega
                · have : m = j + 1 + k := by omega
                  subst this; exact q2
              have hk2 := both_lt T _ hk1
              rw [gapRes_at _ _ _ _ a, gapRes_at _ _ _ _ b, gsP_more false _ j (pre_more T j (j + 1 + k) (by omega) (by omega) hno hcol), sub_sub T 0 j _ (by omega) (by omega), if_neg hg, size_sub T 0 (j + 1 + k) (by omega), Nat.sub_zero, sub_sub T (j + 1) (j + 1 + k) _ (by omega) (by omega), sub_tail T (j + 1) k (by omega), ext_end T (j + 1) (k + 2) (by omega)]
              cases gsP false (T.extract (j + 1) (j + 1 + k)) with
              | none => rfl
              | some ag =>
                show (if c + (ag.length + 1) ≤ 8 then SS (T.extract (j + 1 + k + 2) T.size) (addL f c (grV (T.extract 0 j) :: ag)) (c + (ag.length + 1)) ((c + (ag.length + 1) : Nat) : Int) else (0#128, false)) = (if c + 1 + ag.length ≤ 8 then SS (T.extract (j + 1 + (k + 2)) T.size) (addL (upd f c (grV (T.extract 0 j))) (c + 1) ag) (c + 1 + ag.length) ((c + 1 + ag.length : Nat) : Int) else (0#128, false))
                rw [show c + (ag.length + 1) = c + 1 + ag.length by omega, show j + 1 + k + 2 = j + 1 + (k + 2) by omega]; rfl
          rw [key]
          by_cases h8 : c = 8
          · rw [if_pos (Or.inr h8)]
            subst h8
            rcases gapV_spec (T.extract (j + 1) T.size) with ⟨a, -⟩ | ⟨k, a, -, -⟩
            · rw [gapRes_no _ _ _ a, outG_full]
            · rw [gapRes_at _ _ _ _ a]
              cases gsP false ((T.extract (j + 1) T.size).extract 0 k) with
              | none => rfl
              | some ag =>
                show _ = (if 9 + ag.length ≤ 8 then _ else _)
                rw [if_neg (by omega)]
          · rw [if_neg (by omega), if_neg (by omega), if_neg (fun q => hbj q.2)]
            by_cases h1 : 1 < T.size - j
            · rw [if_pos ⟨h1, hcol⟩]
              refine ih _ _ _ (by omega) (by omega) (by omega) (fun q => ?_)
              have := (both_shift T (j + 1) 0).mp q
              exact hbj ⟨hcol, by have := this.1; rw [Nat.add_zero] at this; exact this⟩
            · rw [if_neg (fun q => h1 q.1), gapRes_no _ _ _ (gap_none _ (fun k q => by
                have := both_lt _ k q
                omega)), gsP_empty true _ (by omega)]
              rfl
end Go.Proofs.YtpchhfhdepkbcaaDoor
