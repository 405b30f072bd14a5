/-
  Part 15 of the proof: 6 texts, one behind the other.
-/
import Derived.Test.YtdgmfdfhbhmppaaDoorPart14
import Derived.Test.YtdgmfdfhbhmppaaDoorPart13
import Derived.Test.YtdgmfdfhbhmppaaDoorPart7
import Derived.Test.YtdgmfdfhbhmppaaDoorPart11
/-
  Plain facts: readSix ahead of a gap.
-/
namespace Go.Proofs.YtdgmfdfhbhmppaaDoor
open Go.RowKit
set_option linter.unusedSimpArgs false
set_option linter.unusedVariables false

def both (T : ByteArray) (k : Nat) : Prop := byteAt T k = 58 ∧ byteAt T (k + 1) = 58
theorem both_lt (T : ByteArray) (k : Nat) (h : both T k) : k + 1 < T.size := by
  apply Classical.byContradiction; intro q
  have := h.2
  rw [byteAt_end T (k + 1) (by omega)] at this; omega
theorem gapG_spec (T : ByteArray) : ∀ f i, T.size < i + f → (gapG T f i = -1 ∧ ∀ k, i ≤ k → ¬ both T k) ∨ (∃ k, i ≤ k ∧ gapG T f i = (k : Int) ∧ both T k ∧ ∀ m, i ≤ m → m < k → ¬ both T m) := by
  intro f
  induction f with
  | zero =>
    intro i h
    exact Or.inl ⟨rfl, fun k hk hb => by have := both_lt T k hb; omega⟩
  | succ f ih =>
    intro i h
    by_cases h1 : i + 1 < T.size
    · by_cases h2 : byteAt T i = 58 ∧ byteAt T (i + 1) = 58
      · right
        refine ⟨i, Nat.le_refl _, ?_, h2, fun m h3 h4 => by omega⟩
        show (if _ then _ else _) = _
        rw [if_pos h1, if_pos h2]
      · have e : gapG T (f + 1) i = gapG T f (i + 1) := by
          show (if _ then _ else _) = _
          rw [if_pos h1, if_neg h2]
        rw [e]
        rcases ih (i + 1) (by omega) with ⟨a, b⟩ | ⟨k, a, b, d, g⟩
        · left
          refine ⟨a, fun k hk => ?_⟩
          by_cases q : k = i
          · subst q; exact h2
          · exact b k (by omega)
        · right
          refine ⟨k, by omega, b, d, fun m hm1 hm2 => ?_⟩
          by_cases q : m = i
          · subst q; exact h2
          · exact g m (by omega) hm2
    · left
      exact ⟨if_neg h1, fun k hk hb => by have := both_lt T k hb; omega⟩
theorem gapV_spec (T : ByteArray) : (gapV T = -1 ∧ ∀ k, ¬ both T k) ∨ (∃ k : Nat, gapV T = (k : Int) ∧ both T k ∧ ∀ m, m < k → ¬ both T m) := by
  rcases gapG_spec T (T.size + 1) 0 (by omega) with ⟨a, b⟩ | ⟨k, -, b, d, g⟩
  · exact Or.inl ⟨a, fun k => b k (by omega)⟩
  · exact Or.inr ⟨k, b, d, fun m hm => g m (by omega) hm⟩
theorem gap_none (T : ByteArray) (hno : ∀ k, ¬ both T k) : gapV T = -1 := by
  rcases gapV_spec T with ⟨a, -⟩ | ⟨k, -, b, -⟩
  · exact a
  · exact absurd b (hno k)
theorem gap_at (T : ByteArray) (j : Nat) (hb : both T j) (hno : ∀ m, m < j → ¬ both T m) : gapV T = (j : Int) := by
  rcases gapV_spec T with ⟨-, b⟩ | ⟨k, a, b, d⟩
  · exact absurd hb (b j)
  · have : k = j := by
      rcases Nat.lt_trichotomy k j with h | h | h
      · exact absurd b (hno k h)
      · exact h
      · exact absurd hb (d j h)
    rw [a, this]
theorem both_shift (T : ByteArray) (a k : Nat) : both (T.extract a T.size) k ↔ both T (a + k) := by
  unfold both
  rw [byteAt_ext, byteAt_ext]; rfl
theorem gap_tail (T : ByteArray) (j : Nat) (hj : j < T.size) (hno : ∀ k, k < j → ¬ byteAt T k = 58) (hb : ¬ both T j) :
    (gapV (T.extract (j + 1) T.size) = -1 ∧ gapV T = -1) ∨ (∃ k : Nat, gapV (T.extract (j + 1) T.size) = (k : Int) ∧ gapV T = ((j + 1 + k : Nat) : Int)) := by
  have hlow : ∀ m, m < j + 1 → ¬ both T m := fun m hm q => by
    by_cases h : m = j
    · subst h; exact hb q
    · exact hno m (by omega) q.1
  rcases gapV_spec (T.extract (j + 1) T.size) with ⟨a, b⟩ | ⟨k, a, b, d⟩
  · left
    refine ⟨a, gap_none T (fun k q => ?_)⟩
    by_cases h : k < j + 1
    · exact hlow k h q
    · exact b (k - (j + 1)) ((both_shift T (j + 1) _).mpr (by rw [show j + 1 + (k - (j + 1)) = k by omega]; exact q))
  · right
    refine ⟨k, a, gap_at T (j + 1 + k) ((both_shift T (j + 1) k).mp b) (fun m hm q => ?_)⟩
    by_cases h : m < j + 1
    · exact hlow m h q
    · exact d (m - (j + 1)) (by omega) ((both_shift T (j + 1) _).mpr (by rw [show j + 1 + (m - (j + 1)) = m by omega]; exact q))

/-- The pieces of a text's beginning. -/
theorem pre_one (T : ByteArray) (j : Nat) (hj : j ≤ T.size) (hno : ∀ k, k < j → ¬ byteAt T k = 58) : spl (T.extract 0 j) 58 (T.extract 0 j).size 0 0 = [T.extract 0 j] := by
  obtain ⟨i, hi, -, hw⟩ := spl_first (T.extract 0 j) 58
  have hs := size_sub T 0 j hj
  rcases hw with ⟨-, h⟩ | ⟨hlt, hc, -⟩
  · exact h
  · exfalso
    rw [byteAt_sub T 0 j i hj, if_pos (by omega), Nat.zero_add] at hc
    exact hno i (by omega) hc
theorem pre_more (T : ByteArray) (j k : Nat) (hk : k ≤ T.size) (hjk : j < k) (hno : ∀ m, m < j → ¬ byteAt T m = 58) (hc : byteAt T j = 58) :
    spl (T.extract 0 k) 58 (T.extract 0 k).size 0 0 = (T.extract 0 k).extract 0 j :: spl ((T.extract 0 k).extract (j + 1) (T.extract 0 k).size) 58 ((T.extract 0 k).extract (j + 1) (T.extract 0 k).size).size 0 0 := by
  obtain ⟨i, hi, hn2, hw⟩ := spl_first (T.extract 0 k) 58
  have hs := size_sub T 0 k hk
  have hbj : byteAt (T.extract 0 k) j = 58 := by rw [byteAt_sub T 0 k j hk, if_pos (by omega), Nat.zero_add]; exact hc
  rcases hw with ⟨he, -⟩ | ⟨hlt, hci, h⟩
  · exact absurd hbj (hn2 j (by omega))
  · have : i = j := by
      rcases Nat.lt_trichotomy i j with q | q | q
      · exfalso
        rw [byteAt_sub T 0 k i hk, if_pos (by omega), Nat.zero_add] at hci
        exact hno i q hci
      · exact q
      · exact absurd hbj (hn2 j q)
    subst this
    exact h
theorem sub_sub (T : ByteArray) (a j k : Nat) (hk : k ≤ T.size) (hj : j ≤ k) : (T.extract 0 k).extract a j = T.extract a j := by
  rw [Lib.extract_eq, Lib.extract_data, Lib.extract_eq, List.drop_zero, Nat.sub_zero, List.drop_take, List.take_take]
  congr 3
  omega
theorem sub_tail (T : ByteArray) (a k : Nat) (h : a + k ≤ T.size) : (T.extract a T.size).extract 0 k = T.extract a (a + k) := by
  rw [ext_ext T a 0 k h, Nat.add_zero]

def gapRes (T : ByteArray) (f : Nat → Int) (c : Nat) : BitVec 128 × Bool :=
  if gapV T < 0 then outG (gsP true T) f c (-1) else
  match gsP false (T.extract 0 (gapV T).toNat) with
  | some ag => if c + ag.length ≤ 8 then SS (T.extract ((gapV T).toNat + 2) T.size) (addL f c ag) (c + ag.length) ((c + ag.length : Nat) : Int) else (0#128, false)
  | none => (0#128, false)
theorem gapRes_no (T : ByteArray) (f : Nat → Int) (c : Nat) (h : gapV T = -1) : gapRes T f c = outG (gsP true T) f c (-1) := by
  unfold gapRes; rw [h, if_pos (by omega)]
theorem gapRes_at (T : ByteArray) (f : Nat → Int) (c k : Nat) (h : gapV T = (k : Int)) : gapRes T f c = match gsP false (T.extract 0 k) with
  | some ag => if c + ag.length ≤ 8 then SS (T.extract (k + 2) T.size) (addL f c ag) (c + ag.length) ((c + ag.length : Nat) : Int) else (0#128, false)
  | none => (0#128, false) := by
  unfold gapRes; rw [h, if_neg (by omega), Int.toNat_natCast]
theorem outG_full (o : Option (List Int)) (f : Nat → Int) (p : Int) : outG o f 9 p = (0#128, false) := by
  cases o with
  | none => rfl
  | some gs =>
    show (if 9 + gs.length ≤ 8 then _ else _) = _
    rw [if_neg (by omega)]

theorem ahead_gap : ∀ n (T : ByteArray) (f : Nat → Int) (c : Nat), T.size ≤ n → 0 < T.size → c ≤ 8 → ¬ both T 0 → SS T f c (-1) = gapRes T f c := by
  intro n
  induction n with
  | zero => intro T f c h h0; omega
  | succ n ih =>
    intro T f c hn h0 hc hb0
    obtain ⟨j, hj, hno, hw⟩ := spl_first T 58
    rcases hw with ⟨rfl, hs⟩ | ⟨hlt, hcol, hs⟩
    · rw [gapRes_no T f c (gap_none T (fun k q => by
        have := both_lt T k q
        exact hno k (by omega) q.1))]
      exact last_piece T f c (-1) h0 hc hno hs
    · have hlow : ∀ m, m < j → ¬ both T m := fun m hm q => hno m hm q.1
      by_cases hg : grV (T.extract 0 j) < 0
      · rw [bad_piece T f c (-1) j hlt hno hcol hg]
        rcases gapV_spec T with ⟨a, -⟩ | ⟨k, a, b, d⟩
        · rw [gapRes_no T f c a, gsP_more true T j hs, if_pos hg]; rfl
        · rw [gapRes_at T f c k a]
          have hkj : j ≤ k := by
            apply Classical.byContradiction; intro q
            exact hno k (by omega) b.1
          have hk1 := both_lt T k b
          have : gsP false (T.extract 0 k) = none := by
            by_cases e : k = j
            · subst e
              rw [gsP_one false _ (pre_one T k hj hno), if_neg (by simp), if_pos hg]
            · rw [gsP_more false _ j (pre_more T j k (by omega) (by omega) hno hcol), sub_sub T 0 j k (by omega) (by omega), if_pos hg]
          rw [this]
      · obtain ⟨e1, e2, e3⟩ := (grp_piece T j hj (Or.inr (by rw [hcol]; decide))).1 (by omega)
        have hTs := size_sub T (j + 1) T.size (Nat.le_refl _)
        rw [SS_step T f c (-1) j h0 e2, if_neg (by rw [hcol]; omega), e1]
        by_cases hbj : both T j
        · have hgap := gap_at T j hbj hlow
          rw [gapRes_at T f c j hgap, gsP_one false _ (pre_one T j hj hno), if_neg (show ¬ (false = true ∧ _) by simp), if_neg hg]
          show _ = (if c + 1 ≤ 8 then _ else _)
          by_cases h8 : c = 8
          · rw [if_pos (Or.inr h8), if_neg (by omega)]
          · rw [if_neg (by omega), if_neg (by omega), if_pos ⟨rfl, hbj⟩, if_pos (by omega)]
            rfl
        · have key : gapRes T f c = gapRes (T.extract (j + 1) T.size) (upd f c (grV (T.extract 0 j))) (c + 1) := by
            rcases gap_tail T j hlt hno hbj with ⟨a, b⟩ | ⟨k, a, b⟩
            · rw [gapRes_no _ _ _ a, gapRes_no _ _ _ b, gsP_more true T j hs, if_neg hg, outG_map]
            · have hk1 : both T (j + 1 + k) := by
                rcases gapV_spec T with ⟨q, -⟩ | ⟨m, q, q2, -⟩
                · rw [q] at b; omega
                · have : m = j + 1 + k := by omega
                  subst this; exact q2
              have hk2 := both_lt T _ hk1
              rw [gapRes_at _ _ _ _ a, gapRes_at _ _ _ _ b, gsP_more false _ j (pre_more T j (j + 1 + k) (by omega) (by omega) hno hcol), sub_sub T 0 j _ (by omega) (by omega), if_neg hg, size_sub T 0 (j + 1 + k) (by omega), Nat.sub_zero, sub_sub T (j + 1) (j + 1 + k) _ (by omega) (by omega), sub_tail T (j + 1) k (by omega), ext_end T (j + 1) (k + 2) (by omega)]
              cases gsP false (T.extract (j + 1) (j + 1 + k)) with
              | none => rfl
              | some ag =>
                show (if c + (ag.length + 1) ≤ 8 then SS (T.extract (j + 1 + k + 2) T.size) (addL f c (grV (T.extract 0 j) :: ag)) (c + (ag.length + 1)) ((c + (ag.length + 1) : Nat) : Int) else (0#128, false)) = (if c + 1 + ag.length ≤ 8 then SS (T.extract (j + 1 + (k + 2)) T.size) (addL (upd f c (grV (T.extract 0 j))) (c + 1) ag) (c + 1 + ag.length) ((c + 1 + ag.length : Nat) : Int) else (0#128, false))
                rw [show c + (ag.length + 1) = c + 1 + ag.length by omega, show j + 1 + k + 2 = j + 1 + (k + 2) by omega]; rfl
          rw [key]
          by_cases h8 : c = 8
          · rw [if_pos (Or.inr h8)]
            subst h8
            rcases gapV_spec (T.extract (j + 1) T.size) with ⟨a, -⟩ | ⟨k, a, -, -⟩
            · rw [gapRes_no _ _ _ a, outG_full]
            · rw [gapRes_at _ _ _ _ a]
              cases gsP false ((T.extract (j + 1) T.size).extract 0 k) with
              | none => rfl
              | some ag =>
                show _ = (if 9 + ag.length ≤ 8 then _ else _)
                rw [if_neg (by omega)]
          · rw [if_neg (by omega), if_neg (by omega), if_neg (fun q => hbj q.2)]
            by_cases h1 : 1 < T.size - j
            · rw [if_pos ⟨h1, hcol⟩]
              refine ih _ _ _ (by omega) (by omega) (by omega) (fun q => ?_)
              have := (both_shift T (j + 1) 0).mp q
              exact hbj ⟨hcol, by have := this.1; rw [Nat.add_zero] at this; exact this⟩
            · rw [if_neg (fun q => h1 q.1), gapRes_no _ _ _ (gap_none _ (fun k q => by
                have := both_lt _ k q
                omega)), gsP_empty true _ (by omega)]
              rfl
end Go.Proofs.YtdgmfdfhbhmppaaDoor
/-
  Plain facts: Parse of package addr and of the reference tell the same of every text.
-/
namespace Go.Proofs.YtdgmfdfhbhmppaaDoor
open Go.RowKit
set_option linter.unusedSimpArgs false
set_option linter.unusedVariables false

theorem addL_get : ∀ (gs : List Int) (f : Nat → Int) (c k : Nat), addL f c gs k = if c ≤ k ∧ k < c + gs.length then gs.getD (k - c) 0 else f k := by
  intro gs
  induction gs with
  | nil => intro f c k; rw [if_neg (by simp only [List.length_nil]; omega)]; rfl
  | cons g gs ih =>
    intro f c k
    show addL (upd f c g) (c + 1) gs k = _
    rw [ih]
    by_cases h : c + 1 ≤ k ∧ k < c + 1 + gs.length
    · rw [if_pos h, if_pos (by simp; omega), show k - c = (k - (c + 1)) + 1 by omega]; rfl
    · rw [if_neg h]
      by_cases h2 : k = c
      · subst h2
        rw [if_pos (by simp), Nat.sub_self]
        unfold upd; rw [if_pos rfl]; rfl
      · rw [if_neg (by simp; omega)]
        unfold upd; rw [if_neg h2]
theorem plc_no (c k : Nat) : plc c (-1) k = (k : Int) := by unfold plc; rw [if_neg (by simp)]
theorem lay16 (x : BitVec 128) (k : Nat) (v : Int) (hk : k < 8) : layW x k 16 v = x ||| (mkW 0 v <<< (112 - 16 * k)) := by
  unfold layW
  rw [show (128 - 16 * ((k : Int) + 1)).toNat = 112 - 16 * k by omega]
theorem lay16_zero (x : BitVec 128) (i : Int) : layW x i 16 0 = x := by
  unfold layW
  rw [show mkW 0 0 = 0#128 by decide +kernel, BitVec.zero_shiftLeft, BitVec.or_zero]
theorem six_gW (g : Nat → Int) (L : List Int) (h : ∀ k, k < 8 → g k = L.getD k 0) : ∀ k, k ≤ 8 → sixW g 8 (-1) k = gW L k <<< (128 - 16 * k) := by
  intro k
  induction k with
  | zero => intro _; show 0#128 = 0#128 <<< _; rw [BitVec.zero_shiftLeft]
  | succ k ih =>
    intro hk
    show layW (sixW g 8 (-1) k) (plc 8 (-1) k) 16 (g k) = ((gW L k <<< 16) ||| mkW 0 (L.getD k 0)) <<< (128 - 16 * (k + 1))
    rw [plc_no, lay16 _ _ _ (by omega), ih (by omega), h k (by omega), BitVec.shiftLeft_or_distrib, show 128 - 16 * (k + 1) = 112 - 16 * k by omega, show 128 - 16 * k = 16 + (112 - 16 * k) by omega, BitVec.shiftLeft_add]
theorem fin_no (gs : List Int) (h : gs.length ≤ 8) : (gs.length = 8 → finP (addL (fun _ => 0) 0 gs) gs.length (-1) = (gW gs 8, true)) ∧ (¬ gs.length = 8 → (finP (addL (fun _ => 0) 0 gs) gs.length (-1)).2 = false) := by
  refine ⟨fun h8 => ?_, fun h8 => ?_⟩
  · unfold finP finV finB
    rw [h8, if_pos (by simp)]
    have := six_gW (addL (fun _ => 0) 0 gs) gs (fun k hk => by rw [addL_get, if_pos (by omega), Nat.sub_zero]) 8 (by omega)
    rw [this, show 128 - 16 * 8 = 0 by omega, BitVec.shiftLeft_zero]
    simp
  · unfold finP finB
    simp [h8]
theorem fin_gap (A B : List Int) (h : A.length + B.length ≤ 7) :
    finP (addL (addL (fun _ => 0) 0 A) A.length B) (A.length + B.length) ((A.length : Nat) : Int) = (gW (A ++ List.replicate (8 - (A.length + B.length)) 0 ++ B) 8, true) := by
  have hp : ¬ ((A.length : Nat) : Int) = -1 := by omega
  have h8 : ¬ A.length + B.length = 8 := by omega
  have hF : ∀ k, addL (addL (fun _ => 0) 0 A) A.length B k = if A.length ≤ k ∧ k < A.length + B.length then B.getD (k - A.length) 0 else if k < A.length then A.getD k 0 else 0 := by
    intro k
    rw [addL_get, addL_get]
    by_cases h1 : A.length ≤ k ∧ k < A.length + B.length
    · rw [if_pos h1, if_pos h1]
    · rw [if_neg h1, if_neg h1]
      by_cases h2 : k < A.length
      · rw [if_pos (by omega), if_pos h2, Nat.sub_zero]
      · rw [if_neg (by omega), if_neg h2]
  generalize addL (addL (fun _ => 0) 0 A) A.length B = F at *
  obtain ⟨z, hz⟩ : ∃ z, 8 - (A.length + B.length) = z := ⟨_, rfl⟩
  rw [hz]
  obtain ⟨L, hL⟩ : ∃ L : List Int, A ++ List.replicate z 0 ++ B = L := ⟨_, rfl⟩
  rw [hL]
  have g1 : ∀ k, k < A.length → L.getD k 0 = A.getD k 0 := by
    intro k hk
    rw [← hL, List.append_assoc, List.getD_eq_getElem?_getD, List.getElem?_append_left hk, ← List.getD_eq_getElem?_getD]
  have g2 : ∀ k, A.length ≤ k → k < A.length + z → L.getD k 0 = 0 := by
    intro k h1 h2
    rw [← hL, List.append_assoc, List.getD_eq_getElem?_getD, List.getElem?_append_right h1, List.getElem?_append_left (by simp; omega), List.getElem?_replicate]
    split <;> rfl
  have g3 : ∀ k, k < B.length → L.getD (A.length + z + k) 0 = B.getD k 0 := by
    intro k hk
    rw [← hL, List.getD_eq_getElem?_getD, List.getElem?_append_right (by simp), List.getD_eq_getElem?_getD]
    congr 2
    simp
  have s1 : ∀ k, k ≤ A.length → sixW F (A.length + B.length) (A.length : Nat) k = sixW (fun k => L.getD k 0) 8 (-1) k := by
    intro k
    induction k with
    | zero => intro _; rfl
    | succ k ih =>
      intro hk
      show layW (sixW F _ _ k) (plc _ _ k) 16 (F k) = layW (sixW _ 8 (-1) k) (plc 8 (-1) k) 16 (L.getD k 0)
      rw [ih (by omega), plc_no, hF, if_neg (by omega), if_pos (by omega), g1 k (by omega)]
      unfold plc; rw [if_neg (by omega)]
  have s2 : ∀ m, m ≤ z → sixW (fun k => L.getD k 0) 8 (-1) (A.length + m) = sixW (fun k => L.getD k 0) 8 (-1) A.length := by
    intro m
    induction m with
    | zero => intro _; rfl
    | succ m ih =>
      intro hm
      show layW (sixW _ 8 (-1) (A.length + m)) (plc 8 (-1) (A.length + m)) 16 (L.getD (A.length + m) 0) = _
      rw [g2 _ (by omega) (by omega), lay16_zero, ih (by omega)]
  have s3 : ∀ m, m ≤ B.length → sixW F (A.length + B.length) (A.length : Nat) (A.length + m) = sixW (fun k => L.getD k 0) 8 (-1) (A.length + z + m) := by
    intro m
    induction m with
    | zero => intro _; rw [Nat.add_zero, Nat.add_zero, s1 _ (Nat.le_refl _), s2 z (Nat.le_refl _)]
    | succ m ih =>
      intro hm
      show layW (sixW F _ _ (A.length + m)) (plc _ _ (A.length + m)) 16 (F (A.length + m)) = layW (sixW _ 8 (-1) (A.length + z + m)) (plc 8 (-1) (A.length + z + m)) 16 (L.getD (A.length + z + m) 0)
      rw [ih (by omega), plc_no, hF, if_pos (by omega), show A.length + m - A.length = m by omega, g3 m (by omega)]
      have : plc (A.length + B.length) (A.length : Nat) (A.length + m) = ((A.length + z + m : Nat) : Int) := by
        unfold plc; rw [if_pos (by omega)]; omega
      rw [this]
  unfold finP finV finB
  rw [if_pos (by simp [hp, h8])]
  have e := s3 B.length (Nat.le_refl _)
  rw [show A.length + z + B.length = 8 by omega] at e
  rw [e, six_gW (fun k => L.getD k 0) L (fun k _ => rfl) 8 (by omega), show 128 - 16 * 8 = 0 by omega, BitVec.shiftLeft_zero]
  simp [hp, h8]
theorem fin_gap8 (f : Nat → Int) (n : Nat) (p : Int) (hp : ¬ p = -1) (h : n = 8) : (finP f n p).2 = false := by
  unfold finP finB
  simp [hp, h]

theorem gsO_full (T : ByteArray) (last : Bool) (h : ¬ T.size = 0) : gsO T last = gsP last T := if_neg h
/-- Behind a gap at A's end. -/
theorem rest_eq (T : ByteArray) (A : List Int) (hA : A.length ≤ 8) :
    ((SS T (addL (fun _ => 0) 0 A) A.length ((A.length : Nat) : Int)).2 = (match gsO T true with | some B => decide (A.length + B.length ≤ 7) | none => false)) ∧
    (∀ B, gsO T true = some B → A.length + B.length ≤ 7 → (SS T (addL (fun _ => 0) 0 A) A.length ((A.length : Nat) : Int)).1 = gW (A ++ List.replicate (8 - (A.length + B.length)) 0 ++ B) 8) := by
  have hp : ¬ ((A.length : Nat) : Int) = -1 := by omega
  by_cases h0 : T.size = 0
  · rw [SS_nil T _ _ _ h0, show gsO T true = some [] from if_pos h0]
    by_cases h7 : A.length ≤ 7
    · have e := fin_gap A [] (by simp; exact h7)
      have e2 : addL (addL (fun _ => 0) 0 A) A.length [] = addL (fun _ => 0) 0 A := rfl
      rw [e2, List.length_nil, Nat.add_zero] at e
      rw [e]
      refine ⟨by simp [h7], fun B hB _ => ?_⟩
      injection hB with hB; subst hB
      rfl
    · rw [fin_gap8 _ _ _ hp (by omega)]
      refine ⟨by simp; omega, fun B hB h => ?_⟩
      injection hB with hB; subst hB
      simp at h; omega
  · rw [gsO_full T true h0, behind_gap T.size T _ _ _ (Nat.le_refl _) hA hp (by omega)]
    cases gsP true T with
    | none => exact ⟨rfl, fun B hB => by cases hB⟩
    | some B =>
      show (if A.length + B.length ≤ 8 then _ else _ : BitVec 128 × Bool).2 = decide (A.length + B.length ≤ 7) ∧ _
      by_cases h7 : A.length + B.length ≤ 7
      · rw [if_pos (by omega), fin_gap A B h7]
        refine ⟨by simp [h7], fun B' hB _ => ?_⟩
        injection hB with hB; subst hB
        show (if A.length + B.length ≤ 8 then _ else _ : BitVec 128 × Bool).1 = _
        rw [if_pos (by omega), fin_gap A B h7]
      · refine ⟨?_, fun B' hB h => by injection hB with hB; subst hB; omega⟩
        by_cases h8 : A.length + B.length ≤ 8
        · rw [if_pos h8, fin_gap8 _ _ _ hp (by omega)]; simp; omega
        · rw [if_neg h8]; simp; omega
theorem rsB_none1 (s : ByteArray) (k : Nat) (h : gsO (s.extract 0 k) false = none) : rsB s k = none := by unfold rsB; rw [h]
theorem rsB_none2 (s : ByteArray) (k : Nat) (A : List Int) (h : gsO (s.extract 0 k) false = some A) (h2 : gsO (s.extract (k + 2) s.size) true = none) : rsB s k = none := by unfold rsB; rw [h, h2]
theorem rsB_some (s : ByteArray) (k : Nat) (A B : List Int) (h : gsO (s.extract 0 k) false = some A) (h2 : gsO (s.extract (k + 2) s.size) true = some B) : rsB s k = if A.length + B.length ≤ 7 then some (A ++ List.replicate (8 - (A.length + B.length)) 0 ++ B) else none := by unfold rsB; rw [h, h2]
/-- A gap at k. -/
theorem six_gap (s : ByteArray) (k : Nat) (A : List Int) (x : BitVec 128 × Bool) (hA : gsO (s.extract 0 k) false = some A) (h8 : A.length ≤ 8) (hx : x = SS (s.extract (k + 2) s.size) (addL (fun _ => 0) 0 A) A.length ((A.length : Nat) : Int)) :
    x.2 = (rsB s k).isSome ∧ ∀ L, rsB s k = some L → x.1 = gW L 8 := by
  have hrs := rest_eq (s.extract (k + 2) s.size) A h8
  rw [← hx] at hrs
  clear hx
  obtain ⟨r1, r2⟩ := hrs
  rw [r1]
  cases hB : gsO (s.extract (k + 2) s.size) true with
  | none =>
    rw [rsB_none2 s k A hA hB]
    exact ⟨rfl, fun L hL => by cases hL⟩
  | some B =>
    rw [rsB_some s k A B hA hB]
    by_cases h7 : A.length + B.length ≤ 7
    · rw [if_pos h7]
      refine ⟨decide_eq_true h7, fun L hL => ?_⟩
      injection hL with hL
      rw [← hL]; exact r2 B hB h7
    · rw [if_neg h7]
      exact ⟨decide_eq_false h7, fun L hL => by cases hL⟩
theorem six_eq (s : ByteArray) : (six0 s).2 = (rsO s).isSome ∧ ∀ L, rsO s = some L → (six0 s).1 = gW L 8 := by
  by_cases hb : both s 0
  · have hgap := gap_at s 0 hb (fun m hm => by omega)
    have hlt := both_lt s 0 hb
    have e : six0 s = SS (s.extract 2 s.size) (fun _ => 0) 0 0 := by
      have h1 : six0 s = sixR s (s.size + 1) 2 (fun _ => 0) 0 0 := if_pos hb
      rw [h1]
      have h2 := sixR_shift s 2 (by omega) (s.size + 1) 0 (fun _ => 0) 0 0
      rw [Nat.add_zero] at h2
      rw [h2]
      have hz := size_sub s 2 s.size (Nat.le_refl _)
      exact sixR_fuel _ _ _ _ _ _ _ (by omega) (by omega)
    have hr : rsO s = rsB s 0 := by
      unfold rsO; rw [hgap, if_neg (by omega)]; rfl
    have hA : gsO (s.extract 0 0) false = some [] := if_pos (by rw [size_sub s 0 0 (by omega)])
    rw [hr]
    exact six_gap s 0 [] (six0 s) hA (by simp) e
  · have e : six0 s = SS s (fun _ => 0) 0 (-1) := if_neg hb
    rw [e]
    by_cases h0 : s.size = 0
    · have hg : gapV s = -1 := gap_none s (fun k q => by have := both_lt s k q; omega)
      have hr : rsO s = none := by
        unfold rsO rsA; rw [hg, if_pos (by omega), show gsO s true = some [] from if_pos h0]; rfl
      rw [SS_nil s _ _ _ h0, hr]
      exact ⟨by unfold finP finB; simp, fun L hL => by cases hL⟩
    · rw [ahead_gap s.size s _ _ (Nat.le_refl _) (by omega) (by omega) hb]
      rcases gapV_spec s with ⟨a, -⟩ | ⟨k, a, b, -⟩
      · rw [gapRes_no _ _ _ a]
        have hr : rsO s = rsA s := by unfold rsO; rw [a, if_pos (by omega)]
        rw [hr]
        unfold rsA
        rw [gsO_full s true h0]
        cases gsP true s with
        | none => exact ⟨rfl, fun L hL => by cases hL⟩
        | some gs =>
          have e1 : outG (some gs) (fun _ => 0) 0 (-1) = if gs.length ≤ 8 then finP (addL (fun _ => 0) 0 gs) gs.length (-1) else (0#128, false) := by
            unfold outG; simp only [Nat.zero_add]
          rw [e1]
          by_cases h8 : gs.length = 8
          · rw [if_pos (by omega), (fin_no gs (by omega)).1 h8]
            simp only [h8, if_true]
            exact ⟨rfl, fun L hL => by injection hL with hL; rw [hL]⟩
          · simp only [h8, if_false]
            refine ⟨?_, fun L hL => by cases hL⟩
            by_cases hl : gs.length ≤ 8
            · rw [if_pos hl, (fin_no gs hl).2 h8]; rfl
            · rw [if_neg hl]; rfl
      · rw [gapRes_at _ _ _ _ a]
        have hk := both_lt s k b
        have hk0 : ¬ k = 0 := fun q => by subst q; exact hb b
        have hr : rsO s = rsB s k := by unfold rsO; rw [a, if_neg (by omega), Int.toNat_natCast]
        rw [hr]
        have hfull := gsO_full (s.extract 0 k) false (by rw [size_sub s 0 k (by omega)]; omega)
        cases hA : gsP false (s.extract 0 k) with
        | none =>
          rw [rsB_none1 s k (by rw [hfull, hA])]
          exact ⟨rfl, fun L hL => by cases hL⟩
        | some A =>
          simp only [Nat.zero_add]
          by_cases h8 : A.length ≤ 8
          · rw [if_pos h8]
            exact six_gap s k A _ (by rw [hfull, hA]) h8 rfl
          · rw [if_neg h8]
            have hn : rsB s k = none := by
              cases hB : gsO (s.extract (k + 2) s.size) true with
              | none => exact rsB_none2 s k A (by rw [hfull, hA]) hB
              | some B => rw [rsB_some s k A B (by rw [hfull, hA]) hB, if_neg (by omega)]
            rw [hn]
            exact ⟨rfl, fun L hL => by cases hL⟩

theorem dot_size (T : ByteArray) : ∀ n p, p ≤ T.size → T.size - p ≤ n → (∀ q ∈ spl T 46 (T.size - p) p p, 0 ≤ octV q) → T.size - p + 1 ≤ 4 * (spl T 46 (T.size - p) p p).length := by
  intro n
  induction n with
  | zero =>
    intro p hp hn _
    have := (spl_len T 46 (T.size - p) p p).1
    omega
  | succ n ih =>
    intro p hp hn hall
    obtain ⟨j, hpj, hj, hno, hw⟩ := spl_next T 46 p hp
    have hpiece : 0 ≤ octV (T.extract p j) := by
      rcases hw with ⟨rfl, hs⟩ | ⟨_, _, hs⟩
      · exact hall _ (by rw [hs]; simp)
      · exact hall _ (by rw [hs]; simp)
    have h3 := (oct_facts _ hpiece).2.1
    rw [size_sub T p j hj] at h3
    rcases hw with ⟨rfl, hs⟩ | ⟨hlt, hc, hs⟩
    · rw [hs]; simp; omega
    · have := ih (j + 1) (by omega) (by omega) (fun q hq => hall q (by rw [hs]; exact List.mem_cons_of_mem _ hq))
      rw [hs, List.length_cons]; omega
theorem dot_short (T : ByteArray) (h : (dotO T).isSome = true) : T.size ≤ 15 := by
  obtain ⟨hl, hall⟩ := dotO_pieces T h
  have := dot_size T T.size 0 (by omega) (by omega) (by rw [Nat.sub_zero]; exact hall)
  rw [Nat.sub_zero, hl] at this
  omega
theorem gr_short (q : ByteArray) (h : ¬ grV q < 0) : q.size ≤ 4 := by
  unfold grV at h
  split at h
  · omega
  · omega
theorem gs_short (last : Bool) : ∀ n (T : ByteArray) (gs : List Int), T.size ≤ n → gsP last T = some gs → T.size + 1 ≤ 5 * gs.length + 6 := by
  intro n
  induction n with
  | zero => intro T gs h _; omega
  | succ n ih =>
    intro T gs hn h
    obtain ⟨j, hj, hno, hw⟩ := spl_first T 58
    rcases hw with ⟨rfl, hs⟩ | ⟨hlt, hcol, hs⟩
    · rw [gsP_one last T hs] at h
      split at h
      · rename_i hd
        have := dot_short T hd.2
        injection h with h
        subst h; simp; omega
      · split at h
        · cases h
        · rename_i hg
          have := gr_short T hg
          omega
    · rw [gsP_more last T j hs] at h
      split at h
      · cases h
      · rename_i hg
        have h4 := gr_short _ hg
        rw [size_sub T 0 j hj] at h4
        have hT := size_sub T (j + 1) T.size (Nat.le_refl _)
        cases hx : gsP last (T.extract (j + 1) T.size) with
        | none => rw [hx] at h; cases h
        | some g2 =>
          rw [hx] at h
          injection h with h
          subst h
          have := ih _ g2 (by omega) hx
          simp only [List.length_cons]; omega
theorem gsO_short (T : ByteArray) (last : Bool) (gs : List Int) (h : gsO T last = some gs) : T.size ≤ 5 * gs.length + 5 := by
  by_cases h0 : T.size = 0
  · omega
  · rw [gsO_full T last h0] at h
    have := gs_short last T.size T gs (Nat.le_refl _) h
    omega
theorem rs_short (s : ByteArray) (L : List Int) (h : rsO s = some L) : s.size ≤ 60 := by
  unfold rsO at h
  rcases gapV_spec s with ⟨a, -⟩ | ⟨k, a, b, -⟩
  · rw [a, if_pos (by omega)] at h
    unfold rsA at h
    cases hx : gsO s true with
    | none => rw [hx] at h; cases h
    | some m =>
      have := gsO_short s true m hx
      rw [hx] at h
      by_cases h8 : m.length = 8
      · omega
      · simp [h8] at h
  · rw [a, if_neg (by omega), Int.toNat_natCast] at h
    have hk := both_lt s k b
    cases hA : gsO (s.extract 0 k) false with
    | none => rw [rsB_none1 s k hA] at h; cases h
    | some A =>
      cases hB : gsO (s.extract (k + 2) s.size) true with
      | none => rw [rsB_none2 s k A hA hB] at h; cases h
      | some B =>
        rw [rsB_some s k A B hA hB] at h
        have h1 := gsO_short _ _ _ hA
        have h2 := gsO_short _ _ _ hB
        rw [size_sub s 0 k (by omega)] at h1
        rw [size_sub s (k + 2) s.size (Nat.le_refl _)] at h2
        by_cases h7 : A.length + B.length ≤ 7
        · omega
        · rw [if_neg h7] at h; cases h
/-- Both tell the same of every text. -/
theorem parse_eq (F : Int) (s : ByteArray) : apV F s = rpV F s ∧ apE F s = rpE F s := by
  unfold apV apE rpV rpE
  by_cases h32 : F = 32
  · subst h32
    have hf : fam 32 = true := by decide
    obtain ⟨e1, e2⟩ := four_eq s
    rw [hf]
    simp only [if_true, if_pos, Bool.true_eq_false, false_or, if_false]
    by_cases hl : 60 < s.size
    · have hb : fourB s = false := by
        rw [e1]
        cases hx : (dotO s).isSome with
        | false => rfl
        | true => have := dot_short s hx; omega
      rw [hb]
      simp [hl]
    · simp only [hl, if_false]
      cases hx : dotO s with
      | none => rw [e1, hx]; simp
      | some u => rw [e1, hx, e2 u hx]; simp
  · by_cases h128 : F = 128
    · subst h128
      have hf : fam 128 = true := by decide
      obtain ⟨e1, e2⟩ := six_eq s
      rw [hf]
      simp only [show ¬ (128 : Int) = 32 by decide, if_false, if_true, Bool.true_eq_false, false_or]
      by_cases hl : 60 < s.size
      · have hb : (six0 s).2 = false := by
          rw [e1]
          cases hx : rsO s with
          | none => rfl
          | some L => have := rs_short s L hx; omega
        rw [hb]
        simp [hl]
      · simp only [hl, if_false]
        cases hx : rsO s with
        | none => rw [e1, hx]; simp [outV, outE]
        | some L => rw [e1, hx, e2 L hx]; simp [outV, outE]
    · have hf : fam F = false := by unfold fam; simp [h32, h128]
      rw [hf]
      simp [h32, h128]
end Go.Proofs.YtdgmfdfhbhmppaaDoor
/-
  What the calls of turnpikeref2's Decimal and hex do.
-/
namespace Go.Proofs.YtdgmfdfhbhmppaaDoor
open Go.RowKit
set_option linter.unusedSimpArgs false
set_option linter.unusedVariables false

/-- A digit of sixteen. -/
def hexD (d : Nat) : UInt8 := if d < 10 then UInt8.ofNat (48 + d) else UInt8.ofNat (87 + d)
theorem hexD_cut (d : Nat) (h : d < 16) : (⟨#[48, 49, 50, 51, 52, 53, 54, 55, 56, 57, 97, 98, 99, 100, 101, 102]⟩ : ByteArray).extract d (d + 1) = ⟨#[hexD d]⟩ := by
  have key : ∀ d, d < 16 → (⟨#[48, 49, 50, 51, 52, 53, 54, 55, 56, 57, 97, 98, 99, 100, 101, 102]⟩ : ByteArray).extract d (d + 1) = ⟨#[hexD d]⟩ := by decide +kernel
  exact key d h
/-- The digits of m by sixteen, written ahead of t. -/
def hexF : Nat → Nat → List UInt8 → List UInt8
  | 0, _, t => t
  | f + 1, m, t => if m = 0 ∧ ¬ t = [] then t else hexF f (m / 16) (hexD (m % 16) :: t)
def hexL (n : Nat) : List UInt8 := hexF 20 n []
theorem hexF_zero (f m : Nat) (t : List UInt8) (h : m = 0 ∧ ¬ t = []) : hexF f m t = t := by
  cases f with
  | zero => rfl
  | succ f => exact if_pos h

theorem hexF_len : ∀ f m (t : List UInt8), m < 16 ^ f → (t = [] → 1 ≤ f) → 1 ≤ (hexF f m t).length ∧ (hexF f m t).length ≤ t.length + f := by
  intro f
  induction f with
  | zero =>
    intro m t hm ht
    have : ¬ t = [] := fun e => by have := ht e; omega
    show 1 ≤ t.length ∧ t.length ≤ t.length + 0
    have : 1 ≤ t.length := by
      cases t with
      | nil => exact absurd rfl this
      | cons => simp
    omega
  | succ f ih =>
    intro m t hm ht
    by_cases h : m = 0 ∧ ¬ t = []
    · rw [hexF_zero _ _ _ h]
      have : 1 ≤ t.length := by
        cases t with
        | nil => exact absurd rfl h.2
        | cons => simp
      omega
    · have e : hexF (f + 1) m t = hexF f (m / 16) (hexD (m % 16) :: t) := if_neg h
      rw [e]
      have hm2 : m / 16 < 16 ^ f := by rw [Nat.pow_succ] at hm; omega
      have := ih (m / 16) (hexD (m % 16) :: t) hm2 (fun q => by simp at q)
      simp only [List.length_cons] at this; omega
theorem hexF_fuel : ∀ f g m (t : List UInt8), m < 16 ^ f → m < 16 ^ g → (t = [] → 1 ≤ f ∧ 1 ≤ g) → hexF f m t = hexF g m t := by
  intro f
  induction f with
  | zero =>
    intro g m t hm hg ht
    have h0 : m = 0 := by simpa using hm
    have hne : ¬ t = [] := fun e => by have := ht e; omega
    rw [hexF_zero g m t ⟨h0, hne⟩]; rfl
  | succ f ih =>
    intro g m t hm hg ht
    by_cases h : m = 0 ∧ ¬ t = []
    · rw [hexF_zero _ _ _ h, hexF_zero _ _ _ h]
    · obtain ⟨g, rfl⟩ : ∃ k, g = k + 1 := ⟨g - 1, by
        cases g with
        | zero =>
          have h0 : m = 0 := by simpa using hg
          have : t = [] := by
            apply Classical.byContradiction; intro q; exact h ⟨h0, q⟩
          have := ht this; omega
        | succ g => omega⟩
      have e : hexF (f + 1) m t = hexF f (m / 16) (hexD (m % 16) :: t) := if_neg h
      have e2 : hexF (g + 1) m t = hexF g (m / 16) (hexD (m % 16) :: t) := if_neg h
      rw [e, e2]
      exact ih g _ _ (by rw [Nat.pow_succ] at hm; omega) (by rw [Nat.pow_succ] at hg; omega) (fun q => by simp at q)
theorem hexL_len (n : Nat) (h : n < 65536) : 1 ≤ (hexL n).length ∧ (hexL n).length ≤ 4 := by
  have e : hexL n = hexF 4 n [] := hexF_fuel 20 4 n [] (by omega) (by omega) (fun _ => by omega)
  rw [e]
  exact hexF_len 4 n [] (by omega) (fun _ => by omega)
theorem decF_len : ∀ f m (t : List UInt8), m < 10 ^ f → (t = [] → 1 ≤ f) → 1 ≤ (decF f m t).length ∧ (decF f m t).length ≤ t.length + f := by
  intro f
  induction f with
  | zero =>
    intro m t hm ht
    have : ¬ t = [] := fun e => by have := ht e; omega
    show 1 ≤ t.length ∧ t.length ≤ t.length + 0
    have : 1 ≤ t.length := by
      cases t with
      | nil => exact absurd rfl this
      | cons => simp
    omega
  | succ f ih =>
    intro m t hm ht
    by_cases h : m = 0 ∧ ¬ t = []
    · rw [decF_zero _ _ _ h]
      have : 1 ≤ t.length := by
        cases t with
        | nil => exact absurd rfl h.2
        | cons => simp
      omega
    · have e : decF (f + 1) m t = decF f (m / 10) (UInt8.ofNat (48 + m % 10) :: t) := if_neg h
      rw [e]
      have hm2 : m / 10 < 10 ^ f := by rw [Nat.pow_succ] at hm; omega
      have := ih (m / 10) (UInt8.ofNat (48 + m % 10) :: t) hm2 (fun q => by simp at q)
      simp only [List.length_cons] at this; omega
theorem decL_bd (n : Nat) (h : n < 1000) : 1 ≤ (decL n).length ∧ (decL n).length ≤ 20 := by
  have := decF_len 20 n [] (by omega) (fun _ => by omega)
  simpa [decL] using this
end Go.Proofs.YtdgmfdfhbhmppaaDoor
/-
  What the calls of turnpikelaw2's digits and octets do.
-/
namespace Go.Proofs.YtdgmfdfhbhmppaaDoor
open Go.RowKit
set_option linter.unusedSimpArgs false
set_option linter.unusedVariables false

/-- A digit of sixteen, great or small. -/
def digD (u : Bool) (d : Nat) : UInt8 := if d < 10 then UInt8.ofNat (48 + d) else if u then UInt8.ofNat (55 + d) else UInt8.ofNat (87 + d)
theorem digD_cut0 (d : Nat) (h : d < 16) : (⟨#[48, 49, 50, 51, 52, 53, 54, 55, 56, 57, 97, 98, 99, 100, 101, 102]⟩ : ByteArray).extract d (d + 1) = ⟨#[digD false d]⟩ := by
  have key : ∀ d, d < 16 → (⟨#[48, 49, 50, 51, 52, 53, 54, 55, 56, 57, 97, 98, 99, 100, 101, 102]⟩ : ByteArray).extract d (d + 1) = ⟨#[digD false d]⟩ := by decide +kernel
  exact key d h
theorem digD_cut1 (d : Nat) (h : d < 16) : (⟨#[48, 49, 50, 51, 52, 53, 54, 55, 56, 57, 65, 66, 67, 68, 69, 70]⟩ : ByteArray).extract d (d + 1) = ⟨#[digD true d]⟩ := by
  have key : ∀ d, d < 16 → (⟨#[48, 49, 50, 51, 52, 53, 54, 55, 56, 57, 65, 66, 67, 68, 69, 70]⟩ : ByteArray).extract d (d + 1) = ⟨#[digD true d]⟩ := by decide +kernel
  exact key d h
/-- The digits of m by sixteen, so many at least, written ahead of t. -/
def digF (u : Bool) (e : Nat) : Nat → Nat → List UInt8 → List UInt8
  | 0, _, t => t
  | f + 1, m, t => if m = 0 ∧ e ≤ t.length then t else digF u e f (m / 16) (digD u (m % 16) :: t)
def digL (u : Bool) (e n : Nat) : List UInt8 := digF u e 4 n []
theorem digF_zero (u : Bool) (e f m : Nat) (t : List UInt8) (h : m = 0 ∧ e ≤ t.length) : digF u e f m t = t := by
  cases f with
  | zero => rfl
  | succ f => exact if_pos h
theorem digF_len (u : Bool) (e : Nat) (he : e ≤ 4) : ∀ f m (t : List UInt8), t.length + f = 4 → m < 16 ^ f → e ≤ (digF u e f m t).length ∧ (digF u e f m t).length ≤ 4 := by
  intro f
  induction f with
  | zero => intro m t h hm; show e ≤ t.length ∧ t.length ≤ 4; omega
  | succ f ih =>
    intro m t h hm
    by_cases hz : m = 0 ∧ e ≤ t.length
    · rw [digF_zero _ _ _ _ _ hz]; omega
    · rw [show digF u e (f + 1) m t = digF u e f (m / 16) (digD u (m % 16) :: t) from if_neg hz]
      rw [Nat.pow_succ] at hm
      exact ih _ _ (by simp; omega) (by omega)
theorem digL_len (u : Bool) (e n : Nat) (he : e ≤ 4) (h : n < 65536) : e ≤ (digL u e n).length ∧ (digL u e n).length ≤ 4 := digF_len u e he 4 n [] rfl h

def strLen (b : Value) : Nat := match b with | .string s => s.size | _ => 0
theorem isEm (t : ByteArray) : t.toList.isEmpty = decide (t.size = 0) := by
  rw [isEmpty_of t.data.toList t rfl]
  cases h : t.data.toList with
  | nil => 
    have : t.size = 0 := by rw [← ByteArray.size_data, ← Array.length_toList, h]; rfl
    simp [this]
  | cons a l =>
    have : t.size = l.length + 1 := by rw [← ByteArray.size_data, ← Array.length_toList, h]; rfl
    simp [this]

end Go.Proofs.YtdgmfdfhbhmppaaDoor
/-
  What the call of turnpikeref2's Text does, of the family 32 and where there is an error.
-/
namespace Go.Proofs.YtdgmfdfhbhmppaaDoor
open Go.RowKit
set_option linter.unusedSimpArgs false
set_option linter.unusedVariables false

def dotS (x y z u : ByteArray) : ByteArray := x ++ ⟨#[46]⟩ ++ y ++ ⟨#[46]⟩ ++ z ++ ⟨#[46]⟩ ++ u
/-- The four bytes of an address of the family 32. -/
def octN (x : BitVec 128) (k : Nat) : Nat := (hI x).toNat / 2 ^ (56 - 8 * k) % 256
def text4 (x : BitVec 128) : ByteArray := dotS ⟨(decL (octN x 0)).toArray⟩ ⟨(decL (octN x 1)).toArray⟩ ⟨(decL (octN x 2)).toArray⟩ ⟨(decL (octN x 3)).toArray⟩
theorem and255 (v : Int) (h0 : 0 ≤ v) (h1 : v < 18446744073709551616) : bits .and .u64 v 255 = v % 256 := by
  obtain ⟨n, rfl⟩ := Int.eq_ofNat_of_zero_le h0
  have e1 : (n : Int) = ((BitVec.ofNat 64 n).toNat : Int) := by simp [BitVec.toNat_ofNat]; omega
  have e2 : (255 : Int) = ((BitVec.ofNat 64 255).toNat : Int) := by decide
  rw [e1, e2, bits64and _ _ _ rfl, BitVec.toNat_and, BitVec.toNat_ofNat, BitVec.toNat_ofNat, Nat.mod_eq_of_lt (by omega), show 255 % 2 ^ 64 = 2 ^ 8 - 1 by decide, Nat.and_two_pow_sub_one_eq_mod]
  rfl
end Go.Proofs.YtdgmfdfhbhmppaaDoor
/-
  What the call of turnpikeref2's Text does, of the family 128.
-/
namespace Go.Proofs.YtdgmfdfhbhmppaaDoor
open Go.RowKit
set_option linter.unusedSimpArgs false
set_option linter.unusedVariables false

/-- How many groups from i on are 0, n being counted. -/
def rnG (G : Nat → Int) (i : Nat) : Nat → Nat → Nat
  | 0, n => n
  | f + 1, n => if i + n < 8 ∧ G (i + n) = 0 then rnG G i f (n + 1) else n
/-- The longest row of groups that are 0: where, and how many (1: none). -/
def bsG (G : Nat → Int) : Nat → Nat → Nat → Nat → Nat × Nat
  | 0, _, a, b => (a, b)
  | f + 1, i, a, b => if b < rnG G i 9 0 then bsG G f (i + 1) i (rnG G i 9 0) else bsG G f (i + 1) a b
def sepS (s : ByteArray) : ByteArray := if s.size = 0 ∨ byteAt s (s.size - 1) = 58 then s else s ++ ⟨#[58]⟩
/-- The groups written from i on, s being written. -/
def txG (G : Nat → Int) (a b : Nat) : Nat → Nat → ByteArray → ByteArray
  | 0, _, s => s
  | f + 1, i, s => if 8 ≤ i then s else if 1 < b ∧ i = a then txG G a b f (i + b) (s ++ ⟨#[58, 58]⟩) else txG G a b f (i + 1) (sepS s ++ ⟨(hexL (G i).toNat).toArray⟩)
def grpX (x : BitVec 128) (k : Nat) : Int := lI (readW x (16 * (k : Int)) 16)
def text6 (x : BitVec 128) : ByteArray := txG (grpX x) (bsG (grpX x) 8 0 0 1).1 (bsG (grpX x) 8 0 0 1).2 9 0 ⟨#[]⟩
theorem grpX_bd (x : BitVec 128) (k : Nat) (hk : k < 8) : 0 ≤ grpX x k ∧ grpX x k ≤ 65535 := by
  unfold grpX readW
  exact part16_bd x (k : Int)
theorem rnG_bd (G : Nat → Int) (i : Nat) (hi : i ≤ 8) : ∀ f n, i + n ≤ 8 → i + rnG G i f n ≤ 8 ∧ n ≤ rnG G i f n := by
  intro f
  induction f with
  | zero => intro n h; exact ⟨h, Nat.le_refl _⟩
  | succ f ih =>
    intro n h
    by_cases hc : i + n < 8 ∧ G (i + n) = 0
    · have e : rnG G i (f + 1) n = rnG G i f (n + 1) := if_pos hc
      rw [e]
      have := ih (n + 1) (by omega)
      omega
    · have e : rnG G i (f + 1) n = n := if_neg hc
      rw [e]; omega
def cellsG (x : BitVec 128) (k : Nat) : List Int := (List.range k).map (grpX x)
theorem cellsG_succ (x : BitVec 128) (k : Nat) : cellsG x (k + 1) = cellsG x k ++ [grpX x k] := by
  unfold cellsG; rw [List.range_succ, List.map_append]; rfl
theorem cellsG_get (x : BitVec 128) (k : Nat) (hk : k < 8) : (cellsG x 8).getD k 0 = grpX x k := by
  unfold cellsG
  rw [List.getD_eq_getElem?_getD, List.getElem?_map, List.getElem?_range hk]; rfl
theorem row_int2 {w : World} {base e g n cap : Nat} {l : List Int} (h : w.ownsRow base e 1 (.slice (some ⟨g, 0, none⟩) n cap) n (ints l)) (hn : n = l.length) (k : Nat) (hk : k < n) : w.cell? ⟨g, k, none⟩ = some (.int .i64 (l.getD k 0)) := by
  rw [h.cellAt k (by omega)]
  unfold ints
  rw [List.getElem?_map, List.getElem?_eq_getElem (by omega), List.getD_eq_getElem?_getD, List.getElem?_eq_getElem (by omega)]
  rfl

theorem At.gby {w w' : World} {B : Nat} {x : BitVec 128} {row : Option Nat} (h : At w B x) (hg : w.grownBy w' row) (hne : ¬ some B = row) : At w' B x := by
  obtain ⟨h0, h1, h2, h3, h4⟩ := h
  have hb := hg.block B h4 hne
  exact ⟨hg.cell h0 hne, hg.cell h1 hne, (World.frozen?_of_block (a := ⟨B, 0, none⟩) hb).trans h2, (World.frozen?_of_block (a := ⟨B, 1, none⟩) hb).trans h3, Nat.lt_of_lt_of_le h4 hg.size⟩
theorem bsG_bd (G : Nat → Int) : ∀ f i a b, i + f ≤ 8 → 1 ≤ b → a + b ≤ 8 → 1 ≤ (bsG G f i a b).2 ∧ (bsG G f i a b).1 + (bsG G f i a b).2 ≤ 8 := by
  intro f
  induction f with
  | zero => intro i a b _ h1 h2; exact ⟨h1, h2⟩
  | succ f ih =>
    intro i a b hi h1 h2
    by_cases hc : b < rnG G i 9 0
    · have e : bsG G (f + 1) i a b = bsG G f (i + 1) i (rnG G i 9 0) := if_pos hc
      rw [e]
      have := rnG_bd G i (by omega) 9 0 (by omega)
      exact ih _ _ _ (by omega) (by omega) (by omega)
    · have e : bsG G (f + 1) i a b = bsG G f (i + 1) a b := if_neg hc
      rw [e]
      exact ih _ _ _ (by omega) h1 h2

end Go.Proofs.YtdgmfdfhbhmppaaDoor
