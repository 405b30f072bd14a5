/-
  Part 27 of the proof: 3 texts, one behind the other.
-/
import Derived.Test.YtmeaikmmhgmgnaaGreatPart26
import Derived.Test.YtmeaikmmhgmgnaaGreatPart6
import Derived.Test.YtmeaikmmhgmgnaaGreatPart25
/-
  Plain facts: Parse of package addr and of the reference tell the same of every text.
-/
namespace Go.Proofs.YtmeaikmmhgmgnaaGreat
open Go.RowKit
set_option linter.unusedSimpArgs false
set_option linter.unusedVariables false

theorem addL_get : ∀ (gs : List Int) (f : Nat → Int) (c k : Nat), addL f c gs k = if c ≤ k ∧ k < c + gs.length then gs.getD (k - c) 0 else f k := by
  intro gs
  induction gs with
  | nil => intro f c k; rw [if_neg (by simp only [List.length_nil]; omega)]; rfl
  | cons g gs ih =>
    intro f c k
    show addL (upd f c g) (c + 1) gs k = _
    rw [ih]
    by_cases h : c + 1 ≤ k ∧ k < c + 1 + gs.length
    · rw [if_pos h, if_pos (by simp; omega), show k - c = (k - (c + 1)) + 1 by omega]; rfl
    · rw [if_neg h]
      by_cases h2 : k = c
      · subst h2
        rw [if_pos (by simp), Nat.sub_self]
        unfold upd; rw [if_pos rfl]; rfl
      · rw [if_neg (by simp; omega)]
        unfold upd; rw [if_neg h2]
theorem plc_no (c k : Nat) : plc c (-1) k = (k : Int) := by unfold plc; rw [if_neg (by simp)]
theorem lay16 (x : BitVec 128) (k : Nat) (v : Int) (hk : k < 8) : layW x k 16 v = x ||| (mkW 0 v <<< (112 - 16 * k)) := by
  unfold layW
  rw [show (128 - 16 * ((k : Int) + 1)).toNat = 112 - 16 * k by omega]
theorem lay16_zero (x : BitVec 128) (i : Int) : layW x i 16 0 = x := by
  unfold layW
  rw [show mkW 0 0 = 0#128 by decide +kernel, BitVec.zero_shiftLeft, BitVec.or_zero]
theorem six_gW (g : Nat → Int) (L : List Int) (h : ∀ k, k < 8 → g k = L.getD k 0) : ∀ k, k ≤ 8 → sixW g 8 (-1) k = gW L k <<< (128 - 16 * k) := by
  intro k
  induction k with
  | zero => intro _; show 0#128 = 0#128 <<< _; rw [BitVec.zero_shiftLeft]
  | succ k ih =>
    intro hk
    show layW (sixW g 8 (-1) k) (plc 8 (-1) k) 16 (g k) = ((gW L k <<< 16) ||| mkW 0 (L.getD k 0)) <<< (128 - 16 * (k + 1))
    rw [plc_no, lay16 _ _ _ (by omega), ih (by omega), h k (by omega), BitVec.shiftLeft_or_distrib, show 128 - 16 * (k + 1) = 112 - 16 * k by omega, show 128 - 16 * k = 16 + (112 - 16 * k) by omega, BitVec.shiftLeft_add]
theorem fin_no (gs : List Int) (h : gs.length ≤ 8) : (gs.length = 8 → finP (addL (fun _ => 0) 0 gs) gs.length (-1) = (gW gs 8, true)) ∧ (¬ gs.length = 8 → (finP (addL (fun _ => 0) 0 gs) gs.length (-1)).2 = false) := by
  refine ⟨fun h8 => ?_, fun h8 => ?_⟩
  · unfold finP finV finB
    rw [h8, if_pos (by simp)]
    have := six_gW (addL (fun _ => 0) 0 gs) gs (fun k hk => by rw [addL_get, if_pos (by omega), Nat.sub_zero]) 8 (by omega)
    rw [this, show 128 - 16 * 8 = 0 by omega, BitVec.shiftLeft_zero]
    simp
  · unfold finP finB
    simp [h8]
theorem fin_gap (A B : List Int) (h : A.length + B.length ≤ 7) :
    finP (addL (addL (fun _ => 0) 0 A) A.length B) (A.length + B.length) ((A.length : Nat) : Int) = (gW (A ++ List.replicate (8 - (A.length + B.length)) 0 ++ B) 8, true) := by
  have hp : ¬ ((A.length : Nat) : Int) = -1 := by omega
  have h8 : ¬ A.length + B.length = 8 := by omega
  have hF : ∀ k, addL (addL (fun _ => 0) 0 A) A.length B k = if A.length ≤ k ∧ k < A.length + B.length then B.getD (k - A.length) 0 else if k < A.length then A.getD k 0 else 0 := by
    intro k
    rw [addL_get, addL_get]
    by_cases h1 : A.length ≤ k ∧ k < A.length + B.length
    · rw [if_pos h1, if_pos h1]
    · rw [if_neg h1, if_neg h1]
      by_cases h2 : k < A.length
      · rw [if_pos (by omega), if_pos h2, Nat.sub_zero]
      · rw [if_neg (by omega), if_neg h2]
  generalize addL (addL (fun _ => 0) 0 A) A.length B = F at *
  obtain ⟨z, hz⟩ : ∃ z, 8 - (A.length + B.length) = z := ⟨_, rfl⟩
  rw [hz]
  obtain ⟨L, hL⟩ : ∃ L : List Int, A ++ List.replicate z 0 ++ B = L := ⟨_, rfl⟩
  rw [hL]
  have g1 : ∀ k, k < A.length → L.getD k 0 = A.getD k 0 := by
    intro k hk
    rw [← hL, List.append_assoc, List.getD_eq_getElem?_getD, List.getElem?_append_left hk, ← List.getD_eq_getElem?_getD]
  have g2 : ∀ k, A.length ≤ k → k < A.length + z → L.getD k 0 = 0 := by
    intro k h1 h2
    rw [← hL, List.append_assoc, List.getD_eq_getElem?_getD, List.getElem?_append_right h1, List.getElem?_append_left (by simp; omega), List.getElem?_replicate]
    split <;> rfl
  have g3 : ∀ k, k < B.length → L.getD (A.length + z + k) 0 = B.getD k 0 := by
    intro k hk
    rw [← hL, List.getD_eq_getElem?_getD, List.getElem?_append_right (by simp), List.getD_eq_getElem?_getD]
    congr 2
    simp
  have s1 : ∀ k, k ≤ A.length → sixW F (A.length + B.length) (A.length : Nat) k = sixW (fun k => L.getD k 0) 8 (-1) k := by
    intro k
    induction k with
    | zero => intro _; rfl
    | succ k ih =>
      intro hk
      show layW (sixW F _ _ k) (plc _ _ k) 16 (F k) = layW (sixW _ 8 (-1) k) (plc 8 (-1) k) 16 (L.getD k 0)
      rw [ih (by omega), plc_no, hF, if_neg (by omega), if_pos (by omega), g1 k (by omega)]
      unfold plc; rw [if_neg (by omega)]
  have s2 : ∀ m, m ≤ z → sixW (fun k => L.getD k 0) 8 (-1) (A.length + m) = sixW (fun k => L.getD k 0) 8 (-1) A.length := by
    intro m
    induction m with
    | zero => intro _; rfl
    | succ m ih =>
      intro hm
      show layW (sixW _ 8 (-1) (A.length + m)) (plc 8 (-1) (A.length + m)) 16 (L.getD (A.length + m) 0) = _
      rw [g2 _ (by omega) (by omega), lay16_zero, ih (by omega)]
  have s3 : ∀ m, m ≤ B.length → sixW F (A.length + B.length) (A.length : Nat) (A.length + m) = sixW (fun k => L.getD k 0) 8 (-1) (A.length + z + m) := by
    intro m
    induction m with
    | zero => intro _; rw [Nat.add_zero, Nat.add_zero, s1 _ (Nat.le_refl _), s2 z (Nat.le_refl _)]
    | succ m ih =>
      intro hm
      show layW (sixW F _ _ (A.length + m)) (plc _ _ (A.length + m)) 16 (F (A.length + m)) = layW (sixW _ 8 (-1) (A.length + z + m)) (plc 8 (-1) (A.length + z + m)) 16 (L.getD (A.length + z + m) 0)
      rw [ih (by omega), plc_no, hF, if_pos (by omega), show A.length + m - A.length = m by omega, g3 m (by omega)]
      have : plc (A.length + B.length) (A.length : Nat) (A.length + m) = ((A.length + z + m : Nat) : Int) := by
        unfold plc; rw [if_pos (by omega)]; omega
      rw [this]
  unfold finP finV finB
  rw [if_pos (by simp [hp, h8])]
  have e := s3 B.length (Nat.le_refl _)
  rw [show A.length + z + B.length = 8 by omega] at e
  rw [e, six_gW (fun k => L.getD k 0) L (fun k _ => rfl) 8 (by omega), show 128 - 16 * 8 = 0 by omega, BitVec.shiftLeft_zero]
  simp [hp, h8]
theorem fin_gap8 (f : Nat → Int) (n : Nat) (p : Int) (hp : ¬ p = -1) (h : n = 8) : (finP f n p).2 = false := by
  unfold finP finB
  simp [hp, h]

theorem gsO_full (T : ByteArray) (last : Bool) (h : ¬ T.size = 0) : gsO T last = gsP last T := if_neg h
/-- Behind a gap at A's end. -/
theorem rest_eq (T : ByteArray) (A : List Int) (hA : A.length ≤ 8) :
    ((SS T (addL (fun _ => 0) 0 A) A.length ((A.length : Nat) : Int)).2 = (match gsO T true with | some B => decide (A.length + B.length ≤ 7) | none => false)) ∧
    (∀ B, gsO T true = some B → A.length + B.length ≤ 7 → (SS T (addL (fun _ => 0) 0 A) A.length ((A.length : Nat) : Int)).1 = gW (A ++ List.replicate (8 - (A.length + B.length)) 0 ++ B) 8) := by
  have hp : ¬ ((A.length : Nat) : Int) = -1 := by omega
  by_cases h0 : T.size = 0
  · rw [SS_nil T _ _ _ h0, show gsO T true = some [] from if_pos h0]
    by_cases h7 : A.length ≤ 7
    · have e := fin_gap A [] (by simp; exact h7)
      have e2 : addL (addL (fun _ => 0) 0 A) A.length [] = addL (fun _ => 0) 0 A := rfl
      rw [e2, List.length_nil, Nat.add_zero] at e
      rw [e]
      refine ⟨by simp [h7], fun B hB _ => ?_⟩
      injection hB with hB; subst hB
      rfl
    · rw [fin_gap8 _ _ _ hp (by omega)]
      refine ⟨by simp; omega, fun B hB h => ?_⟩
      injection hB with hB; subst hB
      simp at h; omega
  · rw [gsO_full T true h0, behind_gap T.size T _ _ _ (Nat.le_refl _) hA hp (by omega)]
    cases gsP true T with
    | none => exact ⟨rfl, fun B hB => by cases hB⟩
    | some B =>
      show (if A.length + B.length ≤ 8 then _ else _ : BitVec 128 × Bool).2 = decide (A.length + B.length ≤ 7) ∧ _
      by_cases h7 : A.length + B.length ≤ 7
      · rw [if_pos (by omega), fin_gap A B h7]
        refine ⟨by simp [h7], fun B' hB _ => ?_⟩
        injection hB with hB; subst hB
        show (if A.length + B.length ≤ 8 then _ else _ : BitVec 128 × Bool).1 = _
        rw [if_pos (by omega), fin_gap A B h7]
      · refine ⟨?_, fun B' hB h => by injection hB with hB; subst hB; omega⟩
        by_cases h8 : A.length + B.length ≤ 8
        · rw [if_pos h8, fin_gap8 _ _ _ hp (by omega)]; simp; omega
        · rw [if_neg h8]; simp; omega
theorem rsB_none1 (s : ByteArray) (k : Nat) (h : gsO (s.extract 0 k) false = none) : rsB s k = none := by unfold rsB; rw [h]
theorem rsB_none2 (s : ByteArray) (k : Nat) (A : List Int) (h : gsO (s.extract 0 k) false = some A) (h2 : gsO (s.extract (k + 2) s.size) true = none) : rsB s k = none := by unfold rsB; rw [h, h2]
theorem rsB_some (s : ByteArray) (k : Nat) (A B : List Int) (h : gsO (s.extract 0 k) false = some A) (h2 : gsO (s.extract (k + 2) s.size) true = some B) : rsB s k = if A.length + B.length ≤ 7 then some (A ++ List.replicate (8 - (A.length + B.length)) 0 ++ B) else none := by unfold rsB; rw [h, h2]
/-- A gap at k. -/
theorem six_gap (s : ByteArray) (k : Nat) (A : List Int) (x : BitVec 128 × Bool) (hA : gsO (s.extract 0 k) false = some A) (h8 : A.length ≤ 8) (hx : x = SS (s.extract (k + 2) s.size) (addL (fun _ => 0) 0 A) A.length ((A.length : Nat) : Int)) :
    x.2 = (rsB s k).isSome ∧ ∀ L, rsB s k = some L → x.1 = gW L 8 := by
  have hrs := rest_eq (s.extract (k + 2) s.size) A h8
  rw [← hx] at hrs
  clear hx
  obtain ⟨r1, r2⟩ := hrs
  rw [r1]
  cases hB : gsO (s.extract (k + 2) s.size) true with
  | none =>
    rw [rsB_none2 s k A hA hB]
    exact ⟨rfl, fun L hL => by cases hL⟩
  | some B =>
    rw [rsB_some s k A B hA hB]
    by_cases h7 : A.length + B.length ≤ 7
    · rw [if_pos h7]
      refine ⟨decide_eq_true h7, fun L hL => ?_⟩
      injection hL with hL
      rw [← hL]; exact r2 B hB h7
    · rw [if_neg h7]
      exact ⟨decide_eq_false h7, fun L hL => by cases hL⟩
theorem six_eq (s : ByteArray) : (six0 s).2 = (rsO s).isSome ∧ ∀ L, rsO s = some L → (six0 s).1 = gW L 8 := by
  by_cases hb : both s 0
  · have hgap := gap_at s 0 hb (fun m hm => by omega)
    have hlt := both_lt s 0 hb
    have e : six0 s = SS (s.extract 2 s.size) (fun _ => 0) 0 0 := by
      have h1 : six0 s = sixR s (s.size + 1) 2 (fun _ => 0) 0 0 := if_pos hb
      rw [h1]
      have h2 := sixR_shift s 2 (by omega) (s.size + 1) 0 (fun _ => 0) 0 0
      rw [Nat.add_zero] at h2
      rw [h2]
      have hz := size_sub s 2 s.size (Nat.le_refl _)
      exact sixR_fuel _ _ _ _ _ _ _ (by omega) (by omega)
    have hr : rsO s = rsB s 0 := by
      unfold rsO; rw [hgap, if_neg (by omega)]; rfl
    have hA : gsO (s.extract 0 0) false = some [] := if_pos (by rw [size_sub s 0 0 (by omega)])
    rw [hr]
    exact six_gap s 0 [] (six0 s) hA (by simp) e
  · have e : six0 s = SS s (fun _ => 0) 0 (-1) := if_neg hb
    rw [e]
    by_cases h0 : s.size = 0
    · have hg : gapV s = -1 := gap_none s (fun k q => by have := both_lt s k q; omega)
      have hr : rsO s = none := by
        unfold rsO rsA; rw [hg, if_pos (by omega), show gsO s true = some [] from if_pos h0]; rfl
      rw [SS_nil s _ _ _ h0, hr]
      exact ⟨by unfold finP finB; simp, fun L hL => by cases hL⟩
    · rw [ahead_gap s.size s _ _ (Nat.le_refl _) (by omega) (by omega) hb]
      rcases gapV_spec s with ⟨a, -⟩ | ⟨k, a, b, -⟩
      · rw [gapRes_no _ _ _ a]
        have hr : rsO s = rsA s := by unfold rsO; rw [a, if_pos (by omega)]
        rw [hr]
        unfold rsA
        rw [gsO_full s true h0]
        cases gsP true s with
        | none => exact ⟨rfl, fun L hL => by cases hL⟩
        | some gs =>
          have e1 : outG (some gs) (fun _ => 0) 0 (-1) = if gs.length ≤ 8 then finP (addL (fun _ => 0) 0 gs) gs.length (-1) else (0#128, false) := by
            unfold outG; simp only [Nat.zero_add]
          rw [e1]
          by_cases h8 : gs.length = 8
          · rw [if_pos (by omega), (fin_no gs (by omega)).1 h8]
            simp only [h8, if_true]
            exact ⟨rfl, fun L hL => by injection hL with hL; rw [hL]⟩
          · simp only [h8, if_false]
            refine ⟨?_, fun L hL => by cases hL⟩
            by_cases hl : gs.length ≤ 8
            · rw [if_pos hl, (fin_no gs hl).2 h8]; rfl
            · rw [if_neg hl]; rfl
      · rw [gapRes_at _ _ _ _ a]
        have hk := both_lt s k b
        have hk0 : ¬ k = 0 := fun q => by subst q; exact hb b
        have hr : rsO s = rsB s k := by unfold rsO; rw [a, if_neg (by omega), Int.toNat_natCast]
        rw [hr]
        have hfull := gsO_full (s.extract 0 k) false (by rw [size_sub s 0 k (by omega)]; omega)
        cases hA : gsP false (s.extract 0 k) with
        | none =>
          rw [rsB_none1 s k (by rw [hfull, hA])]
          exact ⟨rfl, fun L hL => by cases hL⟩
        | some A =>
          simp only [Nat.zero_add]
          by_cases h8 : A.length ≤ 8
          · rw [if_pos h8]
            exact six_gap s k A _ (by rw [hfull, hA]) h8 rfl
          · rw [if_neg h8]
            have hn : rsB s k = none := by
              cases hB : gsO (s.extract (k + 2) s.size) true with
              | none => exact rsB_none2 s k A (by rw [hfull, hA]) hB
              | some B => rw [rsB_some s k A B (by rw [hfull, hA]) hB, if_neg (by omega)]
            rw [hn]
            exact ⟨rfl, fun L hL => by cases hL⟩

theorem dot_size (T : ByteArray) : ∀ n p, p ≤ T.size → T.size - p ≤ n → (∀ q ∈ spl T 46 (T.size - p) p p, 0 ≤ octV q) → T.size - p + 1 ≤ 4 * (spl T 46 (T.size - p) p p).length := by
  intro n
  induction n with
  | zero =>
    intro p hp hn _
    have := (spl_len T 46 (T.size - p) p p).1
    omega
  | succ n ih =>
    intro p hp hn hall
    obtain ⟨j, hpj, hj, hno, hw⟩ := spl_next T 46 p hp
    have hpiece : 0 ≤ octV (T.extract p j) := by
      rcases hw with ⟨rfl, hs⟩ | ⟨_, _, hs⟩
      · exact hall _ (by rw [hs]; simp)
      · exact hall _ (by rw [hs]; simp)
    have h3 := (oct_facts _ hpiece).2.1
    rw [size_sub T p j hj] at h3
    rcases hw with ⟨rfl, hs⟩ | ⟨hlt, hc, hs⟩
    · rw [hs]; simp; omega
    · have := ih (j + 1) (by omega) (by omega) (fun q hq => hall q (by rw [hs]; exact List.mem_cons_of_mem _ hq))
      rw [hs, List.length_cons]; omega
theorem dot_short (T : ByteArray) (h : (dotO T).isSome = true) : T.size ≤ 15 := by
  obtain ⟨hl, hall⟩ := dotO_pieces T h
  have := dot_size T T.size 0 (by omega) (by omega) (by rw [Nat.sub_zero]; exact hall)
  rw [Nat.sub_zero, hl] at this
  omega
theorem gr_short (q : ByteArray) (h : ¬ grV q < 0) : q.size ≤ 4 := by
  unfold grV at h
  split at h
  · omega
  · omega
theorem gs_short (last : Bool) : ∀ n (T : ByteArray) (gs : List Int), T.size ≤ n → gsP last T = some gs → T.size + 1 ≤ 5 * gs.length + 6 := by
  intro n
  induction n with
  | zero => intro T gs h _; omega
  | succ n ih =>
    intro T gs hn h
    obtain ⟨j, hj, hno, hw⟩ := spl_first T 58
    rcases hw with ⟨rfl, hs⟩ | ⟨hlt, hcol, hs⟩
    · rw [gsP_one last T hs] at h
      split at h
      · rename_i hd
        have := dot_short T hd.2
        injection h with h
        subst h; simp; omega
      · split at h
        · cases h
        · rename_i hg
          have := gr_short T hg
          omega
    · rw [gsP_more last T j hs] at h
      split at h
      · cases h
      · rename_i hg
        have h4 := gr_short _ hg
        rw [size_sub T 0 j hj] at h4
        have hT := size_sub T (j + 1) T.size (Nat.le_refl _)
        cases hx : gsP last (T.extract (j + 1) T.size) with
        | none => rw [hx] at h; cases h
        | some g2 =>
          rw [hx] at h
          injection h with h
          subst h
          have := ih _ g2 (by omega) hx
          simp only [List.length_cons]; omega
theorem gsO_short (T : ByteArray) (last : Bool) (gs : List Int) (h : gsO T last = some gs) : T.size ≤ 5 * gs.length + 5 := by
  by_cases h0 : T.size = 0
  · omega
  · rw [gsO_full T last h0] at h
    have := gs_short last T.size T gs (Nat.le_refl _) h
    omega
theorem rs_short (s : ByteArray) (L : List Int) (h : rsO s = some L) : s.size ≤ 60 := by
  unfold rsO at h
  rcases gapV_spec s with ⟨a, -⟩ | ⟨k, a, b, -⟩
  · rw [a, if_pos (by omega)] at h
    unfold rsA at h
    cases hx : gsO s true with
    | none => rw [hx] at h; cases h
    | some m =>
      have := gsO_short s true m hx
      rw [hx] at h
      by_cases h8 : m.length = 8
      · omega
      · simp [h8] at h
  · rw [a, if_neg (by omega), Int.toNat_natCast] at h
    have hk := both_lt s k b
    cases hA : gsO (s.extract 0 k) false with
    | none => rw [rsB_none1 s k hA] at h; cases h
    | some A =>
      cases hB : gsO (s.extract (k + 2) s.size) true with
      | none => rw [rsB_none2 s k A hA hB] at h; cases h
      | some B =>
        rw [rsB_some s k A B hA hB] at h
        have h1 := gsO_short _ _ _ hA
        have h2 := gsO_short _ _ _ hB
        rw [size_sub s 0 k (by omega)] at h1
        rw [size_sub s (k + 2) s.size (Nat.le_refl _)] at h2
        by_cases h7 : A.length + B.length ≤ 7
        · omega
        · rw [if_neg h7] at h; cases h
/-- Both tell the same of every text. -/
theorem parse_eq (F : Int) (s : ByteArray) : apV F s = rpV F s ∧ apE F s = rpE F s := by
  unfold apV apE rpV rpE
  by_cases h32 : F = 32
  · subst h32
    have hf : fam 32 = true := by decide
    obtain ⟨e1, e2⟩ := four_eq s
    rw [hf]
    simp only [if_true, if_pos, Bool.true_eq_false, false_or, if_false]
    by_cases hl : 60 < s.size
    · have hb : fourB s = false := by
        rw [e1]
        cases hx : (dotO s).isSome with
        | false => rfl
        | true => have := dot_short s hx; omega
      rw [hb]
      simp [hl]
    · simp only [hl, if_false]
      cases hx : dotO s with
      | none => rw [e1, hx]; simp
      | some u => rw [e1, hx, e2 u hx]; simp
  · by_cases h128 : F = 128
    · subst h128
      have hf : fam 128 = true := by decide
      obtain ⟨e1, e2⟩ := six_eq s
      rw [hf]
      simp only [show ¬ (128 : Int) = 32 by decide, if_false, if_true, Bool.true_eq_false, false_or]
      by_cases hl : 60 < s.size
      · have hb : (six0 s).2 = false := by
          rw [e1]
          cases hx : rsO s with
          | none => rfl
          | some L => have := rs_short s L hx; omega
        rw [hb]
        simp [hl]
      · simp only [hl, if_false]
        cases hx : rsO s with
        | none => rw [e1, hx]; simp [outV, outE]
        | some L => rw [e1, hx, e2 L hx]; simp [outV, outE]
    · have hf : fam F = false := by unfold fam; simp [h32, h128]
      rw [hf]
      simp [h32, h128]
end Go.Proofs.YtmeaikmmhgmgnaaGreat
/-
  What the call of turnpikeref2's Parse does, of the family 128.
-/
namespace Go.Proofs.YtmeaikmmhgmgnaaGreat
open Go.RowKit
set_option linter.unusedSimpArgs false
set_option linter.unusedVariables false

theorem At.wset {w : World} {B : Nat} {y : BitVec 128} (h : At w B y) (z : BitVec 128) (he : hI y = hI z) : At (w.setCell ⟨B, 1, none⟩ (.int .u64 (lI z))) B z := by
  obtain ⟨h0, h1, h2, h3, h4⟩ := h
  refine ⟨?_, ?_, ?_, ?_, ?_⟩ <;> simp [go_sem, *]
theorem At.wother {w : World} {B C : Nat} {x : BitVec 128} (h : At w B x) (hn : ¬ C = B) (o : Nat) (v : Value) : At (w.setCell ⟨C, o, none⟩ v) B x := by
  obtain ⟨h0, h1, h2, h3, h4⟩ := h
  have hn' : ¬ B = C := fun e => hn e.symm
  refine ⟨?_, ?_, ?_, ?_, ?_⟩ <;> simp [go_sem, *]
theorem cell_wother {w : World} {b o C p : Nat} {u : Value} (h : w.cell? ⟨b, o, none⟩ = some u) (hn : ¬ C = b) (v : Value) : (w.setCell ⟨C, p, none⟩ v).cell? ⟨b, o, none⟩ = some u := by
  have hn' : ¬ b = C := fun e => hn e.symm
  simp [go_sem, *]

set_option maxHeartbeats 8000000 in
set_option maxRecDepth 20000 in
theorem rparse_sixA (t : ByteArray) (w : World) (hl : t.size ≤ 60) (hg : gapV t < 0) :
    Calls Tryz.prog 76 #[.int .i64 128, .string t] w fun e w' => e = .returned (.tuple #[.agg #[.int .u64 (hI (outV (rsA t))), .int .u64 (lI (outV (rsA t)))], .int .i64 (outE (rsA t))]) ∧ Below w.heap.size w w' := by
  have KI := fun w => isFamily_any 128 w
  have hl2 : ¬ (60 : Int) < (t.size : Int) := by omega
  have KG := fun w => gap_any t w (by omega)
  have KR := fun w => groups_any t true w (by omega)
  have HBG : Hid (∀ xs, gsO t true = some xs → ∀ x ∈ xs, 0 ≤ x ∧ x ≤ 65535) := gsO_bd t true
  have HRS : Hid (rsA t = match gsO t true with | some m => if m.length = 8 then some m else none | none => none) := rfl
  generalize gapV t = a at *
  go_enter Tryz.func76, Tryz.ntmps76
  go_wp2_with fail
  refine (KI _).mono ?_
  rintro e w1 ⟨rfl, hw1⟩
  rw [hw1]; clear hw1 KI
  go_wp2_with fail
  refine (KG _).mono ?_
  rintro e w1 ⟨rfl, hw1⟩
  rw [hw1]; clear hw1 KG
  go_wp2_with fail
  refine (KR _).mono ?_
  rintro e w2 ⟨hor, hb2⟩
  clear KR
  have hZ := (at_new w w.heap.size 0#128 35 rfl).below hb2
  have kB := keepb hb2 (bl1 w _)
  clear hb2
  rcases hor with ⟨hno, rfl⟩ | ⟨L, ao, cp, hso, rfl, hown⟩
  · have HF : Hid (rsA t = none) := by show _ = _; rw [HRS.out, hno]
    obtain ⟨z0, z1, z2, z3, z4⟩ := hZ
    go_wp2
    exact bodyPost_ret (v := .tuple #[.agg #[.int .u64 0, .int .u64 0], .int .i64 12]) (by simp [results, Tryz.results76, go_sem, *]) rfl ⟨by rw [HF.out]; show _ = Ending.returned (.tuple #[.agg #[.int .u64 (hI 0#128), .int .u64 (lI 0#128)], .int .i64 12]); rw [hI_zero, lI_zero], bset2 kB (Nat.le_refl _) _ _⟩
  · by_cases h8 : L.length = 8
    · have HF : Hid (rsA t = some L) := by show _ = _; rw [HRS.out, hso]; exact if_pos h8
      rw [h8] at hown
      obtain ⟨g, c2, hv, hgl, hgr⟩ := hown.form (by omega)
      have hv2 : ao = some ⟨g, 0, none⟩ ∧ cp = c2 := by
        injection hv with e1 e2 e3; exact ⟨e1, e3⟩
      obtain ⟨rfl, rfl⟩ := hv2
      have hrow : Hid (∀ j, j < 8 → w2.cell? ⟨g, j, none⟩ = some (.int .i64 (L.getD j 0))) := fun j hj => row_int hown h8.symm j hj
      have HB : Hid (∀ j, j < 8 → 0 ≤ L.getD j 0 ∧ L.getD j 0 ≤ 65535) := fun j hj => by
        have := HBG.out L hso (L.getD j 0) (by rw [List.getD_eq_getElem?_getD, List.getElem?_eq_getElem (by omega)]; exact List.getElem_mem _)
        exact this
      have hgl' := (hown.lt g rfl).2
      have HXX : Hid (outV (rsA t) = gW L 8 ∧ outE (rsA t) = 0) := by show _ ∧ _; rw [HF.out]; exact ⟨rfl, rfl⟩
      clear HF
      rw [h8]
      have hgB : w.heap.size + 1 ≤ g := by simpa using (hown.lt g rfl).1
      clear HBG HRS hown hv hgl hgr hso
      go_wp2
      go_loopw [17] (fun q wr => ∃ k : Nat, k ≤ 8 ∧ q = .int .i64 k ∧ At wr w2.heap.size (gW L k) ∧ Hid (∀ j, j < 8 → wr.cell? ⟨g, j, none⟩ = some (.int .i64 (L.getD j 0))) ∧ At wr w.heap.size 0#128 ∧ Below w.heap.size w wr) (fun q _ => 8 - (intOf q).toNat)
      case atStart =>
        refine ⟨0, by omega, rfl, ?_, fun j hj => keepc (bl1 _ _) (hrow.out j hj), hZ.below (bl1 _ _), kB.alloc kB.size _⟩
        show At _ _ 0#128
        refine ⟨?_, ?_, ?_, ?_, ?_⟩ <;> simp [go_sem, hI_zero, lI_zero]
      case round =>
        have hZW := hZ.2.2.2.2
        clear hrow hZ kB
        obtain ⟨k, hk, rfl, X, hrow, hZ, kB⟩ := hrel
        by_cases hlt : k < 8
        · have hk2 : (k : Int) < 8 := by omega
          obtain ⟨v0, v1⟩ := HB.out k hlt
          have hc := hrow.out k hlt
          have KS : ∀ w, Calls Tryz.prog 97 #[.agg #[.int .u64 (hI (gW L k)), .int .u64 (lI (gW L k))], .int .i64 16] w fun e w' => e = .returned (.agg #[.int .u64 (hI (gW L k <<< 16)), .int .u64 (lI (gW L k <<< 16))]) ∧ Below w.heap.size w w' := fun w => rshl_any (gW L k) 16 w
          have HW : Hid (gW L (k + 1) = (gW L k <<< 16) ||| mkW 0 (L.getD k 0)) := rfl
          obtain ⟨o1, o2⟩ := orLo (gW L k <<< 16) (L.getD k 0) v0 v1
          rw [← HW.out] at o1 o2
          obtain ⟨z, HZ⟩ : ∃ z, Hid (gW L (k + 1) = z) := ⟨_, rfl⟩
          rw [HZ.out] at o1 o2
          generalize gW L k <<< 16 = y at *
          generalize gW L k = x at *
          generalize L.getD k 0 = v at *
          have hcv : IntKind.u64.wrap v = v := by simp [IntKind.wrap, IntKind.bits, IntKind.signed]; omega
          have HO2 : Hid (hI y = hI z) := o2
          clear HW o2
          obtain ⟨x0, x1, x2, x3, x4⟩ := id X
          go_wp2_with fail
          refine (KS _).mono ?_
          rintro e w5 ⟨rfl, hb5⟩
          clear KS x0 x1 x2 x3 x4
          have hs5 := hb5.size
          have X5 := (X.below hb5).set y
          have hZ5 := (hZ.below hb5).other (.int .u64 (hI y)) (.int .u64 (lI y)) (C := w2.heap.size) (by omega)
          have kB5 := bset2 (keepb hb5 kB) (C := w2.heap.size) (by omega) (.int .u64 (hI y)) (.int .u64 (lI y))
          have hrow5 : Hid (∀ j, j < 8 → ((w5.setCell ⟨w2.heap.size, 0, none⟩ (.int .u64 (hI y))).setCell ⟨w2.heap.size, 1, none⟩ (.int .u64 (lI y))).cell? ⟨g, j, none⟩ = some (.int .i64 (L.getD j 0))) := fun j hj => cell_wother (cell_wother (keepc hb5 (hrow.out j hj)) (by omega) _) (by omega) _
          have hc5 := cell_wother (p := 1) (cell_wother (p := 0) (keepc hb5 hc) (show ¬ w2.heap.size = g by omega) (.int .u64 (hI y))) (show ¬ w2.heap.size = g by omega) (.int .u64 (lI y))
          obtain ⟨y0, y1, y2, y3, y4⟩ := X.below hb5
          obtain ⟨x0, x1, x2, x3, x4⟩ := id X5
          clear X hZ kB hb5 hrow hc
          go_wp2_with fail
          go_region
          all_goals
            go_wp2
            go_roundw
            case rel => exact ⟨k + 1, by omega, by go_num, by rw [HZ.out]; exact (X5.wset z HO2.out).drew, fun j hj => cell_wother (hrow5.out j hj) (by omega) _, (hZ5.wother (by omega) _ _).drew, (kB5.setCell (p := ⟨w2.heap.size, 1, none⟩) (show w.heap.size ≤ w2.heap.size by omega) _).drew⟩
            case measure => simp [intOf]; omega
        · have hk8 : k = 8 := by omega
          subst hk8
          obtain ⟨x, HXE⟩ : ∃ x, Hid (gW L 8 = x) := ⟨_, rfl⟩
          rw [HXE.out] at X
          obtain ⟨x0, x1, x2, x3, x4⟩ := id X
          obtain ⟨z0, z1, z2, z3, z4⟩ := id hZ
          clear hrow HB
          go_wp2
          exact bodyPost_ret (v := .tuple #[.agg #[.int .u64 (hI x), .int .u64 (lI x)], .int .i64 0]) (by simp [results, Tryz.results76, go_sem, *]) rfl ⟨by rw [HXX.out.1, HXX.out.2, HXE.out], bset2 kB (Nat.le_refl _) _ _⟩
    · have HF : Hid (rsA t = none) := by show _ = _; rw [HRS.out, hso]; exact if_neg h8
      have h8' : ((L.length : Int) != 8) = true := by simp; omega
      obtain ⟨z0, z1, z2, z3, z4⟩ := hZ
      clear hown
      go_wp2
      exact bodyPost_ret (v := .tuple #[.agg #[.int .u64 0, .int .u64 0], .int .i64 12]) (by simp [results, Tryz.results76, go_sem, *]) rfl ⟨by rw [HF.out]; show _ = Ending.returned (.tuple #[.agg #[.int .u64 (hI 0#128), .int .u64 (lI 0#128)], .int .i64 12]); rw [hI_zero, lI_zero], bset2 kB (Nat.le_refl _) _ _⟩
end Go.Proofs.YtmeaikmmhgmgnaaGreat
/-
  'append(l, m...)' where both rows are the call's own.
-/
namespace Go.Proofs.YtmeaikmmhgmgnaaGreat
open Go.RowKit
set_option linter.unusedSimpArgs false
set_option linter.unusedVariables false

theorem wpList_append_rowZ {P : Program} {w : World} {ops : Array Oper} {rest : List Oper} {o : Oper} {a : Act} {Q : Exit → Act → World → Prop} (hgd : o.guard = none) (s x : Operand) (t : TypeId)
    (ho : o.op = .call { callee := .builtin .append, args := #[s, x], argTypes := #[t, t] })
    (base : Nat) (e : TypeId) (i : TypeInfo) (z : Value) (bytes : Nat) (ht : P.underlying t = some (.slice e)) (hi : P.info? e = some i) (hz : i.zero = some z)
    (hsize : i.size = 1) (hby : i.bytes = bytes) (hzs : z.cells.size = 1)
    (v : Value) (n : Nat) (xs : List Value) (hs : a.eval s = v) (hown : w.ownsRow base e 1 v n xs)
    (bs : Nat) (u : Value) (m : Nat) (ys : List Value) (hx : a.eval x = u) (hsrc : w.ownsRow bs e 1 u m ys) (h1 : ∀ y ∈ ys, y.oneCell' = true)
    (h63 : n + m ≤ maxLen) (hbytes : (n + m) * bytes ≤ 140737488355328) (hbase : base ≤ w.heap.size)
    (h : ∀ ao cap w', w'.ownsRow base e 1 (.slice ao (n + m) cap) (n + m) (xs ++ ys) → w.grownBy w' v.ownBlock → wpList P ops Q rest (a.put o.dst (.slice ao (n + m) cap)) w') : wpList P ops Q (o :: rest) a w := by
  have hlen := hsrc.1
  rcases hsrc.2 with ⟨hu, hm⟩ | ⟨g, cap, cur, hu, _⟩
  · refine wpList_append_own_none hgd s x t ho base e i 1 ht hi v n xs hs hown (by rw [hx, hu]) ?_
    have hy : ys = [] := by
      rw [hm] at hlen
      cases ys with
      | nil => rfl
      | cons => simp at hlen
    obtain ⟨ao, cp, hv⟩ := own_slice hown
    have := h ao cp w (by rw [hm, hy, List.append_nil, Nat.add_zero, ← hv]; exact hown) ⟨rfl, rfl, rfl, Nat.le_refl _, fun _ _ _ => rfl⟩
    rw [hm, Nat.add_zero, ← hv] at this
    exact this
  · have hc := hsrc.cells (g := g) (by rw [hu]; rfl)
    refine wpList_append_own w hgd s x t ho base e i z 1 bytes ht hi hz hsize hby hzs (by decide) v n xs hs hown ⟨g, 0, none⟩ m cap ys (by rw [hx, hu]) (by simpa using hlen) hc h1 h63 hbytes hbase ?_
    intro v' w' h2 h3 _
    obtain ⟨ao, cp, hv⟩ := own_slice h2
    rw [hv]
    rw [hv] at h2
    exact h ao cp w' h2 h3
theorem onesI (l : List Int) : ∀ y ∈ ints l, y.oneCell' = true := by
  intro y hy
  unfold ints at hy
  obtain ⟨n, -, rfl⟩ := List.mem_map.mp hy
  rfl
theorem gsG_len (last : Bool) : ∀ (l : List ByteArray) (acc xs : List Int), gsG last l acc = some xs → xs.length ≤ acc.length + l.length + 1 := by
  intro l
  induction l with
  | nil => intro acc xs e; simp [gsG] at e; subst e; simp
  | cons q l ih =>
    intro acc xs e
    unfold gsG at e
    split at e
    · injection e with e
      subst e; simp
    · split at e
      · cases e
      · have := ih _ _ e
        simp at this ⊢; omega
theorem gsO_len (t : ByteArray) (last : Bool) (xs : List Int) (e : gsO t last = some xs) : xs.length ≤ t.size + 2 := by
  unfold gsO at e
  split at e
  · injection e with e; subst e; simp
  · have h1 := gsG_len last _ [] xs e
    have h2 := (spl_len t 58 t.size 0 0).2
    simp at h1; omega
theorem gapG_bd (t : ByteArray) : ∀ f i, 0 ≤ gapG t f i → gapG t f i + 2 ≤ t.size := by
  intro f
  induction f with
  | zero => intro i h; exact absurd h (by show ¬ (0 : Int) ≤ -1; omega)
  | succ f ih =>
    intro i h
    by_cases h1 : i + 1 < t.size
    · by_cases h2 : byteAt t i = 58 ∧ byteAt t (i + 1) = 58
      · have e : gapG t (f + 1) i = (i : Int) := by
          show (if _ then _ else _) = _
          rw [if_pos h1, if_pos h2]
        rw [e]; omega
      · have e : gapG t (f + 1) i = gapG t f (i + 1) := by
          show (if _ then _ else _) = _
          rw [if_pos h1, if_neg h2]
        rw [e] at h ⊢
        exact ih _ h
    · have e : gapG t (f + 1) i = -1 := if_neg h1
      rw [e] at h; omega
theorem gapV_bd (t : ByteArray) (h : 0 ≤ gapV t) : gapV t + 2 ≤ t.size := gapG_bd t _ _ h
theorem own_apart {w w' : World} {b1 b2 e n m : Nat} {u v : Value} {xs ys : List Value} (hu : w.ownsRow b1 e 1 u n xs) (hub : ∀ k, u.ownBlock = some k → k < b2) (hv : w.ownsRow b2 e 1 v m ys) (hg : w.grownBy w' v.ownBlock) : w'.ownsRow b1 e 1 u n xs := by
  refine hu.kept hg ?_
  cases h : u.ownBlock with
  | none => exact Or.inl rfl
  | some k =>
    right
    intro q
    have := (hv.lt k q.symm).1
    have := hub k h
    omega
def sliceLen (v : Value) : Nat := match v with | .slice _ n _ => n | _ => 0
theorem At.grownBy {w w' : World} {B : Nat} {x : BitVec 128} {row : Option Nat} (h : At w B x) (hg : w.grownBy w' row) (hne : ¬ some B = row) : At w' B x := by
  obtain ⟨h0, h1, h2, h3, h4⟩ := h
  have hb := hg.block B h4 hne
  exact ⟨hg.cell h0 hne, hg.cell h1 hne, (World.frozen?_of_block (a := ⟨B, 0, none⟩) hb).trans h2, (World.frozen?_of_block (a := ⟨B, 1, none⟩) hb).trans h3, Nat.lt_of_lt_of_le h4 hg.size⟩
theorem rep_ints (A : List Int) (j : Nat) : ints (A ++ List.replicate (j + 1) 0) = ints (A ++ List.replicate j 0) ++ [Value.int .i64 0] := by
  unfold ints
  rw [List.replicate_succ', ← List.append_assoc, List.map_append (l₂ := [0])]
  rfl
end Go.Proofs.YtmeaikmmhgmgnaaGreat
