/-
  Part 9 of the proof: 5 texts, one behind the other.
-/
import Derived.Test.YtpchhfhdepkbcaaDoorPart8
import Derived.Test.YtpchhfhdepkbcaaDoorPart7
import Derived.Test.YtpchhfhdepkbcaaDoorPart4
import Derived.Laws.IdiomStrings
/-
  What the calls of package addr's answer and Parse and of law 2's known do.
-/
namespace Go.Proofs.YtpchhfhdepkbcaaDoor
open Go.RowKit
set_option linter.unusedSimpArgs false
set_option linter.unusedVariables false

theorem answer_any (x : BitVec 128) (b : Bool) (w : World) :
    Calls Tryd.prog 53 #[.agg #[.int .u64 (hI x), .int .u64 (lI x)], .bool b] w fun e w' => e = .returned (.tuple #[.agg #[.int .u64 (hI (if b = true then x else 0#128)), .int .u64 (lI (if b = true then x else 0#128))], .int .i64 (if b = true then 0 else 12)]) ∧ Below w.heap.size w w' := by
  cases b
  · rw [if_neg (by simp), if_neg (by simp), hI_zero, lI_zero]
    go_enter Tryd.func53, Tryd.ntmps53
    go_wp2
    exact bodyPost_ret (v := .tuple #[.agg #[.int .u64 0, .int .u64 0], .int .i64 12]) (by simp [results, Tryd.results53, go_sem]) rfl ⟨rfl, bl2 _ _ _⟩
  · rw [if_pos rfl, if_pos rfl]
    go_enter Tryd.func53, Tryd.ntmps53
    go_wp2
    exact bodyPost_ret (v := .tuple #[.agg #[.int .u64 (hI x), .int .u64 (lI x)], .int .i64 0]) (by simp [results, Tryd.results53, go_sem]) rfl ⟨rfl, bl2 _ _ _⟩

/-- What Parse tells of a text. -/
def apV (F : Int) (s : ByteArray) : BitVec 128 := if F = 32 then (if fourB s = true then fourV s else 0#128) else if F = 128 then (if (six0 s).2 = true then (six0 s).1 else 0#128) else 0#128
def apE (F : Int) (s : ByteArray) : Int := if F = 32 then (if fourB s = true then 0 else 12) else if F = 128 then (if (six0 s).2 = true then 0 else 12) else 11

set_option maxHeartbeats 2000000 in
theorem aparse_any (F : Int) (s : ByteArray) (w : World) (hs : s.size ≤ maxLen) :
    Calls Tryd.prog 17 #[.int .i64 F, .string s] w fun e w' => e = .returned (.tuple #[.agg #[.int .u64 (hI (apV F s)), .int .u64 (lI (apV F s))], .int .i64 (apE F s)]) ∧ Below w.heap.size w w' := by
  unfold apV apE
  by_cases h32 : F = 32
  · rw [if_pos h32, if_pos h32]
    have KR := fun w => readFour_any s w hs
    have KA := fun w => answer_any (fourV s) (fourB s) w
    revert KA
    generalize (if fourB s = true then fourV s else 0#128) = x
    generalize (if fourB s = true then (0 : Int) else 12) = r
    intro KA
    generalize fourV s = y at *
    generalize fourB s = b at *
    subst h32
    go_enter Tryd.func17, Tryd.ntmps17
    go_wp2_with fail
    refine (KR _).mono ?_
    rintro e w1 ⟨rfl, hb1⟩
    go_wp2_with fail
    refine (KA _).mono ?_
    rintro e w2 ⟨rfl, hb2⟩
    have hZ := ((at_new w w.heap.size 0#128 24 rfl).below hb1).below hb2
    have kB := keepb hb2 (keepb hb1 (bl1 w _))
    obtain ⟨z0, z1, z2, z3, z4⟩ := hZ
    clear hb1 hb2 KR KA
    go_wp2
    exact bodyPost_ret (v := .tuple #[.agg #[.int .u64 (hI x), .int .u64 (lI x)], .int .i64 r]) (by simp [results, Tryd.results17, go_sem, *]) rfl ⟨rfl, bset2 kB (Nat.le_refl _) _ _⟩
  rw [if_neg h32, if_neg h32]
  by_cases h128 : F = 128
  · rw [if_pos h128, if_pos h128]
    have KR := fun w => readSix_any s w hs
    have KA := fun w => answer_any (six0 s).1 (six0 s).2 w
    revert KA
    generalize (if (six0 s).2 = true then (six0 s).1 else 0#128) = x
    generalize (if (six0 s).2 = true then (0 : Int) else 12) = r
    intro KA
    generalize (six0 s).1 = y at *
    generalize (six0 s).2 = b at *
    clear h32
    subst h128
    go_enter Tryd.func17, Tryd.ntmps17
    go_wp2_with fail
    refine (KR _).mono ?_
    rintro e w1 ⟨rfl, hb1⟩
    go_wp2_with fail
    refine (KA _).mono ?_
    rintro e w2 ⟨rfl, hb2⟩
    have hZ := ((at_new w w.heap.size 0#128 24 rfl).below hb1).below hb2
    have kB := keepb hb2 (keepb hb1 (bl1 w _))
    obtain ⟨z0, z1, z2, z3, z4⟩ := hZ
    clear hb1 hb2 KR KA
    go_wp2
    exact bodyPost_ret (v := .tuple #[.agg #[.int .u64 (hI x), .int .u64 (lI x)], .int .i64 r]) (by simp [results, Tryd.results17, go_sem, *]) rfl ⟨rfl, bset2 kB (Nat.le_refl _) _ _⟩
  · rw [if_neg h128, if_neg h128, hI_zero, lI_zero]
    have b1 : (F == 32) = false := by simp [h32]
    have b2 : (F == 128) = false := by simp [h128]
    go_enter Tryd.func17, Tryd.ntmps17
    go_wp2
    exact bodyPost_ret (v := .tuple #[.agg #[.int .u64 0, .int .u64 0], .int .i64 11]) (by simp [results, Tryd.results17, go_sem, *]) rfl ⟨rfl, bl1 _ _⟩

theorem knownA (w : World) :
    Calls Tryd.prog 17 #[.int .i64 32, .string ⟨#[49, 48, 46, 48, 46, 48, 46, 49]⟩] w fun e w' => e = .returned (.tuple #[.agg #[.int .u64 720575944674246656, .int .u64 0], .int .i64 0]) ∧ Below w.heap.size w w' := by
  have h := aparse_any 32 ⟨#[49, 48, 46, 48, 46, 48, 46, 49]⟩ w (by decide)
  rw [show hI (apV 32 ⟨#[49, 48, 46, 48, 46, 48, 46, 49]⟩) = 720575944674246656 by decide +kernel, show lI (apV 32 ⟨#[49, 48, 46, 48, 46, 48, 46, 49]⟩) = 0 by decide +kernel, show apE 32 ⟨#[49, 48, 46, 48, 46, 48, 46, 49]⟩ = 0 by decide +kernel] at h
  exact h
theorem knownB (w : World) :
    Calls Tryd.prog 17 #[.int .i64 128, .string ⟨#[49, 58, 58, 50]⟩] w fun e w' => e = .returned (.tuple #[.agg #[.int .u64 281474976710656, .int .u64 2], .int .i64 0]) ∧ Below w.heap.size w w' := by
  have h := aparse_any 128 ⟨#[49, 58, 58, 50]⟩ w (by decide)
  rw [show hI (apV 128 ⟨#[49, 58, 58, 50]⟩) = 281474976710656 by decide +kernel, show lI (apV 128 ⟨#[49, 58, 58, 50]⟩) = 2 by decide +kernel, show apE 128 ⟨#[49, 58, 58, 50]⟩ = 0 by decide +kernel] at h
  exact h

set_option maxHeartbeats 1000000 in
theorem known2_any (w : World) :
    Calls Tryd.prog 11 #[] w fun e w' => e = .returned (.bool true) ∧ Below w.heap.size w w' := by
  go_enter Tryd.func11, Tryd.ntmps11
  go_wp2_with fail
  refine (knownA _).mono ?_
  rintro e w1 ⟨rfl, hb1⟩
  go_wp2_with fail
  refine (knownB _).mono ?_
  rintro e w2 ⟨rfl, hb2⟩
  have hA : w2.cell? ⟨w1.heap.size, 0, none⟩ = some (.int .u64 720575944674246656) := keepc hb2 (by simp [go_sem])
  have hA1 : w2.cell? ⟨w1.heap.size, 1, none⟩ = some (.int .u64 0) := keepc hb2 (by simp [go_sem])
  have s2 := cell_in hA
  have n2 : ¬ w2.heap.size = w1.heap.size := by omega
  have kB1 := hb1.alloc hb1.size (.cells #[.int .u64 720575944674246656, .int .u64 0] 24)
  have kB2 := keepb hb2 kB1
  clear hb1 hb2 kB1
  go_wp2
  go_ret
  exact ⟨rfl, kB2.alloc kB2.size _⟩
end Go.Proofs.YtpchhfhdepkbcaaDoor
/-
  Plain facts: Parse of package addr and of the reference tell the same of every text.
-/
namespace Go.Proofs.YtpchhfhdepkbcaaDoor
open Go.RowKit
set_option linter.unusedSimpArgs false
set_option linter.unusedVariables false

theorem addL_get : ∀ (gs : List Int) (f : Nat → Int) (c k : Nat), addL f c gs k = if c ≤ k ∧ k < c + gs.length then gs.getD (k - c) 0 else f k := by
  intro gs
  induction gs with
  | nil => intro f c k; rw [if_neg (by simp only [List.length_nil]; omega)]; rfl
  | cons g gs ih =>
    intro f c k
    show addL (upd f c g) (c + 1) gs k = _
    rw [ih]
    by_cases h : c + 1 ≤ k ∧ k < c + 1 + gs.length
    · rw [if_pos h, if_pos (by simp; omega), show k - c = (k - (c + 1)) + 1 by omega]; rfl
    · rw [if_neg h]
      by_cases h2 : k = c
      · subst h2
        rw [if_pos (by simp), Nat.sub_self]
        unfold upd; rw [if_pos rfl]; rfl
      · rw [if_neg (by simp; omega)]
        unfold upd; rw [if_neg h2]
theorem plc_no (c k : Nat) : plc c (-1) k = (k : Int) := by unfold plc; rw [if_neg (by simp)]
theorem lay16 (x : BitVec 128) (k : Nat) (v : Int) (hk : k < 8) : layW x k 16 v = x ||| (mkW 0 v <<< (112 - 16 * k)) := by
  unfold layW
  rw [show (128 - 16 * ((k : Int) + 1)).toNat = 112 - 16 * k by omega]
theorem lay16_zero (x : BitVec 128) (i : Int) : layW x i 16 0 = x := by
  unfold layW
  rw [show mkW 0 0 = 0#128 by decide +kernel, BitVec.zero_shiftLeft, BitVec.or_zero]
theorem six_gW (g : Nat → Int) (L : List Int) (h : ∀ k, k < 8 → g k = L.getD k 0) : ∀ k, k ≤ 8 → sixW g 8 (-1) k = gW L k <<< (128 - 16 * k) := by
  intro k
  induction k with
  | zero => intro _; show 0#128 = 0#128 <<< _; rw [BitVec.zero_shiftLeft]
  | succ k ih =>
    intro hk
    show layW (sixW g 8 (-1) k) (plc 8 (-1) k) 16 (g k) = ((gW L k <<< 16) ||| mkW 0 (L.getD k 0)) <<< (128 - 16 * (k + 1))
    rw [plc_no, lay16 _ _ _ (by omega), ih (by omega), h k (by omega), BitVec.shiftLeft_or_distrib, show 128 - 16 * (k + 1) = 112 - 16 * k by omega, show 128 - 16 * k = 16 + (112 - 16 * k) by omega, BitVec.shiftLeft_add]
theorem fin_no (gs : List Int) (h : gs.length ≤ 8) : (gs.length = 8 → finP (addL (fun _ => 0) 0 gs) gs.length (-1) = (gW gs 8, true)) ∧ (¬ gs.length = 8 → (finP (addL (fun _ => 0) 0 gs) gs.length (-1)).2 = false) := by
  refine ⟨fun h8 => ?_, fun h8 => ?_⟩
  · unfold finP finV finB
    rw [h8, if_pos (by simp)]
    have := six_gW (addL (fun _ => 0) 0 gs) gs (fun k hk => by rw [addL_get, if_pos (by omega), Nat.sub_zero]) 8 (by omega)
    rw [this, show 128 - 16 * 8 = 0 by omega, BitVec.shiftLeft_zero]
    simp
  · unfold finP finB
    simp [h8]
theorem fin_gap (A B : List Int) (h : A.length + B.length ≤ 7) :
    finP (addL (addL (fun _ => 0) 0 A) A.length B) (A.length + B.length) ((A.length : Nat) : Int) = (gW (A ++ List.replicate (8 - (A.length + B.length)) 0 ++ B) 8, true) := by
  have hp : ¬ ((A.length : Nat) : Int) = -1 := by omega
  have h8 : ¬ A.length + B.length = 8 := by omega
  have hF : ∀ k, addL (addL (fun _ => 0) 0 A) A.length B k = if A.length ≤ k ∧ k < A.length + B.length then B.getD (k - A.length) 0 else if k < A.length then A.getD k 0 else 0 := by
    intro k
    rw [addL_get, addL_get]
    by_cases h1 : A.length ≤ k ∧ k < A.length + B.length
    · rw [if_pos h1, if_pos h1]
    · rw [if_neg h1, if_neg h1]
      by_cases h2 : k < A.length
      · rw [if_pos (by omega), if_pos h2, Nat.sub_zero]
      · rw [if_neg (by omega), if_neg h2]
  generalize addL (addL (fun _ => 0) 0 A) A.length B = F at *
  obtain ⟨z, hz⟩ : ∃ z, 8 - (A.length + B.length) = z := ⟨_, rfl⟩
  rw [hz]
  obtain ⟨L, hL⟩ : ∃ L : List Int, A ++ List.replicate z 0 ++ B = L := ⟨_, rfl⟩
  rw [hL]
  have g1 : ∀ k, k < A.length → L.getD k 0 = A.getD k 0 := by
    intro k hk
    rw [← hL, List.append_assoc, List.getD_eq_getElem?_getD, List.getElem?_append_left hk, ← List.getD_eq_getElem?_getD]
  have g2 : ∀ k, A.length ≤ k → k < A.length + z → L.getD k 0 = 0 := by
    intro k h1 h2
    rw [← hL, List.append_assoc, List.getD_eq_getElem?_getD, List.getElem?_append_right h1, List.getElem?_append_left (by simp; omega), List.getElem?_replicate]
    split <;> rfl
  have g3 : ∀ k, k < B.length → L.getD (A.length + z + k) 0 = B.getD k 0 := by
    intro k hk
    rw [← hL, List.getD_eq_getElem?_getD, List.getElem?_append_right (by simp), List.getD_eq_getElem?_getD]
    congr 2
    simp
  have s1 : ∀ k, k ≤ A.length → sixW F (A.length + B.length) (A.length : Nat) k = sixW (fun k => L.getD k 0) 8 (-1) k := by
    intro k
    induction k with
    | zero => intro _; rfl
    | succ k ih =>
      intro hk
      show layW (sixW F _ _ k) (plc _ _ k) 16 (F k) = layW (sixW _ 8 (-1) k) (plc 8 (-1) k) 16 (L.getD k 0)
      rw [ih (by omega), plc_no, hF, if_neg (by omega), if_pos (by omega), g1 k (by omega)]
      unfold plc; rw [if_neg (by omega)]
  have s2 : ∀ m, m ≤ z → sixW (fun k => L.getD k 0) 8 (-1) (A.length + m) = sixW (fun k => L.getD k 0) 8 (-1) A.length := by
    intro m
    induction m with
    | zero => intro _; rfl
    | succ m ih =>
      intro hm
      show layW (sixW _ 8 (-1) (A.length + m)) (plc 8 (-1) (A.length + m)) 16 (L.getD (A.length + m) 0) = _
      rw [g2 _ (by omega) (by omega), lay16_zero, ih (by omega)]
  have s3 : ∀ m, m ≤ B.length → sixW F (A.length + B.length) (A.length : Nat) (A.length + m) = sixW (fun k => L.getD k 0) 8 (-1) (A.length + z + m) := by
    intro m
    induction m with
    | zero => intro _; rw [Nat.add_zero, Nat.add_zero, s1 _ (Nat.le_refl _), s2 z (Nat.le_refl _)]
    | succ m ih =>
      intro hm
      show layW (sixW F _ _ (A.length + m)) (plc _ _ (A.length + m)) 16 (F (A.length + m)) = layW (sixW _ 8 (-1) (A.length + z + m)) (plc 8 (-1) (A.length + z + m)) 16 (L.getD (A.length + z + m) 0)
      rw [ih (by omega), plc_no, hF, if_pos (by omega), show A.length + m - A.length = m by omega, g3 m (by omega)]
      have : plc (A.length + B.length) (A.length : Nat) (A.length + m) = ((A.length + z + m : Nat) : Int) := by
        unfold plc; rw [if_pos (by omega)]; omega
      rw [this]
  unfold finP finV finB
  rw [if_pos (by simp [hp, h8])]
  have e := s3 B.length (Nat.le_refl _)
  rw [show A.length + z + B.length = 8 by omega] at e
  rw [e, six_gW (fun k => L.getD k 0) L (fun k _ => rfl) 8 (by omega), show 128 - 16 * 8 = 0 by omega, BitVec.shiftLeft_zero]
  simp [hp, h8]
theorem fin_gap8 (f : Nat → Int) (n : Nat) (p : Int) (hp : ¬ p = -1) (h : n = 8) : (finP f n p).2 = false := by
  unfold finP finB
  simp [hp, h]

theorem gsO_full (T : ByteArray) (last : Bool) (h : ¬ T.size = 0) : gsO T last = gsP last T := if_neg h
/-- Behind a gap at A's end. -/
theorem rest_eq (T : ByteArray) (A : List Int) (hA : A.length ≤ 8) :
    ((SS T (addL (fun _ => 0) 0 A) A.length ((A.length : Nat) : Int)).2 = (match gsO T true with | some B => decide (A.length + B.length ≤ 7) | none => false)) ∧
    (∀ B, gsO T true = some B → A.length + B.length ≤ 7 → (SS T (addL (fun _ => 0) 0 A) A.length ((A.length : Nat) : Int)).1 = gW (A ++ List.replicate (8 - (A.length + B.length)) 0 ++ B) 8) := by
  have hp : ¬ ((A.length : Nat) : Int) = -1 := by omega
  by_cases h0 : T.size = 0
  · rw [SS_nil T _ _ _ h0, show gsO T true = some [] from if_pos h0]
    by_cases h7 : A.length ≤ 7
    · have e := fin_gap A [] (by simp; exact h7)
      have e2 : addL (addL (fun _ => 0) 0 A) A.length [] = addL (fun _ => 0) 0 A := rfl
      rw [e2, List.length_nil, Nat.add_zero] at e
      rw [e]
      refine ⟨by simp [h7], fun B hB _ => ?_⟩
      injection hB with hB; subst hB
      rfl
    · rw [fin_gap8 _ _ _ hp (by omega)]
      refine ⟨by simp; omega, fun B hB h => ?_⟩
      injection hB with hB; subst hB
      simp at h; omega
  · rw [gsO_full T true h0, behind_gap T.size T _ _ _ (Nat.le_refl _) hA hp (by omega)]
    cases gsP true T with
    | none => exact ⟨rfl, fun B hB => by cases hB⟩
    | some B =>
      show (if A.length + B.length ≤ 8 then _ else _ : BitVec 128 × Bool).2 = decide (A.length + B.length ≤ 7) ∧ _
      by_cases h7 : A.length + B.length ≤ 7
      · rw [if_pos (by omega), fin_gap A B h7]
        refine ⟨by simp [h7], fun B' hB _ => ?_⟩
        injection hB with hB; subst hB
        show (if A.length + B.length ≤ 8 then _ else _ : BitVec 128 × Bool).1 = _
        rw [if_pos (by omega), fin_gap A B h7]
      · refine ⟨?_, fun B' hB h => by injection hB with hB; subst hB; omega⟩
        by_cases h8 : A.length + B.length ≤ 8
        · rw [if_pos h8, fin_gap8 _ _ _ hp (by omega)]; simp; omega
        · rw [if_neg h8]; simp; omega
theorem rsB_none1 (s : ByteArray) (k : Nat) (h : gsO (s.extract 0 k) false = none) : rsB s k = none := by unfold rsB; rw [h]
theorem rsB_none2 (s : ByteArray) (k : Nat) (A : List Int) (h : gsO (s.extract 0 k) false = some A) (h2 : gsO (s.extract (k + 2) s.size) true = none) : rsB s k = none := by unfold rsB; rw [h, h2]
theorem rsB_some (s : ByteArray) (k : Nat) (A B : List Int) (h : gsO (s.extract 0 k) false = some A) (h2 : gsO (s.extract (k + 2) s.size) true = some B) : rsB s k = if A.length + B.length ≤ 7 then some (A ++ List.replicate (8 - (A.length + B.length)) 0 ++ B) else none := by unfold rsB; rw [h, h2]
/-- A gap at k. -/
theorem six_gap (s : ByteArray) (k : Nat) (A : List Int) (x : BitVec 128 × Bool) (hA : gsO (s.extract 0 k) false = some A) (h8 : A.length ≤ 8) (hx : x = SS (s.extract (k + 2) s.size) (addL (fun _ => 0) 0 A) A.length ((A.length : Nat) : Int)) :
    x.2 = (rsB s k).isSome ∧ ∀ L, rsB s k = some L → x.1 = gW L 8 := by
  have hrs := rest_eq (s.extract (k + 2) s.size) A h8
  rw [← hx] at hrs
  clear hx
  obtain ⟨r1, r2⟩ := hrs
  rw [r1]
  cases hB : gsO (s.extract (k + 2) s.size) true with
  | none =>
    rw [rsB_none2 s k A hA hB]
    exact ⟨rfl, fun L hL => by cases hL⟩
  | some B =>
    rw [rsB_some s k A B hA hB]
    by_cases h7 : A.length + B.length ≤ 7
    · rw [if_pos h7]
      refine ⟨decide_eq_true h7, fun L hL => ?_⟩
      injection hL with hL
      rw [← hL]; exact r2 B hB h7
    · rw [if_neg h7]
      exact ⟨decide_eq_false h7, fun L hL => by cases hL⟩
theorem six_eq (s : ByteArray) : (six0 s).2 = (rsO s).isSome ∧ ∀ L, rsO s = some L → (six0 s).1 = gW L 8 := by
  by_cases hb : both s 0
  · have hgap := gap_at s 0 hb (fun m hm => by omega)
    have hlt := both_lt s 0 hb
    have e : six0 s = SS (s.extract 2 s.size) (fun _ => 0) 0 0 := by
      have h1 : six0 s = sixR s (s.size + 1) 2 (fun _ => 0) 0 0 := if_pos hb
      rw [h1]
      have h2 := sixR_shift s 2 (by omega) (s.size + 1) 0 (fun _ => 0) 0 0
      rw [Nat.add_zero] at h2
      rw [h2]
      have hz := size_sub s 2 s.size (Nat.le_refl _)
      exact sixR_fuel _ _ _ _ _ _ _ (by omega) (by omega)
    have hr : rsO s = rsB s 0 := by
      unfold rsO; rw [hgap, if_neg (by omega)]; rfl
    have hA : gsO (s.extract 0 0) false = some [] := if_pos (by rw [size_sub s 0 0 (by omega)])
    rw [hr]
    exact six_gap s 0 [] (six0 s) hA (by simp) e
  · have e : six0 s = SS s (fun _ => 0) 0 (-1) := if_neg hb
    rw [e]
    by_cases h0 : s.size = 0
    · have hg : gapV s = -1 := gap_none s (fun k q => by have := both_lt s k q; omega)
      have hr : rsO s = none := by
        unfold rsO rsA; rw [hg, if_pos (by omega), show gsO s true = some [] from if_pos h0]; rfl
      rw [SS_nil s _ _ _ h0, hr]
      exact ⟨by unfold finP finB; simp, fun L hL => by cases hL⟩
    · rw [ahead_gap s.size s _ _ (Nat.le_refl _) (by omega) (by omega) hb]
      rcases gapV_spec s with ⟨a, -⟩ | ⟨k, a, b, -⟩
      · rw [gapRes_no _ _ _ a]
        have hr : rsO s = rsA s := by unfold rsO; rw [a, if_pos (by omega)]
        rw [hr]
        unfold rsA
        rw [gsO_full s true h0]
        cases gsP true s with
        | none => exact ⟨rfl, fun L hL => by cases hL⟩
        | some gs =>
          have e1 : outG (some gs) (fun _ => 0) 0 (-1) = if gs.length ≤ 8 then finP (addL (fun _ => 0) 0 gs) gs.length (-1) else (0#128, false) := by
            unfold outG; simp only [Nat.zero_add]
          rw [e1]
          by_cases h8 : gs.length = 8
          · rw [if_pos (by omega), (fin_no gs (by omega)).1 h8]
            simp only [h8, if_true]
            exact ⟨rfl, fun L hL => by injection hL with hL; rw [hL]⟩
          · simp only [h8, if_false]
            refine ⟨?_, fun L hL => by cases hL⟩
            by_cases hl : gs.length ≤ 8
            · rw [if_pos hl, (fin_no gs hl).2 h8]; rfl
            · rw [if_neg hl]; rfl
      · rw [gapRes_at _ _ _ _ a]
        have hk := both_lt s k b
        have hk0 : ¬ k = 0 := fun q => by subst q; exact hb b
        have hr : rsO s = rsB s k := by unfold rsO; rw [a, if_neg (by omega), Int.toNat_natCast]
        rw [hr]
        have hfull := gsO_full (s.extract 0 k) false (by rw [size_sub s 0 k (by omega)]; omega)
        cases hA : gsP false (s.extract 0 k) with
        | none =>
          rw [rsB_none1 s k (by rw [hfull, hA])]
          exact ⟨rfl, fun L hL => by cases hL⟩
        | some A =>
          simp only [Nat.zero_add]
          by_cases h8 : A.length ≤ 8
          · rw [if_pos h8]
            exact six_gap s k A _ (by rw [hfull, hA]) h8 rfl
          · rw [if_neg h8]
            have hn : rsB s k = none := by
              cases hB : gsO (s.extract (k + 2) s.size) true with
              | none => exact rsB_none2 s k A (by rw [hfull, hA]) hB
              | some B => rw [rsB_some s k A B (by rw [hfull, hA]) hB, if_neg (by omega)]
            rw [hn]
            exact ⟨rfl, fun L hL => by cases hL⟩

theorem dot_size (T : ByteArray) : ∀ n p, p ≤ T.size → T.size - p ≤ n → (∀ q ∈ spl T 46 (T.size - p) p p, 0 ≤ octV q) → T.size - p + 1 ≤ 4 * (spl T 46 (T.size - p) p p).length := by
  intro n
  induction n with
  | zero =>
    intro p hp hn _
    have := (spl_len T 46 (T.size - p) p p).1
    omega
  | succ n ih =>
    intro p hp hn hall
    obtain ⟨j, hpj, hj, hno, hw⟩ := spl_next T 46 p hp
    have hpiece : 0 ≤ octV (T.extract p j) := by
      rcases hw with ⟨rfl, hs⟩ | ⟨_, _, hs⟩
      · exact hall _ (by rw [hs]; simp)
      · exact hall _ (by rw [hs]; simp)
    have h3 := (oct_facts _ hpiece).2.1
    rw [size_sub T p j hj] at h3
    rcases hw with ⟨rfl, hs⟩ | ⟨hlt, hc, hs⟩
    · rw [hs]; simp; omega
    · have := ih (j + 1) (by omega) (by omega) (fun q hq => hall q (by rw [hs]; exact List.mem_cons_of_mem _ hq))
      rw [hs, List.length_cons]; omega
theorem dot_short (T : ByteArray) (h : (dotO T).isSome = true) : T.size ≤ 15 := by
  obtain ⟨hl, hall⟩ := dotO_pieces T h
  have := dot_size T T.size 0 (by omega) (by omega) (by rw [Nat.sub_zero]; exact hall)
  rw [Nat.sub_zero, hl] at this
  omega
theorem gr_short (q : ByteArray) (h : ¬ grV q < 0) : q.size ≤ 4 := by
  unfold grV at h
  split at h
  · omega
  · omega
theorem gs_short (last : Bool) : ∀ n (T : ByteArray) (gs : List Int), T.size ≤ n → gsP last T = some gs → T.size + 1 ≤ 5 * gs.length + 6 := by
  intro n
  induction n with
  | zero => intro T gs h _; omega
  | succ n ih =>
    intro T gs hn h
    obtain ⟨j, hj, hno, hw⟩ := spl_first T 58
    rcases hw with ⟨rfl, hs⟩ | ⟨hlt, hcol, hs⟩
    · rw [gsP_one last T hs] at h
      split at h
      · rename_i hd
        have := dot_short T hd.2
        injection h with h
        subst h; simp; omega
      · split at h
        · cases h
        · rename_i hg
          have := gr_short T hg
          omega
    · rw [gsP_more last T j hs] at h
      split at h
      · cases h
      · rename_i hg
        have h4 := gr_short _ hg
        rw [size_sub T 0 j hj] at h4
        have hT := size_sub T (j + 1) T.size (Nat.le_refl _)
        cases hx : gsP last (T.extract (j + 1) T.size) with
        | none => rw [hx] at h; cases h
        | some g2 =>
          rw [hx] at h
          injection h with h
          subst h
          have := ih _ g2 (by omega) hx
          simp only [List.length_cons]; omega
theorem gsO_short (T : ByteArray) (last : Bool) (gs : List Int) (h : gsO T last = some gs) : T.size ≤ 5 * gs.length + 5 := by
  by_cases h0 : T.size = 0
  · omega
  · rw [gsO_full T last h0] at h
    have := gs_short last T.size T gs (Nat.le_refl _) h
    omega
theorem rs_short (s : ByteArray) (L : List Int) (h : rsO s = some L) : s.size ≤ 60 := by
  unfold rsO at h
  rcases gapV_spec s with ⟨a, -⟩ | ⟨k, a, b, -⟩
  · rw [a, if_pos (by omega)] at h
    unfold rsA at h
    cases hx : gsO s true with
    | none => rw [hx] at h; cases h
    | some m =>
      have := gsO_short s true m hx
      rw [hx] at h
      by_cases h8 : m.length = 8
      · omega
      · simp [h8] at h
  · rw [a, if_neg (by omega), Int.toNat_natCast] at h
    have hk := both_lt s k b
    cases hA : gsO (s.extract 0 k) false with
    | none => rw [rsB_none1 s k hA] at h; cases h
    | some A =>
      cases hB : gsO (s.extract (k + 2) s.size) true with
      | none => rw [rsB_none2 s k A hA hB] at h; cases h
      | some B =>
        rw [rsB_some s k A B hA hB] at h
        have h1 := gsO_short _ _ _ hA
        have h2 := gsO_short _ _ _ hB
        rw [size_sub s 0 k (by omega)] at h1
        rw [size_sub s (k + 2) s.size (Nat.le_refl _)] at h2
        by_cases h7 : A.length + B.length ≤ 7
        · omega
        · rw [if_neg h7] at h; cases h
/-- Both tell the same of every text. -/
theorem parse_eq (F : Int) (s : ByteArray) : apV F s = rpV F s ∧ apE F s = rpE F s := by
  unfold apV apE rpV rpE
  by_cases h32 : F = 32
  · subst h32
    have hf : fam 32 = true := by decide
    obtain ⟨e1, e2⟩ := four_eq s
    rw [hf]
    simp only [if_true, if_pos, Bool.true_eq_false, false_or, if_false]
    by_cases hl : 60 < s.size
    · have hb : fourB s = false := by
        rw [e1]
        cases hx : (dotO s).isSome with
        | false => rfl
        | true => have := dot_short s hx; omega
      rw [hb]
      simp [hl]
    · simp only [hl, if_false]
      cases hx : dotO s with
      | none => rw [e1, hx]; simp
      | some u => rw [e1, hx, e2 u hx]; simp
  · by_cases h128 : F = 128
    · subst h128
      have hf : fam 128 = true := by decide
      obtain ⟨e1, e2⟩ := six_eq s
      rw [hf]
      simp only [show ¬ (128 : Int) = 32 by decide, if_false, if_true, Bool.true_eq_false, false_or]
      by_cases hl : 60 < s.size
      · have hb : (six0 s).2 = false := by
          rw [e1]
          cases hx : rsO s with
          | none => rfl
          | some L => have := rs_short s L hx; omega
        rw [hb]
        simp [hl]
      · simp only [hl, if_false]
        cases hx : rsO s with
        | none => rw [e1, hx]; simp [outV, outE]
        | some L => rw [e1, hx, e2 L hx]; simp [outV, outE]
    · have hf : fam F = false := by unfold fam; simp [h32, h128]
      rw [hf]
      simp [h32, h128]
end Go.Proofs.YtpchhfhdepkbcaaDoor
/-
  What the calls of law 2's within and decimal do.
-/
namespace Go.Proofs.YtpchhfhdepkbcaaDoor
open Go.RowKit
set_option linter.unusedSimpArgs false
set_option linter.unusedVariables false

theorem tmod_ways (a n : Int) (h : 0 < n) : (a.tmod n < 0 ∧ a.tmod n + n = a % n) ∨ (0 ≤ a.tmod n ∧ a.tmod n = a % n) := by
  by_cases h0 : 0 ≤ a
  · right
    have : a.tmod n = a % n := Int.tmod_eq_emod_of_nonneg h0
    exact ⟨by rw [this]; exact Int.emod_nonneg _ (by omega), this⟩
  · have e := Int.tmod_eq_emod (a := a) (b := n)
    have b1 := Int.emod_nonneg a (b := n) (by omega)
    have b2 := Int.emod_lt_of_pos a h
    split at e
    · right; omega
    · left
      have : (n.natAbs : Int) = n := by omega
      omega
/-- The digits of m, written ahead of t. -/
def decF : Nat → Nat → List UInt8 → List UInt8
  | 0, _, t => t
  | f + 1, m, t => if m = 0 ∧ ¬ t = [] then t else decF f (m / 10) (UInt8.ofNat (48 + m % 10) :: t)
def decL (n : Nat) : List UInt8 := decF 20 n []

theorem one_conv (w : World) (d : Nat) (h : d < 256) :
    (convert 83 9 (.slice (some ⟨w.heap.size, 0, none⟩) 1 1)).run Tryd.prog (w.alloc (.cells #[.int .u8 (d : Int)] 5)) = .ok (.string ⟨#[UInt8.ofNat d]⟩) (w.alloc (.cells #[.int .u8 (d : Int)] 5)) := by
  have := run_convert_bytes_back (P := Tryd.prog) (w.alloc (.cells #[.int .u8 (d : Int)] 5)) 83 9 5 ⟨w.heap.size, 0, none⟩ 1 [UInt8.ofNat d] Tryd.underlying83 Tryd.underlying5 Tryd.underlying9 (by
    intro j hj
    have : j = 0 := by simpa using hj
    subst this
    have e : (UInt8.ofNat d).toNat = d := by rw [UInt8.toNat_ofNat']; omega
    simp [go_sem, Addr.add, e])
  exact this
theorem cat_one (d : UInt8) (t : List UInt8) : ((⟨#[d]⟩ : ByteArray) ++ ⟨t.toArray⟩) = ⟨(d :: t).toArray⟩ := by
  apply ByteArray.ext
  simp
theorem decF_zero (f m : Nat) (t : List UInt8) (h : m = 0 ∧ ¬ t = []) : decF f m t = t := by
  cases f with
  | zero => rfl
  | succ f => exact if_pos h

theorem isEmpty_of (t : List UInt8) (S : ByteArray) (h : S = ⟨t.toArray⟩) : S.toList.isEmpty = t.isEmpty := by
  subst h
  rw [Lib.toList_data]
def sizeOf0 (b : Value) : Nat := match b with | .string s => if s.size = 0 then 1 else 0 | _ => 0

end Go.Proofs.YtpchhfhdepkbcaaDoor
/-
  What the calls of turnpikeref2's Decimal and hex do.
-/
namespace Go.Proofs.YtpchhfhdepkbcaaDoor
open Go.RowKit
set_option linter.unusedSimpArgs false
set_option linter.unusedVariables false

set_option maxHeartbeats 1000000 in
set_option maxRecDepth 20000 in
theorem rdec_any (n : Nat) (w : World) (h : n < 1000000000000000000) :
    Calls Tryd.prog 45 #[.int .i64 n] w fun e w' => e = .returned (.string ⟨(decL n).toArray⟩) ∧ Below w.heap.size w w' := by
  have hn0 : ¬ (n : Int) < 0 := by omega
  go_enter Tryd.func45, Tryd.ntmps45
  go_wp2
  go_loopw [0, 3] (fun a b wr => ∃ (f m : Nat) (t : List UInt8) (S : ByteArray), a = .int .i64 m ∧ b = .string S ∧ Hid (S = ⟨t.toArray⟩) ∧ S.size ≤ 20 ∧ Hid (decF f m t = decL n) ∧ Hid (m < 10 ^ f ∧ (t = [] → 1 ≤ f) ∧ t.length + f ≤ 20) ∧ m < 1000000000000000000 ∧ Below w.heap.size w wr) (fun a b _ => (intOf a).toNat * 2 + sizeOf0 b)
  case atStart => exact ⟨20, n, [], ⟨#[]⟩, rfl, rfl, rfl, by decide, rfl, ⟨by omega, by omega, by decide⟩, h, Below.refl _ _⟩
  case round =>
    obtain ⟨f, m, t, S, rfl, rfl, HE, hS, HF, HB, hm, hB⟩ := hrel
    by_cases hz : m = 0 ∧ ¬ t = []
    · have HX : Hid (decL n = t) := by show _ = _; rw [← HF.out, decF_zero f m t hz]
      obtain ⟨rfl, hne⟩ := hz
      have he : S.toList.isEmpty = false := by
        rw [isEmpty_of t S HE.out]
        cases t with
        | nil => exact absurd rfl hne
        | cons a l => rfl
      clear HF HB
      go_wp2
      refine bodyPost_ret (v := .string S) (by simp [results, Tryd.results45, go_sem]) rfl ⟨?_, hB⟩
      rw [HX.out, ← HE.out]
    · obtain ⟨g, rfl⟩ : ∃ g, f = g + 1 := ⟨f - 1, by
        by_cases h0 : m = 0
        · have : t = [] := by
            apply Classical.byContradiction; intro q; exact hz ⟨h0, q⟩
          have := HB.out.2.1 this
          omega
        · have := HB.out.1
          cases f with
          | zero => simp at this; omega
          | succ f => omega⟩
      have HX : Hid (decF g (m / 10) (UInt8.ofNat (48 + m % 10) :: t) = decL n) := by
        show _ = _
        rw [← HF.out]; exact (if_neg hz).symm
      have HB2 : Hid (m / 10 < 10 ^ g ∧ (UInt8.ofNat (48 + m % 10) :: t = [] → 1 ≤ g) ∧ (UInt8.ofNat (48 + m % 10) :: t).length + g ≤ 20) := by
        refine ⟨?_, fun q => by simp at q, ?_⟩
        · have := HB.out.1
          rw [Nat.pow_succ] at this
          omega
        · have := HB.out.2.2
          simp only [List.length_cons]; omega
      have hv := one_conv wr (48 + m % 10) (by omega)
      have hd : ((48 + m % 10 : Nat) : Int) = 48 + (m : Int) % 10 := by omega
      rw [hd] at hv
      have hq : ((m / 10 : Nat) : Int) = (m : Int) / 10 := by omega
      obtain ⟨D, HD⟩ : ∃ D : ByteArray, Hid (D = ⟨#[UInt8.ofNat (48 + m % 10)]⟩) := ⟨_, rfl⟩
      rw [← HD.out] at hv
      have hD : D.size = 1 := by rw [HD.out]; rfl
      have HDS : Hid (D ++ S = ⟨(UInt8.ofNat (48 + m % 10) :: t).toArray⟩) := by
        show _ = _
        rw [HD.out, HE.out, cat_one]
      have hDS : (D ++ S).size ≤ 20 := by
        rw [HDS.out]
        have := HB2.out.2.2
        show (UInt8.ofNat (48 + m % 10) :: t).length ≤ 20
        omega
      have HM : Hid ((m / 10) * 2 + sizeOf0 (.string (D ++ S)) < m * 2 + sizeOf0 (.string S)) := by
        have e1 : sizeOf0 (.string (D ++ S)) = 0 := by
          unfold sizeOf0
          rw [HDS.out]; rfl
        show _ < _
        rw [e1]
        by_cases h0 : m = 0
        · have : t = [] := by
            apply Classical.byContradiction; intro q; exact hz ⟨h0, q⟩
          rw [HE.out, this, h0]; decide
        · omega
      have hlen : ¬ 9223372036854775807 < D.size + S.size := by omega
      have HEm : Hid (m = 0 → S.toList.isEmpty = true) := fun h0 => by
        have : t = [] := by
          apply Classical.byContradiction; intro q; exact hz ⟨h0, q⟩
        rw [isEmpty_of t S HE.out, this]; rfl
      clear HF HB HE HD hz
      by_cases h0 : m = 0
      · have he := HEm.out h0
        subst h0
        have hv0 : (convert 83 9 (.slice (some ⟨wr.heap.size, 0, none⟩) 1 1)).run Tryd.prog (wr.alloc (.cells #[.int .u8 48] 5)) = .ok (.string D) (wr.alloc (.cells #[.int .u8 48] 5)) := hv
        clear HEm hv hd hq
        go_wp2
        go_roundw
        case rel => exact ⟨g, 0, _, D ++ S, rfl, rfl, HDS, hDS, HX, HB2, by omega, hB.alloc hB.size _⟩
        case measure => exact HM.out
      · have h1 : (0 : Int) < m := by omega
        clear HEm h0
        go_wp2
        go_roundw
        case rel => exact ⟨g, m / 10, _, D ++ S, by rw [hq], rfl, HDS, hDS, HX, HB2, by omega, hB.alloc hB.size _⟩
        case measure =>
          have := HM.out
          rw [show intOf (Value.int IntKind.i64 ((m : Int) / 10)) = ((m / 10 : Nat) : Int) by rw [hq]; rfl]
          exact this

/-- A digit of sixteen. -/
def hexD (d : Nat) : UInt8 := if d < 10 then UInt8.ofNat (48 + d) else UInt8.ofNat (87 + d)
theorem hexD_cut (d : Nat) (h : d < 16) : (⟨#[48, 49, 50, 51, 52, 53, 54, 55, 56, 57, 97, 98, 99, 100, 101, 102]⟩ : ByteArray).extract d (d + 1) = ⟨#[hexD d]⟩ := by
  have key : ∀ d, d < 16 → (⟨#[48, 49, 50, 51, 52, 53, 54, 55, 56, 57, 97, 98, 99, 100, 101, 102]⟩ : ByteArray).extract d (d + 1) = ⟨#[hexD d]⟩ := by decide +kernel
  exact key d h
/-- The digits of m by sixteen, written ahead of t. -/
def hexF : Nat → Nat → List UInt8 → List UInt8
  | 0, _, t => t
  | f + 1, m, t => if m = 0 ∧ ¬ t = [] then t else hexF f (m / 16) (hexD (m % 16) :: t)
def hexL (n : Nat) : List UInt8 := hexF 20 n []
theorem hexF_zero (f m : Nat) (t : List UInt8) (h : m = 0 ∧ ¬ t = []) : hexF f m t = t := by
  cases f with
  | zero => rfl
  | succ f => exact if_pos h

set_option maxHeartbeats 1000000 in
theorem rhex_any (n : Nat) (w : World) (h : n < 1000000000000000000) :
    Calls Tryd.prog 47 #[.int .i64 n] w fun e w' => e = .returned (.string ⟨(hexL n).toArray⟩) ∧ Below w.heap.size w w' := by
  go_enter Tryd.func47, Tryd.ntmps47
  go_wp2
  go_loopw [0, 3] (fun a b wr => ∃ (f m : Nat) (t : List UInt8) (S : ByteArray), a = .int .i64 m ∧ b = .string S ∧ Hid (S = ⟨t.toArray⟩) ∧ S.size ≤ 20 ∧ Hid (hexF f m t = hexL n) ∧ Hid (m < 16 ^ f ∧ (t = [] → 1 ≤ f) ∧ t.length + f ≤ 20) ∧ m < 1000000000000000000 ∧ Below w.heap.size w wr) (fun a b _ => (intOf a).toNat * 2 + sizeOf0 b)
  case atStart => exact ⟨20, n, [], ⟨#[]⟩, rfl, rfl, rfl, by decide, rfl, ⟨by omega, by omega, by decide⟩, h, Below.refl _ _⟩
  case round =>
    obtain ⟨f, m, t, S, rfl, rfl, HE, hS, HF, HB, hm, hB⟩ := hrel
    by_cases hz : m = 0 ∧ ¬ t = []
    · have HX : Hid (hexL n = t) := by show _ = _; rw [← HF.out, hexF_zero f m t hz]
      obtain ⟨rfl, hne⟩ := hz
      have he : S.toList.isEmpty = false := by
        rw [isEmpty_of t S HE.out]
        cases t with
        | nil => exact absurd rfl hne
        | cons a l => rfl
      clear HF HB
      go_wp2
      refine bodyPost_ret (v := .string S) (by simp [results, Tryd.results47, go_sem]) rfl ⟨?_, hB⟩
      rw [HX.out, ← HE.out]
    · obtain ⟨g, rfl⟩ : ∃ g, f = g + 1 := ⟨f - 1, by
        by_cases h0 : m = 0
        · have : t = [] := by
            apply Classical.byContradiction; intro q; exact hz ⟨h0, q⟩
          have := HB.out.2.1 this
          omega
        · have := HB.out.1
          cases f with
          | zero => simp at this; omega
          | succ f => omega⟩
      have HX : Hid (hexF g (m / 16) (hexD (m % 16) :: t) = hexL n) := by
        show _ = _
        rw [← HF.out]; exact (if_neg hz).symm
      have HB2 : Hid (m / 16 < 16 ^ g ∧ (hexD (m % 16) :: t = [] → 1 ≤ g) ∧ (hexD (m % 16) :: t).length + g ≤ 20) := by
        refine ⟨?_, fun q => by simp at q, ?_⟩
        · have := HB.out.1
          rw [Nat.pow_succ] at this
          omega
        · have := HB.out.2.2
          simp only [List.length_cons]; omega
      have hm16 : m % 16 < 16 := by omega
      have hv : (⟨#[48, 49, 50, 51, 52, 53, 54, 55, 56, 57, 97, 98, 99, 100, 101, 102]⟩ : ByteArray).extract (m % 16) (m % 16 + 1) = ⟨#[hexD (m % 16)]⟩ := hexD_cut (m % 16) hm16
      have hq : ((m / 16 : Nat) : Int) = (m : Int) / 16 := by omega
      obtain ⟨D, HD⟩ : ∃ D : ByteArray, Hid (D = ⟨#[hexD (m % 16)]⟩) := ⟨_, rfl⟩
      rw [← HD.out] at hv
      have hD : D.size = 1 := by rw [HD.out]; rfl
      have HDS : Hid (D ++ S = ⟨(hexD (m % 16) :: t).toArray⟩) := by
        show _ = _
        rw [HD.out, HE.out, cat_one]
      have hDS : (D ++ S).size ≤ 20 := by
        rw [HDS.out]
        have := HB2.out.2.2
        show (hexD (m % 16) :: t).length ≤ 20
        omega
      have HM : Hid ((m / 16) * 2 + sizeOf0 (.string (D ++ S)) < m * 2 + sizeOf0 (.string S)) := by
        have e1 : sizeOf0 (.string (D ++ S)) = 0 := by
          unfold sizeOf0
          rw [HDS.out]; rfl
        show _ < _
        rw [e1]
        by_cases h0 : m = 0
        · have : t = [] := by
            apply Classical.byContradiction; intro q; exact hz ⟨h0, q⟩
          rw [HE.out, this, h0]; decide
        · omega
      have hlen : ¬ 9223372036854775807 < D.size + S.size := by omega
      have HEm : Hid (m = 0 → S.toList.isEmpty = true) := fun h0 => by
        have : t = [] := by
          apply Classical.byContradiction; intro q; exact hz ⟨h0, q⟩
        rw [isEmpty_of t S HE.out, this]; rfl
      clear HF HB HE HD hz
      by_cases h0 : m = 0
      · have he := HEm.out h0
        subst h0
        have hv0 : (⟨#[48, 49, 50, 51, 52, 53, 54, 55, 56, 57, 97, 98, 99, 100, 101, 102]⟩ : ByteArray).extract 0 1 = D := hv
        clear HEm hv hq
        go_wp2
        go_roundw
        case rel => exact ⟨g, 0, _, D ++ S, rfl, rfl, HDS, hDS, HX, HB2, by omega, hB⟩
        case measure => exact HM.out
      · have h1 : (0 : Int) < m := by omega
        have hr : ((m % 16 : Nat) : Int) = (m : Int) % 16 := by omega
        clear HEm h0
        go_wp2
        go_roundw
        case rel => exact ⟨g, m / 16, _, D ++ S, by rw [hq], rfl, HDS, hDS, HX, HB2, by omega, hB⟩
        case measure =>
          have := HM.out
          rw [show intOf (Value.int IntKind.i64 ((m : Int) / 16)) = ((m / 16 : Nat) : Int) by rw [hq]; rfl]
          exact this

theorem hexF_len : ∀ f m (t : List UInt8), m < 16 ^ f → (t = [] → 1 ≤ f) → 1 ≤ (hexF f m t).length ∧ (hexF f m t).length ≤ t.length + f := by
  intro f
  induction f with
  | zero =>
    intro m t hm ht
    have : ¬ t = [] := fun e => by have := ht e; omega
    show 1 ≤ t.length ∧ t.length ≤ t.length + 0
    have : 1 ≤ t.length := by
      cases t with
      | nil => exact absurd rfl this
      | cons => simp
    omega
  | succ f ih =>
    intro m t hm ht
    by_cases h : m = 0 ∧ ¬ t = []
    · rw [hexF_zero _ _ _ h]
      have : 1 ≤ t.length := by
        cases t with
        | nil => exact absurd rfl h.2
        | cons => simp
      omega
    · have e : hexF (f + 1) m t = hexF f (m / 16) (hexD (m % 16) :: t) := if_neg h
      rw [e]
      have hm2 : m / 16 < 16 ^ f := by rw [Nat.pow_succ] at hm; omega
      have := ih (m / 16) (hexD (m % 16) :: t) hm2 (fun q => by simp at q)
      simp only [List.length_cons] at this; omega
theorem hexF_fuel : ∀ f g m (t : List UInt8), m < 16 ^ f → m < 16 ^ g → (t = [] → 1 ≤ f ∧ 1 ≤ g) → hexF f m t = hexF g m t := by
  intro f
  induction f with
  | zero =>
    intro g m t hm hg ht
    have h0 : m = 0 := by simpa using hm
    have hne : ¬ t = [] := fun e => by have := ht e; omega
    rw [hexF_zero g m t ⟨h0, hne⟩]; rfl
  | succ f ih =>
    intro g m t hm hg ht
    by_cases h : m = 0 ∧ ¬ t = []
    · rw [hexF_zero _ _ _ h, hexF_zero _ _ _ h]
    · obtain ⟨g, rfl⟩ : ∃ k, g = k + 1 := ⟨g - 1, by
        cases g with
        | zero =>
          have h0 : m = 0 := by simpa using hg
          have : t = [] := by
            apply Classical.byContradiction; intro q; exact h ⟨h0, q⟩
          have := ht this; omega
        | succ g => omega⟩
      have e : hexF (f + 1) m t = hexF f (m / 16) (hexD (m % 16) :: t) := if_neg h
      have e2 : hexF (g + 1) m t = hexF g (m / 16) (hexD (m % 16) :: t) := if_neg h
      rw [e, e2]
      exact ih g _ _ (by rw [Nat.pow_succ] at hm; omega) (by rw [Nat.pow_succ] at hg; omega) (fun q => by simp at q)
theorem hexL_len (n : Nat) (h : n < 65536) : 1 ≤ (hexL n).length ∧ (hexL n).length ≤ 4 := by
  have e : hexL n = hexF 4 n [] := hexF_fuel 20 4 n [] (by omega) (by omega) (fun _ => by omega)
  rw [e]
  exact hexF_len 4 n [] (by omega) (fun _ => by omega)
theorem decF_len : ∀ f m (t : List UInt8), m < 10 ^ f → (t = [] → 1 ≤ f) → 1 ≤ (decF f m t).length ∧ (decF f m t).length ≤ t.length + f := by
  intro f
  induction f with
  | zero =>
    intro m t hm ht
    have : ¬ t = [] := fun e => by have := ht e; omega
    show 1 ≤ t.length ∧ t.length ≤ t.length + 0
    have : 1 ≤ t.length := by
      cases t with
      | nil => exact absurd rfl this
      | cons => simp
    omega
  | succ f ih =>
    intro m t hm ht
    by_cases h : m = 0 ∧ ¬ t = []
    · rw [decF_zero _ _ _ h]
      have : 1 ≤ t.length := by
        cases t with
        | nil => exact absurd rfl h.2
        | cons => simp
      omega
    · have e : decF (f + 1) m t = decF f (m / 10) (UInt8.ofNat (48 + m % 10) :: t) := if_neg h
      rw [e]
      have hm2 : m / 10 < 10 ^ f := by rw [Nat.pow_succ] at hm; omega
      have := ih (m / 10) (UInt8.ofNat (48 + m % 10) :: t) hm2 (fun q => by simp at q)
      simp only [List.length_cons] at this; omega
theorem decL_bd (n : Nat) (h : n < 1000) : 1 ≤ (decL n).length ∧ (decL n).length ≤ 20 := by
  have := decF_len 20 n [] (by omega) (fun _ => by omega)
  simpa [decL] using this
end Go.Proofs.YtpchhfhdepkbcaaDoor
/-
  What the calls of turnpikelaw2's digits and octets do.
-/
namespace Go.Proofs.YtpchhfhdepkbcaaDoor
open Go.RowKit
set_option linter.unusedSimpArgs false
set_option linter.unusedVariables false

/-- A digit of sixteen, great or small. -/
def digD (u : Bool) (d : Nat) : UInt8 := if d < 10 then UInt8.ofNat (48 + d) else if u then UInt8.ofNat (55 + d) else UInt8.ofNat (87 + d)
theorem digD_cut0 (d : Nat) (h : d < 16) : (⟨#[48, 49, 50, 51, 52, 53, 54, 55, 56, 57, 97, 98, 99, 100, 101, 102]⟩ : ByteArray).extract d (d + 1) = ⟨#[digD false d]⟩ := by
  have key : ∀ d, d < 16 → (⟨#[48, 49, 50, 51, 52, 53, 54, 55, 56, 57, 97, 98, 99, 100, 101, 102]⟩ : ByteArray).extract d (d + 1) = ⟨#[digD false d]⟩ := by decide +kernel
  exact key d h
theorem digD_cut1 (d : Nat) (h : d < 16) : (⟨#[48, 49, 50, 51, 52, 53, 54, 55, 56, 57, 65, 66, 67, 68, 69, 70]⟩ : ByteArray).extract d (d + 1) = ⟨#[digD true d]⟩ := by
  have key : ∀ d, d < 16 → (⟨#[48, 49, 50, 51, 52, 53, 54, 55, 56, 57, 65, 66, 67, 68, 69, 70]⟩ : ByteArray).extract d (d + 1) = ⟨#[digD true d]⟩ := by decide +kernel
  exact key d h
/-- The digits of m by sixteen, so many at least, written ahead of t. -/
def digF (u : Bool) (e : Nat) : Nat → Nat → List UInt8 → List UInt8
  | 0, _, t => t
  | f + 1, m, t => if m = 0 ∧ e ≤ t.length then t else digF u e f (m / 16) (digD u (m % 16) :: t)
def digL (u : Bool) (e n : Nat) : List UInt8 := digF u e 4 n []
theorem digF_zero (u : Bool) (e f m : Nat) (t : List UInt8) (h : m = 0 ∧ e ≤ t.length) : digF u e f m t = t := by
  cases f with
  | zero => rfl
  | succ f => exact if_pos h
theorem digF_len (u : Bool) (e : Nat) (he : e ≤ 4) : ∀ f m (t : List UInt8), t.length + f = 4 → m < 16 ^ f → e ≤ (digF u e f m t).length ∧ (digF u e f m t).length ≤ 4 := by
  intro f
  induction f with
  | zero => intro m t h hm; show e ≤ t.length ∧ t.length ≤ 4; omega
  | succ f ih =>
    intro m t h hm
    by_cases hz : m = 0 ∧ e ≤ t.length
    · rw [digF_zero _ _ _ _ _ hz]; omega
    · rw [show digF u e (f + 1) m t = digF u e f (m / 16) (digD u (m % 16) :: t) from if_neg hz]
      rw [Nat.pow_succ] at hm
      exact ih _ _ (by simp; omega) (by omega)
theorem digL_len (u : Bool) (e n : Nat) (he : e ≤ 4) (h : n < 65536) : e ≤ (digL u e n).length ∧ (digL u e n).length ≤ 4 := digF_len u e he 4 n [] rfl h

def strLen (b : Value) : Nat := match b with | .string s => s.size | _ => 0
theorem isEm (t : ByteArray) : t.toList.isEmpty = decide (t.size = 0) := by
  rw [isEmpty_of t.data.toList t rfl]
  cases h : t.data.toList with
  | nil => 
    have : t.size = 0 := by rw [← ByteArray.size_data, ← Array.length_toList, h]; rfl
    simp [this]
  | cons a l =>
    have : t.size = l.length + 1 := by rw [← ByteArray.size_data, ← Array.length_toList, h]; rfl
    simp [this]

end Go.Proofs.YtpchhfhdepkbcaaDoor
