/-
  Part 6 of the proof: 3 texts, one behind the other.
-/
import Derived.Test.YtpchhfhdepkbcabDoorPart3
import Derived.Test.YtpchhfhdepkbcabDoorPart4
import Derived.Test.YtpchhfhdepkbcabDoorPart5
import Derived.Lib.IndexBytes
/-
  What the calls of the methods of package addr's found do.
-/
namespace Go.Proofs.YtpchhfhdepkbcabDoor
open Go.RowKit
set_option linter.unusedSimpArgs false
set_option linter.unusedVariables false

/-- The struct at block B: its list reads as f, its count as c, its gap as p, and all of it may be written. -/
def Fnd (w : World) (B : Nat) (f : Nat → Int) (c : Nat) (p : Int) : Prop :=
  (∀ i, i < 8 → w.cell? ⟨B, i, none⟩ = some (.int .u64 (f i)) ∧ w.frozen? ⟨B, i, none⟩ = false) ∧ w.cell? ⟨B, 8, none⟩ = some (.int .i64 c) ∧ w.frozen? ⟨B, 8, none⟩ = false ∧ w.cell? ⟨B, 9, none⟩ = some (.int .i64 p) ∧ w.frozen? ⟨B, 9, none⟩ = false ∧ B < w.heap.size
def upd (f : Nat → Int) (c : Nat) (v : Int) : Nat → Int := fun i => if i = c then v else f i
theorem Fnd.below {w w' : World} {B : Nat} {f : Nat → Int} {c : Nat} {p : Int} (h : Fnd w B f c p) (hb : Below w.heap.size w w') : Fnd w' B f c p := by
  obtain ⟨h1, h2, h3, h4, h5, h6⟩ := h
  exact ⟨fun i hi => ⟨keepc hb (h1 i hi).1, keepf hb (h1 i hi).1 (h1 i hi).2⟩, keepc hb h2, keepf hb h2 h3, keepc hb h4, keepf hb h4 h5, Nat.lt_of_lt_of_le h6 hb.size⟩

/-- All blocks but one are as they were. -/
def Only (B : Nat) (w w' : World) : Prop := w'.heap.size = w.heap.size ∧ ∀ C o, ¬ C = B → w'.cell? ⟨C, o, none⟩ = w.cell? ⟨C, o, none⟩ ∧ w'.frozen? ⟨C, o, none⟩ = w.frozen? ⟨C, o, none⟩
theorem At.only {w w' : World} {B C : Nat} {x : BitVec 128} (h : At w C x) (ho : Only B w w') (hn : ¬ C = B) : At w' C x := by
  obtain ⟨h0, h1, h2, h3, h4⟩ := h
  exact ⟨by rw [(ho.2 C 0 hn).1]; exact h0, by rw [(ho.2 C 1 hn).1]; exact h1, by rw [(ho.2 C 0 hn).2]; exact h2, by rw [(ho.2 C 1 hn).2]; exact h3, by rw [ho.1]; exact h4⟩

set_option maxHeartbeats 2000000 in
theorem fadd_any (B : Nat) (f : Nat → Int) (c : Nat) (p v : Int) (w : World) (hF : Fnd w B f c p) (hc : c ≤ 7) :
    Calls Tryd.prog 92 #[.pointer (some ⟨B, 0, none⟩), .int .u64 v] w fun e w' => e = .returned (.bool true) ∧ Fnd w' B (upd f c v) (c + 1) p ∧ Below B w w' ∧ Only B w w' := by
  obtain ⟨h1, h2, h3, h4, h5, h6⟩ := hF
  have hc8 : ¬ (c : Int) = 8 := by omega
  have hcb : ((c : Int) == 8) = false := by simp; omega
  have hcl : (c : Int) < 8 := by omega
  have ⟨k1, k2⟩ := h1 c (by omega)
  have n8 : ¬ c = 8 := by omega
  have n9 : ¬ c = 9 := by omega
  have e8 : (w.setCell ⟨B, c, none⟩ (.int .u64 v)).cell? ⟨B, 8, none⟩ = some (.int .i64 c) := by simp [go_sem, *]
  have f8 : (w.setCell ⟨B, c, none⟩ (.int .u64 v)).frozen? ⟨B, 8, none⟩ = false := by simp [go_sem, *]
  have hF' : Fnd (((w.setCell ⟨B, c, none⟩ (.int .u64 v)).setCell ⟨B, 8, none⟩ (.int .i64 ((c : Int) + 1))).drew) B (upd f c v) (c + 1) p := by
    refine ⟨fun i hi => ?_, ?_, ?_, ?_, ?_, ?_⟩
    · have n : ¬ i = 8 := by omega
      have n' : ¬ 8 = i := by omega
      obtain ⟨q1, q2⟩ := h1 i hi
      by_cases hic : i = c
      · subst hic
        simp [go_sem, upd, *]
      · have hci : ¬ c = i := fun e => hic e.symm
        simp [go_sem, upd, *]
    all_goals simp [go_sem, *]
  have hB' : Below B w (((w.setCell ⟨B, c, none⟩ (.int .u64 v)).setCell ⟨B, 8, none⟩ (.int .i64 ((c : Int) + 1))).drew) := (((Below.refl B w).setCell (p := ⟨B, c, none⟩) (Nat.le_refl _) _).setCell (p := ⟨B, 8, none⟩) (Nat.le_refl _) _).drew
  have hO' : Only B w (((w.setCell ⟨B, c, none⟩ (.int .u64 v)).setCell ⟨B, 8, none⟩ (.int .i64 ((c : Int) + 1))).drew) := by
    refine ⟨by simp, fun C o hn => ?_⟩
    have hn' : ¬ B = C := fun e => hn e.symm
    simp [go_sem, hn, hn']
  clear h1
  go_enter Tryd.func92, Tryd.ntmps92
  go_wp2
  go_region
  go_wp2
  go_ret
  exact ⟨rfl, hF', hB', hO'⟩

theorem fadd_full (B : Nat) (f : Nat → Int) (p v : Int) (w : World) (hF : Fnd w B f 8 p) :
    Calls Tryd.prog 92 #[.pointer (some ⟨B, 0, none⟩), .int .u64 v] w fun e w' => e = .returned (.bool false) ∧ w' = w := by
  obtain ⟨h1, h2, h3, h4, h5, h6⟩ := hF
  have h2' : w.cell? ⟨B, 8, none⟩ = some (.int .i64 8) := h2
  clear h1 h2
  go_enter Tryd.func92, Tryd.ntmps92
  go_wp2
  go_ret
  exact ⟨rfl, rfl⟩

/-- Where the group k stands in the word. -/
def plc (c : Nat) (p : Int) (k : Nat) : Int := if ¬ p = -1 ∧ p ≤ k then (k : Int) + (8 - c) else k
def sixW (f : Nat → Int) (c : Nat) (p : Int) : Nat → BitVec 128
  | 0 => 0#128
  | k + 1 => layW (sixW f c p k) (plc c p k) 16 (f k)
def finV (f : Nat → Int) (c : Nat) (p : Int) : BitVec 128 := if (p = -1) = (c = 8) then sixW f c p c else 0#128
def finB (c : Nat) (p : Int) : Bool := decide ((p = -1) = (c = 8))

theorem Fnd.other {w : World} {B C : Nat} {f : Nat → Int} {c : Nat} {p : Int} (h : Fnd w B f c p) (hn : ¬ C = B) (u v : Value) : Fnd ((w.setCell ⟨C, 0, none⟩ u).setCell ⟨C, 1, none⟩ v) B f c p := by
  obtain ⟨h1, h2, h3, h4, h5, h6⟩ := h
  have hn' : ¬ B = C := fun e => hn e.symm
  refine ⟨fun i hi => ?_, ?_, ?_, ?_, ?_, ?_⟩
  · obtain ⟨q1, q2⟩ := h1 i hi
    simp [go_sem, *]
  all_goals simp [go_sem, *]

set_option maxHeartbeats 2000000 in
theorem fword_any (B : Nat) (f : Nat → Int) (c : Nat) (p : Int) (w : World) (hF : Fnd w B f c p) (hc : c ≤ 8) (hp : -1 ≤ p) (hp2 : p ≤ 8) (hf : ∀ i, 0 ≤ f i ∧ f i ≤ 65535) :
    Calls Tryd.prog 93 #[.pointer (some ⟨B, 0, none⟩)] w fun e w' => e = .returned (.tuple #[.agg #[.int .u64 (hI (finV f c p)), .int .u64 (lI (finV f c p))], .bool (finB c p)]) ∧ Below w.heap.size w w' := by
  have hF' := hF
  obtain ⟨h1, h2, h3, h4, h5, h6⟩ := hF
  have d0 : ¬ w.heap.size = B := by omega
  by_cases hq : (p = -1) = (c = 8)
  · have HF : Hid (finV f c p = sixW f c p c ∧ finB c p = true) := by
      show _ ∧ _
      unfold finV finB; rw [if_pos hq]; exact ⟨rfl, by simp [hq]⟩
    have hq2 : ((p == -1) == ((c : Int) == 8)) = true := by
      by_cases hp1 : p = -1
      · have : c = 8 := by rw [← hq]; exact hp1
        subst this; subst hp1; rfl
      · have h8 : ¬ c = 8 := by rw [← hq]; exact hp1
        have e1 : (p == -1) = false := by simp [hp1]
        have e2 : ((c : Int) == 8) = false := by simp; omega
        rw [e1, e2]; rfl
    clear hq
    obtain ⟨b, hpb⟩ : ∃ b, (p == -1) = b := ⟨_, rfl⟩
    rw [hpb] at hq2
    have c0 : (0 : Int) ≤ (c : Int) := by omega
    have c8 : (c : Int) ≤ 8 := by omega
    go_enter Tryd.func93, Tryd.ntmps93
    go_wp2
    go_region
    go_wp2
    go_region
    go_wp2
    go_loopw [28] (fun q wr => ∃ k : Nat, k ≤ c ∧ q = .int .i64 k ∧ At wr (w.heap.size + 1) (sixW f c p k) ∧ At wr w.heap.size 0#128 ∧ Fnd wr B f c p ∧ Below w.heap.size w wr) (fun q _ => c - (intOf q).toNat)
    case atStart =>
      refine ⟨0, by omega, rfl, ?_, ?_, ?_, (bl2 w _ _).drew.drew⟩
      · show At _ _ 0#128
        refine ⟨?_, ?_, ?_, ?_, ?_⟩ <;> simp [go_sem, hI_zero, lI_zero]
      · refine ⟨?_, ?_, ?_, ?_, ?_⟩ <;> simp [go_sem, hI_zero, lI_zero]
      · exact hF'.below (bl2 w _ _).drew.drew
    case round =>
      obtain ⟨k, hk, rfl, hA, hZ, hG, hB⟩ := hrel
      clear h1 h2 h3 h4 h5 hF'
      obtain ⟨h1, h2, h3, h4, h5, h6'⟩ := id hG
      by_cases hlt : k < c
      · have hlt2 : (k : Int) < (c : Int) := by omega
        have hk8 : (k : Int) < 8 := by omega
        obtain ⟨l1, l2⟩ := h1 k (by omega)
        obtain ⟨f0, f1⟩ := hf k
        obtain ⟨a0, a1, a2, a3, a4⟩ := id hA
        have HW : Hid (sixW f c p (k + 1) = layW (sixW f c p k) (plc c p k) 16 (f k)) := rfl
        have hpl : 0 ≤ plc c p k ∧ plc c p k ≤ 16 := by unfold plc; split <;> omega
        have HPL : Hid (plc c p k = if ¬ p = -1 ∧ p ≤ k then (k : Int) + (8 - c) else k) := rfl
        have KP := fun w => aput_any (sixW f c p k) (plc c p k) 16 (f k) w f0 (by omega) hpl.1 hpl.2 (by omega) (by omega)
        generalize sixW f c p k = x at *
        generalize plc c p k = pl at *
        generalize f k = v at *
        clear h1 hf
        by_cases hp1 : p = -1
        · have hpk : pl = k := by rw [HPL.out, if_neg (by simp [hp1])]
          subst hpk
          have hne : (p != -1) = false := by simp [hp1]
          clear HPL hp1
          go_wp2_with fail
          refine (KP _).mono ?_
          rintro e w2 ⟨rfl, hb2⟩
          clear KP
          have hA2 := (hA.below hb2).set (layW x (k : Int) 16 v)
          have hZ2 := (hZ.below hb2).other (.int .u64 (hI (layW x (k : Int) 16 v))) (.int .u64 (lI (layW x (k : Int) 16 v))) (C := w.heap.size + 1) (by omega)
          have hG2 := (hG.below hb2).other (C := w.heap.size + 1) (by omega) (.int .u64 (hI (layW x (k : Int) 16 v))) (.int .u64 (lI (layW x (k : Int) 16 v)))
          have hB2 := bset2 (keepb hb2 hB) (C := w.heap.size + 1) (by omega) (.int .u64 (hI (layW x (k : Int) 16 v))) (.int .u64 (lI (layW x (k : Int) 16 v)))
          obtain ⟨b0, b1, b2, b3, b4⟩ := hA.below hb2
          clear hA hZ hB hG hb2 a0 a1 a2 a3 a4 h2 h3 h4 h5 l1 l2
          go_wp2
          go_roundw
          case rel => exact ⟨k + 1, by omega, by go_num, by rw [HW.out]; exact hA2, hZ2, hG2, hB2⟩
          case measure => simp [intOf]; omega
        · have hne : (p != -1) = true := by simp [hp1]
          by_cases hpk : p ≤ k
          · have hpk' : pl = (k : Int) + (8 - c) := by rw [HPL.out, if_pos ⟨hp1, hpk⟩]
            subst hpk'
            clear HPL hp1
            go_wp2_with fail
            refine (KP _).mono ?_
            rintro e w2 ⟨rfl, hb2⟩
            clear KP
            have hA2 := (hA.below hb2).set (layW x ((k : Int) + (8 - c)) 16 v)
            have hZ2 := (hZ.below hb2).other (.int .u64 (hI (layW x ((k : Int) + (8 - c)) 16 v))) (.int .u64 (lI (layW x ((k : Int) + (8 - c)) 16 v))) (C := w.heap.size + 1) (by omega)
            have hG2 := (hG.below hb2).other (C := w.heap.size + 1) (by omega) (.int .u64 (hI (layW x ((k : Int) + (8 - c)) 16 v))) (.int .u64 (lI (layW x ((k : Int) + (8 - c)) 16 v)))
            have hB2 := bset2 (keepb hb2 hB) (C := w.heap.size + 1) (by omega) (.int .u64 (hI (layW x ((k : Int) + (8 - c)) 16 v))) (.int .u64 (lI (layW x ((k : Int) + (8 - c)) 16 v)))
            obtain ⟨b0, b1, b2, b3, b4⟩ := hA.below hb2
            clear hA hZ hB hG hb2 a0 a1 a2 a3 a4 h2 h3 h4 h5 l1 l2
            go_wp2
            go_roundw
            case rel => exact ⟨k + 1, by omega, by go_num, by rw [HW.out]; exact hA2, hZ2, hG2, hB2⟩
            case measure => simp [intOf]; omega
          · have hpk' : pl = k := by rw [HPL.out, if_neg (by simp [hpk])]
            subst hpk'
            clear HPL hp1
            go_wp2_with fail
            refine (KP _).mono ?_
            rintro e w2 ⟨rfl, hb2⟩
            clear KP
            have hA2 := (hA.below hb2).set (layW x (k : Int) 16 v)
            have hZ2 := (hZ.below hb2).other (.int .u64 (hI (layW x (k : Int) 16 v))) (.int .u64 (lI (layW x (k : Int) 16 v))) (C := w.heap.size + 1) (by omega)
            have hG2 := (hG.below hb2).other (C := w.heap.size + 1) (by omega) (.int .u64 (hI (layW x (k : Int) 16 v))) (.int .u64 (lI (layW x (k : Int) 16 v)))
            have hB2 := bset2 (keepb hb2 hB) (C := w.heap.size + 1) (by omega) (.int .u64 (hI (layW x (k : Int) 16 v))) (.int .u64 (lI (layW x (k : Int) 16 v)))
            obtain ⟨b0, b1, b2, b3, b4⟩ := hA.below hb2
            clear hA hZ hB hG hb2 a0 a1 a2 a3 a4 h2 h3 h4 h5 l1 l2
            go_wp2
            go_roundw
            case rel => exact ⟨k + 1, by omega, by go_num, by rw [HW.out]; exact hA2, hZ2, hG2, hB2⟩
            case measure => simp [intOf]; omega
      · have hkc : k = c := by omega
        subst hkc
        obtain ⟨a0, a1, a2, a3, a4⟩ := hA
        obtain ⟨z0, z1, z2, z3, z4⟩ := hZ
        clear h1 hf hG
        go_wp2
        exact bodyPost_ret (v := .tuple #[.agg #[.int .u64 (hI (sixW f k p k)), .int .u64 (lI (sixW f k p k))], .bool true]) (by simp [results, Tryd.results93, go_sem, *]) rfl ⟨by rw [HF.out.1, HF.out.2], bset2 hB (Nat.le_refl _) _ _⟩
  · have HF : Hid (finV f c p = 0#128 ∧ finB c p = false) := by
      show _ ∧ _
      unfold finV finB; rw [if_neg hq]; exact ⟨rfl, by simp only [decide_eq_false_iff_not]; exact hq⟩
    have hq2 : ((p == -1) == ((c : Int) == 8)) = false := by
      by_cases hp1 : p = -1
      · have h8 : ¬ c = 8 := fun e => hq (by simp [hp1, e])
        have e1 : (p == -1) = true := by simp [hp1]
        have e2 : ((c : Int) == 8) = false := by simp; omega
        rw [e1, e2]; rfl
      · have h8 : c = 8 := by
          apply Classical.byContradiction; intro e; exact hq (by simp [hp1, e])
        have e1 : (p == -1) = false := by simp [hp1]
        have e2 : ((c : Int) == 8) = true := by simp; omega
        rw [e1, e2]; rfl
    clear hq h1 hf
    go_enter Tryd.func93, Tryd.ntmps93
    go_wp2
    go_region
    go_wp2
    exact bodyPost_ret (v := .tuple #[.agg #[.int .u64 0, .int .u64 0], .bool false]) (by simp [results, Tryd.results93, go_sem, *]) rfl ⟨by rw [HF.out.1, HF.out.2, hI_zero, lI_zero], (bl1 w _).drew⟩
end Go.Proofs.YtpchhfhdepkbcabDoor
/-
  What the calls of package addr's addFour and readSix do.
-/
namespace Go.Proofs.YtpchhfhdepkbcabDoor
open Go.RowKit
set_option linter.unusedSimpArgs false
set_option linter.unusedVariables false

/-- The two groups of a text of the other family. -/
def quadA (s : ByteArray) : Int := lI ((fourV s <<< (16 * (0 : Int)).toNat) >>> (128 - (16 : Int)).toNat)
def quadB (s : ByteArray) : Int := lI ((fourV s <<< (16 * (1 : Int)).toNat) >>> (128 - (16 : Int)).toNat)
theorem part16_bd (x : BitVec 128) (i : Int) : 0 ≤ lI ((x <<< (16 * i).toNat) >>> (128 - (16 : Int)).toNat) ∧ lI ((x <<< (16 * i).toNat) >>> (128 - (16 : Int)).toNat) ≤ 65535 := by
  generalize x <<< (16 * i).toNat = y
  refine ⟨lI_lo _, ?_⟩
  unfold lI lv
  rw [BitVec.extractLsb'_toNat]
  have : (y >>> (128 - (16 : Int)).toNat).toNat < 65536 := by
    rw [BitVec.toNat_ushiftRight, show (128 - (16 : Int)).toNat = 112 from rfl, Nat.shiftRight_eq_div_pow]
    have := y.isLt
    omega
  rw [Nat.shiftRight_zero, Nat.mod_eq_of_lt (by omega)]
  omega
theorem quadA_bd (s : ByteArray) : 0 ≤ quadA s ∧ quadA s ≤ 65535 := part16_bd _ _
theorem quadB_bd (s : ByteArray) : 0 ≤ quadB s ∧ quadB s ≤ 65535 := part16_bd _ _

theorem partA (s : ByteArray) (w : World) :
    Calls Tryd.prog 98 #[.agg #[.int .u64 (hI (fourV s)), .int .u64 (lI (fourV s))], .int .i64 0, .int .i64 16] w fun e w' => e = .returned (.int .u64 (quadA s)) ∧ Below w.heap.size w w' :=
  part_any (fourV s) 0 16 w (by omega) (by omega) (by omega) (by omega)
theorem partB (s : ByteArray) (w : World) :
    Calls Tryd.prog 98 #[.agg #[.int .u64 (hI (fourV s)), .int .u64 (lI (fourV s))], .int .i64 1, .int .i64 16] w fun e w' => e = .returned (.int .u64 (quadB s)) ∧ Below w.heap.size w w' :=
  part_any (fourV s) 1 16 w (by omega) (by omega) (by omega) (by omega)

set_option maxHeartbeats 2000000 in
theorem addFour_no (B : Nat) (s : ByteArray) (w : World) (hs : s.size ≤ maxLen) (h : fourB s = false) (hB : B < w.heap.size) :
    Calls Tryd.prog 91 #[.pointer (some ⟨B, 0, none⟩), .string s] w fun e w' => e = .returned (.bool false) ∧ Below B w w' := by
  have KR := fun w => readFour_any s w hs
  rw [h] at KR
  generalize fourV s = x at *
  go_enter Tryd.func91, Tryd.ntmps91
  go_wp2_with fail
  refine (KR _).mono ?_
  rintro e w1 ⟨rfl, hb1⟩
  clear KR
  go_wp2
  go_ret
  exact ⟨rfl, (hb1.alloc hb1.size _).mono (by omega)⟩

set_option maxHeartbeats 2000000 in
theorem addFour_yes (B : Nat) (f : Nat → Int) (c : Nat) (p : Int) (s : ByteArray) (w : World) (hs : s.size ≤ maxLen) (h : fourB s = true) (hF : Fnd w B f c p) (hc : c ≤ 6) :
    Calls Tryd.prog 91 #[.pointer (some ⟨B, 0, none⟩), .string s] w fun e w' => e = .returned (.bool true) ∧ Fnd w' B (upd (upd f c (quadA s)) (c + 1) (quadB s)) (c + 2) p ∧ Below B w w' := by
  have KR := fun w => readFour_any s w hs
  have KA := partA s
  have KB := partB s
  rw [h] at KR
  generalize quadA s = qa at *
  generalize quadB s = qb at *
  generalize fourV s = x at *
  have hBw : B < w.heap.size := hF.2.2.2.2.2
  go_enter Tryd.func91, Tryd.ntmps91
  go_wp2_with fail
  refine (KR _).mono ?_
  rintro e w1 ⟨rfl, hb1⟩
  clear KR
  have hB1 := hb1.size
  have hF1 : Fnd (w1.alloc (.cells #[.int .u64 (hI x), .int .u64 (lI x)] 24)) B f c p := (hF.below hb1).below (bl1 _ _)
  have hX1 := at_new w1 w1.heap.size x 24 rfl
  have kB1 : Below B w (w1.alloc (.cells #[.int .u64 (hI x), .int .u64 (lI x)] 24)) := (hb1.mono (by omega)).alloc (by omega) _
  clear hF hb1
  obtain ⟨x0, x1, x2, x3, x4⟩ := id hX1
  go_wp2_with fail
  refine (KA _).mono ?_
  rintro e w2 ⟨rfl, hb2⟩
  clear KA
  have hF2 := hF1.below hb2
  have hX2 := hX1.below hb2
  have kB2 : Below B w w2 := kB1.trans (hb2.mono (by simp; omega))
  clear hF1 hX1 kB1 hb2 x0 x1 x2 x3 x4
  have hBw2 := kB2.size
  go_wp2_with fail
  refine (fadd_any B f c p qa w2 hF2 (by omega)).mono ?_
  rintro e w3 ⟨rfl, hF3, hb3, ho3⟩
  have hX3 := hX2.only ho3 (by omega)
  have kB3 : Below B w w3 := kB2.trans hb3
  have hz3 := ho3.1
  clear hF2 hX2 kB2 hb3 ho3
  obtain ⟨x0, x1, x2, x3, x4⟩ := id hX3
  go_wp2_with fail
  refine (KB _).mono ?_
  rintro e w4 ⟨rfl, hb4⟩
  clear KB
  have hF4 := hF3.below hb4
  have kB4 : Below B w w4 := kB3.trans (hb4.mono (by have := hF3.2.2.2.2.2; omega))
  clear hF3 hX3 kB3 hb4 x0 x1 x2 x3 x4 hz3
  go_wp2_with fail
  refine (fadd_any B (upd f c qa) (c + 1) p qb w4 hF4 (by omega)).mono ?_
  rintro e w5 ⟨rfl, hF5, hb5, ho5⟩
  have kB5 : Below B w w5 := kB4.trans hb5
  clear hF4 kB4 hb5 ho5
  go_wp2
  go_ret
  exact ⟨rfl, hF5, kB5⟩
set_option maxHeartbeats 2000000 in
theorem addFour_full (B : Nat) (f : Nat → Int) (c : Nat) (p : Int) (s : ByteArray) (w : World) (hs : s.size ≤ maxLen) (h : fourB s = true) (hF : Fnd w B f c p) (hc : c = 7 ∨ c = 8) :
    Calls Tryd.prog 91 #[.pointer (some ⟨B, 0, none⟩), .string s] w fun e w' => e = .returned (.bool false) ∧ Below B w w' := by
  have KR := fun w => readFour_any s w hs
  have KA := partA s
  have KB := partB s
  rw [h] at KR
  generalize quadA s = qa at *
  generalize quadB s = qb at *
  generalize fourV s = x at *
  have hBw : B < w.heap.size := hF.2.2.2.2.2
  go_enter Tryd.func91, Tryd.ntmps91
  go_wp2_with fail
  refine (KR _).mono ?_
  rintro e w1 ⟨rfl, hb1⟩
  clear KR
  have hB1 := hb1.size
  have hF1 : Fnd (w1.alloc (.cells #[.int .u64 (hI x), .int .u64 (lI x)] 24)) B f c p := (hF.below hb1).below (bl1 _ _)
  have hX1 := at_new w1 w1.heap.size x 24 rfl
  have kB1 : Below B w (w1.alloc (.cells #[.int .u64 (hI x), .int .u64 (lI x)] 24)) := (hb1.mono (by omega)).alloc (by omega) _
  clear hF hb1
  obtain ⟨x0, x1, x2, x3, x4⟩ := id hX1
  go_wp2_with fail
  refine (KA _).mono ?_
  rintro e w2 ⟨rfl, hb2⟩
  clear KA
  have hF2 := hF1.below hb2
  have hX2 := hX1.below hb2
  have kB2 : Below B w w2 := kB1.trans (hb2.mono (by simp; omega))
  clear hF1 hX1 kB1 hb2 x0 x1 x2 x3 x4
  have hBw2 := kB2.size
  rcases hc with rfl | rfl
  · go_wp2_with fail
    refine (fadd_any B f 7 p qa w2 hF2 (by omega)).mono ?_
    rintro e w3 ⟨rfl, hF3, hb3, ho3⟩
    have hX3 := hX2.only ho3 (by omega)
    have kB3 : Below B w w3 := kB2.trans hb3
    have hz3 := ho3.1
    clear hF2 hX2 kB2 hb3 ho3
    obtain ⟨x0, x1, x2, x3, x4⟩ := id hX3
    go_wp2_with fail
    refine (KB _).mono ?_
    rintro e w4 ⟨rfl, hb4⟩
    clear KB
    have hF4 := hF3.below hb4
    have kB4 : Below B w w4 := kB3.trans (hb4.mono (by have := hF3.2.2.2.2.2; omega))
    clear hF3 hX3 kB3 hb4 x0 x1 x2 x3 x4 hz3
    go_wp2_with fail
    refine (fadd_full B (upd f 7 qa) p qb w4 hF4).mono ?_
    rintro e w5 ⟨rfl, rfl⟩
    go_wp2
    go_ret
    exact ⟨rfl, kB4⟩
  · go_wp2_with fail
    refine (fadd_full B f p qa w2 hF2).mono ?_
    rintro e w3 ⟨rfl, rfl⟩
    go_wp2
    go_ret
    exact ⟨rfl, kB2⟩


/-- Groups with colons between, from place a on; c groups are read, the gap stands at p. -/
def sixR (s : ByteArray) : Nat → Nat → (Nat → Int) → Nat → Int → BitVec 128 × Bool
  | 0, _, _, _, _ => (0#128, false)
  | n + 1, a, f, c, p =>
    if s.size ≤ a then (finV f c p, finB c p)
    else if byteAt s (a + (grpN (s.extract a s.size)).toNat) = 46 then (if fourB (s.extract a s.size) = true ∧ c ≤ 6 then (finV (upd (upd f c (quadA (s.extract a s.size))) (c + 1) (quadB (s.extract a s.size))) (c + 2) p, finB (c + 2) p) else (0#128, false))
    else if grpN (s.extract a s.size) = 0 ∨ c = 8 then (0#128, false)
    else if a + (grpN (s.extract a s.size)).toNat = s.size then (finV (upd f c (grpV (s.extract a s.size))) (c + 1) p, finB (c + 1) p)
    else if p = -1 ∧ byteAt s (a + (grpN (s.extract a s.size)).toNat) = 58 ∧ byteAt s (a + (grpN (s.extract a s.size)).toNat + 1) = 58 then sixR s n (a + (grpN (s.extract a s.size)).toNat + 2) (upd f c (grpV (s.extract a s.size))) (c + 1) ((c : Int) + 1)
    else if 1 < s.size - (a + (grpN (s.extract a s.size)).toNat) ∧ byteAt s (a + (grpN (s.extract a s.size)).toNat) = 58 then sixR s n (a + (grpN (s.extract a s.size)).toNat + 1) (upd f c (grpV (s.extract a s.size))) (c + 1) p
    else (0#128, false)
theorem sixR_succ (s : ByteArray) (n a : Nat) (f : Nat → Int) (c : Nat) (p : Int) : sixR s (n + 1) a f c p =
    if s.size ≤ a then (finV f c p, finB c p)
    else if byteAt s (a + (grpN (s.extract a s.size)).toNat) = 46 then (if fourB (s.extract a s.size) = true ∧ c ≤ 6 then (finV (upd (upd f c (quadA (s.extract a s.size))) (c + 1) (quadB (s.extract a s.size))) (c + 2) p, finB (c + 2) p) else (0#128, false))
    else if grpN (s.extract a s.size) = 0 ∨ c = 8 then (0#128, false)
    else if a + (grpN (s.extract a s.size)).toNat = s.size then (finV (upd f c (grpV (s.extract a s.size))) (c + 1) p, finB (c + 1) p)
    else if p = -1 ∧ byteAt s (a + (grpN (s.extract a s.size)).toNat) = 58 ∧ byteAt s (a + (grpN (s.extract a s.size)).toNat + 1) = 58 then sixR s n (a + (grpN (s.extract a s.size)).toNat + 2) (upd f c (grpV (s.extract a s.size))) (c + 1) ((c : Int) + 1)
    else if 1 < s.size - (a + (grpN (s.extract a s.size)).toNat) ∧ byteAt s (a + (grpN (s.extract a s.size)).toNat) = 58 then sixR s n (a + (grpN (s.extract a s.size)).toNat + 1) (upd f c (grpV (s.extract a s.size))) (c + 1) p
    else (0#128, false) := rfl
def six0 (s : ByteArray) : BitVec 128 × Bool := if byteAt s 0 = 58 ∧ byteAt s 1 = 58 then sixR s (s.size + 1) 2 (fun _ => 0) 0 0 else sixR s (s.size + 1) 0 (fun _ => 0) 0 (-1)

theorem grpR_bd (t : ByteArray) : ∀ f k v, k + f = 4 → k ≤ t.size → 0 ≤ v → v < 16 ^ k → 0 ≤ (grpR t f k v).1 ∧ (grpR t f k v).1 ≤ 65535 ∧ 0 ≤ (grpR t f k v).2 ∧ (grpR t f k v).2 ≤ t.size ∧ (grpR t f k v).2 ≤ 4 := by
  intro f
  induction f with
  | zero =>
    intro k v hk ht h0 h1
    have : k = 4 := by omega
    subst this
    refine ⟨h0, ?_, ?_, ?_, ?_⟩
    · show v ≤ 65535
      have : (16 : Int) ^ 4 = 65536 := by decide
      omega
    · show (0 : Int) ≤ ((4 : Nat) : Int); omega
    · show ((4 : Nat) : Int) ≤ _; omega
    · show ((4 : Nat) : Int) ≤ _; omega
  | succ f ih =>
    intro k v hk ht h0 h1
    have hd := hexV_bd (byteAt t k)
    have hpw : (16 : Int) ^ k ≤ 65536 := by
      rcases (by omega : k = 0 ∨ k = 1 ∨ k = 2 ∨ k = 3) with rfl | rfl | rfl | rfl <;> decide
    by_cases hc : k < t.size ∧ hexB (byteAt t k) = true
    · have e : grpR t (f + 1) k v = grpR t f (k + 1) (16 * v + hexV (byteAt t k)) := if_pos hc
      rw [e]
      exact ih (k + 1) _ (by omega) (by omega) (by omega) (by rw [Int.pow_succ]; omega)
    · have e : grpR t (f + 1) k v = (v, (k : Int)) := if_neg hc
      rw [e]
      refine ⟨h0, ?_, ?_, ?_, ?_⟩
      · show v ≤ 65535; omega
      · show (0 : Int) ≤ (k : Int); omega
      · show (k : Int) ≤ _; omega
      · show (k : Int) ≤ 4; omega
theorem grp_bd (t : ByteArray) : 0 ≤ grpV t ∧ grpV t ≤ 65535 ∧ 0 ≤ grpN t ∧ grpN t ≤ t.size := by
  have := grpR_bd t 4 0 0 (by omega) (by omega) (by omega) (by decide)
  unfold grpV grpN; omega

end Go.Proofs.YtpchhfhdepkbcabDoor
/-
  Plain facts: pieces, groups and gaps of a text's end.
-/
namespace Go.Proofs.YtpchhfhdepkbcabDoor
open Go.RowKit
set_option linter.unusedSimpArgs false
set_option linter.unusedVariables false

theorem ext_ext (s : ByteArray) (a p j : Nat) (h : a + j ≤ s.size) : (s.extract a s.size).extract p j = s.extract (a + p) (a + j) := by
  rw [Lib.extract_eq, Lib.extract_to_end, Lib.extract_eq, List.drop_drop]
  congr 3
  omega
theorem ext_end (s : ByteArray) (a p : Nat) (h : a ≤ s.size) : (s.extract a s.size).extract p (s.extract a s.size).size = s.extract (a + p) s.size := by
  rw [size_sub s a s.size (Nat.le_refl _), ext_ext s a p (s.size - a) (by omega), show a + (s.size - a) = s.size by omega]
theorem ext_all (s : ByteArray) : s.extract 0 s.size = s := by
  rw [Lib.extract_eq, List.drop_zero, List.take_of_length_le (by rw [← Lib.size_eq]; omega)]

theorem spl_shift (t : ByteArray) (c : Int) (a : Nat) (ha : a ≤ t.size) : ∀ f p i, i + f = t.size - a → spl t c f (a + p) (a + i) = spl (t.extract a t.size) c f p i := by
  intro f
  induction f with
  | zero =>
    intro p i hi
    show [t.extract (a + p) t.size] = [(t.extract a t.size).extract p (t.extract a t.size).size]
    rw [ext_end t a p ha]
  | succ f ih =>
    intro p i hi
    show (if byteAt t (a + i) = c then t.extract (a + p) (a + i) :: spl t c f (a + i + 1) (a + i + 1) else spl t c f (a + p) (a + i + 1)) = (if byteAt (t.extract a t.size) i = c then (t.extract a t.size).extract p i :: spl (t.extract a t.size) c f (i + 1) (i + 1) else spl (t.extract a t.size) c f p (i + 1))
    rw [byteAt_ext, ext_ext t a p i (by omega), Nat.add_assoc, ih (i + 1) (i + 1) (by omega), ih p (i + 1) (by omega)]
theorem spl_tail (t : ByteArray) (c : Int) (a : Nat) (ha : a ≤ t.size) : spl t c (t.size - a) a a = spl (t.extract a t.size) c (t.extract a t.size).size 0 0 := by
  have := spl_shift t c a ha (t.size - a) 0 0 (by omega)
  rw [Nat.add_zero] at this
  rw [this, size_sub t a t.size (Nat.le_refl _)]
/-- The pieces of a text: the first one, and those of what is left. -/
theorem spl_first (t : ByteArray) (c : Int) :
    ∃ j, j ≤ t.size ∧ (∀ k, k < j → ¬ byteAt t k = c) ∧ ((j = t.size ∧ spl t c t.size 0 0 = [t]) ∨ (j < t.size ∧ byteAt t j = c ∧ spl t c t.size 0 0 = t.extract 0 j :: spl (t.extract (j + 1) t.size) c (t.extract (j + 1) t.size).size 0 0)) := by
  obtain ⟨j, -, h2, h3, h4⟩ := spl_next t c 0 (by omega)
  rw [Nat.sub_zero] at h4
  refine ⟨j, h2, fun k hk => h3 k (by omega) hk, ?_⟩
  rcases h4 with ⟨a, b⟩ | ⟨a, b, d⟩
  · left; rw [ext_all] at b; exact ⟨a, b⟩
  · right; rw [spl_tail t c (j + 1) (by omega)] at d; exact ⟨a, b, d⟩

theorem gsG_acc (last : Bool) : ∀ (l : List ByteArray) (acc : List Int), gsG last l acc = (gsG last l []).map (acc ++ ·) := by
  intro l
  induction l with
  | nil => intro acc; simp [gsG]
  | cons q l ih =>
    intro acc
    unfold gsG
    split
    · simp
    · split
      · rfl
      · rw [ih (acc ++ [grV q]), ih ([] ++ [grV q])]
        cases gsG last l [] <;> simp
/-- The groups of a text, its pieces taken. -/
def gsP (last : Bool) (T : ByteArray) : Option (List Int) := gsG last (spl T 58 T.size 0 0) []
theorem gsP_one (last : Bool) (T : ByteArray) (h : spl T 58 T.size 0 0 = [T]) : gsP last T = if last = true ∧ (dotO T).isSome = true then some [(dotO T).getD 0 / 65536, (dotO T).getD 0 % 65536] else if grV T < 0 then none else some [grV T] := by
  unfold gsP
  rw [h]
  show (if last = true ∧ ([] : List ByteArray) = [] ∧ (dotO T).isSome = true then some ([] ++ [(dotO T).getD 0 / 65536, (dotO T).getD 0 % 65536]) else if grV T < 0 then none else gsG last [] ([] ++ [grV T])) = _
  simp [gsG]
theorem gsP_more (last : Bool) (T : ByteArray) (j : Nat) (h : spl T 58 T.size 0 0 = T.extract 0 j :: spl (T.extract (j + 1) T.size) 58 (T.extract (j + 1) T.size).size 0 0) :
    gsP last T = if grV (T.extract 0 j) < 0 then none else (gsP last (T.extract (j + 1) T.size)).map (grV (T.extract 0 j) :: ·) := by
  unfold gsP
  rw [h]
  have hl := (spl_len (T.extract (j + 1) T.size) 58 (T.extract (j + 1) T.size).size 0 0).1
  generalize spl (T.extract (j + 1) T.size) 58 (T.extract (j + 1) T.size).size 0 0 = l at *
  have hne : ¬ l = [] := fun e => by rw [e] at hl; simp at hl
  show (if last = true ∧ l = [] ∧ (dotO (T.extract 0 j)).isSome = true then _ else if grV (T.extract 0 j) < 0 then none else gsG last l ([] ++ [grV (T.extract 0 j)])) = _
  rw [if_neg (fun q => hne q.2.1)]
  split
  · rfl
  · rw [gsG_acc last l ([] ++ [grV (T.extract 0 j)])]
    rfl

theorem grp_on (T : ByteArray) (j : Nat) (hj : j ≤ T.size) (hend : j = T.size ∨ hexB (byteAt T j) = false) : ∀ f k v, k + f = 4 → k ≤ j → 0 ≤ v →
    ((j ≤ 4 ∧ 0 ≤ grG (T.extract 0 j) (j - k) k v → grpR T f k v = (grG (T.extract 0 j) (j - k) k v, (j : Int))) ∧ (¬ (j ≤ 4 ∧ 0 ≤ grG (T.extract 0 j) (j - k) k v) → ∃ z : Nat, (grpR T f k v).2 = z ∧ z < j)) := by
  intro f
  induction f with
  | zero =>
    intro k v hk hkj hv
    have e : grpR T 0 k v = (v, (k : Int)) := rfl
    rw [e]
    by_cases h : j = k
    · subst h
      rw [Nat.sub_self]
      exact ⟨fun _ => rfl, fun q => absurd ⟨by omega, hv⟩ q⟩
    · exact ⟨fun q => by omega, fun _ => ⟨k, rfl, by omega⟩⟩
  | succ f ih =>
    intro k v hk hkj hv
    by_cases h : j = k
    · subst h
      rw [Nat.sub_self]
      have hb : ¬ (j < T.size ∧ hexB (byteAt T j) = true) := by
        rcases hend with q | q
        · omega
        · rw [q]; simp
      have e : grpR T (f + 1) j v = (v, (j : Int)) := if_neg hb
      rw [e]
      exact ⟨fun _ => rfl, fun q => absurd ⟨by omega, hv⟩ q⟩
    · have hlt : k < j := by omega
      have e1 : byteAt (T.extract 0 j) k = byteAt T k := by rw [byteAt_sub T 0 j k hj, if_pos (by omega), Nat.zero_add]
      have ef : j - k = (j - (k + 1)) + 1 := by omega
      by_cases hx : hexB (byteAt T k) = true
      · have e2 : grpR T (f + 1) k v = grpR T f (k + 1) (16 * v + hexV (byteAt T k)) := if_pos ⟨by omega, hx⟩
        have e3 : grG (T.extract 0 j) (j - k) k v = grG (T.extract 0 j) (j - (k + 1)) (k + 1) (16 * v + hexV (byteAt T k)) := by
          rw [ef]
          have : grG (T.extract 0 j) ((j - (k + 1)) + 1) k v = grG (T.extract 0 j) (j - (k + 1)) (k + 1) (16 * v + hexV (byteAt (T.extract 0 j) k)) := if_pos (by rw [e1]; exact hx)
          rw [e1] at this; exact this
        rw [e2, e3]
        have := hexV_bd (byteAt T k)
        exact ih (k + 1) _ (by omega) (by omega) (by omega)
      · have e2 : grpR T (f + 1) k v = (v, (k : Int)) := if_neg (by simp [hx])
        have e3 : grG (T.extract 0 j) (j - k) k v = -1 := by rw [ef]; exact if_neg (by rw [e1]; exact hx)
        rw [e2, e3]
        exact ⟨fun q => by omega, fun _ => ⟨k, rfl, hlt⟩⟩
/-- What group tells of a text whose first piece ends at j. -/
theorem grp_piece (T : ByteArray) (j : Nat) (hj : j ≤ T.size) (hend : j = T.size ∨ hexB (byteAt T j) = false) :
    (0 ≤ grV (T.extract 0 j) → grpV T = grV (T.extract 0 j) ∧ grpN T = (j : Int) ∧ 1 ≤ j) ∧ (grV (T.extract 0 j) < 0 → ∃ z : Nat, grpN T = z ∧ (z < j ∨ z = 0)) := by
  have h := grp_on T j hj hend 4 0 0 (by omega) (by omega) (by omega)
  rw [Nat.sub_zero] at h
  unfold grpV grpN grV
  rw [size_sub T 0 j hj, Nat.sub_zero]
  by_cases h0 : j < 1 ∨ 4 < j
  · rw [if_pos h0]
    refine ⟨fun q => by omega, fun _ => ?_⟩
    by_cases hz : j = 0
    · have hb := grpR_bd T 4 0 0 (by omega) (by omega) (by omega) (by decide)
      subst hz
      have := h.1 ⟨by omega, by show (0 : Int) ≤ 0; omega⟩
      rw [this]
      exact ⟨0, rfl, Or.inr rfl⟩
    · obtain ⟨z, h1, h2⟩ := h.2 (by omega)
      exact ⟨z, h1, Or.inl h2⟩
  · rw [if_neg h0]
    refine ⟨fun q => ?_, fun q => ?_⟩
    · rw [h.1 ⟨by omega, q⟩]
      exact ⟨rfl, rfl, by omega⟩
    · obtain ⟨z, h1, h2⟩ := h.2 (by omega)
      exact ⟨z, h1, Or.inl h2⟩

theorem oct_hexG (q : ByteArray) : ∀ f k n m, 0 ≤ octG q f k n → 0 ≤ m → 0 ≤ grG q f k m := by
  intro f
  induction f with
  | zero => intro k n m _ h; exact h
  | succ f ih =>
    intro k n m h hm
    by_cases hd : 48 ≤ byteAt q k ∧ byteAt q k ≤ 57
    · have e : octG q (f + 1) k n = octG q f (k + 1) (10 * n + (byteAt q k - 48)) := if_pos hd
      rw [e] at h
      have hx : hexB (byteAt q k) = true := by unfold hexB; simp [hd.1, hd.2]
      have e2 : grG q (f + 1) k m = grG q f (k + 1) (16 * m + hexV (byteAt q k)) := if_pos hx
      rw [e2]
      have := hexV_bd (byteAt q k)
      exact ih _ _ _ h (by omega)
    · have e : octG q (f + 1) k n = -1 := if_neg hd
      rw [e] at h; omega
theorem oct_digG (q : ByteArray) : ∀ f k n, 0 ≤ octG q f k n → ∀ i, k ≤ i → i < k + f → 48 ≤ byteAt q i ∧ byteAt q i ≤ 57 := by
  intro f
  induction f with
  | zero => intro k n _ i h1 h2; omega
  | succ f ih =>
    intro k n h i h1 h2
    by_cases hd : 48 ≤ byteAt q k ∧ byteAt q k ≤ 57
    · have e : octG q (f + 1) k n = octG q f (k + 1) (10 * n + (byteAt q k - 48)) := if_pos hd
      rw [e] at h
      by_cases hi : i = k
      · subst hi; exact hd
      · exact ih _ _ h i (by omega) (by omega)
    · have e : octG q (f + 1) k n = -1 := if_neg hd
      rw [e] at h; omega
theorem oct_facts (q : ByteArray) (h : 0 ≤ octV q) : 1 ≤ q.size ∧ q.size ≤ 3 ∧ 0 ≤ octG q q.size 0 0 := by
  unfold octV at h
  split at h
  · omega
  · split at h
    · omega
    · omega
theorem oct_hex (q : ByteArray) (h : 0 ≤ octV q) : 0 ≤ grV q := by
  obtain ⟨h1, h2, h3⟩ := oct_facts q h
  unfold grV
  rw [if_neg (by omega)]
  exact oct_hexG q _ _ _ _ h3 (by omega)
theorem oct_dig (q : ByteArray) (h : 0 ≤ octV q) : ∀ i, i < q.size → 48 ≤ byteAt q i ∧ byteAt q i ≤ 57 := by
  obtain ⟨h1, h2, h3⟩ := oct_facts q h
  intro i hi
  exact oct_digG q _ _ _ h3 i (by omega) (by omega)
theorem dotO_pieces (T : ByteArray) (h : (dotO T).isSome = true) : (spl T 46 T.size 0 0).length = 4 ∧ ∀ q ∈ spl T 46 T.size 0 0, 0 ≤ octV q := by
  unfold dotO at h
  split at h
  · rename_i hl
    refine ⟨hl, ?_⟩
    apply Classical.byContradiction
    intro hn
    rw [dotG_not _ _ hn] at h; cases h
  · cases h
theorem no_colon (T : ByteArray) : ∀ n p, p ≤ T.size → T.size - p ≤ n → (∀ q ∈ spl T 46 (T.size - p) p p, 0 ≤ octV q) → ∀ k, p ≤ k → k < T.size → ¬ byteAt T k = 58 := by
  intro n
  induction n with
  | zero => intro p hp hn _ k h1 h2; omega
  | succ n ih =>
    intro p hp hn hall k h1 h2
    obtain ⟨j, hpj, hj, hno, hw⟩ := spl_next T 46 p hp
    have hpiece : 0 ≤ octV (T.extract p j) := by
      rcases hw with ⟨rfl, hs⟩ | ⟨_, _, hs⟩
      · exact hall _ (by rw [hs]; simp)
      · exact hall _ (by rw [hs]; simp)
    by_cases hkj : k < j
    · have := oct_dig _ hpiece (k - p) (by rw [size_sub T p j hj]; omega)
      rw [byteAt_sub T p j _ hj, if_pos (by omega), show p + (k - p) = k by omega] at this
      omega
    · rcases hw with ⟨rfl, hs⟩ | ⟨hlt, hc, hs⟩
      · omega
      · by_cases hkj2 : k = j
        · subst hkj2; omega
        · exact ih (j + 1) (by omega) (by omega) (fun q hq => hall q (by rw [hs]; exact List.mem_cons_of_mem _ hq)) k (by omega) h2
/-- A dotted text: its first number is read as a group, and a point follows it. -/
theorem dot_first (T : ByteArray) (h : (dotO T).isSome = true) : byteAt T (grpN T).toNat = 46 := by
  obtain ⟨hl, hall⟩ := dotO_pieces T h
  obtain ⟨j, hj, hno, hw⟩ := spl_first T 46
  rcases hw with ⟨rfl, hs⟩ | ⟨hlt, hc, hs⟩
  · rw [hs] at hl; simp at hl
  · have ho := hall (T.extract 0 j) (by rw [hs]; simp)
    have hg := oct_hex _ ho
    obtain ⟨-, h2, -⟩ := (grp_piece T j hj (Or.inr (by rw [hc]; decide))).1 hg
    rw [h2, Int.toNat_natCast]; exact hc
theorem dot_no_colon (T : ByteArray) (h : (dotO T).isSome = true) (k : Nat) (hk : k < T.size) : ¬ byteAt T k = 58 := by
  obtain ⟨hl, hall⟩ := dotO_pieces T h
  exact no_colon T T.size 0 (by omega) (by omega) (by rw [Nat.sub_zero]; exact hall) k (by omega) hk
end Go.Proofs.YtpchhfhdepkbcabDoor
