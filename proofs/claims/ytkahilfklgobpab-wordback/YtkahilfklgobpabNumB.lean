/-
  Plain facts for the law WordBack: what is laid in is read there; a word's text is read as the word.
-/
import Derived.Test.YtkahilfklgobpabTxt2
import Derived.Test.YtkahilfklgobpabNum3
namespace Go.Proofs.Ytkahilfklgobpab
open Go.RowKit
set_option linter.unusedSimpArgs false
set_option linter.unusedVariables false

theorem read_with (x v : BitVec 128) (f n : Int) (h : fitB f n = true) (hv : v >>> n.toNat = 0#128) : readW (withW x f n v) f n = v := by
  obtain ⟨h0, h1, h2, h3⟩ := fitB_t h
  apply BitVec.eq_of_getLsbD_eq; intro j hj
  rw [readW_bit _ f n h]
  by_cases c : j < n.toNat
  · rw [withW_bit x v f n h hv _ (by omega), if_pos (by omega)]
    have e : (128 - f - n).toNat + j - (128 - f - n).toNat = j := by omega
    simp only [c, e, decide_true, Bool.true_and]
  · rw [small_bit v n.toNat hv j (by omega)]
    simp only [c, decide_false, Bool.false_and]
theorem with_keep (x v : BitVec 128) (f n : Int) (h : fitB f n = true) (hv : v >>> n.toNat = 0#128) (i : Int) (i0 : 0 ≤ i) (i1 : i < 128) (ho : i < f ∨ f + n ≤ i) : bitZ (withW x f n v) i = bitZ x i := by
  obtain ⟨h0, h1, h2, h3⟩ := fitB_t h
  have e : (withW x f n v).getLsbD (127 - i).toNat = x.getLsbD (127 - i).toNat := by
    rw [withW_bit x v f n h hv _ (by omega)]
    apply if_neg
    intro ⟨a, b⟩
    rcases ho with ho | ho
    · omega
    · omega
  unfold bitZ
  rw [bitB_in _ i i0 (by omega), bitB_in _ i i0 (by omega), e]
theorem cut_small (v : BitVec 128) (n : Int) (h0 : 0 ≤ n) (h1 : n ≤ 128) : (v &&& ~~~(maskW (128 - n))) >>> n.toNat = 0#128 := by
  apply BitVec.eq_of_getLsbD_eq; intro j hj
  rw [BitVec.getLsbD_ushiftRight, BitVec.getLsbD_and, BitVec.getLsbD_not, BitVec.getLsbD_zero]
  by_cases c : n.toNat + j < 128
  · have a : 128 - (128 - n).toNat ≤ n.toNat + j := by omega
    rw [maskW_bit _ _ c]
    simp [a]
  · simp [c]
theorem foldl_push (l : List Int) : ∀ r : ByteArray, (l.foldl (fun r n => r.push (UInt8.ofNat n.toNat)) r).data.toList = r.data.toList ++ l.map fun n => UInt8.ofNat n.toNat := by
  induction l with
  | nil => intro r; simp
  | cons a l ih => intro r; simp only [List.foldl_cons]; rw [ih]; simp [ByteArray.push]
theorem txt_list (x : BitVec 128) : (txtW x).data.toList = (txtL x).map fun n => UInt8.ofNat n.toNat := by
  unfold txtW; rw [foldl_push]; rfl
theorem txt_size (x : BitVec 128) : (txtW x).size = 32 := by
  show (txtW x).data.size = 32
  rw [← Array.length_toList, txt_list]; unfold txtL; simp
theorem chN_lt (d : Nat) (h : d < 16) : chN d < 256 := by unfold chN; split <;> omega
theorem txt_byte (x : BitVec 128) (k : Nat) (h : k < 32) : byteAt (txtW x) k = (chN (nib x k) : Int) := by
  have hs : k < (txtW x).size := by rw [txt_size]; exact h
  rw [← byteAt_in _ _ hs]
  have e : (txtW x)[k] = UInt8.ofNat (chN (nib x k)) := by
    have q : (txtW x).data.toList[k]? = some (UInt8.ofNat (chN (nib x k))) := by
      rw [txt_list]; unfold txtL
      simp [h]
    have q2 : (txtW x).data[k]? = some (UInt8.ofNat (chN (nib x k))) := by rw [← Array.getElem?_toList]; exact q
    have q3 := Array.getElem?_eq_some_iff.mp q2
    exact q3.2
  rw [e]
  have := chN_lt _ (nib_lt x k)
  rw [UInt8.toNat_ofNat']
  omega
theorem dig_ch (d : Nat) (h : d < 16) : digB (chN d : Int) = true ∧ digV (chN d : Int) = d := by
  have all : ∀ j : Fin 16, digB (chN j.val : Int) = true ∧ digV (chN j.val : Int) = (j.val : Int) := by decide
  exact all ⟨d, h⟩
theorem pAll_txt (x : BitVec 128) : ∀ k, k ≤ 32 → pAll (txtW x) k = true := by
  intro k
  induction k with
  | zero => intro _; rfl
  | succ k ih =>
    intro h
    simp only [pAll]
    rw [ih (by omega), txt_byte x k (by omega), (dig_ch _ (nib_lt x k)).1]; rfl
theorem nib_bit (x : BitVec 128) (k : Nat) (h : k < 32) (j : Nat) : (mkW 0 ((nib x k : Nat) : Int)).getLsbD j = (decide (j < 4) && x.getLsbD (124 - 4 * k + j)) := by
  have hm : mkW 0 ((nib x k : Nat) : Int) = (x >>> (124 - 4 * k)) &&& 15#128 := by
    apply eq_ints
    · rw [hI_mk 0 _ (by omega) (by omega)]
      rw [← and_h]
      have : hI 15#128 = 0 := by decide
      rw [this]
      have q := bits64and (hv (x >>> (124 - 4 * k))) 0#64 0#64 (by simp)
      exact q.symm
    · have hn := nib_lt x k
      rw [lI_mk 0 _ (by omega) (by omega), ← and_l, show lI 15#128 = 15 by decide]
      exact (and15 x k).symm
  rw [hm, BitVec.getLsbD_and, BitVec.getLsbD_ushiftRight]
  have : (15#128).getLsbD j = decide (j < 4) := by
    by_cases c : j < 4
    · have : j = 0 ∨ j = 1 ∨ j = 2 ∨ j = 3 := by omega
      rcases this with rfl | rfl | rfl | rfl <;> decide
    · have e : (15#128).getLsbD j = false := by
        unfold BitVec.getLsbD
        apply Nat.testBit_lt_two_pow
        exact Nat.lt_of_lt_of_le (by decide : 15 < 2 ^ 4) (Nat.pow_le_pow_right (by decide) (by omega))
      rw [e]; simp [c]
  rw [this, Bool.and_comm]
theorem pW_txt (x : BitVec 128) : ∀ k, k ≤ 32 → pW (txtW x) k = x >>> (128 - 4 * k) := by
  intro k
  induction k with
  | zero => intro _; simp only [pW]; symm; exact shr_0 x 128 (Nat.le_refl _)
  | succ k ih =>
    intro h
    simp only [pW]
    rw [ih (by omega), txt_byte x k (by omega), (dig_ch _ (nib_lt x k)).2]
    apply BitVec.eq_of_getLsbD_eq; intro j hj
    rw [BitVec.getLsbD_or, nib_bit x k (by omega), BitVec.getLsbD_shiftLeft, BitVec.getLsbD_ushiftRight, BitVec.getLsbD_ushiftRight]
    have e0 : 128 - 4 * (k + 1) = 124 - 4 * k := by omega
    rw [e0]
    by_cases c : j < 4
    · simp [c, hj]
    · have e1 : 128 - 4 * k + (j - 4) = 124 - 4 * k + j := by omega
      simp [c, hj, e1]
theorem parse_text (x : BitVec 128) : pOut (txtW x) = x ∧ pErr (txtW x) = 0 := by
  have h := pAll_txt x 32 (Nat.le_refl _)
  unfold pOut pErr
  rw [if_pos h, if_pos h, pW_txt x 32 (Nat.le_refl _)]
  exact ⟨by simp, rfl⟩
end Go.Proofs.Ytkahilfklgobpab
