/-
  Plain facts: the reference's Text of the family 128 is an address written out of its groups.
-/
import Derived.Test.YtpchhfhdepkbcaaDoorFormQ
namespace Go.Proofs.YtpchhfhdepkbcaaDoor
open Go.RowKit
set_option linter.unusedSimpArgs false
set_option linter.unusedVariables false

theorem dig_hexD (d : Nat) : digD false d = hexD d := by unfold digD hexD; simp
theorem dig_hexF : ∀ f m (t : List UInt8), digF false 1 f m t = hexF f m t := by
  intro f
  induction f with
  | zero => intro m t; rfl
  | succ f ih =>
    intro m t
    have e : (1 ≤ t.length) = (¬ t = []) := by
      cases t with
      | nil => simp
      | cons a l => simp
    show (if m = 0 ∧ 1 ≤ t.length then t else digF false 1 f (m / 16) (digD false (m % 16) :: t)) = (if m = 0 ∧ ¬ t = [] then t else hexF f (m / 16) (hexD (m % 16) :: t))
    rw [dig_hexD, ih]
    simp only [e]
theorem dig_hexL (n : Nat) (h : n < 65536) : digL false 1 n = hexL n := by
  unfold digL hexL
  rw [dig_hexF]
  exact hexF_fuel 4 20 n [] h (by omega) (fun _ => by omega)
theorem tx_fm (G : Nat → Int) (Q : ByteArray) (a b : Nat) : ∀ f i s, txG G a b f i s = fmG (fun k => bL (hexL (G k).toNat)) Q false a (if 1 < b then b else 0) f i s := by
  intro f
  induction f with
  | zero => intro i s; rfl
  | succ f ih =>
    intro i s
    show (if 8 ≤ i then s else if 1 < b ∧ i = a then txG G a b f (i + b) (s ++ ⟨#[58, 58]⟩) else txG G a b f (i + 1) (sepS s ++ ⟨(hexL (G i).toNat).toArray⟩)) = (if 8 ≤ i then s else if 0 < (if 1 < b then b else 0) ∧ i = a then fmG _ Q false a (if 1 < b then b else 0) f (i + (if 1 < b then b else 0)) (s ++ ⟨#[58, 58]⟩) else if false = true ∧ i = 6 then sepS s ++ Q else fmG _ Q false a (if 1 < b then b else 0) f (i + 1) (sepS s ++ bL (hexL (G i).toNat)))
    by_cases h8 : 8 ≤ i
    · rw [if_pos h8, if_pos h8]
    · rw [if_neg h8, if_neg h8, ih, ih]
      by_cases hb : 1 < b
      · simp only [hb, if_true, true_and]
        have : (0 < b) = True := by simp; omega
        simp only [this, true_and]
        split
        · rfl
        · simp; rfl
      · simp only [hb, if_false, false_and]
        simp; rfl
theorem rnG_zero (G : Nat → Int) (i : Nat) : ∀ f n, (∀ k, k < n → G (i + k) = 0) → ∀ k, k < rnG G i f n → G (i + k) = 0 := by
  intro f
  induction f with
  | zero => intro n h; exact h
  | succ f ih =>
    intro n h
    by_cases hc : i + n < 8 ∧ G (i + n) = 0
    · have e : rnG G i (f + 1) n = rnG G i f (n + 1) := if_pos hc
      rw [e]
      refine ih (n + 1) (fun k hk => ?_)
      by_cases q : k = n
      · subst q; exact hc.2
      · exact h k (by omega)
    · have e : rnG G i (f + 1) n = n := if_neg hc
      rw [e]; exact h
theorem bsG_zero (G : Nat → Int) : ∀ f i a b, (1 < b → ∀ k, a ≤ k → k < a + b → G k = 0) → (1 < (bsG G f i a b).2 → ∀ k, (bsG G f i a b).1 ≤ k → k < (bsG G f i a b).1 + (bsG G f i a b).2 → G k = 0) := by
  intro f
  induction f with
  | zero => intro i a b h; exact h
  | succ f ih =>
    intro i a b h
    by_cases hc : b < rnG G i 9 0
    · have e : bsG G (f + 1) i a b = bsG G f (i + 1) i (rnG G i 9 0) := if_pos hc
      rw [e]
      refine ih _ _ _ (fun _ k h1 h2 => ?_)
      have := rnG_zero G i 9 0 (fun k hk => by omega) (k - i) (by omega)
      rw [show i + (k - i) = k by omega] at this
      exact this
    · have e : bsG G (f + 1) i a b = bsG G f (i + 1) a b := if_neg hc
      rw [e]
      exact ih _ _ _ h
theorem grpX_any (x : BitVec 128) (k : Nat) : 0 ≤ grpX x k ∧ grpX x k ≤ 65535 := by
  unfold grpX readW
  exact part16_bd x (k : Int)
/-- The reference reads its own text: the groups. -/
theorem text6_reads (x : BitVec 128) : rsO (text6 x) = some ((List.range' 0 8).map (grpX x)) := by
  have hG := grpX_any x
  have hbd := bsG_bd (grpX x) 8 0 0 1 (by omega) (by omega) (by omega)
  have hz := bsG_zero (grpX x) 8 0 0 1 (fun h => by omega)
  unfold text6
  generalize grpX x = G at *
  generalize (bsG G 8 0 0 1).1 = a at *
  generalize (bsG G 8 0 0 1).2 = b at *
  have h6 := hG 6
  have h7 := hG 7
  rw [tx_fm G (bL (quadL ((G 6).toNat / 256) ((G 6).toNat % 256) ((G 7).toNat / 256) ((G 7).toNat % 256))) a b]
  refine fm_reads (fun k => hexL (G k).toNat) G _ false a (if 1 < b then b else 0) (fun k => ?_) ?_ ?_ (fun q => by cases q) (quad_no _ _ _ _ (by omega) (by omega) (by omega) (by omega)) ?_ h7
  · have hk := hG k
    have := dig_pc false 1 (G k).toNat (by omega) (by omega) (by omega)
    rw [Int.toNat_of_nonneg hk.1, dig_hexL _ (by omega)] at this
    exact this
  · intro k h1 h2
    by_cases hb : 1 < b
    · rw [if_pos hb] at h2; exact hz hb k h1 h2
    · rw [if_neg hb] at h2; omega
  · split <;> omega
  · rw [dot_quad _ _ _ _ (by omega) (by omega) (by omega) (by omega)]
    congr 1
    omega
theorem hI_small (y : BitVec 128) : hI (y >>> 112) = 0 := by
  unfold hI hv
  rw [BitVec.extractLsb'_toNat]
  have : (y >>> 112).toNat < 65536 := by
    rw [BitVec.toNat_ushiftRight, Nat.shiftRight_eq_div_pow]
    have := y.isLt
    omega
  have e : (y >>> 112).toNat >>> 64 = 0 := by rw [Nat.shiftRight_eq_div_pow]; omega
  rw [e]; rfl
theorem gW_x (x : BitVec 128) (L : List Int) (hL : ∀ k, k < 8 → L.getD k 0 = grpX x k) : ∀ k, k ≤ 8 → gW L k = x >>> (128 - 16 * k) := by
  intro k
  induction k with
  | zero =>
    intro _
    show 0#128 = _
    apply BitVec.eq_of_getLsbD_eq
    intro i hi
    simp
  | succ k ih =>
    intro hk
    have e : gW L (k + 1) = (gW L k <<< 16) ||| mkW 0 (L.getD k 0) := rfl
    rw [e, ih (by omega), hL k (by omega)]
    have hm : mkW 0 (grpX x k) = (x <<< (16 * k)) >>> 112 := by
      have e0 : (x <<< (16 * k)) >>> 112 = readW x (16 * (k : Int)) 16 := by
        unfold readW
        rw [show (16 * (k : Int)).toNat = 16 * k by omega]; rfl
      have h0 : hI (readW x (16 * (k : Int)) 16) = 0 := by rw [← e0]; exact hI_small _
      have := mk_ints (readW x (16 * (k : Int)) 16)
      rw [h0] at this
      rw [e0]
      exact this
    rw [hm]
    apply BitVec.eq_of_getLsbD_eq
    intro i hi
    simp only [BitVec.getLsbD_or, BitVec.getLsbD_shiftLeft, BitVec.getLsbD_ushiftRight]
    by_cases h : i < 16
    · have e1 : (decide (i < 16)) = true := by simp [h]
      simp only [e1]
      rw [show 128 - 16 * (k + 1) + i = 112 + i - 16 * k by omega]
      have e2 : decide (112 + i < 128) = true := by simp; omega
      have e3 : decide (112 + i < 16 * k) = false := by simp; omega
      simp [e2, e3, hi]
    · have e1 : (decide (i < 16)) = false := by simp; omega
      have e2 : decide (112 + i < 128) = false := by simp; omega
      simp only [e1, e2]
      rw [show 128 - 16 * (k + 1) + i = 128 - 16 * k + (i - 16) by omega]
      simp [hi]
/-- The reference's text of an address of the family 128 is read as it. -/
theorem text6_back (x : BitVec 128) : rpE 128 (text6 x) = 0 ∧ rpV 128 (text6 x) = x := by
  have h := text6_reads x
  have hs := rs_short _ _ h
  have hf : fam 128 = true := by decide
  constructor
  · unfold rpE
    rw [if_neg (by rw [hf]; simp), if_neg (by omega), if_neg (by decide), h]; rfl
  · unfold rpV
    rw [if_neg (by rw [hf]; simp; omega), if_neg (by decide), h]
    show gW _ 8 = x
    rw [gW_x x _ (fun k hk => by rw [List.getD_eq_getElem?_getD, List.getElem?_map, List.getElem?_range' hk]; simp) 8 (by omega)]
    simp
end Go.Proofs.YtpchhfhdepkbcaaDoor
