/-
  Plain facts on the texts of addresses: how the reference's text of the family 128 is put together; digits.
-/
import Derived.Test.YtpchhfhdepkbcaaDoorBackP
import Derived.Lib.ItoaNum
namespace Go.Proofs.YtpchhfhdepkbcaaDoor
open Go.RowKit
set_option linter.unusedSimpArgs false
set_option linter.unusedVariables false

theorem bsG_start (G : Nat → Int) : ∀ f i a b a' b', b' = max b 1 → (2 ≤ b → a = a') →
    (bsG G f i a' b').2 = max (bsG G f i a b).2 1 ∧ (2 ≤ (bsG G f i a b).2 → (bsG G f i a b).1 = (bsG G f i a' b').1) := by
  intro f
  induction f with
  | zero => intro i a b a' b' h1 h2; exact ⟨h1, h2⟩
  | succ f ih =>
    intro i a b a' b' h1 h2
    show (if b' < rnG G i 9 0 then bsG G f (i + 1) i (rnG G i 9 0) else bsG G f (i + 1) a' b').2 = max (if b < rnG G i 9 0 then bsG G f (i + 1) i (rnG G i 9 0) else bsG G f (i + 1) a b).2 1 ∧ (2 ≤ (if b < rnG G i 9 0 then bsG G f (i + 1) i (rnG G i 9 0) else bsG G f (i + 1) a b).2 → (if b < rnG G i 9 0 then bsG G f (i + 1) i (rnG G i 9 0) else bsG G f (i + 1) a b).1 = (if b' < rnG G i 9 0 then bsG G f (i + 1) i (rnG G i 9 0) else bsG G f (i + 1) a' b').1)
    generalize rnG G i 9 0 = n
    by_cases hb : b < n
    · by_cases hb' : b' < n
      · rw [if_pos hb, if_pos hb']
        exact ih _ _ _ _ _ (by omega) (fun _ => rfl)
      · rw [if_pos hb, if_neg hb']
        exact ih _ _ _ _ _ (by omega) (fun h => by omega)
    · rw [if_neg hb, if_neg (by omega)]
      exact ih _ _ _ _ _ h1 h2
/-- The groups' texts. -/
def pcX (x : BitVec 128) (k : Nat) : List UInt8 := hexL (grpX x k).toNat
theorem pcX_ok (x : BitVec 128) (k : Nat) : pcX x k ≠ [] ∧ ∀ c ∈ pcX x k, c ≠ 58 := by
  have hk := grpX_any x k
  have := dig_pc false 1 (grpX x k).toNat (by omega) (by omega) (by omega)
  rw [dig_hexL _ (by omega)] at this
  exact ⟨this.ne, this.no 58 (by decide)⟩
def rowA (x : BitVec 128) : Nat := (bsG (grpX x) 8 0 0 0).1
def rowN (x : BitVec 128) : Nat := (bsG (grpX x) 8 0 0 0).2
theorem text6_flat (x : BitVec 128) (h : rowN x < 2) : text6 x = bL (jn 58 ((List.range' 0 8).map (pcX x))) := by
  have hs := bsG_start (grpX x) 8 0 0 0 0 1 (by omega) (fun h => by omega)
  have hb : ¬ 1 < (bsG (grpX x) 8 0 0 1).2 := by rw [hs.1]; unfold rowN at h; omega
  unfold text6
  rw [tx_fm (grpX x) (bL []), if_neg hb]
  have := fm_flat (pcX x) [] (bsG (grpX x) 8 0 0 1).1 0 (pcX_ok x) [] (Or.inl rfl) 8 0 9 [] (by omega) (by omega) (fun p h => by cases h) (Or.inl rfl)
  simp only [jn, List.append_nil, List.nil_append] at this
  exact this
theorem row_bd (x : BitVec 128) (h : ¬ rowN x < 2) : rowA x + rowN x ≤ 8 := by
  have hs := bsG_start (grpX x) 8 0 0 0 0 1 (by omega) (fun h => by omega)
  have hbd := bsG_bd (grpX x) 8 0 0 1 (by omega) (by omega) (by omega)
  unfold rowN at *; unfold rowA
  rw [hs.2 (by omega)]
  have := hs.1
  omega
theorem text6_gap (x : BitVec 128) (h : ¬ rowN x < 2) : text6 x = bL (jn 58 ((List.range' 0 (rowA x)).map (pcX x)) ++ [58, 58] ++ jn 58 ((List.range' (rowA x + rowN x) (8 - (rowA x + rowN x))).map (pcX x))) := by
  have hs := bsG_start (grpX x) 8 0 0 0 0 1 (by omega) (fun h => by omega)
  have hbd := row_bd x h
  have e2 : (bsG (grpX x) 8 0 0 1).2 = rowN x := by rw [hs.1]; unfold rowN at *; omega
  have e1 : (bsG (grpX x) 8 0 0 1).1 = rowA x := by rw [← hs.2 (by unfold rowN at h; omega)]; rfl
  have hb : 1 < rowN x := by omega
  unfold text6
  rw [tx_fm (grpX x) (bL []), e1, e2, if_pos hb]
  generalize rowA x = a at *
  generalize rowN x = b at *
  have h1 := fm_gap (pcX x) [] a b false (by omega) (fun q => by cases q) hbd (pcX_ok x) a 0 (8 - a) [] (by omega) (fun p h => by cases h)
  have h2 := fm_flat (pcX x) [] a b (pcX_ok x) (jn 58 ((List.range' 0 a).map (pcX x)) ++ [58, 58]) (Or.inr ⟨jn 58 ((List.range' 0 a).map (pcX x)) ++ [58], by simp⟩) (8 - (a + b)) (a + b) (8 - a) [] (by omega) (by omega) (fun p h => by cases h) (Or.inr (by omega))
  have e9 : 8 - a + a + 1 = 9 := by omega
  rw [e9] at h1
  simp only [jn, List.append_nil, List.nil_append] at h1 h2
  have e0 : bL [] = (⟨#[]⟩ : ByteArray) := rfl
  rw [e0] at h1
  exact h1.trans h2

theorem decL_lib_fin : ∀ n : Fin 256, decL n.val = (if n.val < 10 then [UInt8.ofNat (48 + n.val)] else if n.val < 100 then [UInt8.ofNat (48 + n.val / 10), UInt8.ofNat (48 + n.val % 10)] else [UInt8.ofNat (48 + n.val / 100), UInt8.ofNat (48 + n.val / 10 % 10), UInt8.ofNat (48 + n.val % 10)]) := by decide +kernel
theorem decL_lib (n : Nat) (h : n < 256) : Lib.decDigits n = decL n := by
  rw [decL_lib_fin ⟨n, h⟩]
  show _ = (if n < 10 then _ else if n < 100 then _ else _)
  by_cases h1 : n < 10
  · rw [if_pos h1, Lib.decDigits_one h1]
  · by_cases h2 : n < 100
    · rw [if_neg h1, if_pos h2, Lib.decDigits_two h1 h2]
    · rw [if_neg h1, if_neg h2, Lib.decDigits, dif_neg h1, Lib.decDigits_two (by omega) (by omega)]
      have e : n / 10 / 10 = n / 100 := by omega
      rw [e]; rfl
theorem hexF_go (f m : Nat) (t : List UInt8) (h : ¬ m = 0 ∨ t = []) : hexF (f + 1) m t = hexF f (m / 16) (hexD (m % 16) :: t) := by
  show (if m = 0 ∧ ¬ t = [] then t else hexF f (m / 16) (hexD (m % 16) :: t)) = _
  rw [if_neg ?_]
  rintro ⟨h1, h2⟩
  rcases h with h | h
  · exact h h1
  · exact h2 h
theorem hexF_last (f m : Nat) (t : List UInt8) (h : ¬ m = 0 ∨ t = []) (hm : m < 16) : hexF (f + 1) m t = hexD m :: t := by
  rw [hexF_go f m t h, Nat.div_eq_of_lt hm, Nat.mod_eq_of_lt hm]
  exact hexF_zero f 0 _ ⟨rfl, by simp⟩
end Go.Proofs.YtpchhfhdepkbcaaDoor
