/-
  Plain: what Unfold takes Fold tells again.
-/
import Derived.Test.YtbamogpbjdobkaaDoorUnP
import Derived.Test.YtbamogpbjdobkaaDoorFdP
namespace Go.Proofs.YtbamogpbjdobkaaDoor
open Go.RowKit
set_option linter.unusedSimpArgs false
set_option linter.unusedVariables false

theorem one_bit (r s : Nat) (hr : r < 32) (hs : s < 32) : bt (cOne >>> r) s = decide (s = r) := by
  have : ∀ r s : Fin 32, bt (cOne >>> r.val) s.val = decide (s.val = r.val) := by decide +kernel
  exact this ⟨r, hr⟩ ⟨s, hs⟩
theorem plc_set (U : List (BitVec 32)) (k p : Nat) (hk : k < 32 * U.length) : plc (setP U k) p = (decide (p = k) || plc U p) := by
  unfold plc setP
  by_cases c : p / 32 = k / 32
  · rw [c, List.getD_eq_getElem?_getD, List.getElem?_set_self (by omega), Option.getD_some]
    have e : bt (U.getD (k / 32) 0#32 ||| cOne >>> (k % 32)) (p % 32) = (bt (U.getD (k / 32) 0#32) (p % 32) || bt (cOne >>> (k % 32)) (p % 32)) := by
      unfold bt; rw [BitVec.getLsbD_or]
    rw [e, one_bit _ _ (by omega) (by omega), Bool.or_comm]
    congr 1
    by_cases q : p = k
    · simp [q]
    · have : p % 32 ≠ k % 32 := by omega
      simp [q, this]
  · have q : p ≠ k := by intro q; rw [q] at c; exact c rfl
    rw [List.getD_eq_getElem?_getD, List.getElem?_set_ne (fun e => c e.symm), ← List.getD_eq_getElem?_getD]
    simp [q]
theorem plc_zero (n p : Nat) : plc (List.replicate n 0#32) p = false := by
  unfold plc bt
  rw [List.getD_eq_getElem?_getD, List.getElem?_replicate]
  split <;> simp
section
variable {α : Type} [DecidableEq α]
theorem plc_fd (l : List α) : ∀ k, k ≤ l.length → ∀ p, plc (fdU l k) p = (decide (p < k) && flg l p)
  | 0, _, p => by simp only [fdU]; rw [plc_zero]; simp
  | k + 1, hk, p => by
    have ih := plc_fd l k (by omega) p
    simp only [fdU]
    by_cases h : flg l k = true
    · rw [if_pos h, plc_set _ _ _ (by rw [fdU_len]; omega), ih]
      by_cases q : p = k
      · subst q; simp [h]
      · have : (p < k + 1) ↔ p < k := by omega
        simp [q, this]
    · rw [if_neg h, ih]
      by_cases q : p = k
      · subst q; simp [h]
      · have : (p < k + 1) ↔ p < k := by omega
        simp [this]
end
theorem same_plc (U V : List (BitVec 32)) (hl : U.length = V.length) (h : ∀ p, p < 32 * U.length → plc U p = plc V p) : U = V := by
  refine List.ext_getElem hl fun i h1 h2 => ?_
  refine BitVec.eq_of_getLsbD_eq fun j hj => ?_
  have := h (32 * i + (31 - j)) (by omega)
  unfold plc bt at this
  rw [show (32 * i + (31 - j)) / 32 = i by omega, show (32 * i + (31 - j)) % 32 = 31 - j by omega, List.getD_eq_getElem?_getD, List.getD_eq_getElem?_getD, List.getElem?_eq_getElem h1, List.getElem?_eq_getElem h2, show 31 - (31 - j) = j by omega] at this
  exact this
theorem cnt_flat (U : List (BitVec 32)) (a : Nat) : ∀ d, (∀ p, a ≤ p → p < a + d → plc U p = false) → cnt U (a + d) = cnt U a
  | 0, _ => rfl
  | d + 1, h => by
    have ih := cnt_flat U a d (fun p h1 h2 => h p h1 (by omega))
    have : cnt U (a + (d + 1)) = cnt U (a + d) + (plc U (a + d)).toNat := rfl
    rw [this, ih, h (a + d) (by omega) (by omega)]
    rfl
section
variable {α : Type} [DecidableEq α]
omit [DecidableEq α] in
theorem cnt_end {U : List (BitVec 32)} {n : Int} {L : List α} (h : UnQ U n L) : cnt U n.toNat = L.length := by
  obtain ⟨h0, ⟨h1, h2, h3⟩, h4, -⟩ := h
  have := cnt_flat U n.toNat (32 * U.length - n.toNat) (fun p a b => h3 p a (by omega))
  rw [show n.toNat + (32 * U.length - n.toNat) = 32 * U.length by omega, cnt_words, h4] at this
  exact this.symm
theorem flg_un {U : List (BitVec 32)} {n : Int} {L : List α} (h : UnQ U n L) (k : Nat) (hk : k < n.toNat) : flg (unR U L n.toNat) k = plc U k := by
  cases k with
  | zero =>
    rw [flg_zero]
    rcases h.2.1.2.1 with q | q
    · omega
    · exact q.symm
  | succ j =>
    have g1 := unR_get h (j + 1) hk
    have g0 := unR_get h j (by omega)
    obtain ⟨a1, a2⟩ := un_at h j (by omega)
    obtain ⟨b1, b2⟩ := un_at h (j + 1) hk
    have e : cnt U (j + 1 + 1) = cnt U (j + 1) + (plc U (j + 1)).toNat := rfl
    obtain ⟨x, hx⟩ : ∃ x, L[cnt U (j + 1 + 1) - 1]? = some x := ⟨L[cnt U (j + 1 + 1) - 1], List.getElem?_eq_getElem (by omega)⟩
    obtain ⟨y, hy⟩ : ∃ y, L[cnt U (j + 1) - 1]? = some y := ⟨L[cnt U (j + 1) - 1], List.getElem?_eq_getElem (by omega)⟩
    rw [hx] at g1
    rw [hy] at g0
    rw [flg_succ _ j x y g1 g0]
    cases c : plc U (j + 1)
    · rw [c] at e
      simp only [Bool.toNat_false, Nat.add_zero] at e
      rw [e, hy] at hx
      simp [Option.some.inj hx]
    · rw [c] at e
      simp only [Bool.toNat_true] at e
      have hne := h.2.2.2 (cnt U (j + 1) - 1) y x hy (by rw [← hx]; congr 1; omega)
      simp [Ne.symm hne]
theorem fold_un {U : List (BitVec 32)} {n : Int} {L : List α} (h : UnQ U n L) : fdU (unR U L n.toNat) n.toNat = U ∧ fdR (unR U L n.toNat) n.toNat = L := by
  have hl := unR_len h n.toNat (Nat.le_refl _)
  constructor
  · have hll : (fdU (unR U L n.toNat) n.toNat).length = U.length := by rw [fdU_len, hl]; exact h.2.1.1.symm
    refine same_plc _ _ hll fun p hp => ?_
    rw [plc_fd _ _ (by omega)]
    by_cases c : p < n.toNat
    · rw [flg_un h p c]; simp [c]
    · rw [h.2.1.2.2 p (by omega) (by omega)]; simp [c]
  · have key : ∀ k, k ≤ n.toNat → fdR (unR U L n.toNat) k = L.take (cnt U k) := by
      intro k
      induction k with
      | zero => intro _; simp [fdR, cnt]
      | succ k ih =>
        intro hk
        have ih := ih (by omega)
        simp only [fdR]
        rw [flg_un h k (by omega), ih, unR_get h k (by omega)]
        obtain ⟨a1, a2⟩ := un_at h k (by omega)
        have e : cnt U (k + 1) = cnt U k + (plc U k).toNat := rfl
        cases c : plc U k
        · rw [c] at e
          simp only [Bool.toNat_false, Nat.add_zero] at e
          rw [e]; simp
        · rw [c] at e
          simp only [Bool.toNat_true] at e
          rw [e, Nat.add_sub_cancel, if_pos rfl, List.take_add_one]
    rw [key _ (Nat.le_refl _), cnt_end h, List.take_length]
end
end Go.Proofs.YtbamogpbjdobkaaDoor
