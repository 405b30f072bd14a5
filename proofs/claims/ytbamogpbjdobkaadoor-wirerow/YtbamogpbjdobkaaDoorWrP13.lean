/-
  Plain: a row, folded, is the row when it is unfolded.
-/
import Derived.Test.YtbamogpbjdobkaaDoorAgP
namespace Go.Proofs.YtbamogpbjdobkaaDoor
open Go.RowKit
set_option linter.unusedSimpArgs false
set_option linter.unusedVariables false

section
variable {α : Type} [DecidableEq α]
theorem fdR_cnt (l : List α) : ∀ k, k ≤ l.length → (fdR l k).length = cnt (fdU l l.length) k
  | 0, _ => rfl
  | k + 1, hk => by
    have ih := fdR_cnt l k (by omega)
    have e : cnt (fdU l l.length) (k + 1) = cnt (fdU l l.length) k + (plc (fdU l l.length) k).toNat := rfl
    have hp : plc (fdU l l.length) k = flg l k := by rw [plc_fd l l.length (Nat.le_refl _)]; simp; omega
    rw [e, hp, ← ih]
    by_cases h : flg l k = true
    · rw [(fd_yes l k (l[k]'(by omega)) (List.getElem?_eq_getElem _) h).2, h, List.length_append]; rfl
    · have h' : flg l k = false := by simpa using h
      rw [(fd_no l k h').2, h']; rfl
theorem flg_no {l : List α} {k : Nat} (h : flg l k = false) : k ≠ 0 ∧ l[k]? = l[k - 1]? := by
  unfold flg at h
  simp at h
  exact ⟨h.1, h.2⟩
theorem flg_yes {l : List α} {k : Nat} (h : flg l k = true) (hk : k ≠ 0) : l[k]? ≠ l[k - 1]? := by
  unfold flg at h
  simp at h
  rcases h with h | h
  · exact absurd h hk
  · exact h
theorem fdR_last (l : List α) : ∀ k, k < l.length → (fdR l (k + 1)).getLast? = l[k]?
  | 0, hk => by
    rw [(fd_yes l 0 (l[0]'hk) (List.getElem?_eq_getElem _) (flg_zero l)).2, List.getElem?_eq_getElem hk]
    simp
  | k + 1, hk => by
    by_cases h : flg l (k + 1) = true
    · rw [(fd_yes l (k + 1) (l[k + 1]'hk) (List.getElem?_eq_getElem _) h).2, List.getElem?_eq_getElem hk]
      simp
    · have h' : flg l (k + 1) = false := by simpa using h
      rw [(fd_no l (k + 1) h').2, fdR_last l k (by omega), (flg_no h').2, Nat.add_sub_cancel]
theorem fdR_pre (l : List α) (k : Nat) : ∀ m, k ≤ m → fdR l k <+: fdR l m := by
  intro m hm
  obtain ⟨d, rfl⟩ := Nat.exists_eq_add_of_le hm
  clear hm
  induction d with
  | zero => exact List.prefix_rfl
  | succ d ih =>
    refine ih.trans ?_
    rw [← Nat.add_assoc]
    show fdR l (k + d) <+: (if flg l (k + d) then fdR l (k + d) ++ l[k + d]?.toList else fdR l (k + d))
    split
    · exact List.prefix_append _ _
    · exact List.prefix_rfl
theorem fdR_tw (l : List α) : ∀ k, k ≤ l.length → NoTw (fdR l k)
  | 0, _ => by intro i x y hx; simp [fdR] at hx
  | k + 1, hk => by
    have ih := fdR_tw l k (by omega)
    by_cases h : flg l k = true
    · rw [(fd_yes l k (l[k]'(by omega)) (List.getElem?_eq_getElem _) h).2]
      intro i x y hx hy e
      by_cases q : i + 1 < (fdR l k).length
      · rw [List.getElem?_append_left (by omega)] at hx hy
        exact ih i x y hx hy e
      · have hl := (List.getElem?_eq_some_iff.1 hy).1
        rw [List.length_append] at hl
        have hi : i + 1 = (fdR l k).length := by simp at hl; omega
        rw [hi, List.getElem?_append_right (Nat.le_refl _), Nat.sub_self] at hy
        simp at hy
        rw [List.getElem?_append_left (by omega)] at hx
        have hk0 : k ≠ 0 := by intro q0; subst q0; simp [fdR] at hi
        have hlast := fdR_last l (k - 1) (by omega)
        rw [Nat.sub_add_cancel (by omega), List.getLast?_eq_getElem?, ← hi, Nat.add_sub_cancel, hx] at hlast
        have := flg_yes h hk0
        rw [← hlast, List.getElem?_eq_getElem (by omega), hy, e] at this
        exact this rfl
    · have h' : flg l k = false := by simpa using h
      rw [(fd_no l k h').2]; exact ih
theorem fd_unq (l : List α) : UnQ (fdU l l.length) (l.length : Int) (fdR l l.length) := by
  have hU := fdU_len l l.length
  have hbeh : ∀ p, l.length ≤ p → plc (fdU l l.length) p = false := fun p hp => by rw [plc_fd l l.length (Nat.le_refl _)]; simp; omega
  refine ⟨by omega, ⟨by rw [hU, Int.toNat_natCast], ?_, fun p hp _ => hbeh p (by rw [Int.toNat_natCast] at hp; exact hp)⟩, ?_, fdR_tw l _ (Nat.le_refl _)⟩
  · by_cases h0 : l.length = 0
    · left; rw [Int.toNat_natCast]; exact h0
    · right; rw [plc_fd l l.length (Nat.le_refl _), flg_zero]; simp; omega
  · have := cnt_flat (fdU l l.length) l.length (32 * (fdU l l.length).length - l.length) (fun p a _ => hbeh p a)
    rw [show l.length + (32 * (fdU l l.length).length - l.length) = 32 * (fdU l l.length).length by omega, cnt_words] at this
    rw [this, fdR_cnt l _ (Nat.le_refl _)]
theorem fd_at (l : List α) (i : Nat) (hi : i < l.length) : (fdR l l.length)[cnt (fdU l l.length) (i + 1) - 1]? = l[i]? := by
  have h1 := fdR_last l i hi
  rw [List.getLast?_eq_getElem?, fdR_cnt l (i + 1) (by omega)] at h1
  obtain ⟨t, ht⟩ := fdR_pre l (i + 1) l.length (by omega)
  rw [← ht, List.getElem?_append_left]
  · exact h1
  · have := fdR_cnt l (i + 1) (by omega)
    have hz : 0 < (fdR l (i + 1)).length := by
      rw [List.getElem?_eq_getElem hi] at h1
      have := (List.getElem?_eq_some_iff.1 h1).1
      omega
    omega
theorem fd_un (l : List α) : unR (fdU l l.length) (fdR l l.length) l.length = l := by
  have hq := fd_unq l
  have hl := unR_len hq l.length (by rw [Int.toNat_natCast]; exact Nat.le_refl _)
  apply List.ext_getElem?
  intro i
  by_cases hi : i < l.length
  · have := unR_get hq i (by rw [Int.toNat_natCast]; exact hi)
    rw [Int.toNat_natCast] at this
    rw [this, fd_at l i hi]
  · rw [List.getElem?_eq_none (by omega), List.getElem?_eq_none (by omega)]
end
end Go.Proofs.YtbamogpbjdobkaaDoor
