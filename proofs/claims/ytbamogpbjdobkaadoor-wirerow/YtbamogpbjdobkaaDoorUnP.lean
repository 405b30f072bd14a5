/-
  Plain: which bitmap can be that of a row; a row unfolded.
-/
import Derived.Test.YtbamogpbjdobkaaDoorPopP
namespace Go.Proofs.YtbamogpbjdobkaaDoor
open Go.RowKit
set_option linter.unusedSimpArgs false
set_option linter.unusedVariables false

/-- A bitmap that can be that of a row of n elements. -/
def MapQ (U : List (BitVec 32)) (n : Nat) : Prop := U.length = (n + 31) / 32 ∧ (n = 0 ∨ plc U 0 = true) ∧ ∀ p, n ≤ p → p < 32 * U.length → plc U p = false
theorem shl_none (x : BitVec 32) (u : Nat) : x <<< u = 0#32 ↔ ∀ r, u ≤ r → r < 32 → bt x r = false := by
  constructor
  · intro h r h1 h2
    have this : (x <<< u).getLsbD (31 - r + u) = (0#32).getLsbD (31 - r + u) := by rw [h]
    rw [BitVec.getLsbD_shiftLeft] at this
    have c1 : 31 - r + u < 32 := by omega
    have c2 : ¬ 31 - r + u < u := by omega
    rw [decide_eq_true c1, decide_eq_false c2, show 31 - r + u - u = 31 - r by omega] at this
    unfold bt
    simpa using this
  · intro h
    apply BitVec.eq_of_getLsbD_eq
    intro i hi
    rw [BitVec.getLsbD_shiftLeft]
    by_cases c : i < u
    · simp [c]
    · have e := h (31 - (i - u)) (by omega) (by omega)
      unfold bt at e
      rw [show 31 - (31 - (i - u)) = i - u by omega] at e
      rw [e]; simp
theorem mapQ_last (U : List (BitVec 32)) (n : Nat) (h : U.length = (n + 31) / 32) (hn : 0 < n) : (∀ p, n ≤ p → p < 32 * U.length → plc U p = false) ↔ (n % 32 = 0 ∨ (U.getD (U.length - 1) 0#32) <<< (n % 32) = 0#32) := by
  by_cases c : n % 32 = 0
  · refine ⟨fun _ => .inl c, fun _ p h1 h2 => ?_⟩
    omega
  · rw [or_iff_right c, shl_none]
    constructor
    · intro hp r h1 h2
      have := hp (32 * (U.length - 1) + r) (by omega) (by omega)
      unfold plc at this
      rw [show (32 * (U.length - 1) + r) / 32 = U.length - 1 by omega, show (32 * (U.length - 1) + r) % 32 = r by omega] at this
      exact this
    · intro hr p h1 h2
      have := hr (p % 32) (by omega) (by omega)
      unfold plc
      rw [show p / 32 = U.length - 1 by omega]
      exact this
section
variable {α : Type}
/-- No two neighbours are equal. -/
def NoTw (L : List α) : Prop := ∀ i x y, L[i]? = some x → L[i + 1]? = some y → x ≠ y
/-- What Unfold takes. -/
def UnQ (U : List (BitVec 32)) (n : Int) (L : List α) : Prop := 0 ≤ n ∧ MapQ U n.toNat ∧ sumW U U.length = L.length ∧ NoTw L
/-- The row. -/
def unR (U : List (BitVec 32)) (L : List α) (n : Nat) : List α := (List.range n).filterMap fun i => L[cnt U (i + 1) - 1]?
theorem un_at {U : List (BitVec 32)} {n : Int} {L : List α} (h : UnQ U n L) (i : Nat) (hi : i < n.toNat) : 0 < cnt U (i + 1) ∧ cnt U (i + 1) ≤ L.length := by
  obtain ⟨-, ⟨h1, h2, h3⟩, h4, -⟩ := h
  have h0 : plc U 0 = true := by
    rcases h2 with h2 | h2
    · omega
    · exact h2
  have a1 := cnt_mono U 1 (i + 1) (by omega)
  have a2 := cnt_mono U (i + 1) (32 * U.length) (by omega)
  simp only [cnt, h0, Bool.toNat_true] at a1
  rw [cnt_words] at a2
  exact ⟨by have : cnt U (i + 1) = cnt U i + (plc U i).toNat := rfl
            omega, by omega⟩
theorem unR_succ (U : List (BitVec 32)) (L : List α) (k : Nat) : unR U L (k + 1) = unR U L k ++ L[cnt U (k + 1) - 1]?.toList := by
  unfold unR
  rw [List.range_succ, List.filterMap_append]
  cases h : L[cnt U (k + 1) - 1]? <;> simp [h]
theorem unR_len {U : List (BitVec 32)} {n : Int} {L : List α} (h : UnQ U n L) : ∀ k, k ≤ n.toNat → (unR U L k).length = k
  | 0, _ => rfl
  | k + 1, hk => by
    rw [unR_succ, List.length_append, unR_len h k (by omega)]
    obtain ⟨a, b⟩ := un_at h k (by omega)
    rw [List.getElem?_eq_getElem (by omega)]
    rfl
theorem unR_get {U : List (BitVec 32)} {n : Int} {L : List α} (h : UnQ U n L) (k : Nat) (hk : k < n.toNat) : (unR U L n.toNat)[k]? = L[cnt U (k + 1) - 1]? := by
  have key : ∀ m, k < m → m ≤ n.toNat → (unR U L m)[k]? = L[cnt U (k + 1) - 1]? := by
    intro m
    induction m with
    | zero => intro h1; omega
    | succ m ih =>
      intro h1 h2
      rw [unR_succ]
      by_cases c : k < m
      · rw [List.getElem?_append_left (by rw [unR_len h m (by omega)]; exact c)]
        exact ih c (by omega)
      · obtain rfl : k = m := by omega
        rw [List.getElem?_append_right (by rw [unR_len h k (by omega)]; exact Nat.le_refl _), unR_len h k (by omega), Nat.sub_self]
        obtain ⟨a, b⟩ := un_at h k (by omega)
        have hb : cnt U (k + 1) - 1 < L.length := by omega
        rw [List.getElem?_eq_getElem hb]
        rfl
  exact key n.toNat hk (Nat.le_refl _)
theorem noTw_iff (L : List α) : NoTw L ↔ ∀ i, i + 1 < L.length → L[i]? ≠ L[i + 1]? := by
  constructor
  · intro h i hi e
    have h1 : L[i]? = some (L[i]'(by omega)) := List.getElem?_eq_getElem _
    have h2 : L[i + 1]? = some (L[i + 1]'hi) := List.getElem?_eq_getElem _
    rw [h1, h2] at e
    exact h i _ _ h1 h2 (Option.some.inj e)
  · intro h i x y hx hy e
    have := (List.getElem?_eq_some_iff.1 hy).1
    exact h i this (by rw [hx, hy, e])
end
end Go.Proofs.YtbamogpbjdobkaaDoor
