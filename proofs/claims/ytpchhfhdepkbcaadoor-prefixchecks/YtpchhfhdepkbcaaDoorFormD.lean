/-
  What the calls of turnpikelaw2's digits and octets do.
-/
import Derived.Test.YtpchhfhdepkbcaaDoorRefH
namespace Go.Proofs.YtpchhfhdepkbcaaDoor
open Go.RowKit
set_option linter.unusedSimpArgs false
set_option linter.unusedVariables false

/-- A digit of sixteen, great or small. -/
def digD (u : Bool) (d : Nat) : UInt8 := if d < 10 then UInt8.ofNat (48 + d) else if u then UInt8.ofNat (55 + d) else UInt8.ofNat (87 + d)
theorem digD_cut0 (d : Nat) (h : d < 16) : (⟨#[48, 49, 50, 51, 52, 53, 54, 55, 56, 57, 97, 98, 99, 100, 101, 102]⟩ : ByteArray).extract d (d + 1) = ⟨#[digD false d]⟩ := by
  have key : ∀ d, d < 16 → (⟨#[48, 49, 50, 51, 52, 53, 54, 55, 56, 57, 97, 98, 99, 100, 101, 102]⟩ : ByteArray).extract d (d + 1) = ⟨#[digD false d]⟩ := by decide +kernel
  exact key d h
theorem digD_cut1 (d : Nat) (h : d < 16) : (⟨#[48, 49, 50, 51, 52, 53, 54, 55, 56, 57, 65, 66, 67, 68, 69, 70]⟩ : ByteArray).extract d (d + 1) = ⟨#[digD true d]⟩ := by
  have key : ∀ d, d < 16 → (⟨#[48, 49, 50, 51, 52, 53, 54, 55, 56, 57, 65, 66, 67, 68, 69, 70]⟩ : ByteArray).extract d (d + 1) = ⟨#[digD true d]⟩ := by decide +kernel
  exact key d h
/-- The digits of m by sixteen, so many at least, written ahead of t. -/
def digF (u : Bool) (e : Nat) : Nat → Nat → List UInt8 → List UInt8
  | 0, _, t => t
  | f + 1, m, t => if m = 0 ∧ e ≤ t.length then t else digF u e f (m / 16) (digD u (m % 16) :: t)
def digL (u : Bool) (e n : Nat) : List UInt8 := digF u e 4 n []
theorem digF_zero (u : Bool) (e f m : Nat) (t : List UInt8) (h : m = 0 ∧ e ≤ t.length) : digF u e f m t = t := by
  cases f with
  | zero => rfl
  | succ f => exact if_pos h
theorem digF_len (u : Bool) (e : Nat) (he : e ≤ 4) : ∀ f m (t : List UInt8), t.length + f = 4 → m < 16 ^ f → e ≤ (digF u e f m t).length ∧ (digF u e f m t).length ≤ 4 := by
  intro f
  induction f with
  | zero => intro m t h hm; show e ≤ t.length ∧ t.length ≤ 4; omega
  | succ f ih =>
    intro m t h hm
    by_cases hz : m = 0 ∧ e ≤ t.length
    · rw [digF_zero _ _ _ _ _ hz]; omega
    · rw [show digF u e (f + 1) m t = digF u e f (m / 16) (digD u (m % 16) :: t) from if_neg hz]
      rw [Nat.pow_succ] at hm
      exact ih _ _ (by simp; omega) (by omega)
theorem digL_len (u : Bool) (e n : Nat) (he : e ≤ 4) (h : n < 65536) : e ≤ (digL u e n).length ∧ (digL u e n).length ≤ 4 := digF_len u e he 4 n [] rfl h

def strLen (b : Value) : Nat := match b with | .string s => s.size | _ => 0
theorem isEm (t : ByteArray) : t.toList.isEmpty = decide (t.size = 0) := by
  rw [isEmpty_of t.data.toList t rfl]
  cases h : t.data.toList with
  | nil => 
    have : t.size = 0 := by rw [← ByteArray.size_data, ← Array.length_toList, h]; rfl
    simp [this]
  | cons a l =>
    have : t.size = l.length + 1 := by rw [← ByteArray.size_data, ← Array.length_toList, h]; rfl
    simp [this]

end Go.Proofs.YtpchhfhdepkbcaaDoor
