/-
  What the calls of law 2's within and decimal do.
-/
import Derived.Test.YtpchhfhdepkbcaaDoorAdr6
import Derived.Laws.IdiomStrings
namespace Go.Proofs.YtpchhfhdepkbcaaDoor
open Go.RowKit
set_option linter.unusedSimpArgs false
set_option linter.unusedVariables false

theorem tmod_ways (a n : Int) (h : 0 < n) : (a.tmod n < 0 ∧ a.tmod n + n = a % n) ∨ (0 ≤ a.tmod n ∧ a.tmod n = a % n) := by
  by_cases h0 : 0 ≤ a
  · right
    have : a.tmod n = a % n := Int.tmod_eq_emod_of_nonneg h0
    exact ⟨by rw [this]; exact Int.emod_nonneg _ (by omega), this⟩
  · have e := Int.tmod_eq_emod (a := a) (b := n)
    have b1 := Int.emod_nonneg a (b := n) (by omega)
    have b2 := Int.emod_lt_of_pos a h
    split at e
    · right; omega
    · left
      have : (n.natAbs : Int) = n := by omega
      omega
/-- The digits of m, written ahead of t. -/
def decF : Nat → Nat → List UInt8 → List UInt8
  | 0, _, t => t
  | f + 1, m, t => if m = 0 ∧ ¬ t = [] then t else decF f (m / 10) (UInt8.ofNat (48 + m % 10) :: t)
def decL (n : Nat) : List UInt8 := decF 20 n []

theorem one_conv (w : World) (d : Nat) (h : d < 256) :
    (convert 83 9 (.slice (some ⟨w.heap.size, 0, none⟩) 1 1)).run Tryd.prog (w.alloc (.cells #[.int .u8 (d : Int)] 5)) = .ok (.string ⟨#[UInt8.ofNat d]⟩) (w.alloc (.cells #[.int .u8 (d : Int)] 5)) := by
  have := run_convert_bytes_back (P := Tryd.prog) (w.alloc (.cells #[.int .u8 (d : Int)] 5)) 83 9 5 ⟨w.heap.size, 0, none⟩ 1 [UInt8.ofNat d] Tryd.underlying83 Tryd.underlying5 Tryd.underlying9 (by
    intro j hj
    have : j = 0 := by simpa using hj
    subst this
    have e : (UInt8.ofNat d).toNat = d := by rw [UInt8.toNat_ofNat']; omega
    simp [go_sem, Addr.add, e])
  exact this
theorem cat_one (d : UInt8) (t : List UInt8) : ((⟨#[d]⟩ : ByteArray) ++ ⟨t.toArray⟩) = ⟨(d :: t).toArray⟩ := by
  apply ByteArray.ext
  simp
theorem decF_zero (f m : Nat) (t : List UInt8) (h : m = 0 ∧ ¬ t = []) : decF f m t = t := by
  cases f with
  | zero => rfl
  | succ f => exact if_pos h

theorem isEmpty_of (t : List UInt8) (S : ByteArray) (h : S = ⟨t.toArray⟩) : S.toList.isEmpty = t.isEmpty := by
  subst h
  rw [Lib.toList_data]
def sizeOf0 (b : Value) : Nat := match b with | .string s => if s.size = 0 then 1 else 0 | _ => 0

end Go.Proofs.YtpchhfhdepkbcaaDoor
