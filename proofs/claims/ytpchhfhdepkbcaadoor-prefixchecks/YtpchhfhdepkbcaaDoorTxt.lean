/-
  What the calls of package word's digit and Parse do.
-/
import Derived.Test.YtpchhfhdepkbcaaDoorFld
import Derived.Test.YtpchhfhdepkbcaaDoorRefW2
namespace Go.Proofs.YtpchhfhdepkbcaaDoor
open Go.RowKit
set_option linter.unusedSimpArgs false
set_option linter.unusedVariables false

/-- Is the byte a digit of sixteen, and which number is it? -/
def digB (c : Int) : Bool := (decide (48 ≤ c) && decide (c ≤ 57)) || (decide (97 ≤ c) && decide (c ≤ 102))
def digV (c : Int) : Int := if 48 ≤ c ∧ c ≤ 57 then c - 48 else if 97 ≤ c ∧ c ≤ 102 then c - 87 else 0
theorem dig_ways (c : Int) : (c < 48 ∧ digB c = false ∧ digV c = 0) ∨ (48 ≤ c ∧ c ≤ 57 ∧ digB c = true ∧ digV c = c - 48) ∨ (57 < c ∧ c < 97 ∧ digB c = false ∧ digV c = 0) ∨ (97 ≤ c ∧ c ≤ 102 ∧ digB c = true ∧ digV c = c - 97 + 10) ∨ (102 < c ∧ digB c = false ∧ digV c = 0) := by
  unfold digB digV
  by_cases h1 : c < 48
  · left
    have a1 : ¬ 48 ≤ c := by omega
    have a2 : ¬ 97 ≤ c := by omega
    simp [a1, a2, h1]
  by_cases h2 : c ≤ 57
  · right; left
    have a1 : 48 ≤ c := by omega
    simp [a1, h2]
  by_cases h3 : c < 97
  · right; right; left
    have a2 : ¬ 97 ≤ c := by omega
    simp [h2, a2, h3]; omega
  by_cases h4 : c ≤ 102
  · right; right; right; left
    have a2 : 97 ≤ c := by omega
    simp [h2, a2, h4]; omega
  · right; right; right; right
    simp [h2, h4]; omega
theorem digV_bd (c : Int) : 0 ≤ digV c ∧ digV c ≤ 15 := by
  unfold digV; split
  · omega
  · split <;> omega

/-- The byte at place k, as a number (0 where there is none). -/
def byteAt (s : ByteArray) (k : Nat) : Int := if h : k < s.size then (s[k].toNat : Int) else 0
theorem byteAt_in (s : ByteArray) (k : Nat) (h : k < s.size) : (s[k].toNat : Int) = byteAt s k := by unfold byteAt; rw [dif_pos h]
theorem byteAt_bd (s : ByteArray) (k : Nat) : 0 ≤ byteAt s k ∧ byteAt s k ≤ 255 := by
  unfold byteAt; split
  · rename_i h; have := s[k].toNat_lt; omega
  · omega
/-- The word of the first k digits. -/
def pW (s : ByteArray) : Nat → BitVec 128
  | 0 => 0#128
  | k + 1 => (pW s k <<< 4) ||| mkW 0 (digV (byteAt s k))
def pAll (s : ByteArray) : Nat → Bool
  | 0 => true
  | k + 1 => pAll s k && digB (byteAt s k)

theorem pAll_le (s : ByteArray) : ∀ k m, k ≤ m → pAll s m = true → pAll s k = true := by
  intro k m h
  induction m with
  | zero => intro q; have : k = 0 := by omega
            subst this; exact q
  | succ m ih =>
    intro q
    by_cases e : k = m + 1
    · subst e; exact q
    · simp only [pAll, Bool.and_eq_true] at q
      exact ih (by omega) q.1
theorem orK (x : BitVec 128) (v : Int) (w : World) (h0 : 0 ≤ v) (h1 : v ≤ 15) :
    Calls Tryd.prog 64 #[.agg #[.int .u64 (hI x), .int .u64 (lI x)], .agg #[.int .u64 0, .int .u64 v]] w fun e w' => e = .returned (.agg #[.int .u64 (hI (x ||| mkW 0 v)), .int .u64 (lI (x ||| mkW 0 v))]) ∧ Below w.heap.size w w' := by
  have h := or_any x (mkW 0 v) w
  rw [show hI (mkW 0 v) = 0 from hI_mk 0 v (by omega) (by omega), show lI (mkW 0 v) = v from lI_mk 0 v (by omega) (by omega)] at h
  exact h
/-- What Parse tells of 32 signs. -/
def pOut (s : ByteArray) : BitVec 128 := if pAll s 32 = true then pW s 32 else 0#128
def pErr (s : ByteArray) : Int := if pAll s 32 = true then 0 else 12

end Go.Proofs.YtpchhfhdepkbcaaDoor
