/-
  What the call of turnpikeref2's groups does.
-/
import Derived.Test.YtpchhfhdepkbcaaDoorRefU
import Derived.Deep.Onto
namespace Go.Proofs.YtpchhfhdepkbcaaDoor
open Go.RowKit
set_option linter.unusedSimpArgs false
set_option linter.unusedVariables false

theorem dotG_bd : ∀ (l : List ByteArray) (v u : Int), 0 ≤ v → dotG l v = some u → 0 ≤ u ∧ u < (v + 1) * 256 ^ l.length := by
  intro l
  induction l with
  | nil => intro v u h e; simp [dotG] at e; subst e; simp; omega
  | cons p l ih =>
    intro v u h e
    unfold dotG at e
    split at e
    · cases e
    · have ob := octV_bd p
      have := ih (256 * v + octV p) u (by omega) e
      refine ⟨this.1, ?_⟩
      have h2 : (256 * v + octV p + 1) * 256 ^ l.length ≤ ((v + 1) * 256) * 256 ^ l.length := Int.mul_le_mul_of_nonneg_right (by omega) (Int.pow_nonneg (by omega))
      rw [List.length_cons, Int.pow_succ, Int.mul_comm (256 ^ l.length), ← Int.mul_assoc]
      omega
theorem dotO_bd (t : ByteArray) (u : Int) (h : dotO t = some u) : 0 ≤ u ∧ u < 4294967296 := by
  unfold dotO at h
  split at h
  · rename_i hl
    have := dotG_bd _ 0 u (by omega) h
    rw [hl] at this
    exact ⟨this.1, by have := this.2; simpa using this⟩
  · cases h
theorem and16 (v : Int) (h0 : 0 ≤ v) (h1 : v < 4294967296) : bits .and .u64 v 65535 = v % 65536 := by
  obtain ⟨n, rfl⟩ := Int.eq_ofNat_of_zero_le h0
  have e1 : (n : Int) = ((BitVec.ofNat 64 n).toNat : Int) := by simp [BitVec.toNat_ofNat]; omega
  have e2 : (65535 : Int) = ((BitVec.ofNat 64 65535).toNat : Int) := by decide
  rw [e1, e2, bits64and _ _ _ rfl, BitVec.toNat_and, BitVec.toNat_ofNat, BitVec.toNat_ofNat, Nat.mod_eq_of_lt (by omega), show 65535 % 2 ^ 64 = 2 ^ 16 - 1 by decide, Nat.and_two_pow_sub_one_eq_mod]
  rfl
/-- The groups of the pieces, behind those that are there. -/
def gsG (last : Bool) : List ByteArray → List Int → Option (List Int)
  | [], acc => some acc
  | q :: rest, acc =>
    if last = true ∧ rest = [] ∧ (dotO q).isSome = true then some (acc ++ [(dotO q).getD 0 / 65536, (dotO q).getD 0 % 65536])
    else if grV q < 0 then none else gsG last rest (acc ++ [grV q])
def gsO (t : ByteArray) (last : Bool) : Option (List Int) := if t.size = 0 then some [] else gsG last (spl t 58 t.size 0 0) []
def ints (l : List Int) : List Value := l.map (Value.int .i64)
theorem spl_len (t : ByteArray) (c : Int) : ∀ f p i, 1 ≤ (spl t c f p i).length ∧ (spl t c f p i).length ≤ f + 1 := by
  intro f
  induction f with
  | zero => intro p i; exact ⟨by show 1 ≤ 1; omega, by show 1 ≤ 1; omega⟩
  | succ f ih =>
    intro p i
    unfold spl
    split
    · have := ih (i + 1) (i + 1)
      simp only [List.length_cons]; omega
    · have := ih p (i + 1)
      omega
theorem Tryd.infoI : (Tryd.prog.info? 3).map (fun i => (i.zero, i.size, i.bytes)) = some (some (.int .i64 0), 1, 8) := by kernel_rfl
theorem oneI (n : Int) : ∀ u ∈ [Value.int .i64 n], u.oneCell' = true := by
  intro u hu; simp at hu; subst hu; rfl
theorem twoI (n m : Int) : ∀ u ∈ [Value.int .i64 n, Value.int .i64 m], u.oneCell' = true := by
  intro u hu; simp at hu; rcases hu with rfl | rfl <;> rfl
theorem newsT (W : World) (a b : Value) (t : TypeId) : ∀ j u, [a, b][j]? = some u → (W.alloc (.cells #[a, b] t)).cell? ((⟨W.heap.size, 0, none⟩ : Addr).add j) = some u := by
  intro j u hj
  match j, hj with
  | 0, hj => simp at hj; subst hj; simp [Addr.add, go_sem]
  | 1, hj => simp at hj; subst hj; simp [Addr.add, go_sem]

theorem empty_is (t : ByteArray) : t.toList.isEmpty = decide (t.size = 0) := by
  rw [Lib.toList_data, Lib.size_eq]
  cases t.data.toList <;> simp

end Go.Proofs.YtpchhfhdepkbcaaDoor
