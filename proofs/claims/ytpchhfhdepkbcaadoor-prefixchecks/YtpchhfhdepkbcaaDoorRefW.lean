/-
  What each call of the small functions of turnpikeref1 does that are like those of package word.
-/
import Derived.Test.YtpchhfhdepkbcaaDoorWord
namespace Go.Proofs.YtpchhfhdepkbcaaDoor
open Go.RowKit
set_option linter.unusedSimpArgs false
set_option linter.unusedVariables false

theorem rand_any (x y : BitVec 128) (w : World) :
    Calls Tryd.prog 15 #[.agg #[.int .u64 (hI x), .int .u64 (lI x)], .agg #[.int .u64 (hI y), .int .u64 (lI y)]] w fun e w' => e = .returned (.agg #[.int .u64 (hI (x &&& y)), .int .u64 (lI (x &&& y))]) ∧ Below w.heap.size w w' := by
  go_enter Tryd.func15, Tryd.ntmps15
  go_wp2
  rw [and_h, and_l]
  exact bodyPost_ret (v := .agg #[.int .u64 (hI (x &&& y)), .int .u64 (lI (x &&& y))]) (by simp [results, Tryd.results15, go_sem]) rfl ⟨rfl, bl3 _ _ _ _⟩

theorem ror_any (x y : BitVec 128) (w : World) :
    Calls Tryd.prog 65 #[.agg #[.int .u64 (hI x), .int .u64 (lI x)], .agg #[.int .u64 (hI y), .int .u64 (lI y)]] w fun e w' => e = .returned (.agg #[.int .u64 (hI (x ||| y)), .int .u64 (lI (x ||| y))]) ∧ Below w.heap.size w w' := by
  go_enter Tryd.func65, Tryd.ntmps65
  go_wp2
  rw [or_h, or_l]
  exact bodyPost_ret (v := .agg #[.int .u64 (hI (x ||| y)), .int .u64 (lI (x ||| y))]) (by simp [results, Tryd.results65, go_sem]) rfl ⟨rfl, bl3 _ _ _ _⟩

theorem rnot_any (x : BitVec 128) (w : World) :
    Calls Tryd.prog 51 #[.agg #[.int .u64 (hI x), .int .u64 (lI x)]] w fun e w' => e = .returned (.agg #[.int .u64 (hI (~~~x)), .int .u64 (lI (~~~x))]) ∧ Below w.heap.size w w' := by
  have hs : ¬ IntKind.u64.signed = true := by decide
  go_enter Tryd.func51, Tryd.ntmps51
  go_wp2
  rw [not_h, not_l]
  exact bodyPost_ret (v := .agg #[.int .u64 (hI (~~~x)), .int .u64 (lI (~~~x))]) (by simp [results, Tryd.results51, go_sem]) rfl ⟨rfl, bl2 _ _ _⟩

theorem rshl_any (x : BitVec 128) (n : Int) (w : World) :
    Calls Tryd.prog 78 #[.agg #[.int .u64 (hI x), .int .u64 (lI x)], .int .i64 n] w fun e w' => e = .returned (.agg #[.int .u64 (hI (x <<< n.toNat)), .int .u64 (lI (x <<< n.toNat))]) ∧ Below w.heap.size w w' := by
  by_cases h0 : n ≤ 0
  · have e : x <<< n.toNat = x := by rw [Int.toNat_eq_zero.mpr h0]; simp
    rw [e]
    go_enter Tryd.func78, Tryd.ntmps78
    go_wp2
    exact bodyPost_ret (v := .agg #[.int .u64 (hI x), .int .u64 (lI x)]) (by simp [results, Tryd.results78, go_sem]) rfl ⟨rfl, bl2 _ _ _⟩
  by_cases h1 : 128 ≤ n
  · rw [shl_0 x n.toNat (by omega), hI_zero, lI_zero]
    go_enter Tryd.func78, Tryd.ntmps78
    go_wp2
    exact bodyPost_ret (v := .agg #[.int .u64 0, .int .u64 0]) (by simp [results, Tryd.results78, go_sem]) rfl ⟨rfl, bl2 _ _ _⟩
  by_cases h2 : 64 ≤ n
  · have e : (n - 64).toNat = n.toNat - 64 := by omega
    rw [← shl_h2 x n.toNat (by omega) (by omega), shl_l2 x n.toNat (by omega), ← e]
    clear e
    go_enter Tryd.func78, Tryd.ntmps78
    go_wp2
    exact bodyPost_ret (v := .agg #[.int .u64 (IntKind.u64.wrap (lI x * 2 ^ (n - 64).toNat)), .int .u64 0]) (by simp [results, Tryd.results78, go_sem]) rfl ⟨rfl, bl2 _ _ _⟩
  · have e : (64 - n).toNat = 64 - n.toNat := by omega
    rw [← shl_h x n.toNat (by omega), ← shl_l x n.toNat, ← e]
    clear e
    go_enter Tryd.func78, Tryd.ntmps78
    go_wp2
    go_region
    all_goals go_wp2
    all_goals exact bodyPost_ret (v := .agg #[.int .u64 (bits .or .u64 (IntKind.u64.wrap (hI x * 2 ^ n.toNat)) (lI x / 2 ^ (64 - n).toNat)), .int .u64 (IntKind.u64.wrap (lI x * 2 ^ n.toNat))]) (by simp [results, Tryd.results78, go_sem]) rfl ⟨rfl, (bl2 _ _ _).drew⟩

theorem rshr_any (x : BitVec 128) (n : Int) (w : World) :
    Calls Tryd.prog 77 #[.agg #[.int .u64 (hI x), .int .u64 (lI x)], .int .i64 n] w fun e w' => e = .returned (.agg #[.int .u64 (hI (x >>> n.toNat)), .int .u64 (lI (x >>> n.toNat))]) ∧ Below w.heap.size w w' := by
  by_cases h0 : n ≤ 0
  · have e : x >>> n.toNat = x := by rw [Int.toNat_eq_zero.mpr h0]; simp
    rw [e]
    go_enter Tryd.func77, Tryd.ntmps77
    go_wp2
    exact bodyPost_ret (v := .agg #[.int .u64 (hI x), .int .u64 (lI x)]) (by simp [results, Tryd.results77, go_sem]) rfl ⟨rfl, bl2 _ _ _⟩
  by_cases h1 : 128 ≤ n
  · rw [shr_0 x n.toNat (by omega), hI_zero, lI_zero]
    go_enter Tryd.func77, Tryd.ntmps77
    go_wp2
    exact bodyPost_ret (v := .agg #[.int .u64 0, .int .u64 0]) (by simp [results, Tryd.results77, go_sem]) rfl ⟨rfl, bl2 _ _ _⟩
  by_cases h2 : 64 ≤ n
  · have e : (n - 64).toNat = n.toNat - 64 := by omega
    rw [← shr_l2 x n.toNat (by omega), shr_h2 x n.toNat (by omega), ← e]
    clear e
    go_enter Tryd.func77, Tryd.ntmps77
    go_wp2
    exact bodyPost_ret (v := .agg #[.int .u64 0, .int .u64 (hI x / 2 ^ (n - 64).toNat)]) (by simp [results, Tryd.results77, go_sem]) rfl ⟨rfl, bl2 _ _ _⟩
  · have e : (64 - n).toNat = 64 - n.toNat := by omega
    rw [← shr_l x n.toNat (by omega), ← shr_h x n.toNat, ← e]
    clear e
    go_enter Tryd.func77, Tryd.ntmps77
    go_wp2
    go_region
    all_goals go_wp2
    all_goals exact bodyPost_ret (v := .agg #[.int .u64 (hI x / 2 ^ n.toNat), .int .u64 (bits .or .u64 (lI x / 2 ^ n.toNat) (IntKind.u64.wrap (hI x * 2 ^ (64 - n).toNat)))]) (by simp [results, Tryd.results77, go_sem]) rfl ⟨rfl, (bl2 _ _ _).drew⟩
end Go.Proofs.YtpchhfhdepkbcaaDoor
