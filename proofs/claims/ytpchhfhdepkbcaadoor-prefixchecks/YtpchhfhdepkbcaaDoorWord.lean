/-
  What each call of package word's small functions does: the word that it tells, and that nothing that was there before has turned.
-/
import Derived.Test.YtpchhfhdepkbcaaDoorRows
import Derived.Test.YtpchhfhdepkbcaaDoorNum
namespace Go.Proofs.YtpchhfhdepkbcaaDoor
open Go.RowKit
set_option linter.unusedSimpArgs false
set_option linter.unusedVariables false

theorem bl1 (w : World) (o : Obj) : Below w.heap.size w (w.alloc o) := (Below.refl _ _).alloc (Nat.le_refl _) _
theorem bl2 (w : World) (o p : Obj) : Below w.heap.size w ((w.alloc o).alloc p) := (bl1 w o).alloc (by simp) _
theorem bl3 (w : World) (o p q : Obj) : Below w.heap.size w (((w.alloc o).alloc p).alloc q) := (bl2 w o p).alloc (by simp; omega) _

theorem and_any (x y : BitVec 128) (w : World) :
    Calls Tryd.prog 49 #[.agg #[.int .u64 (hI x), .int .u64 (lI x)], .agg #[.int .u64 (hI y), .int .u64 (lI y)]] w fun e w' => e = .returned (.agg #[.int .u64 (hI (x &&& y)), .int .u64 (lI (x &&& y))]) ∧ Below w.heap.size w w' := by
  go_enter Tryd.func49, Tryd.ntmps49
  go_wp2
  rw [and_h, and_l]
  exact bodyPost_ret (v := .agg #[.int .u64 (hI (x &&& y)), .int .u64 (lI (x &&& y))]) (by simp [results, Tryd.results49, go_sem]) rfl ⟨rfl, bl3 _ _ _ _⟩

theorem or_any (x y : BitVec 128) (w : World) :
    Calls Tryd.prog 64 #[.agg #[.int .u64 (hI x), .int .u64 (lI x)], .agg #[.int .u64 (hI y), .int .u64 (lI y)]] w fun e w' => e = .returned (.agg #[.int .u64 (hI (x ||| y)), .int .u64 (lI (x ||| y))]) ∧ Below w.heap.size w w' := by
  go_enter Tryd.func64, Tryd.ntmps64
  go_wp2
  rw [or_h, or_l]
  exact bodyPost_ret (v := .agg #[.int .u64 (hI (x ||| y)), .int .u64 (lI (x ||| y))]) (by simp [results, Tryd.results64, go_sem]) rfl ⟨rfl, bl3 _ _ _ _⟩

theorem xor_any (x y : BitVec 128) (w : World) :
    Calls Tryd.prog 62 #[.agg #[.int .u64 (hI x), .int .u64 (lI x)], .agg #[.int .u64 (hI y), .int .u64 (lI y)]] w fun e w' => e = .returned (.agg #[.int .u64 (hI (x ^^^ y)), .int .u64 (lI (x ^^^ y))]) ∧ Below w.heap.size w w' := by
  go_enter Tryd.func62, Tryd.ntmps62
  go_wp2
  rw [xor_h, xor_l]
  exact bodyPost_ret (v := .agg #[.int .u64 (hI (x ^^^ y)), .int .u64 (lI (x ^^^ y))]) (by simp [results, Tryd.results62, go_sem]) rfl ⟨rfl, bl3 _ _ _ _⟩

theorem not_any (x : BitVec 128) (w : World) :
    Calls Tryd.prog 89 #[.agg #[.int .u64 (hI x), .int .u64 (lI x)]] w fun e w' => e = .returned (.agg #[.int .u64 (hI (~~~x)), .int .u64 (lI (~~~x))]) ∧ Below w.heap.size w w' := by
  have hs : ¬ IntKind.u64.signed = true := by decide
  go_enter Tryd.func89, Tryd.ntmps89
  go_wp2
  rw [not_h, not_l]
  exact bodyPost_ret (v := .agg #[.int .u64 (hI (~~~x)), .int .u64 (lI (~~~x))]) (by simp [results, Tryd.results89, go_sem]) rfl ⟨rfl, bl2 _ _ _⟩

theorem shl_any (x : BitVec 128) (n : Int) (w : World) :
    Calls Tryd.prog 95 #[.agg #[.int .u64 (hI x), .int .u64 (lI x)], .int .i64 n] w fun e w' => e = .returned (.agg #[.int .u64 (hI (x <<< n.toNat)), .int .u64 (lI (x <<< n.toNat))]) ∧ Below w.heap.size w w' := by
  by_cases h0 : n ≤ 0
  · have e : x <<< n.toNat = x := by rw [Int.toNat_eq_zero.mpr h0]; simp
    rw [e]
    go_enter Tryd.func95, Tryd.ntmps95
    go_wp2
    exact bodyPost_ret (v := .agg #[.int .u64 (hI x), .int .u64 (lI x)]) (by simp [results, Tryd.results95, go_sem]) rfl ⟨rfl, bl2 _ _ _⟩
  by_cases h1 : 128 ≤ n
  · rw [shl_0 x n.toNat (by omega), hI_zero, lI_zero]
    go_enter Tryd.func95, Tryd.ntmps95
    go_wp2
    exact bodyPost_ret (v := .agg #[.int .u64 0, .int .u64 0]) (by simp [results, Tryd.results95, go_sem]) rfl ⟨rfl, bl2 _ _ _⟩
  by_cases h2 : 64 ≤ n
  · have e : (n - 64).toNat = n.toNat - 64 := by omega
    rw [← shl_h2 x n.toNat (by omega) (by omega), shl_l2 x n.toNat (by omega), ← e]
    clear e
    go_enter Tryd.func95, Tryd.ntmps95
    go_wp2
    exact bodyPost_ret (v := .agg #[.int .u64 (IntKind.u64.wrap (lI x * 2 ^ (n - 64).toNat)), .int .u64 0]) (by simp [results, Tryd.results95, go_sem]) rfl ⟨rfl, bl2 _ _ _⟩
  · have e : (64 - n).toNat = 64 - n.toNat := by omega
    rw [← shl_h x n.toNat (by omega), ← shl_l x n.toNat, ← e]
    clear e
    go_enter Tryd.func95, Tryd.ntmps95
    go_wp2
    go_region
    all_goals go_wp2
    all_goals exact bodyPost_ret (v := .agg #[.int .u64 (bits .or .u64 (IntKind.u64.wrap (hI x * 2 ^ n.toNat)) (lI x / 2 ^ (64 - n).toNat)), .int .u64 (IntKind.u64.wrap (lI x * 2 ^ n.toNat))]) (by simp [results, Tryd.results95, go_sem]) rfl ⟨rfl, (bl2 _ _ _).drew⟩

theorem shr_any (x : BitVec 128) (n : Int) (w : World) :
    Calls Tryd.prog 90 #[.agg #[.int .u64 (hI x), .int .u64 (lI x)], .int .i64 n] w fun e w' => e = .returned (.agg #[.int .u64 (hI (x >>> n.toNat)), .int .u64 (lI (x >>> n.toNat))]) ∧ Below w.heap.size w w' := by
  by_cases h0 : n ≤ 0
  · have e : x >>> n.toNat = x := by rw [Int.toNat_eq_zero.mpr h0]; simp
    rw [e]
    go_enter Tryd.func90, Tryd.ntmps90
    go_wp2
    exact bodyPost_ret (v := .agg #[.int .u64 (hI x), .int .u64 (lI x)]) (by simp [results, Tryd.results90, go_sem]) rfl ⟨rfl, bl2 _ _ _⟩
  by_cases h1 : 128 ≤ n
  · rw [shr_0 x n.toNat (by omega), hI_zero, lI_zero]
    go_enter Tryd.func90, Tryd.ntmps90
    go_wp2
    exact bodyPost_ret (v := .agg #[.int .u64 0, .int .u64 0]) (by simp [results, Tryd.results90, go_sem]) rfl ⟨rfl, bl2 _ _ _⟩
  by_cases h2 : 64 ≤ n
  · have e : (n - 64).toNat = n.toNat - 64 := by omega
    rw [← shr_l2 x n.toNat (by omega), shr_h2 x n.toNat (by omega), ← e]
    clear e
    go_enter Tryd.func90, Tryd.ntmps90
    go_wp2
    exact bodyPost_ret (v := .agg #[.int .u64 0, .int .u64 (hI x / 2 ^ (n - 64).toNat)]) (by simp [results, Tryd.results90, go_sem]) rfl ⟨rfl, bl2 _ _ _⟩
  · have e : (64 - n).toNat = 64 - n.toNat := by omega
    rw [← shr_l x n.toNat (by omega), ← shr_h x n.toNat, ← e]
    clear e
    go_enter Tryd.func90, Tryd.ntmps90
    go_wp2
    go_region
    all_goals go_wp2
    all_goals exact bodyPost_ret (v := .agg #[.int .u64 (hI x / 2 ^ n.toNat), .int .u64 (bits .or .u64 (lI x / 2 ^ n.toNat) (IntKind.u64.wrap (hI x * 2 ^ (64 - n).toNat)))]) (by simp [results, Tryd.results90, go_sem]) rfl ⟨rfl, (bl2 _ _ _).drew⟩
end Go.Proofs.YtpchhfhdepkbcaaDoor
