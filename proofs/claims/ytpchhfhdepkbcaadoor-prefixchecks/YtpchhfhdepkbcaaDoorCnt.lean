/-
  What the calls of math/bits that count do.
-/
import Derived.Test.YtpchhfhdepkbcaaDoorFld
import Derived.Test.YtpchhfhdepkbcaaDoorNumP
namespace Go.Proofs.YtpchhfhdepkbcaaDoor
open Go.RowKit
set_option linter.unusedSimpArgs false
set_option linter.unusedVariables false

theorem len_sum (x y : Int) (k : Nat) (hx : 0 ≤ x) (hy : y = x / 2 ^ k) (h : 0 < y ∨ k = 0) : ((bitLen x.toNat : Nat) : Int) = k + bitLen y.toNat := by
  rcases h with h | h
  · have e : y.toNat = x.toNat / 2 ^ k := by
      rw [hy]
      obtain ⟨n, rfl⟩ := Int.eq_ofNat_of_zero_le hx
      have : ((n : Int) / 2 ^ k) = ((n / 2 ^ k : Nat) : Int) := by simp
      rw [this]; rfl
    have h2 : x.toNat / 2 ^ k ≠ 0 := by omega
    rw [bitLen_shift x.toNat k h2, e]; omega
  · subst h; simp at hy; subst hy; simp
theorem len_wrap (k : Int) (a : Nat) (ha : a ≤ 8) (h0 : 0 ≤ k) (h1 : k ≤ 56) : wrap64 (k + wrap64 (a : Int)) = k + a := by
  unfold wrap64; omega
theorem len_wrap0 (a : Nat) (ha : a ≤ 8) : wrap64 (wrap64 (a : Int)) = (a : Int) := by
  unfold wrap64; omega

set_option maxHeartbeats 1000000 in
set_option maxRecDepth 1000000 in
theorem len_0 (x : Int) (w : World) (h0 : 0 ≤ x) (h1 : x < 18446744073709551616) (a0 : ¬ 4294967296 ≤ x) (a1 : ¬ 65536 ≤ x) (a2 : ¬ 256 ≤ x) :
    Calls Tryd.prog 108 #[.int .u64 x] w fun e w' => e = .returned (.int .i64 ((bitLen x.toNat : Nat) : Int)) ∧ w' = w := by
  have hy : 0 ≤ x ∧ x < 256 := by omega
  have HF : Hid (((bitLen x.toNat : Nat) : Int) = 0 + bitLen (x).toNat) := len_sum x (x) 0 h0 (by omega) (by omega)
  go_enter Tryd.func108, Tryd.ntmps108
  go_wp2
  go_ret
  refine ⟨congrArg Ending.returned (congrArg (Value.int IntKind.i64) ?_), rfl⟩
  rw [HF.out, len8tab_get]
  rw [len_wrap0 _ (bitLen_le8 _ (by omega))]; omega
set_option maxHeartbeats 1000000 in
set_option maxRecDepth 1000000 in
theorem len_1 (x : Int) (w : World) (h0 : 0 ≤ x) (h1 : x < 18446744073709551616) (a0 : ¬ 4294967296 ≤ x) (a1 : ¬ 65536 ≤ x) (a2 : 256 ≤ x) :
    Calls Tryd.prog 108 #[.int .u64 x] w fun e w' => e = .returned (.int .i64 ((bitLen x.toNat : Nat) : Int)) ∧ w' = w := by
  have hy : 0 ≤ (x / 256) ∧ (x / 256) < 256 := by omega
  have HF : Hid (((bitLen x.toNat : Nat) : Int) = 8 + bitLen ((x / 256)).toNat) := len_sum x ((x / 256)) 8 h0 (by omega) (by omega)
  go_enter Tryd.func108, Tryd.ntmps108
  go_wp2
  go_ret
  refine ⟨congrArg Ending.returned (congrArg (Value.int IntKind.i64) ?_), rfl⟩
  rw [HF.out, len8tab_get]
  exact len_wrap 8 _ (bitLen_le8 _ (by omega)) (by omega) (by omega)
set_option maxHeartbeats 1000000 in
set_option maxRecDepth 1000000 in
theorem len_2 (x : Int) (w : World) (h0 : 0 ≤ x) (h1 : x < 18446744073709551616) (a0 : ¬ 4294967296 ≤ x) (a1 : 65536 ≤ x) (a2 : ¬ 256 ≤ (x / 65536)) :
    Calls Tryd.prog 108 #[.int .u64 x] w fun e w' => e = .returned (.int .i64 ((bitLen x.toNat : Nat) : Int)) ∧ w' = w := by
  have hy : 0 ≤ (x / 65536) ∧ (x / 65536) < 256 := by omega
  have HF : Hid (((bitLen x.toNat : Nat) : Int) = 16 + bitLen ((x / 65536)).toNat) := len_sum x ((x / 65536)) 16 h0 (by omega) (by omega)
  go_enter Tryd.func108, Tryd.ntmps108
  go_wp2
  go_ret
  refine ⟨congrArg Ending.returned (congrArg (Value.int IntKind.i64) ?_), rfl⟩
  rw [HF.out, len8tab_get]
  exact len_wrap 16 _ (bitLen_le8 _ (by omega)) (by omega) (by omega)
set_option maxHeartbeats 1000000 in
set_option maxRecDepth 1000000 in
theorem len_3 (x : Int) (w : World) (h0 : 0 ≤ x) (h1 : x < 18446744073709551616) (a0 : ¬ 4294967296 ≤ x) (a1 : 65536 ≤ x) (a2 : 256 ≤ (x / 65536)) :
    Calls Tryd.prog 108 #[.int .u64 x] w fun e w' => e = .returned (.int .i64 ((bitLen x.toNat : Nat) : Int)) ∧ w' = w := by
  have hy : 0 ≤ ((x / 65536) / 256) ∧ ((x / 65536) / 256) < 256 := by omega
  have HF : Hid (((bitLen x.toNat : Nat) : Int) = 24 + bitLen (((x / 65536) / 256)).toNat) := len_sum x (((x / 65536) / 256)) 24 h0 (by omega) (by omega)
  go_enter Tryd.func108, Tryd.ntmps108
  go_wp2
  go_ret
  refine ⟨congrArg Ending.returned (congrArg (Value.int IntKind.i64) ?_), rfl⟩
  rw [HF.out, len8tab_get]
  exact len_wrap 24 _ (bitLen_le8 _ (by omega)) (by omega) (by omega)
set_option maxHeartbeats 1000000 in
set_option maxRecDepth 1000000 in
theorem len_4 (x : Int) (w : World) (h0 : 0 ≤ x) (h1 : x < 18446744073709551616) (a0 : 4294967296 ≤ x) (a1 : ¬ 65536 ≤ (x / 4294967296)) (a2 : ¬ 256 ≤ (x / 4294967296)) :
    Calls Tryd.prog 108 #[.int .u64 x] w fun e w' => e = .returned (.int .i64 ((bitLen x.toNat : Nat) : Int)) ∧ w' = w := by
  have hy : 0 ≤ (x / 4294967296) ∧ (x / 4294967296) < 256 := by omega
  have HF : Hid (((bitLen x.toNat : Nat) : Int) = 32 + bitLen ((x / 4294967296)).toNat) := len_sum x ((x / 4294967296)) 32 h0 (by omega) (by omega)
  go_enter Tryd.func108, Tryd.ntmps108
  go_wp2
  go_ret
  refine ⟨congrArg Ending.returned (congrArg (Value.int IntKind.i64) ?_), rfl⟩
  rw [HF.out, len8tab_get]
  exact len_wrap 32 _ (bitLen_le8 _ (by omega)) (by omega) (by omega)
set_option maxHeartbeats 1000000 in
set_option maxRecDepth 1000000 in
theorem len_5 (x : Int) (w : World) (h0 : 0 ≤ x) (h1 : x < 18446744073709551616) (a0 : 4294967296 ≤ x) (a1 : ¬ 65536 ≤ (x / 4294967296)) (a2 : 256 ≤ (x / 4294967296)) :
    Calls Tryd.prog 108 #[.int .u64 x] w fun e w' => e = .returned (.int .i64 ((bitLen x.toNat : Nat) : Int)) ∧ w' = w := by
  have hy : 0 ≤ ((x / 4294967296) / 256) ∧ ((x / 4294967296) / 256) < 256 := by omega
  have HF : Hid (((bitLen x.toNat : Nat) : Int) = 40 + bitLen (((x / 4294967296) / 256)).toNat) := len_sum x (((x / 4294967296) / 256)) 40 h0 (by omega) (by omega)
  go_enter Tryd.func108, Tryd.ntmps108
  go_wp2
  go_ret
  refine ⟨congrArg Ending.returned (congrArg (Value.int IntKind.i64) ?_), rfl⟩
  rw [HF.out, len8tab_get]
  exact len_wrap 40 _ (bitLen_le8 _ (by omega)) (by omega) (by omega)
set_option maxHeartbeats 1000000 in
set_option maxRecDepth 1000000 in
theorem len_6 (x : Int) (w : World) (h0 : 0 ≤ x) (h1 : x < 18446744073709551616) (a0 : 4294967296 ≤ x) (a1 : 65536 ≤ (x / 4294967296)) (a2 : ¬ 256 ≤ ((x / 4294967296) / 65536)) :
    Calls Tryd.prog 108 #[.int .u64 x] w fun e w' => e = .returned (.int .i64 ((bitLen x.toNat : Nat) : Int)) ∧ w' = w := by
  have hy : 0 ≤ ((x / 4294967296) / 65536) ∧ ((x / 4294967296) / 65536) < 256 := by omega
  have HF : Hid (((bitLen x.toNat : Nat) : Int) = 48 + bitLen (((x / 4294967296) / 65536)).toNat) := len_sum x (((x / 4294967296) / 65536)) 48 h0 (by omega) (by omega)
  go_enter Tryd.func108, Tryd.ntmps108
  go_wp2
  go_ret
  refine ⟨congrArg Ending.returned (congrArg (Value.int IntKind.i64) ?_), rfl⟩
  rw [HF.out, len8tab_get]
  exact len_wrap 48 _ (bitLen_le8 _ (by omega)) (by omega) (by omega)
set_option maxHeartbeats 1000000 in
set_option maxRecDepth 1000000 in
theorem len_7 (x : Int) (w : World) (h0 : 0 ≤ x) (h1 : x < 18446744073709551616) (a0 : 4294967296 ≤ x) (a1 : 65536 ≤ (x / 4294967296)) (a2 : 256 ≤ ((x / 4294967296) / 65536)) :
    Calls Tryd.prog 108 #[.int .u64 x] w fun e w' => e = .returned (.int .i64 ((bitLen x.toNat : Nat) : Int)) ∧ w' = w := by
  have hy : 0 ≤ (((x / 4294967296) / 65536) / 256) ∧ (((x / 4294967296) / 65536) / 256) < 256 := by omega
  have HF : Hid (((bitLen x.toNat : Nat) : Int) = 56 + bitLen ((((x / 4294967296) / 65536) / 256)).toNat) := len_sum x ((((x / 4294967296) / 65536) / 256)) 56 h0 (by omega) (by omega)
  go_enter Tryd.func108, Tryd.ntmps108
  go_wp2
  go_ret
  refine ⟨congrArg Ending.returned (congrArg (Value.int IntKind.i64) ?_), rfl⟩
  rw [HF.out, len8tab_get]
  exact len_wrap 56 _ (bitLen_le8 _ (by omega)) (by omega) (by omega)
theorem len_any (x : Int) (w : World) (h0 : 0 ≤ x) (h1 : x < 18446744073709551616) :
    Calls Tryd.prog 108 #[.int .u64 x] w fun e w' => e = .returned (.int .i64 ((bitLen x.toNat : Nat) : Int)) ∧ w' = w := by
  by_cases a0 : 4294967296 ≤ x
  · by_cases a1 : 65536 ≤ (x / 4294967296)
    · by_cases a2 : 256 ≤ ((x / 4294967296) / 65536)
      · exact len_7 x w h0 h1 a0 a1 a2
      · exact len_6 x w h0 h1 a0 a1 a2
    · by_cases a2 : 256 ≤ (x / 4294967296)
      · exact len_5 x w h0 h1 a0 a1 a2
      · exact len_4 x w h0 h1 a0 a1 a2
  · by_cases a1 : 65536 ≤ x
    · by_cases a2 : 256 ≤ (x / 65536)
      · exact len_3 x w h0 h1 a0 a1 a2
      · exact len_2 x w h0 h1 a0 a1 a2
    · by_cases a2 : 256 ≤ x
      · exact len_1 x w h0 h1 a0 a1 a2
      · exact len_0 x w h0 h1 a0 a1 a2

theorem wrapu_nat (n : Nat) (h : n < 18446744073709551616) : IntKind.u64.wrap (n : Int) = (n : Int) := wrap_nat n h
theorem m85 : mm 85 8 = 6148914691236517205 := by decide
theorem m51 : mm 51 8 = 3689348814741910323 := by decide
theorem m15 : mm 15 8 = 1085102592571150095 := by decide
theorem bm_lt (f : Nat → Nat) (hf : ∀ b : Fin 256, f b.val < 256) (k : Nat) : ∀ x, bm f k x < 256 ^ k := by
  induction k with
  | zero => intro x; simp [bm]
  | succ k ih =>
    intro x; have := ih (x / 256); have h := hf ⟨x % 256, by omega⟩; simp only at h
    simp only [bm]; rw [Nat.pow_succ]; omega
theorem bm1_lt (x : Nat) : bm f1 8 x < 18446744073709551616 := bm_lt f1 (fun b => (b4 b).1) 8 x
theorem bm2_lt (x : Nat) : bm (fun b => f2 (f1 b)) 8 x < 4 * 256 ^ 8 / 8 := by
  have h : ∀ k x, bm (fun b => f2 (f1 b)) k x ≤ 68 * mm 1 k := by
    intro k; induction k with
    | zero => intro x; simp [bm, mm]
    | succ k ih =>
      intro x; have := ih (x / 256); have h1 := (b4 ⟨x % 256, by omega⟩).2.1; have h2 := (b4 ⟨x % 256, by omega⟩).2.2.1; simp only at h1 h2
      simp only [bm, mm]; omega
  have := h 8 x
  have e : mm 1 8 = 72340172838076673 := by decide
  rw [e] at this; omega
theorem s1 (x : Nat) (h : x < 18446744073709551616) : IntKind.u64.wrap (bits .and .u64 ((x : Int) / 2) 6148914691236517205 + bits .and .u64 (x : Int) 6148914691236517205) = ((bm f1 8 x : Nat) : Int) := by
  have e : ((x : Int) / 2) = ((x / 2 : Nat) : Int) := by omega
  have a1 : bits .and .u64 ((x / 2 : Nat) : Int) 6148914691236517205 = ((x / 2 &&& 6148914691236517205 : Nat) : Int) := bits_and_u64_nat (x / 2) 6148914691236517205 (by omega) (by decide)
  have a2 : bits .and .u64 (x : Int) 6148914691236517205 = ((x &&& 6148914691236517205 : Nat) : Int) := bits_and_u64_nat x 6148914691236517205 h (by decide)
  have l := l1 8 x
  rw [m85] at l
  rw [e, a1, a2, ← Int.natCast_add, l]
  exact wrapu_nat _ (bm1_lt x)
theorem s2 (x : Nat) : IntKind.u64.wrap (bits .and .u64 (((bm f1 8 x : Nat) : Int) / 4) 3689348814741910323 + bits .and .u64 ((bm f1 8 x : Nat) : Int) 3689348814741910323) = ((bm (fun b => f2 (f1 b)) 8 x : Nat) : Int) := by
  have h := bm1_lt x
  have e : (((bm f1 8 x : Nat) : Int) / 4) = ((bm f1 8 x / 4 : Nat) : Int) := by omega
  have a1 : bits .and .u64 ((bm f1 8 x / 4 : Nat) : Int) 3689348814741910323 = ((bm f1 8 x / 4 &&& 3689348814741910323 : Nat) : Int) := bits_and_u64_nat (bm f1 8 x / 4) 3689348814741910323 (by omega) (by decide)
  have a2 : bits .and .u64 ((bm f1 8 x : Nat) : Int) 3689348814741910323 = ((bm f1 8 x &&& 3689348814741910323 : Nat) : Int) := bits_and_u64_nat (bm f1 8 x) 3689348814741910323 h (by decide)
  have l := l2 8 (bm f1 8 x)
  rw [m51, bm_bm] at l
  rw [e, a1, a2, ← Int.natCast_add, l]
  have := bm2_lt x
  exact wrapu_nat _ (by omega)
theorem s3 (x : Nat) : bits .and .u64 (IntKind.u64.wrap (((bm (fun b => f2 (f1 b)) 8 x : Nat) : Int) / 16 + ((bm (fun b => f2 (f1 b)) 8 x : Nat) : Int))) 1085102592571150095 = ((bm ocB 8 x : Nat) : Int) := by
  have h := bm2_lt x
  have l := l3 8 x
  rw [m15] at l
  generalize bm (fun b => f2 (f1 b)) 8 x = y at *
  have e : ((y : Int) / 16 + (y : Int)) = ((y / 16 + y : Nat) : Int) := by omega
  have a1 : bits .and .u64 ((y / 16 + y : Nat) : Int) 1085102592571150095 = (((y / 16 + y) &&& 1085102592571150095 : Nat) : Int) := bits_and_u64_nat (y / 16 + y) 1085102592571150095 (by omega) (by decide)
  rw [e, wrapu_nat _ (by omega), a1, l]

theorem oc_end (z : Nat) (h : z < 9223372036854775808) : bits .and .i64 (z : Int) 127 = ((z % 128 : Nat) : Int) := by
  have e8 := bits_mask .i64 63 (by decide) (fun n a b => by rw [IntKind.wrap_i64]; omega) 7 (by decide) (z : Int) (by omega) (by omega)
  have e9 : bits .and .i64 (z : Int) 127 = (z : Int) % 128 := by simpa using e8
  rw [e9]; omega

end Go.Proofs.YtpchhfhdepkbcaaDoor
