/-
  Part 6 of the proof: 11 texts, one behind the other.
-/
import Derived.Test.YtpiicdpipjjenaaGreatDoorPart1
import Derived.Test.YtpiicdpipjjenaaGreatDoorPart5
import Derived.Test.YtpiicdpipjjenaaGreatDoorPart3
import Derived.Test.YtpiicdpipjjenaaGreatDoorPart2
namespace Go.Proofs.YtpiicdpipjjenaaGreatDoor
open Go.RowKit
set_option linter.unusedSimpArgs false
set_option linter.unusedVariables false

theorem len_sum (x y : Int) (k : Nat) (hx : 0 ≤ x) (hy : y = x / 2 ^ k) (h : 0 < y ∨ k = 0) : ((bitLen x.toNat : Nat) : Int) = k + bitLen y.toNat := by
  rcases h with h | h
  · have e : y.toNat = x.toNat / 2 ^ k := by
      rw [hy]
      obtain ⟨n, rfl⟩ := Int.eq_ofNat_of_zero_le hx
      have : ((n : Int) / 2 ^ k) = ((n / 2 ^ k : Nat) : Int) := by simp
      rw [this]; rfl
    have h2 : x.toNat / 2 ^ k ≠ 0 := by omega
    rw [bitLen_shift x.toNat k h2, e]; omega
  · subst h; simp at hy; subst hy; simp
theorem len_wrap (k : Int) (a : Nat) (ha : a ≤ 8) (h0 : 0 ≤ k) (h1 : k ≤ 56) : wrap64 (k + wrap64 (a : Int)) = k + a := by
  unfold wrap64; omega
theorem len_wrap0 (a : Nat) (ha : a ≤ 8) : wrap64 (wrap64 (a : Int)) = (a : Int) := by
  unfold wrap64; omega

set_option maxHeartbeats 1000000 in
set_option maxRecDepth 1000000 in
theorem len_0 (x : Int) (w : World) (h0 : 0 ≤ x) (h1 : x < 18446744073709551616) (a0 : ¬ 4294967296 ≤ x) (a1 : ¬ 65536 ≤ x) (a2 : ¬ 256 ≤ x) :
    Calls Tryz.prog 107 #[.int .u64 x] w fun e w' => e = .returned (.int .i64 ((bitLen x.toNat : Nat) : Int)) ∧ w' = w := by
  have hy : 0 ≤ x ∧ x < 256 := by omega
  have HF : Hid (((bitLen x.toNat : Nat) : Int) = 0 + bitLen (x).toNat) := len_sum x (x) 0 h0 (by omega) (by omega)
  go_enter Tryz.func107, Tryz.ntmps107
  go_wp2
  go_ret
  refine ⟨congrArg Ending.returned (congrArg (Value.int IntKind.i64) ?_), rfl⟩
  rw [HF.out, len8tab_get]
  rw [len_wrap0 _ (bitLen_le8 _ (by omega))]; omega
set_option maxHeartbeats 1000000 in
set_option maxRecDepth 1000000 in
theorem len_1 (x : Int) (w : World) (h0 : 0 ≤ x) (h1 : x < 18446744073709551616) (a0 : ¬ 4294967296 ≤ x) (a1 : ¬ 65536 ≤ x) (a2 : 256 ≤ x) :
    Calls Tryz.prog 107 #[.int .u64 x] w fun e w' => e = .returned (.int .i64 ((bitLen x.toNat : Nat) : Int)) ∧ w' = w := by
  have hy : 0 ≤ (x / 256) ∧ (x / 256) < 256 := by omega
  have HF : Hid (((bitLen x.toNat : Nat) : Int) = 8 + bitLen ((x / 256)).toNat) := len_sum x ((x / 256)) 8 h0 (by omega) (by omega)
  go_enter Tryz.func107, Tryz.ntmps107
  go_wp2
  go_ret
  refine ⟨congrArg Ending.returned (congrArg (Value.int IntKind.i64) ?_), rfl⟩
  rw [HF.out, len8tab_get]
  exact len_wrap 8 _ (bitLen_le8 _ (by omega)) (by omega) (by omega)
set_option maxHeartbeats 1000000 in
set_option maxRecDepth 1000000 in
theorem len_2 (x : Int) (w : World) (h0 : 0 ≤ x) (h1 : x < 18446744073709551616) (a0 : ¬ 4294967296 ≤ x) (a1 : 65536 ≤ x) (a2 : ¬ 256 ≤ (x / 65536)) :
    Calls Tryz.prog 107 #[.int .u64 x] w fun e w' => e = .returned (.int .i64 ((bitLen x.toNat : Nat) : Int)) ∧ w' = w := by
  have hy : 0 ≤ (x / 65536) ∧ (x / 65536) < 256 := by omega
  have HF : Hid (((bitLen x.toNat : Nat) : Int) = 16 + bitLen ((x / 65536)).toNat) := len_sum x ((x / 65536)) 16 h0 (by omega) (by omega)
  go_enter Tryz.func107, Tryz.ntmps107
  go_wp2
  go_ret
  refine ⟨congrArg Ending.returned (congrArg (Value.int IntKind.i64) ?_), rfl⟩
  rw [HF.out, len8tab_get]
  exact len_wrap 16 _ (bitLen_le8 _ (by omega)) (by omega) (by omega)
set_option maxHeartbeats 1000000 in
set_option maxRecDepth 1000000 in
theorem len_3 (x : Int) (w : World) (h0 : 0 ≤ x) (h1 : x < 18446744073709551616) (a0 : ¬ 4294967296 ≤ x) (a1 : 65536 ≤ x) (a2 : 256 ≤ (x / 65536)) :
    Calls Tryz.prog 107 #[.int .u64 x] w fun e w' => e = .returned (.int .i64 ((bitLen x.toNat : Nat) : Int)) ∧ w' = w := by
  have hy : 0 ≤ ((x / 65536) / 256) ∧ ((x / 65536) / 256) < 256 := by omega
  have HF : Hid (((bitLen x.toNat : Nat) : Int) = 24 + bitLen (((x / 65536) / 256)).toNat) := len_sum x (((x / 65536) / 256)) 24 h0 (by omega) (by omega)
  go_enter Tryz.func107, Tryz.ntmps107
  go_wp2
  go_ret
  refine ⟨congrArg Ending.returned (congrArg (Value.int IntKind.i64) ?_), rfl⟩
  rw [HF.out, len8tab_get]
  exact len_wrap 24 _ (bitLen_le8 _ (by omega)) (by omega) (by omega)
set_option maxHeartbeats 1000000 in
set_option maxRecDepth 1000000 in
theorem len_4 (x : Int) (w : World) (h0 : 0 ≤ x) (h1 : x < 18446744073709551616) (a0 : 4294967296 ≤ x) (a1 : ¬ 65536 ≤ (x / 4294967296)) (a2 : ¬ 256 ≤ (x / 4294967296)) :
    Calls Tryz.prog 107 #[.int .u64 x] w fun e w' => e = .returned (.int .i64 ((bitLen x.toNat : Nat) : Int)) ∧ w' = w := by
  have hy : 0 ≤ (x / 4294967296) ∧ (x / 4294967296) < 256 := by omega
  have HF : Hid (((bitLen x.toNat : Nat) : Int) = 32 + bitLen ((x / 4294967296)).toNat) := len_sum x ((x / 4294967296)) 32 h0 (by omega) (by omega)
  go_enter Tryz.func107, Tryz.ntmps107
  go_wp2
  go_ret
  refine ⟨congrArg Ending.returned (congrArg (Value.int IntKind.i64) ?_), rfl⟩
  rw [HF.out, len8tab_get]
  exact len_wrap 32 _ (bitLen_le8 _ (by omega)) (by omega) (by omega)
set_option maxHeartbeats 1000000 in
set_option maxRecDepth 1000000 in
theorem len_5 (x : Int) (w : World) (h0 : 0 ≤ x) (h1 : x < 18446744073709551616) (a0 : 4294967296 ≤ x) (a1 : ¬ 65536 ≤ (x / 4294967296)) (a2 : 256 ≤ (x / 4294967296)) :
    Calls Tryz.prog 107 #[.int .u64 x] w fun e w' => e = .returned (.int .i64 ((bitLen x.toNat : Nat) : Int)) ∧ w' = w := by
  have hy : 0 ≤ ((x / 4294967296) / 256) ∧ ((x / 4294967296) / 256) < 256 := by omega
  have HF : Hid (((bitLen x.toNat : Nat) : Int) = 40 + bitLen (((x / 4294967296) / 256)).toNat) := len_sum x (((x / 4294967296) / 256)) 40 h0 (by omega) (by omega)
  go_enter Tryz.func107, Tryz.ntmps107
  go_wp2
  go_ret
  refine ⟨congrArg Ending.returned (congrArg (Value.int IntKind.i64) ?_), rfl⟩
  rw [HF.out, len8tab_get]
  exact len_wrap 40 _ (bitLen_le8 _ (by omega)) (by omega) (by omega)
set_option maxHeartbeats 1000000 in
set_option maxRecDepth 1000000 in
theorem len_6 (x : Int) (w : World) (h0 : 0 ≤ x) (h1 : x < 18446744073709551616) (a0 : 4294967296 ≤ x) (a1 : 65536 ≤ (x / 4294967296)) (a2 : ¬ 256 ≤ ((x / 4294967296) / 65536)) :
    Calls Tryz.prog 107 #[.int .u64 x] w fun e w' => e = .returned (.int .i64 ((bitLen x.toNat : Nat) : Int)) ∧ w' = w := by
  have hy : 0 ≤ ((x / 4294967296) / 65536) ∧ ((x / 4294967296) / 65536) < 256 := by omega
  have HF : Hid (((bitLen x.toNat : Nat) : Int) = 48 + bitLen (((x / 4294967296) / 65536)).toNat) := len_sum x (((x / 4294967296) / 65536)) 48 h0 (by omega) (by omega)
  go_enter Tryz.func107, Tryz.ntmps107
  go_wp2
  go_ret
  refine ⟨congrArg Ending.returned (congrArg (Value.int IntKind.i64) ?_), rfl⟩
  rw [HF.out, len8tab_get]
  exact len_wrap 48 _ (bitLen_le8 _ (by omega)) (by omega) (by omega)
set_option maxHeartbeats 1000000 in
set_option maxRecDepth 1000000 in
theorem len_7 (x : Int) (w : World) (h0 : 0 ≤ x) (h1 : x < 18446744073709551616) (a0 : 4294967296 ≤ x) (a1 : 65536 ≤ (x / 4294967296)) (a2 : 256 ≤ ((x / 4294967296) / 65536)) :
    Calls Tryz.prog 107 #[.int .u64 x] w fun e w' => e = .returned (.int .i64 ((bitLen x.toNat : Nat) : Int)) ∧ w' = w := by
  have hy : 0 ≤ (((x / 4294967296) / 65536) / 256) ∧ (((x / 4294967296) / 65536) / 256) < 256 := by omega
  have HF : Hid (((bitLen x.toNat : Nat) : Int) = 56 + bitLen ((((x / 4294967296) / 65536) / 256)).toNat) := len_sum x ((((x / 4294967296) / 65536) / 256)) 56 h0 (by omega) (by omega)
  go_enter Tryz.func107, Tryz.ntmps107
  go_wp2
  go_ret
  refine ⟨congrArg Ending.returned (congrArg (Value.int IntKind.i64) ?_), rfl⟩
  rw [HF.out, len8tab_get]
  exact len_wrap 56 _ (bitLen_le8 _ (by omega)) (by omega) (by omega)
theorem len_any (x : Int) (w : World) (h0 : 0 ≤ x) (h1 : x < 18446744073709551616) :
    Calls Tryz.prog 107 #[.int .u64 x] w fun e w' => e = .returned (.int .i64 ((bitLen x.toNat : Nat) : Int)) ∧ w' = w := by
  by_cases a0 : 4294967296 ≤ x
  · by_cases a1 : 65536 ≤ (x / 4294967296)
    · by_cases a2 : 256 ≤ ((x / 4294967296) / 65536)
      · exact len_7 x w h0 h1 a0 a1 a2
      · exact len_6 x w h0 h1 a0 a1 a2
    · by_cases a2 : 256 ≤ (x / 4294967296)
      · exact len_5 x w h0 h1 a0 a1 a2
      · exact len_4 x w h0 h1 a0 a1 a2
  · by_cases a1 : 65536 ≤ x
    · by_cases a2 : 256 ≤ (x / 65536)
      · exact len_3 x w h0 h1 a0 a1 a2
      · exact len_2 x w h0 h1 a0 a1 a2
    · by_cases a2 : 256 ≤ x
      · exact len_1 x w h0 h1 a0 a1 a2
      · exact len_0 x w h0 h1 a0 a1 a2

theorem wrapu_nat (n : Nat) (h : n < 18446744073709551616) : IntKind.u64.wrap (n : Int) = (n : Int) := wrap_nat n h
theorem m85 : mm 85 8 = 6148914691236517205 := by decide
theorem m51 : mm 51 8 = 3689348814741910323 := by decide
theorem m15 : mm 15 8 = 1085102592571150095 := by decide
theorem bm_lt (f : Nat → Nat) (hf : ∀ b : Fin 256, f b.val < 256) (k : Nat) : ∀ x, bm f k x < 256 ^ k := by
  induction k with
  | zero => intro x; simp [bm]
  | succ k ih =>
    intro x; have := ih (x / 256); have h := hf ⟨x % 256, by omega⟩; simp only at h
    simp only [bm]; rw [Nat.pow_succ]; omega
theorem bm1_lt (x : Nat) : bm f1 8 x < 18446744073709551616 := bm_lt f1 (fun b => (b4 b).1) 8 x
theorem bm2_lt (x : Nat) : bm (fun b => f2 (f1 b)) 8 x < 4 * 256 ^ 8 / 8 := by
  have h : ∀ k x, bm (fun b => f2 (f1 b)) k x ≤ 68 * mm 1 k := by
    intro k; induction k with
    | zero => intro x; simp [bm, mm]
    | succ k ih =>
      intro x; have := ih (x / 256); have h1 := (b4 ⟨x % 256, by omega⟩).2.1; have h2 := (b4 ⟨x % 256, by omega⟩).2.2.1; simp only at h1 h2
      simp only [bm, mm]; omega
  have := h 8 x
  have e : mm 1 8 = 72340172838076673 := by decide
  rw [e] at this; omega
theorem s1 (x : Nat) (h : x < 18446744073709551616) : IntKind.u64.wrap (bits .and .u64 ((x : Int) / 2) 6148914691236517205 + bits .and .u64 (x : Int) 6148914691236517205) = ((bm f1 8 x : Nat) : Int) := by
  have e : ((x : Int) / 2) = ((x / 2 : Nat) : Int) := by omega
  have a1 : bits .and .u64 ((x / 2 : Nat) : Int) 6148914691236517205 = ((x / 2 &&& 6148914691236517205 : Nat) : Int) := bits_and_u64_nat (x / 2) 6148914691236517205 (by omega) (by decide)
  have a2 : bits .and .u64 (x : Int) 6148914691236517205 = ((x &&& 6148914691236517205 : Nat) : Int) := bits_and_u64_nat x 6148914691236517205 h (by decide)
  have l := l1 8 x
  rw [m85] at l
  rw [e, a1, a2, ← Int.natCast_add, l]
  exact wrapu_nat _ (bm1_lt x)
theorem s2 (x : Nat) : IntKind.u64.wrap (bits .and .u64 (((bm f1 8 x : Nat) : Int) / 4) 3689348814741910323 + bits .and .u64 ((bm f1 8 x : Nat) : Int) 3689348814741910323) = ((bm (fun b => f2 (f1 b)) 8 x : Nat) : Int) := by
  have h := bm1_lt x
  have e : (((bm f1 8 x : Nat) : Int) / 4) = ((bm f1 8 x / 4 : Nat) : Int) := by omega
  have a1 : bits .and .u64 ((bm f1 8 x / 4 : Nat) : Int) 3689348814741910323 = ((bm f1 8 x / 4 &&& 3689348814741910323 : Nat) : Int) := bits_and_u64_nat (bm f1 8 x / 4) 3689348814741910323 (by omega) (by decide)
  have a2 : bits .and .u64 ((bm f1 8 x : Nat) : Int) 3689348814741910323 = ((bm f1 8 x &&& 3689348814741910323 : Nat) : Int) := bits_and_u64_nat (bm f1 8 x) 3689348814741910323 h (by decide)
  have l := l2 8 (bm f1 8 x)
  rw [m51, bm_bm] at l
  rw [e, a1, a2, ← Int.natCast_add, l]
  have := bm2_lt x
  exact wrapu_nat _ (by omega)
theorem s3 (x : Nat) : bits .and .u64 (IntKind.u64.wrap (((bm (fun b => f2 (f1 b)) 8 x : Nat) : Int) / 16 + ((bm (fun b => f2 (f1 b)) 8 x : Nat) : Int))) 1085102592571150095 = ((bm ocB 8 x : Nat) : Int) := by
  have h := bm2_lt x
  have l := l3 8 x
  rw [m15] at l
  generalize bm (fun b => f2 (f1 b)) 8 x = y at *
  have e : ((y : Int) / 16 + (y : Int)) = ((y / 16 + y : Nat) : Int) := by omega
  have a1 : bits .and .u64 ((y / 16 + y : Nat) : Int) 1085102592571150095 = (((y / 16 + y) &&& 1085102592571150095 : Nat) : Int) := bits_and_u64_nat (y / 16 + y) 1085102592571150095 (by omega) (by decide)
  rw [e, wrapu_nat _ (by omega), a1, l]

end Go.Proofs.YtpiicdpipjjenaaGreatDoor
namespace Go.Proofs.YtpiicdpipjjenaaGreatDoor
open Go.RowKit
set_option linter.unusedSimpArgs false
set_option linter.unusedVariables false

theorem lead_hi (x : BitVec 128) (h : ¬ hI x = 0) : 64 - bitLen (hI x).toNat = leadN x ∧ bitLen (hI x).toNat ≤ 64 := by
  have e : (hI x).toNat = x.toNat / 2 ^ 64 := by rw [hIN]; rfl
  have hlo := hI_lo x
  have hn : x.toNat / 2 ^ 64 ≠ 0 := by omega
  have hx : x.toNat ≠ 0 := by intro h0; rw [h0] at hn; simp at hn
  have hs := bitLen_shift x.toNat 64 hn
  have hl : x.toNat.log2 < 128 := (Nat.log2_lt hx).mpr x.isLt
  rw [e]
  unfold leadN; rw [if_neg hx]
  have hb : bitLen x.toNat = x.toNat.log2 + 1 := by unfold bitLen; rw [if_neg hx]
  constructor <;> omega
theorem lead_lo (x : BitVec 128) (h : hI x = 0) : 64 + (64 - bitLen (lI x).toNat) = leadN x ∧ bitLen (lI x).toNat ≤ 64 := by
  have e : (lI x).toNat = x.toNat := by rw [lIN]; rw [hIN] at h; omega
  have hlt : x.toNat < 2 ^ 64 := by have := lI_up x; have := lI_lo x; omega
  rw [e]
  unfold leadN bitLen
  by_cases hx : x.toNat = 0
  · simp [hx]
  · rw [if_neg hx, if_neg hx]
    have := (Nat.log2_lt hx).mpr hlt
    constructor <;> omega

set_option maxHeartbeats 1000000 in
theorem lead_any (x : BitVec 128) (w : World) :
    Calls Tryz.prog 119 #[.agg #[.int .u64 (hI x), .int .u64 (lI x)]] w fun e w' => e = .returned (.int .i64 ((leadN x : Nat) : Int)) ∧ Below w.heap.size w w' := by
  by_cases h : hI x = 0
  · have hl := lead_lo x h
    have hc := fun w => len_any (lI x) w (lI_lo x) (lI_up x)
    generalize bitLen (lI x).toNat = a at *
    obtain ⟨h1, h2⟩ := hl
    have HE : Hid (64 + (64 - a) = leadN x) := h1
    clear h1
    have a1 : (a : Int) ≤ 64 := by omega
    go_enter Tryz.func119, Tryz.ntmps119
    go_wp2_with (first | (go_at_call 107; refine (hc _).mono ?_; rintro e w' ⟨rfl, rfl⟩) | go_in)
    go_ret
    refine ⟨congrArg Ending.returned (congrArg (Value.int IntKind.i64) ?_), bl1 _ _⟩
    rw [← HE.out]
    show (64 : Int) + (64 - (a : Int)) = _
    omega
  · have hl := lead_hi x h
    have hc := fun w => len_any (hI x) w (hI_lo x) (hI_up x)
    generalize bitLen (hI x).toNat = a at *
    obtain ⟨h1, h2⟩ := hl
    have HE : Hid (64 - a = leadN x) := h1
    clear h1
    have a1 : (a : Int) ≤ 64 := by omega
    go_enter Tryz.func119, Tryz.ntmps119
    go_wp2_with (first | (go_at_call 107; refine (hc _).mono ?_; rintro e w' ⟨rfl, rfl⟩) | go_in)
    go_ret
    refine ⟨congrArg Ending.returned (congrArg (Value.int IntKind.i64) ?_), bl1 _ _⟩
    rw [← HE.out]
    show (64 : Int) - (a : Int) = _
    omega

set_option maxHeartbeats 1000000 in
theorem wcommon_any (x y : BitVec 128) (w : World) :
    Calls Tryz.prog 103 #[.agg #[.int .u64 (hI x), .int .u64 (lI x)], .agg #[.int .u64 (hI y), .int .u64 (lI y)]] w fun e w' => e = .returned (.int .i64 ((leadN (x ^^^ y) : Nat) : Int)) ∧ Below w.heap.size w w' := by
  go_enter Tryz.func103, Tryz.ntmps103
  go_wp2_with fail
  refine (xor_any _ _ _).mono ?_
  rintro e w1 ⟨rfl, hb1⟩
  go_wp2_with fail
  refine (lead_any _ _).mono ?_
  rintro e w2 ⟨rfl, hb2⟩
  have kB := keepb hb2 (keepb hb1 (bl2 w _ _))
  clear hb1 hb2
  go_wp2
  go_ret
  exact ⟨rfl, kB⟩
end Go.Proofs.YtpiicdpipjjenaaGreatDoor
namespace Go.Proofs.YtpiicdpipjjenaaGreatDoor
open Go.RowKit
set_option linter.unusedSimpArgs false
set_option linter.unusedVariables false

def withinB (x : BitVec 128) (n : Int) (y : BitVec 128) (m : Int) : Bool := decide (m ≤ n) && (cutW x m == y)
set_option maxHeartbeats 1000000 in
theorem pwithin_any (x : BitVec 128) (n : Int) (y : BitVec 128) (m : Int) (w : World) :
    Calls Tryz.prog 83 #[.agg #[.int .u64 (hI x), .int .u64 (lI x), .int .i64 n], .agg #[.int .u64 (hI y), .int .u64 (lI y), .int .i64 m]] w fun e w' => e = .returned (.bool (withinB x n y m)) ∧ Below w.heap.size w w' := by
  have KH := fun w => has_any y m x w
  unfold withinB
  generalize (cutW x m == y) = b at *
  by_cases h : m ≤ n
  · simp only [h, decide_true, Bool.true_and]
    go_enter Tryz.func83, Tryz.ntmps83
    go_wp2_with fail
    refine (KH _).mono ?_
    rintro e w1 ⟨rfl, hb1⟩
    have kB := keepb hb1 (bl2 w _ _)
    clear hb1
    go_wp2
    go_ret
    exact ⟨rfl, kB⟩
  · simp only [h, decide_false, Bool.false_and]
    go_enter Tryz.func83, Tryz.ntmps83
    go_wp2
    go_ret
    exact ⟨rfl, bl2 _ _ _⟩

def checkE (F : Int) (x : BitVec 128) (n : Int) : Int := if fam F = true then (if n < 0 then 13 else if F < n then 13 else if (cutW x n == x) = true then 0 else 14) else 11
set_option maxHeartbeats 1000000 in
theorem pcheck_any (F : Int) (x : BitVec 128) (n : Int) (w : World) :
    Calls Tryz.prog 39 #[.int .i64 F, .agg #[.int .u64 (hI x), .int .u64 (lI x), .int .i64 n]] w fun e w' => e = .returned (.int .i64 (checkE F x n)) ∧ Below w.heap.size w w' := by
  have KL := fun w => alast_any F w
  unfold lastV lastE at KL
  unfold checkE
  cases h : fam F
  · rw [if_neg (by simp)]
    rw [h, if_neg (by simp), if_neg (by simp), hI_zero, lI_zero] at KL
    clear h
    go_enter Tryz.func39, Tryz.ntmps39
    go_wp2_with fail
    refine (KL _).mono ?_
    rintro e w1 ⟨rfl, hb1⟩
    have kB := keepb hb1 (bl1 w _)
    clear hb1 KL
    go_wp2
    go_ret
    exact ⟨rfl, kB.alloc (by have := kB.size; omega) _⟩
  · rw [if_pos rfl]
    rw [h, if_pos rfl, if_pos rfl] at KL
    clear h
    generalize maskW F = m at *
    have KC := fun w => cut_any x n w
    revert KC
    generalize cutW x n = c
    intro KC
    have hnn : (n == n) = true := by simp
    by_cases h0 : n < 0
    · rw [if_pos h0]
      go_enter Tryz.func39, Tryz.ntmps39
      go_wp2_with fail
      refine (KL _).mono ?_
      rintro e w1 ⟨rfl, hb1⟩
      have kB := keepb hb1 (bl1 w _)
      obtain ⟨p0, p1, p2, -, -, -⟩ := ((atp_new w w.heap.size x n 45 rfl).below hb1).below (bl1 _ (.cells #[.int .u64 (hI m), .int .u64 (lI m)] 43))
      clear hb1 KL
      go_wp2
      go_ret
      exact ⟨rfl, kB.alloc (by have := kB.size; omega) _⟩
    by_cases h1 : F < n
    · rw [if_neg h0, if_pos h1]
      go_enter Tryz.func39, Tryz.ntmps39
      go_wp2_with fail
      refine (KL _).mono ?_
      rintro e w1 ⟨rfl, hb1⟩
      have kB := keepb hb1 (bl1 w _)
      obtain ⟨p0, p1, p2, -, -, -⟩ := ((atp_new w w.heap.size x n 45 rfl).below hb1).below (bl1 _ (.cells #[.int .u64 (hI m), .int .u64 (lI m)] 43))
      clear hb1 KL
      go_wp2
      go_ret
      exact ⟨rfl, kB.alloc (by have := kB.size; omega) _⟩
    rw [if_neg h0, if_neg h1]
    rcases eqw c x with ⟨q1, q2, q3⟩ | ⟨q1, q3⟩ | ⟨q1, q2, q3⟩
    all_goals
      rw [q3]
      first | rw [if_pos rfl] | rw [if_neg (by simp)]
      clear q3
      go_enter Tryz.func39, Tryz.ntmps39
      go_wp2_with fail
      refine (KL _).mono ?_
      rintro e w1 ⟨rfl, hb1⟩
      have kB := keepb hb1 (bl1 w _)
      obtain ⟨p0, p1, p2, -, -, -⟩ := ((atp_new w w.heap.size x n 45 rfl).below hb1).below (bl1 _ (.cells #[.int .u64 (hI m), .int .u64 (lI m)] 43))
      have kB2 := (kB.alloc (by have := kB.size; omega) (.cells #[.int .u64 (hI m), .int .u64 (lI m)] 43)).drew
      clear hb1 KL kB
      go_wp2_with fail
      go_region_held3 (fun w' => w'.cell? ⟨w.heap.size, 0, none⟩ = some (.int .u64 (hI x)) ∧ w'.cell? ⟨w.heap.size, 1, none⟩ = some (.int .u64 (lI x)) ∧ w'.cell? ⟨w.heap.size, 2, none⟩ = some (.int .i64 n) ∧ Below w.heap.size w w')
        (first
          | (obtain ⟨k1, k2, k3, k9⟩ := ‹_ ∧ _›; exact ⟨keepc hb3 k1, keepc hb3 k2, keepc hb3 k3, keepb hb3 k9⟩)
          | exact ⟨p0, p1, p2, kB2⟩)
        (first | (go_at_call 58; refine (KC _).mono ?_; rintro e w3 ⟨rfl, hb3⟩))
      obtain ⟨-, -, -, kB3⟩ := ‹_ ∧ _›
      go_wp2
      go_ret
      exact ⟨rfl, kB3⟩

end Go.Proofs.YtpiicdpipjjenaaGreatDoor
namespace Go.Proofs.YtpiicdpipjjenaaGreatDoor
open Go.RowKit
set_option linter.unusedSimpArgs false
set_option linter.unusedVariables false

def cmpI (a b : Int) : Int := if a < b then -1 else if b < a then 1 else 0
theorem compare_any (a b : Int) (w : World) :
    Calls Tryz.prog 66 #[.int .i64 a, .int .i64 b] w fun e w' => e = .returned (.int .i64 (cmpI a b)) ∧ w' = w := by
  unfold cmpI
  have haa : (a != a) = false := by simp
  have hbb : (b != b) = false := by simp
  by_cases h : a < b
  · rw [if_pos h]
    go_enter Tryz.func66, Tryz.ntmps66
    go_wp2_with go_in
    go_ret
    exact ⟨rfl, rfl⟩
  · rw [if_neg h]
    by_cases h2 : b < a
    · rw [if_pos h2]
      go_enter Tryz.func66, Tryz.ntmps66
      go_wp2_with go_in
      go_ret
      exact ⟨rfl, rfl⟩
    · rw [if_neg h2]
      go_enter Tryz.func66, Tryz.ntmps66
      go_wp2_with go_in
      go_ret
      exact ⟨rfl, rfl⟩
def pcmpZ (x : BitVec 128) (n : Int) (y : BitVec 128) (m : Int) : Int := if cmpZ x y = 0 then cmpI n m else cmpZ x y
set_option maxHeartbeats 1000000 in
theorem pcmp_any (x : BitVec 128) (n : Int) (y : BitVec 128) (m : Int) (w : World) :
    Calls Tryz.prog 44 #[.agg #[.int .u64 (hI x), .int .u64 (lI x), .int .i64 n], .agg #[.int .u64 (hI y), .int .u64 (lI y), .int .i64 m]] w fun e w' => e = .returned (.int .i64 (pcmpZ x n y m)) ∧ Below w.heap.size w w' := by
  have KC := fun w => cmp_any x y w
  have KM := fun w => compare_any n m w
  unfold pcmpZ
  generalize cmpZ x y = c at *
  generalize cmpI n m = d at *
  by_cases h : c = 0
  · subst h
    rw [if_pos rfl]
    go_enter Tryz.func44, Tryz.ntmps44
    go_wp2_with fail
    refine (KC _).mono ?_
    rintro e w1 ⟨rfl, hb1⟩
    have kB := keepb hb1 (bl2 w _ _)
    obtain ⟨p0, p1, p2, -, -, -⟩ := ((atp_new w w.heap.size x n 45 rfl).below (bl1 _ (.cells #[.int .u64 (hI y), .int .u64 (lI y), .int .i64 m] 45))).below hb1
    obtain ⟨r0, r1, r2, -, -, -⟩ := (atp_new (w.alloc (.cells #[.int .u64 (hI x), .int .u64 (lI x), .int .i64 n] 45)) (w.heap.size + 1) y m 45 (by simp)).below hb1
    clear hb1 KC
    go_wp2_with fail
    refine (KM _).mono ?_
    rintro e w2 ⟨rfl, rfl⟩
    go_wp2
    go_ret
    exact ⟨rfl, kB⟩
  · have hb : (c != 0) = true := by simp [h]
    rw [if_neg h]
    go_enter Tryz.func44, Tryz.ntmps44
    go_wp2_with fail
    refine (KC _).mono ?_
    rintro e w1 ⟨rfl, hb1⟩
    have kB := keepb hb1 (bl2 w _ _)
    clear hb1 KC
    go_wp2
    go_ret
    exact ⟨rfl, kB⟩
end Go.Proofs.YtpiicdpipjjenaaGreatDoor
namespace Go.Proofs.YtpiicdpipjjenaaGreatDoor
open Go.RowKit
set_option linter.unusedSimpArgs false
set_option linter.unusedVariables false

theorem run_min3 {P : Program} (w : World) (ts : Array TypeId) (t : TypeId) (x y z : Int) :
    (Builtin.min_ ts t #[.int .i64 x, .int .i64 y, .int .i64 z]).run P w = .ok (.int .i64 (min (min x y) z)) w := by
  have e : ∀ x y : Int, (if y < x then y else x) = min x y := fun x y => by
    rw [Int.min_def]
    split <;> split <;> omega
  simp [Builtin.min_, Builtin.min2, e]
def meetN (x : BitVec 128) (n : Int) (y : BitVec 128) (m : Int) : Int := min (min n m) ((leadN (x ^^^ y) : Nat) : Int)
set_option maxHeartbeats 1000000 in
set_option maxRecDepth 20000 in
theorem pmeet_any (x : BitVec 128) (n : Int) (y : BitVec 128) (m : Int) (w : World) :
    Calls Tryz.prog 84 #[.agg #[.int .u64 (hI x), .int .u64 (lI x), .int .i64 n], .agg #[.int .u64 (hI y), .int .u64 (lI y), .int .i64 m]] w fun e w' => e = .returned (.agg #[.int .u64 (hI (cutW x (meetN x n y m))), .int .u64 (lI (cutW x (meetN x n y m))), .int .i64 (meetN x n y m)]) ∧ Below w.heap.size w w' := by
  have KC := fun w => wcommon_any x y w
  unfold meetN
  generalize ((leadN (x ^^^ y) : Nat) : Int) = l at *
  have KM := fun w => cut_any x (min (min n m) l) w
  revert KM
  generalize hv : min (min n m) l = v
  generalize cutW x v = c
  intro KM
  have hmin : ∀ (w : World) (ts : Array TypeId) (t : TypeId), (Builtin.min_ ts t #[.int .i64 n, .int .i64 m, .int .i64 l]).run Tryz.prog w = .ok (.int .i64 v) w := fun w ts t => by rw [run_min3, hv]
  clear hv
  have hbl := fun o p q => (bl3 w o p q).drew
  go_enter Tryz.func84, Tryz.ntmps84
  go_wp2
  go_region_held3 (fun w' => w'.cell? ⟨w.heap.size, 0, none⟩ = some (.int .u64 (hI x)) ∧ w'.cell? ⟨w.heap.size, 1, none⟩ = some (.int .u64 (lI x)) ∧ w'.cell? ⟨w.heap.size, 2, none⟩ = some (.int .i64 n) ∧ w'.cell? ⟨w.heap.size + 1, 0, none⟩ = some (.int .u64 (hI y)) ∧ w'.cell? ⟨w.heap.size + 1, 1, none⟩ = some (.int .u64 (lI y)) ∧ w'.cell? ⟨w.heap.size + 1, 2, none⟩ = some (.int .i64 m) ∧ w'.cell? ⟨w.heap.size + 1 + 1, 0, none⟩ = some (cv w' (w.heap.size + 1 + 1) 0) ∧ w'.cell? ⟨w.heap.size + 1 + 1, 1, none⟩ = some (cv w' (w.heap.size + 1 + 1) 1) ∧ w'.cell? ⟨w.heap.size + 1 + 1, 2, none⟩ = some (cv w' (w.heap.size + 1 + 1) 2) ∧ w'.frozen? ⟨w.heap.size + 1 + 1, 0, none⟩ = false ∧ w'.frozen? ⟨w.heap.size + 1 + 1, 1, none⟩ = false ∧ w'.frozen? ⟨w.heap.size + 1 + 1, 2, none⟩ = false ∧ Below w.heap.size w w')
    (first
      | (obtain ⟨k1, k2, k0, j1, j2, j0, k3, k4, k5, k6, k7, k8, k9⟩ := ‹_ ∧ _›; exact ⟨keepc hb2 k1, keepc hb2 k2, keepc hb2 k0, keepc hb2 j1, keepc hb2 j2, keepc hb2 j0, cv_of (keepc hb2 k3), cv_of (keepc hb2 k4), cv_of (keepc hb2 k5), keepf hb2 k3 k6, keepf hb2 k4 k7, keepf hb2 k5 k8, keepb hb2 k9⟩)
      | (obtain ⟨k1, k2, k0, j1, j2, j0, k3, k4, k5, k6, k7, k8, k9⟩ := ‹_ ∧ _›; exact ⟨keepc hb1 k1, keepc hb1 k2, keepc hb1 k0, keepc hb1 j1, keepc hb1 j2, keepc hb1 j0, cv_of (keepc hb1 k3), cv_of (keepc hb1 k4), cv_of (keepc hb1 k5), keepf hb1 k3 k6, keepf hb1 k4 k7, keepf hb1 k5 k8, keepb hb1 k9⟩)
      | (refine ⟨?_, ?_, ?_, ?_, ?_, ?_, cv_new ?_, cv_new ?_, cv_new ?_, ?_, ?_, ?_, ?_⟩ <;> first | (simp [go_sem, *]; done) | exact bset3 (by simp [*]) (by omega) _ _ _))
    (first | (go_at_call 103; refine (KC _).mono ?_; rintro e w1 ⟨rfl, hb1⟩) | (go_at_call 58; refine (KM _).mono ?_; rintro e w2 ⟨rfl, hb2⟩))
  obtain ⟨-, -, -, -, -, -, -, -, -, -, -, -, kB⟩ := ‹_ ∧ _›
  have e0 : w2.cell? ⟨w.heap.size + 1 + 1, 0, none⟩ = some (.int .u64 0) := keepc hb2 (keepc hb1 (by simp [go_sem]))
  have e1 : w2.cell? ⟨w.heap.size + 1 + 1, 1, none⟩ = some (.int .u64 0) := keepc hb2 (keepc hb1 (by simp [go_sem]))
  have e2 : w2.cell? ⟨w.heap.size + 1 + 1, 2, none⟩ = some (.int .i64 0) := keepc hb2 (keepc hb1 (by simp [go_sem]))
  go_wp2
  exact bodyPost_ret (v := .agg #[.int .u64 (hI c), .int .u64 (lI c), .int .i64 v]) (by simp [results, Tryz.results84, go_sem, e0, e1, e2]) rfl ⟨rfl, kB⟩

end Go.Proofs.YtpiicdpipjjenaaGreatDoor
namespace Go.Proofs.YtpiicdpipjjenaaGreatDoor
open Go.RowKit
set_option linter.unusedSimpArgs false
set_option linter.unusedVariables false

set_option maxHeartbeats 1000000 in
theorem rpcmp_any (x : BitVec 128) (n : Int) (y : BitVec 128) (m : Int) (w : World) :
    Calls Tryz.prog 31 #[.agg #[.int .u64 (hI x), .int .u64 (lI x), .int .i64 n], .agg #[.int .u64 (hI y), .int .u64 (lI y), .int .i64 m]] w fun e w' => e = .returned (.int .i64 (pcmpZ x n y m)) ∧ Below w.heap.size w w' := by
  have KC := fun w => rcmp_any x y w
  unfold pcmpZ cmpI
  generalize cmpZ x y = c at *
  by_cases h : c = 0
  · subst h
    rw [if_pos rfl]
    by_cases h1 : n < m
    · rw [if_pos h1]
      go_enter Tryz.func31, Tryz.ntmps31
      go_wp2_with fail
      refine (KC _).mono ?_
      rintro e w1 ⟨rfl, hb1⟩
      have kB := keepb hb1 (bl2 w _ _)
      obtain ⟨p0, p1, p2, -, -, -⟩ := ((atp_new w w.heap.size x n 45 rfl).below (bl1 _ (.cells #[.int .u64 (hI y), .int .u64 (lI y), .int .i64 m] 45))).below hb1
      obtain ⟨r0, r1, r2, -, -, -⟩ := (atp_new (w.alloc (.cells #[.int .u64 (hI x), .int .u64 (lI x), .int .i64 n] 45)) (w.heap.size + 1) y m 45 (by simp)).below hb1
      clear hb1 KC
      go_wp2
      go_ret
      exact ⟨rfl, kB⟩
    · rw [if_neg h1]
      by_cases h2 : m < n
      · rw [if_pos h2]
        go_enter Tryz.func31, Tryz.ntmps31
        go_wp2_with fail
        refine (KC _).mono ?_
        rintro e w1 ⟨rfl, hb1⟩
        have kB := keepb hb1 (bl2 w _ _)
        obtain ⟨p0, p1, p2, -, -, -⟩ := ((atp_new w w.heap.size x n 45 rfl).below (bl1 _ (.cells #[.int .u64 (hI y), .int .u64 (lI y), .int .i64 m] 45))).below hb1
        obtain ⟨r0, r1, r2, -, -, -⟩ := (atp_new (w.alloc (.cells #[.int .u64 (hI x), .int .u64 (lI x), .int .i64 n] 45)) (w.heap.size + 1) y m 45 (by simp)).below hb1
        clear hb1 KC
        go_wp2
        go_ret
        exact ⟨rfl, kB⟩
      · rw [if_neg h2]
        go_enter Tryz.func31, Tryz.ntmps31
        go_wp2_with fail
        refine (KC _).mono ?_
        rintro e w1 ⟨rfl, hb1⟩
        have kB := keepb hb1 (bl2 w _ _)
        obtain ⟨p0, p1, p2, -, -, -⟩ := ((atp_new w w.heap.size x n 45 rfl).below (bl1 _ (.cells #[.int .u64 (hI y), .int .u64 (lI y), .int .i64 m] 45))).below hb1
        obtain ⟨r0, r1, r2, -, -, -⟩ := (atp_new (w.alloc (.cells #[.int .u64 (hI x), .int .u64 (lI x), .int .i64 n] 45)) (w.heap.size + 1) y m 45 (by simp)).below hb1
        clear hb1 KC
        go_wp2
        go_ret
        exact ⟨rfl, kB⟩
  · have hb : (c != 0) = true := by simp [h]
    rw [if_neg h]
    go_enter Tryz.func31, Tryz.ntmps31
    go_wp2_with fail
    refine (KC _).mono ?_
    rintro e w1 ⟨rfl, hb1⟩
    have kB := keepb hb1 (bl2 w _ _)
    clear hb1 KC
    go_wp2
    go_ret
    exact ⟨rfl, kB⟩

end Go.Proofs.YtpiicdpipjjenaaGreatDoor
namespace Go.Proofs.YtpiicdpipjjenaaGreatDoor
open Go.RowKit
set_option linter.unusedSimpArgs false
set_option linter.unusedVariables false

set_option maxHeartbeats 1000000 in
theorem rcheck_any (F : Int) (x : BitVec 128) (n : Int) (w : World) :
    Calls Tryz.prog 36 #[.int .i64 F, .agg #[.int .u64 (hI x), .int .u64 (lI x), .int .i64 n]] w fun e w' => e = .returned (.int .i64 (checkE F x n)) ∧ Below w.heap.size w w' := by
  have KL := fun w => isFamily_any F w
  unfold checkE
  cases h : fam F
  · rw [if_neg (by simp)]
    rw [h] at KL
    clear h
    go_enter Tryz.func36, Tryz.ntmps36
    go_wp2_with fail
    refine (KL _).mono ?_
    rintro e w1 ⟨rfl, rfl⟩
    go_wp2
    go_ret
    exact ⟨rfl, bl1 _ _⟩
  · rw [if_pos rfl]
    rw [h] at KL
    clear h
    have KM := fun n w => rmask_any n w
    by_cases h0 : n < 0
    · rw [if_pos h0]
      go_enter Tryz.func36, Tryz.ntmps36
      go_wp2_with fail
      refine (KL _).mono ?_
      rintro e w1 ⟨rfl, rfl⟩
      go_wp2
      go_ret
      exact ⟨rfl, bl1 _ _⟩
    by_cases h1 : F < n
    · rw [if_neg h0, if_pos h1]
      go_enter Tryz.func36, Tryz.ntmps36
      go_wp2_with fail
      refine (KL _).mono ?_
      rintro e w1 ⟨rfl, rfl⟩
      go_wp2
      go_ret
      exact ⟨rfl, bl1 _ _⟩
    rw [if_neg h0, if_neg h1]
    have KC := fun w => rand_any x (maskW n) w
    have KN := fun w => rmask_any n w
    unfold cutW
    generalize maskW n = k at *
    revert KC
    generalize x &&& k = c
    intro KC
    have hbl := fun o => (bl1 w o).drew
    rcases eqw c x with ⟨q1, q2, q3⟩ | ⟨q1, q3⟩ | ⟨q1, q2, q3⟩
    all_goals
      rw [q3]
      first | rw [if_pos rfl] | rw [if_neg (by simp)]
      clear q3
      go_enter Tryz.func36, Tryz.ntmps36
      go_wp2_with fail
      refine (KL _).mono ?_
      rintro e w1 ⟨rfl, rfl⟩
      clear KL KM
      go_wp2_with fail
      go_region_held3 (fun w' => w'.cell? ⟨w.heap.size, 0, none⟩ = some (.int .u64 (hI x)) ∧ w'.cell? ⟨w.heap.size, 1, none⟩ = some (.int .u64 (lI x)) ∧ w'.cell? ⟨w.heap.size, 2, none⟩ = some (.int .i64 n) ∧ Below w.heap.size w w')
        (first
          | (obtain ⟨k1, k2, k3, k9⟩ := ‹_ ∧ _›; exact ⟨keepc hb3 k1, keepc hb3 k2, keepc hb3 k3, keepb hb3 k9⟩)
          | (obtain ⟨k1, k2, k3, k9⟩ := ‹_ ∧ _›; exact ⟨keepc hb2 k1, keepc hb2 k2, keepc hb2 k3, keepb hb2 k9⟩)
          | (refine ⟨?_, ?_, ?_, ?_⟩ <;> first | (simp [go_sem, *]; done) | exact hbl _))
        (first | (go_at_call 53; refine (KN _).mono ?_; rintro e w2 ⟨rfl, hb2⟩) | (go_at_call 52; refine (KC _).mono ?_; rintro e w3 ⟨rfl, hb3⟩))
      obtain ⟨-, -, -, kB3⟩ := ‹_ ∧ _›
      go_wp2
      go_ret
      exact ⟨rfl, kB3⟩

end Go.Proofs.YtpiicdpipjjenaaGreatDoor
namespace Go.Proofs.YtpiicdpipjjenaaGreatDoor
open Go.RowKit
set_option linter.unusedSimpArgs false
set_option linter.unusedVariables false

end Go.Proofs.YtpiicdpipjjenaaGreatDoor
namespace Go.Proofs.YtpiicdpipjjenaaGreatDoor
open Go.RowKit
set_option linter.unusedSimpArgs false
set_option linter.unusedVariables false

def LS (w : World) (x : BitVec 128) (n : Int) (W : World) : Prop := AtP W w.heap.size x n ∧ At W (w.heap.size + 1) 0#128 ∧ Below w.heap.size w W
theorem LS.below {w W W' : World} {x : BitVec 128} {n : Int} (h : LS w x n W) (hb : Below W.heap.size W W') : LS w x n W' := ⟨h.1.below hb, h.2.1.below hb, keepb hb h.2.2⟩
theorem LS.drew {w W : World} {x : BitVec 128} {n : Int} (h : LS w x n W) : LS w x n W.drew := ⟨h.1, h.2.1, h.2.2.drew⟩
theorem LS.set {w W : World} {x : BitVec 128} {n : Int} (h : LS w x n W) {N : Nat} (hN : w.heap.size + 1 < N) (u v : Value) : LS w x n ((W.setCell ⟨N, 0, none⟩ u).setCell ⟨N, 1, none⟩ v) := by
  obtain ⟨⟨a0, a1, a2, a3, a4, a5⟩, h2, h3⟩ := h
  have d0 : ¬ N = w.heap.size := by omega
  have d1 : ¬ w.heap.size = N := by omega
  refine ⟨?_, h2.other u v (by omega), bset2 h3 (by omega) _ _⟩
  refine ⟨?_, ?_, ?_, ?_, ?_, ?_⟩ <;> simp [go_sem, *]
end Go.Proofs.YtpiicdpipjjenaaGreatDoor
namespace Go.Proofs.YtpiicdpipjjenaaGreatDoor
open Go.RowKit
set_option linter.unusedSimpArgs false
set_option linter.unusedVariables false

theorem mask_zero (z : BitVec 128) (n : Int) (h0 : 0 ≤ n) (h1 : n ≤ 128) : z &&& maskW n = 0#128 ↔ z >>> (128 - n).toNat = 0#128 := by
  constructor
  · intro h
    apply BitVec.eq_of_getLsbD_eq
    intro j hj
    have := congrArg (fun y => y.getLsbD ((128 - n).toNat + j)) h
    simp only [BitVec.getLsbD_and, BitVec.getLsbD_zero] at this
    by_cases c : (128 - n).toNat + j < 128
    · rw [maskW_bit n _ c] at this
      have d : decide (128 - n.toNat ≤ (128 - n).toNat + j) = true := by simp; omega
      rw [d, Bool.and_true] at this
      rw [BitVec.getLsbD_ushiftRight, this, BitVec.getLsbD_zero]
    · rw [BitVec.getLsbD_ushiftRight, BitVec.getLsbD_of_ge _ _ (by omega), BitVec.getLsbD_zero]
  · intro h
    apply BitVec.eq_of_getLsbD_eq
    intro j hj
    rw [BitVec.getLsbD_and, maskW_bit n j hj, BitVec.getLsbD_zero]
    by_cases c : 128 - n.toNat ≤ j
    · have := congrArg (fun y => y.getLsbD (j - (128 - n).toNat)) h
      simp only [BitVec.getLsbD_ushiftRight, BitVec.getLsbD_zero] at this
      rw [show (128 - n).toNat + (j - (128 - n).toNat) = j by omega] at this
      rw [this, Bool.false_and]
    · simp [c]
theorem lead_mask (z : BitVec 128) (n : Int) (h0 : 0 ≤ n) (h1 : n ≤ 128) : n ≤ ((leadN z : Nat) : Int) ↔ z &&& maskW n = 0#128 := by
  rw [mask_zero z n h0 h1]
  have := lead_wide z (128 - n) (by omega) (by omega)
  constructor
  · intro h
    apply Classical.byContradiction
    intro c
    have := this.mpr c
    omega
  · intro h
    apply Classical.byContradiction
    intro c
    exact this.mp (by omega) h
theorem xor_mask (x y m : BitVec 128) : (x ^^^ y) &&& m = 0#128 ↔ x &&& m = y &&& m := by
  have e : (x ^^^ y) &&& m = (x &&& m) ^^^ (y &&& m) := by
    apply BitVec.eq_of_getLsbD_eq
    intro j hj
    simp only [BitVec.getLsbD_and, BitVec.getLsbD_xor]
    cases x.getLsbD j <;> cases y.getLsbD j <;> cases m.getLsbD j <;> rfl
  rw [e]
  constructor
  · intro h
    have := congrArg (fun z => z ^^^ (y &&& m)) h
    simpa [BitVec.xor_assoc] using this
  · intro h
    rw [h, BitVec.xor_self]
theorem mask_sub (n m : Int) (h0 : 0 ≤ n) (h : n ≤ m) : maskW n &&& maskW m = maskW n := by
  apply BitVec.eq_of_getLsbD_eq
  intro j hj
  rw [BitVec.getLsbD_and, maskW_bit n j hj, maskW_bit m j hj]
  by_cases c : 128 - n.toNat ≤ j
  · have : 128 - m.toNat ≤ j := by omega
    simp [c, this]
  · simp [c]
theorem cut_cut (x : BitVec 128) (n m : Int) (h0 : 0 ≤ n) (h : n ≤ m) : cutW (cutW x m) n = cutW x n := by
  unfold cutW
  rw [BitVec.and_assoc, BitVec.and_comm (maskW m), mask_sub n m h0 h]
theorem cut_cut2 (x : BitVec 128) (n m : Int) (h0 : 0 ≤ n) (h : n ≤ m) : cutW (cutW x n) m = cutW x n := by
  unfold cutW
  rw [BitVec.and_assoc, mask_sub n m h0 h]
def Rt (F : Int) (x : BitVec 128) (n : Int) : Prop := 0 ≤ n ∧ n ≤ F ∧ cutW x n = x
end Go.Proofs.YtpiicdpipjjenaaGreatDoor
namespace Go.Proofs.YtpiicdpipjjenaaGreatDoor
open Go.RowKit
set_option linter.unusedSimpArgs false
set_option linter.unusedVariables false

theorem decF_len9 : ∀ (f m : Nat) (t : List UInt8), (decF f m t).length ≤ t.length + f
  | 0, _, t => Nat.le_refl _
  | f + 1, m, t => by
    show (if m = 0 ∧ ¬ t = [] then t else decF f (m / 10) (UInt8.ofNat (48 + m % 10) :: t)).length ≤ _
    split
    · omega
    · have := decF_len9 f (m / 10) (UInt8.ofNat (48 + m % 10) :: t)
      rw [List.length_cons] at this
      omega
theorem decL_len9 (n : Nat) : (decL n).length ≤ 20 := by
  have := decF_len9 20 n []
  simpa [decL] using this
theorem check_bd (F : Int) (x : BitVec 128) (n : Int) (h : checkE F x n = 0) : fam F = true ∧ Rt F x n ∧ rightE F x = 0 := by
  unfold checkE at h
  by_cases hf : fam F = true
  · rw [if_pos hf] at h
    by_cases h1 : n < 0
    · rw [if_pos h1] at h; omega
    rw [if_neg h1] at h
    by_cases h2 : F < n
    · rw [if_pos h2] at h; omega
    rw [if_neg h2] at h
    by_cases h3 : (cutW x n == x) = true
    · have hx : cutW x n = x := by simpa using h3
      refine ⟨hf, ⟨by omega, by omega, hx⟩, ?_⟩
      unfold rightE
      rw [if_pos hf, if_pos]
      have := cut_cut2 x n F (by omega) (by omega)
      rw [hx] at this
      exact this
    · rw [if_neg h3] at h; omega
  · rw [if_neg hf] at h; omega
theorem fam_le (F : Int) (h : fam F = true) : 32 ≤ F ∧ F ≤ 128 := by rcases fam_ways F h with rfl | rfl <;> omega
def ptxD (F : Int) (x : BitVec 128) (n : Int) : ByteArray := if checkE F x n = 0 then text2 F x ++ ⟨#[47]⟩ ++ ⟨(decL n.toNat).toArray⟩ else ⟨#[]⟩
set_option maxHeartbeats 2000000 in
theorem rptextD_any (F : Int) (x : BitVec 128) (n : Int) (w : World) :
    Calls Tryz.prog 18 #[.int .i64 F, .agg #[.int .u64 (hI x), .int .u64 (lI x), .int .i64 n]] w fun e w' => e = .returned (.tuple #[.string (ptxD F x n), .int .i64 (checkE F x n)]) ∧ Below w.heap.size w w' := by
  have KC := fun w => rcheck_any F x n w
  unfold ptxD
  by_cases h : checkE F x n = 0
  · rw [h] at KC
    rw [if_pos h, h]
    obtain ⟨hf, ⟨h0, h1, hx⟩, hr⟩ := check_bd F x n h
    have hF := fam_le F hf
    have KT := fun w => rtext2_any F x w
    rw [hr] at KT
    have KD := fun w => rdec_any n.toNat w (by omega)
    rw [show ((n.toNat : Nat) : Int) = n by omega] at KD
    have ht := (text2_size F x hr).2
    have hl := decL_len9 n.toNat
    generalize text2 F x = t at *
    generalize hd : (⟨(decL n.toNat).toArray⟩ : ByteArray) = d at *
    have hds : d.size ≤ 21 := by rw [← hd]; exact Nat.le_trans hl (by omega)
    have hlen1 : ¬ 9223372036854775807 < t.size + 1 := by omega
    have hlen2 : ¬ 9223372036854775807 < t.size + 1 + d.size := by omega
    clear hd hl h hr hf hx
    go_enter Tryz.func18, Tryz.ntmps18
    go_wp2_with fail
    refine (KC _).mono ?_
    rintro e w1 ⟨rfl, hb1⟩
    have P1 := (atp_new w w.heap.size x n 45 rfl).below hb1
    have kB1 := keepb hb1 (bl1 w _)
    clear hb1 KC
    obtain ⟨p0, p1, p2, -, -, -⟩ := id P1
    go_wp2_with fail
    refine (KT _).mono ?_
    rintro e w2 ⟨rfl, hb2⟩
    have kB2 := keepb hb2 kB1
    clear p0 p1 p2
    obtain ⟨p0, p1, p2, -, -, -⟩ := P1.below hb2
    clear hb2 KT kB1 P1
    go_wp2_with fail
    refine (KD _).mono ?_
    rintro e w3 ⟨rfl, hb3⟩
    have kB3 := keepb hb3 kB2
    clear hb3 KD kB2
    go_wp2
    go_ret2
    exact ⟨rfl, kB3⟩
  · have hb : (checkE F x n != 0) = true := by simp [h]
    rw [if_neg h]
    clear h
    generalize checkE F x n = c at *
    go_enter Tryz.func18, Tryz.ntmps18
    go_wp2_with fail
    refine (KC _).mono ?_
    rintro e w1 ⟨rfl, hb1⟩
    have kB1 := keepb hb1 (bl1 w _)
    clear hb1 KC
    go_wp2
    go_ret2
    exact ⟨rfl, kB1⟩
end Go.Proofs.YtpiicdpipjjenaaGreatDoor
