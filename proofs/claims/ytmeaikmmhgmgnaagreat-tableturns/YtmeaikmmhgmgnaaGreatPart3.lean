/-
  Part 3 of the proof: 5 texts, one behind the other.
-/
import Derived.Test.YtmeaikmmhgmgnaaGreatPart1
import Derived.Test.YtmeaikmmhgmgnaaGreatPart2
import Derived.Lib.Strings
namespace Go.Proofs.YtmeaikmmhgmgnaaGreat
open Go.RowKit
set_option linter.unusedSimpArgs false
set_option linter.unusedVariables false

theorem len_sum (x y : Int) (k : Nat) (hx : 0 ≤ x) (hy : y = x / 2 ^ k) (h : 0 < y ∨ k = 0) : ((bitLen x.toNat : Nat) : Int) = k + bitLen y.toNat := by
  rcases h with h | h
  · have e : y.toNat = x.toNat / 2 ^ k := by
      rw [hy]
      obtain ⟨n, rfl⟩ := Int.eq_ofNat_of_zero_le hx
      have : ((n : Int) / 2 ^ k) = ((n / 2 ^ k : Nat) : Int) := by simp
      rw [this]; rfl
    have h2 : x.toNat / 2 ^ k ≠ 0 := by omega
    rw [bitLen_shift x.toNat k h2, e]; omega
  · subst h; simp at hy; subst hy; simp
theorem len_wrap (k : Int) (a : Nat) (ha : a ≤ 8) (h0 : 0 ≤ k) (h1 : k ≤ 56) : wrap64 (k + wrap64 (a : Int)) = k + a := by
  unfold wrap64; omega
theorem len_wrap0 (a : Nat) (ha : a ≤ 8) : wrap64 (wrap64 (a : Int)) = (a : Int) := by
  unfold wrap64; omega

set_option maxHeartbeats 1000000 in
set_option maxRecDepth 1000000 in
theorem len_0 (x : Int) (w : World) (h0 : 0 ≤ x) (h1 : x < 18446744073709551616) (a0 : ¬ 4294967296 ≤ x) (a1 : ¬ 65536 ≤ x) (a2 : ¬ 256 ≤ x) :
    Calls Tryz.prog 125 #[.int .u64 x] w fun e w' => e = .returned (.int .i64 ((bitLen x.toNat : Nat) : Int)) ∧ w' = w := by
  have hy : 0 ≤ x ∧ x < 256 := by omega
  have HF : Hid (((bitLen x.toNat : Nat) : Int) = 0 + bitLen (x).toNat) := len_sum x (x) 0 h0 (by omega) (by omega)
  go_enter Tryz.func125, Tryz.ntmps125
  go_wp2
  go_ret
  refine ⟨congrArg Ending.returned (congrArg (Value.int IntKind.i64) ?_), rfl⟩
  rw [HF.out, len8tab_get]
  rw [len_wrap0 _ (bitLen_le8 _ (by omega))]; omega
set_option maxHeartbeats 1000000 in
set_option maxRecDepth 1000000 in
theorem len_1 (x : Int) (w : World) (h0 : 0 ≤ x) (h1 : x < 18446744073709551616) (a0 : ¬ 4294967296 ≤ x) (a1 : ¬ 65536 ≤ x) (a2 : 256 ≤ x) :
    Calls Tryz.prog 125 #[.int .u64 x] w fun e w' => e = .returned (.int .i64 ((bitLen x.toNat : Nat) : Int)) ∧ w' = w := by
  have hy : 0 ≤ (x / 256) ∧ (x / 256) < 256 := by omega
  have HF : Hid (((bitLen x.toNat : Nat) : Int) = 8 + bitLen ((x / 256)).toNat) := len_sum x ((x / 256)) 8 h0 (by omega) (by omega)
  go_enter Tryz.func125, Tryz.ntmps125
  go_wp2
  go_ret
  refine ⟨congrArg Ending.returned (congrArg (Value.int IntKind.i64) ?_), rfl⟩
  rw [HF.out, len8tab_get]
  exact len_wrap 8 _ (bitLen_le8 _ (by omega)) (by omega) (by omega)
set_option maxHeartbeats 1000000 in
set_option maxRecDepth 1000000 in
theorem len_2 (x : Int) (w : World) (h0 : 0 ≤ x) (h1 : x < 18446744073709551616) (a0 : ¬ 4294967296 ≤ x) (a1 : 65536 ≤ x) (a2 : ¬ 256 ≤ (x / 65536)) :
    Calls Tryz.prog 125 #[.int .u64 x] w fun e w' => e = .returned (.int .i64 ((bitLen x.toNat : Nat) : Int)) ∧ w' = w := by
  have hy : 0 ≤ (x / 65536) ∧ (x / 65536) < 256 := by omega
  have HF : Hid (((bitLen x.toNat : Nat) : Int) = 16 + bitLen ((x / 65536)).toNat) := len_sum x ((x / 65536)) 16 h0 (by omega) (by omega)
  go_enter Tryz.func125, Tryz.ntmps125
  go_wp2
  go_ret
  refine ⟨congrArg Ending.returned (congrArg (Value.int IntKind.i64) ?_), rfl⟩
  rw [HF.out, len8tab_get]
  exact len_wrap 16 _ (bitLen_le8 _ (by omega)) (by omega) (by omega)
set_option maxHeartbeats 1000000 in
set_option maxRecDepth 1000000 in
theorem len_3 (x : Int) (w : World) (h0 : 0 ≤ x) (h1 : x < 18446744073709551616) (a0 : ¬ 4294967296 ≤ x) (a1 : 65536 ≤ x) (a2 : 256 ≤ (x / 65536)) :
    Calls Tryz.prog 125 #[.int .u64 x] w fun e w' => e = .returned (.int .i64 ((bitLen x.toNat : Nat) : Int)) ∧ w' = w := by
  have hy : 0 ≤ ((x / 65536) / 256) ∧ ((x / 65536) / 256) < 256 := by omega
  have HF : Hid (((bitLen x.toNat : Nat) : Int) = 24 + bitLen (((x / 65536) / 256)).toNat) := len_sum x (((x / 65536) / 256)) 24 h0 (by omega) (by omega)
  go_enter Tryz.func125, Tryz.ntmps125
  go_wp2
  go_ret
  refine ⟨congrArg Ending.returned (congrArg (Value.int IntKind.i64) ?_), rfl⟩
  rw [HF.out, len8tab_get]
  exact len_wrap 24 _ (bitLen_le8 _ (by omega)) (by omega) (by omega)
set_option maxHeartbeats 1000000 in
set_option maxRecDepth 1000000 in
theorem len_4 (x : Int) (w : World) (h0 : 0 ≤ x) (h1 : x < 18446744073709551616) (a0 : 4294967296 ≤ x) (a1 : ¬ 65536 ≤ (x / 4294967296)) (a2 : ¬ 256 ≤ (x / 4294967296)) :
    Calls Tryz.prog 125 #[.int .u64 x] w fun e w' => e = .returned (.int .i64 ((bitLen x.toNat : Nat) : Int)) ∧ w' = w := by
  have hy : 0 ≤ (x / 4294967296) ∧ (x / 4294967296) < 256 := by omega
  have HF : Hid (((bitLen x.toNat : Nat) : Int) = 32 + bitLen ((x / 4294967296)).toNat) := len_sum x ((x / 4294967296)) 32 h0 (by omega) (by omega)
  go_enter Tryz.func125, Tryz.ntmps125
  go_wp2
  go_ret
  refine ⟨congrArg Ending.returned (congrArg (Value.int IntKind.i64) ?_), rfl⟩
  rw [HF.out, len8tab_get]
  exact len_wrap 32 _ (bitLen_le8 _ (by omega)) (by omega) (by omega)
set_option maxHeartbeats 1000000 in
set_option maxRecDepth 1000000 in
theorem len_5 (x : Int) (w : World) (h0 : 0 ≤ x) (h1 : x < 18446744073709551616) (a0 : 4294967296 ≤ x) (a1 : ¬ 65536 ≤ (x / 4294967296)) (a2 : 256 ≤ (x / 4294967296)) :
    Calls Tryz.prog 125 #[.int .u64 x] w fun e w' => e = .returned (.int .i64 ((bitLen x.toNat : Nat) : Int)) ∧ w' = w := by
  have hy : 0 ≤ ((x / 4294967296) / 256) ∧ ((x / 4294967296) / 256) < 256 := by omega
  have HF : Hid (((bitLen x.toNat : Nat) : Int) = 40 + bitLen (((x / 4294967296) / 256)).toNat) := len_sum x (((x / 4294967296) / 256)) 40 h0 (by omega) (by omega)
  go_enter Tryz.func125, Tryz.ntmps125
  go_wp2
  go_ret
  refine ⟨congrArg Ending.returned (congrArg (Value.int IntKind.i64) ?_), rfl⟩
  rw [HF.out, len8tab_get]
  exact len_wrap 40 _ (bitLen_le8 _ (by omega)) (by omega) (by omega)
set_option maxHeartbeats 1000000 in
set_option maxRecDepth 1000000 in
theorem len_6 (x : Int) (w : World) (h0 : 0 ≤ x) (h1 : x < 18446744073709551616) (a0 : 4294967296 ≤ x) (a1 : 65536 ≤ (x / 4294967296)) (a2 : ¬ 256 ≤ ((x / 4294967296) / 65536)) :
    Calls Tryz.prog 125 #[.int .u64 x] w fun e w' => e = .returned (.int .i64 ((bitLen x.toNat : Nat) : Int)) ∧ w' = w := by
  have hy : 0 ≤ ((x / 4294967296) / 65536) ∧ ((x / 4294967296) / 65536) < 256 := by omega
  have HF : Hid (((bitLen x.toNat : Nat) : Int) = 48 + bitLen (((x / 4294967296) / 65536)).toNat) := len_sum x (((x / 4294967296) / 65536)) 48 h0 (by omega) (by omega)
  go_enter Tryz.func125, Tryz.ntmps125
  go_wp2
  go_ret
  refine ⟨congrArg Ending.returned (congrArg (Value.int IntKind.i64) ?_), rfl⟩
  rw [HF.out, len8tab_get]
  exact len_wrap 48 _ (bitLen_le8 _ (by omega)) (by omega) (by omega)
set_option maxHeartbeats 1000000 in
set_option maxRecDepth 1000000 in
theorem len_7 (x : Int) (w : World) (h0 : 0 ≤ x) (h1 : x < 18446744073709551616) (a0 : 4294967296 ≤ x) (a1 : 65536 ≤ (x / 4294967296)) (a2 : 256 ≤ ((x / 4294967296) / 65536)) :
    Calls Tryz.prog 125 #[.int .u64 x] w fun e w' => e = .returned (.int .i64 ((bitLen x.toNat : Nat) : Int)) ∧ w' = w := by
  have hy : 0 ≤ (((x / 4294967296) / 65536) / 256) ∧ (((x / 4294967296) / 65536) / 256) < 256 := by omega
  have HF : Hid (((bitLen x.toNat : Nat) : Int) = 56 + bitLen ((((x / 4294967296) / 65536) / 256)).toNat) := len_sum x ((((x / 4294967296) / 65536) / 256)) 56 h0 (by omega) (by omega)
  go_enter Tryz.func125, Tryz.ntmps125
  go_wp2
  go_ret
  refine ⟨congrArg Ending.returned (congrArg (Value.int IntKind.i64) ?_), rfl⟩
  rw [HF.out, len8tab_get]
  exact len_wrap 56 _ (bitLen_le8 _ (by omega)) (by omega) (by omega)
theorem len_any (x : Int) (w : World) (h0 : 0 ≤ x) (h1 : x < 18446744073709551616) :
    Calls Tryz.prog 125 #[.int .u64 x] w fun e w' => e = .returned (.int .i64 ((bitLen x.toNat : Nat) : Int)) ∧ w' = w := by
  by_cases a0 : 4294967296 ≤ x
  · by_cases a1 : 65536 ≤ (x / 4294967296)
    · by_cases a2 : 256 ≤ ((x / 4294967296) / 65536)
      · exact len_7 x w h0 h1 a0 a1 a2
      · exact len_6 x w h0 h1 a0 a1 a2
    · by_cases a2 : 256 ≤ (x / 4294967296)
      · exact len_5 x w h0 h1 a0 a1 a2
      · exact len_4 x w h0 h1 a0 a1 a2
  · by_cases a1 : 65536 ≤ x
    · by_cases a2 : 256 ≤ (x / 65536)
      · exact len_3 x w h0 h1 a0 a1 a2
      · exact len_2 x w h0 h1 a0 a1 a2
    · by_cases a2 : 256 ≤ x
      · exact len_1 x w h0 h1 a0 a1 a2
      · exact len_0 x w h0 h1 a0 a1 a2

theorem wrapu_nat (n : Nat) (h : n < 18446744073709551616) : IntKind.u64.wrap (n : Int) = (n : Int) := wrap_nat n h
theorem m85 : mm 85 8 = 6148914691236517205 := by decide
theorem m51 : mm 51 8 = 3689348814741910323 := by decide
theorem m15 : mm 15 8 = 1085102592571150095 := by decide
theorem bm_lt (f : Nat → Nat) (hf : ∀ b : Fin 256, f b.val < 256) (k : Nat) : ∀ x, bm f k x < 256 ^ k := by
  induction k with
  | zero => intro x; simp [bm]
  | succ k ih =>
    intro x; have := ih (x / 256); have h := hf ⟨x % 256, by omega⟩; simp only at h
    simp only [bm]; rw [Nat.pow_succ]; omega
theorem bm1_lt (x : Nat) : bm f1 8 x < 18446744073709551616 := bm_lt f1 (fun b => (b4 b).1) 8 x
theorem bm2_lt (x : Nat) : bm (fun b => f2 (f1 b)) 8 x < 4 * 256 ^ 8 / 8 := by
  have h : ∀ k x, bm (fun b => f2 (f1 b)) k x ≤ 68 * mm 1 k := by
    intro k; induction k with
    | zero => intro x; simp [bm, mm]
    | succ k ih =>
      intro x; have := ih (x / 256); have h1 := (b4 ⟨x % 256, by omega⟩).2.1; have h2 := (b4 ⟨x % 256, by omega⟩).2.2.1; simp only at h1 h2
      simp only [bm, mm]; omega
  have := h 8 x
  have e : mm 1 8 = 72340172838076673 := by decide
  rw [e] at this; omega
theorem s1 (x : Nat) (h : x < 18446744073709551616) : IntKind.u64.wrap (bits .and .u64 ((x : Int) / 2) 6148914691236517205 + bits .and .u64 (x : Int) 6148914691236517205) = ((bm f1 8 x : Nat) : Int) := by
  have e : ((x : Int) / 2) = ((x / 2 : Nat) : Int) := by omega
  have a1 : bits .and .u64 ((x / 2 : Nat) : Int) 6148914691236517205 = ((x / 2 &&& 6148914691236517205 : Nat) : Int) := bits_and_u64_nat (x / 2) 6148914691236517205 (by omega) (by decide)
  have a2 : bits .and .u64 (x : Int) 6148914691236517205 = ((x &&& 6148914691236517205 : Nat) : Int) := bits_and_u64_nat x 6148914691236517205 h (by decide)
  have l := l1 8 x
  rw [m85] at l
  rw [e, a1, a2, ← Int.natCast_add, l]
  exact wrapu_nat _ (bm1_lt x)
theorem s2 (x : Nat) : IntKind.u64.wrap (bits .and .u64 (((bm f1 8 x : Nat) : Int) / 4) 3689348814741910323 + bits .and .u64 ((bm f1 8 x : Nat) : Int) 3689348814741910323) = ((bm (fun b => f2 (f1 b)) 8 x : Nat) : Int) := by
  have h := bm1_lt x
  have e : (((bm f1 8 x : Nat) : Int) / 4) = ((bm f1 8 x / 4 : Nat) : Int) := by omega
  have a1 : bits .and .u64 ((bm f1 8 x / 4 : Nat) : Int) 3689348814741910323 = ((bm f1 8 x / 4 &&& 3689348814741910323 : Nat) : Int) := bits_and_u64_nat (bm f1 8 x / 4) 3689348814741910323 (by omega) (by decide)
  have a2 : bits .and .u64 ((bm f1 8 x : Nat) : Int) 3689348814741910323 = ((bm f1 8 x &&& 3689348814741910323 : Nat) : Int) := bits_and_u64_nat (bm f1 8 x) 3689348814741910323 h (by decide)
  have l := l2 8 (bm f1 8 x)
  rw [m51, bm_bm] at l
  rw [e, a1, a2, ← Int.natCast_add, l]
  have := bm2_lt x
  exact wrapu_nat _ (by omega)
theorem s3 (x : Nat) : bits .and .u64 (IntKind.u64.wrap (((bm (fun b => f2 (f1 b)) 8 x : Nat) : Int) / 16 + ((bm (fun b => f2 (f1 b)) 8 x : Nat) : Int))) 1085102592571150095 = ((bm ocB 8 x : Nat) : Int) := by
  have h := bm2_lt x
  have l := l3 8 x
  rw [m15] at l
  generalize bm (fun b => f2 (f1 b)) 8 x = y at *
  have e : ((y : Int) / 16 + (y : Int)) = ((y / 16 + y : Nat) : Int) := by omega
  have a1 : bits .and .u64 ((y / 16 + y : Nat) : Int) 1085102592571150095 = (((y / 16 + y) &&& 1085102592571150095 : Nat) : Int) := bits_and_u64_nat (y / 16 + y) 1085102592571150095 (by omega) (by decide)
  rw [e, wrapu_nat _ (by omega), a1, l]

end Go.Proofs.YtmeaikmmhgmgnaaGreat
namespace Go.Proofs.YtmeaikmmhgmgnaaGreat
open Go.RowKit
set_option linter.unusedSimpArgs false
set_option linter.unusedVariables false

theorem lead_hi (x : BitVec 128) (h : ¬ hI x = 0) : 64 - bitLen (hI x).toNat = leadN x ∧ bitLen (hI x).toNat ≤ 64 := by
  have e : (hI x).toNat = x.toNat / 2 ^ 64 := by rw [hIN]; rfl
  have hlo := hI_lo x
  have hn : x.toNat / 2 ^ 64 ≠ 0 := by omega
  have hx : x.toNat ≠ 0 := by intro h0; rw [h0] at hn; simp at hn
  have hs := bitLen_shift x.toNat 64 hn
  have hl : x.toNat.log2 < 128 := (Nat.log2_lt hx).mpr x.isLt
  rw [e]
  unfold leadN; rw [if_neg hx]
  have hb : bitLen x.toNat = x.toNat.log2 + 1 := by unfold bitLen; rw [if_neg hx]
  constructor <;> omega
theorem lead_lo (x : BitVec 128) (h : hI x = 0) : 64 + (64 - bitLen (lI x).toNat) = leadN x ∧ bitLen (lI x).toNat ≤ 64 := by
  have e : (lI x).toNat = x.toNat := by rw [lIN]; rw [hIN] at h; omega
  have hlt : x.toNat < 2 ^ 64 := by have := lI_up x; have := lI_lo x; omega
  rw [e]
  unfold leadN bitLen
  by_cases hx : x.toNat = 0
  · simp [hx]
  · rw [if_neg hx, if_neg hx]
    have := (Nat.log2_lt hx).mpr hlt
    constructor <;> omega

set_option maxHeartbeats 1000000 in
theorem lead_any (x : BitVec 128) (w : World) :
    Calls Tryz.prog 100 #[.agg #[.int .u64 (hI x), .int .u64 (lI x)]] w fun e w' => e = .returned (.int .i64 ((leadN x : Nat) : Int)) ∧ Below w.heap.size w w' := by
  by_cases h : hI x = 0
  · have hl := lead_lo x h
    have hc := fun w => len_any (lI x) w (lI_lo x) (lI_up x)
    generalize bitLen (lI x).toNat = a at *
    obtain ⟨h1, h2⟩ := hl
    have HE : Hid (64 + (64 - a) = leadN x) := h1
    clear h1
    have a1 : (a : Int) ≤ 64 := by omega
    go_enter Tryz.func100, Tryz.ntmps100
    go_wp2_with (first | (go_at_call 125; refine (hc _).mono ?_; rintro e w' ⟨rfl, rfl⟩) | go_in)
    go_ret
    refine ⟨congrArg Ending.returned (congrArg (Value.int IntKind.i64) ?_), bl1 _ _⟩
    rw [← HE.out]
    show (64 : Int) + (64 - (a : Int)) = _
    omega
  · have hl := lead_hi x h
    have hc := fun w => len_any (hI x) w (hI_lo x) (hI_up x)
    generalize bitLen (hI x).toNat = a at *
    obtain ⟨h1, h2⟩ := hl
    have HE : Hid (64 - a = leadN x) := h1
    clear h1
    have a1 : (a : Int) ≤ 64 := by omega
    go_enter Tryz.func100, Tryz.ntmps100
    go_wp2_with (first | (go_at_call 125; refine (hc _).mono ?_; rintro e w' ⟨rfl, rfl⟩) | go_in)
    go_ret
    refine ⟨congrArg Ending.returned (congrArg (Value.int IntKind.i64) ?_), bl1 _ _⟩
    rw [← HE.out]
    show (64 : Int) - (a : Int) = _
    omega

set_option maxHeartbeats 1000000 in
theorem wcommon_any (x y : BitVec 128) (w : World) :
    Calls Tryz.prog 81 #[.agg #[.int .u64 (hI x), .int .u64 (lI x)], .agg #[.int .u64 (hI y), .int .u64 (lI y)]] w fun e w' => e = .returned (.int .i64 ((leadN (x ^^^ y) : Nat) : Int)) ∧ Below w.heap.size w w' := by
  go_enter Tryz.func81, Tryz.ntmps81
  go_wp2_with fail
  refine (xor_any _ _ _).mono ?_
  rintro e w1 ⟨rfl, hb1⟩
  go_wp2_with fail
  refine (lead_any _ _).mono ?_
  rintro e w2 ⟨rfl, hb2⟩
  have kB := keepb hb2 (keepb hb1 (bl2 w _ _))
  clear hb1 hb2
  go_wp2
  go_ret
  exact ⟨rfl, kB⟩
end Go.Proofs.YtmeaikmmhgmgnaaGreat
namespace Go.Proofs.YtmeaikmmhgmgnaaGreat
open Go.RowKit
set_option linter.unusedSimpArgs false
set_option linter.unusedVariables false

def withinB (x : BitVec 128) (n : Int) (y : BitVec 128) (m : Int) : Bool := decide (m ≤ n) && (cutW x m == y)
set_option maxHeartbeats 1000000 in
theorem pwithin_any (x : BitVec 128) (n : Int) (y : BitVec 128) (m : Int) (w : World) :
    Calls Tryz.prog 35 #[.agg #[.int .u64 (hI x), .int .u64 (lI x), .int .i64 n], .agg #[.int .u64 (hI y), .int .u64 (lI y), .int .i64 m]] w fun e w' => e = .returned (.bool (withinB x n y m)) ∧ Below w.heap.size w w' := by
  have KH := fun w => has_any y m x w
  unfold withinB
  generalize (cutW x m == y) = b at *
  by_cases h : m ≤ n
  · simp only [h, decide_true, Bool.true_and]
    go_enter Tryz.func35, Tryz.ntmps35
    go_wp2_with fail
    refine (KH _).mono ?_
    rintro e w1 ⟨rfl, hb1⟩
    have kB := keepb hb1 (bl2 w _ _)
    clear hb1
    go_wp2
    go_ret
    exact ⟨rfl, kB⟩
  · simp only [h, decide_false, Bool.false_and]
    go_enter Tryz.func35, Tryz.ntmps35
    go_wp2
    go_ret
    exact ⟨rfl, bl2 _ _ _⟩

def checkE (F : Int) (x : BitVec 128) (n : Int) : Int := if fam F = true then (if n < 0 then 13 else if F < n then 13 else if (cutW x n == x) = true then 0 else 14) else 11
set_option maxHeartbeats 1000000 in
theorem pcheck_any (F : Int) (x : BitVec 128) (n : Int) (w : World) :
    Calls Tryz.prog 89 #[.int .i64 F, .agg #[.int .u64 (hI x), .int .u64 (lI x), .int .i64 n]] w fun e w' => e = .returned (.int .i64 (checkE F x n)) ∧ Below w.heap.size w w' := by
  have KL := fun w => alast_any F w
  unfold lastV lastE at KL
  unfold checkE
  cases h : fam F
  · rw [if_neg (by simp)]
    rw [h, if_neg (by simp), if_neg (by simp), hI_zero, lI_zero] at KL
    clear h
    go_enter Tryz.func89, Tryz.ntmps89
    go_wp2_with fail
    refine (KL _).mono ?_
    rintro e w1 ⟨rfl, hb1⟩
    have kB := keepb hb1 (bl1 w _)
    clear hb1 KL
    go_wp2
    go_ret
    exact ⟨rfl, kB.alloc (by have := kB.size; omega) _⟩
  · rw [if_pos rfl]
    rw [h, if_pos rfl, if_pos rfl] at KL
    clear h
    generalize maskW F = m at *
    have KC := fun w => cut_any x n w
    revert KC
    generalize cutW x n = c
    intro KC
    have hnn : (n == n) = true := by simp
    by_cases h0 : n < 0
    · rw [if_pos h0]
      go_enter Tryz.func89, Tryz.ntmps89
      go_wp2_with fail
      refine (KL _).mono ?_
      rintro e w1 ⟨rfl, hb1⟩
      have kB := keepb hb1 (bl1 w _)
      obtain ⟨p0, p1, p2, -, -, -⟩ := ((atp_new w w.heap.size x n 37 rfl).below hb1).below (bl1 _ (.cells #[.int .u64 (hI m), .int .u64 (lI m)] 35))
      clear hb1 KL
      go_wp2
      go_ret
      exact ⟨rfl, kB.alloc (by have := kB.size; omega) _⟩
    by_cases h1 : F < n
    · rw [if_neg h0, if_pos h1]
      go_enter Tryz.func89, Tryz.ntmps89
      go_wp2_with fail
      refine (KL _).mono ?_
      rintro e w1 ⟨rfl, hb1⟩
      have kB := keepb hb1 (bl1 w _)
      obtain ⟨p0, p1, p2, -, -, -⟩ := ((atp_new w w.heap.size x n 37 rfl).below hb1).below (bl1 _ (.cells #[.int .u64 (hI m), .int .u64 (lI m)] 35))
      clear hb1 KL
      go_wp2
      go_ret
      exact ⟨rfl, kB.alloc (by have := kB.size; omega) _⟩
    rw [if_neg h0, if_neg h1]
    rcases eqw c x with ⟨q1, q2, q3⟩ | ⟨q1, q3⟩ | ⟨q1, q2, q3⟩
    all_goals
      rw [q3]
      first | rw [if_pos rfl] | rw [if_neg (by simp)]
      clear q3
      go_enter Tryz.func89, Tryz.ntmps89
      go_wp2_with fail
      refine (KL _).mono ?_
      rintro e w1 ⟨rfl, hb1⟩
      have kB := keepb hb1 (bl1 w _)
      obtain ⟨p0, p1, p2, -, -, -⟩ := ((atp_new w w.heap.size x n 37 rfl).below hb1).below (bl1 _ (.cells #[.int .u64 (hI m), .int .u64 (lI m)] 35))
      have kB2 := (kB.alloc (by have := kB.size; omega) (.cells #[.int .u64 (hI m), .int .u64 (lI m)] 35)).drew
      clear hb1 KL kB
      go_wp2_with fail
      go_region_held3 (fun w' => w'.cell? ⟨w.heap.size, 0, none⟩ = some (.int .u64 (hI x)) ∧ w'.cell? ⟨w.heap.size, 1, none⟩ = some (.int .u64 (lI x)) ∧ w'.cell? ⟨w.heap.size, 2, none⟩ = some (.int .i64 n) ∧ Below w.heap.size w w')
        (first
          | (obtain ⟨k1, k2, k3, k9⟩ := ‹_ ∧ _›; exact ⟨keepc hb3 k1, keepc hb3 k2, keepc hb3 k3, keepb hb3 k9⟩)
          | exact ⟨p0, p1, p2, kB2⟩)
        (first | (go_at_call 80; refine (KC _).mono ?_; rintro e w3 ⟨rfl, hb3⟩))
      obtain ⟨-, -, -, kB3⟩ := ‹_ ∧ _›
      go_wp2
      go_ret
      exact ⟨rfl, kB3⟩

end Go.Proofs.YtmeaikmmhgmgnaaGreat
namespace Go.Proofs.YtmeaikmmhgmgnaaGreat
open Go.RowKit
set_option linter.unusedSimpArgs false
set_option linter.unusedVariables false

def hexB (c : Int) : Bool := (decide (48 ≤ c) && decide (c ≤ 57)) || (decide (65 ≤ c) && decide (c ≤ 70)) || (decide (97 ≤ c) && decide (c ≤ 102))
def hexV (c : Int) : Int := if 48 ≤ c ∧ c ≤ 57 then c - 48 else if 65 ≤ c ∧ c ≤ 70 then c + 32 - 97 + 10 else if 97 ≤ c ∧ c ≤ 102 then c - 97 + 10 else 0
theorem hex_ways (c : Int) : (c < 48 ∧ hexB c = false ∧ hexV c = 0) ∨ (48 ≤ c ∧ c ≤ 57 ∧ hexB c = true ∧ hexV c = c - 48) ∨ (57 < c ∧ c < 65 ∧ hexB c = false ∧ hexV c = 0) ∨ (65 ≤ c ∧ c ≤ 70 ∧ hexB c = true ∧ hexV c = c + 32 - 97 + 10) ∨ (70 < c ∧ c < 97 ∧ hexB c = false ∧ hexV c = 0) ∨ (97 ≤ c ∧ c ≤ 102 ∧ hexB c = true ∧ hexV c = c - 97 + 10) ∨ (102 < c ∧ hexB c = false ∧ hexV c = 0) := by
  unfold hexB hexV
  by_cases h1 : c < 48
  · left
    have a1 : ¬ 48 ≤ c := by omega
    have a2 : ¬ 97 ≤ c := by omega
    have a3 : ¬ 65 ≤ c := by omega
    simp [a1, a2, a3, h1]
  by_cases h2 : c ≤ 57
  · right; left
    have a1 : 48 ≤ c := by omega
    simp [a1, h2]
  by_cases h3 : c < 65
  · right; right; left
    have a2 : ¬ 97 ≤ c := by omega
    have a3 : ¬ 65 ≤ c := by omega
    simp [h2, a2, a3, h3]; omega
  by_cases h4 : c ≤ 70
  · right; right; right; left
    have a3 : 65 ≤ c := by omega
    simp [h2, a3, h4]
  by_cases h5 : c < 97
  · right; right; right; right; left
    have a2 : ¬ 97 ≤ c := by omega
    simp [h2, a2, h4, h5]; omega
  by_cases h6 : c ≤ 102
  · right; right; right; right; right; left
    have a2 : 97 ≤ c := by omega
    simp [h2, a2, h4, h6]
  · right; right; right; right; right; right
    simp [h2, h4, h6]; omega
theorem hexV_bd (c : Int) : 0 ≤ hexV c ∧ hexV c ≤ 15 := by
  rcases hex_ways c with ⟨a, p, q⟩ | ⟨a, b, p, q⟩ | ⟨a, b, p, q⟩ | ⟨a, b, p, q⟩ | ⟨a, b, p, q⟩ | ⟨a, b, p, q⟩ | ⟨a, p, q⟩ <;> rw [q] <;> omega

set_option maxHeartbeats 1000000 in
theorem adigit_any (c : Int) (w : World) (h0 : 0 ≤ c) (h1 : c ≤ 255) :
    Calls Tryz.prog 132 #[.int .u8 c] w fun e w' => e = .returned (.tuple #[.int .u64 (hexV c), .bool (hexB c)]) ∧ w' = w := by
  rcases hex_ways c with ⟨a, p, q⟩ | ⟨a, b, p, q⟩ | ⟨a, b, p, q⟩ | ⟨a, b, p, q⟩ | ⟨a, b, p, q⟩ | ⟨a, b, p, q⟩ | ⟨a, p, q⟩
  all_goals
    rw [p, q]
    clear p q
    go_enter Tryz.func132, Tryz.ntmps132
    go_wp2
    go_ret2
  all_goals exact ⟨rfl, rfl⟩

theorem or4 (v d : Int) (h0 : 0 ≤ v) (h1 : v < 1152921504606846976) (d0 : 0 ≤ d) (d1 : d ≤ 15) : bits .or .u64 (IntKind.u64.wrap (v * 16)) d = 16 * v + d := by
  obtain ⟨n, rfl⟩ := Int.eq_ofNat_of_zero_le h0
  obtain ⟨m, rfl⟩ := Int.eq_ofNat_of_zero_le d0
  have e1 : IntKind.u64.wrap ((n : Int) * 16) = ((BitVec.ofNat 64 (n * 16)).toNat : Int) := by
    simp [IntKind.wrap, IntKind.bits, IntKind.signed, BitVec.toNat_ofNat]
  have e2 : (m : Int) = ((BitVec.ofNat 64 m).toNat : Int) := by
    simp [BitVec.toNat_ofNat]; omega
  rw [e1, e2, bits64or _ _ _ rfl, BitVec.toNat_or, BitVec.toNat_ofNat, BitVec.toNat_ofNat, Nat.mod_eq_of_lt (by omega), Nat.mod_eq_of_lt (by omega)]
  have := Nat.shiftLeft_add_eq_or_of_lt (b := m) (i := 4) (by omega) n
  rw [Nat.shiftLeft_eq] at this
  rw [show n * 16 = n * 2 ^ 4 from rfl, ← this]; omega

def grpR (t : ByteArray) : Nat → Nat → Int → Int × Int
  | 0, k, v => (v, k)
  | f + 1, k, v => if k < t.size ∧ hexB (byteAt t k) = true then grpR t f (k + 1) (16 * v + hexV (byteAt t k)) else (v, k)
def grpV (t : ByteArray) : Int := (grpR t 4 0 0).1
def grpN (t : ByteArray) : Int := (grpR t 4 0 0).2

set_option maxHeartbeats 1000000 in
theorem group_any (t : ByteArray) (w : World) (hs : t.size ≤ maxLen) :
    Calls Tryz.prog 120 #[.string t] w fun e w' => e = .returned (.tuple #[.int .u64 (grpV t), .int .i64 (grpN t)]) ∧ w' = w := by
  unfold maxLen at hs
  go_enter Tryz.func120, Tryz.ntmps120
  go_wp2
  go_loopw [2, 3] (fun a b wr => ∃ (k : Nat) (v : Int), a = .int .u64 v ∧ b = .int .i64 k ∧ k ≤ 4 ∧ k ≤ t.size ∧ 0 ≤ v ∧ Hid (v < 16 ^ k) ∧ Hid (grpR t (4 - k) k v = grpR t 4 0 0) ∧ wr = w) (fun _ b _ => 4 - (intOf b).toNat)
  case atStart => exact ⟨0, 0, rfl, rfl, by omega, by omega, by omega, by show (0 : Int) < 1; omega, rfl, rfl⟩
  case round =>
    obtain ⟨k, v, rfl, rfl, hk, hkt, v0, HV, HR, rfl⟩ := hrel
    by_cases hlt : k < t.size
    · have hk2 : (k : Int) < (t.size : Int) := by omega
      by_cases hk4 : k < 4
      · have hk5 : (k : Int) < 4 := by omega
        have hbt := byteAt_in t k hlt
        have bd := byteAt_bd t k
        have HU : Hid (4 - k = (4 - (k + 1)) + 1) := by show _ = _; omega
        have HS : Hid (∀ f, grpR t (f + 1) k v = if k < t.size ∧ hexB (byteAt t k) = true then grpR t f (k + 1) (16 * v + hexV (byteAt t k)) else (v, k)) := fun _ => rfl
        generalize byteAt t k = c at *
        have KD := fun w => adigit_any c w bd.1 bd.2
        have db := hexV_bd c
        have HP : Hid ((16 : Int) ^ k ≤ 16 ^ 3) := by
          show _ ≤ _
          rcases (by omega : k = 0 ∨ k = 1 ∨ k = 2 ∨ k = 3) with rfl | rfl | rfl | rfl <;> decide
        have hor := or4 v (hexV c) v0 (by have := HV.out; have := HP.out; omega) db.1 db.2
        cases hd : hexB c
        · have HF : Hid (grpV t = v ∧ grpN t = (k : Int)) := by
            show _ ∧ _
            unfold grpV grpN; rw [← HR.out, HU.out, HS.out, if_neg (by simp [hd])]; exact ⟨rfl, rfl⟩
          rw [hd] at KD
          clear HR HU HS HP HV hd
          go_wp2_with fail
          refine (KD _).mono ?_
          rintro e w1 ⟨rfl, rfl⟩
          clear KD
          go_wp2
          go_ret2
          exact ⟨by rw [HF.out.1, HF.out.2]; rfl, rfl⟩
        · have HF : Hid (grpR t (4 - (k + 1)) (k + 1) (16 * v + hexV c) = grpR t 4 0 0) := by
            show _ = _
            rw [← HR.out, HU.out, HS.out, if_pos ⟨hlt, hd⟩]
          have HV2 : Hid (16 * v + hexV c < 16 ^ (k + 1)) := by
            show _ < _
            have := HV.out
            rw [Int.pow_succ]; omega
          rw [hd] at KD
          clear HR HU HS HP HV hd
          generalize hexV c = d at *
          go_wp2_with fail
          refine (KD _).mono ?_
          rintro e w1 ⟨rfl, rfl⟩
          clear KD
          go_wp2
          go_roundw
          case rel => exact ⟨k + 1, 16 * v + d, rfl, by go_num, by omega, by omega, by omega, HV2, HF, trivial⟩
          case measure => simp [intOf]; omega
      · have HF : Hid (grpV t = v ∧ grpN t = (k : Int)) := by
          show _ ∧ _
          have e : k = 4 := by omega
          subst e
          unfold grpV grpN; rw [← HR.out]; exact ⟨rfl, rfl⟩
        clear HR HV
        have e : k = 4 := by omega
        subst e
        go_wp2
        go_ret2
        exact ⟨by rw [HF.out.1, HF.out.2]; rfl, rfl⟩
    · have HF : Hid (grpV t = v ∧ grpN t = (k : Int)) := by
        show _ ∧ _
        have hn : ∀ f, grpR t f k v = (v, (k : Int)) := by
          intro f; cases f with
          | zero => rfl
          | succ f => show (if _ then _ else _) = _; rw [if_neg (by simp [hlt])]
        unfold grpV grpN; rw [← HR.out, hn]; exact ⟨rfl, rfl⟩
      clear HR HV
      go_wp2
      go_ret2
      exact ⟨by rw [HF.out.1, HF.out.2]; rfl, rfl⟩

set_option maxHeartbeats 1000000 in
theorem hasP_any (t p : ByteArray) (w : World) (hs : t.size ≤ maxLen) (hp : p.size ≤ 2) :
    Calls Tryz.prog 119 #[.string t, .string p] w fun e w' => e = .returned (.bool (decide (p.size ≤ t.size) && ((t.extract 0 p.size).toList == p.toList))) ∧ w' = w := by
  unfold maxLen at hs
  by_cases h : p.size ≤ t.size
  · have h2 : (p.size : Int) ≤ (t.size : Int) := by omega
    go_enter Tryz.func119, Tryz.ntmps119
    go_wp2_with go_in
    go_ret
    exact ⟨by simp [h], rfl⟩
  · have h2 : ¬ (p.size : Int) ≤ (t.size : Int) := by omega
    go_enter Tryz.func119, Tryz.ntmps119
    go_wp2_with go_in
    go_ret
    exact ⟨by simp [h], rfl⟩

theorem byteAt_list (l : List UInt8) (k : Nat) : byteAt ⟨l.toArray⟩ k = match l[k]? with | some c => (c.toNat : Int) | none => 0 := by
  unfold byteAt
  have e : (⟨l.toArray⟩ : ByteArray).size = l.length := rfl
  by_cases h : k < l.length
  · rw [dif_pos (by rw [e]; exact h), List.getElem?_eq_getElem h]; rfl
  · rw [dif_neg (by rw [e]; exact h), List.getElem?_eq_none (by omega)]
theorem byteAt_ext (s : ByteArray) (a k : Nat) : byteAt (s.extract a s.size) k = byteAt s (a + k) := by
  unfold byteAt
  by_cases h : a + k < s.size
  · have h2 : k < (s.extract a s.size).size := by simp; omega
    rw [dif_pos h, dif_pos h2]
    congr 2
    rw [ByteArray.getElem_extract]
  · have h2 : ¬ k < (s.extract a s.size).size := by simp; omega
    rw [dif_neg h, dif_neg h2]
theorem u8_of (c : UInt8) (n : Nat) (h : n < 256) : ((c.toNat : Int) = (n : Int)) ↔ c = UInt8.ofNat n := by
  constructor
  · intro e
    apply UInt8.toNat.inj
    rw [UInt8.toNat_ofNat']; omega
  · intro e
    rw [e, UInt8.toNat_ofNat']; omega
theorem hasP1 (t : ByteArray) (c : Nat) (w : World) (hs : t.size ≤ maxLen) (h0 : 0 < c) (h1 : c < 256) :
    Calls Tryz.prog 119 #[.string t, .string ⟨#[UInt8.ofNat c]⟩] w fun e w' => e = .returned (.bool (decide (byteAt t 0 = c))) ∧ w' = w := by
  have h := hasP_any t ⟨#[UInt8.ofNat c]⟩ w hs (by show 1 ≤ 2; omega)
  rw [Lib.hasPrefix_raw] at h
  have e : Lib.hasPrefix t.data.toList (⟨#[UInt8.ofNat c]⟩ : ByteArray).data.toList = decide (byteAt t 0 = c) := by
    rw [← Lib.mk_data t, byteAt_list]
    cases t.data.toList with
    | nil => simp [Lib.hasPrefix]; omega
    | cons x l =>
      have u := u8_of x c h1
      rw [Bool.eq_iff_iff]
      simp [Lib.hasPrefix, List.isPrefixOf, u]
      exact eq_comm
  rw [e] at h; exact h
theorem hasP2 (t : ByteArray) (w : World) (hs : t.size ≤ maxLen) :
    Calls Tryz.prog 119 #[.string t, .string ⟨#[58, 58]⟩] w fun e w' => e = .returned (.bool (decide (byteAt t 0 = 58 ∧ byteAt t 1 = 58))) ∧ w' = w := by
  have h := hasP_any t ⟨#[58, 58]⟩ w hs (by decide)
  rw [Lib.hasPrefix_raw] at h
  have e : Lib.hasPrefix t.data.toList (⟨#[58, 58]⟩ : ByteArray).data.toList = decide (byteAt t 0 = 58 ∧ byteAt t 1 = 58) := by
    rw [← Lib.mk_data t, byteAt_list, byteAt_list]
    cases t.data.toList with
    | nil => simp [Lib.hasPrefix]
    | cons x l =>
      have u := u8_of x 58 (by decide)
      cases l with
      | nil => simp [Lib.hasPrefix, List.isPrefixOf]
      | cons y l =>
        have v := u8_of y 58 (by decide)
        have u' : ((x.toNat : Int) = 58) ↔ x = 58 := u
        have v' : ((y.toNat : Int) = 58) ↔ y = 58 := v
        rw [Bool.eq_iff_iff]
        simp [Lib.hasPrefix, List.isPrefixOf, u', v']
        rw [eq_comm (a := x), eq_comm (a := y)]
  rw [e] at h; exact h
end Go.Proofs.YtmeaikmmhgmgnaaGreat
namespace Go.Proofs.YtmeaikmmhgmgnaaGreat
open Go.RowKit
set_option linter.unusedSimpArgs false
set_option linter.unusedVariables false

def Fnd (w : World) (B : Nat) (f : Nat → Int) (c : Nat) (p : Int) : Prop :=
  (∀ i, i < 8 → w.cell? ⟨B, i, none⟩ = some (.int .u64 (f i)) ∧ w.frozen? ⟨B, i, none⟩ = false) ∧ w.cell? ⟨B, 8, none⟩ = some (.int .i64 c) ∧ w.frozen? ⟨B, 8, none⟩ = false ∧ w.cell? ⟨B, 9, none⟩ = some (.int .i64 p) ∧ w.frozen? ⟨B, 9, none⟩ = false ∧ B < w.heap.size
def upd (f : Nat → Int) (c : Nat) (v : Int) : Nat → Int := fun i => if i = c then v else f i
theorem Fnd.below {w w' : World} {B : Nat} {f : Nat → Int} {c : Nat} {p : Int} (h : Fnd w B f c p) (hb : Below w.heap.size w w') : Fnd w' B f c p := by
  obtain ⟨h1, h2, h3, h4, h5, h6⟩ := h
  exact ⟨fun i hi => ⟨keepc hb (h1 i hi).1, keepf hb (h1 i hi).1 (h1 i hi).2⟩, keepc hb h2, keepf hb h2 h3, keepc hb h4, keepf hb h4 h5, Nat.lt_of_lt_of_le h6 hb.size⟩

def Only (B : Nat) (w w' : World) : Prop := w'.heap.size = w.heap.size ∧ ∀ C o, ¬ C = B → w'.cell? ⟨C, o, none⟩ = w.cell? ⟨C, o, none⟩ ∧ w'.frozen? ⟨C, o, none⟩ = w.frozen? ⟨C, o, none⟩
theorem At.only {w w' : World} {B C : Nat} {x : BitVec 128} (h : At w C x) (ho : Only B w w') (hn : ¬ C = B) : At w' C x := by
  obtain ⟨h0, h1, h2, h3, h4⟩ := h
  exact ⟨by rw [(ho.2 C 0 hn).1]; exact h0, by rw [(ho.2 C 1 hn).1]; exact h1, by rw [(ho.2 C 0 hn).2]; exact h2, by rw [(ho.2 C 1 hn).2]; exact h3, by rw [ho.1]; exact h4⟩

set_option maxHeartbeats 2000000 in
theorem fadd_any (B : Nat) (f : Nat → Int) (c : Nat) (p v : Int) (w : World) (hF : Fnd w B f c p) (hc : c ≤ 7) :
    Calls Tryz.prog 122 #[.pointer (some ⟨B, 0, none⟩), .int .u64 v] w fun e w' => e = .returned (.bool true) ∧ Fnd w' B (upd f c v) (c + 1) p ∧ Below B w w' ∧ Only B w w' := by
  obtain ⟨h1, h2, h3, h4, h5, h6⟩ := hF
  have hc8 : ¬ (c : Int) = 8 := by omega
  have hcb : ((c : Int) == 8) = false := by simp; omega
  have hcl : (c : Int) < 8 := by omega
  have ⟨k1, k2⟩ := h1 c (by omega)
  have n8 : ¬ c = 8 := by omega
  have n9 : ¬ c = 9 := by omega
  have e8 : (w.setCell ⟨B, c, none⟩ (.int .u64 v)).cell? ⟨B, 8, none⟩ = some (.int .i64 c) := by simp [go_sem, *]
  have f8 : (w.setCell ⟨B, c, none⟩ (.int .u64 v)).frozen? ⟨B, 8, none⟩ = false := by simp [go_sem, *]
  have hF' : Fnd (((w.setCell ⟨B, c, none⟩ (.int .u64 v)).setCell ⟨B, 8, none⟩ (.int .i64 ((c : Int) + 1))).drew) B (upd f c v) (c + 1) p := by
    refine ⟨fun i hi => ?_, ?_, ?_, ?_, ?_, ?_⟩
    · have n : ¬ i = 8 := by omega
      have n' : ¬ 8 = i := by omega
      obtain ⟨q1, q2⟩ := h1 i hi
      by_cases hic : i = c
      · subst hic
        simp [go_sem, upd, *]
      · have hci : ¬ c = i := fun e => hic e.symm
        simp [go_sem, upd, *]
    all_goals simp [go_sem, *]
  have hB' : Below B w (((w.setCell ⟨B, c, none⟩ (.int .u64 v)).setCell ⟨B, 8, none⟩ (.int .i64 ((c : Int) + 1))).drew) := (((Below.refl B w).setCell (p := ⟨B, c, none⟩) (Nat.le_refl _) _).setCell (p := ⟨B, 8, none⟩) (Nat.le_refl _) _).drew
  have hO' : Only B w (((w.setCell ⟨B, c, none⟩ (.int .u64 v)).setCell ⟨B, 8, none⟩ (.int .i64 ((c : Int) + 1))).drew) := by
    refine ⟨by simp, fun C o hn => ?_⟩
    have hn' : ¬ B = C := fun e => hn e.symm
    simp [go_sem, hn, hn']
  clear h1
  go_enter Tryz.func122, Tryz.ntmps122
  go_wp2
  go_region
  go_wp2
  go_ret
  exact ⟨rfl, hF', hB', hO'⟩

theorem fadd_full (B : Nat) (f : Nat → Int) (p v : Int) (w : World) (hF : Fnd w B f 8 p) :
    Calls Tryz.prog 122 #[.pointer (some ⟨B, 0, none⟩), .int .u64 v] w fun e w' => e = .returned (.bool false) ∧ w' = w := by
  obtain ⟨h1, h2, h3, h4, h5, h6⟩ := hF
  have h2' : w.cell? ⟨B, 8, none⟩ = some (.int .i64 8) := h2
  clear h1 h2
  go_enter Tryz.func122, Tryz.ntmps122
  go_wp2
  go_ret
  exact ⟨rfl, rfl⟩

def plc (c : Nat) (p : Int) (k : Nat) : Int := if ¬ p = -1 ∧ p ≤ k then (k : Int) + (8 - c) else k
def sixW (f : Nat → Int) (c : Nat) (p : Int) : Nat → BitVec 128
  | 0 => 0#128
  | k + 1 => layW (sixW f c p k) (plc c p k) 16 (f k)
def finV (f : Nat → Int) (c : Nat) (p : Int) : BitVec 128 := if (p = -1) = (c = 8) then sixW f c p c else 0#128
def finB (c : Nat) (p : Int) : Bool := decide ((p = -1) = (c = 8))

theorem Fnd.other {w : World} {B C : Nat} {f : Nat → Int} {c : Nat} {p : Int} (h : Fnd w B f c p) (hn : ¬ C = B) (u v : Value) : Fnd ((w.setCell ⟨C, 0, none⟩ u).setCell ⟨C, 1, none⟩ v) B f c p := by
  obtain ⟨h1, h2, h3, h4, h5, h6⟩ := h
  have hn' : ¬ B = C := fun e => hn e.symm
  refine ⟨fun i hi => ?_, ?_, ?_, ?_, ?_, ?_⟩
  · obtain ⟨q1, q2⟩ := h1 i hi
    simp [go_sem, *]
  all_goals simp [go_sem, *]

set_option maxHeartbeats 2000000 in
theorem fword_any (B : Nat) (f : Nat → Int) (c : Nat) (p : Int) (w : World) (hF : Fnd w B f c p) (hc : c ≤ 8) (hp : -1 ≤ p) (hp2 : p ≤ 8) (hf : ∀ i, 0 ≤ f i ∧ f i ≤ 65535) :
    Calls Tryz.prog 123 #[.pointer (some ⟨B, 0, none⟩)] w fun e w' => e = .returned (.tuple #[.agg #[.int .u64 (hI (finV f c p)), .int .u64 (lI (finV f c p))], .bool (finB c p)]) ∧ Below w.heap.size w w' := by
  have hF' := hF
  obtain ⟨h1, h2, h3, h4, h5, h6⟩ := hF
  have d0 : ¬ w.heap.size = B := by omega
  by_cases hq : (p = -1) = (c = 8)
  · have HF : Hid (finV f c p = sixW f c p c ∧ finB c p = true) := by
      show _ ∧ _
      unfold finV finB; rw [if_pos hq]; exact ⟨rfl, by simp [hq]⟩
    have hq2 : ((p == -1) == ((c : Int) == 8)) = true := by
      by_cases hp1 : p = -1
      · have : c = 8 := by rw [← hq]; exact hp1
        subst this; subst hp1; rfl
      · have h8 : ¬ c = 8 := by rw [← hq]; exact hp1
        have e1 : (p == -1) = false := by simp [hp1]
        have e2 : ((c : Int) == 8) = false := by simp; omega
        rw [e1, e2]; rfl
    clear hq
    obtain ⟨b, hpb⟩ : ∃ b, (p == -1) = b := ⟨_, rfl⟩
    rw [hpb] at hq2
    have c0 : (0 : Int) ≤ (c : Int) := by omega
    have c8 : (c : Int) ≤ 8 := by omega
    go_enter Tryz.func123, Tryz.ntmps123
    go_wp2
    go_region
    go_wp2
    go_region
    go_wp2
    go_loopw [28] (fun q wr => ∃ k : Nat, k ≤ c ∧ q = .int .i64 k ∧ At wr (w.heap.size + 1) (sixW f c p k) ∧ At wr w.heap.size 0#128 ∧ Fnd wr B f c p ∧ Below w.heap.size w wr) (fun q _ => c - (intOf q).toNat)
    case atStart =>
      refine ⟨0, by omega, rfl, ?_, ?_, ?_, (bl2 w _ _).drew.drew⟩
      · show At _ _ 0#128
        refine ⟨?_, ?_, ?_, ?_, ?_⟩ <;> simp [go_sem, hI_zero, lI_zero]
      · refine ⟨?_, ?_, ?_, ?_, ?_⟩ <;> simp [go_sem, hI_zero, lI_zero]
      · exact hF'.below (bl2 w _ _).drew.drew
    case round =>
      obtain ⟨k, hk, rfl, hA, hZ, hG, hB⟩ := hrel
      clear h1 h2 h3 h4 h5 hF'
      obtain ⟨h1, h2, h3, h4, h5, h6'⟩ := id hG
      by_cases hlt : k < c
      · have hlt2 : (k : Int) < (c : Int) := by omega
        have hk8 : (k : Int) < 8 := by omega
        obtain ⟨l1, l2⟩ := h1 k (by omega)
        obtain ⟨f0, f1⟩ := hf k
        obtain ⟨a0, a1, a2, a3, a4⟩ := id hA
        have HW : Hid (sixW f c p (k + 1) = layW (sixW f c p k) (plc c p k) 16 (f k)) := rfl
        have hpl : 0 ≤ plc c p k ∧ plc c p k ≤ 16 := by unfold plc; split <;> omega
        have HPL : Hid (plc c p k = if ¬ p = -1 ∧ p ≤ k then (k : Int) + (8 - c) else k) := rfl
        have KP := fun w => aput_any (sixW f c p k) (plc c p k) 16 (f k) w f0 (by omega) hpl.1 hpl.2 (by omega) (by omega)
        generalize sixW f c p k = x at *
        generalize plc c p k = pl at *
        generalize f k = v at *
        clear h1 hf
        by_cases hp1 : p = -1
        · have hpk : pl = k := by rw [HPL.out, if_neg (by simp [hp1])]
          subst hpk
          have hne : (p != -1) = false := by simp [hp1]
          clear HPL hp1
          go_wp2_with fail
          refine (KP _).mono ?_
          rintro e w2 ⟨rfl, hb2⟩
          clear KP
          have hA2 := (hA.below hb2).set (layW x (k : Int) 16 v)
          have hZ2 := (hZ.below hb2).other (.int .u64 (hI (layW x (k : Int) 16 v))) (.int .u64 (lI (layW x (k : Int) 16 v))) (C := w.heap.size + 1) (by omega)
          have hG2 := (hG.below hb2).other (C := w.heap.size + 1) (by omega) (.int .u64 (hI (layW x (k : Int) 16 v))) (.int .u64 (lI (layW x (k : Int) 16 v)))
          have hB2 := bset2 (keepb hb2 hB) (C := w.heap.size + 1) (by omega) (.int .u64 (hI (layW x (k : Int) 16 v))) (.int .u64 (lI (layW x (k : Int) 16 v)))
          obtain ⟨b0, b1, b2, b3, b4⟩ := hA.below hb2
          clear hA hZ hB hG hb2 a0 a1 a2 a3 a4 h2 h3 h4 h5 l1 l2
          go_wp2
          go_roundw
          case rel => exact ⟨k + 1, by omega, by go_num, by rw [HW.out]; exact hA2, hZ2, hG2, hB2⟩
          case measure => simp [intOf]; omega
        · have hne : (p != -1) = true := by simp [hp1]
          by_cases hpk : p ≤ k
          · have hpk' : pl = (k : Int) + (8 - c) := by rw [HPL.out, if_pos ⟨hp1, hpk⟩]
            subst hpk'
            clear HPL hp1
            go_wp2_with fail
            refine (KP _).mono ?_
            rintro e w2 ⟨rfl, hb2⟩
            clear KP
            have hA2 := (hA.below hb2).set (layW x ((k : Int) + (8 - c)) 16 v)
            have hZ2 := (hZ.below hb2).other (.int .u64 (hI (layW x ((k : Int) + (8 - c)) 16 v))) (.int .u64 (lI (layW x ((k : Int) + (8 - c)) 16 v))) (C := w.heap.size + 1) (by omega)
            have hG2 := (hG.below hb2).other (C := w.heap.size + 1) (by omega) (.int .u64 (hI (layW x ((k : Int) + (8 - c)) 16 v))) (.int .u64 (lI (layW x ((k : Int) + (8 - c)) 16 v)))
            have hB2 := bset2 (keepb hb2 hB) (C := w.heap.size + 1) (by omega) (.int .u64 (hI (layW x ((k : Int) + (8 - c)) 16 v))) (.int .u64 (lI (layW x ((k : Int) + (8 - c)) 16 v)))
            obtain ⟨b0, b1, b2, b3, b4⟩ := hA.below hb2
            clear hA hZ hB hG hb2 a0 a1 a2 a3 a4 h2 h3 h4 h5 l1 l2
            go_wp2
            go_roundw
            case rel => exact ⟨k + 1, by omega, by go_num, by rw [HW.out]; exact hA2, hZ2, hG2, hB2⟩
            case measure => simp [intOf]; omega
          · have hpk' : pl = k := by rw [HPL.out, if_neg (by simp [hpk])]
            subst hpk'
            clear HPL hp1
            go_wp2_with fail
            refine (KP _).mono ?_
            rintro e w2 ⟨rfl, hb2⟩
            clear KP
            have hA2 := (hA.below hb2).set (layW x (k : Int) 16 v)
            have hZ2 := (hZ.below hb2).other (.int .u64 (hI (layW x (k : Int) 16 v))) (.int .u64 (lI (layW x (k : Int) 16 v))) (C := w.heap.size + 1) (by omega)
            have hG2 := (hG.below hb2).other (C := w.heap.size + 1) (by omega) (.int .u64 (hI (layW x (k : Int) 16 v))) (.int .u64 (lI (layW x (k : Int) 16 v)))
            have hB2 := bset2 (keepb hb2 hB) (C := w.heap.size + 1) (by omega) (.int .u64 (hI (layW x (k : Int) 16 v))) (.int .u64 (lI (layW x (k : Int) 16 v)))
            obtain ⟨b0, b1, b2, b3, b4⟩ := hA.below hb2
            clear hA hZ hB hG hb2 a0 a1 a2 a3 a4 h2 h3 h4 h5 l1 l2
            go_wp2
            go_roundw
            case rel => exact ⟨k + 1, by omega, by go_num, by rw [HW.out]; exact hA2, hZ2, hG2, hB2⟩
            case measure => simp [intOf]; omega
      · have hkc : k = c := by omega
        subst hkc
        obtain ⟨a0, a1, a2, a3, a4⟩ := hA
        obtain ⟨z0, z1, z2, z3, z4⟩ := hZ
        clear h1 hf hG
        go_wp2
        exact bodyPost_ret (v := .tuple #[.agg #[.int .u64 (hI (sixW f k p k)), .int .u64 (lI (sixW f k p k))], .bool true]) (by simp [results, Tryz.results123, go_sem, *]) rfl ⟨by rw [HF.out.1, HF.out.2], bset2 hB (Nat.le_refl _) _ _⟩
  · have HF : Hid (finV f c p = 0#128 ∧ finB c p = false) := by
      show _ ∧ _
      unfold finV finB; rw [if_neg hq]; exact ⟨rfl, by simp only [decide_eq_false_iff_not]; exact hq⟩
    have hq2 : ((p == -1) == ((c : Int) == 8)) = false := by
      by_cases hp1 : p = -1
      · have h8 : ¬ c = 8 := fun e => hq (by simp [hp1, e])
        have e1 : (p == -1) = true := by simp [hp1]
        have e2 : ((c : Int) == 8) = false := by simp; omega
        rw [e1, e2]; rfl
      · have h8 : c = 8 := by
          apply Classical.byContradiction; intro e; exact hq (by simp [hp1, e])
        have e1 : (p == -1) = false := by simp [hp1]
        have e2 : ((c : Int) == 8) = true := by simp; omega
        rw [e1, e2]; rfl
    clear hq h1 hf
    go_enter Tryz.func123, Tryz.ntmps123
    go_wp2
    go_region
    go_wp2
    exact bodyPost_ret (v := .tuple #[.agg #[.int .u64 0, .int .u64 0], .bool false]) (by simp [results, Tryz.results123, go_sem, *]) rfl ⟨by rw [HF.out.1, HF.out.2, hI_zero, lI_zero], (bl1 w _).drew⟩
end Go.Proofs.YtmeaikmmhgmgnaaGreat
