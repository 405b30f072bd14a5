/-
  Part 11 of the proof: 4 texts, one behind the other.
-/
import Derived.Test.YtofpbommhklooaaPart1
import Derived.Test.YtofpbommhklooaaPart10
import Derived.Test.YtofpbommhklooaaPart8
import Derived.Test.YtofpbommhklooaaPart9
/-
  What the calls of math/bits that count do.
-/
namespace Go.Proofs.Ytofpbommhklooaa
open Go.RowKit
set_option linter.unusedSimpArgs false
set_option linter.unusedVariables false

theorem len_sum (x y : Int) (k : Nat) (hx : 0 ≤ x) (hy : y = x / 2 ^ k) (h : 0 < y ∨ k = 0) : ((bitLen x.toNat : Nat) : Int) = k + bitLen y.toNat := by
  rcases h with h | h
  · have e : y.toNat = x.toNat / 2 ^ k := by
      rw [hy]
      obtain ⟨n, rfl⟩ := Int.eq_ofNat_of_zero_le hx
      have : ((n : Int) / 2 ^ k) = ((n / 2 ^ k : Nat) : Int) := by simp
      rw [this]; rfl
    have h2 : x.toNat / 2 ^ k ≠ 0 := by omega
    rw [bitLen_shift x.toNat k h2, e]; omega
  · subst h; simp at hy; subst hy; simp
theorem len_wrap (k : Int) (a : Nat) (ha : a ≤ 8) (h0 : 0 ≤ k) (h1 : k ≤ 56) : wrap64 (k + wrap64 (a : Int)) = k + a := by
  unfold wrap64; omega
theorem len_wrap0 (a : Nat) (ha : a ≤ 8) : wrap64 (wrap64 (a : Int)) = (a : Int) := by
  unfold wrap64; omega

set_option maxHeartbeats 1000000 in
set_option maxRecDepth 1000000 in
theorem len_0 (x : Int) (w : World) (h0 : 0 ≤ x) (h1 : x < 18446744073709551616) (a0 : ¬ 4294967296 ≤ x) (a1 : ¬ 65536 ≤ x) (a2 : ¬ 256 ≤ x) :
    Calls Try.prog 79 #[.int .u64 x] w fun e w' => e = .returned (.int .i64 ((bitLen x.toNat : Nat) : Int)) ∧ w' = w := by
  have hy : 0 ≤ x ∧ x < 256 := by omega
  have HF : Hid (((bitLen x.toNat : Nat) : Int) = 0 + bitLen (x).toNat) := len_sum x (x) 0 h0 (by omega) (by omega)
  go_enter Try.func79, Try.ntmps79
  go_wp2
  go_ret
  refine ⟨congrArg Ending.returned (congrArg (Value.int IntKind.i64) ?_), rfl⟩
  rw [HF.out, len8tab_get]
  rw [len_wrap0 _ (bitLen_le8 _ (by omega))]; omega
set_option maxHeartbeats 1000000 in
set_option maxRecDepth 1000000 in
theorem len_1 (x : Int) (w : World) (h0 : 0 ≤ x) (h1 : x < 18446744073709551616) (a0 : ¬ 4294967296 ≤ x) (a1 : ¬ 65536 ≤ x) (a2 : 256 ≤ x) :
    Calls Try.prog 79 #[.int .u64 x] w fun e w' => e = .returned (.int .i64 ((bitLen x.toNat : Nat) : Int)) ∧ w' = w := by
  have hy : 0 ≤ (x / 256) ∧ (x / 256) < 256 := by omega
  have HF : Hid (((bitLen x.toNat : Nat) : Int) = 8 + bitLen ((x / 256)).toNat) := len_sum x ((x / 256)) 8 h0 (by omega) (by omega)
  go_enter Try.func79, Try.ntmps79
  go_wp2
  go_ret
  refine ⟨congrArg Ending.returned (congrArg (Value.int IntKind.i64) ?_), rfl⟩
  rw [HF.out, len8tab_get]
  exact len_wrap 8 _ (bitLen_le8 _ (by omega)) (by omega) (by omega)
set_option maxHeartbeats 1000000 in
set_option maxRecDepth 1000000 in
theorem len_2 (x : Int) (w : World) (h0 : 0 ≤ x) (h1 : x < 18446744073709551616) (a0 : ¬ 4294967296 ≤ x) (a1 : 65536 ≤ x) (a2 : ¬ 256 ≤ (x / 65536)) :
    Calls Try.prog 79 #[.int .u64 x] w fun e w' => e = .returned (.int .i64 ((bitLen x.toNat : Nat) : Int)) ∧ w' = w := by
  have hy : 0 ≤ (x / 65536) ∧ (x / 65536) < 256 := by omega
  have HF : Hid (((bitLen x.toNat : Nat) : Int) = 16 + bitLen ((x / 65536)).toNat) := len_sum x ((x / 65536)) 16 h0 (by omega) (by omega)
  go_enter Try.func79, Try.ntmps79
  go_wp2
  go_ret
  refine ⟨congrArg Ending.returned (congrArg (Value.int IntKind.i64) ?_), rfl⟩
  rw [HF.out, len8tab_get]
  exact len_wrap 16 _ (bitLen_le8 _ (by omega)) (by omega) (by omega)
set_option maxHeartbeats 1000000 in
set_option maxRecDepth 1000000 in
theorem len_3 (x : Int) (w : World) (h0 : 0 ≤ x) (h1 : x < 18446744073709551616) (a0 : ¬ 4294967296 ≤ x) (a1 : 65536 ≤ x) (a2 : 256 ≤ (x / 65536)) :
    Calls Try.prog 79 #[.int .u64 x] w fun e w' => e = .returned (.int .i64 ((bitLen x.toNat : Nat) : Int)) ∧ w' = w := by
  have hy : 0 ≤ ((x / 65536) / 256) ∧ ((x / 65536) / 256) < 256 := by omega
  have HF : Hid (((bitLen x.toNat : Nat) : Int) = 24 + bitLen (((x / 65536) / 256)).toNat) := len_sum x (((x / 65536) / 256)) 24 h0 (by omega) (by omega)
  go_enter Try.func79, Try.ntmps79
  go_wp2
  go_ret
  refine ⟨congrArg Ending.returned (congrArg (Value.int IntKind.i64) ?_), rfl⟩
  rw [HF.out, len8tab_get]
  exact len_wrap 24 _ (bitLen_le8 _ (by omega)) (by omega) (by omega)
set_option maxHeartbeats 1000000 in
set_option maxRecDepth 1000000 in
theorem len_4 (x : Int) (w : World) (h0 : 0 ≤ x) (h1 : x < 18446744073709551616) (a0 : 4294967296 ≤ x) (a1 : ¬ 65536 ≤ (x / 4294967296)) (a2 : ¬ 256 ≤ (x / 4294967296)) :
    Calls Try.prog 79 #[.int .u64 x] w fun e w' => e = .returned (.int .i64 ((bitLen x.toNat : Nat) : Int)) ∧ w' = w := by
  have hy : 0 ≤ (x / 4294967296) ∧ (x / 4294967296) < 256 := by omega
  have HF : Hid (((bitLen x.toNat : Nat) : Int) = 32 + bitLen ((x / 4294967296)).toNat) := len_sum x ((x / 4294967296)) 32 h0 (by omega) (by omega)
  go_enter Try.func79, Try.ntmps79
  go_wp2
  go_ret
  refine ⟨congrArg Ending.returned (congrArg (Value.int IntKind.i64) ?_), rfl⟩
  rw [HF.out, len8tab_get]
  exact len_wrap 32 _ (bitLen_le8 _ (by omega)) (by omega) (by omega)
set_option maxHeartbeats 1000000 in
set_option maxRecDepth 1000000 in
theorem len_5 (x : Int) (w : World) (h0 : 0 ≤ x) (h1 : x < 18446744073709551616) (a0 : 4294967296 ≤ x) (a1 : ¬ 65536 ≤ (x / 4294967296)) (a2 : 256 ≤ (x / 4294967296)) :
    Calls Try.prog 79 #[.int .u64 x] w fun e w' => e = .returned (.int .i64 ((bitLen x.toNat : Nat) : Int)) ∧ w' = w := by
  have hy : 0 ≤ ((x / 4294967296) / 256) ∧ ((x / 4294967296) / 256) < 256 := by omega
  have HF : Hid (((bitLen x.toNat : Nat) : Int) = 40 + bitLen (((x / 4294967296) / 256)).toNat) := len_sum x (((x / 4294967296) / 256)) 40 h0 (by omega) (by omega)
  go_enter Try.func79, Try.ntmps79
  go_wp2
  go_ret
  refine ⟨congrArg Ending.returned (congrArg (Value.int IntKind.i64) ?_), rfl⟩
  rw [HF.out, len8tab_get]
  exact len_wrap 40 _ (bitLen_le8 _ (by omega)) (by omega) (by omega)
set_option maxHeartbeats 1000000 in
set_option maxRecDepth 1000000 in
theorem len_6 (x : Int) (w : World) (h0 : 0 ≤ x) (h1 : x < 18446744073709551616) (a0 : 4294967296 ≤ x) (a1 : 65536 ≤ (x / 4294967296)) (a2 : ¬ 256 ≤ ((x / 4294967296) / 65536)) :
    Calls Try.prog 79 #[.int .u64 x] w fun e w' => e = .returned (.int .i64 ((bitLen x.toNat : Nat) : Int)) ∧ w' = w := by
  have hy : 0 ≤ ((x / 4294967296) / 65536) ∧ ((x / 4294967296) / 65536) < 256 := by omega
  have HF : Hid (((bitLen x.toNat : Nat) : Int) = 48 + bitLen (((x / 4294967296) / 65536)).toNat) := len_sum x (((x / 4294967296) / 65536)) 48 h0 (by omega) (by omega)
  go_enter Try.func79, Try.ntmps79
  go_wp2
  go_ret
  refine ⟨congrArg Ending.returned (congrArg (Value.int IntKind.i64) ?_), rfl⟩
  rw [HF.out, len8tab_get]
  exact len_wrap 48 _ (bitLen_le8 _ (by omega)) (by omega) (by omega)
set_option maxHeartbeats 1000000 in
set_option maxRecDepth 1000000 in
theorem len_7 (x : Int) (w : World) (h0 : 0 ≤ x) (h1 : x < 18446744073709551616) (a0 : 4294967296 ≤ x) (a1 : 65536 ≤ (x / 4294967296)) (a2 : 256 ≤ ((x / 4294967296) / 65536)) :
    Calls Try.prog 79 #[.int .u64 x] w fun e w' => e = .returned (.int .i64 ((bitLen x.toNat : Nat) : Int)) ∧ w' = w := by
  have hy : 0 ≤ (((x / 4294967296) / 65536) / 256) ∧ (((x / 4294967296) / 65536) / 256) < 256 := by omega
  have HF : Hid (((bitLen x.toNat : Nat) : Int) = 56 + bitLen ((((x / 4294967296) / 65536) / 256)).toNat) := len_sum x ((((x / 4294967296) / 65536) / 256)) 56 h0 (by omega) (by omega)
  go_enter Try.func79, Try.ntmps79
  go_wp2
  go_ret
  refine ⟨congrArg Ending.returned (congrArg (Value.int IntKind.i64) ?_), rfl⟩
  rw [HF.out, len8tab_get]
  exact len_wrap 56 _ (bitLen_le8 _ (by omega)) (by omega) (by omega)
theorem len_any (x : Int) (w : World) (h0 : 0 ≤ x) (h1 : x < 18446744073709551616) :
    Calls Try.prog 79 #[.int .u64 x] w fun e w' => e = .returned (.int .i64 ((bitLen x.toNat : Nat) : Int)) ∧ w' = w := by
  by_cases a0 : 4294967296 ≤ x
  · by_cases a1 : 65536 ≤ (x / 4294967296)
    · by_cases a2 : 256 ≤ ((x / 4294967296) / 65536)
      · exact len_7 x w h0 h1 a0 a1 a2
      · exact len_6 x w h0 h1 a0 a1 a2
    · by_cases a2 : 256 ≤ (x / 4294967296)
      · exact len_5 x w h0 h1 a0 a1 a2
      · exact len_4 x w h0 h1 a0 a1 a2
  · by_cases a1 : 65536 ≤ x
    · by_cases a2 : 256 ≤ (x / 65536)
      · exact len_3 x w h0 h1 a0 a1 a2
      · exact len_2 x w h0 h1 a0 a1 a2
    · by_cases a2 : 256 ≤ x
      · exact len_1 x w h0 h1 a0 a1 a2
      · exact len_0 x w h0 h1 a0 a1 a2

theorem wrapu_nat (n : Nat) (h : n < 18446744073709551616) : IntKind.u64.wrap (n : Int) = (n : Int) := wrap_nat n h
theorem m85 : mm 85 8 = 6148914691236517205 := by decide
theorem m51 : mm 51 8 = 3689348814741910323 := by decide
theorem m15 : mm 15 8 = 1085102592571150095 := by decide
theorem bm_lt (f : Nat → Nat) (hf : ∀ b : Fin 256, f b.val < 256) (k : Nat) : ∀ x, bm f k x < 256 ^ k := by
  induction k with
  | zero => intro x; simp [bm]
  | succ k ih =>
    intro x; have := ih (x / 256); have h := hf ⟨x % 256, by omega⟩; simp only at h
    simp only [bm]; rw [Nat.pow_succ]; omega
theorem bm1_lt (x : Nat) : bm f1 8 x < 18446744073709551616 := bm_lt f1 (fun b => (b4 b).1) 8 x
theorem bm2_lt (x : Nat) : bm (fun b => f2 (f1 b)) 8 x < 4 * 256 ^ 8 / 8 := by
  have h : ∀ k x, bm (fun b => f2 (f1 b)) k x ≤ 68 * mm 1 k := by
    intro k; induction k with
    | zero => intro x; simp [bm, mm]
    | succ k ih =>
      intro x; have := ih (x / 256); have h1 := (b4 ⟨x % 256, by omega⟩).2.1; have h2 := (b4 ⟨x % 256, by omega⟩).2.2.1; simp only at h1 h2
      simp only [bm, mm]; omega
  have := h 8 x
  have e : mm 1 8 = 72340172838076673 := by decide
  rw [e] at this; omega
theorem s1 (x : Nat) (h : x < 18446744073709551616) : IntKind.u64.wrap (bits .and .u64 ((x : Int) / 2) 6148914691236517205 + bits .and .u64 (x : Int) 6148914691236517205) = ((bm f1 8 x : Nat) : Int) := by
  have e : ((x : Int) / 2) = ((x / 2 : Nat) : Int) := by omega
  have a1 : bits .and .u64 ((x / 2 : Nat) : Int) 6148914691236517205 = ((x / 2 &&& 6148914691236517205 : Nat) : Int) := bits_and_u64_nat (x / 2) 6148914691236517205 (by omega) (by decide)
  have a2 : bits .and .u64 (x : Int) 6148914691236517205 = ((x &&& 6148914691236517205 : Nat) : Int) := bits_and_u64_nat x 6148914691236517205 h (by decide)
  have l := l1 8 x
  rw [m85] at l
  rw [e, a1, a2, ← Int.natCast_add, l]
  exact wrapu_nat _ (bm1_lt x)
theorem s2 (x : Nat) : IntKind.u64.wrap (bits .and .u64 (((bm f1 8 x : Nat) : Int) / 4) 3689348814741910323 + bits .and .u64 ((bm f1 8 x : Nat) : Int) 3689348814741910323) = ((bm (fun b => f2 (f1 b)) 8 x : Nat) : Int) := by
  have h := bm1_lt x
  have e : (((bm f1 8 x : Nat) : Int) / 4) = ((bm f1 8 x / 4 : Nat) : Int) := by omega
  have a1 : bits .and .u64 ((bm f1 8 x / 4 : Nat) : Int) 3689348814741910323 = ((bm f1 8 x / 4 &&& 3689348814741910323 : Nat) : Int) := bits_and_u64_nat (bm f1 8 x / 4) 3689348814741910323 (by omega) (by decide)
  have a2 : bits .and .u64 ((bm f1 8 x : Nat) : Int) 3689348814741910323 = ((bm f1 8 x &&& 3689348814741910323 : Nat) : Int) := bits_and_u64_nat (bm f1 8 x) 3689348814741910323 h (by decide)
  have l := l2 8 (bm f1 8 x)
  rw [m51, bm_bm] at l
  rw [e, a1, a2, ← Int.natCast_add, l]
  have := bm2_lt x
  exact wrapu_nat _ (by omega)
theorem s3 (x : Nat) : bits .and .u64 (IntKind.u64.wrap (((bm (fun b => f2 (f1 b)) 8 x : Nat) : Int) / 16 + ((bm (fun b => f2 (f1 b)) 8 x : Nat) : Int))) 1085102592571150095 = ((bm ocB 8 x : Nat) : Int) := by
  have h := bm2_lt x
  have l := l3 8 x
  rw [m15] at l
  generalize bm (fun b => f2 (f1 b)) 8 x = y at *
  have e : ((y : Int) / 16 + (y : Int)) = ((y / 16 + y : Nat) : Int) := by omega
  have a1 : bits .and .u64 ((y / 16 + y : Nat) : Int) 1085102592571150095 = (((y / 16 + y) &&& 1085102592571150095 : Nat) : Int) := bits_and_u64_nat (y / 16 + y) 1085102592571150095 (by omega) (by decide)
  rw [e, wrapu_nat _ (by omega), a1, l]

theorem oc_end (z : Nat) (h : z < 9223372036854775808) : bits .and .i64 (z : Int) 127 = ((z % 128 : Nat) : Int) := by
  have e8 := bits_mask .i64 63 (by decide) (fun n a b => by rw [IntKind.wrap_i64]; omega) 7 (by decide) (z : Int) (by omega) (by omega)
  have e9 : bits .and .i64 (z : Int) 127 = (z : Int) % 128 := by simpa using e8
  rw [e9]; omega

end Go.Proofs.Ytofpbommhklooaa
/-
  What the calls of package word that count do.
-/
namespace Go.Proofs.Ytofpbommhklooaa
open Go.RowKit
set_option linter.unusedSimpArgs false
set_option linter.unusedVariables false

/-- How many bits are set. -/
def onesN (x : BitVec 128) : Nat := oc 8 (hv x).toNat + oc 8 (lv x).toNat
theorem ones_not (x : BitVec 128) : onesN x + onesN (~~~x) = 128 := by
  have a := oc_not 8 (hv x).toNat (hv x).isLt
  have b := oc_not 8 (lv x).toNat (lv x).isLt
  have eh : (hv (~~~x)).toNat = 256 ^ 8 - 1 - (hv x).toNat := by
    have : hv (~~~x) = ~~~(hv x) := by rw [hv_not]; apply BitVec.eq_of_getLsbD_eq; intro i hi; simp only [BitVec.getLsbD_xor, BitVec.getLsbD_not, BitVec.getLsbD_allOnes, hi, decide_true, Bool.true_xor, Bool.true_and]
    rw [this, BitVec.toNat_not]
  have el : (lv (~~~x)).toNat = 256 ^ 8 - 1 - (lv x).toNat := by
    have : lv (~~~x) = ~~~(lv x) := by rw [lv_not]; apply BitVec.eq_of_getLsbD_eq; intro i hi; simp only [BitVec.getLsbD_xor, BitVec.getLsbD_not, BitVec.getLsbD_allOnes, hi, decide_true, Bool.true_xor, Bool.true_and]
    rw [this, BitVec.toNat_not]
  unfold onesN; rw [eh, el]; omega

theorem lead_hi (x : BitVec 128) (h : ¬ hI x = 0) : 64 - bitLen (hI x).toNat = leadN x ∧ bitLen (hI x).toNat ≤ 64 := by
  have e : (hI x).toNat = x.toNat / 2 ^ 64 := by rw [hIN]; rfl
  have hlo := hI_lo x
  have hn : x.toNat / 2 ^ 64 ≠ 0 := by omega
  have hx : x.toNat ≠ 0 := by intro h0; rw [h0] at hn; simp at hn
  have hs := bitLen_shift x.toNat 64 hn
  have hl : x.toNat.log2 < 128 := (Nat.log2_lt hx).mpr x.isLt
  rw [e]
  unfold leadN; rw [if_neg hx]
  have hb : bitLen x.toNat = x.toNat.log2 + 1 := by unfold bitLen; rw [if_neg hx]
  constructor <;> omega
theorem lead_lo (x : BitVec 128) (h : hI x = 0) : 64 + (64 - bitLen (lI x).toNat) = leadN x ∧ bitLen (lI x).toNat ≤ 64 := by
  have e : (lI x).toNat = x.toNat := by rw [lIN]; rw [hIN] at h; omega
  have hlt : x.toNat < 2 ^ 64 := by have := lI_up x; have := lI_lo x; omega
  rw [e]
  unfold leadN bitLen
  by_cases hx : x.toNat = 0
  · simp [hx]
  · rw [if_neg hx, if_neg hx]
    have := (Nat.log2_lt hx).mpr hlt
    constructor <;> omega

set_option maxHeartbeats 1000000 in
theorem lead_any (x : BitVec 128) (w : World) :
    Calls Try.prog 74 #[.agg #[.int .u64 (hI x), .int .u64 (lI x)]] w fun e w' => e = .returned (.int .i64 ((leadN x : Nat) : Int)) ∧ Below w.heap.size w w' := by
  by_cases h : hI x = 0
  · have hl := lead_lo x h
    have hc := fun w => len_any (lI x) w (lI_lo x) (lI_up x)
    generalize bitLen (lI x).toNat = a at *
    obtain ⟨h1, h2⟩ := hl
    have HE : Hid (64 + (64 - a) = leadN x) := h1
    clear h1
    have a1 : (a : Int) ≤ 64 := by omega
    go_enter Try.func74, Try.ntmps74
    go_wp2_with (first | (go_at_call 79; refine (hc _).mono ?_; rintro e w' ⟨rfl, rfl⟩) | go_in)
    go_ret
    refine ⟨congrArg Ending.returned (congrArg (Value.int IntKind.i64) ?_), bl1 _ _⟩
    rw [← HE.out]
    show (64 : Int) + (64 - (a : Int)) = _
    omega
  · have hl := lead_hi x h
    have hc := fun w => len_any (hI x) w (hI_lo x) (hI_up x)
    generalize bitLen (hI x).toNat = a at *
    obtain ⟨h1, h2⟩ := hl
    have HE : Hid (64 - a = leadN x) := h1
    clear h1
    have a1 : (a : Int) ≤ 64 := by omega
    go_enter Try.func74, Try.ntmps74
    go_wp2_with (first | (go_at_call 79; refine (hc _).mono ?_; rintro e w' ⟨rfl, rfl⟩) | go_in)
    go_ret
    refine ⟨congrArg Ending.returned (congrArg (Value.int IntKind.i64) ?_), bl1 _ _⟩
    rw [← HE.out]
    show (64 : Int) - (a : Int) = _
    omega

set_option maxHeartbeats 1000000 in
theorem wcommon_any (x y : BitVec 128) (w : World) :
    Calls Try.prog 68 #[.agg #[.int .u64 (hI x), .int .u64 (lI x)], .agg #[.int .u64 (hI y), .int .u64 (lI y)]] w fun e w' => e = .returned (.int .i64 ((leadN (x ^^^ y) : Nat) : Int)) ∧ Below w.heap.size w w' := by
  go_enter Try.func68, Try.ntmps68
  go_wp2_with fail
  refine (xor_any _ _ _).mono ?_
  rintro e w1 ⟨rfl, hb1⟩
  go_wp2_with fail
  refine (lead_any _ _).mono ?_
  rintro e w2 ⟨rfl, hb2⟩
  have kB := keepb hb2 (keepb hb1 (bl2 w _ _))
  clear hb1 hb2
  go_wp2
  go_ret
  exact ⟨rfl, kB⟩
end Go.Proofs.Ytofpbommhklooaa
/-
  What the calls of package prefix's Within, Check, Of, Parent, Sibling, Meet, Cmp do.
-/
namespace Go.Proofs.Ytofpbommhklooaa
open Go.RowKit
set_option linter.unusedSimpArgs false
set_option linter.unusedVariables false

def withinB (x : BitVec 128) (n : Int) (y : BitVec 128) (m : Int) : Bool := decide (m ≤ n) && (cutW x m == y)
def checkE (F : Int) (x : BitVec 128) (n : Int) : Int := if fam F = true then (if n < 0 then 13 else if F < n then 13 else if (cutW x n == x) = true then 0 else 14) else 11
set_option maxHeartbeats 1000000 in
theorem pcheck_any (F : Int) (x : BitVec 128) (n : Int) (w : World) :
    Calls Try.prog 35 #[.int .i64 F, .agg #[.int .u64 (hI x), .int .u64 (lI x), .int .i64 n]] w fun e w' => e = .returned (.int .i64 (checkE F x n)) ∧ Below w.heap.size w w' := by
  have KL := fun w => alast_any F w
  unfold lastV lastE at KL
  unfold checkE
  cases h : fam F
  · rw [if_neg (by simp)]
    rw [h, if_neg (by simp), if_neg (by simp), hI_zero, lI_zero] at KL
    clear h
    go_enter Try.func35, Try.ntmps35
    go_wp2_with fail
    refine (KL _).mono ?_
    rintro e w1 ⟨rfl, hb1⟩
    have kB := keepb hb1 (bl1 w _)
    clear hb1 KL
    go_wp2
    go_ret
    exact ⟨rfl, kB.alloc (by have := kB.size; omega) _⟩
  · rw [if_pos rfl]
    rw [h, if_pos rfl, if_pos rfl] at KL
    clear h
    generalize maskW F = m at *
    have KC := fun w => cut_any x n w
    revert KC
    generalize cutW x n = c
    intro KC
    have hnn : (n == n) = true := by simp
    by_cases h0 : n < 0
    · rw [if_pos h0]
      go_enter Try.func35, Try.ntmps35
      go_wp2_with fail
      refine (KL _).mono ?_
      rintro e w1 ⟨rfl, hb1⟩
      have kB := keepb hb1 (bl1 w _)
      obtain ⟨p0, p1, p2, -, -, -⟩ := ((atp_new w w.heap.size x n 45 rfl).below hb1).below (bl1 _ (.cells #[.int .u64 (hI m), .int .u64 (lI m)] 27))
      clear hb1 KL
      go_wp2
      go_ret
      exact ⟨rfl, kB.alloc (by have := kB.size; omega) _⟩
    by_cases h1 : F < n
    · rw [if_neg h0, if_pos h1]
      go_enter Try.func35, Try.ntmps35
      go_wp2_with fail
      refine (KL _).mono ?_
      rintro e w1 ⟨rfl, hb1⟩
      have kB := keepb hb1 (bl1 w _)
      obtain ⟨p0, p1, p2, -, -, -⟩ := ((atp_new w w.heap.size x n 45 rfl).below hb1).below (bl1 _ (.cells #[.int .u64 (hI m), .int .u64 (lI m)] 27))
      clear hb1 KL
      go_wp2
      go_ret
      exact ⟨rfl, kB.alloc (by have := kB.size; omega) _⟩
    rw [if_neg h0, if_neg h1]
    rcases eqw c x with ⟨q1, q2, q3⟩ | ⟨q1, q3⟩ | ⟨q1, q2, q3⟩
    all_goals
      rw [q3]
      first | rw [if_pos rfl] | rw [if_neg (by simp)]
      clear q3
      go_enter Try.func35, Try.ntmps35
      go_wp2_with fail
      refine (KL _).mono ?_
      rintro e w1 ⟨rfl, hb1⟩
      have kB := keepb hb1 (bl1 w _)
      obtain ⟨p0, p1, p2, -, -, -⟩ := ((atp_new w w.heap.size x n 45 rfl).below hb1).below (bl1 _ (.cells #[.int .u64 (hI m), .int .u64 (lI m)] 27))
      have kB2 := (kB.alloc (by have := kB.size; omega) (.cells #[.int .u64 (hI m), .int .u64 (lI m)] 27)).drew
      clear hb1 KL kB
      go_wp2_with fail
      go_region_held3 (fun w' => w'.cell? ⟨w.heap.size, 0, none⟩ = some (.int .u64 (hI x)) ∧ w'.cell? ⟨w.heap.size, 1, none⟩ = some (.int .u64 (lI x)) ∧ w'.cell? ⟨w.heap.size, 2, none⟩ = some (.int .i64 n) ∧ Below w.heap.size w w')
        (first
          | (obtain ⟨k1, k2, k3, k9⟩ := ‹_ ∧ _›; exact ⟨keepc hb3 k1, keepc hb3 k2, keepc hb3 k3, keepb hb3 k9⟩)
          | exact ⟨p0, p1, p2, kB2⟩)
        (first | (go_at_call 61; refine (KC _).mono ?_; rintro e w3 ⟨rfl, hb3⟩))
      obtain ⟨-, -, -, kB3⟩ := ‹_ ∧ _›
      go_wp2
      go_ret
      exact ⟨rfl, kB3⟩

def ofE (F : Int) (x : BitVec 128) (n : Int) : Int := if rightE F x = 0 then checkE F (cutW x n) n else rightE F x
def ofV (F : Int) (x : BitVec 128) (n : Int) : BitVec 128 := if ofE F x n = 0 then cutW x n else 0#128
def ofN (F : Int) (x : BitVec 128) (n : Int) : Int := if ofE F x n = 0 then n else 0
end Go.Proofs.Ytofpbommhklooaa
/-
  The sequence of the nodes on an address's way: Path and way.each.
-/
namespace Go.Proofs.Ytofpbommhklooaa
open Go.RowKit Go.Shelf
set_option linter.unusedSimpArgs false
set_option linter.unusedVariables false
attribute [local go_sem] Oper.semAt_some

/-- The node behind one on an address's way. -/
def nxtW (L : List Nd) (x : BitVec 128) (n : Int) : Int := kidV L n (bitZ x (ndAt L n).length)
def wayL (L : List Nd) (x : BitVec 128) : Nat → Int → List Int
  | 0, _ => []
  | k + 1, n => n :: wayL L x k (nxtW L x n)
/-- So many nodes, and the way ends. -/
def WayTo (L : List Nd) (x : BitVec 128) : Nat → Int → Prop
  | 0, n => n = -1
  | k + 1, n => isN L n = true ∧ WayTo L x k (nxtW L x n)
theorem way_one (L : List Nd) (x : BitVec 128) : ∀ (m m' : Nat) (y : Int), WayTo L x m y → WayTo L x m' y → m = m'
  | 0, 0, _, _, _ => rfl
  | 0, m' + 1, y, h, g => by rw [show y = -1 from h] at g; exact absurd g.1 (by simp [isN])
  | m + 1, 0, y, h, g => by rw [show y = -1 from g] at h; exact absurd h.1 (by simp [isN])
  | m + 1, m' + 1, y, h, g => by rw [way_one L x m m' _ h.2 g.2]
open Classical in
theorem muW_ex (L : List Nd) (x : BitVec 128) : ∃ mu : Value → Nat, ∀ (y : Int) (m : Nat), WayTo L x m y → mu (.int .i64 y) = m := by
  refine ⟨fun v => if h : ∃ m, ∃ y, v = .int .i64 y ∧ WayTo L x m y then Classical.choose h else 0, fun y m h => ?_⟩
  have e : ∃ m, ∃ y', (Value.int .i64 y) = .int .i64 y' ∧ WayTo L x m y' := ⟨m, y, rfl, h⟩
  dsimp only
  rw [dif_pos e]
  obtain ⟨y', e1, e2⟩ := Classical.choose_spec e
  cases e1
  exact way_one L x _ _ _ e2 h
def pthL (L : List Nd) (F : Int) (x : BitVec 128) (N : Nat) : List Int := if checkE F x F = 0 then wayL L x N 0 else []
def encI (n : Int) : Array Value := #[.int .i64 n]
theorem AtN.kw {Z : Nat → Prop} {C : Nat} {W W' : World} {b o : Nat} {x : Nd} (k : AtN W b o x) (h : KW Z C W W') (hz : Z b ∨ C ≤ b) : AtN W' b o x := ⟨kw_cell h hz k.1, kw_cell h hz k.2.1, kw_cell h hz k.2.2.1, kw_cell h hz k.2.2.2.1, kw_cell h hz k.2.2.2.2.1, kw_cell h hz k.2.2.2.2.2⟩
theorem TrN.kw {Z : Nat → Prop} {C : Nat} {W W' : World} {B : Nat} {F : Int} {g cap : Nat} {wv : Value} {L : List Nd} (k : TrN W B F g cap wv L) (h : KW Z C W W') (h1 : Z B ∨ C ≤ B) (h2 : Z g ∨ C ≤ g) : TrN W' B F g cap wv L := ⟨kw_cell h h1 k.w, kw_cell h h1 k.n, kw_cell h h1 k.o, fun j hj => (k.row j hj).kw h h2⟩
/-- The receiver's own copy. -/
def AtW8 (W : World) (N0 B : Nat) (x : BitVec 128) : Prop := W.cell? ⟨N0, 0, none⟩ = some (.pointer (some ⟨B, 0, none⟩)) ∧ W.cell? ⟨N0, 1, none⟩ = some (.int .u64 (hI x)) ∧ W.cell? ⟨N0, 2, none⟩ = some (.int .u64 (lI x))
theorem AtW8.below {W W' : World} {N0 B : Nat} {x : BitVec 128} (k : AtW8 W N0 B x) (hb : Below W.heap.size W W') : AtW8 W' N0 B x := ⟨keepc hb k.1, keepc hb k.2.1, keepc hb k.2.2⟩
theorem AtW8.kw {Z : Nat → Prop} {C : Nat} {W W' : World} {N0 B : Nat} {x : BitVec 128} (k : AtW8 W N0 B x) (h : KW Z C W W') (hz : Z N0 ∨ C ≤ N0) : AtW8 W' N0 B x := ⟨kw_cell h hz k.1, kw_cell h hz k.2.1, kw_cell h hz k.2.2⟩
set_option maxRecDepth 100000 in
set_option maxHeartbeats 8000000 in
theorem way_each (n N : Nat) (Z : Nat → Prop) (Bd B : Nat) (F : Int) (g cap : Nat) (wv : Value) (L : List Nd) (x : BitVec 128) (hR : checkE F x F = 0 → WayTo L x N 0) (w : World) (hM : TrN w B F g cap wv L) (hZB : Z B ∨ Bd ≤ B) (hZg : Z g ∨ Bd ≤ g) (ho : ∀ x ∈ L, x.ok) (hl : L.length ≤ 2147483647) :
    SeqY n Try.prog 24 #[.agg #[.pointer (some ⟨B, 0, none⟩), .int .u64 (hI x), .int .u64 (lI x)]] #[] encI (KW Z Bd) (fun ys => ys = pthL L F x N) (fun pre => pre <+: pthL L F x N) Bd w := by
  intro l J Jx W hW hB hJ hJx hY h0
  have q0 := bl1 W (.cells #[.pointer (some ⟨B, 0, none⟩), .int .u64 (hI x), .int .u64 (lI x)] 62)
  have HM0 := hidX ((hM.below hW).below q0)
  have HC0 : Hid (AtW8 (W.alloc (.cells #[.pointer (some ⟨B, 0, none⟩), .int .u64 (hI x), .int .u64 (lI x)] 62)) W.heap.size B x) := hidX (by refine ⟨?_, ?_, ?_⟩ <;> simp [go_sem])
  have HJ := hidX hJ
  have HY := hidX hY
  have HJ0 := hidX (hJ [] _ _ none h0 (below_grownX q0) (fun r e => by cases e))
  have HB : Hid (Bd ≤ W.heap.size) := hidX hB
  have KC := fun w => pcheck_any F x F w
  have HR0 := hidX hR
  have HPt : Hid ((checkE F x F = 0 → pthL L F x N = wayL L x N 0) ∧ (¬ checkE F x F = 0 → pthL L F x N = [])) := hidX ⟨fun h => by rw [pthL, if_pos h], fun h => by rw [pthL, if_neg h]⟩
  have HO : Hid ((∀ x ∈ L, x.ok) ∧ L.length ≤ 2147483647) := hidX ⟨ho, hl⟩
  have HZ : Hid ((Z B ∨ Bd ≤ B) ∧ (Z g ∨ Bd ≤ g)) := hidX ⟨hZB, hZg⟩
  obtain ⟨c0, c1, c2⟩ := HC0.out
  clear hJ hJx hY h0 hM q0 hB hR ho hl hZB hZg
  refine callsIn_of_wp Try.func24 rfl trivial ?_ rfl
  simp only [Try.ntmps24, List.size_toArray, List.length_cons, List.length_nil, Nat.reduceAdd, Nat.reduceSub, Array.replicate_succ, Array.replicate_zero, List.push_toArray, List.append_toArray, List.nil_append, List.cons_append, List.append_nil]
  gi_wp2_with fail
  revert HM0 HC0 HJ0
  generalize W.alloc (.cells #[.pointer (some ⟨B, 0, none⟩), .int .u64 (hI x), .int .u64 (lI x)] 62) = V1
  intro HM0 HC0 HJ0
  revert KC HR0 HPt
  generalize checkE F x F = z
  intro KC HR0 HPt
  clear c0 c1 c2
  have HD : Hid (∀ X, Below V1.heap.size V1 X → TrN X B F g cap wv L ∧ AtW8 X W.heap.size B x) := hidX (fun X hb => ⟨HM0.out.below hb, HC0.out.below hb⟩)
  refine wpIn_wide.2 ?_
  refine qw_region (C := fun X => Below V1.heap.size V1 X) (by kernel_rfl) (by kernel_rfl) (below_drewN (Below.refl _ _) 1) ?_
  refine qw_run (v := .pointer (some ⟨B, 0, none⟩)) (by rfl) ?_ ?_
  · (intro w1 hC; obtain ⟨⟨t0, t1, t2, -⟩, ⟨c0, c1, c2⟩⟩ := HD.out w1 hC; go_simp; first | done | (simp; done) | (simp [*]; done) | omega | (simp; omega) | (rw [IntKind.wrap_i64]; omega) | (intro hx; omega) | rfl)
  simp only [Act.put, List.setIfInBounds_toArray, List.set_cons_zero, List.set_cons_succ]
  refine qw_run (v := .pointer (some ⟨B, 0, none⟩)) (by rfl) ?_ ?_
  · (intro w1 hC; obtain ⟨⟨t0, t1, t2, -⟩, ⟨c0, c1, c2⟩⟩ := HD.out w1 hC; go_simp; first | done | (simp; done) | (simp [*]; done) | omega | (simp; omega) | (rw [IntKind.wrap_i64]; omega) | (intro hx; omega) | rfl)
  simp only [Act.put, List.setIfInBounds_toArray, List.set_cons_zero, List.set_cons_succ]
  refine qw_run (v := .pointer (some ⟨B, 0, none⟩)) (by rfl) ?_ ?_
  · (intro w1 hC; obtain ⟨⟨t0, t1, t2, -⟩, ⟨c0, c1, c2⟩⟩ := HD.out w1 hC; go_simp; first | done | (simp; done) | (simp [*]; done) | omega | (simp; omega) | (rw [IntKind.wrap_i64]; omega) | (intro hx; omega) | rfl)
  simp only [Act.put, List.setIfInBounds_toArray, List.set_cons_zero, List.set_cons_succ]
  refine qw_run (v := .int .i64 F) (by rfl) ?_ ?_
  · (intro w1 hC; obtain ⟨⟨t0, t1, t2, -⟩, ⟨c0, c1, c2⟩⟩ := HD.out w1 hC; go_simp; first | done | (simp; done) | (simp [*]; done) | omega | (simp; omega) | (rw [IntKind.wrap_i64]; omega) | (intro hx; omega) | rfl)
  simp only [Act.put, List.setIfInBounds_toArray, List.set_cons_zero, List.set_cons_succ]
  refine qw_run (v := .pointer (some ⟨W.heap.size, 1, none⟩)) (by rfl) ?_ ?_
  · (intro w1 hC; obtain ⟨⟨t0, t1, t2, -⟩, ⟨c0, c1, c2⟩⟩ := HD.out w1 hC; go_simp; first | done | (simp; done) | (simp [*]; done) | omega | (simp; omega) | (rw [IntKind.wrap_i64]; omega) | (intro hx; omega) | rfl)
  simp only [Act.put, List.setIfInBounds_toArray, List.set_cons_zero, List.set_cons_succ]
  refine qw_run (v := .agg #[.int .u64 (hI x), .int .u64 (lI x)]) (by rfl) ?_ ?_
  · (intro w1 hC; obtain ⟨⟨t0, t1, t2, -⟩, ⟨c0, c1, c2⟩⟩ := HD.out w1 hC; go_simp; first | done | (simp; done) | (simp [*]; done) | omega | (simp; omega) | (rw [IntKind.wrap_i64]; omega) | (intro hx; omega) | rfl)
  simp only [Act.put, List.setIfInBounds_toArray, List.set_cons_zero, List.set_cons_succ]
  refine qw_run (v := .pointer (some ⟨B, 0, none⟩)) (by rfl) ?_ ?_
  · (intro w1 hC; obtain ⟨⟨t0, t1, t2, -⟩, ⟨c0, c1, c2⟩⟩ := HD.out w1 hC; go_simp; first | done | (simp; done) | (simp [*]; done) | omega | (simp; omega) | (rw [IntKind.wrap_i64]; omega) | (intro hx; omega) | rfl)
  simp only [Act.put, List.setIfInBounds_toArray, List.set_cons_zero, List.set_cons_succ]
  refine qw_run (v := .pointer (some ⟨B, 0, none⟩)) (by rfl) ?_ ?_
  · (intro w1 hC; obtain ⟨⟨t0, t1, t2, -⟩, ⟨c0, c1, c2⟩⟩ := HD.out w1 hC; go_simp; first | done | (simp; done) | (simp [*]; done) | omega | (simp; omega) | (rw [IntKind.wrap_i64]; omega) | (intro hx; omega) | rfl)
  simp only [Act.put, List.setIfInBounds_toArray, List.set_cons_zero, List.set_cons_succ]
  refine qw_run (v := .pointer (some ⟨B, 0, none⟩)) (by rfl) ?_ ?_
  · (intro w1 hC; obtain ⟨⟨t0, t1, t2, -⟩, ⟨c0, c1, c2⟩⟩ := HD.out w1 hC; go_simp; first | done | (simp; done) | (simp [*]; done) | omega | (simp; omega) | (rw [IntKind.wrap_i64]; omega) | (intro hx; omega) | rfl)
  simp only [Act.put, List.setIfInBounds_toArray, List.set_cons_zero, List.set_cons_succ]
  refine qw_run (v := .int .i64 F) (by rfl) ?_ ?_
  · (intro w1 hC; obtain ⟨⟨t0, t1, t2, -⟩, ⟨c0, c1, c2⟩⟩ := HD.out w1 hC; go_simp; first | done | (simp; done) | (simp [*]; done) | omega | (simp; omega) | (rw [IntKind.wrap_i64]; omega) | (intro hx; omega) | rfl)
  simp only [Act.put, List.setIfInBounds_toArray, List.set_cons_zero, List.set_cons_succ]
  refine qw_run (v := .agg #[.int .u64 (hI x), .int .u64 (lI x), .int .i64 F]) (by rfl) ?_ ?_
  · (intro w1 hC; obtain ⟨⟨t0, t1, t2, -⟩, ⟨c0, c1, c2⟩⟩ := HD.out w1 hC; go_simp; first | done | (simp; done) | (simp [*]; done) | omega | (simp; omega) | (rw [IntKind.wrap_i64]; omega) | (intro hx; omega) | rfl)
  simp only [Act.put, List.setIfInBounds_toArray, List.set_cons_zero, List.set_cons_succ]
  refine qw_call (v := .int .i64 z) (f := 35) (args := #[.int .i64 F, .agg #[.int .u64 (hI x), .int .u64 (lI x), .int .i64 F]]) (by rfl) ?_ ?_ ?_
  · (intro w1 hC; clear hC; go_simp)
  · exact fun w1 hC => (KC w1).mono fun e w' ⟨he, hb⟩ => ⟨he, keepb hb hC⟩
  simp only [Act.put, List.setIfInBounds_toArray, List.set_cons_zero, List.set_cons_succ]
  refine qw_run (v := .bool (z != 0)) (by rfl) ?_ ?_
  · (intro w1 hC; obtain ⟨⟨t0, t1, t2, -⟩, ⟨c0, c1, c2⟩⟩ := HD.out w1 hC; go_simp; first | done | (simp; done) | (simp [*]; done) | omega | (simp; omega) | (rw [IntKind.wrap_i64]; omega) | (intro hx; omega) | rfl)
  simp only [Act.put, List.setIfInBounds_toArray, List.set_cons_zero, List.set_cons_succ]
  refine qw_nil ?_
  intro X2 hC2
  have HM2 := hidX (HM0.out.below hC2)
  have HC2 := hidX (HC0.out.below hC2)
  have HJ2 := hidX (HJ.out [] _ _ none HJ0.out (below_grownX hC2) (fun r e => by cases e))
  clear hC2 HD HM0 HC0 HJ0 KC
  by_cases c : z = 0
  · subst c
    rw [show ((0 : Int) != 0) = false from rfl]
    have HW0 := hidX (HR0.out rfl)
    have HP0 := hidX (HPt.out.1 rfl)
    obtain ⟨mu, hmu⟩ := muW_ex L x
    have HMu := hidX hmu
    clear hmu HR0 HPt
    gi_wp2_with fail
    gi_loopw [5] (fun p wr => ∃ (m : Nat) (y : Int) (pre : List Int), p = .int .i64 y ∧ Hid (pre ++ wayL L x m y = wayL L x N 0) ∧ Hid (WayTo L x m y) ∧ Hid (J pre wr) ∧ Hid (TrN wr B F g cap wv L) ∧ Hid (AtW8 wr W.heap.size B x)) (fun p wr => mu p)
    case atStart => exact ⟨N, 0, [], rfl, hidX rfl, HW0, HJ2, HM2, HC2⟩
    case round =>
      clear HJ2 HM2 HC2 HW0
      obtain ⟨m, y, pre, rfl, HP, HWy, HJw, HMw, HCw⟩ := hrel
      cases m with
      | zero =>
        obtain rfl : y = -1 := HWy.out
        have HE : Hid (pre = pthL L F x N) := hidX (by rw [HP0.out, ← HP.out, wayL, List.append_nil])
        clear HP HWy HMw HCw HMu
        gi_wp2
        refine ⟨fun f h => (by cases h), ?_⟩
        gi_wp2
        go_end0
        exact ⟨⟨_, rfl⟩, .inl ⟨_, HE.out, HJw.out⟩⟩
      | succ m =>
        have hm0 := HMu.out y (m + 1) HWy.out
        have HM0 := hidX hm0
        obtain ⟨hy1, hy2⟩ := HWy.out
        have hyr : 0 ≤ y ∧ y < L.length := by unfold isN at hy1; simpa using hy1
        obtain ⟨k, rfl⟩ : ∃ k : Nat, y = k := ⟨y.toNat, by omega⟩
        have hk : k < L.length := by omega
        have HW2 := hidX hy2
        have HPx : Hid (pre ++ [(k : Int)] <+: pthL L F x N) := hidX (by rw [HP0.out, ← HP.out, wayL]; exact ⟨wayL L x m (nxtW L x k), by simp⟩)
        have HP2 : Hid ((pre ++ [(k : Int)]) ++ wayL L x m (nxtW L x k) = wayL L x N 0) := hidX (by have := HP.out; rw [wayL] at this; simpa using this)
        have hkn : ((k : Int) != -1) = true := by simp
        clear hm0 hy1 hy2 hyr HWy HP
        obtain ⟨fn, tmps, assign, body, hy, hR⟩ := HY.out pre (k : Int) wr HJw.out HPx.out
        dsimp only [encI] at hy
        gi_wp2
        refine ⟨fun q => (by cases q), hR.mono ?_⟩
        rintro e W3 (⟨rfl, hJ3, hk3⟩ | ⟨rfl, hx3, -⟩)
        · have HM3 := hidX (HMw.out.kw hk3 HZ.out.1 HZ.out.2)
          have HC3 := hidX (HCw.out.kw hk3 (.inr HB.out))
          have HJ3 := hidX hJ3
          have KB := fun w => bit_any x (ndAt L k).length w
          have KK := fun w h => tkid_any B F g cap wv L k (bitZ x (ndAt L k).length) w h HO.out.1 HO.out.2
          have ok := ndAt_ok HO.out.1 k
          have hN : kidV L k (bitZ x (ndAt L k).length) = nxtW L x k := rfl
          rw [hN] at KK
          have HD : Hid (∀ X, Below W3.heap.size W3 X → TrN X B F g cap wv L ∧ AtW8 X W.heap.size B x ∧ AtN X g (k * 6) (ndAt L k)) := hidX (fun X hb => ⟨HM3.out.below hb, HC3.out.below hb, by rw [ndAt_in k hk]; exact (HM3.out.row k hk).below hb⟩)
          clear hJ3 hk3 hy hR HMw HCw HJw hN
          revert KB KK ok HD HW2 HP2
          generalize nxtW L x k = y2
          generalize ndAt L k = nd
          generalize bitZ x nd.length = bt
          intro HW2 HP2 KB KK ok HD
          have hwl : IntKind.i64.wrap nd.length = nd.length := by unfold Nd.ok at ok; rw [IntKind.wrap_i64]; omega
          clear ok
          gi_wp2_with fail
          refine wpIn_wide.2 ?_
          refine qw_region (C := fun X => Below W3.heap.size W3 X) (by kernel_rfl) (by kernel_rfl) (below_drewN (Below.refl _ _) 1) ?_
          refine qw_run (v := .pointer (some ⟨B, 0, none⟩)) (by rfl) ?_ ?_
          · (intro w1 hC; obtain ⟨⟨t0, t1, t2, -⟩, ⟨c0, c1, c2⟩, ⟨-, -, -, -, d4, -⟩⟩ := HD.out w1 hC; go_simp; first | done | (simp; done) | (simp [*]; done) | omega | (simp; omega) | (rw [IntKind.wrap_i64]; omega) | (intro hx; omega) | rfl)
          simp only [Act.put, List.setIfInBounds_toArray, List.set_cons_zero, List.set_cons_succ]
          refine qw_run (v := .int .i64 (k : Int)) (by rfl) ?_ ?_
          · (intro w1 hC; obtain ⟨⟨t0, t1, t2, -⟩, ⟨c0, c1, c2⟩, ⟨-, -, -, -, d4, -⟩⟩ := HD.out w1 hC; go_simp; first | done | (simp; done) | (simp [*]; done) | omega | (simp; omega) | (rw [IntKind.wrap_i64]; omega) | (intro hx; omega) | rfl)
          simp only [Act.put, List.setIfInBounds_toArray, List.set_cons_zero, List.set_cons_succ]
          refine qw_run (v := .pointer (some ⟨W.heap.size, 1, none⟩)) (by rfl) ?_ ?_
          · (intro w1 hC; obtain ⟨⟨t0, t1, t2, -⟩, ⟨c0, c1, c2⟩, ⟨-, -, -, -, d4, -⟩⟩ := HD.out w1 hC; go_simp; first | done | (simp; done) | (simp [*]; done) | omega | (simp; omega) | (rw [IntKind.wrap_i64]; omega) | (intro hx; omega) | rfl)
          simp only [Act.put, List.setIfInBounds_toArray, List.set_cons_zero, List.set_cons_succ]
          refine qw_run (v := .agg #[.int .u64 (hI x), .int .u64 (lI x)]) (by rfl) ?_ ?_
          · (intro w1 hC; obtain ⟨⟨t0, t1, t2, -⟩, ⟨c0, c1, c2⟩, ⟨-, -, -, -, d4, -⟩⟩ := HD.out w1 hC; go_simp; first | done | (simp; done) | (simp [*]; done) | omega | (simp; omega) | (rw [IntKind.wrap_i64]; omega) | (intro hx; omega) | rfl)
          simp only [Act.put, List.setIfInBounds_toArray, List.set_cons_zero, List.set_cons_succ]
          refine qw_run (v := .pointer (some ⟨B, 0, none⟩)) (by rfl) ?_ ?_
          · (intro w1 hC; obtain ⟨⟨t0, t1, t2, -⟩, ⟨c0, c1, c2⟩, ⟨-, -, -, -, d4, -⟩⟩ := HD.out w1 hC; go_simp; first | done | (simp; done) | (simp [*]; done) | omega | (simp; omega) | (rw [IntKind.wrap_i64]; omega) | (intro hx; omega) | rfl)
          simp only [Act.put, List.setIfInBounds_toArray, List.set_cons_zero, List.set_cons_succ]
          refine qw_run (v := .pointer (some ⟨B, 0, none⟩)) (by rfl) ?_ ?_
          · (intro w1 hC; obtain ⟨⟨t0, t1, t2, -⟩, ⟨c0, c1, c2⟩, ⟨-, -, -, -, d4, -⟩⟩ := HD.out w1 hC; go_simp; first | done | (simp; done) | (simp [*]; done) | omega | (simp; omega) | (rw [IntKind.wrap_i64]; omega) | (intro hx; omega) | rfl)
          simp only [Act.put, List.setIfInBounds_toArray, List.set_cons_zero, List.set_cons_succ]
          refine qw_run (v := .pointer (some ⟨B, 1, none⟩)) (by rfl) ?_ ?_
          · (intro w1 hC; obtain ⟨⟨t0, t1, t2, -⟩, ⟨c0, c1, c2⟩, ⟨-, -, -, -, d4, -⟩⟩ := HD.out w1 hC; go_simp; first | done | (simp; done) | (simp [*]; done) | omega | (simp; omega) | (rw [IntKind.wrap_i64]; omega) | (intro hx; omega) | rfl)
          simp only [Act.put, List.setIfInBounds_toArray, List.set_cons_zero, List.set_cons_succ]
          refine qw_run (v := .slice (some ⟨g, 0, none⟩) L.length cap) (by rfl) ?_ ?_
          · (intro w1 hC; obtain ⟨⟨t0, t1, t2, -⟩, ⟨c0, c1, c2⟩, ⟨-, -, -, -, d4, -⟩⟩ := HD.out w1 hC; go_simp; first | done | (simp; done) | (simp [*]; done) | omega | (simp; omega) | (rw [IntKind.wrap_i64]; omega) | (intro hx; omega) | rfl)
          simp only [Act.put, List.setIfInBounds_toArray, List.set_cons_zero, List.set_cons_succ]
          refine qw_run (v := .int .i64 (k : Int)) (by rfl) ?_ ?_
          · (intro w1 hC; obtain ⟨⟨t0, t1, t2, -⟩, ⟨c0, c1, c2⟩, ⟨-, -, -, -, d4, -⟩⟩ := HD.out w1 hC; go_simp; first | done | (simp; done) | (simp [*]; done) | omega | (simp; omega) | (rw [IntKind.wrap_i64]; omega) | (intro hx; omega) | rfl)
          simp only [Act.put, List.setIfInBounds_toArray, List.set_cons_zero, List.set_cons_succ]
          refine qw_run (v := .pointer (some ⟨g, k * 6, none⟩)) (by rfl) ?_ ?_
          · (intro w1 hC; obtain ⟨⟨t0, t1, t2, -⟩, ⟨c0, c1, c2⟩, ⟨-, -, -, -, d4, -⟩⟩ := HD.out w1 hC; go_simp; first | done | (simp; done) | (simp [*]; done) | omega | (simp; omega) | (rw [IntKind.wrap_i64]; omega) | (intro hx; omega) | rfl)
          simp only [Act.put, List.setIfInBounds_toArray, List.set_cons_zero, List.set_cons_succ]
          refine qw_run (v := .pointer (some ⟨g, k * 6 + 4, none⟩)) (by rfl) ?_ ?_
          · (intro w1 hC; obtain ⟨⟨t0, t1, t2, -⟩, ⟨c0, c1, c2⟩, ⟨-, -, -, -, d4, -⟩⟩ := HD.out w1 hC; go_simp; first | done | (simp; done) | (simp [*]; done) | omega | (simp; omega) | (rw [IntKind.wrap_i64]; omega) | (intro hx; omega) | rfl)
          simp only [Act.put, List.setIfInBounds_toArray, List.set_cons_zero, List.set_cons_succ]
          refine qw_run (v := .int .u8 nd.length) (by rfl) ?_ ?_
          · (intro w1 hC; obtain ⟨⟨t0, t1, t2, -⟩, ⟨c0, c1, c2⟩, ⟨-, -, -, -, d4, -⟩⟩ := HD.out w1 hC; go_simp; first | done | (simp; done) | (simp [*]; done) | omega | (simp; omega) | (rw [IntKind.wrap_i64]; omega) | (intro hx; omega) | rfl)
          simp only [Act.put, List.setIfInBounds_toArray, List.set_cons_zero, List.set_cons_succ]
          refine qw_run (v := .int .i64 nd.length) (by rfl) ?_ ?_
          · (intro w1 hC; obtain ⟨⟨t0, t1, t2, -⟩, ⟨c0, c1, c2⟩, ⟨-, -, -, -, d4, -⟩⟩ := HD.out w1 hC; go_simp; first | done | (simp; done) | (simp [*]; done) | omega | (simp; omega) | (rw [IntKind.wrap_i64]; omega) | (intro hx; omega) | rfl)
          simp only [Act.put, List.setIfInBounds_toArray, List.set_cons_zero, List.set_cons_succ]
          refine qw_call (v := .int .i64 bt) (f := 39) (args := #[.agg #[.int .u64 (hI x), .int .u64 (lI x)], .int .i64 nd.length]) (by rfl) ?_ ?_ ?_
          · (intro w1 hC; clear hC; go_simp)
          · exact fun w1 hC => (KB w1).mono fun e w' ⟨he, hb⟩ => ⟨he, keepb hb hC⟩
          simp only [Act.put, List.setIfInBounds_toArray, List.set_cons_zero, List.set_cons_succ]
          refine qw_call (v := .int .i64 y2) (f := 20) (args := #[.pointer (some ⟨B, 0, none⟩), .int .i64 (k : Int), .int .i64 bt]) (by rfl) ?_ ?_ ?_
          · (intro w1 hC; clear hC; go_simp)
          · exact fun w1 hC => (KK w1 (HD.out w1 hC).1).mono fun e w' ⟨he, hb⟩ => ⟨he, keepb hb hC⟩
          simp only [Act.put, List.setIfInBounds_toArray, List.set_cons_zero, List.set_cons_succ]
          refine qw_run (v := .int .i64 y2) (by rfl) ?_ ?_
          · (intro w1 hC; obtain ⟨⟨t0, t1, t2, -⟩, ⟨c0, c1, c2⟩, ⟨-, -, -, -, d4, -⟩⟩ := HD.out w1 hC; go_simp; first | done | (simp; done) | (simp [*]; done) | omega | (simp; omega) | (rw [IntKind.wrap_i64]; omega) | (intro hx; omega) | rfl)
          simp only [Act.put, List.setIfInBounds_toArray, List.set_cons_zero, List.set_cons_succ]
          refine qw_nil ?_
          intro X4 hC4
          have HM4 := hidX (HM3.out.below hC4)
          have HC4 := hidX (HC3.out.below hC4)
          have HJ4 := hidX (HJ.out _ _ _ none HJ3.out (below_grownX hC4) (fun r e => by cases e))
          clear hC4 HD HM3 HC3 HJ3 KB KK hwl
          gi_wp2
          go_roundw
          case rel => exact ⟨m, y2, _, rfl, HP2, HW2, HJ4, HM4, HC4⟩
          case measure =>
            have e1 := HMu.out y2 m HW2.out
            have e2 := HM0.out
            first | (simp only [Array.getD_eq_getD_getElem?, List.getElem?_toArray, List.getElem?_cons_succ, List.getElem?_cons_zero, Option.getD_some]; omega) | (simp at e1 e2 ⊢; omega)
        · have HX3 := hidX hx3
          clear hx3 hy hR HMw HCw HJw HP2 HW2 HM0
          gi_wp2
          go_end0
          exact ⟨⟨_, rfl⟩, .inr ⟨_, HPx.out, HX3.out⟩⟩
  · have d1 : (z != 0) = true := by simpa using c
    have HE := hidX (HPt.out.2 c)
    clear c HPt HR0
    gi_wp2
    exact bodyPost_ret (results_none rfl _ _ _) rfl ⟨⟨_, rfl⟩, .inl ⟨[], HE.out.symm, HJ2.out⟩⟩
end Go.Proofs.Ytofpbommhklooaa
