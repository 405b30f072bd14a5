/-
  Part 4 of the proof: 4 texts, one behind the other.
-/
import Derived.Test.YtkgfeegcdohkdaaDoorPart3
import Derived.Test.YtkgfeegcdohkdaaDoorPart2
import Derived.Deep.QuietTactic
import Derived.BigQuiet
/-
  What the calls of package word that count do.
-/
namespace Go.Proofs.YtkgfeegcdohkdaaDoor
open Go.RowKit
set_option linter.unusedSimpArgs false
set_option linter.unusedVariables false

/-- How many bits are set. -/
def onesN (x : BitVec 128) : Nat := oc 8 (hv x).toNat + oc 8 (lv x).toNat
theorem ones_not (x : BitVec 128) : onesN x + onesN (~~~x) = 128 := by
  have a := oc_not 8 (hv x).toNat (hv x).isLt
  have b := oc_not 8 (lv x).toNat (lv x).isLt
  have eh : (hv (~~~x)).toNat = 256 ^ 8 - 1 - (hv x).toNat := by
    have : hv (~~~x) = ~~~(hv x) := by rw [hv_not]; apply BitVec.eq_of_getLsbD_eq; intro i hi; simp only [BitVec.getLsbD_xor, BitVec.getLsbD_not, BitVec.getLsbD_allOnes, hi, decide_true, Bool.true_xor, Bool.true_and]
    rw [this, BitVec.toNat_not]
  have el : (lv (~~~x)).toNat = 256 ^ 8 - 1 - (lv x).toNat := by
    have : lv (~~~x) = ~~~(lv x) := by rw [lv_not]; apply BitVec.eq_of_getLsbD_eq; intro i hi; simp only [BitVec.getLsbD_xor, BitVec.getLsbD_not, BitVec.getLsbD_allOnes, hi, decide_true, Bool.true_xor, Bool.true_and]
    rw [this, BitVec.toNat_not]
  unfold onesN; rw [eh, el]; omega

theorem lead_hi (x : BitVec 128) (h : ¬ hI x = 0) : 64 - bitLen (hI x).toNat = leadN x ∧ bitLen (hI x).toNat ≤ 64 := by
  have e : (hI x).toNat = x.toNat / 2 ^ 64 := by rw [hIN]; rfl
  have hlo := hI_lo x
  have hn : x.toNat / 2 ^ 64 ≠ 0 := by omega
  have hx : x.toNat ≠ 0 := by intro h0; rw [h0] at hn; simp at hn
  have hs := bitLen_shift x.toNat 64 hn
  have hl : x.toNat.log2 < 128 := (Nat.log2_lt hx).mpr x.isLt
  rw [e]
  unfold leadN; rw [if_neg hx]
  have hb : bitLen x.toNat = x.toNat.log2 + 1 := by unfold bitLen; rw [if_neg hx]
  constructor <;> omega
theorem lead_lo (x : BitVec 128) (h : hI x = 0) : 64 + (64 - bitLen (lI x).toNat) = leadN x ∧ bitLen (lI x).toNat ≤ 64 := by
  have e : (lI x).toNat = x.toNat := by rw [lIN]; rw [hIN] at h; omega
  have hlt : x.toNat < 2 ^ 64 := by have := lI_up x; have := lI_lo x; omega
  rw [e]
  unfold leadN bitLen
  by_cases hx : x.toNat = 0
  · simp [hx]
  · rw [if_neg hx, if_neg hx]
    have := (Nat.log2_lt hx).mpr hlt
    constructor <;> omega

set_option maxHeartbeats 1000000 in
theorem lead_any (x : BitVec 128) (w : World) :
    Calls Tryd.prog 129 #[.agg #[.int .u64 (hI x), .int .u64 (lI x)]] w fun e w' => e = .returned (.int .i64 ((leadN x : Nat) : Int)) ∧ Below w.heap.size w w' := by
  by_cases h : hI x = 0
  · have hl := lead_lo x h
    have hc := fun w => len_any (lI x) w (lI_lo x) (lI_up x)
    generalize bitLen (lI x).toNat = a at *
    obtain ⟨h1, h2⟩ := hl
    have HE : Hid (64 + (64 - a) = leadN x) := h1
    clear h1
    have a1 : (a : Int) ≤ 64 := by omega
    go_enter Tryd.func129, Tryd.ntmps129
    go_wp2_with (first | (go_at_call 140; refine (hc _).mono ?_; rintro e w' ⟨rfl, rfl⟩) | go_in)
    go_ret
    refine ⟨congrArg Ending.returned (congrArg (Value.int IntKind.i64) ?_), bl1 _ _⟩
    rw [← HE.out]
    show (64 : Int) + (64 - (a : Int)) = _
    omega
  · have hl := lead_hi x h
    have hc := fun w => len_any (hI x) w (hI_lo x) (hI_up x)
    generalize bitLen (hI x).toNat = a at *
    obtain ⟨h1, h2⟩ := hl
    have HE : Hid (64 - a = leadN x) := h1
    clear h1
    have a1 : (a : Int) ≤ 64 := by omega
    go_enter Tryd.func129, Tryd.ntmps129
    go_wp2_with (first | (go_at_call 140; refine (hc _).mono ?_; rintro e w' ⟨rfl, rfl⟩) | go_in)
    go_ret
    refine ⟨congrArg Ending.returned (congrArg (Value.int IntKind.i64) ?_), bl1 _ _⟩
    rw [← HE.out]
    show (64 : Int) - (a : Int) = _
    omega

set_option maxHeartbeats 1000000 in
theorem wcommon_any (x y : BitVec 128) (w : World) :
    Calls Tryd.prog 110 #[.agg #[.int .u64 (hI x), .int .u64 (lI x)], .agg #[.int .u64 (hI y), .int .u64 (lI y)]] w fun e w' => e = .returned (.int .i64 ((leadN (x ^^^ y) : Nat) : Int)) ∧ Below w.heap.size w w' := by
  go_enter Tryd.func110, Tryd.ntmps110
  go_wp2_with fail
  refine (xor_any _ _ _).mono ?_
  rintro e w1 ⟨rfl, hb1⟩
  go_wp2_with fail
  refine (lead_any _ _).mono ?_
  rintro e w2 ⟨rfl, hb2⟩
  have kB := keepb hb2 (keepb hb1 (bl2 w _ _))
  clear hb1 hb2
  go_wp2
  go_ret
  exact ⟨rfl, kB⟩
end Go.Proofs.YtkgfeegcdohkdaaDoor
/-
  What the calls of package prefix's Within, Check, Of, Parent, Sibling, Meet, Cmp do.
-/
namespace Go.Proofs.YtkgfeegcdohkdaaDoor
open Go.RowKit
set_option linter.unusedSimpArgs false
set_option linter.unusedVariables false

def withinB (x : BitVec 128) (n : Int) (y : BitVec 128) (m : Int) : Bool := decide (m ≤ n) && (cutW x m == y)
set_option maxHeartbeats 1000000 in
theorem pwithin_any (x : BitVec 128) (n : Int) (y : BitVec 128) (m : Int) (w : World) :
    Calls Tryd.prog 16 #[.agg #[.int .u64 (hI x), .int .u64 (lI x), .int .i64 n], .agg #[.int .u64 (hI y), .int .u64 (lI y), .int .i64 m]] w fun e w' => e = .returned (.bool (withinB x n y m)) ∧ Below w.heap.size w w' := by
  have KH := fun w => has_any y m x w
  unfold withinB
  generalize (cutW x m == y) = b at *
  by_cases h : m ≤ n
  · simp only [h, decide_true, Bool.true_and]
    go_enter Tryd.func16, Tryd.ntmps16
    go_wp2_with fail
    refine (KH _).mono ?_
    rintro e w1 ⟨rfl, hb1⟩
    have kB := keepb hb1 (bl2 w _ _)
    clear hb1
    go_wp2
    go_ret
    exact ⟨rfl, kB⟩
  · simp only [h, decide_false, Bool.false_and]
    go_enter Tryd.func16, Tryd.ntmps16
    go_wp2
    go_ret
    exact ⟨rfl, bl2 _ _ _⟩

def checkE (F : Int) (x : BitVec 128) (n : Int) : Int := if fam F = true then (if n < 0 then 13 else if F < n then 13 else if (cutW x n == x) = true then 0 else 14) else 11
set_option maxHeartbeats 1000000 in
theorem pcheck_any (F : Int) (x : BitVec 128) (n : Int) (w : World) :
    Calls Tryd.prog 46 #[.int .i64 F, .agg #[.int .u64 (hI x), .int .u64 (lI x), .int .i64 n]] w fun e w' => e = .returned (.int .i64 (checkE F x n)) ∧ Below w.heap.size w w' := by
  have KL := fun w => alast_any F w
  unfold lastV lastE at KL
  unfold checkE
  cases h : fam F
  · rw [if_neg (by simp)]
    rw [h, if_neg (by simp), if_neg (by simp), hI_zero, lI_zero] at KL
    clear h
    go_enter Tryd.func46, Tryd.ntmps46
    go_wp2_with fail
    refine (KL _).mono ?_
    rintro e w1 ⟨rfl, hb1⟩
    have kB := keepb hb1 (bl1 w _)
    clear hb1 KL
    go_wp2
    go_ret
    exact ⟨rfl, kB.alloc (by have := kB.size; omega) _⟩
  · rw [if_pos rfl]
    rw [h, if_pos rfl, if_pos rfl] at KL
    clear h
    generalize maskW F = m at *
    have KC := fun w => cut_any x n w
    revert KC
    generalize cutW x n = c
    intro KC
    have hnn : (n == n) = true := by simp
    by_cases h0 : n < 0
    · rw [if_pos h0]
      go_enter Tryd.func46, Tryd.ntmps46
      go_wp2_with fail
      refine (KL _).mono ?_
      rintro e w1 ⟨rfl, hb1⟩
      have kB := keepb hb1 (bl1 w _)
      obtain ⟨p0, p1, p2, -, -, -⟩ := ((atp_new w w.heap.size x n 26 rfl).below hb1).below (bl1 _ (.cells #[.int .u64 (hI m), .int .u64 (lI m)] 24))
      clear hb1 KL
      go_wp2
      go_ret
      exact ⟨rfl, kB.alloc (by have := kB.size; omega) _⟩
    by_cases h1 : F < n
    · rw [if_neg h0, if_pos h1]
      go_enter Tryd.func46, Tryd.ntmps46
      go_wp2_with fail
      refine (KL _).mono ?_
      rintro e w1 ⟨rfl, hb1⟩
      have kB := keepb hb1 (bl1 w _)
      obtain ⟨p0, p1, p2, -, -, -⟩ := ((atp_new w w.heap.size x n 26 rfl).below hb1).below (bl1 _ (.cells #[.int .u64 (hI m), .int .u64 (lI m)] 24))
      clear hb1 KL
      go_wp2
      go_ret
      exact ⟨rfl, kB.alloc (by have := kB.size; omega) _⟩
    rw [if_neg h0, if_neg h1]
    rcases eqw c x with ⟨q1, q2, q3⟩ | ⟨q1, q3⟩ | ⟨q1, q2, q3⟩
    all_goals
      rw [q3]
      first | rw [if_pos rfl] | rw [if_neg (by simp)]
      clear q3
      go_enter Tryd.func46, Tryd.ntmps46
      go_wp2_with fail
      refine (KL _).mono ?_
      rintro e w1 ⟨rfl, hb1⟩
      have kB := keepb hb1 (bl1 w _)
      obtain ⟨p0, p1, p2, -, -, -⟩ := ((atp_new w w.heap.size x n 26 rfl).below hb1).below (bl1 _ (.cells #[.int .u64 (hI m), .int .u64 (lI m)] 24))
      have kB2 := (kB.alloc (by have := kB.size; omega) (.cells #[.int .u64 (hI m), .int .u64 (lI m)] 24)).drew
      clear hb1 KL kB
      go_wp2_with fail
      go_region_held3 (fun w' => w'.cell? ⟨w.heap.size, 0, none⟩ = some (.int .u64 (hI x)) ∧ w'.cell? ⟨w.heap.size, 1, none⟩ = some (.int .u64 (lI x)) ∧ w'.cell? ⟨w.heap.size, 2, none⟩ = some (.int .i64 n) ∧ Below w.heap.size w w')
        (first
          | (obtain ⟨k1, k2, k3, k9⟩ := ‹_ ∧ _›; exact ⟨keepc hb3 k1, keepc hb3 k2, keepc hb3 k3, keepb hb3 k9⟩)
          | exact ⟨p0, p1, p2, kB2⟩)
        (first | (go_at_call 47; refine (KC _).mono ?_; rintro e w3 ⟨rfl, hb3⟩))
      obtain ⟨-, -, -, kB3⟩ := ‹_ ∧ _›
      go_wp2
      go_ret
      exact ⟨rfl, kB3⟩

def ofE (F : Int) (x : BitVec 128) (n : Int) : Int := if rightE F x = 0 then checkE F (cutW x n) n else rightE F x
def ofV (F : Int) (x : BitVec 128) (n : Int) : BitVec 128 := if ofE F x n = 0 then cutW x n else 0#128
def ofN (F : Int) (x : BitVec 128) (n : Int) : Int := if ofE F x n = 0 then n else 0
end Go.Proofs.YtkgfeegcdohkdaaDoor
/-
  What the calls of package prefix's Parent, Sibling, Cmp, Meet do, of right prefixes.
-/
namespace Go.Proofs.YtkgfeegcdohkdaaDoor
open Go.RowKit
set_option linter.unusedSimpArgs false
set_option linter.unusedVariables false

def parentV (x : BitVec 128) (n : Int) : BitVec 128 := if n ≤ 0 then 0#128 else cutW x (n - 1)
def parentN (n : Int) : Int := if n ≤ 0 then 0 else n - 1
set_option maxHeartbeats 1000000 in
theorem pparent_any (x : BitVec 128) (n : Int) (w : World) (h0 : 0 ≤ n) (h1 : n ≤ 128) :
    Calls Tryd.prog 95 #[.agg #[.int .u64 (hI x), .int .u64 (lI x), .int .i64 n]] w fun e w' => e = .returned (.tuple #[.agg #[.int .u64 (hI (parentV x n)), .int .u64 (lI (parentV x n)), .int .i64 (parentN n)], .bool (decide (0 < n))]) ∧ Below w.heap.size w w' := by
  unfold parentV parentN
  by_cases h : n ≤ 0
  · have h' : ¬ 0 < n := by omega
    rw [if_pos h, if_pos h, hI_zero, lI_zero]
    simp only [h', decide_false]
    go_enter Tryd.func95, Tryd.ntmps95
    go_wp2
    exact bodyPost_ret (v := .tuple #[.agg #[.int .u64 0, .int .u64 0, .int .i64 0], .bool false]) (by simp [results, Tryd.results95, go_sem, *]) rfl ⟨rfl, bl2 _ _ _⟩
  · have h' : 0 < n := by omega
    have hu : IntKind.i64.wrap (n - 1) = n - 1 := by rw [IntKind.wrap_i64]; omega
    rw [if_neg h, if_neg h]
    simp only [h', decide_true]
    have KC := fun w => cut_any x (n - 1) w
    generalize cutW x (n - 1) = c at *
    go_enter Tryd.func95, Tryd.ntmps95
    go_wp2_with fail
    refine (KC _).mono ?_
    rintro e w1 ⟨rfl, hb1⟩
    obtain ⟨z0, z1, z2, z3, z4, z5⟩ := (atp_new (w.alloc (.cells #[.int .u64 (hI x), .int .u64 (lI x), .int .i64 n] 26)) (w.heap.size + 1) 0#128 0 26 (by simp)).below hb1
    have kB1 := keepb hb1 (bl2 w _ _)
    clear hb1 KC
    go_wp2
    exact bodyPost_ret (v := .tuple #[.agg #[.int .u64 (hI c), .int .u64 (lI c), .int .i64 (n - 1)], .bool true]) (by simp [results, Tryd.results95, go_sem, *]) rfl ⟨rfl, bset3 kB1 (by omega) _ _ _⟩

def sibV (x : BitVec 128) (n : Int) : BitVec 128 := if n ≤ 0 then 0#128 else x ^^^ bit1 (n - 1)
def sibN (n : Int) : Int := if n ≤ 0 then 0 else n
set_option maxHeartbeats 1000000 in
theorem psib_any (x : BitVec 128) (n : Int) (w : World) (h0 : 0 ≤ n) (h1 : n ≤ 128) :
    Calls Tryd.prog 94 #[.agg #[.int .u64 (hI x), .int .u64 (lI x), .int .i64 n]] w fun e w' => e = .returned (.tuple #[.agg #[.int .u64 (hI (sibV x n)), .int .u64 (lI (sibV x n)), .int .i64 (sibN n)], .bool (decide (0 < n))]) ∧ Below w.heap.size w w' := by
  unfold sibV sibN
  by_cases h : n ≤ 0
  · have h' : ¬ 0 < n := by omega
    rw [if_pos h, if_pos h, hI_zero, lI_zero]
    simp only [h', decide_false]
    go_enter Tryd.func94, Tryd.ntmps94
    go_wp2
    exact bodyPost_ret (v := .tuple #[.agg #[.int .u64 0, .int .u64 0, .int .i64 0], .bool false]) (by simp [results, Tryd.results94, go_sem, *]) rfl ⟨rfl, bl2 _ _ _⟩
  · have h' : 0 < n := by omega
    have hu : IntKind.i64.wrap (n - 1) = n - 1 := by rw [IntKind.wrap_i64]; omega
    have hbl := fun o p => (bl2 w o p).drew
    rw [if_neg h, if_neg h]
    simp only [h', decide_true]
    have KB := fun w => pbit_any (n - 1) w
    revert KB
    generalize bit1 (n - 1) = b
    intro KB
    go_enter Tryd.func94, Tryd.ntmps94
    go_wp2
    go_region_held3 (fun w' => w'.cell? ⟨w.heap.size, 0, none⟩ = some (.int .u64 (hI x)) ∧ w'.cell? ⟨w.heap.size, 1, none⟩ = some (.int .u64 (lI x)) ∧ w'.cell? ⟨w.heap.size, 2, none⟩ = some (.int .i64 n) ∧ w'.cell? ⟨w.heap.size + 1, 0, none⟩ = some (cv w' (w.heap.size + 1) 0) ∧ w'.cell? ⟨w.heap.size + 1, 1, none⟩ = some (cv w' (w.heap.size + 1) 1) ∧ w'.cell? ⟨w.heap.size + 1, 2, none⟩ = some (cv w' (w.heap.size + 1) 2) ∧ w'.frozen? ⟨w.heap.size + 1, 0, none⟩ = false ∧ w'.frozen? ⟨w.heap.size + 1, 1, none⟩ = false ∧ w'.frozen? ⟨w.heap.size + 1, 2, none⟩ = false ∧ Below w.heap.size w w')
      (first
        | (obtain ⟨k1, k2, k0, k3, k4, k5, k6, k7, k8, k9⟩ := ‹_ ∧ _›; exact ⟨keepc hb2 k1, keepc hb2 k2, keepc hb2 k0, cv_of (keepc hb2 k3), cv_of (keepc hb2 k4), cv_of (keepc hb2 k5), keepf hb2 k3 k6, keepf hb2 k4 k7, keepf hb2 k5 k8, keepb hb2 k9⟩)
        | (obtain ⟨k1, k2, k0, k3, k4, k5, k6, k7, k8, k9⟩ := ‹_ ∧ _›; exact ⟨keepc hb1 k1, keepc hb1 k2, keepc hb1 k0, cv_of (keepc hb1 k3), cv_of (keepc hb1 k4), cv_of (keepc hb1 k5), keepf hb1 k3 k6, keepf hb1 k4 k7, keepf hb1 k5 k8, keepb hb1 k9⟩)
        | (refine ⟨?_, ?_, ?_, cv_new ?_, cv_new ?_, cv_new ?_, ?_, ?_, ?_, ?_⟩ <;> first | (simp [go_sem, *]; done) | exact bset3 (by simp [*]) (by simp) _ _ _))
      (first | (go_at_call 49; refine (KB _).mono ?_; rintro e w1 ⟨rfl, hb1⟩) | (go_at_call 53; refine (xor_any _ _ _).mono ?_; rintro e w2 ⟨rfl, hb2⟩))
    obtain ⟨-, -, -, -, -, -, -, -, -, kB⟩ := ‹_ ∧ _›
    have e0 : w2.cell? ⟨w.heap.size + 1, 0, none⟩ = some (.int .u64 0) := keepc hb2 (keepc hb1 (by simp [go_sem]))
    have e1 : w2.cell? ⟨w.heap.size + 1, 1, none⟩ = some (.int .u64 0) := keepc hb2 (keepc hb1 (by simp [go_sem]))
    have e2 : w2.cell? ⟨w.heap.size + 1, 2, none⟩ = some (.int .i64 0) := keepc hb2 (keepc hb1 (by simp [go_sem]))
    go_wp2
    exact bodyPost_ret (v := .tuple #[.agg #[.int .u64 (hI (x ^^^ b)), .int .u64 (lI (x ^^^ b)), .int .i64 n], .bool true]) (by simp [results, Tryd.results94, go_sem, e0, e1, e2]) rfl ⟨rfl, kB⟩

def cmpI (a b : Int) : Int := if a < b then -1 else if b < a then 1 else 0
theorem compare_any (a b : Int) (w : World) :
    Calls Tryd.prog 114 #[.int .i64 a, .int .i64 b] w fun e w' => e = .returned (.int .i64 (cmpI a b)) ∧ w' = w := by
  unfold cmpI
  have haa : (a != a) = false := by simp
  have hbb : (b != b) = false := by simp
  by_cases h : a < b
  · rw [if_pos h]
    go_enter Tryd.func114, Tryd.ntmps114
    go_wp2_with go_in
    go_ret
    exact ⟨rfl, rfl⟩
  · rw [if_neg h]
    by_cases h2 : b < a
    · rw [if_pos h2]
      go_enter Tryd.func114, Tryd.ntmps114
      go_wp2_with go_in
      go_ret
      exact ⟨rfl, rfl⟩
    · rw [if_neg h2]
      go_enter Tryd.func114, Tryd.ntmps114
      go_wp2_with go_in
      go_ret
      exact ⟨rfl, rfl⟩
def pcmpZ (x : BitVec 128) (n : Int) (y : BitVec 128) (m : Int) : Int := if cmpZ x y = 0 then cmpI n m else cmpZ x y
set_option maxHeartbeats 1000000 in
theorem pcmp_any (x : BitVec 128) (n : Int) (y : BitVec 128) (m : Int) (w : World) :
    Calls Tryd.prog 93 #[.agg #[.int .u64 (hI x), .int .u64 (lI x), .int .i64 n], .agg #[.int .u64 (hI y), .int .u64 (lI y), .int .i64 m]] w fun e w' => e = .returned (.int .i64 (pcmpZ x n y m)) ∧ Below w.heap.size w w' := by
  have KC := fun w => cmp_any x y w
  have KM := fun w => compare_any n m w
  unfold pcmpZ
  generalize cmpZ x y = c at *
  generalize cmpI n m = d at *
  by_cases h : c = 0
  · subst h
    rw [if_pos rfl]
    go_enter Tryd.func93, Tryd.ntmps93
    go_wp2_with fail
    refine (KC _).mono ?_
    rintro e w1 ⟨rfl, hb1⟩
    have kB := keepb hb1 (bl2 w _ _)
    obtain ⟨p0, p1, p2, -, -, -⟩ := ((atp_new w w.heap.size x n 26 rfl).below (bl1 _ (.cells #[.int .u64 (hI y), .int .u64 (lI y), .int .i64 m] 26))).below hb1
    obtain ⟨r0, r1, r2, -, -, -⟩ := (atp_new (w.alloc (.cells #[.int .u64 (hI x), .int .u64 (lI x), .int .i64 n] 26)) (w.heap.size + 1) y m 26 (by simp)).below hb1
    clear hb1 KC
    go_wp2_with fail
    refine (KM _).mono ?_
    rintro e w2 ⟨rfl, rfl⟩
    go_wp2
    go_ret
    exact ⟨rfl, kB⟩
  · have hb : (c != 0) = true := by simp [h]
    rw [if_neg h]
    go_enter Tryd.func93, Tryd.ntmps93
    go_wp2_with fail
    refine (KC _).mono ?_
    rintro e w1 ⟨rfl, hb1⟩
    have kB := keepb hb1 (bl2 w _ _)
    clear hb1 KC
    go_wp2
    go_ret
    exact ⟨rfl, kB⟩
end Go.Proofs.YtkgfeegcdohkdaaDoor
/-
  A region that draws its order and whose calls make memory: one walk of the text's order, in a class of worlds.
-/
namespace Go.Proofs.YtkgfeegcdohkdaaDoor
open Go.RowKit
set_option linter.unusedSimpArgs false
set_option linter.unusedVariables false

theorem q_run {P : Program} {ops : Array Oper} {C : World → Prop} {Q : Act → Prop} {a : Act} {o : Oper} {rest : List Oper} {v : Value}
    (hw : Region.wanted o (yielded ops a.tmps) = true) (h : ∀ w, C w → (execOp a.eval o).run P w = .ok (.value v) w) (k : wpQuiet P ops C Q rest (a.put o.dst v)) : wpQuiet P ops C Q (o :: rest) a := by
  refine wpQuiet_step (fun K hK => ?_)
  rw [if_pos hw]
  refine ⟨v, fun w hC => ?_, hK _ k⟩
  unfold Oper.quietAt; rw [h w hC]; exact ⟨rfl, rfl⟩
theorem q_skip {P : Program} {ops : Array Oper} {C : World → Prop} {Q : Act → Prop} {a : Act} {o : Oper} {rest : List Oper}
    (hw : Region.wanted o (yielded ops a.tmps) = false) (k : wpQuiet P ops C Q rest (a.put o.dst undef)) : wpQuiet P ops C Q (o :: rest) a := by
  refine wpQuiet_step (fun K hK => ?_)
  rw [if_neg (by rw [hw]; decide)]
  exact hK _ k
theorem q_call {P : Program} {ops : Array Oper} {C : World → Prop} {Q : Act → Prop} {a : Act} {o : Oper} {rest : List Oper} {v : Value} {f : FuncId} {args : Array Value}
    (hw : Region.wanted o (yielded ops a.tmps) = true) (h : ∀ w, C w → (execOp a.eval o).run P w = .ok (.enter f args) w) (hc : ∀ w, C w → Calls P f args w fun e w' => e = .returned v ∧ C w') (k : wpQuiet P ops C Q rest (a.put o.dst v)) : wpQuiet P ops C Q (o :: rest) a := by
  refine wpQuiet_step (fun K hK => ?_)
  rw [if_pos hw]
  refine ⟨v, fun w hC => ?_, hK _ k⟩
  unfold Oper.quietAt; rw [h w hC]; exact ⟨rfl, hc w hC⟩
theorem q_region {P : Program} {C : World → Prop} {id : Nat} {Q : Exit → Act → World → Prop} {a : Act} {w : World} {l : List Oper} (hm : P.follows .mixedOrders = true) (hB : Region.lexB .any l.toArray = true) (hC : C w.drew)
    (h : wpQuiet P l.toArray C (fun a' => ∀ w', C w' → Q .normal a' w') l a) : (Code.region id l.toArray true).wp P Q a w :=
  wp_region_quiet (C := C) hm hB hC (by simpa using h)
end Go.Proofs.YtkgfeegcdohkdaaDoor
