/-
  Part 6 of the proof: 6 texts, one behind the other.
-/
import Derived.Test.YtkgfeegcdohkdaaDoorPart3
import Derived.Test.YtkgfeegcdohkdaaDoorPart2
import Derived.Test.YtkgfeegcdohkdaaDoorPart4
import Derived.Deep.QuietTactic
import Derived.BigQuiet
import Derived.Test.YtkgfeegcdohkdaaDoorPart5
/-
  What the calls of package addr's beside, Next and Prev do.
-/
namespace Go.Proofs.YtkgfeegcdohkdaaDoor
open Go.RowKit
set_option linter.unusedSimpArgs false
set_option linter.unusedVariables false

theorem At.drew {w : World} {B : Nat} {x : BitVec 128} (h : At w B x) : At w.drew B x := h
theorem at_zero {w : World} {B : Nat} (h0 : w.cell? ⟨B, 0, none⟩ = some (.int .u64 0)) (h1 : w.cell? ⟨B, 1, none⟩ = some (.int .u64 0)) (f0 : w.frozen? ⟨B, 0, none⟩ = false) (f1 : w.frozen? ⟨B, 1, none⟩ = false) (z : BitVec 128) :
    At ((w.setCell ⟨B, 0, none⟩ (.int .u64 (hI z))).setCell ⟨B, 1, none⟩ (.int .u64 (lI z))) B z :=
  At.set (x := 0#128) z ⟨by rw [hI_zero]; exact h0, by rw [lI_zero]; exact h1, f0, f1, cell_in h0⟩

set_option maxHeartbeats 4000000 in
theorem besideAdd_yes (F : Int) (x y z : BitVec 128) (ov : Bool) (w : World) (KR : ∀ w, Calls Tryd.prog 104 #[.int .i64 F, .agg #[.int .u64 (hI x), .int .u64 (lI x)]] w fun e w' => e = .returned (.int .i64 0) ∧ Below w.heap.size w w')
    (KS : ∀ w, Calls Tryd.prog 130 #[.int .i64 F] w fun e w' => e = .returned (.agg #[.int .u64 (hI y), .int .u64 (lI y)]) ∧ Below w.heap.size w w')
    (KM : ∀ w, Calls Tryd.prog 85 #[.agg #[.int .u64 (hI x), .int .u64 (lI x)], .agg #[.int .u64 (hI y), .int .u64 (lI y)]] w fun e w' => e = .returned (.tuple #[.agg #[.int .u64 (hI z), .int .u64 (lI z)], .bool ov]) ∧ Below w.heap.size w w') :
    Calls Tryd.prog 111 #[.int .i64 F, .agg #[.int .u64 (hI x), .int .u64 (lI x)], .func (.func 85) #[] #[]] w fun e w' => e = .returned (.tuple #[.agg #[.int .u64 (hI (if ov = true then 0#128 else z)), .int .u64 (lI (if ov = true then 0#128 else z))], .bool (!ov)]) ∧ Below w.heap.size w w' := by
  go_enter Tryd.func111, Tryd.ntmps111
  go_wp2_with fail
  refine (KR _).mono ?_
  rintro e w1 ⟨rfl, hb1⟩
  clear KR
  have hX := ((at_new w w.heap.size x 24 rfl).below (bl1 _ (.cells #[.int .u64 0, .int .u64 0] 24))).below hb1
  have hZ := (at_new (w.alloc (.cells #[.int .u64 (hI x), .int .u64 (lI x)] 24)) (w.heap.size + 1) 0#128 24 (by simp)).below hb1
  have kB := keepb hb1 (bl2 w _ _)
  clear hb1
  obtain ⟨x0, x1, x2, x3, x4⟩ := id hX
  have z4 := hZ.2.2.2.2
  have n1 : ¬ w1.heap.size = w.heap.size := by omega
  go_wp2_with fail
  rename_i Q' K hK
  have tail : ∀ (N : Nat) (W : World), At W N z → At W (w.heap.size + 1) 0#128 → Below w.heap.size w W → ¬ N = w.heap.size + 1 → (Exit.then K Q') .normal { tmps := #[.int .i64 F, .agg #[.int .u64 (hI x), .int .u64 (lI x)], .func (.func 85) #[] #[], undef, .pointer (some ⟨w.heap.size, 0, none⟩), undef, .pointer (some ⟨w.heap.size + 1, 0, none⟩), .bool false, .pointer (some ⟨N, 0, none⟩), .bool ov, .int .i64 F, .agg #[.int .u64 (hI x), .int .u64 (lI x)], .int .i64 0, .bool false, undef, .tuple #[.agg #[.int .u64 (hI z), .int .u64 (lI z)], .bool ov], .func (.func 85) #[] #[], .agg #[.int .u64 (hI x), .int .u64 (lI x)], .int .i64 F, .agg #[.int .u64 (hI y), .int .u64 (lI y)], .tuple #[.agg #[.int .u64 (hI z), .int .u64 (lI z)], .bool ov], .agg #[.int .u64 (hI z), .int .u64 (lI z)], .bool ov, undef, undef, undef], defers := [] } W := by
    intro N W hN hZ' hB' hn
    obtain ⟨a0, a1, a2, a3, a4⟩ := hN
    obtain ⟨b0, b1, b2, b3, b4⟩ := hZ'
    clear x0 x1 x2 x3 x4 hX hZ KS KM
    cases ov
    · go_wp2
      exact bodyPost_ret (v := .tuple #[.agg #[.int .u64 (hI z), .int .u64 (lI z)], .bool true]) (by simp [results, Tryd.results111, go_sem, *]) rfl ⟨by simp [hI_zero, lI_zero], bset2 hB' (by omega) _ _⟩
    · go_wp2
      exact bodyPost_ret (v := .tuple #[.agg #[.int .u64 0, .int .u64 0], .bool false]) (by simp [results, Tryd.results111, go_sem, *]) rfl ⟨by simp [hI_zero, lI_zero], bset2 hB' (by omega) _ _⟩
  go_region_with (first | (go_at_call 130; refine (KS _).mono ?_; rintro e w2 ⟨rfl, hb2⟩; have p0 : w2.cell? ⟨w.heap.size, 0, none⟩ = some (.int .u64 (hI x)) := keepc hb2 (by simp [go_sem, *]); have p1 : w2.cell? ⟨w.heap.size, 1, none⟩ = some (.int .u64 (lI x)) := keepc hb2 (by simp [go_sem, *]); have n3 : ¬ w2.heap.size = w.heap.size := (fun e => by have := cell_in p0; omega); have l3 := cell_in p0; (try (refine (fun (c0 : w2.cell? ⟨w1.heap.size, 0, none⟩ = some (.int .u64 0)) => ?_) (keepc hb2 ?_); rotate_left; (focus (simp [go_sem]; done)))); (try (refine (fun (c1 : w2.cell? ⟨w1.heap.size, 1, none⟩ = some (.int .u64 0)) => ?_) (keepc hb2 ?_); rotate_left; (focus (simp [go_sem]; done)))); (try (refine (fun (g0 : w2.frozen? ⟨w1.heap.size, 0, none⟩ = false) => ?_) (keepf hb2 (v := .int .u64 0) ?_ ?_); rotate_left; (focus (simp [go_sem]; done)); (focus (simp [go_sem]; done)))); (try (refine (fun (g1 : w2.frozen? ⟨w1.heap.size, 1, none⟩ = false) => ?_) (keepf hb2 (v := .int .u64 0) ?_ ?_); rotate_left; (focus (simp [go_sem]; done)); (focus (simp [go_sem]; done)))); have hZ2 : At w2 (w.heap.size + 1) 0#128 := At.below (by first | exact hZ.drew | exact (hZ.below (bl1 _ _)).drew | exact hZ | exact hZ.below (bl1 _ _)) hb2; have kB2 : Below w.heap.size w w2 := keepb hb2 (by first | exact kB.drew | exact (kB.alloc (by omega) _).drew | exact kB | exact kB.alloc (by omega) _)) | (go_at_call 85; refine (KM _).mono ?_; rintro e w3 ⟨rfl, hb3⟩; (try (have d0 := keepc hb3 c0; have d1 := keepc hb3 c1; have e0 := keepf hb3 c0 g0; have e1 := keepf hb3 c1 g1)); (try (refine (fun (d2 : w3.cell? ⟨w2.heap.size, 0, none⟩ = some (.int .u64 0)) => ?_) (keepc hb3 ?_); rotate_left; (focus (simp [go_sem]; done)))); (try (refine (fun (d3 : w3.cell? ⟨w2.heap.size, 1, none⟩ = some (.int .u64 0)) => ?_) (keepc hb3 ?_); rotate_left; (focus (simp [go_sem]; done)))); (try (refine (fun (e2 : w3.frozen? ⟨w2.heap.size, 0, none⟩ = false) => ?_) (keepf hb3 (v := .int .u64 0) ?_ ?_); rotate_left; (focus (simp [go_sem]; done)); (focus (simp [go_sem]; done)))); (try (refine (fun (e3 : w3.frozen? ⟨w2.heap.size, 1, none⟩ = false) => ?_) (keepf hb3 (v := .int .u64 0) ?_ ?_); rotate_left; (focus (simp [go_sem]; done)); (focus (simp [go_sem]; done)))); have hZ3 : At w3 (w.heap.size + 1) 0#128 := At.below (by first | exact hZ2 | exact hZ2.below (bl1 _ _)) hb3; have kB3 : Below w.heap.size w w3 := keepb hb3 (by first | exact kB2 | exact kB2.alloc kB2.size _)))
  all_goals
    have z5 := hZ3.2.2.2.2
    have z6 := hZ2.2.2.2.2
  all_goals first
    | exact tail w3.heap.size _ (at_new w3 w3.heap.size z _ rfl) (hZ3.below (bl1 _ _)) (kB3.alloc kB3.size _) (Nat.ne_of_gt z5)
    | exact tail w2.heap.size _ (at_zero d2 d3 e2 e3 z) (hZ3.other _ _ (Nat.ne_of_lt z6)) (bset2 kB3 kB2.size _ _) (Nat.ne_of_gt z6)
    | exact tail w1.heap.size _ (at_zero d0 d1 e0 e1 z) (hZ3.other _ _ (Nat.ne_of_lt z4)) (bset2 kB3 kB.size _ _) (Nat.ne_of_gt z4)

set_option maxHeartbeats 4000000 in
theorem besideAdd_no (F : Int) (x : BitVec 128) (r : Int) (w : World) (hr : ¬ r = 0) (KR : ∀ w, Calls Tryd.prog 104 #[.int .i64 F, .agg #[.int .u64 (hI x), .int .u64 (lI x)]] w fun e w' => e = .returned (.int .i64 r) ∧ Below w.heap.size w w') :
    Calls Tryd.prog 111 #[.int .i64 F, .agg #[.int .u64 (hI x), .int .u64 (lI x)], .func (.func 85) #[] #[]] w fun e w' => e = .returned (.tuple #[.agg #[.int .u64 0, .int .u64 0], .bool false]) ∧ Below w.heap.size w w' := by
  have hb : (r != 0) = true := by simp [hr]
  go_enter Tryd.func111, Tryd.ntmps111
  go_wp2_with fail
  refine (KR _).mono ?_
  rintro e w1 ⟨rfl, hb1⟩
  clear KR
  have hZ := (at_new (w.alloc (.cells #[.int .u64 (hI x), .int .u64 (lI x)] 24)) (w.heap.size + 1) 0#128 24 (by simp)).below hb1
  have kB := keepb hb1 (bl2 w _ _)
  clear hb1
  obtain ⟨z0, z1, z2, z3, z4⟩ := hZ
  go_wp2
  exact bodyPost_ret (v := .tuple #[.agg #[.int .u64 0, .int .u64 0], .bool false]) (by simp [results, Tryd.results111, go_sem, *]) rfl ⟨rfl, bset2 kB (by omega) _ _⟩

theorem besideAdd_any (F : Int) (x : BitVec 128) (w : World) :
    Calls Tryd.prog 111 #[.int .i64 F, .agg #[.int .u64 (hI x), .int .u64 (lI x)], .func (.func 85) #[] #[]] w fun e w' => e = .returned (.tuple #[.agg #[.int .u64 (hI (nextV F x)), .int .u64 (lI (nextV F x))], .bool (nextB F x)]) ∧ Below w.heap.size w w' := by
  have KR := fun w => aright_any F x w
  by_cases hr : rightE F x = 0
  · have hf := (right0 F x hr).1
    have hF : 0 ≤ F ∧ F ≤ 128 := by rcases fam_ways F hf with rfl | rfl <;> omega
    rw [hr] at KR
    have h := besideAdd_yes F x (stepW F) (x + stepW F) (overB x (stepW F)) w KR (fun w => step_any F w hF.1 hF.2) (fun w => add_any x (stepW F) w)
    have e1 : nextB F x = !overB x (stepW F) := by unfold nextB; simp [hr]
    have e2 : nextV F x = if overB x (stepW F) = true then 0#128 else x + stepW F := by
      unfold nextV; rw [e1]; cases overB x (stepW F) <;> rfl
    rw [e1, e2]; exact h
  · have h := besideAdd_no F x (rightE F x) w hr KR
    have e1 : nextB F x = false := by unfold nextB; simp [hr]
    have e2 : nextV F x = 0#128 := by unfold nextV; rw [e1]; rfl
    rw [e1, e2, hI_zero, lI_zero]; exact h

set_option maxHeartbeats 1000000 in
theorem anext_any (F : Int) (x : BitVec 128) (w : World) :
    Calls Tryd.prog 90 #[.int .i64 F, .agg #[.int .u64 (hI x), .int .u64 (lI x)]] w fun e w' => e = .returned (.tuple #[.agg #[.int .u64 (hI (nextV F x)), .int .u64 (lI (nextV F x))], .bool (nextB F x)]) ∧ Below w.heap.size w w' := by
  have KB := fun w => besideAdd_any F x w
  generalize nextV F x = y at *
  generalize nextB F x = b at *
  go_enter Tryd.func90, Tryd.ntmps90
  go_wp2_with fail
  refine (KB _).mono ?_
  rintro e w1 ⟨rfl, hb1⟩
  clear KB
  have hZ := (at_new (w.alloc (.cells #[.int .u64 (hI x), .int .u64 (lI x)] 24)) (w.heap.size + 1) 0#128 24 (by simp)).below hb1
  have kB := keepb hb1 (bl2 w _ _)
  clear hb1
  obtain ⟨z0, z1, z2, z3, z4⟩ := hZ
  go_wp2
  exact bodyPost_ret (v := .tuple #[.agg #[.int .u64 (hI y), .int .u64 (lI y)], .bool b]) (by simp [results, Tryd.results90, go_sem, *]) rfl ⟨rfl, bset2 kB (by omega) _ _⟩

end Go.Proofs.YtkgfeegcdohkdaaDoor
/-
  What each call of turnpikeref1's Add and Sub does.
-/
namespace Go.Proofs.YtkgfeegcdohkdaaDoor
open Go.RowKit
set_option linter.unusedSimpArgs false
set_option linter.unusedVariables false

/-- The sum of the upper halves, as it wraps. -/
def hs (x y : BitVec 128) : Int := IntKind.u64.wrap (hI x + hI y)
theorem wrapu (n : Int) : IntKind.u64.wrap n = n % 18446744073709551616 := by simp [IntKind.wrap, IntKind.bits, IntKind.signed]
theorem lo_sum (x y : BitVec 128) : IntKind.u64.wrap (lI x + lI y) = lI (x + y) := by
  rw [wrapu, lIN, lIN, lIN, BitVec.toNat_add]; omega
theorem hi_sum1 (x y : BitVec 128) (h : lI (x + y) < lI x) : IntKind.u64.wrap (hs x y + 1) = hI (x + y) := by
  unfold hs; rw [wrapu, wrapu]; rw [lIN, lIN, BitVec.toNat_add] at h; rw [hIN, hIN, hIN, BitVec.toNat_add]
  have := x.isLt; have := y.isLt; omega
theorem hi_sum0 (x y : BitVec 128) (h : ¬ lI (x + y) < lI x) : IntKind.u64.wrap (hs x y) = hI (x + y) := by
  unfold hs; rw [wrapu, wrapu]; rw [lIN, lIN, BitVec.toNat_add] at h; rw [hIN, hIN, hIN, BitVec.toNat_add]
  have := x.isLt; have := y.isLt; omega
theorem over_of (x y : BitVec 128) : overB x y = (decide (hs x y < hI x) || decide (hI (x + y) < hs x y)) := by
  rw [Bool.eq_iff_iff]; simp only [Bool.or_eq_true, decide_eq_true_eq]
  unfold overB hs; simp only [decide_eq_true_eq]; rw [wrapu, hIN, hIN, hIN, BitVec.toNat_add]
  have := x.isLt; have := y.isLt; omega

set_option maxHeartbeats 1000000 in
theorem radd_any (x y : BitVec 128) (w : World) :
    Calls Tryd.prog 17 #[.agg #[.int .u64 (hI x), .int .u64 (lI x)], .agg #[.int .u64 (hI y), .int .u64 (lI y)]] w fun e w' => e = .returned (.tuple #[.agg #[.int .u64 (hI (x + y)), .int .u64 (lI (x + y))], .bool (overB x y)]) ∧ Below w.heap.size w w' := by
  have e1 := lo_sum x y
  have e2 : IntKind.u64.wrap (hI x + hI y) = hs x y := rfl
  have ov : (hs x y < hI x ∧ overB x y = true) ∨ (¬ hs x y < hI x ∧ hI (x + y) < hs x y ∧ overB x y = true) ∨ (¬ hs x y < hI x ∧ ¬ hI (x + y) < hs x y ∧ overB x y = false) := by
    rw [over_of]
    by_cases c : hs x y < hI x
    · exact Or.inl ⟨c, by simp [c]⟩
    · by_cases d : hI (x + y) < hs x y
      · exact Or.inr (Or.inl ⟨c, d, by simp [d]⟩)
      · exact Or.inr (Or.inr ⟨c, d, by simp [c, d]⟩)
  by_cases h : lI (x + y) < lI x
  · have e3 := hi_sum1 x y h
    rcases ov with ⟨c, ov⟩ | ⟨c, d, ov⟩ | ⟨c, d, ov⟩
    · rw [ov]; clear ov
      go_enter Tryd.func17, Tryd.ntmps17
      go_wp2
      exact bodyPost_ret (v := .tuple #[.agg #[.int .u64 (hI (x + y)), .int .u64 (lI (x + y))], .bool true]) (by simp [results, Tryd.results17, go_sem]) rfl ⟨rfl, bl3 _ _ _ _⟩
    · rw [ov]; clear ov
      go_enter Tryd.func17, Tryd.ntmps17
      go_wp2
      exact bodyPost_ret (v := .tuple #[.agg #[.int .u64 (hI (x + y)), .int .u64 (lI (x + y))], .bool true]) (by simp [results, Tryd.results17, go_sem]) rfl ⟨rfl, bl3 _ _ _ _⟩
    · rw [ov]; clear ov
      go_enter Tryd.func17, Tryd.ntmps17
      go_wp2
      exact bodyPost_ret (v := .tuple #[.agg #[.int .u64 (hI (x + y)), .int .u64 (lI (x + y))], .bool false]) (by simp [results, Tryd.results17, go_sem]) rfl ⟨rfl, bl3 _ _ _ _⟩
  · have e3 := hi_sum0 x y h
    rcases ov with ⟨c, ov⟩ | ⟨c, d, ov⟩ | ⟨c, d, ov⟩
    · rw [ov]; clear ov
      go_enter Tryd.func17, Tryd.ntmps17
      go_wp2
      exact bodyPost_ret (v := .tuple #[.agg #[.int .u64 (hI (x + y)), .int .u64 (lI (x + y))], .bool true]) (by simp [results, Tryd.results17, go_sem]) rfl ⟨rfl, bl3 _ _ _ _⟩
    · rw [ov]; clear ov
      go_enter Tryd.func17, Tryd.ntmps17
      go_wp2
      exact bodyPost_ret (v := .tuple #[.agg #[.int .u64 (hI (x + y)), .int .u64 (lI (x + y))], .bool true]) (by simp [results, Tryd.results17, go_sem]) rfl ⟨rfl, bl3 _ _ _ _⟩
    · rw [ov]; clear ov
      go_enter Tryd.func17, Tryd.ntmps17
      go_wp2
      exact bodyPost_ret (v := .tuple #[.agg #[.int .u64 (hI (x + y)), .int .u64 (lI (x + y))], .bool false]) (by simp [results, Tryd.results17, go_sem]) rfl ⟨rfl, bl3 _ _ _ _⟩

/-- The difference of the upper halves, as it wraps. -/
def hd (x y : BitVec 128) : Int := IntKind.u64.wrap (hI x - hI y)
theorem lo_dif (x y : BitVec 128) : IntKind.u64.wrap (lI x - lI y) = lI (x - y) := by
  rw [wrapu, lIN, lIN, lIN, BitVec.toNat_sub]
  have := x.isLt; have := y.isLt; omega
theorem hi_dif1 (x y : BitVec 128) (h : lI x < lI y) : IntKind.u64.wrap (hd x y - 1) = hI (x - y) := by
  unfold hd; rw [wrapu, wrapu]; rw [lIN, lIN] at h; rw [hIN, hIN, hIN, BitVec.toNat_sub]
  have := x.isLt; have := y.isLt; omega
theorem hi_dif0 (x y : BitVec 128) (h : ¬ lI x < lI y) : IntKind.u64.wrap (hd x y) = hI (x - y) := by
  unfold hd; rw [wrapu, wrapu]; rw [lIN, lIN] at h; rw [hIN, hIN, hIN, BitVec.toNat_sub]
  have := x.isLt; have := y.isLt; omega
theorem cmp_under (x y : BitVec 128) : decide (cmpZ x y < 0) = underB x y := by
  rw [Bool.eq_iff_iff]; simp only [decide_eq_true_eq]; exact cmp_lt x y

set_option maxHeartbeats 2000000 in
theorem rsub_any (x y : BitVec 128) (w : World) :
    Calls Tryd.prog 98 #[.agg #[.int .u64 (hI x), .int .u64 (lI x)], .agg #[.int .u64 (hI y), .int .u64 (lI y)]] w fun e w' => e = .returned (.tuple #[.agg #[.int .u64 (hI (x - y)), .int .u64 (lI (x - y))], .bool (underB x y)]) ∧ Below w.heap.size w w' := by
  have e1 := lo_dif x y
  have e2 : IntKind.u64.wrap (hI x - hI y) = hd x y := rfl
  rw [← cmp_under]
  have hbl := fun o p q => (bl3 w o p q).drew
  by_cases h : lI x < lI y
  · have e3 := hi_dif1 x y h
    go_enter Tryd.func98, Tryd.ntmps98
    go_wp2
    go_region_held3 (fun w' => w'.cell? ⟨w.heap.size, 0, none⟩ = some (.int .u64 (hI x)) ∧ w'.cell? ⟨w.heap.size, 1, none⟩ = some (.int .u64 (lI x)) ∧ w'.cell? ⟨w.heap.size + 1, 0, none⟩ = some (.int .u64 (hI y)) ∧ w'.cell? ⟨w.heap.size + 1, 1, none⟩ = some (.int .u64 (lI y)) ∧ w'.cell? ⟨w.heap.size + 1 + 1, 0, none⟩ = some (cv w' (w.heap.size + 1 + 1) 0) ∧ w'.cell? ⟨w.heap.size + 1 + 1, 1, none⟩ = some (cv w' (w.heap.size + 1 + 1) 1) ∧ w'.frozen? ⟨w.heap.size + 1 + 1, 0, none⟩ = false ∧ w'.frozen? ⟨w.heap.size + 1 + 1, 1, none⟩ = false ∧ Below w.heap.size w w')
      (first
        | (obtain ⟨k1, k2, k3, k4, k5, k6, k7, k8, k9⟩ := ‹_ ∧ _›; exact ⟨keepc hb2 k1, keepc hb2 k2, keepc hb2 k3, keepc hb2 k4, cv_of (keepc hb2 k5), cv_of (keepc hb2 k6), keepf hb2 k5 k7, keepf hb2 k6 k8, keepb hb2 k9⟩)
        | (refine ⟨?_, ?_, ?_, ?_, cv_new ?_, cv_new ?_, ?_, ?_, ?_⟩ <;> first | (simp [go_sem, *]; done) | exact Below.setCell (Below.setCell (by simp [*]) (by simp; omega) _) (by simp; omega) _))
      (first | (go_at_call 34; refine (rcmp_any _ _ _).mono ?_; rintro e w2 ⟨rfl, hb2⟩))
    all_goals
      obtain ⟨-, -, -, -, -, -, -, -, kB⟩ := ‹_ ∧ _›
      have f0 : w2.cell? ⟨w.heap.size + 1 + 1, 0, none⟩ = some (.int .u64 0) := keepc hb2 (by simp [go_sem])
      have f1 : w2.cell? ⟨w.heap.size + 1 + 1, 1, none⟩ = some (.int .u64 0) := keepc hb2 (by simp [go_sem])
      go_wp2
      exact bodyPost_ret (v := .tuple #[.agg #[.int .u64 (hI (x - y)), .int .u64 (lI (x - y))], .bool (decide (cmpZ x y < 0))]) (by simp [results, Tryd.results98, go_sem, f0, f1]) rfl ⟨rfl, kB⟩
  · have e3 := hi_dif0 x y h
    go_enter Tryd.func98, Tryd.ntmps98
    go_wp2
    go_region_held3 (fun w' => w'.cell? ⟨w.heap.size, 0, none⟩ = some (.int .u64 (hI x)) ∧ w'.cell? ⟨w.heap.size, 1, none⟩ = some (.int .u64 (lI x)) ∧ w'.cell? ⟨w.heap.size + 1, 0, none⟩ = some (.int .u64 (hI y)) ∧ w'.cell? ⟨w.heap.size + 1, 1, none⟩ = some (.int .u64 (lI y)) ∧ w'.cell? ⟨w.heap.size + 1 + 1, 0, none⟩ = some (cv w' (w.heap.size + 1 + 1) 0) ∧ w'.cell? ⟨w.heap.size + 1 + 1, 1, none⟩ = some (cv w' (w.heap.size + 1 + 1) 1) ∧ w'.frozen? ⟨w.heap.size + 1 + 1, 0, none⟩ = false ∧ w'.frozen? ⟨w.heap.size + 1 + 1, 1, none⟩ = false ∧ Below w.heap.size w w')
      (first
        | (obtain ⟨k1, k2, k3, k4, k5, k6, k7, k8, k9⟩ := ‹_ ∧ _›; exact ⟨keepc hb2 k1, keepc hb2 k2, keepc hb2 k3, keepc hb2 k4, cv_of (keepc hb2 k5), cv_of (keepc hb2 k6), keepf hb2 k5 k7, keepf hb2 k6 k8, keepb hb2 k9⟩)
        | (refine ⟨?_, ?_, ?_, ?_, cv_new ?_, cv_new ?_, ?_, ?_, ?_⟩ <;> first | (simp [go_sem, *]; done) | exact Below.setCell (Below.setCell (by simp [*]) (by simp; omega) _) (by simp; omega) _))
      (first | (go_at_call 34; refine (rcmp_any _ _ _).mono ?_; rintro e w2 ⟨rfl, hb2⟩))
    all_goals
      obtain ⟨-, -, -, -, -, -, -, -, kB⟩ := ‹_ ∧ _›
      have f0 : w2.cell? ⟨w.heap.size + 1 + 1, 0, none⟩ = some (.int .u64 0) := keepc hb2 (by simp [go_sem])
      have f1 : w2.cell? ⟨w.heap.size + 1 + 1, 1, none⟩ = some (.int .u64 0) := keepc hb2 (by simp [go_sem])
      go_wp2
      exact bodyPost_ret (v := .tuple #[.agg #[.int .u64 (hI (x - y)), .int .u64 (lI (x - y))], .bool (decide (cmpZ x y < 0))]) (by simp [results, Tryd.results98, go_sem, f0, f1]) rfl ⟨rfl, kB⟩
end Go.Proofs.YtkgfeegcdohkdaaDoor
/-
  What the calls of turnpikeref2's IsFamily, Right, Last, one, Next and Prev do.
-/
namespace Go.Proofs.YtkgfeegcdohkdaaDoor
open Go.RowKit
set_option linter.unusedSimpArgs false
set_option linter.unusedVariables false

theorem isFamily_any (F : Int) (w : World) :
    Calls Tryd.prog 76 #[.int .i64 F] w fun e w' => e = .returned (.bool (fam F)) ∧ w' = w := by
  unfold fam
  by_cases h1 : F = 32
  · subst h1
    go_enter Tryd.func76, Tryd.ntmps76
    go_wp2
    go_ret
    exact ⟨rfl, rfl⟩
  · have b1 : (F == 32) = false := by simp [h1]
    have b2 : (F == 128) = decide (F = 128) := by rw [Bool.eq_iff_iff]; simp
    rw [show decide (F = 32) = false by simp [h1], Bool.false_or]
    go_enter Tryd.func76, Tryd.ntmps76
    go_wp2
    go_ret
    exact ⟨rfl, rfl⟩

theorem put0K (i : Int) (w : World) (h0 : 0 ≤ i) (h1 : i ≤ 127) :
    Calls Tryd.prog 19 #[.agg #[.int .u64 0, .int .u64 0], .int .i64 i, .int .i64 1] w fun e w' => e = .returned (.agg #[.int .u64 (hI (putW 0#128 i 1)), .int .u64 (lI (putW 0#128 i 1))]) ∧ Below w.heap.size w w' := by
  have h := put_any 0#128 i 1 w (Or.inr rfl) h0 h1
  rw [hI_zero, lI_zero] at h
  exact h
set_option maxHeartbeats 1000000 in
theorem rone_any (F : Int) (w : World) (hf : fam F = true) :
    Calls Tryd.prog 78 #[.int .i64 F] w fun e w' => e = .returned (.agg #[.int .u64 (hI (stepW F)), .int .u64 (lI (stepW F))]) ∧ Below w.heap.size w w' := by
  have hF : 32 ≤ F ∧ F ≤ 128 := by rcases fam_ways F hf with rfl | rfl <;> omega
  have KP := fun w => put0K (F - 1) w (by omega) (by omega)
  rw [put_step F hf] at KP
  have hu : IntKind.i64.wrap (F - 1) = F - 1 := by rw [IntKind.wrap_i64]; omega
  clear hf
  generalize stepW F = y at *
  go_enter Tryd.func78, Tryd.ntmps78
  go_wp2_with fail
  refine (KP _).mono ?_
  rintro e w1 ⟨rfl, hb1⟩
  have hZ := (at_new w w.heap.size 0#128 24 rfl).below hb1
  have kB := keepb hb1 (bl1 w _)
  obtain ⟨z0, z1, z2, z3, z4⟩ := hZ
  clear hb1 KP
  go_wp2
  exact bodyPost_ret (v := .agg #[.int .u64 (hI y), .int .u64 (lI y)]) (by simp [results, Tryd.results78, go_sem, *]) rfl ⟨rfl, bset2 kB (Nat.le_refl _) _ _⟩

theorem three (y x : BitVec 128) : ((hI y == hI x) = true ∧ (lI y == lI x) = true ∧ y = x) ∨ ((hI y == hI x) = false ∧ ¬ y = x) ∨ ((hI y == hI x) = true ∧ (lI y == lI x) = false ∧ ¬ y = x) := by
  by_cases e : y = x
  · exact Or.inl ⟨by simp [e], by simp [e], e⟩
  · by_cases e1 : hI y = hI x
    · exact Or.inr (Or.inr ⟨by simp [e1], by simp; exact fun e2 => e (eq_ints e1 e2), e⟩)
    · exact Or.inr (Or.inl ⟨by simp [e1], e⟩)
theorem three0 (y : BitVec 128) : ((hI y == 0) = true ∧ (lI y == 0) = true ∧ y = 0#128) ∨ ((hI y == 0) = false ∧ ¬ y = 0#128) ∨ ((hI y == 0) = true ∧ (lI y == 0) = false ∧ ¬ y = 0#128) := by
  have h := three y 0#128
  rw [hI_zero, lI_zero] at h; exact h

set_option maxHeartbeats 1000000 in
theorem rright_any (F : Int) (x : BitVec 128) (w : World) :
    Calls Tryd.prog 77 #[.int .i64 F, .agg #[.int .u64 (hI x), .int .u64 (lI x)]] w fun e w' => e = .returned (.int .i64 (rightE F x)) ∧ Below w.heap.size w w' := by
  have KI := fun w => isFamily_any F w
  unfold rightE
  cases h : fam F
  · rw [if_neg (by simp)]
    rw [h] at KI
    go_enter Tryd.func77, Tryd.ntmps77
    go_wp2_with fail
    refine (KI _).mono ?_
    rintro e w1 ⟨rfl, rfl⟩
    clear KI
    go_wp2
    go_ret
    exact ⟨rfl, bl1 _ _⟩
  · rw [if_pos rfl]
    rw [h] at KI
    have ha := and_not_mask F x
    have KA := fun w => rand_any x (~~~(maskW F)) w
    generalize x &&& ~~~(maskW F) = y at *
    have fin : ∀ (v : Int), v = (if x &&& maskW F = x then 0 else 6) → ((hI y == 0) = true ∧ (lI y == 0) = true ∧ v = 0 ∨ (hI y == 0) = false ∧ v = 6 ∨ (hI y == 0) = true ∧ (lI y == 0) = false ∧ v = 6) := by
      intro v hv
      rcases three0 y with ⟨a, b, c⟩ | ⟨a, c⟩ | ⟨a, b, c⟩
      · rw [if_pos (ha.mp c)] at hv; exact Or.inl ⟨a, b, hv⟩
      · rw [if_neg (fun q => c (ha.mpr q))] at hv; exact Or.inr (Or.inl ⟨a, hv⟩)
      · rw [if_neg (fun q => c (ha.mpr q))] at hv; exact Or.inr (Or.inr ⟨a, b, hv⟩)
    clear ha h
    generalize (if x &&& maskW F = x then (0 : Int) else 6) = v at *
    rcases fin v rfl with ⟨q1, q2, rfl⟩ | ⟨q1, rfl⟩ | ⟨q1, q2, rfl⟩
    all_goals
      clear fin
      go_enter Tryd.func77, Tryd.ntmps77
      go_wp2_with fail
      refine (KI _).mono ?_
      rintro e w1 ⟨rfl, rfl⟩
      clear KI
      have kB := (bl1 w (.cells #[.int .u64 (hI x), .int .u64 (lI x)] 24)).drew
      go_wp2_with fail
      go_region_held3 (fun w' => w'.cell? ⟨w.heap.size, 0, none⟩ = some (.int .u64 (hI x)) ∧ w'.cell? ⟨w.heap.size, 1, none⟩ = some (.int .u64 (lI x)) ∧ Below w.heap.size w w')
        (first
          | (obtain ⟨k1, k2, k9⟩ := ‹_ ∧ _›; exact ⟨keepc hb4 k1, keepc hb4 k2, keepb hb4 k9⟩)
          | (obtain ⟨k1, k2, k9⟩ := ‹_ ∧ _›; exact ⟨keepc hb3 k1, keepc hb3 k2, keepb hb3 k9⟩)
          | (obtain ⟨k1, k2, k9⟩ := ‹_ ∧ _›; exact ⟨keepc hb2 k1, keepc hb2 k2, keepb hb2 k9⟩)
          | exact ⟨by simp [go_sem], by simp [go_sem], kB⟩)
        (first
          | (go_at_call 32; refine (rmask_any _ _).mono ?_; rintro e w2 ⟨rfl, hb2⟩)
          | (go_at_call 80; refine (rnot_any _ _).mono ?_; rintro e w3 ⟨rfl, hb3⟩)
          | (go_at_call 31; refine (KA _).mono ?_; rintro e w4 ⟨rfl, hb4⟩))
      obtain ⟨-, -, kB3⟩ := ‹_ ∧ _›
      go_wp2
      go_ret
      exact ⟨rfl, kB3⟩
end Go.Proofs.YtkgfeegcdohkdaaDoor
/-
  What each call of turnpikeref1's Common, Lead, fits, Field and With does.
-/
namespace Go.Proofs.YtkgfeegcdohkdaaDoor
open Go.RowKit
set_option linter.unusedSimpArgs false
set_option linter.unusedVariables false

/-- The variable at block B reads as the word x. -/
def Rd (w : World) (B : Nat) (x : BitVec 128) : Prop := w.cell? ⟨B, 0, none⟩ = some (.int .u64 (hI x)) ∧ w.cell? ⟨B, 1, none⟩ = some (.int .u64 (lI x))
theorem Rd.keep {W w' : World} {B : Nat} {x : BitVec 128} (h : Rd W B x) (hb : Below W.heap.size W w') : Rd w' B x := ⟨keepc hb h.1, keepc hb h.2⟩
theorem Rd.alloc {W : World} {B : Nat} {x : BitVec 128} (h : Rd W B x) (o : Obj) : Rd (W.alloc o) B x := h.keep (bl1 W o)
theorem Rd.new (W : World) (x : BitVec 128) (t : TypeId) : Rd (W.alloc (.cells #[.int .u64 (hI x), .int .u64 (lI x)] t)) W.heap.size x := by
  constructor <;> simp [go_sem]
/-- The word that the variable at block B holds, under a name that no rule opens. -/
def rdW (w : World) (B : Nat) : BitVec 128 := mkW (intOf (cv w B 0)) (intOf (cv w B 1))
theorem Rd.word {w : World} {B : Nat} {x : BitVec 128} (h : Rd w B x) : rdW w B = x := by
  unfold rdW cv; rw [h.1, h.2]; exact mk_ints x

theorem Rd.self {w : World} {B : Nat} {x : BitVec 128} (h : Rd w B x) : Rd w B (rdW w B) := by rw [h.word]; exact h

set_option maxHeartbeats 2000000 in
theorem common_any (x y : BitVec 128) (w : World) :
    Calls Tryd.prog 81 #[.agg #[.int .u64 (hI x), .int .u64 (lI x)], .agg #[.int .u64 (hI y), .int .u64 (lI y)]] w fun e w' => e = .returned (.int .i64 ((leadN (x ^^^ y) : Nat) : Int)) ∧ Below w.heap.size w w' := by
  go_enter Tryd.func81, Tryd.ntmps81
  go_wp2
  go_loopw [5] (fun i wr => ∃ k : Nat, k ≤ 128 ∧ i = .int .i64 k ∧ Hid ((x ^^^ y).toNat < 2 ^ (128 - k)) ∧ Rd wr w.heap.size x ∧ Rd wr (w.heap.size + 1) y ∧ Below w.heap.size w wr)
    (fun i _ => 128 - (intOf i).toNat)
  case atStart =>
    refine ⟨0, by omega, rfl, (x ^^^ y).isLt, ?_, ?_, bl2 _ _ _⟩
    · exact (Rd.new w x _).alloc _
    · have := Rd.new (w.alloc (.cells #[.int .u64 (hI x), .int .u64 (lI x)] 24)) y 24
      simpa using this
  case round =>
    obtain ⟨k, hk, rfl, hz, X, Y, hB⟩ := hrel
    have hbl := hB.drew
    by_cases hlt : (k : Int) < 128
    · have hst := bit_step (x ^^^ y) k (by omega) hz.out
      have hbe := bitZ_eq x y k (by omega)
      by_cases c : bitZ x (k : Int) = bitZ y (k : Int)
      · have hz' : Hid ((x ^^^ y).toNat < 2 ^ (128 - (k + 1))) := hst.1 (hbe.mp c)
        have hc : (bitZ x (k : Int) == bitZ y (k : Int)) = true := by simpa using c
        clear hst hbe hz c
        go_wp2
        go_region_held3 (fun w' => w'.cell? ⟨w.heap.size, 0, none⟩ = some (.int .u64 (hI x)) ∧ w'.cell? ⟨w.heap.size, 1, none⟩ = some (.int .u64 (lI x)) ∧ w'.cell? ⟨w.heap.size + 1, 0, none⟩ = some (.int .u64 (hI y)) ∧ w'.cell? ⟨w.heap.size + 1, 1, none⟩ = some (.int .u64 (lI y)) ∧ Below w.heap.size w w')
          (first
            | (obtain ⟨k1, k2, k3, k4, k9⟩ := ‹_ ∧ _›; exact ⟨keepc hb1 k1, keepc hb1 k2, keepc hb1 k3, keepc hb1 k4, keepb hb1 k9⟩)
            | exact ⟨X.1, X.2, Y.1, Y.2, hbl⟩)
          (first | (go_at_call 70; refine (rbit_any _ _ _).mono ?_; rintro e w1 ⟨rfl, hb1⟩))
        obtain ⟨k1, k2, k3, k4, kB⟩ := ‹_ ∧ _›
        go_wp2
        go_roundw
        case rel => exact ⟨k + 1, by omega, by go_num, hz', ⟨k1, k2⟩, ⟨k3, k4⟩, kB⟩
        case measure => simp [intOf]; omega
      · have hz' : Hid (2 ^ (127 - k) ≤ (x ^^^ y).toNat) := by
          apply hst.2
          cases hh : (x ^^^ y).getLsbD (127 - k)
          · exact absurd (hbe.mpr hh) c
          · rfl
        have hc : (bitZ x (k : Int) == bitZ y (k : Int)) = false := by simpa using c
        have HL : Hid (leadN (x ^^^ y) = k) := lead_char _ _ hk hz.out (Or.inr hz'.out)
        clear hst hbe hz hz' c
        go_wp2
        go_region_held3 (fun w' => w'.cell? ⟨w.heap.size, 0, none⟩ = some (.int .u64 (hI x)) ∧ w'.cell? ⟨w.heap.size, 1, none⟩ = some (.int .u64 (lI x)) ∧ w'.cell? ⟨w.heap.size + 1, 0, none⟩ = some (.int .u64 (hI y)) ∧ w'.cell? ⟨w.heap.size + 1, 1, none⟩ = some (.int .u64 (lI y)) ∧ Below w.heap.size w w')
          (first
            | (obtain ⟨k1, k2, k3, k4, k9⟩ := ‹_ ∧ _›; exact ⟨keepc hb1 k1, keepc hb1 k2, keepc hb1 k3, keepc hb1 k4, keepb hb1 k9⟩)
            | exact ⟨X.1, X.2, Y.1, Y.2, hbl⟩)
          (first | (go_at_call 70; refine (rbit_any _ _ _).mono ?_; rintro e w1 ⟨rfl, hb1⟩))
        obtain ⟨k1, k2, k3, k4, kB⟩ := ‹_ ∧ _›
        go_wp2
        go_ret
        exact ⟨by rw [HL.out]; rfl, kB⟩
    · have hk8 : k = 128 := by omega
      have HL : Hid (leadN (x ^^^ y) = k) := lead_char _ _ hk hz.out (Or.inl hk8)
      have hd : decide ((k : Int) < 128) = false := by simpa using hlt
      clear hlt hz hk8
      go_wp2
      go_quiet (fail)
      go_wp2
      go_ret
      exact ⟨by rw [HL.out]; rfl, below_drewN hB _⟩

end Go.Proofs.YtkgfeegcdohkdaaDoor
/-
  What the calls of the reference's chapter 3 do: Cut, Check, Of, Has, Within, Last, Parent, Meet, Cmp.
-/
namespace Go.Proofs.YtkgfeegcdohkdaaDoor
open Go.RowKit
set_option linter.unusedSimpArgs false
set_option linter.unusedVariables false

set_option maxHeartbeats 1000000 in
theorem rcut_any (x : BitVec 128) (n : Int) (w : World) :
    Calls Tryd.prog 51 #[.agg #[.int .u64 (hI x), .int .u64 (lI x)], .int .i64 n] w fun e w' => e = .returned (.agg #[.int .u64 (hI (cutW x n)), .int .u64 (lI (cutW x n)), .int .i64 n]) ∧ Below w.heap.size w w' := by
  have hbl := fun o p => (bl2 w o p).drew
  unfold cutW
  go_enter Tryd.func51, Tryd.ntmps51
  go_wp2
  go_region_held3 (fun w' => w'.cell? ⟨w.heap.size, 0, none⟩ = some (.int .u64 (hI x)) ∧ w'.cell? ⟨w.heap.size, 1, none⟩ = some (.int .u64 (lI x)) ∧ w'.cell? ⟨w.heap.size + 1, 0, none⟩ = some (cv w' (w.heap.size + 1) 0) ∧ w'.cell? ⟨w.heap.size + 1, 1, none⟩ = some (cv w' (w.heap.size + 1) 1) ∧ w'.cell? ⟨w.heap.size + 1, 2, none⟩ = some (cv w' (w.heap.size + 1) 2) ∧ w'.frozen? ⟨w.heap.size + 1, 0, none⟩ = false ∧ w'.frozen? ⟨w.heap.size + 1, 1, none⟩ = false ∧ w'.frozen? ⟨w.heap.size + 1, 2, none⟩ = false ∧ Below w.heap.size w w')
    (first
      | (obtain ⟨k1, k2, k3, k4, k5, k6, k7, k8, k9⟩ := ‹_ ∧ _›; exact ⟨keepc hb2 k1, keepc hb2 k2, cv_of (keepc hb2 k3), cv_of (keepc hb2 k4), cv_of (keepc hb2 k5), keepf hb2 k3 k6, keepf hb2 k4 k7, keepf hb2 k5 k8, keepb hb2 k9⟩)
      | (obtain ⟨k1, k2, k3, k4, k5, k6, k7, k8, k9⟩ := ‹_ ∧ _›; exact ⟨keepc hb1 k1, keepc hb1 k2, cv_of (keepc hb1 k3), cv_of (keepc hb1 k4), cv_of (keepc hb1 k5), keepf hb1 k3 k6, keepf hb1 k4 k7, keepf hb1 k5 k8, keepb hb1 k9⟩)
      | (refine ⟨?_, ?_, cv_new ?_, cv_new ?_, cv_new ?_, ?_, ?_, ?_, ?_⟩ <;> first | (simp [go_sem, *]; done) | exact bset3 (by simp [*]) (by simp) _ _ _))
    (first | (go_at_call 32; refine (rmask_any _ _).mono ?_; rintro e w1 ⟨rfl, hb1⟩) | (go_at_call 31; refine (rand_any _ _ _).mono ?_; rintro e w2 ⟨rfl, hb2⟩))
  obtain ⟨-, -, -, -, -, -, -, -, kB⟩ := ‹_ ∧ _›
  have e0 : w2.cell? ⟨w.heap.size + 1, 0, none⟩ = some (.int .u64 0) := keepc hb2 (keepc hb1 (by simp [go_sem]))
  have e1 : w2.cell? ⟨w.heap.size + 1, 1, none⟩ = some (.int .u64 0) := keepc hb2 (keepc hb1 (by simp [go_sem]))
  have e2 : w2.cell? ⟨w.heap.size + 1, 2, none⟩ = some (.int .i64 0) := keepc hb2 (keepc hb1 (by simp [go_sem]))
  go_wp2
  exact bodyPost_ret (v := .agg #[.int .u64 (hI (x &&& maskW n)), .int .u64 (lI (x &&& maskW n)), .int .i64 n]) (by simp [results, Tryd.results51, go_sem, e0, e1, e2]) rfl ⟨rfl, kB⟩

def rhasB (x : BitVec 128) (n : Int) (y : BitVec 128) : Bool := decide (n ≤ ((leadN (x ^^^ y) : Nat) : Int))
set_option maxHeartbeats 1000000 in
theorem rhas_any (x : BitVec 128) (n : Int) (y : BitVec 128) (w : World) :
    Calls Tryd.prog 44 #[.agg #[.int .u64 (hI x), .int .u64 (lI x), .int .i64 n], .agg #[.int .u64 (hI y), .int .u64 (lI y)]] w fun e w' => e = .returned (.bool (rhasB x n y)) ∧ Below w.heap.size w w' := by
  have hbl := fun o p => (bl2 w o p).drew
  have KC := fun w => common_any x y w
  unfold rhasB
  generalize ((leadN (x ^^^ y) : Nat) : Int) = l at *
  go_enter Tryd.func44, Tryd.ntmps44
  go_wp2
  go_region_held3 (fun w' => w'.cell? ⟨w.heap.size, 0, none⟩ = some (.int .u64 (hI x)) ∧ w'.cell? ⟨w.heap.size, 1, none⟩ = some (.int .u64 (lI x)) ∧ w'.cell? ⟨w.heap.size, 2, none⟩ = some (.int .i64 n) ∧ w'.cell? ⟨w.heap.size + 1, 0, none⟩ = some (.int .u64 (hI y)) ∧ w'.cell? ⟨w.heap.size + 1, 1, none⟩ = some (.int .u64 (lI y)) ∧ Below w.heap.size w w')
    (first
      | (obtain ⟨k1, k2, k3, k4, k5, k9⟩ := ‹_ ∧ _›; exact ⟨keepc hb1 k1, keepc hb1 k2, keepc hb1 k3, keepc hb1 k4, keepc hb1 k5, keepb hb1 k9⟩)
      | (refine ⟨?_, ?_, ?_, ?_, ?_, ?_⟩ <;> first | (simp [go_sem, *]; done) | exact hbl _ _))
    (first | (go_at_call 81; refine (KC _).mono ?_; rintro e w1 ⟨rfl, hb1⟩))
  obtain ⟨-, -, -, -, -, kB⟩ := ‹_ ∧ _›
  go_wp2
  go_ret
  exact ⟨rfl, kB⟩

def rwithinB (x : BitVec 128) (n : Int) (y : BitVec 128) (m : Int) : Bool := decide (m ≤ n) && rhasB y m x
set_option maxHeartbeats 1000000 in
theorem rwithin_any (x : BitVec 128) (n : Int) (y : BitVec 128) (m : Int) (w : World) :
    Calls Tryd.prog 37 #[.agg #[.int .u64 (hI x), .int .u64 (lI x), .int .i64 n], .agg #[.int .u64 (hI y), .int .u64 (lI y), .int .i64 m]] w fun e w' => e = .returned (.bool (rwithinB x n y m)) ∧ Below w.heap.size w w' := by
  have KH := fun w => rhas_any y m x w
  unfold rwithinB
  generalize rhasB y m x = b at *
  by_cases h : m ≤ n
  · simp only [h, decide_true, Bool.true_and]
    go_enter Tryd.func37, Tryd.ntmps37
    go_wp2_with fail
    refine (KH _).mono ?_
    rintro e w1 ⟨rfl, hb1⟩
    have kB := keepb hb1 (bl2 w _ _)
    clear hb1
    go_wp2
    go_ret
    exact ⟨rfl, kB⟩
  · simp only [h, decide_false, Bool.false_and]
    go_enter Tryd.func37, Tryd.ntmps37
    go_wp2
    go_ret
    exact ⟨rfl, bl2 _ _ _⟩

set_option maxHeartbeats 1000000 in
theorem rpcmp_any (x : BitVec 128) (n : Int) (y : BitVec 128) (m : Int) (w : World) :
    Calls Tryd.prog 36 #[.agg #[.int .u64 (hI x), .int .u64 (lI x), .int .i64 n], .agg #[.int .u64 (hI y), .int .u64 (lI y), .int .i64 m]] w fun e w' => e = .returned (.int .i64 (pcmpZ x n y m)) ∧ Below w.heap.size w w' := by
  have KC := fun w => rcmp_any x y w
  unfold pcmpZ cmpI
  generalize cmpZ x y = c at *
  by_cases h : c = 0
  · subst h
    rw [if_pos rfl]
    by_cases h1 : n < m
    · rw [if_pos h1]
      go_enter Tryd.func36, Tryd.ntmps36
      go_wp2_with fail
      refine (KC _).mono ?_
      rintro e w1 ⟨rfl, hb1⟩
      have kB := keepb hb1 (bl2 w _ _)
      obtain ⟨p0, p1, p2, -, -, -⟩ := ((atp_new w w.heap.size x n 26 rfl).below (bl1 _ (.cells #[.int .u64 (hI y), .int .u64 (lI y), .int .i64 m] 26))).below hb1
      obtain ⟨r0, r1, r2, -, -, -⟩ := (atp_new (w.alloc (.cells #[.int .u64 (hI x), .int .u64 (lI x), .int .i64 n] 26)) (w.heap.size + 1) y m 26 (by simp)).below hb1
      clear hb1 KC
      go_wp2
      go_ret
      exact ⟨rfl, kB⟩
    · rw [if_neg h1]
      by_cases h2 : m < n
      · rw [if_pos h2]
        go_enter Tryd.func36, Tryd.ntmps36
        go_wp2_with fail
        refine (KC _).mono ?_
        rintro e w1 ⟨rfl, hb1⟩
        have kB := keepb hb1 (bl2 w _ _)
        obtain ⟨p0, p1, p2, -, -, -⟩ := ((atp_new w w.heap.size x n 26 rfl).below (bl1 _ (.cells #[.int .u64 (hI y), .int .u64 (lI y), .int .i64 m] 26))).below hb1
        obtain ⟨r0, r1, r2, -, -, -⟩ := (atp_new (w.alloc (.cells #[.int .u64 (hI x), .int .u64 (lI x), .int .i64 n] 26)) (w.heap.size + 1) y m 26 (by simp)).below hb1
        clear hb1 KC
        go_wp2
        go_ret
        exact ⟨rfl, kB⟩
      · rw [if_neg h2]
        go_enter Tryd.func36, Tryd.ntmps36
        go_wp2_with fail
        refine (KC _).mono ?_
        rintro e w1 ⟨rfl, hb1⟩
        have kB := keepb hb1 (bl2 w _ _)
        obtain ⟨p0, p1, p2, -, -, -⟩ := ((atp_new w w.heap.size x n 26 rfl).below (bl1 _ (.cells #[.int .u64 (hI y), .int .u64 (lI y), .int .i64 m] 26))).below hb1
        obtain ⟨r0, r1, r2, -, -, -⟩ := (atp_new (w.alloc (.cells #[.int .u64 (hI x), .int .u64 (lI x), .int .i64 n] 26)) (w.heap.size + 1) y m 26 (by simp)).below hb1
        clear hb1 KC
        go_wp2
        go_ret
        exact ⟨rfl, kB⟩
  · have hb : (c != 0) = true := by simp [h]
    rw [if_neg h]
    go_enter Tryd.func36, Tryd.ntmps36
    go_wp2_with fail
    refine (KC _).mono ?_
    rintro e w1 ⟨rfl, hb1⟩
    have kB := keepb hb1 (bl2 w _ _)
    clear hb1 KC
    go_wp2
    go_ret
    exact ⟨rfl, kB⟩

theorem min3_comm (a b c : Int) : min (min c a) b = min (min a b) c := by omega
end Go.Proofs.YtkgfeegcdohkdaaDoor
/-
  What the calls of the reference's chapter 3 do: Check, Of, Last.
-/
namespace Go.Proofs.YtkgfeegcdohkdaaDoor
open Go.RowKit
set_option linter.unusedSimpArgs false
set_option linter.unusedVariables false

set_option maxHeartbeats 1000000 in
theorem rcheck_any (F : Int) (x : BitVec 128) (n : Int) (w : World) :
    Calls Tryd.prog 41 #[.int .i64 F, .agg #[.int .u64 (hI x), .int .u64 (lI x), .int .i64 n]] w fun e w' => e = .returned (.int .i64 (checkE F x n)) ∧ Below w.heap.size w w' := by
  have KL := fun w => isFamily_any F w
  unfold checkE
  cases h : fam F
  · rw [if_neg (by simp)]
    rw [h] at KL
    clear h
    go_enter Tryd.func41, Tryd.ntmps41
    go_wp2_with fail
    refine (KL _).mono ?_
    rintro e w1 ⟨rfl, rfl⟩
    go_wp2
    go_ret
    exact ⟨rfl, bl1 _ _⟩
  · rw [if_pos rfl]
    rw [h] at KL
    clear h
    have KM := fun n w => rmask_any n w
    by_cases h0 : n < 0
    · rw [if_pos h0]
      go_enter Tryd.func41, Tryd.ntmps41
      go_wp2_with fail
      refine (KL _).mono ?_
      rintro e w1 ⟨rfl, rfl⟩
      go_wp2
      go_ret
      exact ⟨rfl, bl1 _ _⟩
    by_cases h1 : F < n
    · rw [if_neg h0, if_pos h1]
      go_enter Tryd.func41, Tryd.ntmps41
      go_wp2_with fail
      refine (KL _).mono ?_
      rintro e w1 ⟨rfl, rfl⟩
      go_wp2
      go_ret
      exact ⟨rfl, bl1 _ _⟩
    rw [if_neg h0, if_neg h1]
    have KC := fun w => rand_any x (maskW n) w
    have KN := fun w => rmask_any n w
    unfold cutW
    generalize maskW n = k at *
    revert KC
    generalize x &&& k = c
    intro KC
    have hbl := fun o => (bl1 w o).drew
    rcases eqw c x with ⟨q1, q2, q3⟩ | ⟨q1, q3⟩ | ⟨q1, q2, q3⟩
    all_goals
      rw [q3]
      first | rw [if_pos rfl] | rw [if_neg (by simp)]
      clear q3
      go_enter Tryd.func41, Tryd.ntmps41
      go_wp2_with fail
      refine (KL _).mono ?_
      rintro e w1 ⟨rfl, rfl⟩
      clear KL KM
      go_wp2_with fail
      go_region_held3 (fun w' => w'.cell? ⟨w.heap.size, 0, none⟩ = some (.int .u64 (hI x)) ∧ w'.cell? ⟨w.heap.size, 1, none⟩ = some (.int .u64 (lI x)) ∧ w'.cell? ⟨w.heap.size, 2, none⟩ = some (.int .i64 n) ∧ Below w.heap.size w w')
        (first
          | (obtain ⟨k1, k2, k3, k9⟩ := ‹_ ∧ _›; exact ⟨keepc hb3 k1, keepc hb3 k2, keepc hb3 k3, keepb hb3 k9⟩)
          | (obtain ⟨k1, k2, k3, k9⟩ := ‹_ ∧ _›; exact ⟨keepc hb2 k1, keepc hb2 k2, keepc hb2 k3, keepb hb2 k9⟩)
          | (refine ⟨?_, ?_, ?_, ?_⟩ <;> first | (simp [go_sem, *]; done) | exact hbl _))
        (first | (go_at_call 32; refine (KN _).mono ?_; rintro e w2 ⟨rfl, hb2⟩) | (go_at_call 31; refine (KC _).mono ?_; rintro e w3 ⟨rfl, hb3⟩))
      obtain ⟨-, -, -, kB3⟩ := ‹_ ∧ _›
      go_wp2
      go_ret
      exact ⟨rfl, kB3⟩

theorem maskW_idem (x : BitVec 128) (n : Int) : cutW (cutW x n) n = cutW x n := by
  unfold cutW
  rw [BitVec.and_assoc, BitVec.and_self]
theorem ofE_eq (F : Int) (x : BitVec 128) (n : Int) (h : rightE F x = 0) : checkE F (cutW x n) n = if n < 0 then 13 else if F < n then 13 else 0 := by
  have hf : fam F = true := by
    unfold rightE at h
    split at h
    · assumption
    · omega
  unfold checkE
  simp [hf, maskW_idem]
def rlastW (F : Int) (x : BitVec 128) (n : Int) : BitVec 128 := x ||| (~~~(maskW n) &&& maskW F)
set_option maxHeartbeats 2000000 in
set_option maxRecDepth 20000 in
theorem rplast_any (F : Int) (x : BitVec 128) (n : Int) (w : World) :
    Calls Tryd.prog 43 #[.int .i64 F, .agg #[.int .u64 (hI x), .int .u64 (lI x), .int .i64 n]] w fun e w' => e = .returned (.agg #[.int .u64 (hI (rlastW F x n)), .int .u64 (lI (rlastW F x n))]) ∧ Below w.heap.size w w' := by
  have hbl := fun o p => (bl2 w o p).drew
  unfold rlastW
  go_enter Tryd.func43, Tryd.ntmps43
  go_wp2
  go_region_held3 (fun w' => w'.cell? ⟨w.heap.size, 0, none⟩ = some (.int .u64 (hI x)) ∧ w'.cell? ⟨w.heap.size, 1, none⟩ = some (.int .u64 (lI x)) ∧ w'.cell? ⟨w.heap.size, 2, none⟩ = some (.int .i64 n) ∧ w'.cell? ⟨w.heap.size + 1, 0, none⟩ = some (cv w' (w.heap.size + 1) 0) ∧ w'.cell? ⟨w.heap.size + 1, 1, none⟩ = some (cv w' (w.heap.size + 1) 1) ∧ w'.frozen? ⟨w.heap.size + 1, 0, none⟩ = false ∧ w'.frozen? ⟨w.heap.size + 1, 1, none⟩ = false ∧ Below w.heap.size w w')
    (first
      | (obtain ⟨k1, k2, k0, k3, k4, k6, k7, k9⟩ := ‹_ ∧ _›; exact ⟨keepc hb1 k1, keepc hb1 k2, keepc hb1 k0, cv_of (keepc hb1 k3), cv_of (keepc hb1 k4), keepf hb1 k3 k6, keepf hb1 k4 k7, keepb hb1 k9⟩)
      | (refine ⟨?_, ?_, ?_, cv_new ?_, cv_new ?_, ?_, ?_, ?_⟩ <;> first | (simp [go_sem, *]; done) | exact bset2 (by simp [*]) (by simp) _ _))
    (first | (go_at_call 32; refine (rmask_any _ _).mono ?_; rintro e w1 ⟨rfl, hb1⟩) | (go_at_call 80; refine (rnot_any _ _).mono ?_; rintro e w1 ⟨rfl, hb1⟩) | (go_at_call 31; refine (rand_any _ _ _).mono ?_; rintro e w1 ⟨rfl, hb1⟩) | (go_at_call 79; refine (ror_any _ _ _).mono ?_; rintro e w1 ⟨rfl, hb1⟩))
  rename_i wa ha wb hb wc hc wd hd hH
  obtain ⟨-, -, -, -, -, -, -, kB⟩ := hH
  have e0 : w1.cell? ⟨w.heap.size + 1, 0, none⟩ = some (.int .u64 0) := keepc hb1 (keepc hd (keepc hc (keepc hb (keepc ha (by simp [go_sem])))))
  have e1 : w1.cell? ⟨w.heap.size + 1, 1, none⟩ = some (.int .u64 0) := keepc hb1 (keepc hd (keepc hc (keepc hb (keepc ha (by simp [go_sem])))))
  clear ha hb hc hd hb1
  go_wp2
  exact bodyPost_ret (v := .agg #[.int .u64 (hI (x ||| (~~~(maskW n) &&& maskW F))), .int .u64 (lI (x ||| (~~~(maskW n) &&& maskW F)))]) (by simp [results, Tryd.results43, go_sem, e0, e1]) rfl ⟨rfl, kB⟩
end Go.Proofs.YtkgfeegcdohkdaaDoor
