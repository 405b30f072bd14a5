/-
  Part 7 of the proof: 7 texts, one behind the other.
-/
import Derived.Test.YtdgmfdfhbhmppaaDoorPart2
import Derived.Test.YtdgmfdfhbhmppaaDoorPart4
import Derived.Test.YtdgmfdfhbhmppaaDoorPart6
import Derived.Deep.QuietTactic
import Derived.BigQuiet
import Derived.Test.YtdgmfdfhbhmppaaDoorPart5
import Derived.Lib.Strings
import Derived.Laws.IdiomStrings
/-
  What each call of turnpikeref1's Add and Sub does.
-/
namespace Go.Proofs.YtdgmfdfhbhmppaaDoor
open Go.RowKit
set_option linter.unusedSimpArgs false
set_option linter.unusedVariables false

/-- The sum of the upper halves, as it wraps. -/
def hs (x y : BitVec 128) : Int := IntKind.u64.wrap (hI x + hI y)
theorem wrapu (n : Int) : IntKind.u64.wrap n = n % 18446744073709551616 := by simp [IntKind.wrap, IntKind.bits, IntKind.signed]
theorem lo_sum (x y : BitVec 128) : IntKind.u64.wrap (lI x + lI y) = lI (x + y) := by
  rw [wrapu, lIN, lIN, lIN, BitVec.toNat_add]; omega
theorem hi_sum1 (x y : BitVec 128) (h : lI (x + y) < lI x) : IntKind.u64.wrap (hs x y + 1) = hI (x + y) := by
  unfold hs; rw [wrapu, wrapu]; rw [lIN, lIN, BitVec.toNat_add] at h; rw [hIN, hIN, hIN, BitVec.toNat_add]
  have := x.isLt; have := y.isLt; omega
theorem hi_sum0 (x y : BitVec 128) (h : ¬ lI (x + y) < lI x) : IntKind.u64.wrap (hs x y) = hI (x + y) := by
  unfold hs; rw [wrapu, wrapu]; rw [lIN, lIN, BitVec.toNat_add] at h; rw [hIN, hIN, hIN, BitVec.toNat_add]
  have := x.isLt; have := y.isLt; omega
theorem over_of (x y : BitVec 128) : overB x y = (decide (hs x y < hI x) || decide (hI (x + y) < hs x y)) := by
  rw [Bool.eq_iff_iff]; simp only [Bool.or_eq_true, decide_eq_true_eq]
  unfold overB hs; simp only [decide_eq_true_eq]; rw [wrapu, hIN, hIN, hIN, BitVec.toNat_add]
  have := x.isLt; have := y.isLt; omega

set_option maxHeartbeats 1000000 in
theorem radd_any (x y : BitVec 128) (w : World) :
    Calls Tryd.prog 13 #[.agg #[.int .u64 (hI x), .int .u64 (lI x)], .agg #[.int .u64 (hI y), .int .u64 (lI y)]] w fun e w' => e = .returned (.tuple #[.agg #[.int .u64 (hI (x + y)), .int .u64 (lI (x + y))], .bool (overB x y)]) ∧ Below w.heap.size w w' := by
  have e1 := lo_sum x y
  have e2 : IntKind.u64.wrap (hI x + hI y) = hs x y := rfl
  have ov : (hs x y < hI x ∧ overB x y = true) ∨ (¬ hs x y < hI x ∧ hI (x + y) < hs x y ∧ overB x y = true) ∨ (¬ hs x y < hI x ∧ ¬ hI (x + y) < hs x y ∧ overB x y = false) := by
    rw [over_of]
    by_cases c : hs x y < hI x
    · exact Or.inl ⟨c, by simp [c]⟩
    · by_cases d : hI (x + y) < hs x y
      · exact Or.inr (Or.inl ⟨c, d, by simp [d]⟩)
      · exact Or.inr (Or.inr ⟨c, d, by simp [c, d]⟩)
  by_cases h : lI (x + y) < lI x
  · have e3 := hi_sum1 x y h
    rcases ov with ⟨c, ov⟩ | ⟨c, d, ov⟩ | ⟨c, d, ov⟩
    · rw [ov]; clear ov
      go_enter Tryd.func13, Tryd.ntmps13
      go_wp2
      exact bodyPost_ret (v := .tuple #[.agg #[.int .u64 (hI (x + y)), .int .u64 (lI (x + y))], .bool true]) (by simp [results, Tryd.results13, go_sem]) rfl ⟨rfl, bl3 _ _ _ _⟩
    · rw [ov]; clear ov
      go_enter Tryd.func13, Tryd.ntmps13
      go_wp2
      exact bodyPost_ret (v := .tuple #[.agg #[.int .u64 (hI (x + y)), .int .u64 (lI (x + y))], .bool true]) (by simp [results, Tryd.results13, go_sem]) rfl ⟨rfl, bl3 _ _ _ _⟩
    · rw [ov]; clear ov
      go_enter Tryd.func13, Tryd.ntmps13
      go_wp2
      exact bodyPost_ret (v := .tuple #[.agg #[.int .u64 (hI (x + y)), .int .u64 (lI (x + y))], .bool false]) (by simp [results, Tryd.results13, go_sem]) rfl ⟨rfl, bl3 _ _ _ _⟩
  · have e3 := hi_sum0 x y h
    rcases ov with ⟨c, ov⟩ | ⟨c, d, ov⟩ | ⟨c, d, ov⟩
    · rw [ov]; clear ov
      go_enter Tryd.func13, Tryd.ntmps13
      go_wp2
      exact bodyPost_ret (v := .tuple #[.agg #[.int .u64 (hI (x + y)), .int .u64 (lI (x + y))], .bool true]) (by simp [results, Tryd.results13, go_sem]) rfl ⟨rfl, bl3 _ _ _ _⟩
    · rw [ov]; clear ov
      go_enter Tryd.func13, Tryd.ntmps13
      go_wp2
      exact bodyPost_ret (v := .tuple #[.agg #[.int .u64 (hI (x + y)), .int .u64 (lI (x + y))], .bool true]) (by simp [results, Tryd.results13, go_sem]) rfl ⟨rfl, bl3 _ _ _ _⟩
    · rw [ov]; clear ov
      go_enter Tryd.func13, Tryd.ntmps13
      go_wp2
      exact bodyPost_ret (v := .tuple #[.agg #[.int .u64 (hI (x + y)), .int .u64 (lI (x + y))], .bool false]) (by simp [results, Tryd.results13, go_sem]) rfl ⟨rfl, bl3 _ _ _ _⟩

/-- The difference of the upper halves, as it wraps. -/
def hd (x y : BitVec 128) : Int := IntKind.u64.wrap (hI x - hI y)
theorem lo_dif (x y : BitVec 128) : IntKind.u64.wrap (lI x - lI y) = lI (x - y) := by
  rw [wrapu, lIN, lIN, lIN, BitVec.toNat_sub]
  have := x.isLt; have := y.isLt; omega
theorem hi_dif1 (x y : BitVec 128) (h : lI x < lI y) : IntKind.u64.wrap (hd x y - 1) = hI (x - y) := by
  unfold hd; rw [wrapu, wrapu]; rw [lIN, lIN] at h; rw [hIN, hIN, hIN, BitVec.toNat_sub]
  have := x.isLt; have := y.isLt; omega
theorem hi_dif0 (x y : BitVec 128) (h : ¬ lI x < lI y) : IntKind.u64.wrap (hd x y) = hI (x - y) := by
  unfold hd; rw [wrapu, wrapu]; rw [lIN, lIN] at h; rw [hIN, hIN, hIN, BitVec.toNat_sub]
  have := x.isLt; have := y.isLt; omega
theorem cmp_under (x y : BitVec 128) : decide (cmpZ x y < 0) = underB x y := by
  rw [Bool.eq_iff_iff]; simp only [decide_eq_true_eq]; exact cmp_lt x y

end Go.Proofs.YtdgmfdfhbhmppaaDoor
/-
  What the calls of turnpikeref2's IsFamily, Right, Last, one, Next and Prev do.
-/
namespace Go.Proofs.YtdgmfdfhbhmppaaDoor
open Go.RowKit
set_option linter.unusedSimpArgs false
set_option linter.unusedVariables false

theorem isFamily_any (F : Int) (w : World) :
    Calls Tryd.prog 38 #[.int .i64 F] w fun e w' => e = .returned (.bool (fam F)) ∧ w' = w := by
  unfold fam
  by_cases h1 : F = 32
  · subst h1
    go_enter Tryd.func38, Tryd.ntmps38
    go_wp2
    go_ret
    exact ⟨rfl, rfl⟩
  · have b1 : (F == 32) = false := by simp [h1]
    have b2 : (F == 128) = decide (F = 128) := by rw [Bool.eq_iff_iff]; simp
    rw [show decide (F = 32) = false by simp [h1], Bool.false_or]
    go_enter Tryd.func38, Tryd.ntmps38
    go_wp2
    go_ret
    exact ⟨rfl, rfl⟩

theorem put0K (i : Int) (w : World) (h0 : 0 ≤ i) (h1 : i ≤ 127) :
    Calls Tryd.prog 15 #[.agg #[.int .u64 0, .int .u64 0], .int .i64 i, .int .i64 1] w fun e w' => e = .returned (.agg #[.int .u64 (hI (putW 0#128 i 1)), .int .u64 (lI (putW 0#128 i 1))]) ∧ Below w.heap.size w w' := by
  have h := put_any 0#128 i 1 w (Or.inr rfl) h0 h1
  rw [hI_zero, lI_zero] at h
  exact h
set_option maxHeartbeats 1000000 in
theorem rone_any (F : Int) (w : World) (hf : fam F = true) :
    Calls Tryd.prog 42 #[.int .i64 F] w fun e w' => e = .returned (.agg #[.int .u64 (hI (stepW F)), .int .u64 (lI (stepW F))]) ∧ Below w.heap.size w w' := by
  have hF : 32 ≤ F ∧ F ≤ 128 := by rcases fam_ways F hf with rfl | rfl <;> omega
  have KP := fun w => put0K (F - 1) w (by omega) (by omega)
  rw [put_step F hf] at KP
  have hu : IntKind.i64.wrap (F - 1) = F - 1 := by rw [IntKind.wrap_i64]; omega
  clear hf
  generalize stepW F = y at *
  go_enter Tryd.func42, Tryd.ntmps42
  go_wp2_with fail
  refine (KP _).mono ?_
  rintro e w1 ⟨rfl, hb1⟩
  have hZ := (at_new w w.heap.size 0#128 24 rfl).below hb1
  have kB := keepb hb1 (bl1 w _)
  obtain ⟨z0, z1, z2, z3, z4⟩ := hZ
  clear hb1 KP
  go_wp2
  exact bodyPost_ret (v := .agg #[.int .u64 (hI y), .int .u64 (lI y)]) (by simp [results, Tryd.results42, go_sem, *]) rfl ⟨rfl, bset2 kB (Nat.le_refl _) _ _⟩

theorem three (y x : BitVec 128) : ((hI y == hI x) = true ∧ (lI y == lI x) = true ∧ y = x) ∨ ((hI y == hI x) = false ∧ ¬ y = x) ∨ ((hI y == hI x) = true ∧ (lI y == lI x) = false ∧ ¬ y = x) := by
  by_cases e : y = x
  · exact Or.inl ⟨by simp [e], by simp [e], e⟩
  · by_cases e1 : hI y = hI x
    · exact Or.inr (Or.inr ⟨by simp [e1], by simp; exact fun e2 => e (eq_ints e1 e2), e⟩)
    · exact Or.inr (Or.inl ⟨by simp [e1], e⟩)
theorem three0 (y : BitVec 128) : ((hI y == 0) = true ∧ (lI y == 0) = true ∧ y = 0#128) ∨ ((hI y == 0) = false ∧ ¬ y = 0#128) ∨ ((hI y == 0) = true ∧ (lI y == 0) = false ∧ ¬ y = 0#128) := by
  have h := three y 0#128
  rw [hI_zero, lI_zero] at h; exact h

set_option maxHeartbeats 1000000 in
theorem rright_any (F : Int) (x : BitVec 128) (w : World) :
    Calls Tryd.prog 41 #[.int .i64 F, .agg #[.int .u64 (hI x), .int .u64 (lI x)]] w fun e w' => e = .returned (.int .i64 (rightE F x)) ∧ Below w.heap.size w w' := by
  have KI := fun w => isFamily_any F w
  unfold rightE
  cases h : fam F
  · rw [if_neg (by simp)]
    rw [h] at KI
    go_enter Tryd.func41, Tryd.ntmps41
    go_wp2_with fail
    refine (KI _).mono ?_
    rintro e w1 ⟨rfl, rfl⟩
    clear KI
    go_wp2
    go_ret
    exact ⟨rfl, bl1 _ _⟩
  · rw [if_pos rfl]
    rw [h] at KI
    have ha := and_not_mask F x
    have KA := fun w => rand_any x (~~~(maskW F)) w
    generalize x &&& ~~~(maskW F) = y at *
    have fin : ∀ (v : Int), v = (if x &&& maskW F = x then 0 else 6) → ((hI y == 0) = true ∧ (lI y == 0) = true ∧ v = 0 ∨ (hI y == 0) = false ∧ v = 6 ∨ (hI y == 0) = true ∧ (lI y == 0) = false ∧ v = 6) := by
      intro v hv
      rcases three0 y with ⟨a, b, c⟩ | ⟨a, c⟩ | ⟨a, b, c⟩
      · rw [if_pos (ha.mp c)] at hv; exact Or.inl ⟨a, b, hv⟩
      · rw [if_neg (fun q => c (ha.mpr q))] at hv; exact Or.inr (Or.inl ⟨a, hv⟩)
      · rw [if_neg (fun q => c (ha.mpr q))] at hv; exact Or.inr (Or.inr ⟨a, b, hv⟩)
    clear ha h
    generalize (if x &&& maskW F = x then (0 : Int) else 6) = v at *
    rcases fin v rfl with ⟨q1, q2, rfl⟩ | ⟨q1, rfl⟩ | ⟨q1, q2, rfl⟩
    all_goals
      clear fin
      go_enter Tryd.func41, Tryd.ntmps41
      go_wp2_with fail
      refine (KI _).mono ?_
      rintro e w1 ⟨rfl, rfl⟩
      clear KI
      have kB := (bl1 w (.cells #[.int .u64 (hI x), .int .u64 (lI x)] 24)).drew
      go_wp2_with fail
      go_region_held3 (fun w' => w'.cell? ⟨w.heap.size, 0, none⟩ = some (.int .u64 (hI x)) ∧ w'.cell? ⟨w.heap.size, 1, none⟩ = some (.int .u64 (lI x)) ∧ Below w.heap.size w w')
        (first
          | (obtain ⟨k1, k2, k9⟩ := ‹_ ∧ _›; exact ⟨keepc hb4 k1, keepc hb4 k2, keepb hb4 k9⟩)
          | (obtain ⟨k1, k2, k9⟩ := ‹_ ∧ _›; exact ⟨keepc hb3 k1, keepc hb3 k2, keepb hb3 k9⟩)
          | (obtain ⟨k1, k2, k9⟩ := ‹_ ∧ _›; exact ⟨keepc hb2 k1, keepc hb2 k2, keepb hb2 k9⟩)
          | exact ⟨by simp [go_sem], by simp [go_sem], kB⟩)
        (first
          | (go_at_call 40; refine (rmask_any _ _).mono ?_; rintro e w2 ⟨rfl, hb2⟩)
          | (go_at_call 44; refine (rnot_any _ _).mono ?_; rintro e w3 ⟨rfl, hb3⟩)
          | (go_at_call 39; refine (KA _).mono ?_; rintro e w4 ⟨rfl, hb4⟩))
      obtain ⟨-, -, kB3⟩ := ‹_ ∧ _›
      go_wp2
      go_ret
      exact ⟨rfl, kB3⟩
end Go.Proofs.YtdgmfdfhbhmppaaDoor
/-
  What each call of turnpikeref1's Common, Lead, fits, Field and With does.
-/
namespace Go.Proofs.YtdgmfdfhbhmppaaDoor
open Go.RowKit
set_option linter.unusedSimpArgs false
set_option linter.unusedVariables false

/-- The variable at block B reads as the word x. -/
def Rd (w : World) (B : Nat) (x : BitVec 128) : Prop := w.cell? ⟨B, 0, none⟩ = some (.int .u64 (hI x)) ∧ w.cell? ⟨B, 1, none⟩ = some (.int .u64 (lI x))
theorem Rd.keep {W w' : World} {B : Nat} {x : BitVec 128} (h : Rd W B x) (hb : Below W.heap.size W w') : Rd w' B x := ⟨keepc hb h.1, keepc hb h.2⟩
theorem Rd.alloc {W : World} {B : Nat} {x : BitVec 128} (h : Rd W B x) (o : Obj) : Rd (W.alloc o) B x := h.keep (bl1 W o)
theorem Rd.new (W : World) (x : BitVec 128) (t : TypeId) : Rd (W.alloc (.cells #[.int .u64 (hI x), .int .u64 (lI x)] t)) W.heap.size x := by
  constructor <;> simp [go_sem]
/-- The word that the variable at block B holds, under a name that no rule opens. -/
def rdW (w : World) (B : Nat) : BitVec 128 := mkW (intOf (cv w B 0)) (intOf (cv w B 1))
theorem Rd.word {w : World} {B : Nat} {x : BitVec 128} (h : Rd w B x) : rdW w B = x := by
  unfold rdW cv; rw [h.1, h.2]; exact mk_ints x

theorem Rd.self {w : World} {B : Nat} {x : BitVec 128} (h : Rd w B x) : Rd w B (rdW w B) := by rw [h.word]; exact h

set_option maxHeartbeats 2000000 in
theorem common_any (x y : BitVec 128) (w : World) :
    Calls Tryd.prog 45 #[.agg #[.int .u64 (hI x), .int .u64 (lI x)], .agg #[.int .u64 (hI y), .int .u64 (lI y)]] w fun e w' => e = .returned (.int .i64 ((leadN (x ^^^ y) : Nat) : Int)) ∧ Below w.heap.size w w' := by
  go_enter Tryd.func45, Tryd.ntmps45
  go_wp2
  go_loopw [5] (fun i wr => ∃ k : Nat, k ≤ 128 ∧ i = .int .i64 k ∧ Hid ((x ^^^ y).toNat < 2 ^ (128 - k)) ∧ Rd wr w.heap.size x ∧ Rd wr (w.heap.size + 1) y ∧ Below w.heap.size w wr)
    (fun i _ => 128 - (intOf i).toNat)
  case atStart =>
    refine ⟨0, by omega, rfl, (x ^^^ y).isLt, ?_, ?_, bl2 _ _ _⟩
    · exact (Rd.new w x _).alloc _
    · have := Rd.new (w.alloc (.cells #[.int .u64 (hI x), .int .u64 (lI x)] 24)) y 24
      simpa using this
  case round =>
    obtain ⟨k, hk, rfl, hz, X, Y, hB⟩ := hrel
    have hbl := hB.drew
    by_cases hlt : (k : Int) < 128
    · have hst := bit_step (x ^^^ y) k (by omega) hz.out
      have hbe := bitZ_eq x y k (by omega)
      by_cases c : bitZ x (k : Int) = bitZ y (k : Int)
      · have hz' : Hid ((x ^^^ y).toNat < 2 ^ (128 - (k + 1))) := hst.1 (hbe.mp c)
        have hc : (bitZ x (k : Int) == bitZ y (k : Int)) = true := by simpa using c
        clear hst hbe hz c
        go_wp2
        go_region_held3 (fun w' => w'.cell? ⟨w.heap.size, 0, none⟩ = some (.int .u64 (hI x)) ∧ w'.cell? ⟨w.heap.size, 1, none⟩ = some (.int .u64 (lI x)) ∧ w'.cell? ⟨w.heap.size + 1, 0, none⟩ = some (.int .u64 (hI y)) ∧ w'.cell? ⟨w.heap.size + 1, 1, none⟩ = some (.int .u64 (lI y)) ∧ Below w.heap.size w w')
          (first
            | (obtain ⟨k1, k2, k3, k4, k9⟩ := ‹_ ∧ _›; exact ⟨keepc hb1 k1, keepc hb1 k2, keepc hb1 k3, keepc hb1 k4, keepb hb1 k9⟩)
            | exact ⟨X.1, X.2, Y.1, Y.2, hbl⟩)
          (first | (go_at_call 60; refine (rbit_any _ _ _).mono ?_; rintro e w1 ⟨rfl, hb1⟩))
        obtain ⟨k1, k2, k3, k4, kB⟩ := ‹_ ∧ _›
        go_wp2
        go_roundw
        case rel => exact ⟨k + 1, by omega, by go_num, hz', ⟨k1, k2⟩, ⟨k3, k4⟩, kB⟩
        case measure => simp [intOf]; omega
      · have hz' : Hid (2 ^ (127 - k) ≤ (x ^^^ y).toNat) := by
          apply hst.2
          cases hh : (x ^^^ y).getLsbD (127 - k)
          · exact absurd (hbe.mpr hh) c
          · rfl
        have hc : (bitZ x (k : Int) == bitZ y (k : Int)) = false := by simpa using c
        have HL : Hid (leadN (x ^^^ y) = k) := lead_char _ _ hk hz.out (Or.inr hz'.out)
        clear hst hbe hz hz' c
        go_wp2
        go_region_held3 (fun w' => w'.cell? ⟨w.heap.size, 0, none⟩ = some (.int .u64 (hI x)) ∧ w'.cell? ⟨w.heap.size, 1, none⟩ = some (.int .u64 (lI x)) ∧ w'.cell? ⟨w.heap.size + 1, 0, none⟩ = some (.int .u64 (hI y)) ∧ w'.cell? ⟨w.heap.size + 1, 1, none⟩ = some (.int .u64 (lI y)) ∧ Below w.heap.size w w')
          (first
            | (obtain ⟨k1, k2, k3, k4, k9⟩ := ‹_ ∧ _›; exact ⟨keepc hb1 k1, keepc hb1 k2, keepc hb1 k3, keepc hb1 k4, keepb hb1 k9⟩)
            | exact ⟨X.1, X.2, Y.1, Y.2, hbl⟩)
          (first | (go_at_call 60; refine (rbit_any _ _ _).mono ?_; rintro e w1 ⟨rfl, hb1⟩))
        obtain ⟨k1, k2, k3, k4, kB⟩ := ‹_ ∧ _›
        go_wp2
        go_ret
        exact ⟨by rw [HL.out]; rfl, kB⟩
    · have hk8 : k = 128 := by omega
      have HL : Hid (leadN (x ^^^ y) = k) := lead_char _ _ hk hz.out (Or.inl hk8)
      have hd : decide ((k : Int) < 128) = false := by simpa using hlt
      clear hlt hz hk8
      go_wp2
      go_quiet (fail)
      go_wp2
      go_ret
      exact ⟨by rw [HL.out]; rfl, below_drewN hB _⟩

end Go.Proofs.YtdgmfdfhbhmppaaDoor
/-
  What the calls of the reference's chapter 3 do: Cut, Check, Of, Has, Within, Last, Parent, Meet, Cmp.
-/
namespace Go.Proofs.YtdgmfdfhbhmppaaDoor
open Go.RowKit
set_option linter.unusedSimpArgs false
set_option linter.unusedVariables false

set_option maxHeartbeats 1000000 in
theorem rcut_any (x : BitVec 128) (n : Int) (w : World) :
    Calls Tryd.prog 28 #[.agg #[.int .u64 (hI x), .int .u64 (lI x)], .int .i64 n] w fun e w' => e = .returned (.agg #[.int .u64 (hI (cutW x n)), .int .u64 (lI (cutW x n)), .int .i64 n]) ∧ Below w.heap.size w w' := by
  have hbl := fun o p => (bl2 w o p).drew
  unfold cutW
  go_enter Tryd.func28, Tryd.ntmps28
  go_wp2
  go_region_held3 (fun w' => w'.cell? ⟨w.heap.size, 0, none⟩ = some (.int .u64 (hI x)) ∧ w'.cell? ⟨w.heap.size, 1, none⟩ = some (.int .u64 (lI x)) ∧ w'.cell? ⟨w.heap.size + 1, 0, none⟩ = some (cv w' (w.heap.size + 1) 0) ∧ w'.cell? ⟨w.heap.size + 1, 1, none⟩ = some (cv w' (w.heap.size + 1) 1) ∧ w'.cell? ⟨w.heap.size + 1, 2, none⟩ = some (cv w' (w.heap.size + 1) 2) ∧ w'.frozen? ⟨w.heap.size + 1, 0, none⟩ = false ∧ w'.frozen? ⟨w.heap.size + 1, 1, none⟩ = false ∧ w'.frozen? ⟨w.heap.size + 1, 2, none⟩ = false ∧ Below w.heap.size w w')
    (first
      | (obtain ⟨k1, k2, k3, k4, k5, k6, k7, k8, k9⟩ := ‹_ ∧ _›; exact ⟨keepc hb2 k1, keepc hb2 k2, cv_of (keepc hb2 k3), cv_of (keepc hb2 k4), cv_of (keepc hb2 k5), keepf hb2 k3 k6, keepf hb2 k4 k7, keepf hb2 k5 k8, keepb hb2 k9⟩)
      | (obtain ⟨k1, k2, k3, k4, k5, k6, k7, k8, k9⟩ := ‹_ ∧ _›; exact ⟨keepc hb1 k1, keepc hb1 k2, cv_of (keepc hb1 k3), cv_of (keepc hb1 k4), cv_of (keepc hb1 k5), keepf hb1 k3 k6, keepf hb1 k4 k7, keepf hb1 k5 k8, keepb hb1 k9⟩)
      | (refine ⟨?_, ?_, cv_new ?_, cv_new ?_, cv_new ?_, ?_, ?_, ?_, ?_⟩ <;> first | (simp [go_sem, *]; done) | exact bset3 (by simp [*]) (by simp) _ _ _))
    (first | (go_at_call 40; refine (rmask_any _ _).mono ?_; rintro e w1 ⟨rfl, hb1⟩) | (go_at_call 39; refine (rand_any _ _ _).mono ?_; rintro e w2 ⟨rfl, hb2⟩))
  obtain ⟨-, -, -, -, -, -, -, -, kB⟩ := ‹_ ∧ _›
  have e0 : w2.cell? ⟨w.heap.size + 1, 0, none⟩ = some (.int .u64 0) := keepc hb2 (keepc hb1 (by simp [go_sem]))
  have e1 : w2.cell? ⟨w.heap.size + 1, 1, none⟩ = some (.int .u64 0) := keepc hb2 (keepc hb1 (by simp [go_sem]))
  have e2 : w2.cell? ⟨w.heap.size + 1, 2, none⟩ = some (.int .i64 0) := keepc hb2 (keepc hb1 (by simp [go_sem]))
  go_wp2
  exact bodyPost_ret (v := .agg #[.int .u64 (hI (x &&& maskW n)), .int .u64 (lI (x &&& maskW n)), .int .i64 n]) (by simp [results, Tryd.results28, go_sem, e0, e1, e2]) rfl ⟨rfl, kB⟩

def rhasB (x : BitVec 128) (n : Int) (y : BitVec 128) : Bool := decide (n ≤ ((leadN (x ^^^ y) : Nat) : Int))
set_option maxHeartbeats 1000000 in
theorem rhas_any (x : BitVec 128) (n : Int) (y : BitVec 128) (w : World) :
    Calls Tryd.prog 21 #[.agg #[.int .u64 (hI x), .int .u64 (lI x), .int .i64 n], .agg #[.int .u64 (hI y), .int .u64 (lI y)]] w fun e w' => e = .returned (.bool (rhasB x n y)) ∧ Below w.heap.size w w' := by
  have hbl := fun o p => (bl2 w o p).drew
  have KC := fun w => common_any x y w
  unfold rhasB
  generalize ((leadN (x ^^^ y) : Nat) : Int) = l at *
  go_enter Tryd.func21, Tryd.ntmps21
  go_wp2
  go_region_held3 (fun w' => w'.cell? ⟨w.heap.size, 0, none⟩ = some (.int .u64 (hI x)) ∧ w'.cell? ⟨w.heap.size, 1, none⟩ = some (.int .u64 (lI x)) ∧ w'.cell? ⟨w.heap.size, 2, none⟩ = some (.int .i64 n) ∧ w'.cell? ⟨w.heap.size + 1, 0, none⟩ = some (.int .u64 (hI y)) ∧ w'.cell? ⟨w.heap.size + 1, 1, none⟩ = some (.int .u64 (lI y)) ∧ Below w.heap.size w w')
    (first
      | (obtain ⟨k1, k2, k3, k4, k5, k9⟩ := ‹_ ∧ _›; exact ⟨keepc hb1 k1, keepc hb1 k2, keepc hb1 k3, keepc hb1 k4, keepc hb1 k5, keepb hb1 k9⟩)
      | (refine ⟨?_, ?_, ?_, ?_, ?_, ?_⟩ <;> first | (simp [go_sem, *]; done) | exact hbl _ _))
    (first | (go_at_call 45; refine (KC _).mono ?_; rintro e w1 ⟨rfl, hb1⟩))
  obtain ⟨-, -, -, -, -, kB⟩ := ‹_ ∧ _›
  go_wp2
  go_ret
  exact ⟨rfl, kB⟩

def rwithinB (x : BitVec 128) (n : Int) (y : BitVec 128) (m : Int) : Bool := decide (m ≤ n) && rhasB y m x
theorem min3_comm (a b c : Int) : min (min c a) b = min (min a b) c := by omega
end Go.Proofs.YtdgmfdfhbhmppaaDoor
/-
  What the calls of the reference's chapter 3 do: Check, Of, Last.
-/
namespace Go.Proofs.YtdgmfdfhbhmppaaDoor
open Go.RowKit
set_option linter.unusedSimpArgs false
set_option linter.unusedVariables false

set_option maxHeartbeats 1000000 in
theorem rcheck_any (F : Int) (x : BitVec 128) (n : Int) (w : World) :
    Calls Tryd.prog 18 #[.int .i64 F, .agg #[.int .u64 (hI x), .int .u64 (lI x), .int .i64 n]] w fun e w' => e = .returned (.int .i64 (checkE F x n)) ∧ Below w.heap.size w w' := by
  have KL := fun w => isFamily_any F w
  unfold checkE
  cases h : fam F
  · rw [if_neg (by simp)]
    rw [h] at KL
    clear h
    go_enter Tryd.func18, Tryd.ntmps18
    go_wp2_with fail
    refine (KL _).mono ?_
    rintro e w1 ⟨rfl, rfl⟩
    go_wp2
    go_ret
    exact ⟨rfl, bl1 _ _⟩
  · rw [if_pos rfl]
    rw [h] at KL
    clear h
    have KM := fun n w => rmask_any n w
    by_cases h0 : n < 0
    · rw [if_pos h0]
      go_enter Tryd.func18, Tryd.ntmps18
      go_wp2_with fail
      refine (KL _).mono ?_
      rintro e w1 ⟨rfl, rfl⟩
      go_wp2
      go_ret
      exact ⟨rfl, bl1 _ _⟩
    by_cases h1 : F < n
    · rw [if_neg h0, if_pos h1]
      go_enter Tryd.func18, Tryd.ntmps18
      go_wp2_with fail
      refine (KL _).mono ?_
      rintro e w1 ⟨rfl, rfl⟩
      go_wp2
      go_ret
      exact ⟨rfl, bl1 _ _⟩
    rw [if_neg h0, if_neg h1]
    have KC := fun w => rand_any x (maskW n) w
    have KN := fun w => rmask_any n w
    unfold cutW
    generalize maskW n = k at *
    revert KC
    generalize x &&& k = c
    intro KC
    have hbl := fun o => (bl1 w o).drew
    rcases eqw c x with ⟨q1, q2, q3⟩ | ⟨q1, q3⟩ | ⟨q1, q2, q3⟩
    all_goals
      rw [q3]
      first | rw [if_pos rfl] | rw [if_neg (by simp)]
      clear q3
      go_enter Tryd.func18, Tryd.ntmps18
      go_wp2_with fail
      refine (KL _).mono ?_
      rintro e w1 ⟨rfl, rfl⟩
      clear KL KM
      go_wp2_with fail
      go_region_held3 (fun w' => w'.cell? ⟨w.heap.size, 0, none⟩ = some (.int .u64 (hI x)) ∧ w'.cell? ⟨w.heap.size, 1, none⟩ = some (.int .u64 (lI x)) ∧ w'.cell? ⟨w.heap.size, 2, none⟩ = some (.int .i64 n) ∧ Below w.heap.size w w')
        (first
          | (obtain ⟨k1, k2, k3, k9⟩ := ‹_ ∧ _›; exact ⟨keepc hb3 k1, keepc hb3 k2, keepc hb3 k3, keepb hb3 k9⟩)
          | (obtain ⟨k1, k2, k3, k9⟩ := ‹_ ∧ _›; exact ⟨keepc hb2 k1, keepc hb2 k2, keepc hb2 k3, keepb hb2 k9⟩)
          | (refine ⟨?_, ?_, ?_, ?_⟩ <;> first | (simp [go_sem, *]; done) | exact hbl _))
        (first | (go_at_call 40; refine (KN _).mono ?_; rintro e w2 ⟨rfl, hb2⟩) | (go_at_call 39; refine (KC _).mono ?_; rintro e w3 ⟨rfl, hb3⟩))
      obtain ⟨-, -, -, kB3⟩ := ‹_ ∧ _›
      go_wp2
      go_ret
      exact ⟨rfl, kB3⟩

theorem maskW_idem (x : BitVec 128) (n : Int) : cutW (cutW x n) n = cutW x n := by
  unfold cutW
  rw [BitVec.and_assoc, BitVec.and_self]
theorem ofE_eq (F : Int) (x : BitVec 128) (n : Int) (h : rightE F x = 0) : checkE F (cutW x n) n = if n < 0 then 13 else if F < n then 13 else 0 := by
  have hf : fam F = true := by
    unfold rightE at h
    split at h
    · assumption
    · omega
  unfold checkE
  simp [hf, maskW_idem]
def rlastW (F : Int) (x : BitVec 128) (n : Int) : BitVec 128 := x ||| (~~~(maskW n) &&& maskW F)
set_option maxHeartbeats 2000000 in
set_option maxRecDepth 20000 in
theorem rplast_any (F : Int) (x : BitVec 128) (n : Int) (w : World) :
    Calls Tryd.prog 20 #[.int .i64 F, .agg #[.int .u64 (hI x), .int .u64 (lI x), .int .i64 n]] w fun e w' => e = .returned (.agg #[.int .u64 (hI (rlastW F x n)), .int .u64 (lI (rlastW F x n))]) ∧ Below w.heap.size w w' := by
  have hbl := fun o p => (bl2 w o p).drew
  unfold rlastW
  go_enter Tryd.func20, Tryd.ntmps20
  go_wp2
  go_region_held3 (fun w' => w'.cell? ⟨w.heap.size, 0, none⟩ = some (.int .u64 (hI x)) ∧ w'.cell? ⟨w.heap.size, 1, none⟩ = some (.int .u64 (lI x)) ∧ w'.cell? ⟨w.heap.size, 2, none⟩ = some (.int .i64 n) ∧ w'.cell? ⟨w.heap.size + 1, 0, none⟩ = some (cv w' (w.heap.size + 1) 0) ∧ w'.cell? ⟨w.heap.size + 1, 1, none⟩ = some (cv w' (w.heap.size + 1) 1) ∧ w'.frozen? ⟨w.heap.size + 1, 0, none⟩ = false ∧ w'.frozen? ⟨w.heap.size + 1, 1, none⟩ = false ∧ Below w.heap.size w w')
    (first
      | (obtain ⟨k1, k2, k0, k3, k4, k6, k7, k9⟩ := ‹_ ∧ _›; exact ⟨keepc hb1 k1, keepc hb1 k2, keepc hb1 k0, cv_of (keepc hb1 k3), cv_of (keepc hb1 k4), keepf hb1 k3 k6, keepf hb1 k4 k7, keepb hb1 k9⟩)
      | (refine ⟨?_, ?_, ?_, cv_new ?_, cv_new ?_, ?_, ?_, ?_⟩ <;> first | (simp [go_sem, *]; done) | exact bset2 (by simp [*]) (by simp) _ _))
    (first | (go_at_call 40; refine (rmask_any _ _).mono ?_; rintro e w1 ⟨rfl, hb1⟩) | (go_at_call 44; refine (rnot_any _ _).mono ?_; rintro e w1 ⟨rfl, hb1⟩) | (go_at_call 39; refine (rand_any _ _ _).mono ?_; rintro e w1 ⟨rfl, hb1⟩) | (go_at_call 43; refine (ror_any _ _ _).mono ?_; rintro e w1 ⟨rfl, hb1⟩))
  rename_i wa ha wb hb wc hc wd hd hH
  obtain ⟨-, -, -, -, -, -, -, kB⟩ := hH
  have e0 : w1.cell? ⟨w.heap.size + 1, 0, none⟩ = some (.int .u64 0) := keepc hb1 (keepc hd (keepc hc (keepc hb (keepc ha (by simp [go_sem])))))
  have e1 : w1.cell? ⟨w.heap.size + 1, 1, none⟩ = some (.int .u64 0) := keepc hb1 (keepc hd (keepc hc (keepc hb (keepc ha (by simp [go_sem])))))
  clear ha hb hc hd hb1
  go_wp2
  exact bodyPost_ret (v := .agg #[.int .u64 (hI (x ||| (~~~(maskW n) &&& maskW F))), .int .u64 (lI (x ||| (~~~(maskW n) &&& maskW F)))]) (by simp [results, Tryd.results20, go_sem, e0, e1]) rfl ⟨rfl, kB⟩
end Go.Proofs.YtdgmfdfhbhmppaaDoor
/-
  What the calls of package addr's digit and group and of strings.HasPrefix do.
-/
namespace Go.Proofs.YtdgmfdfhbhmppaaDoor
open Go.RowKit
set_option linter.unusedSimpArgs false
set_option linter.unusedVariables false

/-- Is the byte a digit of sixteen, great or small, and which number is it? -/
def hexB (c : Int) : Bool := (decide (48 ≤ c) && decide (c ≤ 57)) || (decide (65 ≤ c) && decide (c ≤ 70)) || (decide (97 ≤ c) && decide (c ≤ 102))
def hexV (c : Int) : Int := if 48 ≤ c ∧ c ≤ 57 then c - 48 else if 65 ≤ c ∧ c ≤ 70 then c + 32 - 97 + 10 else if 97 ≤ c ∧ c ≤ 102 then c - 97 + 10 else 0
theorem hex_ways (c : Int) : (c < 48 ∧ hexB c = false ∧ hexV c = 0) ∨ (48 ≤ c ∧ c ≤ 57 ∧ hexB c = true ∧ hexV c = c - 48) ∨ (57 < c ∧ c < 65 ∧ hexB c = false ∧ hexV c = 0) ∨ (65 ≤ c ∧ c ≤ 70 ∧ hexB c = true ∧ hexV c = c + 32 - 97 + 10) ∨ (70 < c ∧ c < 97 ∧ hexB c = false ∧ hexV c = 0) ∨ (97 ≤ c ∧ c ≤ 102 ∧ hexB c = true ∧ hexV c = c - 97 + 10) ∨ (102 < c ∧ hexB c = false ∧ hexV c = 0) := by
  unfold hexB hexV
  by_cases h1 : c < 48
  · left
    have a1 : ¬ 48 ≤ c := by omega
    have a2 : ¬ 97 ≤ c := by omega
    have a3 : ¬ 65 ≤ c := by omega
    simp [a1, a2, a3, h1]
  by_cases h2 : c ≤ 57
  · right; left
    have a1 : 48 ≤ c := by omega
    simp [a1, h2]
  by_cases h3 : c < 65
  · right; right; left
    have a2 : ¬ 97 ≤ c := by omega
    have a3 : ¬ 65 ≤ c := by omega
    simp [h2, a2, a3, h3]; omega
  by_cases h4 : c ≤ 70
  · right; right; right; left
    have a3 : 65 ≤ c := by omega
    simp [h2, a3, h4]
  by_cases h5 : c < 97
  · right; right; right; right; left
    have a2 : ¬ 97 ≤ c := by omega
    simp [h2, a2, h4, h5]; omega
  by_cases h6 : c ≤ 102
  · right; right; right; right; right; left
    have a2 : 97 ≤ c := by omega
    simp [h2, a2, h4, h6]
  · right; right; right; right; right; right
    simp [h2, h4, h6]; omega
theorem hexV_bd (c : Int) : 0 ≤ hexV c ∧ hexV c ≤ 15 := by
  rcases hex_ways c with ⟨a, p, q⟩ | ⟨a, b, p, q⟩ | ⟨a, b, p, q⟩ | ⟨a, b, p, q⟩ | ⟨a, b, p, q⟩ | ⟨a, b, p, q⟩ | ⟨a, p, q⟩ <;> rw [q] <;> omega

set_option maxHeartbeats 1000000 in
theorem adigit_any (c : Int) (w : World) (h0 : 0 ≤ c) (h1 : c ≤ 255) :
    Calls Tryd.prog 81 #[.int .u8 c] w fun e w' => e = .returned (.tuple #[.int .u64 (hexV c), .bool (hexB c)]) ∧ w' = w := by
  rcases hex_ways c with ⟨a, p, q⟩ | ⟨a, b, p, q⟩ | ⟨a, b, p, q⟩ | ⟨a, b, p, q⟩ | ⟨a, b, p, q⟩ | ⟨a, b, p, q⟩ | ⟨a, p, q⟩
  all_goals
    rw [p, q]
    clear p q
    go_enter Tryd.func81, Tryd.ntmps81
    go_wp2
    go_ret2
  all_goals exact ⟨rfl, rfl⟩

theorem or4 (v d : Int) (h0 : 0 ≤ v) (h1 : v < 1152921504606846976) (d0 : 0 ≤ d) (d1 : d ≤ 15) : bits .or .u64 (IntKind.u64.wrap (v * 16)) d = 16 * v + d := by
  obtain ⟨n, rfl⟩ := Int.eq_ofNat_of_zero_le h0
  obtain ⟨m, rfl⟩ := Int.eq_ofNat_of_zero_le d0
  have e1 : IntKind.u64.wrap ((n : Int) * 16) = ((BitVec.ofNat 64 (n * 16)).toNat : Int) := by
    simp [IntKind.wrap, IntKind.bits, IntKind.signed, BitVec.toNat_ofNat]
  have e2 : (m : Int) = ((BitVec.ofNat 64 m).toNat : Int) := by
    simp [BitVec.toNat_ofNat]; omega
  rw [e1, e2, bits64or _ _ _ rfl, BitVec.toNat_or, BitVec.toNat_ofNat, BitVec.toNat_ofNat, Nat.mod_eq_of_lt (by omega), Nat.mod_eq_of_lt (by omega)]
  have := Nat.shiftLeft_add_eq_or_of_lt (b := m) (i := 4) (by omega) n
  rw [Nat.shiftLeft_eq] at this
  rw [show n * 16 = n * 2 ^ 4 from rfl, ← this]; omega

/-- The digits that a text begins with, as many as a group may have, from place k on, v being read. -/
def grpR (t : ByteArray) : Nat → Nat → Int → Int × Int
  | 0, k, v => (v, k)
  | f + 1, k, v => if k < t.size ∧ hexB (byteAt t k) = true then grpR t f (k + 1) (16 * v + hexV (byteAt t k)) else (v, k)
def grpV (t : ByteArray) : Int := (grpR t 4 0 0).1
def grpN (t : ByteArray) : Int := (grpR t 4 0 0).2

set_option maxHeartbeats 1000000 in
theorem group_any (t : ByteArray) (w : World) (hs : t.size ≤ maxLen) :
    Calls Tryd.prog 66 #[.string t] w fun e w' => e = .returned (.tuple #[.int .u64 (grpV t), .int .i64 (grpN t)]) ∧ w' = w := by
  unfold maxLen at hs
  go_enter Tryd.func66, Tryd.ntmps66
  go_wp2
  go_loopw [2, 3] (fun a b wr => ∃ (k : Nat) (v : Int), a = .int .u64 v ∧ b = .int .i64 k ∧ k ≤ 4 ∧ k ≤ t.size ∧ 0 ≤ v ∧ Hid (v < 16 ^ k) ∧ Hid (grpR t (4 - k) k v = grpR t 4 0 0) ∧ wr = w) (fun _ b _ => 4 - (intOf b).toNat)
  case atStart => exact ⟨0, 0, rfl, rfl, by omega, by omega, by omega, by show (0 : Int) < 1; omega, rfl, rfl⟩
  case round =>
    obtain ⟨k, v, rfl, rfl, hk, hkt, v0, HV, HR, rfl⟩ := hrel
    by_cases hlt : k < t.size
    · have hk2 : (k : Int) < (t.size : Int) := by omega
      by_cases hk4 : k < 4
      · have hk5 : (k : Int) < 4 := by omega
        have hbt := byteAt_in t k hlt
        have bd := byteAt_bd t k
        have HU : Hid (4 - k = (4 - (k + 1)) + 1) := by show _ = _; omega
        have HS : Hid (∀ f, grpR t (f + 1) k v = if k < t.size ∧ hexB (byteAt t k) = true then grpR t f (k + 1) (16 * v + hexV (byteAt t k)) else (v, k)) := fun _ => rfl
        generalize byteAt t k = c at *
        have KD := fun w => adigit_any c w bd.1 bd.2
        have db := hexV_bd c
        have HP : Hid ((16 : Int) ^ k ≤ 16 ^ 3) := by
          show _ ≤ _
          rcases (by omega : k = 0 ∨ k = 1 ∨ k = 2 ∨ k = 3) with rfl | rfl | rfl | rfl <;> decide
        have hor := or4 v (hexV c) v0 (by have := HV.out; have := HP.out; omega) db.1 db.2
        cases hd : hexB c
        · have HF : Hid (grpV t = v ∧ grpN t = (k : Int)) := by
            show _ ∧ _
            unfold grpV grpN; rw [← HR.out, HU.out, HS.out, if_neg (by simp [hd])]; exact ⟨rfl, rfl⟩
          rw [hd] at KD
          clear HR HU HS HP HV hd
          go_wp2_with fail
          refine (KD _).mono ?_
          rintro e w1 ⟨rfl, rfl⟩
          clear KD
          go_wp2
          go_ret2
          exact ⟨by rw [HF.out.1, HF.out.2]; rfl, rfl⟩
        · have HF : Hid (grpR t (4 - (k + 1)) (k + 1) (16 * v + hexV c) = grpR t 4 0 0) := by
            show _ = _
            rw [← HR.out, HU.out, HS.out, if_pos ⟨hlt, hd⟩]
          have HV2 : Hid (16 * v + hexV c < 16 ^ (k + 1)) := by
            show _ < _
            have := HV.out
            rw [Int.pow_succ]; omega
          rw [hd] at KD
          clear HR HU HS HP HV hd
          generalize hexV c = d at *
          go_wp2_with fail
          refine (KD _).mono ?_
          rintro e w1 ⟨rfl, rfl⟩
          clear KD
          go_wp2
          go_roundw
          case rel => exact ⟨k + 1, 16 * v + d, rfl, by go_num, by omega, by omega, by omega, HV2, HF, trivial⟩
          case measure => simp [intOf]; omega
      · have HF : Hid (grpV t = v ∧ grpN t = (k : Int)) := by
          show _ ∧ _
          have e : k = 4 := by omega
          subst e
          unfold grpV grpN; rw [← HR.out]; exact ⟨rfl, rfl⟩
        clear HR HV
        have e : k = 4 := by omega
        subst e
        go_wp2
        go_ret2
        exact ⟨by rw [HF.out.1, HF.out.2]; rfl, rfl⟩
    · have HF : Hid (grpV t = v ∧ grpN t = (k : Int)) := by
        show _ ∧ _
        have hn : ∀ f, grpR t f k v = (v, (k : Int)) := by
          intro f; cases f with
          | zero => rfl
          | succ f => show (if _ then _ else _) = _; rw [if_neg (by simp [hlt])]
        unfold grpV grpN; rw [← HR.out, hn]; exact ⟨rfl, rfl⟩
      clear HR HV
      go_wp2
      go_ret2
      exact ⟨by rw [HF.out.1, HF.out.2]; rfl, rfl⟩

set_option maxHeartbeats 1000000 in
theorem hasP_any (t p : ByteArray) (w : World) (hs : t.size ≤ maxLen) (hp : p.size ≤ 2) :
    Calls Tryd.prog 65 #[.string t, .string p] w fun e w' => e = .returned (.bool (decide (p.size ≤ t.size) && ((t.extract 0 p.size).toList == p.toList))) ∧ w' = w := by
  unfold maxLen at hs
  by_cases h : p.size ≤ t.size
  · have h2 : (p.size : Int) ≤ (t.size : Int) := by omega
    go_enter Tryd.func65, Tryd.ntmps65
    go_wp2_with go_in
    go_ret
    exact ⟨by simp [h], rfl⟩
  · have h2 : ¬ (p.size : Int) ≤ (t.size : Int) := by omega
    go_enter Tryd.func65, Tryd.ntmps65
    go_wp2_with go_in
    go_ret
    exact ⟨by simp [h], rfl⟩

theorem byteAt_list (l : List UInt8) (k : Nat) : byteAt ⟨l.toArray⟩ k = match l[k]? with | some c => (c.toNat : Int) | none => 0 := by
  unfold byteAt
  have e : (⟨l.toArray⟩ : ByteArray).size = l.length := rfl
  by_cases h : k < l.length
  · rw [dif_pos (by rw [e]; exact h), List.getElem?_eq_getElem h]; rfl
  · rw [dif_neg (by rw [e]; exact h), List.getElem?_eq_none (by omega)]
theorem byteAt_ext (s : ByteArray) (a k : Nat) : byteAt (s.extract a s.size) k = byteAt s (a + k) := by
  unfold byteAt
  by_cases h : a + k < s.size
  · have h2 : k < (s.extract a s.size).size := by simp; omega
    rw [dif_pos h, dif_pos h2]
    congr 2
    rw [ByteArray.getElem_extract]
  · have h2 : ¬ k < (s.extract a s.size).size := by simp; omega
    rw [dif_neg h, dif_neg h2]
theorem u8_of (c : UInt8) (n : Nat) (h : n < 256) : ((c.toNat : Int) = (n : Int)) ↔ c = UInt8.ofNat n := by
  constructor
  · intro e
    apply UInt8.toNat.inj
    rw [UInt8.toNat_ofNat']; omega
  · intro e
    rw [e, UInt8.toNat_ofNat']; omega
theorem hasP1 (t : ByteArray) (c : Nat) (w : World) (hs : t.size ≤ maxLen) (h0 : 0 < c) (h1 : c < 256) :
    Calls Tryd.prog 65 #[.string t, .string ⟨#[UInt8.ofNat c]⟩] w fun e w' => e = .returned (.bool (decide (byteAt t 0 = c))) ∧ w' = w := by
  have h := hasP_any t ⟨#[UInt8.ofNat c]⟩ w hs (by show 1 ≤ 2; omega)
  rw [Lib.hasPrefix_raw] at h
  have e : Lib.hasPrefix t.data.toList (⟨#[UInt8.ofNat c]⟩ : ByteArray).data.toList = decide (byteAt t 0 = c) := by
    rw [← Lib.mk_data t, byteAt_list]
    cases t.data.toList with
    | nil => simp [Lib.hasPrefix]; omega
    | cons x l =>
      have u := u8_of x c h1
      rw [Bool.eq_iff_iff]
      simp [Lib.hasPrefix, List.isPrefixOf, u]
      exact eq_comm
  rw [e] at h; exact h
theorem hasP2 (t : ByteArray) (w : World) (hs : t.size ≤ maxLen) :
    Calls Tryd.prog 65 #[.string t, .string ⟨#[58, 58]⟩] w fun e w' => e = .returned (.bool (decide (byteAt t 0 = 58 ∧ byteAt t 1 = 58))) ∧ w' = w := by
  have h := hasP_any t ⟨#[58, 58]⟩ w hs (by decide)
  rw [Lib.hasPrefix_raw] at h
  have e : Lib.hasPrefix t.data.toList (⟨#[58, 58]⟩ : ByteArray).data.toList = decide (byteAt t 0 = 58 ∧ byteAt t 1 = 58) := by
    rw [← Lib.mk_data t, byteAt_list, byteAt_list]
    cases t.data.toList with
    | nil => simp [Lib.hasPrefix]
    | cons x l =>
      have u := u8_of x 58 (by decide)
      cases l with
      | nil => simp [Lib.hasPrefix, List.isPrefixOf]
      | cons y l =>
        have v := u8_of y 58 (by decide)
        have u' : ((x.toNat : Int) = 58) ↔ x = 58 := u
        have v' : ((y.toNat : Int) = 58) ↔ y = 58 := v
        rw [Bool.eq_iff_iff]
        simp [Lib.hasPrefix, List.isPrefixOf, u', v']
        rw [eq_comm (a := x), eq_comm (a := y)]
  rw [e] at h; exact h
end Go.Proofs.YtdgmfdfhbhmppaaDoor
/-
  What the calls of law 2's within and decimal do.
-/
namespace Go.Proofs.YtdgmfdfhbhmppaaDoor
open Go.RowKit
set_option linter.unusedSimpArgs false
set_option linter.unusedVariables false

theorem tmod_ways (a n : Int) (h : 0 < n) : (a.tmod n < 0 ∧ a.tmod n + n = a % n) ∨ (0 ≤ a.tmod n ∧ a.tmod n = a % n) := by
  by_cases h0 : 0 ≤ a
  · right
    have : a.tmod n = a % n := Int.tmod_eq_emod_of_nonneg h0
    exact ⟨by rw [this]; exact Int.emod_nonneg _ (by omega), this⟩
  · have e := Int.tmod_eq_emod (a := a) (b := n)
    have b1 := Int.emod_nonneg a (b := n) (by omega)
    have b2 := Int.emod_lt_of_pos a h
    split at e
    · right; omega
    · left
      have : (n.natAbs : Int) = n := by omega
      omega
/-- The digits of m, written ahead of t. -/
def decF : Nat → Nat → List UInt8 → List UInt8
  | 0, _, t => t
  | f + 1, m, t => if m = 0 ∧ ¬ t = [] then t else decF f (m / 10) (UInt8.ofNat (48 + m % 10) :: t)
def decL (n : Nat) : List UInt8 := decF 20 n []

theorem one_conv (w : World) (d : Nat) (h : d < 256) :
    (convert 93 9 (.slice (some ⟨w.heap.size, 0, none⟩) 1 1)).run Tryd.prog (w.alloc (.cells #[.int .u8 (d : Int)] 5)) = .ok (.string ⟨#[UInt8.ofNat d]⟩) (w.alloc (.cells #[.int .u8 (d : Int)] 5)) := by
  have := run_convert_bytes_back (P := Tryd.prog) (w.alloc (.cells #[.int .u8 (d : Int)] 5)) 93 9 5 ⟨w.heap.size, 0, none⟩ 1 [UInt8.ofNat d] Tryd.underlying93 Tryd.underlying5 Tryd.underlying9 (by
    intro j hj
    have : j = 0 := by simpa using hj
    subst this
    have e : (UInt8.ofNat d).toNat = d := by rw [UInt8.toNat_ofNat']; omega
    simp [go_sem, Addr.add, e])
  exact this
theorem cat_one (d : UInt8) (t : List UInt8) : ((⟨#[d]⟩ : ByteArray) ++ ⟨t.toArray⟩) = ⟨(d :: t).toArray⟩ := by
  apply ByteArray.ext
  simp
theorem decF_zero (f m : Nat) (t : List UInt8) (h : m = 0 ∧ ¬ t = []) : decF f m t = t := by
  cases f with
  | zero => rfl
  | succ f => exact if_pos h

theorem isEmpty_of (t : List UInt8) (S : ByteArray) (h : S = ⟨t.toArray⟩) : S.toList.isEmpty = t.isEmpty := by
  subst h
  rw [Lib.toList_data]
def sizeOf0 (b : Value) : Nat := match b with | .string s => if s.size = 0 then 1 else 0 | _ => 0

end Go.Proofs.YtdgmfdfhbhmppaaDoor
