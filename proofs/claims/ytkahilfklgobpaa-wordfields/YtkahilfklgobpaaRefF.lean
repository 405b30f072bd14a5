/-
  What each call of turnpikeref1's Common, Lead, fits, Field and With does.
-/
import Derived.Test.YtkahilfklgobpaaFld
import Derived.Test.YtkahilfklgobpaaRefW2
import Derived.Test.YtkahilfklgobpaaNum3
import Derived.Deep.QuietTactic
import Derived.BigQuiet
namespace Go.Proofs.Ytkahilfklgobpaa
open Go.RowKit
set_option linter.unusedSimpArgs false
set_option linter.unusedVariables false

/-- The variable at block B reads as the word x. -/
def Rd (w : World) (B : Nat) (x : BitVec 128) : Prop := w.cell? ⟨B, 0, none⟩ = some (.int .u64 (hI x)) ∧ w.cell? ⟨B, 1, none⟩ = some (.int .u64 (lI x))
theorem Rd.keep {W w' : World} {B : Nat} {x : BitVec 128} (h : Rd W B x) (hb : Below W.heap.size W w') : Rd w' B x := ⟨keepc hb h.1, keepc hb h.2⟩
theorem Rd.alloc {W : World} {B : Nat} {x : BitVec 128} (h : Rd W B x) (o : Obj) : Rd (W.alloc o) B x := h.keep (bl1 W o)
theorem Rd.new (W : World) (x : BitVec 128) (t : TypeId) : Rd (W.alloc (.cells #[.int .u64 (hI x), .int .u64 (lI x)] t)) W.heap.size x := by
  constructor <;> simp [go_sem]
/-- The word that the variable at block B holds, under a name that no rule opens. -/
def rdW (w : World) (B : Nat) : BitVec 128 := mkW (intOf (cv w B 0)) (intOf (cv w B 1))
theorem Rd.word {w : World} {B : Nat} {x : BitVec 128} (h : Rd w B x) : rdW w B = x := by
  unfold rdW cv; rw [h.1, h.2]; exact mk_ints x

theorem Rd.self {w : World} {B : Nat} {x : BitVec 128} (h : Rd w B x) : Rd w B (rdW w B) := by rw [h.word]; exact h

set_option maxHeartbeats 2000000 in
theorem common_any (x y : BitVec 128) (w : World) :
    Calls Try.prog 47 #[.agg #[.int .u64 (hI x), .int .u64 (lI x)], .agg #[.int .u64 (hI y), .int .u64 (lI y)]] w fun e w' => e = .returned (.int .i64 ((leadN (x ^^^ y) : Nat) : Int)) ∧ Below w.heap.size w w' := by
  go_enter Try.func47, Try.ntmps47
  go_wp2
  go_loopw [5] (fun i wr => ∃ k : Nat, k ≤ 128 ∧ i = .int .i64 k ∧ Hid ((x ^^^ y).toNat < 2 ^ (128 - k)) ∧ Rd wr w.heap.size x ∧ Rd wr (w.heap.size + 1) y ∧ Below w.heap.size w wr)
    (fun i _ => 128 - (intOf i).toNat)
  case atStart =>
    refine ⟨0, by omega, rfl, (x ^^^ y).isLt, ?_, ?_, bl2 _ _ _⟩
    · exact (Rd.new w x _).alloc _
    · have := Rd.new (w.alloc (.cells #[.int .u64 (hI x), .int .u64 (lI x)] 24)) y 24
      simpa using this
  case round =>
    obtain ⟨k, hk, rfl, hz, X, Y, hB⟩ := hrel
    have hbl := hB.drew
    by_cases hlt : (k : Int) < 128
    · have hst := bit_step (x ^^^ y) k (by omega) hz.out
      have hbe := bitZ_eq x y k (by omega)
      by_cases c : bitZ x (k : Int) = bitZ y (k : Int)
      · have hz' : Hid ((x ^^^ y).toNat < 2 ^ (128 - (k + 1))) := hst.1 (hbe.mp c)
        have hc : (bitZ x (k : Int) == bitZ y (k : Int)) = true := by simpa using c
        clear hst hbe hz c
        go_wp2
        go_region_held3 (fun w' => w'.cell? ⟨w.heap.size, 0, none⟩ = some (.int .u64 (hI x)) ∧ w'.cell? ⟨w.heap.size, 1, none⟩ = some (.int .u64 (lI x)) ∧ w'.cell? ⟨w.heap.size + 1, 0, none⟩ = some (.int .u64 (hI y)) ∧ w'.cell? ⟨w.heap.size + 1, 1, none⟩ = some (.int .u64 (lI y)) ∧ Below w.heap.size w w')
          (first
            | (obtain ⟨k1, k2, k3, k4, k9⟩ := ‹_ ∧ _›; exact ⟨keepc hb1 k1, keepc hb1 k2, keepc hb1 k3, keepc hb1 k4, keepb hb1 k9⟩)
            | exact ⟨X.1, X.2, Y.1, Y.2, hbl⟩)
          (first | (go_at_call 10; refine (rbit_any _ _ _).mono ?_; rintro e w1 ⟨rfl, hb1⟩))
        obtain ⟨k1, k2, k3, k4, kB⟩ := ‹_ ∧ _›
        go_wp2
        go_roundw
        case rel => exact ⟨k + 1, by omega, by go_num, hz', ⟨k1, k2⟩, ⟨k3, k4⟩, kB⟩
        case measure => simp [intOf]; omega
      · have hz' : Hid (2 ^ (127 - k) ≤ (x ^^^ y).toNat) := by
          apply hst.2
          cases hh : (x ^^^ y).getLsbD (127 - k)
          · exact absurd (hbe.mpr hh) c
          · rfl
        have hc : (bitZ x (k : Int) == bitZ y (k : Int)) = false := by simpa using c
        have HL : Hid (leadN (x ^^^ y) = k) := lead_char _ _ hk hz.out (Or.inr hz'.out)
        clear hst hbe hz hz' c
        go_wp2
        go_region_held3 (fun w' => w'.cell? ⟨w.heap.size, 0, none⟩ = some (.int .u64 (hI x)) ∧ w'.cell? ⟨w.heap.size, 1, none⟩ = some (.int .u64 (lI x)) ∧ w'.cell? ⟨w.heap.size + 1, 0, none⟩ = some (.int .u64 (hI y)) ∧ w'.cell? ⟨w.heap.size + 1, 1, none⟩ = some (.int .u64 (lI y)) ∧ Below w.heap.size w w')
          (first
            | (obtain ⟨k1, k2, k3, k4, k9⟩ := ‹_ ∧ _›; exact ⟨keepc hb1 k1, keepc hb1 k2, keepc hb1 k3, keepc hb1 k4, keepb hb1 k9⟩)
            | exact ⟨X.1, X.2, Y.1, Y.2, hbl⟩)
          (first | (go_at_call 10; refine (rbit_any _ _ _).mono ?_; rintro e w1 ⟨rfl, hb1⟩))
        obtain ⟨k1, k2, k3, k4, kB⟩ := ‹_ ∧ _›
        go_wp2
        go_ret
        exact ⟨by rw [HL.out]; rfl, kB⟩
    · have hk8 : k = 128 := by omega
      have HL : Hid (leadN (x ^^^ y) = k) := lead_char _ _ hk hz.out (Or.inl hk8)
      have hd : decide ((k : Int) < 128) = false := by simpa using hlt
      clear hlt hz hk8
      go_wp2
      go_quiet (fail)
      go_wp2
      go_ret
      exact ⟨by rw [HL.out]; rfl, below_drewN hB _⟩

set_option maxHeartbeats 1000000 in
theorem rlead_any (x : BitVec 128) (w : World) :
    Calls Try.prog 44 #[.agg #[.int .u64 (hI x), .int .u64 (lI x)]] w fun e w' => e = .returned (.int .i64 ((leadN x : Nat) : Int)) ∧ Below w.heap.size w w' := by
  have hc := fun w => common_any x 0#128 w
  rw [hI_zero, lI_zero, BitVec.xor_zero] at hc
  go_enter Try.func44, Try.ntmps44
  go_wp2_with fail
  refine (hc _).mono ?_
  rintro e w1 ⟨rfl, hb1⟩
  clear hc
  go_wp2
  go_ret
  exact ⟨rfl, keepb hb1 (bl1 _ _)⟩

set_option maxHeartbeats 1000000 in
theorem fits_any (f n : Int) (w : World) (hf : -9223372036854775808 ≤ f) (hf' : f ≤ 9223372036854775807) :
    Calls Try.prog 43 #[.int .i64 f, .int .i64 n] w fun e w' => e = .returned (.bool (fitB f n)) ∧ w' = w := by
  unfold fitB
  by_cases h0 : 0 ≤ f
  · by_cases h1 : f ≤ 128
    · by_cases h2 : 0 ≤ n
      · by_cases h3 : n ≤ 128 - f
        · go_enter Try.func43, Try.ntmps43
          go_wp2
          go_ret
          exact ⟨by simp [h0, h1, h2, h3] <;> omega, rfl⟩
        · go_enter Try.func43, Try.ntmps43
          go_wp2
          go_ret
          exact ⟨by simp [h0, h1, h2, h3] <;> omega, rfl⟩
      · go_enter Try.func43, Try.ntmps43
        go_wp2
        go_ret
        exact ⟨by simp [h0, h1, h2] <;> omega, rfl⟩
    · go_enter Try.func43, Try.ntmps43
      go_wp2
      go_ret
      exact ⟨by simp [h0, h1] <;> omega, rfl⟩
  · go_enter Try.func43, Try.ntmps43
    go_wp2
    go_ret
    exact ⟨by simp [h0] <;> omega, rfl⟩

set_option maxHeartbeats 1000000 in
theorem rfield_in (x : BitVec 128) (f n : Int) (w : World) (h : fitB f n = true) :
    Calls Try.prog 33 #[.agg #[.int .u64 (hI x), .int .u64 (lI x)], .int .i64 f, .int .i64 n] w fun e w' => e = .returned (.tuple #[.agg #[.int .u64 (hI (readW x f n)), .int .u64 (lI (readW x f n))], .int .i64 0]) ∧ Below w.heap.size w w' := by
  unfold readW
  obtain ⟨h0, h1, h2, h3⟩ := fitB_t h
  have hf := fun w => fits_any f n w (by omega) (by omega)
  rw [h] at hf
  clear h
  go_enter Try.func33, Try.ntmps33
  go_wp2_with fail
  refine (hf _).mono ?_
  rintro e w1 ⟨rfl, rfl⟩
  clear hf
  go_wp2_with fail
  refine (rshl_any _ _ _).mono ?_
  rintro e w2 ⟨rfl, hb2⟩
  go_wp2_with fail
  refine (rshr_any _ _ _).mono ?_
  rintro e w3 ⟨rfl, hb3⟩
  have hb := keepb hb3 hb2
  have e0 : w3.cell? ⟨w.heap.size + 1, 0, none⟩ = some (.int .u64 0) := keepc hb (by simp [go_sem])
  have e1 : w3.cell? ⟨w.heap.size + 1, 1, none⟩ = some (.int .u64 0) := keepc hb (by simp [go_sem])
  have e2 : w3.frozen? ⟨w.heap.size + 1, 0, none⟩ = false := keepf hb (v := .int .u64 0) (by simp [go_sem]) (by simp [go_sem])
  have e3 : w3.frozen? ⟨w.heap.size + 1, 1, none⟩ = false := keepf hb (v := .int .u64 0) (by simp [go_sem]) (by simp [go_sem])
  have kB : Below w.heap.size w w3 := keepb hb (bl2 _ _ _)
  clear hb hb2 hb3
  go_wp2
  exact bodyPost_ret (v := .tuple #[.agg #[.int .u64 (hI ((x <<< f.toNat) >>> (128 - n).toNat)), .int .u64 (lI ((x <<< f.toNat) >>> (128 - n).toNat))], .int .i64 0]) (by simp [results, Try.results33, go_sem, e0, e1]) rfl ⟨rfl, (kB.setCell (by simp) _).setCell (by simp) _⟩

set_option maxHeartbeats 1000000 in
theorem rfield_out (x : BitVec 128) (f n : Int) (w : World) (hf : -9223372036854775808 ≤ f) (hf' : f ≤ 9223372036854775807) (h : fitB f n = false) :
    Calls Try.prog 33 #[.agg #[.int .u64 (hI x), .int .u64 (lI x)], .int .i64 f, .int .i64 n] w fun e w' => e = .returned (.tuple #[.agg #[.int .u64 0, .int .u64 0], .int .i64 1]) ∧ Below w.heap.size w w' := by
  have hf := fun w => fits_any f n w hf hf'
  rw [h] at hf
  clear h hf'
  go_enter Try.func33, Try.ntmps33
  go_wp2_with fail
  refine (hf _).mono ?_
  rintro e w1 ⟨rfl, rfl⟩
  clear hf
  go_wp2
  exact bodyPost_ret (v := .tuple #[.agg #[.int .u64 0, .int .u64 0], .int .i64 1]) (by simp [results, Try.results33, go_sem]) rfl ⟨rfl, bl2 _ _ _⟩

set_option maxHeartbeats 1000000 in
theorem rwith_out (x v : BitVec 128) (f n : Int) (w : World) (hf : -9223372036854775808 ≤ f) (hf' : f ≤ 9223372036854775807) (h : fitB f n = false) :
    Calls Try.prog 34 #[.agg #[.int .u64 (hI x), .int .u64 (lI x)], .int .i64 f, .int .i64 n, .agg #[.int .u64 (hI v), .int .u64 (lI v)]] w fun e w' => e = .returned (.tuple #[.agg #[.int .u64 0, .int .u64 0], .int .i64 1]) ∧ Below w.heap.size w w' := by
  have hf := fun w => fits_any f n w hf hf'
  rw [h] at hf
  clear h hf'
  go_enter Try.func34, Try.ntmps34
  go_wp2_with fail
  refine (hf _).mono ?_
  rintro e w1 ⟨rfl, rfl⟩
  clear hf
  go_wp2
  exact bodyPost_ret (v := .tuple #[.agg #[.int .u64 0, .int .u64 0], .int .i64 1]) (by simp [results, Try.results34, go_sem]) rfl ⟨rfl, bl3 _ _ _ _⟩

set_option maxHeartbeats 1000000 in
theorem rwith_wide (x v : BitVec 128) (f n : Int) (w : World) (h : fitB f n = true) (hv : ¬ v >>> n.toNat = 0#128) :
    Calls Try.prog 34 #[.agg #[.int .u64 (hI x), .int .u64 (lI x)], .int .i64 f, .int .i64 n, .agg #[.int .u64 (hI v), .int .u64 (lI v)]] w fun e w' => e = .returned (.tuple #[.agg #[.int .u64 0, .int .u64 0], .int .i64 6]) ∧ Below w.heap.size w w' := by
  obtain ⟨h0, h1, h2, h3⟩ := fitB_t h
  have hl := (lead_wide v n h2 (by omega)).mpr hv
  have hf := fun w => fits_any f n w (by omega) (by omega)
  rw [h] at hf
  clear h hv
  go_enter Try.func34, Try.ntmps34
  go_wp2_with fail
  refine (hf _).mono ?_
  rintro e w1 ⟨rfl, rfl⟩
  clear hf
  go_wp2_with fail
  refine (rlead_any _ _).mono ?_
  rintro e w2 ⟨rfl, hb⟩
  have e0 : w2.cell? ⟨w.heap.size + 1 + 1, 0, none⟩ = some (.int .u64 0) := keepc hb (by simp [go_sem])
  have e1 : w2.cell? ⟨w.heap.size + 1 + 1, 1, none⟩ = some (.int .u64 0) := keepc hb (by simp [go_sem])
  have e2 : w2.frozen? ⟨w.heap.size + 1 + 1, 0, none⟩ = false := keepf hb (v := .int .u64 0) (by simp [go_sem]) (by simp [go_sem])
  have e3 : w2.frozen? ⟨w.heap.size + 1 + 1, 1, none⟩ = false := keepf hb (v := .int .u64 0) (by simp [go_sem]) (by simp [go_sem])
  have kB : Below w.heap.size w w2 := keepb hb (bl3 _ _ _ _)
  clear hb
  go_wp2
  exact bodyPost_ret (v := .tuple #[.agg #[.int .u64 0, .int .u64 0], .int .i64 6]) (by simp [results, Try.results34, go_sem, e0, e1]) rfl ⟨rfl, (kB.setCell (by simp; omega) _).setCell (by simp; omega) _⟩

set_option maxHeartbeats 2000000 in
theorem rwith_in (x v : BitVec 128) (f n : Int) (w : World) (h : fitB f n = true) (hv : v >>> n.toNat = 0#128) :
    Calls Try.prog 34 #[.agg #[.int .u64 (hI x), .int .u64 (lI x)], .int .i64 f, .int .i64 n, .agg #[.int .u64 (hI v), .int .u64 (lI v)]] w fun e w' => e = .returned (.tuple #[.agg #[.int .u64 (hI (withW x f n v)), .int .u64 (lI (withW x f n v))], .int .i64 0]) ∧ Below w.heap.size w w' := by
  obtain ⟨h0, h1, h2, h3⟩ := fitB_t h
  have hl : ¬ ((leadN v : Nat) : Int) < 128 - n := fun q => ((lead_wide v n h2 (by omega)).mp q) hv
  have hf := fun w => fits_any f n w (by omega) (by omega)
  rw [h] at hf
  have HE : Hid (∀ k : Nat, (k : Int) = n → stepW x v f n k = withW x f n v) := step_with x v f n h hv
  clear h hv
  go_enter Try.func34, Try.ntmps34
  go_wp2_with fail
  refine (hf _).mono ?_
  rintro e w1 ⟨rfl, rfl⟩
  clear hf
  go_wp2_with fail
  refine (rlead_any _ _).mono ?_
  rintro e w2 ⟨rfl, hb⟩
  have X : At w2 w.heap.size x := At.below (w := ((w.alloc (.cells #[.int .u64 (hI x), .int .u64 (lI x)] 24)).alloc (.cells #[.int .u64 (hI v), .int .u64 (lI v)] 24)).alloc (.cells #[.int .u64 0, .int .u64 0] 24)) ⟨by simp [go_sem], by simp [go_sem], by simp [go_sem], by simp [go_sem], by simp; omega⟩ hb
  have V : At w2 (w.heap.size + 1) v := At.below (w := ((w.alloc (.cells #[.int .u64 (hI x), .int .u64 (lI x)] 24)).alloc (.cells #[.int .u64 (hI v), .int .u64 (lI v)] 24)).alloc (.cells #[.int .u64 0, .int .u64 0] 24)) ⟨by simp [go_sem], by simp [go_sem], by simp [go_sem], by simp [go_sem], by simp⟩ hb
  have R : At w2 (w.heap.size + 1 + 1) 0#128 := At.below (w := ((w.alloc (.cells #[.int .u64 (hI x), .int .u64 (lI x)] 24)).alloc (.cells #[.int .u64 (hI v), .int .u64 (lI v)] 24)).alloc (.cells #[.int .u64 0, .int .u64 0] 24)) ⟨by simp [go_sem, hI_zero], by simp [go_sem, lI_zero], by simp [go_sem], by simp [go_sem], by simp⟩ hb
  have kB : Below w.heap.size w w2 := keepb hb (bl3 _ _ _ _)
  clear hb
  go_wp2
  go_loopw [10] (fun i wr => ∃ k : Nat, (k : Int) ≤ n ∧ i = .int .i64 k ∧ At wr w.heap.size (stepW x v f n k) ∧ At wr (w.heap.size + 1) v ∧ At wr (w.heap.size + 1 + 1) 0#128 ∧ Below w.heap.size w wr)
    (fun i _ => n.toNat - (intOf i).toNat)
  case atStart => exact ⟨0, h2, rfl, X, V, R, kB⟩
  case round =>
    clear X V R kB
    obtain ⟨k, hk, rfl, X, V, R, kB⟩ := hrel
    by_cases hlt : (k : Int) < n
    · have hbl := kB.drew
      have X' := id X
      obtain ⟨x0, x1, x2, x3, x4⟩ := X
      obtain ⟨v0, v1, v2, v3, v4⟩ := id V
      have xd0 : wr.drew.cell? ⟨w.heap.size, 0, none⟩ = some (.int .u64 (hI (stepW x v f n k))) := x0
      have xd1 : wr.drew.cell? ⟨w.heap.size, 1, none⟩ = some (.int .u64 (lI (stepW x v f n k))) := x1
      have xd2 : wr.drew.frozen? ⟨w.heap.size, 0, none⟩ = false := x2
      have xd3 : wr.drew.frozen? ⟨w.heap.size, 1, none⟩ = false := x3
      have hw1 : IntKind.i64.wrap (f + (k : Int)) = f + k := by rw [IntKind.wrap_i64]; omega
      have hw2 : IntKind.i64.wrap (128 - n) = 128 - n := by rw [IntKind.wrap_i64]; omega
      have hw3 : IntKind.i64.wrap (128 - n + (k : Int)) = 128 - n + k := by rw [IntKind.wrap_i64]; omega
      go_wp2
      go_region_with (first
          | (go_at_call 10; refine (rbit_any _ _ _).mono ?_; rintro e w3 ⟨rfl, hb3⟩; have k0 := keepc hb3 xd0; have k1 := keepc hb3 xd1; have k2 := keepf hb3 xd0 xd2; have k3 := keepf hb3 xd1 xd3)
          | (go_at_call 39; refine (put_any _ _ _ _ (bitZ_01 _ _) (by omega) (by omega)).mono ?_; rintro e w4 ⟨rfl, hb4⟩; have m0 := keepc hb4 k0; have m1 := keepc hb4 k1; have m2 := keepf hb4 k0 k2; have m3 := keepf hb4 k1 k3))
      all_goals
        have hx2 := ((X'.below (w' := wr.drew) ⟨rfl, rfl, rfl, Nat.le_refl _, fun _ _ => rfl⟩).below hb3).below hb4
        have hv2 := ((V.below (w' := wr.drew) ⟨rfl, rfl, rfl, Nat.le_refl _, fun _ _ => rfl⟩).below hb3).below hb4
        have hr2 := ((R.below (w' := wr.drew) ⟨rfl, rfl, rfl, Nat.le_refl _, fun _ _ => rfl⟩).below hb3).below hb4
        have kB2 := keepb hb4 (keepb hb3 hbl)
        clear hw1 hw2 hw3 xd0 xd1 xd2 xd3 k0 k1 k2 k3 m0 m1 m2 m3
        go_wp2
        go_roundw
        case rel => exact ⟨k + 1, by omega, by go_num, hx2.set _, hv2.other _ _ (by omega), hr2.other _ _ (by omega), (kB2.setCell (by simp) _).setCell (by simp) _⟩
        case measure => simp [intOf]; omega
    · have HE2 : Hid (stepW x v f n k = withW x f n v) := HE.out k (by omega)
      clear HE
      obtain ⟨x0, x1, x2, x3, x4⟩ := X
      obtain ⟨r0, r1, r2, r3, r4⟩ := R
      go_wp2
      exact bodyPost_ret (v := .tuple #[.agg #[.int .u64 (hI (stepW x v f n k)), .int .u64 (lI (stepW x v f n k))], .int .i64 0]) (by simp [results, Try.results34, go_sem, *]) rfl ⟨by rw [HE2.out], (kB.setCell (by simp; omega) _).setCell (by simp; omega) _⟩
end Go.Proofs.Ytkahilfklgobpaa
