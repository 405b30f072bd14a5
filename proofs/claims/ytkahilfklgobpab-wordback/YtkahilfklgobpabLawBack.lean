/-
  The law WordBack, walked.
-/
import Derived.Test.YtkahilfklgobpabLawShifts
import Derived.Test.YtkahilfklgobpabNumB
import Derived.Test.YtkahilfklgobpabFld3
import Derived.Test.YtkahilfklgobpabQt
namespace Go.Proofs.Ytkahilfklgobpab
open Go.RowKit
set_option linter.unusedSimpArgs false
set_option linter.unusedVariables false

set_option maxHeartbeats 4000000 in
theorem wordBack_any (x : BitVec 128) (f n : Int) (v : BitVec 128) (w : World) :
    Calls Try.prog 5 #[.agg #[.int .u64 (hI x), .int .u64 (lI x)], .int .i64 f, .int .i64 n, .agg #[.int .u64 (hI v), .int .u64 (lI v)]] w fun e w' => e = .returned (.bool true) ∧ Below w.heap.size w w' := by
  have hf := fun w => within_any f 129 w (by decide) (by decide)
  have bf := withinZ_bd f 129 (by decide)
  revert hf bf
  generalize withinZ f 129 = F
  intro hf bf
  obtain ⟨F0, F1⟩ := bf
  have g0 : IntKind.i64.wrap (129 - F) = 129 - F := by rw [IntKind.wrap_i64]; omega
  have hn := fun w => within_any n (129 - F) w (by omega) (by omega)
  have bn := withinZ_bd n (129 - F) (by omega)
  revert hn bn
  generalize withinZ n (129 - F) = M
  intro hn bn
  obtain ⟨M0, M1⟩ := bn
  have g1 : IntKind.i64.wrap (128 - M) = 128 - M := by rw [IntKind.wrap_i64]; omega
  have hfit : fitB F M = true := by unfold fitB; simp; omega
  have hsm : (v &&& ~~~maskW (128 - M)) >>> M.toNat = 0#128 := cut_small v M M0 (by omega)
  go_enter Try.func5, Try.ntmps5
  go_wp2_with fail
  refine (known_any _).mono ?_
  rintro e w1 ⟨rfl, hb1⟩
  have X : At w1 w.heap.size x := At.below (w := (w.alloc (.cells #[.int .u64 (hI x), .int .u64 (lI x)] 24)).alloc (.cells #[.int .u64 (hI v), .int .u64 (lI v)] 24)) ⟨by simp [go_sem], by simp [go_sem], by simp [go_sem], by simp [go_sem], by simp; omega⟩ hb1
  have Y : At w1 (w.heap.size + 1) v := At.below (w := (w.alloc (.cells #[.int .u64 (hI x), .int .u64 (lI x)] 24)).alloc (.cells #[.int .u64 (hI v), .int .u64 (lI v)] 24)) ⟨by simp [go_sem], by simp [go_sem], by simp [go_sem], by simp [go_sem], by simp⟩ hb1
  have kB := keepb hb1 (bl2 w _ _)
  clear hb1
  go_wp2_with fail
  refine (hf _).mono ?_
  rintro e w' ⟨rfl, rfl⟩
  clear hf
  go_wp2_with fail
  refine (hn _).mono ?_
  rintro e w' ⟨rfl, rfl⟩
  clear hn
  have kd := kB.drew
  have Xd : At w'.drew w.heap.size x := X.below ⟨rfl, rfl, rfl, Nat.le_refl _, fun _ _ => rfl⟩
  have Yd : At w'.drew (w.heap.size + 1) v := Y.below ⟨rfl, rfl, rfl, Nat.le_refl _, fun _ _ => rfl⟩
  obtain ⟨y0, y1, y2, y3, y4⟩ := id Yd
  clear X Y kB
  go_wp2_with fail
  rename_i Q' K hK
  have tail : ∀ w6, At w6 w.heap.size x → At w6 (w.heap.size + 1) (v &&& ~~~maskW (128 - M)) → Below w.heap.size w w6 → Exit.then K Q' Exit.normal { tmps := #[.agg #[.int .u64 (hI x), .int .u64 (lI x)], .int .i64 F, .int .i64 M, .agg #[.int .u64 (hI (v)), .int .u64 (lI (v))], .pointer (some ⟨w.heap.size, 0, none⟩), undef, undef, .pointer (some ⟨w.heap.size + 1, 0, none⟩), .bool false, undef, undef, undef, undef, undef, undef, undef, .bool true, .bool false, .int .i64 f, .int .i64 F, .int .i64 n, .int .i64 F, .int .i64 (129 - F), .int .i64 M, .agg #[.int .u64 (hI (v)), .int .u64 (lI (v))], .int .i64 M, .int .i64 (128 - M), .agg #[.int .u64 (hI (maskW (128 - M))), .int .u64 (lI (maskW (128 - M)))], .agg #[.int .u64 (hI (~~~maskW (128 - M))), .int .u64 (lI (~~~maskW (128 - M)))], .agg #[.int .u64 (hI (v &&& ~~~maskW (128 - M))), .int .u64 (lI (v &&& ~~~maskW (128 - M)))], undef, undef, undef, undef, undef, undef, undef, undef, undef, undef, undef, undef, undef, undef, undef, undef, undef, undef, undef, undef, undef, undef, undef, undef, undef, undef, undef, undef, undef, undef, undef, undef, undef, undef, undef, undef, undef, undef, undef, undef, undef, undef, undef, undef, undef, undef, undef, undef, undef, undef, undef, undef, undef, undef, undef, undef, undef, undef, undef, undef, undef, undef, undef, undef, undef, undef, undef, undef], defers := [] } w6 := by
    intro w6 X Y kB
    clear kd Xd Yd y0 y1 y2 y3 y4
    have C1 := fun w => with_in x (v &&& ~~~maskW (128 - M)) F M w hfit hsm
    have C2 := fun w => field_in (withW x F M (v &&& ~~~maskW (128 - M))) F M w F0 (by omega) M0 (by omega)
    have hrd : ((withW x F M (v &&& ~~~maskW (128 - M))) <<< F.toNat) >>> (128 - M).toNat = v &&& ~~~maskW (128 - M) := read_with x _ F M hfit hsm
    have HK : Hid (∀ i : Int, 0 ≤ i → i < 128 → (i < F ∨ F + M ≤ i) → bitZ (withW x F M (v &&& ~~~maskW (128 - M))) i = bitZ x i) := fun i i0 i1 ho => with_keep x _ F M hfit hsm i i0 i1 ho
    rw [hrd] at C2
    clear hrd hsm hfit g0 g1
    revert C1 C2 HK
    generalize withW x F M (v &&& ~~~maskW (128 - M)) = z
    generalize v &&& ~~~maskW (128 - M) = u at *
    intro C1 C2 HK
    obtain ⟨x0, x1, -, -, -⟩ := id X
    obtain ⟨y0, y1, -, -, -⟩ := id Y
    go_wp2_with fail
    refine (C1 _).mono ?_
    rintro e w7 ⟨rfl, hb7⟩
    clear C1 x0 x1 y0 y1
    have X7 := (X.below hb7).below (bl1 w7 (.cells #[.int .u64 (hI z), .int .u64 (lI z)] 24))
    have Y7 := (Y.below hb7).below (bl1 w7 (.cells #[.int .u64 (hI z), .int .u64 (lI z)] 24))
    have Z7 := Rd.new w7 z 24
    have k7 := keepb hb7 kB
    have kB7 := k7.alloc k7.size (.cells #[.int .u64 (hI z), .int .u64 (lI z)] 24)
    clear X Y kB hb7
    obtain ⟨x0, x1, -, -, -⟩ := id X7
    obtain ⟨y0, y1, -, -, -⟩ := id Y7
    obtain ⟨z0, z1⟩ := id Z7
    go_wp2_with fail
    refine (C2 _).mono ?_
    rintro e w8 ⟨rfl, hb8⟩
    clear C2 x0 x1 y0 y1 z0 z1
    have X8 := (X7.below hb8).below (bl1 w8 (.cells #[.int .u64 (hI u), .int .u64 (lI u)] 24))
    have Y8 := (Y7.below hb8).below (bl1 w8 (.cells #[.int .u64 (hI u), .int .u64 (lI u)] 24))
    have Z8 := (Z7.keep hb8).alloc (.cells #[.int .u64 (hI u), .int .u64 (lI u)] 24)
    have U8 := Rd.new w8 u 24
    have k8 := keepb hb8 kB7
    have kB8 := k8.alloc k8.size (.cells #[.int .u64 (hI u), .int .u64 (lI u)] 24)
    clear X7 Y7 Z7 kB7 hb8 k7 k8
    obtain ⟨x0, x1, -, -, -⟩ := id X8
    obtain ⟨y0, y1, -, -, -⟩ := id Y8
    obtain ⟨z0, z1⟩ := id Z8
    obtain ⟨u0, u1⟩ := id U8
    go_wp2
    go_loopw [13] (fun i wr => ∃ k : Nat, k ≤ 128 ∧ i = .int .i64 k ∧ Rd wr w.heap.size x ∧ Rd wr w7.heap.size z ∧ Below w.heap.size w wr)
      (fun i _ => 128 - (intOf i).toNat)
    case atStart => exact ⟨0, by omega, rfl, ⟨X8.1, X8.2.1⟩, Z8, kB8⟩
    case round =>
      clear X8 Y8 Z8 U8 kB8 x0 x1 y0 y1 z0 z1 u0 u1
      obtain ⟨k, hk, rfl, X, Z, kB⟩ := hrel
      obtain ⟨x0, x1⟩ := X
      obtain ⟨z0, z1⟩ := Z
      by_cases hlt : (k : Int) < 128
      · have gA : IntKind.i64.wrap (F + M) = F + M := by rw [IntKind.wrap_i64]; omega
        by_cases hA : (k : Int) < F
        · have HZ : Hid (bitZ z (k : Int) = bitZ x (k : Int)) := HK.out k (by omega) (by omega) (Or.inl hA)
          have CZ := fun w => bit_any z k w
          rw [HZ.out] at CZ
          clear HK HZ
          go_wp2_with fail
          have hbl := kB.drew
          refine q_region (C := (fun w' => w'.cell? ⟨w.heap.size, 0, none⟩ = some (.int .u64 (hI x)) ∧ w'.cell? ⟨w.heap.size, 1, none⟩ = some (.int .u64 (lI x)) ∧ w'.cell? ⟨w7.heap.size, 0, none⟩ = some (.int .u64 (hI z)) ∧ w'.cell? ⟨w7.heap.size, 1, none⟩ = some (.int .u64 (lI z)) ∧ Below w.heap.size w w')) (by kernel_rfl) (by kernel_rfl) ⟨x0, x1, z0, z1, hbl⟩ ?_
          clear x0 x1 z0 z1 kB hbl
          refine q_run (v := .int .i64 (k : Int)) (by rfl) ?_ ?_
          · (intro w1 hC; obtain ⟨c1, c2, c3, c4, c5⟩ := hC; go_simp; first | done | (simp; done) | (simp; omega) | rfl)
          simp only [Act.put, List.setIfInBounds_toArray, List.set_cons_zero, List.set_cons_succ]
          refine q_run (v := .int .i64 F) (by rfl) ?_ ?_
          · (intro w1 hC; obtain ⟨c1, c2, c3, c4, c5⟩ := hC; go_simp; first | done | (simp; done) | (simp; omega) | rfl)
          simp only [Act.put, List.setIfInBounds_toArray, List.set_cons_zero, List.set_cons_succ]
          refine q_run (v := .bool true) (by rfl) ?_ ?_
          · (intro w1 hC; obtain ⟨c1, c2, c3, c4, c5⟩ := hC; go_simp; first | done | (simp; done) | (simp; omega) | rfl)
          simp only [Act.put, List.setIfInBounds_toArray, List.set_cons_zero, List.set_cons_succ]
          refine q_run (v := .bool true) (by rfl) ?_ ?_
          · (intro w1 hC; obtain ⟨c1, c2, c3, c4, c5⟩ := hC; go_simp; first | done | (simp; done) | (simp; omega) | rfl)
          simp only [Act.put, List.setIfInBounds_toArray, List.set_cons_zero, List.set_cons_succ]
          refine q_skip (by rfl) ?_
          simp only [Act.put, List.setIfInBounds_toArray, List.set_cons_zero, List.set_cons_succ]
          refine q_skip (by rfl) ?_
          simp only [Act.put, List.setIfInBounds_toArray, List.set_cons_zero, List.set_cons_succ]
          refine q_skip (by rfl) ?_
          simp only [Act.put, List.setIfInBounds_toArray, List.set_cons_zero, List.set_cons_succ]
          refine q_skip (by rfl) ?_
          simp only [Act.put, List.setIfInBounds_toArray, List.set_cons_zero, List.set_cons_succ]
          refine q_skip (by rfl) ?_
          simp only [Act.put, List.setIfInBounds_toArray, List.set_cons_zero, List.set_cons_succ]
          refine q_run (v := .bool true) (by rfl) ?_ ?_
          · (intro w1 hC; obtain ⟨c1, c2, c3, c4, c5⟩ := hC; go_simp; first | done | (simp; done) | (simp; omega) | rfl)
          simp only [Act.put, List.setIfInBounds_toArray, List.set_cons_zero, List.set_cons_succ]
          refine q_run (v := .bool true) (by rfl) ?_ ?_
          · (intro w1 hC; obtain ⟨c1, c2, c3, c4, c5⟩ := hC; go_simp; first | done | (simp; done) | (simp; omega) | rfl)
          simp only [Act.put, List.setIfInBounds_toArray, List.set_cons_zero, List.set_cons_succ]
          refine q_run (v := .agg #[.int .u64 (hI z), .int .u64 (lI z)]) (by rfl) ?_ ?_
          · (intro w1 hC; obtain ⟨c1, c2, c3, c4, c5⟩ := hC; go_simp; first | done | (simp; done) | (simp; omega) | rfl)
          simp only [Act.put, List.setIfInBounds_toArray, List.set_cons_zero, List.set_cons_succ]
          refine q_run (v := .int .i64 (k : Int)) (by rfl) ?_ ?_
          · (intro w1 hC; obtain ⟨c1, c2, c3, c4, c5⟩ := hC; go_simp; first | done | (simp; done) | (simp; omega) | rfl)
          simp only [Act.put, List.setIfInBounds_toArray, List.set_cons_zero, List.set_cons_succ]
          refine q_call (v := .int .i64 (bitZ x (k : Int))) (f := 15) (args := #[.agg #[.int .u64 (hI z), .int .u64 (lI z)], .int .i64 (k : Int)]) (by rfl) ?_ ?_ ?_
          · (intro w1 hC; obtain ⟨c1, c2, c3, c4, c5⟩ := hC; go_simp)
          · exact fun w1 hC => (CZ w1).mono fun e w' ⟨he, hb⟩ => ⟨he, keepc hb hC.1, keepc hb hC.2.1, keepc hb hC.2.2.1, keepc hb hC.2.2.2.1, keepb hb hC.2.2.2.2⟩
          simp only [Act.put, List.setIfInBounds_toArray, List.set_cons_zero, List.set_cons_succ]
          refine q_run (v := .agg #[.int .u64 (hI x), .int .u64 (lI x)]) (by rfl) ?_ ?_
          · (intro w1 hC; obtain ⟨c1, c2, c3, c4, c5⟩ := hC; go_simp; first | done | (simp; done) | (simp; omega) | rfl)
          simp only [Act.put, List.setIfInBounds_toArray, List.set_cons_zero, List.set_cons_succ]
          refine q_run (v := .int .i64 (k : Int)) (by rfl) ?_ ?_
          · (intro w1 hC; obtain ⟨c1, c2, c3, c4, c5⟩ := hC; go_simp; first | done | (simp; done) | (simp; omega) | rfl)
          simp only [Act.put, List.setIfInBounds_toArray, List.set_cons_zero, List.set_cons_succ]
          refine q_call (v := .int .i64 (bitZ x (k : Int))) (f := 15) (args := #[.agg #[.int .u64 (hI x), .int .u64 (lI x)], .int .i64 (k : Int)]) (by rfl) ?_ ?_ ?_
          · (intro w1 hC; obtain ⟨c1, c2, c3, c4, c5⟩ := hC; go_simp)
          · exact fun w1 hC => (bit_any x k w1).mono fun e w' ⟨he, hb⟩ => ⟨he, keepc hb hC.1, keepc hb hC.2.1, keepc hb hC.2.2.1, keepc hb hC.2.2.2.1, keepb hb hC.2.2.2.2⟩
          simp only [Act.put, List.setIfInBounds_toArray, List.set_cons_zero, List.set_cons_succ]
          refine q_run (v := .bool false) (by rfl) ?_ ?_
          · (intro w1 hC; obtain ⟨c1, c2, c3, c4, c5⟩ := hC; go_simp; first | done | (simp; done) | (simp; omega) | rfl)
          simp only [Act.put, List.setIfInBounds_toArray, List.set_cons_zero, List.set_cons_succ]
          refine q_run (v := .bool false) (by rfl) ?_ ?_
          · (intro w1 hC; obtain ⟨c1, c2, c3, c4, c5⟩ := hC; go_simp; first | done | (simp; done) | (simp; omega) | rfl)
          simp only [Act.put, List.setIfInBounds_toArray, List.set_cons_zero, List.set_cons_succ]
          refine wpQuiet_nil ?_
          intro w9 hC
          obtain ⟨c1, c2, c3, c4, c5⟩ := hC
          go_wp2
          go_roundw
          case rel => exact ⟨k + 1, by omega, by go_num, ⟨c1, c2⟩, ⟨c3, c4⟩, c5⟩
          case measure => simp [intOf]; omega
        · by_cases hB : F + M ≤ (k : Int)
          · have HZ : Hid (bitZ z (k : Int) = bitZ x (k : Int)) := HK.out k (by omega) (by omega) (Or.inr hB)
            have CZ := fun w => bit_any z k w
            rw [HZ.out] at CZ
            clear HK HZ
            go_wp2_with fail
            have hbl := kB.drew
            refine q_region (C := (fun w' => w'.cell? ⟨w.heap.size, 0, none⟩ = some (.int .u64 (hI x)) ∧ w'.cell? ⟨w.heap.size, 1, none⟩ = some (.int .u64 (lI x)) ∧ w'.cell? ⟨w7.heap.size, 0, none⟩ = some (.int .u64 (hI z)) ∧ w'.cell? ⟨w7.heap.size, 1, none⟩ = some (.int .u64 (lI z)) ∧ Below w.heap.size w w')) (by kernel_rfl) (by kernel_rfl) ⟨x0, x1, z0, z1, hbl⟩ ?_
            clear x0 x1 z0 z1 kB hbl
            refine q_run (v := .int .i64 (k : Int)) (by rfl) ?_ ?_
            · (intro w1 hC; obtain ⟨c1, c2, c3, c4, c5⟩ := hC; go_simp; first | done | (simp; done) | (simp; omega) | rfl)
            simp only [Act.put, List.setIfInBounds_toArray, List.set_cons_zero, List.set_cons_succ]
            refine q_run (v := .int .i64 F) (by rfl) ?_ ?_
            · (intro w1 hC; obtain ⟨c1, c2, c3, c4, c5⟩ := hC; go_simp; first | done | (simp; done) | (simp; omega) | rfl)
            simp only [Act.put, List.setIfInBounds_toArray, List.set_cons_zero, List.set_cons_succ]
            refine q_run (v := .bool false) (by rfl) ?_ ?_
            · (intro w1 hC; obtain ⟨c1, c2, c3, c4, c5⟩ := hC; go_simp; first | done | (simp; done) | (simp; omega) | rfl)
            simp only [Act.put, List.setIfInBounds_toArray, List.set_cons_zero, List.set_cons_succ]
            refine q_run (v := .bool false) (by rfl) ?_ ?_
            · (intro w1 hC; obtain ⟨c1, c2, c3, c4, c5⟩ := hC; go_simp; first | done | (simp; done) | (simp; omega) | rfl)
            simp only [Act.put, List.setIfInBounds_toArray, List.set_cons_zero, List.set_cons_succ]
            refine q_run (v := .int .i64 (k : Int)) (by rfl) ?_ ?_
            · (intro w1 hC; obtain ⟨c1, c2, c3, c4, c5⟩ := hC; go_simp; first | done | (simp; done) | (simp; omega) | rfl)
            simp only [Act.put, List.setIfInBounds_toArray, List.set_cons_zero, List.set_cons_succ]
            refine q_run (v := .int .i64 F) (by rfl) ?_ ?_
            · (intro w1 hC; obtain ⟨c1, c2, c3, c4, c5⟩ := hC; go_simp; first | done | (simp; done) | (simp; omega) | rfl)
            simp only [Act.put, List.setIfInBounds_toArray, List.set_cons_zero, List.set_cons_succ]
            refine q_run (v := .int .i64 M) (by rfl) ?_ ?_
            · (intro w1 hC; obtain ⟨c1, c2, c3, c4, c5⟩ := hC; go_simp; first | done | (simp; done) | (simp; omega) | rfl)
            simp only [Act.put, List.setIfInBounds_toArray, List.set_cons_zero, List.set_cons_succ]
            refine q_run (v := .int .i64 (F + M)) (by rfl) ?_ ?_
            · (intro w1 hC; obtain ⟨c1, c2, c3, c4, c5⟩ := hC; go_simp; first | done | (simp; done) | (simp; omega) | rfl)
            simp only [Act.put, List.setIfInBounds_toArray, List.set_cons_zero, List.set_cons_succ]
            refine q_run (v := .bool true) (by rfl) ?_ ?_
            · (intro w1 hC; obtain ⟨c1, c2, c3, c4, c5⟩ := hC; go_simp; first | done | (simp; done) | (simp; omega) | rfl)
            simp only [Act.put, List.setIfInBounds_toArray, List.set_cons_zero, List.set_cons_succ]
            refine q_run (v := .bool true) (by rfl) ?_ ?_
            · (intro w1 hC; obtain ⟨c1, c2, c3, c4, c5⟩ := hC; go_simp; first | done | (simp; done) | (simp; omega) | rfl)
            simp only [Act.put, List.setIfInBounds_toArray, List.set_cons_zero, List.set_cons_succ]
            refine q_run (v := .bool true) (by rfl) ?_ ?_
            · (intro w1 hC; obtain ⟨c1, c2, c3, c4, c5⟩ := hC; go_simp; first | done | (simp; done) | (simp; omega) | rfl)
            simp only [Act.put, List.setIfInBounds_toArray, List.set_cons_zero, List.set_cons_succ]
            refine q_run (v := .agg #[.int .u64 (hI z), .int .u64 (lI z)]) (by rfl) ?_ ?_
            · (intro w1 hC; obtain ⟨c1, c2, c3, c4, c5⟩ := hC; go_simp; first | done | (simp; done) | (simp; omega) | rfl)
            simp only [Act.put, List.setIfInBounds_toArray, List.set_cons_zero, List.set_cons_succ]
            refine q_run (v := .int .i64 (k : Int)) (by rfl) ?_ ?_
            · (intro w1 hC; obtain ⟨c1, c2, c3, c4, c5⟩ := hC; go_simp; first | done | (simp; done) | (simp; omega) | rfl)
            simp only [Act.put, List.setIfInBounds_toArray, List.set_cons_zero, List.set_cons_succ]
            refine q_call (v := .int .i64 (bitZ x (k : Int))) (f := 15) (args := #[.agg #[.int .u64 (hI z), .int .u64 (lI z)], .int .i64 (k : Int)]) (by rfl) ?_ ?_ ?_
            · (intro w1 hC; obtain ⟨c1, c2, c3, c4, c5⟩ := hC; go_simp)
            · exact fun w1 hC => (CZ w1).mono fun e w' ⟨he, hb⟩ => ⟨he, keepc hb hC.1, keepc hb hC.2.1, keepc hb hC.2.2.1, keepc hb hC.2.2.2.1, keepb hb hC.2.2.2.2⟩
            simp only [Act.put, List.setIfInBounds_toArray, List.set_cons_zero, List.set_cons_succ]
            refine q_run (v := .agg #[.int .u64 (hI x), .int .u64 (lI x)]) (by rfl) ?_ ?_
            · (intro w1 hC; obtain ⟨c1, c2, c3, c4, c5⟩ := hC; go_simp; first | done | (simp; done) | (simp; omega) | rfl)
            simp only [Act.put, List.setIfInBounds_toArray, List.set_cons_zero, List.set_cons_succ]
            refine q_run (v := .int .i64 (k : Int)) (by rfl) ?_ ?_
            · (intro w1 hC; obtain ⟨c1, c2, c3, c4, c5⟩ := hC; go_simp; first | done | (simp; done) | (simp; omega) | rfl)
            simp only [Act.put, List.setIfInBounds_toArray, List.set_cons_zero, List.set_cons_succ]
            refine q_call (v := .int .i64 (bitZ x (k : Int))) (f := 15) (args := #[.agg #[.int .u64 (hI x), .int .u64 (lI x)], .int .i64 (k : Int)]) (by rfl) ?_ ?_ ?_
            · (intro w1 hC; obtain ⟨c1, c2, c3, c4, c5⟩ := hC; go_simp)
            · exact fun w1 hC => (bit_any x k w1).mono fun e w' ⟨he, hb⟩ => ⟨he, keepc hb hC.1, keepc hb hC.2.1, keepc hb hC.2.2.1, keepc hb hC.2.2.2.1, keepb hb hC.2.2.2.2⟩
            simp only [Act.put, List.setIfInBounds_toArray, List.set_cons_zero, List.set_cons_succ]
            refine q_run (v := .bool false) (by rfl) ?_ ?_
            · (intro w1 hC; obtain ⟨c1, c2, c3, c4, c5⟩ := hC; go_simp; first | done | (simp; done) | (simp; omega) | rfl)
            simp only [Act.put, List.setIfInBounds_toArray, List.set_cons_zero, List.set_cons_succ]
            refine q_run (v := .bool false) (by rfl) ?_ ?_
            · (intro w1 hC; obtain ⟨c1, c2, c3, c4, c5⟩ := hC; go_simp; first | done | (simp; done) | (simp; omega) | rfl)
            simp only [Act.put, List.setIfInBounds_toArray, List.set_cons_zero, List.set_cons_succ]
            refine wpQuiet_nil ?_
            intro w9 hC
            obtain ⟨c1, c2, c3, c4, c5⟩ := hC
            go_wp2
            go_roundw
            case rel => exact ⟨k + 1, by omega, by go_num, ⟨c1, c2⟩, ⟨c3, c4⟩, c5⟩
            case measure => simp [intOf]; omega
          · clear HK
            go_wp2_with fail
            have hbl := kB.drew
            refine q_region (C := (fun w' => w'.cell? ⟨w.heap.size, 0, none⟩ = some (.int .u64 (hI x)) ∧ w'.cell? ⟨w.heap.size, 1, none⟩ = some (.int .u64 (lI x)) ∧ w'.cell? ⟨w7.heap.size, 0, none⟩ = some (.int .u64 (hI z)) ∧ w'.cell? ⟨w7.heap.size, 1, none⟩ = some (.int .u64 (lI z)) ∧ Below w.heap.size w w')) (by kernel_rfl) (by kernel_rfl) ⟨x0, x1, z0, z1, hbl⟩ ?_
            clear x0 x1 z0 z1 kB hbl
            refine q_run (v := .int .i64 (k : Int)) (by rfl) ?_ ?_
            · (intro w1 hC; obtain ⟨c1, c2, c3, c4, c5⟩ := hC; go_simp; first | done | (simp; done) | (simp; omega) | rfl)
            simp only [Act.put, List.setIfInBounds_toArray, List.set_cons_zero, List.set_cons_succ]
            refine q_run (v := .int .i64 F) (by rfl) ?_ ?_
            · (intro w1 hC; obtain ⟨c1, c2, c3, c4, c5⟩ := hC; go_simp; first | done | (simp; done) | (simp; omega) | rfl)
            simp only [Act.put, List.setIfInBounds_toArray, List.set_cons_zero, List.set_cons_succ]
            refine q_run (v := .bool false) (by rfl) ?_ ?_
            · (intro w1 hC; obtain ⟨c1, c2, c3, c4, c5⟩ := hC; go_simp; first | done | (simp; done) | (simp; omega) | rfl)
            simp only [Act.put, List.setIfInBounds_toArray, List.set_cons_zero, List.set_cons_succ]
            refine q_run (v := .bool false) (by rfl) ?_ ?_
            · (intro w1 hC; obtain ⟨c1, c2, c3, c4, c5⟩ := hC; go_simp; first | done | (simp; done) | (simp; omega) | rfl)
            simp only [Act.put, List.setIfInBounds_toArray, List.set_cons_zero, List.set_cons_succ]
            refine q_run (v := .int .i64 (k : Int)) (by rfl) ?_ ?_
            · (intro w1 hC; obtain ⟨c1, c2, c3, c4, c5⟩ := hC; go_simp; first | done | (simp; done) | (simp; omega) | rfl)
            simp only [Act.put, List.setIfInBounds_toArray, List.set_cons_zero, List.set_cons_succ]
            refine q_run (v := .int .i64 F) (by rfl) ?_ ?_
            · (intro w1 hC; obtain ⟨c1, c2, c3, c4, c5⟩ := hC; go_simp; first | done | (simp; done) | (simp; omega) | rfl)
            simp only [Act.put, List.setIfInBounds_toArray, List.set_cons_zero, List.set_cons_succ]
            refine q_run (v := .int .i64 M) (by rfl) ?_ ?_
            · (intro w1 hC; obtain ⟨c1, c2, c3, c4, c5⟩ := hC; go_simp; first | done | (simp; done) | (simp; omega) | rfl)
            simp only [Act.put, List.setIfInBounds_toArray, List.set_cons_zero, List.set_cons_succ]
            refine q_run (v := .int .i64 (F + M)) (by rfl) ?_ ?_
            · (intro w1 hC; obtain ⟨c1, c2, c3, c4, c5⟩ := hC; go_simp; first | done | (simp; done) | (simp; omega) | rfl)
            simp only [Act.put, List.setIfInBounds_toArray, List.set_cons_zero, List.set_cons_succ]
            refine q_run (v := .bool false) (by rfl) ?_ ?_
            · (intro w1 hC; obtain ⟨c1, c2, c3, c4, c5⟩ := hC; go_simp; first | done | (simp; done) | (simp; omega) | rfl)
            simp only [Act.put, List.setIfInBounds_toArray, List.set_cons_zero, List.set_cons_succ]
            refine q_run (v := .bool false) (by rfl) ?_ ?_
            · (intro w1 hC; obtain ⟨c1, c2, c3, c4, c5⟩ := hC; go_simp; first | done | (simp; done) | (simp; omega) | rfl)
            simp only [Act.put, List.setIfInBounds_toArray, List.set_cons_zero, List.set_cons_succ]
            refine q_run (v := .bool false) (by rfl) ?_ ?_
            · (intro w1 hC; obtain ⟨c1, c2, c3, c4, c5⟩ := hC; go_simp; first | done | (simp; done) | (simp; omega) | rfl)
            simp only [Act.put, List.setIfInBounds_toArray, List.set_cons_zero, List.set_cons_succ]
            refine q_skip (by rfl) ?_
            simp only [Act.put, List.setIfInBounds_toArray, List.set_cons_zero, List.set_cons_succ]
            refine q_skip (by rfl) ?_
            simp only [Act.put, List.setIfInBounds_toArray, List.set_cons_zero, List.set_cons_succ]
            refine q_skip (by rfl) ?_
            simp only [Act.put, List.setIfInBounds_toArray, List.set_cons_zero, List.set_cons_succ]
            refine q_skip (by rfl) ?_
            simp only [Act.put, List.setIfInBounds_toArray, List.set_cons_zero, List.set_cons_succ]
            refine q_skip (by rfl) ?_
            simp only [Act.put, List.setIfInBounds_toArray, List.set_cons_zero, List.set_cons_succ]
            refine q_skip (by rfl) ?_
            simp only [Act.put, List.setIfInBounds_toArray, List.set_cons_zero, List.set_cons_succ]
            refine q_skip (by rfl) ?_
            simp only [Act.put, List.setIfInBounds_toArray, List.set_cons_zero, List.set_cons_succ]
            refine q_run (v := .bool false) (by rfl) ?_ ?_
            · (intro w1 hC; obtain ⟨c1, c2, c3, c4, c5⟩ := hC; go_simp; first | done | (simp; done) | (simp; omega) | rfl)
            simp only [Act.put, List.setIfInBounds_toArray, List.set_cons_zero, List.set_cons_succ]
            refine wpQuiet_nil ?_
            intro w9 hC
            obtain ⟨c1, c2, c3, c4, c5⟩ := hC
            go_wp2
            go_roundw
            case rel => exact ⟨k + 1, by omega, by go_num, ⟨c1, c2⟩, ⟨c3, c4⟩, c5⟩
            case measure => simp [intOf]; omega
      · clear HK hk
        have CT := fun w => text_any x w
        have CP := fun w => parse_32 (txtW x) w (txt_size x)
        rw [(parse_text x).1, (parse_text x).2] at CP
        have hs : ((txtW x).size : Int) = 32 := by rw [txt_size]; rfl
        revert CT CP hs
        generalize txtW x = s
        intro CT CP hs
        clear z0 z1
        go_wp2_with fail
        refine (CT _).mono ?_
        rintro e w9 ⟨rfl, hb9⟩
        have X9 := keepc hb9 x0
        have X10 := keepc hb9 x1
        have kB9 := keepb hb9 kB
        clear x0 x1 kB hb9
        go_wp2_with fail
        refine (CP _).mono ?_
        rintro e w10 ⟨rfl, hb10⟩
        clear CP
        have x0 := keepc (bl1 w10 (.cells #[.int .u64 (hI x), .int .u64 (lI x)] 24)) (keepc hb10 X9)
        have x1 := keepc (bl1 w10 (.cells #[.int .u64 (hI x), .int .u64 (lI x)] 24)) (keepc hb10 X10)
        obtain ⟨y0, y1⟩ := Rd.new w10 x 24
        have k10 := keepb hb10 kB9
        have hbl := (k10.alloc k10.size (.cells #[.int .u64 (hI x), .int .u64 (lI x)] 24))
        clear X9 X10 hb10 kB9 k10
        go_wp2_with fail
        refine (CT _).mono ?_
        rintro e w11 ⟨rfl, hb11⟩
        have a0 := keepc hb11 x0
        have a1 := keepc hb11 x1
        have b0 := keepc hb11 y0
        have b1 := keepc hb11 y1
        have kB := keepb hb11 hbl
        clear x0 x1 y0 y1 hbl hb11 CT
        go_wp2
        go_ret
        exact ⟨rfl, kB⟩
  go_region_with (first
    | (go_at_call 20; refine (mask_any _ _).mono ?_; rintro e w3 ⟨rfl, hb3⟩; have p0 := keepc hb3 y0; have p1 := keepc hb3 y1; have p2 := keepf hb3 y0 y2; have p3 := keepf hb3 y1 y3)
    | (go_at_call 14; refine (not_any _ _).mono ?_; rintro e w4 ⟨rfl, hb4⟩; have q0 := keepc hb4 p0; have q1 := keepc hb4 p1; have q2 := keepf hb4 p0 p2; have q3 := keepf hb4 p1 p3)
    | (go_at_call 19; refine (and_any _ _ _).mono ?_; rintro e w5 ⟨rfl, hb5⟩; have r0 := keepc hb5 q0; have r1 := keepc hb5 q1; have r2 := keepf hb5 q0 q2; have r3 := keepf hb5 q1 q3))
  all_goals
    have X := ((Xd.below hb3).below hb4).below hb5
    have Y := ((Yd.below hb3).below hb4).below hb5
    have kB := keepb hb5 (keepb hb4 (keepb hb3 kd))
    clear y0 y1 y2 y3 y4 p0 p1 p2 p3 q0 q1 q2 q3 r0 r1 r2 r3 Xd Yd kd hb3 hb4 hb5
    have X1 := X.other (.int .u64 (hI (v &&& ~~~maskW (128 - M)))) (.int .u64 (lI (v &&& ~~~maskW (128 - M)))) (show w.heap.size ≠ w.heap.size + 1 by omega)
    have Y1 := Y.set (v &&& ~~~maskW (128 - M))
    exact tail _ X1 Y1 ((kB.setCell (by simp) _).setCell (by simp) _)
end Go.Proofs.Ytkahilfklgobpab
