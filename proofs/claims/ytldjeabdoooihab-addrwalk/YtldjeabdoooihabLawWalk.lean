/-
  The law AddrWalk, walked.
-/
import Derived.Test.YtldjeabdoooihabDec
import Derived.Test.YtldjeabdoooihabAdrP
import Derived.Test.YtldjeabdoooihabAdrC
import Derived.Test.YtldjeabdoooihabRefW3
import Derived.Test.YtldjeabdoooihabNumW
import Derived.Test.YtldjeabdoooihabQt
namespace Go.Proofs.Ytldjeabdoooihab
open Go.RowKit
set_option linter.unusedSimpArgs false
set_option linter.unusedVariables false

theorem family_any (six : Bool) (w : World) :
    Calls Try.prog 9 #[.bool six] w fun e w' => e = .returned (.int .i64 (if six = true then 128 else 32)) ∧ w' = w := by
  cases six
  · go_enter Try.func9, Try.ntmps9
    go_wp2
    go_ret
    exact ⟨rfl, rfl⟩
  · go_enter Try.func9, Try.ntmps9
    go_wp2
    go_ret
    exact ⟨rfl, rfl⟩

set_option maxHeartbeats 8000000 in
theorem walk_core (six : Bool) (F : Int) (hf : fam F = true) (x m : BitVec 128) (hm : x &&& maskW F = m) (n : Int) (N : Nat) (hN : N < 300) (w : World)
    (KF : ∀ w, Calls Try.prog 9 #[.bool six] w fun e w' => e = .returned (.int .i64 F) ∧ w' = w)
    (KW : ∀ w, Calls Try.prog 6 #[.int .i64 n, .int .i64 300] w fun e w' => e = .returned (.int .i64 (N : Int)) ∧ w' = w) :
    Calls Try.prog 4 #[.bool six, .agg #[.int .u64 (hI x), .int .u64 (lI x)], .int .i64 n] w fun e w' => e = .returned (.bool true) ∧ Below w.heap.size w w' := by
  have hF0 : 32 ≤ F ∧ F ≤ 128 := by rcases fam_ways F hf with rfl | rfl <;> omega
  have KM := fun w => rmask_any F w
  have KA := fun w => rand_any x (maskW F) w
  rw [hm] at KA
  have hr0 : rightE F m = 0 := right_of F m hf (by rw [← hm]; exact and_mask_idem F x)
  go_enter Try.func4, Try.ntmps4
  go_wp2_with fail
  refine (known2_any _).mono ?_
  rintro e w1 ⟨rfl, hb1⟩
  have X1 := (at_new w w.heap.size x 27 rfl).below hb1
  have kB1 := keepb hb1 (bl1 w _)
  clear hb1
  go_wp2_with fail
  refine (KF _).mono ?_
  rintro e w2 ⟨rfl, rfl⟩
  clear KF
  obtain ⟨x0, x1, x2, x3, x4⟩ := id X1
  go_wp2_with fail
  rename_i Q' K hK
  have tail : ∀ W, At W w.heap.size m → Below w.heap.size w W → (Exit.then K Q') .normal { tmps := #[.bool six, .agg #[.int .u64 (hI x), .int .u64 (lI x)], .int .i64 n, undef, .pointer (some ⟨w.heap.size, 0, none⟩), undef, .bool false, .int .i64 F, undef, undef, undef, undef, undef, undef, undef, undef, undef, undef, undef, undef, undef, .bool true, .bool false, .bool six, .int .i64 F, .agg #[.int .u64 (hI x), .int .u64 (lI x)], .int .i64 F, .agg #[.int .u64 (hI (maskW F)), .int .u64 (lI (maskW F))], .agg #[.int .u64 (hI m), .int .u64 (lI m)], undef, undef, undef, undef, undef, undef, undef, undef, undef, undef, undef, undef, undef, undef, undef, undef, undef, undef, undef, undef, undef, undef, undef, undef, undef, undef, undef, undef, undef, undef, undef, undef, undef, undef, undef, undef, undef, undef, undef, undef, undef, undef, undef, undef, undef, undef, undef, undef, undef, undef, undef, undef, undef, undef, undef, undef, undef, undef, undef, undef, undef, undef, undef, undef, undef, undef, undef, undef, undef, undef, undef, undef, undef, undef, undef, undef, undef, undef, undef, undef, undef], defers := [] } W := by
    clear x0 x1 x2 x3 x4 X1 kB1 KA
    intro W M1 kB1
    obtain ⟨m0, m1, m2, m3, m4⟩ := id M1
    go_wp2_with fail
    refine (KW _).mono ?_
    rintro e W' ⟨rfl, hW'⟩
    rw [hW']; clear hW'
    clear KW
    have M2 := M1.below (bl1 W (.cells #[.int .u64 (hI m), .int .u64 (lI m)] 27))
    have X2 := at_new W W.heap.size m 27 rfl
    have kB2 := kB1.alloc kB1.size (.cells #[.int .u64 (hI m), .int .u64 (lI m)] 27)
    clear M1 kB1
    go_wp2
    go_loopw [9] (fun q wr => ∃ k : Nat, k ≤ N ∧ q = .int .i64 k ∧ Hid (∀ j, j ≤ k → rightE F (walkW F m j) = 0) ∧ Hid (∀ j, j < k → overB (walkW F m j) (stepW F) = false) ∧ At wr W.heap.size (walkW F m k) ∧ At wr w.heap.size m ∧ Below w.heap.size w wr) (fun q _ => N - (intOf q).toNat)
    case atStart => exact ⟨0, by omega, rfl, fun j hj => by have : j = 0 := by omega
                                                            subst this; exact hr0, fun j hj => by omega, X2, M2, kB2⟩
    case round =>
      clear X2 M2 kB2
      obtain ⟨k, hk, rfl, HR, HO, X, M, kB⟩ := hrel
      have hW0 : w.heap.size < W.heap.size := m4
      clear m0 m1 m2 m3
      by_cases hlt : k < N
      · have hlt2 : (k : Int) < (N : Int) := by omega
        have KN := fun w => anext_any F (walkW F m k) w
        obtain ⟨x0, x1, x2, x3, x4⟩ := id X
        rcases next_ways F (walkW F m k) (HR.out k (by omega)) with ⟨ho, hb, hv, he⟩ | ⟨ho, hb, hv⟩
        · rw [hb, hv, hI_zero, lI_zero] at KN
          have HE : Hid (walkW F m k = maskW F) := he
          clear ho hb hv he
          go_wp2_with fail
          refine (KN _).mono ?_
          rintro e w5 ⟨rfl, hb5⟩
          clear KN x0 x1 x2 x3 x4
          have X' := (X.below hb5).below (bl1 _ (.cells #[.int .u64 0, .int .u64 0] 27))
          have M' := (M.below hb5).below (bl1 _ (.cells #[.int .u64 0, .int .u64 0] 27))
          have kB' := ((keepb hb5 kB).alloc (keepb hb5 kB).size (.cells #[.int .u64 0, .int .u64 0] 27)).drew
          clear X M kB hb5
          rw [HE.out] at X'
          obtain ⟨x0, x1, x2, x3, x4⟩ := id X'
          obtain ⟨m0, m1, m2, m3, m5⟩ := id M'
          go_wp2_with fail
          refine q_region (C := (fun w' => w'.cell? ⟨W.heap.size, 0, none⟩ = some (.int .u64 (hI (maskW F))) ∧ w'.cell? ⟨W.heap.size, 1, none⟩ = some (.int .u64 (lI (maskW F))) ∧ w'.frozen? ⟨W.heap.size, 0, none⟩ = false ∧ w'.frozen? ⟨W.heap.size, 1, none⟩ = false ∧ w'.cell? ⟨w.heap.size, 0, none⟩ = some (.int .u64 (hI m)) ∧ w'.cell? ⟨w.heap.size, 1, none⟩ = some (.int .u64 (lI m)) ∧ w'.frozen? ⟨w.heap.size, 0, none⟩ = false ∧ w'.frozen? ⟨w.heap.size, 1, none⟩ = false ∧ Below w.heap.size w w')) (by kernel_rfl) (by kernel_rfl) ⟨x0, x1, x2, x3, m0, m1, m2, m3, kB'⟩ ?_
          clear x0 x1 x2 x3 x4 m0 m1 m2 m3 m5 kB' X' M'
          refine q_run (v := .agg #[.int .u64 (hI (maskW F)), .int .u64 (lI (maskW F))]) (by rfl) ?_ ?_
          · (intro w1 hC; obtain ⟨c1, c2, c3, c4, c5, c6, c7, c8, c9⟩ := hC; go_simp; first | done | (simp; done) | (simp [*]; done) | (simp; omega) | rfl)
          simp only [Act.put, List.setIfInBounds_toArray, List.set_cons_zero, List.set_cons_succ]
          refine q_run (v := .int .i64 F) (by rfl) ?_ ?_
          · (intro w1 hC; obtain ⟨c1, c2, c3, c4, c5, c6, c7, c8, c9⟩ := hC; go_simp; first | done | (simp; done) | (simp [*]; done) | (simp; omega) | rfl)
          simp only [Act.put, List.setIfInBounds_toArray, List.set_cons_zero, List.set_cons_succ]
          refine q_call (v := .agg #[.int .u64 (hI (maskW F)), .int .u64 (lI (maskW F))]) (f := 11) (args := #[.int .i64 F]) (by rfl) ?_ ?_ ?_
          · (intro w1 hC; obtain ⟨c1, c2, c3, c4, c5, c6, c7, c8, c9⟩ := hC; go_simp)
          · exact fun w1 hC => (KM w1).mono fun e w' ⟨he, hb⟩ => ⟨he, keepc hb hC.1, keepc hb hC.2.1, keepf hb hC.1 hC.2.2.1, keepf hb hC.2.1 hC.2.2.2.1, keepc hb hC.2.2.2.2.1, keepc hb hC.2.2.2.2.2.1, keepf hb hC.2.2.2.2.1 hC.2.2.2.2.2.2.1, keepf hb hC.2.2.2.2.2.1 hC.2.2.2.2.2.2.2.1, keepb hb hC.2.2.2.2.2.2.2.2⟩
          simp only [Act.put, List.setIfInBounds_toArray, List.set_cons_zero, List.set_cons_succ]
          refine q_run (v := .bool false) (by rfl) ?_ ?_
          · (intro w1 hC; obtain ⟨c1, c2, c3, c4, c5, c6, c7, c8, c9⟩ := hC; go_simp; first | done | (simp; done) | (simp [*]; done) | (simp; omega) | rfl)
          simp only [Act.put, List.setIfInBounds_toArray, List.set_cons_zero, List.set_cons_succ]
          refine wpQuiet_nil ?_
          intro wz hC
          obtain ⟨x0, x1, x2, x3, m0, m1, m2, m3, kB⟩ := hC
          have X : At wz W.heap.size (walkW F m k) := ⟨by rw [HE.out]; exact x0, by rw [HE.out]; exact x1, x2, x3, cell_in x0⟩
          have M : At wz w.heap.size m := ⟨m0, m1, m2, m3, cell_in m0⟩
          clear x0 x1 x2 x3 m0 m1 m2 m3
          go_wp2
          go_loopw [14] (fun q wr => ∃ i : Nat, i ≤ k ∧ q = .int .i64 i ∧ At wr W.heap.size (walkW F m (k - i)) ∧ At wr w.heap.size m ∧ Below w.heap.size w wr) (fun q _ => k - (intOf q).toNat)
          case atStart => exact ⟨0, by omega, rfl, X, M, kB⟩
          case round =>
            clear X M kB
            obtain ⟨i, hi, rfl, X, M, kB⟩ := hrel
            have hXW := X.2.2.2.2
            by_cases hik : i < k
            · have hik2 : (i : Int) < (k : Int) := by omega
              obtain ⟨j, hj⟩ : ∃ j, Hid (k - i = j + 1) := ⟨k - i - 1, by show _ = _; omega⟩
              rw [hj.out] at X
              have hpn := prev_next F (walkW F m j) (HR.out j (by have := hj.out; omega)) (HO.out j (by have := hj.out; omega))
              have KP := fun w => aprev_any F (walkW F m j + stepW F) w
              rw [hpn.1, hpn.2] at KP
              have KP2 : ∀ w, Calls Try.prog 16 #[.int .i64 F, .agg #[.int .u64 (hI (walkW F m (j + 1))), .int .u64 (lI (walkW F m (j + 1)))]] w fun e w' => e = .returned (.tuple #[.agg #[.int .u64 (hI (walkW F m j)), .int .u64 (lI (walkW F m j))], .bool true]) ∧ Below w.heap.size w w' := KP
              have HJ : Hid (k - (i + 1) = j) := by show _ = _; have := hj.out; omega
              clear KP hpn hj
              generalize walkW F m (j + 1) = a at *
              obtain ⟨x0, x1, x2, x3, x4⟩ := id X
              go_wp2_with fail
              refine (KP2 _).mono ?_
              rintro e w5 ⟨rfl, hb5⟩
              clear KP2 x0 x1 x2 x3 x4
              have X' := (X.below hb5).below (bl1 _ (.cells #[.int .u64 (hI (walkW F m j)), .int .u64 (lI (walkW F m j))] 27))
              have M' := (M.below hb5).below (bl1 _ (.cells #[.int .u64 (hI (walkW F m j)), .int .u64 (lI (walkW F m j))] 27))
              have kB' := (keepb hb5 kB).alloc (keepb hb5 kB).size (.cells #[.int .u64 (hI (walkW F m j)), .int .u64 (lI (walkW F m j))] 27)
              have hs5 := hb5.size
              clear X M kB hb5
              obtain ⟨x0, x1, x2, x3, x4⟩ := id X'
              go_wp2
              go_roundw
              case rel => exact ⟨i + 1, by omega, by go_num, by rw [HJ.out]; exact X'.set _, M'.other _ _ (by omega), bset2 kB' (by omega) _ _⟩
              case measure => simp [intOf]; omega
            · have hik2 : ¬ (i : Int) < (k : Int) := by omega
              have e0 : k - i = 0 := by omega
              rw [e0] at X
              have X' : At wr W.heap.size m := X
              clear X e0
              have KP := fun w => aprev_any F 0#128 w
              rw [(prev_zero F hf).1, (prev_zero F hf).2, hI_zero, lI_zero] at KP
              have KL := fun w => alast_any F w
              unfold lastV lastE at KL
              rw [if_pos hf, if_pos hf] at KL
              go_wp2_with fail
              refine (KP _).mono ?_
              rintro e w5 ⟨rfl, hb5⟩
              clear KP
              have X2 := (X'.below hb5).below (bl1 _ (.cells #[.int .u64 0, .int .u64 0] 27))
              have M2 := (M.below hb5).below (bl1 _ (.cells #[.int .u64 0, .int .u64 0] 27))
              have kB2 := (keepb hb5 kB).alloc (keepb hb5 kB).size (.cells #[.int .u64 0, .int .u64 0] 27)
              clear X' M kB hb5
              go_wp2_with fail
              refine (KL _).mono ?_
              rintro e w6 ⟨rfl, hb6⟩
              clear KL
              have X3 := (X2.below hb6).below (bl1 _ (.cells #[.int .u64 (hI (maskW F)), .int .u64 (lI (maskW F))] 27))
              have M3 := (M2.below hb6).below (bl1 _ (.cells #[.int .u64 (hI (maskW F)), .int .u64 (lI (maskW F))] 27))
              have L3 := at_new w6 w6.heap.size (maskW F) 27 rfl
              have kB3 := ((keepb hb6 kB2).alloc (keepb hb6 kB2).size (.cells #[.int .u64 (hI (maskW F)), .int .u64 (lI (maskW F))] 27)).drew
              clear X2 M2 kB2 hb6
              obtain ⟨x0, x1, -, -, -⟩ := id X3
              obtain ⟨m0, m1, -, -, -⟩ := id M3
              obtain ⟨l0, l1, -, -, -⟩ := id L3
              go_wp2_with fail
              refine q_region (C := (fun w' => w'.cell? ⟨W.heap.size, 0, none⟩ = some (.int .u64 (hI m)) ∧ w'.cell? ⟨W.heap.size, 1, none⟩ = some (.int .u64 (lI m)) ∧ w'.cell? ⟨w.heap.size, 0, none⟩ = some (.int .u64 (hI m)) ∧ w'.cell? ⟨w.heap.size, 1, none⟩ = some (.int .u64 (lI m)) ∧ w'.cell? ⟨w6.heap.size, 0, none⟩ = some (.int .u64 (hI (maskW F))) ∧ w'.cell? ⟨w6.heap.size, 1, none⟩ = some (.int .u64 (lI (maskW F))) ∧ Below w.heap.size w w')) (by kernel_rfl) (by kernel_rfl) ⟨x0, x1, m0, m1, l0, l1, kB3⟩ ?_
              clear x0 x1 m0 m1 l0 l1 kB3 X3 M3 L3
              refine q_run (v := .agg #[.int .u64 (hI m), .int .u64 (lI m)]) (by rfl) ?_ ?_
              · (intro w1 hC; obtain ⟨c1, c2, c3, c4, c5, c6, c7⟩ := hC; go_simp; first | done | (simp; done) | (simp [*]; done) | (simp; omega) | rfl)
              simp only [Act.put, List.setIfInBounds_toArray, List.set_cons_zero, List.set_cons_succ]
              refine q_run (v := .agg #[.int .u64 (hI m), .int .u64 (lI m)]) (by rfl) ?_ ?_
              · (intro w1 hC; obtain ⟨c1, c2, c3, c4, c5, c6, c7⟩ := hC; go_simp; first | done | (simp; done) | (simp [*]; done) | (simp; omega) | rfl)
              simp only [Act.put, List.setIfInBounds_toArray, List.set_cons_zero, List.set_cons_succ]
              refine q_run (v := .bool true) (by rfl) ?_ ?_
              · (intro w1 hC; obtain ⟨c1, c2, c3, c4, c5, c6, c7⟩ := hC; go_simp; first | done | (simp; done) | (simp [*]; done) | (simp; omega) | rfl)
              simp only [Act.put, List.setIfInBounds_toArray, List.set_cons_zero, List.set_cons_succ]
              refine q_run (v := .bool true) (by rfl) ?_ ?_
              · (intro w1 hC; obtain ⟨c1, c2, c3, c4, c5, c6, c7⟩ := hC; go_simp; first | done | (simp; done) | (simp [*]; done) | (simp; omega) | rfl)
              simp only [Act.put, List.setIfInBounds_toArray, List.set_cons_zero, List.set_cons_succ]
              refine q_run (v := .bool false) (by rfl) ?_ ?_
              · (intro w1 hC; obtain ⟨c1, c2, c3, c4, c5, c6, c7⟩ := hC; go_simp; first | done | (simp; done) | (simp [*]; done) | (simp; omega) | rfl)
              simp only [Act.put, List.setIfInBounds_toArray, List.set_cons_zero, List.set_cons_succ]
              refine q_run (v := .bool true) (by rfl) ?_ ?_
              · (intro w1 hC; obtain ⟨c1, c2, c3, c4, c5, c6, c7⟩ := hC; go_simp; first | done | (simp; done) | (simp [*]; done) | (simp; omega) | rfl)
              simp only [Act.put, List.setIfInBounds_toArray, List.set_cons_zero, List.set_cons_succ]
              refine q_run (v := .bool true) (by rfl) ?_ ?_
              · (intro w1 hC; obtain ⟨c1, c2, c3, c4, c5, c6, c7⟩ := hC; go_simp; first | done | (simp; done) | (simp [*]; done) | (simp; omega) | rfl)
              simp only [Act.put, List.setIfInBounds_toArray, List.set_cons_zero, List.set_cons_succ]
              refine q_run (v := .bool true) (by rfl) ?_ ?_
              · (intro w1 hC; obtain ⟨c1, c2, c3, c4, c5, c6, c7⟩ := hC; go_simp; first | done | (simp; done) | (simp [*]; done) | (simp; omega) | rfl)
              simp only [Act.put, List.setIfInBounds_toArray, List.set_cons_zero, List.set_cons_succ]
              refine q_run (v := .int .i64 0) (by rfl) ?_ ?_
              · (intro w1 hC; obtain ⟨c1, c2, c3, c4, c5, c6, c7⟩ := hC; go_simp; first | done | (simp; done) | (simp [*]; done) | (simp; omega) | rfl)
              simp only [Act.put, List.setIfInBounds_toArray, List.set_cons_zero, List.set_cons_succ]
              refine q_run (v := .bool true) (by rfl) ?_ ?_
              · (intro w1 hC; obtain ⟨c1, c2, c3, c4, c5, c6, c7⟩ := hC; go_simp; first | done | (simp; done) | (simp [*]; done) | (simp; omega) | rfl)
              simp only [Act.put, List.setIfInBounds_toArray, List.set_cons_zero, List.set_cons_succ]
              refine q_run (v := .bool true) (by rfl) ?_ ?_
              · (intro w1 hC; obtain ⟨c1, c2, c3, c4, c5, c6, c7⟩ := hC; go_simp; first | done | (simp; done) | (simp [*]; done) | (simp; omega) | rfl)
              simp only [Act.put, List.setIfInBounds_toArray, List.set_cons_zero, List.set_cons_succ]
              refine q_run (v := .bool true) (by rfl) ?_ ?_
              · (intro w1 hC; obtain ⟨c1, c2, c3, c4, c5, c6, c7⟩ := hC; go_simp; first | done | (simp; done) | (simp [*]; done) | (simp; omega) | rfl)
              simp only [Act.put, List.setIfInBounds_toArray, List.set_cons_zero, List.set_cons_succ]
              refine q_run (v := .agg #[.int .u64 (hI (maskW F)), .int .u64 (lI (maskW F))]) (by rfl) ?_ ?_
              · (intro w1 hC; obtain ⟨c1, c2, c3, c4, c5, c6, c7⟩ := hC; go_simp; first | done | (simp; done) | (simp [*]; done) | (simp; omega) | rfl)
              simp only [Act.put, List.setIfInBounds_toArray, List.set_cons_zero, List.set_cons_succ]
              refine q_run (v := .int .i64 F) (by rfl) ?_ ?_
              · (intro w1 hC; obtain ⟨c1, c2, c3, c4, c5, c6, c7⟩ := hC; go_simp; first | done | (simp; done) | (simp [*]; done) | (simp; omega) | rfl)
              simp only [Act.put, List.setIfInBounds_toArray, List.set_cons_zero, List.set_cons_succ]
              refine q_call (v := .agg #[.int .u64 (hI (maskW F)), .int .u64 (lI (maskW F))]) (f := 11) (args := #[.int .i64 F]) (by rfl) ?_ ?_ ?_
              · (intro w1 hC; obtain ⟨c1, c2, c3, c4, c5, c6, c7⟩ := hC; go_simp)
              · exact fun w1 hC => (KM w1).mono fun e w' ⟨he, hb⟩ => ⟨he, keepc hb hC.1, keepc hb hC.2.1, keepc hb hC.2.2.1, keepc hb hC.2.2.2.1, keepc hb hC.2.2.2.2.1, keepc hb hC.2.2.2.2.2.1, keepb hb hC.2.2.2.2.2.2⟩
              simp only [Act.put, List.setIfInBounds_toArray, List.set_cons_zero, List.set_cons_succ]
              refine q_run (v := .bool true) (by rfl) ?_ ?_
              · (intro w1 hC; obtain ⟨c1, c2, c3, c4, c5, c6, c7⟩ := hC; go_simp; first | done | (simp; done) | (simp [*]; done) | (simp; omega) | rfl)
              simp only [Act.put, List.setIfInBounds_toArray, List.set_cons_zero, List.set_cons_succ]
              refine q_run (v := .bool true) (by rfl) ?_ ?_
              · (intro w1 hC; obtain ⟨c1, c2, c3, c4, c5, c6, c7⟩ := hC; go_simp; first | done | (simp; done) | (simp [*]; done) | (simp; omega) | rfl)
              simp only [Act.put, List.setIfInBounds_toArray, List.set_cons_zero, List.set_cons_succ]
              refine q_run (v := .bool true) (by rfl) ?_ ?_
              · (intro w1 hC; obtain ⟨c1, c2, c3, c4, c5, c6, c7⟩ := hC; go_simp; first | done | (simp; done) | (simp [*]; done) | (simp; omega) | rfl)
              simp only [Act.put, List.setIfInBounds_toArray, List.set_cons_zero, List.set_cons_succ]
              refine wpQuiet_nil ?_
              intro w9 hC
              obtain ⟨-, -, -, -, -, -, kB9⟩ := hC
              go_wp2
              go_ret
              exact ⟨rfl, kB9⟩
        · have KS := fun w => rsub_any (walkW F m k + stepW F) (walkW F m k) w
          rw [sub_next] at KS
          have KC := fun w => rcmp_any (walkW F m k) (walkW F m k + stepW F) w
          rw [cmp_next F _ hf ho] at KC
          have KU := fun w => put_any 0#128 (F - 1) 1 w (Or.inr rfl) (by omega) (by omega)
          rw [put_step F hf, hI_zero, lI_zero] at KU
          have hu : IntKind.i64.wrap (F - 1) = F - 1 := by rw [IntKind.wrap_i64]; omega
          rw [hb, hv] at KN
          have HR' : Hid (∀ j, j ≤ k + 1 → rightE F (walkW F m j) = 0) := fun j hj => by
            by_cases q : j ≤ k
            · exact HR.out j q
            · have : j = k + 1 := by omega
              subst this
              exact next_right F _ (HR.out k (by omega)) ho
          have HO' : Hid (∀ j, j < k + 1 → overB (walkW F m j) (stepW F) = false) := fun j hj => by
            by_cases q : j < k
            · exact HO.out j q
            · have : j = k := by omega
              subst this; exact ho
          have HW : Hid (walkW F m (k + 1) = walkW F m k + stepW F) := rfl
          rw [← HW.out] at KN KS KC
          clear ho hb hv HW HR HO
          obtain ⟨b, HBW⟩ : ∃ b, Hid (walkW F m (k + 1) = b) := ⟨_, rfl⟩
          rw [HBW.out] at KN KS KC
          generalize walkW F m k = a at *
          generalize underB b a = un at *
          go_wp2_with fail
          refine (KN _).mono ?_
          rintro e w5 ⟨rfl, hb5⟩
          clear KN x0 x1 x2 x3 x4
          have X' := (X.below hb5).below (bl1 _ (.cells #[.int .u64 (hI b), .int .u64 (lI b)] 27))
          have M' := (M.below hb5).below (bl1 _ (.cells #[.int .u64 (hI b), .int .u64 (lI b)] 27))
          have Y' := at_new w5 w5.heap.size b 27 rfl
          have kB' := (keepb hb5 kB).alloc (keepb hb5 kB).size (.cells #[.int .u64 (hI b), .int .u64 (lI b)] 27)
          clear X M kB hb5
          obtain ⟨x0, x1, -, -, -⟩ := id X'
          obtain ⟨y0, y1, -, -, -⟩ := id Y'
          go_wp2_with fail
          refine (KS _).mono ?_
          rintro e w6 ⟨rfl, hb6⟩
          clear KS x0 x1 y0 y1
          have X2 := (X'.below hb6).below (bl1 _ (.cells #[.int .u64 (hI (stepW F)), .int .u64 (lI (stepW F))] 27))
          have M2 := (M'.below hb6).below (bl1 _ (.cells #[.int .u64 (hI (stepW F)), .int .u64 (lI (stepW F))] 27))
          have Y2 := (Y'.below hb6).below (bl1 _ (.cells #[.int .u64 (hI (stepW F)), .int .u64 (lI (stepW F))] 27))
          have D2 := at_new w6 w6.heap.size (stepW F) 27 rfl
          have kB2 := ((keepb hb6 kB').alloc (keepb hb6 kB').size (.cells #[.int .u64 (hI (stepW F)), .int .u64 (lI (stepW F))] 27)).drew
          clear X' M' Y' kB' hb6
          obtain ⟨x0, x1, x2, x3, x4⟩ := id X2
          obtain ⟨m0, m1, m2, m3, m5⟩ := id M2
          obtain ⟨y0, y1, -, -, -⟩ := id Y2
          obtain ⟨d0, d1, -, -, -⟩ := id D2
          go_wp2_with fail
          refine q_region (C := (fun w' => w'.cell? ⟨W.heap.size, 0, none⟩ = some (.int .u64 (hI a)) ∧ w'.cell? ⟨W.heap.size, 1, none⟩ = some (.int .u64 (lI a)) ∧ w'.frozen? ⟨W.heap.size, 0, none⟩ = false ∧ w'.frozen? ⟨W.heap.size, 1, none⟩ = false ∧ w'.cell? ⟨w.heap.size, 0, none⟩ = some (.int .u64 (hI m)) ∧ w'.cell? ⟨w.heap.size, 1, none⟩ = some (.int .u64 (lI m)) ∧ w'.cell? ⟨w5.heap.size, 0, none⟩ = some (.int .u64 (hI b)) ∧ w'.cell? ⟨w5.heap.size, 1, none⟩ = some (.int .u64 (lI b)) ∧ w'.cell? ⟨w6.heap.size, 0, none⟩ = some (.int .u64 (hI (stepW F))) ∧ w'.cell? ⟨w6.heap.size, 1, none⟩ = some (.int .u64 (lI (stepW F))) ∧ w'.frozen? ⟨w.heap.size, 0, none⟩ = false ∧ w'.frozen? ⟨w.heap.size, 1, none⟩ = false ∧ Below w.heap.size w w')) (by kernel_rfl) (by kernel_rfl) ⟨x0, x1, x2, x3, m0, m1, y0, y1, d0, d1, m2, m3, kB2⟩ ?_
          clear x0 x1 x2 x3 x4 m0 m1 m2 m3 m5 y0 y1 d0 d1 kB2 X2 Y2 D2 M2
          refine q_run (v := .agg #[.int .u64 (hI a), .int .u64 (lI a)]) (by rfl) ?_ ?_
          · (intro w1 hC; obtain ⟨c1, c2, c3, c4, c5, c6, c7, c8, c9, c10, c11, c12, c13⟩ := hC; go_simp; first | done | (simp; done) | (simp [*]; done) | (simp; omega) | rfl)
          simp only [Act.put, List.setIfInBounds_toArray, List.set_cons_zero, List.set_cons_succ]
          refine q_run (v := .agg #[.int .u64 (hI b), .int .u64 (lI b)]) (by rfl) ?_ ?_
          · (intro w1 hC; obtain ⟨c1, c2, c3, c4, c5, c6, c7, c8, c9, c10, c11, c12, c13⟩ := hC; go_simp; first | done | (simp; done) | (simp [*]; done) | (simp; omega) | rfl)
          simp only [Act.put, List.setIfInBounds_toArray, List.set_cons_zero, List.set_cons_succ]
          refine q_call (v := .int .i64 (-1)) (f := 14) (args := #[.agg #[.int .u64 (hI a), .int .u64 (lI a)], .agg #[.int .u64 (hI b), .int .u64 (lI b)]]) (by rfl) ?_ ?_ ?_
          · (intro w1 hC; obtain ⟨c1, c2, c3, c4, c5, c6, c7, c8, c9, c10, c11, c12, c13⟩ := hC; go_simp)
          · exact fun w1 hC => (KC w1).mono fun e w' ⟨he, hb⟩ => ⟨he, keepc hb hC.1, keepc hb hC.2.1, keepf hb hC.1 hC.2.2.1, keepf hb hC.2.1 hC.2.2.2.1, keepc hb hC.2.2.2.2.1, keepc hb hC.2.2.2.2.2.1, keepc hb hC.2.2.2.2.2.2.1, keepc hb hC.2.2.2.2.2.2.2.1, keepc hb hC.2.2.2.2.2.2.2.2.1, keepc hb hC.2.2.2.2.2.2.2.2.2.1, keepf hb hC.2.2.2.2.1 hC.2.2.2.2.2.2.2.2.2.2.1, keepf hb hC.2.2.2.2.2.1 hC.2.2.2.2.2.2.2.2.2.2.2.1, keepb hb hC.2.2.2.2.2.2.2.2.2.2.2.2⟩
          simp only [Act.put, List.setIfInBounds_toArray, List.set_cons_zero, List.set_cons_succ]
          refine q_run (v := .bool false) (by rfl) ?_ ?_
          · (intro w1 hC; obtain ⟨c1, c2, c3, c4, c5, c6, c7, c8, c9, c10, c11, c12, c13⟩ := hC; go_simp; first | done | (simp; done) | (simp [*]; done) | (simp; omega) | rfl)
          simp only [Act.put, List.setIfInBounds_toArray, List.set_cons_zero, List.set_cons_succ]
          refine q_run (v := .bool false) (by rfl) ?_ ?_
          · (intro w1 hC; obtain ⟨c1, c2, c3, c4, c5, c6, c7, c8, c9, c10, c11, c12, c13⟩ := hC; go_simp; first | done | (simp; done) | (simp [*]; done) | (simp; omega) | rfl)
          simp only [Act.put, List.setIfInBounds_toArray, List.set_cons_zero, List.set_cons_succ]
          refine q_run (v := .agg #[.int .u64 (hI (stepW F)), .int .u64 (lI (stepW F))]) (by rfl) ?_ ?_
          · (intro w1 hC; obtain ⟨c1, c2, c3, c4, c5, c6, c7, c8, c9, c10, c11, c12, c13⟩ := hC; go_simp; first | done | (simp; done) | (simp [*]; done) | (simp; omega) | rfl)
          simp only [Act.put, List.setIfInBounds_toArray, List.set_cons_zero, List.set_cons_succ]
          refine q_run (v := .agg #[.int .u64 0, .int .u64 0]) (by rfl) ?_ ?_
          · (intro w1 hC; obtain ⟨c1, c2, c3, c4, c5, c6, c7, c8, c9, c10, c11, c12, c13⟩ := hC; go_simp; first | done | (simp; done) | (simp [*]; done) | (simp; omega) | rfl)
          simp only [Act.put, List.setIfInBounds_toArray, List.set_cons_zero, List.set_cons_succ]
          refine q_run (v := .int .i64 F) (by rfl) ?_ ?_
          · (intro w1 hC; obtain ⟨c1, c2, c3, c4, c5, c6, c7, c8, c9, c10, c11, c12, c13⟩ := hC; go_simp; first | done | (simp; done) | (simp [*]; done) | (simp; omega) | rfl)
          simp only [Act.put, List.setIfInBounds_toArray, List.set_cons_zero, List.set_cons_succ]
          refine q_run (v := .int .i64 (F - 1)) (by rfl) ?_ ?_
          · (intro w1 hC; obtain ⟨c1, c2, c3, c4, c5, c6, c7, c8, c9, c10, c11, c12, c13⟩ := hC; go_simp; first | done | (simp; done) | (simp [*]; done) | (simp; omega) | rfl)
          simp only [Act.put, List.setIfInBounds_toArray, List.set_cons_zero, List.set_cons_succ]
          refine q_call (v := .agg #[.int .u64 (hI (stepW F)), .int .u64 (lI (stepW F))]) (f := 15) (args := #[.agg #[.int .u64 0, .int .u64 0], .int .i64 (F - 1), .int .i64 1]) (by rfl) ?_ ?_ ?_
          · (intro w1 hC; obtain ⟨c1, c2, c3, c4, c5, c6, c7, c8, c9, c10, c11, c12, c13⟩ := hC; go_simp)
          · exact fun w1 hC => (KU w1).mono fun e w' ⟨he, hb⟩ => ⟨he, keepc hb hC.1, keepc hb hC.2.1, keepf hb hC.1 hC.2.2.1, keepf hb hC.2.1 hC.2.2.2.1, keepc hb hC.2.2.2.2.1, keepc hb hC.2.2.2.2.2.1, keepc hb hC.2.2.2.2.2.2.1, keepc hb hC.2.2.2.2.2.2.2.1, keepc hb hC.2.2.2.2.2.2.2.2.1, keepc hb hC.2.2.2.2.2.2.2.2.2.1, keepf hb hC.2.2.2.2.1 hC.2.2.2.2.2.2.2.2.2.2.1, keepf hb hC.2.2.2.2.2.1 hC.2.2.2.2.2.2.2.2.2.2.2.1, keepb hb hC.2.2.2.2.2.2.2.2.2.2.2.2⟩
          simp only [Act.put, List.setIfInBounds_toArray, List.set_cons_zero, List.set_cons_succ]
          refine q_run (v := .bool false) (by rfl) ?_ ?_
          · (intro w1 hC; obtain ⟨c1, c2, c3, c4, c5, c6, c7, c8, c9, c10, c11, c12, c13⟩ := hC; go_simp; first | done | (simp; done) | (simp [*]; done) | (simp; omega) | rfl)
          simp only [Act.put, List.setIfInBounds_toArray, List.set_cons_zero, List.set_cons_succ]
          refine q_run (v := .bool false) (by rfl) ?_ ?_
          · (intro w1 hC; obtain ⟨c1, c2, c3, c4, c5, c6, c7, c8, c9, c10, c11, c12, c13⟩ := hC; go_simp; first | done | (simp; done) | (simp [*]; done) | (simp; omega) | rfl)
          simp only [Act.put, List.setIfInBounds_toArray, List.set_cons_zero, List.set_cons_succ]
          refine wpQuiet_nil ?_
          intro wz hC
          obtain ⟨x0, x1, x2, x3, m0, m1, y0, y1, d0, d1, m2, m3, kB⟩ := hC
          have X : At wz W.heap.size a := ⟨x0, x1, x2, x3, cell_in x0⟩
          have M : At wz w.heap.size m := ⟨m0, m1, m2, m3, cell_in m0⟩
          clear m0 m1 m2 m3 d0 d1
          go_wp2
          go_roundw
          case rel => exact ⟨k + 1, by omega, by go_num, HR', HO', by rw [HBW.out]; exact X.set b, M.other _ _ (by omega), bset2 kB (by omega) _ _⟩
          case measure => simp [intOf]; omega
      · have hlt2 : ¬ (k : Int) < (N : Int) := by omega
        go_wp2
        go_loopw [14] (fun q wr => ∃ i : Nat, i ≤ k ∧ q = .int .i64 i ∧ At wr W.heap.size (walkW F m (k - i)) ∧ At wr w.heap.size m ∧ Below w.heap.size w wr) (fun q _ => k - (intOf q).toNat)
        case atStart => exact ⟨0, by omega, rfl, X, M, kB⟩
        case round =>
          clear X M kB
          obtain ⟨i, hi, rfl, X, M, kB⟩ := hrel
          have hXW := X.2.2.2.2
          by_cases hik : i < k
          · have hik2 : (i : Int) < (k : Int) := by omega
            obtain ⟨j, hj⟩ : ∃ j, Hid (k - i = j + 1) := ⟨k - i - 1, by show _ = _; omega⟩
            rw [hj.out] at X
            have hpn := prev_next F (walkW F m j) (HR.out j (by have := hj.out; omega)) (HO.out j (by have := hj.out; omega))
            have KP := fun w => aprev_any F (walkW F m j + stepW F) w
            rw [hpn.1, hpn.2] at KP
            have KP2 : ∀ w, Calls Try.prog 16 #[.int .i64 F, .agg #[.int .u64 (hI (walkW F m (j + 1))), .int .u64 (lI (walkW F m (j + 1)))]] w fun e w' => e = .returned (.tuple #[.agg #[.int .u64 (hI (walkW F m j)), .int .u64 (lI (walkW F m j))], .bool true]) ∧ Below w.heap.size w w' := KP
            have HJ : Hid (k - (i + 1) = j) := by show _ = _; have := hj.out; omega
            clear KP hpn hj
            generalize walkW F m (j + 1) = a at *
            obtain ⟨x0, x1, x2, x3, x4⟩ := id X
            go_wp2_with fail
            refine (KP2 _).mono ?_
            rintro e w5 ⟨rfl, hb5⟩
            clear KP2 x0 x1 x2 x3 x4
            have X' := (X.below hb5).below (bl1 _ (.cells #[.int .u64 (hI (walkW F m j)), .int .u64 (lI (walkW F m j))] 27))
            have M' := (M.below hb5).below (bl1 _ (.cells #[.int .u64 (hI (walkW F m j)), .int .u64 (lI (walkW F m j))] 27))
            have kB' := (keepb hb5 kB).alloc (keepb hb5 kB).size (.cells #[.int .u64 (hI (walkW F m j)), .int .u64 (lI (walkW F m j))] 27)
            have hs5 := hb5.size
            clear X M kB hb5
            obtain ⟨x0, x1, x2, x3, x4⟩ := id X'
            go_wp2
            go_roundw
            case rel => exact ⟨i + 1, by omega, by go_num, by rw [HJ.out]; exact X'.set _, M'.other _ _ (by omega), bset2 kB' (by omega) _ _⟩
            case measure => simp [intOf]; omega
          · have hik2 : ¬ (i : Int) < (k : Int) := by omega
            have e0 : k - i = 0 := by omega
            rw [e0] at X
            have X' : At wr W.heap.size m := X
            clear X e0
            have KP := fun w => aprev_any F 0#128 w
            rw [(prev_zero F hf).1, (prev_zero F hf).2, hI_zero, lI_zero] at KP
            have KL := fun w => alast_any F w
            unfold lastV lastE at KL
            rw [if_pos hf, if_pos hf] at KL
            go_wp2_with fail
            refine (KP _).mono ?_
            rintro e w5 ⟨rfl, hb5⟩
            clear KP
            have X2 := (X'.below hb5).below (bl1 _ (.cells #[.int .u64 0, .int .u64 0] 27))
            have M2 := (M.below hb5).below (bl1 _ (.cells #[.int .u64 0, .int .u64 0] 27))
            have kB2 := (keepb hb5 kB).alloc (keepb hb5 kB).size (.cells #[.int .u64 0, .int .u64 0] 27)
            clear X' M kB hb5
            go_wp2_with fail
            refine (KL _).mono ?_
            rintro e w6 ⟨rfl, hb6⟩
            clear KL
            have X3 := (X2.below hb6).below (bl1 _ (.cells #[.int .u64 (hI (maskW F)), .int .u64 (lI (maskW F))] 27))
            have M3 := (M2.below hb6).below (bl1 _ (.cells #[.int .u64 (hI (maskW F)), .int .u64 (lI (maskW F))] 27))
            have L3 := at_new w6 w6.heap.size (maskW F) 27 rfl
            have kB3 := ((keepb hb6 kB2).alloc (keepb hb6 kB2).size (.cells #[.int .u64 (hI (maskW F)), .int .u64 (lI (maskW F))] 27)).drew
            clear X2 M2 kB2 hb6
            obtain ⟨x0, x1, -, -, -⟩ := id X3
            obtain ⟨m0, m1, -, -, -⟩ := id M3
            obtain ⟨l0, l1, -, -, -⟩ := id L3
            go_wp2_with fail
            refine q_region (C := (fun w' => w'.cell? ⟨W.heap.size, 0, none⟩ = some (.int .u64 (hI m)) ∧ w'.cell? ⟨W.heap.size, 1, none⟩ = some (.int .u64 (lI m)) ∧ w'.cell? ⟨w.heap.size, 0, none⟩ = some (.int .u64 (hI m)) ∧ w'.cell? ⟨w.heap.size, 1, none⟩ = some (.int .u64 (lI m)) ∧ w'.cell? ⟨w6.heap.size, 0, none⟩ = some (.int .u64 (hI (maskW F))) ∧ w'.cell? ⟨w6.heap.size, 1, none⟩ = some (.int .u64 (lI (maskW F))) ∧ Below w.heap.size w w')) (by kernel_rfl) (by kernel_rfl) ⟨x0, x1, m0, m1, l0, l1, kB3⟩ ?_
            clear x0 x1 m0 m1 l0 l1 kB3 X3 M3 L3
            refine q_run (v := .agg #[.int .u64 (hI m), .int .u64 (lI m)]) (by rfl) ?_ ?_
            · (intro w1 hC; obtain ⟨c1, c2, c3, c4, c5, c6, c7⟩ := hC; go_simp; first | done | (simp; done) | (simp [*]; done) | (simp; omega) | rfl)
            simp only [Act.put, List.setIfInBounds_toArray, List.set_cons_zero, List.set_cons_succ]
            refine q_run (v := .agg #[.int .u64 (hI m), .int .u64 (lI m)]) (by rfl) ?_ ?_
            · (intro w1 hC; obtain ⟨c1, c2, c3, c4, c5, c6, c7⟩ := hC; go_simp; first | done | (simp; done) | (simp [*]; done) | (simp; omega) | rfl)
            simp only [Act.put, List.setIfInBounds_toArray, List.set_cons_zero, List.set_cons_succ]
            refine q_run (v := .bool true) (by rfl) ?_ ?_
            · (intro w1 hC; obtain ⟨c1, c2, c3, c4, c5, c6, c7⟩ := hC; go_simp; first | done | (simp; done) | (simp [*]; done) | (simp; omega) | rfl)
            simp only [Act.put, List.setIfInBounds_toArray, List.set_cons_zero, List.set_cons_succ]
            refine q_run (v := .bool true) (by rfl) ?_ ?_
            · (intro w1 hC; obtain ⟨c1, c2, c3, c4, c5, c6, c7⟩ := hC; go_simp; first | done | (simp; done) | (simp [*]; done) | (simp; omega) | rfl)
            simp only [Act.put, List.setIfInBounds_toArray, List.set_cons_zero, List.set_cons_succ]
            refine q_run (v := .bool false) (by rfl) ?_ ?_
            · (intro w1 hC; obtain ⟨c1, c2, c3, c4, c5, c6, c7⟩ := hC; go_simp; first | done | (simp; done) | (simp [*]; done) | (simp; omega) | rfl)
            simp only [Act.put, List.setIfInBounds_toArray, List.set_cons_zero, List.set_cons_succ]
            refine q_run (v := .bool true) (by rfl) ?_ ?_
            · (intro w1 hC; obtain ⟨c1, c2, c3, c4, c5, c6, c7⟩ := hC; go_simp; first | done | (simp; done) | (simp [*]; done) | (simp; omega) | rfl)
            simp only [Act.put, List.setIfInBounds_toArray, List.set_cons_zero, List.set_cons_succ]
            refine q_run (v := .bool true) (by rfl) ?_ ?_
            · (intro w1 hC; obtain ⟨c1, c2, c3, c4, c5, c6, c7⟩ := hC; go_simp; first | done | (simp; done) | (simp [*]; done) | (simp; omega) | rfl)
            simp only [Act.put, List.setIfInBounds_toArray, List.set_cons_zero, List.set_cons_succ]
            refine q_run (v := .bool true) (by rfl) ?_ ?_
            · (intro w1 hC; obtain ⟨c1, c2, c3, c4, c5, c6, c7⟩ := hC; go_simp; first | done | (simp; done) | (simp [*]; done) | (simp; omega) | rfl)
            simp only [Act.put, List.setIfInBounds_toArray, List.set_cons_zero, List.set_cons_succ]
            refine q_run (v := .int .i64 0) (by rfl) ?_ ?_
            · (intro w1 hC; obtain ⟨c1, c2, c3, c4, c5, c6, c7⟩ := hC; go_simp; first | done | (simp; done) | (simp [*]; done) | (simp; omega) | rfl)
            simp only [Act.put, List.setIfInBounds_toArray, List.set_cons_zero, List.set_cons_succ]
            refine q_run (v := .bool true) (by rfl) ?_ ?_
            · (intro w1 hC; obtain ⟨c1, c2, c3, c4, c5, c6, c7⟩ := hC; go_simp; first | done | (simp; done) | (simp [*]; done) | (simp; omega) | rfl)
            simp only [Act.put, List.setIfInBounds_toArray, List.set_cons_zero, List.set_cons_succ]
            refine q_run (v := .bool true) (by rfl) ?_ ?_
            · (intro w1 hC; obtain ⟨c1, c2, c3, c4, c5, c6, c7⟩ := hC; go_simp; first | done | (simp; done) | (simp [*]; done) | (simp; omega) | rfl)
            simp only [Act.put, List.setIfInBounds_toArray, List.set_cons_zero, List.set_cons_succ]
            refine q_run (v := .bool true) (by rfl) ?_ ?_
            · (intro w1 hC; obtain ⟨c1, c2, c3, c4, c5, c6, c7⟩ := hC; go_simp; first | done | (simp; done) | (simp [*]; done) | (simp; omega) | rfl)
            simp only [Act.put, List.setIfInBounds_toArray, List.set_cons_zero, List.set_cons_succ]
            refine q_run (v := .agg #[.int .u64 (hI (maskW F)), .int .u64 (lI (maskW F))]) (by rfl) ?_ ?_
            · (intro w1 hC; obtain ⟨c1, c2, c3, c4, c5, c6, c7⟩ := hC; go_simp; first | done | (simp; done) | (simp [*]; done) | (simp; omega) | rfl)
            simp only [Act.put, List.setIfInBounds_toArray, List.set_cons_zero, List.set_cons_succ]
            refine q_run (v := .int .i64 F) (by rfl) ?_ ?_
            · (intro w1 hC; obtain ⟨c1, c2, c3, c4, c5, c6, c7⟩ := hC; go_simp; first | done | (simp; done) | (simp [*]; done) | (simp; omega) | rfl)
            simp only [Act.put, List.setIfInBounds_toArray, List.set_cons_zero, List.set_cons_succ]
            refine q_call (v := .agg #[.int .u64 (hI (maskW F)), .int .u64 (lI (maskW F))]) (f := 11) (args := #[.int .i64 F]) (by rfl) ?_ ?_ ?_
            · (intro w1 hC; obtain ⟨c1, c2, c3, c4, c5, c6, c7⟩ := hC; go_simp)
            · exact fun w1 hC => (KM w1).mono fun e w' ⟨he, hb⟩ => ⟨he, keepc hb hC.1, keepc hb hC.2.1, keepc hb hC.2.2.1, keepc hb hC.2.2.2.1, keepc hb hC.2.2.2.2.1, keepc hb hC.2.2.2.2.2.1, keepb hb hC.2.2.2.2.2.2⟩
            simp only [Act.put, List.setIfInBounds_toArray, List.set_cons_zero, List.set_cons_succ]
            refine q_run (v := .bool true) (by rfl) ?_ ?_
            · (intro w1 hC; obtain ⟨c1, c2, c3, c4, c5, c6, c7⟩ := hC; go_simp; first | done | (simp; done) | (simp [*]; done) | (simp; omega) | rfl)
            simp only [Act.put, List.setIfInBounds_toArray, List.set_cons_zero, List.set_cons_succ]
            refine q_run (v := .bool true) (by rfl) ?_ ?_
            · (intro w1 hC; obtain ⟨c1, c2, c3, c4, c5, c6, c7⟩ := hC; go_simp; first | done | (simp; done) | (simp [*]; done) | (simp; omega) | rfl)
            simp only [Act.put, List.setIfInBounds_toArray, List.set_cons_zero, List.set_cons_succ]
            refine q_run (v := .bool true) (by rfl) ?_ ?_
            · (intro w1 hC; obtain ⟨c1, c2, c3, c4, c5, c6, c7⟩ := hC; go_simp; first | done | (simp; done) | (simp [*]; done) | (simp; omega) | rfl)
            simp only [Act.put, List.setIfInBounds_toArray, List.set_cons_zero, List.set_cons_succ]
            refine wpQuiet_nil ?_
            intro w9 hC
            obtain ⟨-, -, -, -, -, -, kB9⟩ := hC
            go_wp2
            go_ret
            exact ⟨rfl, kB9⟩
  go_region_with (first | (go_at_call 11; refine (KM _).mono ?_; rintro e w3 ⟨rfl, hb3⟩; have X2 : At w3 w.heap.size x := At.below (by first | exact X1.drew | exact X1) hb3; have kB2 : Below w.heap.size w w3 := keepb hb3 (by first | exact kB1.drew | exact kB1); obtain ⟨p0, p1, p2, p3, p4⟩ := id X2) | (go_at_call 10; refine (KA _).mono ?_; rintro e w4 ⟨rfl, hb4⟩; have X3 : At w4 w.heap.size x := At.below (by first | exact X2.drew | exact X2) hb4; have kB3 : Below w.heap.size w w4 := keepb hb4 (by first | exact kB2.drew | exact kB2); obtain ⟨r0, r1, r2, r3, r4⟩ := id X3))
  all_goals exact tail _ (X3.set m) (bset2 kB3 (Nat.le_refl _) _ _)
end Go.Proofs.Ytldjeabdoooihab
