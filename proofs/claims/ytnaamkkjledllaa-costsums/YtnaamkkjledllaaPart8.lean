/-
  Part 8 of the proof: 1 texts, one behind the other.
-/
import Derived.Test.YtnaamkkjledllaaPart7
import Derived.Laws.Bits64b
/-
  What the calls of the document's Mul of numbers of 192 bits do.
-/
namespace Go.Proofs.Ytnaamkkjledllaa
open Go.RowKit
set_option linter.unusedSimpArgs false
set_option linter.unusedVariables false

theorem and1n (a : Nat) (h : a < 18446744073709551616) : bits .and .u64 (a : Int) 1 = ((a % 2 : Nat) : Int) := by
  have e := bits_and_u64_nat a 1 h (by omega)
  rw [show a &&& 1 = a % 2 from Nat.and_two_pow_sub_one_eq_mod a 1] at e
  exact e
/-- Three numbers in memory: what is multiplied, the result, what is reckoned so far. -/
def E3 (w : World) (x0 x1 x2 c0 c1 c2 : Int) (W : World) : Prop := AtC W w.heap.size x0 x1 x2 ∧ AtC W (w.heap.size + 1) 0 0 0 ∧ AtC W (w.heap.size + 1 + 1) c0 c1 c2 ∧ Below w.heap.size w W
theorem E3.below {w W W' : World} {x0 x1 x2 c0 c1 c2 : Int} (h : E3 w x0 x1 x2 c0 c1 c2 W) (hb : Below W.heap.size W W') : E3 w x0 x1 x2 c0 c1 c2 W' := ⟨h.1.below hb, h.2.1.below hb, h.2.2.1.below hb, keepb hb h.2.2.2⟩
theorem E3.set {w W : World} {x0 x1 x2 c0 c1 c2 : Int} (h : E3 w x0 x1 x2 c0 c1 c2 W) (a b c : Int) : E3 w x0 x1 x2 a b c (((W.setCell ⟨w.heap.size + 1 + 1, 0, none⟩ (.int .u64 a)).setCell ⟨w.heap.size + 1 + 1, 1, none⟩ (.int .u64 b)).setCell ⟨w.heap.size + 1 + 1, 2, none⟩ (.int .u64 c)) :=
  ⟨((h.1.oth0 (by omega) a).oth1 (by omega) b).oth2 (by omega) c, ((h.2.1.oth0 (by omega) a).oth1 (by omega) b).oth2 (by omega) c, h.2.2.1.set a b c, bset3c h.2.2.2 (by omega) _ _ _⟩
theorem half_mul (N n i : Nat) : N * (n / 2 ^ i) = N * (n / 2 ^ (i + 1)) + N * (n / 2 ^ (i + 1)) + N * (n / 2 ^ i % 2) := by
  have e : n / 2 ^ i = n / 2 ^ (i + 1) + n / 2 ^ (i + 1) + n / 2 ^ i % 2 := by
    rw [Nat.pow_succ, ← Nat.div_div_eq_div_mul]; omega
  conv => lhs; rw [e]
  rw [Nat.mul_add, Nat.mul_add]
theorem part_mul (N n i : Nat) : N * (n / 2 ^ i) ≤ N * n := Nat.mul_le_mul_left _ (Nat.div_le_self _ _)
set_option maxRecDepth 20000 in
set_option maxHeartbeats 8000000 in
theorem rmul9_any (N n : Nat) (w : World) (hN : N < 6277101735386680763835789423207666416102355444464034512896) (hn : n < 18446744073709551616) :
    Calls Try.prog 13 #[costV N, .int .u64 (n : Int)] w fun e w' => e = .returned (.tuple #[costV (fitN (N * n)), .int .i64 (fitE9 (N * n))]) ∧ Below w.heap.size w w' := by
  have HF : Hid (¬ N * n < 6277101735386680763835789423207666416102355444464034512896 → costV (fitN (N * n)) = .agg #[.int .u64 0, .int .u64 0, .int .u64 0] ∧ fitE9 (N * n) = 6) := fun h => ⟨by rw [(fit_out h).1, costV_zero], (fit_out h).2⟩
  have HG : Hid (N * n < 6277101735386680763835789423207666416102355444464034512896 → costV (fitN (N * n)) = .agg #[.int .u64 (cost0 (N * n)), .int .u64 (cost1 (N * n)), .int .u64 (cost2 (N * n))] ∧ fitE9 (N * n) = 0) := fun h => ⟨by rw [(fit_in h).1]; rfl, (fit_in h).2⟩
  have KA := fun (C : Nat) (hC : C < 6277101735386680763835789423207666416102355444464034512896) w => raddc_any C C w hC hC
  have KB := fun (C : Nat) (hC : C < 6277101735386680763835789423207666416102355444464034512896) w => raddc_any C N w hC hN
  have HK := hid9 (And.intro KA KB)
  clear KA KB
  have HX : Hid (∀ C, costV C = .agg #[.int .u64 (cost0 C), .int .u64 (cost1 C), .int .u64 (cost2 C)]) := fun _ => rfl
  have H0 : Hid (E3 w (cost0 N) (cost1 N) (cost2 N) 0 0 0 (((w.alloc (.cells #[.int .u64 (cost0 N), .int .u64 (cost1 N), .int .u64 (cost2 N)] 24)).alloc (.cells #[.int .u64 0, .int .u64 0, .int .u64 0] 24)).alloc (.cells #[.int .u64 0, .int .u64 0, .int .u64 0] 24))) := by
    have h2 := E2.start w (cost0 N) (cost1 N) (cost2 N) 0 0 0 24
    generalize hw2 : (w.alloc (.cells #[.int .u64 (cost0 N), .int .u64 (cost1 N), .int .u64 (cost2 N)] 24)).alloc (.cells #[.int .u64 0, .int .u64 0, .int .u64 0] 24) = w2 at *
    have z2 : w.heap.size + 1 + 1 = w2.heap.size := by rw [← hw2]; simp
    have p3 := bl1 w2 (.cells #[.int .u64 0, .int .u64 0, .int .u64 0] 24)
    exact ⟨h2.1.below p3, h2.2.1.below p3, atc_new w2 (w.heap.size + 1 + 1) 0 0 0 24 z2, keepb p3 h2.2.2⟩
  generalize hV : costV (fitN (N * n)) = V at *
  generalize hE : fitE9 (N * n) = E at *
  clear hV hE
  rw [HX.out N]
  go_enter Try.func13, Try.ntmps13
  go_wp2_with fail
  go_loopw [8] (fun i wr => ∃ j : Nat, j ≤ 64 ∧ i = .int .i64 ((j : Int) - 1) ∧ N * (n / 2 ^ j) < 6277101735386680763835789423207666416102355444464034512896 ∧ Hid (E3 w (cost0 N) (cost1 N) (cost2 N) (cost0 (N * (n / 2 ^ j))) (cost1 (N * (n / 2 ^ j))) (cost2 (N * (n / 2 ^ j))) wr)) (fun i _ => (intOf i + 1).toNat)
  case atStart =>
    have e : N * (n / 2 ^ 64) = 0 := by rw [Nat.div_eq_of_lt hn, Nat.mul_zero]
    refine ⟨64, by omega, rfl, by rw [e]; decide, ?_⟩
    show E3 _ _ _ _ _ _ _ _
    rw [e, cost_zero.1, cost_zero.2.1, cost_zero.2.2]
    exact H0.out
  case round =>
    clear H0
    obtain ⟨j, hj, rfl, hC, HE⟩ := hrel
    cases j with
    | zero =>
      rw [Nat.pow_zero, Nat.div_one] at hC HE
      obtain ⟨hV, hE⟩ := HG.out hC
      have HVE := hid9 (And.intro hV hE)
      have kE := bset3c HE.out.2.2.2 (show w.heap.size ≤ w.heap.size + 1 by omega) (.int .u64 (cost0 (N * n))) (.int .u64 (cost1 (N * n))) (.int .u64 (cost2 (N * n)))
      obtain ⟨u0, u1, u2, -, -, -⟩ := HE.out.2.1.set (cost0 (N * n)) (cost1 (N * n)) (cost2 (N * n))
      obtain ⟨-, ⟨r0, r1, r2, r3, r4, r5⟩, ⟨c0, c1, c2, -, -, -⟩, -⟩ := HE.out
      have Hk := hid9 kE
      have Hv := hid9 (And.intro u0 (And.intro u1 u2))
      clear kE u0 u1 u2 HE hV hE HF HG HK HX hC
      generalize cost0 (N * n) = t0 at *
      generalize cost1 (N * n) = t1 at *
      generalize cost2 (N * n) = t2 at *
      go_wp2
      obtain ⟨u0, u1, u2⟩ := Hv.out
      exact bodyPost_ret (v := .tuple #[.agg #[.int .u64 t0, .int .u64 t1, .int .u64 t2], .int .i64 0]) (by simp [results, Try.results13, go_sem, u0, u1, u2]) rfl ⟨by rw [HVE.out.1, HVE.out.2], Hk.out⟩
    | succ j =>
      have hcast : (((j + 1 : Nat) : Int) - 1) = (j : Int) := by omega
      rw [hcast]
      have hge : decide ((0 : Int) ≤ (j : Int)) = true := by simp
      have hsub : IntKind.i64.wrap ((j : Int) - 1) = (j : Int) - 1 := by rw [IntKind.wrap_i64]; omega
      have hdm := half_mul N n j
      have hpm := part_mul N n j
      have hM : (intOf (.int .i64 ((j : Int) - 1)) + 1).toNat < (intOf (.int .i64 (((j + 1 : Nat) : Int) - 1)) + 1).toNat := by simp only [intOf]; omega
      have HM := hid9 hM
      clear hM hcast
      have hsh : (n : Int) / 2 ^ j = ((n / 2 ^ j : Nat) : Int) := by simp
      have han := and1n (n / 2 ^ j) (Nat.lt_of_le_of_lt (Nat.div_le_self _ _) hn)
      have hj63 : (j : Int) < 64 := by omega
      have KA := HK.out.1 _ hC
      rw [HX.out (N * (n / 2 ^ (j + 1)))] at KA
      by_cases c1 : N * (n / 2 ^ (j + 1)) + N * (n / 2 ^ (j + 1)) < 6277101735386680763835789423207666416102355444464034512896
      · rw [(fit_in c1).1, (fit_in c1).2] at KA
        have hC2 : Hid (N * (n / 2 ^ (j + 1)) + N * (n / 2 ^ (j + 1)) < 6277101735386680763835789423207666416102355444464034512896) := c1
        have KB := HK.out.2 _ c1
        generalize N * (n / 2 ^ (j + 1)) + N * (n / 2 ^ (j + 1)) = D at *
        rw [HX.out D] at KA KB
        rw [HX.out N] at KB
        have hbit : n / 2 ^ j % 2 = 0 ∨ n / 2 ^ j % 2 = 1 := by omega
        have HE0 := HE
        generalize cost0 (N * (n / 2 ^ (j + 1))) = a0 at *
        generalize cost1 (N * (n / 2 ^ (j + 1))) = a1 at *
        generalize cost2 (N * (n / 2 ^ (j + 1))) = a2 at *
        rcases hbit with hb0 | hb1
        · rw [hb0, Nat.mul_zero, Nat.add_zero] at hdm
          rw [hb0] at han
          have HD : Hid (N * (n / 2 ^ j) = D) := hdm
          clear hdm hpm KB hC c1
          rw [show ((0 : Nat) : Int) = 0 from rfl] at han
          generalize ((n / 2 ^ j : Nat) : Int) = nj at *
          generalize hd0 : cost0 D = d0 at *
          generalize hd1 : cost1 D = d1 at *
          generalize hd2 : cost2 D = d2 at *
          have HDv := hid9 (And.intro hd0 (And.intro hd1 hd2))
          clear hd0 hd1 hd2
          obtain ⟨-, -, ⟨c0, c1, c2, -, -, -⟩, -⟩ := HE.out
          go_wp2_with fail
          refine (KA _).mono ?_
          rintro e w1 ⟨rfl, hb⟩
          have HE1 := hid9 (HE.out.below hb)
          have HE2 := hid9 (HE1.out.set d0 d1 d2)
          clear HE HE0 hb KA c0 c1 c2
          obtain ⟨-, -, ⟨c0, c1, c2, f0, f1, f2⟩, -⟩ := HE1.out
          clear HE1
          go_wp2
          go_roundw
          case rel =>
            refine ⟨j, by omega, rfl, by rw [HD.out]; exact hC2.out, ?_⟩
            show E3 _ _ _ _ _ _ _ _
            rw [HD.out, HDv.out.1, HDv.out.2.1, HDv.out.2.2]
            exact HE2.out
          case measure => simpa using HM.out
        · rw [hb1, Nat.mul_one] at hdm
          rw [hb1] at han
          rw [show ((1 : Nat) : Int) = 1 from rfl] at han
          have HDx : Hid (N * (n / 2 ^ j) = D + N) := hdm
          by_cases c2 : D + N < 6277101735386680763835789423207666416102355444464034512896
          · rw [(fit_in c2).1, (fit_in c2).2] at KB
            have HD : Hid (N * (n / 2 ^ j) = D + N ∧ D + N < 6277101735386680763835789423207666416102355444464034512896) := ⟨hdm, c2⟩
            rw [HX.out (D + N)] at KB
            clear hdm hpm hC c1 c2 HDx
            generalize ((n / 2 ^ j : Nat) : Int) = nj at *
            generalize hd0 : cost0 (D + N) = d0 at *
            generalize hd1 : cost1 (D + N) = d1 at *
            generalize hd2 : cost2 (D + N) = d2 at *
            have HDv := hid9 (And.intro hd0 (And.intro hd1 hd2))
            clear hd0 hd1 hd2
            generalize cost0 D = b0 at *
            generalize cost1 D = b1 at *
            generalize cost2 D = b2 at *
            obtain ⟨-, -, ⟨c0, c1, c2, -, -, -⟩, -⟩ := HE.out
            go_wp2_with fail
            refine (KA _).mono ?_
            rintro e w1 ⟨rfl, hb⟩
            have HE1 := hid9 (HE.out.below hb)
            have HE2 := hid9 (HE1.out.set b0 b1 b2)
            clear HE HE0 hb KA c0 c1 c2
            obtain ⟨-, -, ⟨c0, c1, c2, f0, f1, f2⟩, -⟩ := HE1.out
            obtain ⟨⟨g0, g1, g2, -, -, -⟩, -, ⟨q0, q1, q2, -, -, -⟩, -⟩ := HE2.out
            clear HE1
            go_wp2_with fail
            refine (KB _).mono ?_
            rintro e w2 ⟨rfl, hb⟩
            have HE3 := hid9 (HE2.out.below hb)
            have HE4 := hid9 (HE3.out.set d0 d1 d2)
            clear HE2 hb KB c0 c1 c2 f0 f1 f2 g0 g1 g2 q0 q1 q2
            obtain ⟨-, -, ⟨c0, c1, c2, f0, f1, f2⟩, -⟩ := HE3.out
            clear HE3
            go_wp2
            go_roundw
            case rel =>
              refine ⟨j, by omega, rfl, by rw [HD.out.1]; exact HD.out.2, ?_⟩
              show E3 _ _ _ _ _ _ _ _
              rw [HD.out.1, HDv.out.1, HDv.out.2.1, HDv.out.2.2]
              exact HE4.out
            case measure => simpa using HM.out
          · rw [(fit_out c2).1, (fit_out c2).2, costV_zero] at KB
            obtain ⟨hV, hE⟩ := HF.out (by omega)
            have HVE := hid9 (And.intro hV hE)
            clear hdm hpm hC c1 c2 HDx hV hE HF HG
            generalize ((n / 2 ^ j : Nat) : Int) = nj at *
            generalize cost0 D = b0 at *
            generalize cost1 D = b1 at *
            generalize cost2 D = b2 at *
            obtain ⟨-, -, ⟨c0, c1, c2, -, -, -⟩, -⟩ := HE.out
            go_wp2_with fail
            refine (KA _).mono ?_
            rintro e w1 ⟨rfl, hb⟩
            have HE1 := hid9 (HE.out.below hb)
            have HE2 := hid9 (HE1.out.set b0 b1 b2)
            clear HE HE0 hb KA c0 c1 c2
            obtain ⟨-, -, ⟨c0, c1, c2, f0, f1, f2⟩, -⟩ := HE1.out
            obtain ⟨⟨g0, g1, g2, -, -, -⟩, -, ⟨q0, q1, q2, -, -, -⟩, -⟩ := HE2.out
            clear HE1
            go_wp2_with fail
            refine (KB _).mono ?_
            rintro e w2 ⟨rfl, hb⟩
            have HE3 := hid9 (HE2.out.below hb)
            have HE4 := hid9 (HE3.out.set 0 0 0)
            clear HE2 hb KB c0 c1 c2 f0 f1 f2 g0 g1 g2 q0 q1 q2
            obtain ⟨-, -, ⟨c0, c1, c2, f0, f1, f2⟩, -⟩ := HE3.out
            clear HE3
            have kE := hid9 (bset3c HE4.out.2.2.2 (show w.heap.size ≤ w.heap.size + 1 by omega) (.int .u64 0) (.int .u64 0) (.int .u64 0))
            have Hv := hid9 (HE4.out.2.1.set 0 0 0)
            obtain ⟨-, ⟨r0, r1, r2, r3, r4, r5⟩, -, -⟩ := HE4.out
            clear HE4
            go_wp2
            obtain ⟨u0, u1, u2, -, -, -⟩ := Hv.out
            exact bodyPost_ret (v := .tuple #[.agg #[.int .u64 0, .int .u64 0, .int .u64 0], .int .i64 6]) (by simp [results, Try.results13, go_sem, u0, u1, u2]) rfl ⟨by rw [HVE.out.1, HVE.out.2], kE.out⟩
      · rw [(fit_out c1).1, (fit_out c1).2, costV_zero] at KA
        obtain ⟨hV, hE⟩ := HF.out (by omega)
        have HVE := hid9 (And.intro hV hE)
        clear hdm hpm hC c1 hV hE HF HG
        generalize ((n / 2 ^ j : Nat) : Int) = nj at *
        generalize cost0 (N * (n / 2 ^ (j + 1))) = a0 at *
        generalize cost1 (N * (n / 2 ^ (j + 1))) = a1 at *
        generalize cost2 (N * (n / 2 ^ (j + 1))) = a2 at *
        obtain ⟨-, -, ⟨c0, c1, c2, -, -, -⟩, -⟩ := HE.out
        go_wp2_with fail
        refine (KA _).mono ?_
        rintro e w1 ⟨rfl, hb⟩
        have HE1 := hid9 (HE.out.below hb)
        have HE2 := hid9 (HE1.out.set 0 0 0)
        clear HE hb KA c0 c1 c2
        obtain ⟨-, -, ⟨c0, c1, c2, f0, f1, f2⟩, -⟩ := HE1.out
        have kE := hid9 (bset3c HE2.out.2.2.2 (show w.heap.size ≤ w.heap.size + 1 by omega) (.int .u64 0) (.int .u64 0) (.int .u64 0))
        have Hv := hid9 (HE2.out.2.1.set 0 0 0)
        obtain ⟨-, ⟨r0, r1, r2, r3, r4, r5⟩, -, -⟩ := HE2.out
        clear HE1 HE2
        go_wp2
        obtain ⟨u0, u1, u2, -, -, -⟩ := Hv.out
        exact bodyPost_ret (v := .tuple #[.agg #[.int .u64 0, .int .u64 0, .int .u64 0], .int .i64 6]) (by simp [results, Try.results13, go_sem, u0, u1, u2]) rfl ⟨by rw [HVE.out.1, HVE.out.2], kE.out⟩
end Go.Proofs.Ytnaamkkjledllaa
