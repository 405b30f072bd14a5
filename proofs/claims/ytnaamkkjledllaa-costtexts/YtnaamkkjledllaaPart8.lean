/-
  Part 8 of the proof: 3 texts, one behind the other.
-/
import Derived.Test.YtnaamkkjledllaaPart7
import Derived.Laws.Bits64b
import Derived.Test.YtnaamkkjledllaaPart5
import Derived.Laws.IdiomStrings
import Derived.Lib.Strings
/-
  What the calls of the document's Mul of numbers of 192 bits do.
-/
namespace Go.Proofs.Ytnaamkkjledllaa
open Go.RowKit
set_option linter.unusedSimpArgs false
set_option linter.unusedVariables false

theorem and1n (a : Nat) (h : a < 18446744073709551616) : bits .and .u64 (a : Int) 1 = ((a % 2 : Nat) : Int) := by
  have e := bits_and_u64_nat a 1 h (by omega)
  rw [show a &&& 1 = a % 2 from Nat.and_two_pow_sub_one_eq_mod a 1] at e
  exact e
/-- Three numbers in memory: what is multiplied, the result, what is reckoned so far. -/
def E3 (w : World) (x0 x1 x2 c0 c1 c2 : Int) (W : World) : Prop := AtC W w.heap.size x0 x1 x2 ∧ AtC W (w.heap.size + 1) 0 0 0 ∧ AtC W (w.heap.size + 1 + 1) c0 c1 c2 ∧ Below w.heap.size w W
theorem E3.below {w W W' : World} {x0 x1 x2 c0 c1 c2 : Int} (h : E3 w x0 x1 x2 c0 c1 c2 W) (hb : Below W.heap.size W W') : E3 w x0 x1 x2 c0 c1 c2 W' := ⟨h.1.below hb, h.2.1.below hb, h.2.2.1.below hb, keepb hb h.2.2.2⟩
theorem E3.set {w W : World} {x0 x1 x2 c0 c1 c2 : Int} (h : E3 w x0 x1 x2 c0 c1 c2 W) (a b c : Int) : E3 w x0 x1 x2 a b c (((W.setCell ⟨w.heap.size + 1 + 1, 0, none⟩ (.int .u64 a)).setCell ⟨w.heap.size + 1 + 1, 1, none⟩ (.int .u64 b)).setCell ⟨w.heap.size + 1 + 1, 2, none⟩ (.int .u64 c)) :=
  ⟨((h.1.oth0 (by omega) a).oth1 (by omega) b).oth2 (by omega) c, ((h.2.1.oth0 (by omega) a).oth1 (by omega) b).oth2 (by omega) c, h.2.2.1.set a b c, bset3c h.2.2.2 (by omega) _ _ _⟩
theorem half_mul (N n i : Nat) : N * (n / 2 ^ i) = N * (n / 2 ^ (i + 1)) + N * (n / 2 ^ (i + 1)) + N * (n / 2 ^ i % 2) := by
  have e : n / 2 ^ i = n / 2 ^ (i + 1) + n / 2 ^ (i + 1) + n / 2 ^ i % 2 := by
    rw [Nat.pow_succ, ← Nat.div_div_eq_div_mul]; omega
  conv => lhs; rw [e]
  rw [Nat.mul_add, Nat.mul_add]
theorem part_mul (N n i : Nat) : N * (n / 2 ^ i) ≤ N * n := Nat.mul_le_mul_left _ (Nat.div_le_self _ _)
set_option maxRecDepth 20000 in
set_option maxHeartbeats 8000000 in
theorem rmul9_any (N n : Nat) (w : World) (hN : N < 6277101735386680763835789423207666416102355444464034512896) (hn : n < 18446744073709551616) :
    Calls Try.prog 13 #[costV N, .int .u64 (n : Int)] w fun e w' => e = .returned (.tuple #[costV (fitN (N * n)), .int .i64 (fitE9 (N * n))]) ∧ Below w.heap.size w w' := by
  have HF : Hid (¬ N * n < 6277101735386680763835789423207666416102355444464034512896 → costV (fitN (N * n)) = .agg #[.int .u64 0, .int .u64 0, .int .u64 0] ∧ fitE9 (N * n) = 6) := fun h => ⟨by rw [(fit_out h).1, costV_zero], (fit_out h).2⟩
  have HG : Hid (N * n < 6277101735386680763835789423207666416102355444464034512896 → costV (fitN (N * n)) = .agg #[.int .u64 (cost0 (N * n)), .int .u64 (cost1 (N * n)), .int .u64 (cost2 (N * n))] ∧ fitE9 (N * n) = 0) := fun h => ⟨by rw [(fit_in h).1]; rfl, (fit_in h).2⟩
  have KA := fun (C : Nat) (hC : C < 6277101735386680763835789423207666416102355444464034512896) w => raddc_any C C w hC hC
  have KB := fun (C : Nat) (hC : C < 6277101735386680763835789423207666416102355444464034512896) w => raddc_any C N w hC hN
  have HK := hid9 (And.intro KA KB)
  clear KA KB
  have HX : Hid (∀ C, costV C = .agg #[.int .u64 (cost0 C), .int .u64 (cost1 C), .int .u64 (cost2 C)]) := fun _ => rfl
  have H0 : Hid (E3 w (cost0 N) (cost1 N) (cost2 N) 0 0 0 (((w.alloc (.cells #[.int .u64 (cost0 N), .int .u64 (cost1 N), .int .u64 (cost2 N)] 24)).alloc (.cells #[.int .u64 0, .int .u64 0, .int .u64 0] 24)).alloc (.cells #[.int .u64 0, .int .u64 0, .int .u64 0] 24))) := by
    have h2 := E2.start w (cost0 N) (cost1 N) (cost2 N) 0 0 0 24
    generalize hw2 : (w.alloc (.cells #[.int .u64 (cost0 N), .int .u64 (cost1 N), .int .u64 (cost2 N)] 24)).alloc (.cells #[.int .u64 0, .int .u64 0, .int .u64 0] 24) = w2 at *
    have z2 : w.heap.size + 1 + 1 = w2.heap.size := by rw [← hw2]; simp
    have p3 := bl1 w2 (.cells #[.int .u64 0, .int .u64 0, .int .u64 0] 24)
    exact ⟨h2.1.below p3, h2.2.1.below p3, atc_new w2 (w.heap.size + 1 + 1) 0 0 0 24 z2, keepb p3 h2.2.2⟩
  generalize hV : costV (fitN (N * n)) = V at *
  generalize hE : fitE9 (N * n) = E at *
  clear hV hE
  rw [HX.out N]
  go_enter Try.func13, Try.ntmps13
  go_wp2_with fail
  go_loopw [8] (fun i wr => ∃ j : Nat, j ≤ 64 ∧ i = .int .i64 ((j : Int) - 1) ∧ N * (n / 2 ^ j) < 6277101735386680763835789423207666416102355444464034512896 ∧ Hid (E3 w (cost0 N) (cost1 N) (cost2 N) (cost0 (N * (n / 2 ^ j))) (cost1 (N * (n / 2 ^ j))) (cost2 (N * (n / 2 ^ j))) wr)) (fun i _ => (intOf i + 1).toNat)
  case atStart =>
    have e : N * (n / 2 ^ 64) = 0 := by rw [Nat.div_eq_of_lt hn, Nat.mul_zero]
    refine ⟨64, by omega, rfl, by rw [e]; decide, ?_⟩
    show E3 _ _ _ _ _ _ _ _
    rw [e, cost_zero.1, cost_zero.2.1, cost_zero.2.2]
    exact H0.out
  case round =>
    clear H0
    obtain ⟨j, hj, rfl, hC, HE⟩ := hrel
    cases j with
    | zero =>
      rw [Nat.pow_zero, Nat.div_one] at hC HE
      obtain ⟨hV, hE⟩ := HG.out hC
      have HVE := hid9 (And.intro hV hE)
      have kE := bset3c HE.out.2.2.2 (show w.heap.size ≤ w.heap.size + 1 by omega) (.int .u64 (cost0 (N * n))) (.int .u64 (cost1 (N * n))) (.int .u64 (cost2 (N * n)))
      obtain ⟨u0, u1, u2, -, -, -⟩ := HE.out.2.1.set (cost0 (N * n)) (cost1 (N * n)) (cost2 (N * n))
      obtain ⟨-, ⟨r0, r1, r2, r3, r4, r5⟩, ⟨c0, c1, c2, -, -, -⟩, -⟩ := HE.out
      have Hk := hid9 kE
      have Hv := hid9 (And.intro u0 (And.intro u1 u2))
      clear kE u0 u1 u2 HE hV hE HF HG HK HX hC
      generalize cost0 (N * n) = t0 at *
      generalize cost1 (N * n) = t1 at *
      generalize cost2 (N * n) = t2 at *
      go_wp2
      obtain ⟨u0, u1, u2⟩ := Hv.out
      exact bodyPost_ret (v := .tuple #[.agg #[.int .u64 t0, .int .u64 t1, .int .u64 t2], .int .i64 0]) (by simp [results, Try.results13, go_sem, u0, u1, u2]) rfl ⟨by rw [HVE.out.1, HVE.out.2], Hk.out⟩
    | succ j =>
      have hcast : (((j + 1 : Nat) : Int) - 1) = (j : Int) := by omega
      rw [hcast]
      have hge : decide ((0 : Int) ≤ (j : Int)) = true := by simp
      have hsub : IntKind.i64.wrap ((j : Int) - 1) = (j : Int) - 1 := by rw [IntKind.wrap_i64]; omega
      have hdm := half_mul N n j
      have hpm := part_mul N n j
      have hM : (intOf (.int .i64 ((j : Int) - 1)) + 1).toNat < (intOf (.int .i64 (((j + 1 : Nat) : Int) - 1)) + 1).toNat := by simp only [intOf]; omega
      have HM := hid9 hM
      clear hM hcast
      have hsh : (n : Int) / 2 ^ j = ((n / 2 ^ j : Nat) : Int) := by simp
      have han := and1n (n / 2 ^ j) (Nat.lt_of_le_of_lt (Nat.div_le_self _ _) hn)
      have hj63 : (j : Int) < 64 := by omega
      have KA := HK.out.1 _ hC
      rw [HX.out (N * (n / 2 ^ (j + 1)))] at KA
      by_cases c1 : N * (n / 2 ^ (j + 1)) + N * (n / 2 ^ (j + 1)) < 6277101735386680763835789423207666416102355444464034512896
      · rw [(fit_in c1).1, (fit_in c1).2] at KA
        have hC2 : Hid (N * (n / 2 ^ (j + 1)) + N * (n / 2 ^ (j + 1)) < 6277101735386680763835789423207666416102355444464034512896) := c1
        have KB := HK.out.2 _ c1
        generalize N * (n / 2 ^ (j + 1)) + N * (n / 2 ^ (j + 1)) = D at *
        rw [HX.out D] at KA KB
        rw [HX.out N] at KB
        have hbit : n / 2 ^ j % 2 = 0 ∨ n / 2 ^ j % 2 = 1 := by omega
        have HE0 := HE
        generalize cost0 (N * (n / 2 ^ (j + 1))) = a0 at *
        generalize cost1 (N * (n / 2 ^ (j + 1))) = a1 at *
        generalize cost2 (N * (n / 2 ^ (j + 1))) = a2 at *
        rcases hbit with hb0 | hb1
        · rw [hb0, Nat.mul_zero, Nat.add_zero] at hdm
          rw [hb0] at han
          have HD : Hid (N * (n / 2 ^ j) = D) := hdm
          clear hdm hpm KB hC c1
          rw [show ((0 : Nat) : Int) = 0 from rfl] at han
          generalize ((n / 2 ^ j : Nat) : Int) = nj at *
          generalize hd0 : cost0 D = d0 at *
          generalize hd1 : cost1 D = d1 at *
          generalize hd2 : cost2 D = d2 at *
          have HDv := hid9 (And.intro hd0 (And.intro hd1 hd2))
          clear hd0 hd1 hd2
          obtain ⟨-, -, ⟨c0, c1, c2, -, -, -⟩, -⟩ := HE.out
          go_wp2_with fail
          refine (KA _).mono ?_
          rintro e w1 ⟨rfl, hb⟩
          have HE1 := hid9 (HE.out.below hb)
          have HE2 := hid9 (HE1.out.set d0 d1 d2)
          clear HE HE0 hb KA c0 c1 c2
          obtain ⟨-, -, ⟨c0, c1, c2, f0, f1, f2⟩, -⟩ := HE1.out
          clear HE1
          go_wp2
          go_roundw
          case rel =>
            refine ⟨j, by omega, rfl, by rw [HD.out]; exact hC2.out, ?_⟩
            show E3 _ _ _ _ _ _ _ _
            rw [HD.out, HDv.out.1, HDv.out.2.1, HDv.out.2.2]
            exact HE2.out
          case measure => simpa using HM.out
        · rw [hb1, Nat.mul_one] at hdm
          rw [hb1] at han
          rw [show ((1 : Nat) : Int) = 1 from rfl] at han
          have HDx : Hid (N * (n / 2 ^ j) = D + N) := hdm
          by_cases c2 : D + N < 6277101735386680763835789423207666416102355444464034512896
          · rw [(fit_in c2).1, (fit_in c2).2] at KB
            have HD : Hid (N * (n / 2 ^ j) = D + N ∧ D + N < 6277101735386680763835789423207666416102355444464034512896) := ⟨hdm, c2⟩
            rw [HX.out (D + N)] at KB
            clear hdm hpm hC c1 c2 HDx
            generalize ((n / 2 ^ j : Nat) : Int) = nj at *
            generalize hd0 : cost0 (D + N) = d0 at *
            generalize hd1 : cost1 (D + N) = d1 at *
            generalize hd2 : cost2 (D + N) = d2 at *
            have HDv := hid9 (And.intro hd0 (And.intro hd1 hd2))
            clear hd0 hd1 hd2
            generalize cost0 D = b0 at *
            generalize cost1 D = b1 at *
            generalize cost2 D = b2 at *
            obtain ⟨-, -, ⟨c0, c1, c2, -, -, -⟩, -⟩ := HE.out
            go_wp2_with fail
            refine (KA _).mono ?_
            rintro e w1 ⟨rfl, hb⟩
            have HE1 := hid9 (HE.out.below hb)
            have HE2 := hid9 (HE1.out.set b0 b1 b2)
            clear HE HE0 hb KA c0 c1 c2
            obtain ⟨-, -, ⟨c0, c1, c2, f0, f1, f2⟩, -⟩ := HE1.out
            obtain ⟨⟨g0, g1, g2, -, -, -⟩, -, ⟨q0, q1, q2, -, -, -⟩, -⟩ := HE2.out
            clear HE1
            go_wp2_with fail
            refine (KB _).mono ?_
            rintro e w2 ⟨rfl, hb⟩
            have HE3 := hid9 (HE2.out.below hb)
            have HE4 := hid9 (HE3.out.set d0 d1 d2)
            clear HE2 hb KB c0 c1 c2 f0 f1 f2 g0 g1 g2 q0 q1 q2
            obtain ⟨-, -, ⟨c0, c1, c2, f0, f1, f2⟩, -⟩ := HE3.out
            clear HE3
            go_wp2
            go_roundw
            case rel =>
              refine ⟨j, by omega, rfl, by rw [HD.out.1]; exact HD.out.2, ?_⟩
              show E3 _ _ _ _ _ _ _ _
              rw [HD.out.1, HDv.out.1, HDv.out.2.1, HDv.out.2.2]
              exact HE4.out
            case measure => simpa using HM.out
          · rw [(fit_out c2).1, (fit_out c2).2, costV_zero] at KB
            obtain ⟨hV, hE⟩ := HF.out (by omega)
            have HVE := hid9 (And.intro hV hE)
            clear hdm hpm hC c1 c2 HDx hV hE HF HG
            generalize ((n / 2 ^ j : Nat) : Int) = nj at *
            generalize cost0 D = b0 at *
            generalize cost1 D = b1 at *
            generalize cost2 D = b2 at *
            obtain ⟨-, -, ⟨c0, c1, c2, -, -, -⟩, -⟩ := HE.out
            go_wp2_with fail
            refine (KA _).mono ?_
            rintro e w1 ⟨rfl, hb⟩
            have HE1 := hid9 (HE.out.below hb)
            have HE2 := hid9 (HE1.out.set b0 b1 b2)
            clear HE HE0 hb KA c0 c1 c2
            obtain ⟨-, -, ⟨c0, c1, c2, f0, f1, f2⟩, -⟩ := HE1.out
            obtain ⟨⟨g0, g1, g2, -, -, -⟩, -, ⟨q0, q1, q2, -, -, -⟩, -⟩ := HE2.out
            clear HE1
            go_wp2_with fail
            refine (KB _).mono ?_
            rintro e w2 ⟨rfl, hb⟩
            have HE3 := hid9 (HE2.out.below hb)
            have HE4 := hid9 (HE3.out.set 0 0 0)
            clear HE2 hb KB c0 c1 c2 f0 f1 f2 g0 g1 g2 q0 q1 q2
            obtain ⟨-, -, ⟨c0, c1, c2, f0, f1, f2⟩, -⟩ := HE3.out
            clear HE3
            have kE := hid9 (bset3c HE4.out.2.2.2 (show w.heap.size ≤ w.heap.size + 1 by omega) (.int .u64 0) (.int .u64 0) (.int .u64 0))
            have Hv := hid9 (HE4.out.2.1.set 0 0 0)
            obtain ⟨-, ⟨r0, r1, r2, r3, r4, r5⟩, -, -⟩ := HE4.out
            clear HE4
            go_wp2
            obtain ⟨u0, u1, u2, -, -, -⟩ := Hv.out
            exact bodyPost_ret (v := .tuple #[.agg #[.int .u64 0, .int .u64 0, .int .u64 0], .int .i64 6]) (by simp [results, Try.results13, go_sem, u0, u1, u2]) rfl ⟨by rw [HVE.out.1, HVE.out.2], kE.out⟩
      · rw [(fit_out c1).1, (fit_out c1).2, costV_zero] at KA
        obtain ⟨hV, hE⟩ := HF.out (by omega)
        have HVE := hid9 (And.intro hV hE)
        clear hdm hpm hC c1 hV hE HF HG
        generalize ((n / 2 ^ j : Nat) : Int) = nj at *
        generalize cost0 (N * (n / 2 ^ (j + 1))) = a0 at *
        generalize cost1 (N * (n / 2 ^ (j + 1))) = a1 at *
        generalize cost2 (N * (n / 2 ^ (j + 1))) = a2 at *
        obtain ⟨-, -, ⟨c0, c1, c2, -, -, -⟩, -⟩ := HE.out
        go_wp2_with fail
        refine (KA _).mono ?_
        rintro e w1 ⟨rfl, hb⟩
        have HE1 := hid9 (HE.out.below hb)
        have HE2 := hid9 (HE1.out.set 0 0 0)
        clear HE hb KA c0 c1 c2
        obtain ⟨-, -, ⟨c0, c1, c2, f0, f1, f2⟩, -⟩ := HE1.out
        have kE := hid9 (bset3c HE2.out.2.2.2 (show w.heap.size ≤ w.heap.size + 1 by omega) (.int .u64 0) (.int .u64 0) (.int .u64 0))
        have Hv := hid9 (HE2.out.2.1.set 0 0 0)
        obtain ⟨-, ⟨r0, r1, r2, r3, r4, r5⟩, -, -⟩ := HE2.out
        clear HE1 HE2
        go_wp2
        obtain ⟨u0, u1, u2, -, -, -⟩ := Hv.out
        exact bodyPost_ret (v := .tuple #[.agg #[.int .u64 0, .int .u64 0, .int .u64 0], .int .i64 6]) (by simp [results, Try.results13, go_sem, u0, u1, u2]) rfl ⟨by rw [HVE.out.1, HVE.out.2], kE.out⟩
end Go.Proofs.Ytnaamkkjledllaa
/-
  What the call of the document's tenth does.
-/
namespace Go.Proofs.Ytnaamkkjledllaa
open Go.RowKit
set_option linter.unusedSimpArgs false
set_option linter.unusedVariables false

theorem E2.fst0 {w W : World} {x0 x1 x2 y0 y1 y2 : Int} (h : E2 w x0 x1 x2 y0 y1 y2 W) (u : Int) : E2 w u x1 x2 y0 y1 y2 (W.setCell ⟨w.heap.size, 0, none⟩ (.int .u64 u)) :=
  ⟨h.1.one0 u, h.2.1.oth0 (by omega) u, h.2.2.setCell (by show w.heap.size ≤ w.heap.size; omega) _⟩
theorem E2.fst1 {w W : World} {x0 x1 x2 y0 y1 y2 : Int} (h : E2 w x0 x1 x2 y0 y1 y2 W) (u : Int) : E2 w x0 u x2 y0 y1 y2 (W.setCell ⟨w.heap.size, 1, none⟩ (.int .u64 u)) :=
  ⟨h.1.one1 u, h.2.1.oth1 (by omega) u, h.2.2.setCell (by show w.heap.size ≤ w.heap.size; omega) _⟩
theorem E2.fst2 {w W : World} {x0 x1 x2 y0 y1 y2 : Int} (h : E2 w x0 x1 x2 y0 y1 y2 W) (u : Int) : E2 w x0 x1 u y0 y1 y2 (W.setCell ⟨w.heap.size, 2, none⟩ (.int .u64 u)) :=
  ⟨h.1.one2 u, h.2.1.oth2 (by omega) u, h.2.2.setCell (by show w.heap.size ≤ w.heap.size; omega) _⟩
/-- What is left and the first bits of A. -/
def sj (r A j : Nat) : Nat := r * 2 ^ (64 - j) + A / 2 ^ j
theorem sj_64 (r A : Nat) (h : A < 18446744073709551616) : sj r A 64 = r := by
  unfold sj
  rw [Nat.div_eq_of_lt h]; simp
theorem sj_0 (r A : Nat) : sj r A 0 = r * 18446744073709551616 + A := by
  unfold sj
  rw [Nat.pow_zero, Nat.div_one]
theorem sj_step (r A j : Nat) (h : j < 64) : sj r A j = 2 * sj r A (j + 1) + A / 2 ^ j % 2 := by
  unfold sj
  have e1 : 2 ^ (64 - j) = 2 * 2 ^ (64 - (j + 1)) := by rw [show 64 - j = 64 - (j + 1) + 1 by omega, Nat.pow_succ]; omega
  have e2 : A / 2 ^ j = 2 * (A / 2 ^ (j + 1)) + A / 2 ^ j % 2 := by rw [Nat.pow_succ, ← Nat.div_div_eq_div_mul]; omega
  rw [e1, Nat.mul_left_comm]
  omega
theorem sj_half (r A j : Nat) (hr : r < 10) (hA : A < 18446744073709551616) (h : j < 64) : sj r A (j + 1) / 10 < 9223372036854775808 := by
  unfold sj
  have e : A / 2 ^ (j + 1) < 2 ^ (64 - (j + 1)) := by
    rw [Nat.div_lt_iff_lt_mul (Nat.two_pow_pos _), ← Nat.pow_add, show 64 - (j + 1) + (j + 1) = 64 by omega]
    exact hA
  have f : 2 ^ (64 - (j + 1)) ≤ 2 ^ 63 := Nat.pow_le_pow_right (by decide) (by omega)
  have g : r * 2 ^ (64 - (j + 1)) ≤ 9 * 2 ^ (64 - (j + 1)) := Nat.mul_le_mul_right _ (by omega)
  have k : 2 ^ 63 = 9223372036854775808 := by decide
  omega
/-- One bit more. -/
theorem sj_way (r A j : Nat) (hr : r < 10) (hA : A < 18446744073709551616) (h : j < 64) :
    ∃ R V b : Int, ((sj r A (j + 1) % 10 : Nat) : Int) = R ∧ ((sj r A (j + 1) / 10 : Nat) : Int) = V ∧ ((A / 2 ^ j % 2 : Nat) : Int) = b ∧ IntKind.u64.wrap (2 * R) = 2 * R ∧ IntKind.u64.wrap (2 * R + b) = 2 * R + b ∧ IntKind.u64.wrap (2 * V) = 2 * V ∧
      ((10 ≤ 2 * R + b ∧ IntKind.u64.wrap (2 * R + b - 10) = ((sj r A j % 10 : Nat) : Int) ∧ IntKind.u64.wrap (2 * V + 1) = ((sj r A j / 10 : Nat) : Int)) ∨ (¬ 10 ≤ 2 * R + b ∧ 2 * R + b = ((sj r A j % 10 : Nat) : Int) ∧ 2 * V = ((sj r A j / 10 : Nat) : Int))) := by
  have s := sj_step r A j h
  have t := sj_half r A j hr hA h
  refine ⟨_, _, _, rfl, rfl, rfl, ?_⟩
  rw [s]
  generalize sj r A (j + 1) = S at *
  have hb : A / 2 ^ j % 2 < 2 := Nat.mod_lt _ (by decide)
  generalize A / 2 ^ j % 2 = b at *
  refine ⟨by rw [IntKind.wrap_u64]; omega, by rw [IntKind.wrap_u64]; omega, by rw [IntKind.wrap_u64]; omega, ?_⟩
  by_cases c : (10 : Int) ≤ 2 * ((S % 10 : Nat) : Int) + (b : Int)
  · exact .inl ⟨c, by rw [IntKind.wrap_u64]; omega, by rw [IntKind.wrap_u64]; omega⟩
  · exact .inr ⟨c, by omega, by omega⟩
set_option maxRecDepth 20000 in
set_option maxHeartbeats 16000000 in
theorem rtenth_any (N : Nat) (w : World) (hN : N < 6277101735386680763835789423207666416102355444464034512896) :
    Calls Try.prog 31 #[costV N] w fun e w' => e = .returned (.tuple #[costV (N / 10), .int .i64 ((N % 10 : Nat) : Int)]) ∧ Below w.heap.size w w' := by
  have sp := cost_split N
  have lo := cost_lo N
  have up := cost_up N hN
  obtain ⟨a0, e0⟩ : ∃ a : Nat, cost0 N = (a : Int) := ⟨(cost0 N).toNat, by omega⟩
  obtain ⟨a1, e1⟩ : ∃ a : Nat, cost1 N = (a : Int) := ⟨(cost1 N).toNat, by omega⟩
  obtain ⟨a2, e2⟩ : ∃ a : Nat, cost2 N = (a : Int) := ⟨(cost2 N).toNat, by omega⟩
  unfold costV
  rw [e0, e1, e2]
  rw [e0, e1, e2] at sp
  rw [e0, e1, e2] at lo
  rw [e0] at up
  have b0 : a0 < 18446744073709551616 := by omega
  have b1 : a1 < 18446744073709551616 := by omega
  have b2 : a2 < 18446744073709551616 := by omega
  obtain ⟨q0, hq0⟩ : ∃ q, q = a0 / 10 := ⟨_, rfl⟩
  obtain ⟨r0, hr0⟩ : ∃ q, q = a0 % 10 := ⟨_, rfl⟩
  obtain ⟨q1, hq1⟩ : ∃ q, q = (r0 * 18446744073709551616 + a1) / 10 := ⟨_, rfl⟩
  obtain ⟨r1, hr1⟩ : ∃ q, q = (r0 * 18446744073709551616 + a1) % 10 := ⟨_, rfl⟩
  obtain ⟨q2, hq2⟩ : ∃ q, q = (r1 * 18446744073709551616 + a2) / 10 := ⟨_, rfl⟩
  obtain ⟨r2, hr2⟩ : ∃ q, q = (r1 * 18446744073709551616 + a2) % 10 := ⟨_, rfl⟩
  obtain ⟨c0, c1, c2, c3⟩ := tenth_digits N a0 a1 a2 b1 b2 (by omega) q0 q1 q2 r0 r1 r2 hq0 hr0 hq1 hr1 hq2 hr2
  rw [c0, c1, c2, c3]
  have l0 : r0 < 10 := by omega
  have l1 : r1 < 10 := by omega
  have l2 : r2 < 10 := by omega
  have F0 : Hid (sj 0 a0 0 / 10 = q0 ∧ sj 0 a0 0 % 10 = r0) := by show _ ∧ _; rw [sj_0, hq0, hr0]; omega
  have F1 : Hid (sj r0 a1 0 / 10 = q1 ∧ sj r0 a1 0 % 10 = r1) := by show _ ∧ _; rw [sj_0, hq1, hr1]; exact ⟨rfl, rfl⟩
  have F2 : Hid (sj r1 a2 0 / 10 = q2 ∧ sj r1 a2 0 % 10 = r2) := by show _ ∧ _; rw [sj_0, hq2, hr2]; exact ⟨rfl, rfl⟩
  clear c0 c1 c2 c3 hq0 hr0 hq1 hr1 hq2 hr2 sp lo up e0 e1 e2 hN
  have HS := hid9 (E2.start w (a0 : Int) (a1 : Int) (a2 : Int) 0 0 0 24)
  go_enter Try.func31, Try.ntmps31
  go_wp2_with fail
  go_loopw [4, 5] (fun cv i wr => (i = .int .i64 0 ∧ cv = .int .u64 0 ∧ Hid (E2 w a0 a1 a2 0 0 0 wr)) ∨ (i = .int .i64 1 ∧ cv = .int .u64 (r0 : Int) ∧ Hid (E2 w q0 a1 a2 0 0 0 wr)) ∨ (i = .int .i64 2 ∧ cv = .int .u64 (r1 : Int) ∧ Hid (E2 w q0 q1 a2 0 0 0 wr)) ∨ (i = .int .i64 3 ∧ cv = .int .u64 (r2 : Int) ∧ Hid (E2 w q0 q1 q2 0 0 0 wr))) (fun _ i _ => 3 - (intOf i).toNat)
  case atStart => exact .inl ⟨rfl, rfl, HS⟩
  case round =>
    clear HS
    rcases hrel with ⟨rfl, rfl, HE⟩ | ⟨rfl, rfl, HE⟩ | ⟨rfl, rfl, HE⟩ | ⟨rfl, rfl, HE⟩
    · have HE2 := hid9 (HE.out.fst0 (q0 : Int))
      obtain ⟨⟨x0, x1, x2, y0, y1, y2⟩, -, -⟩ := HE.out
      clear HE
      go_wp2_with fail
      go_loopw [4, 6, 7] (fun c4 c6 c7 wq => ∃ j : Nat, j ≤ 64 ∧ c7 = .int .i64 ((j : Int) - 1) ∧ c4 = .int .u64 ((sj 0 a0 j % 10 : Nat) : Int) ∧ c6 = .int .u64 ((sj 0 a0 j / 10 : Nat) : Int) ∧ wq = wr) (fun _ _ c7 _ => (intOf c7 + 1).toNat)
      case atStart =>
        have hz : sj 0 a0 64 = 0 := sj_64 0 a0 b0
        exact ⟨64, by omega, rfl, by rw [hz]; rfl, by rw [hz]; rfl, rfl⟩
      case round =>
        obtain ⟨j, hj, rfl, rfl, rfl, rfl⟩ := hrel
        cases j with
        | zero =>
          rw [F0.out.1, F0.out.2]
          go_wp2
          go_roundw
          case rel => exact .inr (.inl ⟨by simp, by first | rfl | simp, HE2⟩)
          case measure => simp [intOf]
        | succ j =>
          obtain ⟨R, V, b, g1, g2, g3, g4, g5, g6, g7⟩ := sj_way 0 a0 j (by decide) b0 (by omega)
          have hcast : (((j + 1 : Nat) : Int) - 1) = (j : Int) := by omega
          rw [hcast, g1, g2]
          have hge : decide ((0 : Int) ≤ (j : Int)) = true := by simp
          have hsub : IntKind.i64.wrap ((j : Int) - 1) = (j : Int) - 1 := by rw [IntKind.wrap_i64]; omega
          have hsh : (a0 : Int) / 2 ^ j = ((a0 / 2 ^ j : Nat) : Int) := by simp
          have han := and1n (a0 / 2 ^ j) (Nat.lt_of_le_of_lt (Nat.div_le_self _ _) b0)
          rw [g3] at han
          have hj63 : (j : Int) < 64 := by omega
          have HM : Hid ((intOf (.int .i64 ((j : Int) - 1)) + 1).toNat < (intOf (.int .i64 (((j + 1 : Nat) : Int) - 1)) + 1).toNat) := by show _ < _; simp only [intOf]; omega
          have HX := hid9 (And.intro hcast (And.intro g1 (And.intro g2 g3)))
          generalize ((a0 / 2 ^ j : Nat) : Int) = nj at *
          generalize hA : (a0 : Int) = AA at *
          clear hcast g1 g2 g3
          rcases g7 with ⟨c1, c2, c3⟩ | ⟨c1, c2, c3⟩
          · have c4 : decide ((10 : Int) ≤ 2 * R + b) = true := decide_eq_true c1
            generalize hR2 : ((sj 0 a0 j % 10 : Nat) : Int) = R2 at *
            generalize hV2 : ((sj 0 a0 j / 10 : Nat) : Int) = V2 at *
            have HZ := hid9 (And.intro hR2 hV2)
            clear hR2 hV2
            go_wp2
            go_roundw
            case rel => exact ⟨j, by omega, rfl, by rw [HZ.out.1], by rw [HZ.out.2], by first | rfl | trivial⟩
            case measure => simpa using HM.out
          · have c4 : decide ((10 : Int) ≤ 2 * R + b) = false := decide_eq_false c1
            have HZ := hid9 (And.intro c2 c3)
            clear c2 c3
            go_wp2
            go_roundw
            case rel => exact ⟨j, by omega, rfl, by rw [HZ.out.1], by rw [HZ.out.2], by first | rfl | trivial⟩
            case measure => simpa using HM.out
    · have HE2 := hid9 (HE.out.fst1 (q1 : Int))
      obtain ⟨⟨x0, x1, x2, y0, y1, y2⟩, -, -⟩ := HE.out
      clear HE
      go_wp2_with fail
      go_loopw [4, 6, 7] (fun c4 c6 c7 wq => ∃ j : Nat, j ≤ 64 ∧ c7 = .int .i64 ((j : Int) - 1) ∧ c4 = .int .u64 ((sj r0 a1 j % 10 : Nat) : Int) ∧ c6 = .int .u64 ((sj r0 a1 j / 10 : Nat) : Int) ∧ wq = wr) (fun _ _ c7 _ => (intOf c7 + 1).toNat)
      case atStart =>
        have hz : sj r0 a1 64 = r0 := sj_64 r0 a1 b1
        exact ⟨64, by omega, rfl, by rw [hz]; (congr 1; have := l0; omega), by rw [hz]; (congr 1; have := l0; omega), rfl⟩
      case round =>
        obtain ⟨j, hj, rfl, rfl, rfl, rfl⟩ := hrel
        cases j with
        | zero =>
          rw [F1.out.1, F1.out.2]
          go_wp2
          go_roundw
          case rel => exact .inr (.inr (.inl ⟨by simp, by first | rfl | simp, HE2⟩))
          case measure => simp [intOf]
        | succ j =>
          obtain ⟨R, V, b, g1, g2, g3, g4, g5, g6, g7⟩ := sj_way r0 a1 j l0 b1 (by omega)
          have hcast : (((j + 1 : Nat) : Int) - 1) = (j : Int) := by omega
          rw [hcast, g1, g2]
          have hge : decide ((0 : Int) ≤ (j : Int)) = true := by simp
          have hsub : IntKind.i64.wrap ((j : Int) - 1) = (j : Int) - 1 := by rw [IntKind.wrap_i64]; omega
          have hsh : (a1 : Int) / 2 ^ j = ((a1 / 2 ^ j : Nat) : Int) := by simp
          have han := and1n (a1 / 2 ^ j) (Nat.lt_of_le_of_lt (Nat.div_le_self _ _) b1)
          rw [g3] at han
          have hj63 : (j : Int) < 64 := by omega
          have HM : Hid ((intOf (.int .i64 ((j : Int) - 1)) + 1).toNat < (intOf (.int .i64 (((j + 1 : Nat) : Int) - 1)) + 1).toNat) := by show _ < _; simp only [intOf]; omega
          have HX := hid9 (And.intro hcast (And.intro g1 (And.intro g2 g3)))
          generalize ((a1 / 2 ^ j : Nat) : Int) = nj at *
          generalize hA : (a1 : Int) = AA at *
          clear hcast g1 g2 g3
          rcases g7 with ⟨c1, c2, c3⟩ | ⟨c1, c2, c3⟩
          · have c4 : decide ((10 : Int) ≤ 2 * R + b) = true := decide_eq_true c1
            generalize hR2 : ((sj r0 a1 j % 10 : Nat) : Int) = R2 at *
            generalize hV2 : ((sj r0 a1 j / 10 : Nat) : Int) = V2 at *
            have HZ := hid9 (And.intro hR2 hV2)
            clear hR2 hV2
            go_wp2
            go_roundw
            case rel => exact ⟨j, by omega, rfl, by rw [HZ.out.1], by rw [HZ.out.2], by first | rfl | trivial⟩
            case measure => simpa using HM.out
          · have c4 : decide ((10 : Int) ≤ 2 * R + b) = false := decide_eq_false c1
            have HZ := hid9 (And.intro c2 c3)
            clear c2 c3
            go_wp2
            go_roundw
            case rel => exact ⟨j, by omega, rfl, by rw [HZ.out.1], by rw [HZ.out.2], by first | rfl | trivial⟩
            case measure => simpa using HM.out
    · have HE2 := hid9 (HE.out.fst2 (q2 : Int))
      obtain ⟨⟨x0, x1, x2, y0, y1, y2⟩, -, -⟩ := HE.out
      clear HE
      go_wp2_with fail
      go_loopw [4, 6, 7] (fun c4 c6 c7 wq => ∃ j : Nat, j ≤ 64 ∧ c7 = .int .i64 ((j : Int) - 1) ∧ c4 = .int .u64 ((sj r1 a2 j % 10 : Nat) : Int) ∧ c6 = .int .u64 ((sj r1 a2 j / 10 : Nat) : Int) ∧ wq = wr) (fun _ _ c7 _ => (intOf c7 + 1).toNat)
      case atStart =>
        have hz : sj r1 a2 64 = r1 := sj_64 r1 a2 b2
        exact ⟨64, by omega, rfl, by rw [hz]; (congr 1; have := l1; omega), by rw [hz]; (congr 1; have := l1; omega), rfl⟩
      case round =>
        obtain ⟨j, hj, rfl, rfl, rfl, rfl⟩ := hrel
        cases j with
        | zero =>
          rw [F2.out.1, F2.out.2]
          go_wp2
          go_roundw
          case rel => exact .inr (.inr (.inr ⟨by simp, by first | rfl | simp, HE2⟩))
          case measure => simp [intOf]
        | succ j =>
          obtain ⟨R, V, b, g1, g2, g3, g4, g5, g6, g7⟩ := sj_way r1 a2 j l1 b2 (by omega)
          have hcast : (((j + 1 : Nat) : Int) - 1) = (j : Int) := by omega
          rw [hcast, g1, g2]
          have hge : decide ((0 : Int) ≤ (j : Int)) = true := by simp
          have hsub : IntKind.i64.wrap ((j : Int) - 1) = (j : Int) - 1 := by rw [IntKind.wrap_i64]; omega
          have hsh : (a2 : Int) / 2 ^ j = ((a2 / 2 ^ j : Nat) : Int) := by simp
          have han := and1n (a2 / 2 ^ j) (Nat.lt_of_le_of_lt (Nat.div_le_self _ _) b2)
          rw [g3] at han
          have hj63 : (j : Int) < 64 := by omega
          have HM : Hid ((intOf (.int .i64 ((j : Int) - 1)) + 1).toNat < (intOf (.int .i64 (((j + 1 : Nat) : Int) - 1)) + 1).toNat) := by show _ < _; simp only [intOf]; omega
          have HX := hid9 (And.intro hcast (And.intro g1 (And.intro g2 g3)))
          generalize ((a2 / 2 ^ j : Nat) : Int) = nj at *
          generalize hA : (a2 : Int) = AA at *
          clear hcast g1 g2 g3
          rcases g7 with ⟨c1, c2, c3⟩ | ⟨c1, c2, c3⟩
          · have c4 : decide ((10 : Int) ≤ 2 * R + b) = true := decide_eq_true c1
            generalize hR2 : ((sj r1 a2 j % 10 : Nat) : Int) = R2 at *
            generalize hV2 : ((sj r1 a2 j / 10 : Nat) : Int) = V2 at *
            have HZ := hid9 (And.intro hR2 hV2)
            clear hR2 hV2
            go_wp2
            go_roundw
            case rel => exact ⟨j, by omega, rfl, by rw [HZ.out.1], by rw [HZ.out.2], by first | rfl | trivial⟩
            case measure => simpa using HM.out
          · have c4 : decide ((10 : Int) ≤ 2 * R + b) = false := decide_eq_false c1
            have HZ := hid9 (And.intro c2 c3)
            clear c2 c3
            go_wp2
            go_roundw
            case rel => exact ⟨j, by omega, rfl, by rw [HZ.out.1], by rw [HZ.out.2], by first | rfl | trivial⟩
            case measure => simpa using HM.out
    · have A1 := HE.out.2.1
      have kE := bset3c HE.out.2.2 (show w.heap.size ≤ w.heap.size + 1 by omega) (.int .u64 (q0 : Int)) (.int .u64 (q1 : Int)) (.int .u64 (q2 : Int))
      obtain ⟨u0, u1, u2, -, -, -⟩ := A1.set (q0 : Int) (q1 : Int) (q2 : Int)
      obtain ⟨r0', r1', r2', r3, r4, r5⟩ := A1
      obtain ⟨⟨x0, x1, x2, -, -, -⟩, -, -⟩ := HE.out
      have Hk := hid9 kE
      have Hv := hid9 (And.intro u0 (And.intro u1 u2))
      have hw : IntKind.i64.wrap (r2 : Int) = (r2 : Int) := by rw [IntKind.wrap_i64]; omega
      clear kE u0 u1 u2 HE F0 F1 F2
      go_wp2
      obtain ⟨u0, u1, u2⟩ := Hv.out
      exact bodyPost_ret (v := .tuple #[.agg #[.int .u64 (q0 : Int), .int .u64 (q1 : Int), .int .u64 (q2 : Int)], .int .i64 (r2 : Int)]) (by simp [results, Try.results31, go_sem, u0, u1, u2]) rfl ⟨rfl, Hk.out⟩
end Go.Proofs.Ytnaamkkjledllaa
/-
  What the call of package cost's isNumber does.
-/
namespace Go.Proofs.Ytnaamkkjledllaa
open Go.RowKit
set_option linter.unusedSimpArgs false
set_option linter.unusedVariables false

/-- The byte at place k, as a number (0 where there is none). -/
def bAt9 (s : ByteArray) (k : Nat) : Int := if h : k < s.size then (s[k].toNat : Int) else 0
theorem bAt9_in (s : ByteArray) (k : Nat) (h : k < s.size) : (s[k].toNat : Int) = bAt9 s k := by unfold bAt9; rw [dif_pos h]
theorem bAt9_bd (s : ByteArray) (k : Nat) : 0 ≤ bAt9 s k ∧ bAt9 s k ≤ 255 := by
  unfold bAt9; split
  · rename_i h; have := s[k].toNat_lt; omega
  · omega
/-- Is it a digit? -/
def dig9 (c : Int) : Bool := decide (48 ≤ c ∧ c ≤ 57)
def all9 (s : ByteArray) : Nat → Bool
  | 0 => true
  | k + 1 => all9 s k && dig9 (bAt9 s k)
theorem all9_le (s : ByteArray) : ∀ k m, k ≤ m → all9 s m = true → all9 s k = true := by
  intro k m h
  induction m with
  | zero => intro q; have : k = 0 := by omega
            subst this; exact q
  | succ m ih =>
    intro q
    by_cases e : k = m + 1
    · subst e; exact q
    · simp only [all9, Bool.and_eq_true] at q
      exact ih (by omega) q.1
/-- Is it the text of a number? -/
def num9 (s : ByteArray) : Bool := decide (¬ s.size = 0 ∧ (bAt9 s 0 = 48 → s.size = 1)) && all9 s s.size
theorem ba_ext {s t : ByteArray} (h : s.data.toList = t.data.toList) : s = t := by
  cases s; cases t; simp at h; simp [h]
theorem empty9 (s : ByteArray) : s.toList.isEmpty = decide (s.size = 0) := by
  obtain ⟨d⟩ := s
  obtain ⟨l⟩ := d
  rw [Lib.toList_data]
  cases l with
  | nil => rfl
  | cons a l => simp [ByteArray.size]
theorem more9 (s : ByteArray) (h : ¬ s.size = 1) : (s.toList == [48]) = false := by
  obtain ⟨d⟩ := s
  obtain ⟨l⟩ := d
  rw [Lib.toList_data]
  match l, h with
  | [], _ => rfl
  | [a], h => exact absurd rfl h
  | a :: b :: l, _ => simp
theorem one9 (s : ByteArray) (h : s.size = 1) : (s.toList == [48]) = true ↔ bAt9 s 0 = 48 := by
  obtain ⟨d⟩ := s
  obtain ⟨l⟩ := d
  rw [Lib.toList_data]
  match l, h with
  | [a], _ =>
    have e : bAt9 ⟨⟨[a]⟩⟩ 0 = (a.toNat : Int) := rfl
    rw [e]
    constructor
    · intro q
      have : a = 48 := by simpa using q
      subst this; rfl
    · intro q
      have : a = 48 := by apply UInt8.toNat_inj.mp; show a.toNat = 48; omega
      subst this; rfl
set_option maxRecDepth 20000 in
set_option maxHeartbeats 2000000 in
theorem isNumber_any (s : ByteArray) (w : World) (hs : s.size ≤ maxLen) :
    Calls Try.prog 29 #[.string s] w fun e w' => e = .returned (.bool (num9 s)) ∧ w' = w := by
  unfold maxLen at hs
  by_cases h0 : s.size = 0
  · have e0 := empty9 s
    rw [decide_eq_true h0] at e0
    have hr : num9 s = false := by unfold num9; simp [h0]
    rw [hr]
    go_enter Try.func29, Try.ntmps29
    go_wp2
    go_ret
    exact ⟨rfl, rfl⟩
  · have e0 := empty9 s
    rw [decide_eq_false h0] at e0
    have hb0 := bAt9_in s 0 (by omega)
    have hsz : 0 < s.size := by omega
    have hi0 : (0 : Int) < s.size := by omega
    have loop : ∀ (hp : num9 s = all9 s s.size) (hd : (bAt9 s 0 == 48) = false ∨ (bAt9 s 0 = 48 ∧ (s.toList == [48]) = true)), Calls Try.prog 29 #[.string s] w fun e w' => e = .returned (.bool (num9 s)) ∧ w' = w := by
      intro hp hd
      have HR := hid9 hp
      have HS := hid9 hsz
      clear hp
      have HB := hid9 (fun k (hk : k < s.size) => bAt9_in s k hk)
      rcases hd with hd | ⟨hd, hd2⟩
      all_goals
        go_enter Try.func29, Try.ntmps29
        go_wp2_with fail
        go_loopw [17] (fun i wr => ∃ k : Nat, k ≤ s.size ∧ i = .int .i64 k ∧ Hid (all9 s k = true) ∧ wr = w) (fun i _ => s.size - (intOf i).toNat)
        case atStart => exact ⟨0, by omega, rfl, rfl, rfl⟩
        case round =>
          clear hd e0 hb0 hi0
          obtain ⟨k, hk, rfl, HA, rfl⟩ := hrel
          by_cases hlt : (k : Int) < (s.size : Int)
          · have hks : k < s.size := by omega
            have hbt := HB.out k hks
            have bd := bAt9_bd s k
            have HP : Hid (all9 s (k + 1) = (all9 s k && dig9 (bAt9 s k))) := rfl
            have mk : IntKind.i64.wrap ((k : Int) + 1) = (k : Int) + 1 := by rw [IntKind.wrap_i64]; omega
            generalize bAt9 s k = c at *
            by_cases c1 : c < 48
            · have HF : Hid (num9 s = false) := by
                have q : all9 s (k + 1) = false := by rw [HP.out, show dig9 c = false from decide_eq_false (by omega)]; simp
                show _ = _
                rw [HR.out]
                cases e : all9 s s.size with
                | false => rfl
                | true => have := all9_le s (k + 1) s.size (by omega) e; rw [q] at this; cases this
              clear HP
              go_wp2
              go_ret
              exact ⟨by rw [HF.out]; rfl, rfl⟩
            · by_cases c2 : 57 < c
              · have HF : Hid (num9 s = false) := by
                  have q : all9 s (k + 1) = false := by rw [HP.out, show dig9 c = false from decide_eq_false (by omega)]; simp
                  show _ = _
                  rw [HR.out]
                  cases e : all9 s s.size with
                  | false => rfl
                  | true => have := all9_le s (k + 1) s.size (by omega) e; rw [q] at this; cases this
                clear HP
                go_wp2
                go_ret
                exact ⟨by rw [HF.out]; rfl, rfl⟩
              · have HA2 : Hid (all9 s (k + 1) = true) := by show _ = _; rw [HP.out, HA.out, show dig9 c = true from decide_eq_true (by omega)]; rfl
                clear HP HA
                go_wp2
                go_roundw
                case rel => exact ⟨k + 1, by omega, by go_num, HA2, by first | rfl | trivial⟩
                case measure => simp [intOf]; omega
          · have hk8 : k = s.size := by omega
            have HF : Hid (num9 s = true) := by show _ = _; rw [HR.out, ← hk8]; exact HA.out
            have hd : decide ((k : Int) < (s.size : Int)) = false := by simpa using hlt
            clear hk8 HA HR
            go_wp2
            go_ret
            exact ⟨by rw [HF.out]; rfl, rfl⟩
    by_cases h1 : bAt9 s 0 = 48
    · by_cases h2 : s.size = 1
      · refine loop ?_ (.inr ⟨h1, ?_⟩)
        · unfold num9
          rw [decide_eq_true (show ¬ s.size = 0 ∧ (bAt9 s 0 = 48 → s.size = 1) from ⟨h0, fun _ => h2⟩)]
          rfl
        · exact (one9 s h2).2 h1
      · have hr : num9 s = false := by
          unfold num9
          rw [decide_eq_false (show ¬ (¬ s.size = 0 ∧ (bAt9 s 0 = 48 → s.size = 1)) from fun q => h2 (q.2 h1))]
          rfl
        have hne : (s.toList == [48]) = false := more9 s h2
        rw [hr]
        clear loop
        go_enter Try.func29, Try.ntmps29
        go_wp2
        go_ret
        exact ⟨rfl, rfl⟩
    · refine loop ?_ (.inl (by simpa using h1))
      unfold num9
      rw [decide_eq_true (show ¬ s.size = 0 ∧ (bAt9 s 0 = 48 → s.size = 1) from ⟨h0, fun q => absurd q h1⟩)]
      rfl
end Go.Proofs.Ytnaamkkjledllaa
