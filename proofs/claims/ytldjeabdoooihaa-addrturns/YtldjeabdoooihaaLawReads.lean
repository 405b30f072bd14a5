/-
  The law AddrReads, walked.
-/
import Derived.Test.YtldjeabdoooihaaPure6
import Derived.Test.YtldjeabdoooihaaRefZ2
namespace Go.Proofs.Ytldjeabdoooihaa
open Go.RowKit
set_option linter.unusedSimpArgs false
set_option linter.unusedVariables false

theorem rparse2_any (F : Int) (t : ByteArray) (w : World) (hs : t.size ≤ maxLen) :
    Calls Try.prog 8 #[.int .i64 F, .string t] w fun e w' => e = .returned (.tuple #[.agg #[.int .u64 (hI (rpV F t)), .int .u64 (lI (rpV F t))], .int .i64 (rpE F t)]) ∧ Below w.heap.size w w' := by
  unfold rpV rpE
  cases hf : fam F
  · simp only [true_or, if_true, hI_zero, lI_zero]
    exact rparse_fam F t w hf
  · simp only [Bool.true_eq_false, false_or, if_false]
    by_cases hl : 60 < t.size
    · simp only [hl, if_true, hI_zero, lI_zero]
      exact rparse_long F t w hf hs hl
    · simp only [hl, if_false]
      rcases fam_ways F hf with rfl | rfl
      · simp only [if_true]
        exact rparse_four t w (by omega)
      · simp only [show ¬ (128 : Int) = 32 by decide, if_false]
        unfold rsO
        by_cases hg : gapV t < 0
        · rw [if_pos hg]
          exact rparse_sixA t w (by omega) hg
        · rw [if_neg hg]
          exact rparse_sixB t w (gapV t).toNat (by omega) (by omega)

set_option maxHeartbeats 2000000 in
theorem addrReads_any (F : Int) (s : ByteArray) (w : World) (hF0 : -9223372036854775808 ≤ F) (hF1 : F ≤ 9223372036854775807) (hs : s.size ≤ maxLen) :
    Calls Try.prog 3 #[.int .i64 F, .string s] w fun e w' => e = .returned (.bool true) ∧ Below w.heap.size w w' := by
  have KA := fun w => aparse_any F s w hs
  have KB := fun w => rparse2_any F s w hs
  rw [(parse_eq F s).1, (parse_eq F s).2] at KA
  generalize rpV F s = a at *
  generalize rpE F s = r at *
  clear hs hF0 hF1
  go_enter Try.func3, Try.ntmps3
  go_wp2_with fail
  refine (KA _).mono ?_
  rintro e w1 ⟨rfl, hb1⟩
  clear KA
  have A1 := at_new w1 w1.heap.size a 24 rfl
  have kB1 := hb1.alloc hb1.size (.cells #[.int .u64 (hI a), .int .u64 (lI a)] 24)
  clear hb1
  go_wp2_with fail
  refine (KB _).mono ?_
  rintro e w2 ⟨rfl, hb2⟩
  clear KB
  have A2 := (A1.below hb2).below (bl1 _ (.cells #[.int .u64 (hI a), .int .u64 (lI a)] 24))
  have B2 := at_new w2 w2.heap.size a 24 rfl
  have kB2 := (keepb hb2 kB1).alloc (keepb hb2 kB1).size (.cells #[.int .u64 (hI a), .int .u64 (lI a)] 24)
  clear hb2 A1 kB1
  go_wp2_with fail
  refine (known2_any _).mono ?_
  rintro e w3 ⟨rfl, hb3⟩
  obtain ⟨a0, a1, -, -, -⟩ := A2.below hb3
  obtain ⟨b0, b1, -, -, -⟩ := B2.below hb3
  have kB3 := keepb hb3 kB2
  clear hb3 A2 B2 kB2
  go_wp2
  go_ret
  exact ⟨rfl, kB3⟩
end Go.Proofs.Ytldjeabdoooihaa
