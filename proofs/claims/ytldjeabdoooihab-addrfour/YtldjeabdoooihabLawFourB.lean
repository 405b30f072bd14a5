/-
  The law AddrFour where a number is too great, or a nought stands ahead, walked.
-/
import Derived.Test.YtldjeabdoooihabFourP
namespace Go.Proofs.Ytldjeabdoooihab
open Go.RowKit
set_option linter.unusedSimpArgs false
set_option linter.unusedVariables false

set_option maxHeartbeats 4000000 in
theorem four_badF (A B C D : Nat) (a b c d : Int) (SA SB SC SD : ByteArray) (w : World)
    (Wa : ∀ w, Calls Try.prog 6 #[.int .i64 a, .int .i64 300] w fun e w' => e = .returned (.int .i64 (A : Int)) ∧ w' = w)
    (Wb : ∀ w, Calls Try.prog 6 #[.int .i64 b, .int .i64 300] w fun e w' => e = .returned (.int .i64 (B : Int)) ∧ w' = w)
    (Wc : ∀ w, Calls Try.prog 6 #[.int .i64 c, .int .i64 300] w fun e w' => e = .returned (.int .i64 (C : Int)) ∧ w' = w)
    (Wd : ∀ w, Calls Try.prog 6 #[.int .i64 d, .int .i64 300] w fun e w' => e = .returned (.int .i64 (D : Int)) ∧ w' = w)
    (Da : ∀ w, Calls Try.prog 7 #[.int .i64 (A : Int)] w fun e w' => e = .returned (.string SA) ∧ Below w.heap.size w w')
    (Db : ∀ w, Calls Try.prog 7 #[.int .i64 (B : Int)] w fun e w' => e = .returned (.string SB) ∧ Below w.heap.size w w')
    (Dc : ∀ w, Calls Try.prog 7 #[.int .i64 (C : Int)] w fun e w' => e = .returned (.string SC) ∧ Below w.heap.size w w')
    (Dd : ∀ w, Calls Try.prog 7 #[.int .i64 (D : Int)] w fun e w' => e = .returned (.string SD) ∧ Below w.heap.size w w')
    (za : SA.size ≤ 3) (zb : SB.size ≤ 3) (zc : SC.size ≤ 3) (zd : SD.size ≤ 3)
    (KP : ∀ w, Calls Try.prog 8 #[.int .i64 32, .string (SA ++ ⟨#[46]⟩ ++ SB ++ ⟨#[46]⟩ ++ SC ++ ⟨#[46]⟩ ++ SD)] w fun e w' => e = .returned (.tuple #[.agg #[.int .u64 0, .int .u64 0], .int .i64 12]) ∧ Below w.heap.size w w') (hbad : 255 < A ∨ 255 < B ∨ 255 < C ∨ 255 < D) :
    Calls Try.prog 3 #[.int .i64 a, .int .i64 b, .int .i64 c, .int .i64 d, .bool false] w fun e w' => e = .returned (.bool true) ∧ Below w.heap.size w w' := by
  by_cases qa : (255 : Int) < A
  · go_enter Try.func3, Try.ntmps3
    go_wp2_with fail
    refine (known2_any _).mono ?_
    rintro e w1 ⟨rfl, hb1⟩
    go_wp2_with fail
    refine (Wa _).mono ?_
    rintro e w2 ⟨rfl, rfl⟩
    go_wp2_with fail
    refine (Wb _).mono ?_
    rintro e w2 ⟨rfl, rfl⟩
    go_wp2_with fail
    refine (Wc _).mono ?_
    rintro e w2 ⟨rfl, rfl⟩
    go_wp2_with fail
    refine (Wd _).mono ?_
    rintro e w2 ⟨rfl, rfl⟩
    clear Wa Wb Wc Wd
    go_wp2_with fail
    refine (Da _).mono ?_
    rintro e w2 ⟨rfl, hb2⟩
    go_wp2_with fail
    refine (Db _).mono ?_
    rintro e w3 ⟨rfl, hb3⟩
    go_wp2_with fail
    refine (Dc _).mono ?_
    rintro e w4 ⟨rfl, hb4⟩
    go_wp2_with fail
    refine (Dd _).mono ?_
    rintro e w5 ⟨rfl, hb5⟩
    clear Da Db Dc Dd
    have kB := keepb hb5 (keepb hb4 (keepb hb3 (keepb hb2 hb1)))
    clear hb1 hb2 hb3 hb4 hb5
    go_wp2_with fail
    refine (KP _).mono ?_
    rintro e w6 ⟨rfl, hb6⟩
    have kB6 := keepb hb6 kB
    clear hb6 kB KP
    go_wp2
    go_ret
    exact ⟨rfl, kB6.alloc kB6.size _⟩
  by_cases qb : (255 : Int) < B
  · go_enter Try.func3, Try.ntmps3
    go_wp2_with fail
    refine (known2_any _).mono ?_
    rintro e w1 ⟨rfl, hb1⟩
    go_wp2_with fail
    refine (Wa _).mono ?_
    rintro e w2 ⟨rfl, rfl⟩
    go_wp2_with fail
    refine (Wb _).mono ?_
    rintro e w2 ⟨rfl, rfl⟩
    go_wp2_with fail
    refine (Wc _).mono ?_
    rintro e w2 ⟨rfl, rfl⟩
    go_wp2_with fail
    refine (Wd _).mono ?_
    rintro e w2 ⟨rfl, rfl⟩
    clear Wa Wb Wc Wd
    go_wp2_with fail
    refine (Da _).mono ?_
    rintro e w2 ⟨rfl, hb2⟩
    go_wp2_with fail
    refine (Db _).mono ?_
    rintro e w3 ⟨rfl, hb3⟩
    go_wp2_with fail
    refine (Dc _).mono ?_
    rintro e w4 ⟨rfl, hb4⟩
    go_wp2_with fail
    refine (Dd _).mono ?_
    rintro e w5 ⟨rfl, hb5⟩
    clear Da Db Dc Dd
    have kB := keepb hb5 (keepb hb4 (keepb hb3 (keepb hb2 hb1)))
    clear hb1 hb2 hb3 hb4 hb5
    go_wp2_with fail
    refine (KP _).mono ?_
    rintro e w6 ⟨rfl, hb6⟩
    have kB6 := keepb hb6 kB
    clear hb6 kB KP
    go_wp2
    go_ret
    exact ⟨rfl, kB6.alloc kB6.size _⟩
  by_cases qc : (255 : Int) < C
  · go_enter Try.func3, Try.ntmps3
    go_wp2_with fail
    refine (known2_any _).mono ?_
    rintro e w1 ⟨rfl, hb1⟩
    go_wp2_with fail
    refine (Wa _).mono ?_
    rintro e w2 ⟨rfl, rfl⟩
    go_wp2_with fail
    refine (Wb _).mono ?_
    rintro e w2 ⟨rfl, rfl⟩
    go_wp2_with fail
    refine (Wc _).mono ?_
    rintro e w2 ⟨rfl, rfl⟩
    go_wp2_with fail
    refine (Wd _).mono ?_
    rintro e w2 ⟨rfl, rfl⟩
    clear Wa Wb Wc Wd
    go_wp2_with fail
    refine (Da _).mono ?_
    rintro e w2 ⟨rfl, hb2⟩
    go_wp2_with fail
    refine (Db _).mono ?_
    rintro e w3 ⟨rfl, hb3⟩
    go_wp2_with fail
    refine (Dc _).mono ?_
    rintro e w4 ⟨rfl, hb4⟩
    go_wp2_with fail
    refine (Dd _).mono ?_
    rintro e w5 ⟨rfl, hb5⟩
    clear Da Db Dc Dd
    have kB := keepb hb5 (keepb hb4 (keepb hb3 (keepb hb2 hb1)))
    clear hb1 hb2 hb3 hb4 hb5
    go_wp2_with fail
    refine (KP _).mono ?_
    rintro e w6 ⟨rfl, hb6⟩
    have kB6 := keepb hb6 kB
    clear hb6 kB KP
    go_wp2
    go_ret
    exact ⟨rfl, kB6.alloc kB6.size _⟩
  by_cases qd : (255 : Int) < D
  · go_enter Try.func3, Try.ntmps3
    go_wp2_with fail
    refine (known2_any _).mono ?_
    rintro e w1 ⟨rfl, hb1⟩
    go_wp2_with fail
    refine (Wa _).mono ?_
    rintro e w2 ⟨rfl, rfl⟩
    go_wp2_with fail
    refine (Wb _).mono ?_
    rintro e w2 ⟨rfl, rfl⟩
    go_wp2_with fail
    refine (Wc _).mono ?_
    rintro e w2 ⟨rfl, rfl⟩
    go_wp2_with fail
    refine (Wd _).mono ?_
    rintro e w2 ⟨rfl, rfl⟩
    clear Wa Wb Wc Wd
    go_wp2_with fail
    refine (Da _).mono ?_
    rintro e w2 ⟨rfl, hb2⟩
    go_wp2_with fail
    refine (Db _).mono ?_
    rintro e w3 ⟨rfl, hb3⟩
    go_wp2_with fail
    refine (Dc _).mono ?_
    rintro e w4 ⟨rfl, hb4⟩
    go_wp2_with fail
    refine (Dd _).mono ?_
    rintro e w5 ⟨rfl, hb5⟩
    clear Da Db Dc Dd
    have kB := keepb hb5 (keepb hb4 (keepb hb3 (keepb hb2 hb1)))
    clear hb1 hb2 hb3 hb4 hb5
    go_wp2_with fail
    refine (KP _).mono ?_
    rintro e w6 ⟨rfl, hb6⟩
    have kB6 := keepb hb6 kB
    clear hb6 kB KP
    go_wp2
    go_ret
    exact ⟨rfl, kB6.alloc kB6.size _⟩
  omega

set_option maxHeartbeats 4000000 in
theorem four_badT (A B C D : Nat) (a b c d : Int) (SA SB SC SD : ByteArray) (w : World)
    (Wa : ∀ w, Calls Try.prog 6 #[.int .i64 a, .int .i64 300] w fun e w' => e = .returned (.int .i64 (A : Int)) ∧ w' = w)
    (Wb : ∀ w, Calls Try.prog 6 #[.int .i64 b, .int .i64 300] w fun e w' => e = .returned (.int .i64 (B : Int)) ∧ w' = w)
    (Wc : ∀ w, Calls Try.prog 6 #[.int .i64 c, .int .i64 300] w fun e w' => e = .returned (.int .i64 (C : Int)) ∧ w' = w)
    (Wd : ∀ w, Calls Try.prog 6 #[.int .i64 d, .int .i64 300] w fun e w' => e = .returned (.int .i64 (D : Int)) ∧ w' = w)
    (Da : ∀ w, Calls Try.prog 7 #[.int .i64 (A : Int)] w fun e w' => e = .returned (.string SA) ∧ Below w.heap.size w w')
    (Db : ∀ w, Calls Try.prog 7 #[.int .i64 (B : Int)] w fun e w' => e = .returned (.string SB) ∧ Below w.heap.size w w')
    (Dc : ∀ w, Calls Try.prog 7 #[.int .i64 (C : Int)] w fun e w' => e = .returned (.string SC) ∧ Below w.heap.size w w')
    (Dd : ∀ w, Calls Try.prog 7 #[.int .i64 (D : Int)] w fun e w' => e = .returned (.string SD) ∧ Below w.heap.size w w')
    (za : SA.size ≤ 3) (zb : SB.size ≤ 3) (zc : SC.size ≤ 3) (zd : SD.size ≤ 3)
    (KP : ∀ w, Calls Try.prog 8 #[.int .i64 32, .string (⟨#[48]⟩ ++ (SA ++ ⟨#[46]⟩ ++ SB ++ ⟨#[46]⟩ ++ SC ++ ⟨#[46]⟩ ++ SD))] w fun e w' => e = .returned (.tuple #[.agg #[.int .u64 0, .int .u64 0], .int .i64 12]) ∧ Below w.heap.size w w') :
    Calls Try.prog 3 #[.int .i64 a, .int .i64 b, .int .i64 c, .int .i64 d, .bool true] w fun e w' => e = .returned (.bool true) ∧ Below w.heap.size w w' := by
  by_cases qa : (255 : Int) < A
  · go_enter Try.func3, Try.ntmps3
    go_wp2_with fail
    refine (known2_any _).mono ?_
    rintro e w1 ⟨rfl, hb1⟩
    go_wp2_with fail
    refine (Wa _).mono ?_
    rintro e w2 ⟨rfl, rfl⟩
    go_wp2_with fail
    refine (Wb _).mono ?_
    rintro e w2 ⟨rfl, rfl⟩
    go_wp2_with fail
    refine (Wc _).mono ?_
    rintro e w2 ⟨rfl, rfl⟩
    go_wp2_with fail
    refine (Wd _).mono ?_
    rintro e w2 ⟨rfl, rfl⟩
    clear Wa Wb Wc Wd
    go_wp2_with fail
    refine (Da _).mono ?_
    rintro e w2 ⟨rfl, hb2⟩
    go_wp2_with fail
    refine (Db _).mono ?_
    rintro e w3 ⟨rfl, hb3⟩
    go_wp2_with fail
    refine (Dc _).mono ?_
    rintro e w4 ⟨rfl, hb4⟩
    go_wp2_with fail
    refine (Dd _).mono ?_
    rintro e w5 ⟨rfl, hb5⟩
    clear Da Db Dc Dd
    have kB := keepb hb5 (keepb hb4 (keepb hb3 (keepb hb2 hb1)))
    clear hb1 hb2 hb3 hb4 hb5
    go_wp2_with fail
    refine (KP _).mono ?_
    rintro e w6 ⟨rfl, hb6⟩
    have kB6 := keepb hb6 kB
    clear hb6 kB KP
    go_wp2
    go_ret
    exact ⟨rfl, kB6.alloc kB6.size _⟩
  by_cases qb : (255 : Int) < B
  · go_enter Try.func3, Try.ntmps3
    go_wp2_with fail
    refine (known2_any _).mono ?_
    rintro e w1 ⟨rfl, hb1⟩
    go_wp2_with fail
    refine (Wa _).mono ?_
    rintro e w2 ⟨rfl, rfl⟩
    go_wp2_with fail
    refine (Wb _).mono ?_
    rintro e w2 ⟨rfl, rfl⟩
    go_wp2_with fail
    refine (Wc _).mono ?_
    rintro e w2 ⟨rfl, rfl⟩
    go_wp2_with fail
    refine (Wd _).mono ?_
    rintro e w2 ⟨rfl, rfl⟩
    clear Wa Wb Wc Wd
    go_wp2_with fail
    refine (Da _).mono ?_
    rintro e w2 ⟨rfl, hb2⟩
    go_wp2_with fail
    refine (Db _).mono ?_
    rintro e w3 ⟨rfl, hb3⟩
    go_wp2_with fail
    refine (Dc _).mono ?_
    rintro e w4 ⟨rfl, hb4⟩
    go_wp2_with fail
    refine (Dd _).mono ?_
    rintro e w5 ⟨rfl, hb5⟩
    clear Da Db Dc Dd
    have kB := keepb hb5 (keepb hb4 (keepb hb3 (keepb hb2 hb1)))
    clear hb1 hb2 hb3 hb4 hb5
    go_wp2_with fail
    refine (KP _).mono ?_
    rintro e w6 ⟨rfl, hb6⟩
    have kB6 := keepb hb6 kB
    clear hb6 kB KP
    go_wp2
    go_ret
    exact ⟨rfl, kB6.alloc kB6.size _⟩
  by_cases qc : (255 : Int) < C
  · go_enter Try.func3, Try.ntmps3
    go_wp2_with fail
    refine (known2_any _).mono ?_
    rintro e w1 ⟨rfl, hb1⟩
    go_wp2_with fail
    refine (Wa _).mono ?_
    rintro e w2 ⟨rfl, rfl⟩
    go_wp2_with fail
    refine (Wb _).mono ?_
    rintro e w2 ⟨rfl, rfl⟩
    go_wp2_with fail
    refine (Wc _).mono ?_
    rintro e w2 ⟨rfl, rfl⟩
    go_wp2_with fail
    refine (Wd _).mono ?_
    rintro e w2 ⟨rfl, rfl⟩
    clear Wa Wb Wc Wd
    go_wp2_with fail
    refine (Da _).mono ?_
    rintro e w2 ⟨rfl, hb2⟩
    go_wp2_with fail
    refine (Db _).mono ?_
    rintro e w3 ⟨rfl, hb3⟩
    go_wp2_with fail
    refine (Dc _).mono ?_
    rintro e w4 ⟨rfl, hb4⟩
    go_wp2_with fail
    refine (Dd _).mono ?_
    rintro e w5 ⟨rfl, hb5⟩
    clear Da Db Dc Dd
    have kB := keepb hb5 (keepb hb4 (keepb hb3 (keepb hb2 hb1)))
    clear hb1 hb2 hb3 hb4 hb5
    go_wp2_with fail
    refine (KP _).mono ?_
    rintro e w6 ⟨rfl, hb6⟩
    have kB6 := keepb hb6 kB
    clear hb6 kB KP
    go_wp2
    go_ret
    exact ⟨rfl, kB6.alloc kB6.size _⟩
  by_cases qd : (255 : Int) < D
  · go_enter Try.func3, Try.ntmps3
    go_wp2_with fail
    refine (known2_any _).mono ?_
    rintro e w1 ⟨rfl, hb1⟩
    go_wp2_with fail
    refine (Wa _).mono ?_
    rintro e w2 ⟨rfl, rfl⟩
    go_wp2_with fail
    refine (Wb _).mono ?_
    rintro e w2 ⟨rfl, rfl⟩
    go_wp2_with fail
    refine (Wc _).mono ?_
    rintro e w2 ⟨rfl, rfl⟩
    go_wp2_with fail
    refine (Wd _).mono ?_
    rintro e w2 ⟨rfl, rfl⟩
    clear Wa Wb Wc Wd
    go_wp2_with fail
    refine (Da _).mono ?_
    rintro e w2 ⟨rfl, hb2⟩
    go_wp2_with fail
    refine (Db _).mono ?_
    rintro e w3 ⟨rfl, hb3⟩
    go_wp2_with fail
    refine (Dc _).mono ?_
    rintro e w4 ⟨rfl, hb4⟩
    go_wp2_with fail
    refine (Dd _).mono ?_
    rintro e w5 ⟨rfl, hb5⟩
    clear Da Db Dc Dd
    have kB := keepb hb5 (keepb hb4 (keepb hb3 (keepb hb2 hb1)))
    clear hb1 hb2 hb3 hb4 hb5
    go_wp2_with fail
    refine (KP _).mono ?_
    rintro e w6 ⟨rfl, hb6⟩
    have kB6 := keepb hb6 kB
    clear hb6 kB KP
    go_wp2
    go_ret
    exact ⟨rfl, kB6.alloc kB6.size _⟩
  go_enter Try.func3, Try.ntmps3
  go_wp2_with fail
  refine (known2_any _).mono ?_
  rintro e w1 ⟨rfl, hb1⟩
  go_wp2_with fail
  refine (Wa _).mono ?_
  rintro e w2 ⟨rfl, rfl⟩
  go_wp2_with fail
  refine (Wb _).mono ?_
  rintro e w2 ⟨rfl, rfl⟩
  go_wp2_with fail
  refine (Wc _).mono ?_
  rintro e w2 ⟨rfl, rfl⟩
  go_wp2_with fail
  refine (Wd _).mono ?_
  rintro e w2 ⟨rfl, rfl⟩
  clear Wa Wb Wc Wd
  go_wp2_with fail
  refine (Da _).mono ?_
  rintro e w2 ⟨rfl, hb2⟩
  go_wp2_with fail
  refine (Db _).mono ?_
  rintro e w3 ⟨rfl, hb3⟩
  go_wp2_with fail
  refine (Dc _).mono ?_
  rintro e w4 ⟨rfl, hb4⟩
  go_wp2_with fail
  refine (Dd _).mono ?_
  rintro e w5 ⟨rfl, hb5⟩
  clear Da Db Dc Dd
  have kB := keepb hb5 (keepb hb4 (keepb hb3 (keepb hb2 hb1)))
  clear hb1 hb2 hb3 hb4 hb5
  go_wp2_with fail
  refine (KP _).mono ?_
  rintro e w6 ⟨rfl, hb6⟩
  have kB6 := keepb hb6 kB
  clear hb6 kB KP
  go_wp2
  go_ret
  exact ⟨rfl, kB6.alloc kB6.size _⟩
end Go.Proofs.Ytldjeabdoooihab
