/-
  What the call of law 9's known does.
-/
import Derived.Test.YtnaamkkjledllaaC9T
namespace Go.Proofs.Ytnaamkkjledllaa
open Go.RowKit
set_option linter.unusedSimpArgs false
set_option linter.unusedVariables false

set_option maxRecDepth 20000 in
set_option maxHeartbeats 2000000 in
theorem least_none (w : World) : Calls Try.prog 20 #[.slice none 0 0] w fun e w' => e = .returned (.int .i64 (-1)) ∧ Below w.heap.size w w' := by
  have HB := hid9 (Below.refl w.heap.size w)
  go_enter Try.func20, Try.ntmps20
  go_wp2_with fail
  go_loopw [3, 8] (fun a i wr => a = .int .i64 (-1) ∧ i = .int .i64 0 ∧ wr = w) (fun _ _ _ => 0)
  case atStart => exact ⟨rfl, rfl, rfl⟩
  case round =>
    obtain ⟨rfl, rfl, rfl⟩ := hrel
    go_wp2
    go_ret
    exact ⟨rfl, HB.out⟩
theorem txt128 : (⟨(txN (2 ^ 128)).toArray⟩ : ByteArray) = ⟨#[51, 52, 48, 50, 56, 50, 51, 54, 54, 57, 50, 48, 57, 51, 56, 52, 54, 51, 52, 54, 51, 51, 55, 52, 54, 48, 55, 52, 51, 49, 55, 54, 56, 50, 49, 49, 52, 53, 54]⟩ := by
  have : txN (2 ^ 128) = [51, 52, 48, 50, 56, 50, 51, 54, 54, 57, 50, 48, 57, 51, 56, 52, 54, 51, 52, 54, 51, 51, 55, 52, 54, 48, 55, 52, 51, 49, 55, 54, 56, 50, 49, 49, 52, 53, 54] := by decide +kernel
  rw [this]
set_option maxRecDepth 20000 in
set_option maxHeartbeats 2000000 in
theorem known9_any (w : World) : Calls Try.prog 15 #[] w fun e w' => e = .returned (.bool true) ∧ Below w.heap.size w w' := by
  have KP := fun w => pow9_any 64 w (by decide) (by decide)
  rw [show powN 64 = 2 ^ (0 + 64) from rfl, cost_1 0 (by decide), show powE 64 = 0 from rfl, show ((2 ^ 0 : Nat) : Int) = 1 from rfl] at KP
  have KT := fun w => text9_any (2 ^ 128) w (by decide)
  rw [cost_2, txt128] at KT
  have KL := least_none
  have hq := eqC_any 0 1 0 0 1 0
  rw [show eq9 0 1 0 0 1 0 = true from rfl] at hq
  go_enter Try.func15, Try.ntmps15
  go_wp2_with fail
  refine (KP _).mono ?_
  rintro e w1 ⟨rfl, hb1⟩
  have HB1 := hid9 (keepb (bl1 w1 (.cells #[.int .u64 0, .int .u64 1, .int .u64 0] 24)) hb1)
  clear hb1 KP
  go_wp2_with fail
  refine (KT _).mono ?_
  rintro e w2 ⟨rfl, hb2⟩
  have HB2 := hid9 (keepb hb2 HB1.out)
  clear hb2 HB1 KT
  go_wp2_with fail
  refine (KL _).mono ?_
  rintro e w3 ⟨rfl, hb3⟩
  have HB3 := hid9 (keepb hb3 HB2.out)
  clear hb3 HB2 KL
  go_wp2
  go_ret
  exact ⟨rfl, HB3.out⟩
end Go.Proofs.Ytnaamkkjledllaa
