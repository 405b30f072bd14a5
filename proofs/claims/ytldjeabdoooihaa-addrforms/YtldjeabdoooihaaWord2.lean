/-
  What each call of package word's Bit, Mask, Add, Sub and Cmp does.
-/
import Derived.Test.YtldjeabdoooihaaWord
import Derived.Test.YtldjeabdoooihaaNum2
namespace Go.Proofs.Ytldjeabdoooihaa
open Go.RowKit
set_option linter.unusedSimpArgs false
set_option linter.unusedVariables false

theorem bcell {W w1 : World} (hb : Below W.heap.size W w1) : (∀ b o, b < W.heap.size → w1.cell? ⟨b, o, none⟩ = W.cell? ⟨b, o, none⟩) ∧ (∀ b o, b < W.heap.size → w1.frozen? ⟨b, o, none⟩ = W.frozen? ⟨b, o, none⟩) :=
  ⟨fun b o h => hb.cell (p := ⟨b, o, none⟩) h, fun b o h => hb.frozen (p := ⟨b, o, none⟩) h⟩

theorem fld0 (a b : Int) (w : World) : (Instr.field 24 (.agg #[.int .u64 a, .int .u64 b]) 0).run Try.prog w = .ok (.int .u64 a) w := by kernel_rfl
theorem fld1 (a b : Int) (w : World) : (Instr.field 24 (.agg #[.int .u64 a, .int .u64 b]) 1).run Try.prog w = .ok (.int .u64 b) w := by kernel_rfl
theorem not0_any (w : World) :
    Calls Try.prog 57 #[.agg #[.int .u64 0, .int .u64 0]] w fun e w' => e = .returned (.agg #[.int .u64 (hI allW), .int .u64 (lI allW)]) ∧ Below w.heap.size w w' := by
  have h := not_any 0#128 w
  rw [hI_zero, lI_zero] at h
  exact h

set_option maxHeartbeats 400000 in
theorem mask_any (n : Int) (w : World) :
    Calls Try.prog 32 #[.int .i64 n] w fun e w' => e = .returned (.agg #[.int .u64 (hI (maskW n)), .int .u64 (lI (maskW n))]) ∧ Below w.heap.size w w' := by
  unfold maskW
  go_enter Try.func32, Try.ntmps32
  go_wp2_with fail
  refine (not0_any _).mono ?_
  rintro e w1 ⟨rfl, hb1⟩
  obtain ⟨hc1, hf1⟩ := bcell hb1
  have hz1 : w.heap.size < w1.heap.size := by have := hb1.size; simp at this; omega
  go_wp2_with fail
  refine (shr_any _ _ _).mono ?_
  rintro e w2 ⟨rfl, hb2⟩
  obtain ⟨hc2, hf2⟩ := bcell hb2
  have hz2 : w.heap.size < w2.heap.size := by have := hb2.size; omega
  go_wp2_with fail
  refine (not_any _ _).mono ?_
  rintro e w3 ⟨rfl, hb3⟩
  obtain ⟨hc3, hf3⟩ := bcell hb3
  have hz3 : w.heap.size < w3.heap.size := by have := hb3.size; omega
  go_wp2
  exact bodyPost_ret (v := .agg #[.int .u64 (hI (~~~(allW >>> n.toNat))), .int .u64 (lI (~~~(allW >>> n.toNat)))]) (by simp [results, Try.results32, go_sem, *]) rfl ⟨rfl, (((((bl1 _ _).trans (hb1.mono (by simp))).trans (hb2.mono (by omega))).trans (hb3.mono (by omega))).setCell (by simp) _).setCell (by simp) _⟩

theorem callAdd (x y c : Int) (hx : 0 ≤ x) (hy : 0 ≤ y) (h0 : 0 ≤ c) (h1 : c ≤ 1) (w : World) :
    (callFunc 55 #[.int .u64 x, .int .u64 y, .int .u64 c]).run Try.prog w = .ok (.value (.tuple #[.int .u64 (addS x y c), .int .u64 (addC x y c)])) w := by
  rw [run_callFunc_extern Try.func55 (by kernel_rfl) (by kernel_rfl) (by kernel_rfl) (e := add64Entry) (by kernel_rfl), run_add64 x y c hx hy h0 h1]
  rfl

set_option maxHeartbeats 400000 in
theorem add_any (x y : BitVec 128) (w : World) :
    Calls Try.prog 30 #[.agg #[.int .u64 (hI x), .int .u64 (lI x)], .agg #[.int .u64 (hI y), .int .u64 (lI y)]] w fun e w' => e = .returned (.tuple #[.agg #[.int .u64 (hI (x + y)), .int .u64 (lI (x + y))], .bool (overB x y)]) ∧ Below w.heap.size w w' := by
  have b := addC_bd (lI x) (lI y) 0 (lI_lo x) (lI_up x) (lI_lo y) (lI_up y) (by omega) (by omega)
  have c1 := callAdd (lI x) (lI y) 0 (lI_lo x) (lI_lo y) (by omega) (by omega)
  have c2 := callAdd (hI x) (hI y) (addC (lI x) (lI y) 0) (hI_lo x) (hI_lo y) b.1 b.2
  clear b
  rw [add_l] at c1
  rw [add_h, add_c] at c2
  cases h : overB x y <;> simp only [h, if_true, Bool.false_eq_true, if_false] at c2
  all_goals
    clear h
    go_enter Try.func30, Try.ntmps30
    go_wp2
  · exact bodyPost_ret (v := .tuple #[.agg #[.int .u64 (hI (x + y)), .int .u64 (lI (x + y))], .bool false]) (by simp [results, Try.results30, go_sem]) rfl ⟨rfl, bl3 _ _ _ _⟩
  · exact bodyPost_ret (v := .tuple #[.agg #[.int .u64 (hI (x + y)), .int .u64 (lI (x + y))], .bool true]) (by simp [results, Try.results30, go_sem]) rfl ⟨rfl, bl3 _ _ _ _⟩

/-- The model's entry for math/bits.Sub64. -/
def sub64Entry : Array Value → Sem Value := fun args => do
  let (x, y, b) ← Extern.MathBitsCarry.three "Sub64" args
  pure (Extern.MathBitsCarry.pair ((x + Extern.MathBitsCarry.m64 - y - b) % Extern.MathBitsCarry.m64) (if x < y + b then 1 else 0))

theorem callSub (x y c : Int) (hx : 0 ≤ x) (hx' : x < 18446744073709551616) (hy : 0 ≤ y) (hy' : y < 18446744073709551616) (h0 : 0 ≤ c) (h1 : c ≤ 1) (w : World) :
    (callFunc 56 #[.int .u64 x, .int .u64 y, .int .u64 c]).run Try.prog w = .ok (.value (.tuple #[.int .u64 (subS x y c), .int .u64 (subC x y c)])) w := by
  have key : ∀ X Y : Nat, ∀ k : Nat, k ≤ 1 → (sub64Entry #[.int .u64 (X : Int), .int .u64 (Y : Int), .int .u64 (k : Int)]).run Try.prog w =
      .ok (Extern.MathBitsCarry.pair ((X + Extern.MathBitsCarry.m64 - Y - k) % Extern.MathBitsCarry.m64) (if X < Y + k then 1 else 0)) w := by
    intro X Y k hk
    have : k = 0 ∨ k = 1 := by omega
    rcases this with rfl | rfl <;> rfl
  obtain ⟨k, rfl⟩ := Int.eq_ofNat_of_zero_le h0
  obtain ⟨X, rfl⟩ := Int.eq_ofNat_of_zero_le hx
  obtain ⟨Y, rfl⟩ := Int.eq_ofNat_of_zero_le hy
  rw [run_callFunc_extern Try.func56 (by kernel_rfl) (by kernel_rfl) (by kernel_rfl) (e := sub64Entry) (by kernel_rfl), key X Y k (by omega)]
  simp only [Result.andThen, Extern.MathBitsCarry.pair, Extern.MathBitsCarry.m64]
  have e1 : Int.ofNat ((X + 2 ^ 64 - Y - k) % 2 ^ 64) = subS X Y k := by unfold subS; simp; omega
  have e2 : Int.ofNat (if X < Y + k then 1 else 0) = subC X Y k := by unfold subC; split <;> split <;> simp <;> omega
  rw [e1, e2]

set_option maxHeartbeats 400000 in
theorem sub_any (x y : BitVec 128) (w : World) :
    Calls Try.prog 31 #[.agg #[.int .u64 (hI x), .int .u64 (lI x)], .agg #[.int .u64 (hI y), .int .u64 (lI y)]] w fun e w' => e = .returned (.tuple #[.agg #[.int .u64 (hI (x - y)), .int .u64 (lI (x - y))], .bool (underB x y)]) ∧ Below w.heap.size w w' := by
  have b := subC_bd (lI x) (lI y) 0
  have c1 := callSub (lI x) (lI y) 0 (lI_lo x) (lI_up x) (lI_lo y) (lI_up y) (by omega) (by omega)
  have c2 := callSub (hI x) (hI y) (subC (lI x) (lI y) 0) (hI_lo x) (hI_up x) (hI_lo y) (hI_up y) b.1 b.2
  clear b
  rw [sub_l] at c1
  rw [sub_h, sub_c] at c2
  cases h : underB x y <;> simp only [h, if_true, Bool.false_eq_true, if_false] at c2
  all_goals
    clear h
    go_enter Try.func31, Try.ntmps31
    go_wp2
  · exact bodyPost_ret (v := .tuple #[.agg #[.int .u64 (hI (x - y)), .int .u64 (lI (x - y))], .bool false]) (by simp [results, Try.results31, go_sem]) rfl ⟨rfl, bl3 _ _ _ _⟩
  · exact bodyPost_ret (v := .tuple #[.agg #[.int .u64 (hI (x - y)), .int .u64 (lI (x - y))], .bool true]) (by simp [results, Try.results31, go_sem]) rfl ⟨rfl, bl3 _ _ _ _⟩

end Go.Proofs.Ytldjeabdoooihaa
