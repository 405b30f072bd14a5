/-
  Numbers of 192 bits in variables.
-/
import Derived.Test.YtnaamkkjledllaaC9K
import Derived.Test.YtnaamkkjledllaaQw
namespace Go.Proofs.Ytnaamkkjledllaa
open Go.RowKit
set_option linter.unusedSimpArgs false
set_option linter.unusedVariables false

/-- Numbers in variables. -/
def Kc (W : World) : List (Nat × Int × Int × Int) → Prop
  | [] => True
  | e :: L => AtC W e.1 e.2.1 e.2.2.1 e.2.2.2 ∧ Kc W L
theorem Kc.below {W W' : World} (hb : Below W.heap.size W W') : ∀ {L : List (Nat × Int × Int × Int)}, Kc W L → Kc W' L
  | [], _ => trivial
  | e :: L, h => ⟨h.1.below hb, Kc.below hb h.2⟩
def Kcs (w W : World) (L : List (Nat × Int × Int × Int)) : Prop := Kc W L ∧ Below w.heap.size w W
theorem Kcs.below {w W W' : World} {L : List (Nat × Int × Int × Int)} (h : Kcs w W L) (hb : Below W.heap.size W W') : Kcs w W' L := ⟨Kc.below hb h.1, keepb hb h.2⟩
theorem Kcs.drew {w W : World} {L : List (Nat × Int × Int × Int)} (h : Kcs w W L) : Kcs w W.drew L := h.below (below_drewN (Below.refl _ _) 1)
theorem Kcs.new {w W W' : World} {L : List (Nat × Int × Int × Int)} {a b c : Int} (h : Kcs w W L) (hb : Below W.heap.size W W') : Kcs w (W'.alloc (.cells #[.int .u64 a, .int .u64 b, .int .u64 c] 24)) ((W'.heap.size, a, b, c) :: L) := by
  have hq := bl1 W' (.cells #[.int .u64 a, .int .u64 b, .int .u64 c] 24)
  exact ⟨⟨atc_new W' W'.heap.size a b c 24 rfl, Kc.below hq (Kc.below hb h.1)⟩, keepb hq (keepb hb h.2)⟩
theorem Kcs.nil (w : World) : Kcs w w [] := ⟨trivial, Below.refl _ _⟩
theorem Kcs.one (w : World) (a b c : Int) : Kcs w (w.alloc (.cells #[.int .u64 a, .int .u64 b, .int .u64 c] 24)) [(w.heap.size, a, b, c)] := Kcs.new (Kcs.nil w) (Below.refl _ _)
theorem add_in (N M : Nat) (w : World) (h : N + M < 6277101735386680763835789423207666416102355444464034512896) :
    Calls Try.prog 9 #[costV N, costV M] w fun e w' => e = .returned (.tuple #[costV (N + M), .int .i64 0]) ∧ Below w.heap.size w w' := by
  have := add9_any N M w (by omega) (by omega)
  rwa [(fit_in h).1, (fit_in h).2] at this
theorem add_out (N M : Nat) (w : World) (hN : N < 6277101735386680763835789423207666416102355444464034512896) (hM : M < 6277101735386680763835789423207666416102355444464034512896) (h : ¬ N + M < 6277101735386680763835789423207666416102355444464034512896) :
    Calls Try.prog 9 #[costV N, costV M] w fun e w' => e = .returned (.tuple #[.agg #[.int .u64 0, .int .u64 0, .int .u64 0], .int .i64 6]) ∧ Below w.heap.size w w' := by
  have := add9_any N M w hN hM
  rwa [(fit_out h).1, (fit_out h).2, costV_zero] at this
theorem mul_in (N n : Nat) (w : World) (hN : N < 6277101735386680763835789423207666416102355444464034512896) (hn : n < 18446744073709551616) (h : N * n < 6277101735386680763835789423207666416102355444464034512896) :
    Calls Try.prog 10 #[costV N, .int .u64 (n : Int)] w fun e w' => e = .returned (.tuple #[costV (N * n), .int .i64 0]) ∧ Below w.heap.size w w' := by
  have := mul9_any N n w hN hn
  rwa [(fit_in h).1, (fit_in h).2] at this
theorem mul_out (N n : Nat) (w : World) (hN : N < 6277101735386680763835789423207666416102355444464034512896) (hn : n < 18446744073709551616) (h : ¬ N * n < 6277101735386680763835789423207666416102355444464034512896) :
    Calls Try.prog 10 #[costV N, .int .u64 (n : Int)] w fun e w' => e = .returned (.tuple #[.agg #[.int .u64 0, .int .u64 0, .int .u64 0], .int .i64 6]) ∧ Below w.heap.size w w' := by
  have := mul9_any N n w hN hn
  rwa [(fit_out h).1, (fit_out h).2, costV_zero] at this
theorem eqC_same (a b c : Int) (w : World) : (Op.equalIn 10000 24 (.agg #[.int .u64 a, .int .u64 b, .int .u64 c]) (.agg #[.int .u64 a, .int .u64 b, .int .u64 c])).run Try.prog w = .ok true w := by
  rw [eqC_any]; congr 1; unfold eq9; simp
end Go.Proofs.Ytnaamkkjledllaa
