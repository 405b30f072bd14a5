/-
  The law AddrWalk, of any arguments.
-/
import Derived.Test.YtldjeabdoooihabLawWalk
namespace Go.Proofs.Ytldjeabdoooihab
open Go.RowKit

theorem addrWalk_any (six : Bool) (x : BitVec 128) (n : Int) (w : World) :
    Calls Try.prog 4 #[.bool six, .agg #[.int .u64 (hI x), .int .u64 (lI x)], .int .i64 n] w fun e w' => e = .returned (.bool true) ∧ Below w.heap.size w w' := by
  have h0 := Int.emod_nonneg n (b := 300) (by omega)
  have h1 := Int.emod_lt_of_pos n (b := 300) (by omega)
  have KW := fun w => within_any n 300 w (by omega) (by omega)
  have hf : fam (if six = true then 128 else 32) = true := by cases six <;> decide
  have e : n % 300 = (((n % 300).toNat : Nat) : Int) := by omega
  rw [e] at KW
  exact walk_core six _ hf x _ rfl n (n % 300).toNat (by omega) w (fun w => family_any six w) KW
end Go.Proofs.Ytldjeabdoooihab
