/-
  What a call of package word's Ones does.
-/
import Derived.Test.YtkahilfklgobpaaDoorCnt2
import Derived.Deep.QuietTactic
import Derived.BigQuiet
namespace Go.Proofs.YtkahilfklgobpaaDoor
open Go.RowKit
set_option linter.unusedSimpArgs false
set_option linter.unusedVariables false

theorem ones_end (a b : Nat) (h1 : a ≤ 64) (h2 : b ≤ 64) : IntKind.i64.wrap ((a : Int) + b) = ((a + b : Nat) : Int) := by
  rw [IntKind.wrap_i64]; omega
/-- How many bits are set in the number. -/
def ocI (v : Int) : Int := ((oc 8 v.toNat : Nat) : Int)
theorem oc_int (v : Int) (w : World) (h0 : 0 ≤ v) (h1 : v < 18446744073709551616) :
    Calls Tryd.prog 19 #[.int .u64 v] w fun e w' => e = .returned (.int .i64 (ocI v)) ∧ w' = w := by
  obtain ⟨n, rfl⟩ := Int.eq_ofNat_of_zero_le h0
  exact oc_any n w (by omega)
theorem ocI_bd (v : Int) : 0 ≤ ocI v ∧ ocI v ≤ 64 := by
  have := oc_le 8 v.toNat
  unfold ocI; omega

set_option maxHeartbeats 1000000 in
theorem ones_any (x : BitVec 128) (w : World) :
    Calls Tryd.prog 7 #[.agg #[.int .u64 (hI x), .int .u64 (lI x)]] w fun e w' => e = .returned (.int .i64 ((onesN x : Nat) : Int)) ∧ Below w.heap.size w w' := by
  have a1 := hI_lo x
  have a2 := hI_up x
  have a3 := lI_lo x
  have a4 := lI_up x
  have HS : Hid (((onesN x : Nat) : Int) = ocI (hI x) + ocI (lI x)) := by
    show _ = _
    unfold onesN ocI hI lI; simp
  have b1 := ocI_bd (hI x)
  have b2 := ocI_bd (lI x)
  generalize hI x = h at *
  generalize lI x = l at *
  go_enter Tryd.func7, Tryd.ntmps7
  go_wp2
  go_quiet ((go_at_call 19; exact Calls.quiet_of_same (oc_int _ _ (by assumption) (by assumption))))
  go_wp2
  go_ret
  refine ⟨congrArg Ending.returned (congrArg (Value.int IntKind.i64) ?_), below_drewN (bl1 _ _) _⟩
  rw [HS.out]
end Go.Proofs.YtkahilfklgobpaaDoor
