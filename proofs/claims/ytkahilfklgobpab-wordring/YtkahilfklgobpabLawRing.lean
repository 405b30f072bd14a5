/-
  The law WordRing, its cases put together.
-/
import Derived.Test.YtkahilfklgobpabLawRingE
import Derived.Test.YtkahilfklgobpabLawRingH
import Derived.Test.YtkahilfklgobpabLawRingL
namespace Go.Proofs.Ytkahilfklgobpab
open Go.RowKit

theorem wordRing_any (a b c : BitVec 128) (w : World) :
    Calls Try.prog 3 #[.agg #[.int .u64 (hI a), .int .u64 (lI a)], .agg #[.int .u64 (hI b), .int .u64 (lI b)], .agg #[.int .u64 (hI c), .int .u64 (lI c)]] w fun e w' => e = .returned (.bool true) ∧ Below w.heap.size w w' := by
  by_cases h : a = b
  · subst h
    by_cases hM : cmpZ a c ≤ 0
    · exact ring_eq2 a c w hM
    · exact ring_eq1 a c w (by omega)
  · have hlt : leadN (a ^^^ b) < 128 := by
      have h1 := lead_le (a ^^^ b)
      have h2 : leadN (a ^^^ b) ≠ 128 := fun q => h ((xor_eq0 a b).mp ((lead_128 _).mp q))
      omega
    have hne : ¬ hI a = hI b ∨ ¬ lI a = lI b := by
      by_cases q : hI a = hI b
      · exact Or.inr fun r => h (eq_ints q r)
      · exact Or.inl q
    rcases first_bit a b hlt with ⟨ha, hb, hc⟩ | ⟨ha, hb, hc⟩
    · by_cases hM : cmpZ b c ≤ 0
      · have hP := ring7 a b c (by rw [hc]; decide) hM
        rcases hne with q | q
        · exact ring_lt2h a b c w _ hlt rfl ha hb hc q hM hP
        · exact ring_lt2l a b c w _ hlt rfl ha hb hc q hM hP
      · rcases hne with q | q
        · exact ring_lt1h a b c w _ hlt rfl ha hb hc q (by omega)
        · exact ring_lt1l a b c w _ hlt rfl ha hb hc q (by omega)
    · rcases hne with q | q
      · exact ring_gth a b c w _ hlt rfl ha hb hc q
      · exact ring_gtl a b c w _ hlt rfl ha hb hc q
end Go.Proofs.Ytkahilfklgobpab
