/-
  The law AddrBeside, walked.
-/
import Derived.Test.YtldjeabdoooihaaRefD
import Derived.Test.YtldjeabdoooihaaAdrP
namespace Go.Proofs.Ytldjeabdoooihaa
open Go.RowKit
set_option linter.unusedSimpArgs false
set_option linter.unusedVariables false

set_option maxHeartbeats 4000000 in
theorem addrBeside_any (F : Int) (x : BitVec 128) (w : World) :
    Calls Try.prog 4 #[.int .i64 F, .agg #[.int .u64 (hI x), .int .u64 (lI x)]] w fun e w' => e = .returned (.bool true) ∧ Below w.heap.size w w' := by
  have KN := fun w => anext_any F x w
  have KP := fun w => aprev_any F x w
  have KL := fun w => alast_any F w
  have RN := fun w => rnext_any F x w
  have RP := fun w => rprev_any F x w
  have RL := fun w => rlast_any F w
  generalize nextV F x = a at *
  generalize nextB F x = b at *
  generalize prevV F x = c at *
  generalize prevB F x = d at *
  generalize lastV F = l at *
  generalize lastE F = g at *
  go_enter Try.func4, Try.ntmps4
  go_wp2_with fail
  have X0 := at_new w w.heap.size x 24 rfl
  have kB0 := bl1 w (.cells #[.int .u64 (hI x), .int .u64 (lI x)] 24)
  refine (KN _).mono ?_
  rintro e w1 ⟨rfl, hb1⟩
  clear KN
  have kB1 := (keepb hb1 kB0).alloc (keepb hb1 kB0).size (.cells #[.int .u64 (hI a), .int .u64 (lI a)] 24)
  have X1 := (X0.below hb1).below (bl1 _ (.cells #[.int .u64 (hI a), .int .u64 (lI a)] 24))
  have A1 := at_new w1 w1.heap.size a 24 rfl
  clear X0 kB0 hb1
  obtain ⟨x_0, x_1, -, -, -⟩ := id X1
  obtain ⟨a_0, a_1, -, -, -⟩ := id A1
  go_wp2_with fail
  refine (KP _).mono ?_
  rintro e w2 ⟨rfl, hb2⟩
  clear KP
  clear x_0 x_1 a_0 a_1
  have kB2 := (keepb hb2 kB1).alloc (keepb hb2 kB1).size (.cells #[.int .u64 (hI c), .int .u64 (lI c)] 24)
  have X2 := (X1.below hb2).below (bl1 _ (.cells #[.int .u64 (hI c), .int .u64 (lI c)] 24))
  have A2 := (A1.below hb2).below (bl1 _ (.cells #[.int .u64 (hI c), .int .u64 (lI c)] 24))
  have C2 := at_new w2 w2.heap.size c 24 rfl
  clear X1 A1 kB1 hb2
  obtain ⟨x_0, x_1, -, -, -⟩ := id X2
  obtain ⟨a_0, a_1, -, -, -⟩ := id A2
  obtain ⟨c_0, c_1, -, -, -⟩ := id C2
  go_wp2_with fail
  refine (KL _).mono ?_
  rintro e w3 ⟨rfl, hb3⟩
  clear KL
  clear x_0 x_1 a_0 a_1 c_0 c_1
  have kB3 := (keepb hb3 kB2).alloc (keepb hb3 kB2).size (.cells #[.int .u64 (hI l), .int .u64 (lI l)] 24)
  have X3 := (X2.below hb3).below (bl1 _ (.cells #[.int .u64 (hI l), .int .u64 (lI l)] 24))
  have A3 := (A2.below hb3).below (bl1 _ (.cells #[.int .u64 (hI l), .int .u64 (lI l)] 24))
  have C3 := (C2.below hb3).below (bl1 _ (.cells #[.int .u64 (hI l), .int .u64 (lI l)] 24))
  have L3 := at_new w3 w3.heap.size l 24 rfl
  clear X2 A2 C2 kB2 hb3
  obtain ⟨x_0, x_1, -, -, -⟩ := id X3
  obtain ⟨a_0, a_1, -, -, -⟩ := id A3
  obtain ⟨c_0, c_1, -, -, -⟩ := id C3
  obtain ⟨l_0, l_1, -, -, -⟩ := id L3
  go_wp2_with fail
  refine (RN _).mono ?_
  rintro e w4 ⟨rfl, hb4⟩
  clear RN
  clear x_0 x_1 a_0 a_1 c_0 c_1 l_0 l_1
  have kB4 := (keepb hb4 kB3).alloc (keepb hb4 kB3).size (.cells #[.int .u64 (hI a), .int .u64 (lI a)] 24)
  have X4 := (X3.below hb4).below (bl1 _ (.cells #[.int .u64 (hI a), .int .u64 (lI a)] 24))
  have A4 := (A3.below hb4).below (bl1 _ (.cells #[.int .u64 (hI a), .int .u64 (lI a)] 24))
  have C4 := (C3.below hb4).below (bl1 _ (.cells #[.int .u64 (hI a), .int .u64 (lI a)] 24))
  have L4 := (L3.below hb4).below (bl1 _ (.cells #[.int .u64 (hI a), .int .u64 (lI a)] 24))
  have D4 := at_new w4 w4.heap.size a 24 rfl
  clear X3 A3 C3 L3 kB3 hb4
  obtain ⟨x_0, x_1, -, -, -⟩ := id X4
  obtain ⟨a_0, a_1, -, -, -⟩ := id A4
  obtain ⟨c_0, c_1, -, -, -⟩ := id C4
  obtain ⟨l_0, l_1, -, -, -⟩ := id L4
  obtain ⟨d_0, d_1, -, -, -⟩ := id D4
  go_wp2_with fail
  refine (RP _).mono ?_
  rintro e w5 ⟨rfl, hb5⟩
  clear RP
  clear x_0 x_1 a_0 a_1 c_0 c_1 l_0 l_1 d_0 d_1
  have kB5 := (keepb hb5 kB4).alloc (keepb hb5 kB4).size (.cells #[.int .u64 (hI c), .int .u64 (lI c)] 24)
  have X5 := (X4.below hb5).below (bl1 _ (.cells #[.int .u64 (hI c), .int .u64 (lI c)] 24))
  have A5 := (A4.below hb5).below (bl1 _ (.cells #[.int .u64 (hI c), .int .u64 (lI c)] 24))
  have C5 := (C4.below hb5).below (bl1 _ (.cells #[.int .u64 (hI c), .int .u64 (lI c)] 24))
  have L5 := (L4.below hb5).below (bl1 _ (.cells #[.int .u64 (hI c), .int .u64 (lI c)] 24))
  have D5 := (D4.below hb5).below (bl1 _ (.cells #[.int .u64 (hI c), .int .u64 (lI c)] 24))
  have E5 := at_new w5 w5.heap.size c 24 rfl
  clear X4 A4 C4 L4 D4 kB4 hb5
  obtain ⟨x_0, x_1, -, -, -⟩ := id X5
  obtain ⟨a_0, a_1, -, -, -⟩ := id A5
  obtain ⟨c_0, c_1, -, -, -⟩ := id C5
  obtain ⟨l_0, l_1, -, -, -⟩ := id L5
  obtain ⟨d_0, d_1, -, -, -⟩ := id D5
  obtain ⟨e_0, e_1, -, -, -⟩ := id E5
  go_wp2_with fail
  refine (RL _).mono ?_
  rintro e w6 ⟨rfl, hb6⟩
  clear RL
  clear x_0 x_1 a_0 a_1 c_0 c_1 l_0 l_1 d_0 d_1 e_0 e_1
  have kB6 := (keepb hb6 kB5).alloc (keepb hb6 kB5).size (.cells #[.int .u64 (hI l), .int .u64 (lI l)] 24)
  have X6 := (X5.below hb6).below (bl1 _ (.cells #[.int .u64 (hI l), .int .u64 (lI l)] 24))
  have A6 := (A5.below hb6).below (bl1 _ (.cells #[.int .u64 (hI l), .int .u64 (lI l)] 24))
  have C6 := (C5.below hb6).below (bl1 _ (.cells #[.int .u64 (hI l), .int .u64 (lI l)] 24))
  have L6 := (L5.below hb6).below (bl1 _ (.cells #[.int .u64 (hI l), .int .u64 (lI l)] 24))
  have D6 := (D5.below hb6).below (bl1 _ (.cells #[.int .u64 (hI l), .int .u64 (lI l)] 24))
  have E6 := (E5.below hb6).below (bl1 _ (.cells #[.int .u64 (hI l), .int .u64 (lI l)] 24))
  have M6 := at_new w6 w6.heap.size l 24 rfl
  clear X5 A5 C5 L5 D5 E5 kB5 hb6
  obtain ⟨x_0, x_1, -, -, -⟩ := id X6
  obtain ⟨a_0, a_1, -, -, -⟩ := id A6
  obtain ⟨c_0, c_1, -, -, -⟩ := id C6
  obtain ⟨l_0, l_1, -, -, -⟩ := id L6
  obtain ⟨d_0, d_1, -, -, -⟩ := id D6
  obtain ⟨e_0, e_1, -, -, -⟩ := id E6
  obtain ⟨m_0, m_1, -, -, -⟩ := id M6
  go_wp2_with fail
  refine (known2_any _).mono ?_
  rintro e w7 ⟨rfl, hb7⟩
  clear x_0 x_1 a_0 a_1 c_0 c_1 l_0 l_1 d_0 d_1 e_0 e_1 m_0 m_1
  have kB7 := keepb hb7 kB6
  obtain ⟨x_0, x_1, -, -, -⟩ := X6.below hb7
  obtain ⟨a_0, a_1, -, -, -⟩ := A6.below hb7
  obtain ⟨c_0, c_1, -, -, -⟩ := C6.below hb7
  obtain ⟨l_0, l_1, -, -, -⟩ := L6.below hb7
  obtain ⟨d_0, d_1, -, -, -⟩ := D6.below hb7
  obtain ⟨e_0, e_1, -, -, -⟩ := E6.below hb7
  obtain ⟨m_0, m_1, -, -, -⟩ := M6.below hb7
  clear hb7 kB6 X6 A6 C6 L6 D6 E6 M6
  go_wp2
  go_ret
  exact ⟨rfl, kB7⟩
end Go.Proofs.Ytldjeabdoooihaa
