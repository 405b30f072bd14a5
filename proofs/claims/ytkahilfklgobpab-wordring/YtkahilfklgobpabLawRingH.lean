/-
  The law WordRing, walked.
-/
import Derived.Test.YtkahilfklgobpabNumR
import Derived.Test.YtkahilfklgobpabQt
namespace Go.Proofs.Ytkahilfklgobpab
open Go.RowKit
set_option linter.unusedSimpArgs false
set_option linter.unusedVariables false

set_option maxHeartbeats 8000000 in
set_option maxRecDepth 100000 in
theorem ring_gth (a b c : BitVec 128) (w : World) (k : Nat) (hk : k < 128) (hl : leadN (a ^^^ b) = k) (ha : bitZ a (k : Int) = 1) (hb : bitZ b (k : Int) = 0) (hc : cmpZ a b = 1) (hne : ¬ hI a = hI b) :
    Calls Try.prog 3 #[.agg #[.int .u64 (hI a), .int .u64 (lI a)], .agg #[.int .u64 (hI b), .int .u64 (lI b)], .agg #[.int .u64 (hI c), .int .u64 (lI c)]] w fun e w' => e = .returned (.bool true) ∧ Below w.heap.size w w' := by
  have e1 := ring1 a b
  have e2 := ring2 a b
  have e3 := ring3 a b c
  have e4 := ring4 a b
  have e8 : ((onesN a : Nat) : Int) + ((onesN (~~~a) : Nat) : Int) = 128 := by have := ones_not a; omega
  have g8 : IntKind.i64.wrap (((onesN a : Nat) : Int) + ((onesN (~~~a) : Nat) : Int)) = 128 := by rw [e8]; decide
  have e5 : cmpZ b a = -1 := by rw [ring5, hc]; decide
  have e6 : underB a b = false := by have := cmp_lt a b; rw [hc] at this; cases q : underB a b <;> simp_all
  have hk2 : (k : Int) < 128 := by omega
  have hk3 : ((k : Int) == 128) = false := by simp; omega
  go_enter Try.func3, Try.ntmps3
  go_wp2_with fail
  refine (known_any _).mono ?_
  rintro e w1 ⟨rfl, hb1⟩
  have A1 : Rd w1 w.heap.size a := (((Rd.new w a 24).alloc (.cells #[.int .u64 (hI b), .int .u64 (lI b)] 24)).alloc (.cells #[.int .u64 (hI c), .int .u64 (lI c)] 24)).keep hb1
  have B1 : Rd w1 (w.heap.size + 1) b := by
    have := ((Rd.new (w.alloc (.cells #[.int .u64 (hI a), .int .u64 (lI a)] 24)) b 24).alloc (.cells #[.int .u64 (hI c), .int .u64 (lI c)] 24)).keep hb1
    simpa using this
  have C1 : Rd w1 (w.heap.size + 1 + 1) c := by
    have := (Rd.new ((w.alloc (.cells #[.int .u64 (hI a), .int .u64 (lI a)] 24)).alloc (.cells #[.int .u64 (hI b), .int .u64 (lI b)] 24)) c 24).keep hb1
    simpa using this
  have kB1 := keepb hb1 (bl3 w _ _ _)
  clear hb1
  have a0 := A1.1
  have a1 := A1.2
  have b0 := B1.1
  have b1 := B1.2
  have c0 := C1.1
  have c1 := C1.2
  go_wp2_with fail
  refine (add_any _ _ _).mono ?_
  rintro e w2 ⟨rfl, hb2⟩
  clear a0 a1 b0 b1 c0 c1
  have kB2 := (keepb hb2 kB1).alloc (keepb hb2 kB1).size (.cells #[.int .u64 (hI (a + b)), .int .u64 (lI (a + b))] 24)
  have A2 := (A1.keep hb2).alloc (.cells #[.int .u64 (hI (a + b)), .int .u64 (lI (a + b))] 24)
  have B2 := (B1.keep hb2).alloc (.cells #[.int .u64 (hI (a + b)), .int .u64 (lI (a + b))] 24)
  have C2 := (C1.keep hb2).alloc (.cells #[.int .u64 (hI (a + b)), .int .u64 (lI (a + b))] 24)
  have S2 := Rd.new w2 (a + b) 24
  clear A1 B1 C1 kB1 hb2
  have a0 := A2.1
  have a1 := A2.2
  have b0 := B2.1
  have b1 := B2.2
  have c0 := C2.1
  have c1 := C2.2
  have s0 := S2.1
  have s1 := S2.2
  go_wp2_with fail
  refine (add_any _ _ _).mono ?_
  rintro e w3 ⟨rfl, hb3⟩
  clear a0 a1 b0 b1 c0 c1 s0 s1
  have kB3 := (keepb hb3 kB2).alloc (keepb hb3 kB2).size (.cells #[.int .u64 (hI (a + b)), .int .u64 (lI (a + b))] 24)
  have A3 := (A2.keep hb3).alloc (.cells #[.int .u64 (hI (a + b)), .int .u64 (lI (a + b))] 24)
  have B3 := (B2.keep hb3).alloc (.cells #[.int .u64 (hI (a + b)), .int .u64 (lI (a + b))] 24)
  have C3 := (C2.keep hb3).alloc (.cells #[.int .u64 (hI (a + b)), .int .u64 (lI (a + b))] 24)
  have S3 := (S2.keep hb3).alloc (.cells #[.int .u64 (hI (a + b)), .int .u64 (lI (a + b))] 24)
  have T3 := Rd.new w3 (a + b) 24
  clear A2 B2 C2 S2 kB2 hb3
  have a0 := A3.1
  have a1 := A3.2
  have b0 := B3.1
  have b1 := B3.2
  have c0 := C3.1
  have c1 := C3.2
  have s0 := S3.1
  have s1 := S3.2
  have t0 := T3.1
  have t1 := T3.2
  go_wp2_with fail
  refine (sub_any _ _ _).mono ?_
  rintro e w4 ⟨rfl, hb4⟩
  clear a0 a1 b0 b1 c0 c1 s0 s1 t0 t1
  have kB4 := (keepb hb4 kB3).alloc (keepb hb4 kB3).size (.cells #[.int .u64 (hI b), .int .u64 (lI b)] 24)
  have A4 := (A3.keep hb4).alloc (.cells #[.int .u64 (hI b), .int .u64 (lI b)] 24)
  have B4 := (B3.keep hb4).alloc (.cells #[.int .u64 (hI b), .int .u64 (lI b)] 24)
  have C4 := (C3.keep hb4).alloc (.cells #[.int .u64 (hI b), .int .u64 (lI b)] 24)
  have S4 := (S3.keep hb4).alloc (.cells #[.int .u64 (hI b), .int .u64 (lI b)] 24)
  have T4 := (T3.keep hb4).alloc (.cells #[.int .u64 (hI b), .int .u64 (lI b)] 24)
  have U4 := Rd.new w4 b 24
  clear A3 B3 C3 S3 T3 kB3 hb4
  have a0 := A4.1
  have a1 := A4.2
  have b0 := B4.1
  have b1 := B4.2
  have c0 := C4.1
  have c1 := C4.2
  have s0 := S4.1
  have s1 := S4.2
  have t0 := T4.1
  have t1 := T4.2
  have u0 := U4.1
  have u1 := U4.2
  go_wp2_with fail
  refine (add_any _ _ _).mono ?_
  rintro e w5 ⟨rfl, hb5⟩
  clear a0 a1 b0 b1 c0 c1 s0 s1 t0 t1 u0 u1
  have kB5 := (keepb hb5 kB4).alloc (keepb hb5 kB4).size (.cells #[.int .u64 (hI (a + (b + c))), .int .u64 (lI (a + (b + c)))] 24)
  have A5 := (A4.keep hb5).alloc (.cells #[.int .u64 (hI (a + (b + c))), .int .u64 (lI (a + (b + c)))] 24)
  have B5 := (B4.keep hb5).alloc (.cells #[.int .u64 (hI (a + (b + c))), .int .u64 (lI (a + (b + c)))] 24)
  have C5 := (C4.keep hb5).alloc (.cells #[.int .u64 (hI (a + (b + c))), .int .u64 (lI (a + (b + c)))] 24)
  have S5 := (S4.keep hb5).alloc (.cells #[.int .u64 (hI (a + (b + c))), .int .u64 (lI (a + (b + c)))] 24)
  have T5 := (T4.keep hb5).alloc (.cells #[.int .u64 (hI (a + (b + c))), .int .u64 (lI (a + (b + c)))] 24)
  have U5 := (U4.keep hb5).alloc (.cells #[.int .u64 (hI (a + (b + c))), .int .u64 (lI (a + (b + c)))] 24)
  have X5 := Rd.new w5 (a + (b + c)) 24
  clear A4 B4 C4 S4 T4 U4 kB4 hb5
  have a0 := A5.1
  have a1 := A5.2
  have b0 := B5.1
  have b1 := B5.2
  have c0 := C5.1
  have c1 := C5.2
  have s0 := S5.1
  have s1 := S5.2
  have t0 := T5.1
  have t1 := T5.2
  have u0 := U5.1
  have u1 := U5.2
  have x0 := X5.1
  have x1 := X5.2
  go_wp2_with fail
  refine (add_any _ _ _).mono ?_
  rintro e w6 ⟨rfl, hb6⟩
  clear a0 a1 b0 b1 c0 c1 s0 s1 t0 t1 u0 u1 x0 x1
  have kB6 := (keepb hb6 kB5).alloc (keepb hb6 kB5).size (.cells #[.int .u64 (hI (b + c)), .int .u64 (lI (b + c))] 24)
  have A6 := (A5.keep hb6).alloc (.cells #[.int .u64 (hI (b + c)), .int .u64 (lI (b + c))] 24)
  have B6 := (B5.keep hb6).alloc (.cells #[.int .u64 (hI (b + c)), .int .u64 (lI (b + c))] 24)
  have C6 := (C5.keep hb6).alloc (.cells #[.int .u64 (hI (b + c)), .int .u64 (lI (b + c))] 24)
  have S6 := (S5.keep hb6).alloc (.cells #[.int .u64 (hI (b + c)), .int .u64 (lI (b + c))] 24)
  have T6 := (T5.keep hb6).alloc (.cells #[.int .u64 (hI (b + c)), .int .u64 (lI (b + c))] 24)
  have U6 := (U5.keep hb6).alloc (.cells #[.int .u64 (hI (b + c)), .int .u64 (lI (b + c))] 24)
  have X6 := (X5.keep hb6).alloc (.cells #[.int .u64 (hI (b + c)), .int .u64 (lI (b + c))] 24)
  have Y6 := Rd.new w6 (b + c) 24
  clear A5 B5 C5 S5 T5 U5 X5 kB5 hb6
  have a0 := A6.1
  have a1 := A6.2
  have b0 := B6.1
  have b1 := B6.2
  have c0 := C6.1
  have c1 := C6.2
  have s0 := S6.1
  have s1 := S6.2
  have t0 := T6.1
  have t1 := T6.2
  have u0 := U6.1
  have u1 := U6.2
  have x0 := X6.1
  have x1 := X6.2
  have y0 := Y6.1
  have y1 := Y6.2
  go_wp2_with fail
  refine (add_any _ _ _).mono ?_
  rintro e w7 ⟨rfl, hb7⟩
  clear a0 a1 b0 b1 c0 c1 s0 s1 t0 t1 u0 u1 x0 x1 y0 y1
  have kB7 := (keepb hb7 kB6).alloc (keepb hb7 kB6).size (.cells #[.int .u64 (hI (a + (b + c))), .int .u64 (lI (a + (b + c)))] 24)
  have A7 := (A6.keep hb7).alloc (.cells #[.int .u64 (hI (a + (b + c))), .int .u64 (lI (a + (b + c)))] 24)
  have B7 := (B6.keep hb7).alloc (.cells #[.int .u64 (hI (a + (b + c))), .int .u64 (lI (a + (b + c)))] 24)
  have C7 := (C6.keep hb7).alloc (.cells #[.int .u64 (hI (a + (b + c))), .int .u64 (lI (a + (b + c)))] 24)
  have S7 := (S6.keep hb7).alloc (.cells #[.int .u64 (hI (a + (b + c))), .int .u64 (lI (a + (b + c)))] 24)
  have T7 := (T6.keep hb7).alloc (.cells #[.int .u64 (hI (a + (b + c))), .int .u64 (lI (a + (b + c)))] 24)
  have U7 := (U6.keep hb7).alloc (.cells #[.int .u64 (hI (a + (b + c))), .int .u64 (lI (a + (b + c)))] 24)
  have X7 := (X6.keep hb7).alloc (.cells #[.int .u64 (hI (a + (b + c))), .int .u64 (lI (a + (b + c)))] 24)
  have Y7 := (Y6.keep hb7).alloc (.cells #[.int .u64 (hI (a + (b + c))), .int .u64 (lI (a + (b + c)))] 24)
  have Z7 := Rd.new w7 (a + (b + c)) 24
  clear A6 B6 C6 S6 T6 U6 X6 Y6 kB6 hb7
  have a0 := A7.1
  have a1 := A7.2
  have b0 := B7.1
  have b1 := B7.2
  have c0 := C7.1
  have c1 := C7.2
  have s0 := S7.1
  have s1 := S7.2
  have t0 := T7.1
  have t1 := T7.2
  have u0 := U7.1
  have u1 := U7.2
  have x0 := X7.1
  have x1 := X7.2
  have y0 := Y7.1
  have y1 := Y7.2
  have z0 := Z7.1
  have z1 := Z7.2
  go_wp2_with fail
  refine (cmp_any _ _ _).mono ?_
  rintro e w8 ⟨rfl, hb8⟩
  clear a0 a1 b0 b1 c0 c1 s0 s1 t0 t1 u0 u1 x0 x1 y0 y1 z0 z1
  have kB8 := keepb hb8 kB7
  have A8 := A7.keep hb8
  have B8 := B7.keep hb8
  have C8 := C7.keep hb8
  clear A7 B7 C7 S7 T7 U7 X7 Y7 Z7 kB7 hb8
  have a0 := A8.1
  have a1 := A8.2
  have b0 := B8.1
  have b1 := B8.2
  have c0 := C8.1
  have c1 := C8.2
  go_wp2_with fail
  refine (sub_any _ _ _).mono ?_
  rintro e w9 ⟨rfl, hb9⟩
  clear a0 a1 b0 b1 c0 c1
  have kB9 := (keepb hb9 kB8).alloc (keepb hb9 kB8).size (.cells #[.int .u64 (hI (a - b)), .int .u64 (lI (a - b))] 24)
  have A9 := (A8.keep hb9).alloc (.cells #[.int .u64 (hI (a - b)), .int .u64 (lI (a - b))] 24)
  have B9 := (B8.keep hb9).alloc (.cells #[.int .u64 (hI (a - b)), .int .u64 (lI (a - b))] 24)
  have C9 := (C8.keep hb9).alloc (.cells #[.int .u64 (hI (a - b)), .int .u64 (lI (a - b))] 24)
  clear A8 B8 C8 kB8 hb9
  have a0 := A9.1
  have a1 := A9.2
  have b0 := B9.1
  have b1 := B9.2
  have c0 := C9.1
  have c1 := C9.2
  go_wp2_with fail
  refine (cmp_any _ _ _).mono ?_
  rintro e w10 ⟨rfl, hb10⟩
  clear a0 a1 b0 b1 c0 c1
  have kB10 := keepb hb10 kB9
  have A10 := A9.keep hb10
  have B10 := B9.keep hb10
  have C10 := C9.keep hb10
  clear A9 B9 C9 kB9 hb10
  have a0 := A10.1
  have a1 := A10.2
  have b0 := B10.1
  have b1 := B10.2
  have c0 := C10.1
  have c1 := C10.2
  go_wp2_with fail
  refine (wcommon_any _ _ _).mono ?_
  rintro e w11 ⟨rfl, hb11⟩
  clear a0 a1 b0 b1 c0 c1
  have kB := keepb hb11 kB10
  have AA := A10.keep hb11
  have BB := B10.keep hb11
  clear A10 B10 C10 kB10 hb11
  obtain ⟨a0, a1⟩ := AA
  obtain ⟨b0, b1⟩ := BB
  have hbl := kB.drew
  go_wp2_with fail
  go_region_held3 (fun w' => w'.cell? ⟨w.heap.size, 0, none⟩ = some (.int .u64 (hI a)) ∧ w'.cell? ⟨w.heap.size, 1, none⟩ = some (.int .u64 (lI a)) ∧ w'.cell? ⟨w.heap.size + 1, 0, none⟩ = some (.int .u64 (hI b)) ∧ w'.cell? ⟨w.heap.size + 1, 1, none⟩ = some (.int .u64 (lI b)) ∧ Below w.heap.size w w')
    (first | (obtain ⟨k1, k2, k3, k4, k9⟩ := ‹_ ∧ _›; exact ⟨keepc hb k1, keepc hb k2, keepc hb k3, keepc hb k4, keepb hb k9⟩) | exact ⟨a0, a1, b0, b1, hbl⟩)
    (first
      | (go_at_call 12; refine (xor_any _ _ _).mono ?_; rintro e w' ⟨rfl, hb⟩)
      | (go_at_call 11; refine (lead_any _ _).mono ?_; rintro e w' ⟨rfl, hb⟩)
      | (go_at_call 13; refine (ones_any _ _).mono ?_; rintro e w' ⟨rfl, hb⟩)
      | (go_at_call 14; refine (not_any _ _).mono ?_; rintro e w' ⟨rfl, hb⟩))
  clear a0 a1 b0 b1 kB hbl
  obtain ⟨a0, a1, b0, b1, kB⟩ := ‹_ ∧ _›
  have hbl := kB.drew
  go_wp2_with fail
  refine q_region (C := (fun w' => w'.cell? ⟨w.heap.size, 0, none⟩ = some (.int .u64 (hI a)) ∧ w'.cell? ⟨w.heap.size, 1, none⟩ = some (.int .u64 (lI a)) ∧ w'.cell? ⟨w.heap.size + 1, 0, none⟩ = some (.int .u64 (hI b)) ∧ w'.cell? ⟨w.heap.size + 1, 1, none⟩ = some (.int .u64 (lI b)) ∧ Below w.heap.size w w')) (by kernel_rfl) (by kernel_rfl) ⟨a0, a1, b0, b1, hbl⟩ ?_
  clear a0 a1 b0 b1 kB hbl
  refine q_run (v := ?v0) (by rfl) ?h0 ?k0
  case h0 => (intro w1 hC; obtain ⟨c1, c2, c3, c4, c5⟩ := hC; go_simp; rfl)
  simp only [Act.put, List.setIfInBounds_toArray, List.set_cons_zero, List.set_cons_succ]
  refine q_run (v := ?v1) (by rfl) ?h1 ?k1
  case h1 => (intro w1 hC; obtain ⟨c1, c2, c3, c4, c5⟩ := hC; go_simp; rfl)
  simp only [Act.put, List.setIfInBounds_toArray, List.set_cons_zero, List.set_cons_succ]
  refine q_run (v := ?v2) (by rfl) ?h2 ?k2
  case h2 => (intro w1 hC; obtain ⟨c1, c2, c3, c4, c5⟩ := hC; go_simp; rfl)
  simp only [Act.put, List.setIfInBounds_toArray, List.set_cons_zero, List.set_cons_succ]
  refine q_skip (by rfl) ?_
  simp only [Act.put, List.setIfInBounds_toArray, List.set_cons_zero, List.set_cons_succ]
  refine q_skip (by rfl) ?_
  simp only [Act.put, List.setIfInBounds_toArray, List.set_cons_zero, List.set_cons_succ]
  refine q_skip (by rfl) ?_
  simp only [Act.put, List.setIfInBounds_toArray, List.set_cons_zero, List.set_cons_succ]
  refine q_run (v := ?v6) (by rfl) ?h6 ?k6
  case h6 => (intro w1 hC; obtain ⟨c1, c2, c3, c4, c5⟩ := hC; go_simp; rfl)
  simp only [Act.put, List.setIfInBounds_toArray, List.set_cons_zero, List.set_cons_succ]
  refine q_run (v := ?v7) (by rfl) ?h7 ?k7
  case h7 => (intro w1 hC; obtain ⟨c1, c2, c3, c4, c5⟩ := hC; go_simp; rfl)
  simp only [Act.put, List.setIfInBounds_toArray, List.set_cons_zero, List.set_cons_succ]
  refine q_run (v := ?v8) (by rfl) ?h8 ?k8
  case h8 => (intro w1 hC; obtain ⟨c1, c2, c3, c4, c5⟩ := hC; go_simp; rfl)
  simp only [Act.put, List.setIfInBounds_toArray, List.set_cons_zero, List.set_cons_succ]
  refine q_run (v := ?v9) (by rfl) ?h9 ?k9
  case h9 => (intro w1 hC; obtain ⟨c1, c2, c3, c4, c5⟩ := hC; go_simp; rfl)
  simp only [Act.put, List.setIfInBounds_toArray, List.set_cons_zero, List.set_cons_succ]
  refine q_run (v := ?v10) (by rfl) ?h10 ?k10
  case h10 => (intro w1 hC; obtain ⟨c1, c2, c3, c4, c5⟩ := hC; go_simp; rfl)
  simp only [Act.put, List.setIfInBounds_toArray, List.set_cons_zero, List.set_cons_succ]
  refine q_run (v := ?v11) (by rfl) ?h11 ?k11
  case h11 => (intro w1 hC; obtain ⟨c1, c2, c3, c4, c5⟩ := hC; go_simp; rfl)
  simp only [Act.put, List.setIfInBounds_toArray, List.set_cons_zero, List.set_cons_succ]
  refine q_run (v := ?v12) (by rfl) ?h12 ?k12
  case h12 => (intro w1 hC; obtain ⟨c1, c2, c3, c4, c5⟩ := hC; go_simp; rfl)
  simp only [Act.put, List.setIfInBounds_toArray, List.set_cons_zero, List.set_cons_succ]
  refine q_call (v := .int .i64 (bitZ a (k : Int))) (f := 15) (args := #[.agg #[.int .u64 (hI a), .int .u64 (lI a)], .int .i64 (k : Int)]) (by rfl) ?h13 ?g13 ?k13
  case h13 => (intro w1 hC; obtain ⟨c1, c2, c3, c4, c5⟩ := hC; go_simp)
  case g13 => exact fun w1 hC => (bit_any a k w1).mono fun e w' ⟨he, hb⟩ => ⟨he, keepc hb hC.1, keepc hb hC.2.1, keepc hb hC.2.2.1, keepc hb hC.2.2.2.1, keepb hb hC.2.2.2.2⟩
  simp only [Act.put, List.setIfInBounds_toArray, List.set_cons_zero, List.set_cons_succ]
  refine q_run (v := ?v14) (by rfl) ?h14 ?k14
  case h14 => (intro w1 hC; obtain ⟨c1, c2, c3, c4, c5⟩ := hC; go_simp; rfl)
  simp only [Act.put, List.setIfInBounds_toArray, List.set_cons_zero, List.set_cons_succ]
  refine q_run (v := ?v15) (by rfl) ?h15 ?k15
  case h15 => (intro w1 hC; obtain ⟨c1, c2, c3, c4, c5⟩ := hC; go_simp; rfl)
  simp only [Act.put, List.setIfInBounds_toArray, List.set_cons_zero, List.set_cons_succ]
  refine q_call (v := .int .i64 (bitZ b (k : Int))) (f := 15) (args := #[.agg #[.int .u64 (hI b), .int .u64 (lI b)], .int .i64 (k : Int)]) (by rfl) ?h16 ?g16 ?k16
  case h16 => (intro w1 hC; obtain ⟨c1, c2, c3, c4, c5⟩ := hC; go_simp)
  case g16 => exact fun w1 hC => (bit_any b k w1).mono fun e w' ⟨he, hb⟩ => ⟨he, keepc hb hC.1, keepc hb hC.2.1, keepc hb hC.2.2.1, keepc hb hC.2.2.2.1, keepb hb hC.2.2.2.2⟩
  simp only [Act.put, List.setIfInBounds_toArray, List.set_cons_zero, List.set_cons_succ]
  refine q_run (v := ?v17) (by rfl) ?h17 ?k17
  case h17 => (intro w1 hC; obtain ⟨c1, c2, c3, c4, c5⟩ := hC; go_simp; rfl)
  simp only [Act.put, List.setIfInBounds_toArray, List.set_cons_zero, List.set_cons_succ]
  refine q_run (v := ?v18) (by rfl) ?h18 ?k18
  case h18 => (intro w1 hC; obtain ⟨c1, c2, c3, c4, c5⟩ := hC; go_simp; rfl)
  simp only [Act.put, List.setIfInBounds_toArray, List.set_cons_zero, List.set_cons_succ]
  refine q_run (v := ?v19) (by rfl) ?h19 ?k19
  case h19 => (intro w1 hC; obtain ⟨c1, c2, c3, c4, c5⟩ := hC; go_simp; rfl)
  simp only [Act.put, List.setIfInBounds_toArray, List.set_cons_zero, List.set_cons_succ]
  refine q_run (v := ?v20) (by rfl) ?h20 ?k20
  case h20 => (intro w1 hC; obtain ⟨c1, c2, c3, c4, c5⟩ := hC; go_simp; rfl)
  simp only [Act.put, List.setIfInBounds_toArray, List.set_cons_zero, List.set_cons_succ]
  refine q_run (v := ?v21) (by rfl) ?h21 ?k21
  case h21 => (intro w1 hC; obtain ⟨c1, c2, c3, c4, c5⟩ := hC; go_simp; rfl)
  simp only [Act.put, List.setIfInBounds_toArray, List.set_cons_zero, List.set_cons_succ]
  refine q_call (v := .int .i64 (bitZ a (k : Int))) (f := 15) (args := #[.agg #[.int .u64 (hI a), .int .u64 (lI a)], .int .i64 (k : Int)]) (by rfl) ?h22 ?g22 ?k22
  case h22 => (intro w1 hC; obtain ⟨c1, c2, c3, c4, c5⟩ := hC; go_simp)
  case g22 => exact fun w1 hC => (bit_any a k w1).mono fun e w' ⟨he, hb⟩ => ⟨he, keepc hb hC.1, keepc hb hC.2.1, keepc hb hC.2.2.1, keepc hb hC.2.2.2.1, keepb hb hC.2.2.2.2⟩
  simp only [Act.put, List.setIfInBounds_toArray, List.set_cons_zero, List.set_cons_succ]
  refine q_run (v := ?v23) (by rfl) ?h23 ?k23
  case h23 => (intro w1 hC; obtain ⟨c1, c2, c3, c4, c5⟩ := hC; go_simp; rfl)
  simp only [Act.put, List.setIfInBounds_toArray, List.set_cons_zero, List.set_cons_succ]
  refine q_run (v := ?v24) (by rfl) ?h24 ?k24
  case h24 => (intro w1 hC; obtain ⟨c1, c2, c3, c4, c5⟩ := hC; go_simp; rfl)
  simp only [Act.put, List.setIfInBounds_toArray, List.set_cons_zero, List.set_cons_succ]
  refine q_call (v := .int .i64 (bitZ b (k : Int))) (f := 15) (args := #[.agg #[.int .u64 (hI b), .int .u64 (lI b)], .int .i64 (k : Int)]) (by rfl) ?h25 ?g25 ?k25
  case h25 => (intro w1 hC; obtain ⟨c1, c2, c3, c4, c5⟩ := hC; go_simp)
  case g25 => exact fun w1 hC => (bit_any b k w1).mono fun e w' ⟨he, hb⟩ => ⟨he, keepc hb hC.1, keepc hb hC.2.1, keepc hb hC.2.2.1, keepc hb hC.2.2.2.1, keepb hb hC.2.2.2.2⟩
  simp only [Act.put, List.setIfInBounds_toArray, List.set_cons_zero, List.set_cons_succ]
  refine q_run (v := ?v26) (by rfl) ?h26 ?k26
  case h26 => (intro w1 hC; obtain ⟨c1, c2, c3, c4, c5⟩ := hC; go_simp; rfl)
  simp only [Act.put, List.setIfInBounds_toArray, List.set_cons_zero, List.set_cons_succ]
  refine q_run (v := ?v27) (by rfl) ?h27 ?k27
  case h27 => (intro w1 hC; obtain ⟨c1, c2, c3, c4, c5⟩ := hC; go_simp; rfl)
  simp only [Act.put, List.setIfInBounds_toArray, List.set_cons_zero, List.set_cons_succ]
  refine q_run (v := ?v28) (by rfl) ?h28 ?k28
  case h28 => (intro w1 hC; obtain ⟨c1, c2, c3, c4, c5⟩ := hC; go_simp; rfl)
  simp only [Act.put, List.setIfInBounds_toArray, List.set_cons_zero, List.set_cons_succ]
  refine q_run (v := ?v29) (by rfl) ?h29 ?k29
  case h29 => (intro w1 hC; obtain ⟨c1, c2, c3, c4, c5⟩ := hC; go_simp; rfl)
  simp only [Act.put, List.setIfInBounds_toArray, List.set_cons_zero, List.set_cons_succ]
  refine q_run (v := ?v30) (by rfl) ?h30 ?k30
  case h30 => (intro w1 hC; obtain ⟨c1, c2, c3, c4, c5⟩ := hC; go_simp; rfl)
  simp only [Act.put, List.setIfInBounds_toArray, List.set_cons_zero, List.set_cons_succ]
  refine q_run (v := ?v31) (by rfl) ?h31 ?k31
  case h31 => (intro w1 hC; obtain ⟨c1, c2, c3, c4, c5⟩ := hC; go_simp; rfl)
  simp only [Act.put, List.setIfInBounds_toArray, List.set_cons_zero, List.set_cons_succ]
  refine q_run (v := ?v32) (by rfl) ?h32 ?k32
  case h32 => (intro w1 hC; obtain ⟨c1, c2, c3, c4, c5⟩ := hC; go_simp; rfl)
  simp only [Act.put, List.setIfInBounds_toArray, List.set_cons_zero, List.set_cons_succ]
  refine wpQuiet_nil ?_
  rintro w1 ⟨-, -, -, -, kB⟩
  go_wp2
  go_ret
  exact ⟨rfl, kB⟩

set_option maxHeartbeats 8000000 in
set_option maxRecDepth 100000 in
theorem ring_lt2h (a b c : BitVec 128) (w : World) (k : Nat) (hk : k < 128) (hl : leadN (a ^^^ b) = k) (ha : bitZ a (k : Int) = 0) (hb : bitZ b (k : Int) = 1) (hc : cmpZ a b = -1) (hne : ¬ hI a = hI b) (hM : cmpZ b c ≤ 0) (hP : ¬ 0 < cmpZ a c) :
    Calls Try.prog 3 #[.agg #[.int .u64 (hI a), .int .u64 (lI a)], .agg #[.int .u64 (hI b), .int .u64 (lI b)], .agg #[.int .u64 (hI c), .int .u64 (lI c)]] w fun e w' => e = .returned (.bool true) ∧ Below w.heap.size w w' := by
  have e1 := ring1 a b
  have e2 := ring2 a b
  have e3 := ring3 a b c
  have e4 := ring4 a b
  have e8 : ((onesN a : Nat) : Int) + ((onesN (~~~a) : Nat) : Int) = 128 := by have := ones_not a; omega
  have g8 : IntKind.i64.wrap (((onesN a : Nat) : Int) + ((onesN (~~~a) : Nat) : Int)) = 128 := by rw [e8]; decide
  have e5 : cmpZ b a = 1 := by rw [ring5, hc]; decide
  have e6 : underB a b = true := by have := cmp_lt a b; rw [hc] at this; exact this.mp (by decide)
  have hk2 : (k : Int) < 128 := by omega
  have hk3 : ((k : Int) == 128) = false := by simp; omega
  go_enter Try.func3, Try.ntmps3
  go_wp2_with fail
  refine (known_any _).mono ?_
  rintro e w1 ⟨rfl, hb1⟩
  have A1 : Rd w1 w.heap.size a := (((Rd.new w a 24).alloc (.cells #[.int .u64 (hI b), .int .u64 (lI b)] 24)).alloc (.cells #[.int .u64 (hI c), .int .u64 (lI c)] 24)).keep hb1
  have B1 : Rd w1 (w.heap.size + 1) b := by
    have := ((Rd.new (w.alloc (.cells #[.int .u64 (hI a), .int .u64 (lI a)] 24)) b 24).alloc (.cells #[.int .u64 (hI c), .int .u64 (lI c)] 24)).keep hb1
    simpa using this
  have C1 : Rd w1 (w.heap.size + 1 + 1) c := by
    have := (Rd.new ((w.alloc (.cells #[.int .u64 (hI a), .int .u64 (lI a)] 24)).alloc (.cells #[.int .u64 (hI b), .int .u64 (lI b)] 24)) c 24).keep hb1
    simpa using this
  have kB1 := keepb hb1 (bl3 w _ _ _)
  clear hb1
  have a0 := A1.1
  have a1 := A1.2
  have b0 := B1.1
  have b1 := B1.2
  have c0 := C1.1
  have c1 := C1.2
  go_wp2_with fail
  refine (add_any _ _ _).mono ?_
  rintro e w2 ⟨rfl, hb2⟩
  clear a0 a1 b0 b1 c0 c1
  have kB2 := (keepb hb2 kB1).alloc (keepb hb2 kB1).size (.cells #[.int .u64 (hI (a + b)), .int .u64 (lI (a + b))] 24)
  have A2 := (A1.keep hb2).alloc (.cells #[.int .u64 (hI (a + b)), .int .u64 (lI (a + b))] 24)
  have B2 := (B1.keep hb2).alloc (.cells #[.int .u64 (hI (a + b)), .int .u64 (lI (a + b))] 24)
  have C2 := (C1.keep hb2).alloc (.cells #[.int .u64 (hI (a + b)), .int .u64 (lI (a + b))] 24)
  have S2 := Rd.new w2 (a + b) 24
  clear A1 B1 C1 kB1 hb2
  have a0 := A2.1
  have a1 := A2.2
  have b0 := B2.1
  have b1 := B2.2
  have c0 := C2.1
  have c1 := C2.2
  have s0 := S2.1
  have s1 := S2.2
  go_wp2_with fail
  refine (add_any _ _ _).mono ?_
  rintro e w3 ⟨rfl, hb3⟩
  clear a0 a1 b0 b1 c0 c1 s0 s1
  have kB3 := (keepb hb3 kB2).alloc (keepb hb3 kB2).size (.cells #[.int .u64 (hI (a + b)), .int .u64 (lI (a + b))] 24)
  have A3 := (A2.keep hb3).alloc (.cells #[.int .u64 (hI (a + b)), .int .u64 (lI (a + b))] 24)
  have B3 := (B2.keep hb3).alloc (.cells #[.int .u64 (hI (a + b)), .int .u64 (lI (a + b))] 24)
  have C3 := (C2.keep hb3).alloc (.cells #[.int .u64 (hI (a + b)), .int .u64 (lI (a + b))] 24)
  have S3 := (S2.keep hb3).alloc (.cells #[.int .u64 (hI (a + b)), .int .u64 (lI (a + b))] 24)
  have T3 := Rd.new w3 (a + b) 24
  clear A2 B2 C2 S2 kB2 hb3
  have a0 := A3.1
  have a1 := A3.2
  have b0 := B3.1
  have b1 := B3.2
  have c0 := C3.1
  have c1 := C3.2
  have s0 := S3.1
  have s1 := S3.2
  have t0 := T3.1
  have t1 := T3.2
  go_wp2_with fail
  refine (sub_any _ _ _).mono ?_
  rintro e w4 ⟨rfl, hb4⟩
  clear a0 a1 b0 b1 c0 c1 s0 s1 t0 t1
  have kB4 := (keepb hb4 kB3).alloc (keepb hb4 kB3).size (.cells #[.int .u64 (hI b), .int .u64 (lI b)] 24)
  have A4 := (A3.keep hb4).alloc (.cells #[.int .u64 (hI b), .int .u64 (lI b)] 24)
  have B4 := (B3.keep hb4).alloc (.cells #[.int .u64 (hI b), .int .u64 (lI b)] 24)
  have C4 := (C3.keep hb4).alloc (.cells #[.int .u64 (hI b), .int .u64 (lI b)] 24)
  have S4 := (S3.keep hb4).alloc (.cells #[.int .u64 (hI b), .int .u64 (lI b)] 24)
  have T4 := (T3.keep hb4).alloc (.cells #[.int .u64 (hI b), .int .u64 (lI b)] 24)
  have U4 := Rd.new w4 b 24
  clear A3 B3 C3 S3 T3 kB3 hb4
  have a0 := A4.1
  have a1 := A4.2
  have b0 := B4.1
  have b1 := B4.2
  have c0 := C4.1
  have c1 := C4.2
  have s0 := S4.1
  have s1 := S4.2
  have t0 := T4.1
  have t1 := T4.2
  have u0 := U4.1
  have u1 := U4.2
  go_wp2_with fail
  refine (add_any _ _ _).mono ?_
  rintro e w5 ⟨rfl, hb5⟩
  clear a0 a1 b0 b1 c0 c1 s0 s1 t0 t1 u0 u1
  have kB5 := (keepb hb5 kB4).alloc (keepb hb5 kB4).size (.cells #[.int .u64 (hI (a + (b + c))), .int .u64 (lI (a + (b + c)))] 24)
  have A5 := (A4.keep hb5).alloc (.cells #[.int .u64 (hI (a + (b + c))), .int .u64 (lI (a + (b + c)))] 24)
  have B5 := (B4.keep hb5).alloc (.cells #[.int .u64 (hI (a + (b + c))), .int .u64 (lI (a + (b + c)))] 24)
  have C5 := (C4.keep hb5).alloc (.cells #[.int .u64 (hI (a + (b + c))), .int .u64 (lI (a + (b + c)))] 24)
  have S5 := (S4.keep hb5).alloc (.cells #[.int .u64 (hI (a + (b + c))), .int .u64 (lI (a + (b + c)))] 24)
  have T5 := (T4.keep hb5).alloc (.cells #[.int .u64 (hI (a + (b + c))), .int .u64 (lI (a + (b + c)))] 24)
  have U5 := (U4.keep hb5).alloc (.cells #[.int .u64 (hI (a + (b + c))), .int .u64 (lI (a + (b + c)))] 24)
  have X5 := Rd.new w5 (a + (b + c)) 24
  clear A4 B4 C4 S4 T4 U4 kB4 hb5
  have a0 := A5.1
  have a1 := A5.2
  have b0 := B5.1
  have b1 := B5.2
  have c0 := C5.1
  have c1 := C5.2
  have s0 := S5.1
  have s1 := S5.2
  have t0 := T5.1
  have t1 := T5.2
  have u0 := U5.1
  have u1 := U5.2
  have x0 := X5.1
  have x1 := X5.2
  go_wp2_with fail
  refine (add_any _ _ _).mono ?_
  rintro e w6 ⟨rfl, hb6⟩
  clear a0 a1 b0 b1 c0 c1 s0 s1 t0 t1 u0 u1 x0 x1
  have kB6 := (keepb hb6 kB5).alloc (keepb hb6 kB5).size (.cells #[.int .u64 (hI (b + c)), .int .u64 (lI (b + c))] 24)
  have A6 := (A5.keep hb6).alloc (.cells #[.int .u64 (hI (b + c)), .int .u64 (lI (b + c))] 24)
  have B6 := (B5.keep hb6).alloc (.cells #[.int .u64 (hI (b + c)), .int .u64 (lI (b + c))] 24)
  have C6 := (C5.keep hb6).alloc (.cells #[.int .u64 (hI (b + c)), .int .u64 (lI (b + c))] 24)
  have S6 := (S5.keep hb6).alloc (.cells #[.int .u64 (hI (b + c)), .int .u64 (lI (b + c))] 24)
  have T6 := (T5.keep hb6).alloc (.cells #[.int .u64 (hI (b + c)), .int .u64 (lI (b + c))] 24)
  have U6 := (U5.keep hb6).alloc (.cells #[.int .u64 (hI (b + c)), .int .u64 (lI (b + c))] 24)
  have X6 := (X5.keep hb6).alloc (.cells #[.int .u64 (hI (b + c)), .int .u64 (lI (b + c))] 24)
  have Y6 := Rd.new w6 (b + c) 24
  clear A5 B5 C5 S5 T5 U5 X5 kB5 hb6
  have a0 := A6.1
  have a1 := A6.2
  have b0 := B6.1
  have b1 := B6.2
  have c0 := C6.1
  have c1 := C6.2
  have s0 := S6.1
  have s1 := S6.2
  have t0 := T6.1
  have t1 := T6.2
  have u0 := U6.1
  have u1 := U6.2
  have x0 := X6.1
  have x1 := X6.2
  have y0 := Y6.1
  have y1 := Y6.2
  go_wp2_with fail
  refine (add_any _ _ _).mono ?_
  rintro e w7 ⟨rfl, hb7⟩
  clear a0 a1 b0 b1 c0 c1 s0 s1 t0 t1 u0 u1 x0 x1 y0 y1
  have kB7 := (keepb hb7 kB6).alloc (keepb hb7 kB6).size (.cells #[.int .u64 (hI (a + (b + c))), .int .u64 (lI (a + (b + c)))] 24)
  have A7 := (A6.keep hb7).alloc (.cells #[.int .u64 (hI (a + (b + c))), .int .u64 (lI (a + (b + c)))] 24)
  have B7 := (B6.keep hb7).alloc (.cells #[.int .u64 (hI (a + (b + c))), .int .u64 (lI (a + (b + c)))] 24)
  have C7 := (C6.keep hb7).alloc (.cells #[.int .u64 (hI (a + (b + c))), .int .u64 (lI (a + (b + c)))] 24)
  have S7 := (S6.keep hb7).alloc (.cells #[.int .u64 (hI (a + (b + c))), .int .u64 (lI (a + (b + c)))] 24)
  have T7 := (T6.keep hb7).alloc (.cells #[.int .u64 (hI (a + (b + c))), .int .u64 (lI (a + (b + c)))] 24)
  have U7 := (U6.keep hb7).alloc (.cells #[.int .u64 (hI (a + (b + c))), .int .u64 (lI (a + (b + c)))] 24)
  have X7 := (X6.keep hb7).alloc (.cells #[.int .u64 (hI (a + (b + c))), .int .u64 (lI (a + (b + c)))] 24)
  have Y7 := (Y6.keep hb7).alloc (.cells #[.int .u64 (hI (a + (b + c))), .int .u64 (lI (a + (b + c)))] 24)
  have Z7 := Rd.new w7 (a + (b + c)) 24
  clear A6 B6 C6 S6 T6 U6 X6 Y6 kB6 hb7
  have a0 := A7.1
  have a1 := A7.2
  have b0 := B7.1
  have b1 := B7.2
  have c0 := C7.1
  have c1 := C7.2
  have s0 := S7.1
  have s1 := S7.2
  have t0 := T7.1
  have t1 := T7.2
  have u0 := U7.1
  have u1 := U7.2
  have x0 := X7.1
  have x1 := X7.2
  have y0 := Y7.1
  have y1 := Y7.2
  have z0 := Z7.1
  have z1 := Z7.2
  go_wp2_with fail
  refine (cmp_any _ _ _).mono ?_
  rintro e w8 ⟨rfl, hb8⟩
  clear a0 a1 b0 b1 c0 c1 s0 s1 t0 t1 u0 u1 x0 x1 y0 y1 z0 z1
  have kB8 := keepb hb8 kB7
  have A8 := A7.keep hb8
  have B8 := B7.keep hb8
  have C8 := C7.keep hb8
  clear A7 B7 C7 S7 T7 U7 X7 Y7 Z7 kB7 hb8
  have a0 := A8.1
  have a1 := A8.2
  have b0 := B8.1
  have b1 := B8.2
  have c0 := C8.1
  have c1 := C8.2
  go_wp2_with fail
  refine (sub_any _ _ _).mono ?_
  rintro e w9 ⟨rfl, hb9⟩
  clear a0 a1 b0 b1 c0 c1
  have kB9 := (keepb hb9 kB8).alloc (keepb hb9 kB8).size (.cells #[.int .u64 (hI (a - b)), .int .u64 (lI (a - b))] 24)
  have A9 := (A8.keep hb9).alloc (.cells #[.int .u64 (hI (a - b)), .int .u64 (lI (a - b))] 24)
  have B9 := (B8.keep hb9).alloc (.cells #[.int .u64 (hI (a - b)), .int .u64 (lI (a - b))] 24)
  have C9 := (C8.keep hb9).alloc (.cells #[.int .u64 (hI (a - b)), .int .u64 (lI (a - b))] 24)
  clear A8 B8 C8 kB8 hb9
  have a0 := A9.1
  have a1 := A9.2
  have b0 := B9.1
  have b1 := B9.2
  have c0 := C9.1
  have c1 := C9.2
  go_wp2_with fail
  refine (cmp_any _ _ _).mono ?_
  rintro e w10 ⟨rfl, hb10⟩
  clear a0 a1 b0 b1 c0 c1
  have kB10 := keepb hb10 kB9
  have A10 := A9.keep hb10
  have B10 := B9.keep hb10
  have C10 := C9.keep hb10
  clear A9 B9 C9 kB9 hb10
  have a0 := A10.1
  have a1 := A10.2
  have b0 := B10.1
  have b1 := B10.2
  have c0 := C10.1
  have c1 := C10.2
  go_wp2_with fail
  refine (cmp_any _ _ _).mono ?_
  rintro e w11 ⟨rfl, hb11⟩
  clear a0 a1 b0 b1 c0 c1
  have kB11 := keepb hb11 kB10
  have A11 := A10.keep hb11
  have B11 := B10.keep hb11
  have C11 := C10.keep hb11
  clear A10 B10 C10 kB10 hb11
  have a0 := A11.1
  have a1 := A11.2
  have b0 := B11.1
  have b1 := B11.2
  have c0 := C11.1
  have c1 := C11.2
  go_wp2_with fail
  refine (cmp_any _ _ _).mono ?_
  rintro e w12 ⟨rfl, hb12⟩
  clear a0 a1 b0 b1 c0 c1
  have kB12 := keepb hb12 kB11
  have A12 := A11.keep hb12
  have B12 := B11.keep hb12
  have C12 := C11.keep hb12
  clear A11 B11 C11 kB11 hb12
  have a0 := A12.1
  have a1 := A12.2
  have b0 := B12.1
  have b1 := B12.2
  have c0 := C12.1
  have c1 := C12.2
  go_wp2_with fail
  refine (wcommon_any _ _ _).mono ?_
  rintro e w13 ⟨rfl, hb13⟩
  clear a0 a1 b0 b1 c0 c1
  have kB := keepb hb13 kB12
  have AA := A12.keep hb13
  have BB := B12.keep hb13
  clear A12 B12 C12 kB12 hb13
  obtain ⟨a0, a1⟩ := AA
  obtain ⟨b0, b1⟩ := BB
  have hbl := kB.drew
  go_wp2_with fail
  go_region_held3 (fun w' => w'.cell? ⟨w.heap.size, 0, none⟩ = some (.int .u64 (hI a)) ∧ w'.cell? ⟨w.heap.size, 1, none⟩ = some (.int .u64 (lI a)) ∧ w'.cell? ⟨w.heap.size + 1, 0, none⟩ = some (.int .u64 (hI b)) ∧ w'.cell? ⟨w.heap.size + 1, 1, none⟩ = some (.int .u64 (lI b)) ∧ Below w.heap.size w w')
    (first | (obtain ⟨k1, k2, k3, k4, k9⟩ := ‹_ ∧ _›; exact ⟨keepc hb k1, keepc hb k2, keepc hb k3, keepc hb k4, keepb hb k9⟩) | exact ⟨a0, a1, b0, b1, hbl⟩)
    (first
      | (go_at_call 12; refine (xor_any _ _ _).mono ?_; rintro e w' ⟨rfl, hb⟩)
      | (go_at_call 11; refine (lead_any _ _).mono ?_; rintro e w' ⟨rfl, hb⟩)
      | (go_at_call 13; refine (ones_any _ _).mono ?_; rintro e w' ⟨rfl, hb⟩)
      | (go_at_call 14; refine (not_any _ _).mono ?_; rintro e w' ⟨rfl, hb⟩))
  clear a0 a1 b0 b1 kB hbl
  obtain ⟨a0, a1, b0, b1, kB⟩ := ‹_ ∧ _›
  have hbl := kB.drew
  go_wp2_with fail
  refine q_region (C := (fun w' => w'.cell? ⟨w.heap.size, 0, none⟩ = some (.int .u64 (hI a)) ∧ w'.cell? ⟨w.heap.size, 1, none⟩ = some (.int .u64 (lI a)) ∧ w'.cell? ⟨w.heap.size + 1, 0, none⟩ = some (.int .u64 (hI b)) ∧ w'.cell? ⟨w.heap.size + 1, 1, none⟩ = some (.int .u64 (lI b)) ∧ Below w.heap.size w w')) (by kernel_rfl) (by kernel_rfl) ⟨a0, a1, b0, b1, hbl⟩ ?_
  clear a0 a1 b0 b1 kB hbl
  refine q_run (v := ?v0) (by rfl) ?h0 ?k0
  case h0 => (intro w1 hC; obtain ⟨c1, c2, c3, c4, c5⟩ := hC; go_simp; rfl)
  simp only [Act.put, List.setIfInBounds_toArray, List.set_cons_zero, List.set_cons_succ]
  refine q_run (v := ?v1) (by rfl) ?h1 ?k1
  case h1 => (intro w1 hC; obtain ⟨c1, c2, c3, c4, c5⟩ := hC; go_simp; rfl)
  simp only [Act.put, List.setIfInBounds_toArray, List.set_cons_zero, List.set_cons_succ]
  refine q_run (v := ?v2) (by rfl) ?h2 ?k2
  case h2 => (intro w1 hC; obtain ⟨c1, c2, c3, c4, c5⟩ := hC; go_simp; rfl)
  simp only [Act.put, List.setIfInBounds_toArray, List.set_cons_zero, List.set_cons_succ]
  refine q_skip (by rfl) ?_
  simp only [Act.put, List.setIfInBounds_toArray, List.set_cons_zero, List.set_cons_succ]
  refine q_skip (by rfl) ?_
  simp only [Act.put, List.setIfInBounds_toArray, List.set_cons_zero, List.set_cons_succ]
  refine q_skip (by rfl) ?_
  simp only [Act.put, List.setIfInBounds_toArray, List.set_cons_zero, List.set_cons_succ]
  refine q_run (v := ?v6) (by rfl) ?h6 ?k6
  case h6 => (intro w1 hC; obtain ⟨c1, c2, c3, c4, c5⟩ := hC; go_simp; rfl)
  simp only [Act.put, List.setIfInBounds_toArray, List.set_cons_zero, List.set_cons_succ]
  refine q_run (v := ?v7) (by rfl) ?h7 ?k7
  case h7 => (intro w1 hC; obtain ⟨c1, c2, c3, c4, c5⟩ := hC; go_simp; rfl)
  simp only [Act.put, List.setIfInBounds_toArray, List.set_cons_zero, List.set_cons_succ]
  refine q_run (v := ?v8) (by rfl) ?h8 ?k8
  case h8 => (intro w1 hC; obtain ⟨c1, c2, c3, c4, c5⟩ := hC; go_simp; rfl)
  simp only [Act.put, List.setIfInBounds_toArray, List.set_cons_zero, List.set_cons_succ]
  refine q_run (v := ?v9) (by rfl) ?h9 ?k9
  case h9 => (intro w1 hC; obtain ⟨c1, c2, c3, c4, c5⟩ := hC; go_simp; rfl)
  simp only [Act.put, List.setIfInBounds_toArray, List.set_cons_zero, List.set_cons_succ]
  refine q_run (v := ?v10) (by rfl) ?h10 ?k10
  case h10 => (intro w1 hC; obtain ⟨c1, c2, c3, c4, c5⟩ := hC; go_simp; rfl)
  simp only [Act.put, List.setIfInBounds_toArray, List.set_cons_zero, List.set_cons_succ]
  refine q_run (v := ?v11) (by rfl) ?h11 ?k11
  case h11 => (intro w1 hC; obtain ⟨c1, c2, c3, c4, c5⟩ := hC; go_simp; rfl)
  simp only [Act.put, List.setIfInBounds_toArray, List.set_cons_zero, List.set_cons_succ]
  refine q_run (v := ?v12) (by rfl) ?h12 ?k12
  case h12 => (intro w1 hC; obtain ⟨c1, c2, c3, c4, c5⟩ := hC; go_simp; rfl)
  simp only [Act.put, List.setIfInBounds_toArray, List.set_cons_zero, List.set_cons_succ]
  refine q_call (v := .int .i64 (bitZ a (k : Int))) (f := 15) (args := #[.agg #[.int .u64 (hI a), .int .u64 (lI a)], .int .i64 (k : Int)]) (by rfl) ?h13 ?g13 ?k13
  case h13 => (intro w1 hC; obtain ⟨c1, c2, c3, c4, c5⟩ := hC; go_simp)
  case g13 => exact fun w1 hC => (bit_any a k w1).mono fun e w' ⟨he, hb⟩ => ⟨he, keepc hb hC.1, keepc hb hC.2.1, keepc hb hC.2.2.1, keepc hb hC.2.2.2.1, keepb hb hC.2.2.2.2⟩
  simp only [Act.put, List.setIfInBounds_toArray, List.set_cons_zero, List.set_cons_succ]
  refine q_run (v := ?v14) (by rfl) ?h14 ?k14
  case h14 => (intro w1 hC; obtain ⟨c1, c2, c3, c4, c5⟩ := hC; go_simp; rfl)
  simp only [Act.put, List.setIfInBounds_toArray, List.set_cons_zero, List.set_cons_succ]
  refine q_run (v := ?v15) (by rfl) ?h15 ?k15
  case h15 => (intro w1 hC; obtain ⟨c1, c2, c3, c4, c5⟩ := hC; go_simp; rfl)
  simp only [Act.put, List.setIfInBounds_toArray, List.set_cons_zero, List.set_cons_succ]
  refine q_call (v := .int .i64 (bitZ b (k : Int))) (f := 15) (args := #[.agg #[.int .u64 (hI b), .int .u64 (lI b)], .int .i64 (k : Int)]) (by rfl) ?h16 ?g16 ?k16
  case h16 => (intro w1 hC; obtain ⟨c1, c2, c3, c4, c5⟩ := hC; go_simp)
  case g16 => exact fun w1 hC => (bit_any b k w1).mono fun e w' ⟨he, hb⟩ => ⟨he, keepc hb hC.1, keepc hb hC.2.1, keepc hb hC.2.2.1, keepc hb hC.2.2.2.1, keepb hb hC.2.2.2.2⟩
  simp only [Act.put, List.setIfInBounds_toArray, List.set_cons_zero, List.set_cons_succ]
  refine q_run (v := ?v17) (by rfl) ?h17 ?k17
  case h17 => (intro w1 hC; obtain ⟨c1, c2, c3, c4, c5⟩ := hC; go_simp; rfl)
  simp only [Act.put, List.setIfInBounds_toArray, List.set_cons_zero, List.set_cons_succ]
  refine q_run (v := ?v18) (by rfl) ?h18 ?k18
  case h18 => (intro w1 hC; obtain ⟨c1, c2, c3, c4, c5⟩ := hC; go_simp; rfl)
  simp only [Act.put, List.setIfInBounds_toArray, List.set_cons_zero, List.set_cons_succ]
  refine q_run (v := ?v19) (by rfl) ?h19 ?k19
  case h19 => (intro w1 hC; obtain ⟨c1, c2, c3, c4, c5⟩ := hC; go_simp; rfl)
  simp only [Act.put, List.setIfInBounds_toArray, List.set_cons_zero, List.set_cons_succ]
  refine q_run (v := ?v20) (by rfl) ?h20 ?k20
  case h20 => (intro w1 hC; obtain ⟨c1, c2, c3, c4, c5⟩ := hC; go_simp; rfl)
  simp only [Act.put, List.setIfInBounds_toArray, List.set_cons_zero, List.set_cons_succ]
  refine q_run (v := ?v21) (by rfl) ?h21 ?k21
  case h21 => (intro w1 hC; obtain ⟨c1, c2, c3, c4, c5⟩ := hC; go_simp; rfl)
  simp only [Act.put, List.setIfInBounds_toArray, List.set_cons_zero, List.set_cons_succ]
  refine q_call (v := .int .i64 (bitZ a (k : Int))) (f := 15) (args := #[.agg #[.int .u64 (hI a), .int .u64 (lI a)], .int .i64 (k : Int)]) (by rfl) ?h22 ?g22 ?k22
  case h22 => (intro w1 hC; obtain ⟨c1, c2, c3, c4, c5⟩ := hC; go_simp)
  case g22 => exact fun w1 hC => (bit_any a k w1).mono fun e w' ⟨he, hb⟩ => ⟨he, keepc hb hC.1, keepc hb hC.2.1, keepc hb hC.2.2.1, keepc hb hC.2.2.2.1, keepb hb hC.2.2.2.2⟩
  simp only [Act.put, List.setIfInBounds_toArray, List.set_cons_zero, List.set_cons_succ]
  refine q_run (v := ?v23) (by rfl) ?h23 ?k23
  case h23 => (intro w1 hC; obtain ⟨c1, c2, c3, c4, c5⟩ := hC; go_simp; rfl)
  simp only [Act.put, List.setIfInBounds_toArray, List.set_cons_zero, List.set_cons_succ]
  refine q_run (v := ?v24) (by rfl) ?h24 ?k24
  case h24 => (intro w1 hC; obtain ⟨c1, c2, c3, c4, c5⟩ := hC; go_simp; rfl)
  simp only [Act.put, List.setIfInBounds_toArray, List.set_cons_zero, List.set_cons_succ]
  refine q_call (v := .int .i64 (bitZ b (k : Int))) (f := 15) (args := #[.agg #[.int .u64 (hI b), .int .u64 (lI b)], .int .i64 (k : Int)]) (by rfl) ?h25 ?g25 ?k25
  case h25 => (intro w1 hC; obtain ⟨c1, c2, c3, c4, c5⟩ := hC; go_simp)
  case g25 => exact fun w1 hC => (bit_any b k w1).mono fun e w' ⟨he, hb⟩ => ⟨he, keepc hb hC.1, keepc hb hC.2.1, keepc hb hC.2.2.1, keepc hb hC.2.2.2.1, keepb hb hC.2.2.2.2⟩
  simp only [Act.put, List.setIfInBounds_toArray, List.set_cons_zero, List.set_cons_succ]
  refine q_run (v := ?v26) (by rfl) ?h26 ?k26
  case h26 => (intro w1 hC; obtain ⟨c1, c2, c3, c4, c5⟩ := hC; go_simp; rfl)
  simp only [Act.put, List.setIfInBounds_toArray, List.set_cons_zero, List.set_cons_succ]
  refine q_run (v := ?v27) (by rfl) ?h27 ?k27
  case h27 => (intro w1 hC; obtain ⟨c1, c2, c3, c4, c5⟩ := hC; go_simp; rfl)
  simp only [Act.put, List.setIfInBounds_toArray, List.set_cons_zero, List.set_cons_succ]
  refine q_run (v := ?v28) (by rfl) ?h28 ?k28
  case h28 => (intro w1 hC; obtain ⟨c1, c2, c3, c4, c5⟩ := hC; go_simp; rfl)
  simp only [Act.put, List.setIfInBounds_toArray, List.set_cons_zero, List.set_cons_succ]
  refine q_run (v := ?v29) (by rfl) ?h29 ?k29
  case h29 => (intro w1 hC; obtain ⟨c1, c2, c3, c4, c5⟩ := hC; go_simp; rfl)
  simp only [Act.put, List.setIfInBounds_toArray, List.set_cons_zero, List.set_cons_succ]
  refine q_run (v := ?v30) (by rfl) ?h30 ?k30
  case h30 => (intro w1 hC; obtain ⟨c1, c2, c3, c4, c5⟩ := hC; go_simp; rfl)
  simp only [Act.put, List.setIfInBounds_toArray, List.set_cons_zero, List.set_cons_succ]
  refine q_run (v := ?v31) (by rfl) ?h31 ?k31
  case h31 => (intro w1 hC; obtain ⟨c1, c2, c3, c4, c5⟩ := hC; go_simp; rfl)
  simp only [Act.put, List.setIfInBounds_toArray, List.set_cons_zero, List.set_cons_succ]
  refine q_run (v := ?v32) (by rfl) ?h32 ?k32
  case h32 => (intro w1 hC; obtain ⟨c1, c2, c3, c4, c5⟩ := hC; go_simp; rfl)
  simp only [Act.put, List.setIfInBounds_toArray, List.set_cons_zero, List.set_cons_succ]
  refine wpQuiet_nil ?_
  rintro w1 ⟨-, -, -, -, kB⟩
  go_wp2
  go_ret
  exact ⟨rfl, kB⟩

set_option maxHeartbeats 8000000 in
set_option maxRecDepth 100000 in
theorem ring_lt1h (a b c : BitVec 128) (w : World) (k : Nat) (hk : k < 128) (hl : leadN (a ^^^ b) = k) (ha : bitZ a (k : Int) = 0) (hb : bitZ b (k : Int) = 1) (hc : cmpZ a b = -1) (hne : ¬ hI a = hI b) (hM : 0 < cmpZ b c) :
    Calls Try.prog 3 #[.agg #[.int .u64 (hI a), .int .u64 (lI a)], .agg #[.int .u64 (hI b), .int .u64 (lI b)], .agg #[.int .u64 (hI c), .int .u64 (lI c)]] w fun e w' => e = .returned (.bool true) ∧ Below w.heap.size w w' := by
  have e1 := ring1 a b
  have e2 := ring2 a b
  have e3 := ring3 a b c
  have e4 := ring4 a b
  have e8 : ((onesN a : Nat) : Int) + ((onesN (~~~a) : Nat) : Int) = 128 := by have := ones_not a; omega
  have g8 : IntKind.i64.wrap (((onesN a : Nat) : Int) + ((onesN (~~~a) : Nat) : Int)) = 128 := by rw [e8]; decide
  have e5 : cmpZ b a = 1 := by rw [ring5, hc]; decide
  have e6 : underB a b = true := by have := cmp_lt a b; rw [hc] at this; exact this.mp (by decide)
  have hk2 : (k : Int) < 128 := by omega
  have hk3 : ((k : Int) == 128) = false := by simp; omega
  go_enter Try.func3, Try.ntmps3
  go_wp2_with fail
  refine (known_any _).mono ?_
  rintro e w1 ⟨rfl, hb1⟩
  have A1 : Rd w1 w.heap.size a := (((Rd.new w a 24).alloc (.cells #[.int .u64 (hI b), .int .u64 (lI b)] 24)).alloc (.cells #[.int .u64 (hI c), .int .u64 (lI c)] 24)).keep hb1
  have B1 : Rd w1 (w.heap.size + 1) b := by
    have := ((Rd.new (w.alloc (.cells #[.int .u64 (hI a), .int .u64 (lI a)] 24)) b 24).alloc (.cells #[.int .u64 (hI c), .int .u64 (lI c)] 24)).keep hb1
    simpa using this
  have C1 : Rd w1 (w.heap.size + 1 + 1) c := by
    have := (Rd.new ((w.alloc (.cells #[.int .u64 (hI a), .int .u64 (lI a)] 24)).alloc (.cells #[.int .u64 (hI b), .int .u64 (lI b)] 24)) c 24).keep hb1
    simpa using this
  have kB1 := keepb hb1 (bl3 w _ _ _)
  clear hb1
  have a0 := A1.1
  have a1 := A1.2
  have b0 := B1.1
  have b1 := B1.2
  have c0 := C1.1
  have c1 := C1.2
  go_wp2_with fail
  refine (add_any _ _ _).mono ?_
  rintro e w2 ⟨rfl, hb2⟩
  clear a0 a1 b0 b1 c0 c1
  have kB2 := (keepb hb2 kB1).alloc (keepb hb2 kB1).size (.cells #[.int .u64 (hI (a + b)), .int .u64 (lI (a + b))] 24)
  have A2 := (A1.keep hb2).alloc (.cells #[.int .u64 (hI (a + b)), .int .u64 (lI (a + b))] 24)
  have B2 := (B1.keep hb2).alloc (.cells #[.int .u64 (hI (a + b)), .int .u64 (lI (a + b))] 24)
  have C2 := (C1.keep hb2).alloc (.cells #[.int .u64 (hI (a + b)), .int .u64 (lI (a + b))] 24)
  have S2 := Rd.new w2 (a + b) 24
  clear A1 B1 C1 kB1 hb2
  have a0 := A2.1
  have a1 := A2.2
  have b0 := B2.1
  have b1 := B2.2
  have c0 := C2.1
  have c1 := C2.2
  have s0 := S2.1
  have s1 := S2.2
  go_wp2_with fail
  refine (add_any _ _ _).mono ?_
  rintro e w3 ⟨rfl, hb3⟩
  clear a0 a1 b0 b1 c0 c1 s0 s1
  have kB3 := (keepb hb3 kB2).alloc (keepb hb3 kB2).size (.cells #[.int .u64 (hI (a + b)), .int .u64 (lI (a + b))] 24)
  have A3 := (A2.keep hb3).alloc (.cells #[.int .u64 (hI (a + b)), .int .u64 (lI (a + b))] 24)
  have B3 := (B2.keep hb3).alloc (.cells #[.int .u64 (hI (a + b)), .int .u64 (lI (a + b))] 24)
  have C3 := (C2.keep hb3).alloc (.cells #[.int .u64 (hI (a + b)), .int .u64 (lI (a + b))] 24)
  have S3 := (S2.keep hb3).alloc (.cells #[.int .u64 (hI (a + b)), .int .u64 (lI (a + b))] 24)
  have T3 := Rd.new w3 (a + b) 24
  clear A2 B2 C2 S2 kB2 hb3
  have a0 := A3.1
  have a1 := A3.2
  have b0 := B3.1
  have b1 := B3.2
  have c0 := C3.1
  have c1 := C3.2
  have s0 := S3.1
  have s1 := S3.2
  have t0 := T3.1
  have t1 := T3.2
  go_wp2_with fail
  refine (sub_any _ _ _).mono ?_
  rintro e w4 ⟨rfl, hb4⟩
  clear a0 a1 b0 b1 c0 c1 s0 s1 t0 t1
  have kB4 := (keepb hb4 kB3).alloc (keepb hb4 kB3).size (.cells #[.int .u64 (hI b), .int .u64 (lI b)] 24)
  have A4 := (A3.keep hb4).alloc (.cells #[.int .u64 (hI b), .int .u64 (lI b)] 24)
  have B4 := (B3.keep hb4).alloc (.cells #[.int .u64 (hI b), .int .u64 (lI b)] 24)
  have C4 := (C3.keep hb4).alloc (.cells #[.int .u64 (hI b), .int .u64 (lI b)] 24)
  have S4 := (S3.keep hb4).alloc (.cells #[.int .u64 (hI b), .int .u64 (lI b)] 24)
  have T4 := (T3.keep hb4).alloc (.cells #[.int .u64 (hI b), .int .u64 (lI b)] 24)
  have U4 := Rd.new w4 b 24
  clear A3 B3 C3 S3 T3 kB3 hb4
  have a0 := A4.1
  have a1 := A4.2
  have b0 := B4.1
  have b1 := B4.2
  have c0 := C4.1
  have c1 := C4.2
  have s0 := S4.1
  have s1 := S4.2
  have t0 := T4.1
  have t1 := T4.2
  have u0 := U4.1
  have u1 := U4.2
  go_wp2_with fail
  refine (add_any _ _ _).mono ?_
  rintro e w5 ⟨rfl, hb5⟩
  clear a0 a1 b0 b1 c0 c1 s0 s1 t0 t1 u0 u1
  have kB5 := (keepb hb5 kB4).alloc (keepb hb5 kB4).size (.cells #[.int .u64 (hI (a + (b + c))), .int .u64 (lI (a + (b + c)))] 24)
  have A5 := (A4.keep hb5).alloc (.cells #[.int .u64 (hI (a + (b + c))), .int .u64 (lI (a + (b + c)))] 24)
  have B5 := (B4.keep hb5).alloc (.cells #[.int .u64 (hI (a + (b + c))), .int .u64 (lI (a + (b + c)))] 24)
  have C5 := (C4.keep hb5).alloc (.cells #[.int .u64 (hI (a + (b + c))), .int .u64 (lI (a + (b + c)))] 24)
  have S5 := (S4.keep hb5).alloc (.cells #[.int .u64 (hI (a + (b + c))), .int .u64 (lI (a + (b + c)))] 24)
  have T5 := (T4.keep hb5).alloc (.cells #[.int .u64 (hI (a + (b + c))), .int .u64 (lI (a + (b + c)))] 24)
  have U5 := (U4.keep hb5).alloc (.cells #[.int .u64 (hI (a + (b + c))), .int .u64 (lI (a + (b + c)))] 24)
  have X5 := Rd.new w5 (a + (b + c)) 24
  clear A4 B4 C4 S4 T4 U4 kB4 hb5
  have a0 := A5.1
  have a1 := A5.2
  have b0 := B5.1
  have b1 := B5.2
  have c0 := C5.1
  have c1 := C5.2
  have s0 := S5.1
  have s1 := S5.2
  have t0 := T5.1
  have t1 := T5.2
  have u0 := U5.1
  have u1 := U5.2
  have x0 := X5.1
  have x1 := X5.2
  go_wp2_with fail
  refine (add_any _ _ _).mono ?_
  rintro e w6 ⟨rfl, hb6⟩
  clear a0 a1 b0 b1 c0 c1 s0 s1 t0 t1 u0 u1 x0 x1
  have kB6 := (keepb hb6 kB5).alloc (keepb hb6 kB5).size (.cells #[.int .u64 (hI (b + c)), .int .u64 (lI (b + c))] 24)
  have A6 := (A5.keep hb6).alloc (.cells #[.int .u64 (hI (b + c)), .int .u64 (lI (b + c))] 24)
  have B6 := (B5.keep hb6).alloc (.cells #[.int .u64 (hI (b + c)), .int .u64 (lI (b + c))] 24)
  have C6 := (C5.keep hb6).alloc (.cells #[.int .u64 (hI (b + c)), .int .u64 (lI (b + c))] 24)
  have S6 := (S5.keep hb6).alloc (.cells #[.int .u64 (hI (b + c)), .int .u64 (lI (b + c))] 24)
  have T6 := (T5.keep hb6).alloc (.cells #[.int .u64 (hI (b + c)), .int .u64 (lI (b + c))] 24)
  have U6 := (U5.keep hb6).alloc (.cells #[.int .u64 (hI (b + c)), .int .u64 (lI (b + c))] 24)
  have X6 := (X5.keep hb6).alloc (.cells #[.int .u64 (hI (b + c)), .int .u64 (lI (b + c))] 24)
  have Y6 := Rd.new w6 (b + c) 24
  clear A5 B5 C5 S5 T5 U5 X5 kB5 hb6
  have a0 := A6.1
  have a1 := A6.2
  have b0 := B6.1
  have b1 := B6.2
  have c0 := C6.1
  have c1 := C6.2
  have s0 := S6.1
  have s1 := S6.2
  have t0 := T6.1
  have t1 := T6.2
  have u0 := U6.1
  have u1 := U6.2
  have x0 := X6.1
  have x1 := X6.2
  have y0 := Y6.1
  have y1 := Y6.2
  go_wp2_with fail
  refine (add_any _ _ _).mono ?_
  rintro e w7 ⟨rfl, hb7⟩
  clear a0 a1 b0 b1 c0 c1 s0 s1 t0 t1 u0 u1 x0 x1 y0 y1
  have kB7 := (keepb hb7 kB6).alloc (keepb hb7 kB6).size (.cells #[.int .u64 (hI (a + (b + c))), .int .u64 (lI (a + (b + c)))] 24)
  have A7 := (A6.keep hb7).alloc (.cells #[.int .u64 (hI (a + (b + c))), .int .u64 (lI (a + (b + c)))] 24)
  have B7 := (B6.keep hb7).alloc (.cells #[.int .u64 (hI (a + (b + c))), .int .u64 (lI (a + (b + c)))] 24)
  have C7 := (C6.keep hb7).alloc (.cells #[.int .u64 (hI (a + (b + c))), .int .u64 (lI (a + (b + c)))] 24)
  have S7 := (S6.keep hb7).alloc (.cells #[.int .u64 (hI (a + (b + c))), .int .u64 (lI (a + (b + c)))] 24)
  have T7 := (T6.keep hb7).alloc (.cells #[.int .u64 (hI (a + (b + c))), .int .u64 (lI (a + (b + c)))] 24)
  have U7 := (U6.keep hb7).alloc (.cells #[.int .u64 (hI (a + (b + c))), .int .u64 (lI (a + (b + c)))] 24)
  have X7 := (X6.keep hb7).alloc (.cells #[.int .u64 (hI (a + (b + c))), .int .u64 (lI (a + (b + c)))] 24)
  have Y7 := (Y6.keep hb7).alloc (.cells #[.int .u64 (hI (a + (b + c))), .int .u64 (lI (a + (b + c)))] 24)
  have Z7 := Rd.new w7 (a + (b + c)) 24
  clear A6 B6 C6 S6 T6 U6 X6 Y6 kB6 hb7
  have a0 := A7.1
  have a1 := A7.2
  have b0 := B7.1
  have b1 := B7.2
  have c0 := C7.1
  have c1 := C7.2
  have s0 := S7.1
  have s1 := S7.2
  have t0 := T7.1
  have t1 := T7.2
  have u0 := U7.1
  have u1 := U7.2
  have x0 := X7.1
  have x1 := X7.2
  have y0 := Y7.1
  have y1 := Y7.2
  have z0 := Z7.1
  have z1 := Z7.2
  go_wp2_with fail
  refine (cmp_any _ _ _).mono ?_
  rintro e w8 ⟨rfl, hb8⟩
  clear a0 a1 b0 b1 c0 c1 s0 s1 t0 t1 u0 u1 x0 x1 y0 y1 z0 z1
  have kB8 := keepb hb8 kB7
  have A8 := A7.keep hb8
  have B8 := B7.keep hb8
  have C8 := C7.keep hb8
  clear A7 B7 C7 S7 T7 U7 X7 Y7 Z7 kB7 hb8
  have a0 := A8.1
  have a1 := A8.2
  have b0 := B8.1
  have b1 := B8.2
  have c0 := C8.1
  have c1 := C8.2
  go_wp2_with fail
  refine (sub_any _ _ _).mono ?_
  rintro e w9 ⟨rfl, hb9⟩
  clear a0 a1 b0 b1 c0 c1
  have kB9 := (keepb hb9 kB8).alloc (keepb hb9 kB8).size (.cells #[.int .u64 (hI (a - b)), .int .u64 (lI (a - b))] 24)
  have A9 := (A8.keep hb9).alloc (.cells #[.int .u64 (hI (a - b)), .int .u64 (lI (a - b))] 24)
  have B9 := (B8.keep hb9).alloc (.cells #[.int .u64 (hI (a - b)), .int .u64 (lI (a - b))] 24)
  have C9 := (C8.keep hb9).alloc (.cells #[.int .u64 (hI (a - b)), .int .u64 (lI (a - b))] 24)
  clear A8 B8 C8 kB8 hb9
  have a0 := A9.1
  have a1 := A9.2
  have b0 := B9.1
  have b1 := B9.2
  have c0 := C9.1
  have c1 := C9.2
  go_wp2_with fail
  refine (cmp_any _ _ _).mono ?_
  rintro e w10 ⟨rfl, hb10⟩
  clear a0 a1 b0 b1 c0 c1
  have kB10 := keepb hb10 kB9
  have A10 := A9.keep hb10
  have B10 := B9.keep hb10
  have C10 := C9.keep hb10
  clear A9 B9 C9 kB9 hb10
  have a0 := A10.1
  have a1 := A10.2
  have b0 := B10.1
  have b1 := B10.2
  have c0 := C10.1
  have c1 := C10.2
  go_wp2_with fail
  refine (cmp_any _ _ _).mono ?_
  rintro e w11 ⟨rfl, hb11⟩
  clear a0 a1 b0 b1 c0 c1
  have kB11 := keepb hb11 kB10
  have A11 := A10.keep hb11
  have B11 := B10.keep hb11
  have C11 := C10.keep hb11
  clear A10 B10 C10 kB10 hb11
  have a0 := A11.1
  have a1 := A11.2
  have b0 := B11.1
  have b1 := B11.2
  have c0 := C11.1
  have c1 := C11.2
  go_wp2_with fail
  refine (wcommon_any _ _ _).mono ?_
  rintro e w12 ⟨rfl, hb12⟩
  clear a0 a1 b0 b1 c0 c1
  have kB := keepb hb12 kB11
  have AA := A11.keep hb12
  have BB := B11.keep hb12
  clear A11 B11 C11 kB11 hb12
  obtain ⟨a0, a1⟩ := AA
  obtain ⟨b0, b1⟩ := BB
  have hbl := kB.drew
  go_wp2_with fail
  go_region_held3 (fun w' => w'.cell? ⟨w.heap.size, 0, none⟩ = some (.int .u64 (hI a)) ∧ w'.cell? ⟨w.heap.size, 1, none⟩ = some (.int .u64 (lI a)) ∧ w'.cell? ⟨w.heap.size + 1, 0, none⟩ = some (.int .u64 (hI b)) ∧ w'.cell? ⟨w.heap.size + 1, 1, none⟩ = some (.int .u64 (lI b)) ∧ Below w.heap.size w w')
    (first | (obtain ⟨k1, k2, k3, k4, k9⟩ := ‹_ ∧ _›; exact ⟨keepc hb k1, keepc hb k2, keepc hb k3, keepc hb k4, keepb hb k9⟩) | exact ⟨a0, a1, b0, b1, hbl⟩)
    (first
      | (go_at_call 12; refine (xor_any _ _ _).mono ?_; rintro e w' ⟨rfl, hb⟩)
      | (go_at_call 11; refine (lead_any _ _).mono ?_; rintro e w' ⟨rfl, hb⟩)
      | (go_at_call 13; refine (ones_any _ _).mono ?_; rintro e w' ⟨rfl, hb⟩)
      | (go_at_call 14; refine (not_any _ _).mono ?_; rintro e w' ⟨rfl, hb⟩))
  clear a0 a1 b0 b1 kB hbl
  obtain ⟨a0, a1, b0, b1, kB⟩ := ‹_ ∧ _›
  have hbl := kB.drew
  go_wp2_with fail
  refine q_region (C := (fun w' => w'.cell? ⟨w.heap.size, 0, none⟩ = some (.int .u64 (hI a)) ∧ w'.cell? ⟨w.heap.size, 1, none⟩ = some (.int .u64 (lI a)) ∧ w'.cell? ⟨w.heap.size + 1, 0, none⟩ = some (.int .u64 (hI b)) ∧ w'.cell? ⟨w.heap.size + 1, 1, none⟩ = some (.int .u64 (lI b)) ∧ Below w.heap.size w w')) (by kernel_rfl) (by kernel_rfl) ⟨a0, a1, b0, b1, hbl⟩ ?_
  clear a0 a1 b0 b1 kB hbl
  refine q_run (v := ?v0) (by rfl) ?h0 ?k0
  case h0 => (intro w1 hC; obtain ⟨c1, c2, c3, c4, c5⟩ := hC; go_simp; rfl)
  simp only [Act.put, List.setIfInBounds_toArray, List.set_cons_zero, List.set_cons_succ]
  refine q_run (v := ?v1) (by rfl) ?h1 ?k1
  case h1 => (intro w1 hC; obtain ⟨c1, c2, c3, c4, c5⟩ := hC; go_simp; rfl)
  simp only [Act.put, List.setIfInBounds_toArray, List.set_cons_zero, List.set_cons_succ]
  refine q_run (v := ?v2) (by rfl) ?h2 ?k2
  case h2 => (intro w1 hC; obtain ⟨c1, c2, c3, c4, c5⟩ := hC; go_simp; rfl)
  simp only [Act.put, List.setIfInBounds_toArray, List.set_cons_zero, List.set_cons_succ]
  refine q_skip (by rfl) ?_
  simp only [Act.put, List.setIfInBounds_toArray, List.set_cons_zero, List.set_cons_succ]
  refine q_skip (by rfl) ?_
  simp only [Act.put, List.setIfInBounds_toArray, List.set_cons_zero, List.set_cons_succ]
  refine q_skip (by rfl) ?_
  simp only [Act.put, List.setIfInBounds_toArray, List.set_cons_zero, List.set_cons_succ]
  refine q_run (v := ?v6) (by rfl) ?h6 ?k6
  case h6 => (intro w1 hC; obtain ⟨c1, c2, c3, c4, c5⟩ := hC; go_simp; rfl)
  simp only [Act.put, List.setIfInBounds_toArray, List.set_cons_zero, List.set_cons_succ]
  refine q_run (v := ?v7) (by rfl) ?h7 ?k7
  case h7 => (intro w1 hC; obtain ⟨c1, c2, c3, c4, c5⟩ := hC; go_simp; rfl)
  simp only [Act.put, List.setIfInBounds_toArray, List.set_cons_zero, List.set_cons_succ]
  refine q_run (v := ?v8) (by rfl) ?h8 ?k8
  case h8 => (intro w1 hC; obtain ⟨c1, c2, c3, c4, c5⟩ := hC; go_simp; rfl)
  simp only [Act.put, List.setIfInBounds_toArray, List.set_cons_zero, List.set_cons_succ]
  refine q_run (v := ?v9) (by rfl) ?h9 ?k9
  case h9 => (intro w1 hC; obtain ⟨c1, c2, c3, c4, c5⟩ := hC; go_simp; rfl)
  simp only [Act.put, List.setIfInBounds_toArray, List.set_cons_zero, List.set_cons_succ]
  refine q_run (v := ?v10) (by rfl) ?h10 ?k10
  case h10 => (intro w1 hC; obtain ⟨c1, c2, c3, c4, c5⟩ := hC; go_simp; rfl)
  simp only [Act.put, List.setIfInBounds_toArray, List.set_cons_zero, List.set_cons_succ]
  refine q_run (v := ?v11) (by rfl) ?h11 ?k11
  case h11 => (intro w1 hC; obtain ⟨c1, c2, c3, c4, c5⟩ := hC; go_simp; rfl)
  simp only [Act.put, List.setIfInBounds_toArray, List.set_cons_zero, List.set_cons_succ]
  refine q_run (v := ?v12) (by rfl) ?h12 ?k12
  case h12 => (intro w1 hC; obtain ⟨c1, c2, c3, c4, c5⟩ := hC; go_simp; rfl)
  simp only [Act.put, List.setIfInBounds_toArray, List.set_cons_zero, List.set_cons_succ]
  refine q_call (v := .int .i64 (bitZ a (k : Int))) (f := 15) (args := #[.agg #[.int .u64 (hI a), .int .u64 (lI a)], .int .i64 (k : Int)]) (by rfl) ?h13 ?g13 ?k13
  case h13 => (intro w1 hC; obtain ⟨c1, c2, c3, c4, c5⟩ := hC; go_simp)
  case g13 => exact fun w1 hC => (bit_any a k w1).mono fun e w' ⟨he, hb⟩ => ⟨he, keepc hb hC.1, keepc hb hC.2.1, keepc hb hC.2.2.1, keepc hb hC.2.2.2.1, keepb hb hC.2.2.2.2⟩
  simp only [Act.put, List.setIfInBounds_toArray, List.set_cons_zero, List.set_cons_succ]
  refine q_run (v := ?v14) (by rfl) ?h14 ?k14
  case h14 => (intro w1 hC; obtain ⟨c1, c2, c3, c4, c5⟩ := hC; go_simp; rfl)
  simp only [Act.put, List.setIfInBounds_toArray, List.set_cons_zero, List.set_cons_succ]
  refine q_run (v := ?v15) (by rfl) ?h15 ?k15
  case h15 => (intro w1 hC; obtain ⟨c1, c2, c3, c4, c5⟩ := hC; go_simp; rfl)
  simp only [Act.put, List.setIfInBounds_toArray, List.set_cons_zero, List.set_cons_succ]
  refine q_call (v := .int .i64 (bitZ b (k : Int))) (f := 15) (args := #[.agg #[.int .u64 (hI b), .int .u64 (lI b)], .int .i64 (k : Int)]) (by rfl) ?h16 ?g16 ?k16
  case h16 => (intro w1 hC; obtain ⟨c1, c2, c3, c4, c5⟩ := hC; go_simp)
  case g16 => exact fun w1 hC => (bit_any b k w1).mono fun e w' ⟨he, hb⟩ => ⟨he, keepc hb hC.1, keepc hb hC.2.1, keepc hb hC.2.2.1, keepc hb hC.2.2.2.1, keepb hb hC.2.2.2.2⟩
  simp only [Act.put, List.setIfInBounds_toArray, List.set_cons_zero, List.set_cons_succ]
  refine q_run (v := ?v17) (by rfl) ?h17 ?k17
  case h17 => (intro w1 hC; obtain ⟨c1, c2, c3, c4, c5⟩ := hC; go_simp; rfl)
  simp only [Act.put, List.setIfInBounds_toArray, List.set_cons_zero, List.set_cons_succ]
  refine q_run (v := ?v18) (by rfl) ?h18 ?k18
  case h18 => (intro w1 hC; obtain ⟨c1, c2, c3, c4, c5⟩ := hC; go_simp; rfl)
  simp only [Act.put, List.setIfInBounds_toArray, List.set_cons_zero, List.set_cons_succ]
  refine q_run (v := ?v19) (by rfl) ?h19 ?k19
  case h19 => (intro w1 hC; obtain ⟨c1, c2, c3, c4, c5⟩ := hC; go_simp; rfl)
  simp only [Act.put, List.setIfInBounds_toArray, List.set_cons_zero, List.set_cons_succ]
  refine q_run (v := ?v20) (by rfl) ?h20 ?k20
  case h20 => (intro w1 hC; obtain ⟨c1, c2, c3, c4, c5⟩ := hC; go_simp; rfl)
  simp only [Act.put, List.setIfInBounds_toArray, List.set_cons_zero, List.set_cons_succ]
  refine q_run (v := ?v21) (by rfl) ?h21 ?k21
  case h21 => (intro w1 hC; obtain ⟨c1, c2, c3, c4, c5⟩ := hC; go_simp; rfl)
  simp only [Act.put, List.setIfInBounds_toArray, List.set_cons_zero, List.set_cons_succ]
  refine q_call (v := .int .i64 (bitZ a (k : Int))) (f := 15) (args := #[.agg #[.int .u64 (hI a), .int .u64 (lI a)], .int .i64 (k : Int)]) (by rfl) ?h22 ?g22 ?k22
  case h22 => (intro w1 hC; obtain ⟨c1, c2, c3, c4, c5⟩ := hC; go_simp)
  case g22 => exact fun w1 hC => (bit_any a k w1).mono fun e w' ⟨he, hb⟩ => ⟨he, keepc hb hC.1, keepc hb hC.2.1, keepc hb hC.2.2.1, keepc hb hC.2.2.2.1, keepb hb hC.2.2.2.2⟩
  simp only [Act.put, List.setIfInBounds_toArray, List.set_cons_zero, List.set_cons_succ]
  refine q_run (v := ?v23) (by rfl) ?h23 ?k23
  case h23 => (intro w1 hC; obtain ⟨c1, c2, c3, c4, c5⟩ := hC; go_simp; rfl)
  simp only [Act.put, List.setIfInBounds_toArray, List.set_cons_zero, List.set_cons_succ]
  refine q_run (v := ?v24) (by rfl) ?h24 ?k24
  case h24 => (intro w1 hC; obtain ⟨c1, c2, c3, c4, c5⟩ := hC; go_simp; rfl)
  simp only [Act.put, List.setIfInBounds_toArray, List.set_cons_zero, List.set_cons_succ]
  refine q_call (v := .int .i64 (bitZ b (k : Int))) (f := 15) (args := #[.agg #[.int .u64 (hI b), .int .u64 (lI b)], .int .i64 (k : Int)]) (by rfl) ?h25 ?g25 ?k25
  case h25 => (intro w1 hC; obtain ⟨c1, c2, c3, c4, c5⟩ := hC; go_simp)
  case g25 => exact fun w1 hC => (bit_any b k w1).mono fun e w' ⟨he, hb⟩ => ⟨he, keepc hb hC.1, keepc hb hC.2.1, keepc hb hC.2.2.1, keepc hb hC.2.2.2.1, keepb hb hC.2.2.2.2⟩
  simp only [Act.put, List.setIfInBounds_toArray, List.set_cons_zero, List.set_cons_succ]
  refine q_run (v := ?v26) (by rfl) ?h26 ?k26
  case h26 => (intro w1 hC; obtain ⟨c1, c2, c3, c4, c5⟩ := hC; go_simp; rfl)
  simp only [Act.put, List.setIfInBounds_toArray, List.set_cons_zero, List.set_cons_succ]
  refine q_run (v := ?v27) (by rfl) ?h27 ?k27
  case h27 => (intro w1 hC; obtain ⟨c1, c2, c3, c4, c5⟩ := hC; go_simp; rfl)
  simp only [Act.put, List.setIfInBounds_toArray, List.set_cons_zero, List.set_cons_succ]
  refine q_run (v := ?v28) (by rfl) ?h28 ?k28
  case h28 => (intro w1 hC; obtain ⟨c1, c2, c3, c4, c5⟩ := hC; go_simp; rfl)
  simp only [Act.put, List.setIfInBounds_toArray, List.set_cons_zero, List.set_cons_succ]
  refine q_run (v := ?v29) (by rfl) ?h29 ?k29
  case h29 => (intro w1 hC; obtain ⟨c1, c2, c3, c4, c5⟩ := hC; go_simp; rfl)
  simp only [Act.put, List.setIfInBounds_toArray, List.set_cons_zero, List.set_cons_succ]
  refine q_run (v := ?v30) (by rfl) ?h30 ?k30
  case h30 => (intro w1 hC; obtain ⟨c1, c2, c3, c4, c5⟩ := hC; go_simp; rfl)
  simp only [Act.put, List.setIfInBounds_toArray, List.set_cons_zero, List.set_cons_succ]
  refine q_run (v := ?v31) (by rfl) ?h31 ?k31
  case h31 => (intro w1 hC; obtain ⟨c1, c2, c3, c4, c5⟩ := hC; go_simp; rfl)
  simp only [Act.put, List.setIfInBounds_toArray, List.set_cons_zero, List.set_cons_succ]
  refine q_run (v := ?v32) (by rfl) ?h32 ?k32
  case h32 => (intro w1 hC; obtain ⟨c1, c2, c3, c4, c5⟩ := hC; go_simp; rfl)
  simp only [Act.put, List.setIfInBounds_toArray, List.set_cons_zero, List.set_cons_succ]
  refine wpQuiet_nil ?_
  rintro w1 ⟨-, -, -, -, kB⟩
  go_wp2
  go_ret
  exact ⟨rfl, kB⟩

end Go.Proofs.Ytkahilfklgobpab
