/-
  The law WordSums, walked.
-/
import Derived.Test.YtkahilfklgobpaaKnown
import Derived.Test.YtkahilfklgobpaaRefW3
namespace Go.Proofs.Ytkahilfklgobpaa
open Go.RowKit
set_option linter.unusedSimpArgs false
set_option linter.unusedVariables false

/-- The variable at block B reads as the word x. -/
def Rd (w : World) (B : Nat) (x : BitVec 128) : Prop := w.cell? ⟨B, 0, none⟩ = some (.int .u64 (hI x)) ∧ w.cell? ⟨B, 1, none⟩ = some (.int .u64 (lI x))
theorem Rd.keep {W w' : World} {B : Nat} {x : BitVec 128} (h : Rd W B x) (hb : Below W.heap.size W w') : Rd w' B x := ⟨keepc hb h.1, keepc hb h.2⟩
theorem Rd.alloc {W : World} {B : Nat} {x : BitVec 128} (h : Rd W B x) (o : Obj) : Rd (W.alloc o) B x := h.keep (bl1 W o)
theorem Rd.new (W : World) (x : BitVec 128) (t : TypeId) : Rd (W.alloc (.cells #[.int .u64 (hI x), .int .u64 (lI x)] t)) W.heap.size x := by
  constructor <;> simp [go_sem]

set_option maxHeartbeats 4000000 in
theorem wordSums_any (x y : BitVec 128) (w : World) :
    Calls Try.prog 5 #[.agg #[.int .u64 (hI x), .int .u64 (lI x)], .agg #[.int .u64 (hI y), .int .u64 (lI y)]] w fun e w' => e = .returned (.bool true) ∧ Below w.heap.size w w' := by
  go_enter Try.func5, Try.ntmps5
  go_wp2_with fail
  refine (add_any _ _ _).mono ?_
  rintro e w1 ⟨rfl, hb1⟩
  have X := ((Rd.new w x 24).alloc (.cells #[.int .u64 (hI y), .int .u64 (lI y)] 24)).keep hb1
  have Y : Rd w1 (w.heap.size + 1) y := by
    have := (Rd.new (w.alloc (.cells #[.int .u64 (hI x), .int .u64 (lI x)] 24)) y 24).keep hb1
    simpa using this
  have kB := keepb hb1 (bl2 w _ _)
  clear hb1
  have X1 := X.alloc (.cells #[.int .u64 (hI (x + y)), .int .u64 (lI (x + y))] 24)
  have Y1 := Y.alloc (.cells #[.int .u64 (hI (x + y)), .int .u64 (lI (x + y))] 24)
  have A1 := Rd.new w1 (x + y) 24
  have x0 := X1.1
  have x1 := X1.2
  have y0 := Y1.1
  have y1 := Y1.2
  go_wp2_with fail
  refine (sub_any _ _ _).mono ?_
  rintro e w2 ⟨rfl, hb2⟩
  clear x0 x1 y0 y1
  have kB2 := keepb hb2 (kB.alloc kB.size _)
  have X2 := (X1.keep hb2).alloc (.cells #[.int .u64 (hI (x - y)), .int .u64 (lI (x - y))] 24)
  have Y2 := (Y1.keep hb2).alloc (.cells #[.int .u64 (hI (x - y)), .int .u64 (lI (x - y))] 24)
  have A2 := (A1.keep hb2).alloc (.cells #[.int .u64 (hI (x - y)), .int .u64 (lI (x - y))] 24)
  have D2 := Rd.new w2 (x - y) 24
  clear X Y X1 Y1 A1 kB hb2
  have x0 := X2.1
  have x1 := X2.2
  have y0 := Y2.1
  have y1 := Y2.2
  go_wp2_with fail
  refine (radd_any _ _ _).mono ?_
  rintro e w3 ⟨rfl, hb3⟩
  clear x0 x1 y0 y1
  have kB3 := keepb hb3 (kB2.alloc kB2.size _)
  have X3 := (X2.keep hb3).alloc (.cells #[.int .u64 (hI (x + y)), .int .u64 (lI (x + y))] 24)
  have Y3 := (Y2.keep hb3).alloc (.cells #[.int .u64 (hI (x + y)), .int .u64 (lI (x + y))] 24)
  have A3 := (A2.keep hb3).alloc (.cells #[.int .u64 (hI (x + y)), .int .u64 (lI (x + y))] 24)
  have D3 := (D2.keep hb3).alloc (.cells #[.int .u64 (hI (x + y)), .int .u64 (lI (x + y))] 24)
  have B3 := Rd.new w3 (x + y) 24
  clear X2 Y2 A2 D2 kB2 hb3
  have x0 := X3.1
  have x1 := X3.2
  have y0 := Y3.1
  have y1 := Y3.2
  go_wp2_with fail
  refine (rsub_any _ _ _).mono ?_
  rintro e w4 ⟨rfl, hb4⟩
  clear x0 x1 y0 y1
  have kB4 := (keepb hb4 (kB3.alloc kB3.size _))
  have X4 := (X3.keep hb4).alloc (.cells #[.int .u64 (hI (x - y)), .int .u64 (lI (x - y))] 24)
  have Y4 := (Y3.keep hb4).alloc (.cells #[.int .u64 (hI (x - y)), .int .u64 (lI (x - y))] 24)
  have A4 := (A3.keep hb4).alloc (.cells #[.int .u64 (hI (x - y)), .int .u64 (lI (x - y))] 24)
  have D4 := (D3.keep hb4).alloc (.cells #[.int .u64 (hI (x - y)), .int .u64 (lI (x - y))] 24)
  have B4 := (B3.keep hb4).alloc (.cells #[.int .u64 (hI (x - y)), .int .u64 (lI (x - y))] 24)
  have E4 := Rd.new w4 (x - y) 24
  have kB5 := kB4.alloc kB4.size (.cells #[.int .u64 (hI (x - y)), .int .u64 (lI (x - y))] 24)
  clear X3 Y3 A3 D3 B3 kB3 hb4 kB4
  obtain ⟨x0, x1⟩ := X4
  obtain ⟨y0, y1⟩ := Y4
  obtain ⟨a0, a1⟩ := A4
  obtain ⟨b0, b1⟩ := B4
  obtain ⟨d0, d1⟩ := D4
  obtain ⟨f0, f1⟩ := E4
  have hbl := kB5.drew
  go_wp2_with fail
  go_region_held3 (fun w' => w'.cell? ⟨w.heap.size, 0, none⟩ = some (.int .u64 (hI x)) ∧ w'.cell? ⟨w.heap.size, 1, none⟩ = some (.int .u64 (lI x)) ∧ w'.cell? ⟨w.heap.size + 1, 0, none⟩ = some (.int .u64 (hI y)) ∧ w'.cell? ⟨w.heap.size + 1, 1, none⟩ = some (.int .u64 (lI y)) ∧ w'.cell? ⟨w1.heap.size, 0, none⟩ = some (.int .u64 (hI (x + y))) ∧ w'.cell? ⟨w1.heap.size, 1, none⟩ = some (.int .u64 (lI (x + y))) ∧ w'.cell? ⟨w3.heap.size, 0, none⟩ = some (.int .u64 (hI (x + y))) ∧ w'.cell? ⟨w3.heap.size, 1, none⟩ = some (.int .u64 (lI (x + y))) ∧ w'.cell? ⟨w2.heap.size, 0, none⟩ = some (.int .u64 (hI (x - y))) ∧ w'.cell? ⟨w2.heap.size, 1, none⟩ = some (.int .u64 (lI (x - y))) ∧ w'.cell? ⟨w4.heap.size, 0, none⟩ = some (.int .u64 (hI (x - y))) ∧ w'.cell? ⟨w4.heap.size, 1, none⟩ = some (.int .u64 (lI (x - y))) ∧ Below w.heap.size w w')
    (first
      | (obtain ⟨k0, k1, k2, k3, k4, k5, k6, k7, k8, k9, k10, k11, k12⟩ := ‹_ ∧ _›; exact ⟨keepc hb9 k0, keepc hb9 k1, keepc hb9 k2, keepc hb9 k3, keepc hb9 k4, keepc hb9 k5, keepc hb9 k6, keepc hb9 k7, keepc hb9 k8, keepc hb9 k9, keepc hb9 k10, keepc hb9 k11, keepb hb9 k12⟩)
      | (obtain ⟨k0, k1, k2, k3, k4, k5, k6, k7, k8, k9, k10, k11, k12⟩ := ‹_ ∧ _›; exact ⟨keepc hb8 k0, keepc hb8 k1, keepc hb8 k2, keepc hb8 k3, keepc hb8 k4, keepc hb8 k5, keepc hb8 k6, keepc hb8 k7, keepc hb8 k8, keepc hb8 k9, keepc hb8 k10, keepc hb8 k11, keepb hb8 k12⟩)
      | (obtain ⟨k0, k1, k2, k3, k4, k5, k6, k7, k8, k9, k10, k11, k12⟩ := ‹_ ∧ _›; exact ⟨keepc hb7 k0, keepc hb7 k1, keepc hb7 k2, keepc hb7 k3, keepc hb7 k4, keepc hb7 k5, keepc hb7 k6, keepc hb7 k7, keepc hb7 k8, keepc hb7 k9, keepc hb7 k10, keepc hb7 k11, keepb hb7 k12⟩)
      | exact ⟨x0, x1, y0, y1, a0, a1, b0, b1, d0, d1, f0, f1, hbl⟩)
    (first
      | (go_at_call 8; refine (known_any _).mono ?_; rintro e w7 ⟨rfl, hb7⟩)
      | (go_at_call 29; refine (cmp_any _ _ _).mono ?_; rintro e w8 ⟨rfl, hb8⟩)
      | (go_at_call 30; refine (rcmp_any _ _ _).mono ?_; rintro e w9 ⟨rfl, hb9⟩))
  obtain ⟨-, -, -, -, -, -, -, -, -, -, -, -, kB⟩ := ‹_ ∧ _›
  go_wp2
  go_ret
  exact ⟨rfl, kB⟩
end Go.Proofs.Ytkahilfklgobpaa
