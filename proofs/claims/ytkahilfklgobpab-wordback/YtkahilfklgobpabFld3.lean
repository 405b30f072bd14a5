/-
  What a call of With of package word does where it lays a number in.
-/
import Derived.Test.YtkahilfklgobpabFld2
namespace Go.Proofs.Ytkahilfklgobpab
open Go.RowKit
set_option linter.unusedSimpArgs false
set_option linter.unusedVariables false

/-- What With's variables hold between its steps. -/
def S6 (w : World) (x v : BitVec 128) (f n : Int) (w' : World) : Prop := w'.cell? ⟨w.heap.size, 0, none⟩ = some (.int .u64 (hI x)) ∧ w'.cell? ⟨w.heap.size, 1, none⟩ = some (.int .u64 (lI x)) ∧ w'.cell? ⟨w.heap.size + 1, 0, none⟩ = some (.int .u64 (hI v)) ∧ w'.cell? ⟨w.heap.size + 1, 1, none⟩ = some (.int .u64 (lI v)) ∧ w'.cell? ⟨w.heap.size + 1 + 1 + 1, 0, none⟩ = some (.int .i64 f) ∧ w'.cell? ⟨w.heap.size + 1 + 1 + 1 + 1, 0, none⟩ = some (.int .i64 n) ∧ w'.cell? ⟨w.heap.size + 1 + 1, 0, none⟩ = some (.int .u64 0) ∧ w'.cell? ⟨w.heap.size + 1 + 1, 1, none⟩ = some (.int .u64 0) ∧ w'.frozen? ⟨w.heap.size + 1 + 1, 0, none⟩ = false ∧ w'.frozen? ⟨w.heap.size + 1 + 1, 1, none⟩ = false ∧ Below w.heap.size w w'
theorem S6.below {w W w' : World} {x v : BitVec 128} {f n : Int} (h : S6 w x v f n W) (hb : Below W.heap.size W w') : S6 w x v f n w' := by
  obtain ⟨k1, k2, k3, k4, k5, k6, k7, k8, k9, k10, k11⟩ := h
  exact ⟨keepc hb k1, keepc hb k2, keepc hb k3, keepc hb k4, keepc hb k5, keepc hb k6, keepc hb k7, keepc hb k8, keepf hb k7 k9, keepf hb k8 k10, keepb hb k11⟩
theorem S6.alloc {w W : World} {x v : BitVec 128} {f n : Int} (h : S6 w x v f n W) (o : Obj) : S6 w x v f n (W.alloc o) := h.below (bl1 W o)
def New2 (w : World) (B : Nat) : Prop := w.cell? ⟨B, 0, none⟩ = some (.int .u64 0) ∧ w.cell? ⟨B, 1, none⟩ = some (.int .u64 0) ∧ w.frozen? ⟨B, 0, none⟩ = false ∧ w.frozen? ⟨B, 1, none⟩ = false
theorem newc {W w' : World} {t : TypeId} (hb : Below (W.alloc (.cells #[.int .u64 0, .int .u64 0] t)).heap.size (W.alloc (.cells #[.int .u64 0, .int .u64 0] t)) w') : New2 w' W.heap.size :=
  ⟨keepc hb (by simp [go_sem]), keepc hb (by simp [go_sem]), keepf hb (v := .int .u64 0) (by simp [go_sem]) (by simp [go_sem]), keepf hb (v := .int .u64 0) (by simp [go_sem]) (by simp [go_sem])⟩
theorem newcd {W w' : World} {t : TypeId} (hb : Below (W.alloc (.cells #[.int .u64 0, .int .u64 0] t)).drew.heap.size (W.alloc (.cells #[.int .u64 0, .int .u64 0] t)).drew w') : New2 w' W.heap.size :=
  ⟨keepc hb (by simp [go_sem]), keepc hb (by simp [go_sem]), keepf hb (v := .int .u64 0) (by simp [go_sem]) (by simp [go_sem]), keepf hb (v := .int .u64 0) (by simp [go_sem]) (by simp [go_sem])⟩
theorem New2.below {W w' : World} {B : Nat} (h : New2 W B) (hb : Below W.heap.size W w') : New2 w' B := ⟨keepc hb h.1, keepc hb h.2.1, keepf hb h.1 h.2.2.1, keepf hb h.2.1 h.2.2.2⟩
theorem far {W : World} {b o M : Nat} {y u u' : Value} (h : W.cell? ⟨b, o, none⟩ = some y) (hn : M ≠ b) : ((W.setCell ⟨M, 0, none⟩ u).setCell ⟨M, 1, none⟩ u').cell? ⟨b, o, none⟩ = some y := by
  simp [go_sem, hn, h]
theorem farf {W : World} {b o M : Nat} {u u' : Value} (h : W.frozen? ⟨b, o, none⟩ = false) : ((W.setCell ⟨M, 0, none⟩ u).setCell ⟨M, 1, none⟩ u').frozen? ⟨b, o, none⟩ = false := by
  simp [go_sem, h]
theorem S6.sets {w W : World} {x v : BitVec 128} {f n : Int} (h : S6 w x v f n W) {M : Nat} (hM : w.heap.size + 5 ≤ M) (u u' : Value) : S6 w x v f n ((W.setCell ⟨M, 0, none⟩ u).setCell ⟨M, 1, none⟩ u') := by
  obtain ⟨k1, k2, k3, k4, k5, k6, k7, k8, k9, k10, k11⟩ := h
  exact ⟨far k1 (by omega), far k2 (by omega), far k3 (by omega), far k4 (by omega), far k5 (by omega), far k6 (by omega), far k7 (by omega), far k8 (by omega), farf k9, farf k10, (k11.setCell (by simp; omega) _).setCell (by simp; omega) _⟩

set_option maxHeartbeats 4000000 in
theorem with_in (x v : BitVec 128) (f n : Int) (w : World) (h : fitB f n = true) (hv : v >>> n.toNat = 0#128) :
    Calls Try.prog 21 #[.agg #[.int .u64 (hI x), .int .u64 (lI x)], .int .i64 f, .int .i64 n, .agg #[.int .u64 (hI v), .int .u64 (lI v)]] w fun e w' => e = .returned (.tuple #[.agg #[.int .u64 (hI (withW x f n v)), .int .u64 (lI (withW x f n v))], .int .i64 0]) ∧ Below w.heap.size w w' := by
  obtain ⟨h0, h1, h2, h3⟩ := fitB_t h
  unfold withW readW
  have hs := fun w => shr_any v n w
  rw [hv, hI_zero, lI_zero] at hs
  clear h hv
  go_enter Try.func21, Try.ntmps21
  go_wp2_with (first | (go_at_call 18; refine (hs _).mono ?_) | go_in)
  rintro e w2 ⟨rfl, hb⟩
  clear hs
  have x0 : w2.cell? ⟨w.heap.size, 0, none⟩ = some (.int .u64 (hI x)) := keepc hb (by simp [go_sem])
  have x1 : w2.cell? ⟨w.heap.size, 1, none⟩ = some (.int .u64 (lI x)) := keepc hb (by simp [go_sem])
  have v0 : w2.cell? ⟨w.heap.size + 1, 0, none⟩ = some (.int .u64 (hI v)) := keepc hb (by simp [go_sem])
  have v1 : w2.cell? ⟨w.heap.size + 1, 1, none⟩ = some (.int .u64 (lI v)) := keepc hb (by simp [go_sem])
  have r0 : w2.cell? ⟨w.heap.size + 1 + 1, 0, none⟩ = some (.int .u64 0) := keepc hb (by simp [go_sem])
  have r1 : w2.cell? ⟨w.heap.size + 1 + 1, 1, none⟩ = some (.int .u64 0) := keepc hb (by simp [go_sem])
  have r2 : w2.frozen? ⟨w.heap.size + 1 + 1, 0, none⟩ = false := keepf hb (v := .int .u64 0) (by simp [go_sem]) (by simp [go_sem])
  have r3 : w2.frozen? ⟨w.heap.size + 1 + 1, 1, none⟩ = false := keepf hb (v := .int .u64 0) (by simp [go_sem]) (by simp [go_sem])
  have f0 : w2.cell? ⟨w.heap.size + 1 + 1 + 1, 0, none⟩ = some (.int .i64 f) := keepc hb (by simp [go_sem])
  have n0 : w2.cell? ⟨w.heap.size + 1 + 1 + 1 + 1, 0, none⟩ = some (.int .i64 n) := keepc hb (by simp [go_sem])
  have kB : Below w.heap.size w w2 := keepb hb (((bl3 _ _ _ _).alloc (by simp; omega) _).alloc (by simp; omega) _)
  clear hb
  have F2 : S6 w x v f n w2.drew := ⟨x0, x1, v0, v1, f0, n0, r0, r1, r2, r3, kB.drew⟩
  have zz := cell_in n0
  clear x0 x1 v0 v1 f0 n0 r0 r1 r2 r3 kB
  go_wp2_with fail
  go_region_held3 (fun w' => w'.cell? ⟨w.heap.size, 0, none⟩ = some (.int .u64 (hI x)) ∧ w'.cell? ⟨w.heap.size, 1, none⟩ = some (.int .u64 (lI x)) ∧ w'.cell? ⟨w.heap.size + 1, 0, none⟩ = some (.int .u64 (hI v)) ∧ w'.cell? ⟨w.heap.size + 1, 1, none⟩ = some (.int .u64 (lI v)) ∧ w'.cell? ⟨w.heap.size + 1 + 1 + 1, 0, none⟩ = some (.int .i64 f) ∧ w'.cell? ⟨w.heap.size + 1 + 1 + 1 + 1, 0, none⟩ = some (.int .i64 n) ∧ w'.cell? ⟨w.heap.size + 1 + 1, 0, none⟩ = some (.int .u64 0) ∧ w'.cell? ⟨w.heap.size + 1 + 1, 1, none⟩ = some (.int .u64 0) ∧ w'.frozen? ⟨w.heap.size + 1 + 1, 0, none⟩ = false ∧ w'.frozen? ⟨w.heap.size + 1 + 1, 1, none⟩ = false ∧ Below w.heap.size w w')
    (first
      | exact F2
      | exact F4
      | exact F3
      | exact S6.alloc F4 _
      | exact S6.alloc F3 _
      | exact S6.alloc F2 _
      | exact S6.sets F4 (by omega) _ _)
    (first
      | (go_at_call 33; refine (read_any x f n _ _ _ h0 h1 h2 (by omega) (by obtain ⟨k1, k2, k3, k4, k5, k6, k7, k8, k9, k10, k11⟩ := ‹_ ∧ _›; exact k5) (by obtain ⟨k1, k2, k3, k4, k5, k6, k7, k8, k9, k10, k11⟩ := ‹_ ∧ _›; exact k6)).mono ?_; rintro e w3 ⟨rfl, hb3⟩; have F3 : S6 w x v f n w3 := S6.below (show S6 w x v f n _ from ‹_ ∧ _›) hb3; have z3 := hb3.size; (try simp at z3); (first | (have P := newcd hb3; have p0 : w3.cell? ⟨w2.heap.size, 0, none⟩ = some (.int .u64 0) := P.1; have p1 : w3.cell? ⟨w2.heap.size, 1, none⟩ = some (.int .u64 0) := P.2.1; have p2 : w3.frozen? ⟨w2.heap.size, 0, none⟩ = false := P.2.2.1; have p3 : w3.frozen? ⟨w2.heap.size, 1, none⟩ = false := P.2.2.2; clear P) | skip))
      | (go_at_call 12; refine (xor_any _ _ _).mono ?_; rintro e w4 ⟨rfl, hb4⟩; have F4 : S6 w x v f n w4 := S6.below (show S6 w x v f n _ from ‹_ ∧ _›) hb4; have z4 := hb4.size; (try simp at z4); (first | (have q0 := keepc hb4 p0; have q1 := keepc hb4 p1; have q2 := keepf hb4 p0 p2; have q3 := keepf hb4 p1 p3) | (have Q := newc hb4; have q0 := Q.1; have q1 := Q.2.1; have q2 := Q.2.2.1; have q3 := Q.2.2.2; clear Q) | skip)))
  · obtain ⟨k1, k2, -, -, -, -, k7, k8, k9, k10, k11⟩ := ‹_ ∧ _›
    have c0 : (w4.alloc (.cells #[.int .u64 (hI (x <<< f.toNat >>> (128 - n).toNat ^^^ v)), .int .u64 (lI (x <<< f.toNat >>> (128 - n).toNat ^^^ v))] 24)).cell? ⟨w4.heap.size, 0, none⟩ = some (.int .u64 (hI (x <<< f.toNat >>> (128 - n).toNat ^^^ v))) := by simp [go_sem]
    have c1 : (w4.alloc (.cells #[.int .u64 (hI (x <<< f.toNat >>> (128 - n).toNat ^^^ v)), .int .u64 (lI (x <<< f.toNat >>> (128 - n).toNat ^^^ v))] 24)).cell? ⟨w4.heap.size, 1, none⟩ = some (.int .u64 (lI (x <<< f.toNat >>> (128 - n).toNat ^^^ v))) := by simp [go_sem]
    have hbl := k11.drew
    have hw1 : IntKind.i64.wrap (128 - f) = 128 - f := by rw [IntKind.wrap_i64]; omega
    have hw2 : IntKind.i64.wrap (128 - f - n) = 128 - f - n := by rw [IntKind.wrap_i64]; omega
    clear F2 F3 F4
    go_wp2_with fail
    go_region_held3 (fun w' => w'.cell? ⟨w.heap.size, 0, none⟩ = some (.int .u64 (hI x)) ∧ w'.cell? ⟨w.heap.size, 1, none⟩ = some (.int .u64 (lI x)) ∧ w'.cell? ⟨w4.heap.size, 0, none⟩ = some (.int .u64 (hI (x <<< f.toNat >>> (128 - n).toNat ^^^ v))) ∧ w'.cell? ⟨w4.heap.size, 1, none⟩ = some (.int .u64 (lI (x <<< f.toNat >>> (128 - n).toNat ^^^ v))) ∧ w'.cell? ⟨w.heap.size + 1 + 1, 0, none⟩ = some (cv w' (w.heap.size + 1 + 1) 0) ∧ w'.cell? ⟨w.heap.size + 1 + 1, 1, none⟩ = some (cv w' (w.heap.size + 1 + 1) 1) ∧ w'.frozen? ⟨w.heap.size + 1 + 1, 0, none⟩ = false ∧ w'.frozen? ⟨w.heap.size + 1 + 1, 1, none⟩ = false ∧ Below w.heap.size w w')
      (first
        | exact ⟨k1, k2, c0, c1, cv_of k7, cv_of k8, k9, k10, hbl⟩
        | (obtain ⟨l1, l2, l3, l4, l5, l6, l7, l8, l9⟩ := ‹_ ∧ _›; exact ⟨keepc hb6 l1, keepc hb6 l2, keepc hb6 l3, keepc hb6 l4, cv_of (keepc hb6 l5), cv_of (keepc hb6 l6), keepf hb6 l5 l7, keepf hb6 l6 l8, keepb hb6 l9⟩)
        | (obtain ⟨l1, l2, l3, l4, l5, l6, l7, l8, l9⟩ := ‹_ ∧ _›; exact ⟨keepc hb5 l1, keepc hb5 l2, keepc hb5 l3, keepc hb5 l4, cv_of (keepc hb5 l5), cv_of (keepc hb5 l6), keepf hb5 l5 l7, keepf hb5 l6 l8, keepb hb5 l9⟩)
        | (obtain ⟨l1, l2, l3, l4, l5, l6, l7, l8, l9⟩ := ‹_ ∧ _›; exact ⟨far l1 (by omega), far l2 (by omega), far l3 (by omega), far l4 (by omega), cv_new (by simp [go_sem, l5]), cv_new (by simp [go_sem, l6]), farf l7, farf l8, (l9.setCell (by simp; omega) _).setCell (by simp; omega) _⟩))
      (first
        | (go_at_call 17; refine (shl_any _ _ _).mono ?_; rintro e w5 ⟨rfl, hb5⟩)
        | (go_at_call 12; refine (xor_any _ _ _).mono ?_; rintro e w6 ⟨rfl, hb6⟩))
    obtain ⟨-, -, -, -, -, -, -, -, kB⟩ := ‹_ ∧ _›
    have e0 := keepc hb6 (keepc hb5 (show (w4.alloc (.cells #[.int .u64 (hI (x <<< f.toNat >>> (128 - n).toNat ^^^ v)), .int .u64 (lI (x <<< f.toNat >>> (128 - n).toNat ^^^ v))] 24)).drew.cell? ⟨w.heap.size + 1 + 1, 0, none⟩ = some (.int .u64 0) from k7))
    have e1 := keepc hb6 (keepc hb5 (show (w4.alloc (.cells #[.int .u64 (hI (x <<< f.toNat >>> (128 - n).toNat ^^^ v)), .int .u64 (lI (x <<< f.toNat >>> (128 - n).toNat ^^^ v))] 24)).drew.cell? ⟨w.heap.size + 1 + 1, 1, none⟩ = some (.int .u64 0) from k8))
    clear hw1 hw2
    go_wp2
    exact bodyPost_ret (v := .tuple #[.agg #[.int .u64 (hI (x ^^^ (x <<< f.toNat >>> (128 - n).toNat ^^^ v) <<< (128 - f - n).toNat)), .int .u64 (lI (x ^^^ (x <<< f.toNat >>> (128 - n).toNat ^^^ v) <<< (128 - f - n).toNat))], .int .i64 0]) (by simp [results, Try.results21, go_sem, e0, e1]) rfl ⟨rfl, kB⟩
  · obtain ⟨k1, k2, -, -, -, -, k7, k8, k9, k10, k11⟩ := ‹_ ∧ _›
    have c0 : ((w4.setCell ⟨w3.heap.size, 0, none⟩ (.int .u64 (hI (x <<< f.toNat >>> (128 - n).toNat ^^^ v)))).setCell ⟨w3.heap.size, 1, none⟩ (.int .u64 (lI (x <<< f.toNat >>> (128 - n).toNat ^^^ v)))).cell? ⟨w3.heap.size, 0, none⟩ = some (.int .u64 (hI (x <<< f.toNat >>> (128 - n).toNat ^^^ v))) := by simp [go_sem, q0, q1]
    have c1 : ((w4.setCell ⟨w3.heap.size, 0, none⟩ (.int .u64 (hI (x <<< f.toNat >>> (128 - n).toNat ^^^ v)))).setCell ⟨w3.heap.size, 1, none⟩ (.int .u64 (lI (x <<< f.toNat >>> (128 - n).toNat ^^^ v)))).cell? ⟨w3.heap.size, 1, none⟩ = some (.int .u64 (lI (x <<< f.toNat >>> (128 - n).toNat ^^^ v))) := by simp [go_sem, q0, q1]
    have hbl := k11.drew
    have hw1 : IntKind.i64.wrap (128 - f) = 128 - f := by rw [IntKind.wrap_i64]; omega
    have hw2 : IntKind.i64.wrap (128 - f - n) = 128 - f - n := by rw [IntKind.wrap_i64]; omega
    clear F2 F3 F4
    go_wp2_with fail
    go_region_held3 (fun w' => w'.cell? ⟨w.heap.size, 0, none⟩ = some (.int .u64 (hI x)) ∧ w'.cell? ⟨w.heap.size, 1, none⟩ = some (.int .u64 (lI x)) ∧ w'.cell? ⟨w3.heap.size, 0, none⟩ = some (.int .u64 (hI (x <<< f.toNat >>> (128 - n).toNat ^^^ v))) ∧ w'.cell? ⟨w3.heap.size, 1, none⟩ = some (.int .u64 (lI (x <<< f.toNat >>> (128 - n).toNat ^^^ v))) ∧ w'.cell? ⟨w.heap.size + 1 + 1, 0, none⟩ = some (cv w' (w.heap.size + 1 + 1) 0) ∧ w'.cell? ⟨w.heap.size + 1 + 1, 1, none⟩ = some (cv w' (w.heap.size + 1 + 1) 1) ∧ w'.frozen? ⟨w.heap.size + 1 + 1, 0, none⟩ = false ∧ w'.frozen? ⟨w.heap.size + 1 + 1, 1, none⟩ = false ∧ Below w.heap.size w w')
      (first
        | exact ⟨k1, k2, c0, c1, cv_of k7, cv_of k8, k9, k10, hbl⟩
        | (obtain ⟨l1, l2, l3, l4, l5, l6, l7, l8, l9⟩ := ‹_ ∧ _›; exact ⟨keepc hb6 l1, keepc hb6 l2, keepc hb6 l3, keepc hb6 l4, cv_of (keepc hb6 l5), cv_of (keepc hb6 l6), keepf hb6 l5 l7, keepf hb6 l6 l8, keepb hb6 l9⟩)
        | (obtain ⟨l1, l2, l3, l4, l5, l6, l7, l8, l9⟩ := ‹_ ∧ _›; exact ⟨keepc hb5 l1, keepc hb5 l2, keepc hb5 l3, keepc hb5 l4, cv_of (keepc hb5 l5), cv_of (keepc hb5 l6), keepf hb5 l5 l7, keepf hb5 l6 l8, keepb hb5 l9⟩)
        | (obtain ⟨l1, l2, l3, l4, l5, l6, l7, l8, l9⟩ := ‹_ ∧ _›; exact ⟨far l1 (by omega), far l2 (by omega), far l3 (by omega), far l4 (by omega), cv_new (by simp [go_sem, l5]), cv_new (by simp [go_sem, l6]), farf l7, farf l8, (l9.setCell (by simp; omega) _).setCell (by simp; omega) _⟩))
      (first
        | (go_at_call 17; refine (shl_any _ _ _).mono ?_; rintro e w5 ⟨rfl, hb5⟩)
        | (go_at_call 12; refine (xor_any _ _ _).mono ?_; rintro e w6 ⟨rfl, hb6⟩))
    obtain ⟨-, -, -, -, -, -, -, -, kB⟩ := ‹_ ∧ _›
    have e0 := keepc hb6 (keepc hb5 (show ((w4.setCell ⟨w3.heap.size, 0, none⟩ (.int .u64 (hI (x <<< f.toNat >>> (128 - n).toNat ^^^ v)))).setCell ⟨w3.heap.size, 1, none⟩ (.int .u64 (lI (x <<< f.toNat >>> (128 - n).toNat ^^^ v)))).drew.cell? ⟨w.heap.size + 1 + 1, 0, none⟩ = some (.int .u64 0) from k7))
    have e1 := keepc hb6 (keepc hb5 (show ((w4.setCell ⟨w3.heap.size, 0, none⟩ (.int .u64 (hI (x <<< f.toNat >>> (128 - n).toNat ^^^ v)))).setCell ⟨w3.heap.size, 1, none⟩ (.int .u64 (lI (x <<< f.toNat >>> (128 - n).toNat ^^^ v)))).drew.cell? ⟨w.heap.size + 1 + 1, 1, none⟩ = some (.int .u64 0) from k8))
    clear hw1 hw2
    go_wp2
    exact bodyPost_ret (v := .tuple #[.agg #[.int .u64 (hI (x ^^^ (x <<< f.toNat >>> (128 - n).toNat ^^^ v) <<< (128 - f - n).toNat)), .int .u64 (lI (x ^^^ (x <<< f.toNat >>> (128 - n).toNat ^^^ v) <<< (128 - f - n).toNat))], .int .i64 0]) (by simp [results, Try.results21, go_sem, e0, e1]) rfl ⟨rfl, kB⟩
  · obtain ⟨k1, k2, -, -, -, -, k7, k8, k9, k10, k11⟩ := ‹_ ∧ _›
    have c0 : ((w4.setCell ⟨w2.heap.size, 0, none⟩ (.int .u64 (hI (x <<< f.toNat >>> (128 - n).toNat ^^^ v)))).setCell ⟨w2.heap.size, 1, none⟩ (.int .u64 (lI (x <<< f.toNat >>> (128 - n).toNat ^^^ v)))).cell? ⟨w2.heap.size, 0, none⟩ = some (.int .u64 (hI (x <<< f.toNat >>> (128 - n).toNat ^^^ v))) := by simp [go_sem, q0, q1]
    have c1 : ((w4.setCell ⟨w2.heap.size, 0, none⟩ (.int .u64 (hI (x <<< f.toNat >>> (128 - n).toNat ^^^ v)))).setCell ⟨w2.heap.size, 1, none⟩ (.int .u64 (lI (x <<< f.toNat >>> (128 - n).toNat ^^^ v)))).cell? ⟨w2.heap.size, 1, none⟩ = some (.int .u64 (lI (x <<< f.toNat >>> (128 - n).toNat ^^^ v))) := by simp [go_sem, q0, q1]
    have hbl := k11.drew
    have hw1 : IntKind.i64.wrap (128 - f) = 128 - f := by rw [IntKind.wrap_i64]; omega
    have hw2 : IntKind.i64.wrap (128 - f - n) = 128 - f - n := by rw [IntKind.wrap_i64]; omega
    clear F2 F3 F4
    go_wp2_with fail
    go_region_held3 (fun w' => w'.cell? ⟨w.heap.size, 0, none⟩ = some (.int .u64 (hI x)) ∧ w'.cell? ⟨w.heap.size, 1, none⟩ = some (.int .u64 (lI x)) ∧ w'.cell? ⟨w2.heap.size, 0, none⟩ = some (.int .u64 (hI (x <<< f.toNat >>> (128 - n).toNat ^^^ v))) ∧ w'.cell? ⟨w2.heap.size, 1, none⟩ = some (.int .u64 (lI (x <<< f.toNat >>> (128 - n).toNat ^^^ v))) ∧ w'.cell? ⟨w.heap.size + 1 + 1, 0, none⟩ = some (cv w' (w.heap.size + 1 + 1) 0) ∧ w'.cell? ⟨w.heap.size + 1 + 1, 1, none⟩ = some (cv w' (w.heap.size + 1 + 1) 1) ∧ w'.frozen? ⟨w.heap.size + 1 + 1, 0, none⟩ = false ∧ w'.frozen? ⟨w.heap.size + 1 + 1, 1, none⟩ = false ∧ Below w.heap.size w w')
      (first
        | exact ⟨k1, k2, c0, c1, cv_of k7, cv_of k8, k9, k10, hbl⟩
        | (obtain ⟨l1, l2, l3, l4, l5, l6, l7, l8, l9⟩ := ‹_ ∧ _›; exact ⟨keepc hb6 l1, keepc hb6 l2, keepc hb6 l3, keepc hb6 l4, cv_of (keepc hb6 l5), cv_of (keepc hb6 l6), keepf hb6 l5 l7, keepf hb6 l6 l8, keepb hb6 l9⟩)
        | (obtain ⟨l1, l2, l3, l4, l5, l6, l7, l8, l9⟩ := ‹_ ∧ _›; exact ⟨keepc hb5 l1, keepc hb5 l2, keepc hb5 l3, keepc hb5 l4, cv_of (keepc hb5 l5), cv_of (keepc hb5 l6), keepf hb5 l5 l7, keepf hb5 l6 l8, keepb hb5 l9⟩)
        | (obtain ⟨l1, l2, l3, l4, l5, l6, l7, l8, l9⟩ := ‹_ ∧ _›; exact ⟨far l1 (by omega), far l2 (by omega), far l3 (by omega), far l4 (by omega), cv_new (by simp [go_sem, l5]), cv_new (by simp [go_sem, l6]), farf l7, farf l8, (l9.setCell (by simp; omega) _).setCell (by simp; omega) _⟩))
      (first
        | (go_at_call 17; refine (shl_any _ _ _).mono ?_; rintro e w5 ⟨rfl, hb5⟩)
        | (go_at_call 12; refine (xor_any _ _ _).mono ?_; rintro e w6 ⟨rfl, hb6⟩))
    obtain ⟨-, -, -, -, -, -, -, -, kB⟩ := ‹_ ∧ _›
    have e0 := keepc hb6 (keepc hb5 (show ((w4.setCell ⟨w2.heap.size, 0, none⟩ (.int .u64 (hI (x <<< f.toNat >>> (128 - n).toNat ^^^ v)))).setCell ⟨w2.heap.size, 1, none⟩ (.int .u64 (lI (x <<< f.toNat >>> (128 - n).toNat ^^^ v)))).drew.cell? ⟨w.heap.size + 1 + 1, 0, none⟩ = some (.int .u64 0) from k7))
    have e1 := keepc hb6 (keepc hb5 (show ((w4.setCell ⟨w2.heap.size, 0, none⟩ (.int .u64 (hI (x <<< f.toNat >>> (128 - n).toNat ^^^ v)))).setCell ⟨w2.heap.size, 1, none⟩ (.int .u64 (lI (x <<< f.toNat >>> (128 - n).toNat ^^^ v)))).drew.cell? ⟨w.heap.size + 1 + 1, 1, none⟩ = some (.int .u64 0) from k8))
    clear hw1 hw2
    go_wp2
    exact bodyPost_ret (v := .tuple #[.agg #[.int .u64 (hI (x ^^^ (x <<< f.toNat >>> (128 - n).toNat ^^^ v) <<< (128 - f - n).toNat)), .int .u64 (lI (x ^^^ (x <<< f.toNat >>> (128 - n).toNat ^^^ v) <<< (128 - f - n).toNat))], .int .i64 0]) (by simp [results, Try.results21, go_sem, e0, e1]) rfl ⟨rfl, kB⟩
end Go.Proofs.Ytkahilfklgobpab
