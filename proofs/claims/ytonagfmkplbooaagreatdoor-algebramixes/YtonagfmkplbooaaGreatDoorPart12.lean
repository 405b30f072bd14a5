/-
  Part 12 of the proof: 3 texts, one behind the other.
-/
import Derived.Test.YtonagfmkplbooaaGreatDoorPart9
import Derived.Test.YtonagfmkplbooaaGreatDoorPart11
import Derived.Test.YtonagfmkplbooaaGreatDoorPart10
import Derived.OrdersIn
import Derived.TacticsIn
import Derived.RangeFuncSeq
/-
  What the calls of package algebra's common and of Unlike's question do.
-/
namespace Go.Proofs.YtonagfmkplbooaaGreatDoor
open Go.RowKit
set_option linter.unusedSimpArgs false
set_option linter.unusedVariables false

/-- A stretch in a block that may be written. -/
def AtY (W : World) (B : Nat) (x y : BitVec 128) : Prop := (W.cell? ⟨B, 0, none⟩ = some (.int .u64 (hI x)) ∧ W.cell? ⟨B, 1, none⟩ = some (.int .u64 (lI x)) ∧ W.cell? ⟨B, 2, none⟩ = some (.int .u64 (hI y)) ∧ W.cell? ⟨B, 3, none⟩ = some (.int .u64 (lI y))) ∧ W.frozen? ⟨B, 0, none⟩ = false ∧ W.frozen? ⟨B, 1, none⟩ = false ∧ W.frozen? ⟨B, 2, none⟩ = false ∧ W.frozen? ⟨B, 3, none⟩ = false
theorem AtY.heap {W W' : World} {B : Nat} {x y : BitVec 128} (k : AtY W B x y) (e : W'.heap[B]? = W.heap[B]?) : AtY W' B x y := by
  obtain ⟨⟨k0, k1, k2, k3⟩, f0, f1, f2, f3⟩ := k
  exact ⟨⟨by rw [cellH e]; exact k0, by rw [cellH e]; exact k1, by rw [cellH e]; exact k2, by rw [cellH e]; exact k3⟩, by rw [frozH e]; exact f0, by rw [frozH e]; exact f1, by rw [frozH e]; exact f2, by rw [frozH e]; exact f3⟩
theorem AtY.lt {W : World} {B : Nat} {x y : BitVec 128} (k : AtY W B x y) : B < W.heap.size := cell_in k.1.1
theorem aty_new (W : World) (B : Nat) (x y : BitVec 128) (T : TypeId) (e : B = W.heap.size) : AtY (W.alloc (.cells #[.int .u64 (hI x), .int .u64 (lI x), .int .u64 (hI y), .int .u64 (lI y)] T)) B x y := by
  subst e
  refine ⟨⟨?_, ?_, ?_, ?_⟩, ?_, ?_, ?_, ?_⟩ <;> simp [go_sem]
theorem AtY.lo {W : World} {B : Nat} {x y : BitVec 128} (k : AtY W B x y) (z : BitVec 128) : AtY ((W.setCell ⟨B, 0, none⟩ (.int .u64 (hI z))).setCell ⟨B, 1, none⟩ (.int .u64 (lI z))) B z y := by
  obtain ⟨⟨k0, k1, k2, k3⟩, f0, f1, f2, f3⟩ := k
  refine ⟨⟨?_, ?_, ?_, ?_⟩, ?_, ?_, ?_, ?_⟩ <;> simp [go_sem, *]
theorem AtY.hi {W : World} {B : Nat} {x y : BitVec 128} (k : AtY W B x y) (z : BitVec 128) : AtY ((W.setCell ⟨B, 2, none⟩ (.int .u64 (hI z))).setCell ⟨B, 3, none⟩ (.int .u64 (lI z))) B x z := by
  obtain ⟨⟨k0, k1, k2, k3⟩, f0, f1, f2, f3⟩ := k
  refine ⟨⟨?_, ?_, ?_, ?_⟩, ?_, ?_, ?_, ?_⟩ <;> simp [go_sem, *]
theorem AtY.all {W : World} {B : Nat} {x y : BitVec 128} (k : AtY W B x y) (u z : BitVec 128) : AtY ((((W.setCell ⟨B, 0, none⟩ (.int .u64 (hI u))).setCell ⟨B, 1, none⟩ (.int .u64 (lI u))).setCell ⟨B, 2, none⟩ (.int .u64 (hI z))).setCell ⟨B, 3, none⟩ (.int .u64 (lI z))) B u z := by
  obtain ⟨⟨k0, k1, k2, k3⟩, f0, f1, f2, f3⟩ := k
  refine ⟨⟨?_, ?_, ?_, ?_⟩, ?_, ?_, ?_, ?_⟩ <;> simp [go_sem, *]
/-- What is known in common. -/
structure CmI (w : World) (sx sy : BitVec 128) (sh : Int) (tx ty : BitVec 128) (th : Int) (u v : BitVec 128) (W : World) : Prop where
  s : AtG W w.heap.size sx sy sh
  t : AtG W (w.heap.size + 1) tx ty th
  r : AtY W (w.heap.size + 2) 0#128 0#128
  a : AtY W (w.heap.size + 3) u v
  bel : Below w.heap.size w W
theorem CmI.below {w : World} {sx sy : BitVec 128} {sh : Int} {tx ty : BitVec 128} {th : Int} {u v : BitVec 128} {W W' : World} (k : CmI w sx sy sh tx ty th u v W) (hb : Below W.heap.size W W') : CmI w sx sy sh tx ty th u v W' :=
  ⟨k.s.below hb, k.t.below hb, k.r.heap (hb.block _ k.r.lt), k.a.heap (hb.block _ k.a.lt), keepb hb k.bel⟩
theorem CmI.lo {w : World} {sx sy : BitVec 128} {sh : Int} {tx ty : BitVec 128} {th : Int} {u v : BitVec 128} {W : World} (k : CmI w sx sy sh tx ty th u v W) (z : BitVec 128) : CmI w sx sy sh tx ty th z v ((W.setCell ⟨w.heap.size + 3, 0, none⟩ (.int .u64 (hI z))).setCell ⟨w.heap.size + 3, 1, none⟩ (.int .u64 (lI z))) :=
  ⟨k.s.heap (by rw [hSet _ (by omega), hSet _ (by omega)]), k.t.heap (by rw [hSet _ (by omega), hSet _ (by omega)]), k.r.heap (by rw [hSet _ (by omega), hSet _ (by omega)]), k.a.lo z, (k.bel.setCell (p := ⟨w.heap.size + 3, 0, none⟩) (by simp) _).setCell (p := ⟨w.heap.size + 3, 1, none⟩) (by simp) _⟩
theorem CmI.hi {w : World} {sx sy : BitVec 128} {sh : Int} {tx ty : BitVec 128} {th : Int} {u v : BitVec 128} {W : World} (k : CmI w sx sy sh tx ty th u v W) (z : BitVec 128) : CmI w sx sy sh tx ty th u z ((W.setCell ⟨w.heap.size + 3, 2, none⟩ (.int .u64 (hI z))).setCell ⟨w.heap.size + 3, 3, none⟩ (.int .u64 (lI z))) :=
  ⟨k.s.heap (by rw [hSet _ (by omega), hSet _ (by omega)]), k.t.heap (by rw [hSet _ (by omega), hSet _ (by omega)]), k.r.heap (by rw [hSet _ (by omega), hSet _ (by omega)]), k.a.hi z, (k.bel.setCell (p := ⟨w.heap.size + 3, 2, none⟩) (by simp) _).setCell (p := ⟨w.heap.size + 3, 3, none⟩) (by simp) _⟩
set_option maxHeartbeats 8000000 in
theorem common6_any (sx sy : BitVec 128) (sh : Int) (tx ty : BitVec 128) (th : Int) (w : World) :
    Calls Tryz.prog 71 #[.agg #[.int .u64 (hI sx), .int .u64 (lI sx), .int .u64 (hI sy), .int .u64 (lI sy), .int .i64 sh], .agg #[.int .u64 (hI tx), .int .u64 (lI tx), .int .u64 (hI ty), .int .u64 (lI ty), .int .i64 th]] w fun e w' => e = .returned (.agg #[.int .u64 (hI (comF ((sx, sy), sh) ((tx, ty), th))), .int .u64 (lI (comF ((sx, sy), sh) ((tx, ty), th))), .int .u64 (hI (comL ((sx, sy), sh) ((tx, ty), th))), .int .u64 (lI (comL ((sx, sy), sh) ((tx, ty), th)))]) ∧ Below w.heap.size w w' := by
  have HI0 : Hid (CmI w sx sy sh tx ty th sx sy ((((w.alloc (.cells #[.int .u64 (hI sx), .int .u64 (lI sx), .int .u64 (hI sy), .int .u64 (lI sy), .int .i64 sh] 47)).alloc (.cells #[.int .u64 (hI tx), .int .u64 (lI tx), .int .u64 (hI ty), .int .u64 (lI ty), .int .i64 th] 47)).alloc (.cells #[.int .u64 0, .int .u64 0, .int .u64 0, .int .u64 0] 83)).alloc (.cells #[.int .u64 (hI sx), .int .u64 (lI sx), .int .u64 (hI sy), .int .u64 (lI sy)] 83))) := by
    have q1 := bl1 w (.cells #[.int .u64 (hI sx), .int .u64 (lI sx), .int .u64 (hI sy), .int .u64 (lI sy), .int .i64 sh] 47)
    have a1 := atg_new w w.heap.size sx sy sh 47 rfl
    revert q1 a1
    generalize hw1 : w.alloc (.cells #[.int .u64 (hI sx), .int .u64 (lI sx), .int .u64 (hI sy), .int .u64 (lI sy), .int .i64 sh] 47) = w1
    have s1 : w1.heap.size = w.heap.size + 1 := by rw [← hw1]; simp
    clear hw1
    intro q1 a1
    have q2 := bl1 w1 (.cells #[.int .u64 (hI tx), .int .u64 (lI tx), .int .u64 (hI ty), .int .u64 (lI ty), .int .i64 th] 47)
    have a2 := atg_new w1 (w.heap.size + 1) tx ty th 47 s1.symm
    revert q2 a2
    generalize hw2 : w1.alloc (.cells #[.int .u64 (hI tx), .int .u64 (lI tx), .int .u64 (hI ty), .int .u64 (lI ty), .int .i64 th] 47) = w2
    have s2 : w2.heap.size = w.heap.size + 2 := by rw [← hw2]; simp [s1]
    clear hw2
    intro q2 a2
    have q3 := bl1 w2 (.cells #[.int .u64 0, .int .u64 0, .int .u64 0, .int .u64 0] 83)
    have a3 := aty_new w2 (w.heap.size + 2) 0#128 0#128 83 s2.symm
    rw [hI_zero, lI_zero] at a3
    revert q3 a3
    generalize hw3 : w2.alloc (.cells #[.int .u64 0, .int .u64 0, .int .u64 0, .int .u64 0] 83) = w3
    have s3 : w3.heap.size = w.heap.size + 3 := by rw [← hw3]; simp [s2]
    clear hw3
    intro q3 a3
    have q4 := bl1 w3 (.cells #[.int .u64 (hI sx), .int .u64 (lI sx), .int .u64 (hI sy), .int .u64 (lI sy)] 83)
    exact hidR ⟨((a1.below q2).below q3).below q4, (a2.below q3).below q4, a3.heap (q4.block _ a3.lt), aty_new w3 (w.heap.size + 3) sx sy 83 s3.symm, keepb q4 (keepb q3 (keepb q2 q1))⟩
  have KF := fun w => cmp_any sx tx w
  have HF : Hid ((cmpZ sx tx < 0 → comF ((sx, sy), sh) ((tx, ty), th) = tx) ∧ (¬ cmpZ sx tx < 0 → comF ((sx, sy), sh) ((tx, ty), th) = sx)) := hidR ⟨fun h => by unfold comF; rw [if_pos h], fun h => by unfold comF; rw [if_neg h]⟩
  have KL := fun w => cmp_any ty sy w
  have HL : Hid ((cmpZ ty sy < 0 → comL ((sx, sy), sh) ((tx, ty), th) = ty) ∧ (¬ cmpZ ty sy < 0 → comL ((sx, sy), sh) ((tx, ty), th) = sy)) := hidR ⟨fun h => by unfold comL; rw [if_pos h], fun h => by unfold comL; rw [if_neg h]⟩
  revert KF HF KL HL
  generalize comF ((sx, sy), sh) ((tx, ty), th) = cf
  generalize comL ((sx, sy), sh) ((tx, ty), th) = cl
  generalize cmpZ sx tx = zf
  generalize cmpZ ty sy = zl
  intro KF HF KL HL
  obtain ⟨s0, s1, s2, s3, s4, -⟩ := HI0.out.s
  obtain ⟨t0, t1, t2, t3, t4, -⟩ := HI0.out.t
  obtain ⟨⟨a0, a1, a2, a3⟩, -⟩ := HI0.out.a
  obtain ⟨p0, p1, p2, p3, p4, -⟩ := atg_new w w.heap.size sx sy sh 47 rfl
  go_enter Tryz.func71, Tryz.ntmps71
  go_wp2_with fail
  refine (KF _).mono ?_
  rintro e w1 ⟨rfl, hb⟩
  have HI1 := hidR (HI0.out.below hb)
  clear KF hb HI0 s0 s1 s2 s3 s4 t0 t1 t2 t3 t4 a0 a1 a2 a3 p0 p1 p2 p3 p4
  have tail : ∀ (u : BitVec 128) (W : World), u = cf → CmI w sx sy sh tx ty th u sy W → True := fun _ _ _ _ => trivial
  clear tail
  by_cases hf : zf < 0
  · obtain ⟨t0, t1, t2, t3, t4, -⟩ := HI1.out.t
    obtain ⟨⟨a0, a1, a2, a3⟩, f0, f1, f2, f3⟩ := HI1.out.a
    have HI2 := hidR (HI1.out.lo tx)
    have he := HF.out.1 hf
    subst he
    have df : decide (zf < 0) = true := by simpa using hf
    obtain ⟨y0, y1, y2, y3, y4, -⟩ := HI2.out.t
    obtain ⟨⟨b0, b1, b2, b3⟩, -⟩ := HI2.out.a
    clear HI1 HF hf
    go_wp2_with fail
    refine (KL _).mono ?_
    rintro e w2 ⟨rfl, hb⟩
    have HI3 := hidR (HI2.out.below hb)
    clear KL hb HI2 t0 t1 t2 t3 t4 a0 a1 a2 a3 f0 f1 f2 f3 y0 y1 y2 y3 y4 b0 b1 b2 b3
    by_cases hl : zl < 0
    · obtain ⟨t0, t1, t2, t3, t4, -⟩ := HI3.out.t
      obtain ⟨⟨a0, a1, a2, a3⟩, f0, f1, f2, f3⟩ := HI3.out.a
      have HI4 := hidR (HI3.out.hi ty)
      have he := HL.out.1 hl
      subst he
      have dl : decide (zl < 0) = true := by simpa using hl
      obtain ⟨⟨b0, b1, b2, b3⟩, -⟩ := HI4.out.a
      obtain ⟨⟨r0, r1, r2, r3⟩, g0, g1, g2, g3⟩ := HI4.out.r
      obtain ⟨⟨k0, k1, k2, k3⟩, -⟩ := HI4.out.r.all cf cl
      have HB := hidR (bset4m (C := w.heap.size + 2) HI4.out.bel (by omega) (.int .u64 (hI cf)) (.int .u64 (lI cf)) (.int .u64 (hI cl)) (.int .u64 (lI cl)))
      clear HI3 HI4 HL hl
      go_wp2
      exact bodyPost_ret (v := .agg #[.int .u64 (hI cf), .int .u64 (lI cf), .int .u64 (hI cl), .int .u64 (lI cl)]) (by simp [results, Tryz.results71, go_sem, k0, k1, k2, k3]) rfl ⟨rfl, HB.out⟩
    · have he := HL.out.2 (by omega)
      subst he
      have dl : decide (zl < 0) = false := by simpa using hl
      obtain ⟨⟨b0, b1, b2, b3⟩, -⟩ := HI3.out.a
      obtain ⟨⟨r0, r1, r2, r3⟩, g0, g1, g2, g3⟩ := HI3.out.r
      obtain ⟨⟨k0, k1, k2, k3⟩, -⟩ := HI3.out.r.all cf cl
      have HB := hidR (bset4m (C := w.heap.size + 2) HI3.out.bel (by omega) (.int .u64 (hI cf)) (.int .u64 (lI cf)) (.int .u64 (hI cl)) (.int .u64 (lI cl)))
      clear HI3 HL hl
      go_wp2
      exact bodyPost_ret (v := .agg #[.int .u64 (hI cf), .int .u64 (lI cf), .int .u64 (hI cl), .int .u64 (lI cl)]) (by simp [results, Tryz.results71, go_sem, k0, k1, k2, k3]) rfl ⟨rfl, HB.out⟩
  · have he := HF.out.2 (by omega)
    subst he
    have df : decide (zf < 0) = false := by simpa using hf
    obtain ⟨y0, y1, y2, y3, y4, -⟩ := HI1.out.t
    obtain ⟨⟨b0, b1, b2, b3⟩, -⟩ := HI1.out.a
    clear HF hf
    go_wp2_with fail
    refine (KL _).mono ?_
    rintro e w2 ⟨rfl, hb⟩
    have HI3 := hidR (HI1.out.below hb)
    clear KL hb HI1 y0 y1 y2 y3 y4 b0 b1 b2 b3
    by_cases hl : zl < 0
    · obtain ⟨t0, t1, t2, t3, t4, -⟩ := HI3.out.t
      obtain ⟨⟨a0, a1, a2, a3⟩, f0, f1, f2, f3⟩ := HI3.out.a
      have HI4 := hidR (HI3.out.hi ty)
      have he := HL.out.1 hl
      subst he
      have dl : decide (zl < 0) = true := by simpa using hl
      obtain ⟨⟨b0, b1, b2, b3⟩, -⟩ := HI4.out.a
      obtain ⟨⟨r0, r1, r2, r3⟩, g0, g1, g2, g3⟩ := HI4.out.r
      obtain ⟨⟨k0, k1, k2, k3⟩, -⟩ := HI4.out.r.all cf cl
      have HB := hidR (bset4m (C := w.heap.size + 2) HI4.out.bel (by omega) (.int .u64 (hI cf)) (.int .u64 (lI cf)) (.int .u64 (hI cl)) (.int .u64 (lI cl)))
      clear HI3 HI4 HL hl
      go_wp2
      exact bodyPost_ret (v := .agg #[.int .u64 (hI cf), .int .u64 (lI cf), .int .u64 (hI cl), .int .u64 (lI cl)]) (by simp [results, Tryz.results71, go_sem, k0, k1, k2, k3]) rfl ⟨rfl, HB.out⟩
    · have he := HL.out.2 (by omega)
      subst he
      have dl : decide (zl < 0) = false := by simpa using hl
      obtain ⟨⟨b0, b1, b2, b3⟩, -⟩ := HI3.out.a
      obtain ⟨⟨r0, r1, r2, r3⟩, g0, g1, g2, g3⟩ := HI3.out.r
      obtain ⟨⟨k0, k1, k2, k3⟩, -⟩ := HI3.out.r.all cf cl
      have HB := hidR (bset4m (C := w.heap.size + 2) HI3.out.bel (by omega) (.int .u64 (hI cf)) (.int .u64 (lI cf)) (.int .u64 (hI cl)) (.int .u64 (lI cl)))
      clear HI3 HL hl
      go_wp2
      exact bodyPost_ret (v := .agg #[.int .u64 (hI cf), .int .u64 (lI cf), .int .u64 (hI cl), .int .u64 (lI cl)]) (by simp [results, Tryz.results71, go_sem, k0, k1, k2, k3]) rfl ⟨rfl, HB.out⟩
end Go.Proofs.YtonagfmkplbooaaGreatDoor
/-
  A region that draws its order and calls a loop's body (yield): what stands ahead of that call is quiet, in whatever order; behind it all stands in order.
-/
namespace Go.Proofs.YtonagfmkplbooaaGreatDoor
open Go.RowKit
set_option linter.unusedSimpArgs false
set_option linter.unusedVariables false

section
variable {P : Program}

theorem oper_wide {n : Nat} {o : Oper} {a : Act} {w : World} {K : Act → World → Prop} {Q : Exit → Act → World → Prop} (h : o.wp P a w K Q) : o.wpIn Fence.wide n P a w K Q := by
  refine ⟨fun _ _ => trivial, ?_⟩
  rw [Fence.wide_round, Oper.semAt_none]
  unfold Oper.wp Oper.upon at h
  unfold Oper.uponIn
  cases hr : (execOp a.eval o).run P w with
  | ok x w' =>
    rw [hr] at h
    cases x with
    | value v => exact h
    | skip => exact h
    | defer d => exact h
    | enter f args => exact ⟨fun q => (by cases q), callsIn_wide.2 h⟩
    | row r args => exact ⟨fun q => (by cases q), fun c cs _ => let ⟨v, w'', r', s⟩ := h c cs; ⟨v, w'', r', stepsIn_wide.2 s⟩⟩
    | _ => exact h.elim
  | halt x w' =>
    rw [hr] at h
    cases x with
    | panic v => exact h
    | _ => exact h.elim
theorem any_seqIn {n : Nat} {md : Region.Mode} {ops : Array Oper} {Q : Exit → Act → World → Prop} : ∀ (l : List Oper) (k : Nat) (listed : Array Bool) (a : Act) (w : World), (∀ i, l[i]? = ops[k + i]?) → seqB md ops l.length k listed = true →
    wpListIn Fence.wide n P ops Q l a w → wpAnyIn Fence.wide n P md ops Q l.length listed a w
  | [], k, listed, a, w, _, hB, h => by
    simp only [List.length_nil, seqB, beq_iff_eq] at hB
    exact ⟨hB, h⟩
  | o :: l, k, listed, a, w, hl, hB, h => by
    simp only [List.length_cons, seqB, Bool.and_eq_true, beq_iff_eq] at hB
    refine ⟨fun e => (by rw [hB.1] at e; cases e), fun i hi => ?_⟩
    rw [hB.1] at hi
    have e : i = k := by simpa using hi
    subst e
    have h0 : ops[i]? = some o := by simpa using (hl 0).symm
    unfold wpOpIn
    simp only [h0]
    have ih : ∀ a w, wpListIn Fence.wide n P ops Q l a w → wpAnyIn Fence.wide n P md ops Q l.length (listed.setIfInBounds i true) a w := fun a w h => any_seqIn l (i + 1) (listed.setIfInBounds i true) a w (fun q => by have := hl (q + 1); simpa [Nat.add_assoc, Nat.add_comm 1 q] using this) hB.2 h
    unfold wpListIn at h
    split
    · rename_i hw
      rw [if_pos hw] at h
      exact Oper.wpIn_mono ih h
    · rename_i hw
      rw [if_neg hw] at h
      exact ⟨h.1, ih _ _ h.2⟩
theorem wpIn_of_yields {n : Nat} {ops ops' : Array Oper} {C : World → Prop} {Q : Exit → Act → World → Prop} {i : Nat} {o : Oper} {v : Value} {a : Act} {w : World} {K : Act → World → Prop} (ho : ops[i]? = some o) (hw : Region.wanted o (yielded ops' a.tmps) = Region.wanted o (yielded ops a.tmps))
    (hy : YieldsIn P ops' C o v a) (hC : C w) (h : ∀ w', C w' → K (a.put o.dst v) w') : wpOpIn Fence.wide n P ops Q i K a w := by
  unfold wpOpIn
  simp only [ho]
  rcases hy with ⟨h1, h2⟩ | ⟨h1, h2⟩
  · rw [if_pos (by rw [← hw]; exact h1)]
    exact oper_wide (Oper.wp_of_quiet (K := fun a' => a' = a.put o.dst v) hC (fun a' w' hw' e => by rw [e]; exact h w' hw') ⟨v, h2, rfl⟩)
  · rw [if_neg (by rw [← hw, h1]; decide)]
    refine ⟨fun _ _ => trivial, ?_⟩
    rw [← h2]
    exact h w hC
theorem done_anyIn {n : Nat} {l : List Oper} {m j : Nat} (ok : QpOk l m j) {C : World → Prop} {N : Value} {A : Act} {Q : Exit → Act → World → Prop}
    (hpost : ∀ w, C w → wpListIn Fence.wide n P l.toArray Q (l.drop m) A w) : ∀ (fuel : Nat) (lp : Array Bool) (a : Act) (w : World), lp.size = m → unl lp = fuel → (j < m → lp.getD j false = true) → C w →
      wpAnyQ P .any (rep (l.take m) j N).toArray C (fun a' => a' = A) fuel lp a → wpAnyIn Fence.wide n P .any l.toArray Q (fuel + (l.length - m)) (lp ++ Array.replicate (l.length - m) false) a w := by
  intro fuel
  induction fuel with
  | zero =>
    intro lp a w hs hu hj hC h
    rw [h.2, unl_zero lp hu, hs, Nat.zero_add, show l.length - m = (l.drop m).length by simp]
    refine any_seqIn (l.drop m) m _ A w (fun i => by simp) ?_ (hpost w hC)
    have := ok.seq
    rwa [show l.length - m = (l.drop m).length by simp] at this
  | succ fuel ih =>
    intro lp a w hs hu hj hC h
    rw [show fuel + 1 + (l.length - m) = (fuel + (l.length - m)) + 1 by omega]
    have key : ∀ i ∈ Region.ready .any l.toArray (lp ++ Array.replicate (l.length - m) false), wpOpIn Fence.wide n P l.toArray Q i (wpAnyIn Fence.wide n P .any l.toArray Q (fuel + (l.length - m)) ((lp ++ Array.replicate (l.length - m) false).setIfInBounds i true)) a w := by
      intro i hi
      obtain ⟨him, hir⟩ := ready_pre l m j N ok.ml ok.wait lp hs fuel hu i hi
      obtain ⟨hun, _⟩ := mem_ready.1 hir
      have hij : i ≠ j := by
        intro e
        subst e
        have hj := hj him
        rw [Array.getD_eq_getD_getElem?] at hun hj
        cases q : lp[i]? with
        | none => rw [q] at hun; simp at hun
        | some b => rw [q] at hun hj; simp at hun hj; rw [hun] at hj; cases hj
      obtain ⟨_, o, ho, _⟩ := mem_ready.1 hi
      have ho' : l[i]? = some o := by simpa using ho
      have hor : (rep (l.take m) j N).toArray[i]? = some o := by
        simp only [List.getElem?_toArray]
        rw [rep_ne _ _ _ _ hij, List.getElem?_take, if_pos him]; exact ho'
      obtain ⟨v, hy, hK⟩ := yieldsIn_of_qOp hor (h.2 i hir)
      refine wpIn_of_yields ho (wanted_rep l m j N a o o rfl (ok.guards i o ho')) hy hC (fun w' hw' => ?_)
      rw [set_app lp _ i (by omega)]
      refine ih _ _ w' (by simp [hs]) (by have := unl_set lp i hun; omega) ?_ hw' hK
      exact fun q => getD_set_true (hj q)
    refine ⟨fun e => ?_, key⟩
    obtain ⟨k, hk, hf⟩ := unl_some lp fuel hu
    exact absurd e (some_ready ok lp hs k (by omega) hf)
/-- The law. -/
theorem yd_region {id : Nat} {l : List Oper} (n m : Nat) (ok : QpOk l m m) {C : World → Prop} {Q : Exit → Act → World → Prop} {a : Act} {w : World} (ds : List (Option Tmp)) (vals : List Value) (hm : P.follows .mixedOrders = true)
    (hC : C w.drew) (hwalk : wpQuiet P (l.take m).toArray C (fun a' => a' = putAll a ds vals) (l.take m) a) (hpost : ∀ w, C w → wpListIn Fence.wide n P l.toArray Q (l.drop m) (putAll a ds vals) w) : (Code.region id l.toArray true).wp P Q a w := by
  refine (wpIn_wide (n := n)).1 ?_
  refine wpIn_region_any hm ?_
  have hml := ok.ml
  have hlen : (l.take m).length = m := by rw [List.length_take]; omega
  have any : wpAnyQ P .any (l.take m).toArray C (fun a' => a' = putAll a ds vals) m (Array.replicate m false) a := by
    have hB := ok.lex undef
    rw [rep_out _ _ _ (by omega)] at hB
    simp only [Region.lexB, Bool.and_eq_true] at hB
    have := wpAnyQ_lex (C := C) (md := .any) hB.1 (l.take m) 0 (Array.replicate m false) a (by simp) (by have := hB.2; simpa [hlen, hml] using this) hwalk
    rwa [hlen] at this
  have hu : unl (Array.replicate m false) = m := by unfold unl; simp
  have main := done_anyIn (P := P) (n := n) (N := undef) ok hpost m (Array.replicate m false) a w.drew (by simp) hu (fun q => absurd q (Nat.lt_irrefl _)) hC (by rw [rep_out _ _ _ (by omega)]; exact any)
  have e1 : m + (l.length - m) = l.toArray.size := by simp; omega
  have e2 : Array.replicate m false ++ Array.replicate (l.length - m) false = Array.replicate l.toArray.size false := by
    rw [Array.replicate_append_replicate]; congr 1
  rw [e1, e2] at main
  exact main
/-- The call of the body itself, the rest plain. -/
theorem yd_call {n : Nat} {ops : Array Oper} {Q : Exit → Act → World → Prop} {a : Act} {w : World} {o : Oper} {rest : List Oper} {l : Nat} {args : Array Value} {R : Ending → World → Prop} (hgd : o.guard = none)
    (hy : YieldAt Fence.wide (n - 1) P l args w R) (hex : ∀ r, (Instr.yield l args).run P w = r → (execOp a.eval o).run P w = r) (hR : ∀ e w', R e w' → (∃ v, e = .returned v ∧ wpListIn Fence.wide n P ops Q rest (a.put o.dst v) w')) : wpListIn Fence.wide n P ops Q (o :: rest) a w := by
  obtain ⟨fn, tmps, assign, body, h1, h2⟩ := hy
  have h3 := hex _ h1
  unfold wpListIn
  rw [if_pos (by simp [Region.wanted, hgd])]
  refine ⟨fun _ _ => trivial, ?_⟩
  rw [Fence.wide_round, Oper.semAt_none, h3]
  refine ⟨fun q => (by cases q), h2.mono ?_⟩
  intro e w' hr
  obtain ⟨v, rfl, hv⟩ := hR e w' hr
  exact hv
theorem yd_plain {n : Nat} {ops : Array Oper} {Q : Exit → Act → World → Prop} {a : Act} {w : World} {o : Oper} {rest : List Oper} {v : Value} (hgd : o.guard = none) (hex : (execOp a.eval o).run P w = .ok (.value v) w) (h : wpListIn Fence.wide n P ops Q rest (a.put o.dst v) w) : wpListIn Fence.wide n P ops Q (o :: rest) a w := by
  unfold wpListIn
  rw [if_pos (by simp [Region.wanted, hgd])]
  refine ⟨fun _ _ => trivial, ?_⟩
  rw [Fence.wide_round, Oper.semAt_none, hex]
  exact h
end
end Go.Proofs.YtonagfmkplbooaaGreatDoor
/-
  A region that draws its order and has two special operations, the second of which waits for the first: it makes a block, and fills it; what is read alone may come at any time.
-/
namespace Go.Proofs.YtonagfmkplbooaaGreatDoor
open Go.RowKit
set_option linter.unusedSimpArgs false
set_option linter.unusedVariables false

section
variable {P : Program}
/-- The walk's list and the region's: alike but for the operations themselves at some places. -/
structure Sim (b l : List Oper) (m : Nat) (E : Nat → Bool) : Prop where
  len : b.length = m
  same : ∀ i, i < m → ∀ o, l[i]? = some o → ∃ o', b[i]? = some o' ∧ o'.dst = o.dst ∧ o'.after = o.after ∧ o'.guard = o.guard ∧ (E i = false → o' = o)
theorem Sim.get {b l : List Oper} {m : Nat} {E : Nat → Bool} (h : Sim b l m E) (hml : m ≤ l.length) (i : Nat) (o' : Oper) (hi : b[i]? = some o') : i < m ∧ ∃ o, l[i]? = some o ∧ o'.dst = o.dst ∧ o'.after = o.after ∧ o'.guard = o.guard := by
  have him : i < m := by rw [← h.len]; exact (List.getElem?_eq_some_iff.mp hi).1
  have hl : i < l.length := by omega
  obtain ⟨o2, q1, q2, q3, q4, -⟩ := h.same i him l[i] (by simp [hl])
  rw [hi] at q1
  have := Option.some.inj q1
  subst this
  exact ⟨him, l[i], by simp [hl], q2, q3, q4⟩
theorem Sim.yield {b l : List Oper} {m : Nat} {E : Nat → Bool} (h : Sim b l m E) (hml : m ≤ l.length) (tmps : Array Value) (k : Nat) (hk : k < m) : yielded b.toArray tmps k = yielded l.toArray tmps k := by
  have hl : k < l.length := by omega
  obtain ⟨o2, q1, q2, -, -, -⟩ := h.same k hk l[k] (by simp [hl])
  unfold yielded
  simp only [List.getElem?_toArray, q1, List.getElem?_eq_getElem hl, Option.bind_some, q2]
theorem Sim.wanted {b l : List Oper} {m : Nat} {E : Nat → Bool} (h : Sim b l m E) (hml : m ≤ l.length) (a : Act) (o : Oper) (hlt : ∀ k c, o.guard = some (k, c) → k < m) : Region.wanted o (yielded b.toArray a.tmps) = Region.wanted o (yielded l.toArray a.tmps) := by
  unfold Region.wanted
  cases e : o.guard with
  | none => rfl
  | some kb =>
    obtain ⟨k, c⟩ := kb
    simp only
    rw [h.yield hml a.tmps k (hlt k c e)]
theorem Sim.ready {b l : List Oper} {m : Nat} {E : Nat → Bool} (h : Sim b l m E) (hml : m ≤ l.length) (hw : waitB l m = true) (lp : Array Bool) (hs : lp.size = m) (f : Nat) (hu : unl lp = f + 1) (i : Nat)
    (hi : i ∈ Region.ready .any l.toArray (lp ++ Array.replicate (l.length - m) false)) : i < m ∧ i ∈ Region.ready .any b.toArray lp := by
  obtain ⟨him, -⟩ := ready_pre l m m undef hml hw lp hs f hu i hi
  obtain ⟨hun, o, ho, hall⟩ := mem_ready.1 hi
  obtain ⟨o', q1, q2, q3, q4, -⟩ := h.same i him o (by simpa using ho)
  refine ⟨him, mem_ready.2 ⟨by rw [get_app_lt lp _ i (by omega)] at hun; exact hun, o', by simpa using q1, fun e he hb => ?_⟩⟩
  rw [q3] at he
  have := hall e he hb
  rwa [get_app_false] at this
theorem getD_no {lp : Array Bool} {k : Nat} (h1 : lp.getD k true = false) (h2 : lp.getD k false = true) : False := by
  rw [Array.getD_eq_getD_getElem?] at h1 h2
  cases z : lp[k]? with
  | none => rw [z] at h1; simp at h1
  | some b => rw [z] at h1 h2; simp at h1 h2; rw [h2] at h1; cases h1
theorem gdone {l : List Oper} {m j : Nat} (ok : QpOk l m j) {b : List Oper} {E : Nat → Bool} (sim : Sim b l m E) {C : World → Prop} {A : Act} {Q : Exit → Act → World → Prop}
    (hpost : ∀ w, C w → wpList P l.toArray Q (l.drop m) A w) : ∀ (fuel : Nat) (lp : Array Bool) (a : Act) (w : World), lp.size = m → unl lp = fuel → (∀ i, E i = true → lp.getD i false = true) → C w →
      wpAnyQ P .any b.toArray C (fun a' => a' = A) fuel lp a → wpAny P .any l.toArray Q (fuel + (l.length - m)) (lp ++ Array.replicate (l.length - m) false) a w := by
  intro fuel
  induction fuel with
  | zero =>
    intro lp a w hs hu hj hC h
    rw [h.2, unl_zero lp hu, hs, Nat.zero_add, show l.length - m = (l.drop m).length by simp]
    refine any_seq (l.drop m) m _ A w (fun i => by simp) ?_ (hpost w hC)
    have := ok.seq
    rwa [show l.length - m = (l.drop m).length by simp] at this
  | succ fuel ih =>
    intro lp a w hs hu hj hC h
    rw [show fuel + 1 + (l.length - m) = (fuel + (l.length - m)) + 1 by omega]
    refine ⟨fun e => ?_, fun i hi => ?_⟩
    · obtain ⟨k, hk, hf⟩ := unl_some lp fuel hu
      exact absurd e (some_ready ok lp hs k (by omega) hf)
    · obtain ⟨him, hir⟩ := sim.ready ok.ml ok.wait lp hs fuel hu i hi
      obtain ⟨hun, _⟩ := mem_ready.1 hir
      have hE : E i = false := by
        cases q : E i
        · rfl
        · exact (getD_no hun (hj i q)).elim
      obtain ⟨_, o, ho, _⟩ := mem_ready.1 hi
      have ho' : l[i]? = some o := by simpa using ho
      obtain ⟨o2, q1, -, -, -, q5⟩ := sim.same i him o ho'
      obtain rfl := q5 hE
      obtain ⟨v, hy, hK⟩ := yieldsIn_of_qOp (by simpa using q1) (h.2 i hir)
      refine wp_of_yields ho (sim.wanted ok.ml a o2 (ok.guards i o2 ho')) hy hC (fun w' hw' => ?_)
      rw [set_app lp _ i (by omega)]
      exact ih _ _ w' (by simp [hs]) (by have := unl_set lp i hun; omega) (fun k hk => getD_set_true (hj k hk)) hw' hK
theorem gpend {l : List Oper} {m j : Nat} {oj : Oper} (ok : AlOk l m j oj) {b : Nat → List Oper} {E : Nat → Bool} (sim : ∀ N, Sim (b N) l m E) {D : World → Prop} {C1 : Nat → World → Prop} {Cs : Nat → (World → Prop) → Prop} {A : Nat → Act} {val : Nat → Value} {rd : List Nat} {Q : Exit → Act → World → Prop} (Inv : Array Bool → Prop) (hInv : ∀ lp i, Inv lp → (E i = false ∨ i = j) → Inv (lp.setIfInBounds i true))
    (hE : E j = true) (hA : ∀ (i : Nat) o s N, l[i]? = some o → i < m → E i = false → o.dst = some s → (A N).tmps[s]? = (A 0).tmps[s]?) (hAj : ∀ s N, oj.dst = some s → s < (A N).tmps.size → (A N).tmps[s]? = some (val N))
    (hrd : ∀ s ∈ rd, ∀ (k : Nat) o, l[k]? = some o → k < m → o.dst = some s → ∃ e ∈ oj.after, Region.binds .any e = true ∧ e.on = k)
    (hal : ∀ w (a : Act), D w → (∀ s ∈ rd, a.tmps[s]? = (A 0).tmps[s]?) → ∀ (K : Act → World → Prop) Q', (∀ N w', C1 N w' → K (a.put oj.dst (val N)) w') → oj.wp P a w K Q')
    (hgo : ∀ N fuel lp a w, lp.size = m → unl lp = fuel → lp.getD j false = true → Inv lp → (A N).tmps.size = a.tmps.size → C1 N w →
      (∀ X, Cs N X → wpAnyQ P .any (b N).toArray X (fun a' => a' = A N) fuel lp a) → wpAny P .any l.toArray Q (fuel + (l.length - m)) (lp ++ Array.replicate (l.length - m) false) a w) :
    ∀ (fuel : Nat) (lp : Array Bool) (a : Act) (w : World), lp.size = m → unl lp = fuel → lp.getD j true = false → Inv lp → (∀ i, E i = true → i ≠ j → lp.getD i false = true ∨ ∃ o, l[i]? = some o ∧ ∃ e ∈ o.after, Region.binds .any e = true ∧ e.on = j) → D w →
      (∀ N X, Cs N X → wpAnyQ P .any (b N).toArray X (fun a' => a' = A N) fuel lp a) → (∀ N, wpAnyQ P .any (b N).toArray D (fun a' => a' = A N) fuel lp a) →
      (∀ N, (A N).tmps.size = a.tmps.size) → wpAny P .any l.toArray Q (fuel + (l.length - m)) (lp ++ Array.replicate (l.length - m) false) a w := by
  intro fuel
  induction fuel with
  | zero =>
    intro lp a w hs hu hj
    exfalso
    have e := unl_zero lp hu
    rw [e, Array.getD_eq_getD_getElem?] at hj
    have := ok.jm
    simp [show j < lp.size by omega] at hj
  | succ fuel ih =>
    intro lp a w hs hu hj hI hoth hD h1 h0 hsz
    rw [show fuel + 1 + (l.length - m) = (fuel + (l.length - m)) + 1 by omega]
    refine ⟨fun e => absurd e (some_ready ok.toQpOk lp hs j ok.jm hj), fun i hi => ?_⟩
    obtain ⟨him, -⟩ := (sim 0).ready ok.ml ok.wait lp hs fuel hu i hi
    have hir := fun N => ((sim N).ready ok.ml ok.wait lp hs fuel hu i hi).2
    obtain ⟨hun, _⟩ := mem_ready.1 (hir 0)
    obtain ⟨_, o, ho, hall⟩ := mem_ready.1 hi
    have ho' : l[i]? = some o := by simpa using ho
    -- a slot that is written now is not written any more
    have later : ∀ N s, o.dst = some s → ∀ k ok', (b N).toArray[k]? = some ok' → (lp.setIfInBounds i true).getD k true = false → ok'.dst ≠ some s := by
      intro N s hs' k ok' hk hl e
      obtain ⟨hkm, o2, q1, q2, -, -⟩ := (sim N).get ok.ml k ok' (by simpa using hk)
      have := ok.dst k i o2 o s q1 ho' hkm him (by rw [← q2]; exact e) hs'
      subst this
      rw [Array.getD_eq_getD_getElem?] at hl
      simp [show k < lp.size by omega] at hl
    by_cases hij : i = j
    · subst hij
      obtain rfl : o = oj := by rw [ok.here] at ho'; exact (Option.some.inj ho').symm
      unfold wpOp
      simp only [ho]
      rw [if_pos (by unfold Region.wanted; rw [ok.guard])]
      refine .inl ?_
      refine hal w a hD ?_ _ _ ?_
      · intro s hsr
        refine (q_fin _ _ _ (h0 0) s ?_).symm
        intro k ok' hk hl e
        obtain ⟨hkm, o2, q1, q2, -, -⟩ := (sim 0).get ok.ml k ok' (by simpa using hk)
        obtain ⟨e', he', hb', hon⟩ := hrd s hsr k o2 q1 hkm (by rw [← q2]; exact e)
        have h3 := hall e' he' hb'
        rw [hon, get_app_false] at h3
        exact getD_no hl h3
      · intro N w' hC
        rw [set_app lp _ i (by omega)]
        refine hgo N fuel _ _ w' (by simp [hs]) (by have := unl_set lp i hun; omega) (by
          rw [Array.getD_eq_getD_getElem?]
          simp [show i < lp.size by omega]) (hInv lp i hI (.inr rfl)) (by rw [hsz N, put_size]) hC ?_
        intro X hX
        obtain ⟨o2, q1, q2, -, -, -⟩ := (sim N).same i him o ho'
        obtain ⟨v, hy, hK⟩ := yieldsIn_of_qOp (by simpa using q1) ((h1 N X hX).2 i (hir N))
        rw [q2] at hK
        have e : a.put o.dst v = a.put o.dst (val N) := put_same fun s hs' => by
          have f := q_fin _ _ _ hK s (later N s hs')
          rw [← f]
          by_cases c : s < a.tmps.size
          · rw [hAj s N hs' (by rw [hsz N]; exact c), hs']
            simp [Act.put, Array.getElem?_setIfInBounds, c]
          · have c' : a.tmps.size ≤ s := Nat.le_of_not_lt c
            rw [Array.getElem?_eq_none (by rw [hsz N]; exact c'), Array.getElem?_eq_none (by rw [put_size]; exact c')]
        rwa [e] at hK
    · have hEi : E i = false := by
        cases q : E i
        · rfl
        · rcases hoth i q hij with z | ⟨o2, z1, e, z2, z3, z4⟩
          · exact (getD_no hun z).elim
          · rw [ho'] at z1
            have := Option.some.inj z1
            subst this
            have h3 := hall e z2 z3
            rw [z4, get_app_false] at h3
            exact (getD_no hj h3).elim
      have hor : ∀ N, (b N).toArray[i]? = some o := fun N => by
        obtain ⟨o2, q1, -, -, -, q5⟩ := (sim N).same i him o ho'
        obtain rfl := q5 hEi
        simpa using q1
      obtain ⟨v0, hy0, hK0⟩ := yieldsIn_of_qOp (hor 0) ((h0 0).2 i (hir 0))
      have f0 : ∀ s, o.dst = some s → (A 0).tmps[s]? = (a.put o.dst v0).tmps[s]? := fun s hs' => q_fin _ _ _ hK0 s (later 0 s hs')
      have all0 : ∀ N, wpAnyQ P .any (b N).toArray D (fun a' => a' = A N) fuel (lp.setIfInBounds i true) (a.put o.dst v0) := by
        intro N
        obtain ⟨v, _, hK⟩ := yieldsIn_of_qOp (hor N) ((h0 N).2 i (hir N))
        have e : a.put o.dst v = a.put o.dst v0 := put_same fun s hs' => by
          rw [← f0 s hs', ← q_fin _ _ _ hK s (later N s hs')]
          exact hA i o s N ho' him hEi hs'
        rwa [e] at hK
      have all1 : ∀ N X, Cs N X → wpAnyQ P .any (b N).toArray X (fun a' => a' = A N) fuel (lp.setIfInBounds i true) (a.put o.dst v0) := by
        intro N X hX
        obtain ⟨v, _, hK⟩ := yieldsIn_of_qOp (hor N) ((h1 N X hX).2 i (hir N))
        have e : a.put o.dst v = a.put o.dst v0 := put_same fun s hs' => by
          rw [← f0 s hs', ← q_fin _ _ _ hK s (later N s hs')]
          exact hA i o s N ho' him hEi hs'
        rwa [e] at hK
      refine wp_of_yields ho ((sim 0).wanted ok.ml a o (ok.guards i o ho')) hy0 hD (fun w' hw' => ?_)
      rw [set_app lp _ i (by omega)]
      exact ih _ _ w' (by simp [hs]) (by have := unl_set lp i hun; omega) (by rw [getD_set_ne true hij]; exact hj) (hInv lp i hI (.inl hEi)) (fun k hk hne => (hoth k hk hne).imp (fun q => getD_set_true q) id) hw' all1 all0 (fun N => by rw [hsz N, put_size])
theorem putAll_size : ∀ (ds : List (Option Tmp)) (vs : List Value) (a : Act), (putAll a ds vs).tmps.size = a.tmps.size
  | [], _, a => by cases ‹List Value› <;> rfl
  | d :: ds, [], a => rfl
  | d :: ds, v :: vs, a => by
    show (putAll (a.put d v) ds vs).tmps.size = _
    rw [putAll_size ds vs, put_size]
theorem sim_two (l : List Oper) (m j j2 : Nat) (hml : m ≤ l.length) (u v : Value) : Sim (rep (rep (l.take m) j2 u) j v) l m (fun i => i == j || i == j2) := by
  refine ⟨by rw [rep_len, rep_len, List.length_take]; omega, fun i hi o ho => ?_⟩
  obtain ⟨o1, p1, p2, p3, p4⟩ := rep_of (l.take m) j2 u i o (by rw [List.getElem?_take, if_pos hi]; exact ho)
  obtain ⟨o2, q1, q2, q3, q4⟩ := rep_of (rep (l.take m) j2 u) j v i o1 p1
  refine ⟨o2, q1, by rw [q2, p2], by rw [q3, p3], by rw [q4, p4], fun hE => ?_⟩
  simp only [Bool.or_eq_false_iff, beq_eq_false_iff_ne] at hE
  rw [rep_ne _ _ _ _ hE.1, rep_ne _ _ _ _ hE.2, List.getElem?_take, if_pos hi, ho] at q1
  exact (Option.some.inj q1).symm
/-- One walk of the text's order: the region makes a block (operation j) and fills it (operation k, which waits for it). -/
theorem two_region {id : Nat} {l : List Oper} (m j k : Nat) {oj ok' : Oper} (ok : AlOk l m j oj) (ok2 : AlOk l m k ok') (hjk : j ≠ k) (hwt : ok'.after.any (fun e => Region.binds .any e && e.on == j) = true) (hd2 : ok'.dst = none)
    {D : World → Prop} {C1 C2 : Nat → World → Prop} {obj : Obj} {Q : Exit → Act → World → Prop} {a : Act} {w : World} (ds : List (Option Tmp)) (vals : Nat → List Value) (d : Nat) (rd : List Nat) (hm : P.follows .mixedOrders = true)
    (hlex : ∀ N, Region.lexB .any (rep (rep (l.take m) k undef) j (.pointer (some ⟨N, 0, none⟩))).toArray = true)
    (hd : oj.dst = some d) (hA : ∀ N, (putAll a ds (vals N)).tmps.toList.eraseIdx d = (putAll a ds (vals 0)).tmps.toList.eraseIdx d) (hAd : ∀ N, (putAll a ds (vals N)).tmps[d]? = some (.pointer (some ⟨N, 0, none⟩)))
    (hrd : readB l m ok' rd = true)
    (hal : ∀ w (a : Act), D w → (execOp a.eval oj).run P w = .ok (.value (.pointer (some ⟨w.heap.size, 0, none⟩))) (w.alloc obj)) (hC1 : ∀ w, D w → C1 w.heap.size (w.alloc obj))
    (hst : ∀ N w (a' : Act), C1 N w → (∀ s ∈ rd, a'.tmps[s]? = (putAll a ds (vals N)).tmps[s]?) → ∀ (K : Act → World → Prop) Q', (∀ w', C2 N w' → K a' w') → ok'.wp P a' w K Q')
    (hD : D w.drew)
    (hwalk : ∀ N (X : World → Prop), (X = D ∨ X = C1 N ∨ X = C2 N) → wpQuiet P (rep (rep (l.take m) k undef) j (.pointer (some ⟨N, 0, none⟩))).toArray X (fun a' => a' = putAll a ds (vals N)) (rep (rep (l.take m) k undef) j (.pointer (some ⟨N, 0, none⟩))) a)
    (hpost : ∀ N w, C2 N w → wpList P l.toArray Q (l.drop m) (putAll a ds (vals N)) w) : (Code.region id l.toArray true).wp P Q a w := by
  refine wp_region_any hm ?_
  have hml := ok.ml
  have any : ∀ N X, (X = D ∨ X = C1 N ∨ X = C2 N) → wpAnyQ P .any (rep (rep (l.take m) k undef) j (.pointer (some ⟨N, 0, none⟩))).toArray X (fun a' => a' = putAll a ds (vals N)) m (Array.replicate m false) a := by
    intro N X hX
    have hB := hlex N
    simp only [Region.lexB, Bool.and_eq_true] at hB
    have hlen : (rep (rep (l.take m) k undef) j (.pointer (some ⟨N, 0, none⟩))).length = m := by rw [rep_len, rep_len, List.length_take]; omega
    have := wpAnyQ_lex (C := X) (md := .any) hB.1 (rep (rep (l.take m) k undef) j (.pointer (some ⟨N, 0, none⟩))) 0 (Array.replicate m false) a (by simp) (by have := hB.2; simpa [hlen] using this) (hwalk N X hX)
    rwa [hlen] at this
  have hu : unl (Array.replicate m false) = m := by unfold unl; simp
  have hE : ∀ (i : Nat) o s N, l[i]? = some o → i < m → (i == j || i == k) = false → o.dst = some s → (putAll a ds (vals N)).tmps[s]? = (putAll a ds (vals 0)).tmps[s]? := fun i o s N ho hi he hs => by
    simp only [Bool.or_eq_false_iff, beq_eq_false_iff_ne] at he
    exact alA ok d hd hA i o s N ho hi he.1 hs
  obtain ⟨ew, hew1, hew2⟩ := Array.any_eq_true'.mp hwt
  simp only [Bool.and_eq_true, beq_iff_eq] at hew2
  have main := gpend (P := P) (Q := Q) ok (b := fun N => rep (rep (l.take m) k undef) j (.pointer (some ⟨N, 0, none⟩))) (E := fun i => i == j || i == k) (fun N => sim_two l m j k hml _ _) (D := D) (C1 := C1) (Cs := fun N X => X = C1 N ∨ X = C2 N) (A := fun N => putAll a ds (vals N)) (val := fun N => .pointer (some ⟨N, 0, none⟩)) (rd := [])
    (fun lp => lp.getD k true = false) (fun lp i h hi => by
      have : i ≠ k := by
        intro e
        rcases hi with q | q
        · simp [e] at q
        · exact hjk (by rw [← q, e])
      rw [getD_set_ne true this]; exact h)
    (by simp) hE (fun s N hs _ => by
      rw [hd] at hs
      cases hs
      exact hAd N) (fun s hs => by cases hs) (fun w a hw _ K Q' hK => by
        unfold Oper.wp
        rw [hal w a hw]
        simp only [Oper.upon]
        exact hK _ _ (hC1 w hw))
    (fun N fuel lp a1 w1 hs hu' hj hI hz hC hX =>
      gpend (P := P) (Q := Q) ok2 (b := fun _ => rep (rep (l.take m) k undef) j (.pointer (some ⟨N, 0, none⟩))) (E := fun i => i == j || i == k) (fun _ => sim_two l m j k hml _ _) (D := C1 N) (C1 := fun _ => C2 N) (Cs := fun _ X => X = C2 N) (A := fun _ => putAll a ds (vals N)) (val := fun _ => undef) (rd := rd)
        (fun lp => lp.getD j false = true) (fun lp i h _ => getD_set_true h) (by simp) (fun i o s N' _ _ _ _ => rfl) (fun s N' hs => by rw [hd2] at hs; cases hs) (read_of hrd)
        (fun w' a' hw hr K Q' hK => hst N w' a' hw hr K Q' (fun w2 h2 => by
          have := hK 0 w2 h2
          rw [hd2] at this
          exact this))
        (fun N' fuel lp a2 w2 hs hu hk hI hz hC hX => gdone ok.toQpOk (sim_two l m j k hml _ _) (fun w3 h3 => hpost N w3 h3) fuel lp a2 w2 hs hu (fun i hi => by
          simp only [Bool.or_eq_true, beq_iff_eq] at hi
          rcases hi with e | e
          · rw [e]; exact hI
          · rw [e]; exact hk) hC (hX _ rfl))
        fuel lp a1 w1 hs hu' hI hj (fun i hi hne => .inl (by
          have : i = j := by simpa [hne] using hi
          rw [this]; exact hj)) hC (fun _ X hX' => hX X (.inr hX')) (fun _ => hX _ (.inl rfl)) (fun _ => hz))
    m (Array.replicate m false) a w.drew (by simp) hu (by
      rw [Array.getD_eq_getD_getElem?]
      have := ok.jm
      simp [this]) (by
      rw [Array.getD_eq_getD_getElem?]
      have := ok2.jm
      simp [this]) (fun i hi hne => .inr ⟨ok', by
        have : i = k := by simpa [hne] using hi
        rw [this]; exact ok2.here, ew, hew1, hew2.1, hew2.2⟩) hD (fun N X hX => any N X (.inr hX)) (fun N => any N D (.inl rfl)) (fun N => putAll_size _ _ _)
  have e1 : m + (l.length - m) = l.toArray.size := by simp; omega
  have e2 : Array.replicate m false ++ Array.replicate (l.length - m) false = Array.replicate l.toArray.size false := by
    rw [Array.replicate_append_replicate]; congr 1
  rw [e1, e2] at main
  exact main
end
end Go.Proofs.YtonagfmkplbooaaGreatDoor
