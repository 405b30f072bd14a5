/-
  Part 24 of the proof: 4 texts, one behind the other.
-/
import Derived.Test.YtmkjlcfoedglmaaDoorPart22
import Derived.Test.YtmkjlcfoedglmaaDoorPart11
import Derived.Test.YtmkjlcfoedglmaaDoorPart23
import Derived.Test.YtmkjlcfoedglmaaDoorPart6
import Derived.OrdersIn
import Derived.TacticsIn
import Derived.RangeFuncSeq
import Derived.Test.YtmkjlcfoedglmaaDoorPart14
/-
  What the calls of package algebra's common and of Unlike's question do.
-/
namespace Go.Proofs.YtmkjlcfoedglmaaDoor
open Go.RowKit
set_option linter.unusedSimpArgs false
set_option linter.unusedVariables false

/-- A stretch in a block that may be written. -/
def AtY (W : World) (B : Nat) (x y : BitVec 128) : Prop := (W.cell? ⟨B, 0, none⟩ = some (.int .u64 (hI x)) ∧ W.cell? ⟨B, 1, none⟩ = some (.int .u64 (lI x)) ∧ W.cell? ⟨B, 2, none⟩ = some (.int .u64 (hI y)) ∧ W.cell? ⟨B, 3, none⟩ = some (.int .u64 (lI y))) ∧ W.frozen? ⟨B, 0, none⟩ = false ∧ W.frozen? ⟨B, 1, none⟩ = false ∧ W.frozen? ⟨B, 2, none⟩ = false ∧ W.frozen? ⟨B, 3, none⟩ = false
theorem AtY.heap {W W' : World} {B : Nat} {x y : BitVec 128} (k : AtY W B x y) (e : W'.heap[B]? = W.heap[B]?) : AtY W' B x y := by
  obtain ⟨⟨k0, k1, k2, k3⟩, f0, f1, f2, f3⟩ := k
  exact ⟨⟨by rw [cellH e]; exact k0, by rw [cellH e]; exact k1, by rw [cellH e]; exact k2, by rw [cellH e]; exact k3⟩, by rw [frozH e]; exact f0, by rw [frozH e]; exact f1, by rw [frozH e]; exact f2, by rw [frozH e]; exact f3⟩
theorem AtY.lt {W : World} {B : Nat} {x y : BitVec 128} (k : AtY W B x y) : B < W.heap.size := cell_in k.1.1
theorem aty_new (W : World) (B : Nat) (x y : BitVec 128) (T : TypeId) (e : B = W.heap.size) : AtY (W.alloc (.cells #[.int .u64 (hI x), .int .u64 (lI x), .int .u64 (hI y), .int .u64 (lI y)] T)) B x y := by
  subst e
  refine ⟨⟨?_, ?_, ?_, ?_⟩, ?_, ?_, ?_, ?_⟩ <;> simp [go_sem]
theorem AtY.lo {W : World} {B : Nat} {x y : BitVec 128} (k : AtY W B x y) (z : BitVec 128) : AtY ((W.setCell ⟨B, 0, none⟩ (.int .u64 (hI z))).setCell ⟨B, 1, none⟩ (.int .u64 (lI z))) B z y := by
  obtain ⟨⟨k0, k1, k2, k3⟩, f0, f1, f2, f3⟩ := k
  refine ⟨⟨?_, ?_, ?_, ?_⟩, ?_, ?_, ?_, ?_⟩ <;> simp [go_sem, *]
theorem AtY.hi {W : World} {B : Nat} {x y : BitVec 128} (k : AtY W B x y) (z : BitVec 128) : AtY ((W.setCell ⟨B, 2, none⟩ (.int .u64 (hI z))).setCell ⟨B, 3, none⟩ (.int .u64 (lI z))) B x z := by
  obtain ⟨⟨k0, k1, k2, k3⟩, f0, f1, f2, f3⟩ := k
  refine ⟨⟨?_, ?_, ?_, ?_⟩, ?_, ?_, ?_, ?_⟩ <;> simp [go_sem, *]
theorem AtY.all {W : World} {B : Nat} {x y : BitVec 128} (k : AtY W B x y) (u z : BitVec 128) : AtY ((((W.setCell ⟨B, 0, none⟩ (.int .u64 (hI u))).setCell ⟨B, 1, none⟩ (.int .u64 (lI u))).setCell ⟨B, 2, none⟩ (.int .u64 (hI z))).setCell ⟨B, 3, none⟩ (.int .u64 (lI z))) B u z := by
  obtain ⟨⟨k0, k1, k2, k3⟩, f0, f1, f2, f3⟩ := k
  refine ⟨⟨?_, ?_, ?_, ?_⟩, ?_, ?_, ?_, ?_⟩ <;> simp [go_sem, *]
/-- What is known in common. -/
structure CmI (w : World) (sx sy : BitVec 128) (sh : Int) (tx ty : BitVec 128) (th : Int) (u v : BitVec 128) (W : World) : Prop where
  s : AtG W w.heap.size sx sy sh
  t : AtG W (w.heap.size + 1) tx ty th
  r : AtY W (w.heap.size + 2) 0#128 0#128
  a : AtY W (w.heap.size + 3) u v
  bel : Below w.heap.size w W
theorem CmI.below {w : World} {sx sy : BitVec 128} {sh : Int} {tx ty : BitVec 128} {th : Int} {u v : BitVec 128} {W W' : World} (k : CmI w sx sy sh tx ty th u v W) (hb : Below W.heap.size W W') : CmI w sx sy sh tx ty th u v W' :=
  ⟨k.s.below hb, k.t.below hb, k.r.heap (hb.block _ k.r.lt), k.a.heap (hb.block _ k.a.lt), keepb hb k.bel⟩
theorem CmI.lo {w : World} {sx sy : BitVec 128} {sh : Int} {tx ty : BitVec 128} {th : Int} {u v : BitVec 128} {W : World} (k : CmI w sx sy sh tx ty th u v W) (z : BitVec 128) : CmI w sx sy sh tx ty th z v ((W.setCell ⟨w.heap.size + 3, 0, none⟩ (.int .u64 (hI z))).setCell ⟨w.heap.size + 3, 1, none⟩ (.int .u64 (lI z))) :=
  ⟨k.s.heap (by rw [hSet _ (by omega), hSet _ (by omega)]), k.t.heap (by rw [hSet _ (by omega), hSet _ (by omega)]), k.r.heap (by rw [hSet _ (by omega), hSet _ (by omega)]), k.a.lo z, (k.bel.setCell (p := ⟨w.heap.size + 3, 0, none⟩) (by simp) _).setCell (p := ⟨w.heap.size + 3, 1, none⟩) (by simp) _⟩
theorem CmI.hi {w : World} {sx sy : BitVec 128} {sh : Int} {tx ty : BitVec 128} {th : Int} {u v : BitVec 128} {W : World} (k : CmI w sx sy sh tx ty th u v W) (z : BitVec 128) : CmI w sx sy sh tx ty th u z ((W.setCell ⟨w.heap.size + 3, 2, none⟩ (.int .u64 (hI z))).setCell ⟨w.heap.size + 3, 3, none⟩ (.int .u64 (lI z))) :=
  ⟨k.s.heap (by rw [hSet _ (by omega), hSet _ (by omega)]), k.t.heap (by rw [hSet _ (by omega), hSet _ (by omega)]), k.r.heap (by rw [hSet _ (by omega), hSet _ (by omega)]), k.a.hi z, (k.bel.setCell (p := ⟨w.heap.size + 3, 2, none⟩) (by simp) _).setCell (p := ⟨w.heap.size + 3, 3, none⟩) (by simp) _⟩
set_option maxHeartbeats 8000000 in
theorem common6_any (sx sy : BitVec 128) (sh : Int) (tx ty : BitVec 128) (th : Int) (w : World) :
    Calls Tryd.prog 82 #[.agg #[.int .u64 (hI sx), .int .u64 (lI sx), .int .u64 (hI sy), .int .u64 (lI sy), .int .i64 sh], .agg #[.int .u64 (hI tx), .int .u64 (lI tx), .int .u64 (hI ty), .int .u64 (lI ty), .int .i64 th]] w fun e w' => e = .returned (.agg #[.int .u64 (hI (comF ((sx, sy), sh) ((tx, ty), th))), .int .u64 (lI (comF ((sx, sy), sh) ((tx, ty), th))), .int .u64 (hI (comL ((sx, sy), sh) ((tx, ty), th))), .int .u64 (lI (comL ((sx, sy), sh) ((tx, ty), th)))]) ∧ Below w.heap.size w w' := by
  have HI0 : Hid (CmI w sx sy sh tx ty th sx sy ((((w.alloc (.cells #[.int .u64 (hI sx), .int .u64 (lI sx), .int .u64 (hI sy), .int .u64 (lI sy), .int .i64 sh] 39)).alloc (.cells #[.int .u64 (hI tx), .int .u64 (lI tx), .int .u64 (hI ty), .int .u64 (lI ty), .int .i64 th] 39)).alloc (.cells #[.int .u64 0, .int .u64 0, .int .u64 0, .int .u64 0] 102)).alloc (.cells #[.int .u64 (hI sx), .int .u64 (lI sx), .int .u64 (hI sy), .int .u64 (lI sy)] 102))) := by
    have q1 := bl1 w (.cells #[.int .u64 (hI sx), .int .u64 (lI sx), .int .u64 (hI sy), .int .u64 (lI sy), .int .i64 sh] 39)
    have a1 := atg_new w w.heap.size sx sy sh 39 rfl
    revert q1 a1
    generalize hw1 : w.alloc (.cells #[.int .u64 (hI sx), .int .u64 (lI sx), .int .u64 (hI sy), .int .u64 (lI sy), .int .i64 sh] 39) = w1
    have s1 : w1.heap.size = w.heap.size + 1 := by rw [← hw1]; simp
    clear hw1
    intro q1 a1
    have q2 := bl1 w1 (.cells #[.int .u64 (hI tx), .int .u64 (lI tx), .int .u64 (hI ty), .int .u64 (lI ty), .int .i64 th] 39)
    have a2 := atg_new w1 (w.heap.size + 1) tx ty th 39 s1.symm
    revert q2 a2
    generalize hw2 : w1.alloc (.cells #[.int .u64 (hI tx), .int .u64 (lI tx), .int .u64 (hI ty), .int .u64 (lI ty), .int .i64 th] 39) = w2
    have s2 : w2.heap.size = w.heap.size + 2 := by rw [← hw2]; simp [s1]
    clear hw2
    intro q2 a2
    have q3 := bl1 w2 (.cells #[.int .u64 0, .int .u64 0, .int .u64 0, .int .u64 0] 102)
    have a3 := aty_new w2 (w.heap.size + 2) 0#128 0#128 102 s2.symm
    rw [hI_zero, lI_zero] at a3
    revert q3 a3
    generalize hw3 : w2.alloc (.cells #[.int .u64 0, .int .u64 0, .int .u64 0, .int .u64 0] 102) = w3
    have s3 : w3.heap.size = w.heap.size + 3 := by rw [← hw3]; simp [s2]
    clear hw3
    intro q3 a3
    have q4 := bl1 w3 (.cells #[.int .u64 (hI sx), .int .u64 (lI sx), .int .u64 (hI sy), .int .u64 (lI sy)] 102)
    exact hidR ⟨((a1.below q2).below q3).below q4, (a2.below q3).below q4, a3.heap (q4.block _ a3.lt), aty_new w3 (w.heap.size + 3) sx sy 102 s3.symm, keepb q4 (keepb q3 (keepb q2 q1))⟩
  have KF := fun w => cmp_any sx tx w
  have HF : Hid ((cmpZ sx tx < 0 → comF ((sx, sy), sh) ((tx, ty), th) = tx) ∧ (¬ cmpZ sx tx < 0 → comF ((sx, sy), sh) ((tx, ty), th) = sx)) := hidR ⟨fun h => by unfold comF; rw [if_pos h], fun h => by unfold comF; rw [if_neg h]⟩
  have KL := fun w => cmp_any ty sy w
  have HL : Hid ((cmpZ ty sy < 0 → comL ((sx, sy), sh) ((tx, ty), th) = ty) ∧ (¬ cmpZ ty sy < 0 → comL ((sx, sy), sh) ((tx, ty), th) = sy)) := hidR ⟨fun h => by unfold comL; rw [if_pos h], fun h => by unfold comL; rw [if_neg h]⟩
  revert KF HF KL HL
  generalize comF ((sx, sy), sh) ((tx, ty), th) = cf
  generalize comL ((sx, sy), sh) ((tx, ty), th) = cl
  generalize cmpZ sx tx = zf
  generalize cmpZ ty sy = zl
  intro KF HF KL HL
  obtain ⟨s0, s1, s2, s3, s4, -⟩ := HI0.out.s
  obtain ⟨t0, t1, t2, t3, t4, -⟩ := HI0.out.t
  obtain ⟨⟨a0, a1, a2, a3⟩, -⟩ := HI0.out.a
  obtain ⟨p0, p1, p2, p3, p4, -⟩ := atg_new w w.heap.size sx sy sh 39 rfl
  go_enter Tryd.func82, Tryd.ntmps82
  go_wp2_with fail
  refine (KF _).mono ?_
  rintro e w1 ⟨rfl, hb⟩
  have HI1 := hidR (HI0.out.below hb)
  clear KF hb HI0 s0 s1 s2 s3 s4 t0 t1 t2 t3 t4 a0 a1 a2 a3 p0 p1 p2 p3 p4
  have tail : ∀ (u : BitVec 128) (W : World), u = cf → CmI w sx sy sh tx ty th u sy W → True := fun _ _ _ _ => trivial
  clear tail
  by_cases hf : zf < 0
  · obtain ⟨t0, t1, t2, t3, t4, -⟩ := HI1.out.t
    obtain ⟨⟨a0, a1, a2, a3⟩, f0, f1, f2, f3⟩ := HI1.out.a
    have HI2 := hidR (HI1.out.lo tx)
    have he := HF.out.1 hf
    subst he
    have df : decide (zf < 0) = true := by simpa using hf
    obtain ⟨y0, y1, y2, y3, y4, -⟩ := HI2.out.t
    obtain ⟨⟨b0, b1, b2, b3⟩, -⟩ := HI2.out.a
    clear HI1 HF hf
    go_wp2_with fail
    refine (KL _).mono ?_
    rintro e w2 ⟨rfl, hb⟩
    have HI3 := hidR (HI2.out.below hb)
    clear KL hb HI2 t0 t1 t2 t3 t4 a0 a1 a2 a3 f0 f1 f2 f3 y0 y1 y2 y3 y4 b0 b1 b2 b3
    by_cases hl : zl < 0
    · obtain ⟨t0, t1, t2, t3, t4, -⟩ := HI3.out.t
      obtain ⟨⟨a0, a1, a2, a3⟩, f0, f1, f2, f3⟩ := HI3.out.a
      have HI4 := hidR (HI3.out.hi ty)
      have he := HL.out.1 hl
      subst he
      have dl : decide (zl < 0) = true := by simpa using hl
      obtain ⟨⟨b0, b1, b2, b3⟩, -⟩ := HI4.out.a
      obtain ⟨⟨r0, r1, r2, r3⟩, g0, g1, g2, g3⟩ := HI4.out.r
      obtain ⟨⟨k0, k1, k2, k3⟩, -⟩ := HI4.out.r.all cf cl
      have HB := hidR (bset4m (C := w.heap.size + 2) HI4.out.bel (by omega) (.int .u64 (hI cf)) (.int .u64 (lI cf)) (.int .u64 (hI cl)) (.int .u64 (lI cl)))
      clear HI3 HI4 HL hl
      go_wp2
      exact bodyPost_ret (v := .agg #[.int .u64 (hI cf), .int .u64 (lI cf), .int .u64 (hI cl), .int .u64 (lI cl)]) (by simp [results, Tryd.results82, go_sem, k0, k1, k2, k3]) rfl ⟨rfl, HB.out⟩
    · have he := HL.out.2 (by omega)
      subst he
      have dl : decide (zl < 0) = false := by simpa using hl
      obtain ⟨⟨b0, b1, b2, b3⟩, -⟩ := HI3.out.a
      obtain ⟨⟨r0, r1, r2, r3⟩, g0, g1, g2, g3⟩ := HI3.out.r
      obtain ⟨⟨k0, k1, k2, k3⟩, -⟩ := HI3.out.r.all cf cl
      have HB := hidR (bset4m (C := w.heap.size + 2) HI3.out.bel (by omega) (.int .u64 (hI cf)) (.int .u64 (lI cf)) (.int .u64 (hI cl)) (.int .u64 (lI cl)))
      clear HI3 HL hl
      go_wp2
      exact bodyPost_ret (v := .agg #[.int .u64 (hI cf), .int .u64 (lI cf), .int .u64 (hI cl), .int .u64 (lI cl)]) (by simp [results, Tryd.results82, go_sem, k0, k1, k2, k3]) rfl ⟨rfl, HB.out⟩
  · have he := HF.out.2 (by omega)
    subst he
    have df : decide (zf < 0) = false := by simpa using hf
    obtain ⟨y0, y1, y2, y3, y4, -⟩ := HI1.out.t
    obtain ⟨⟨b0, b1, b2, b3⟩, -⟩ := HI1.out.a
    clear HF hf
    go_wp2_with fail
    refine (KL _).mono ?_
    rintro e w2 ⟨rfl, hb⟩
    have HI3 := hidR (HI1.out.below hb)
    clear KL hb HI1 y0 y1 y2 y3 y4 b0 b1 b2 b3
    by_cases hl : zl < 0
    · obtain ⟨t0, t1, t2, t3, t4, -⟩ := HI3.out.t
      obtain ⟨⟨a0, a1, a2, a3⟩, f0, f1, f2, f3⟩ := HI3.out.a
      have HI4 := hidR (HI3.out.hi ty)
      have he := HL.out.1 hl
      subst he
      have dl : decide (zl < 0) = true := by simpa using hl
      obtain ⟨⟨b0, b1, b2, b3⟩, -⟩ := HI4.out.a
      obtain ⟨⟨r0, r1, r2, r3⟩, g0, g1, g2, g3⟩ := HI4.out.r
      obtain ⟨⟨k0, k1, k2, k3⟩, -⟩ := HI4.out.r.all cf cl
      have HB := hidR (bset4m (C := w.heap.size + 2) HI4.out.bel (by omega) (.int .u64 (hI cf)) (.int .u64 (lI cf)) (.int .u64 (hI cl)) (.int .u64 (lI cl)))
      clear HI3 HI4 HL hl
      go_wp2
      exact bodyPost_ret (v := .agg #[.int .u64 (hI cf), .int .u64 (lI cf), .int .u64 (hI cl), .int .u64 (lI cl)]) (by simp [results, Tryd.results82, go_sem, k0, k1, k2, k3]) rfl ⟨rfl, HB.out⟩
    · have he := HL.out.2 (by omega)
      subst he
      have dl : decide (zl < 0) = false := by simpa using hl
      obtain ⟨⟨b0, b1, b2, b3⟩, -⟩ := HI3.out.a
      obtain ⟨⟨r0, r1, r2, r3⟩, g0, g1, g2, g3⟩ := HI3.out.r
      obtain ⟨⟨k0, k1, k2, k3⟩, -⟩ := HI3.out.r.all cf cl
      have HB := hidR (bset4m (C := w.heap.size + 2) HI3.out.bel (by omega) (.int .u64 (hI cf)) (.int .u64 (lI cf)) (.int .u64 (hI cl)) (.int .u64 (lI cl)))
      clear HI3 HL hl
      go_wp2
      exact bodyPost_ret (v := .agg #[.int .u64 (hI cf), .int .u64 (lI cf), .int .u64 (hI cl), .int .u64 (lI cl)]) (by simp [results, Tryd.results82, go_sem, k0, k1, k2, k3]) rfl ⟨rfl, HB.out⟩
end Go.Proofs.YtmkjlcfoedglmaaDoor
/-
  A region that draws its order and calls a loop's body (yield): what stands ahead of that call is quiet, in whatever order; behind it all stands in order.
-/
namespace Go.Proofs.YtmkjlcfoedglmaaDoor
open Go.RowKit
set_option linter.unusedSimpArgs false
set_option linter.unusedVariables false

section
variable {P : Program}

theorem oper_wide {n : Nat} {o : Oper} {a : Act} {w : World} {K : Act → World → Prop} {Q : Exit → Act → World → Prop} (h : o.wp P a w K Q) : o.wpIn Fence.wide n P a w K Q := by
  refine ⟨fun _ _ => trivial, ?_⟩
  rw [Fence.wide_round, Oper.semAt_none]
  unfold Oper.wp Oper.upon at h
  unfold Oper.uponIn
  cases hr : (execOp a.eval o).run P w with
  | ok x w' =>
    rw [hr] at h
    cases x with
    | value v => exact h
    | skip => exact h
    | defer d => exact h
    | enter f args => exact ⟨fun q => (by cases q), callsIn_wide.2 h⟩
    | row r args => exact ⟨fun q => (by cases q), fun c cs _ => let ⟨v, w'', r', s⟩ := h c cs; ⟨v, w'', r', stepsIn_wide.2 s⟩⟩
    | _ => exact h.elim
  | halt x w' =>
    rw [hr] at h
    cases x with
    | panic v => exact h
    | _ => exact h.elim
theorem any_seqIn {n : Nat} {md : Region.Mode} {ops : Array Oper} {Q : Exit → Act → World → Prop} : ∀ (l : List Oper) (k : Nat) (listed : Array Bool) (a : Act) (w : World), (∀ i, l[i]? = ops[k + i]?) → seqB md ops l.length k listed = true →
    wpListIn Fence.wide n P ops Q l a w → wpAnyIn Fence.wide n P md ops Q l.length listed a w
  | [], k, listed, a, w, _, hB, h => by
    simp only [List.length_nil, seqB, beq_iff_eq] at hB
    exact ⟨hB, h⟩
  | o :: l, k, listed, a, w, hl, hB, h => by
    simp only [List.length_cons, seqB, Bool.and_eq_true, beq_iff_eq] at hB
    refine ⟨fun e => (by rw [hB.1] at e; cases e), fun i hi => ?_⟩
    rw [hB.1] at hi
    have e : i = k := by simpa using hi
    subst e
    have h0 : ops[i]? = some o := by simpa using (hl 0).symm
    unfold wpOpIn
    simp only [h0]
    have ih : ∀ a w, wpListIn Fence.wide n P ops Q l a w → wpAnyIn Fence.wide n P md ops Q l.length (listed.setIfInBounds i true) a w := fun a w h => any_seqIn l (i + 1) (listed.setIfInBounds i true) a w (fun q => by have := hl (q + 1); simpa [Nat.add_assoc, Nat.add_comm 1 q] using this) hB.2 h
    unfold wpListIn at h
    split
    · rename_i hw
      rw [if_pos hw] at h
      exact Oper.wpIn_mono ih h
    · rename_i hw
      rw [if_neg hw] at h
      exact ⟨h.1, ih _ _ h.2⟩
theorem wpIn_of_yields {n : Nat} {ops ops' : Array Oper} {C : World → Prop} {Q : Exit → Act → World → Prop} {i : Nat} {o : Oper} {v : Value} {a : Act} {w : World} {K : Act → World → Prop} (ho : ops[i]? = some o) (hw : Region.wanted o (yielded ops' a.tmps) = Region.wanted o (yielded ops a.tmps))
    (hy : YieldsIn P ops' C o v a) (hC : C w) (h : ∀ w', C w' → K (a.put o.dst v) w') : wpOpIn Fence.wide n P ops Q i K a w := by
  unfold wpOpIn
  simp only [ho]
  rcases hy with ⟨h1, h2⟩ | ⟨h1, h2⟩
  · rw [if_pos (by rw [← hw]; exact h1)]
    exact oper_wide (Oper.wp_of_quiet (K := fun a' => a' = a.put o.dst v) hC (fun a' w' hw' e => by rw [e]; exact h w' hw') ⟨v, h2, rfl⟩)
  · rw [if_neg (by rw [← hw, h1]; decide)]
    refine ⟨fun _ _ => trivial, ?_⟩
    rw [← h2]
    exact h w hC
theorem done_anyIn {n : Nat} {l : List Oper} {m j : Nat} (ok : QpOk l m j) {C : World → Prop} {N : Value} {A : Act} {Q : Exit → Act → World → Prop}
    (hpost : ∀ w, C w → wpListIn Fence.wide n P l.toArray Q (l.drop m) A w) : ∀ (fuel : Nat) (lp : Array Bool) (a : Act) (w : World), lp.size = m → unl lp = fuel → (j < m → lp.getD j false = true) → C w →
      wpAnyQ P .any (rep (l.take m) j N).toArray C (fun a' => a' = A) fuel lp a → wpAnyIn Fence.wide n P .any l.toArray Q (fuel + (l.length - m)) (lp ++ Array.replicate (l.length - m) false) a w := by
  intro fuel
  induction fuel with
  | zero =>
    intro lp a w hs hu hj hC h
    rw [h.2, unl_zero lp hu, hs, Nat.zero_add, show l.length - m = (l.drop m).length by simp]
    refine any_seqIn (l.drop m) m _ A w (fun i => by simp) ?_ (hpost w hC)
    have := ok.seq
    rwa [show l.length - m = (l.drop m).length by simp] at this
  | succ fuel ih =>
    intro lp a w hs hu hj hC h
    rw [show fuel + 1 + (l.length - m) = (fuel + (l.length - m)) + 1 by omega]
    have key : ∀ i ∈ Region.ready .any l.toArray (lp ++ Array.replicate (l.length - m) false), wpOpIn Fence.wide n P l.toArray Q i (wpAnyIn Fence.wide n P .any l.toArray Q (fuel + (l.length - m)) ((lp ++ Array.replicate (l.length - m) false).setIfInBounds i true)) a w := by
      intro i hi
      obtain ⟨him, hir⟩ := ready_pre l m j N ok.ml ok.wait lp hs fuel hu i hi
      obtain ⟨hun, _⟩ := mem_ready.1 hir
      have hij : i ≠ j := by
        intro e
        subst e
        have hj := hj him
        rw [Array.getD_eq_getD_getElem?] at hun hj
        cases q : lp[i]? with
        | none => rw [q] at hun; simp at hun
        | some b => rw [q] at hun hj; simp at hun hj; rw [hun] at hj; cases hj
      obtain ⟨_, o, ho, _⟩ := mem_ready.1 hi
      have ho' : l[i]? = some o := by simpa using ho
      have hor : (rep (l.take m) j N).toArray[i]? = some o := by
        simp only [List.getElem?_toArray]
        rw [rep_ne _ _ _ _ hij, List.getElem?_take, if_pos him]; exact ho'
      obtain ⟨v, hy, hK⟩ := yieldsIn_of_qOp hor (h.2 i hir)
      refine wpIn_of_yields ho (wanted_rep l m j N a o o rfl (ok.guards i o ho')) hy hC (fun w' hw' => ?_)
      rw [set_app lp _ i (by omega)]
      refine ih _ _ w' (by simp [hs]) (by have := unl_set lp i hun; omega) ?_ hw' hK
      exact fun q => getD_set_true (hj q)
    refine ⟨fun e => ?_, key⟩
    obtain ⟨k, hk, hf⟩ := unl_some lp fuel hu
    exact absurd e (some_ready ok lp hs k (by omega) hf)
/-- The law. -/
theorem yd_region {id : Nat} {l : List Oper} (n m : Nat) (ok : QpOk l m m) {C : World → Prop} {Q : Exit → Act → World → Prop} {a : Act} {w : World} (ds : List (Option Tmp)) (vals : List Value) (hm : P.follows .mixedOrders = true)
    (hC : C w.drew) (hwalk : wpQuiet P (l.take m).toArray C (fun a' => a' = putAll a ds vals) (l.take m) a) (hpost : ∀ w, C w → wpListIn Fence.wide n P l.toArray Q (l.drop m) (putAll a ds vals) w) : (Code.region id l.toArray true).wp P Q a w := by
  refine (wpIn_wide (n := n)).1 ?_
  refine wpIn_region_any hm ?_
  have hml := ok.ml
  have hlen : (l.take m).length = m := by rw [List.length_take]; omega
  have any : wpAnyQ P .any (l.take m).toArray C (fun a' => a' = putAll a ds vals) m (Array.replicate m false) a := by
    have hB := ok.lex undef
    rw [rep_out _ _ _ (by omega)] at hB
    simp only [Region.lexB, Bool.and_eq_true] at hB
    have := wpAnyQ_lex (C := C) (md := .any) hB.1 (l.take m) 0 (Array.replicate m false) a (by simp) (by have := hB.2; simpa [hlen, hml] using this) hwalk
    rwa [hlen] at this
  have hu : unl (Array.replicate m false) = m := by unfold unl; simp
  have main := done_anyIn (P := P) (n := n) (N := undef) ok hpost m (Array.replicate m false) a w.drew (by simp) hu (fun q => absurd q (Nat.lt_irrefl _)) hC (by rw [rep_out _ _ _ (by omega)]; exact any)
  have e1 : m + (l.length - m) = l.toArray.size := by simp; omega
  have e2 : Array.replicate m false ++ Array.replicate (l.length - m) false = Array.replicate l.toArray.size false := by
    rw [Array.replicate_append_replicate]; congr 1
  rw [e1, e2] at main
  exact main
/-- The call of the body itself, the rest plain. -/
theorem yd_call {n : Nat} {ops : Array Oper} {Q : Exit → Act → World → Prop} {a : Act} {w : World} {o : Oper} {rest : List Oper} {l : Nat} {args : Array Value} {R : Ending → World → Prop} (hgd : o.guard = none)
    (hy : YieldAt Fence.wide (n - 1) P l args w R) (hex : ∀ r, (Instr.yield l args).run P w = r → (execOp a.eval o).run P w = r) (hR : ∀ e w', R e w' → (∃ v, e = .returned v ∧ wpListIn Fence.wide n P ops Q rest (a.put o.dst v) w')) : wpListIn Fence.wide n P ops Q (o :: rest) a w := by
  obtain ⟨fn, tmps, assign, body, h1, h2⟩ := hy
  have h3 := hex _ h1
  unfold wpListIn
  rw [if_pos (by simp [Region.wanted, hgd])]
  refine ⟨fun _ _ => trivial, ?_⟩
  rw [Fence.wide_round, Oper.semAt_none, h3]
  refine ⟨fun q => (by cases q), h2.mono ?_⟩
  intro e w' hr
  obtain ⟨v, rfl, hv⟩ := hR e w' hr
  exact hv
theorem yd_plain {n : Nat} {ops : Array Oper} {Q : Exit → Act → World → Prop} {a : Act} {w : World} {o : Oper} {rest : List Oper} {v : Value} (hgd : o.guard = none) (hex : (execOp a.eval o).run P w = .ok (.value v) w) (h : wpListIn Fence.wide n P ops Q rest (a.put o.dst v) w) : wpListIn Fence.wide n P ops Q (o :: rest) a w := by
  unfold wpListIn
  rw [if_pos (by simp [Region.wanted, hgd])]
  refine ⟨fun _ _ => trivial, ?_⟩
  rw [Fence.wide_round, Oper.semAt_none, hex]
  exact h
end
end Go.Proofs.YtmkjlcfoedglmaaDoor
/-
  A region that draws its order, of whatever operations, by what is known of memory and of some numbers when some of them are done.
-/
namespace Go.Proofs.YtmkjlcfoedglmaaDoor
open Go.RowKit
set_option linter.unusedSimpArgs false
set_option linter.unusedVariables false

section
variable {P : Program}

theorem putAll_other : ∀ (ds : List (Option Tmp)) (vs : List Value) (a : Act) (s : Nat), (∀ d ∈ ds, d ≠ some s) → (putAll a ds vs).tmps[s]? = a.tmps[s]?
  | [], vs, a, s, _ => by cases vs <;> rfl
  | d :: ds, [], a, s, _ => rfl
  | d :: ds, v :: vs, a, s, h => by
    rw [putAll, putAll_other ds vs (a.put d v) s (fun x hx => h x (List.mem_cons_of_mem _ hx))]
    exact put_other a d v s (h d (by simp))
theorem putAll_defers : ∀ (ds : List (Option Tmp)) (vs : List Value) (a : Act), (putAll a ds vs).defers = a.defers
  | [], vs, a => by cases vs <;> rfl
  | d :: ds, [], a => rfl
  | d :: ds, v :: vs, a => by
    rw [putAll, putAll_defers ds vs (a.put d v)]
    unfold Act.put
    cases d <;> rfl
/-- What stands in the slots when some operations are done. -/
structure Slt (l : List Oper) (a A : Act) (lp : Array Bool) (a' : Act) : Prop where
  don : ∀ (k : Nat) (o : Oper) (s : Nat), l[k]? = some o → lp.getD k false = true → o.dst = some s → a'.tmps[s]? = A.tmps[s]?
  oth : ∀ s, (∀ (k : Nat) (o : Oper), l[k]? = some o → lp.getD k false = true → o.dst ≠ some s) → a'.tmps[s]? = a.tmps[s]?
  siz : a'.tmps.size = a.tmps.size
  dfr : a'.defers = a.defers
theorem getD_set {lp : Array Bool} {i k : Nat} (h : (lp.setIfInBounds i true).getD k false = true) : k = i ∨ lp.getD k false = true := by
  by_cases e : k = i
  · exact .inl e
  · right
    rw [Array.getD_eq_getD_getElem?] at h ⊢
    rwa [Array.getElem?_setIfInBounds_ne (by omega)] at h
theorem getD_set_same {lp : Array Bool} {i : Nat} (h : i < lp.size) : (lp.setIfInBounds i true).getD i false = true := by
  rw [Array.getD_eq_getD_getElem?, Array.getElem?_setIfInBounds_self_of_lt h]
  rfl
def valO (A : Act) (o : Oper) : Value := ((o.dst).bind fun s => A.tmps[s]?).getD undef
theorem gh_any {γ : Type} {l : List Oper} (ok : QpOk l l.length l.length) (hgd : ∀ o ∈ l, o.guard = none) (hdst : ∀ (i k : Nat) (oi ok : Oper) (s : Nat), l[i]? = some oi → l[k]? = some ok → oi.dst = some s → ok.dst = some s → i = k) {Q : Exit → Act → World → Prop} {a : Act} (A : γ → Act) (hsz : ∀ g, (A g).tmps.size = a.tmps.size) (hdf : ∀ g, (A g).defers = a.defers) (hA : ∀ g s, (∀ o ∈ l, o.dst ≠ some s) → (A g).tmps[s]? = a.tmps[s]?) (R : Array Bool → γ → World → Prop)
    (hstep : ∀ (i : Nat) (o : Oper) (lp : Array Bool) (g : γ) (w' : World) (a' : Act), l[i]? = some o → lp.size = l.length → lp.getD i false = false → (∀ e ∈ o.after, Region.binds .any e = true → lp.getD e.on false = true) → R lp g w' → Slt l a (A g) lp a' →
      ∀ (K : Act → World → Prop) Q', (∀ g' w'', (∀ (k : Nat) (o : Oper) (s : Nat), l[k]? = some o → lp.getD k false = true → o.dst = some s → (A g').tmps[s]? = (A g).tmps[s]?) → R (lp.setIfInBounds i true) g' w'' → ∀ v, valO (A g') o = v → K (a'.put o.dst v) w'') → o.wp P a' w' K Q')
    (hpost : ∀ g w', R (Array.replicate l.length true) g w' → Q .normal (A g) w') :
    ∀ (fuel : Nat) (lp : Array Bool) (g : γ) (a' : Act) (w : World), lp.size = l.length → unl lp = fuel → R lp g w → Slt l a (A g) lp a' → wpAny P .any l.toArray Q fuel lp a' w := by
  intro fuel
  have fin : ∀ (lp : Array Bool) (g : γ) (a' : Act) (w : World), lp.size = l.length → unl lp = 0 → R lp g w → Slt l a (A g) lp a' → Q .normal a' w := by
    intro lp g a' w hs hu hR hS
    have e : lp = Array.replicate l.length true := by have := unl_zero lp hu; rwa [hs] at this
    rw [e] at hR hS
    have : a' = A g := by
      have ht : a'.tmps = (A g).tmps := by
        apply Array.ext_getElem?
        intro s
        by_cases h : ∃ (k : Nat) (o : Oper), l[k]? = some o ∧ o.dst = some s
        · obtain ⟨k, o, h1, h2⟩ := h
          have hk : k < l.length := (List.getElem?_eq_some_iff.mp h1).1
          exact hS.don k o s h1 (by simp [Array.getElem?_replicate, hk]) h2
        · have h' : ∀ o ∈ l, o.dst ≠ some s := by
            intro o ho e
            obtain ⟨k, hk, rfl⟩ := List.mem_iff_getElem.mp ho
            exact h ⟨k, l[k], List.getElem?_eq_getElem hk, e⟩
          rw [hA g s h']
          exact hS.oth s (fun k o h1 _ e => h ⟨k, o, h1, e⟩)
      have hd : a'.defers = (A g).defers := by rw [hS.dfr, hdf]
      cases a'
      cases hAg : A g
      rw [hAg] at ht hd
      simp only at ht hd
      rw [ht, hd]
    rw [this]
    exact hpost g w hR
  induction fuel with
  | zero =>
    intro lp g a' w hs hu hR hS
    refine ⟨?_, fin lp g a' w hs hu hR hS⟩
    have e : lp = Array.replicate l.length true := by have := unl_zero lp hu; rwa [hs] at this
    apply List.eq_nil_iff_forall_not_mem.mpr
    intro i hi
    obtain ⟨hun, o, ho, _⟩ := mem_ready.1 hi
    have hk : i < l.length := by
      have := (Array.getElem?_eq_some_iff.mp ho).1
      simpa using this
    rw [e] at hun
    simp [Array.getElem?_replicate, hk] at hun
  | succ fuel ih =>
    intro lp g a' w hs hu hR hS
    refine ⟨fun e => ?_, fun i hi => ?_⟩
    · obtain ⟨k, hk, hf⟩ := unl_some lp fuel hu
      have hne := some_ready ok lp hs k (by omega) hf
      rw [Nat.sub_self] at hne
      exact absurd (by simpa using e) hne
    · obtain ⟨hun, o, ho, hrd⟩ := mem_ready.1 hi
      have ho' : l[i]? = some o := by simpa using ho
      have hil : i < l.length := (List.getElem?_eq_some_iff.mp ho').1
      have hun' : lp.getD i false = false := by
        rw [Array.getD_eq_getD_getElem?] at hun ⊢
        cases q : lp[i]? with
        | none => rfl
        | some b => rw [q] at hun; simpa using hun
      unfold wpOp
      simp only [ho]
      rw [if_pos (by simp [Region.wanted, hgd o (List.mem_of_getElem? ho')])]
      left
      refine hstep i o lp g w a' ho' hs hun' (fun e he hb => hrd e he hb) hR hS _ _ ?_
      intro g' w'' hsame hR' v hv
      subst hv
      refine ih _ g' _ w'' (by simp [hs]) (by have := unl_set lp i hun; omega) hR' ⟨?_, ?_, ?_, ?_⟩
      · intro k ok s hk hl hd
        rcases getD_set hl with rfl | hl'
        · have : ok = o := by rw [ho'] at hk; cases hk; rfl
          subst this
          unfold Act.put valO
          rw [hd]
          simp only [Option.bind_some]
          by_cases hlt : s < a'.tmps.size
          · rw [Array.getElem?_setIfInBounds_self_of_lt hlt]
            have h2 : s < (A g').tmps.size := by rw [hsz, ← hS.siz]; exact hlt
            rw [Array.getElem?_eq_getElem h2]
            rfl
          · rw [Array.getElem?_eq_none (by simp; omega), Array.getElem?_eq_none (by rw [hsz, ← hS.siz]; omega)]
        · rw [put_other a' o.dst _ s (fun e => by
            have := hdst k i ok o s hk ho' hd e
            subst this
            rw [hun'] at hl'
            cases hl'), hS.don k ok s hk hl' hd, hsame k ok s hk hl' hd]
      · intro s h
        have hne : o.dst ≠ some s := h i o ho' (getD_set_same (by omega))
        rw [put_other a' o.dst _ s hne]
        exact hS.oth s (fun k ok hk hl => h k ok hk (by
          by_cases e : k = i
          · subst e; exact getD_set_same (by omega)
          · rw [Array.getD_eq_getD_getElem?] at hl ⊢
            rwa [Array.getElem?_setIfInBounds_ne (by omega)]))
      · rw [put_size, hS.siz]
      · unfold Act.put
        cases o.dst <;> exact hS.dfr
def dstG (l : List Oper) : Bool := (List.range l.length).all fun i => (List.range l.length).all fun k => i == k || ((l[i]?).bind (·.dst)).isNone || ((l[i]?).bind (·.dst)) != ((l[k]?).bind (·.dst))
theorem dstG_of {l : List Oper} (h : dstG l = true) : ∀ (i k : Nat) (oi ok : Oper) (s : Nat), l[i]? = some oi → l[k]? = some ok → oi.dst = some s → ok.dst = some s → i = k := by
  intro i k oi ok s hi hk h1 h2
  have hil := (List.getElem?_eq_some_iff.mp hi).1
  have hkl := (List.getElem?_eq_some_iff.mp hk).1
  unfold dstG at h
  rw [List.all_eq_true] at h
  have := h i (List.mem_range.mpr hil)
  rw [List.all_eq_true] at this
  have := this k (List.mem_range.mpr hkl)
  rw [hi, hk] at this
  simp only [Option.bind_some, h1, h2] at this
  simpa using this
theorem gh_region {γ : Type} {id : Nat} {l : List Oper} (ok : QpOk l l.length l.length) (hgd : (l.all fun o => o.guard.isNone) = true) (hdst : dstG l = true) {Q : Exit → Act → World → Prop} {a : Act} {w : World} (ds : List (Option Tmp)) (vals : γ → List Value) (hm : P.follows .mixedOrders = true) (hds : ∀ d ∈ ds, ∃ o ∈ l, o.dst = d) (R : Array Bool → γ → World → Prop) (g0 : γ) (h0 : R (Array.replicate l.length false) g0 w.drew)
    (hstep : ∀ (i : Nat) (o : Oper) (lp : Array Bool) (g : γ) (w' : World) (a' : Act), l[i]? = some o → lp.size = l.length → lp.getD i false = false → (∀ e ∈ o.after, Region.binds .any e = true → lp.getD e.on false = true) → R lp g w' → Slt l a (putAll a ds (vals g)) lp a' →
      ∀ (K : Act → World → Prop) Q', (∀ g' w'', (∀ (k : Nat) (o : Oper) (s : Nat), l[k]? = some o → lp.getD k false = true → o.dst = some s → (putAll a ds (vals g')).tmps[s]? = (putAll a ds (vals g)).tmps[s]?) → R (lp.setIfInBounds i true) g' w'' → ∀ v, valO (putAll a ds (vals g')) o = v → K (a'.put o.dst v) w'') → o.wp P a' w' K Q')
    (hpost : ∀ g w', R (Array.replicate l.length true) g w' → Q .normal (putAll a ds (vals g)) w') : (Code.region id l.toArray true).wp P Q a w := by
  refine wp_region_any hm ?_
  have hu : unl (Array.replicate l.length false) = l.length := by unfold unl; simp
  have main := gh_any ok (fun o ho => by have := List.all_eq_true.mp hgd o ho; simpa using this) (dstG_of hdst) (A := fun g => putAll a ds (vals g)) (fun g => putAll_size _ _ _) (fun g => putAll_defers _ _ _) (fun g s h => putAll_other _ _ _ _ (fun d hd e => by obtain ⟨o, ho, hod⟩ := hds d hd; exact h o ho (by rw [hod, e]))) R hstep hpost l.length (Array.replicate l.length false) g0 a w.drew (by simp) hu h0 ⟨fun k o s hk hl => (by rw [Array.getD_eq_getD_getElem?, Array.getElem?_replicate] at hl; split at hl <;> simp at hl), fun s _ => rfl, rfl, rfl⟩
  have e1 : l.length = l.toArray.size := by simp
  rw [e1] at main
  simpa using main
end
end Go.Proofs.YtmkjlcfoedglmaaDoor
/-
  A region that draws its order and calls a loop's body, of whatever operations, by what is known when some of them are done.
-/
namespace Go.Proofs.YtmkjlcfoedglmaaDoor
open Go.RowKit
set_option linter.unusedSimpArgs false
set_option linter.unusedVariables false

section
variable {P : Program}

theorem gh_anyIn {n : Nat} {γ : Type} {l : List Oper} (ok : QpOk l l.length l.length) (hgd : ∀ o ∈ l, o.guard = none) (hdst : ∀ (i k : Nat) (oi ok : Oper) (s : Nat), l[i]? = some oi → l[k]? = some ok → oi.dst = some s → ok.dst = some s → i = k) {Q : Exit → Act → World → Prop} {a : Act} (A : γ → Act) (hsz : ∀ g, (A g).tmps.size = a.tmps.size) (hdf : ∀ g, (A g).defers = a.defers) (hA : ∀ g s, (∀ o ∈ l, o.dst ≠ some s) → (A g).tmps[s]? = a.tmps[s]?) (R : Array Bool → γ → World → Prop)
    (hstep : ∀ (i : Nat) (o : Oper) (lp : Array Bool) (g : γ) (w' : World) (a' : Act), l[i]? = some o → lp.size = l.length → lp.getD i false = false → (∀ e ∈ o.after, Region.binds .any e = true → lp.getD e.on false = true) → R lp g w' → Slt l a (A g) lp a' →
      ∀ (K : Act → World → Prop) Q', (∀ g' w'', (∀ (k : Nat) (o : Oper) (s : Nat), l[k]? = some o → lp.getD k false = true → o.dst = some s → (A g').tmps[s]? = (A g).tmps[s]?) → R (lp.setIfInBounds i true) g' w'' → ∀ v, valO (A g') o = v → K (a'.put o.dst v) w'') → o.wpIn Fence.wide n P a' w' K Q')
    (hpost : ∀ g w', R (Array.replicate l.length true) g w' → Q .normal (A g) w') :
    ∀ (fuel : Nat) (lp : Array Bool) (g : γ) (a' : Act) (w : World), lp.size = l.length → unl lp = fuel → R lp g w → Slt l a (A g) lp a' → wpAnyIn Fence.wide n P .any l.toArray Q fuel lp a' w := by
  intro fuel
  have fin : ∀ (lp : Array Bool) (g : γ) (a' : Act) (w : World), lp.size = l.length → unl lp = 0 → R lp g w → Slt l a (A g) lp a' → Q .normal a' w := by
    intro lp g a' w hs hu hR hS
    have e : lp = Array.replicate l.length true := by have := unl_zero lp hu; rwa [hs] at this
    rw [e] at hR hS
    have : a' = A g := by
      have ht : a'.tmps = (A g).tmps := by
        apply Array.ext_getElem?
        intro s
        by_cases h : ∃ (k : Nat) (o : Oper), l[k]? = some o ∧ o.dst = some s
        · obtain ⟨k, o, h1, h2⟩ := h
          have hk : k < l.length := (List.getElem?_eq_some_iff.mp h1).1
          exact hS.don k o s h1 (by simp [Array.getElem?_replicate, hk]) h2
        · have h' : ∀ o ∈ l, o.dst ≠ some s := by
            intro o ho e
            obtain ⟨k, hk, rfl⟩ := List.mem_iff_getElem.mp ho
            exact h ⟨k, l[k], List.getElem?_eq_getElem hk, e⟩
          rw [hA g s h']
          exact hS.oth s (fun k o h1 _ e => h ⟨k, o, h1, e⟩)
      have hd : a'.defers = (A g).defers := by rw [hS.dfr, hdf]
      cases a'
      cases hAg : A g
      rw [hAg] at ht hd
      simp only at ht hd
      rw [ht, hd]
    rw [this]
    exact hpost g w hR
  induction fuel with
  | zero =>
    intro lp g a' w hs hu hR hS
    refine ⟨?_, fin lp g a' w hs hu hR hS⟩
    have e : lp = Array.replicate l.length true := by have := unl_zero lp hu; rwa [hs] at this
    apply List.eq_nil_iff_forall_not_mem.mpr
    intro i hi
    obtain ⟨hun, o, ho, _⟩ := mem_ready.1 hi
    have hk : i < l.length := by
      have := (Array.getElem?_eq_some_iff.mp ho).1
      simpa using this
    rw [e] at hun
    simp [Array.getElem?_replicate, hk] at hun
  | succ fuel ih =>
    intro lp g a' w hs hu hR hS
    refine ⟨fun e => ?_, fun i hi => ?_⟩
    · obtain ⟨k, hk, hf⟩ := unl_some lp fuel hu
      have hne := some_ready ok lp hs k (by omega) hf
      rw [Nat.sub_self] at hne
      exact absurd (by simpa using e) hne
    · obtain ⟨hun, o, ho, hrd⟩ := mem_ready.1 hi
      have ho' : l[i]? = some o := by simpa using ho
      have hil : i < l.length := (List.getElem?_eq_some_iff.mp ho').1
      have hun' : lp.getD i false = false := by
        rw [Array.getD_eq_getD_getElem?] at hun ⊢
        cases q : lp[i]? with
        | none => rfl
        | some b => rw [q] at hun; simpa using hun
      unfold wpOpIn
      simp only [ho]
      rw [if_pos (by simp [Region.wanted, hgd o (List.mem_of_getElem? ho')])]
      refine hstep i o lp g w a' ho' hs hun' (fun e he hb => hrd e he hb) hR hS _ _ ?_
      intro g' w'' hsame hR' v hv
      subst hv
      refine ih _ g' _ w'' (by simp [hs]) (by have := unl_set lp i hun; omega) hR' ⟨?_, ?_, ?_, ?_⟩
      · intro k ok s hk hl hd
        rcases getD_set hl with rfl | hl'
        · have : ok = o := by rw [ho'] at hk; cases hk; rfl
          subst this
          unfold Act.put valO
          rw [hd]
          simp only [Option.bind_some]
          by_cases hlt : s < a'.tmps.size
          · rw [Array.getElem?_setIfInBounds_self_of_lt hlt]
            have h2 : s < (A g').tmps.size := by rw [hsz, ← hS.siz]; exact hlt
            rw [Array.getElem?_eq_getElem h2]
            rfl
          · rw [Array.getElem?_eq_none (by simp; omega), Array.getElem?_eq_none (by rw [hsz, ← hS.siz]; omega)]
        · rw [put_other a' o.dst _ s (fun e => by
            have := hdst k i ok o s hk ho' hd e
            subst this
            rw [hun'] at hl'
            cases hl'), hS.don k ok s hk hl' hd, hsame k ok s hk hl' hd]
      · intro s h
        have hne : o.dst ≠ some s := h i o ho' (getD_set_same (by omega))
        rw [put_other a' o.dst _ s hne]
        exact hS.oth s (fun k ok hk hl => h k ok hk (by
          by_cases e : k = i
          · subst e; exact getD_set_same (by omega)
          · rw [Array.getD_eq_getD_getElem?] at hl ⊢
            rwa [Array.getElem?_setIfInBounds_ne (by omega)]))
      · rw [put_size, hS.siz]
      · unfold Act.put
        cases o.dst <;> exact hS.dfr
theorem gh_regionIn (n : Nat) {γ : Type} {id : Nat} {l : List Oper} (ok : QpOk l l.length l.length) (hgd : (l.all fun o => o.guard.isNone) = true) (hdst : dstG l = true) {Q : Exit → Act → World → Prop} {a : Act} {w : World} (ds : List (Option Tmp)) (vals : γ → List Value) (hm : P.follows .mixedOrders = true) (hds : ∀ d ∈ ds, ∃ o ∈ l, o.dst = d) (R : Array Bool → γ → World → Prop) (g0 : γ) (h0 : R (Array.replicate l.length false) g0 w.drew)
    (hstep : ∀ (i : Nat) (o : Oper) (lp : Array Bool) (g : γ) (w' : World) (a' : Act), l[i]? = some o → lp.size = l.length → lp.getD i false = false → (∀ e ∈ o.after, Region.binds .any e = true → lp.getD e.on false = true) → R lp g w' → Slt l a (putAll a ds (vals g)) lp a' →
      ∀ (K : Act → World → Prop) Q', (∀ g' w'', (∀ (k : Nat) (o : Oper) (s : Nat), l[k]? = some o → lp.getD k false = true → o.dst = some s → (putAll a ds (vals g')).tmps[s]? = (putAll a ds (vals g)).tmps[s]?) → R (lp.setIfInBounds i true) g' w'' → ∀ v, valO (putAll a ds (vals g')) o = v → K (a'.put o.dst v) w'') → o.wpIn Fence.wide n P a' w' K Q')
    (hpost : ∀ g w', R (Array.replicate l.length true) g w' → Q .normal (putAll a ds (vals g)) w') : (Code.region id l.toArray true).wp P Q a w := by
  refine (wpIn_wide (n := n)).1 ?_
  refine wpIn_region_any hm ?_
  have hu : unl (Array.replicate l.length false) = l.length := by unfold unl; simp
  have main := gh_anyIn (n := n) ok (fun o ho => by have := List.all_eq_true.mp hgd o ho; simpa using this) (dstG_of hdst) (A := fun g => putAll a ds (vals g)) (fun g => putAll_size _ _ _) (fun g => putAll_defers _ _ _) (fun g s h => putAll_other _ _ _ _ (fun d hd e => by obtain ⟨o, ho, hod⟩ := hds d hd; exact h o ho (by rw [hod, e]))) R hstep hpost l.length (Array.replicate l.length false) g0 a w.drew (by simp) hu h0 ⟨fun k o s hk hl => (by rw [Array.getD_eq_getD_getElem?, Array.getElem?_replicate] at hl; split at hl <;> simp at hl), fun s _ => rfl, rfl, rfl⟩
  have e1 : l.length = l.toArray.size := by simp
  rw [e1] at main
  simpa using main
theorem yd_wp {n : Nat} {o : Oper} {a : Act} {w : World} {K : Act → World → Prop} {Q : Exit → Act → World → Prop} {l : Nat} {args : Array Value} {R : Ending → World → Prop}
    (hy : YieldAt Fence.wide (n - 1) P l args w R) (hex : ∀ r, (Instr.yield l args).run P w = r → (execOp a.eval o).run P w = r) (hR : ∀ e w', R e w' → (∃ v, e = .returned v ∧ K (a.put o.dst v) w')) : o.wpIn Fence.wide n P a w K Q := by
  obtain ⟨fn, tmps, assign, body, h1, h2⟩ := hy
  have h3 := hex _ h1
  refine ⟨fun _ _ => trivial, ?_⟩
  rw [Fence.wide_round, Oper.semAt_none, h3]
  refine ⟨fun q => (by cases q), h2.mono ?_⟩
  intro e w' hr
  obtain ⟨v, rfl, hv⟩ := hR e w' hr
  exact hv
end
end Go.Proofs.YtmkjlcfoedglmaaDoor
