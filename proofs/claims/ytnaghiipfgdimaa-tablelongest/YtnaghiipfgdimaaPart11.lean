/-
  Part 11 of the proof: 4 texts, one behind the other.
-/
import Derived.Test.YtnaghiipfgdimaaPart10
import Derived.Test.YtnaghiipfgdimaaPart2
import Derived.Test.YtnaghiipfgdimaaPart9
import Derived.Test.YtnaghiipfgdimaaPart5
import Derived.Test.YtnaghiipfgdimaaPart6
/-
  Variables of one cell, and what keeps them.
-/
namespace Go.Proofs.Ytnaghiipfgdimaa
open Go.RowKit Go.Shelf
set_option linter.unusedSimpArgs false
set_option linter.unusedVariables false

/-- A variable of one cell. -/
def Cl1 (W : World) (B : Nat) (v : Value) : Prop := W.cell? ⟨B, 0, none⟩ = some v ∧ W.frozen? ⟨B, 0, none⟩ = false
theorem Cl1.below {W W' : World} {B : Nat} {v : Value} (k : Cl1 W B v) (hb : Below W.heap.size W W') : Cl1 W' B v := ⟨keepc hb k.1, keepf hb k.1 k.2⟩
theorem Cl1.heap {W W' : World} {B : Nat} {v : Value} (k : Cl1 W B v) (e : W'.heap[B]? = W.heap[B]?) : Cl1 W' B v := ⟨(World.cell?_of_block (a := ⟨B, 0, none⟩) e).trans k.1, (World.frozen?_of_block (a := ⟨B, 0, none⟩) e).trans k.2⟩
theorem cl1_new (W : World) (B : Nat) (v : Value) (t : TypeId) (h : B = W.heap.size) : Cl1 (W.alloc (.cells #[v] t)) B v := by
  subst h
  refine ⟨?_, ?_⟩ <;> simp [go_sem]
theorem Cl1.set {W : World} {B : Nat} {v : Value} (k : Cl1 W B v) (u : Value) : Cl1 (W.setCell ⟨B, 0, none⟩ u) B u := ⟨World.cell?_setCell_same' _ _ _ (by rw [k.1]; rfl), by rw [World.frozen?_setCell]; exact k.2⟩
theorem Cl1.lt {W : World} {B : Nat} {v : Value} (k : Cl1 W B v) : B < W.heap.size := cell_in k.1
theorem hSet6 {W : World} {b o : Nat} (u : Value) {k : Nat} (h : ¬ k = b) : (W.setCell ⟨b, o, none⟩ u).heap[k]? = W.heap[k]? := Below.heap_setCell W ⟨b, o, none⟩ u k h
theorem At.heap6 {W W' : World} {B : Nat} {x : BitVec 128} (k : At W B x) (e : W'.heap[B]? = W.heap[B]?) (hs : W.heap.size ≤ W'.heap.size) : At W' B x := ⟨(World.cell?_of_block (a := ⟨B, 0, none⟩) e).trans k.1, (World.cell?_of_block (a := ⟨B, 1, none⟩) e).trans k.2.1, (World.frozen?_of_block (a := ⟨B, 0, none⟩) e).trans k.2.2.1, (World.frozen?_of_block (a := ⟨B, 1, none⟩) e).trans k.2.2.2.1, Nat.lt_of_lt_of_le k.2.2.2.2 hs⟩
theorem AtP.heap6 {W W' : World} {B : Nat} {x : BitVec 128} {n : Int} (k : AtP W B x n) (e : W'.heap[B]? = W.heap[B]?) : AtP W' B x n := ⟨(World.cell?_of_block (a := ⟨B, 0, none⟩) e).trans k.1, (World.cell?_of_block (a := ⟨B, 1, none⟩) e).trans k.2.1, (World.cell?_of_block (a := ⟨B, 2, none⟩) e).trans k.2.2.1, (World.frozen?_of_block (a := ⟨B, 0, none⟩) e).trans k.2.2.2.1, (World.frozen?_of_block (a := ⟨B, 1, none⟩) e).trans k.2.2.2.2.1, (World.frozen?_of_block (a := ⟨B, 2, none⟩) e).trans k.2.2.2.2.2⟩
theorem Cl1.kept {W W' : World} {B : Nat} {v : Value} (k : Cl1 W B v) {row : Option Nat} (hg : W.grownBy W' row) (hr : ∀ r, row = some r → ∃ o : Obj, W.heap[r]? = some o ∧ o.isCells = false) : Cl1 W' B v := ⟨cell_kept k.1 hg hr, (frozen_kept k.1 hg hr).trans k.2⟩
theorem At.kept6 {W W' : World} {B : Nat} {x : BitVec 128} (k : At W B x) {row : Option Nat} (hg : W.grownBy W' row) (hr : ∀ r, row = some r → ∃ o : Obj, W.heap[r]? = some o ∧ o.isCells = false) : At W' B x := ⟨cell_kept k.1 hg hr, cell_kept k.2.1 hg hr, (frozen_kept k.1 hg hr).trans k.2.2.1, (frozen_kept k.2.1 hg hr).trans k.2.2.2.1, Nat.lt_of_lt_of_le k.2.2.2.2 hg.size⟩
theorem AtP.kept6 {W W' : World} {B : Nat} {x : BitVec 128} {n : Int} (k : AtP W B x n) {row : Option Nat} (hg : W.grownBy W' row) (hr : ∀ r, row = some r → ∃ o : Obj, W.heap[r]? = some o ∧ o.isCells = false) : AtP W' B x n := ⟨cell_kept k.1 hg hr, cell_kept k.2.1 hg hr, cell_kept k.2.2.1 hg hr, (frozen_kept k.1 hg hr).trans k.2.2.2.1, (frozen_kept k.2.1 hg hr).trans k.2.2.2.2.1, (frozen_kept k.2.2.1 hg hr).trans k.2.2.2.2.2⟩
theorem kw_set {Z : Nat → Prop} {B b o : Nat} (hZ : ¬ Z b) (hB : b < B) (W : World) (u : Value) : KW Z B W (W.setCell ⟨b, o, none⟩ u) := ⟨by simp, fun z x hz hx => by
  have hne : ¬ z = b := by
    rintro rfl
    rcases hx with q | q
    · exact hZ q
    · omega
  rw [hSet6 u hne]; exact hz⟩
theorem kw_keeps {Z : Nat → Prop} {B C : Nat} {W W' : World} (h : KW Z B W W') (hc : ∀ z, C ≤ z → Z z) : KeepsFrom C W W' := ⟨h.1, fun k o h1 h2 _ => h.2 k o h2 (.inl (hc k h1))⟩
end Go.Proofs.Ytnaghiipfgdimaa
/-
  The methods of a table's reader: kind, toWord, word, toNextLine, fault; nextHop.
-/
namespace Go.Proofs.Ytnaghiipfgdimaa
open Go.RowKit
set_option linter.unusedSimpArgs false
set_option linter.unusedVariables false
attribute [local go_sem] Oper.semAt_some

theorem jump_ret {l : Nat} {J : Act → World → Prop} {Q : Exit → Act → World → Prop} {a : Act} {w : World} (h : Q .ret a w) : Exit.jump l J Q .ret a w := h
theorem scope_again {P : Program} {a : Act} {w : World} {Q : Exit → Act → World → Prop} {X : Code} (l : Nat) (J : Act → World → Prop) (μ : Act → World → Nat) (hf : findLabel ((Code.label l).seq X) l = some (Code.skip.seq X)) (hJ : J a w)
    (pass : ∀ a w, J a w → X.wp P (Exit.jump l (fun a' w' => J a' w' ∧ μ a' w' < μ a w) Q) a w) : (Code.scope ((Code.label l).seq X)).wp P Q a w :=
  wp_scope_jumps l J μ hf (wp_seq (wp_label (show X.wp P (Exit.jump l J Q) a w from fun b k cs => by
    obtain ⟨e, a', w', h, arr⟩ := pass a w hJ b k cs
    refine ⟨e, a', w', ?_, arr⟩
    cases e <;> first | exact h | exact ⟨h.1, h.2.1⟩))) (fun a w h => wp_seq (wp_skip (pass a w h)))
theorem at_blk {W : World} {z : Nat} {cs : Array Value} {T : TypeId} (hz : W.heap[z]? = some (.cells cs T)) (j : Nat) (u : Value) (hj : cs[j]? = some u) : W.cell? ⟨z, j, none⟩ = some u := by
  simp [World.cell?, hz, hj]
theorem fr_blk5 {W : World} {z j : Nat} {cs : Array Value} {T : TypeId} (h : W.heap[z]? = some (.cells cs T)) : W.frozen? ⟨z, j, none⟩ = false := by simp [World.frozen?, h]
theorem set_blk5 {W : World} {P o : Nat} {cs : Array Value} {T : TypeId} (h : W.heap[P]? = some (.cells cs T)) (v : Value) : (W.setCell ⟨P, o, none⟩ v).heap[P]? = some (.cells (cs.setIfInBounds o v) T) := by
  simp [World.setCell, Array.getElem?_modify, h]
theorem blk_lt5 {w : World} {z : Nat} {o : Obj} (hz : w.heap[z]? = some o) : z < w.heap.size := by
  apply Classical.byContradiction; intro q
  rw [Array.getElem?_eq_none (by omega)] at hz; cases hz
theorem scope_mid {P : Program} {a : Act} {w : World} {Q : Exit → Act → World → Prop} {A X : Code} (l : Nat) (J : Act → World → Prop) (μ : Act → World → Nat) (hf : findLabel (A.seq ((Code.label l).seq X)) l = some (Code.skip.seq X))
    (pre : A.wp P (Exit.then J (fun _ _ _ => False)) a w)
    (pass : ∀ a w, J a w → X.wp P (Exit.jump l (fun a' w' => J a' w' ∧ μ a' w' < μ a w) Q) a w) : (Code.scope (A.seq ((Code.label l).seq X))).wp P Q a w :=
  wp_scope_jumps l J μ hf (wp_seq (fun b k cs => by
    obtain ⟨e, a', w', h, arr⟩ := pre b k cs
    refine ⟨e, a', w', ?_, arr⟩
    cases e with
    | normal => exact wp_seq (wp_label (show X.wp P (Exit.jump l J Q) a' w' from fun b k cs => by
        obtain ⟨e, a2, w2, h2, arr2⟩ := pass a' w' h b k cs
        refine ⟨e, a2, w2, ?_, arr2⟩
        cases e <;> first | exact h2 | exact ⟨h2.1, h2.2.1⟩))
    | _ => exact h.elim)) (fun a w h => wp_seq (wp_skip (pass a w h)))
/-- A reader in memory. -/
def RdV (W : World) (R : Nat) (F : Int) (s : ByteArray) (a ln st : Int) : Prop := W.heap[R]? = some (.cells #[.int .i64 F, .string s, .int .i64 a, .int .i64 ln, .int .i64 st] 79)
section
variable {W W' : World} {R : Nat} {F : Int} {s : ByteArray} {a ln st : Int}
theorem RdV.cells (h : RdV W R F s a ln st) : W.cell? ⟨R, 0, none⟩ = some (.int .i64 F) ∧ W.cell? ⟨R, 1, none⟩ = some (.string s) ∧ W.cell? ⟨R, 2, none⟩ = some (.int .i64 a) ∧ W.cell? ⟨R, 3, none⟩ = some (.int .i64 ln) ∧ W.cell? ⟨R, 4, none⟩ = some (.int .i64 st) := ⟨at_blk h 0 _ rfl, at_blk h 1 _ rfl, at_blk h 2 _ rfl, at_blk h 3 _ rfl, at_blk h 4 _ rfl⟩
theorem RdV.free (h : RdV W R F s a ln st) (j : Nat) : W.frozen? ⟨R, j, none⟩ = false := fr_blk5 h
theorem RdV.lt (h : RdV W R F s a ln st) : R < W.heap.size := blk_lt5 h
theorem RdV.setA (h : RdV W R F s a ln st) (b : Int) : RdV (W.setCell ⟨R, 2, none⟩ (.int .i64 b)) R F s b ln st := by simpa [RdV] using set_blk5 (o := 2) h (.int .i64 b)
theorem RdV.setL (h : RdV W R F s a ln st) (b : Int) : RdV (W.setCell ⟨R, 3, none⟩ (.int .i64 b)) R F s a b st := by simpa [RdV] using set_blk5 (o := 3) h (.int .i64 b)
theorem RdV.setS (h : RdV W R F s a ln st) (b : Int) : RdV (W.setCell ⟨R, 4, none⟩ (.int .i64 b)) R F s a ln b := by simpa [RdV] using set_blk5 (o := 4) h (.int .i64 b)
theorem RdV.below (h : RdV W R F s a ln st) (hb : Below W.heap.size W W') : RdV W' R F s a ln st := (hb.block R h.lt).trans h
end
theorem Bt.trans {M : Nat → Prop} {V W X : World} (h : Bt M V W) (g : Bt M W X) : Bt M V X := ⟨by rw [g.os, h.os], by rw [g.tape, h.tape], by rw [g.output, h.output], Nat.le_trans h.size g.size, fun z h1 h2 => by rw [g.blk z (by have := h.size; omega) h2, h.blk z h1 h2]⟩
theorem Bt.ofB {M : Nat → Prop} {V W : World} (h : Below V.heap.size V W) : Bt M V W := (Bt.refl M V).below h (Nat.le_refl _)
/-- All but one block stay. -/
abbrev Bo (R : Nat) : World → World → Prop := Bt (fun z => z = R)
theorem Bo.set {R : Nat} {V W : World} (h : Bo R V W) (o : Nat) (u : Value) : Bo R V (W.setCell ⟨R, o, none⟩ u) := Bt.set h (.inl rfl) o u
/-- Of a world below which another block lies. -/
theorem Bo.low {R n : Nat} {w V W : World} (h : Bo R V W) (hb : Below n w V) (hR : n ≤ R) (hn : n ≤ w.heap.size) : Below n w W := ⟨by rw [h.os, hb.os], by rw [h.tape, hb.tape], by rw [h.output, hb.output], Nat.le_trans hb.size h.size, fun z hz => by rw [h.blk z (by have := hb.size; omega) (by omega), hb.block z hz]⟩
section
variable (R : Nat) (F : Int) (s : ByteArray)
set_option maxHeartbeats 2000000 in
theorem kind5_any (a ln st : Int) (k : Nat) (w : World) (h : RdV w R F s a ln st) (hk : k ≤ s.size) (hs : s.size ≤ 1000000000) :
    Calls Try.prog 73 #[.pointer (some ⟨R, 0, none⟩), .int .i64 (k : Int)] w fun e w' => e = .returned (.int .i64 (kdS s k)) ∧ w' = w := by
  obtain ⟨-, r1, -, -, -⟩ := h.cells
  clear h
  by_cases he : k = s.size
  · subst he
    rw [kdS_end]
    go_enter Try.func73, Try.ntmps73
    go_wp2
    go_ret
    exact ⟨rfl, rfl⟩
  have hlt : k < s.size := by omega
  have hk2 : (k : Int) < (s.size : Int) := by omega
  have hne : ((k : Int) == (s.size : Int)) = false := by rw [beq_eq_false_iff_ne]; omega
  have hb := byteAt_in s k hlt
  have HV : Hid (kdS s k = if byteAt s k = 32 ∨ byteAt s k = 9 then 1 else if byteAt s k = 35 ∨ byteAt s k = 10 then 2 else 0) := hidR (by unfold kdS; rw [if_neg he])
  revert HV hb
  generalize byteAt s k = c
  generalize kdS s k = v
  intro hb HV
  clear hk
  by_cases c1 : c = 32
  · have HF : Hid (v = 1) := hidR (by rw [HV.out, if_pos (.inl c1)])
    subst c1
    go_enter Try.func73, Try.ntmps73
    go_wp2
    go_ret
    exact ⟨by rw [HF.out]; rfl, rfl⟩
  have d1 : (c == 32) = false := by simpa using c1
  by_cases c2 : c = 9
  · have HF : Hid (v = 1) := hidR (by rw [HV.out, if_pos (.inr c2)])
    subst c2
    go_enter Try.func73, Try.ntmps73
    go_wp2
    go_ret
    exact ⟨by rw [HF.out]; rfl, rfl⟩
  have d2 : (c == 9) = false := by simpa using c2
  by_cases c3 : c = 35
  · have HF : Hid (v = 2) := hidR (by rw [HV.out, if_neg (by omega), if_pos (.inl c3)])
    subst c3
    go_enter Try.func73, Try.ntmps73
    go_wp2
    go_ret
    exact ⟨by rw [HF.out]; rfl, rfl⟩
  have d3 : (c == 35) = false := by simpa using c3
  by_cases c4 : c = 10
  · have HF : Hid (v = 2) := hidR (by rw [HV.out, if_neg (by omega), if_pos (.inr c4)])
    subst c4
    go_enter Try.func73, Try.ntmps73
    go_wp2
    go_ret
    exact ⟨by rw [HF.out]; rfl, rfl⟩
  have d4 : (c == 10) = false := by simpa using c4
  have HF : Hid (v = 0) := hidR (by rw [HV.out, if_neg (by omega), if_neg (by omega)])
  clear c1 c2 c3 c4
  go_enter Try.func73, Try.ntmps73
  go_wp2
  go_ret
  exact ⟨by rw [HF.out]; rfl, rfl⟩
set_option maxRecDepth 20000 in
set_option maxHeartbeats 4000000 in
theorem toWord_any (ln st : Int) (k0 : Nat) (w : World) (h : RdV w R F s (k0 : Int) ln st) (hk0 : k0 ≤ s.size) (hs : s.size ≤ 1000000000) :
    Calls Try.prog 59 #[.pointer (some ⟨R, 0, none⟩)] w fun e w' => e = .returned (.bool (decide (kdS s (skS s k0) = 0))) ∧ RdV w' R F s (skS s k0 : Nat) ln st ∧ Bo R w w' := by
  go_enter Try.func59, Try.ntmps59
  go_wp2_with fail
  refine scope_again 0 (fun a' W => ∃ (k : Nat) (x3 x4 x5 x6 x7 x8 x9 x10 x11 x12 x13 x14 x15 x16 x17 x18 x19 : Value), a' = { tmps := #[.pointer (some ⟨R, 0, none⟩), undef, .bool false, x3, x4, x5, x6, x7, x8, x9, x10, x11, x12, x13, x14, x15, x16, x17, x18, x19], defers := [] } ∧ Hid (k ≤ s.size ∧ skS s k = skS s k0 ∧ RdV W R F s (k : Int) ln st ∧ Bo R w W)) (fun _ W => s.size - (intOf ((W.cell? ⟨R, 2, none⟩).getD undef)).toNat) (by rfl) ?first ?pass
  case first => exact ⟨k0, _, _, _, _, _, _, _, _, _, _, _, _, _, _, _, _, _, rfl, hidR ⟨hk0, rfl, h, Bt.refl _ _⟩⟩
  case pass =>
    clear h
    rintro a' W ⟨k, x3, x4, x5, x6, x7, x8, x9, x10, x11, x12, x13, x14, x15, x16, x17, x18, x19, rfl, HI⟩
    obtain ⟨hk, -, hR, -⟩ := HI.out
    have KK := kind5_any R F s (k : Int) ln st k W hR hk hs
    obtain ⟨-, -, r2, -, -⟩ := hR.cells
    have f2 := hR.free 2
    have hv := kdS_ways s k
    have HG : Hid (kdS s k = 1 → k + 1 ≤ s.size ∧ skS s (k + 1) = skS s k0) := hidR (fun q => ⟨by have := kdS_in (s := s) (k := k) (by omega) hk; omega, by rw [← skS_go hk q]; exact HI.out.2.1⟩)
    have HH : Hid (¬ kdS s k = 1 → skS s k0 = k) := hidR (fun q => by rw [← HI.out.2.1, skS_here q])
    have HR := hidR hR
    have HM : Hid (s.size - (intOf ((W.cell? ⟨R, 2, none⟩).getD undef)).toNat = s.size - k) := hidR (by rw [r2]; rfl)
    have HZ : Hid (¬ kdS s k = 1 → decide (kdS s (skS s k0) = 0) = decide (kdS s k = 0)) := hidR (fun q => by rw [HH.out q])
    rw [HM.out]
    clear hR HM
    revert KK hv HG HH HZ
    generalize kdS s k = v
    intro KK hv HG HH HZ
    have wk : IntKind.i64.wrap ((k : Int) + 1) = ((k + 1 : Nat) : Int) := by rw [IntKind.wrap_i64]; push_cast; omega
    go_wp2_with fail
    refine KK.mono ?_
    rintro e W' ⟨rfl, rfl⟩
    clear KK
    rcases hv with rfl | rfl | rfl
    · have hz := HZ.out (by omega)
      have hh := HH.out (by omega)
      clear HG HH HZ wk
      go_wp2
      refine jump_ret ?_
      exact bodyPost_ret (v := .bool true) (by simp [results, Try.results59, go_sem]) rfl ⟨by rw [hz]; rfl, by rw [hh]; exact HR.out, HI.out.2.2.2⟩
    · have hg := HG.out rfl
      have HJ := hidR (⟨hg.1, hg.2, HR.out.setA ((k + 1 : Nat) : Int), HI.out.2.2.2.set 2 _⟩ : k + 1 ≤ s.size ∧ skS s (k + 1) = skS s k0 ∧ RdV (W'.setCell ⟨R, 2, none⟩ (.int .i64 ((k + 1 : Nat) : Int))) R F s ((k + 1 : Nat) : Int) ln st ∧ Bo R w (W'.setCell ⟨R, 2, none⟩ (.int .i64 ((k + 1 : Nat) : Int))))
      clear HG HH HZ hg
      go_wp2
      refine wp_goto ?_
      refine And.intro rfl (And.intro ⟨k + 1, _, _, _, _, _, _, _, _, _, _, _, _, _, _, _, _, _, rfl, HJ⟩ ?_)
      have c := HJ.out.2.2.1.cells.2.2.1
      have := HJ.out.1
      show s.size - (intOf (((W'.setCell ⟨R, 2, none⟩ (.int .i64 ((k : Int) + 1))).cell? ⟨R, 2, none⟩).getD undef)).toNat < s.size - k
      rw [show ((k : Int) + 1) = ((k + 1 : Nat) : Int) by push_cast; rfl, c]
      simp [intOf]; omega
    · have hz := HZ.out (by omega)
      have hh := HH.out (by omega)
      clear HG HH HZ wk
      go_wp2
      refine jump_ret ?_
      exact bodyPost_ret (v := .bool false) (by simp [results, Try.results59, go_sem]) rfl ⟨by rw [hz]; rfl, by rw [hh]; exact HR.out, HI.out.2.2.2⟩
end
end Go.Proofs.Ytnaghiipfgdimaa
/-
  Plain: routes put in order one by one.
-/
namespace Go.Proofs.Ytnaghiipfgdimaa
open Go.RowKit
set_option linter.unusedSimpArgs false
set_option linter.unusedVariables false

def cmR (x y : Rte) : Int := pcmpZ x.1.1 x.1.2 y.1.1 y.1.2
/-- One more route laid into a list in order, its end first. -/
def revIns : List Rte → Rte → List Rte
  | [], x => [x]
  | y :: P, x => if cmR x y < 0 then y :: revIns P x else x :: y :: P
def isrt (M : List Rte) : List Rte := (M.foldl revIns []).reverse
theorem revIns_len : ∀ (P : List Rte) (x : Rte), (revIns P x).length = P.length + 1
  | [], x => rfl
  | y :: P, x => by
    unfold revIns
    split
    · simp [revIns_len P x]
    · simp
theorem foldl_len : ∀ (M : List Rte) (P : List Rte), (M.foldl revIns P).length = P.length + M.length
  | [], P => rfl
  | x :: M, P => by rw [List.foldl_cons, foldl_len M, revIns_len]; simp; omega
theorem rowR_set : ∀ (D : List Rte) (j : Nat) (r : Rte), j < D.length → rowR (D.set j r) = ((((rowR D).set (j * 4) (.int .u64 (hI r.1.1))).set (j * 4 + 1) (.int .u64 (lI r.1.1))).set (j * 4 + 2) (.int .i64 r.1.2)).set (j * 4 + 3) (.int .i64 r.2)
  | [], j, r, h => by simp at h
  | q :: D, 0, r, h => by simp [rowR]
  | q :: D, j + 1, r, h => by
    have ih := rowR_set D j r (by simpa using h)
    rw [List.set_cons_succ, rowR, ih, rowR, show (j + 1) * 4 = j * 4 + 4 by omega, show j * 4 + 4 + 1 = j * 4 + 1 + 4 by omega, show j * 4 + 4 + 2 = j * 4 + 2 + 4 by omega, show j * 4 + 4 + 3 = j * 4 + 3 + 4 by omega]
    simp
theorem swap_mid (y x : Rte) (T : List Rte) : ∀ (Q : List Rte), (((Q ++ [y]) ++ x :: T).set (Q.length + 1) y).set Q.length x = Q ++ x :: y :: T
  | [] => rfl
  | q :: Q => by
    have ih := swap_mid y x T Q
    simp only [List.cons_append, List.length_cons, List.set_cons_succ] at ih ⊢
    rw [ih]
/-- A row of routes that is one's own. -/
def RwO (W : World) (base g c n : Nat) (D : List Rte) : Prop := D.length = n ∧ W.ownsRow base 45 4 (.slice (some ⟨g, 0, none⟩) n c) n (rowR D)
section
variable {W W' : World} {base g c n : Nat} {D : List Rte}
theorem RwO.cells (h : RwO W base g c n D) {j : Nat} {r : Rte} (hj : D[j]? = some r) : W.cell? ⟨g, j * 4, none⟩ = some (.int .u64 (hI r.1.1)) ∧ W.cell? ⟨g, j * 4 + 1, none⟩ = some (.int .u64 (lI r.1.1)) ∧ W.cell? ⟨g, j * 4 + 2, none⟩ = some (.int .i64 r.1.2) ∧ W.cell? ⟨g, j * 4 + 3, none⟩ = some (.int .i64 r.2) := by
  obtain ⟨hl, e⟩ := List.getElem?_eq_some_iff.mp hj
  obtain ⟨a, b, c', d⟩ := rowR_get D j hl
  rw [e] at a b c' d
  have f := fun j u hj => h.2.cells (g := g) rfl j u hj
  have ad : ∀ j, (⟨g, 0, none⟩ : Addr).add j = ⟨g, j, none⟩ := fun j => by rw [addA, Nat.zero_add]
  exact ⟨by have := f _ _ a; rwa [ad] at this, by have := f _ _ b; rwa [ad] at this, by have := f _ _ c'; rwa [ad] at this, by have := f _ _ d; rwa [ad] at this⟩
theorem RwO.free (h : RwO W base g c n D) {j : Nat} (hj : j < n * 4) : W.frozen? ⟨g, j, none⟩ = false := (own_any h.2 j hj).2
theorem RwO.heap (h : RwO W base g c n D) (e : W'.heap[g]? = W.heap[g]?) : RwO W' base g c n D := ⟨h.1, own_heap h.2 (fun z q => by simp [Value.ownBlock] at q; subst q; exact e)⟩
theorem RwO.lt (h : RwO W base g c n D) : g < W.heap.size ∧ base ≤ g := ⟨(h.2.lt g rfl).2, (h.2.lt g rfl).1⟩
theorem RwO.below (h : RwO W base g c n D) (hb : Below W.heap.size W W') : RwO W' base g c n D := h.heap (hb.block g h.lt.1)
theorem RwO.set (h : RwO W base g c n D) {j : Nat} (hj : j < n) (r : Rte) : RwO ((((W.setCell ⟨g, j * 4, none⟩ (.int .u64 (hI r.1.1))).setCell ⟨g, j * 4 + 1, none⟩ (.int .u64 (lI r.1.1))).setCell ⟨g, j * 4 + 2, none⟩ (.int .i64 r.1.2)).setCell ⟨g, j * 4 + 3, none⟩ (.int .i64 r.2)) base g c n (D.set j r) := by
  refine ⟨by rw [List.length_set]; exact h.1, ?_⟩
  rw [rowR_set D j r (by rw [h.1]; exact hj)]
  exact ((((h.2.stored _ _).1.stored _ _).1.stored _ _).1.stored _ _).1
end
end Go.Proofs.Ytnaghiipfgdimaa
/-
  A region that draws its order and has two special operations, the second of which waits for the first: it makes a block, and fills it; what is read alone may come at any time.
-/
namespace Go.Proofs.Ytnaghiipfgdimaa
open Go.RowKit
set_option linter.unusedSimpArgs false
set_option linter.unusedVariables false

section
variable {P : Program}
/-- The walk's list and the region's: alike but for the operations themselves at some places. -/
structure Sim (b l : List Oper) (m : Nat) (E : Nat → Bool) : Prop where
  len : b.length = m
  same : ∀ i, i < m → ∀ o, l[i]? = some o → ∃ o', b[i]? = some o' ∧ o'.dst = o.dst ∧ o'.after = o.after ∧ o'.guard = o.guard ∧ (E i = false → o' = o)
theorem Sim.get {b l : List Oper} {m : Nat} {E : Nat → Bool} (h : Sim b l m E) (hml : m ≤ l.length) (i : Nat) (o' : Oper) (hi : b[i]? = some o') : i < m ∧ ∃ o, l[i]? = some o ∧ o'.dst = o.dst ∧ o'.after = o.after ∧ o'.guard = o.guard := by
  have him : i < m := by rw [← h.len]; exact (List.getElem?_eq_some_iff.mp hi).1
  have hl : i < l.length := by omega
  obtain ⟨o2, q1, q2, q3, q4, -⟩ := h.same i him l[i] (by simp [hl])
  rw [hi] at q1
  have := Option.some.inj q1
  subst this
  exact ⟨him, l[i], by simp [hl], q2, q3, q4⟩
theorem Sim.yield {b l : List Oper} {m : Nat} {E : Nat → Bool} (h : Sim b l m E) (hml : m ≤ l.length) (tmps : Array Value) (k : Nat) (hk : k < m) : yielded b.toArray tmps k = yielded l.toArray tmps k := by
  have hl : k < l.length := by omega
  obtain ⟨o2, q1, q2, -, -, -⟩ := h.same k hk l[k] (by simp [hl])
  unfold yielded
  simp only [List.getElem?_toArray, q1, List.getElem?_eq_getElem hl, Option.bind_some, q2]
theorem Sim.wanted {b l : List Oper} {m : Nat} {E : Nat → Bool} (h : Sim b l m E) (hml : m ≤ l.length) (a : Act) (o : Oper) (hlt : ∀ k c, o.guard = some (k, c) → k < m) : Region.wanted o (yielded b.toArray a.tmps) = Region.wanted o (yielded l.toArray a.tmps) := by
  unfold Region.wanted
  cases e : o.guard with
  | none => rfl
  | some kb =>
    obtain ⟨k, c⟩ := kb
    simp only
    rw [h.yield hml a.tmps k (hlt k c e)]
theorem Sim.ready {b l : List Oper} {m : Nat} {E : Nat → Bool} (h : Sim b l m E) (hml : m ≤ l.length) (hw : waitB l m = true) (lp : Array Bool) (hs : lp.size = m) (f : Nat) (hu : unl lp = f + 1) (i : Nat)
    (hi : i ∈ Region.ready .any l.toArray (lp ++ Array.replicate (l.length - m) false)) : i < m ∧ i ∈ Region.ready .any b.toArray lp := by
  obtain ⟨him, -⟩ := ready_pre l m m undef hml hw lp hs f hu i hi
  obtain ⟨hun, o, ho, hall⟩ := mem_ready.1 hi
  obtain ⟨o', q1, q2, q3, q4, -⟩ := h.same i him o (by simpa using ho)
  refine ⟨him, mem_ready.2 ⟨by rw [get_app_lt lp _ i (by omega)] at hun; exact hun, o', by simpa using q1, fun e he hb => ?_⟩⟩
  rw [q3] at he
  have := hall e he hb
  rwa [get_app_false] at this
theorem getD_no {lp : Array Bool} {k : Nat} (h1 : lp.getD k true = false) (h2 : lp.getD k false = true) : False := by
  rw [Array.getD_eq_getD_getElem?] at h1 h2
  cases z : lp[k]? with
  | none => rw [z] at h1; simp at h1
  | some b => rw [z] at h1 h2; simp at h1 h2; rw [h2] at h1; cases h1
theorem gdone {l : List Oper} {m j : Nat} (ok : QpOk l m j) {b : List Oper} {E : Nat → Bool} (sim : Sim b l m E) {C : World → Prop} {A : Act} {Q : Exit → Act → World → Prop}
    (hpost : ∀ w, C w → wpList P l.toArray Q (l.drop m) A w) : ∀ (fuel : Nat) (lp : Array Bool) (a : Act) (w : World), lp.size = m → unl lp = fuel → (∀ i, E i = true → lp.getD i false = true) → C w →
      wpAnyQ P .any b.toArray C (fun a' => a' = A) fuel lp a → wpAny P .any l.toArray Q (fuel + (l.length - m)) (lp ++ Array.replicate (l.length - m) false) a w := by
  intro fuel
  induction fuel with
  | zero =>
    intro lp a w hs hu hj hC h
    rw [h.2, unl_zero lp hu, hs, Nat.zero_add, show l.length - m = (l.drop m).length by simp]
    refine any_seq (l.drop m) m _ A w (fun i => by simp) ?_ (hpost w hC)
    have := ok.seq
    rwa [show l.length - m = (l.drop m).length by simp] at this
  | succ fuel ih =>
    intro lp a w hs hu hj hC h
    rw [show fuel + 1 + (l.length - m) = (fuel + (l.length - m)) + 1 by omega]
    refine ⟨fun e => ?_, fun i hi => ?_⟩
    · obtain ⟨k, hk, hf⟩ := unl_some lp fuel hu
      exact absurd e (some_ready ok lp hs k (by omega) hf)
    · obtain ⟨him, hir⟩ := sim.ready ok.ml ok.wait lp hs fuel hu i hi
      obtain ⟨hun, _⟩ := mem_ready.1 hir
      have hE : E i = false := by
        cases q : E i
        · rfl
        · exact (getD_no hun (hj i q)).elim
      obtain ⟨_, o, ho, _⟩ := mem_ready.1 hi
      have ho' : l[i]? = some o := by simpa using ho
      obtain ⟨o2, q1, -, -, -, q5⟩ := sim.same i him o ho'
      obtain rfl := q5 hE
      obtain ⟨v, hy, hK⟩ := yieldsIn_of_qOp (by simpa using q1) (h.2 i hir)
      refine wp_of_yields ho (sim.wanted ok.ml a o2 (ok.guards i o2 ho')) hy hC (fun w' hw' => ?_)
      rw [set_app lp _ i (by omega)]
      exact ih _ _ w' (by simp [hs]) (by have := unl_set lp i hun; omega) (fun k hk => getD_set_true (hj k hk)) hw' hK
theorem gpend {l : List Oper} {m j : Nat} {oj : Oper} (ok : AlOk l m j oj) {b : Nat → List Oper} {E : Nat → Bool} (sim : ∀ N, Sim (b N) l m E) {D : World → Prop} {C1 : Nat → World → Prop} {Cs : Nat → (World → Prop) → Prop} {A : Nat → Act} {val : Nat → Value} {rd : List Nat} {Q : Exit → Act → World → Prop} (Inv : Array Bool → Prop) (hInv : ∀ lp i, Inv lp → (E i = false ∨ i = j) → Inv (lp.setIfInBounds i true))
    (hE : E j = true) (hA : ∀ (i : Nat) o s N, l[i]? = some o → i < m → E i = false → o.dst = some s → (A N).tmps[s]? = (A 0).tmps[s]?) (hAj : ∀ s N, oj.dst = some s → s < (A N).tmps.size → (A N).tmps[s]? = some (val N))
    (hrd : ∀ s ∈ rd, ∀ (k : Nat) o, l[k]? = some o → k < m → o.dst = some s → ∃ e ∈ oj.after, Region.binds .any e = true ∧ e.on = k)
    (hal : ∀ w (a : Act), D w → (∀ s ∈ rd, a.tmps[s]? = (A 0).tmps[s]?) → ∀ (K : Act → World → Prop) Q', (∀ N w', C1 N w' → K (a.put oj.dst (val N)) w') → oj.wp P a w K Q')
    (hgo : ∀ N fuel lp a w, lp.size = m → unl lp = fuel → lp.getD j false = true → Inv lp → (A N).tmps.size = a.tmps.size → C1 N w →
      (∀ X, Cs N X → wpAnyQ P .any (b N).toArray X (fun a' => a' = A N) fuel lp a) → wpAny P .any l.toArray Q (fuel + (l.length - m)) (lp ++ Array.replicate (l.length - m) false) a w) :
    ∀ (fuel : Nat) (lp : Array Bool) (a : Act) (w : World), lp.size = m → unl lp = fuel → lp.getD j true = false → Inv lp → (∀ i, E i = true → i ≠ j → lp.getD i false = true ∨ ∃ o, l[i]? = some o ∧ ∃ e ∈ o.after, Region.binds .any e = true ∧ e.on = j) → D w →
      (∀ N X, Cs N X → wpAnyQ P .any (b N).toArray X (fun a' => a' = A N) fuel lp a) → (∀ N, wpAnyQ P .any (b N).toArray D (fun a' => a' = A N) fuel lp a) →
      (∀ N, (A N).tmps.size = a.tmps.size) → wpAny P .any l.toArray Q (fuel + (l.length - m)) (lp ++ Array.replicate (l.length - m) false) a w := by
  intro fuel
  induction fuel with
  | zero =>
    intro lp a w hs hu hj
    exfalso
    have e := unl_zero lp hu
    rw [e, Array.getD_eq_getD_getElem?] at hj
    have := ok.jm
    simp [show j < lp.size by omega] at hj
  | succ fuel ih =>
    intro lp a w hs hu hj hI hoth hD h1 h0 hsz
    rw [show fuel + 1 + (l.length - m) = (fuel + (l.length - m)) + 1 by omega]
    refine ⟨fun e => absurd e (some_ready ok.toQpOk lp hs j ok.jm hj), fun i hi => ?_⟩
    obtain ⟨him, -⟩ := (sim 0).ready ok.ml ok.wait lp hs fuel hu i hi
    have hir := fun N => ((sim N).ready ok.ml ok.wait lp hs fuel hu i hi).2
    obtain ⟨hun, _⟩ := mem_ready.1 (hir 0)
    obtain ⟨_, o, ho, hall⟩ := mem_ready.1 hi
    have ho' : l[i]? = some o := by simpa using ho
    -- a slot that is written now is not written any more
    have later : ∀ N s, o.dst = some s → ∀ k ok', (b N).toArray[k]? = some ok' → (lp.setIfInBounds i true).getD k true = false → ok'.dst ≠ some s := by
      intro N s hs' k ok' hk hl e
      obtain ⟨hkm, o2, q1, q2, -, -⟩ := (sim N).get ok.ml k ok' (by simpa using hk)
      have := ok.dst k i o2 o s q1 ho' hkm him (by rw [← q2]; exact e) hs'
      subst this
      rw [Array.getD_eq_getD_getElem?] at hl
      simp [show k < lp.size by omega] at hl
    by_cases hij : i = j
    · subst hij
      obtain rfl : o = oj := by rw [ok.here] at ho'; exact (Option.some.inj ho').symm
      unfold wpOp
      simp only [ho]
      rw [if_pos (by unfold Region.wanted; rw [ok.guard])]
      refine .inl ?_
      refine hal w a hD ?_ _ _ ?_
      · intro s hsr
        refine (q_fin _ _ _ (h0 0) s ?_).symm
        intro k ok' hk hl e
        obtain ⟨hkm, o2, q1, q2, -, -⟩ := (sim 0).get ok.ml k ok' (by simpa using hk)
        obtain ⟨e', he', hb', hon⟩ := hrd s hsr k o2 q1 hkm (by rw [← q2]; exact e)
        have h3 := hall e' he' hb'
        rw [hon, get_app_false] at h3
        exact getD_no hl h3
      · intro N w' hC
        rw [set_app lp _ i (by omega)]
        refine hgo N fuel _ _ w' (by simp [hs]) (by have := unl_set lp i hun; omega) (by
          rw [Array.getD_eq_getD_getElem?]
          simp [show i < lp.size by omega]) (hInv lp i hI (.inr rfl)) (by rw [hsz N, put_size]) hC ?_
        intro X hX
        obtain ⟨o2, q1, q2, -, -, -⟩ := (sim N).same i him o ho'
        obtain ⟨v, hy, hK⟩ := yieldsIn_of_qOp (by simpa using q1) ((h1 N X hX).2 i (hir N))
        rw [q2] at hK
        have e : a.put o.dst v = a.put o.dst (val N) := put_same fun s hs' => by
          have f := q_fin _ _ _ hK s (later N s hs')
          rw [← f]
          by_cases c : s < a.tmps.size
          · rw [hAj s N hs' (by rw [hsz N]; exact c), hs']
            simp [Act.put, Array.getElem?_setIfInBounds, c]
          · have c' : a.tmps.size ≤ s := Nat.le_of_not_lt c
            rw [Array.getElem?_eq_none (by rw [hsz N]; exact c'), Array.getElem?_eq_none (by rw [put_size]; exact c')]
        rwa [e] at hK
    · have hEi : E i = false := by
        cases q : E i
        · rfl
        · rcases hoth i q hij with z | ⟨o2, z1, e, z2, z3, z4⟩
          · exact (getD_no hun z).elim
          · rw [ho'] at z1
            have := Option.some.inj z1
            subst this
            have h3 := hall e z2 z3
            rw [z4, get_app_false] at h3
            exact (getD_no hj h3).elim
      have hor : ∀ N, (b N).toArray[i]? = some o := fun N => by
        obtain ⟨o2, q1, -, -, -, q5⟩ := (sim N).same i him o ho'
        obtain rfl := q5 hEi
        simpa using q1
      obtain ⟨v0, hy0, hK0⟩ := yieldsIn_of_qOp (hor 0) ((h0 0).2 i (hir 0))
      have f0 : ∀ s, o.dst = some s → (A 0).tmps[s]? = (a.put o.dst v0).tmps[s]? := fun s hs' => q_fin _ _ _ hK0 s (later 0 s hs')
      have all0 : ∀ N, wpAnyQ P .any (b N).toArray D (fun a' => a' = A N) fuel (lp.setIfInBounds i true) (a.put o.dst v0) := by
        intro N
        obtain ⟨v, _, hK⟩ := yieldsIn_of_qOp (hor N) ((h0 N).2 i (hir N))
        have e : a.put o.dst v = a.put o.dst v0 := put_same fun s hs' => by
          rw [← f0 s hs', ← q_fin _ _ _ hK s (later N s hs')]
          exact hA i o s N ho' him hEi hs'
        rwa [e] at hK
      have all1 : ∀ N X, Cs N X → wpAnyQ P .any (b N).toArray X (fun a' => a' = A N) fuel (lp.setIfInBounds i true) (a.put o.dst v0) := by
        intro N X hX
        obtain ⟨v, _, hK⟩ := yieldsIn_of_qOp (hor N) ((h1 N X hX).2 i (hir N))
        have e : a.put o.dst v = a.put o.dst v0 := put_same fun s hs' => by
          rw [← f0 s hs', ← q_fin _ _ _ hK s (later N s hs')]
          exact hA i o s N ho' him hEi hs'
        rwa [e] at hK
      refine wp_of_yields ho ((sim 0).wanted ok.ml a o (ok.guards i o ho')) hy0 hD (fun w' hw' => ?_)
      rw [set_app lp _ i (by omega)]
      exact ih _ _ w' (by simp [hs]) (by have := unl_set lp i hun; omega) (by rw [getD_set_ne true hij]; exact hj) (hInv lp i hI (.inl hEi)) (fun k hk hne => (hoth k hk hne).imp (fun q => getD_set_true q) id) hw' all1 all0 (fun N => by rw [hsz N, put_size])
theorem putAll_size : ∀ (ds : List (Option Tmp)) (vs : List Value) (a : Act), (putAll a ds vs).tmps.size = a.tmps.size
  | [], _, a => by cases ‹List Value› <;> rfl
  | d :: ds, [], a => rfl
  | d :: ds, v :: vs, a => by
    show (putAll (a.put d v) ds vs).tmps.size = _
    rw [putAll_size ds vs, put_size]
theorem sim_two (l : List Oper) (m j j2 : Nat) (hml : m ≤ l.length) (u v : Value) : Sim (rep (rep (l.take m) j2 u) j v) l m (fun i => i == j || i == j2) := by
  refine ⟨by rw [rep_len, rep_len, List.length_take]; omega, fun i hi o ho => ?_⟩
  obtain ⟨o1, p1, p2, p3, p4⟩ := rep_of (l.take m) j2 u i o (by rw [List.getElem?_take, if_pos hi]; exact ho)
  obtain ⟨o2, q1, q2, q3, q4⟩ := rep_of (rep (l.take m) j2 u) j v i o1 p1
  refine ⟨o2, q1, by rw [q2, p2], by rw [q3, p3], by rw [q4, p4], fun hE => ?_⟩
  simp only [Bool.or_eq_false_iff, beq_eq_false_iff_ne] at hE
  rw [rep_ne _ _ _ _ hE.1, rep_ne _ _ _ _ hE.2, List.getElem?_take, if_pos hi, ho] at q1
  exact (Option.some.inj q1).symm
/-- One walk of the text's order: the region makes a block (operation j) and fills it (operation k, which waits for it). -/
theorem two_region {id : Nat} {l : List Oper} (m j k : Nat) {oj ok' : Oper} (ok : AlOk l m j oj) (ok2 : AlOk l m k ok') (hjk : j ≠ k) (hwt : ok'.after.any (fun e => Region.binds .any e && e.on == j) = true) (hd2 : ok'.dst = none)
    {D : World → Prop} {C1 C2 : Nat → World → Prop} {obj : Obj} {Q : Exit → Act → World → Prop} {a : Act} {w : World} (ds : List (Option Tmp)) (vals : Nat → List Value) (d : Nat) (rd : List Nat) (hm : P.follows .mixedOrders = true)
    (hlex : ∀ N, Region.lexB .any (rep (rep (l.take m) k undef) j (.pointer (some ⟨N, 0, none⟩))).toArray = true)
    (hd : oj.dst = some d) (hA : ∀ N, (putAll a ds (vals N)).tmps.toList.eraseIdx d = (putAll a ds (vals 0)).tmps.toList.eraseIdx d) (hAd : ∀ N, (putAll a ds (vals N)).tmps[d]? = some (.pointer (some ⟨N, 0, none⟩)))
    (hrd : readB l m ok' rd = true)
    (hal : ∀ w (a : Act), D w → (execOp a.eval oj).run P w = .ok (.value (.pointer (some ⟨w.heap.size, 0, none⟩))) (w.alloc obj)) (hC1 : ∀ w, D w → C1 w.heap.size (w.alloc obj))
    (hst : ∀ N w (a' : Act), C1 N w → (∀ s ∈ rd, a'.tmps[s]? = (putAll a ds (vals N)).tmps[s]?) → ∀ (K : Act → World → Prop) Q', (∀ w', C2 N w' → K a' w') → ok'.wp P a' w K Q')
    (hD : D w.drew)
    (hwalk : ∀ N (X : World → Prop), (X = D ∨ X = C1 N ∨ X = C2 N) → wpQuiet P (rep (rep (l.take m) k undef) j (.pointer (some ⟨N, 0, none⟩))).toArray X (fun a' => a' = putAll a ds (vals N)) (rep (rep (l.take m) k undef) j (.pointer (some ⟨N, 0, none⟩))) a)
    (hpost : ∀ N w, C2 N w → wpList P l.toArray Q (l.drop m) (putAll a ds (vals N)) w) : (Code.region id l.toArray true).wp P Q a w := by
  refine wp_region_any hm ?_
  have hml := ok.ml
  have any : ∀ N X, (X = D ∨ X = C1 N ∨ X = C2 N) → wpAnyQ P .any (rep (rep (l.take m) k undef) j (.pointer (some ⟨N, 0, none⟩))).toArray X (fun a' => a' = putAll a ds (vals N)) m (Array.replicate m false) a := by
    intro N X hX
    have hB := hlex N
    simp only [Region.lexB, Bool.and_eq_true] at hB
    have hlen : (rep (rep (l.take m) k undef) j (.pointer (some ⟨N, 0, none⟩))).length = m := by rw [rep_len, rep_len, List.length_take]; omega
    have := wpAnyQ_lex (C := X) (md := .any) hB.1 (rep (rep (l.take m) k undef) j (.pointer (some ⟨N, 0, none⟩))) 0 (Array.replicate m false) a (by simp) (by have := hB.2; simpa [hlen] using this) (hwalk N X hX)
    rwa [hlen] at this
  have hu : unl (Array.replicate m false) = m := by unfold unl; simp
  have hE : ∀ (i : Nat) o s N, l[i]? = some o → i < m → (i == j || i == k) = false → o.dst = some s → (putAll a ds (vals N)).tmps[s]? = (putAll a ds (vals 0)).tmps[s]? := fun i o s N ho hi he hs => by
    simp only [Bool.or_eq_false_iff, beq_eq_false_iff_ne] at he
    exact alA ok d hd hA i o s N ho hi he.1 hs
  obtain ⟨ew, hew1, hew2⟩ := Array.any_eq_true'.mp hwt
  simp only [Bool.and_eq_true, beq_iff_eq] at hew2
  have main := gpend (P := P) (Q := Q) ok (b := fun N => rep (rep (l.take m) k undef) j (.pointer (some ⟨N, 0, none⟩))) (E := fun i => i == j || i == k) (fun N => sim_two l m j k hml _ _) (D := D) (C1 := C1) (Cs := fun N X => X = C1 N ∨ X = C2 N) (A := fun N => putAll a ds (vals N)) (val := fun N => .pointer (some ⟨N, 0, none⟩)) (rd := [])
    (fun lp => lp.getD k true = false) (fun lp i h hi => by
      have : i ≠ k := by
        intro e
        rcases hi with q | q
        · simp [e] at q
        · exact hjk (by rw [← q, e])
      rw [getD_set_ne true this]; exact h)
    (by simp) hE (fun s N hs _ => by
      rw [hd] at hs
      cases hs
      exact hAd N) (fun s hs => by cases hs) (fun w a hw _ K Q' hK => by
        unfold Oper.wp
        rw [hal w a hw]
        simp only [Oper.upon]
        exact hK _ _ (hC1 w hw))
    (fun N fuel lp a1 w1 hs hu' hj hI hz hC hX =>
      gpend (P := P) (Q := Q) ok2 (b := fun _ => rep (rep (l.take m) k undef) j (.pointer (some ⟨N, 0, none⟩))) (E := fun i => i == j || i == k) (fun _ => sim_two l m j k hml _ _) (D := C1 N) (C1 := fun _ => C2 N) (Cs := fun _ X => X = C2 N) (A := fun _ => putAll a ds (vals N)) (val := fun _ => undef) (rd := rd)
        (fun lp => lp.getD j false = true) (fun lp i h _ => getD_set_true h) (by simp) (fun i o s N' _ _ _ _ => rfl) (fun s N' hs => by rw [hd2] at hs; cases hs) (read_of hrd)
        (fun w' a' hw hr K Q' hK => hst N w' a' hw hr K Q' (fun w2 h2 => by
          have := hK 0 w2 h2
          rw [hd2] at this
          exact this))
        (fun N' fuel lp a2 w2 hs hu hk hI hz hC hX => gdone ok.toQpOk (sim_two l m j k hml _ _) (fun w3 h3 => hpost N w3 h3) fuel lp a2 w2 hs hu (fun i hi => by
          simp only [Bool.or_eq_true, beq_iff_eq] at hi
          rcases hi with e | e
          · rw [e]; exact hI
          · rw [e]; exact hk) hC (hX _ rfl))
        fuel lp a1 w1 hs hu' hI hj (fun i hi hne => .inl (by
          have : i = j := by simpa [hne] using hi
          rw [this]; exact hj)) hC (fun _ X hX' => hX X (.inr hX')) (fun _ => hX _ (.inl rfl)) (fun _ => hz))
    m (Array.replicate m false) a w.drew (by simp) hu (by
      rw [Array.getD_eq_getD_getElem?]
      have := ok.jm
      simp [this]) (by
      rw [Array.getD_eq_getD_getElem?]
      have := ok2.jm
      simp [this]) (fun i hi hne => .inr ⟨ok', by
        have : i = k := by simpa [hne] using hi
        rw [this]; exact ok2.here, ew, hew1, hew2.1, hew2.2⟩) hD (fun N X hX => any N X (.inr hX)) (fun N => any N D (.inl rfl)) (fun N => putAll_size _ _ _)
  have e1 : m + (l.length - m) = l.toArray.size := by simp; omega
  have e2 : Array.replicate m false ++ Array.replicate (l.length - m) false = Array.replicate l.toArray.size false := by
    rw [Array.replicate_append_replicate]; congr 1
  rw [e1, e2] at main
  exact main
end
end Go.Proofs.Ytnaghiipfgdimaa
