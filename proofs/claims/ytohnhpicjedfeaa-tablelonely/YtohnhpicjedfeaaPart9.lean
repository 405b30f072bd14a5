/-
  Part 9 of the proof: 12 texts, one behind the other.
-/
import Derived.Test.YtohnhpicjedfeaaPart8
import Derived.Test.YtohnhpicjedfeaaPart4
import Derived.Test.YtohnhpicjedfeaaPart5
import Derived.Test.YtohnhpicjedfeaaPart3
import Derived.Test.YtohnhpicjedfeaaPart1
import Derived.Test.YtohnhpicjedfeaaPart2
import Derived.Deep.QuietTactic
import Derived.BigQuiet
import Derived.Test.YtohnhpicjedfeaaPart6
import Derived.Laws.IdiomStrings
namespace Go.Proofs.Ytohnhpicjedfeaa
open Go.RowKit
set_option linter.unusedSimpArgs false
set_option linter.unusedVariables false
attribute [local go_sem] Oper.semAt_some

theorem jump_ret {l : Nat} {J : Act → World → Prop} {Q : Exit → Act → World → Prop} {a : Act} {w : World} (h : Q .ret a w) : Exit.jump l J Q .ret a w := h
theorem scope_again {P : Program} {a : Act} {w : World} {Q : Exit → Act → World → Prop} {X : Code} (l : Nat) (J : Act → World → Prop) (μ : Act → World → Nat) (hf : findLabel ((Code.label l).seq X) l = some (Code.skip.seq X)) (hJ : J a w)
    (pass : ∀ a w, J a w → X.wp P (Exit.jump l (fun a' w' => J a' w' ∧ μ a' w' < μ a w) Q) a w) : (Code.scope ((Code.label l).seq X)).wp P Q a w :=
  wp_scope_jumps l J μ hf (wp_seq (wp_label (show X.wp P (Exit.jump l J Q) a w from fun b k cs => by
    obtain ⟨e, a', w', h, arr⟩ := pass a w hJ b k cs
    refine ⟨e, a', w', ?_, arr⟩
    cases e <;> first | exact h | exact ⟨h.1, h.2.1⟩))) (fun a w h => wp_seq (wp_skip (pass a w h)))
theorem at_blk {W : World} {z : Nat} {cs : Array Value} {T : TypeId} (hz : W.heap[z]? = some (.cells cs T)) (j : Nat) (u : Value) (hj : cs[j]? = some u) : W.cell? ⟨z, j, none⟩ = some u := by
  simp [World.cell?, hz, hj]
theorem fr_blk5 {W : World} {z j : Nat} {cs : Array Value} {T : TypeId} (h : W.heap[z]? = some (.cells cs T)) : W.frozen? ⟨z, j, none⟩ = false := by simp [World.frozen?, h]
theorem set_blk5 {W : World} {P o : Nat} {cs : Array Value} {T : TypeId} (h : W.heap[P]? = some (.cells cs T)) (v : Value) : (W.setCell ⟨P, o, none⟩ v).heap[P]? = some (.cells (cs.setIfInBounds o v) T) := by
  simp [World.setCell, Array.getElem?_modify, h]
theorem blk_lt5 {w : World} {z : Nat} {o : Obj} (hz : w.heap[z]? = some o) : z < w.heap.size := by
  apply Classical.byContradiction; intro q
  rw [Array.getElem?_eq_none (by omega)] at hz; cases hz
theorem scope_mid {P : Program} {a : Act} {w : World} {Q : Exit → Act → World → Prop} {A X : Code} (l : Nat) (J : Act → World → Prop) (μ : Act → World → Nat) (hf : findLabel (A.seq ((Code.label l).seq X)) l = some (Code.skip.seq X))
    (pre : A.wp P (Exit.then J (fun _ _ _ => False)) a w)
    (pass : ∀ a w, J a w → X.wp P (Exit.jump l (fun a' w' => J a' w' ∧ μ a' w' < μ a w) Q) a w) : (Code.scope (A.seq ((Code.label l).seq X))).wp P Q a w :=
  wp_scope_jumps l J μ hf (wp_seq (fun b k cs => by
    obtain ⟨e, a', w', h, arr⟩ := pre b k cs
    refine ⟨e, a', w', ?_, arr⟩
    cases e with
    | normal => exact wp_seq (wp_label (show X.wp P (Exit.jump l J Q) a' w' from fun b k cs => by
        obtain ⟨e, a2, w2, h2, arr2⟩ := pass a' w' h b k cs
        refine ⟨e, a2, w2, ?_, arr2⟩
        cases e <;> first | exact h2 | exact ⟨h2.1, h2.2.1⟩))
    | _ => exact h.elim)) (fun a w h => wp_seq (wp_skip (pass a w h)))
def RdV (W : World) (R : Nat) (F : Int) (s : ByteArray) (a ln st : Int) : Prop := W.heap[R]? = some (.cells #[.int .i64 F, .string s, .int .i64 a, .int .i64 ln, .int .i64 st] 74)
section
variable {W W' : World} {R : Nat} {F : Int} {s : ByteArray} {a ln st : Int}
theorem RdV.cells (h : RdV W R F s a ln st) : W.cell? ⟨R, 0, none⟩ = some (.int .i64 F) ∧ W.cell? ⟨R, 1, none⟩ = some (.string s) ∧ W.cell? ⟨R, 2, none⟩ = some (.int .i64 a) ∧ W.cell? ⟨R, 3, none⟩ = some (.int .i64 ln) ∧ W.cell? ⟨R, 4, none⟩ = some (.int .i64 st) := ⟨at_blk h 0 _ rfl, at_blk h 1 _ rfl, at_blk h 2 _ rfl, at_blk h 3 _ rfl, at_blk h 4 _ rfl⟩
theorem RdV.free (h : RdV W R F s a ln st) (j : Nat) : W.frozen? ⟨R, j, none⟩ = false := fr_blk5 h
theorem RdV.lt (h : RdV W R F s a ln st) : R < W.heap.size := blk_lt5 h
theorem RdV.setA (h : RdV W R F s a ln st) (b : Int) : RdV (W.setCell ⟨R, 2, none⟩ (.int .i64 b)) R F s b ln st := by simpa [RdV] using set_blk5 (o := 2) h (.int .i64 b)
theorem RdV.setL (h : RdV W R F s a ln st) (b : Int) : RdV (W.setCell ⟨R, 3, none⟩ (.int .i64 b)) R F s a b st := by simpa [RdV] using set_blk5 (o := 3) h (.int .i64 b)
theorem RdV.setS (h : RdV W R F s a ln st) (b : Int) : RdV (W.setCell ⟨R, 4, none⟩ (.int .i64 b)) R F s a ln b := by simpa [RdV] using set_blk5 (o := 4) h (.int .i64 b)
theorem RdV.below (h : RdV W R F s a ln st) (hb : Below W.heap.size W W') : RdV W' R F s a ln st := (hb.block R h.lt).trans h
end
theorem Bt.trans {M : Nat → Prop} {V W X : World} (h : Bt M V W) (g : Bt M W X) : Bt M V X := ⟨by rw [g.os, h.os], by rw [g.tape, h.tape], by rw [g.output, h.output], Nat.le_trans h.size g.size, fun z h1 h2 => by rw [g.blk z (by have := h.size; omega) h2, h.blk z h1 h2]⟩
theorem Bt.ofB {M : Nat → Prop} {V W : World} (h : Below V.heap.size V W) : Bt M V W := (Bt.refl M V).below h (Nat.le_refl _)
abbrev Bo (R : Nat) : World → World → Prop := Bt (fun z => z = R)
theorem Bo.set {R : Nat} {V W : World} (h : Bo R V W) (o : Nat) (u : Value) : Bo R V (W.setCell ⟨R, o, none⟩ u) := Bt.set h (.inl rfl) o u
theorem Bo.low {R n : Nat} {w V W : World} (h : Bo R V W) (hb : Below n w V) (hR : n ≤ R) (hn : n ≤ w.heap.size) : Below n w W := ⟨by rw [h.os, hb.os], by rw [h.tape, hb.tape], by rw [h.output, hb.output], Nat.le_trans hb.size h.size, fun z hz => by rw [h.blk z (by have := hb.size; omega) (by omega), hb.block z hz]⟩
section
variable (R : Nat) (F : Int) (s : ByteArray)
set_option maxHeartbeats 2000000 in
theorem kind5_any (a ln st : Int) (k : Nat) (w : World) (h : RdV w R F s a ln st) (hk : k ≤ s.size) (hs : s.size ≤ 1000000000) :
    Calls Try.prog 63 #[.pointer (some ⟨R, 0, none⟩), .int .i64 (k : Int)] w fun e w' => e = .returned (.int .i64 (kdS s k)) ∧ w' = w := by
  obtain ⟨-, r1, -, -, -⟩ := h.cells
  clear h
  by_cases he : k = s.size
  · subst he
    rw [kdS_end]
    go_enter Try.func63, Try.ntmps63
    go_wp2
    go_ret
    exact ⟨rfl, rfl⟩
  have hlt : k < s.size := by omega
  have hk2 : (k : Int) < (s.size : Int) := by omega
  have hne : ((k : Int) == (s.size : Int)) = false := by rw [beq_eq_false_iff_ne]; omega
  have hb := byteAt_in s k hlt
  have HV : Hid (kdS s k = if byteAt s k = 32 ∨ byteAt s k = 9 then 1 else if byteAt s k = 35 ∨ byteAt s k = 10 then 2 else 0) := hidR (by unfold kdS; rw [if_neg he])
  revert HV hb
  generalize byteAt s k = c
  generalize kdS s k = v
  intro hb HV
  clear hk
  by_cases c1 : c = 32
  · have HF : Hid (v = 1) := hidR (by rw [HV.out, if_pos (.inl c1)])
    subst c1
    go_enter Try.func63, Try.ntmps63
    go_wp2
    go_ret
    exact ⟨by rw [HF.out]; rfl, rfl⟩
  have d1 : (c == 32) = false := by simpa using c1
  by_cases c2 : c = 9
  · have HF : Hid (v = 1) := hidR (by rw [HV.out, if_pos (.inr c2)])
    subst c2
    go_enter Try.func63, Try.ntmps63
    go_wp2
    go_ret
    exact ⟨by rw [HF.out]; rfl, rfl⟩
  have d2 : (c == 9) = false := by simpa using c2
  by_cases c3 : c = 35
  · have HF : Hid (v = 2) := hidR (by rw [HV.out, if_neg (by omega), if_pos (.inl c3)])
    subst c3
    go_enter Try.func63, Try.ntmps63
    go_wp2
    go_ret
    exact ⟨by rw [HF.out]; rfl, rfl⟩
  have d3 : (c == 35) = false := by simpa using c3
  by_cases c4 : c = 10
  · have HF : Hid (v = 2) := hidR (by rw [HV.out, if_neg (by omega), if_pos (.inr c4)])
    subst c4
    go_enter Try.func63, Try.ntmps63
    go_wp2
    go_ret
    exact ⟨by rw [HF.out]; rfl, rfl⟩
  have d4 : (c == 10) = false := by simpa using c4
  have HF : Hid (v = 0) := hidR (by rw [HV.out, if_neg (by omega), if_neg (by omega)])
  clear c1 c2 c3 c4
  go_enter Try.func63, Try.ntmps63
  go_wp2
  go_ret
  exact ⟨by rw [HF.out]; rfl, rfl⟩
set_option maxRecDepth 20000 in
set_option maxHeartbeats 4000000 in
theorem toWord_any (ln st : Int) (k0 : Nat) (w : World) (h : RdV w R F s (k0 : Int) ln st) (hk0 : k0 ≤ s.size) (hs : s.size ≤ 1000000000) :
    Calls Try.prog 48 #[.pointer (some ⟨R, 0, none⟩)] w fun e w' => e = .returned (.bool (decide (kdS s (skS s k0) = 0))) ∧ RdV w' R F s (skS s k0 : Nat) ln st ∧ Bo R w w' := by
  go_enter Try.func48, Try.ntmps48
  go_wp2_with fail
  refine scope_again 0 (fun a' W => ∃ (k : Nat) (x3 x4 x5 x6 x7 x8 x9 x10 x11 x12 x13 x14 x15 x16 x17 x18 x19 : Value), a' = { tmps := #[.pointer (some ⟨R, 0, none⟩), undef, .bool false, x3, x4, x5, x6, x7, x8, x9, x10, x11, x12, x13, x14, x15, x16, x17, x18, x19], defers := [] } ∧ Hid (k ≤ s.size ∧ skS s k = skS s k0 ∧ RdV W R F s (k : Int) ln st ∧ Bo R w W)) (fun _ W => s.size - (intOf ((W.cell? ⟨R, 2, none⟩).getD undef)).toNat) (by rfl) ?first ?pass
  case first => exact ⟨k0, _, _, _, _, _, _, _, _, _, _, _, _, _, _, _, _, _, rfl, hidR ⟨hk0, rfl, h, Bt.refl _ _⟩⟩
  case pass =>
    clear h
    rintro a' W ⟨k, x3, x4, x5, x6, x7, x8, x9, x10, x11, x12, x13, x14, x15, x16, x17, x18, x19, rfl, HI⟩
    obtain ⟨hk, -, hR, -⟩ := HI.out
    have KK := kind5_any R F s (k : Int) ln st k W hR hk hs
    obtain ⟨-, -, r2, -, -⟩ := hR.cells
    have f2 := hR.free 2
    have hv := kdS_ways s k
    have HG : Hid (kdS s k = 1 → k + 1 ≤ s.size ∧ skS s (k + 1) = skS s k0) := hidR (fun q => ⟨by have := kdS_in (s := s) (k := k) (by omega) hk; omega, by rw [← skS_go hk q]; exact HI.out.2.1⟩)
    have HH : Hid (¬ kdS s k = 1 → skS s k0 = k) := hidR (fun q => by rw [← HI.out.2.1, skS_here q])
    have HR := hidR hR
    have HM : Hid (s.size - (intOf ((W.cell? ⟨R, 2, none⟩).getD undef)).toNat = s.size - k) := hidR (by rw [r2]; rfl)
    have HZ : Hid (¬ kdS s k = 1 → decide (kdS s (skS s k0) = 0) = decide (kdS s k = 0)) := hidR (fun q => by rw [HH.out q])
    rw [HM.out]
    clear hR HM
    revert KK hv HG HH HZ
    generalize kdS s k = v
    intro KK hv HG HH HZ
    have wk : IntKind.i64.wrap ((k : Int) + 1) = ((k + 1 : Nat) : Int) := by rw [IntKind.wrap_i64]; push_cast; omega
    go_wp2_with fail
    refine KK.mono ?_
    rintro e W' ⟨rfl, rfl⟩
    clear KK
    rcases hv with rfl | rfl | rfl
    · have hz := HZ.out (by omega)
      have hh := HH.out (by omega)
      clear HG HH HZ wk
      go_wp2
      refine jump_ret ?_
      exact bodyPost_ret (v := .bool true) (by simp [results, Try.results48, go_sem]) rfl ⟨by rw [hz]; rfl, by rw [hh]; exact HR.out, HI.out.2.2.2⟩
    · have hg := HG.out rfl
      have HJ := hidR (⟨hg.1, hg.2, HR.out.setA ((k + 1 : Nat) : Int), HI.out.2.2.2.set 2 _⟩ : k + 1 ≤ s.size ∧ skS s (k + 1) = skS s k0 ∧ RdV (W'.setCell ⟨R, 2, none⟩ (.int .i64 ((k + 1 : Nat) : Int))) R F s ((k + 1 : Nat) : Int) ln st ∧ Bo R w (W'.setCell ⟨R, 2, none⟩ (.int .i64 ((k + 1 : Nat) : Int))))
      clear HG HH HZ hg
      go_wp2
      refine wp_goto ?_
      refine And.intro rfl (And.intro ⟨k + 1, _, _, _, _, _, _, _, _, _, _, _, _, _, _, _, _, _, rfl, HJ⟩ ?_)
      have c := HJ.out.2.2.1.cells.2.2.1
      have := HJ.out.1
      show s.size - (intOf (((W'.setCell ⟨R, 2, none⟩ (.int .i64 ((k : Int) + 1))).cell? ⟨R, 2, none⟩).getD undef)).toNat < s.size - k
      rw [show ((k : Int) + 1) = ((k + 1 : Nat) : Int) by push_cast; rfl, c]
      simp [intOf]; omega
    · have hz := HZ.out (by omega)
      have hh := HH.out (by omega)
      clear HG HH HZ wk
      go_wp2
      refine jump_ret ?_
      exact bodyPost_ret (v := .bool false) (by simp [results, Try.results48, go_sem]) rfl ⟨by rw [hz]; rfl, by rw [hh]; exact HR.out, HI.out.2.2.2⟩
end
end Go.Proofs.Ytohnhpicjedfeaa
namespace Go.Proofs.Ytohnhpicjedfeaa
open Go.RowKit
set_option linter.unusedSimpArgs false
set_option linter.unusedVariables false

def cmR (x y : Rte) : Int := pcmpZ x.1.1 x.1.2 y.1.1 y.1.2
def revIns : List Rte → Rte → List Rte
  | [], x => [x]
  | y :: P, x => if cmR x y < 0 then y :: revIns P x else x :: y :: P
def isrt (M : List Rte) : List Rte := (M.foldl revIns []).reverse
theorem revIns_len : ∀ (P : List Rte) (x : Rte), (revIns P x).length = P.length + 1
  | [], x => rfl
  | y :: P, x => by
    unfold revIns
    split
    · simp [revIns_len P x]
    · simp
theorem foldl_len : ∀ (M : List Rte) (P : List Rte), (M.foldl revIns P).length = P.length + M.length
  | [], P => rfl
  | x :: M, P => by rw [List.foldl_cons, foldl_len M, revIns_len]; simp; omega
theorem rowR_set : ∀ (D : List Rte) (j : Nat) (r : Rte), j < D.length → rowR (D.set j r) = ((((rowR D).set (j * 4) (.int .u64 (hI r.1.1))).set (j * 4 + 1) (.int .u64 (lI r.1.1))).set (j * 4 + 2) (.int .i64 r.1.2)).set (j * 4 + 3) (.int .i64 r.2)
  | [], j, r, h => by simp at h
  | q :: D, 0, r, h => by simp [rowR]
  | q :: D, j + 1, r, h => by
    have ih := rowR_set D j r (by simpa using h)
    rw [List.set_cons_succ, rowR, ih, rowR, show (j + 1) * 4 = j * 4 + 4 by omega, show j * 4 + 4 + 1 = j * 4 + 1 + 4 by omega, show j * 4 + 4 + 2 = j * 4 + 2 + 4 by omega, show j * 4 + 4 + 3 = j * 4 + 3 + 4 by omega]
    simp
theorem swap_mid (y x : Rte) (T : List Rte) : ∀ (Q : List Rte), (((Q ++ [y]) ++ x :: T).set (Q.length + 1) y).set Q.length x = Q ++ x :: y :: T
  | [] => rfl
  | q :: Q => by
    have ih := swap_mid y x T Q
    simp only [List.cons_append, List.length_cons, List.set_cons_succ] at ih ⊢
    rw [ih]
def RwO (W : World) (base g c n : Nat) (D : List Rte) : Prop := D.length = n ∧ W.ownsRow base 40 4 (.slice (some ⟨g, 0, none⟩) n c) n (rowR D)
section
variable {W W' : World} {base g c n : Nat} {D : List Rte}
theorem RwO.cells (h : RwO W base g c n D) {j : Nat} {r : Rte} (hj : D[j]? = some r) : W.cell? ⟨g, j * 4, none⟩ = some (.int .u64 (hI r.1.1)) ∧ W.cell? ⟨g, j * 4 + 1, none⟩ = some (.int .u64 (lI r.1.1)) ∧ W.cell? ⟨g, j * 4 + 2, none⟩ = some (.int .i64 r.1.2) ∧ W.cell? ⟨g, j * 4 + 3, none⟩ = some (.int .i64 r.2) := by
  obtain ⟨hl, e⟩ := List.getElem?_eq_some_iff.mp hj
  obtain ⟨a, b, c', d⟩ := rowR_get D j hl
  rw [e] at a b c' d
  have f := fun j u hj => h.2.cells (g := g) rfl j u hj
  have ad : ∀ j, (⟨g, 0, none⟩ : Addr).add j = ⟨g, j, none⟩ := fun j => by rw [addA, Nat.zero_add]
  exact ⟨by have := f _ _ a; rwa [ad] at this, by have := f _ _ b; rwa [ad] at this, by have := f _ _ c'; rwa [ad] at this, by have := f _ _ d; rwa [ad] at this⟩
theorem RwO.free (h : RwO W base g c n D) {j : Nat} (hj : j < n * 4) : W.frozen? ⟨g, j, none⟩ = false := (own_any h.2 j hj).2
theorem RwO.heap (h : RwO W base g c n D) (e : W'.heap[g]? = W.heap[g]?) : RwO W' base g c n D := ⟨h.1, own_heap h.2 (fun z q => by simp [Value.ownBlock] at q; subst q; exact e)⟩
theorem RwO.lt (h : RwO W base g c n D) : g < W.heap.size ∧ base ≤ g := ⟨(h.2.lt g rfl).2, (h.2.lt g rfl).1⟩
theorem RwO.below (h : RwO W base g c n D) (hb : Below W.heap.size W W') : RwO W' base g c n D := h.heap (hb.block g h.lt.1)
theorem RwO.set (h : RwO W base g c n D) {j : Nat} (hj : j < n) (r : Rte) : RwO ((((W.setCell ⟨g, j * 4, none⟩ (.int .u64 (hI r.1.1))).setCell ⟨g, j * 4 + 1, none⟩ (.int .u64 (lI r.1.1))).setCell ⟨g, j * 4 + 2, none⟩ (.int .i64 r.1.2)).setCell ⟨g, j * 4 + 3, none⟩ (.int .i64 r.2)) base g c n (D.set j r) := by
  refine ⟨by rw [List.length_set]; exact h.1, ?_⟩
  rw [rowR_set D j r (by rw [h.1]; exact hj)]
  exact ((((h.2.stored _ _).1.stored _ _).1.stored _ _).1.stored _ _).1
end
end Go.Proofs.Ytohnhpicjedfeaa
namespace Go.Proofs.Ytohnhpicjedfeaa
open Go.RowKit
set_option linter.unusedSimpArgs false
set_option linter.unusedVariables false

def fndO (y : BitVec 128) (m : Int) : List Rte → Option Int
  | [] => none
  | r :: l => if ((r.1.1 == y) && (r.1.2 == m)) = true then some r.2 else fndO y m l
end Go.Proofs.Ytohnhpicjedfeaa
namespace Go.Proofs.Ytohnhpicjedfeaa
open Go.RowKit
set_option linter.unusedSimpArgs false
set_option linter.unusedVariables false

theorem run_min3 {P : Program} (w : World) (ts : Array TypeId) (t : TypeId) (x y z : Int) :
    (Builtin.min_ ts t #[.int .i64 x, .int .i64 y, .int .i64 z]).run P w = .ok (.int .i64 (min (min x y) z)) w := by
  have e : ∀ x y : Int, (if y < x then y else x) = min x y := fun x y => by
    rw [Int.min_def]
    split <;> split <;> omega
  simp [Builtin.min_, Builtin.min2, e]
def meetN (x : BitVec 128) (n : Int) (y : BitVec 128) (m : Int) : Int := min (min n m) ((leadN (x ^^^ y) : Nat) : Int)
set_option maxHeartbeats 1000000 in
set_option maxRecDepth 20000 in
theorem pmeet_any (x : BitVec 128) (n : Int) (y : BitVec 128) (m : Int) (w : World) :
    Calls Try.prog 58 #[.agg #[.int .u64 (hI x), .int .u64 (lI x), .int .i64 n], .agg #[.int .u64 (hI y), .int .u64 (lI y), .int .i64 m]] w fun e w' => e = .returned (.agg #[.int .u64 (hI (cutW x (meetN x n y m))), .int .u64 (lI (cutW x (meetN x n y m))), .int .i64 (meetN x n y m)]) ∧ Below w.heap.size w w' := by
  have KC := fun w => wcommon_any x y w
  unfold meetN
  generalize ((leadN (x ^^^ y) : Nat) : Int) = l at *
  have KM := fun w => cut_any x (min (min n m) l) w
  revert KM
  generalize hv : min (min n m) l = v
  generalize cutW x v = c
  intro KM
  have hmin : ∀ (w : World) (ts : Array TypeId) (t : TypeId), (Builtin.min_ ts t #[.int .i64 n, .int .i64 m, .int .i64 l]).run Try.prog w = .ok (.int .i64 v) w := fun w ts t => by rw [run_min3, hv]
  clear hv
  have hbl := fun o p q => (bl3 w o p q).drew
  go_enter Try.func58, Try.ntmps58
  go_wp2
  go_region_held3 (fun w' => w'.cell? ⟨w.heap.size, 0, none⟩ = some (.int .u64 (hI x)) ∧ w'.cell? ⟨w.heap.size, 1, none⟩ = some (.int .u64 (lI x)) ∧ w'.cell? ⟨w.heap.size, 2, none⟩ = some (.int .i64 n) ∧ w'.cell? ⟨w.heap.size + 1, 0, none⟩ = some (.int .u64 (hI y)) ∧ w'.cell? ⟨w.heap.size + 1, 1, none⟩ = some (.int .u64 (lI y)) ∧ w'.cell? ⟨w.heap.size + 1, 2, none⟩ = some (.int .i64 m) ∧ w'.cell? ⟨w.heap.size + 1 + 1, 0, none⟩ = some (cv w' (w.heap.size + 1 + 1) 0) ∧ w'.cell? ⟨w.heap.size + 1 + 1, 1, none⟩ = some (cv w' (w.heap.size + 1 + 1) 1) ∧ w'.cell? ⟨w.heap.size + 1 + 1, 2, none⟩ = some (cv w' (w.heap.size + 1 + 1) 2) ∧ w'.frozen? ⟨w.heap.size + 1 + 1, 0, none⟩ = false ∧ w'.frozen? ⟨w.heap.size + 1 + 1, 1, none⟩ = false ∧ w'.frozen? ⟨w.heap.size + 1 + 1, 2, none⟩ = false ∧ Below w.heap.size w w')
    (first
      | (obtain ⟨k1, k2, k0, j1, j2, j0, k3, k4, k5, k6, k7, k8, k9⟩ := ‹_ ∧ _›; exact ⟨keepc hb2 k1, keepc hb2 k2, keepc hb2 k0, keepc hb2 j1, keepc hb2 j2, keepc hb2 j0, cv_of (keepc hb2 k3), cv_of (keepc hb2 k4), cv_of (keepc hb2 k5), keepf hb2 k3 k6, keepf hb2 k4 k7, keepf hb2 k5 k8, keepb hb2 k9⟩)
      | (obtain ⟨k1, k2, k0, j1, j2, j0, k3, k4, k5, k6, k7, k8, k9⟩ := ‹_ ∧ _›; exact ⟨keepc hb1 k1, keepc hb1 k2, keepc hb1 k0, keepc hb1 j1, keepc hb1 j2, keepc hb1 j0, cv_of (keepc hb1 k3), cv_of (keepc hb1 k4), cv_of (keepc hb1 k5), keepf hb1 k3 k6, keepf hb1 k4 k7, keepf hb1 k5 k8, keepb hb1 k9⟩)
      | (refine ⟨?_, ?_, ?_, ?_, ?_, ?_, cv_new ?_, cv_new ?_, cv_new ?_, ?_, ?_, ?_, ?_⟩ <;> first | (simp [go_sem, *]; done) | exact bset3 (by simp [*]) (by omega) _ _ _))
    (first | (go_at_call 73; refine (KC _).mono ?_; rintro e w1 ⟨rfl, hb1⟩) | (go_at_call 69; refine (KM _).mono ?_; rintro e w2 ⟨rfl, hb2⟩))
  obtain ⟨-, -, -, -, -, -, -, -, -, -, -, -, kB⟩ := ‹_ ∧ _›
  have e0 : w2.cell? ⟨w.heap.size + 1 + 1, 0, none⟩ = some (.int .u64 0) := keepc hb2 (keepc hb1 (by simp [go_sem]))
  have e1 : w2.cell? ⟨w.heap.size + 1 + 1, 1, none⟩ = some (.int .u64 0) := keepc hb2 (keepc hb1 (by simp [go_sem]))
  have e2 : w2.cell? ⟨w.heap.size + 1 + 1, 2, none⟩ = some (.int .i64 0) := keepc hb2 (keepc hb1 (by simp [go_sem]))
  go_wp2
  exact bodyPost_ret (v := .agg #[.int .u64 (hI c), .int .u64 (lI c), .int .i64 v]) (by simp [results, Try.results58, go_sem, e0, e1, e2]) rfl ⟨rfl, kB⟩

end Go.Proofs.Ytohnhpicjedfeaa
namespace Go.Proofs.Ytohnhpicjedfeaa
open Go.RowKit
set_option linter.unusedSimpArgs false
set_option linter.unusedVariables false

def hs (x y : BitVec 128) : Int := IntKind.u64.wrap (hI x + hI y)
def hd (x y : BitVec 128) : Int := IntKind.u64.wrap (hI x - hI y)
end Go.Proofs.Ytohnhpicjedfeaa
namespace Go.Proofs.Ytohnhpicjedfeaa
open Go.RowKit
set_option linter.unusedSimpArgs false
set_option linter.unusedVariables false

theorem isFamily_any (F : Int) (w : World) :
    Calls Try.prog 22 #[.int .i64 F] w fun e w' => e = .returned (.bool (fam F)) ∧ w' = w := by
  unfold fam
  by_cases h1 : F = 32
  · subst h1
    go_enter Try.func22, Try.ntmps22
    go_wp2
    go_ret
    exact ⟨rfl, rfl⟩
  · have b1 : (F == 32) = false := by simp [h1]
    have b2 : (F == 128) = decide (F = 128) := by rw [Bool.eq_iff_iff]; simp
    rw [show decide (F = 32) = false by simp [h1], Bool.false_or]
    go_enter Try.func22, Try.ntmps22
    go_wp2
    go_ret
    exact ⟨rfl, rfl⟩

theorem three (y x : BitVec 128) : ((hI y == hI x) = true ∧ (lI y == lI x) = true ∧ y = x) ∨ ((hI y == hI x) = false ∧ ¬ y = x) ∨ ((hI y == hI x) = true ∧ (lI y == lI x) = false ∧ ¬ y = x) := by
  by_cases e : y = x
  · exact Or.inl ⟨by simp [e], by simp [e], e⟩
  · by_cases e1 : hI y = hI x
    · exact Or.inr (Or.inr ⟨by simp [e1], by simp; exact fun e2 => e (eq_ints e1 e2), e⟩)
    · exact Or.inr (Or.inl ⟨by simp [e1], e⟩)
end Go.Proofs.Ytohnhpicjedfeaa
namespace Go.Proofs.Ytohnhpicjedfeaa
open Go.RowKit
set_option linter.unusedSimpArgs false
set_option linter.unusedVariables false

def Rd (w : World) (B : Nat) (x : BitVec 128) : Prop := w.cell? ⟨B, 0, none⟩ = some (.int .u64 (hI x)) ∧ w.cell? ⟨B, 1, none⟩ = some (.int .u64 (lI x))
theorem Rd.keep {W w' : World} {B : Nat} {x : BitVec 128} (h : Rd W B x) (hb : Below W.heap.size W w') : Rd w' B x := ⟨keepc hb h.1, keepc hb h.2⟩
theorem Rd.alloc {W : World} {B : Nat} {x : BitVec 128} (h : Rd W B x) (o : Obj) : Rd (W.alloc o) B x := h.keep (bl1 W o)
theorem Rd.new (W : World) (x : BitVec 128) (t : TypeId) : Rd (W.alloc (.cells #[.int .u64 (hI x), .int .u64 (lI x)] t)) W.heap.size x := by
  constructor <;> simp [go_sem]
set_option maxHeartbeats 2000000 in
theorem common_any (x y : BitVec 128) (w : World) :
    Calls Try.prog 31 #[.agg #[.int .u64 (hI x), .int .u64 (lI x)], .agg #[.int .u64 (hI y), .int .u64 (lI y)]] w fun e w' => e = .returned (.int .i64 ((leadN (x ^^^ y) : Nat) : Int)) ∧ Below w.heap.size w w' := by
  go_enter Try.func31, Try.ntmps31
  go_wp2
  go_loopw [5] (fun i wr => ∃ k : Nat, k ≤ 128 ∧ i = .int .i64 k ∧ Hid ((x ^^^ y).toNat < 2 ^ (128 - k)) ∧ Rd wr w.heap.size x ∧ Rd wr (w.heap.size + 1) y ∧ Below w.heap.size w wr)
    (fun i _ => 128 - (intOf i).toNat)
  case atStart =>
    refine ⟨0, by omega, rfl, (x ^^^ y).isLt, ?_, ?_, bl2 _ _ _⟩
    · exact (Rd.new w x _).alloc _
    · have := Rd.new (w.alloc (.cells #[.int .u64 (hI x), .int .u64 (lI x)] 36)) y 36
      simpa using this
  case round =>
    obtain ⟨k, hk, rfl, hz, X, Y, hB⟩ := hrel
    have hbl := hB.drew
    by_cases hlt : (k : Int) < 128
    · have hst := bit_step (x ^^^ y) k (by omega) hz.out
      have hbe := bitZ_eq x y k (by omega)
      by_cases c : bitZ x (k : Int) = bitZ y (k : Int)
      · have hz' : Hid ((x ^^^ y).toNat < 2 ^ (128 - (k + 1))) := hst.1 (hbe.mp c)
        have hc : (bitZ x (k : Int) == bitZ y (k : Int)) = true := by simpa using c
        clear hst hbe hz c
        go_wp2
        go_region_held3 (fun w' => w'.cell? ⟨w.heap.size, 0, none⟩ = some (.int .u64 (hI x)) ∧ w'.cell? ⟨w.heap.size, 1, none⟩ = some (.int .u64 (lI x)) ∧ w'.cell? ⟨w.heap.size + 1, 0, none⟩ = some (.int .u64 (hI y)) ∧ w'.cell? ⟨w.heap.size + 1, 1, none⟩ = some (.int .u64 (lI y)) ∧ Below w.heap.size w w')
          (first
            | (obtain ⟨k1, k2, k3, k4, k9⟩ := ‹_ ∧ _›; exact ⟨keepc hb1 k1, keepc hb1 k2, keepc hb1 k3, keepc hb1 k4, keepb hb1 k9⟩)
            | exact ⟨X.1, X.2, Y.1, Y.2, hbl⟩)
          (first | (go_at_call 43; refine (rbit_any _ _ _).mono ?_; rintro e w1 ⟨rfl, hb1⟩))
        obtain ⟨k1, k2, k3, k4, kB⟩ := ‹_ ∧ _›
        go_wp2
        go_roundw
        case rel => exact ⟨k + 1, by omega, by go_num, hz', ⟨k1, k2⟩, ⟨k3, k4⟩, kB⟩
        case measure => simp [intOf]; omega
      · have hz' : Hid (2 ^ (127 - k) ≤ (x ^^^ y).toNat) := by
          apply hst.2
          cases hh : (x ^^^ y).getLsbD (127 - k)
          · exact absurd (hbe.mpr hh) c
          · rfl
        have hc : (bitZ x (k : Int) == bitZ y (k : Int)) = false := by simpa using c
        have HL : Hid (leadN (x ^^^ y) = k) := lead_char _ _ hk hz.out (Or.inr hz'.out)
        clear hst hbe hz hz' c
        go_wp2
        go_region_held3 (fun w' => w'.cell? ⟨w.heap.size, 0, none⟩ = some (.int .u64 (hI x)) ∧ w'.cell? ⟨w.heap.size, 1, none⟩ = some (.int .u64 (lI x)) ∧ w'.cell? ⟨w.heap.size + 1, 0, none⟩ = some (.int .u64 (hI y)) ∧ w'.cell? ⟨w.heap.size + 1, 1, none⟩ = some (.int .u64 (lI y)) ∧ Below w.heap.size w w')
          (first
            | (obtain ⟨k1, k2, k3, k4, k9⟩ := ‹_ ∧ _›; exact ⟨keepc hb1 k1, keepc hb1 k2, keepc hb1 k3, keepc hb1 k4, keepb hb1 k9⟩)
            | exact ⟨X.1, X.2, Y.1, Y.2, hbl⟩)
          (first | (go_at_call 43; refine (rbit_any _ _ _).mono ?_; rintro e w1 ⟨rfl, hb1⟩))
        obtain ⟨k1, k2, k3, k4, kB⟩ := ‹_ ∧ _›
        go_wp2
        go_ret
        exact ⟨by rw [HL.out]; rfl, kB⟩
    · have hk8 : k = 128 := by omega
      have HL : Hid (leadN (x ^^^ y) = k) := lead_char _ _ hk hz.out (Or.inl hk8)
      have hd : decide ((k : Int) < 128) = false := by simpa using hlt
      clear hlt hz hk8
      go_wp2
      go_quiet (fail)
      go_wp2
      go_ret
      exact ⟨by rw [HL.out]; rfl, below_drewN hB _⟩

end Go.Proofs.Ytohnhpicjedfeaa
namespace Go.Proofs.Ytohnhpicjedfeaa
open Go.RowKit
set_option linter.unusedSimpArgs false
set_option linter.unusedVariables false

set_option maxHeartbeats 1000000 in
theorem rcut_any (x : BitVec 128) (n : Int) (w : World) :
    Calls Try.prog 27 #[.agg #[.int .u64 (hI x), .int .u64 (lI x)], .int .i64 n] w fun e w' => e = .returned (.agg #[.int .u64 (hI (cutW x n)), .int .u64 (lI (cutW x n)), .int .i64 n]) ∧ Below w.heap.size w w' := by
  have hbl := fun o p => (bl2 w o p).drew
  unfold cutW
  go_enter Try.func27, Try.ntmps27
  go_wp2
  go_region_held3 (fun w' => w'.cell? ⟨w.heap.size, 0, none⟩ = some (.int .u64 (hI x)) ∧ w'.cell? ⟨w.heap.size, 1, none⟩ = some (.int .u64 (lI x)) ∧ w'.cell? ⟨w.heap.size + 1, 0, none⟩ = some (cv w' (w.heap.size + 1) 0) ∧ w'.cell? ⟨w.heap.size + 1, 1, none⟩ = some (cv w' (w.heap.size + 1) 1) ∧ w'.cell? ⟨w.heap.size + 1, 2, none⟩ = some (cv w' (w.heap.size + 1) 2) ∧ w'.frozen? ⟨w.heap.size + 1, 0, none⟩ = false ∧ w'.frozen? ⟨w.heap.size + 1, 1, none⟩ = false ∧ w'.frozen? ⟨w.heap.size + 1, 2, none⟩ = false ∧ Below w.heap.size w w')
    (first
      | (obtain ⟨k1, k2, k3, k4, k5, k6, k7, k8, k9⟩ := ‹_ ∧ _›; exact ⟨keepc hb2 k1, keepc hb2 k2, cv_of (keepc hb2 k3), cv_of (keepc hb2 k4), cv_of (keepc hb2 k5), keepf hb2 k3 k6, keepf hb2 k4 k7, keepf hb2 k5 k8, keepb hb2 k9⟩)
      | (obtain ⟨k1, k2, k3, k4, k5, k6, k7, k8, k9⟩ := ‹_ ∧ _›; exact ⟨keepc hb1 k1, keepc hb1 k2, cv_of (keepc hb1 k3), cv_of (keepc hb1 k4), cv_of (keepc hb1 k5), keepf hb1 k3 k6, keepf hb1 k4 k7, keepf hb1 k5 k8, keepb hb1 k9⟩)
      | (refine ⟨?_, ?_, cv_new ?_, cv_new ?_, cv_new ?_, ?_, ?_, ?_, ?_⟩ <;> first | (simp [go_sem, *]; done) | exact bset3 (by simp [*]) (by simp) _ _ _))
    (first | (go_at_call 29; refine (rmask_any _ _).mono ?_; rintro e w1 ⟨rfl, hb1⟩) | (go_at_call 28; refine (rand_any _ _ _).mono ?_; rintro e w2 ⟨rfl, hb2⟩))
  obtain ⟨-, -, -, -, -, -, -, -, kB⟩ := ‹_ ∧ _›
  have e0 : w2.cell? ⟨w.heap.size + 1, 0, none⟩ = some (.int .u64 0) := keepc hb2 (keepc hb1 (by simp [go_sem]))
  have e1 : w2.cell? ⟨w.heap.size + 1, 1, none⟩ = some (.int .u64 0) := keepc hb2 (keepc hb1 (by simp [go_sem]))
  have e2 : w2.cell? ⟨w.heap.size + 1, 2, none⟩ = some (.int .i64 0) := keepc hb2 (keepc hb1 (by simp [go_sem]))
  go_wp2
  exact bodyPost_ret (v := .agg #[.int .u64 (hI (x &&& maskW n)), .int .u64 (lI (x &&& maskW n)), .int .i64 n]) (by simp [results, Try.results27, go_sem, e0, e1, e2]) rfl ⟨rfl, kB⟩

def rhasB (x : BitVec 128) (n : Int) (y : BitVec 128) : Bool := decide (n ≤ ((leadN (x ^^^ y) : Nat) : Int))
set_option maxHeartbeats 1000000 in
theorem rhas_any (x : BitVec 128) (n : Int) (y : BitVec 128) (w : World) :
    Calls Try.prog 16 #[.agg #[.int .u64 (hI x), .int .u64 (lI x), .int .i64 n], .agg #[.int .u64 (hI y), .int .u64 (lI y)]] w fun e w' => e = .returned (.bool (rhasB x n y)) ∧ Below w.heap.size w w' := by
  have hbl := fun o p => (bl2 w o p).drew
  have KC := fun w => common_any x y w
  unfold rhasB
  generalize ((leadN (x ^^^ y) : Nat) : Int) = l at *
  go_enter Try.func16, Try.ntmps16
  go_wp2
  go_region_held3 (fun w' => w'.cell? ⟨w.heap.size, 0, none⟩ = some (.int .u64 (hI x)) ∧ w'.cell? ⟨w.heap.size, 1, none⟩ = some (.int .u64 (lI x)) ∧ w'.cell? ⟨w.heap.size, 2, none⟩ = some (.int .i64 n) ∧ w'.cell? ⟨w.heap.size + 1, 0, none⟩ = some (.int .u64 (hI y)) ∧ w'.cell? ⟨w.heap.size + 1, 1, none⟩ = some (.int .u64 (lI y)) ∧ Below w.heap.size w w')
    (first
      | (obtain ⟨k1, k2, k3, k4, k5, k9⟩ := ‹_ ∧ _›; exact ⟨keepc hb1 k1, keepc hb1 k2, keepc hb1 k3, keepc hb1 k4, keepc hb1 k5, keepb hb1 k9⟩)
      | (refine ⟨?_, ?_, ?_, ?_, ?_, ?_⟩ <;> first | (simp [go_sem, *]; done) | exact hbl _ _))
    (first | (go_at_call 31; refine (KC _).mono ?_; rintro e w1 ⟨rfl, hb1⟩))
  obtain ⟨-, -, -, -, -, kB⟩ := ‹_ ∧ _›
  go_wp2
  go_ret
  exact ⟨rfl, kB⟩

set_option maxHeartbeats 1000000 in
theorem rpcmp_any (x : BitVec 128) (n : Int) (y : BitVec 128) (m : Int) (w : World) :
    Calls Try.prog 40 #[.agg #[.int .u64 (hI x), .int .u64 (lI x), .int .i64 n], .agg #[.int .u64 (hI y), .int .u64 (lI y), .int .i64 m]] w fun e w' => e = .returned (.int .i64 (pcmpZ x n y m)) ∧ Below w.heap.size w w' := by
  have KC := fun w => rcmp_any x y w
  unfold pcmpZ cmpI
  generalize cmpZ x y = c at *
  by_cases h : c = 0
  · subst h
    rw [if_pos rfl]
    by_cases h1 : n < m
    · rw [if_pos h1]
      go_enter Try.func40, Try.ntmps40
      go_wp2_with fail
      refine (KC _).mono ?_
      rintro e w1 ⟨rfl, hb1⟩
      have kB := keepb hb1 (bl2 w _ _)
      obtain ⟨p0, p1, p2, -, -, -⟩ := ((atp_new w w.heap.size x n 38 rfl).below (bl1 _ (.cells #[.int .u64 (hI y), .int .u64 (lI y), .int .i64 m] 38))).below hb1
      obtain ⟨r0, r1, r2, -, -, -⟩ := (atp_new (w.alloc (.cells #[.int .u64 (hI x), .int .u64 (lI x), .int .i64 n] 38)) (w.heap.size + 1) y m 38 (by simp)).below hb1
      clear hb1 KC
      go_wp2
      go_ret
      exact ⟨rfl, kB⟩
    · rw [if_neg h1]
      by_cases h2 : m < n
      · rw [if_pos h2]
        go_enter Try.func40, Try.ntmps40
        go_wp2_with fail
        refine (KC _).mono ?_
        rintro e w1 ⟨rfl, hb1⟩
        have kB := keepb hb1 (bl2 w _ _)
        obtain ⟨p0, p1, p2, -, -, -⟩ := ((atp_new w w.heap.size x n 38 rfl).below (bl1 _ (.cells #[.int .u64 (hI y), .int .u64 (lI y), .int .i64 m] 38))).below hb1
        obtain ⟨r0, r1, r2, -, -, -⟩ := (atp_new (w.alloc (.cells #[.int .u64 (hI x), .int .u64 (lI x), .int .i64 n] 38)) (w.heap.size + 1) y m 38 (by simp)).below hb1
        clear hb1 KC
        go_wp2
        go_ret
        exact ⟨rfl, kB⟩
      · rw [if_neg h2]
        go_enter Try.func40, Try.ntmps40
        go_wp2_with fail
        refine (KC _).mono ?_
        rintro e w1 ⟨rfl, hb1⟩
        have kB := keepb hb1 (bl2 w _ _)
        obtain ⟨p0, p1, p2, -, -, -⟩ := ((atp_new w w.heap.size x n 38 rfl).below (bl1 _ (.cells #[.int .u64 (hI y), .int .u64 (lI y), .int .i64 m] 38))).below hb1
        obtain ⟨r0, r1, r2, -, -, -⟩ := (atp_new (w.alloc (.cells #[.int .u64 (hI x), .int .u64 (lI x), .int .i64 n] 38)) (w.heap.size + 1) y m 38 (by simp)).below hb1
        clear hb1 KC
        go_wp2
        go_ret
        exact ⟨rfl, kB⟩
  · have hb : (c != 0) = true := by simp [h]
    rw [if_neg h]
    go_enter Try.func40, Try.ntmps40
    go_wp2_with fail
    refine (KC _).mono ?_
    rintro e w1 ⟨rfl, hb1⟩
    have kB := keepb hb1 (bl2 w _ _)
    clear hb1 KC
    go_wp2
    go_ret
    exact ⟨rfl, kB⟩

end Go.Proofs.Ytohnhpicjedfeaa
namespace Go.Proofs.Ytohnhpicjedfeaa
open Go.RowKit
set_option linter.unusedSimpArgs false
set_option linter.unusedVariables false

set_option maxHeartbeats 1000000 in
theorem rcheck_any (F : Int) (x : BitVec 128) (n : Int) (w : World) :
    Calls Try.prog 39 #[.int .i64 F, .agg #[.int .u64 (hI x), .int .u64 (lI x), .int .i64 n]] w fun e w' => e = .returned (.int .i64 (checkE F x n)) ∧ Below w.heap.size w w' := by
  have KL := fun w => isFamily_any F w
  unfold checkE
  cases h : fam F
  · rw [if_neg (by simp)]
    rw [h] at KL
    clear h
    go_enter Try.func39, Try.ntmps39
    go_wp2_with fail
    refine (KL _).mono ?_
    rintro e w1 ⟨rfl, rfl⟩
    go_wp2
    go_ret
    exact ⟨rfl, bl1 _ _⟩
  · rw [if_pos rfl]
    rw [h] at KL
    clear h
    have KM := fun n w => rmask_any n w
    by_cases h0 : n < 0
    · rw [if_pos h0]
      go_enter Try.func39, Try.ntmps39
      go_wp2_with fail
      refine (KL _).mono ?_
      rintro e w1 ⟨rfl, rfl⟩
      go_wp2
      go_ret
      exact ⟨rfl, bl1 _ _⟩
    by_cases h1 : F < n
    · rw [if_neg h0, if_pos h1]
      go_enter Try.func39, Try.ntmps39
      go_wp2_with fail
      refine (KL _).mono ?_
      rintro e w1 ⟨rfl, rfl⟩
      go_wp2
      go_ret
      exact ⟨rfl, bl1 _ _⟩
    rw [if_neg h0, if_neg h1]
    have KC := fun w => rand_any x (maskW n) w
    have KN := fun w => rmask_any n w
    unfold cutW
    generalize maskW n = k at *
    revert KC
    generalize x &&& k = c
    intro KC
    have hbl := fun o => (bl1 w o).drew
    rcases eqw c x with ⟨q1, q2, q3⟩ | ⟨q1, q3⟩ | ⟨q1, q2, q3⟩
    all_goals
      rw [q3]
      first | rw [if_pos rfl] | rw [if_neg (by simp)]
      clear q3
      go_enter Try.func39, Try.ntmps39
      go_wp2_with fail
      refine (KL _).mono ?_
      rintro e w1 ⟨rfl, rfl⟩
      clear KL KM
      go_wp2_with fail
      go_region_held3 (fun w' => w'.cell? ⟨w.heap.size, 0, none⟩ = some (.int .u64 (hI x)) ∧ w'.cell? ⟨w.heap.size, 1, none⟩ = some (.int .u64 (lI x)) ∧ w'.cell? ⟨w.heap.size, 2, none⟩ = some (.int .i64 n) ∧ Below w.heap.size w w')
        (first
          | (obtain ⟨k1, k2, k3, k9⟩ := ‹_ ∧ _›; exact ⟨keepc hb3 k1, keepc hb3 k2, keepc hb3 k3, keepb hb3 k9⟩)
          | (obtain ⟨k1, k2, k3, k9⟩ := ‹_ ∧ _›; exact ⟨keepc hb2 k1, keepc hb2 k2, keepc hb2 k3, keepb hb2 k9⟩)
          | (refine ⟨?_, ?_, ?_, ?_⟩ <;> first | (simp [go_sem, *]; done) | exact hbl _))
        (first | (go_at_call 29; refine (KN _).mono ?_; rintro e w2 ⟨rfl, hb2⟩) | (go_at_call 28; refine (KC _).mono ?_; rintro e w3 ⟨rfl, hb3⟩))
      obtain ⟨-, -, -, kB3⟩ := ‹_ ∧ _›
      go_wp2
      go_ret
      exact ⟨rfl, kB3⟩

theorem maskW_idem (x : BitVec 128) (n : Int) : cutW (cutW x n) n = cutW x n := by
  unfold cutW
  rw [BitVec.and_assoc, BitVec.and_self]
end Go.Proofs.Ytohnhpicjedfeaa
namespace Go.Proofs.Ytohnhpicjedfeaa
open Go.RowKit
set_option linter.unusedSimpArgs false
set_option linter.unusedVariables false

theorem tmod_ways (a n : Int) (h : 0 < n) : (a.tmod n < 0 ∧ a.tmod n + n = a % n) ∨ (0 ≤ a.tmod n ∧ a.tmod n = a % n) := by
  by_cases h0 : 0 ≤ a
  · right
    have : a.tmod n = a % n := Int.tmod_eq_emod_of_nonneg h0
    exact ⟨by rw [this]; exact Int.emod_nonneg _ (by omega), this⟩
  · have e := Int.tmod_eq_emod (a := a) (b := n)
    have b1 := Int.emod_nonneg a (b := n) (by omega)
    have b2 := Int.emod_lt_of_pos a h
    split at e
    · right; omega
    · left
      have : (n.natAbs : Int) = n := by omega
      omega
end Go.Proofs.Ytohnhpicjedfeaa
namespace Go.Proofs.Ytohnhpicjedfeaa
open Go.RowKit
set_option linter.unusedSimpArgs false
set_option linter.unusedVariables false

end Go.Proofs.Ytohnhpicjedfeaa
namespace Go.Proofs.Ytohnhpicjedfeaa
open Go.RowKit
set_option linter.unusedSimpArgs false
set_option linter.unusedVariables false

theorem mask_zero (z : BitVec 128) (n : Int) (h0 : 0 ≤ n) (h1 : n ≤ 128) : z &&& maskW n = 0#128 ↔ z >>> (128 - n).toNat = 0#128 := by
  constructor
  · intro h
    apply BitVec.eq_of_getLsbD_eq
    intro j hj
    have := congrArg (fun y => y.getLsbD ((128 - n).toNat + j)) h
    simp only [BitVec.getLsbD_and, BitVec.getLsbD_zero] at this
    by_cases c : (128 - n).toNat + j < 128
    · rw [maskW_bit n _ c] at this
      have d : decide (128 - n.toNat ≤ (128 - n).toNat + j) = true := by simp; omega
      rw [d, Bool.and_true] at this
      rw [BitVec.getLsbD_ushiftRight, this, BitVec.getLsbD_zero]
    · rw [BitVec.getLsbD_ushiftRight, BitVec.getLsbD_of_ge _ _ (by omega), BitVec.getLsbD_zero]
  · intro h
    apply BitVec.eq_of_getLsbD_eq
    intro j hj
    rw [BitVec.getLsbD_and, maskW_bit n j hj, BitVec.getLsbD_zero]
    by_cases c : 128 - n.toNat ≤ j
    · have := congrArg (fun y => y.getLsbD (j - (128 - n).toNat)) h
      simp only [BitVec.getLsbD_ushiftRight, BitVec.getLsbD_zero] at this
      rw [show (128 - n).toNat + (j - (128 - n).toNat) = j by omega] at this
      rw [this, Bool.false_and]
    · simp [c]
theorem lead_mask (z : BitVec 128) (n : Int) (h0 : 0 ≤ n) (h1 : n ≤ 128) : n ≤ ((leadN z : Nat) : Int) ↔ z &&& maskW n = 0#128 := by
  rw [mask_zero z n h0 h1]
  have := lead_wide z (128 - n) (by omega) (by omega)
  constructor
  · intro h
    apply Classical.byContradiction
    intro c
    have := this.mpr c
    omega
  · intro h
    apply Classical.byContradiction
    intro c
    exact this.mp (by omega) h
theorem xor_mask (x y m : BitVec 128) : (x ^^^ y) &&& m = 0#128 ↔ x &&& m = y &&& m := by
  have e : (x ^^^ y) &&& m = (x &&& m) ^^^ (y &&& m) := by
    apply BitVec.eq_of_getLsbD_eq
    intro j hj
    simp only [BitVec.getLsbD_and, BitVec.getLsbD_xor]
    cases x.getLsbD j <;> cases y.getLsbD j <;> cases m.getLsbD j <;> rfl
  rw [e]
  constructor
  · intro h
    have := congrArg (fun z => z ^^^ (y &&& m)) h
    simpa [BitVec.xor_assoc] using this
  · intro h
    rw [h, BitVec.xor_self]
theorem has_eq (x : BitVec 128) (n : Int) (y : BitVec 128) (h0 : 0 ≤ n) (h1 : n ≤ 128) (hx : cutW x n = x) : rhasB x n y = (cutW y n == x) := by
  unfold rhasB
  rw [Bool.eq_iff_iff, decide_eq_true_iff, beq_iff_eq, lead_mask _ n h0 h1, xor_mask]
  unfold cutW at *
  rw [hx]
  exact ⟨fun h => h.symm, fun h => h.symm⟩
theorem mask_sub (n m : Int) (h0 : 0 ≤ n) (h : n ≤ m) : maskW n &&& maskW m = maskW n := by
  apply BitVec.eq_of_getLsbD_eq
  intro j hj
  rw [BitVec.getLsbD_and, maskW_bit n j hj, maskW_bit m j hj]
  by_cases c : 128 - n.toNat ≤ j
  · have : 128 - m.toNat ≤ j := by omega
    simp [c, this]
  · simp [c]
theorem cut_cut (x : BitVec 128) (n m : Int) (h0 : 0 ≤ n) (h : n ≤ m) : cutW (cutW x m) n = cutW x n := by
  unfold cutW
  rw [BitVec.and_assoc, BitVec.and_comm (maskW m), mask_sub n m h0 h]
theorem cut_cut2 (x : BitVec 128) (n m : Int) (h0 : 0 ≤ n) (h : n ≤ m) : cutW (cutW x n) m = cutW x n := by
  unfold cutW
  rw [BitVec.and_assoc, mask_sub n m h0 h]
def Rt (F : Int) (x : BitVec 128) (n : Int) : Prop := 0 ≤ n ∧ n ≤ F ∧ cutW x n = x
end Go.Proofs.Ytohnhpicjedfeaa
