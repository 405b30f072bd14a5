/-
  Part 17 of the proof: 5 texts, one behind the other.
-/
import Derived.Test.YtpiicdpipjjenaaGreatDoorPart16
import Derived.Test.YtpiicdpipjjenaaGreatDoorPart7
namespace Go.Proofs.YtpiicdpipjjenaaGreatDoor
open Go.RowKit
set_option linter.unusedSimpArgs false
set_option linter.unusedVariables false
attribute [local go_sem] Oper.semAt_some

theorem jump_ret {l : Nat} {J : Act → World → Prop} {Q : Exit → Act → World → Prop} {a : Act} {w : World} (h : Q .ret a w) : Exit.jump l J Q .ret a w := h
theorem scope_again {P : Program} {a : Act} {w : World} {Q : Exit → Act → World → Prop} {X : Code} (l : Nat) (J : Act → World → Prop) (μ : Act → World → Nat) (hf : findLabel ((Code.label l).seq X) l = some (Code.skip.seq X)) (hJ : J a w)
    (pass : ∀ a w, J a w → X.wp P (Exit.jump l (fun a' w' => J a' w' ∧ μ a' w' < μ a w) Q) a w) : (Code.scope ((Code.label l).seq X)).wp P Q a w :=
  wp_scope_jumps l J μ hf (wp_seq (wp_label (show X.wp P (Exit.jump l J Q) a w from fun b k cs => by
    obtain ⟨e, a', w', h, arr⟩ := pass a w hJ b k cs
    refine ⟨e, a', w', ?_, arr⟩
    cases e <;> first | exact h | exact ⟨h.1, h.2.1⟩))) (fun a w h => wp_seq (wp_skip (pass a w h)))
theorem at_blk {W : World} {z : Nat} {cs : Array Value} {T : TypeId} (hz : W.heap[z]? = some (.cells cs T)) (j : Nat) (u : Value) (hj : cs[j]? = some u) : W.cell? ⟨z, j, none⟩ = some u := by
  simp [World.cell?, hz, hj]
theorem fr_blk5 {W : World} {z j : Nat} {cs : Array Value} {T : TypeId} (h : W.heap[z]? = some (.cells cs T)) : W.frozen? ⟨z, j, none⟩ = false := by simp [World.frozen?, h]
theorem set_blk5 {W : World} {P o : Nat} {cs : Array Value} {T : TypeId} (h : W.heap[P]? = some (.cells cs T)) (v : Value) : (W.setCell ⟨P, o, none⟩ v).heap[P]? = some (.cells (cs.setIfInBounds o v) T) := by
  simp [World.setCell, Array.getElem?_modify, h]
theorem blk_lt5 {w : World} {z : Nat} {o : Obj} (hz : w.heap[z]? = some o) : z < w.heap.size := by
  apply Classical.byContradiction; intro q
  rw [Array.getElem?_eq_none (by omega)] at hz; cases hz
theorem scope_mid {P : Program} {a : Act} {w : World} {Q : Exit → Act → World → Prop} {A X : Code} (l : Nat) (J : Act → World → Prop) (μ : Act → World → Nat) (hf : findLabel (A.seq ((Code.label l).seq X)) l = some (Code.skip.seq X))
    (pre : A.wp P (Exit.then J (fun _ _ _ => False)) a w)
    (pass : ∀ a w, J a w → X.wp P (Exit.jump l (fun a' w' => J a' w' ∧ μ a' w' < μ a w) Q) a w) : (Code.scope (A.seq ((Code.label l).seq X))).wp P Q a w :=
  wp_scope_jumps l J μ hf (wp_seq (fun b k cs => by
    obtain ⟨e, a', w', h, arr⟩ := pre b k cs
    refine ⟨e, a', w', ?_, arr⟩
    cases e with
    | normal => exact wp_seq (wp_label (show X.wp P (Exit.jump l J Q) a' w' from fun b k cs => by
        obtain ⟨e, a2, w2, h2, arr2⟩ := pass a' w' h b k cs
        refine ⟨e, a2, w2, ?_, arr2⟩
        cases e <;> first | exact h2 | exact ⟨h2.1, h2.2.1⟩))
    | _ => exact h.elim)) (fun a w h => wp_seq (wp_skip (pass a w h)))
def RdV (W : World) (R : Nat) (F : Int) (s : ByteArray) (a ln st : Int) : Prop := W.heap[R]? = some (.cells #[.int .i64 F, .string s, .int .i64 a, .int .i64 ln, .int .i64 st] 72)
section
variable {W W' : World} {R : Nat} {F : Int} {s : ByteArray} {a ln st : Int}
theorem RdV.cells (h : RdV W R F s a ln st) : W.cell? ⟨R, 0, none⟩ = some (.int .i64 F) ∧ W.cell? ⟨R, 1, none⟩ = some (.string s) ∧ W.cell? ⟨R, 2, none⟩ = some (.int .i64 a) ∧ W.cell? ⟨R, 3, none⟩ = some (.int .i64 ln) ∧ W.cell? ⟨R, 4, none⟩ = some (.int .i64 st) := ⟨at_blk h 0 _ rfl, at_blk h 1 _ rfl, at_blk h 2 _ rfl, at_blk h 3 _ rfl, at_blk h 4 _ rfl⟩
theorem RdV.free (h : RdV W R F s a ln st) (j : Nat) : W.frozen? ⟨R, j, none⟩ = false := fr_blk5 h
theorem RdV.lt (h : RdV W R F s a ln st) : R < W.heap.size := blk_lt5 h
theorem RdV.setA (h : RdV W R F s a ln st) (b : Int) : RdV (W.setCell ⟨R, 2, none⟩ (.int .i64 b)) R F s b ln st := by simpa [RdV] using set_blk5 (o := 2) h (.int .i64 b)
theorem RdV.setL (h : RdV W R F s a ln st) (b : Int) : RdV (W.setCell ⟨R, 3, none⟩ (.int .i64 b)) R F s a b st := by simpa [RdV] using set_blk5 (o := 3) h (.int .i64 b)
theorem RdV.setS (h : RdV W R F s a ln st) (b : Int) : RdV (W.setCell ⟨R, 4, none⟩ (.int .i64 b)) R F s a ln b := by simpa [RdV] using set_blk5 (o := 4) h (.int .i64 b)
theorem RdV.below (h : RdV W R F s a ln st) (hb : Below W.heap.size W W') : RdV W' R F s a ln st := (hb.block R h.lt).trans h
end
theorem Bt.trans {M : Nat → Prop} {V W X : World} (h : Bt M V W) (g : Bt M W X) : Bt M V X := ⟨by rw [g.os, h.os], by rw [g.tape, h.tape], by rw [g.output, h.output], Nat.le_trans h.size g.size, fun z h1 h2 => by rw [g.blk z (by have := h.size; omega) h2, h.blk z h1 h2]⟩
theorem Bt.ofB {M : Nat → Prop} {V W : World} (h : Below V.heap.size V W) : Bt M V W := (Bt.refl M V).below h (Nat.le_refl _)
abbrev Bo (R : Nat) : World → World → Prop := Bt (fun z => z = R)
theorem Bo.set {R : Nat} {V W : World} (h : Bo R V W) (o : Nat) (u : Value) : Bo R V (W.setCell ⟨R, o, none⟩ u) := Bt.set h (.inl rfl) o u
theorem Bo.low {R n : Nat} {w V W : World} (h : Bo R V W) (hb : Below n w V) (hR : n ≤ R) (hn : n ≤ w.heap.size) : Below n w W := ⟨by rw [h.os, hb.os], by rw [h.tape, hb.tape], by rw [h.output, hb.output], Nat.le_trans hb.size h.size, fun z hz => by rw [h.blk z (by have := hb.size; omega) (by omega), hb.block z hz]⟩
section
variable (R : Nat) (F : Int) (s : ByteArray)
set_option maxHeartbeats 2000000 in
theorem kind5_any (a ln st : Int) (k : Nat) (w : World) (h : RdV w R F s a ln st) (hk : k ≤ s.size) (hs : s.size ≤ 1000000000) :
    Calls Tryz.prog 69 #[.pointer (some ⟨R, 0, none⟩), .int .i64 (k : Int)] w fun e w' => e = .returned (.int .i64 (kdS s k)) ∧ w' = w := by
  obtain ⟨-, r1, -, -, -⟩ := h.cells
  clear h
  by_cases he : k = s.size
  · subst he
    rw [kdS_end]
    go_enter Tryz.func69, Tryz.ntmps69
    go_wp2
    go_ret
    exact ⟨rfl, rfl⟩
  have hlt : k < s.size := by omega
  have hk2 : (k : Int) < (s.size : Int) := by omega
  have hne : ((k : Int) == (s.size : Int)) = false := by rw [beq_eq_false_iff_ne]; omega
  have hb := byteAt_in s k hlt
  have HV : Hid (kdS s k = if byteAt s k = 32 ∨ byteAt s k = 9 then 1 else if byteAt s k = 35 ∨ byteAt s k = 10 then 2 else 0) := hidR (by unfold kdS; rw [if_neg he])
  revert HV hb
  generalize byteAt s k = c
  generalize kdS s k = v
  intro hb HV
  clear hk
  by_cases c1 : c = 32
  · have HF : Hid (v = 1) := hidR (by rw [HV.out, if_pos (.inl c1)])
    subst c1
    go_enter Tryz.func69, Tryz.ntmps69
    go_wp2
    go_ret
    exact ⟨by rw [HF.out]; rfl, rfl⟩
  have d1 : (c == 32) = false := by simpa using c1
  by_cases c2 : c = 9
  · have HF : Hid (v = 1) := hidR (by rw [HV.out, if_pos (.inr c2)])
    subst c2
    go_enter Tryz.func69, Tryz.ntmps69
    go_wp2
    go_ret
    exact ⟨by rw [HF.out]; rfl, rfl⟩
  have d2 : (c == 9) = false := by simpa using c2
  by_cases c3 : c = 35
  · have HF : Hid (v = 2) := hidR (by rw [HV.out, if_neg (by omega), if_pos (.inl c3)])
    subst c3
    go_enter Tryz.func69, Tryz.ntmps69
    go_wp2
    go_ret
    exact ⟨by rw [HF.out]; rfl, rfl⟩
  have d3 : (c == 35) = false := by simpa using c3
  by_cases c4 : c = 10
  · have HF : Hid (v = 2) := hidR (by rw [HV.out, if_neg (by omega), if_pos (.inr c4)])
    subst c4
    go_enter Tryz.func69, Tryz.ntmps69
    go_wp2
    go_ret
    exact ⟨by rw [HF.out]; rfl, rfl⟩
  have d4 : (c == 10) = false := by simpa using c4
  have HF : Hid (v = 0) := hidR (by rw [HV.out, if_neg (by omega), if_neg (by omega)])
  clear c1 c2 c3 c4
  go_enter Tryz.func69, Tryz.ntmps69
  go_wp2
  go_ret
  exact ⟨by rw [HF.out]; rfl, rfl⟩
set_option maxRecDepth 20000 in
set_option maxHeartbeats 4000000 in
theorem toWord_any (ln st : Int) (k0 : Nat) (w : World) (h : RdV w R F s (k0 : Int) ln st) (hk0 : k0 ≤ s.size) (hs : s.size ≤ 1000000000) :
    Calls Tryz.prog 47 #[.pointer (some ⟨R, 0, none⟩)] w fun e w' => e = .returned (.bool (decide (kdS s (skS s k0) = 0))) ∧ RdV w' R F s (skS s k0 : Nat) ln st ∧ Bo R w w' := by
  go_enter Tryz.func47, Tryz.ntmps47
  go_wp2_with fail
  refine scope_again 0 (fun a' W => ∃ (k : Nat) (x3 x4 x5 x6 x7 x8 x9 x10 x11 x12 x13 x14 x15 x16 x17 x18 x19 : Value), a' = { tmps := #[.pointer (some ⟨R, 0, none⟩), undef, .bool false, x3, x4, x5, x6, x7, x8, x9, x10, x11, x12, x13, x14, x15, x16, x17, x18, x19], defers := [] } ∧ Hid (k ≤ s.size ∧ skS s k = skS s k0 ∧ RdV W R F s (k : Int) ln st ∧ Bo R w W)) (fun _ W => s.size - (intOf ((W.cell? ⟨R, 2, none⟩).getD undef)).toNat) (by rfl) ?first ?pass
  case first => exact ⟨k0, _, _, _, _, _, _, _, _, _, _, _, _, _, _, _, _, _, rfl, hidR ⟨hk0, rfl, h, Bt.refl _ _⟩⟩
  case pass =>
    clear h
    rintro a' W ⟨k, x3, x4, x5, x6, x7, x8, x9, x10, x11, x12, x13, x14, x15, x16, x17, x18, x19, rfl, HI⟩
    obtain ⟨hk, -, hR, -⟩ := HI.out
    have KK := kind5_any R F s (k : Int) ln st k W hR hk hs
    obtain ⟨-, -, r2, -, -⟩ := hR.cells
    have f2 := hR.free 2
    have hv := kdS_ways s k
    have HG : Hid (kdS s k = 1 → k + 1 ≤ s.size ∧ skS s (k + 1) = skS s k0) := hidR (fun q => ⟨by have := kdS_in (s := s) (k := k) (by omega) hk; omega, by rw [← skS_go hk q]; exact HI.out.2.1⟩)
    have HH : Hid (¬ kdS s k = 1 → skS s k0 = k) := hidR (fun q => by rw [← HI.out.2.1, skS_here q])
    have HR := hidR hR
    have HM : Hid (s.size - (intOf ((W.cell? ⟨R, 2, none⟩).getD undef)).toNat = s.size - k) := hidR (by rw [r2]; rfl)
    have HZ : Hid (¬ kdS s k = 1 → decide (kdS s (skS s k0) = 0) = decide (kdS s k = 0)) := hidR (fun q => by rw [HH.out q])
    rw [HM.out]
    clear hR HM
    revert KK hv HG HH HZ
    generalize kdS s k = v
    intro KK hv HG HH HZ
    have wk : IntKind.i64.wrap ((k : Int) + 1) = ((k + 1 : Nat) : Int) := by rw [IntKind.wrap_i64]; push_cast; omega
    go_wp2_with fail
    refine KK.mono ?_
    rintro e W' ⟨rfl, rfl⟩
    clear KK
    rcases hv with rfl | rfl | rfl
    · have hz := HZ.out (by omega)
      have hh := HH.out (by omega)
      clear HG HH HZ wk
      go_wp2
      refine jump_ret ?_
      exact bodyPost_ret (v := .bool true) (by simp [results, Tryz.results47, go_sem]) rfl ⟨by rw [hz]; rfl, by rw [hh]; exact HR.out, HI.out.2.2.2⟩
    · have hg := HG.out rfl
      have HJ := hidR (⟨hg.1, hg.2, HR.out.setA ((k + 1 : Nat) : Int), HI.out.2.2.2.set 2 _⟩ : k + 1 ≤ s.size ∧ skS s (k + 1) = skS s k0 ∧ RdV (W'.setCell ⟨R, 2, none⟩ (.int .i64 ((k + 1 : Nat) : Int))) R F s ((k + 1 : Nat) : Int) ln st ∧ Bo R w (W'.setCell ⟨R, 2, none⟩ (.int .i64 ((k + 1 : Nat) : Int))))
      clear HG HH HZ hg
      go_wp2
      refine wp_goto ?_
      refine And.intro rfl (And.intro ⟨k + 1, _, _, _, _, _, _, _, _, _, _, _, _, _, _, _, _, _, rfl, HJ⟩ ?_)
      have c := HJ.out.2.2.1.cells.2.2.1
      have := HJ.out.1
      show s.size - (intOf (((W'.setCell ⟨R, 2, none⟩ (.int .i64 ((k : Int) + 1))).cell? ⟨R, 2, none⟩).getD undef)).toNat < s.size - k
      rw [show ((k : Int) + 1) = ((k + 1 : Nat) : Int) by push_cast; rfl, c]
      simp [intOf]; omega
    · have hz := HZ.out (by omega)
      have hh := HH.out (by omega)
      clear HG HH HZ wk
      go_wp2
      refine jump_ret ?_
      exact bodyPost_ret (v := .bool false) (by simp [results, Tryz.results47, go_sem]) rfl ⟨by rw [hz]; rfl, by rw [hh]; exact HR.out, HI.out.2.2.2⟩
end
end Go.Proofs.YtpiicdpipjjenaaGreatDoor
namespace Go.Proofs.YtpiicdpipjjenaaGreatDoor
open Go.RowKit
set_option linter.unusedSimpArgs false
set_option linter.unusedVariables false

def cmR (x y : Rte) : Int := pcmpZ x.1.1 x.1.2 y.1.1 y.1.2
def revIns : List Rte → Rte → List Rte
  | [], x => [x]
  | y :: P, x => if cmR x y < 0 then y :: revIns P x else x :: y :: P
def isrt (M : List Rte) : List Rte := (M.foldl revIns []).reverse
theorem revIns_len : ∀ (P : List Rte) (x : Rte), (revIns P x).length = P.length + 1
  | [], x => rfl
  | y :: P, x => by
    unfold revIns
    split
    · simp [revIns_len P x]
    · simp
theorem foldl_len : ∀ (M : List Rte) (P : List Rte), (M.foldl revIns P).length = P.length + M.length
  | [], P => rfl
  | x :: M, P => by rw [List.foldl_cons, foldl_len M, revIns_len]; simp; omega
theorem rowR_set : ∀ (D : List Rte) (j : Nat) (r : Rte), j < D.length → rowR (D.set j r) = ((((rowR D).set (j * 4) (.int .u64 (hI r.1.1))).set (j * 4 + 1) (.int .u64 (lI r.1.1))).set (j * 4 + 2) (.int .i64 r.1.2)).set (j * 4 + 3) (.int .i64 r.2)
  | [], j, r, h => by simp at h
  | q :: D, 0, r, h => by simp [rowR]
  | q :: D, j + 1, r, h => by
    have ih := rowR_set D j r (by simpa using h)
    rw [List.set_cons_succ, rowR, ih, rowR, show (j + 1) * 4 = j * 4 + 4 by omega, show j * 4 + 4 + 1 = j * 4 + 1 + 4 by omega, show j * 4 + 4 + 2 = j * 4 + 2 + 4 by omega, show j * 4 + 4 + 3 = j * 4 + 3 + 4 by omega]
    simp
theorem swap_mid (y x : Rte) (T : List Rte) : ∀ (Q : List Rte), (((Q ++ [y]) ++ x :: T).set (Q.length + 1) y).set Q.length x = Q ++ x :: y :: T
  | [] => rfl
  | q :: Q => by
    have ih := swap_mid y x T Q
    simp only [List.cons_append, List.length_cons, List.set_cons_succ] at ih ⊢
    rw [ih]
def RwO (W : World) (base g c n : Nat) (D : List Rte) : Prop := D.length = n ∧ W.ownsRow base 47 4 (.slice (some ⟨g, 0, none⟩) n c) n (rowR D)
section
variable {W W' : World} {base g c n : Nat} {D : List Rte}
theorem RwO.cells (h : RwO W base g c n D) {j : Nat} {r : Rte} (hj : D[j]? = some r) : W.cell? ⟨g, j * 4, none⟩ = some (.int .u64 (hI r.1.1)) ∧ W.cell? ⟨g, j * 4 + 1, none⟩ = some (.int .u64 (lI r.1.1)) ∧ W.cell? ⟨g, j * 4 + 2, none⟩ = some (.int .i64 r.1.2) ∧ W.cell? ⟨g, j * 4 + 3, none⟩ = some (.int .i64 r.2) := by
  obtain ⟨hl, e⟩ := List.getElem?_eq_some_iff.mp hj
  obtain ⟨a, b, c', d⟩ := rowR_get D j hl
  rw [e] at a b c' d
  have f := fun j u hj => h.2.cells (g := g) rfl j u hj
  have ad : ∀ j, (⟨g, 0, none⟩ : Addr).add j = ⟨g, j, none⟩ := fun j => by rw [addA, Nat.zero_add]
  exact ⟨by have := f _ _ a; rwa [ad] at this, by have := f _ _ b; rwa [ad] at this, by have := f _ _ c'; rwa [ad] at this, by have := f _ _ d; rwa [ad] at this⟩
theorem RwO.free (h : RwO W base g c n D) {j : Nat} (hj : j < n * 4) : W.frozen? ⟨g, j, none⟩ = false := (own_any h.2 j hj).2
theorem RwO.heap (h : RwO W base g c n D) (e : W'.heap[g]? = W.heap[g]?) : RwO W' base g c n D := ⟨h.1, own_heap h.2 (fun z q => by simp [Value.ownBlock] at q; subst q; exact e)⟩
theorem RwO.lt (h : RwO W base g c n D) : g < W.heap.size ∧ base ≤ g := ⟨(h.2.lt g rfl).2, (h.2.lt g rfl).1⟩
theorem RwO.below (h : RwO W base g c n D) (hb : Below W.heap.size W W') : RwO W' base g c n D := h.heap (hb.block g h.lt.1)
theorem RwO.set (h : RwO W base g c n D) {j : Nat} (hj : j < n) (r : Rte) : RwO ((((W.setCell ⟨g, j * 4, none⟩ (.int .u64 (hI r.1.1))).setCell ⟨g, j * 4 + 1, none⟩ (.int .u64 (lI r.1.1))).setCell ⟨g, j * 4 + 2, none⟩ (.int .i64 r.1.2)).setCell ⟨g, j * 4 + 3, none⟩ (.int .i64 r.2)) base g c n (D.set j r) := by
  refine ⟨by rw [List.length_set]; exact h.1, ?_⟩
  rw [rowR_set D j r (by rw [h.1]; exact hj)]
  exact ((((h.2.stored _ _).1.stored _ _).1.stored _ _).1.stored _ _).1
end
end Go.Proofs.YtpiicdpipjjenaaGreatDoor
namespace Go.Proofs.YtpiicdpipjjenaaGreatDoor
open Go.RowKit
set_option linter.unusedSimpArgs false
set_option linter.unusedVariables false

section
variable {P : Program}
structure Sim (b l : List Oper) (m : Nat) (E : Nat → Bool) : Prop where
  len : b.length = m
  same : ∀ i, i < m → ∀ o, l[i]? = some o → ∃ o', b[i]? = some o' ∧ o'.dst = o.dst ∧ o'.after = o.after ∧ o'.guard = o.guard ∧ (E i = false → o' = o)
theorem Sim.yield {b l : List Oper} {m : Nat} {E : Nat → Bool} (h : Sim b l m E) (hml : m ≤ l.length) (tmps : Array Value) (k : Nat) (hk : k < m) : yielded b.toArray tmps k = yielded l.toArray tmps k := by
  have hl : k < l.length := by omega
  obtain ⟨o2, q1, q2, -, -, -⟩ := h.same k hk l[k] (by simp [hl])
  unfold yielded
  simp only [List.getElem?_toArray, q1, List.getElem?_eq_getElem hl, Option.bind_some, q2]
theorem Sim.wanted {b l : List Oper} {m : Nat} {E : Nat → Bool} (h : Sim b l m E) (hml : m ≤ l.length) (a : Act) (o : Oper) (hlt : ∀ k c, o.guard = some (k, c) → k < m) : Region.wanted o (yielded b.toArray a.tmps) = Region.wanted o (yielded l.toArray a.tmps) := by
  unfold Region.wanted
  cases e : o.guard with
  | none => rfl
  | some kb =>
    obtain ⟨k, c⟩ := kb
    simp only
    rw [h.yield hml a.tmps k (hlt k c e)]
theorem Sim.ready {b l : List Oper} {m : Nat} {E : Nat → Bool} (h : Sim b l m E) (hml : m ≤ l.length) (hw : waitB l m = true) (lp : Array Bool) (hs : lp.size = m) (f : Nat) (hu : unl lp = f + 1) (i : Nat)
    (hi : i ∈ Region.ready .any l.toArray (lp ++ Array.replicate (l.length - m) false)) : i < m ∧ i ∈ Region.ready .any b.toArray lp := by
  obtain ⟨him, -⟩ := ready_pre l m m undef hml hw lp hs f hu i hi
  obtain ⟨hun, o, ho, hall⟩ := mem_ready.1 hi
  obtain ⟨o', q1, q2, q3, q4, -⟩ := h.same i him o (by simpa using ho)
  refine ⟨him, mem_ready.2 ⟨by rw [get_app_lt lp _ i (by omega)] at hun; exact hun, o', by simpa using q1, fun e he hb => ?_⟩⟩
  rw [q3] at he
  have := hall e he hb
  rwa [get_app_false] at this
theorem putAll_size : ∀ (ds : List (Option Tmp)) (vs : List Value) (a : Act), (putAll a ds vs).tmps.size = a.tmps.size
  | [], _, a => by cases ‹List Value› <;> rfl
  | d :: ds, [], a => rfl
  | d :: ds, v :: vs, a => by
    show (putAll (a.put d v) ds vs).tmps.size = _
    rw [putAll_size ds vs, put_size]
end
end Go.Proofs.YtpiicdpipjjenaaGreatDoor
namespace Go.Proofs.YtpiicdpipjjenaaGreatDoor
open Go.RowKit
set_option linter.unusedSimpArgs false
set_option linter.unusedVariables false

section
variable {P : Program}

theorem putAll_other : ∀ (ds : List (Option Tmp)) (vs : List Value) (a : Act) (s : Nat), (∀ d ∈ ds, d ≠ some s) → (putAll a ds vs).tmps[s]? = a.tmps[s]?
  | [], vs, a, s, _ => by cases vs <;> rfl
  | d :: ds, [], a, s, _ => rfl
  | d :: ds, v :: vs, a, s, h => by
    rw [putAll, putAll_other ds vs (a.put d v) s (fun x hx => h x (List.mem_cons_of_mem _ hx))]
    exact put_other a d v s (h d (by simp))
theorem putAll_defers : ∀ (ds : List (Option Tmp)) (vs : List Value) (a : Act), (putAll a ds vs).defers = a.defers
  | [], vs, a => by cases vs <;> rfl
  | d :: ds, [], a => rfl
  | d :: ds, v :: vs, a => by
    rw [putAll, putAll_defers ds vs (a.put d v)]
    unfold Act.put
    cases d <;> rfl
structure Slt (l : List Oper) (a A : Act) (lp : Array Bool) (a' : Act) : Prop where
  don : ∀ (k : Nat) (o : Oper) (s : Nat), l[k]? = some o → lp.getD k false = true → o.dst = some s → a'.tmps[s]? = A.tmps[s]?
  oth : ∀ s, (∀ (k : Nat) (o : Oper), l[k]? = some o → lp.getD k false = true → o.dst ≠ some s) → a'.tmps[s]? = a.tmps[s]?
  siz : a'.tmps.size = a.tmps.size
  dfr : a'.defers = a.defers
theorem getD_set {lp : Array Bool} {i k : Nat} (h : (lp.setIfInBounds i true).getD k false = true) : k = i ∨ lp.getD k false = true := by
  by_cases e : k = i
  · exact .inl e
  · right
    rw [Array.getD_eq_getD_getElem?] at h ⊢
    rwa [Array.getElem?_setIfInBounds_ne (by omega)] at h
theorem getD_set_same {lp : Array Bool} {i : Nat} (h : i < lp.size) : (lp.setIfInBounds i true).getD i false = true := by
  rw [Array.getD_eq_getD_getElem?, Array.getElem?_setIfInBounds_self_of_lt h]
  rfl
def valO (A : Act) (o : Oper) : Value := ((o.dst).bind fun s => A.tmps[s]?).getD undef
theorem gh_any {γ : Type} {l : List Oper} (ok : QpOk l l.length l.length) (hgd : ∀ o ∈ l, o.guard = none) (hdst : ∀ (i k : Nat) (oi ok : Oper) (s : Nat), l[i]? = some oi → l[k]? = some ok → oi.dst = some s → ok.dst = some s → i = k) {Q : Exit → Act → World → Prop} {a : Act} (A : γ → Act) (hsz : ∀ g, (A g).tmps.size = a.tmps.size) (hdf : ∀ g, (A g).defers = a.defers) (hA : ∀ g s, (∀ o ∈ l, o.dst ≠ some s) → (A g).tmps[s]? = a.tmps[s]?) (R : Array Bool → γ → World → Prop)
    (hstep : ∀ (i : Nat) (o : Oper) (lp : Array Bool) (g : γ) (w' : World) (a' : Act), l[i]? = some o → lp.size = l.length → lp.getD i false = false → (∀ e ∈ o.after, Region.binds .any e = true → lp.getD e.on false = true) → R lp g w' → Slt l a (A g) lp a' →
      ∀ (K : Act → World → Prop) Q', (∀ g' w'', (∀ (k : Nat) (o : Oper) (s : Nat), l[k]? = some o → lp.getD k false = true → o.dst = some s → (A g').tmps[s]? = (A g).tmps[s]?) → R (lp.setIfInBounds i true) g' w'' → ∀ v, valO (A g') o = v → K (a'.put o.dst v) w'') → o.wp P a' w' K Q')
    (hpost : ∀ g w', R (Array.replicate l.length true) g w' → Q .normal (A g) w') :
    ∀ (fuel : Nat) (lp : Array Bool) (g : γ) (a' : Act) (w : World), lp.size = l.length → unl lp = fuel → R lp g w → Slt l a (A g) lp a' → wpAny P .any l.toArray Q fuel lp a' w := by
  intro fuel
  have fin : ∀ (lp : Array Bool) (g : γ) (a' : Act) (w : World), lp.size = l.length → unl lp = 0 → R lp g w → Slt l a (A g) lp a' → Q .normal a' w := by
    intro lp g a' w hs hu hR hS
    have e : lp = Array.replicate l.length true := by have := unl_zero lp hu; rwa [hs] at this
    rw [e] at hR hS
    have : a' = A g := by
      have ht : a'.tmps = (A g).tmps := by
        apply Array.ext_getElem?
        intro s
        by_cases h : ∃ (k : Nat) (o : Oper), l[k]? = some o ∧ o.dst = some s
        · obtain ⟨k, o, h1, h2⟩ := h
          have hk : k < l.length := (List.getElem?_eq_some_iff.mp h1).1
          exact hS.don k o s h1 (by simp [Array.getElem?_replicate, hk]) h2
        · have h' : ∀ o ∈ l, o.dst ≠ some s := by
            intro o ho e
            obtain ⟨k, hk, rfl⟩ := List.mem_iff_getElem.mp ho
            exact h ⟨k, l[k], List.getElem?_eq_getElem hk, e⟩
          rw [hA g s h']
          exact hS.oth s (fun k o h1 _ e => h ⟨k, o, h1, e⟩)
      have hd : a'.defers = (A g).defers := by rw [hS.dfr, hdf]
      cases a'
      cases hAg : A g
      rw [hAg] at ht hd
      simp only at ht hd
      rw [ht, hd]
    rw [this]
    exact hpost g w hR
  induction fuel with
  | zero =>
    intro lp g a' w hs hu hR hS
    refine ⟨?_, fin lp g a' w hs hu hR hS⟩
    have e : lp = Array.replicate l.length true := by have := unl_zero lp hu; rwa [hs] at this
    apply List.eq_nil_iff_forall_not_mem.mpr
    intro i hi
    obtain ⟨hun, o, ho, _⟩ := mem_ready.1 hi
    have hk : i < l.length := by
      have := (Array.getElem?_eq_some_iff.mp ho).1
      simpa using this
    rw [e] at hun
    simp [Array.getElem?_replicate, hk] at hun
  | succ fuel ih =>
    intro lp g a' w hs hu hR hS
    refine ⟨fun e => ?_, fun i hi => ?_⟩
    · obtain ⟨k, hk, hf⟩ := unl_some lp fuel hu
      have hne := some_ready ok lp hs k (by omega) hf
      rw [Nat.sub_self] at hne
      exact absurd (by simpa using e) hne
    · obtain ⟨hun, o, ho, hrd⟩ := mem_ready.1 hi
      have ho' : l[i]? = some o := by simpa using ho
      have hil : i < l.length := (List.getElem?_eq_some_iff.mp ho').1
      have hun' : lp.getD i false = false := by
        rw [Array.getD_eq_getD_getElem?] at hun ⊢
        cases q : lp[i]? with
        | none => rfl
        | some b => rw [q] at hun; simpa using hun
      unfold wpOp
      simp only [ho]
      rw [if_pos (by simp [Region.wanted, hgd o (List.mem_of_getElem? ho')])]
      left
      refine hstep i o lp g w a' ho' hs hun' (fun e he hb => hrd e he hb) hR hS _ _ ?_
      intro g' w'' hsame hR' v hv
      subst hv
      refine ih _ g' _ w'' (by simp [hs]) (by have := unl_set lp i hun; omega) hR' ⟨?_, ?_, ?_, ?_⟩
      · intro k ok s hk hl hd
        rcases getD_set hl with rfl | hl'
        · have : ok = o := by rw [ho'] at hk; cases hk; rfl
          subst this
          unfold Act.put valO
          rw [hd]
          simp only [Option.bind_some]
          by_cases hlt : s < a'.tmps.size
          · rw [Array.getElem?_setIfInBounds_self_of_lt hlt]
            have h2 : s < (A g').tmps.size := by rw [hsz, ← hS.siz]; exact hlt
            rw [Array.getElem?_eq_getElem h2]
            rfl
          · rw [Array.getElem?_eq_none (by simp; omega), Array.getElem?_eq_none (by rw [hsz, ← hS.siz]; omega)]
        · rw [put_other a' o.dst _ s (fun e => by
            have := hdst k i ok o s hk ho' hd e
            subst this
            rw [hun'] at hl'
            cases hl'), hS.don k ok s hk hl' hd, hsame k ok s hk hl' hd]
      · intro s h
        have hne : o.dst ≠ some s := h i o ho' (getD_set_same (by omega))
        rw [put_other a' o.dst _ s hne]
        exact hS.oth s (fun k ok hk hl => h k ok hk (by
          by_cases e : k = i
          · subst e; exact getD_set_same (by omega)
          · rw [Array.getD_eq_getD_getElem?] at hl ⊢
            rwa [Array.getElem?_setIfInBounds_ne (by omega)]))
      · rw [put_size, hS.siz]
      · unfold Act.put
        cases o.dst <;> exact hS.dfr
def dstG (l : List Oper) : Bool := (List.range l.length).all fun i => (List.range l.length).all fun k => i == k || ((l[i]?).bind (·.dst)).isNone || ((l[i]?).bind (·.dst)) != ((l[k]?).bind (·.dst))
theorem dstG_of {l : List Oper} (h : dstG l = true) : ∀ (i k : Nat) (oi ok : Oper) (s : Nat), l[i]? = some oi → l[k]? = some ok → oi.dst = some s → ok.dst = some s → i = k := by
  intro i k oi ok s hi hk h1 h2
  have hil := (List.getElem?_eq_some_iff.mp hi).1
  have hkl := (List.getElem?_eq_some_iff.mp hk).1
  unfold dstG at h
  rw [List.all_eq_true] at h
  have := h i (List.mem_range.mpr hil)
  rw [List.all_eq_true] at this
  have := this k (List.mem_range.mpr hkl)
  rw [hi, hk] at this
  simp only [Option.bind_some, h1, h2] at this
  simpa using this
theorem gh_region {γ : Type} {id : Nat} {l : List Oper} (ok : QpOk l l.length l.length) (hgd : (l.all fun o => o.guard.isNone) = true) (hdst : dstG l = true) {Q : Exit → Act → World → Prop} {a : Act} {w : World} (ds : List (Option Tmp)) (vals : γ → List Value) (hm : P.follows .mixedOrders = true) (hds : ∀ d ∈ ds, ∃ o ∈ l, o.dst = d) (R : Array Bool → γ → World → Prop) (g0 : γ) (h0 : R (Array.replicate l.length false) g0 w.drew)
    (hstep : ∀ (i : Nat) (o : Oper) (lp : Array Bool) (g : γ) (w' : World) (a' : Act), l[i]? = some o → lp.size = l.length → lp.getD i false = false → (∀ e ∈ o.after, Region.binds .any e = true → lp.getD e.on false = true) → R lp g w' → Slt l a (putAll a ds (vals g)) lp a' →
      ∀ (K : Act → World → Prop) Q', (∀ g' w'', (∀ (k : Nat) (o : Oper) (s : Nat), l[k]? = some o → lp.getD k false = true → o.dst = some s → (putAll a ds (vals g')).tmps[s]? = (putAll a ds (vals g)).tmps[s]?) → R (lp.setIfInBounds i true) g' w'' → ∀ v, valO (putAll a ds (vals g')) o = v → K (a'.put o.dst v) w'') → o.wp P a' w' K Q')
    (hpost : ∀ g w', R (Array.replicate l.length true) g w' → Q .normal (putAll a ds (vals g)) w') : (Code.region id l.toArray true).wp P Q a w := by
  refine wp_region_any hm ?_
  have hu : unl (Array.replicate l.length false) = l.length := by unfold unl; simp
  have main := gh_any ok (fun o ho => by have := List.all_eq_true.mp hgd o ho; simpa using this) (dstG_of hdst) (A := fun g => putAll a ds (vals g)) (fun g => putAll_size _ _ _) (fun g => putAll_defers _ _ _) (fun g s h => putAll_other _ _ _ _ (fun d hd e => by obtain ⟨o, ho, hod⟩ := hds d hd; exact h o ho (by rw [hod, e]))) R hstep hpost l.length (Array.replicate l.length false) g0 a w.drew (by simp) hu h0 ⟨fun k o s hk hl => (by rw [Array.getD_eq_getD_getElem?, Array.getElem?_replicate] at hl; split at hl <;> simp at hl), fun s _ => rfl, rfl, rfl⟩
  have e1 : l.length = l.toArray.size := by simp
  rw [e1] at main
  simpa using main
end
end Go.Proofs.YtpiicdpipjjenaaGreatDoor
namespace Go.Proofs.YtpiicdpipjjenaaGreatDoor
open Go.RowKit
set_option linter.unusedSimpArgs false
set_option linter.unusedVariables false

theorem wl_nil5 {P : Program} {ops : Array Oper} {Q : Exit → Act → World → Prop} {a : Act} {w : World} (h : wpList P ops Q [] a w) : Q .normal a w := h
theorem Slt.old5 {l : List Oper} {a A : Act} {lp : Array Bool} {a' : Act} (h : Slt l a A lp a') (s : Nat) (hs : ∀ o ∈ l, o.dst ≠ some s) : a'.tmps[s]? = a.tmps[s]? := h.oth s (fun k o hk _ => hs o (List.mem_of_getElem? hk))
theorem gh_quiet5 {P : Program} {o : Oper} {a' : Act} {w' : World} {K : Act → World → Prop} {Q' : Exit → Act → World → Prop} {v : Value} (hr : (execOp a'.eval o).run P w' = .ok (.value v) w') (hK : K (a'.put o.dst v) w') : o.wp P a' w' K Q' := by
  unfold Oper.wp
  rw [hr]
  exact hK
structure R17 (B M A : World → Prop) (f : Nat → Bool) (W : World) : Prop where
  bef : f 15 = false → B W
  mid : f 15 = true → f 17 = false → M W
  aft : f 17 = true → A W
  w1 : f 15 = true → f 9 = true ∧ f 13 = true
  w2 : f 17 = true → f 15 = true
section
variable {B M A : World → Prop} {f f' : Nat → Bool} {W W' : World}
theorem R17.start (h : B W) (hf : ∀ j, f j = false) : R17 B M A f W := ⟨fun _ => h, fun q => (by rw [hf] at q; cases q), fun q => (by rw [hf] at q; cases q), fun q => (by rw [hf] at q; cases q), fun q => (by rw [hf] at q; cases q)⟩
theorem R17.load9 (k : R17 B M A f W) (h : f 9 = false) : B W := k.bef (by
  cases e : f 15 with
  | false => rfl
  | true => have := (k.w1 e).1; rw [h] at this; cases this)
theorem R17.load13 (k : R17 B M A f W) (h : f 13 = false) : B W := k.bef (by
  cases e : f 15 with
  | false => rfl
  | true => have := (k.w1 e).2; rw [h] at this; cases this)
theorem R17.quiet {i : Nat} (k : R17 B M A f W) (h1 : i ≠ 15) (h2 : i ≠ 17) (hs : f' i = true) (ho : ∀ j, j ≠ i → f' j = f j) : R17 B M A f' W := by
  have e15 := ho 15 (Ne.symm h1)
  have e17 := ho 17 (Ne.symm h2)
  have up : ∀ j, f j = true → f' j = true := fun j h => by
    by_cases e : j = i
    · rw [e]; exact hs
    · rw [ho j e]; exact h
  exact ⟨fun q => k.bef (by rw [← e15]; exact q), fun q r => k.mid (by rw [← e15]; exact q) (by rw [← e17]; exact r), fun q => k.aft (by rw [← e17]; exact q), fun q => by have := k.w1 (by rw [← e15]; exact q); exact ⟨up 9 this.1, up 13 this.2⟩, fun q => by rw [e15]; exact k.w2 (by rw [← e17]; exact q)⟩
theorem R17.st1 (k : R17 B M A f W) (h : M W') (h9 : f 9 = true) (h13 : f 13 = true) (hun : f 15 = false) (hs : f' 15 = true) (ho : ∀ j, j ≠ 15 → f' j = f j) : R17 B M A f' W' := by
  have e17 : f' 17 = false := by
    rw [ho 17 (by decide)]
    cases e : f 17 with
    | false => rfl
    | true => have := k.w2 e; rw [hun] at this; cases this
  exact ⟨fun q => (by rw [hs] at q; cases q), fun _ _ => h, fun q => (by rw [e17] at q; cases q), fun _ => ⟨by rw [ho 9 (by decide)]; exact h9, by rw [ho 13 (by decide)]; exact h13⟩, fun q => (by rw [e17] at q; cases q)⟩
theorem R17.st2 (k : R17 B M A f W) (h : A W') (h15 : f 15 = true) (hun : f 17 = false) (hs : f' 17 = true) (ho : ∀ j, j ≠ 17 → f' j = f j) : R17 B M A f' W' := by
  have e15 : f' 15 = true := by rw [ho 15 (by decide)]; exact h15
  exact ⟨fun q => (by rw [e15] at q; cases q), fun _ q => (by rw [hs] at q; cases q), fun _ => h, fun q => by have := k.w1 h15; exact ⟨by rw [ho 9 (by decide)]; exact this.1, by rw [ho 13 (by decide)]; exact this.2⟩, fun _ => e15⟩
end
end Go.Proofs.YtpiicdpipjjenaaGreatDoor
