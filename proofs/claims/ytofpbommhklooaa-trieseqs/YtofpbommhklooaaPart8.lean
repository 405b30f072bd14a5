/-
  Part 8 of the proof: 4 texts, one behind the other.
-/
import Derived.Test.YtofpbommhklooaaPart2
import Derived.Test.YtofpbommhklooaaPart1
import Derived.Test.YtofpbommhklooaaPart3
import Derived.OrdersIn
import Derived.TacticsIn
import Derived.RangeFuncSeq
import Derived.RangeFuncNested
import Derived.RangeFuncBound
import Derived.RangeFuncCalls
import Derived.RangeFuncLeaves
import Derived.Shelf.Abstract
import Derived.Shelf.RegionOpen
import Derived.WalkKit
import Derived.OwnWalkIn
import Derived.TacticsInMore
import Derived.LoopNIn
import Derived.LoopIn
/-
  The walk of Qt under a cover that no reckoning opens: for regions in which operations are passed over.
-/
namespace Go.Proofs.Ytofpbommhklooaa
open Go.RowKit
set_option linter.unusedSimpArgs false
set_option linter.unusedVariables false

structure QW (P : Program) (ops : Array Oper) (C : World → Prop) (Q : Act → Prop) (l : List Oper) (a : Act) : Prop where
  out : wpQuiet P ops C Q l a
theorem qw_run {P : Program} {ops : Array Oper} {C : World → Prop} {Q : Act → Prop} {a : Act} {o : Oper} {rest : List Oper} {v : Value}
    (hw : Region.wanted o (yielded ops a.tmps) = true) (h : ∀ w, C w → (execOp a.eval o).run P w = .ok (.value v) w) (k : QW P ops C Q rest (a.put o.dst v)) : QW P ops C Q (o :: rest) a := ⟨q_run hw h k.out⟩
theorem qw_skip {P : Program} {ops : Array Oper} {C : World → Prop} {Q : Act → Prop} {a : Act} {o : Oper} {rest : List Oper}
    (hw : Region.wanted o (yielded ops a.tmps) = false) (k : QW P ops C Q rest (a.put o.dst undef)) : QW P ops C Q (o :: rest) a := ⟨q_skip hw k.out⟩
theorem qw_call {P : Program} {ops : Array Oper} {C : World → Prop} {Q : Act → Prop} {a : Act} {o : Oper} {rest : List Oper} {v : Value} {f : FuncId} {args : Array Value}
    (hw : Region.wanted o (yielded ops a.tmps) = true) (h : ∀ w, C w → (execOp a.eval o).run P w = .ok (.enter f args) w) (hc : ∀ w, C w → Calls P f args w fun e w' => e = .returned v ∧ C w') (k : QW P ops C Q rest (a.put o.dst v)) : QW P ops C Q (o :: rest) a := ⟨q_call hw h hc k.out⟩
theorem qw_nil {P : Program} {ops : Array Oper} {C : World → Prop} {Q : Act → Prop} {a : Act} (h : Q a) : QW P ops C Q [] a := ⟨wpQuiet_nil h⟩
theorem qw_region {P : Program} {C : World → Prop} {id : Nat} {Q : Exit → Act → World → Prop} {a : Act} {w : World} {l : List Oper} (hm : P.follows .mixedOrders = true) (hB : Region.lexB .any l.toArray = true) (hC : C w.drew)
    (h : QW P l.toArray C (fun a' => ∀ w', C w' → Q .normal a' w') l a) : (Code.region id l.toArray true).wp P Q a w := q_region hm hB hC h.out
end Go.Proofs.Ytofpbommhklooaa
/-
  What a tree's questions tell: node, Hop, Height, Count, Kid.
-/
namespace Go.Proofs.Ytofpbommhklooaa
open Go.RowKit
set_option linter.unusedSimpArgs false
set_option linter.unusedVariables false

/-- A node's numbers are in their kinds' bounds. -/
def Nd.ok (x : Nd) : Prop := (0 ≤ x.word ∧ x.word ≤ 2147483647) ∧ (0 ≤ x.high ∧ x.high ≤ 2147483647) ∧ (0 ≤ x.count ∧ x.count ≤ 2147483647) ∧ (0 ≤ x.hop ∧ x.hop ≤ 65535) ∧ (0 ≤ x.length ∧ x.length ≤ 255) ∧ (0 ≤ x.height ∧ x.height ≤ 255)
theorem ndAt_ok {L : List Nd} (h : ∀ x ∈ L, x.ok) (n : Int) : (ndAt L n).ok := by
  have h0 : Nd.none.ok := by unfold Nd.none Nd.ok; decide
  unfold ndAt
  split
  · rw [List.getD_eq_getElem?_getD]
    cases e : L[n.toNat]? with
    | none => exact h0
    | some x => exact h x (List.mem_of_getElem? e)
  · exact h0
theorem ndAt_in {L : List Nd} (k : Nat) (hk : k < L.length) : ndAt L (k : Int) = L[k] := by
  unfold ndAt
  rw [if_pos (by omega), List.getD_eq_getElem?_getD, Int.toNat_natCast, List.getElem?_eq_getElem hk]
  rfl
theorem ndAt_out {L : List Nd} (n : Int) (h : isN L n = false) : ndAt L n = Nd.none := by
  unfold isN at h
  unfold ndAt
  split
  · rename_i c
    rw [List.getD_eq_getElem?_getD, List.getElem?_eq_none (by simp at h; have := h c; omega)]
    rfl
  · rfl
theorem fieldN_run (x : Nd) (w : World) : (Instr.field 77 (Nd.val x) 3).run Try.prog w = .ok (.int .u16 x.hop) w ∧ (Instr.field 77 (Nd.val x) 5).run Try.prog w = .ok (.int .u8 x.height) w ∧ (Instr.field 77 (Nd.val x) 2).run Try.prog w = .ok (.int .i32 x.count) w := by
  refine ⟨?_, ?_, ?_⟩ <;> kernel_rfl
theorem AtN.new (w : World) (B : Nat) (x : Nd) (t : TypeId) (h : B = w.heap.size) : AtN (w.alloc (.cells #[.int .i32 x.word, .int .i32 x.high, .int .i32 x.count, .int .u16 x.hop, .int .u8 x.length, .int .u8 x.height] t)) B 0 x := by
  subst h
  refine ⟨?_, ?_, ?_, ?_, ?_, ?_⟩ <;> simp [go_sem]
set_option maxRecDepth 20000 in
set_option maxHeartbeats 2000000 in
theorem tnode_any (B : Nat) (F : Int) (g cap : Nat) (wv : Value) (L : List Nd) (n : Int) (w : World) (h : TrN w B F g cap wv L) :
    Calls Try.prog 34 #[.pointer (some ⟨B, 0, none⟩), .int .i64 n] w fun e w' => e = .returned (ndAt L n).val ∧ Below w.heap.size w w' := by
  have q0 := bl1 w (.cells #[.int .i32 0, .int .i32 0, .int .i32 0, .int .u16 0, .int .u8 0, .int .u8 0] 77)
  have KH := thas_any B F g cap wv L n _ (h.below q0)
  have h1 := h.below q0
  cases c : isN L n with
  | false =>
    rw [ndAt_out n c]
    rw [c] at KH
    have hz : Nd.none.val = .agg #[.int .i32 0, .int .i32 0, .int .i32 0, .int .u16 0, .int .u8 0, .int .u8 0] := rfl
    rw [hz]
    clear h h1 q0 hz
    go_enter Try.func34, Try.ntmps34
    go_wp2_with fail
    refine KH.mono ?_
    rintro e w1 ⟨rfl, rfl⟩
    go_wp2
    exact bodyPost_ret (v := .agg #[.int .i32 0, .int .i32 0, .int .i32 0, .int .u16 0, .int .u8 0, .int .u8 0]) (by simp [results, Try.results34, go_sem, *]) rfl ⟨rfl, bl1 _ _⟩
  | true =>
    have c1 : 0 ≤ n ∧ n < L.length := by unfold isN at c; simpa using c
    obtain ⟨k, rfl⟩ : ∃ k : Nat, n = k := ⟨n.toNat, by omega⟩
    have hk : k < L.length := by omega
    rw [ndAt_in k hk]
    rw [c] at KH
    have hn := h1.n
    obtain ⟨r0, r1, r2, r3, r4, r5⟩ := h1.row k hk
    generalize L[k] = x at *
    unfold Nd.val
    clear h h1 c
    generalize L.length = m at *
    have hkm : (k : Int) < m := by omega
    go_enter Try.func34, Try.ntmps34
    go_wp2_with fail
    refine KH.mono ?_
    rintro e w1 ⟨rfl, rfl⟩
    go_wp2
    exact bodyPost_ret (v := .agg #[.int .i32 x.word, .int .i32 x.high, .int .i32 x.count, .int .u16 x.hop, .int .u8 x.length, .int .u8 x.height]) (by simp [results, Try.results34, go_sem, *]) rfl ⟨rfl, bl1 _ _⟩
set_option maxRecDepth 20000 in
set_option maxHeartbeats 1000000 in
theorem thop_any (B : Nat) (F : Int) (g cap : Nat) (wv : Value) (L : List Nd) (n : Int) (w : World) (h : TrN w B F g cap wv L) (ho : ∀ x ∈ L, x.ok) :
    Calls Try.prog 16 #[.pointer (some ⟨B, 0, none⟩), .int .i64 n] w fun e w' => e = .returned (.int .i64 (ndAt L n).hop) ∧ Below w.heap.size w w' := by
  have KN := tnode_any B F g cap wv L n w h
  have ok := ndAt_ok ho n
  clear h ho
  generalize ndAt L n = x at *
  have hw : IntKind.i64.wrap x.hop = x.hop := by unfold Nd.ok at ok; rw [IntKind.wrap_i64]; omega
  obtain ⟨f1, f2, f3⟩ : (∀ w, (Instr.field 77 (Nd.val x) 3).run Try.prog w = .ok (.int .u16 x.hop) w) ∧ (∀ w, (Instr.field 77 (Nd.val x) 5).run Try.prog w = .ok (.int .u8 x.height) w) ∧ (∀ w, (Instr.field 77 (Nd.val x) 2).run Try.prog w = .ok (.int .i32 x.count) w) := ⟨fun w => (fieldN_run x w).1, fun w => (fieldN_run x w).2.1, fun w => (fieldN_run x w).2.2⟩
  unfold Nd.val at KN f1 f2 f3
  go_enter Try.func16, Try.ntmps16
  go_wp2_with fail
  refine KN.mono ?_
  rintro e w1 ⟨rfl, hb⟩
  go_wp2
  exact bodyPost_ret (v := .int .i64 x.hop) (by simp [results, Try.results16, go_sem, *]) rfl ⟨rfl, hb⟩
set_option maxRecDepth 20000 in
set_option maxHeartbeats 1000000 in
theorem thei_any (B : Nat) (F : Int) (g cap : Nat) (wv : Value) (L : List Nd) (n : Int) (w : World) (h : TrN w B F g cap wv L) (ho : ∀ x ∈ L, x.ok) :
    Calls Try.prog 19 #[.pointer (some ⟨B, 0, none⟩), .int .i64 n] w fun e w' => e = .returned (.int .i64 (ndAt L n).height) ∧ Below w.heap.size w w' := by
  have KN := tnode_any B F g cap wv L n w h
  have ok := ndAt_ok ho n
  clear h ho
  generalize ndAt L n = x at *
  have hw : IntKind.i64.wrap x.height = x.height := by unfold Nd.ok at ok; rw [IntKind.wrap_i64]; omega
  obtain ⟨f1, f2, f3⟩ : (∀ w, (Instr.field 77 (Nd.val x) 3).run Try.prog w = .ok (.int .u16 x.hop) w) ∧ (∀ w, (Instr.field 77 (Nd.val x) 5).run Try.prog w = .ok (.int .u8 x.height) w) ∧ (∀ w, (Instr.field 77 (Nd.val x) 2).run Try.prog w = .ok (.int .i32 x.count) w) := ⟨fun w => (fieldN_run x w).1, fun w => (fieldN_run x w).2.1, fun w => (fieldN_run x w).2.2⟩
  unfold Nd.val at KN f1 f2 f3
  go_enter Try.func19, Try.ntmps19
  go_wp2_with fail
  refine KN.mono ?_
  rintro e w1 ⟨rfl, hb⟩
  go_wp2
  exact bodyPost_ret (v := .int .i64 x.height) (by simp [results, Try.results19, go_sem, *]) rfl ⟨rfl, hb⟩
/-- A node's kid. -/
def kidV (L : List Nd) (n bit : Int) : Int := if bit = 0 ∧ 0 < (ndAt L n).height ∧ n + 1 ≠ (ndAt L n).high then n + 1 else if bit = 1 ∧ 0 < (ndAt L n).high then (ndAt L n).high else -1
def CK (w1 : World) (N : Nat) (x : Nd) (W : World) : Prop := AtN W N 0 x ∧ Below w1.heap.size w1 W
set_option maxRecDepth 20000 in
set_option maxHeartbeats 4000000 in
theorem tkid_any (B : Nat) (F : Int) (g cap : Nat) (wv : Value) (L : List Nd) (n bit : Int) (w : World) (h : TrN w B F g cap wv L) (ho : ∀ x ∈ L, x.ok) (hl : L.length ≤ 2147483647) :
    Calls Try.prog 20 #[.pointer (some ⟨B, 0, none⟩), .int .i64 n, .int .i64 bit] w fun e w' => e = .returned (.int .i64 (kidV L n bit)) ∧ Below w.heap.size w w' := by
  have KN := tnode_any B F g cap wv L n w h
  have ok := ndAt_ok ho n
  have hv : kidV L n bit = if bit = 0 ∧ 0 < (ndAt L n).height ∧ IntKind.i64.wrap (n + 1) ≠ (ndAt L n).high then IntKind.i64.wrap (n + 1) else if bit = 1 ∧ 0 < (ndAt L n).high then (ndAt L n).high else -1 := by
    unfold kidV
    cases c : isN L n with
    | false => rw [ndAt_out n c]; simp [Nd.none]
    | true =>
      have c1 : 0 ≤ n ∧ n < L.length := by unfold isN at c; simpa using c
      rw [show IntKind.i64.wrap (n + 1) = n + 1 by rw [IntKind.wrap_i64]; omega]
  rw [hv]
  clear h ho hl hv
  revert KN ok
  generalize ndAt L n = x
  generalize hb : IntKind.i64.wrap (n + 1) = b
  intro KN ok
  obtain ⟨r, hr⟩ : ∃ r : Int, r = if bit = 0 ∧ 0 < x.height ∧ b ≠ x.high then b else if bit = 1 ∧ 0 < x.high then x.high else -1 := ⟨_, rfl⟩
  rw [← hr]
  have HR : Hid (r = if bit = 0 ∧ 0 < x.height ∧ b ≠ x.high then b else if bit = 1 ∧ 0 < x.high then x.high else -1) := hr
  clear hr
  have hw : IntKind.i64.wrap x.high = x.high := by unfold Nd.ok at ok; rw [IntKind.wrap_i64]; omega
  unfold Nd.val at KN
  go_enter Try.func20, Try.ntmps20
  go_wp2_with fail
  refine KN.mono ?_
  rintro e w1 ⟨rfl, hb1⟩
  have q1 := bl1 w1 (.cells #[.int .i32 x.word, .int .i32 x.high, .int .i32 x.count, .int .u16 x.hop, .int .u8 x.length, .int .u8 x.height] 77)
  have hC : CK (w1.alloc (.cells #[.int .i32 x.word, .int .i32 x.high, .int .i32 x.count, .int .u16 x.hop, .int .u8 x.length, .int .u8 x.height] 77)) w1.heap.size x (w1.alloc (.cells #[.int .i32 x.word, .int .i32 x.high, .int .i32 x.count, .int .u16 x.hop, .int .u8 x.length, .int .u8 x.height] 77)) := ⟨AtN.new w1 w1.heap.size x 77 rfl, Below.refl _ _⟩
  have HB : Hid (Below w.heap.size w (w1.alloc (.cells #[.int .i32 x.word, .int .i32 x.high, .int .i32 x.count, .int .u16 x.hop, .int .u8 x.length, .int .u8 x.height] 77))) := keepb q1 hb1
  clear KN hb1 q1 ok
  go_wp2_with fail
  revert hC HB
  generalize w1.alloc (.cells #[.int .i32 x.word, .int .i32 x.high, .int .i32 x.count, .int .u16 x.hop, .int .u8 x.length, .int .u8 x.height] 77) = W2
  generalize w1.heap.size = N
  intro hC HB
  refine qw_region (C := CK W2 N x) (by kernel_rfl) (by kernel_rfl) ⟨hC.1.below (below_drewN (Below.refl _ _) 1), below_drewN (Below.refl _ _) 1⟩ ?_
  clear hC
  refine qw_run (v := .int .i64 n) (by rfl) ?_ ?_
  · (intro w1 hC; obtain ⟨⟨r0, r1, r2, r3, r4, r5⟩, -⟩ := hC; go_simp; first | done | (simp; done) | (simp [*]; done) | omega | (simp; omega) | (rw [IntKind.wrap_i64]; omega) | (intro hx; omega) | rfl)
  simp only [Act.put, List.setIfInBounds_toArray, List.set_cons_zero, List.set_cons_succ]
  refine qw_run (v := .int .i64 b) (by rfl) ?_ ?_
  · (intro w1 hC; obtain ⟨⟨r0, r1, r2, r3, r4, r5⟩, -⟩ := hC; go_simp; first | done | (simp; done) | (simp [*]; done) | omega | (simp; omega) | (rw [IntKind.wrap_i64]; omega) | (intro hx; omega) | rfl)
  simp only [Act.put, List.setIfInBounds_toArray, List.set_cons_zero, List.set_cons_succ]
  refine qw_run (v := .pointer (some ⟨N, 1, none⟩)) (by rfl) ?_ ?_
  · (intro w1 hC; obtain ⟨⟨r0, r1, r2, r3, r4, r5⟩, -⟩ := hC; go_simp; first | done | (simp; done) | (simp [*]; done) | omega | (simp; omega) | (rw [IntKind.wrap_i64]; omega) | (intro hx; omega) | rfl)
  simp only [Act.put, List.setIfInBounds_toArray, List.set_cons_zero, List.set_cons_succ]
  refine qw_run (v := .int .i32 x.high) (by rfl) ?_ ?_
  · (intro w1 hC; obtain ⟨⟨r0, r1, r2, r3, r4, r5⟩, -⟩ := hC; go_simp; first | done | (simp; done) | (simp [*]; done) | omega | (simp; omega) | (rw [IntKind.wrap_i64]; omega) | (intro hx; omega) | rfl)
  simp only [Act.put, List.setIfInBounds_toArray, List.set_cons_zero, List.set_cons_succ]
  refine qw_run (v := .int .i64 x.high) (by rfl) ?_ ?_
  · (intro w1 hC; obtain ⟨⟨r0, r1, r2, r3, r4, r5⟩, -⟩ := hC; go_simp; first | done | (simp; done) | (simp [*]; done) | omega | (simp; omega) | (rw [IntKind.wrap_i64]; omega) | (intro hx; omega) | rfl)
  simp only [Act.put, List.setIfInBounds_toArray, List.set_cons_zero, List.set_cons_succ]
  refine qw_run (v := .int .i64 b) (by rfl) ?_ ?_
  · (intro w1 hC; obtain ⟨⟨r0, r1, r2, r3, r4, r5⟩, -⟩ := hC; go_simp; first | done | (simp; done) | (simp [*]; done) | omega | (simp; omega) | (rw [IntKind.wrap_i64]; omega) | (intro hx; omega) | rfl)
  simp only [Act.put, List.setIfInBounds_toArray, List.set_cons_zero, List.set_cons_succ]
  refine qw_run (v := .int .i64 x.high) (by rfl) ?_ ?_
  · (intro w1 hC; obtain ⟨⟨r0, r1, r2, r3, r4, r5⟩, -⟩ := hC; go_simp; first | done | (simp; done) | (simp [*]; done) | omega | (simp; omega) | (rw [IntKind.wrap_i64]; omega) | (intro hx; omega) | rfl)
  simp only [Act.put, List.setIfInBounds_toArray, List.set_cons_zero, List.set_cons_succ]
  refine qw_nil ?_
  rintro W3 ⟨⟨r0, r1, r2, r3, r4, r5⟩, hb3⟩
  have HB3 : Hid (Below w.heap.size w W3) := keepb hb3 HB.out
  clear hb3 HB hb hw
  cases e1 : (bit == 0) with
  | true =>
    obtain rfl : bit = 0 := by simpa using e1
    clear e1
    cases e2 : decide (0 < x.height) with
    | true =>
      have e2' : 0 < x.height := by simpa using e2
      cases e3 : (b != x.high) with
      | true =>
        have e3' : b ≠ x.high := by simpa using e3
        obtain rfl : r = b := by rw [HR.out, if_pos ⟨rfl, e2', e3'⟩]
        clear HR
        clear e2' e3'
        go_wp2
        exact bodyPost_ret (v := .int .i64 r) (by simp [results, Try.results20, go_sem, *]) rfl ⟨rfl, HB3.out⟩
      | false =>
        have e3' : b = x.high := by simpa using e3
        obtain rfl : r = -1 := by rw [HR.out, if_neg (fun q => q.2.2 e3'), if_neg (fun q => by omega)]
        clear HR
        clear e2' e3'
        go_wp2
        exact bodyPost_ret (v := .int .i64 (-1)) (by simp [results, Try.results20, go_sem, *]) rfl ⟨rfl, HB3.out⟩
    | false =>
      have e2' : ¬ 0 < x.height := by simpa using e2
      obtain rfl : r = -1 := by rw [HR.out, if_neg (fun q => e2' q.2.1), if_neg (fun q => by omega)]
      clear HR
      clear e2'
      go_wp2
      exact bodyPost_ret (v := .int .i64 (-1)) (by simp [results, Try.results20, go_sem, *]) rfl ⟨rfl, HB3.out⟩
  | false =>
    have e1' : ¬ bit = 0 := by simpa using e1
    have HR2 : Hid (r = if bit = 1 ∧ 0 < x.high then x.high else -1) := by show r = _; rw [HR.out, if_neg (fun q => e1' q.1)]
    clear HR
    cases e4 : (bit == 1) with
    | true =>
      have e4' : bit = 1 := by simpa using e4
      cases e5 : decide (0 < x.high) with
      | true =>
        have e5' : 0 < x.high := by simpa using e5
        obtain rfl : r = x.high := by rw [HR2.out, if_pos ⟨e4', e5'⟩]
        clear HR2
        clear e1' e4' e5'
        go_wp2
        exact bodyPost_ret (v := .int .i64 x.high) (by simp [results, Try.results20, go_sem, *]) rfl ⟨rfl, HB3.out⟩
      | false =>
        have e5' : ¬ 0 < x.high := by simpa using e5
        obtain rfl : r = -1 := by rw [HR2.out, if_neg (fun q => e5' q.2)]
        clear HR2
        clear e1' e4' e5'
        go_wp2
        exact bodyPost_ret (v := .int .i64 (-1)) (by simp [results, Try.results20, go_sem, *]) rfl ⟨rfl, HB3.out⟩
    | false =>
      have e4' : ¬ bit = 1 := by simpa using e4
      obtain rfl : r = -1 := by rw [HR2.out, if_neg (fun q => e4' q.1)]
      clear HR2
      clear e1' e4'
      go_wp2
      exact bodyPost_ret (v := .int .i64 (-1)) (by simp [results, Try.results20, go_sem, *]) rfl ⟨rfl, HB3.out⟩
end Go.Proofs.Ytofpbommhklooaa
/-
  A region that draws its order and calls a loop's body (yield): what stands ahead of that call is quiet, in whatever order; behind it all stands in order.
-/
namespace Go.Proofs.Ytofpbommhklooaa
open Go.RowKit
set_option linter.unusedSimpArgs false
set_option linter.unusedVariables false

section
variable {P : Program}

theorem oper_wide {n : Nat} {o : Oper} {a : Act} {w : World} {K : Act → World → Prop} {Q : Exit → Act → World → Prop} (h : o.wp P a w K Q) : o.wpIn Fence.wide n P a w K Q := by
  refine ⟨fun _ _ => trivial, ?_⟩
  rw [Fence.wide_round, Oper.semAt_none]
  unfold Oper.wp Oper.upon at h
  unfold Oper.uponIn
  cases hr : (execOp a.eval o).run P w with
  | ok x w' =>
    rw [hr] at h
    cases x with
    | value v => exact h
    | skip => exact h
    | defer d => exact h
    | enter f args => exact ⟨fun q => (by cases q), callsIn_wide.2 h⟩
    | row r args => exact ⟨fun q => (by cases q), fun c cs _ => let ⟨v, w'', r', s⟩ := h c cs; ⟨v, w'', r', stepsIn_wide.2 s⟩⟩
    | _ => exact h.elim
  | halt x w' =>
    rw [hr] at h
    cases x with
    | panic v => exact h
    | _ => exact h.elim
theorem any_seqIn {n : Nat} {md : Region.Mode} {ops : Array Oper} {Q : Exit → Act → World → Prop} : ∀ (l : List Oper) (k : Nat) (listed : Array Bool) (a : Act) (w : World), (∀ i, l[i]? = ops[k + i]?) → seqB md ops l.length k listed = true →
    wpListIn Fence.wide n P ops Q l a w → wpAnyIn Fence.wide n P md ops Q l.length listed a w
  | [], k, listed, a, w, _, hB, h => by
    simp only [List.length_nil, seqB, beq_iff_eq] at hB
    exact ⟨hB, h⟩
  | o :: l, k, listed, a, w, hl, hB, h => by
    simp only [List.length_cons, seqB, Bool.and_eq_true, beq_iff_eq] at hB
    refine ⟨fun e => (by rw [hB.1] at e; cases e), fun i hi => ?_⟩
    rw [hB.1] at hi
    have e : i = k := by simpa using hi
    subst e
    have h0 : ops[i]? = some o := by simpa using (hl 0).symm
    unfold wpOpIn
    simp only [h0]
    have ih : ∀ a w, wpListIn Fence.wide n P ops Q l a w → wpAnyIn Fence.wide n P md ops Q l.length (listed.setIfInBounds i true) a w := fun a w h => any_seqIn l (i + 1) (listed.setIfInBounds i true) a w (fun q => by have := hl (q + 1); simpa [Nat.add_assoc, Nat.add_comm 1 q] using this) hB.2 h
    unfold wpListIn at h
    split
    · rename_i hw
      rw [if_pos hw] at h
      exact Oper.wpIn_mono ih h
    · rename_i hw
      rw [if_neg hw] at h
      exact ⟨h.1, ih _ _ h.2⟩
theorem wpIn_of_yields {n : Nat} {ops ops' : Array Oper} {C : World → Prop} {Q : Exit → Act → World → Prop} {i : Nat} {o : Oper} {v : Value} {a : Act} {w : World} {K : Act → World → Prop} (ho : ops[i]? = some o) (hw : Region.wanted o (yielded ops' a.tmps) = Region.wanted o (yielded ops a.tmps))
    (hy : YieldsIn P ops' C o v a) (hC : C w) (h : ∀ w', C w' → K (a.put o.dst v) w') : wpOpIn Fence.wide n P ops Q i K a w := by
  unfold wpOpIn
  simp only [ho]
  rcases hy with ⟨h1, h2⟩ | ⟨h1, h2⟩
  · rw [if_pos (by rw [← hw]; exact h1)]
    exact oper_wide (Oper.wp_of_quiet (K := fun a' => a' = a.put o.dst v) hC (fun a' w' hw' e => by rw [e]; exact h w' hw') ⟨v, h2, rfl⟩)
  · rw [if_neg (by rw [← hw, h1]; decide)]
    refine ⟨fun _ _ => trivial, ?_⟩
    rw [← h2]
    exact h w hC
theorem done_anyIn {n : Nat} {l : List Oper} {m j : Nat} (ok : QpOk l m j) {C : World → Prop} {N : Value} {A : Act} {Q : Exit → Act → World → Prop}
    (hpost : ∀ w, C w → wpListIn Fence.wide n P l.toArray Q (l.drop m) A w) : ∀ (fuel : Nat) (lp : Array Bool) (a : Act) (w : World), lp.size = m → unl lp = fuel → (j < m → lp.getD j false = true) → C w →
      wpAnyQ P .any (rep (l.take m) j N).toArray C (fun a' => a' = A) fuel lp a → wpAnyIn Fence.wide n P .any l.toArray Q (fuel + (l.length - m)) (lp ++ Array.replicate (l.length - m) false) a w := by
  intro fuel
  induction fuel with
  | zero =>
    intro lp a w hs hu hj hC h
    rw [h.2, unl_zero lp hu, hs, Nat.zero_add, show l.length - m = (l.drop m).length by simp]
    refine any_seqIn (l.drop m) m _ A w (fun i => by simp) ?_ (hpost w hC)
    have := ok.seq
    rwa [show l.length - m = (l.drop m).length by simp] at this
  | succ fuel ih =>
    intro lp a w hs hu hj hC h
    rw [show fuel + 1 + (l.length - m) = (fuel + (l.length - m)) + 1 by omega]
    have key : ∀ i ∈ Region.ready .any l.toArray (lp ++ Array.replicate (l.length - m) false), wpOpIn Fence.wide n P l.toArray Q i (wpAnyIn Fence.wide n P .any l.toArray Q (fuel + (l.length - m)) ((lp ++ Array.replicate (l.length - m) false).setIfInBounds i true)) a w := by
      intro i hi
      obtain ⟨him, hir⟩ := ready_pre l m j N ok.ml ok.wait lp hs fuel hu i hi
      obtain ⟨hun, _⟩ := mem_ready.1 hir
      have hij : i ≠ j := by
        intro e
        subst e
        have hj := hj him
        rw [Array.getD_eq_getD_getElem?] at hun hj
        cases q : lp[i]? with
        | none => rw [q] at hun; simp at hun
        | some b => rw [q] at hun hj; simp at hun hj; rw [hun] at hj; cases hj
      obtain ⟨_, o, ho, _⟩ := mem_ready.1 hi
      have ho' : l[i]? = some o := by simpa using ho
      have hor : (rep (l.take m) j N).toArray[i]? = some o := by
        simp only [List.getElem?_toArray]
        rw [rep_ne _ _ _ _ hij, List.getElem?_take, if_pos him]; exact ho'
      obtain ⟨v, hy, hK⟩ := yieldsIn_of_qOp hor (h.2 i hir)
      refine wpIn_of_yields ho (wanted_rep l m j N a o o rfl (ok.guards i o ho')) hy hC (fun w' hw' => ?_)
      rw [set_app lp _ i (by omega)]
      refine ih _ _ w' (by simp [hs]) (by have := unl_set lp i hun; omega) ?_ hw' hK
      exact fun q => getD_set_true (hj q)
    refine ⟨fun e => ?_, key⟩
    obtain ⟨k, hk, hf⟩ := unl_some lp fuel hu
    exact absurd e (some_ready ok lp hs k (by omega) hf)
/-- The law. -/
theorem yd_region {id : Nat} {l : List Oper} (n m : Nat) (ok : QpOk l m m) {C : World → Prop} {Q : Exit → Act → World → Prop} {a : Act} {w : World} (ds : List (Option Tmp)) (vals : List Value) (hm : P.follows .mixedOrders = true)
    (hC : C w.drew) (hwalk : wpQuiet P (l.take m).toArray C (fun a' => a' = putAll a ds vals) (l.take m) a) (hpost : ∀ w, C w → wpListIn Fence.wide n P l.toArray Q (l.drop m) (putAll a ds vals) w) : (Code.region id l.toArray true).wp P Q a w := by
  refine (wpIn_wide (n := n)).1 ?_
  refine wpIn_region_any hm ?_
  have hml := ok.ml
  have hlen : (l.take m).length = m := by rw [List.length_take]; omega
  have any : wpAnyQ P .any (l.take m).toArray C (fun a' => a' = putAll a ds vals) m (Array.replicate m false) a := by
    have hB := ok.lex undef
    rw [rep_out _ _ _ (by omega)] at hB
    simp only [Region.lexB, Bool.and_eq_true] at hB
    have := wpAnyQ_lex (C := C) (md := .any) hB.1 (l.take m) 0 (Array.replicate m false) a (by simp) (by have := hB.2; simpa [hlen, hml] using this) hwalk
    rwa [hlen] at this
  have hu : unl (Array.replicate m false) = m := by unfold unl; simp
  have main := done_anyIn (P := P) (n := n) (N := undef) ok hpost m (Array.replicate m false) a w.drew (by simp) hu (fun q => absurd q (Nat.lt_irrefl _)) hC (by rw [rep_out _ _ _ (by omega)]; exact any)
  have e1 : m + (l.length - m) = l.toArray.size := by simp; omega
  have e2 : Array.replicate m false ++ Array.replicate (l.length - m) false = Array.replicate l.toArray.size false := by
    rw [Array.replicate_append_replicate]; congr 1
  rw [e1, e2] at main
  exact main
/-- The call of the body itself, the rest plain. -/
theorem yd_call {n : Nat} {ops : Array Oper} {Q : Exit → Act → World → Prop} {a : Act} {w : World} {o : Oper} {rest : List Oper} {l : Nat} {args : Array Value} {R : Ending → World → Prop} (hgd : o.guard = none)
    (hy : YieldAt Fence.wide (n - 1) P l args w R) (hex : ∀ r, (Instr.yield l args).run P w = r → (execOp a.eval o).run P w = r) (hR : ∀ e w', R e w' → (∃ v, e = .returned v ∧ wpListIn Fence.wide n P ops Q rest (a.put o.dst v) w')) : wpListIn Fence.wide n P ops Q (o :: rest) a w := by
  obtain ⟨fn, tmps, assign, body, h1, h2⟩ := hy
  have h3 := hex _ h1
  unfold wpListIn
  rw [if_pos (by simp [Region.wanted, hgd])]
  refine ⟨fun _ _ => trivial, ?_⟩
  rw [Fence.wide_round, Oper.semAt_none, h3]
  refine ⟨fun q => (by cases q), h2.mono ?_⟩
  intro e w' hr
  obtain ⟨v, rfl, hv⟩ := hR e w' hr
  exact hv
theorem yd_plain {n : Nat} {ops : Array Oper} {Q : Exit → Act → World → Prop} {a : Act} {w : World} {o : Oper} {rest : List Oper} {v : Value} (hgd : o.guard = none) (hex : (execOp a.eval o).run P w = .ok (.value v) w) (h : wpListIn Fence.wide n P ops Q rest (a.put o.dst v) w) : wpListIn Fence.wide n P ops Q (o :: rest) a w := by
  unfold wpListIn
  rw [if_pos (by simp [Region.wanted, hgd])]
  refine ⟨fun _ _ => trivial, ?_⟩
  rw [Fence.wide_round, Oper.semAt_none, hex]
  exact h
end
end Go.Proofs.Ytofpbommhklooaa
/-
  A range over a function whose sequence ranges over another one within: a contract and a law.
-/
namespace Go.Proofs.Ytofpbommhklooaa
open Go.RowKit Go.Shelf
set_option linter.unusedSimpArgs false
set_option linter.unusedVariables false

section
variable {P : Program}
/-- What a sequence tells, of rounds whose invariant abides a turn of whatever later block that holds no cells. -/
def SeqX {α : Type} (n : Nat) (P : Program) (g : Nat) (lb : Array Value) (encs : α → Array Value) (Kp : World → World → Prop) (S Sp : List α → Prop) (Bd : Nat) (w : World) : Prop :=
  ∀ (l : Nat) (J Jx : List α → World → Prop) (W : World), Below w.heap.size w W → Bd ≤ W.heap.size → OwnFrom W.heap.size J → OwnFrom W.heap.size Jx →
    (∀ pre x V, J pre V → Sp (pre ++ [x]) → YieldAt Fence.wide (n - 1) P l (encs x) V fun e V' => (e = .returned (.bool true) ∧ J (pre ++ [x]) V' ∧ Kp V V') ∨ (e = .returned (.bool false) ∧ Jx (pre ++ [x]) V' ∧ Kp V V')) →
    J [] W → CallsIn Fence.wide n P g (#[.func (.yield l) #[] #[]] ++ lb) W fun e W' => (∃ v, e = .returned v) ∧ ((∃ xs, S xs ∧ J xs W') ∨ (∃ pre, Sp pre ∧ Jx pre W'))
/-- How the body of a round may be left. -/
def postX {α : Type} (B : Nat) (Kp : World → World → Prop) (I : List α → World → Prop) (Ix : Code → List α → World → Prop) (xs : List α) (W : World) : Exit → Act → World → Prop
  | .normal, _, W' => KeepsFrom B W W' ∧ Kp W W' ∧ I xs W'
  | .ret, _, W' => KeepsFrom B W W' ∧ Kp W W' ∧ Ix .ret xs W'
  | .exit id, _, W' => KeepsFrom B W W' ∧ Kp W W' ∧ Ix (.exit id) xs W'
  | .goto t, _, W' => KeepsFrom B W W' ∧ Kp W W' ∧ Ix (.goto t) xs W'
  | .panic _, _, _ => False
  | .outgrown, _, _ => False
theorem postX_out {α : Type} {B : Nat} {Kp : World → World → Prop} {I : List α → World → Prop} {Ix : Code → List α → World → Prop} {xs : List α} {W : World} : ¬ LetsOut (postX B Kp I Ix xs W) := fun ⟨_, _, h⟩ => h
/-- What stands in the loop's two blocks between two rounds. -/
structure Bk (B : Nat) (r : Loop) (W : World) : Prop where
  rec' : W.heap[B + 1]? = some (.loop r)
  dfr : W.heap[B]? = some (.deferred (some []))
theorem Bk.lt {B : Nat} {r : Loop} {W : World} (k : Bk B r W) : B + 1 < W.heap.size := (Array.getElem?_eq_some_iff.1 k.rec').1
theorem Bk.from {B : Nat} {r : Loop} {W W' : World} (k : Bk B r W) (h : KeepsFrom B W W') : Bk B r W' := ⟨h.same _ _ (by omega) k.rec' rfl, h.same _ _ (Nat.le_refl _) k.dfr rfl⟩
theorem Bk.turn {B : Nat} {r : Loop} {W : World} (k : Bk B r W) (r' : Loop) : Bk B r' (W.putObj (B + 1) (.loop r')) := ⟨World.putObj_heap_same k.lt, (World.putObj_heap_other (by omega)).trans k.dfr⟩
theorem Bk.grown {B : Nat} {r : Loop} {W W' : World} {row : Option Nat} (k : Bk B r W) (h : W.grownBy W' row) (hr : ∀ z, row = some z → B + 2 ≤ z) : Bk B r W' := by
  have hl := k.lt
  exact ⟨(h.block _ hl (fun e => by have := hr _ e.symm; omega)).trans k.rec', (h.block _ (by omega) (fun e => by have := hr _ e.symm; omega)).trans k.dfr⟩
/-- How a round is left. -/
theorem bk_end {B : Nat} {r : Loop} {W : World} (k : Bk B r W) (jump : Option Code) : (Instr.endRound (B + 1) jump).run P W = .ok (.bool jump.isNone) (W.putObj (B + 1) (.loop { r with state := if jump.isNone then .ready else .done, pending := jump })) := run_endRound jump k.rec'
/-- The law. -/
theorem rangeX {α : Type} {g : Operand} {ps : Array Tmp} {assign body : Code} {Q : Exit → Act → World → Prop} {a : Act} {w : World} (n : Nat) (h1 : 1 ≤ n) {gf : Nat} {lb : Array Value} (hg : a.eval g = .func (.func gf) #[] lb) (eg : ∀ args w, (callFunc gf args).run P w = .ok (.enter gf args) w)
    {encs : α → Array Value} {Kp : World → World → Prop} {S Sp : List α → Prop} {Bd : Nat} {w0 : World} (hseq : SeqX (n - 1) P gf lb encs Kp S Sp Bd w0) (hBd : Bd ≤ w.heap.size + 2)
    (hKt : ∀ {A B C : World}, Kp A B → Kp B C → Kp A C) (hKb : ∀ (W : World) (o o' : Obj), W.heap[w.heap.size + 1]? = some o → o.isCells = false → Kp W (W.putObj (w.heap.size + 1) o')) (hb0 : Below w0.heap.size w0 w) (hps : ∀ x, (encs x).size = ps.size)
    (I : List α → World → Prop) (Ix : Code → List α → World → Prop) (hI : OwnFrom w.heap.size I) (hIx : ∀ c, OwnFrom w.heap.size (Ix c)) (h0 : I [] w) (Ax : α → Act → World → Prop) (hAx : ∀ x a', OwnFrom w.heap.size (fun (_ : Unit) W => Ax x a' W))
    (hassign : ∀ (l : Nat) (pre : List α) (x : α) (W : World) (K : Act → World → Prop), I pre W → (∀ a' W', KeepsFrom w.heap.size W W' → Kp W W' → I pre W' → Ax x a' W' → K a' W') →
      assign.wpIn (Fence.wide.inRound l) (n - 1 - 1) P (Exit.then K (fun _ _ _ => False)) { tmps := (ps.zip (encs x)).foldl (fun t (p, v) => t.setIfInBounds p v) a.tmps, defers := [] } W)
    (hbody : ∀ (l : Nat) (pre : List α) (x : α) (a' : Act) (W : World), w.heap.size ≤ l → (∃ r, W.heap[l]? = some (.loop r)) → I pre W → Ax x a' W → Sp (pre ++ [x]) → body.wpIn (Fence.wide.inRound l) (n - 1 - 1) P (postX w.heap.size Kp I Ix (pre ++ [x]) W) a' W)
    (hdone : ∀ (D : Nat) (xs : List α) (W : World), w.heap.size ≤ D → S xs → I xs W → W.heap[D]? = some (.deferred (some [])) → Q .normal { a with defers := { target := .collected D, args := #[] } :: a.defers } W)
    (hstop : ∀ (D : Nat) (c : Code) (pre : List α) (W : World), w.heap.size ≤ D → Sp pre → Ix c pre W → W.heap[D]? = some (.deferred (some [])) → c.wpIn Fence.wide n P Q { a with defers := { target := .collected D, args := #[] } :: a.defers } W) :
    (Code.rangeFunc g ps assign body).wpIn Fence.wide n P Q a w := by
  refine wpIn_rangeFunc (fun fn hfn => ?_)
  rw [Fence.wide_round]
  -- the record, by its state and its pending jump
  obtain ⟨rc, hrc⟩ : ∃ rc : LoopState → Option Code → Loop, ∀ s p, rc s p = { state := s, pending := p, fn, tmps := a.tmps, params := ps, assign, body, defers := w.heap.size } := ⟨_, fun _ _ => rfl⟩
  have bw := bl1 w (.deferred (some []))
  have bw2 := bl1 (w.alloc (.deferred (some []))) (.loop (rc .ready none))
  have k1 : Bk w.heap.size (rc .ready none) ((w.alloc (.deferred (some []))).alloc (.loop (rc .ready none))) := by
    refine ⟨?_, ?_⟩
    · have := World.alloc_heap_new (w.alloc (.deferred (some []))) (.loop (rc .ready none))
      rwa [World.size_alloc] at this
    · exact (bw2.block _ (by simp)).trans (World.alloc_heap_new w _)
  have i1 : I [] ((w.alloc (.deferred (some []))).alloc (.loop (rc .ready none))) := hI.alloc _ (hI.alloc _ h0)
  have b1 : Below w0.heap.size w0 ((w.alloc (.deferred (some []))).alloc (.loop (rc .ready none))) := keepb bw2 (keepb bw hb0)
  have hent : (Instr.enterLoop fn a.tmps ps assign body none).run P w = .ok (w.heap.size + 1, [{ target := .collected w.heap.size, args := #[] }]) ((w.alloc (.deferred (some []))).alloc (.loop (rc .ready none))) := by
    rw [hrc]
    exact run_enterLoop_outer _ _ _ _ _
  have hs1 : ((w.alloc (.deferred (some []))).alloc (.loop (rc .ready none))).heap.size = w.heap.size + 2 := by simp
  revert k1 i1 b1 hent hs1
  generalize (w.alloc (.deferred (some []))).alloc (.loop (rc .ready none)) = V1
  intro k1 i1 b1 hent hs1
  clear bw bw2
  refine ⟨w.heap.size + 1, _, V1, { target := .fn (.func gf) lb, args := #[.func (.yield (w.heap.size + 1)) #[] #[]] }, V1, gf, #[.func (.yield (w.heap.size + 1)) #[] #[]] ++ lb, V1, hent, by simp only [resolve, hg]; simp [go_sem], fun _ _ => trivial, by simp [invoke, go_sem, eg], fun _ => h1, ?_⟩
  have far : ∀ {A : World} {row : Option Nat}, (∀ r, row = some r → V1.heap.size ≤ r ∧ ∃ o : Obj, A.heap[r]? = some o ∧ o.isCells = false) → (∀ r, row = some r → w.heap.size ≤ r ∧ ∃ o : Obj, A.heap[r]? = some o ∧ o.isCells = false) := fun hr r e => ⟨by have := (hr r e).1; omega, (hr r e).2⟩
  have far2 : ∀ {A : World} {row : Option Nat}, (∀ r, row = some r → V1.heap.size ≤ r ∧ ∃ o : Obj, A.heap[r]? = some o ∧ o.isCells = false) → ∀ z, row = some z → w.heap.size + 2 ≤ z := fun hr z e => by have := (hr z e).1; omega
  refine (hseq (w.heap.size + 1) (fun pre W => I pre W ∧ Bk w.heap.size (rc .ready none) W) (fun pre W => ∃ c, Ix c pre W ∧ Bk w.heap.size (rc .done (some c)) W) V1 b1 (by omega) (fun s A B row hs hgr hr => ⟨hI s A B row hs.1 hgr (far hr), hs.2.grown hgr (far2 hr)⟩) (fun s A B row hs hgr hr => ?_) ?round ⟨i1, k1⟩).mono ?behind
  · obtain ⟨c, hc, kc⟩ := hs
    exact ⟨c, hIx c s A B row hc hgr (far hr), kc.grown hgr (far2 hr)⟩
  case round =>
    rintro pre x V ⟨hi, hk⟩ hlen
    have hy := run_yield (P := P) (args := encs x) hk.rec' (by rw [hrc]; exact hps x)
    rw [hrc] at hy
    refine ⟨fn, _, assign, body, hy, roundIn_of_wpIn hfn (hassign _ pre x V _ hi ?_)⟩
    intro a' Va f1 f2 f3 f4
    have ka := hk.from f1
    have hlt := ka.lt
    refine ⟨_, run_beginRound ka.rec' (by rw [hrc]), ?_⟩
    have kb := ka.turn { rc .ready none with state := .busy }
    have nb : ∀ (o : Obj), w.heap.size ≤ w.heap.size + 1 := fun _ => by omega
    have g1 := hI.putObj (.loop { rc .ready none with state := .busy }) f3 (show w.heap.size ≤ w.heap.size + 1 by omega) ka.rec' rfl
    have g2 := (hAx x a').putObj (s := ()) (.loop { rc .ready none with state := .busy }) f4 (show w.heap.size ≤ w.heap.size + 1 by omega) ka.rec' rfl
    have g3 := hKb Va _ (.loop { rc .ready none with state := .busy }) ka.rec' rfl
    revert kb g1 g2 g3
    generalize Va.putObj (w.heap.size + 1) (.loop { rc .ready none with state := .busy }) = Vb
    intro kb g1 g2 g3
    refine wpIn_mono (hbody (w.heap.size + 1) pre x a' Vb (by omega) ⟨_, kb.rec'⟩ g1 g2 hlen) ?_
    have out : ∀ (c : Code) (V3 : World), KeepsFrom w.heap.size Vb V3 → Kp Vb V3 → Ix c (pre ++ [x]) V3 → ∃ (e : Value) (V4 : World), (Instr.endRound (w.heap.size + 1) (some c)).run P V3 = .ok e V4 ∧ (((.returned e : Ending) = .returned (.bool true) ∧ (I (pre ++ [x]) V4 ∧ Bk w.heap.size (rc .ready none) V4) ∧ Kp V V4) ∨ ((.returned e : Ending) = .returned (.bool false) ∧ (∃ c, Ix c (pre ++ [x]) V4 ∧ Bk w.heap.size (rc .done (some c)) V4) ∧ Kp V V4)) := fun c V3 hk3 hq3 hi3 => by
      have k3 := kb.from hk3
      have k4 := k3.turn (rc .done (some c))
      have := bk_end (P := P) k3 (some c)
      refine ⟨_, _, this, .inr ⟨rfl, ⟨c, ?_, ?_⟩, hKt f2 (hKt g3 (hKt hq3 (hKb _ _ _ k3.rec' rfl)))⟩⟩
      · exact (hIx c).putObj _ hi3 (by omega) k3.rec' rfl
      · have e : ({ ({ rc .ready none with state := .busy } : Loop) with state := if (some c).isNone then .ready else .done, pending := some c } : Loop) = rc .done (some c) := by rw [hrc, hrc]; rfl
        rw [e]
        exact k4
    rintro e a3 V3 hp
    cases e with
    | normal =>
      obtain ⟨hk3, hq3, hi3⟩ := hp
      have k3 := kb.from hk3
      have k4 := k3.turn (rc .ready none)
      have hr := bk_end (P := P) k3 none
      have e : ({ ({ rc .ready none with state := .busy } : Loop) with state := if (none : Option Code).isNone then .ready else .done, pending := none } : Loop) = rc .ready none := by rw [hrc]; rfl
      rw [e] at hr
      exact ⟨_, _, hr, .inl ⟨rfl, ⟨hI.putObj _ hi3 (by omega) k3.rec' rfl, k4⟩, hKt f2 (hKt g3 (hKt hq3 (hKb _ _ _ k3.rec' rfl)))⟩⟩
    | ret => exact out _ _ hp.1 hp.2.1 hp.2.2
    | exit id => exact out _ _ hp.1 hp.2.1 hp.2.2
    | goto t => exact out _ _ hp.1 hp.2.1 hp.2.2
    | panic ch => exact hp.elim
    | outgrown => exact hp.elim
  case behind =>
    rintro e V2 ⟨⟨v, rfl⟩, (⟨xs, hS, hi, hk⟩ | ⟨pre, hSp, c, hi, hk⟩)⟩
    · have hr := run_endLoop (P := P) hk.rec' (by rw [hrc]; simp)
      have kt := hk.turn { rc .ready none with state := .exhausted }
      exact ⟨_, _, by rw [hr], by rw [hrc]; exact hdone _ xs _ (Nat.le_refl _) hS (hI.putObj _ hi (by omega) hk.rec' rfl) (by rw [hrc] at kt; exact kt.dfr)⟩
    · have hr := run_endLoop (P := P) hk.rec' (by rw [hrc]; simp)
      have kt := hk.turn { rc .done (some c) with state := .exhausted }
      exact ⟨_, _, by rw [hr], by rw [hrc]; exact hstop _ c pre _ (Nat.le_refl _) hSp ((hIx c).putObj _ hi (by omega) hk.rec' rfl) (by rw [hrc] at kt; exact kt.dfr)⟩
/-- What a round keeps: some blocks, and whatever lies from a place on. -/
def KW (Z : Nat → Prop) (B : Nat) (W W' : World) : Prop := W.heap.size ≤ W'.heap.size ∧ ∀ (z : Nat) (o : Obj), W.heap[z]? = some o → (Z z ∨ B ≤ z) → W'.heap[z]? = some o
theorem KW.trans {Z : Nat → Prop} {B : Nat} {X Y V : World} (h : KW Z B X Y) (g : KW Z B Y V) : KW Z B X V := ⟨Nat.le_trans h.1 g.1, fun z o h1 h2 => g.2 z o (h.2 z o h1 h2) h2⟩
theorem KW.refl (Z : Nat → Prop) (B : Nat) (W : World) : KW Z B W W := ⟨Nat.le_refl _, fun _ _ h _ => h⟩
theorem kw_put {Z : Nat → Prop} {B l : Nat} (hZ : ¬ Z l) (hB : l < B) (W : World) (o o' : Obj) (h : W.heap[l]? = some o) (hc : o.isCells = false) : KW Z B W (W.putObj l o') := ⟨by simp, fun z x hz hx => by
  have hne : z ≠ l := by
    rintro rfl
    rcases hx with q | q
    · exact hZ q
    · omega
  rw [World.putObj_heap_other hne]; exact hz⟩
theorem kw_below {Z : Nat → Prop} {B : Nat} {W W' : World} (h : Below W.heap.size W W') : KW Z B W W' := ⟨h.size, fun z o hz _ => by rw [h.block z (Array.getElem?_eq_some_iff.mp hz).1]; exact hz⟩
theorem kw_sub {Z Z' : Nat → Prop} {B B' : Nat} {W W' : World} (h : KW Z B W W') (hs : ∀ z, (Z' z ∨ B' ≤ z) → (Z z ∨ B ≤ z)) : KW Z' B' W W' := ⟨h.1, fun z o h1 h2 => h.2 z o h1 (hs z h2)⟩
theorem kw_from {Z : Nat → Prop} {B C : Nat} {W W' : World} (h : KW Z B W W') (hc : B ≤ C) : KeepsFrom C W W' := ⟨h.1, fun k o h1 h2 _ => h.2 k o h2 (.inr (by omega))⟩
theorem kw_cell {Z : Nat → Prop} {B : Nat} {W W' : World} (h : KW Z B W W') {b o : Nat} {v : Value} (hz : Z b ∨ B ≤ b) (hc : W.cell? ⟨b, o, none⟩ = some v) : W'.cell? ⟨b, o, none⟩ = some v := by
  have hb := cell_in hc
  have e : W'.heap[b]? = W.heap[b]? := by rw [h.2 b _ (Array.getElem?_eq_getElem hb) hz, Array.getElem?_eq_getElem hb]
  exact (World.cell?_of_block (a := ⟨b, o, none⟩) e).trans hc
end
end Go.Proofs.Ytofpbommhklooaa
