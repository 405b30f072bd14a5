/-
  Part 21 of the proof: 14 texts, one behind the other.
-/
import Derived.Test.YtmeaikmmhgmgnabPart1
import Derived.Deep.AppendLies
import Derived.Deep.RegionHeld3
import Derived.Test.YtmeaikmmhgmgnabPart18
import Derived.Test.YtmeaikmmhgmgnabPart20
import Derived.Test.YtmeaikmmhgmgnabPart7
import Derived.Test.YtmeaikmmhgmgnabPart3
import Derived.Test.YtmeaikmmhgmgnabPart8
import Derived.Test.YtmeaikmmhgmgnabPart9
import Derived.Test.YtmeaikmmhgmgnabPart4
import Derived.Laws.CopyRow
import Derived.Test.YtmeaikmmhgmgnabPart17
import Derived.Lib.SliceRun
/-
  What a call of package word's Text does.
-/
namespace Go.Proofs.Ytmeaikmmhgmgnab
open Go.RowKit
set_option linter.unusedSimpArgs false
set_option linter.unusedVariables false

/-- The number of the digit at place k, and its sign. -/
def nib (x : BitVec 128) (k : Nat) : Nat := (lv (x >>> (124 - 4 * k))).toNat % 16
def chN (d : Nat) : Nat := if d < 10 then 48 + d else 87 + d
end Go.Proofs.Ytmeaikmmhgmgnab
/-
  What a call of the reference's Text does.
-/
namespace Go.Proofs.Ytmeaikmmhgmgnab
open Go.RowKit
set_option linter.unusedSimpArgs false
set_option linter.unusedVariables false

/-- The first k signs, as cells. -/
def cellsT (x : BitVec 128) (k : Nat) : List Value := (List.range k).map fun j => Value.int .u8 (chN (nib x j) : Int)
theorem own_below {base e size n : Nat} {v : Value} {xs : List Value} {W w' : World} (hb : Below W.heap.size W w') (h : W.ownsRow base e size v n xs) : w'.ownsRow base e size v n xs := by
  refine h.kept (row := none) ⟨hb.os, hb.tape, hb.output, hb.size, fun k hk _ => hb.block k hk⟩ ?_
  cases v.ownBlock with
  | none => exact Or.inl rfl
  | some a => exact Or.inr (by simp)

end Go.Proofs.Ytmeaikmmhgmgnab
/-
  What the call of turnpikeref5's Set does.
-/
namespace Go.Proofs.Ytmeaikmmhgmgnab
open Go.RowKit
set_option linter.unusedSimpArgs false
set_option linter.unusedVariables false

def CR5 (w4 : World) (g o b : Nat) (qx : BitVec 128) (qn : Int) (x : BitVec 128) (pn : Int) (W : World) : Prop := (W.cell? ⟨g, o, none⟩ = some (.int .u64 (hI qx)) ∧ W.cell? ⟨g, o + 1, none⟩ = some (.int .u64 (lI qx)) ∧ W.cell? ⟨g, o + 2, none⟩ = some (.int .i64 qn)) ∧ (W.cell? ⟨b, 0, none⟩ = some (.int .u64 (hI x)) ∧ W.cell? ⟨b, 1, none⟩ = some (.int .u64 (lI x)) ∧ W.cell? ⟨b, 2, none⟩ = some (.int .i64 pn)) ∧ Below w4.heap.size w4 W
theorem CR5.below {w4 W W' : World} {g o b : Nat} {qx x : BitVec 128} {qn pn : Int} (h : CR5 w4 g o b qx qn x pn W) (hb : Below W.heap.size W W') : CR5 w4 g o b qx qn x pn W' := ⟨⟨keepc hb h.1.1, keepc hb h.1.2.1, keepc hb h.1.2.2⟩, ⟨keepc hb h.2.1.1, keepc hb h.2.1.2.1, keepc hb h.2.1.2.2⟩, keepb hb h.2.2⟩
theorem CR5.drew {w4 W : World} {g o b : Nat} {qx x : BitVec 128} {qn pn : Int} (h : CR5 w4 g o b qx qn x pn W) : CR5 w4 g o b qx qn x pn W.drew := h.below (below_drewN (Below.refl _ _) 1)
theorem stopHereW {P : Program} {w : World} {ops : Array Oper} {rest : List Oper} {a : Act} {Q : Exit → Act → World → Prop} {o : Oper} (h : Hid (wpList P ops Q (o :: rest) a w)) : wpList P ops Q (o :: rest) a w := h.out
theorem below_grown {w W : World} {r : Option Nat} (h : Below w.heap.size w W) : w.grownBy W r := ⟨h.os, h.tape, h.output, h.size, fun z h1 _ => h.block z h1⟩
end Go.Proofs.Ytmeaikmmhgmgnab
/-
  What the calls of turnpikeref5's Checked and Check do.
-/
namespace Go.Proofs.Ytmeaikmmhgmgnab
open Go.RowKit
set_option linter.unusedSimpArgs false
set_option linter.unusedVariables false

/-- A table, a route of its row. -/
def C8 (w : World) (F : Int) (v : Value) (b o : Nat) (x : BitVec 128) (n h : Int) (W : World) : Prop := AtT W w.heap.size F v ∧ (W.cell? ⟨b, o, none⟩ = some (.int .u64 (hI x)) ∧ W.cell? ⟨b, o + 1, none⟩ = some (.int .u64 (lI x)) ∧ W.cell? ⟨b, o + 2, none⟩ = some (.int .i64 n) ∧ W.cell? ⟨b, o + 3, none⟩ = some (.int .i64 h)) ∧ Below w.heap.size w W
theorem C8.below {w W W' : World} {F : Int} {v : Value} {b o : Nat} {x : BitVec 128} {n h : Int} (g : C8 w F v b o x n h W) (hb : Below W.heap.size W W') : C8 w F v b o x n h W' := ⟨g.1.below hb, ⟨keepc hb g.2.1.1, keepc hb g.2.1.2.1, keepc hb g.2.1.2.2.1, keepc hb g.2.1.2.2.2⟩, keepb hb g.2.2⟩
theorem C8.drew {w W : World} {F : Int} {v : Value} {b o : Nat} {x : BitVec 128} {n h : Int} (g : C8 w F v b o x n h W) : C8 w F v b o x n h W.drew := ⟨g.1, g.2.1, g.2.2.drew⟩
/-- A table, two routes of its row. -/
def C14 (w : World) (F : Int) (v : Value) (b o u : Nat) (x : BitVec 128) (n h : Int) (y : BitVec 128) (m g : Int) (W : World) : Prop := AtT W w.heap.size F v ∧ (W.cell? ⟨b, o, none⟩ = some (.int .u64 (hI x)) ∧ W.cell? ⟨b, o + 1, none⟩ = some (.int .u64 (lI x)) ∧ W.cell? ⟨b, o + 2, none⟩ = some (.int .i64 n) ∧ W.cell? ⟨b, o + 3, none⟩ = some (.int .i64 h)) ∧ (W.cell? ⟨b, u, none⟩ = some (.int .u64 (hI y)) ∧ W.cell? ⟨b, u + 1, none⟩ = some (.int .u64 (lI y)) ∧ W.cell? ⟨b, u + 2, none⟩ = some (.int .i64 m) ∧ W.cell? ⟨b, u + 3, none⟩ = some (.int .i64 g)) ∧ Below w.heap.size w W
theorem C14.below {w W W' : World} {F : Int} {v : Value} {b o u : Nat} {x : BitVec 128} {n h : Int} {y : BitVec 128} {m g : Int} (q : C14 w F v b o u x n h y m g W) (hb : Below W.heap.size W W') : C14 w F v b o u x n h y m g W' := ⟨q.1.below hb, ⟨keepc hb q.2.1.1, keepc hb q.2.1.2.1, keepc hb q.2.1.2.2.1, keepc hb q.2.1.2.2.2⟩, ⟨keepc hb q.2.2.1.1, keepc hb q.2.2.1.2.1, keepc hb q.2.2.1.2.2.1, keepc hb q.2.2.1.2.2.2⟩, keepb hb q.2.2.2⟩
theorem C14.drew {w W : World} {F : Int} {v : Value} {b o u : Nat} {x : BitVec 128} {n h : Int} {y : BitVec 128} {m g : Int} (q : C14 w F v b o u x n h y m g W) : C14 w F v b o u x n h y m g W.drew := ⟨q.1, q.2.1, q.2.2.1, q.2.2.2.drew⟩
end Go.Proofs.Ytmeaikmmhgmgnab
/-
  A drawn region with one call in its midst that changes memory: one walk of the text's order, the call's answer a letter.
-/
namespace Go.Proofs.Ytmeaikmmhgmgnab
open Go.RowKit
set_option linter.unusedSimpArgs false
set_option linter.unusedVariables false
section
variable {P : Program}
end
end Go.Proofs.Ytmeaikmmhgmgnab
/-
  What the call of turnpikeref5's Canon does.
-/
namespace Go.Proofs.Ytmeaikmmhgmgnab
open Go.RowKit
set_option linter.unusedSimpArgs false
set_option linter.unusedVariables false

theorem fold_len : ∀ (D S : List Rte), (D.foldl setF S).length ≤ S.length + D.length
  | [], S => by simp
  | x :: D, S => by
    have h1 := fold_len D (setF S x)
    have h2 := setF_len x S
    rw [List.foldl_cons, List.length_cons]
    omega
/-- Canon's variables: the result, the table with the list as it was, and the list. -/
structure CnV (w : World) (Bt : Nat) (F : Int) (vC v : Value) (S : List Rte) (W : World) : Prop where
  res : W.heap[w.heap.size]? = some (.cells #[.int .i64 0, .slice none 0 0] 24)
  t : W.heap[Bt]? = some (.cells #[.int .i64 F, vC] 24)
  own : W.ownsRow (Bt + 1) 35 4 v S.length (rowR S)
  lt : w.heap.size < Bt
  low : Below w.heap.size w W
theorem CnV.below {w W W' : World} {Bt : Nat} {F : Int} {vC v : Value} {S : List Rte} (h : CnV w Bt F vC v S W) (hb : Below W.heap.size W W') : CnV w Bt F vC v S W' :=
  ⟨(hb.block _ (blk_lt5 h.res)).trans h.res, (hb.block _ (blk_lt5 h.t)).trans h.t, own_below hb h.own, h.lt, keepb hb h.low⟩
theorem CnV.put {w W : World} {Bt : Nat} {F : Int} {vC v : Value} {S : List Rte} (h : CnV w Bt F vC v S W) : CnV w Bt F v v S (W.setCell ⟨Bt, 1, none⟩ v) := by
  have hl := h.lt
  refine ⟨?_, ?_, ?_, h.lt, h.low.setCell (by show w.heap.size ≤ Bt; omega) _⟩
  · rw [hSet _ (by omega)]; exact h.res
  · exact (set_blk5 (o := 1) h.t v).trans rfl
  · exact own_heap h.own (fun z e => hSet _ (by have := (h.own.lt z e).1; omega))
/-- What Canon tells. -/
def RcnQ (F : Int) (l : List Rte) (w : World) (e : Ending) (w' : World) : Prop := (∃ u S, e = .returned (.tuple #[.agg #[.int .i64 (if rtsE F l = 0 then F else 0), u], .int .i64 (rtsE F l)]) ∧ S = (if rtsE F l = 0 then l.foldl setF [] else []) ∧ w'.ownsRow w.heap.size 35 4 u S.length (rowR S)) ∧ Below w.heap.size w w'
end Go.Proofs.Ytmeaikmmhgmgnab
/-
  Rows of words in memory.
-/
namespace Go.Proofs.Ytmeaikmmhgmgnab
open Go.RowKit
set_option linter.unusedSimpArgs false
set_option linter.unusedVariables false

end Go.Proofs.Ytmeaikmmhgmgnab
/-
  A table whose neighbours are in order is in order.
-/
namespace Go.Proofs.Ytmeaikmmhgmgnab
open Go.RowKit

end Go.Proofs.Ytmeaikmmhgmgnab
/-
  What the calls of the law's SameRoutes, Same (of two that are the same) and Right do.
-/
namespace Go.Proofs.Ytmeaikmmhgmgnab
open Go.RowKit
set_option linter.unusedSimpArgs false
set_option linter.unusedVariables false

theorem eqR_run (x : BitVec 128) (n h : Int) (w : World) :
    (Op.equalIn 10000 35 (.agg #[.int .u64 (hI x), .int .u64 (lI x), .int .i64 n, .int .i64 h]) (.agg #[.int .u64 (hI x), .int .u64 (lI x), .int .i64 n, .int .i64 h])).run Try.prog w = .ok true w := by
  go_simp
set_option maxHeartbeats 4000000 in
theorem sameRoutes_any (v u : Value) (l : List Rte) (w : World) (hv : RwR w v l) (hu : RwR w u l) (hl : l.length ≤ 1000000000) :
    Calls Try.prog 6 #[v, u] w fun e w' => e = .returned (.bool true) ∧ Below w.heap.size w w' := by
  obtain ⟨ao, c, rfl, hv⟩ := hv
  obtain ⟨au, d, rfl, hu⟩ := hu
  have HV := hidR hv
  have HU := hidR hu
  clear hv hu
  go_enter Try.func6, Try.ntmps6
  go_wp2_with fail
  go_loopw [5] (fun i wr => ∃ k : Nat, k ≤ l.length ∧ i = .int .i64 k ∧ Below w.heap.size w wr) (fun i _ => l.length - (intOf i).toNat)
  case atStart => exact ⟨0, by omega, rfl, Below.refl _ _⟩
  case round =>
    obtain ⟨k, hk, rfl, hB⟩ := hrel
    by_cases hlt : (k : Int) < (l.length : Int)
    · have hks : k < l.length := by omega
      rcases HV.out with e | ⟨b, off, rfl, hc⟩
      · rw [e] at hks; simp at hks
      · rcases HU.out with e | ⟨b', off', rfl, hc'⟩
        · rw [e] at hks; simp at hks
        · obtain ⟨x0, x1, x2, x3⟩ := rwr_cells hc k hks
          obtain ⟨y0, y1, y2, y3⟩ := rwr_cells hc' k hks
          have x0 := keepc hB x0
          have x1 := keepc hB x1
          have x2 := keepc hB x2
          have x3 := keepc hB x3
          have y0 := keepc hB y0
          have y1 := keepc hB y1
          have y2 := keepc hB y2
          have y3 := keepc hB y3
          have hE := fun w => eqR_run l[k].1.1 l[k].1.2 l[k].2 w
          generalize l[k].1.1 = px at *
          generalize l[k].1.2 = pn at *
          generalize l[k].2 = ph at *
          have mk : IntKind.i64.wrap ((k : Int) + 1) = (k : Int) + 1 := by rw [IntKind.wrap_i64]; omega
          clear hc hc' HV HU
          go_wp2_with fail
          go_quiet (fail)
          go_wp2
          go_roundw
          case rel => exact ⟨k + 1, by omega, by go_num, below_drewN hB _⟩
          case measure => simp [intOf]; omega
    · have hd : ¬ k < l.length := by omega
      clear HV HU
      go_wp2
      go_ret
      exact ⟨rfl, hB⟩
end Go.Proofs.Ytmeaikmmhgmgnab
/-
  copy of a row of any elements; what the calls of the law's Lend and Kept of tables do.
-/
namespace Go.Proofs.Ytmeaikmmhgmgnab
open Go.RowKit
set_option linter.unusedSimpArgs false
set_option linter.unusedVariables false

theorem rowR_app5 : ∀ l m, rowR (l ++ m) = rowR l ++ rowR m := by
  intro l
  induction l with
  | nil => intro m; rfl
  | cons p l ih => intro m; simp [rowR, ih]
theorem rowR_one5 (l : List Rte) (x : BitVec 128) (n h : Int) : rowR (l ++ [((x, n), h)]) = rowR l ++ [.int .u64 (hI x), .int .u64 (lI x), .int .i64 n, .int .i64 h] := by rw [rowR_app5]; rfl
theorem rowR_cell5 (l : List Rte) : ∀ u ∈ rowR l, u.oneCell' = true := by
  induction l with
  | nil => intro u hu; cases hu
  | cons p l ih =>
    intro u hu
    simp only [rowR, List.mem_cons] at hu
    rcases hu with rfl | rfl | rfl | rfl | hu
    · rfl
    · rfl
    · rfl
    · rfl
    · exact ih u hu
/-- A table, and the one that is answered. -/
def LnT (w : World) (F : Int) (v : Value) (W : World) : Prop := AtU W w.heap.size F v ∧ AtU W (w.heap.size + 1) 0 (.slice none 0 0)
theorem LnT.heap {w : World} {F : Int} {v : Value} {W W' : World} (k : LnT w F v W) (h : ∀ z, z < w.heap.size + 2 → W'.heap[z]? = W.heap[z]?) : LnT w F v W' := ⟨k.1.heap (h _ (by omega)), k.2.heap (h _ (by omega))⟩
end Go.Proofs.Ytmeaikmmhgmgnab
/-
  What the call of package table's Canon does.
-/
namespace Go.Proofs.Ytmeaikmmhgmgnab
open Go.RowKit
set_option linter.unusedSimpArgs false
set_option linter.unusedVariables false
attribute [local go_sem] Oper.semAt_some

set_option maxRecDepth 20000 in
set_option maxHeartbeats 4000000 in
theorem clone5_any (v : Value) (l : List Rte) (w : World) (hv : Row w 4 v l.length (rowR l)) (hl : l.length ≤ 1000000000) :
    Calls Try.prog 11 #[v] w fun e w' => ∃ v', e = .returned v' ∧ w'.ownsRow w.heap.size 35 4 v' l.length (rowR l) ∧ Below w.heap.size w w' := by
  obtain ⟨i0, hi, hz0, hz1, hz2⟩ := info_parts Try.infoR
  obtain ⟨ao, c, rfl, hc⟩ := hv.form
  have hq : ∀ (w : World) (a : Option Addr) (n c n' c' : Nat), (binOp .eql 22 (.slice a n c) (.slice none n' c')).run Try.prog w = .ok (.bool a.isNone) w := fun w a n c n' c' => Lib.run_eql_slice_nil w 22 35 a n c n' c' Try.underlying22
  have HV := hidR hv
  cases ao with
  | none =>
    have hl0 : l = [] := by
      obtain ⟨-, ao, c, e, -, h⟩ := hv
      injection e with e1 e2 e3
      subst e1
      rcases h with ⟨-, -, h⟩ | ⟨b, off, e, -⟩
      · exact List.length_eq_zero_iff.mp h
      · cases e
    subst hl0
    clear hv HV hc
    go_enter Try.func11, Try.ntmps11
    go_wp2
    exact bodyPost_ret (v := .slice none 0 0) (by simp [results, Try.results11, go_sem]) rfl ⟨_, rfl, ⟨rfl, .inl ⟨rfl, rfl⟩⟩, Below.refl _ _⟩
  | some a =>
    have q0 := bl1 w (.cells #[] 35)
    have HB0 := hidR q0
    have HO0 : Hid ((w.alloc (.cells #[] 35)).ownsRow w.heap.size 35 4 (.slice (some ⟨w.heap.size, 0, none⟩) 0 0) 0 []) := hidR ⟨rfl, .inr ⟨w.heap.size, 0, #[], rfl, Nat.le_refl _, Array.getElem?_push_size, Nat.le_refl _, by unfold maxLen; omega, rfl, rfl⟩⟩
    have HV0 := hidR (hv.below q0)
    clear hv HV q0
    go_enter Try.func11, Try.ntmps11
    go_wp2_with (at_builtin; apply stopHereW)
    refine (show wpList _ _ _ _ _ _ from ?_)
    revert HB0 HO0 HV0
    generalize w.alloc (.cells #[] 35) = W0
    intro HB0 HO0 HV0
    refine wpList_append_row rfl _ _ 22 rfl w.heap.size 35 i0 (.agg #[.int .u64 0, .int .u64 0, .int .i64 0, .int .i64 0]) 4 32 Try.underlying22 hi hz0 hz1 hz2 rfl (by decide) _ 0 [] rfl HO0.out _ l.length (rowR l) rfl HV0.out (rowR_cell5 l) (by unfold maxLen; omega) (by omega) HB0.out.size ?_
    intro go cap W1 ho hg
    have HR : Hid (W1.ownsRow w.heap.size 35 4 (.slice go l.length cap) l.length (rowR l) ∧ Below w.heap.size w W1) := hidR ⟨by rw [List.nil_append] at ho; simpa using ho, by
      refine HB0.out.trans ⟨hg.os, hg.tape, hg.output, hg.size, fun z hz => hg.block z (by have := HB0.out.size; omega) (fun e => ?_)⟩
      have : z = w.heap.size := Option.some.inj e
      omega⟩
    clear ho hg HB0 HO0 HV0
    go_wp2
    go_ret
    exact ⟨_, rfl, HR.out⟩

set_option maxRecDepth 20000 in
set_option maxHeartbeats 4000000 in
theorem ins0_any (ao : Option Addr) (c : Nat) (w : World) :
    Calls Try.prog 41 #[.slice ao 0 c, .int .i64 0, .int .i64 0, .func (.func 17) #[] #[]] w fun e w' => e = .returned (.tuple #[]) ∧ w' = w := by
  go_enter Try.func41, Try.ntmps41
  go_wp2_with fail
  go_loopw [8, 9] (fun i _ wr => i = .int .i64 1 ∧ wr = w) (fun _ _ _ => 0)
  case atStart => exact ⟨rfl, rfl⟩
  case round =>
    obtain ⟨rfl, rfl⟩ := hrel
    go_wp2
    exact bodyPost_end (v := .tuple #[]) (by simp [results, Try.results41, go_sem]) rfl ⟨rfl, rfl⟩
set_option maxRecDepth 20000 in
set_option maxHeartbeats 4000000 in
theorem stable0_any (ao : Option Addr) (c : Nat) (w : World) :
    Calls Try.prog 26 #[.slice ao 0 c, .int .i64 0, .func (.func 17) #[] #[]] w fun e w' => e = .returned (.tuple #[]) ∧ w' = w := by
  have KI := ins0_any ao c w
  go_enter Try.func26, Try.ntmps26
  go_wp2_with fail
  go_loopw [7, 8] (fun a b wr => a = .int .i64 0 ∧ b = .int .i64 20 ∧ wr = w) (fun _ _ _ => 0)
  case atStart => exact ⟨rfl, rfl, rfl⟩
  case round =>
    obtain ⟨rfl, rfl, rfl⟩ := hrel
    go_wp2_with fail
    refine KI.mono ?_
    rintro e w1 ⟨rfl, rfl⟩
    clear KI
    go_wp2_with fail
    go_loopw [6, 7, 8, 9] (fun s a b m wr => s = .int .i64 20 ∧ wr = w1) (fun _ _ _ _ _ => 0)
    case atStart => exact ⟨rfl, rfl⟩
    case round =>
      obtain ⟨rfl, rfl⟩ := hrel
      go_wp2
      exact bodyPost_end (v := .tuple #[]) (by simp [results, Try.results26, go_sem]) rfl ⟨rfl, rfl⟩
set_option maxHeartbeats 4000000 in
theorem sort0_any (ao : Option Addr) (c : Nat) (w : World) :
    Calls Try.prog 16 #[.slice ao 0 c, .func (.func 17) #[] #[]] w fun e w' => e = .returned (.tuple #[]) ∧ w' = w := by
  have KS := stable0_any ao c w
  go_enter Try.func16, Try.ntmps16
  go_wp2_with fail
  refine KS.mono ?_
  rintro e w1 ⟨rfl, rfl⟩
  clear KS
  go_wp2
  exact bodyPost_end (v := .tuple #[]) (by simp [results, Try.results16, go_sem]) rfl ⟨rfl, rfl⟩
set_option maxRecDepth 20000 in
set_option maxHeartbeats 4000000 in
theorem last0_any (ao : Option Addr) (c : Nat) (w : World) :
    Calls Try.prog 18 #[.slice ao 0 c] w fun e w' => e = .returned (.slice ao 0 c) ∧ w' = w := by
  obtain ⟨i0, hi, hz0, hz1, hz2⟩ := info_parts Try.infoR
  have hrun := fun w => run_slice_to (P := Try.prog) (w := w) Try.underlying22 hi ao 0 c 0 (Nat.zero_le _)
  go_enter Try.func18, Try.ntmps18
  go_wp2_with fail
  go_loopw [3, 5, 6, 11] (fun l _ _ i wr => l = .slice ao 0 c ∧ i = .int .i64 0 ∧ wr = w) (fun _ _ _ _ _ => 0)
  case atStart => exact ⟨rfl, rfl, rfl⟩
  case round =>
    obtain ⟨rfl, rfl, rfl⟩ := hrel
    go_wp2
    exact bodyPost_ret (v := .slice ao 0 c) (by simp [results, Try.results18, go_sem]) rfl ⟨rfl, rfl⟩
set_option maxHeartbeats 4000000 in
theorem inOrder0_any (F : Int) (ao : Option Addr) (c : Nat) (w : World) :
    Calls Try.prog 10 #[.int .i64 F, .slice ao 0 c] w fun e w' => e = .returned (.agg #[.int .i64 F, .slice ao 0 c]) ∧ Below w.heap.size w w' := by
  have q1 := bl1 w (.cells #[.int .i64 0, .slice none 0 0] 24)
  have HB1 := hidR q1
  have HT1 : Hid ((w.alloc (.cells #[.int .i64 0, .slice none 0 0] 24)).heap[w.heap.size]? = some (.cells #[.int .i64 0, .slice none 0 0] 24)) := hidR Array.getElem?_push_size
  clear q1
  go_enter Try.func10, Try.ntmps10
  go_wp2_with fail
  revert HB1 HT1
  generalize w.alloc (.cells #[.int .i64 0, .slice none 0 0] 24) = W1
  intro HB1 HT1
  refine (sort0_any ao c W1).mono ?_
  rintro e W2 ⟨rfl, rfl⟩
  go_wp2_with fail
  refine (last0_any ao c W2).mono ?_
  rintro e W3 ⟨rfl, rfl⟩
  have c0 := at_blk HT1.out 0 (.int .i64 0) rfl
  have c1 := at_blk HT1.out 1 (.slice none 0 0) rfl
  have d0 := fr_blk5 (j := 0) HT1.out
  have d1 := fr_blk5 (j := 1) HT1.out
  have HF : Hid (Below w.heap.size w ((W3.setCell ⟨w.heap.size, 0, none⟩ (.int .i64 F)).setCell ⟨w.heap.size, 1, none⟩ (.slice ao 0 c))) := hidR ((HB1.out.setCell (Nat.le_refl _) _).setCell (Nat.le_refl _) _)
  clear HB1 HT1
  go_wp2
  exact bodyPost_ret (v := .agg #[.int .i64 F, .slice ao 0 c]) (by simp [results, Try.results10, go_sem, c0, c1]) rfl ⟨rfl, HF.out⟩
/-- The front of an own row. -/
theorem own_cut {W : World} {base e size n m g c : Nat} {xs : List Value} (h : W.ownsRow base e size (.slice (some ⟨g, 0, none⟩) n c) n xs) (hm : m ≤ n) : W.ownsRow base e size (.slice (some ⟨g, 0, none⟩) m c) m (xs.take (m * size)) := by
  rcases h.2 with ⟨h', _⟩ | ⟨g', cap', cur, h', hb, hg, hnc, hcm, hcs, htake⟩
  · cases h'
  · simp only [Value.slice.injEq, Option.some.injEq, Addr.mk.injEq, and_true, true_and] at h'
    obtain ⟨rfl, rfl⟩ := h'
    refine ⟨by rw [List.length_take, h.1, Nat.min_eq_left (Nat.mul_le_mul_right _ hm)], .inr ⟨g, c, cur, rfl, hb, hg, by omega, hcm, hcs, ?_⟩⟩
    rw [← htake, List.take_take, Nat.min_eq_left (Nat.mul_le_mul_right _ hm)]
/-- inOrder of an own list. -/
theorem inOrderA_any (F : Int) (base : Nat) (v : Value) (D : List Rte) (w : World) (h : w.ownsRow base 35 4 v D.length (rowR D)) (hn : D.length ≤ 1000000000) :
    Calls Try.prog 10 #[.int .i64 F, v] w fun e w' => ∃ u, e = .returned (.agg #[.int .i64 F, u]) ∧ w'.ownsRow base 35 4 u (ltL (isrt D)).length (rowR (ltL (isrt D))) ∧ w.grownBy w' v.ownBlock ∧ (∀ z, u.ownBlock = some z → v.ownBlock = some z) := by
  obtain ⟨ao, c, rfl⟩ := own_form h
  by_cases h0 : D.length = 0
  · have hD : D = [] := List.length_eq_zero_iff.mp h0
    subst hD
    refine (inOrder0_any F ao c w).mono ?_
    rintro e w' ⟨rfl, hb⟩
    exact ⟨_, rfl, own_below hb h, below_grown hb, fun z e => e⟩
  · rcases h.2 with ⟨e, h1⟩ | ⟨g, cap, cur, e, h2⟩
    · exact absurd h1 h0
    · injection e with e1 e2 e3
      subst e1
      have hR : RwO w base g c D.length D := ⟨rfl, h⟩
      refine (inOrder_any F base g c D.length D (isrt D) w hR (by omega) hn (fun W hW => sort_any base g c D.length D W hW hn)).mono ?_
      rintro e w' ⟨rfl, ⟨D', hD', ht, hl⟩, hb⟩
      refine ⟨_, rfl, ?_, ?_, fun z e => e⟩
      · have := own_cut hD'.2 hl
        rw [rowR_take, ht] at this
        exact this
      · exact ⟨hb.os, hb.tape, hb.output, hb.size, fun z h1 h2 => hb.blk z h1 (fun e => h2 (by rw [e]; rfl))⟩
set_option maxRecDepth 20000 in
set_option maxHeartbeats 8000000 in
theorem canon_any (F : Int) (v : Value) (l : List Rte) (w : World) (hv : Row w 4 v l.length (rowR l)) :
    Calls Try.prog 5 #[.int .i64 F, v] w (RcnQ F l w) := by
  have q1 := bl1 w (.cells #[.int .i64 0, .slice none 0 0] 24)
  have HB1 := hidR q1
  have HT1 : Hid ((w.alloc (.cells #[.int .i64 0, .slice none 0 0] 24)).heap[w.heap.size]? = some (.cells #[.int .i64 0, .slice none 0 0] 24)) := hidR Array.getElem?_push_size
  have HV := hidR (hv.below q1)
  have KC := fun W h => checkRoutes_any F v l W (row_rwr h)
  have HL : Hid (rtsE F l = 0 → l.length ≤ 1048576) := hidR (fun h => by
    unfold rtsE at h
    split at h
    · split at h
      · omega
      · omega
    · omega)
  obtain ⟨z, hz⟩ : ∃ z, z = rtsE F l := ⟨_, rfl⟩
  have HZ := hidR hz
  rw [← hz] at KC
  clear q1 hv hz
  go_enter Try.func5, Try.ntmps5
  go_wp2_with fail
  revert HB1 HT1 HV
  generalize w.alloc (.cells #[.int .i64 0, .slice none 0 0] 24) = W1
  intro HB1 HT1 HV
  refine (KC W1 HV.out).mono ?_
  rintro e W2 ⟨rfl, hb⟩
  have HB2 := hidR (keepb hb HB1.out)
  have HT2 : Hid (W2.heap[w.heap.size]? = some (.cells #[.int .i64 0, .slice none 0 0] 24)) := hidR ((hb.block _ (blk_lt5 HT1.out)).trans HT1.out)
  have HV2 := hidR (HV.out.below hb)
  clear KC hb HB1 HT1 HV
  by_cases h0 : z = 0
  · subst h0
    have hlm := HL.out HZ.out.symm
    have KL := clone5_any v l W2 HV2.out (by omega)
    go_wp2_with fail
    refine KL.mono ?_
    rintro e W3 ⟨v', rfl, ho, hb⟩
    have HB3 := hidR (keepb hb HB2.out)
    have HT3 : Hid (W3.heap[w.heap.size]? = some (.cells #[.int .i64 0, .slice none 0 0] 24)) := hidR ((hb.block _ (blk_lt5 HT2.out)).trans HT2.out)
    have hws := blk_lt5 HT2.out
    have HN : Hid (∀ z, z < W2.heap.size → ¬ some z = v'.ownBlock) := hidR (fun z hz e => by have := (ho.lt z e.symm).1; omega)
    have KO := inOrderA_any F W2.heap.size v' l W3 ho (by omega)
    clear KL hb HB2 HT2 HV2 ho
    go_wp2_with fail
    refine KO.mono ?_
    rintro e W4 ⟨u, rfl, ho, hg, hu⟩
    have hT4 : W4.heap[w.heap.size]? = some (.cells #[.int .i64 0, .slice none 0 0] 24) := (hg.block _ (blk_lt5 HT3.out) (HN.out _ hws)).trans HT3.out
    have hB4 : Below w.heap.size w W4 := ⟨by rw [hg.os, HB3.out.os], by rw [hg.tape, HB3.out.tape], by rw [hg.output, HB3.out.output], Nat.le_trans HB3.out.size hg.size, fun z hz => by rw [hg.block z (by have := HB3.out.size; omega) (HN.out z (by omega)), HB3.out.block z hz]⟩
    have c0 := at_blk hT4 0 (.int .i64 0) rfl
    have c1 := at_blk hT4 1 (.slice none 0 0) rfl
    have d0 := fr_blk5 (j := 0) hT4
    have d1 := fr_blk5 (j := 1) hT4
    obtain ⟨uo, uc, rfl⟩ := own_form ho
    have HF : Hid (RcnQ F l w (.returned (.tuple #[.agg #[.int .i64 F, .slice uo (ltL (isrt l)).length uc], .int .i64 0])) ((W4.setCell ⟨w.heap.size, 0, none⟩ (.int .i64 F)).setCell ⟨w.heap.size, 1, none⟩ (.slice uo (ltL (isrt l)).length uc))) := hidR ⟨⟨_, _, by rw [if_pos HZ.out.symm, ← HZ.out], rfl, by
      rw [if_pos HZ.out.symm, ← canon_eq]
      exact own_wide (own_heap ho (fun z e => by have := (ho.lt z e).1; rw [hSet _ (by omega), hSet _ (by omega)])) (by omega)⟩, (hB4.setCell (Nat.le_refl _) _).setCell (Nat.le_refl _) _⟩
    clear KO ho hg hu hT4 hB4 HB3 HT3 HN
    generalize (ltL (isrt l)).length = sl at *
    go_wp2
    exact bodyPost_ret (v := .tuple #[.agg #[.int .i64 F, .slice uo sl uc], .int .i64 0]) (by simp [results, Try.results5, go_sem, c0, c1]) rfl HF.out
  · have c0 := at_blk HT2.out 0 (.int .i64 0) rfl
    have c1 := at_blk HT2.out 1 (.slice none 0 0) rfl
    have d0 := fr_blk5 (j := 0) HT2.out
    have d1 := fr_blk5 (j := 1) HT2.out
    have HF : Hid (RcnQ F l w (.returned (.tuple #[.agg #[.int .i64 0, .slice none 0 0], .int .i64 z])) ((W2.setCell ⟨w.heap.size, 0, none⟩ (.int .i64 0)).setCell ⟨w.heap.size, 1, none⟩ (.slice none 0 0))) := hidR (by
      have hz := HZ.out
      subst hz
      exact ⟨⟨.slice none 0 0, [], by rw [if_neg h0], by rw [if_neg h0], ⟨rfl, .inl ⟨rfl, rfl⟩⟩⟩, (HB2.out.setCell (Nat.le_refl _) _).setCell (Nat.le_refl _) _⟩)
    clear HB2 HT2 HV2
    go_wp2
    exact bodyPost_ret (v := .tuple #[.agg #[.int .i64 0, .slice none 0 0], .int .i64 z]) (by simp [results, Try.results5, go_sem, c0, c1]) rfl HF.out
end Go.Proofs.Ytmeaikmmhgmgnab
/-
  A text of few entries is read: Parse.
-/
namespace Go.Proofs.Ytmeaikmmhgmgnab
open Go.RowKit
set_option linter.unusedSimpArgs false
set_option linter.unusedVariables false
attribute [local go_sem] Oper.semAt_some

set_option maxRecDepth 20000 in
set_option maxHeartbeats 8000000 in
theorem parseS_any (F : Int) (s : ByteArray) (w : World) (hF : fam F = true) (hs : s.size ≤ 1000000000) (L S : List Rte) (hres : lnsR F s (s.size + 1) 0 1 0 [] 0 = ((0, 0, 0), L)) (hL0 : 0 < L.length) (hL : L.length ≤ 1000000000)
    (KS : ∀ (base g c : Nat) W, RwO W base g c L.length L → Calls Try.prog 16 #[.slice (some ⟨g, 0, none⟩) L.length c, .func (.func 17) #[] #[]] W fun e w' => e = .returned (.tuple #[]) ∧ RwO w' base g c L.length S ∧ Bo g W w') :
    Calls Try.prog 7 #[.int .i64 F, .string s] w fun e w' => (∃ v, e = .returned (.tuple #[.agg #[.int .i64 F, v], .agg #[.int .i64 0, .int .i64 0, .int .i64 0]]) ∧ Row w' 4 v (ltL S).length (rowR (ltL S))) ∧ Below w.heap.size w w' := by
  have q1 := bl1 w (.cells #[.int .i64 0, .slice none 0 0] 24)
  have q2 := bl1 (w.alloc (.cells #[.int .i64 0, .slice none 0 0] 24)) (.cells #[.int .i64 0, .int .i64 0, .int .i64 0] 39)
  have s1 : (w.alloc (.cells #[.int .i64 0, .slice none 0 0] 24)).heap.size = w.heap.size + 1 := by simp
  have HP : Hid (∀ X, X = (w.alloc (.cells #[.int .i64 0, .slice none 0 0] 24)).alloc (.cells #[.int .i64 0, .int .i64 0, .int .i64 0] 39) → X.heap[w.heap.size]? = some (.cells #[.int .i64 0, .slice none 0 0] 24) ∧ X.heap[w.heap.size + 1]? = some (.cells #[.int .i64 0, .int .i64 0, .int .i64 0] 39) ∧ Below w.heap.size w X) := hidR (by
    rintro X rfl
    refine ⟨?_, ?_, keepb q2 q1⟩
    · rw [q2.block _ (by omega)]
      exact Array.getElem?_push_size
    · rw [← s1]
      exact Array.getElem?_push_size)
  have KA := fun w => alast_any F w
  have hE : lastE F = 0 := by unfold lastE; rw [if_pos hF]
  rw [hE] at KA
  clear q1 q2 s1 hE
  go_enter Try.func7, Try.ntmps7
  go_wp2_with fail
  revert HP
  generalize hW0 : (w.alloc (.cells #[.int .i64 0, .slice none 0 0] 24)).alloc (.cells #[.int .i64 0, .int .i64 0, .int .i64 0] 39) = W0
  intro HP
  obtain ⟨hp1, hp2, hp3⟩ := HP.out W0 rfl
  clear HP hW0
  refine (KA W0).mono ?_
  rintro e W1 ⟨rfl, hb⟩
  have b2 := bl1 W1 (.cells #[.int .u64 (hI (lastV F)), .int .u64 (lI (lastV F))] 31)
  have b3 := bl1 (W1.alloc (.cells #[.int .u64 (hI (lastV F)), .int .u64 (lI (lastV F))] 31)) (.cells #[.int .i64 F, .string s, .int .i64 0, .int .i64 1, .int .i64 0] 49)
  have sz1 : (W1.alloc (.cells #[.int .u64 (hI (lastV F)), .int .u64 (lI (lastV F))] 31)).heap.size = W1.heap.size + 1 := by simp
  have bb := keepb b3 (keepb b2 hb)
  have HT : Hid (((W1.alloc (.cells #[.int .u64 (hI (lastV F)), .int .u64 (lI (lastV F))] 31)).alloc (.cells #[.int .i64 F, .string s, .int .i64 0, .int .i64 1, .int .i64 0] 49)).heap[w.heap.size]? = some (.cells #[.int .i64 0, .slice none 0 0] 24)) := hidR ((bb.block _ (blk_lt5 hp1)).trans hp1)
  have HF : Hid (((W1.alloc (.cells #[.int .u64 (hI (lastV F)), .int .u64 (lI (lastV F))] 31)).alloc (.cells #[.int .i64 F, .string s, .int .i64 0, .int .i64 1, .int .i64 0] 49)).heap[w.heap.size + 1]? = some (.cells #[.int .i64 0, .int .i64 0, .int .i64 0] 39)) := hidR ((bb.block _ (blk_lt5 hp2)).trans hp2)
  have HB := hidR (keepb bb hp3)
  have HR : Hid (RdV ((W1.alloc (.cells #[.int .u64 (hI (lastV F)), .int .u64 (lI (lastV F))] 31)).alloc (.cells #[.int .i64 F, .string s, .int .i64 0, .int .i64 1, .int .i64 0] 49)) (W1.heap.size + 1) F s 0 1 0) := hidR (by
    show _ = _
    rw [← sz1]
    exact Array.getElem?_push_size)
  have hlt : w.heap.size + 1 < W1.heap.size := by have := hb.size; have := blk_lt5 hp2; omega
  clear b2 b3 bb hp1 hp2 hp3 hb sz1 KA
  go_wp2_with fail
  revert HT HF HB HR hlt
  generalize (W1.alloc (.cells #[.int .u64 (hI (lastV F)), .int .u64 (lI (lastV F))] 31)).alloc (.cells #[.int .i64 F, .string s, .int .i64 0, .int .i64 1, .int .i64 0] 49) = W2
  generalize W1.heap.size = R1
  intro HT HF HB HR hlt
  refine (entries5_any (R1 + 1) F s W2 HR.out hs ((0, 0, 0), L) hres).mono ?_
  rintro e W3 ⟨⟨lv, rfl, hO⟩, hb⟩
  have hR2 : R1 + 1 < W2.heap.size := HR.out.lt
  obtain ⟨g, c, rfl⟩ : ∃ g c, lv = .slice (some ⟨g, 0, none⟩) L.length c := by
    rcases hO.2 with ⟨_, e1⟩ | ⟨g, cap, cur, e0, _⟩
    · have e2 : L.length = 0 := e1
      omega
    · exact ⟨g, cap, e0⟩
  have q4 := bl1 W3 (.cells #[.int .i64 0, .int .i64 0, .int .i64 0] 39)
  have hgb : W2.heap.size + 4 ≤ g := (hO.lt g rfl).1
  have HO := hidR (show RwO (W3.alloc (.cells #[.int .i64 0, .int .i64 0, .int .i64 0] 39)) (W2.heap.size + 4) g c L.length L from RwO.below ⟨rfl, hO⟩ q4)
  have HT3 := hidR ((q4.block _ (blk_lt5 ((hb.blk _ (blk_lt5 HT.out) (by omega)).trans HT.out))).trans ((hb.blk _ (blk_lt5 HT.out) (by omega)).trans HT.out))
  have HF3 := hidR ((q4.block _ (blk_lt5 ((hb.blk _ (blk_lt5 HF.out) (by omega)).trans HF.out))).trans ((hb.blk _ (blk_lt5 HF.out) (by omega)).trans HF.out))
  have HB3 := hidR (keepb q4 (Bo.low hb HB.out (by have := HB.out.size; omega) (Nat.le_refl _)))
  clear hO hb q4 HT HF HB HR hres
  go_wp2_with fail
  revert HO HT3 HF3 HB3
  generalize W3.alloc (.cells #[.int .i64 0, .int .i64 0, .int .i64 0] 39) = W4
  intro HO HT3 HF3 HB3
  refine (inOrder_any F (W2.heap.size + 4) g c L.length L S W4 HO.out hL0 hL (fun W h => KS _ _ _ W h)).mono ?_
  rintro e W5 ⟨rfl, hD, hb⟩
  have hT5 := (hb.blk _ (blk_lt5 HT3.out) (by omega)).trans HT3.out
  have hF5 := (hb.blk _ (blk_lt5 HF3.out) (by omega)).trans HF3.out
  have HB5 := hidR (Bo.low hb HB3.out (by have := HB3.out.size; omega) (Nat.le_refl _))
  have c0 := at_blk hT5 0 (.int .i64 0) rfl
  have c1 := at_blk hT5 1 (.slice none 0 0) rfl
  have c2 := at_blk hF5 0 (.int .i64 0) rfl
  have c3 := at_blk hF5 1 (.int .i64 0) rfl
  have c4 := at_blk hF5 2 (.int .i64 0) rfl
  have d0 := fr_blk5 (j := 0) hT5
  have d1 := fr_blk5 (j := 1) hT5
  have d2 := fr_blk5 (j := 0) hF5
  have d3 := fr_blk5 (j := 1) hF5
  have d4 := fr_blk5 (j := 2) hF5
  have HZ : Hid (Row (((((W5.setCell ⟨w.heap.size, 0, none⟩ (.int .i64 F)).setCell ⟨w.heap.size, 1, none⟩ (.slice (some ⟨g, 0, none⟩) (ltL S).length c)).setCell ⟨w.heap.size + 1, 0, none⟩ (.int .i64 0)).setCell ⟨w.heap.size + 1, 1, none⟩ (.int .i64 0)).setCell ⟨w.heap.size + 1, 2, none⟩ (.int .i64 0)) 4 (.slice (some ⟨g, 0, none⟩) (ltL S).length c) (ltL S).length (rowR (ltL S)) ∧ Below w.heap.size w (((((W5.setCell ⟨w.heap.size, 0, none⟩ (.int .i64 F)).setCell ⟨w.heap.size, 1, none⟩ (.slice (some ⟨g, 0, none⟩) (ltL S).length c)).setCell ⟨w.heap.size + 1, 0, none⟩ (.int .i64 0)).setCell ⟨w.heap.size + 1, 1, none⟩ (.int .i64 0)).setCell ⟨w.heap.size + 1, 2, none⟩ (.int .i64 0))) := hidR (by
    obtain ⟨D', h1, h2, h3⟩ := hD
    have h4 : RwO (((((W5.setCell ⟨w.heap.size, 0, none⟩ (.int .i64 F)).setCell ⟨w.heap.size, 1, none⟩ (.slice (some ⟨g, 0, none⟩) (ltL S).length c)).setCell ⟨w.heap.size + 1, 0, none⟩ (.int .i64 0)).setCell ⟨w.heap.size + 1, 1, none⟩ (.int .i64 0)).setCell ⟨w.heap.size + 1, 2, none⟩ (.int .i64 0)) (W2.heap.size + 4) g c L.length D' := h1.heap (by rw [hSet _ (by omega), hSet _ (by omega), hSet _ (by omega), hSet _ (by omega), hSet _ (by omega)])
    have r := own_row h4.2
    obtain ⟨r1, ao, c', r2, r3, r4⟩ := r
    injection r2 with r5 _ r6
    subst r5 r6
    refine ⟨⟨rowR_len _, _, _, rfl, by omega, ?_⟩, ((((HB5.out.setCell (p := ⟨w.heap.size, 0, none⟩) (Nat.le_refl _) _).setCell (p := ⟨w.heap.size, 1, none⟩) (Nat.le_refl _) _).setCell (p := ⟨w.heap.size + 1, 0, none⟩) (Nat.le_succ _) _).setCell (p := ⟨w.heap.size + 1, 1, none⟩) (Nat.le_succ _) _).setCell (p := ⟨w.heap.size + 1, 2, none⟩) (Nat.le_succ _) _⟩
    rcases r4 with ⟨e, _⟩ | ⟨b, off, e, r4⟩
    · cases e
    · injection e with e
      injection e with e1 e2
      subst e1 e2
      refine .inr ⟨_, _, rfl, fun j u hj => r4 j u ?_⟩
      rw [← h2, ← rowR_take] at hj
      have hjl := (List.getElem?_eq_some_iff.mp hj).1
      rw [List.length_take] at hjl
      rw [← hj, List.getElem?_take_of_lt (by omega)])
  clear hD hb hT5 hF5 HO HT3 HF3 HB3 HB5 KS
  go_wp2
  exact bodyPost_ret (v := .tuple #[.agg #[.int .i64 F, .slice (some ⟨g, 0, none⟩) (ltL S).length c], .agg #[.int .i64 0, .int .i64 0, .int .i64 0]]) (by simp [results, Try.results7, go_sem, c0, c1, c2, c3, c4]) rfl ⟨⟨_, rfl, HZ.out.1⟩, HZ.out.2⟩
end Go.Proofs.Ytmeaikmmhgmgnab
/-
  Plain facts: two prefixes are apart, or one lies within the other; what has an address lies between the ends.
-/
namespace Go.Proofs.Ytmeaikmmhgmgnab
open Go.RowKit
set_option linter.unusedSimpArgs false
set_option linter.unusedVariables false

theorem cut_le (x : BitVec 128) (n : Int) : (cutW x n).toNat ≤ x.toNat := by
  rw [cut_nat]; exact Nat.div_mul_le_self _ _
end Go.Proofs.Ytmeaikmmhgmgnab
/-
  Plain: the routes within whose prefixes one lies, gone over upwards.
-/
namespace Go.Proofs.Ytmeaikmmhgmgnab
open Go.RowKit
set_option linter.unusedSimpArgs false
set_option linter.unusedVariables false

/-- Whether a prefix lies within a route's. -/
def inR (px : BitVec 128) (pn : Int) (r : Rte) : Bool := withinB px pn r.1.1 r.1.2
def RtR (F : Int) (l : List Rte) : Prop := ∀ r ∈ l, Rt F r.1.1 r.1.2
theorem toP_le {y : BitVec 128} {m : Int} {l : List Rte} (hO : OrdR l) {k : Nat} (h : UpTo y m l k) : ∀ (j : Nat) (hj : j < l.length), j < k ↔ pcmpZ l[j].1.1 l[j].1.2 y m ≤ 0 := by
  obtain ⟨hk, i, ok, ⟨h1, h2, h3⟩, h4⟩ := h
  intro j hj
  have hj2 := h2 j hj
  unfold toP at hj2 h3
  constructor
  · intro hjk
    by_cases c : j < i
    · have := hj2.mp c; omega
    · have hji : j = i := by
        rw [h4] at hjk
        split at hjk <;> omega
      subst hji
      have hok : ok = true := by
        cases ok with
        | true => rfl
        | false => rw [h4, if_neg (by simp)] at hjk; omega
      rw [hok, List.getElem?_eq_getElem hj] at h3
      have := of_decide_eq_true h3.symm
      omega
  · intro hle
    by_cases c : j < i
    · rw [h4]; split <;> omega
    · by_cases c2 : pcmpZ l[j].1.1 l[j].1.2 y m < 0
      · exact absurd (hj2.mpr c2) c
      · have h0 : pcmpZ l[j].1.1 l[j].1.2 y m = 0 := by omega
        by_cases c3 : j = i
        · subst c3
          rw [List.getElem?_eq_getElem hj] at h3
          have : ok = true := by rw [h3]; exact decide_eq_true h0
          rw [h4, if_pos this]; omega
        · exfalso
          have hij : i < j := by omega
          have hi := hO i j hj hij
          have e := (pcmp_eq0 _ _ _ _).mp h0
          have hi2 := h2 i (by omega)
          unfold toP at hi2
          rw [← e.1, ← e.2] at hi2
          have := hi2.mpr hi
          omega
/-- A route that a prefix lies within stands not behind it. -/
theorem in_le {F : Int} {px : BitVec 128} {pn : Int} {r : Rte} (hr : Rt F r.1.1 r.1.2) (h : withinB px pn r.1.1 r.1.2 = true) : pcmpZ r.1.1 r.1.2 px pn ≤ 0 := by
  obtain ⟨h1, h2⟩ := (within_iff _ _ _ _).mp h
  rw [pcmp_le]
  have := cut_le px r.1.2
  rw [h2] at this
  by_cases c : r.1.1.toNat < px.toNat
  · exact .inl c
  · exact .inr ⟨BitVec.eq_of_toNat_eq (by omega), h1⟩
theorem within_trans {F : Int} {x : BitVec 128} {n : Int} {y : BitVec 128} {m : Int} {z : BitVec 128} {k : Int} (hz : 0 ≤ k) (h1 : withinB x n y m = true) (h2 : withinB y m z k = true) : withinB x n z k = true := by
  obtain ⟨a1, a2⟩ := (within_iff _ _ _ _).mp h1
  obtain ⟨b1, b2⟩ := (within_iff _ _ _ _).mp h2
  refine (within_iff _ _ _ _).mpr ⟨by omega, ?_⟩
  rw [← b2, ← a2, cut_cut _ _ _ hz b1]
/-- How it stands: so many routes are left, all others that have the prefix are told. -/
structure UpS (F : Int) (l : List Rte) (px : BitVec 128) (pn : Int) (nx : BitVec 128) (nn : Int) (k : Nat) (pre : List Rte) : Prop where
  kl : k ≤ l.length
  nr : Rt F nx nn
  pw : withinB px pn nx nn = true
  le : ∀ (j : Nat) (hj : j < l.length), j < k → pcmpZ l[j].1.1 l[j].1.2 nx nn ≤ 0
  has : ∀ (j : Nat) (hj : j < l.length), j < k → inR px pn l[j] = true → withinB nx nn l[j].1.1 l[j].1.2 = true
  pr : pre = ((l.drop k).filter (inR px pn)).reverse
theorem filter_none {px : BitVec 128} {pn : Int} {l : List Rte} : ∀ (d k : Nat), k + d ≤ l.length → (∀ (j : Nat) (hj : j < l.length), k ≤ j → j < k + d → inR px pn l[j] = false) → (l.drop k).filter (inR px pn) = (l.drop (k + d)).filter (inR px pn)
  | 0, k, _, _ => rfl
  | d + 1, k, hk, h => by
    have hkl : k < l.length := by omega
    rw [List.drop_eq_getElem_cons hkl, List.filter_cons_of_neg (by rw [h k hkl (by omega) (by omega)]; simp), filter_none d (k + 1) (by omega) (fun j hj h1 h2 => h j hj (by omega) (by omega)), show k + 1 + d = k + (d + 1) by omega]
theorem up_first {F : Int} {l : List Rte} {px : BitVec 128} {pn : Int} {k : Nat} (hO : OrdR l) (hR : RtR F l) (hp : Rt F px pn) (hk : UpTo px pn l k) : UpS F l px pn px pn k [] := by
  have hj := toP_le hO hk
  have self : withinB px pn px pn = true := (within_iff _ _ _ _).mpr ⟨Int.le_refl _, hp.2.2⟩
  refine ⟨hk.1, hp, self, fun j h1 h2 => (hj j h1).mp h2, fun j h1 _ h3 => h3, ?_⟩
  have e := filter_none (px := px) (pn := pn) (l := l) (l.length - k) k (by have := hk.1; omega) (fun j h1 h2 _ => by
    cases h : inR px pn l[j] with
    | false => rfl
    | true =>
      have := (hj j h1).mpr (in_le (hR _ (List.getElem_mem h1)) h)
      omega)
  rw [e, show k + (l.length - k) = l.length by have := hk.1; omega, List.drop_length]
  rfl
theorem up_step {F : Int} {l : List Rte} {px : BitVec 128} {pn : Int} {nx : BitVec 128} {nn : Int} {k : Nat} {pre : List Rte} (hF : F ≤ 128) (hO : OrdR l) (hR : RtR F l) (hp : Rt F px pn) (s : UpS F l px pn nx nn (k + 1) pre) {k' : Nat} (hk : k < l.length)
    (hU : UpTo (cutW nx (meetN nx nn l[k].1.1 l[k].1.2)) (meetN nx nn l[k].1.1 l[k].1.2) (l.take k) k') :
    withinB nx nn l[k].1.1 l[k].1.2 = inR px pn l[k] ∧ UpS F l px pn (cutW nx (meetN nx nn l[k].1.1 l[k].1.2)) (meetN nx nn l[k].1.1 l[k].1.2) k' (pre ++ if inR px pn l[k] = true then [l[k]] else []) := by
  obtain ⟨rx, rn, hrr⟩ : ∃ rx rn, rx = l[k].1.1 ∧ rn = l[k].1.2 := ⟨_, _, rfl, rfl⟩
  have hr : Rt F l[k].1.1 l[k].1.2 := hR _ (List.getElem_mem hk)
  have hn := s.nr
  have same : withinB nx nn l[k].1.1 l[k].1.2 = inR px pn l[k] := by
    cases h : inR px pn l[k] with
    | true => exact s.has k hk (by omega) h
    | false =>
      cases h2 : withinB nx nn l[k].1.1 l[k].1.2 with
      | false => rfl
      | true =>
        have := within_trans (F := F) hr.1 s.pw h2
        unfold inR at h
        rw [this] at h; cases h
  refine ⟨same, ?_⟩
  have m0 := meetN_nn nx nn l[k].1.1 l[k].1.2 hn.1 hr.1
  have ml := meetN_le nx nn l[k].1.1 l[k].1.2
  have nin : withinB nx nn (cutW nx (meetN nx nn l[k].1.1 l[k].1.2)) (meetN nx nn l[k].1.1 l[k].1.2) = true := (within_iff _ _ _ _).mpr ⟨ml.1, rfl⟩
  have nrt : Rt F (cutW nx (meetN nx nn l[k].1.1 l[k].1.2)) (meetN nx nn l[k].1.1 l[k].1.2) := ⟨m0, by have := hn.2.1; omega, cut_cut _ _ _ m0 (Int.le_refl _)⟩
  have hOt : OrdR (l.take k) := fun a b hb hab => by
    rw [List.length_take] at hb
    have := hO a b (by omega) hab
    simpa [List.getElem_take] using this
  have hlt : (l.take k).length = k := by rw [List.length_take]; omega
  have hj := toP_le hOt hU
  have hk' : k' ≤ k := by have := hU.1; omega
  -- a route further ahead that has the prefix has what is near now
  have key : ∀ (j : Nat) (hjl : j < l.length), j < k → inR px pn l[j] = true → withinB (cutW nx (meetN nx nn l[k].1.1 l[k].1.2)) (meetN nx nn l[k].1.1 l[k].1.2) l[j].1.1 l[j].1.2 = true := by
    intro j hjl hjk hin
    have hrj : Rt F l[j].1.1 l[j].1.2 := hR _ (List.getElem_mem hjl)
    have w1 := s.has j hjl (by omega) hin
    have o1 := hO j k hk hjk
    have o2 := s.le k hk (by omega)
    have w2 := between F l[j].1.1 l[j].1.2 l[k].1.1 l[k].1.2 nx nn hrj hr (by omega) o2 w1
    exact meet_above nx nn l[k].1.1 l[k].1.2 l[j].1.1 l[j].1.2 hrj.1 (by have := hn.2.1; omega) w1 w2
  refine ⟨by omega, nrt, within_trans (F := F) m0 s.pw nin, fun j h1 h2 => ?_, fun j h1 h2 h3 => key j h1 (by omega) h3, ?_⟩
  · have := (hj j (by omega)).mp h2
    simpa [List.getElem_take] using this
  · have e := filter_none (px := px) (pn := pn) (l := l) (k - k') k' (by omega) (fun j h1 h2 h3 => by
      cases h : inR px pn l[j] with
      | false => rfl
      | true =>
        have q := in_le (hR _ (List.getElem_mem h1)) (key j h1 (by omega) h)
        have := (hj j (by omega)).mpr (by simpa [List.getElem_take] using q)
        omega)
    rw [e, show k' + (k - k') = k by omega, s.pr, List.drop_eq_getElem_cons hk]
    by_cases c : inR px pn l[k] = true
    · rw [List.filter_cons_of_pos c, if_pos c]; simp
    · rw [List.filter_cons_of_neg c, if_neg c]; simp
theorem up_end {F : Int} {l : List Rte} {px : BitVec 128} {pn : Int} {nx : BitVec 128} {nn : Int} {pre : List Rte} (s : UpS F l px pn nx nn 0 pre) : pre = (l.filter (inR px pn)).reverse := by
  have := s.pr
  rwa [List.drop_zero] at this
end Go.Proofs.Ytmeaikmmhgmgnab
