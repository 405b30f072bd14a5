/-
  Part 21 of the proof: 13 texts, one behind the other.
-/
import Derived.Test.YtmeaikmmhgmgnaaPart11
import Derived.Test.YtmeaikmmhgmgnaaPart20
import Derived.Test.YtmeaikmmhgmgnaaPart1
import Derived.Deep.AppendLies
import Derived.Deep.RegionHeld3
import Derived.Test.YtmeaikmmhgmgnaaPart10
import Derived.Test.YtmeaikmmhgmgnaaPart6
import Derived.Test.YtmeaikmmhgmgnaaPart5
import Derived.Test.YtmeaikmmhgmgnaaPart12
import Derived.Test.YtmeaikmmhgmgnaaPart9
import Derived.Laws.CopyRow
import Derived.Lib.SliceRun
/-
  Plain: a route is set into a list in order; so the last of each prefix are left, in order.
-/
namespace Go.Proofs.Ytmeaikmmhgmgnaa
open Go.RowKit
set_option linter.unusedSimpArgs false
set_option linter.unusedVariables false

/-- A route is set, the list's end first. -/
def setV : List Rte → Rte → List Rte
  | [], r => [r]
  | y :: t, r => if cmR r y < 0 then y :: setV t r else tellR (y :: t) r
def setF (S : List Rte) (r : Rte) : List Rte := (setV S.reverse r).reverse
def tlV (R : List Rte) : List Rte := R.foldr (fun r st => tellR st r) []
theorem tell_ne (y z : Rte) (t : List Rte) (h : ((z.1.1 == y.1.1) && (z.1.2 == y.1.2)) = false) : tellR (z :: t) y = y :: z :: t := by
  unfold tellR; simp [h]
theorem tell_eq (y z : Rte) (t : List Rte) (h : ((z.1.1 == y.1.1) && (z.1.2 == y.1.2)) = true) : tellR (z :: t) y = y :: t := by
  unfold tellR; simp [h]
theorem key_eq {y z : Rte} (h : ((z.1.1 == y.1.1) && (z.1.2 == y.1.2)) = true) : z.1 = y.1 := by
  obtain ⟨h1, h2⟩ := Bool.and_eq_true_iff.mp h
  exact Prod.ext (eq_of_beq h1) (eq_of_beq h2)
theorem cm_key {x y z : Rte} (h : z.1 = y.1) : cmR x z = cmR x y := by unfold cmR; rw [h]
theorem cm_ne {x y : Rte} (h : cmR x y < 0) : ((x.1.1 == y.1.1) && (x.1.2 == y.1.2)) = false := by
  by_cases c : ((x.1.1 == y.1.1) && (x.1.2 == y.1.2)) = true
  · have := key_eq c
    unfold cmR at h
    rw [this, (pcmp_eq0 _ _ _ _).2 ⟨rfl, rfl⟩] at h
    omega
  · simpa using c
theorem tl_ins (x : Rte) : ∀ R : List Rte, tlV (revIns R x) = setV (tlV R) x
  | [] => rfl
  | y :: R => by
    have ih := tl_ins x R
    by_cases c : cmR x y < 0
    · have e1 : revIns (y :: R) x = y :: revIns R x := if_pos c
      rw [e1]
      show tellR (tlV (revIns R x)) y = setV (tellR (tlV R) y) x
      rw [ih]
      match tlV R with
      | [] =>
        show tellR [x] y = setV [y] x
        rw [tell_ne y x [] (cm_ne c)]
        show _ = if cmR x y < 0 then y :: [x] else _
        rw [if_pos c]
      | z :: t =>
        by_cases k : ((z.1.1 == y.1.1) && (z.1.2 == y.1.2)) = true
        · have cz : cmR x z < 0 := by rw [cm_key (key_eq k)]; exact c
          rw [tell_eq y z t k]
          show tellR (if cmR x z < 0 then z :: setV t x else tellR (z :: t) x) y = (if cmR x y < 0 then y :: setV t x else _)
          rw [if_pos cz, if_pos c, tell_eq y z _ k]
        · have k' : ((z.1.1 == y.1.1) && (z.1.2 == y.1.2)) = false := by simpa using k
          rw [tell_ne y z t k']
          show _ = if cmR x y < 0 then y :: setV (z :: t) x else _
          rw [if_pos c]
          show tellR (if cmR x z < 0 then z :: setV t x else tellR (z :: t) x) y = y :: (if cmR x z < 0 then z :: setV t x else tellR (z :: t) x)
          by_cases cz : cmR x z < 0
          · rw [if_pos cz, tell_ne y z _ k']
          · rw [if_neg cz]
            by_cases kz : ((z.1.1 == x.1.1) && (z.1.2 == x.1.2)) = true
            · rw [tell_eq x z t kz, tell_ne y x _ (cm_ne c)]
            · rw [tell_ne x z t (by simpa using kz), tell_ne y x _ (cm_ne c)]
    · have e1 : revIns (y :: R) x = x :: y :: R := if_neg c
      rw [e1]
      show tellR (tellR (tlV R) y) x = setV (tellR (tlV R) y) x
      obtain ⟨u, hu⟩ : ∃ u, tellR (tlV R) y = y :: u := by
        match tlV R with
        | [] => exact ⟨[], rfl⟩
        | z :: t =>
          by_cases k : ((z.1.1 == y.1.1) && (z.1.2 == y.1.2)) = true
          · exact ⟨t, tell_eq y z t k⟩
          · exact ⟨z :: t, tell_ne y z t (by simpa using k)⟩
      rw [hu]
      show _ = if cmR x y < 0 then _ else tellR (y :: u) x
      rw [if_neg c]
theorem tl_fold : ∀ (D R : List Rte), tlV (D.foldl revIns R) = D.foldl setV (tlV R)
  | [], _ => rfl
  | x :: D, R => by rw [List.foldl_cons, tl_fold D, tl_ins]; rfl
theorem setF_fold : ∀ (D S : List Rte), D.foldl setF S = (D.foldl setV S.reverse).reverse
  | [], S => by simp
  | x :: D, S => by rw [List.foldl_cons, setF_fold D]; unfold setF; rw [List.reverse_reverse]; rfl
/-- Set one by one, or sorted and the last of each left: one list. -/
theorem canon_eq (D : List Rte) : ltL (isrt D) = D.foldl setF [] := by
  unfold ltL isrt
  rw [setF_fold, List.foldl_reverse]
  have := tl_fold D []
  unfold tlV at this
  rw [this]
  rfl
end Go.Proofs.Ytmeaikmmhgmgnaa
/-
  What a call of package word's Text does.
-/
namespace Go.Proofs.Ytmeaikmmhgmgnaa
open Go.RowKit
set_option linter.unusedSimpArgs false
set_option linter.unusedVariables false

end Go.Proofs.Ytmeaikmmhgmgnaa
/-
  What a call of the reference's Text does.
-/
namespace Go.Proofs.Ytmeaikmmhgmgnaa
open Go.RowKit
set_option linter.unusedSimpArgs false
set_option linter.unusedVariables false

theorem own_below {base e size n : Nat} {v : Value} {xs : List Value} {W w' : World} (hb : Below W.heap.size W w') (h : W.ownsRow base e size v n xs) : w'.ownsRow base e size v n xs := by
  refine h.kept (row := none) ⟨hb.os, hb.tape, hb.output, hb.size, fun k hk _ => hb.block k hk⟩ ?_
  cases v.ownBlock with
  | none => exact Or.inl rfl
  | some a => exact Or.inr (by simp)

end Go.Proofs.Ytmeaikmmhgmgnaa
/-
  What the call of turnpikeref5's Set does.
-/
namespace Go.Proofs.Ytmeaikmmhgmgnaa
open Go.RowKit
set_option linter.unusedSimpArgs false
set_option linter.unusedVariables false

def CR5 (w4 : World) (g o b : Nat) (qx : BitVec 128) (qn : Int) (x : BitVec 128) (pn : Int) (W : World) : Prop := (W.cell? ⟨g, o, none⟩ = some (.int .u64 (hI qx)) ∧ W.cell? ⟨g, o + 1, none⟩ = some (.int .u64 (lI qx)) ∧ W.cell? ⟨g, o + 2, none⟩ = some (.int .i64 qn)) ∧ (W.cell? ⟨b, 0, none⟩ = some (.int .u64 (hI x)) ∧ W.cell? ⟨b, 1, none⟩ = some (.int .u64 (lI x)) ∧ W.cell? ⟨b, 2, none⟩ = some (.int .i64 pn)) ∧ Below w4.heap.size w4 W
theorem CR5.below {w4 W W' : World} {g o b : Nat} {qx x : BitVec 128} {qn pn : Int} (h : CR5 w4 g o b qx qn x pn W) (hb : Below W.heap.size W W') : CR5 w4 g o b qx qn x pn W' := ⟨⟨keepc hb h.1.1, keepc hb h.1.2.1, keepc hb h.1.2.2⟩, ⟨keepc hb h.2.1.1, keepc hb h.2.1.2.1, keepc hb h.2.1.2.2⟩, keepb hb h.2.2⟩
theorem CR5.drew {w4 W : World} {g o b : Nat} {qx x : BitVec 128} {qn pn : Int} (h : CR5 w4 g o b qx qn x pn W) : CR5 w4 g o b qx qn x pn W.drew := h.below (below_drewN (Below.refl _ _) 1)
theorem stopHereW {P : Program} {w : World} {ops : Array Oper} {rest : List Oper} {a : Act} {Q : Exit → Act → World → Prop} {o : Oper} (h : Hid (wpList P ops Q (o :: rest) a w)) : wpList P ops Q (o :: rest) a w := h.out
theorem below_grown {w W : World} {r : Option Nat} (h : Below w.heap.size w W) : w.grownBy W r := ⟨h.os, h.tape, h.output, h.size, fun z h1 _ => h.block z h1⟩
end Go.Proofs.Ytmeaikmmhgmgnaa
/-
  What the calls of turnpikeref5's Checked and Check do.
-/
namespace Go.Proofs.Ytmeaikmmhgmgnaa
open Go.RowKit
set_option linter.unusedSimpArgs false
set_option linter.unusedVariables false

/-- A table, a route of its row. -/
def C8 (w : World) (F : Int) (v : Value) (b o : Nat) (x : BitVec 128) (n h : Int) (W : World) : Prop := AtT W w.heap.size F v ∧ (W.cell? ⟨b, o, none⟩ = some (.int .u64 (hI x)) ∧ W.cell? ⟨b, o + 1, none⟩ = some (.int .u64 (lI x)) ∧ W.cell? ⟨b, o + 2, none⟩ = some (.int .i64 n) ∧ W.cell? ⟨b, o + 3, none⟩ = some (.int .i64 h)) ∧ Below w.heap.size w W
theorem C8.below {w W W' : World} {F : Int} {v : Value} {b o : Nat} {x : BitVec 128} {n h : Int} (g : C8 w F v b o x n h W) (hb : Below W.heap.size W W') : C8 w F v b o x n h W' := ⟨g.1.below hb, ⟨keepc hb g.2.1.1, keepc hb g.2.1.2.1, keepc hb g.2.1.2.2.1, keepc hb g.2.1.2.2.2⟩, keepb hb g.2.2⟩
theorem C8.drew {w W : World} {F : Int} {v : Value} {b o : Nat} {x : BitVec 128} {n h : Int} (g : C8 w F v b o x n h W) : C8 w F v b o x n h W.drew := ⟨g.1, g.2.1, g.2.2.drew⟩
/-- A table, two routes of its row. -/
def C14 (w : World) (F : Int) (v : Value) (b o u : Nat) (x : BitVec 128) (n h : Int) (y : BitVec 128) (m g : Int) (W : World) : Prop := AtT W w.heap.size F v ∧ (W.cell? ⟨b, o, none⟩ = some (.int .u64 (hI x)) ∧ W.cell? ⟨b, o + 1, none⟩ = some (.int .u64 (lI x)) ∧ W.cell? ⟨b, o + 2, none⟩ = some (.int .i64 n) ∧ W.cell? ⟨b, o + 3, none⟩ = some (.int .i64 h)) ∧ (W.cell? ⟨b, u, none⟩ = some (.int .u64 (hI y)) ∧ W.cell? ⟨b, u + 1, none⟩ = some (.int .u64 (lI y)) ∧ W.cell? ⟨b, u + 2, none⟩ = some (.int .i64 m) ∧ W.cell? ⟨b, u + 3, none⟩ = some (.int .i64 g)) ∧ Below w.heap.size w W
theorem C14.below {w W W' : World} {F : Int} {v : Value} {b o u : Nat} {x : BitVec 128} {n h : Int} {y : BitVec 128} {m g : Int} (q : C14 w F v b o u x n h y m g W) (hb : Below W.heap.size W W') : C14 w F v b o u x n h y m g W' := ⟨q.1.below hb, ⟨keepc hb q.2.1.1, keepc hb q.2.1.2.1, keepc hb q.2.1.2.2.1, keepc hb q.2.1.2.2.2⟩, ⟨keepc hb q.2.2.1.1, keepc hb q.2.2.1.2.1, keepc hb q.2.2.1.2.2.1, keepc hb q.2.2.1.2.2.2⟩, keepb hb q.2.2.2⟩
theorem C14.drew {w W : World} {F : Int} {v : Value} {b o u : Nat} {x : BitVec 128} {n h : Int} {y : BitVec 128} {m g : Int} (q : C14 w F v b o u x n h y m g W) : C14 w F v b o u x n h y m g W.drew := ⟨q.1, q.2.1, q.2.2.1, q.2.2.2.drew⟩
end Go.Proofs.Ytmeaikmmhgmgnaa
/-
  A drawn region with one call in its midst that changes memory: one walk of the text's order, the call's answer a letter.
-/
namespace Go.Proofs.Ytmeaikmmhgmgnaa
open Go.RowKit
set_option linter.unusedSimpArgs false
set_option linter.unusedVariables false
section
variable {P : Program}
end
end Go.Proofs.Ytmeaikmmhgmgnaa
/-
  What the call of turnpikeref5's Canon does.
-/
namespace Go.Proofs.Ytmeaikmmhgmgnaa
open Go.RowKit
set_option linter.unusedSimpArgs false
set_option linter.unusedVariables false

/-- Canon's variables: the result, the table with the list as it was, and the list. -/
structure CnV (w : World) (Bt : Nat) (F : Int) (vC v : Value) (S : List Rte) (W : World) : Prop where
  res : W.heap[w.heap.size]? = some (.cells #[.int .i64 0, .slice none 0 0] 25)
  t : W.heap[Bt]? = some (.cells #[.int .i64 F, vC] 25)
  own : W.ownsRow (Bt + 1) 40 4 v S.length (rowR S)
  lt : w.heap.size < Bt
  low : Below w.heap.size w W
theorem CnV.below {w W W' : World} {Bt : Nat} {F : Int} {vC v : Value} {S : List Rte} (h : CnV w Bt F vC v S W) (hb : Below W.heap.size W W') : CnV w Bt F vC v S W' :=
  ⟨(hb.block _ (blk_lt5 h.res)).trans h.res, (hb.block _ (blk_lt5 h.t)).trans h.t, own_below hb h.own, h.lt, keepb hb h.low⟩
theorem CnV.put {w W : World} {Bt : Nat} {F : Int} {vC v : Value} {S : List Rte} (h : CnV w Bt F vC v S W) : CnV w Bt F v v S (W.setCell ⟨Bt, 1, none⟩ v) := by
  have hl := h.lt
  refine ⟨?_, ?_, ?_, h.lt, h.low.setCell (by show w.heap.size ≤ Bt; omega) _⟩
  · rw [hSet _ (by omega)]; exact h.res
  · exact (set_blk5 (o := 1) h.t v).trans rfl
  · exact own_heap h.own (fun z e => hSet _ (by have := (h.own.lt z e).1; omega))
end Go.Proofs.Ytmeaikmmhgmgnaa
/-
  Rows of words in memory.
-/
namespace Go.Proofs.Ytmeaikmmhgmgnaa
open Go.RowKit
set_option linter.unusedSimpArgs false
set_option linter.unusedVariables false

end Go.Proofs.Ytmeaikmmhgmgnaa
/-
  A table whose neighbours are in order is in order.
-/
namespace Go.Proofs.Ytmeaikmmhgmgnaa
open Go.RowKit

end Go.Proofs.Ytmeaikmmhgmgnaa
/-
  What the calls of the law's SameRoutes, Same (of two that are the same) and Right do.
-/
namespace Go.Proofs.Ytmeaikmmhgmgnaa
open Go.RowKit
set_option linter.unusedSimpArgs false
set_option linter.unusedVariables false

theorem eqR_run (x : BitVec 128) (n h : Int) (w : World) :
    (Op.equalIn 10000 40 (.agg #[.int .u64 (hI x), .int .u64 (lI x), .int .i64 n, .int .i64 h]) (.agg #[.int .u64 (hI x), .int .u64 (lI x), .int .i64 n, .int .i64 h])).run Try.prog w = .ok true w := by
  go_simp
end Go.Proofs.Ytmeaikmmhgmgnaa
/-
  copy of a row of any elements; what the calls of the law's Lend and Kept of tables do.
-/
namespace Go.Proofs.Ytmeaikmmhgmgnaa
open Go.RowKit
set_option linter.unusedSimpArgs false
set_option linter.unusedVariables false

/-- A table, and the one that is answered. -/
def LnT (w : World) (F : Int) (v : Value) (W : World) : Prop := AtU W w.heap.size F v ∧ AtU W (w.heap.size + 1) 0 (.slice none 0 0)
theorem LnT.heap {w : World} {F : Int} {v : Value} {W W' : World} (k : LnT w F v W) (h : ∀ z, z < w.heap.size + 2 → W'.heap[z]? = W.heap[z]?) : LnT w F v W' := ⟨k.1.heap (h _ (by omega)), k.2.heap (h _ (by omega))⟩
end Go.Proofs.Ytmeaikmmhgmgnaa
/-
  What the call of package table's Canon does.
-/
namespace Go.Proofs.Ytmeaikmmhgmgnaa
open Go.RowKit
set_option linter.unusedSimpArgs false
set_option linter.unusedVariables false
attribute [local go_sem] Oper.semAt_some

set_option maxRecDepth 20000 in
set_option maxHeartbeats 4000000 in
theorem ins0_any (ao : Option Addr) (c : Nat) (w : World) :
    Calls Try.prog 70 #[.slice ao 0 c, .int .i64 0, .int .i64 0, .func (.func 37) #[] #[]] w fun e w' => e = .returned (.tuple #[]) ∧ w' = w := by
  go_enter Try.func70, Try.ntmps70
  go_wp2_with fail
  go_loopw [8, 9] (fun i _ wr => i = .int .i64 1 ∧ wr = w) (fun _ _ _ => 0)
  case atStart => exact ⟨rfl, rfl⟩
  case round =>
    obtain ⟨rfl, rfl⟩ := hrel
    go_wp2
    exact bodyPost_end (v := .tuple #[]) (by simp [results, Try.results70, go_sem]) rfl ⟨rfl, rfl⟩
set_option maxRecDepth 20000 in
set_option maxHeartbeats 4000000 in
theorem stable0_any (ao : Option Addr) (c : Nat) (w : World) :
    Calls Try.prog 53 #[.slice ao 0 c, .int .i64 0, .func (.func 37) #[] #[]] w fun e w' => e = .returned (.tuple #[]) ∧ w' = w := by
  have KI := ins0_any ao c w
  go_enter Try.func53, Try.ntmps53
  go_wp2_with fail
  go_loopw [7, 8] (fun a b wr => a = .int .i64 0 ∧ b = .int .i64 20 ∧ wr = w) (fun _ _ _ => 0)
  case atStart => exact ⟨rfl, rfl, rfl⟩
  case round =>
    obtain ⟨rfl, rfl, rfl⟩ := hrel
    go_wp2_with fail
    refine KI.mono ?_
    rintro e w1 ⟨rfl, rfl⟩
    clear KI
    go_wp2_with fail
    go_loopw [6, 7, 8, 9] (fun s a b m wr => s = .int .i64 20 ∧ wr = w1) (fun _ _ _ _ _ => 0)
    case atStart => exact ⟨rfl, rfl⟩
    case round =>
      obtain ⟨rfl, rfl⟩ := hrel
      go_wp2
      exact bodyPost_end (v := .tuple #[]) (by simp [results, Try.results53, go_sem]) rfl ⟨rfl, rfl⟩
set_option maxHeartbeats 4000000 in
theorem sort0_any (ao : Option Addr) (c : Nat) (w : World) :
    Calls Try.prog 36 #[.slice ao 0 c, .func (.func 37) #[] #[]] w fun e w' => e = .returned (.tuple #[]) ∧ w' = w := by
  have KS := stable0_any ao c w
  go_enter Try.func36, Try.ntmps36
  go_wp2_with fail
  refine KS.mono ?_
  rintro e w1 ⟨rfl, rfl⟩
  clear KS
  go_wp2
  exact bodyPost_end (v := .tuple #[]) (by simp [results, Try.results36, go_sem]) rfl ⟨rfl, rfl⟩
set_option maxRecDepth 20000 in
set_option maxHeartbeats 4000000 in
theorem last0_any (ao : Option Addr) (c : Nat) (w : World) :
    Calls Try.prog 38 #[.slice ao 0 c] w fun e w' => e = .returned (.slice ao 0 c) ∧ w' = w := by
  obtain ⟨i0, hi, hz0, hz1, hz2⟩ := info_parts Try.infoR
  have hrun := fun w => run_slice_to (P := Try.prog) (w := w) Try.underlying22 hi ao 0 c 0 (Nat.zero_le _)
  go_enter Try.func38, Try.ntmps38
  go_wp2_with fail
  go_loopw [3, 5, 6, 11] (fun l _ _ i wr => l = .slice ao 0 c ∧ i = .int .i64 0 ∧ wr = w) (fun _ _ _ _ _ => 0)
  case atStart => exact ⟨rfl, rfl, rfl⟩
  case round =>
    obtain ⟨rfl, rfl, rfl⟩ := hrel
    go_wp2
    exact bodyPost_ret (v := .slice ao 0 c) (by simp [results, Try.results38, go_sem]) rfl ⟨rfl, rfl⟩
set_option maxHeartbeats 4000000 in
theorem inOrder0_any (F : Int) (ao : Option Addr) (c : Nat) (w : World) :
    Calls Try.prog 20 #[.int .i64 F, .slice ao 0 c] w fun e w' => e = .returned (.agg #[.int .i64 F, .slice ao 0 c]) ∧ Below w.heap.size w w' := by
  have q1 := bl1 w (.cells #[.int .i64 0, .slice none 0 0] 25)
  have HB1 := hidR q1
  have HT1 : Hid ((w.alloc (.cells #[.int .i64 0, .slice none 0 0] 25)).heap[w.heap.size]? = some (.cells #[.int .i64 0, .slice none 0 0] 25)) := hidR Array.getElem?_push_size
  clear q1
  go_enter Try.func20, Try.ntmps20
  go_wp2_with fail
  revert HB1 HT1
  generalize w.alloc (.cells #[.int .i64 0, .slice none 0 0] 25) = W1
  intro HB1 HT1
  refine (sort0_any ao c W1).mono ?_
  rintro e W2 ⟨rfl, rfl⟩
  go_wp2_with fail
  refine (last0_any ao c W2).mono ?_
  rintro e W3 ⟨rfl, rfl⟩
  have c0 := at_blk HT1.out 0 (.int .i64 0) rfl
  have c1 := at_blk HT1.out 1 (.slice none 0 0) rfl
  have d0 := fr_blk5 (j := 0) HT1.out
  have d1 := fr_blk5 (j := 1) HT1.out
  have HF : Hid (Below w.heap.size w ((W3.setCell ⟨w.heap.size, 0, none⟩ (.int .i64 F)).setCell ⟨w.heap.size, 1, none⟩ (.slice ao 0 c))) := hidR ((HB1.out.setCell (Nat.le_refl _) _).setCell (Nat.le_refl _) _)
  clear HB1 HT1
  go_wp2
  exact bodyPost_ret (v := .agg #[.int .i64 F, .slice ao 0 c]) (by simp [results, Try.results20, go_sem, c0, c1]) rfl ⟨rfl, HF.out⟩
/-- The front of an own row. -/
theorem own_cut {W : World} {base e size n m g c : Nat} {xs : List Value} (h : W.ownsRow base e size (.slice (some ⟨g, 0, none⟩) n c) n xs) (hm : m ≤ n) : W.ownsRow base e size (.slice (some ⟨g, 0, none⟩) m c) m (xs.take (m * size)) := by
  rcases h.2 with ⟨h', _⟩ | ⟨g', cap', cur, h', hb, hg, hnc, hcm, hcs, htake⟩
  · cases h'
  · simp only [Value.slice.injEq, Option.some.injEq, Addr.mk.injEq, and_true, true_and] at h'
    obtain ⟨rfl, rfl⟩ := h'
    refine ⟨by rw [List.length_take, h.1, Nat.min_eq_left (Nat.mul_le_mul_right _ hm)], .inr ⟨g, c, cur, rfl, hb, hg, by omega, hcm, hcs, ?_⟩⟩
    rw [← htake, List.take_take, Nat.min_eq_left (Nat.mul_le_mul_right _ hm)]
/-- inOrder of an own list. -/
theorem inOrderA_any (F : Int) (base : Nat) (v : Value) (D : List Rte) (w : World) (h : w.ownsRow base 40 4 v D.length (rowR D)) (hn : D.length ≤ 1000000000) :
    Calls Try.prog 20 #[.int .i64 F, v] w fun e w' => ∃ u, e = .returned (.agg #[.int .i64 F, u]) ∧ w'.ownsRow base 40 4 u (ltL (isrt D)).length (rowR (ltL (isrt D))) ∧ w.grownBy w' v.ownBlock ∧ (∀ z, u.ownBlock = some z → v.ownBlock = some z) := by
  obtain ⟨ao, c, rfl⟩ := own_form h
  by_cases h0 : D.length = 0
  · have hD : D = [] := List.length_eq_zero_iff.mp h0
    subst hD
    refine (inOrder0_any F ao c w).mono ?_
    rintro e w' ⟨rfl, hb⟩
    exact ⟨_, rfl, own_below hb h, below_grown hb, fun z e => e⟩
  · rcases h.2 with ⟨e, h1⟩ | ⟨g, cap, cur, e, h2⟩
    · exact absurd h1 h0
    · injection e with e1 e2 e3
      subst e1
      have hR : RwO w base g c D.length D := ⟨rfl, h⟩
      refine (inOrder_any F base g c D.length D (isrt D) w hR (by omega) hn (fun W hW => sort_any base g c D.length D W hW hn)).mono ?_
      rintro e w' ⟨rfl, ⟨D', hD', ht, hl⟩, hb⟩
      refine ⟨_, rfl, ?_, ?_, fun z e => e⟩
      · have := own_cut hD'.2 hl
        rw [rowR_take, ht] at this
        exact this
      · exact ⟨hb.os, hb.tape, hb.output, hb.size, fun z h1 h2 => hb.blk z h1 (fun e => h2 (by rw [e]; rfl))⟩
end Go.Proofs.Ytmeaikmmhgmgnaa
/-
  Any text is read: Parse.
-/
namespace Go.Proofs.Ytmeaikmmhgmgnaa
open Go.RowKit
set_option linter.unusedSimpArgs false
set_option linter.unusedVariables false
attribute [local go_sem] Oper.semAt_some

theorem wl_nil9 {P : Program} {ops : Array Oper} {Q : Exit → Act → World → Prop} {a : Act} {w : World} (h : wpList P ops Q [] a w) : Q .normal a w := h
theorem Slt.old {l : List Oper} {a A : Act} {lp : Array Bool} {a' : Act} (h : Slt l a A lp a') (s : Nat) (hs : ∀ o ∈ l, o.dst ≠ some s) : a'.tmps[s]? = a.tmps[s]? := h.oth s (fun k o hk _ => hs o (List.mem_of_getElem? hk))
theorem gh_quiet9 {P : Program} {o : Oper} {a' : Act} {w' : World} {K : Act → World → Prop} {Q' : Exit → Act → World → Prop} {v : Value} (hr : (execOp a'.eval o).run P w' = .ok (.value v) w') (hK : K (a'.put o.dst v) w') : o.wp P a' w' K Q' := by
  unfold Oper.wp
  rw [hr]
  exact hK
theorem lnsB_z {s : ByteArray} {g : Nat → Nat → Nat → List Rte → Nat → ResT} (hg : ∀ k ln st L tm, (g k ln st L tm).1.1 = 0 → (g k ln st L tm).1.2 = (0, 0)) (p ln : Nat) (L : List Rte) (tm : Nat) : (lnsB s g p ln L tm).1.1 = 0 → (lnsB s g p ln L tm).1.2 = (0, 0) := by
  unfold lnsB
  split
  · split
    · intro _; rfl
    · intro h; simp at h
  · exact hg _ _ _ _ _
theorem lnsR_z (F : Int) (s : ByteArray) : ∀ f k ln st L tm, (lnsR F s f k ln st L tm).1.1 = 0 → (lnsR F s f k ln st L tm).1.2 = (0, 0)
  | 0, _, _, _, _, _ => fun _ => rfl
  | f + 1, k, ln, st, L, tm => by
    have hb := fun p L tm => lnsB_z (s := s) (lnsR_z F s f) p ln L tm
    unfold lnsR
    split
    · split
      · rename_i e p he
        intro h
        exact absurd h (entO_ne he)
      · split
        · exact hb _ _ _
        · exact hb _ _ _
    · exact hb _ _ _
theorem hz9 {F : Int} {s : ByteArray} {fl fc : Int} {L : List Rte} (h : lnsR F s (s.size + 1) 0 1 0 [] 0 = ((0, fl, fc), L)) : fl = 0 ∧ fc = 0 := by
  have := lnsR_z F s (s.size + 1) 0 1 0 [] 0
  rw [h] at this
  have := this rfl
  simpa using this
/-- What a text says: a fault, and routes. -/
def prR (F : Int) (s : ByteArray) : ResT := if fam F = true then lnsR F s (s.size + 1) 0 1 0 [] 0 else ((11, 0, 0), [])
/-- What Parse tells. -/
def PrsQ (F : Int) (s : ByteArray) (w : World) (e : Ending) (w' : World) : Prop := (∃ u S, e = .returned (.tuple #[.agg #[.int .i64 (if (prR F s).1.1 = 0 then F else 0), u], .agg #[.int .i64 (prR F s).1.1, .int .i64 (prR F s).1.2.1, .int .i64 (prR F s).1.2.2]]) ∧ S = (if (prR F s).1.1 = 0 then (prR F s).2.foldl setF [] else []) ∧ w'.ownsRow w.heap.size 40 4 u S.length (rowR S)) ∧ Below w.heap.size w w'
/-- The result's two parts, where there is a fault. -/
structure PzV (w : World) (Fb : Nat) (fe fl fc : Int) (b : Bool) (W : World) : Prop where
  res : W.heap[w.heap.size]? = some (.cells #[.int .i64 0, .slice none 0 0] 25)
  flt : W.heap[w.heap.size + 1]? = some (.cells (if b = true then #[.int .i64 fe, .int .i64 fl, .int .i64 fc] else #[.int .i64 0, .int .i64 0, .int .i64 0]) 52)
  f : W.heap[Fb]? = some (.cells #[.int .i64 fe, .int .i64 fl, .int .i64 fc] 52)
  lt : w.heap.size + 1 < Fb
  low : Below w.heap.size w W
theorem PzV.below {w W W' : World} {Fb : Nat} {fe fl fc : Int} {b : Bool} (h : PzV w Fb fe fl fc b W) (hb : Below W.heap.size W W') : PzV w Fb fe fl fc b W' :=
  ⟨(hb.block _ (blk_lt5 h.res)).trans h.res, (hb.block _ (blk_lt5 h.flt)).trans h.flt, (hb.block _ (blk_lt5 h.f)).trans h.f, h.lt, keepb hb h.low⟩
theorem PzV.zt {w W : World} {Fb : Nat} {fe fl fc : Int} {b : Bool} (h : PzV w Fb fe fl fc b W) : PzV w Fb fe fl fc b ((W.setCell ⟨w.heap.size, 0, none⟩ (.int .i64 0)).setCell ⟨w.heap.size, 1, none⟩ (.slice none 0 0)) := by
  have hl := h.lt
  refine ⟨by simpa using set_blk5 (o := 1) (set_blk5 (o := 0) h.res (.int .i64 0)) (.slice none 0 0), ?_, ?_, h.lt, (h.low.setCell (Nat.le_refl _) _).setCell (Nat.le_refl _) _⟩
  · rw [hSet _ (by omega), hSet _ (by omega)]; exact h.flt
  · rw [hSet _ (by omega), hSet _ (by omega)]; exact h.f
theorem PzV.ft {w W : World} {Fb : Nat} {fe fl fc : Int} (h : PzV w Fb fe fl fc false W) : PzV w Fb fe fl fc true (((W.setCell ⟨w.heap.size + 1, 0, none⟩ (.int .i64 fe)).setCell ⟨w.heap.size + 1, 1, none⟩ (.int .i64 fl)).setCell ⟨w.heap.size + 1, 2, none⟩ (.int .i64 fc)) := by
  have hl := h.lt
  refine ⟨?_, by simpa using set_blk5 (o := 2) (set_blk5 (o := 1) (set_blk5 (o := 0) h.flt (.int .i64 fe)) (.int .i64 fl)) (.int .i64 fc), ?_, h.lt, ((h.low.setCell (p := ⟨w.heap.size + 1, 0, none⟩) (Nat.le_succ _) _).setCell (p := ⟨w.heap.size + 1, 1, none⟩) (Nat.le_succ _) _).setCell (p := ⟨w.heap.size + 1, 2, none⟩) (Nat.le_succ _) _⟩
  · rw [hSet _ (by omega), hSet _ (by omega), hSet _ (by omega)]; exact h.res
  · rw [hSet _ (by omega), hSet _ (by omega), hSet _ (by omega)]; exact h.f
set_option maxRecDepth 20000 in
set_option maxHeartbeats 16000000 in
theorem parse9_any (F : Int) (s : ByteArray) (w : World) (hs : s.size ≤ 1000000000) (hL9 : (lnsR F s (s.size + 1) 0 1 0 [] 0).2.length ≤ 1000000000) :
    Calls Try.prog 18 #[.int .i64 F, .string s] w (PrsQ F s w) := by
  have q1 := bl1 w (.cells #[.int .i64 0, .slice none 0 0] 25)
  have q2 := bl1 (w.alloc (.cells #[.int .i64 0, .slice none 0 0] 25)) (.cells #[.int .i64 0, .int .i64 0, .int .i64 0] 52)
  have s1 : (w.alloc (.cells #[.int .i64 0, .slice none 0 0] 25)).heap.size = w.heap.size + 1 := by simp
  have HP : Hid (∀ X, X = (w.alloc (.cells #[.int .i64 0, .slice none 0 0] 25)).alloc (.cells #[.int .i64 0, .int .i64 0, .int .i64 0] 52) → X.heap[w.heap.size]? = some (.cells #[.int .i64 0, .slice none 0 0] 25) ∧ X.heap[w.heap.size + 1]? = some (.cells #[.int .i64 0, .int .i64 0, .int .i64 0] 52) ∧ Below w.heap.size w X) := hidR (by
    rintro X rfl
    refine ⟨?_, ?_, keepb q2 q1⟩
    · rw [q2.block _ (by omega)]
      exact Array.getElem?_push_size
    · rw [← s1]
      exact Array.getElem?_push_size)
  have KA := fun w => alast_any F w
  clear q1 q2 s1
  go_enter Try.func18, Try.ntmps18
  go_wp2_with fail
  revert HP
  generalize hW0 : (w.alloc (.cells #[.int .i64 0, .slice none 0 0] 25)).alloc (.cells #[.int .i64 0, .int .i64 0, .int .i64 0] 52) = W0
  intro HP
  obtain ⟨hp1, hp2, hp3⟩ := HP.out W0 rfl
  clear HP hW0
  cases hF : fam F with
  | false =>
    have hE : lastE F = 11 := by unfold lastE; rw [hF]; rfl
    rw [hE] at KA
    have HQ : Hid (∀ W, Below w.heap.size w W → PrsQ F s w (.returned (.tuple #[.agg #[.int .i64 0, .slice none 0 0], .agg #[.int .i64 11, .int .i64 0, .int .i64 0]])) W) := hidR (fun W hb => by
      have e : prR F s = ((11, 0, 0), []) := by unfold prR; rw [hF]; rfl
      refine ⟨⟨.slice none 0 0, [], ?_, ?_, ⟨rfl, .inl ⟨rfl, rfl⟩⟩⟩, hb⟩
      · rw [e]; rfl
      · rw [e]; rfl)
    clear hE
    refine (KA W0).mono ?_
    rintro e W1 ⟨rfl, hb⟩
    have b2 := bl1 W1 (.cells #[.int .u64 (hI (lastV F)), .int .u64 (lI (lastV F))] 36)
    have bb := keepb b2 hb
    have hT := (bb.block _ (blk_lt5 hp1)).trans hp1
    have hG := (bb.block _ (blk_lt5 hp2)).trans hp2
    have HB := hidR (keepb bb hp3)
    clear hb b2 bb hp1 hp2 hp3 KA
    generalize lastV F = lv at *
    have c0 := at_blk hT 0 (.int .i64 0) rfl
    have c1 := at_blk hT 1 (.slice none 0 0) rfl
    have c2 := at_blk hG 0 (.int .i64 0) rfl
    have c3 := at_blk hG 1 (.int .i64 0) rfl
    have c4 := at_blk hG 2 (.int .i64 0) rfl
    have d0 := fr_blk5 (j := 0) hT
    have d1 := fr_blk5 (j := 1) hT
    have d2 := fr_blk5 (j := 0) hG
    have d3 := fr_blk5 (j := 1) hG
    have d4 := fr_blk5 (j := 2) hG
    clear hT hG
    go_wp2_with fail
    revert c0 c1 c2 c3 c4 d0 d1 d2 d3 d4 HB
    generalize W1.alloc (.cells #[.int .u64 (hI lv), .int .u64 (lI lv)] 36) = W2
    intro HB c0 c1 c2 c3 c4 d0 d1 d2 d3 d4
    have HF := hidR (HQ.out (((((W2.setCell ⟨w.heap.size, 0, none⟩ (.int .i64 0)).setCell ⟨w.heap.size, 1, none⟩ (.slice none 0 0)).setCell ⟨w.heap.size + 1, 0, none⟩ (.int .i64 11)).setCell ⟨w.heap.size + 1, 1, none⟩ (.int .i64 0)).setCell ⟨w.heap.size + 1, 2, none⟩ (.int .i64 0)) (((((HB.out.setCell (p := ⟨w.heap.size, 0, none⟩) (Nat.le_refl _) _).setCell (p := ⟨w.heap.size, 1, none⟩) (Nat.le_refl _) _).setCell (p := ⟨w.heap.size + 1, 0, none⟩) (Nat.le_succ _) _).setCell (p := ⟨w.heap.size + 1, 1, none⟩) (Nat.le_succ _) _).setCell (p := ⟨w.heap.size + 1, 2, none⟩) (Nat.le_succ _) _))
    clear HB HQ
    go_wp2
    exact bodyPost_ret (v := .tuple #[.agg #[.int .i64 0, .slice none 0 0], .agg #[.int .i64 11, .int .i64 0, .int .i64 0]]) (by simp [results, Try.results18, go_sem, c0, c1, c2, c3, c4]) rfl HF.out
  | true =>
    have hE : lastE F = 0 := by unfold lastE; rw [if_pos hF]
    rw [hE] at KA
    have HPR : Hid (prR F s = lnsR F s (s.size + 1) 0 1 0 [] 0) := hidR (by unfold prR; rw [if_pos hF])
    clear hE
    refine (KA W0).mono ?_
    rintro e W1 ⟨rfl, hb⟩
    have b2 := bl1 W1 (.cells #[.int .u64 (hI (lastV F)), .int .u64 (lI (lastV F))] 36)
    have b3 := bl1 (W1.alloc (.cells #[.int .u64 (hI (lastV F)), .int .u64 (lI (lastV F))] 36)) (.cells #[.int .i64 F, .string s, .int .i64 0, .int .i64 1, .int .i64 0] 74)
    have sz1 : (W1.alloc (.cells #[.int .u64 (hI (lastV F)), .int .u64 (lI (lastV F))] 36)).heap.size = W1.heap.size + 1 := by simp
    have bb := keepb b3 (keepb b2 hb)
    have HT : Hid (((W1.alloc (.cells #[.int .u64 (hI (lastV F)), .int .u64 (lI (lastV F))] 36)).alloc (.cells #[.int .i64 F, .string s, .int .i64 0, .int .i64 1, .int .i64 0] 74)).heap[w.heap.size]? = some (.cells #[.int .i64 0, .slice none 0 0] 25)) := hidR ((bb.block _ (blk_lt5 hp1)).trans hp1)
    have HF : Hid (((W1.alloc (.cells #[.int .u64 (hI (lastV F)), .int .u64 (lI (lastV F))] 36)).alloc (.cells #[.int .i64 F, .string s, .int .i64 0, .int .i64 1, .int .i64 0] 74)).heap[w.heap.size + 1]? = some (.cells #[.int .i64 0, .int .i64 0, .int .i64 0] 52)) := hidR ((bb.block _ (blk_lt5 hp2)).trans hp2)
    have HB := hidR (keepb bb hp3)
    have HR : Hid (RdV ((W1.alloc (.cells #[.int .u64 (hI (lastV F)), .int .u64 (lI (lastV F))] 36)).alloc (.cells #[.int .i64 F, .string s, .int .i64 0, .int .i64 1, .int .i64 0] 74)) (W1.heap.size + 1) F s 0 1 0) := hidR (by
      show _ = _
      rw [← sz1]
      exact Array.getElem?_push_size)
    have hlt : w.heap.size + 1 < W1.heap.size := by have := hb.size; have := blk_lt5 hp2; omega
    clear b2 b3 bb hp1 hp2 hp3 hb sz1 KA
    go_wp2_with fail
    revert HT HF HB HR hlt
    generalize (W1.alloc (.cells #[.int .u64 (hI (lastV F)), .int .u64 (lI (lastV F))] 36)).alloc (.cells #[.int .i64 F, .string s, .int .i64 0, .int .i64 1, .int .i64 0] 74) = W2
    generalize W1.heap.size = R1
    intro HT HF HB HR hlt
    obtain ⟨res, hres⟩ : ∃ res, lnsR F s (s.size + 1) 0 1 0 [] 0 = res := ⟨_, rfl⟩
    have HPE := hidR (HPR.out.trans hres)
    rw [hres] at hL9
    refine (entries5_any (R1 + 1) F s W2 HR.out hs res hres).mono ?_
    rintro e W3 ⟨⟨lv, rfl, hO⟩, hb⟩
    have hR2 : R1 + 1 < W2.heap.size := HR.out.lt
    obtain ⟨⟨fe, fl, fc⟩, L⟩ := res
    dsimp only at hO hL9 ⊢
    have q4 := bl1 W3 (.cells #[.int .i64 fe, .int .i64 fl, .int .i64 fc] 52)
    obtain ⟨lo, lc, rfl⟩ := own_form hO
    have HO := hidR (own_below q4 hO)
    have hb3 : R1 + 1 < W3.heap.size := by have := hb.size; omega
    have HT3 := hidR ((q4.block _ (blk_lt5 ((hb.blk _ (blk_lt5 HT.out) (by omega)).trans HT.out))).trans ((hb.blk _ (blk_lt5 HT.out) (by omega)).trans HT.out))
    have HF3 := hidR ((q4.block _ (blk_lt5 ((hb.blk _ (blk_lt5 HF.out) (by omega)).trans HF.out))).trans ((hb.blk _ (blk_lt5 HF.out) (by omega)).trans HF.out))
    have HB3 := hidR (keepb q4 (Bo.low hb HB.out (by have := HB.out.size; omega) (Nat.le_refl _)))
    have HFb : Hid ((W3.alloc (.cells #[.int .i64 fe, .int .i64 fl, .int .i64 fc] 52)).heap[W3.heap.size]? = some (.cells #[.int .i64 fe, .int .i64 fl, .int .i64 fc] 52)) := hidR Array.getElem?_push_size
    clear hO hb q4 HT HF HB HR hres
    have y0 := at_blk HFb.out 0 (.int .i64 fe) rfl
    by_cases hfe : fe = 0
    · subst hfe
      go_wp2_with fail
      clear y0
      revert HO HT3 HF3 HB3 HFb
      generalize W3.alloc (.cells #[.int .i64 0, .int .i64 fl, .int .i64 fc] 52) = W4
      intro HO HT3 HF3 HB3 HFb
      have hlz : fl = 0 ∧ fc = 0 := hz9 (HPR.out.symm.trans HPE.out)
      obtain ⟨rfl, rfl⟩ := hlz
      have HN : Hid (∀ z, z < W2.heap.size → ¬ some z = Value.ownBlock (.slice lo L.length lc)) := hidR (fun z hz e => by have := (HO.out.lt z e.symm).1; omega)
      have hw2 : w.heap.size + 1 < W2.heap.size := by omega
      refine (inOrderA_any F (W2.heap.size + 4) _ L W4 HO.out hL9).mono ?_
      rintro e W5 ⟨u, rfl, ho, hg, hu⟩
      have hT5 := (hg.block _ (blk_lt5 HT3.out) (HN.out _ (by omega))).trans HT3.out
      have hF5 := (hg.block _ (blk_lt5 HF3.out) (HN.out _ (by omega))).trans HF3.out
      have hB5 : Below w.heap.size w W5 := ⟨by rw [hg.os, HB3.out.os], by rw [hg.tape, HB3.out.tape], by rw [hg.output, HB3.out.output], Nat.le_trans HB3.out.size hg.size, fun z hz => by rw [hg.block z (by have := HB3.out.size; omega) (HN.out z (by omega)), HB3.out.block z hz]⟩
      have c0 := at_blk hT5 0 (.int .i64 0) rfl
      have c1 := at_blk hT5 1 (.slice none 0 0) rfl
      have c2 := at_blk hF5 0 (.int .i64 0) rfl
      have c3 := at_blk hF5 1 (.int .i64 0) rfl
      have c4 := at_blk hF5 2 (.int .i64 0) rfl
      have d0 := fr_blk5 (j := 0) hT5
      have d1 := fr_blk5 (j := 1) hT5
      have d2 := fr_blk5 (j := 0) hF5
      have d3 := fr_blk5 (j := 1) hF5
      have d4 := fr_blk5 (j := 2) hF5
      obtain ⟨uo, uc, rfl⟩ := own_form ho
      have HFin : Hid (PrsQ F s w (.returned (.tuple #[.agg #[.int .i64 F, .slice uo (ltL (isrt L)).length uc], .agg #[.int .i64 0, .int .i64 0, .int .i64 0]])) (((((W5.setCell ⟨w.heap.size, 0, none⟩ (.int .i64 F)).setCell ⟨w.heap.size, 1, none⟩ (.slice uo (ltL (isrt L)).length uc)).setCell ⟨w.heap.size + 1, 0, none⟩ (.int .i64 0)).setCell ⟨w.heap.size + 1, 1, none⟩ (.int .i64 0)).setCell ⟨w.heap.size + 1, 2, none⟩ (.int .i64 0))) := hidR ⟨⟨_, _, by rw [HPE.out]; rfl, rfl, by
        rw [HPE.out]
        show World.ownsRow _ _ _ _ _ (L.foldl setF []).length (rowR (L.foldl setF []))
        rw [← canon_eq]
        exact own_wide (own_heap ho (fun z e => by have := (ho.lt z e).1; rw [hSet _ (by omega), hSet _ (by omega), hSet _ (by omega), hSet _ (by omega), hSet _ (by omega)])) (by omega)⟩, ((((hB5.setCell (p := ⟨w.heap.size, 0, none⟩) (Nat.le_refl _) _).setCell (p := ⟨w.heap.size, 1, none⟩) (Nat.le_refl _) _).setCell (p := ⟨w.heap.size + 1, 0, none⟩) (Nat.le_succ _) _).setCell (p := ⟨w.heap.size + 1, 1, none⟩) (Nat.le_succ _) _).setCell (p := ⟨w.heap.size + 1, 2, none⟩) (Nat.le_succ _) _⟩
      clear ho hg hu hT5 hF5 hB5 HO HT3 HF3 HB3 HFb HN
      generalize (ltL (isrt L)).length = sl at *
      go_wp2
      exact bodyPost_ret (v := .tuple #[.agg #[.int .i64 F, .slice uo sl uc], .agg #[.int .i64 0, .int .i64 0, .int .i64 0]]) (by simp [results, Try.results18, go_sem, c0, c1, c2, c3, c4]) rfl HFin.out
    · have hfb : (fe == 0) = false := by simpa using hfe
      have HZ : Hid (PzV w W3.heap.size fe fl fc false (W3.alloc (.cells #[.int .i64 fe, .int .i64 fl, .int .i64 fc] 52))) := hidR ⟨HT3.out, HF3.out, HFb.out, by omega, HB3.out⟩
      have HQ : Hid (∀ W, Below w.heap.size w W → PrsQ F s w (.returned (.tuple #[.agg #[.int .i64 0, .slice none 0 0], .agg #[.int .i64 fe, .int .i64 fl, .int .i64 fc]])) W) := hidR (fun W hb => by
        refine ⟨⟨.slice none 0 0, [], ?_, ?_, ⟨rfl, .inl ⟨rfl, rfl⟩⟩⟩, hb⟩
        · rw [HPE.out]
          show _ = Ending.returned (.tuple #[.agg #[.int .i64 (if fe = 0 then F else 0), _], _])
          rw [if_neg hfe]
        · rw [HPE.out]
          show _ = (if fe = 0 then L.foldl setF [] else [])
          rw [if_neg hfe])
      clear HO HT3 HF3 HB3 HFb
      go_wp2_with fail
      clear y0
      revert HZ
      generalize W3.alloc (.cells #[.int .i64 fe, .int .i64 fl, .int .i64 fc] 52) = W4
      generalize W3.heap.size = Fb
      intro HZ
      refine gh_region (γ := Unit) (qpOk 4 4 (by decide) (fun N => by kernel_rfl) (by kernel_rfl) (by kernel_rfl) (by kernel_rfl) (by kernel_rfl)) (by kernel_rfl) (by kernel_rfl) [some 31, some 32, none, none] (fun g => [.agg #[.int .i64 0, .slice none 0 0], .agg #[.int .i64 fe, .int .i64 fl, .int .i64 fc], undef, undef]) (by kernel_rfl) (by simp) (fun lp _ W => PzV w Fb fe fl fc (lp.getD 3 false) W) () (HZ.out.below (below_drewN (Below.refl _ _) 1)) ?step7 ?fin7
      case step7 =>
        intro q o lp g w' a' ho hsz hun hdep hR hS K Q' hK
        have hq : q < 4 := (List.getElem?_eq_some_iff.mp ho).1
        have hfl : ∀ j, j ≠ q → (lp.setIfInBounds q true).getD j false = lp.getD j false := fun j hj => by rw [Array.getD_eq_getD_getElem?, Array.getD_eq_getD_getElem?, Array.getElem?_setIfInBounds_ne (by omega)]
        have hft : (lp.setIfInBounds q true).getD q false = true := getD_set_same (by rw [hsz]; exact hq)
        match q, ho, hun, hdep, hK, hfl, hft, hq with
        | 0, ho, hun, hdep, hK, hfl, hft, _ =>
          obtain rfl := Option.some.inj ho
          have hK' := hK () w' (fun _ _ _ _ _ _ => rfl) (by rw [hfl 3 (by decide)]; exact hR) (.agg #[.int .i64 0, .slice none 0 0]) (by simp only [valO, Option.bind_some]; simp only [putAll, Act.put, List.setIfInBounds_toArray, List.set_cons_zero, List.set_cons_succ]; rfl)
          clear hS hdep hR
          refine gh_quiet9 (v := .agg #[.int .i64 0, .slice none 0 0]) ?_ ?_
          · (simp only [execOp, Act.eval]; go_simp; first | done | (simp; done) | (simp [*]; done))
          · exact hK'
        | 1, ho, hun, hdep, hK, hfl, hft, _ =>
          obtain rfl := Option.some.inj ho
          have o10 : a'.tmps[10]? = some (.pointer (some ⟨Fb, 0, none⟩)) := (hS.old 10 (by simp)).trans rfl
          have x0 := at_blk hR.f 0 (.int .i64 fe) rfl
          have x1 := at_blk hR.f 1 (.int .i64 fl) rfl
          have x2 := at_blk hR.f 2 (.int .i64 fc) rfl
          have hK' := hK () w' (fun _ _ _ _ _ _ => rfl) (by rw [hfl 3 (by decide)]; exact hR) (.agg #[.int .i64 fe, .int .i64 fl, .int .i64 fc]) (by simp only [valO, Option.bind_some]; simp only [putAll, Act.put, List.setIfInBounds_toArray, List.set_cons_zero, List.set_cons_succ]; rfl)
          clear hS hdep hR
          refine gh_quiet9 (v := .agg #[.int .i64 fe, .int .i64 fl, .int .i64 fc]) ?_ ?_
          · (simp only [execOp, Act.eval, o10]; go_simp; first | done | (simp; done) | (simp [*]; done))
          · exact hK'
        | 2, ho, hun, hdep, hK, hfl, hft, _ =>
          obtain rfl := Option.some.inj ho
          have d0 : lp.getD 0 false = true := hdep { on := 0, ground := .data } (by simp) rfl
          have e31 : a'.tmps[31]? = some (.agg #[.int .i64 0, .slice none 0 0]) := (hS.don 0 _ 31 rfl d0 rfl).trans (by simp only [putAll, Act.put, List.setIfInBounds_toArray, List.set_cons_zero, List.set_cons_succ]; rfl)
          have o4 : a'.tmps[4]? = some (.pointer (some ⟨w.heap.size, 0, none⟩)) := (hS.old 4 (by simp)).trans rfl
          have z0 := at_blk hR.res 0 (.int .i64 0) rfl
          have z1 := at_blk hR.res 1 (.slice none 0 0) rfl
          have f0 := fr_blk5 (j := 0) hR.res
          have f1 := fr_blk5 (j := 1) hR.res
          have hK' := hK () _ (fun _ _ _ _ _ _ => rfl) (by rw [hfl 3 (by decide)]; exact hR.zt) undef rfl
          clear hS hdep hR
          unfold Oper.wp
          simp [execOp, Act.eval, e31, o4, go_sem, z0, z1, f0, f1, Oper.upon]
          exact hK'
        | 3, ho, hun, hdep, hK, hfl, hft, _ =>
          obtain rfl := Option.some.inj ho
          have d1 : lp.getD 1 false = true := hdep { on := 1, ground := .data } (by simp) rfl
          have e32 : a'.tmps[32]? = some (.agg #[.int .i64 fe, .int .i64 fl, .int .i64 fc]) := (hS.don 1 _ 32 rfl d1 rfl).trans (by simp only [putAll, Act.put, List.setIfInBounds_toArray, List.set_cons_zero, List.set_cons_succ]; rfl)
          have o5 : a'.tmps[5]? = some (.pointer (some ⟨(w.heap.size + 1), 0, none⟩)) := (hS.old 5 (by simp)).trans rfl
          rw [hun] at hR
          have z0 := at_blk hR.flt 0 (.int .i64 0) rfl
          have z1 := at_blk hR.flt 1 (.int .i64 0) rfl
          have z2 := at_blk hR.flt 2 (.int .i64 0) rfl
          have f0 := fr_blk5 (j := 0) hR.flt
          have f1 := fr_blk5 (j := 1) hR.flt
          have f2 := fr_blk5 (j := 2) hR.flt
          have hK' := hK () _ (fun _ _ _ _ _ _ => rfl) (by rw [hft]; exact hR.ft) undef rfl
          clear hS hdep hR
          unfold Oper.wp
          simp [execOp, Act.eval, e32, o5, go_sem, z0, z1, z2, f0, f1, f2, Oper.upon]
          exact hK'
        | n + 4, ho, hun, hdep, hK, hfl, hft, hq => exact absurd hq (by omega)
      case fin7 =>
        intro g W5 hR
        have hR : PzV w Fb fe fl fc true W5 := by simpa using hR
        have z0 := at_blk hR.res 0 (.int .i64 0) rfl
        have z1 := at_blk hR.res 1 (.slice none 0 0) rfl
        have y0 := at_blk hR.flt 0 (.int .i64 fe) rfl
        have y1 := at_blk hR.flt 1 (.int .i64 fl) rfl
        have y2 := at_blk hR.flt 2 (.int .i64 fc) rfl
        have HF := hidR (HQ.out W5 hR.low)
        simp only [putAll, Act.put, List.setIfInBounds_toArray, List.set_cons_zero, List.set_cons_succ]
        clear hR HZ
        refine wl_nil9 (P := Try.prog) (ops := #[]) ?_
        go_wp2
        exact bodyPost_ret (v := .tuple #[.agg #[.int .i64 0, .slice none 0 0], .agg #[.int .i64 fe, .int .i64 fl, .int .i64 fc]]) (by simp [results, Try.results18, go_sem, z0, z1, y0, y1, y2]) rfl HF.out
end Go.Proofs.Ytmeaikmmhgmgnaa
