/-
  Part 27 of the proof: 14 texts, one behind the other.
-/
import Derived.Test.YtohnhpicjedfeaaPart2
import Derived.Deep.AppendLies
import Derived.Deep.RegionHeld3
import Derived.Test.YtohnhpicjedfeaaPart12
import Derived.Test.YtohnhpicjedfeaaPart26
import Derived.Test.YtohnhpicjedfeaaPart8
import Derived.Test.YtohnhpicjedfeaaPart4
import Derived.Test.YtohnhpicjedfeaaPart9
import Derived.Test.YtohnhpicjedfeaaPart10
import Derived.Test.YtohnhpicjedfeaaPart13
import Derived.Test.YtohnhpicjedfeaaPart5
import Derived.Test.YtohnhpicjedfeaaPart14
import Derived.Laws.CopyRow
import Derived.Test.YtohnhpicjedfeaaPart24
import Derived.Lib.SliceRun
import Derived.Test.YtohnhpicjedfeaaPart16
import Derived.Test.YtohnhpicjedfeaaPart15
namespace Go.Proofs.Ytohnhpicjedfeaa
open Go.RowKit
set_option linter.unusedSimpArgs false
set_option linter.unusedVariables false

def nib (x : BitVec 128) (k : Nat) : Nat := (lv (x >>> (124 - 4 * k))).toNat % 16
def chN (d : Nat) : Nat := if d < 10 then 48 + d else 87 + d
end Go.Proofs.Ytohnhpicjedfeaa
namespace Go.Proofs.Ytohnhpicjedfeaa
open Go.RowKit
set_option linter.unusedSimpArgs false
set_option linter.unusedVariables false

def cellsT (x : BitVec 128) (k : Nat) : List Value := (List.range k).map fun j => Value.int .u8 (chN (nib x j) : Int)
theorem own_below {base e size n : Nat} {v : Value} {xs : List Value} {W w' : World} (hb : Below W.heap.size W w') (h : W.ownsRow base e size v n xs) : w'.ownsRow base e size v n xs := by
  refine h.kept (row := none) ⟨hb.os, hb.tape, hb.output, hb.size, fun k hk _ => hb.block k hk⟩ ?_
  cases v.ownBlock with
  | none => exact Or.inl rfl
  | some a => exact Or.inr (by simp)

end Go.Proofs.Ytohnhpicjedfeaa
namespace Go.Proofs.Ytohnhpicjedfeaa
open Go.RowKit
set_option linter.unusedSimpArgs false
set_option linter.unusedVariables false

def CR5 (w4 : World) (g o b : Nat) (qx : BitVec 128) (qn : Int) (x : BitVec 128) (pn : Int) (W : World) : Prop := (W.cell? ⟨g, o, none⟩ = some (.int .u64 (hI qx)) ∧ W.cell? ⟨g, o + 1, none⟩ = some (.int .u64 (lI qx)) ∧ W.cell? ⟨g, o + 2, none⟩ = some (.int .i64 qn)) ∧ (W.cell? ⟨b, 0, none⟩ = some (.int .u64 (hI x)) ∧ W.cell? ⟨b, 1, none⟩ = some (.int .u64 (lI x)) ∧ W.cell? ⟨b, 2, none⟩ = some (.int .i64 pn)) ∧ Below w4.heap.size w4 W
theorem CR5.below {w4 W W' : World} {g o b : Nat} {qx x : BitVec 128} {qn pn : Int} (h : CR5 w4 g o b qx qn x pn W) (hb : Below W.heap.size W W') : CR5 w4 g o b qx qn x pn W' := ⟨⟨keepc hb h.1.1, keepc hb h.1.2.1, keepc hb h.1.2.2⟩, ⟨keepc hb h.2.1.1, keepc hb h.2.1.2.1, keepc hb h.2.1.2.2⟩, keepb hb h.2.2⟩
theorem CR5.drew {w4 W : World} {g o b : Nat} {qx x : BitVec 128} {qn pn : Int} (h : CR5 w4 g o b qx qn x pn W) : CR5 w4 g o b qx qn x pn W.drew := h.below (below_drewN (Below.refl _ _) 1)
theorem stopHereW5 {P : Program} {w : World} {ops : Array Oper} {rest : List Oper} {a : Act} {Q : Exit → Act → World → Prop} {o : Oper} (h : Hid (wpList P ops Q (o :: rest) a w)) : wpList P ops Q (o :: rest) a w := h.out
theorem below_grown5 {w W : World} {r : Option Nat} (h : Below w.heap.size w W) : w.grownBy W r := ⟨h.os, h.tape, h.output, h.size, fun z h1 _ => h.block z h1⟩
end Go.Proofs.Ytohnhpicjedfeaa
namespace Go.Proofs.Ytohnhpicjedfeaa
open Go.RowKit
set_option linter.unusedSimpArgs false
set_option linter.unusedVariables false
section
variable {P : Program}
theorem cl_region {id : Nat} {l : List Oper} (m j : Nat) {oj : Oper} (ok : AlOk l m j oj) {D : World → Prop} {C1 : Nat → World → Prop} {Q : Exit → Act → World → Prop} {a : Act} {w : World} (ds : List (Option Tmp)) (vals : Nat → List Value) (val : Nat → Value) (d : Nat) (rd : List Nat) (hm : P.follows .mixedOrders = true)
    (hd : oj.dst = some d) (hA : ∀ N, (putAll a ds (vals N)).tmps.toList.eraseIdx d = (putAll a ds (vals 0)).tmps.toList.eraseIdx d) (hrd : readB l m oj rd = true)
    (hal : ∀ w (a' : Act), D w → (∀ s ∈ rd, a'.tmps[s]? = (putAll a ds (vals 0)).tmps[s]?) → ∀ (K : Act → World → Prop) Q', (∀ N w', C1 N w' → K (a'.put oj.dst (val N)) w') → oj.wp P a' w K Q')
    (hD : D w.drew)
    (hwalk : ∀ N (X : World → Prop), (X = D ∨ X = C1 N) → wpQuiet P (rep (l.take m) j (val N)).toArray X (fun a' => a' = putAll a ds (vals N)) (rep (l.take m) j (val N)) a)
    (hpost : ∀ N w, C1 N w → wpList P l.toArray Q (l.drop m) (putAll a ds (vals N)) w) : (Code.region id l.toArray true).wp P Q a w :=
  sp_region m j ok (A := fun N => putAll a ds (vals N)) val rd hm (alA ok d hd hA) (read_of hrd) hal hD hwalk hpost
end
def decN : Nat → Nat × Nat
  | 0 => (0, 0)
  | n + 1 => if (decN n).2 = 0 then (0, (decN n).1 + 1) else ((decN n).1 + 1, (decN n).2 - 1)
theorem decN_all (s : Nat) : ∀ a b : Nat, a + b = s → ∃ n, decN n = (a, b) := by
  induction s with
  | zero =>
    intro a b h
    have ha : a = 0 := by omega
    have hb : b = 0 := by omega
    subst ha; subst hb
    exact ⟨0, rfl⟩
  | succ s ih =>
    intro a
    induction a with
    | zero =>
      intro b h
      obtain ⟨n, hn⟩ := ih s 0 (by omega)
      refine ⟨n + 1, ?_⟩
      rw [decN, hn, if_pos rfl]
      simp; omega
    | succ a iha =>
      intro b h
      obtain ⟨n, hn⟩ := iha (b + 1) (by omega)
      refine ⟨n + 1, ?_⟩
      rw [decN, hn, if_neg (by simp)]
      simp
theorem decN_ex (a b : Nat) : ∃ n, decN n = (a, b) := decN_all (a + b) a b rfl
end Go.Proofs.Ytohnhpicjedfeaa
namespace Go.Proofs.Ytohnhpicjedfeaa
open Go.RowKit
set_option linter.unusedSimpArgs false
set_option linter.unusedVariables false

structure CnV (w : World) (Bt : Nat) (F : Int) (vC v : Value) (S : List Rte) (W : World) : Prop where
  res : W.heap[w.heap.size]? = some (.cells #[.int .i64 0, .slice none 0 0] 25)
  t : W.heap[Bt]? = some (.cells #[.int .i64 F, vC] 25)
  own : W.ownsRow (Bt + 1) 40 4 v S.length (rowR S)
  lt : w.heap.size < Bt
  low : Below w.heap.size w W
theorem CnV.below {w W W' : World} {Bt : Nat} {F : Int} {vC v : Value} {S : List Rte} (h : CnV w Bt F vC v S W) (hb : Below W.heap.size W W') : CnV w Bt F vC v S W' :=
  ⟨(hb.block _ (blk_lt5 h.res)).trans h.res, (hb.block _ (blk_lt5 h.t)).trans h.t, own_below hb h.own, h.lt, keepb hb h.low⟩
theorem CnV.put {w W : World} {Bt : Nat} {F : Int} {vC v : Value} {S : List Rte} (h : CnV w Bt F vC v S W) : CnV w Bt F v v S (W.setCell ⟨Bt, 1, none⟩ v) := by
  have hl := h.lt
  refine ⟨?_, ?_, ?_, h.lt, h.low.setCell (by show w.heap.size ≤ Bt; omega) _⟩
  · rw [hSet _ (by omega)]; exact h.res
  · exact (set_blk5 (o := 1) h.t v).trans rfl
  · exact own_heap h.own (fun z e => hSet _ (by have := (h.own.lt z e).1; omega))
def RcnQ (F : Int) (l : List Rte) (w : World) (e : Ending) (w' : World) : Prop := (∃ u S, e = .returned (.tuple #[.agg #[.int .i64 (if rtsE F l = 0 then F else 0), u], .int .i64 (rtsE F l)]) ∧ S = (if rtsE F l = 0 then l.foldl setF [] else []) ∧ w'.ownsRow w.heap.size 40 4 u S.length (rowR S)) ∧ Below w.heap.size w w'
end Go.Proofs.Ytohnhpicjedfeaa
namespace Go.Proofs.Ytohnhpicjedfeaa
open Go.RowKit
set_option linter.unusedSimpArgs false
set_option linter.unusedVariables false

def rowW : List (BitVec 128) → List Value
  | [] => []
  | x :: l => .int .u64 (hI x) :: .int .u64 (lI x) :: rowW l
def PtO (base : Nat) (v : Value) (S : List (BitVec 128)) (w : World) (v' : Value) (w' : World) : Prop := w'.ownsRow base 36 2 v' S.length (rowW S) ∧ w.grownBy w' v.ownBlock ∧ (∀ z, v'.ownBlock = some z → v.ownBlock = some z ∨ w.heap.size ≤ z)
end Go.Proofs.Ytohnhpicjedfeaa
namespace Go.Proofs.Ytohnhpicjedfeaa
open Go.RowKit
set_option linter.unusedSimpArgs false
set_option linter.unusedVariables false

theorem rowR_app5 : ∀ l m, rowR (l ++ m) = rowR l ++ rowR m := by
  intro l
  induction l with
  | nil => intro m; rfl
  | cons p l ih => intro m; simp [rowR, ih]
theorem rowR_cell5 (l : List Rte) : ∀ u ∈ rowR l, u.oneCell' = true := by
  induction l with
  | nil => intro u hu; cases hu
  | cons p l ih =>
    intro u hu
    simp only [rowR, List.mem_cons] at hu
    rcases hu with rfl | rfl | rfl | rfl | hu
    · rfl
    · rfl
    · rfl
    · rfl
    · exact ih u hu
def LnT (w : World) (F : Int) (v : Value) (W : World) : Prop := AtU W w.heap.size F v ∧ AtU W (w.heap.size + 1) 0 (.slice none 0 0)
theorem LnT.heap {w : World} {F : Int} {v : Value} {W W' : World} (k : LnT w F v W) (h : ∀ z, z < w.heap.size + 2 → W'.heap[z]? = W.heap[z]?) : LnT w F v W' := ⟨k.1.heap (h _ (by omega)), k.2.heap (h _ (by omega))⟩
end Go.Proofs.Ytohnhpicjedfeaa
namespace Go.Proofs.Ytohnhpicjedfeaa
open Go.RowKit
set_option linter.unusedSimpArgs false
set_option linter.unusedVariables false
attribute [local go_sem] Oper.semAt_some

set_option maxRecDepth 20000 in
set_option maxHeartbeats 4000000 in
theorem clone5_any (v : Value) (l : List Rte) (w : World) (hv : Row w 4 v l.length (rowR l)) (hl : l.length ≤ 1000000000) :
    Calls Try.prog 21 #[v] w fun e w' => ∃ v', e = .returned v' ∧ w'.ownsRow w.heap.size 40 4 v' l.length (rowR l) ∧ Below w.heap.size w w' := by
  obtain ⟨i0, hi, hz0, hz1, hz2⟩ := info_parts Try.infoR
  obtain ⟨ao, c, rfl, hc⟩ := hv.form
  have hq : ∀ (w : World) (a : Option Addr) (n c n' c' : Nat), (binOp .eql 22 (.slice a n c) (.slice none n' c')).run Try.prog w = .ok (.bool a.isNone) w := fun w a n c n' c' => Lib.run_eql_slice_nil w 22 40 a n c n' c' Try.underlying22
  have HV := hidR hv
  cases ao with
  | none =>
    have hl0 : l = [] := by
      obtain ⟨-, ao, c, e, -, h⟩ := hv
      injection e with e1 e2 e3
      subst e1
      rcases h with ⟨-, -, h⟩ | ⟨b, off, e, -⟩
      · exact List.length_eq_zero_iff.mp h
      · cases e
    subst hl0
    clear hv HV hc
    go_enter Try.func21, Try.ntmps21
    go_wp2
    exact bodyPost_ret (v := .slice none 0 0) (by simp [results, Try.results21, go_sem]) rfl ⟨_, rfl, ⟨rfl, .inl ⟨rfl, rfl⟩⟩, Below.refl _ _⟩
  | some a =>
    have q0 := bl1 w (.cells #[] 40)
    have HB0 := hidR q0
    have HO0 : Hid ((w.alloc (.cells #[] 40)).ownsRow w.heap.size 40 4 (.slice (some ⟨w.heap.size, 0, none⟩) 0 0) 0 []) := hidR ⟨rfl, .inr ⟨w.heap.size, 0, #[], rfl, Nat.le_refl _, Array.getElem?_push_size, Nat.le_refl _, by unfold maxLen; omega, rfl, rfl⟩⟩
    have HV0 := hidR (hv.below q0)
    clear hv HV q0
    go_enter Try.func21, Try.ntmps21
    go_wp2_with (at_builtin; apply stopHereW5)
    refine (show wpList _ _ _ _ _ _ from ?_)
    revert HB0 HO0 HV0
    generalize w.alloc (.cells #[] 40) = W0
    intro HB0 HO0 HV0
    refine wpList_append_row rfl _ _ 22 rfl w.heap.size 40 i0 (.agg #[.int .u64 0, .int .u64 0, .int .i64 0, .int .i64 0]) 4 32 Try.underlying22 hi hz0 hz1 hz2 rfl (by decide) _ 0 [] rfl HO0.out _ l.length (rowR l) rfl HV0.out (rowR_cell5 l) (by unfold maxLen; omega) (by omega) HB0.out.size ?_
    intro go cap W1 ho hg
    have HR : Hid (W1.ownsRow w.heap.size 40 4 (.slice go l.length cap) l.length (rowR l) ∧ Below w.heap.size w W1) := hidR ⟨by rw [List.nil_append] at ho; simpa using ho, by
      refine HB0.out.trans ⟨hg.os, hg.tape, hg.output, hg.size, fun z hz => hg.block z (by have := HB0.out.size; omega) (fun e => ?_)⟩
      have : z = w.heap.size := Option.some.inj e
      omega⟩
    clear ho hg HB0 HO0 HV0
    go_wp2
    go_ret
    exact ⟨_, rfl, HR.out⟩

set_option maxRecDepth 20000 in
set_option maxHeartbeats 4000000 in
theorem ins0_any (ao : Option Addr) (c : Nat) (w : World) :
    Calls Try.prog 70 #[.slice ao 0 c, .int .i64 0, .int .i64 0, .func (.func 37) #[] #[]] w fun e w' => e = .returned (.tuple #[]) ∧ w' = w := by
  go_enter Try.func70, Try.ntmps70
  go_wp2_with fail
  go_loopw [8, 9] (fun i _ wr => i = .int .i64 1 ∧ wr = w) (fun _ _ _ => 0)
  case atStart => exact ⟨rfl, rfl⟩
  case round =>
    obtain ⟨rfl, rfl⟩ := hrel
    go_wp2
    exact bodyPost_end (v := .tuple #[]) (by simp [results, Try.results70, go_sem]) rfl ⟨rfl, rfl⟩
set_option maxRecDepth 20000 in
set_option maxHeartbeats 4000000 in
theorem stable0_any (ao : Option Addr) (c : Nat) (w : World) :
    Calls Try.prog 53 #[.slice ao 0 c, .int .i64 0, .func (.func 37) #[] #[]] w fun e w' => e = .returned (.tuple #[]) ∧ w' = w := by
  have KI := ins0_any ao c w
  go_enter Try.func53, Try.ntmps53
  go_wp2_with fail
  go_loopw [7, 8] (fun a b wr => a = .int .i64 0 ∧ b = .int .i64 20 ∧ wr = w) (fun _ _ _ => 0)
  case atStart => exact ⟨rfl, rfl, rfl⟩
  case round =>
    obtain ⟨rfl, rfl, rfl⟩ := hrel
    go_wp2_with fail
    refine KI.mono ?_
    rintro e w1 ⟨rfl, rfl⟩
    clear KI
    go_wp2_with fail
    go_loopw [6, 7, 8, 9] (fun s a b m wr => s = .int .i64 20 ∧ wr = w1) (fun _ _ _ _ _ => 0)
    case atStart => exact ⟨rfl, rfl⟩
    case round =>
      obtain ⟨rfl, rfl⟩ := hrel
      go_wp2
      exact bodyPost_end (v := .tuple #[]) (by simp [results, Try.results53, go_sem]) rfl ⟨rfl, rfl⟩
set_option maxHeartbeats 4000000 in
theorem sort0_any (ao : Option Addr) (c : Nat) (w : World) :
    Calls Try.prog 36 #[.slice ao 0 c, .func (.func 37) #[] #[]] w fun e w' => e = .returned (.tuple #[]) ∧ w' = w := by
  have KS := stable0_any ao c w
  go_enter Try.func36, Try.ntmps36
  go_wp2_with fail
  refine KS.mono ?_
  rintro e w1 ⟨rfl, rfl⟩
  clear KS
  go_wp2
  exact bodyPost_end (v := .tuple #[]) (by simp [results, Try.results36, go_sem]) rfl ⟨rfl, rfl⟩
set_option maxRecDepth 20000 in
set_option maxHeartbeats 4000000 in
theorem last0_any (ao : Option Addr) (c : Nat) (w : World) :
    Calls Try.prog 38 #[.slice ao 0 c] w fun e w' => e = .returned (.slice ao 0 c) ∧ w' = w := by
  obtain ⟨i0, hi, hz0, hz1, hz2⟩ := info_parts Try.infoR
  have hrun := fun w => run_slice_to (P := Try.prog) (w := w) Try.underlying22 hi ao 0 c 0 (Nat.zero_le _)
  go_enter Try.func38, Try.ntmps38
  go_wp2_with fail
  go_loopw [3, 5, 6, 11] (fun l _ _ i wr => l = .slice ao 0 c ∧ i = .int .i64 0 ∧ wr = w) (fun _ _ _ _ _ => 0)
  case atStart => exact ⟨rfl, rfl, rfl⟩
  case round =>
    obtain ⟨rfl, rfl, rfl⟩ := hrel
    go_wp2
    exact bodyPost_ret (v := .slice ao 0 c) (by simp [results, Try.results38, go_sem]) rfl ⟨rfl, rfl⟩
set_option maxHeartbeats 4000000 in
theorem inOrder0_any (F : Int) (ao : Option Addr) (c : Nat) (w : World) :
    Calls Try.prog 20 #[.int .i64 F, .slice ao 0 c] w fun e w' => e = .returned (.agg #[.int .i64 F, .slice ao 0 c]) ∧ Below w.heap.size w w' := by
  have q1 := bl1 w (.cells #[.int .i64 0, .slice none 0 0] 25)
  have HB1 := hidR q1
  have HT1 : Hid ((w.alloc (.cells #[.int .i64 0, .slice none 0 0] 25)).heap[w.heap.size]? = some (.cells #[.int .i64 0, .slice none 0 0] 25)) := hidR Array.getElem?_push_size
  clear q1
  go_enter Try.func20, Try.ntmps20
  go_wp2_with fail
  revert HB1 HT1
  generalize w.alloc (.cells #[.int .i64 0, .slice none 0 0] 25) = W1
  intro HB1 HT1
  refine (sort0_any ao c W1).mono ?_
  rintro e W2 ⟨rfl, rfl⟩
  go_wp2_with fail
  refine (last0_any ao c W2).mono ?_
  rintro e W3 ⟨rfl, rfl⟩
  have c0 := at_blk HT1.out 0 (.int .i64 0) rfl
  have c1 := at_blk HT1.out 1 (.slice none 0 0) rfl
  have d0 := fr_blk5 (j := 0) HT1.out
  have d1 := fr_blk5 (j := 1) HT1.out
  have HF : Hid (Below w.heap.size w ((W3.setCell ⟨w.heap.size, 0, none⟩ (.int .i64 F)).setCell ⟨w.heap.size, 1, none⟩ (.slice ao 0 c))) := hidR ((HB1.out.setCell (Nat.le_refl _) _).setCell (Nat.le_refl _) _)
  clear HB1 HT1
  go_wp2
  exact bodyPost_ret (v := .agg #[.int .i64 F, .slice ao 0 c]) (by simp [results, Try.results20, go_sem, c0, c1]) rfl ⟨rfl, HF.out⟩
theorem own_cut {W : World} {base e size n m g c : Nat} {xs : List Value} (h : W.ownsRow base e size (.slice (some ⟨g, 0, none⟩) n c) n xs) (hm : m ≤ n) : W.ownsRow base e size (.slice (some ⟨g, 0, none⟩) m c) m (xs.take (m * size)) := by
  rcases h.2 with ⟨h', _⟩ | ⟨g', cap', cur, h', hb, hg, hnc, hcm, hcs, htake⟩
  · cases h'
  · simp only [Value.slice.injEq, Option.some.injEq, Addr.mk.injEq, and_true, true_and] at h'
    obtain ⟨rfl, rfl⟩ := h'
    refine ⟨by rw [List.length_take, h.1, Nat.min_eq_left (Nat.mul_le_mul_right _ hm)], .inr ⟨g, c, cur, rfl, hb, hg, by omega, hcm, hcs, ?_⟩⟩
    rw [← htake, List.take_take, Nat.min_eq_left (Nat.mul_le_mul_right _ hm)]
theorem inOrderA_any (F : Int) (base : Nat) (v : Value) (D : List Rte) (w : World) (h : w.ownsRow base 40 4 v D.length (rowR D)) (hn : D.length ≤ 1000000000) :
    Calls Try.prog 20 #[.int .i64 F, v] w fun e w' => ∃ u, e = .returned (.agg #[.int .i64 F, u]) ∧ w'.ownsRow base 40 4 u (ltL (isrt D)).length (rowR (ltL (isrt D))) ∧ w.grownBy w' v.ownBlock ∧ (∀ z, u.ownBlock = some z → v.ownBlock = some z) := by
  obtain ⟨ao, c, rfl⟩ := own_form h
  by_cases h0 : D.length = 0
  · have hD : D = [] := List.length_eq_zero_iff.mp h0
    subst hD
    refine (inOrder0_any F ao c w).mono ?_
    rintro e w' ⟨rfl, hb⟩
    exact ⟨_, rfl, own_below hb h, below_grown5 hb, fun z e => e⟩
  · rcases h.2 with ⟨e, h1⟩ | ⟨g, cap, cur, e, h2⟩
    · exact absurd h1 h0
    · injection e with e1 e2 e3
      subst e1
      have hR : RwO w base g c D.length D := ⟨rfl, h⟩
      refine (inOrder_any F base g c D.length D (isrt D) w hR (by omega) hn (fun W hW => sort_any base g c D.length D W hW hn)).mono ?_
      rintro e w' ⟨rfl, ⟨D', hD', ht, hl⟩, hb⟩
      refine ⟨_, rfl, ?_, ?_, fun z e => e⟩
      · have := own_cut hD'.2 hl
        rw [rowR_take, ht] at this
        exact this
      · exact ⟨hb.os, hb.tape, hb.output, hb.size, fun z h1 h2 => hb.blk z h1 (fun e => h2 (by rw [e]; rfl))⟩
set_option maxRecDepth 20000 in
set_option maxHeartbeats 8000000 in
theorem canon_any (F : Int) (v : Value) (l : List Rte) (w : World) (hv : Row w 4 v l.length (rowR l)) :
    Calls Try.prog 8 #[.int .i64 F, v] w (RcnQ F l w) := by
  have q1 := bl1 w (.cells #[.int .i64 0, .slice none 0 0] 25)
  have HB1 := hidR q1
  have HT1 : Hid ((w.alloc (.cells #[.int .i64 0, .slice none 0 0] 25)).heap[w.heap.size]? = some (.cells #[.int .i64 0, .slice none 0 0] 25)) := hidR Array.getElem?_push_size
  have HV := hidR (hv.below q1)
  have KC := fun W h => checkRoutes_any F v l W (row_rwr h)
  have HL : Hid (rtsE F l = 0 → l.length ≤ 1048576) := hidR (fun h => by
    unfold rtsE at h
    split at h
    · split at h
      · omega
      · omega
    · omega)
  obtain ⟨z, hz⟩ : ∃ z, z = rtsE F l := ⟨_, rfl⟩
  have HZ := hidR hz
  rw [← hz] at KC
  clear q1 hv hz
  go_enter Try.func8, Try.ntmps8
  go_wp2_with fail
  revert HB1 HT1 HV
  generalize w.alloc (.cells #[.int .i64 0, .slice none 0 0] 25) = W1
  intro HB1 HT1 HV
  refine (KC W1 HV.out).mono ?_
  rintro e W2 ⟨rfl, hb⟩
  have HB2 := hidR (keepb hb HB1.out)
  have HT2 : Hid (W2.heap[w.heap.size]? = some (.cells #[.int .i64 0, .slice none 0 0] 25)) := hidR ((hb.block _ (blk_lt5 HT1.out)).trans HT1.out)
  have HV2 := hidR (HV.out.below hb)
  clear KC hb HB1 HT1 HV
  by_cases h0 : z = 0
  · subst h0
    have hlm := HL.out HZ.out.symm
    have KL := clone5_any v l W2 HV2.out (by omega)
    go_wp2_with fail
    refine KL.mono ?_
    rintro e W3 ⟨v', rfl, ho, hb⟩
    have HB3 := hidR (keepb hb HB2.out)
    have HT3 : Hid (W3.heap[w.heap.size]? = some (.cells #[.int .i64 0, .slice none 0 0] 25)) := hidR ((hb.block _ (blk_lt5 HT2.out)).trans HT2.out)
    have hws := blk_lt5 HT2.out
    have HN : Hid (∀ z, z < W2.heap.size → ¬ some z = v'.ownBlock) := hidR (fun z hz e => by have := (ho.lt z e.symm).1; omega)
    have KO := inOrderA_any F W2.heap.size v' l W3 ho (by omega)
    clear KL hb HB2 HT2 HV2 ho
    go_wp2_with fail
    refine KO.mono ?_
    rintro e W4 ⟨u, rfl, ho, hg, hu⟩
    have hT4 : W4.heap[w.heap.size]? = some (.cells #[.int .i64 0, .slice none 0 0] 25) := (hg.block _ (blk_lt5 HT3.out) (HN.out _ hws)).trans HT3.out
    have hB4 : Below w.heap.size w W4 := ⟨by rw [hg.os, HB3.out.os], by rw [hg.tape, HB3.out.tape], by rw [hg.output, HB3.out.output], Nat.le_trans HB3.out.size hg.size, fun z hz => by rw [hg.block z (by have := HB3.out.size; omega) (HN.out z (by omega)), HB3.out.block z hz]⟩
    have c0 := at_blk hT4 0 (.int .i64 0) rfl
    have c1 := at_blk hT4 1 (.slice none 0 0) rfl
    have d0 := fr_blk5 (j := 0) hT4
    have d1 := fr_blk5 (j := 1) hT4
    obtain ⟨uo, uc, rfl⟩ := own_form ho
    have HF : Hid (RcnQ F l w (.returned (.tuple #[.agg #[.int .i64 F, .slice uo (ltL (isrt l)).length uc], .int .i64 0])) ((W4.setCell ⟨w.heap.size, 0, none⟩ (.int .i64 F)).setCell ⟨w.heap.size, 1, none⟩ (.slice uo (ltL (isrt l)).length uc))) := hidR ⟨⟨_, _, by rw [if_pos HZ.out.symm, ← HZ.out], rfl, by
      rw [if_pos HZ.out.symm, ← canon_eq]
      exact own_wide (own_heap ho (fun z e => by have := (ho.lt z e).1; rw [hSet _ (by omega), hSet _ (by omega)])) (by omega)⟩, (hB4.setCell (Nat.le_refl _) _).setCell (Nat.le_refl _) _⟩
    clear KO ho hg hu hT4 hB4 HB3 HT3 HN
    generalize (ltL (isrt l)).length = sl at *
    go_wp2
    exact bodyPost_ret (v := .tuple #[.agg #[.int .i64 F, .slice uo sl uc], .int .i64 0]) (by simp [results, Try.results8, go_sem, c0, c1]) rfl HF.out
  · have c0 := at_blk HT2.out 0 (.int .i64 0) rfl
    have c1 := at_blk HT2.out 1 (.slice none 0 0) rfl
    have d0 := fr_blk5 (j := 0) HT2.out
    have d1 := fr_blk5 (j := 1) HT2.out
    have HF : Hid (RcnQ F l w (.returned (.tuple #[.agg #[.int .i64 0, .slice none 0 0], .int .i64 z])) ((W2.setCell ⟨w.heap.size, 0, none⟩ (.int .i64 0)).setCell ⟨w.heap.size, 1, none⟩ (.slice none 0 0))) := hidR (by
      have hz := HZ.out
      subst hz
      exact ⟨⟨.slice none 0 0, [], by rw [if_neg h0], by rw [if_neg h0], ⟨rfl, .inl ⟨rfl, rfl⟩⟩⟩, (HB2.out.setCell (Nat.le_refl _) _).setCell (Nat.le_refl _) _⟩)
    clear HB2 HT2 HV2
    go_wp2
    exact bodyPost_ret (v := .tuple #[.agg #[.int .i64 0, .slice none 0 0], .int .i64 z]) (by simp [results, Try.results8, go_sem, c0, c1]) rfl HF.out
end Go.Proofs.Ytohnhpicjedfeaa
namespace Go.Proofs.Ytohnhpicjedfeaa
open Go.RowKit
set_option linter.unusedSimpArgs false
set_option linter.unusedVariables false
attribute [local go_sem] Oper.semAt_some

set_option maxRecDepth 20000 in
set_option maxHeartbeats 8000000 in
theorem parseS_any (F : Int) (s : ByteArray) (w : World) (hF : fam F = true) (hs : s.size ≤ 1000000000) (L S : List Rte) (hres : lnsR F s (s.size + 1) 0 1 0 [] 0 = ((0, 0, 0), L)) (hL0 : 0 < L.length) (hL : L.length ≤ 1000000000)
    (KS : ∀ (base g c : Nat) W, RwO W base g c L.length L → Calls Try.prog 36 #[.slice (some ⟨g, 0, none⟩) L.length c, .func (.func 37) #[] #[]] W fun e w' => e = .returned (.tuple #[]) ∧ RwO w' base g c L.length S ∧ Bo g W w') :
    Calls Try.prog 18 #[.int .i64 F, .string s] w fun e w' => (∃ v, e = .returned (.tuple #[.agg #[.int .i64 F, v], .agg #[.int .i64 0, .int .i64 0, .int .i64 0]]) ∧ Row w' 4 v (ltL S).length (rowR (ltL S))) ∧ Below w.heap.size w w' := by
  have q1 := bl1 w (.cells #[.int .i64 0, .slice none 0 0] 25)
  have q2 := bl1 (w.alloc (.cells #[.int .i64 0, .slice none 0 0] 25)) (.cells #[.int .i64 0, .int .i64 0, .int .i64 0] 52)
  have s1 : (w.alloc (.cells #[.int .i64 0, .slice none 0 0] 25)).heap.size = w.heap.size + 1 := by simp
  have HP : Hid (∀ X, X = (w.alloc (.cells #[.int .i64 0, .slice none 0 0] 25)).alloc (.cells #[.int .i64 0, .int .i64 0, .int .i64 0] 52) → X.heap[w.heap.size]? = some (.cells #[.int .i64 0, .slice none 0 0] 25) ∧ X.heap[w.heap.size + 1]? = some (.cells #[.int .i64 0, .int .i64 0, .int .i64 0] 52) ∧ Below w.heap.size w X) := hidR (by
    rintro X rfl
    refine ⟨?_, ?_, keepb q2 q1⟩
    · rw [q2.block _ (by omega)]
      exact Array.getElem?_push_size
    · rw [← s1]
      exact Array.getElem?_push_size)
  have KA := fun w => alast_any F w
  have hE : lastE F = 0 := by unfold lastE; rw [if_pos hF]
  rw [hE] at KA
  clear q1 q2 s1 hE
  go_enter Try.func18, Try.ntmps18
  go_wp2_with fail
  revert HP
  generalize hW0 : (w.alloc (.cells #[.int .i64 0, .slice none 0 0] 25)).alloc (.cells #[.int .i64 0, .int .i64 0, .int .i64 0] 52) = W0
  intro HP
  obtain ⟨hp1, hp2, hp3⟩ := HP.out W0 rfl
  clear HP hW0
  refine (KA W0).mono ?_
  rintro e W1 ⟨rfl, hb⟩
  have b2 := bl1 W1 (.cells #[.int .u64 (hI (lastV F)), .int .u64 (lI (lastV F))] 36)
  have b3 := bl1 (W1.alloc (.cells #[.int .u64 (hI (lastV F)), .int .u64 (lI (lastV F))] 36)) (.cells #[.int .i64 F, .string s, .int .i64 0, .int .i64 1, .int .i64 0] 74)
  have sz1 : (W1.alloc (.cells #[.int .u64 (hI (lastV F)), .int .u64 (lI (lastV F))] 36)).heap.size = W1.heap.size + 1 := by simp
  have bb := keepb b3 (keepb b2 hb)
  have HT : Hid (((W1.alloc (.cells #[.int .u64 (hI (lastV F)), .int .u64 (lI (lastV F))] 36)).alloc (.cells #[.int .i64 F, .string s, .int .i64 0, .int .i64 1, .int .i64 0] 74)).heap[w.heap.size]? = some (.cells #[.int .i64 0, .slice none 0 0] 25)) := hidR ((bb.block _ (blk_lt5 hp1)).trans hp1)
  have HF : Hid (((W1.alloc (.cells #[.int .u64 (hI (lastV F)), .int .u64 (lI (lastV F))] 36)).alloc (.cells #[.int .i64 F, .string s, .int .i64 0, .int .i64 1, .int .i64 0] 74)).heap[w.heap.size + 1]? = some (.cells #[.int .i64 0, .int .i64 0, .int .i64 0] 52)) := hidR ((bb.block _ (blk_lt5 hp2)).trans hp2)
  have HB := hidR (keepb bb hp3)
  have HR : Hid (RdV ((W1.alloc (.cells #[.int .u64 (hI (lastV F)), .int .u64 (lI (lastV F))] 36)).alloc (.cells #[.int .i64 F, .string s, .int .i64 0, .int .i64 1, .int .i64 0] 74)) (W1.heap.size + 1) F s 0 1 0) := hidR (by
    show _ = _
    rw [← sz1]
    exact Array.getElem?_push_size)
  have hlt : w.heap.size + 1 < W1.heap.size := by have := hb.size; have := blk_lt5 hp2; omega
  clear b2 b3 bb hp1 hp2 hp3 hb sz1 KA
  go_wp2_with fail
  revert HT HF HB HR hlt
  generalize (W1.alloc (.cells #[.int .u64 (hI (lastV F)), .int .u64 (lI (lastV F))] 36)).alloc (.cells #[.int .i64 F, .string s, .int .i64 0, .int .i64 1, .int .i64 0] 74) = W2
  generalize W1.heap.size = R1
  intro HT HF HB HR hlt
  refine (entries5_any (R1 + 1) F s W2 HR.out hs ((0, 0, 0), L) hres).mono ?_
  rintro e W3 ⟨⟨lv, rfl, hO⟩, hb⟩
  have hR2 : R1 + 1 < W2.heap.size := HR.out.lt
  obtain ⟨g, c, rfl⟩ : ∃ g c, lv = .slice (some ⟨g, 0, none⟩) L.length c := by
    rcases hO.2 with ⟨_, e1⟩ | ⟨g, cap, cur, e0, _⟩
    · have e2 : L.length = 0 := e1
      omega
    · exact ⟨g, cap, e0⟩
  have q4 := bl1 W3 (.cells #[.int .i64 0, .int .i64 0, .int .i64 0] 52)
  have hgb : W2.heap.size + 4 ≤ g := (hO.lt g rfl).1
  have HO := hidR (show RwO (W3.alloc (.cells #[.int .i64 0, .int .i64 0, .int .i64 0] 52)) (W2.heap.size + 4) g c L.length L from RwO.below ⟨rfl, hO⟩ q4)
  have HT3 := hidR ((q4.block _ (blk_lt5 ((hb.blk _ (blk_lt5 HT.out) (by omega)).trans HT.out))).trans ((hb.blk _ (blk_lt5 HT.out) (by omega)).trans HT.out))
  have HF3 := hidR ((q4.block _ (blk_lt5 ((hb.blk _ (blk_lt5 HF.out) (by omega)).trans HF.out))).trans ((hb.blk _ (blk_lt5 HF.out) (by omega)).trans HF.out))
  have HB3 := hidR (keepb q4 (Bo.low hb HB.out (by have := HB.out.size; omega) (Nat.le_refl _)))
  clear hO hb q4 HT HF HB HR hres
  go_wp2_with fail
  revert HO HT3 HF3 HB3
  generalize W3.alloc (.cells #[.int .i64 0, .int .i64 0, .int .i64 0] 52) = W4
  intro HO HT3 HF3 HB3
  refine (inOrder_any F (W2.heap.size + 4) g c L.length L S W4 HO.out hL0 hL (fun W h => KS _ _ _ W h)).mono ?_
  rintro e W5 ⟨rfl, hD, hb⟩
  have hT5 := (hb.blk _ (blk_lt5 HT3.out) (by omega)).trans HT3.out
  have hF5 := (hb.blk _ (blk_lt5 HF3.out) (by omega)).trans HF3.out
  have HB5 := hidR (Bo.low hb HB3.out (by have := HB3.out.size; omega) (Nat.le_refl _))
  have c0 := at_blk hT5 0 (.int .i64 0) rfl
  have c1 := at_blk hT5 1 (.slice none 0 0) rfl
  have c2 := at_blk hF5 0 (.int .i64 0) rfl
  have c3 := at_blk hF5 1 (.int .i64 0) rfl
  have c4 := at_blk hF5 2 (.int .i64 0) rfl
  have d0 := fr_blk5 (j := 0) hT5
  have d1 := fr_blk5 (j := 1) hT5
  have d2 := fr_blk5 (j := 0) hF5
  have d3 := fr_blk5 (j := 1) hF5
  have d4 := fr_blk5 (j := 2) hF5
  have HZ : Hid (Row (((((W5.setCell ⟨w.heap.size, 0, none⟩ (.int .i64 F)).setCell ⟨w.heap.size, 1, none⟩ (.slice (some ⟨g, 0, none⟩) (ltL S).length c)).setCell ⟨w.heap.size + 1, 0, none⟩ (.int .i64 0)).setCell ⟨w.heap.size + 1, 1, none⟩ (.int .i64 0)).setCell ⟨w.heap.size + 1, 2, none⟩ (.int .i64 0)) 4 (.slice (some ⟨g, 0, none⟩) (ltL S).length c) (ltL S).length (rowR (ltL S)) ∧ Below w.heap.size w (((((W5.setCell ⟨w.heap.size, 0, none⟩ (.int .i64 F)).setCell ⟨w.heap.size, 1, none⟩ (.slice (some ⟨g, 0, none⟩) (ltL S).length c)).setCell ⟨w.heap.size + 1, 0, none⟩ (.int .i64 0)).setCell ⟨w.heap.size + 1, 1, none⟩ (.int .i64 0)).setCell ⟨w.heap.size + 1, 2, none⟩ (.int .i64 0))) := hidR (by
    obtain ⟨D', h1, h2, h3⟩ := hD
    have h4 : RwO (((((W5.setCell ⟨w.heap.size, 0, none⟩ (.int .i64 F)).setCell ⟨w.heap.size, 1, none⟩ (.slice (some ⟨g, 0, none⟩) (ltL S).length c)).setCell ⟨w.heap.size + 1, 0, none⟩ (.int .i64 0)).setCell ⟨w.heap.size + 1, 1, none⟩ (.int .i64 0)).setCell ⟨w.heap.size + 1, 2, none⟩ (.int .i64 0)) (W2.heap.size + 4) g c L.length D' := h1.heap (by rw [hSet _ (by omega), hSet _ (by omega), hSet _ (by omega), hSet _ (by omega), hSet _ (by omega)])
    have r := own_row h4.2
    obtain ⟨r1, ao, c', r2, r3, r4⟩ := r
    injection r2 with r5 _ r6
    subst r5 r6
    refine ⟨⟨rowR_len _, _, _, rfl, by omega, ?_⟩, ((((HB5.out.setCell (p := ⟨w.heap.size, 0, none⟩) (Nat.le_refl _) _).setCell (p := ⟨w.heap.size, 1, none⟩) (Nat.le_refl _) _).setCell (p := ⟨w.heap.size + 1, 0, none⟩) (Nat.le_succ _) _).setCell (p := ⟨w.heap.size + 1, 1, none⟩) (Nat.le_succ _) _).setCell (p := ⟨w.heap.size + 1, 2, none⟩) (Nat.le_succ _) _⟩
    rcases r4 with ⟨e, _⟩ | ⟨b, off, e, r4⟩
    · cases e
    · injection e with e
      injection e with e1 e2
      subst e1 e2
      refine .inr ⟨_, _, rfl, fun j u hj => r4 j u ?_⟩
      rw [← h2, ← rowR_take] at hj
      have hjl := (List.getElem?_eq_some_iff.mp hj).1
      rw [List.length_take] at hjl
      rw [← hj, List.getElem?_take_of_lt (by omega)])
  clear hD hb hT5 hF5 HO HT3 HF3 HB3 HB5 KS
  go_wp2
  exact bodyPost_ret (v := .tuple #[.agg #[.int .i64 F, .slice (some ⟨g, 0, none⟩) (ltL S).length c], .agg #[.int .i64 0, .int .i64 0, .int .i64 0]]) (by simp [results, Try.results18, go_sem, c0, c1, c2, c3, c4]) rfl ⟨⟨_, rfl, HZ.out.1⟩, HZ.out.2⟩
end Go.Proofs.Ytohnhpicjedfeaa
namespace Go.Proofs.Ytohnhpicjedfeaa
open Go.RowKit Go.Shelf
set_option linter.unusedSimpArgs false
set_option linter.unusedVariables false
attribute [local go_sem] Oper.semAt_some

def exS5 : ByteArray := ⟨#[49, 48, 46, 48, 46, 48, 46, 48, 47, 56, 32, 49, 32, 35, 32, 116, 101, 110, 10, 49, 48, 46, 49, 46, 48, 46, 48, 47, 49, 54, 32, 50, 10, 49, 48, 46, 48, 46, 48, 46, 48, 47, 56, 32, 51]⟩
def exA5 : Rte := ((BitVec.ofNat 128 (10 * 2 ^ 120), 8), 1)
def exB5 : Rte := ((BitVec.ofNat 128 (10 * 2 ^ 120 + 2 ^ 112), 16), 2)
def exC5 : Rte := ((BitVec.ofNat 128 (10 * 2 ^ 120), 8), 3)
set_option maxRecDepth 100000 in
theorem ex_lns5 : lnsR 32 exS5 (exS5.size + 1) 0 1 0 [] 0 = ((0, 0, 0), [exA5, exB5, exC5]) := by kernel_rfl
theorem ex_srt5 : isrt [exA5, exB5, exC5] = [exA5, exC5, exB5] := by kernel_rfl
theorem ex_ltl5 : ltL [exA5, exC5, exB5] = [exC5, exB5] := by kernel_rfl
theorem ex_row5 : rowR [exC5, exB5] = [.int .u64 720575940379279360, .int .u64 0, .int .i64 8, .int .i64 3, .int .u64 720857415355990016, .int .u64 0, .int .i64 16, .int .i64 2] := by kernel_rfl
def exW5 : BitVec 128 := BitVec.ofNat 128 (720859627264147456 * 2 ^ 64)
theorem ex_hi5 : hI exW5 = 720859627264147456 ∧ lI exW5 = 0 := by decide +kernel
theorem ex_fil5 : (([exC5, exB5] : List Rte).filter (inR exW5 32)).reverse = [exB5, exC5] := by kernel_rfl
theorem ex_ord5 : OrdR [exC5, exB5] := by
  intro a b hb hab
  have : b = 1 ∧ a = 0 := by simp at hb; omega
  obtain ⟨rfl, rfl⟩ := this
  show pcmpZ exC5.1.1 exC5.1.2 exB5.1.1 exB5.1.2 < 0
  decide +kernel
theorem ex_rt5 : RtR 32 [exC5, exB5] := by
  intro r hr
  simp at hr
  rcases hr with rfl | rfl
  · exact ⟨by decide, by decide, by decide +kernel⟩
  · exact ⟨by decide, by decide, by decide +kernel⟩
theorem ex_wrt5 : Rt 32 exW5 32 := ⟨by decide, by decide, by decide +kernel⟩
theorem ex_par5 (w : World) : Calls Try.prog 18 #[.int .i64 32, .string exS5] w fun e w' => (∃ b off c, e = .returned (.tuple #[.agg #[.int .i64 32, .slice (some ⟨b, off, none⟩) 2 c], .agg #[.int .i64 0, .int .i64 0, .int .i64 0]]) ∧ RwB w' b off [exC5, exB5] ∧ 2 ≤ c) ∧ Below w.heap.size w w' := by
  have K := parseS_any 32 exS5 w rfl (by decide) [exA5, exB5, exC5] (isrt [exA5, exB5, exC5]) ex_lns5 (by decide) (by decide) (fun base g c W h => sortS_any base g c 3 [exA5, exB5, exC5] W h (by decide))
  rw [ex_srt5, ex_ltl5] at K
  refine K.mono ?_
  rintro e w' ⟨⟨v, rfl, hv⟩, hb⟩
  refine ⟨?_, hb⟩
  obtain ⟨-, ao, c, rfl, h1, h⟩ := hv
  rcases h with ⟨-, -, h⟩ | ⟨b, off, rfl, h⟩
  · cases h
  · exact ⟨b, off, c, rfl, h, h1⟩
set_option maxRecDepth 20000 in
set_option maxHeartbeats 4000000 in
theorem known5_any (w : World) : Calls Try.prog 6 #[] w fun e w' => e = .returned (.bool true) ∧ Below w.heap.size w w' := by
  have KP := ex_par5 w
  unfold exS5 at KP
  go_enter Try.func6, Try.ntmps6
  go_wp2_with fail
  refine KP.mono ?_
  rintro e w2 ⟨⟨b, off, c, rfl, hR, hc⟩, hb⟩
  have q1 := bl1 w2 (.cells #[.int .i64 32, .slice (some ⟨b, off, none⟩) 2 c] 25)
  have q2 := bl1 (w2.alloc (.cells #[.int .i64 32, .slice (some ⟨b, off, none⟩) 2 c] 25)) (.cells #[.int .i64 0, .int .i64 0, .int .i64 0] 52)
  have hR2 := (hR.below q1).below q2
  have HB2 := hidX (keepb q2 (keepb q1 hb))
  have hbw : b < w2.heap.size := cell_in (hR 0 _ (by rw [ex_row5]; rfl))
  have c3 := hR2 3 (.int .i64 3) (by rw [ex_row5]; rfl)
  have KL := look5_any 32 exW5 b off c [exC5, exB5] _ (by decide) ex_ord5 ex_rt5 ex_wrt5 hc (by omega) (by decide) hR2 (by simp; omega)
  rw [ex_hi5.1, ex_hi5.2, ex_fil5] at KL
  have HL := hidX KL
  clear KL q1 q2 hb hR hR2 KP
  go_wp2_with fail
  refine (show Calls _ _ _ _ _ from HL.out).mono ?_
  rintro e w3 ⟨⟨ys, rfl, rfl⟩, hb3⟩
  have HB3 := hidX (keepb hb3 HB2.out)
  rw [show (fstR [exB5, exC5]).2 = 2 from rfl]
  clear HL HB2 c3 hb3
  go_wp2
  exact bodyPost_ret (v := .bool true) (by simp [results, Try.results6, go_sem]) rfl ⟨rfl, HB3.out⟩
end Go.Proofs.Ytohnhpicjedfeaa
namespace Go.Proofs.Ytohnhpicjedfeaa
set_option linter.unusedSimpArgs false
set_option linter.unusedVariables false

def Alk (E : List (BitVec 128)) (x y : BitVec 128) : Prop := ∀ z ∈ E, (z.toNat ≤ x.toNat ↔ z.toNat ≤ y.toNat)
theorem Alk.symm {E : List (BitVec 128)} {x y : BitVec 128} (h : Alk E x y) : Alk E y x := fun z hz => (h z hz).symm
end Go.Proofs.Ytohnhpicjedfeaa
namespace Go.Proofs.Ytohnhpicjedfeaa
set_option linter.unusedSimpArgs false
set_option linter.unusedVariables false

abbrev Str := (BitVec 128 × BitVec 128) × (Int × Int)
def comF (s t : Sg) : BitVec 128 := if cmpZ s.1.1 t.1.1 < 0 then t.1.1 else s.1.1
def comL (s t : Sg) : BitVec 128 := if cmpZ t.1.2 s.1.2 < 0 then t.1.2 else s.1.2
def al : List Sg → List Sg → List Str
  | [], _ => []
  | _ :: _, [] => []
  | s :: l, t :: m => ((comF s t, comL s t), (s.2, t.2)) :: (if t.1.2.toNat < s.1.2.toNat then al (s :: l) m else if s.1.2 = t.1.2 then al l m else al l (t :: m))
termination_by l m => l.length + m.length
decreasing_by all_goals (simp; try omega)
end Go.Proofs.Ytohnhpicjedfeaa
namespace Go.Proofs.Ytohnhpicjedfeaa
open Go.RowKit
set_option linter.unusedSimpArgs false
set_option linter.unusedVariables false

def AtY (W : World) (B : Nat) (x y : BitVec 128) : Prop := (W.cell? ⟨B, 0, none⟩ = some (.int .u64 (hI x)) ∧ W.cell? ⟨B, 1, none⟩ = some (.int .u64 (lI x)) ∧ W.cell? ⟨B, 2, none⟩ = some (.int .u64 (hI y)) ∧ W.cell? ⟨B, 3, none⟩ = some (.int .u64 (lI y))) ∧ W.frozen? ⟨B, 0, none⟩ = false ∧ W.frozen? ⟨B, 1, none⟩ = false ∧ W.frozen? ⟨B, 2, none⟩ = false ∧ W.frozen? ⟨B, 3, none⟩ = false
theorem AtY.heap {W W' : World} {B : Nat} {x y : BitVec 128} (k : AtY W B x y) (e : W'.heap[B]? = W.heap[B]?) : AtY W' B x y := by
  obtain ⟨⟨k0, k1, k2, k3⟩, f0, f1, f2, f3⟩ := k
  exact ⟨⟨by rw [cellH e]; exact k0, by rw [cellH e]; exact k1, by rw [cellH e]; exact k2, by rw [cellH e]; exact k3⟩, by rw [frozH e]; exact f0, by rw [frozH e]; exact f1, by rw [frozH e]; exact f2, by rw [frozH e]; exact f3⟩
theorem AtY.lt {W : World} {B : Nat} {x y : BitVec 128} (k : AtY W B x y) : B < W.heap.size := cell_in k.1.1
theorem AtY.lo {W : World} {B : Nat} {x y : BitVec 128} (k : AtY W B x y) (z : BitVec 128) : AtY ((W.setCell ⟨B, 0, none⟩ (.int .u64 (hI z))).setCell ⟨B, 1, none⟩ (.int .u64 (lI z))) B z y := by
  obtain ⟨⟨k0, k1, k2, k3⟩, f0, f1, f2, f3⟩ := k
  refine ⟨⟨?_, ?_, ?_, ?_⟩, ?_, ?_, ?_, ?_⟩ <;> simp [go_sem, *]
theorem AtY.hi {W : World} {B : Nat} {x y : BitVec 128} (k : AtY W B x y) (z : BitVec 128) : AtY ((W.setCell ⟨B, 2, none⟩ (.int .u64 (hI z))).setCell ⟨B, 3, none⟩ (.int .u64 (lI z))) B x z := by
  obtain ⟨⟨k0, k1, k2, k3⟩, f0, f1, f2, f3⟩ := k
  refine ⟨⟨?_, ?_, ?_, ?_⟩, ?_, ?_, ?_, ?_⟩ <;> simp [go_sem, *]
theorem AtY.all {W : World} {B : Nat} {x y : BitVec 128} (k : AtY W B x y) (u z : BitVec 128) : AtY ((((W.setCell ⟨B, 0, none⟩ (.int .u64 (hI u))).setCell ⟨B, 1, none⟩ (.int .u64 (lI u))).setCell ⟨B, 2, none⟩ (.int .u64 (hI z))).setCell ⟨B, 3, none⟩ (.int .u64 (lI z))) B u z := by
  obtain ⟨⟨k0, k1, k2, k3⟩, f0, f1, f2, f3⟩ := k
  refine ⟨⟨?_, ?_, ?_, ?_⟩, ?_, ?_, ?_, ?_⟩ <;> simp [go_sem, *]
structure CmI (w : World) (sx sy : BitVec 128) (sh : Int) (tx ty : BitVec 128) (th : Int) (u v : BitVec 128) (W : World) : Prop where
  s : AtG W w.heap.size sx sy sh
  t : AtG W (w.heap.size + 1) tx ty th
  r : AtY W (w.heap.size + 2) 0#128 0#128
  a : AtY W (w.heap.size + 3) u v
  bel : Below w.heap.size w W
theorem CmI.below {w : World} {sx sy : BitVec 128} {sh : Int} {tx ty : BitVec 128} {th : Int} {u v : BitVec 128} {W W' : World} (k : CmI w sx sy sh tx ty th u v W) (hb : Below W.heap.size W W') : CmI w sx sy sh tx ty th u v W' :=
  ⟨k.s.below hb, k.t.below hb, k.r.heap (hb.block _ k.r.lt), k.a.heap (hb.block _ k.a.lt), keepb hb k.bel⟩
theorem CmI.lo {w : World} {sx sy : BitVec 128} {sh : Int} {tx ty : BitVec 128} {th : Int} {u v : BitVec 128} {W : World} (k : CmI w sx sy sh tx ty th u v W) (z : BitVec 128) : CmI w sx sy sh tx ty th z v ((W.setCell ⟨w.heap.size + 3, 0, none⟩ (.int .u64 (hI z))).setCell ⟨w.heap.size + 3, 1, none⟩ (.int .u64 (lI z))) :=
  ⟨k.s.heap (by rw [hSet _ (by omega), hSet _ (by omega)]), k.t.heap (by rw [hSet _ (by omega), hSet _ (by omega)]), k.r.heap (by rw [hSet _ (by omega), hSet _ (by omega)]), k.a.lo z, (k.bel.setCell (p := ⟨w.heap.size + 3, 0, none⟩) (by simp) _).setCell (p := ⟨w.heap.size + 3, 1, none⟩) (by simp) _⟩
theorem CmI.hi {w : World} {sx sy : BitVec 128} {sh : Int} {tx ty : BitVec 128} {th : Int} {u v : BitVec 128} {W : World} (k : CmI w sx sy sh tx ty th u v W) (z : BitVec 128) : CmI w sx sy sh tx ty th u z ((W.setCell ⟨w.heap.size + 3, 2, none⟩ (.int .u64 (hI z))).setCell ⟨w.heap.size + 3, 3, none⟩ (.int .u64 (lI z))) :=
  ⟨k.s.heap (by rw [hSet _ (by omega), hSet _ (by omega)]), k.t.heap (by rw [hSet _ (by omega), hSet _ (by omega)]), k.r.heap (by rw [hSet _ (by omega), hSet _ (by omega)]), k.a.hi z, (k.bel.setCell (p := ⟨w.heap.size + 3, 2, none⟩) (by simp) _).setCell (p := ⟨w.heap.size + 3, 3, none⟩) (by simp) _⟩
end Go.Proofs.Ytohnhpicjedfeaa
namespace Go.Proofs.Ytohnhpicjedfeaa
open Go.RowKit
set_option linter.unusedSimpArgs false
set_option linter.unusedVariables false

section
variable {P : Program}

end
end Go.Proofs.Ytohnhpicjedfeaa
