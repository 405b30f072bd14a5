/-
  Part 2 of the proof: 9 texts, one behind the other.
-/
import Derived.Test.YtjgpbahglkaijaaPart1
import Derived.Deep.AppendLies
import Derived.Lib.SlBytesConst
import Derived.Deep.QuietTactic
import Derived.BigQuiet
import Derived.Laws.IdiomStrings
import Derived.ArgAppend
namespace Go.Proofs.Ytjgpbahglkaijaa
open Go.RowKit
set_option linter.unusedSimpArgs false
set_option linter.unusedVariables false

structure FoI (w W : World) (nw : Nat) (vf : Value) (U : List (BitVec 32)) (R : List Int) : Prop where
  b : Below w.heap.size w W
  m : W.ownsRow w.heap.size 110 1 (.slice (some ⟨w.heap.size, 0, none⟩) nw nw) nw (U.map cU)
  r : W.ownsRow (w.heap.size + 1) 3 1 vf R.length (R.map cI)
  s : w.heap.size + 1 ≤ W.heap.size
section
variable {w W W' : World} {nw : Nat} {vf : Value} {U : List (BitVec 32)} {R : List Int}
theorem FoI.below (h : FoI w W nw vf U R) (hb : Below W.heap.size W W') : FoI w W' nw vf U R :=
  ⟨keepb hb h.b, own_b13 hb h.m, own_b13 hb h.r, Nat.le_trans h.s hb.size⟩
theorem FoI.ul (h : FoI w W nw vf U R) : U.length = nw := by have := h.m.1; simpa using this
theorem FoI.cell (h : FoI w W nw vf U R) (k : Nat) (hk : k / 32 < nw) : W.cell? ⟨w.heap.size, k / 32, none⟩ = some (.int .u32 (uI (U.getD (k / 32) 0#32))) ∧ W.frozen? ⟨w.heap.size, k / 32, none⟩ = false := by
  have hl := h.ul
  refine ⟨?_, h.m.frozenAt _⟩
  rw [h.m.cellAt (k / 32) (by omega), List.getElem?_map, List.getD_eq_getElem?_getD, List.getElem?_eq_getElem (by omega)]
  rfl
theorem FoI.set (h : FoI w W nw vf U R) (k : Nat) (hk : k / 32 < nw) : FoI w (W.setCell ⟨w.heap.size, k / 32, none⟩ (.int .u32 (uI (U.getD (k / 32) 0#32 ||| (cOne >>> (k % 32)))))).drew nw vf (setP U k) R := by
  have hs := (h.m.stored (k / 32) (.int .u32 (uI (U.getD (k / 32) 0#32 ||| (cOne >>> (k % 32)))))).1
  have e : (setP U k).map cU = (U.map cU).set (k / 32) (.int .u32 (uI (U.getD (k / 32) 0#32 ||| (cOne >>> (k % 32))))) := by
    unfold setP
    rw [List.map_set]; rfl
  refine ⟨(h.b.setCell (Nat.le_refl _) _).drew, ?_, ?_, ?_⟩
  · rw [e]; exact own_b13 (below_drewN (Below.refl _ _) 1) hs
  · exact own_b13 (below_drewN (Below.refl _ _) 1) (ownsRow_setCell_below h.r (Nat.lt_succ_self _) _)
  · have : (W.setCell ⟨w.heap.size, k / 32, none⟩ (.int .u32 (uI (U.getD (k / 32) 0#32 ||| (cOne >>> (k % 32)))))).drew.heap.size = W.heap.size := by simp [World.setCell, World.drew]
    rw [this]; exact h.s
theorem FoI.grown (h : FoI w W nw vf U R) {v' : Value} {x : Int} (ho : W'.ownsRow (w.heap.size + 1) 3 1 v' (R.length + 1) (R.map cI ++ [cI x])) (hg : W.grownBy W' vf.ownBlock) : FoI w W' nw v' U (R ++ [x]) := by
  refine ⟨h.b.grown hg (by have := h.s; omega) (fun k e => by have := (h.r.lt k e).1; omega), h.m.kept hg ?_, ?_, Nat.le_trans h.s hg.size⟩
  · cases e : vf.ownBlock with
    | none => exact .inr (by simp [Value.ownBlock])
    | some k => exact .inr (by have := (h.r.lt k e).1; simp only [Value.ownBlock, ne_eq, Option.some.injEq]; omega)
  · rw [List.length_append, List.map_append]
    exact ho
end
end Go.Proofs.Ytjgpbahglkaijaa
namespace Go.Proofs.Ytjgpbahglkaijaa
open Go.RowKit
set_option linter.unusedSimpArgs false
set_option linter.unusedVariables false

end Go.Proofs.Ytjgpbahglkaijaa
namespace Go.Proofs.Ytjgpbahglkaijaa
open Go.RowKit
set_option linter.unusedSimpArgs false
set_option linter.unusedVariables false

theorem q_run {P : Program} {ops : Array Oper} {C : World → Prop} {Q : Act → Prop} {a : Act} {o : Oper} {rest : List Oper} {v : Value}
    (hw : Region.wanted o (yielded ops a.tmps) = true) (h : ∀ w, C w → (execOp a.eval o).run P w = .ok (.value v) w) (k : wpQuiet P ops C Q rest (a.put o.dst v)) : wpQuiet P ops C Q (o :: rest) a := by
  refine wpQuiet_step (fun K hK => ?_)
  rw [if_pos hw]
  refine ⟨v, fun w hC => ?_, hK _ k⟩
  unfold Oper.quietAt; rw [h w hC]; exact ⟨rfl, rfl⟩
theorem q_skip {P : Program} {ops : Array Oper} {C : World → Prop} {Q : Act → Prop} {a : Act} {o : Oper} {rest : List Oper}
    (hw : Region.wanted o (yielded ops a.tmps) = false) (k : wpQuiet P ops C Q rest (a.put o.dst undef)) : wpQuiet P ops C Q (o :: rest) a := by
  refine wpQuiet_step (fun K hK => ?_)
  rw [if_neg (by rw [hw]; decide)]
  exact hK _ k
theorem q_call {P : Program} {ops : Array Oper} {C : World → Prop} {Q : Act → Prop} {a : Act} {o : Oper} {rest : List Oper} {v : Value} {f : FuncId} {args : Array Value}
    (hw : Region.wanted o (yielded ops a.tmps) = true) (h : ∀ w, C w → (execOp a.eval o).run P w = .ok (.enter f args) w) (hc : ∀ w, C w → Calls P f args w fun e w' => e = .returned v ∧ C w') (k : wpQuiet P ops C Q rest (a.put o.dst v)) : wpQuiet P ops C Q (o :: rest) a := by
  refine wpQuiet_step (fun K hK => ?_)
  rw [if_pos hw]
  refine ⟨v, fun w hC => ?_, hK _ k⟩
  unfold Oper.quietAt; rw [h w hC]; exact ⟨rfl, hc w hC⟩
theorem q_region {P : Program} {C : World → Prop} {id : Nat} {Q : Exit → Act → World → Prop} {a : Act} {w : World} {l : List Oper} (hm : P.follows .mixedOrders = true) (hB : Region.lexB .any l.toArray = true) (hC : C w.drew)
    (h : wpQuiet P l.toArray C (fun a' => ∀ w', C w' → Q .normal a' w') l a) : (Code.region id l.toArray true).wp P Q a w :=
  wp_region_quiet (C := C) hm hB hC (by simpa using h)
end Go.Proofs.Ytjgpbahglkaijaa
namespace Go.Proofs.Ytjgpbahglkaijaa
open Go.RowKit
set_option linter.unusedSimpArgs false
set_option linter.unusedVariables false

structure QW (P : Program) (ops : Array Oper) (C : World → Prop) (Q : Act → Prop) (l : List Oper) (a : Act) : Prop where
  out : wpQuiet P ops C Q l a
theorem qw_run {P : Program} {ops : Array Oper} {C : World → Prop} {Q : Act → Prop} {a : Act} {o : Oper} {rest : List Oper} {v : Value}
    (hw : Region.wanted o (yielded ops a.tmps) = true) (h : ∀ w, C w → (execOp a.eval o).run P w = .ok (.value v) w) (k : QW P ops C Q rest (a.put o.dst v)) : QW P ops C Q (o :: rest) a := ⟨q_run hw h k.out⟩
theorem qw_skip {P : Program} {ops : Array Oper} {C : World → Prop} {Q : Act → Prop} {a : Act} {o : Oper} {rest : List Oper}
    (hw : Region.wanted o (yielded ops a.tmps) = false) (k : QW P ops C Q rest (a.put o.dst undef)) : QW P ops C Q (o :: rest) a := ⟨q_skip hw k.out⟩
theorem qw_call {P : Program} {ops : Array Oper} {C : World → Prop} {Q : Act → Prop} {a : Act} {o : Oper} {rest : List Oper} {v : Value} {f : FuncId} {args : Array Value}
    (hw : Region.wanted o (yielded ops a.tmps) = true) (h : ∀ w, C w → (execOp a.eval o).run P w = .ok (.enter f args) w) (hc : ∀ w, C w → Calls P f args w fun e w' => e = .returned v ∧ C w') (k : QW P ops C Q rest (a.put o.dst v)) : QW P ops C Q (o :: rest) a := ⟨q_call hw h hc k.out⟩
theorem qw_nil {P : Program} {ops : Array Oper} {C : World → Prop} {Q : Act → Prop} {a : Act} (h : Q a) : QW P ops C Q [] a := ⟨wpQuiet_nil h⟩
theorem qw_region {P : Program} {C : World → Prop} {id : Nat} {Q : Exit → Act → World → Prop} {a : Act} {w : World} {l : List Oper} (hm : P.follows .mixedOrders = true) (hB : Region.lexB .any l.toArray = true) (hC : C w.drew)
    (h : QW P l.toArray C (fun a' => ∀ w', C w' → Q .normal a' w') l a) : (Code.region id l.toArray true).wp P Q a w := q_region hm hB hC h.out
end Go.Proofs.Ytjgpbahglkaijaa
namespace Go.Proofs.Ytjgpbahglkaijaa
open Go.RowKit
set_option linter.unusedSimpArgs false
set_option linter.unusedVariables false

def by4 (n : Nat) : List Nat := [n / 16777216, n / 65536 % 256, n / 256 % 256, n % 256]
theorem own_wide13 {w : World} {base base' e size n : Nat} {v : Value} {xs : List Value} (h : w.ownsRow base e size v n xs) (hb : base' ≤ base) : w.ownsRow base' e size v n xs := by
  refine ⟨h.1, ?_⟩
  rcases h.2 with hn | ⟨g, cap, cur, hv, h1, h2⟩
  · exact .inl hn
  · exact .inr ⟨g, cap, cur, hv, by omega, h2⟩
def numN13 (l : List Nat) : Nat := l.foldl (fun v b => v * 256 + b) 0
def gtN (l : List Nat) (n : Int) (k : Nat) : Nat := if 0 ≤ n ∧ n ≤ (l.length : Int) - k then numN13 ((l.drop n.toNat).take k) else 0
def gtE (l : List Nat) (n : Int) (k : Nat) : Int := if 0 ≤ n ∧ n ≤ (l.length : Int) - k then 0 else 30
theorem take4_of {l : List Nat} {j a b c d : Nat} (h0 : l[j + 0]? = some a) (h1 : l[j + 1]? = some b) (h2 : l[j + 2]? = some c) (h3 : l[j + 3]? = some d) : (l.drop j).take 4 = [a, b, c, d] := by
  apply List.ext_getElem?
  intro i
  rw [List.getElem?_take]
  match i with
  | 0 => simpa using h0
  | 1 => simpa using h1
  | 2 => simpa using h2
  | 3 => simpa using h3
  | i + 4 => rw [if_neg (by omega)]; rfl
theorem stand_any (ao : Option Addr) (m cc : Nat) (n k : Int) (w : World) (hk : 0 ≤ k ∧ k ≤ 100) (hm : m ≤ 140737488355328) :
    Calls Try.prog 135 #[.slice ao m cc, .int .i64 n, .int .i64 k] w fun e w' => e = .returned (.bool (decide (0 ≤ n) && decide (n ≤ (m : Int) - k))) ∧ w' = w := by
  have hw : IntKind.i64.wrap ((m : Int) - k) = (m : Int) - k := by rw [IntKind.wrap_i64]; omega
  by_cases h : 0 ≤ n
  · go_enter Try.func135, Try.ntmps135
    go_wp2
    go_ret
    exact ⟨by rw [decide_eq_true h]; rfl, rfl⟩
  · go_enter Try.func135, Try.ntmps135
    go_wp2
    go_ret
    exact ⟨by rw [decide_eq_false (by omega : ¬ 0 ≤ n)]; rfl, rfl⟩
theorem orN32 (A B i : Nat) (hA : A % 2 ^ i = 0) (hB : B < 2 ^ i) (h : A + B < 4294967296) (x y : Int) (hx : x = (A : Int)) (hy : y = (B : Int)) : bits .or .u32 x y = ((A + B : Nat) : Int) := by
  subst hx hy
  unfold bits
  simp only [IntKind.bits]
  have e : (BitVec.ofInt 32 (A : Int) ||| BitVec.ofInt 32 (B : Int)).toNat = A + B := by
    rw [BitVec.toNat_or]
    have e1 : (BitVec.ofInt 32 (A : Int)).toNat = A := by rw [BitVec.toNat_ofInt]; omega
    have e2 : (BitVec.ofInt 32 (B : Int)).toNat = B := by rw [BitVec.toNat_ofInt]; omega
    rw [e1, e2]
    have e3 : A = (A / 2 ^ i) <<< i := by
      rw [Nat.shiftLeft_eq]
      have := Nat.div_add_mod A (2 ^ i)
      rw [hA, Nat.mul_comm] at this
      omega
    rw [e3, ← Nat.shiftLeft_add_eq_or_of_lt hB]
  show IntKind.wrap .u32 (((BitVec.ofInt 32 (A : Int) ||| BitVec.ofInt 32 (B : Int)).toNat : Nat) : Int) = _
  rw [e]
  simp [IntKind.wrap, IntKind.bits, IntKind.signed]
  omega
set_option maxRecDepth 100000 in
set_option maxHeartbeats 8000000 in
theorem get32_any (v : Value) (l : List Nat) (n : Int) (w : World) (hv : RwX cB w v l) (hl : l.length ≤ 140737488355328) (hx : ∀ b ∈ l, b < 256) (h0 : -9223372036854775808 ≤ n) (h1 : n ≤ 9223372036854775807) :
    Calls Try.prog 114 #[v, .int .i64 n] w fun e w' => e = .returned (.tuple #[.int .u32 ((gtN l n 4 : Nat) : Int), .int .i64 (gtE l n 4)]) ∧ Below w.heap.size w w' := by
  obtain ⟨ao, cc, rfl, hc, hv⟩ := hv
  by_cases h : 0 ≤ n ∧ n ≤ (l.length : Int) - ((4 : Nat) : Int)
  · unfold gtN gtE
    rw [if_pos h, if_pos h]
    obtain ⟨j, rfl⟩ : ∃ j : Nat, n = (j : Int) := ⟨n.toNat, by omega⟩
    have hj : j + 4 ≤ l.length := by omega
    obtain ⟨bo, off, rfl, hcell⟩ : ∃ bo off, ao = some ⟨bo, off, none⟩ ∧ ∀ j x, l[j]? = some x → w.cell? ⟨bo, off + j, none⟩ = some (cB x) := by
      rcases hv with h | h
      · rw [h] at hj; simp at hj
      · exact h
    obtain ⟨b0, g0⟩ : ∃ x, l[j + 0]? = some x := ⟨l[j + 0]'(by omega), by simp [show j + 0 < l.length by omega]⟩
    obtain ⟨b1, g1⟩ : ∃ x, l[j + 1]? = some x := ⟨l[j + 1]'(by omega), by simp [show j + 1 < l.length by omega]⟩
    obtain ⟨b2, g2⟩ : ∃ x, l[j + 2]? = some x := ⟨l[j + 2]'(by omega), by simp [show j + 2 < l.length by omega]⟩
    obtain ⟨b3, g3⟩ : ∃ x, l[j + 3]? = some x := ⟨l[j + 3]'(by omega), by simp [show j + 3 < l.length by omega]⟩
    have HN : Hid (numN13 ((l.drop (j : Int).toNat).take 4) = (((b0 * 256 + b1) * 256 + b2) * 256 + b3)) := by
      show _ = _
      rw [Int.toNat_natCast, take4_of g0 g1 g2 g3]
      unfold numN13
      simp
    have r0 : w.cell? ⟨bo, off + j, none⟩ = some (.int .u8 (b0 : Int)) := hcell (j + 0) b0 g0
    have s0 : ((b0 : Nat) : Int) < 256 := by have := hx b0 (List.mem_of_getElem? g0); omega
    have r1 : w.cell? ⟨bo, off + (j + 1), none⟩ = some (.int .u8 (b1 : Int)) := hcell (j + 1) b1 g1
    have s1 : ((b1 : Nat) : Int) < 256 := by have := hx b1 (List.mem_of_getElem? g1); omega
    have r2 : w.cell? ⟨bo, off + (j + 2), none⟩ = some (.int .u8 (b2 : Int)) := hcell (j + 2) b2 g2
    have s2 : ((b2 : Nat) : Int) < 256 := by have := hx b2 (List.mem_of_getElem? g2); omega
    have r3 : w.cell? ⟨bo, off + (j + 3), none⟩ = some (.int .u8 (b3 : Int)) := hcell (j + 3) b3 g3
    have s3 : ((b3 : Nat) : Int) < 256 := by have := hx b3 (List.mem_of_getElem? g3); omega
    have l1 : (j : Int) + 1 < (l.length : Int) := by omega
    have l2 : (j : Int) + 2 < (l.length : Int) := by omega
    have l3 : (j : Int) + 3 < (l.length : Int) := by omega
    have lj : (j : Int) < (l.length : Int) := by omega
    have hdt : (decide (0 ≤ (j : Int)) && decide ((j : Int) ≤ (l.length : Int) - 4)) = true := by simp; omega
    have hle : (j : Int) ≤ (l.length : Int) - 4 := by omega
    have hst : (0 : Int) ≤ (j : Int) := by omega
    have HS : Hid (Below w.heap.size w w) := Below.refl _ _
    clear hv h hcell hx hc
    go_enter Try.func114, Try.ntmps114
    go_wp2_with (go_at_call 135; refine (stand_any _ l.length cc (j : Int) 4 _ (by omega) hl).mono ?_; rw [hdt]; rintro e w1 ⟨rfl, hw1⟩; replace hw1 := hw1.symm; subst hw1)
    go_quiet (fail)
    have HB : Hid (Below w.heap.size w (w.drewN nq)) := below_drewN (Below.refl _ _) nq
    have o1 : bits .or .u32 ((b0 : Int) * 16777216) ((b1 : Int) * 65536) = ((b0 * 16777216 + b1 * 65536 : Nat) : Int) := orN32 (b0 * 16777216) (b1 * 65536) 24 (by omega) (by omega) (by omega) _ _ (by omega) (by omega)
    have o2 : bits .or .u32 ((b0 * 16777216 + b1 * 65536 : Nat) : Int) ((b2 : Int) * 256) = ((b0 * 16777216 + b1 * 65536 + b2 * 256 : Nat) : Int) := orN32 (b0 * 16777216 + b1 * 65536) (b2 * 256) 16 (by omega) (by omega) (by omega) _ _ rfl (by omega)
    have o3 : bits .or .u32 ((b0 * 16777216 + b1 * 65536 + b2 * 256 : Nat) : Int) (b3 : Int) = ((((b0 * 256 + b1) * 256 + b2) * 256 + b3 : Nat) : Int) := by
      rw [orN32 (b0 * 16777216 + b1 * 65536 + b2 * 256) b3 8 (by omega) (by omega) (by omega) _ _ rfl rfl]
      omega
    rw [o1, o2, o3]
    clear o1 o2 o3
    go_wp2
    exact bodyPost_ret (v := .tuple #[.int .u32 (((((b0 * 256 + b1) * 256 + b2) * 256 + b3) : Nat) : Int), .int .i64 0]) (by simp [results, Try.results114, go_sem]) rfl ⟨by rw [HN.out], HB.out⟩
  · unfold gtN gtE
    rw [if_neg h, if_neg h]
    replace h : ¬ (0 ≤ n ∧ n ≤ (l.length : Int) - 4) := h
    have hd : (decide (0 ≤ n) && decide (n ≤ (l.length : Int) - 4)) = false := by
      rw [← Bool.decide_and]; exact decide_eq_false h
    go_enter Try.func114, Try.ntmps114
    go_wp2_with (go_at_call 135; refine (stand_any ao l.length cc n 4 _ (by omega) (by omega)).mono ?_; rintro e w1 ⟨rfl, hw1⟩; replace hw1 := hw1.symm; subst hw1)
    exact bodyPost_ret (v := .tuple #[.int .u32 0, .int .i64 30]) (by simp [results, Try.results114, go_sem]) rfl ⟨rfl, Below.refl _ _⟩
end Go.Proofs.Ytjgpbahglkaijaa
namespace Go.Proofs.Ytjgpbahglkaijaa
open Go.RowKit
set_option linter.unusedSimpArgs false
set_option linter.unusedVariables false

theorem num4 (n : Nat) (h : n < 4294967296) : numN13 (by4 n) = n := by
  have e : numN13 (by4 n) = ((((0 * 256 + n / 16777216) * 256 + n / 65536 % 256) * 256 + n / 256 % 256) * 256 + n % 256) := rfl
  rw [e]; omega
end Go.Proofs.Ytjgpbahglkaijaa
namespace Go.Proofs.Ytjgpbahglkaijaa
open Go.RowKit
set_option linter.unusedSimpArgs false
set_option linter.unusedVariables false

def kLo (op : Int) : Int := if op = 4 then 0 else 1
def kHi (op : Int) : Int := if op = 3 then 16777215 else if op = 4 then 65535 else 24
def kRm (op : Int) : Int := if op = 3 then 16777215 else if op = 4 then 65535 else 255
def isOp (op : Int) : Bool := decide (1 ≤ op) && decide (op ≤ 4)
def kindV (op : Int) : Value := if isOp op then .agg #[.int .i64 (kLo op), .int .i64 (kHi op), .int .i64 (kRm op), .bool (op == 2)] else .agg #[.int .i64 0, .int .i64 0, .int .i64 0, .bool false]
theorem kindV_op {op : Int} (h : isOp op = true) : kindV op = .agg #[.int .i64 (kLo op), .int .i64 (kHi op), .int .i64 (kRm op), .bool (op == 2)] := by unfold kindV; rw [if_pos h]
theorem kindV_no {op : Int} (h : isOp op = false) : kindV op = .agg #[.int .i64 0, .int .i64 0, .int .i64 0, .bool false] := by unfold kindV; rw [if_neg (by rw [h]; decide)]
theorem isOp_cases {op : Int} (h : isOp op = true) : op = 1 ∨ op = 2 ∨ op = 3 ∨ op = 4 := by
  unfold isOp at h; simp at h; omega
theorem isOp_none {op : Int} (h : isOp op = false) : op ≠ 1 ∧ op ≠ 2 ∧ op ≠ 3 ∧ op ≠ 4 := by
  refine ⟨?_, ?_, ?_, ?_⟩ <;> (rintro rfl; revert h; decide)
set_option maxRecDepth 100000 in
theorem kindOf_1 (w : World) :
    Calls Try.prog 94 #[.int .i64 1] w fun e w' => e = .returned (.tuple #[.agg #[.int .i64 1, .int .i64 24, .int .i64 255, .bool false], .bool true]) ∧ Below w.heap.size w w' := by
  go_enter Try.func94, Try.ntmps94
  go_wp2
  exact bodyPost_ret (v := .tuple #[.agg #[.int .i64 1, .int .i64 24, .int .i64 255, .bool false], .bool true]) (by simp [results, Try.results94, go_sem]) rfl ⟨rfl, keepb (bl1 _ _) (bl1 _ _)⟩
set_option maxRecDepth 100000 in
theorem kindOf_2 (w : World) :
    Calls Try.prog 94 #[.int .i64 2] w fun e w' => e = .returned (.tuple #[.agg #[.int .i64 1, .int .i64 24, .int .i64 255, .bool true], .bool true]) ∧ Below w.heap.size w w' := by
  go_enter Try.func94, Try.ntmps94
  go_wp2
  exact bodyPost_ret (v := .tuple #[.agg #[.int .i64 1, .int .i64 24, .int .i64 255, .bool true], .bool true]) (by simp [results, Try.results94, go_sem]) rfl ⟨rfl, keepb (bl1 _ _) (bl1 _ _)⟩
set_option maxRecDepth 100000 in
theorem kindOf_3 (w : World) :
    Calls Try.prog 94 #[.int .i64 3] w fun e w' => e = .returned (.tuple #[.agg #[.int .i64 1, .int .i64 16777215, .int .i64 16777215, .bool false], .bool true]) ∧ Below w.heap.size w w' := by
  go_enter Try.func94, Try.ntmps94
  go_wp2
  exact bodyPost_ret (v := .tuple #[.agg #[.int .i64 1, .int .i64 16777215, .int .i64 16777215, .bool false], .bool true]) (by simp [results, Try.results94, go_sem]) rfl ⟨rfl, keepb (bl1 _ _) (bl1 _ _)⟩
set_option maxRecDepth 100000 in
theorem kindOf_4 (w : World) :
    Calls Try.prog 94 #[.int .i64 4] w fun e w' => e = .returned (.tuple #[.agg #[.int .i64 0, .int .i64 65535, .int .i64 65535, .bool false], .bool true]) ∧ Below w.heap.size w w' := by
  go_enter Try.func94, Try.ntmps94
  go_wp2
  exact bodyPost_ret (v := .tuple #[.agg #[.int .i64 0, .int .i64 65535, .int .i64 65535, .bool false], .bool true]) (by simp [results, Try.results94, go_sem]) rfl ⟨rfl, keepb (bl1 _ _) (bl1 _ _)⟩
set_option maxRecDepth 100000 in
theorem kindOf_none (op : Int) (h1 : op ≠ 1) (h2 : op ≠ 2) (h3 : op ≠ 3) (h4 : op ≠ 4) (w : World) :
    Calls Try.prog 94 #[.int .i64 op] w fun e w' => e = .returned (.tuple #[.agg #[.int .i64 0, .int .i64 0, .int .i64 0, .bool false], .bool false]) ∧ Below w.heap.size w w' := by
  go_enter Try.func94, Try.ntmps94
  go_wp2
  exact bodyPost_ret (v := .tuple #[.agg #[.int .i64 0, .int .i64 0, .int .i64 0, .bool false], .bool false]) (by simp [results, Try.results94, go_sem]) rfl ⟨rfl, keepb (bl1 _ _) (bl1 _ _)⟩
theorem kindOf_any (op : Int) (w : World) :
    Calls Try.prog 94 #[.int .i64 op] w fun e w' => e = .returned (.tuple #[kindV op, .bool (isOp op)]) ∧ Below w.heap.size w w' := by
  cases h : isOp op with
  | true =>
    rcases isOp_cases h with rfl | rfl | rfl | rfl
    · exact kindOf_1 w
    · exact kindOf_2 w
    · exact kindOf_3 w
    · exact kindOf_4 w
  | false =>
    obtain ⟨h1, h2, h3, h4⟩ := isOp_none h
    rw [kindV_no h]
    exact kindOf_none op h1 h2 h3 h4 w
theorem takes_any (a b c : Int) (d : Bool) (n : Int) (w : World) :
    Calls Try.prog 95 #[.agg #[.int .i64 a, .int .i64 b, .int .i64 c, .bool d], .int .i64 n] w fun e w' => e = .returned (.bool (decide (a ≤ n) && decide (n ≤ b))) ∧ Below w.heap.size w w' := by
  have HB := hid13 (bl1 w (.cells #[.int .i64 a, .int .i64 b, .int .i64 c, .bool d] 164))
  by_cases h : a ≤ n
  · rw [decide_eq_true h]
    go_enter Try.func95, Try.ntmps95
    go_wp2
    go_ret
    exact ⟨rfl, HB.out⟩
  · rw [decide_eq_false h]
    go_enter Try.func95, Try.ntmps95
    go_wp2
    go_ret
    exact ⟨rfl, HB.out⟩
def mwN (n : Nat) : Nat := if n < 5 then 1 else 2 ^ (n - 5)
theorem sh64 (n : Nat) (h : n ≤ 24) : Op.shift .shl .i64 1 .i64 (n : Int) = pure (.int .i64 ((2 ^ n : Nat) : Int)) := by
  rw [shift_shl_any .i64 .i64 1 _ (by omega)]
  have : ∀ m : Fin 25, IntKind.i64.wrap (1 * 2 ^ min ((m.val : Nat) : Int).toNat IntKind.i64.bits) = ((2 ^ m.val : Nat) : Int) := by decide +kernel
  exact congrArg (fun z => pure (Value.int .i64 z)) (this ⟨n, by omega⟩)
theorem mwN_max (n : Nat) (h : n ≤ 24) : mwN n = max 1 (2 ^ n / 32) := by
  have : ∀ m : Fin 25, mwN m.val = max 1 (2 ^ m.val / 32) := by decide +kernel
  exact this ⟨n, by omega⟩
theorem mwN_lo (n : Nat) : 1 ≤ mwN n := by
  unfold mwN; split
  · exact Nat.le_refl _
  · exact Nat.one_le_two_pow
theorem mwN_hi (n : Nat) (h : n ≤ 24) : mwN n ≤ 524288 := by
  have : ∀ m : Fin 25, mwN m.val ≤ 524288 := by decide +kernel
  exact this ⟨n, by omega⟩
theorem mapWords_any (n : Nat) (h : n ≤ 24) (w : World) :
    Calls Try.prog 115 #[.int .i64 (n : Int)] w fun e w' => e = .returned (.int .i64 (mwN n : Int)) ∧ w' = w := by
  have hs := sh64 n h
  obtain ⟨P, hP⟩ : ∃ P : Nat, P = 2 ^ n := ⟨_, rfl⟩
  have hm : mwN n = max 1 (P / 32) := by rw [hP]; exact mwN_max n h
  rw [← hP] at hs
  rw [hm]
  have hPl : P ≤ 16777216 := by rw [hP]; exact Nat.pow_le_pow_right (n := 2) (by decide) h
  clear hP hm h
  by_cases c : P < 32
  · have e : Hid (max 1 (P / 32) = 1) := by show _ = _; omega
    have c1 : (P : Int) / 32 ≤ 1 := by omega
    rw [e.out]
    go_enter Try.func115, Try.ntmps115
    go_wp2
    go_ret
    exact ⟨rfl, rfl⟩
  · obtain ⟨q, hq⟩ : ∃ q, q = P / 32 := ⟨_, rfl⟩
    have e : Hid (max 1 (P / 32) = q) := by show _ = _; omega
    have e1 : (P : Int) / 32 = (q : Int) := by omega
    have c1 : (1 : Int) ≤ q := by omega
    have c2 : ((1 : Int) < (q : Int)) ∨ q = 1 := by omega
    have wq : wrap64 (q : Int) = (q : Int) := by unfold wrap64; omega
    rw [e.out]
    clear e hq c c2
    go_enter Try.func115, Try.ntmps115
    go_wp2
    · go_ret
      exact ⟨rfl, rfl⟩
    · go_ret
      obtain rfl : q = 1 := by omega
      exact ⟨rfl, rfl⟩
theorem hi32 (x : BitVec 32) : uI x / 2147483648 = if x.getLsbD 31 then 1 else 0 := by
  rw [uI_eq]
  have h1 := x.isLt
  have h2 : x.getLsbD 31 = decide (2147483648 ≤ x.toNat) := by
    rw [BitVec.getLsbD, Nat.testBit_eq_decide_div_mod_eq]
    have e : (2 : Nat) ^ 31 = 2147483648 := by decide
    rw [e]
    congr 1
    apply propext
    omega
  rw [h2]
  by_cases c : 2147483648 ≤ x.toNat
  · rw [decide_eq_true c, if_pos rfl]; omega
  · rw [decide_eq_false c, if_neg (by decide)]; omega
theorem sh64u (n : Nat) (h : n ≤ 24) : Op.shift .shl .u64 1 .i64 (n : Int) = pure (.int .u64 ((2 ^ n : Nat) : Int)) := by
  rw [shift_shl_any .u64 .i64 1 _ (by omega)]
  have : ∀ m : Fin 25, IntKind.u64.wrap (1 * 2 ^ min ((m.val : Nat) : Int).toNat IntKind.u64.bits) = ((2 ^ m.val : Nat) : Int) := by decide +kernel
  exact congrArg (fun z => pure (Value.int .u64 z)) (this ⟨n, by omega⟩)
theorem sh32u (x : BitVec 32) (P : Nat) : Op.shift .shl .u32 (uI x) .u64 (P : Int) = pure (.int .u32 (uI (x <<< P))) := by
  rw [shift_shl_any .u32 .u64 _ _ (by omega), Int.toNat_natCast]
  have hb : IntKind.u32.bits = 32 := rfl
  rw [hb]
  obtain ⟨k, hk⟩ : ∃ k, k = min P 32 := ⟨_, rfl⟩
  rw [← hk]
  have hw : ∀ z : Int, 0 ≤ z → IntKind.u32.wrap z = z % 4294967296 := by intro z hz; simp [IntKind.wrap, IntKind.bits, IntKind.signed]
  have hz : (0 : Int) ≤ uI x * 2 ^ k := Int.mul_nonneg (uI_lo x) (by have : (0:Int) < 2 ^ k := Int.pow_pos (by decide); omega)
  rw [hw _ hz, shl32]
  have e : x <<< k = x <<< P := by
    by_cases c : P ≤ 32
    · rw [hk, Nat.min_eq_left c]
    · rw [BitVec.shiftLeft_eq_zero (by omega), BitVec.shiftLeft_eq_zero (by omega)]
  rw [e]
def topB (x : BitVec 32) (P : Nat) : Bool := x.getLsbD 31 && (x <<< P == 0#32)
def isMapB (m : List (BitVec 32)) (n : Nat) : Bool := decide (m.length = mwN n) && topB (m.headD 0#32) (2 ^ n)
theorem isMapB_cons (x : BitVec 32) (t : List (BitVec 32)) (n : Nat) : isMapB (x :: t) n = (decide ((x :: t).length = mwN n) && topB x (2 ^ n)) := rfl
set_option maxRecDepth 100000 in
theorem beginsMap_any (x : BitVec 32) (n : Nat) (w : World) (h : n ≤ 24) :
    Calls Try.prog 116 #[.int .u32 (uI x), .int .i64 (n : Int)] w fun e w' => e = .returned (.bool (topB x (2 ^ n))) ∧ w' = w := by
  have hs1 := sh64u n h
  obtain ⟨P, hP⟩ : ∃ P : Nat, P = 2 ^ n := ⟨_, rfl⟩
  rw [← hP] at hs1 ⊢
  have hs2 := sh32u x P
  have hh := hi32 x
  clear h hP
  unfold topB
  cases g : x.getLsbD 31 with
  | true =>
    rw [g] at hh
    simp only [if_true] at hh
    by_cases hz : x <<< P = 0#32
    · have hz' : (x <<< P == 0#32) = true := by rw [hz]; rfl
      rw [hz']
      rw [hz, uI_zero] at hs2
      clear hz g hz'
      go_enter Try.func116, Try.ntmps116
      go_wp2
      go_ret
      exact ⟨rfl, rfl⟩
    · have hz' : (x <<< P == 0#32) = false := by simpa using hz
      rw [hz']
      obtain ⟨Y, hY⟩ : ∃ Y, Y = uI (x <<< P) := ⟨_, rfl⟩
      have hY0 : (Y == 0) = false := by
        rw [hY]; simp only [beq_eq_false_iff_ne]
        exact fun e => hz ((uI_is0 _).1 e)
      rw [← hY] at hs2
      clear hz g hz' hY
      go_enter Try.func116, Try.ntmps116
      go_wp2
      go_ret
      exact ⟨rfl, rfl⟩
  | false =>
    rw [g] at hh
    replace hh : uI x / 2147483648 = 0 := hh
    clear hs2 hs1 g
    go_enter Try.func116, Try.ntmps116
    go_wp2
    go_ret
    exact ⟨rfl, rfl⟩
end Go.Proofs.Ytjgpbahglkaijaa
namespace Go.Proofs.Ytjgpbahglkaijaa
open Go.RowKit
set_option linter.unusedSimpArgs false
set_option linter.unusedVariables false

def chkE (op n : Int) (m : List (BitVec 32)) : Int :=
  if isOp op = true then (if (decide (kLo op ≤ n) && decide (n ≤ kHi op)) = true then (if op = 2 then (if isMapB m n.toNat = true then 0 else 25) else if m = [] then 0 else 25) else 1) else 24
def AtI (w : World) (B : Nat) (op n : Int) (v : Value) : Prop := w.cell? ⟨B, 0, none⟩ = some (.int .i64 op) ∧ w.cell? ⟨B, 1, none⟩ = some (.int .i64 n) ∧ w.cell? ⟨B, 2, none⟩ = some v
theorem AtI.below {w w' : World} {B : Nat} {op n : Int} {v : Value} (h : AtI w B op n v) (hb : Below w.heap.size w w') : AtI w' B op n v := ⟨keepc hb h.1, keepc hb h.2.1, keepc hb h.2.2⟩
theorem ati_new (w : World) (op n : Int) (v : Value) (T : TypeId) : AtI (w.alloc (.cells #[.int .i64 op, .int .i64 n, v] T)) w.heap.size op n v := by
  refine ⟨?_, ?_, ?_⟩ <;> simp [go_sem]
end Go.Proofs.Ytjgpbahglkaijaa
namespace Go.Proofs.Ytjgpbahglkaijaa
open Go.RowKit
set_option linter.unusedSimpArgs false
set_option linter.unusedVariables false

theorem numN_snoc (l : List Nat) (b : Nat) : numN13 (l ++ [b]) = numN13 l * 256 + b := by unfold numN13; rw [List.foldl_append]; rfl
theorem fold_lt (l : List Nat) (h : ∀ b ∈ l, b < 256) : ∀ v, l.foldl (fun v b => v * 256 + b) v < (v + 1) * 256 ^ l.length := by
  induction l with
  | nil => intro v; simp
  | cons b l ih =>
    intro v
    have h1 := ih (fun x hx => h x (by simp [hx])) (v * 256 + b)
    have h2 := h b (by simp)
    rw [List.foldl_cons, List.length_cons, Nat.pow_succ]
    refine Nat.lt_of_lt_of_le h1 ?_
    rw [Nat.mul_comm (256 ^ l.length) 256, ← Nat.mul_assoc]
    exact Nat.mul_le_mul_right _ (by omega)
theorem numN_lt (l : List Nat) (h : ∀ b ∈ l, b < 256) : numN13 l < 256 ^ l.length := by
  have := fold_lt l h 0
  unfold numN13
  omega
set_option maxRecDepth 100000 in
set_option maxHeartbeats 8000000 in
theorem rget13 (v : Value) (l : List Nat) (n K : Int) (k : Nat) (hK : K = (k : Int)) (hk0 : 0 < k) (hk : k ≤ 4) (w : World) (hv : RwX cB w v l) (hl : l.length ≤ 140737488355328) (hx : ∀ b ∈ l, b < 256) (h0 : -9223372036854775808 ≤ n) (h1 : n ≤ 9223372036854775807) :
    Calls Try.prog 50 #[v, .int .i64 n, .int .i64 K] w fun e w' => e = .returned (.tuple #[.int .u32 ((gtN l n k : Nat) : Int), .bool (decide (0 ≤ n ∧ n ≤ (l.length : Int) - k))]) ∧ w' = w := by
  subst hK
  obtain ⟨ao, cc, rfl, hc, hv⟩ := hv
  have hli : (l.length : Int) ≤ 140737488355328 := by omega
  have hki : (k : Int) ≤ 4 := by omega
  unfold gtN
  by_cases h : 0 ≤ n ∧ n ≤ (l.length : Int) - (k : Int)
  · rw [if_pos h, decide_eq_true h]
    obtain ⟨p, rfl⟩ : ∃ p : Nat, n = (p : Int) := ⟨n.toNat, by omega⟩
    rw [Int.toNat_natCast]
    have hp : p + k ≤ l.length := by omega
    obtain ⟨bo, off, rfl, hcell⟩ : ∃ bo off, ao = some ⟨bo, off, none⟩ ∧ ∀ j x, l[j]? = some x → w.cell? ⟨bo, off + j, none⟩ = some (cB x) := by
      rcases hv with h | h
      · rw [h] at hp; simp at hp; omega
      · exact h
    have hpk : wrap64 ((p : Int) + (k : Int)) = (p : Int) + (k : Int) := by unfold wrap64; omega
    have c1 : ¬ (l.length : Int) < (p : Int) := by omega
    have c2 : ¬ (l.length : Int) - (p : Int) < (k : Int) := by omega
    have HX := hid13 hx
    have HC := hid13 hcell
    have HP := hid13 hp
    have HK4 := hid13 hk
    clear h hv hcell hx hc h0 h1 hp hk hk0
    go_enter Try.func50, Try.ntmps50
    go_wp2_with fail
    clear c1 c2
    go_loopg [8, 9] k (fun g a i wr => wr = w ∧ ∃ (q : Nat) (M : Int), q + g = p + k ∧ g ≤ k ∧ i = .int .i64 (q : Int) ∧ a = .int .u32 M ∧ Hid (M = ((numN13 ((l.drop p).take (k - g)) : Nat) : Int)))
    case atStart => exact ⟨rfl, p, 0, rfl, Nat.le_refl _, rfl, rfl, by show _ = _; rw [Nat.sub_self, List.take_zero]; rfl⟩
    case round =>
      obtain ⟨hw, q, M, hq, hgk, rfl, rfl, HM⟩ := hrel
      replace hw := hw.symm
      subst hw
      by_cases hlt : q < p + k
      · have hqi : (q : Int) < (p : Int) + (k : Int) := by omega
        have hql : q < l.length := by have := HP.out; omega
        obtain ⟨b, hb⟩ : ∃ b, l[q]? = some b := ⟨l[q], by simp [hql]⟩
        obtain ⟨B, hB⟩ : ∃ B : Int, B = (b : Int) := ⟨_, rfl⟩
        obtain ⟨m, hm⟩ : ∃ m, m = numN13 ((l.drop p).take (k - gk)) := ⟨_, rfl⟩
        have hMm : M = (m : Int) := by rw [hm]; exact HM.out
        have r1 : w.cell? ⟨bo, off + q, none⟩ = some (.int .u8 B) := by rw [hB]; exact HC.out q b hb
        have hql2 : (q : Int) < (l.length : Int) := by omega
        have hb8 : b < 256 := HX.out b (List.mem_of_getElem? hb)
        have hm3 : m < 16777216 := by
          have h2 := numN_lt ((l.drop p).take (k - gk)) (fun x hx => HX.out x (List.mem_of_mem_drop (List.mem_of_mem_take hx)))
          have h3 : ((l.drop p).take (k - gk)).length ≤ 3 := by rw [List.length_take]; have := HK4.out; omega
          have h4 := Nat.pow_le_pow_right (n := 256) (by omega) h3
          have : 256 ^ 3 = 16777216 := by decide
          omega
        obtain ⟨M2, hM2⟩ : ∃ M2 : Int, M2 = ((m * 256 + b : Nat) : Int) := ⟨_, rfl⟩
        have O1 : bits .or .u32 (M * 256) B = M2 := by rw [hM2]; exact orN32 (m * 256) b 8 (by omega) (by omega) (by omega) _ _ (by omega) hB
        have HM2 : Hid (M2 = ((numN13 ((l.drop p).take (k - (gk - 1))) : Nat) : Int)) := by
          show _ = _
          have e : k - (gk - 1) = (k - gk) + 1 := by omega
          have e2 : (l.drop p)[k - gk]? = some b := by rw [List.getElem?_drop]; rw [← hb]; congr 1; omega
          rw [e, List.take_add_one, e2, Option.toList_some, numN_snoc, ← hm, hM2]
        have hM0 : 0 ≤ M := by omega
        have hM1 : M < 16777216 := by omega
        have hB0 : 0 ≤ B := by omega
        have hB1 : B < 256 := by omega
        have mk : IntKind.i64.wrap ((q : Int) + 1) = (q : Int) + 1 := by rw [IntKind.wrap_i64]; omega
        have HK2 : Hid (gk - 1 < gk ∧ q + 1 + (gk - 1) = p + k ∧ gk - 1 ≤ k) := ⟨by omega, by omega, by omega⟩
        clear hb hm3 HM hq hgk hlt hql hM2 hMm hm hb8 hB
        go_wp2
        go_roundg (gk - 1)
        case measure => exact HK2.out.1
        case rel => exact ⟨rfl, q + 1, M2, HK2.out.2.1, HK2.out.2.2, rfl, rfl, HM2.out⟩
      · have hqi : ¬ (q : Int) < (p : Int) + (k : Int) := by omega
        have HF : Hid (M = ((numN13 ((l.drop p).take k) : Nat) : Int)) := by
          obtain rfl : gk = 0 := by omega
          exact HM.out
        go_wp2_with fail
        exact bodyPost_ret (v := .tuple #[.int .u32 M, .bool true]) (by simp [results, Try.results50, go_sem]) rfl ⟨by rw [HF.out], rfl⟩
  · rw [if_neg h, decide_eq_false h]
    by_cases d0 : n < 0
    · clear h
      go_enter Try.func50, Try.ntmps50
      go_wp2_with fail
      exact bodyPost_ret (v := .tuple #[.int .u32 0, .bool false]) (by simp [results, Try.results50, go_sem]) rfl ⟨rfl, rfl⟩
    · by_cases d1 : (l.length : Int) < n
      · clear h
        go_enter Try.func50, Try.ntmps50
        go_wp2_with fail
        exact bodyPost_ret (v := .tuple #[.int .u32 0, .bool false]) (by simp [results, Try.results50, go_sem]) rfl ⟨rfl, rfl⟩
      · have d2 : (l.length : Int) - n < (k : Int) := by omega
        have mw : IntKind.i64.wrap ((l.length : Int) - n) = (l.length : Int) - n := by rw [IntKind.wrap_i64]; omega
        clear h
        go_enter Try.func50, Try.ntmps50
        go_wp2_with fail
        exact bodyPost_ret (v := .tuple #[.int .u32 0, .bool false]) (by simp [results, Try.results50, go_sem]) rfl ⟨rfl, rfl⟩
end Go.Proofs.Ytjgpbahglkaijaa
