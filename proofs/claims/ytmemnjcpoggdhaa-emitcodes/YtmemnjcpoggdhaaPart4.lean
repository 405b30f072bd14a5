/-
  Part 4 of the proof: 13 texts, one behind the other.
-/
import Derived.Test.YtmemnjcpoggdhaaPart1
import Derived.WalkMore
import Derived.ScopeJumps
import Derived.Test.YtmemnjcpoggdhaaPart3
import Derived.Deep.AppendLies
import Derived.Lib.SlBytesConst
import Derived.Test.YtmemnjcpoggdhaaPart2
import Derived.Laws.IdiomStrings
import Derived.ArgAppend
import Derived.OrdersIn
import Derived.TacticsIn
import Derived.RangeFuncSeq
namespace Go.Proofs.Ytmemnjcpoggdhaa
open Go.RowKit
set_option linter.unusedSimpArgs false
set_option linter.unusedVariables false

def intOf13 : Value → Int | .int _ q => q | _ => 0
def AlI (l : List Nat) (ao : Option Addr) (cc : Nat) (c : BitVec 32) (a' : Act) : Prop := ∃ (k : Nat) (C : BitVec 32) (u6 u7 u8 u9 u10 u11 u12 u13 u14 u15 u16 u17 u18 u19 u20 u21 u22 u23 u24 u25 u26 u27 u28 u29 u30 u31 u32 u33 : Value), a' = { tmps := #[.int .u32 (uI C), .slice ao l.length cc, undef, undef, .int .u32 0, .int .i64 (k : Int), u6, u7, u8, u9, u10, u11, u12, u13, u14, u15, u16, u17, u18, u19, u20, u21, u22, u23, u24, u25, u26, u27, u28, u29, u30, u31, u32, u33], defers := [] } ∧ k ≤ l.length ∧ Hid (crF C (l.drop k) = crF c l)
theorem AlI.mk {l : List Nat} {ao : Option Addr} {cc : Nat} {c : BitVec 32} (k : Nat) (C : BitVec 32) (u6 u7 u8 u9 u10 u11 u12 u13 u14 u15 u16 u17 u18 u19 u20 u21 u22 u23 u24 u25 u26 u27 u28 u29 u30 u31 u32 u33 : Value) (hk : k ≤ l.length) (h : Hid (crF C (l.drop k) = crF c l)) : AlI l ao cc c { tmps := #[.int .u32 (uI C), .slice ao l.length cc, undef, undef, .int .u32 0, .int .i64 (k : Int), u6, u7, u8, u9, u10, u11, u12, u13, u14, u15, u16, u17, u18, u19, u20, u21, u22, u23, u24, u25, u26, u27, u28, u29, u30, u31, u32, u33], defers := [] } := ⟨k, C, u6, u7, u8, u9, u10, u11, u12, u13, u14, u15, u16, u17, u18, u19, u20, u21, u22, u23, u24, u25, u26, u27, u28, u29, u30, u31, u32, u33, rfl, hk, h⟩
end Go.Proofs.Ytmemnjcpoggdhaa
namespace Go.Proofs.Ytmemnjcpoggdhaa
open Go.RowKit
set_option linter.unusedSimpArgs false
set_option linter.unusedVariables false

def setP (U : List (BitVec 32)) (k : Nat) : List (BitVec 32) := U.set (k / 32) (U.getD (k / 32) 0#32 ||| (cOne >>> (k % 32)))
section
variable {α : Type} [DecidableEq α]
end
end Go.Proofs.Ytmemnjcpoggdhaa
namespace Go.Proofs.Ytmemnjcpoggdhaa
open Go.RowKit
set_option linter.unusedSimpArgs false
set_option linter.unusedVariables false

structure FoI (w W : World) (nw : Nat) (vf : Value) (U : List (BitVec 32)) (R : List Int) : Prop where
  b : Below w.heap.size w W
  m : W.ownsRow w.heap.size 126 1 (.slice (some ⟨w.heap.size, 0, none⟩) nw nw) nw (U.map cU)
  r : W.ownsRow (w.heap.size + 1) 3 1 vf R.length (R.map cI)
  s : w.heap.size + 1 ≤ W.heap.size
section
variable {w W W' : World} {nw : Nat} {vf : Value} {U : List (BitVec 32)} {R : List Int}
theorem FoI.below (h : FoI w W nw vf U R) (hb : Below W.heap.size W W') : FoI w W' nw vf U R :=
  ⟨keepb hb h.b, own_b13 hb h.m, own_b13 hb h.r, Nat.le_trans h.s hb.size⟩
theorem FoI.ul (h : FoI w W nw vf U R) : U.length = nw := by have := h.m.1; simpa using this
theorem FoI.cell (h : FoI w W nw vf U R) (k : Nat) (hk : k / 32 < nw) : W.cell? ⟨w.heap.size, k / 32, none⟩ = some (.int .u32 (uI (U.getD (k / 32) 0#32))) ∧ W.frozen? ⟨w.heap.size, k / 32, none⟩ = false := by
  have hl := h.ul
  refine ⟨?_, h.m.frozenAt _⟩
  rw [h.m.cellAt (k / 32) (by omega), List.getElem?_map, List.getD_eq_getElem?_getD, List.getElem?_eq_getElem (by omega)]
  rfl
theorem FoI.set (h : FoI w W nw vf U R) (k : Nat) (hk : k / 32 < nw) : FoI w (W.setCell ⟨w.heap.size, k / 32, none⟩ (.int .u32 (uI (U.getD (k / 32) 0#32 ||| (cOne >>> (k % 32)))))).drew nw vf (setP U k) R := by
  have hs := (h.m.stored (k / 32) (.int .u32 (uI (U.getD (k / 32) 0#32 ||| (cOne >>> (k % 32)))))).1
  have e : (setP U k).map cU = (U.map cU).set (k / 32) (.int .u32 (uI (U.getD (k / 32) 0#32 ||| (cOne >>> (k % 32))))) := by
    unfold setP
    rw [List.map_set]; rfl
  refine ⟨(h.b.setCell (Nat.le_refl _) _).drew, ?_, ?_, ?_⟩
  · rw [e]; exact own_b13 (below_drewN (Below.refl _ _) 1) hs
  · exact own_b13 (below_drewN (Below.refl _ _) 1) (ownsRow_setCell_below h.r (Nat.lt_succ_self _) _)
  · have : (W.setCell ⟨w.heap.size, k / 32, none⟩ (.int .u32 (uI (U.getD (k / 32) 0#32 ||| (cOne >>> (k % 32)))))).drew.heap.size = W.heap.size := by simp [World.setCell, World.drew]
    rw [this]; exact h.s
theorem FoI.grown (h : FoI w W nw vf U R) {v' : Value} {x : Int} (ho : W'.ownsRow (w.heap.size + 1) 3 1 v' (R.length + 1) (R.map cI ++ [cI x])) (hg : W.grownBy W' vf.ownBlock) : FoI w W' nw v' U (R ++ [x]) := by
  refine ⟨h.b.grown hg (by have := h.s; omega) (fun k e => by have := (h.r.lt k e).1; omega), h.m.kept hg ?_, ?_, Nat.le_trans h.s hg.size⟩
  · cases e : vf.ownBlock with
    | none => exact .inr (by simp [Value.ownBlock])
    | some k => exact .inr (by have := (h.r.lt k e).1; simp only [Value.ownBlock, ne_eq, Option.some.injEq]; omega)
  · rw [List.length_append, List.map_append]
    exact ho
end
end Go.Proofs.Ytmemnjcpoggdhaa
namespace Go.Proofs.Ytmemnjcpoggdhaa
open Go.RowKit
set_option linter.unusedSimpArgs false
set_option linter.unusedVariables false

theorem lit_rwx {α : Type} {f : α → Value} (w : World) (cs : Array Value) (T : TypeId) (fr : Nat × Nat) (l : List α) (h : cs.toList = l.map f) : RwX f (w.alloc (.cells cs T fr)) (.slice (some ⟨w.heap.size, 0, none⟩) l.length l.length) l := by
  refine ⟨_, _, rfl, Nat.le_refl _, .inr ⟨w.heap.size, 0, rfl, fun j x hj => ?_⟩⟩
  have e : (w.alloc (.cells cs T fr)).heap[w.heap.size]? = some (.cells cs T fr) := by
    show (w.heap.push _)[w.heap.size]? = _
    simp
  have hc : cs[j]? = some (f x) := by
    rw [← Array.getElem?_toList, h, List.getElem?_map, hj]; rfl
  rw [Nat.zero_add]
  rw [cell_of_row _ _ _ _ _ _ e]; exact hc
end Go.Proofs.Ytmemnjcpoggdhaa
namespace Go.Proofs.Ytmemnjcpoggdhaa
open Go.RowKit
set_option linter.unusedSimpArgs false
set_option linter.unusedVariables false

structure QW (P : Program) (ops : Array Oper) (C : World → Prop) (Q : Act → Prop) (l : List Oper) (a : Act) : Prop where
  out : wpQuiet P ops C Q l a
theorem qw_run {P : Program} {ops : Array Oper} {C : World → Prop} {Q : Act → Prop} {a : Act} {o : Oper} {rest : List Oper} {v : Value}
    (hw : Region.wanted o (yielded ops a.tmps) = true) (h : ∀ w, C w → (execOp a.eval o).run P w = .ok (.value v) w) (k : QW P ops C Q rest (a.put o.dst v)) : QW P ops C Q (o :: rest) a := ⟨q_run hw h k.out⟩
theorem qw_skip {P : Program} {ops : Array Oper} {C : World → Prop} {Q : Act → Prop} {a : Act} {o : Oper} {rest : List Oper}
    (hw : Region.wanted o (yielded ops a.tmps) = false) (k : QW P ops C Q rest (a.put o.dst undef)) : QW P ops C Q (o :: rest) a := ⟨q_skip hw k.out⟩
theorem qw_call {P : Program} {ops : Array Oper} {C : World → Prop} {Q : Act → Prop} {a : Act} {o : Oper} {rest : List Oper} {v : Value} {f : FuncId} {args : Array Value}
    (hw : Region.wanted o (yielded ops a.tmps) = true) (h : ∀ w, C w → (execOp a.eval o).run P w = .ok (.enter f args) w) (hc : ∀ w, C w → Calls P f args w fun e w' => e = .returned v ∧ C w') (k : QW P ops C Q rest (a.put o.dst v)) : QW P ops C Q (o :: rest) a := ⟨q_call hw h hc k.out⟩
theorem qw_nil {P : Program} {ops : Array Oper} {C : World → Prop} {Q : Act → Prop} {a : Act} (h : Q a) : QW P ops C Q [] a := ⟨wpQuiet_nil h⟩
theorem qw_region {P : Program} {C : World → Prop} {id : Nat} {Q : Exit → Act → World → Prop} {a : Act} {w : World} {l : List Oper} (hm : P.follows .mixedOrders = true) (hB : Region.lexB .any l.toArray = true) (hC : C w.drew)
    (h : QW P l.toArray C (fun a' => ∀ w', C w' → Q .normal a' w') l a) : (Code.region id l.toArray true).wp P Q a w := q_region hm hB hC h.out
end Go.Proofs.Ytmemnjcpoggdhaa
namespace Go.Proofs.Ytmemnjcpoggdhaa
open Go.RowKit
set_option linter.unusedSimpArgs false
set_option linter.unusedVariables false

def by4 (n : Nat) : List Nat := [n / 16777216, n / 65536 % 256, n / 256 % 256, n % 256]
theorem own_wide13 {w : World} {base base' e size n : Nat} {v : Value} {xs : List Value} (h : w.ownsRow base e size v n xs) (hb : base' ≤ base) : w.ownsRow base' e size v n xs := by
  refine ⟨h.1, ?_⟩
  rcases h.2 with hn | ⟨g, cap, cur, hv, h1, h2⟩
  · exact .inl hn
  · exact .inr ⟨g, cap, cur, hv, by omega, h2⟩
set_option maxRecDepth 100000 in
set_option maxHeartbeats 4000000 in
theorem put32_any (v : Value) (l : List Nat) (n : Nat) (w : World) (hA : RowA w 1 v l.length (l.map cB)) (hl : l.length ≤ 140737488355000) (hn : n < 4294967296) :
    Calls Try.prog 120 #[v, .int .u32 (n : Int)] w fun e w' => ∃ v', e = .returned v' ∧ w'.ownsRow w.heap.size 5 1 v' (l ++ by4 n).length ((l ++ by4 n).map cB) ∧ Below w.heap.size w w' := by
  have hn1 : (n : Int) < 4294967296 := by omega
  obtain ⟨-, vo, vc, hvf, -⟩ := id hA
  have q1 := bl1 w (.cells #[.int .u8 ((n : Int) / 16777216), .int .u8 ((n : Int) / 65536 % 256), .int .u8 ((n : Int) / 256 % 256), .int .u8 ((n : Int) % 256)] 5)
  have r1 := World.ownsRow_lit (base := w.heap.size) (e := 5) (size := 1) w #[.int .u8 ((n : Int) / 16777216), .int .u8 ((n : Int) / 65536 % 256), .int .u8 ((n : Int) / 256 % 256), .int .u8 ((n : Int) % 256)] 4 (Nat.le_refl _) (by unfold maxLen; omega) rfl
  obtain ⟨w1, hw1⟩ : ∃ w1, w1 = w.alloc (.cells #[.int .u8 ((n : Int) / 16777216), .int .u8 ((n : Int) / 65536 % 256), .int .u8 ((n : Int) / 256 % 256), .int .u8 ((n : Int) % 256)] 5) := ⟨_, rfl⟩
  have e1 : w1.heap.size = w.heap.size + 1 := by rw [hw1]; simp
  rw [← hw1] at q1 r1
  have r1' : RowA w1 1 (.slice (some ⟨w.heap.size, 0, none⟩) 4 4) (by4 n).length ((by4 n).map cB) := by
    obtain ⟨h1, ao, c, h2, h3, h4⟩ := own_row r1
    have e : (#[.int .u8 ((n : Int) / 16777216), .int .u8 ((n : Int) / 65536 % 256), .int .u8 ((n : Int) / 256 % 256), .int .u8 ((n : Int) % 256)] : Array Value).toList = (by4 n).map cB := by unfold by4 cB; simp
    rw [e] at h1 h4
    refine ⟨h1, ao, c, h2, h3, ?_⟩
    rcases h4 with h4 | ⟨b, off, h5, h6⟩
    · exact .inl h4
    · exact .inr ⟨_, h5, fun j u hj => by rw [addA]; exact h6 j u hj⟩
  have q2 := bl1 w1 (.cells #[v, .slice (some ⟨w.heap.size, 0, none⟩) 4 4] 39)
  have r2 := lit_rwx (f := fun p : Value × List Nat => p.1) w1 #[v, .slice (some ⟨w.heap.size, 0, none⟩) 4 4] 39 (0, 0) [(v, l), (.slice (some ⟨w.heap.size, 0, none⟩) 4 4, by4 n)] rfl
  rw [e1] at r2
  have HC := concat13 _ _ _ r2 (by
    intro p hp
    simp only [List.mem_cons, List.mem_nil_iff, or_false] at hp
    rcases hp with rfl | rfl
    · exact (hA.below q1).below q2
    · exact r1'.below q2) (by show 2 ≤ 1000; decide) (by
      show (l ++ (by4 n ++ [])).length ≤ _
      rw [List.append_nil, List.length_append]
      show l.length + 4 ≤ _
      omega)
  have ha : allB [(v, l), (.slice (some ⟨w.heap.size, 0, none⟩) 4 4, by4 n)] = l ++ by4 n := by
    show l ++ (by4 n ++ []) = _
    rw [List.append_nil]
  rw [ha] at HC
  have hb2 := keepb q2 q1
  rw [hw1] at HC hb2
  obtain ⟨Z, hZ⟩ : ∃ Z, Z = l ++ by4 n := ⟨_, rfl⟩
  rw [← hZ] at HC ⊢
  have HC' := hid13 HC
  have HB2 := hid13 hb2
  have hsz : Hid (w.heap.size ≤ ((w.alloc (.cells #[.int .u8 ((n : Int) / 16777216), .int .u8 ((n : Int) / 65536 % 256), .int .u8 ((n : Int) / 256 % 256), .int .u8 ((n : Int) % 256)] 5)).alloc (.cells #[v, .slice (some ⟨w.heap.size, 0, none⟩) 4 4] 39)).heap.size) := hb2.size
  clear q1 q2 r1 r1' r2 HC ha hb2 hw1 e1 hA w1 hZ hn
  obtain ⟨N, hN⟩ : ∃ N : Int, N = (n : Int) := ⟨_, rfl⟩
  have hN0 : 0 ≤ N := by omega
  rw [← hN] at HC' HB2 hsz hn1 ⊢
  have hq : N / 16777216 < 256 := by omega
  have hq0 : 0 ≤ N / 16777216 := by omega
  clear hN
  rw [hvf] at HC' HB2 hsz ⊢
  clear hvf
  go_enter Try.func120, Try.ntmps120
  go_wp2_with fail
  refine HC'.out.mono ?_
  rintro e w3 ⟨v3, rfl, hown, hb3⟩
  have HO := hid13 (own_wide13 hown hsz.out)
  have HB3 := hid13 (keepb hb3 HB2.out)
  clear hown hb3 HC'
  go_wp2
  go_ret
  exact ⟨_, rfl, HO.out, HB3.out⟩
theorem orN32 (A B i : Nat) (hA : A % 2 ^ i = 0) (hB : B < 2 ^ i) (h : A + B < 4294967296) (x y : Int) (hx : x = (A : Int)) (hy : y = (B : Int)) : bits .or .u32 x y = ((A + B : Nat) : Int) := by
  subst hx hy
  unfold bits
  simp only [IntKind.bits]
  have e : (BitVec.ofInt 32 (A : Int) ||| BitVec.ofInt 32 (B : Int)).toNat = A + B := by
    rw [BitVec.toNat_or]
    have e1 : (BitVec.ofInt 32 (A : Int)).toNat = A := by rw [BitVec.toNat_ofInt]; omega
    have e2 : (BitVec.ofInt 32 (B : Int)).toNat = B := by rw [BitVec.toNat_ofInt]; omega
    rw [e1, e2]
    have e3 : A = (A / 2 ^ i) <<< i := by
      rw [Nat.shiftLeft_eq]
      have := Nat.div_add_mod A (2 ^ i)
      rw [hA, Nat.mul_comm] at this
      omega
    rw [e3, ← Nat.shiftLeft_add_eq_or_of_lt hB]
  show IntKind.wrap .u32 (((BitVec.ofInt 32 (A : Int) ||| BitVec.ofInt 32 (B : Int)).toNat : Nat) : Int) = _
  rw [e]
  simp [IntKind.wrap, IntKind.bits, IntKind.signed]
  omega
end Go.Proofs.Ytmemnjcpoggdhaa
namespace Go.Proofs.Ytmemnjcpoggdhaa
open Go.RowKit
set_option linter.unusedSimpArgs false
set_option linter.unusedVariables false

def bsA (l : List Nat) : ByteArray := ⟨(l.map UInt8.ofNat).toArray⟩
theorem conv13 {W : World} {v : Value} {l : List Nat} (h : RwX cB W v l) (hb : ∀ b ∈ l, b < 256) : (convert 39 9 v).run Try.prog W = .ok (.string (bsA l)) W := by
  obtain ⟨ao, c, rfl, -, h⟩ := h
  by_cases hz : l = []
  · subst hz
    cases ao with
    | none =>
      rw [run_convert_bytes_string W 39 9 5 none _ _ Try.underlying39 Try.underlying5 Try.underlying9]
      rfl
    | some a =>
      exact run_convert_bytes_back W 39 9 5 a c [] Try.underlying39 Try.underlying5 Try.underlying9 (fun j hj => absurd hj (Nat.not_lt_zero _))
  · rcases h with h | ⟨b, off, rfl, h⟩
    · exact absurd h hz
    · have := run_convert_bytes_back (P := Try.prog) W 39 9 5 ⟨b, off, none⟩ c (l.map UInt8.ofNat) Try.underlying39 Try.underlying5 Try.underlying9 (fun j hj => by
        have hj' : j < l.length := by simpa using hj
        rw [addA, h j l[j] (by simp [hj'])]
        have hlt := hb l[j] (List.getElem_mem hj')
        rw [List.getElem_map]
        unfold cB
        rw [UInt8.toNat_ofNat', Nat.mod_eq_of_lt hlt])
      rw [List.length_map] at this
      exact this
theorem by4_lt (n : Nat) (h : n < 4294967296) : ∀ b ∈ by4 n, b < 256 := by
  intro b hb
  unfold by4 at hb
  simp only [List.mem_cons, List.mem_nil_iff, or_false] at hb
  omega
end Go.Proofs.Ytmemnjcpoggdhaa
namespace Go.Proofs.Ytmemnjcpoggdhaa
open Go.RowKit
set_option linter.unusedSimpArgs false
set_option linter.unusedVariables false

def kLo (op : Int) : Int := if op = 4 then 0 else 1
def kHi (op : Int) : Int := if op = 3 then 16777215 else if op = 4 then 65535 else 24
def kRm (op : Int) : Int := if op = 3 then 16777215 else if op = 4 then 65535 else 255
def isOp (op : Int) : Bool := decide (1 ≤ op) && decide (op ≤ 4)
def kindV (op : Int) : Value := if isOp op then .agg #[.int .i64 (kLo op), .int .i64 (kHi op), .int .i64 (kRm op), .bool (op == 2)] else .agg #[.int .i64 0, .int .i64 0, .int .i64 0, .bool false]
theorem kindV_op {op : Int} (h : isOp op = true) : kindV op = .agg #[.int .i64 (kLo op), .int .i64 (kHi op), .int .i64 (kRm op), .bool (op == 2)] := by unfold kindV; rw [if_pos h]
theorem kindV_no {op : Int} (h : isOp op = false) : kindV op = .agg #[.int .i64 0, .int .i64 0, .int .i64 0, .bool false] := by unfold kindV; rw [if_neg (by rw [h]; decide)]
theorem isOp_cases {op : Int} (h : isOp op = true) : op = 1 ∨ op = 2 ∨ op = 3 ∨ op = 4 := by
  unfold isOp at h; simp at h; omega
theorem isOp_none {op : Int} (h : isOp op = false) : op ≠ 1 ∧ op ≠ 2 ∧ op ≠ 3 ∧ op ≠ 4 := by
  refine ⟨?_, ?_, ?_, ?_⟩ <;> (rintro rfl; revert h; decide)
set_option maxRecDepth 100000 in
theorem kindOf_1 (w : World) :
    Calls Try.prog 121 #[.int .i64 1] w fun e w' => e = .returned (.tuple #[.agg #[.int .i64 1, .int .i64 24, .int .i64 255, .bool false], .bool true]) ∧ Below w.heap.size w w' := by
  go_enter Try.func121, Try.ntmps121
  go_wp2
  exact bodyPost_ret (v := .tuple #[.agg #[.int .i64 1, .int .i64 24, .int .i64 255, .bool false], .bool true]) (by simp [results, Try.results121, go_sem]) rfl ⟨rfl, keepb (bl1 _ _) (bl1 _ _)⟩
set_option maxRecDepth 100000 in
theorem kindOf_2 (w : World) :
    Calls Try.prog 121 #[.int .i64 2] w fun e w' => e = .returned (.tuple #[.agg #[.int .i64 1, .int .i64 24, .int .i64 255, .bool true], .bool true]) ∧ Below w.heap.size w w' := by
  go_enter Try.func121, Try.ntmps121
  go_wp2
  exact bodyPost_ret (v := .tuple #[.agg #[.int .i64 1, .int .i64 24, .int .i64 255, .bool true], .bool true]) (by simp [results, Try.results121, go_sem]) rfl ⟨rfl, keepb (bl1 _ _) (bl1 _ _)⟩
set_option maxRecDepth 100000 in
theorem kindOf_3 (w : World) :
    Calls Try.prog 121 #[.int .i64 3] w fun e w' => e = .returned (.tuple #[.agg #[.int .i64 1, .int .i64 16777215, .int .i64 16777215, .bool false], .bool true]) ∧ Below w.heap.size w w' := by
  go_enter Try.func121, Try.ntmps121
  go_wp2
  exact bodyPost_ret (v := .tuple #[.agg #[.int .i64 1, .int .i64 16777215, .int .i64 16777215, .bool false], .bool true]) (by simp [results, Try.results121, go_sem]) rfl ⟨rfl, keepb (bl1 _ _) (bl1 _ _)⟩
set_option maxRecDepth 100000 in
theorem kindOf_4 (w : World) :
    Calls Try.prog 121 #[.int .i64 4] w fun e w' => e = .returned (.tuple #[.agg #[.int .i64 0, .int .i64 65535, .int .i64 65535, .bool false], .bool true]) ∧ Below w.heap.size w w' := by
  go_enter Try.func121, Try.ntmps121
  go_wp2
  exact bodyPost_ret (v := .tuple #[.agg #[.int .i64 0, .int .i64 65535, .int .i64 65535, .bool false], .bool true]) (by simp [results, Try.results121, go_sem]) rfl ⟨rfl, keepb (bl1 _ _) (bl1 _ _)⟩
set_option maxRecDepth 100000 in
theorem kindOf_none (op : Int) (h1 : op ≠ 1) (h2 : op ≠ 2) (h3 : op ≠ 3) (h4 : op ≠ 4) (w : World) :
    Calls Try.prog 121 #[.int .i64 op] w fun e w' => e = .returned (.tuple #[.agg #[.int .i64 0, .int .i64 0, .int .i64 0, .bool false], .bool false]) ∧ Below w.heap.size w w' := by
  go_enter Try.func121, Try.ntmps121
  go_wp2
  exact bodyPost_ret (v := .tuple #[.agg #[.int .i64 0, .int .i64 0, .int .i64 0, .bool false], .bool false]) (by simp [results, Try.results121, go_sem]) rfl ⟨rfl, keepb (bl1 _ _) (bl1 _ _)⟩
theorem kindOf_any (op : Int) (w : World) :
    Calls Try.prog 121 #[.int .i64 op] w fun e w' => e = .returned (.tuple #[kindV op, .bool (isOp op)]) ∧ Below w.heap.size w w' := by
  cases h : isOp op with
  | true =>
    rcases isOp_cases h with rfl | rfl | rfl | rfl
    · exact kindOf_1 w
    · exact kindOf_2 w
    · exact kindOf_3 w
    · exact kindOf_4 w
  | false =>
    obtain ⟨h1, h2, h3, h4⟩ := isOp_none h
    rw [kindV_no h]
    exact kindOf_none op h1 h2 h3 h4 w
theorem takes_any (a b c : Int) (d : Bool) (n : Int) (w : World) :
    Calls Try.prog 122 #[.agg #[.int .i64 a, .int .i64 b, .int .i64 c, .bool d], .int .i64 n] w fun e w' => e = .returned (.bool (decide (a ≤ n) && decide (n ≤ b))) ∧ Below w.heap.size w w' := by
  have HB := hid13 (bl1 w (.cells #[.int .i64 a, .int .i64 b, .int .i64 c, .bool d] 188))
  by_cases h : a ≤ n
  · rw [decide_eq_true h]
    go_enter Try.func122, Try.ntmps122
    go_wp2
    go_ret
    exact ⟨rfl, HB.out⟩
  · rw [decide_eq_false h]
    go_enter Try.func122, Try.ntmps122
    go_wp2
    go_ret
    exact ⟨rfl, HB.out⟩
def mwN (n : Nat) : Nat := if n < 5 then 1 else 2 ^ (n - 5)
theorem sh64 (n : Nat) (h : n ≤ 24) : Op.shift .shl .i64 1 .i64 (n : Int) = pure (.int .i64 ((2 ^ n : Nat) : Int)) := by
  rw [shift_shl_any .i64 .i64 1 _ (by omega)]
  have : ∀ m : Fin 25, IntKind.i64.wrap (1 * 2 ^ min ((m.val : Nat) : Int).toNat IntKind.i64.bits) = ((2 ^ m.val : Nat) : Int) := by decide +kernel
  exact congrArg (fun z => pure (Value.int .i64 z)) (this ⟨n, by omega⟩)
theorem mwN_max (n : Nat) (h : n ≤ 24) : mwN n = max 1 (2 ^ n / 32) := by
  have : ∀ m : Fin 25, mwN m.val = max 1 (2 ^ m.val / 32) := by decide +kernel
  exact this ⟨n, by omega⟩
theorem mwN_lo (n : Nat) : 1 ≤ mwN n := by
  unfold mwN; split
  · exact Nat.le_refl _
  · exact Nat.one_le_two_pow
theorem mwN_hi (n : Nat) (h : n ≤ 24) : mwN n ≤ 524288 := by
  have : ∀ m : Fin 25, mwN m.val ≤ 524288 := by decide +kernel
  exact this ⟨n, by omega⟩
theorem mapWords_any (n : Nat) (h : n ≤ 24) (w : World) :
    Calls Try.prog 126 #[.int .i64 (n : Int)] w fun e w' => e = .returned (.int .i64 (mwN n : Int)) ∧ w' = w := by
  have hs := sh64 n h
  obtain ⟨P, hP⟩ : ∃ P : Nat, P = 2 ^ n := ⟨_, rfl⟩
  have hm : mwN n = max 1 (P / 32) := by rw [hP]; exact mwN_max n h
  rw [← hP] at hs
  rw [hm]
  have hPl : P ≤ 16777216 := by rw [hP]; exact Nat.pow_le_pow_right (n := 2) (by decide) h
  clear hP hm h
  by_cases c : P < 32
  · have e : Hid (max 1 (P / 32) = 1) := by show _ = _; omega
    have c1 : (P : Int) / 32 ≤ 1 := by omega
    rw [e.out]
    go_enter Try.func126, Try.ntmps126
    go_wp2
    go_ret
    exact ⟨rfl, rfl⟩
  · obtain ⟨q, hq⟩ : ∃ q, q = P / 32 := ⟨_, rfl⟩
    have e : Hid (max 1 (P / 32) = q) := by show _ = _; omega
    have e1 : (P : Int) / 32 = (q : Int) := by omega
    have c1 : (1 : Int) ≤ q := by omega
    have c2 : ((1 : Int) < (q : Int)) ∨ q = 1 := by omega
    have wq : wrap64 (q : Int) = (q : Int) := by unfold wrap64; omega
    rw [e.out]
    clear e hq c c2
    go_enter Try.func126, Try.ntmps126
    go_wp2
    · go_ret
      exact ⟨rfl, rfl⟩
    · go_ret
      obtain rfl : q = 1 := by omega
      exact ⟨rfl, rfl⟩
theorem hi32 (x : BitVec 32) : uI x / 2147483648 = if x.getLsbD 31 then 1 else 0 := by
  rw [uI_eq]
  have h1 := x.isLt
  have h2 : x.getLsbD 31 = decide (2147483648 ≤ x.toNat) := by
    rw [BitVec.getLsbD, Nat.testBit_eq_decide_div_mod_eq]
    have e : (2 : Nat) ^ 31 = 2147483648 := by decide
    rw [e]
    congr 1
    apply propext
    omega
  rw [h2]
  by_cases c : 2147483648 ≤ x.toNat
  · rw [decide_eq_true c, if_pos rfl]; omega
  · rw [decide_eq_false c, if_neg (by decide)]; omega
theorem sh64u (n : Nat) (h : n ≤ 24) : Op.shift .shl .u64 1 .i64 (n : Int) = pure (.int .u64 ((2 ^ n : Nat) : Int)) := by
  rw [shift_shl_any .u64 .i64 1 _ (by omega)]
  have : ∀ m : Fin 25, IntKind.u64.wrap (1 * 2 ^ min ((m.val : Nat) : Int).toNat IntKind.u64.bits) = ((2 ^ m.val : Nat) : Int) := by decide +kernel
  exact congrArg (fun z => pure (Value.int .u64 z)) (this ⟨n, by omega⟩)
theorem sh32u (x : BitVec 32) (P : Nat) : Op.shift .shl .u32 (uI x) .u64 (P : Int) = pure (.int .u32 (uI (x <<< P))) := by
  rw [shift_shl_any .u32 .u64 _ _ (by omega), Int.toNat_natCast]
  have hb : IntKind.u32.bits = 32 := rfl
  rw [hb]
  obtain ⟨k, hk⟩ : ∃ k, k = min P 32 := ⟨_, rfl⟩
  rw [← hk]
  have hw : ∀ z : Int, 0 ≤ z → IntKind.u32.wrap z = z % 4294967296 := by intro z hz; simp [IntKind.wrap, IntKind.bits, IntKind.signed]
  have hz : (0 : Int) ≤ uI x * 2 ^ k := Int.mul_nonneg (uI_lo x) (by have : (0:Int) < 2 ^ k := Int.pow_pos (by decide); omega)
  rw [hw _ hz, shl32]
  have e : x <<< k = x <<< P := by
    by_cases c : P ≤ 32
    · rw [hk, Nat.min_eq_left c]
    · rw [BitVec.shiftLeft_eq_zero (by omega), BitVec.shiftLeft_eq_zero (by omega)]
  rw [e]
def topB (x : BitVec 32) (P : Nat) : Bool := x.getLsbD 31 && (x <<< P == 0#32)
def isMapB (m : List (BitVec 32)) (n : Nat) : Bool := decide (m.length = mwN n) && topB (m.headD 0#32) (2 ^ n)
theorem isMapB_cons (x : BitVec 32) (t : List (BitVec 32)) (n : Nat) : isMapB (x :: t) n = (decide ((x :: t).length = mwN n) && topB x (2 ^ n)) := rfl
set_option maxRecDepth 100000 in
theorem beginsMap_any (x : BitVec 32) (n : Nat) (w : World) (h : n ≤ 24) :
    Calls Try.prog 127 #[.int .u32 (uI x), .int .i64 (n : Int)] w fun e w' => e = .returned (.bool (topB x (2 ^ n))) ∧ w' = w := by
  have hs1 := sh64u n h
  obtain ⟨P, hP⟩ : ∃ P : Nat, P = 2 ^ n := ⟨_, rfl⟩
  rw [← hP] at hs1 ⊢
  have hs2 := sh32u x P
  have hh := hi32 x
  clear h hP
  unfold topB
  cases g : x.getLsbD 31 with
  | true =>
    rw [g] at hh
    simp only [if_true] at hh
    by_cases hz : x <<< P = 0#32
    · have hz' : (x <<< P == 0#32) = true := by rw [hz]; rfl
      rw [hz']
      rw [hz, uI_zero] at hs2
      clear hz g hz'
      go_enter Try.func127, Try.ntmps127
      go_wp2
      go_ret
      exact ⟨rfl, rfl⟩
    · have hz' : (x <<< P == 0#32) = false := by simpa using hz
      rw [hz']
      obtain ⟨Y, hY⟩ : ∃ Y, Y = uI (x <<< P) := ⟨_, rfl⟩
      have hY0 : (Y == 0) = false := by
        rw [hY]; simp only [beq_eq_false_iff_ne]
        exact fun e => hz ((uI_is0 _).1 e)
      rw [← hY] at hs2
      clear hz g hz' hY
      go_enter Try.func127, Try.ntmps127
      go_wp2
      go_ret
      exact ⟨rfl, rfl⟩
  | false =>
    rw [g] at hh
    replace hh : uI x / 2147483648 = 0 := hh
    clear hs2 hs1 g
    go_enter Try.func127, Try.ntmps127
    go_wp2
    go_ret
    exact ⟨rfl, rfl⟩
set_option maxRecDepth 100000 in
set_option maxHeartbeats 4000000 in
theorem isMap_any (v : Value) (m : List (BitVec 32)) (n : Nat) (w : World) (hv : RwX cU w v m) (h : n ≤ 24) :
    Calls Try.prog 123 #[v, .int .i64 (n : Int)] w fun e w' => e = .returned (.bool (isMapB m n)) ∧ Below w.heap.size w w' := by
  have KM := fun w => mapWords_any n h w
  obtain ⟨ao, c, rfl, hc, hr⟩ := hv
  by_cases h1 : m.length = mwN n
  · obtain ⟨x, t, rfl⟩ : ∃ x t, m = x :: t := by
      cases m with
      | nil => have := mwN_lo n; simp at h1; omega
      | cons x t => exact ⟨x, t, rfl⟩
    obtain ⟨b, off, rfl, hcell⟩ : ∃ b off, ao = some ⟨b, off, none⟩ ∧ ∀ j y, (x :: t)[j]? = some y → w.cell? ⟨b, off + j, none⟩ = some (cU y) := by
      rcases hr with h | h
      · cases h
      · exact h
    have c0 : w.cell? ⟨b, off, none⟩ = some (.int .u32 (uI x)) := hcell 0 x rfl
    rw [isMapB_cons, decide_eq_true h1, Bool.true_and]
    have KB := fun w => beginsMap_any x n w h
    obtain ⟨z, hz⟩ : ∃ z, z = topB x (2 ^ n) := ⟨_, rfl⟩
    rw [← hz] at KB ⊢
    obtain ⟨L, hL⟩ : ∃ L, L = (x :: t).length := ⟨_, rfl⟩
    rw [← hL] at h1 ⊢
    have hL0 : (0 : Int) < (L : Int) := by rw [hL]; simp
    rw [← h1] at KM
    clear hcell hr h1 hL hc h hz
    go_enter Try.func123, Try.ntmps123
    go_wp2_with (first | (go_at_call 126; refine (KM _).mono ?_; rintro e w1 ⟨rfl, hw1⟩; replace hw1 := hw1.symm; subst hw1) | (go_at_call 127; refine (KB _).mono ?_; rintro e w1 ⟨rfl, hw1⟩; replace hw1 := hw1.symm; subst hw1))
    go_ret
    exact ⟨rfl, Below.refl _ _⟩
  · have e0 : isMapB m n = false := by unfold isMapB; rw [decide_eq_false h1]; rfl
    rw [e0]
    obtain ⟨L, hL⟩ : ∃ L, L = mwN n := ⟨_, rfl⟩
    rw [← hL] at KM h1
    have h1' : (((m.length : Nat) : Int) == (L : Int)) = false := by simp only [beq_eq_false_iff_ne]; omega
    clear hr hL h1
    go_enter Try.func123, Try.ntmps123
    go_wp2_with (first | (go_at_call 126; refine (KM _).mono ?_; rintro e w1 ⟨rfl, hw1⟩; replace hw1 := hw1.symm; subst hw1) | fail)
    go_ret
    exact ⟨rfl, Below.refl _ _⟩
end Go.Proofs.Ytmemnjcpoggdhaa
namespace Go.Proofs.Ytmemnjcpoggdhaa
open Go.RowKit
set_option linter.unusedSimpArgs false
set_option linter.unusedVariables false

def chkE (op n : Int) (m : List (BitVec 32)) : Int :=
  if isOp op = true then (if (decide (kLo op ≤ n) && decide (n ≤ kHi op)) = true then (if op = 2 then (if isMapB m n.toNat = true then 0 else 25) else if m = [] then 0 else 25) else 1) else 24
theorem chk_no {op n : Int} {m : List (BitVec 32)} (h : isOp op = false) : chkE op n m = 24 := by unfold chkE; rw [if_neg (by rw [h]; decide)]
theorem chk_arg {op n : Int} {m : List (BitVec 32)} (h : isOp op = true) (h2 : (decide (kLo op ≤ n) && decide (n ≤ kHi op)) = false) : chkE op n m = 1 := by unfold chkE; rw [if_pos h, if_neg (by rw [h2]; decide)]
theorem chk_plain {op n : Int} {m : List (BitVec 32)} (h : isOp op = true) (h2 : (decide (kLo op ≤ n) && decide (n ≤ kHi op)) = true) (h3 : op ≠ 2) : chkE op n m = if m = [] then 0 else 25 := by unfold chkE; rw [if_pos h, if_pos h2, if_neg h3]
theorem chk_map {op n : Int} {m : List (BitVec 32)} (h : isOp op = true) (h2 : (decide (kLo op ≤ n) && decide (n ≤ kHi op)) = true) (h3 : op = 2) : chkE op n m = if isMapB m n.toNat = true then 0 else 25 := by unfold chkE; rw [if_pos h, if_pos h2, if_pos h3]
def AtI (w : World) (B : Nat) (op n : Int) (v : Value) : Prop := w.cell? ⟨B, 0, none⟩ = some (.int .i64 op) ∧ w.cell? ⟨B, 1, none⟩ = some (.int .i64 n) ∧ w.cell? ⟨B, 2, none⟩ = some v
theorem AtI.below {w w' : World} {B : Nat} {op n : Int} {v : Value} (h : AtI w B op n v) (hb : Below w.heap.size w w') : AtI w' B op n v := ⟨keepc hb h.1, keepc hb h.2.1, keepc hb h.2.2⟩
theorem ati_new (w : World) (op n : Int) (v : Value) (T : TypeId) : AtI (w.alloc (.cells #[.int .i64 op, .int .i64 n, v] T)) w.heap.size op n v := by
  refine ⟨?_, ?_, ?_⟩ <;> simp [go_sem]
set_option maxRecDepth 100000 in
set_option maxHeartbeats 4000000 in
theorem check_any (op n : Int) (v : Value) (m : List (BitVec 32)) (w : World) (hv : RwX cU w v m) :
    Calls Try.prog 117 #[.agg #[.int .i64 op, .int .i64 n, v]] w fun e w' => e = .returned (.int .i64 (chkE op n m)) ∧ Below w.heap.size w w' := by
  obtain ⟨ao, c, hvf, -⟩ := id hv
  have q1 := bl1 w (.cells #[.int .i64 op, .int .i64 n, v] 90)
  have a1 := ati_new w op n v 90
  obtain ⟨w1, hw1⟩ : ∃ w1, w1 = w.alloc (.cells #[.int .i64 op, .int .i64 n, v] 90) := ⟨_, rfl⟩
  rw [← hw1] at q1 a1
  have HV := hid13 (hv.below q1)
  have HB := hid13 q1
  have HA := hid13 a1
  have K1 := kindOf_any op w1
  subst hvf
  clear q1 hv a1
  go_enter Try.func117, Try.ntmps117
  go_wp2_with fail
  rw [← hw1]
  refine K1.mono ?_
  rintro e w2 ⟨rfl, hb2⟩
  have HB2 := hid13 (keepb hb2 HB.out)
  have HV2 := hid13 (HV.out.below hb2)
  have HA2 := hid13 (HA.out.below hb2)
  clear HA HV HB hw1 K1 hb2
  cases ho : isOp op with
  | false =>
    rw [kindV_no ho]
    have HE := hid13 (chk_no (n := n) (m := m) ho)
    clear ho
    go_wp2
    go_ret
    exact ⟨by rw [HE.out]; rfl, keepb (bl1 _ _) HB2.out⟩
  | true =>
    rw [kindV_op ho]
    obtain ⟨t, ht⟩ : ∃ t, t = (decide (kLo op ≤ n) && decide (n ≤ kHi op)) := ⟨_, rfl⟩
    have K2 := fun w => takes_any (kLo op) (kHi op) (kRm op) (op == 2) n w
    have HK : Hid (t = true → n ≤ 24 ∨ op ≠ 2) := by
      intro h
      rw [h] at ht
      simp at ht
      by_cases c : op = 2
      · left; subst c; exact ht.2
      · exact .inr c
    have HK0 : Hid (t = true → 0 ≤ n) := by
      intro h
      rw [h] at ht
      simp at ht
      have h2 := ht.1
      unfold kLo at h2
      split at h2 <;> omega
    have HE : Hid (chkE op n m = if t = true then (if op = 2 then (if isMapB m n.toNat = true then 0 else 25) else if m = [] then 0 else 25) else 1) := by
      show _ = _
      rw [ht]; unfold chkE; rw [if_pos ho]
    rw [← ht] at K2
    clear ho
    have q3 := bl1 w2 (.cells #[.int .i64 (kLo op), .int .i64 (kHi op), .int .i64 (kRm op), .bool (op == 2)] 188)
    have A3 := HA2.out.below q3
    obtain ⟨a30, a31, a32⟩ := A3
    have HB3 := hid13 (keepb q3 HB2.out)
    have HV3 := hid13 (HV2.out.below q3)
    generalize kLo op = lo at *
    generalize kHi op = hi at *
    generalize kRm op = rm at *
    obtain ⟨b, hb⟩ : ∃ b, b = (op == 2) := ⟨_, rfl⟩
    rw [← hb] at K2 a30 a31 a32 HB3 HV3 ⊢
    have HP := hid13 hb
    have HT := hid13 ht
    clear ht hb q3
    go_wp2_with fail
    refine (K2 _).mono ?_
    rintro e w4 ⟨rfl, hb4⟩
    have k4 : w4.cell? ⟨w2.heap.size, 3, none⟩ = some (.bool b) := keepc hb4 (by simp [go_sem])
    have A4 := (show AtI _ _ op n (.slice ao m.length c) from ⟨a30, a31, a32⟩).below hb4
    obtain ⟨a40, a41, a42⟩ := A4
    have HB4 := hid13 (keepb hb4 HB3.out)
    have HV4 := hid13 (HV3.out.below hb4)
    clear K2 HB2 HV2 HA2 HB3 HV3 hb4 a30 a31 a32 HT
    cases t with
    | false =>
      clear HK HK0
      replace HE : Hid (chkE op n m = 1) := HE
      go_wp2
      go_ret
      exact ⟨by rw [HE.out]; rfl, HB4.out⟩
    | true =>
      have hn0 := HK0.out rfl
      have hk := HK.out rfl
      replace HE : Hid (chkE op n m = if op = 2 then (if isMapB m n.toNat = true then 0 else 25) else if m = [] then 0 else 25) := HE
      cases b with
      | false =>
        have h2 : op ≠ 2 := by intro e; subst e; have := HP.out; cases this
        have HE' := HE.out
        rw [if_neg h2] at HE'
        clear HE h2
        clear HP HK HK0 hk hn0
        by_cases hm : m = []
        · rw [if_pos hm] at HE'
          have HE := hid13 HE'
          have hl : m.length = 0 := by rw [hm]; rfl
          rw [hl] at a42 ⊢
          clear hm hl HE'
          go_wp2
          go_ret
          exact ⟨by rw [HE.out]; rfl, HB4.out⟩
        · rw [if_neg hm] at HE'
          have HE := hid13 HE'
          have hl : ((m.length : Nat) : Int) ≠ 0 := by
            intro e
            exact hm (List.eq_nil_of_length_eq_zero (by omega))
          clear hm HE'
          go_wp2
          go_ret
          exact ⟨by rw [HE.out]; rfl, HB4.out⟩
      | true =>
        have h2 : op = 2 := by have := HP.out; simpa using this.symm
        have HE' := HE.out
        rw [if_pos h2] at HE'
        have hn : n ≤ 24 := hk.elim id (fun q => absurd h2 q)
        obtain ⟨k, rfl⟩ : ∃ k : Nat, n = (k : Int) := ⟨n.toNat, by omega⟩
        rw [Int.toNat_natCast] at HE'
        have K5 := isMap_any _ m k w4 HV4.out (by omega)
        clear HP HK HK0 hk hn0 h2 hn
        go_wp2_with fail
        refine K5.mono ?_
        rintro e w5 ⟨rfl, hb5⟩
        have HB5 := hid13 (keepb hb5 HB4.out)
        have k5 := keepc hb5 k4
        clear K5 hb5 k4 HB4 HV4 a40 a41 a42 HE
        have HE := hid13 HE'
        clear HE'
        generalize isMapB m k = z at *
        cases z with
        | true =>
          go_wp2
          go_ret
          exact ⟨by rw [HE.out]; rfl, HB5.out⟩
        | false =>
          go_wp2
          go_ret
          exact ⟨by rw [HE.out]; rfl, HB5.out⟩
def szI (op n : Int) (m : List (BitVec 32)) : Int := if chkE op n m = 0 then 1 + (m.length : Int) else 0
set_option maxRecDepth 100000 in
theorem size_any (op n : Int) (v : Value) (m : List (BitVec 32)) (w : World) (hv : RwX cU w v m) (hl : m.length ≤ 140737488355328) :
    Calls Try.prog 118 #[.agg #[.int .i64 op, .int .i64 n, v]] w fun e w' => e = .returned (.int .i64 (szI op n m)) ∧ Below w.heap.size w w' := by
  obtain ⟨ao, c, hvf, -⟩ := id hv
  have q1 := bl1 w (.cells #[.int .i64 op, .int .i64 n, v] 90)
  have a1 := ati_new w op n v 90
  have K1 := check_any op n v m _ (hv.below q1)
  have HB := hid13 q1
  subst hvf
  obtain ⟨a10, a11, a12⟩ := a1
  clear q1 hv
  go_enter Try.func118, Try.ntmps118
  go_wp2_with fail
  refine K1.mono ?_
  rintro e w2 ⟨rfl, hb2⟩
  have HB2 := hid13 (keepb hb2 HB.out)
  have a22 := keepc hb2 a12
  clear a10 a11 a12 K1 hb2 HB
  have hw : wrap64 (1 + (m.length : Int)) = 1 + (m.length : Int) := by unfold wrap64; omega
  by_cases h : chkE op n m = 0
  · rw [h]
    have H := hid13 h
    clear h
    go_wp2
    go_ret
    exact ⟨by unfold szI; rw [if_pos H.out]; rfl, HB2.out⟩
  · go_wp2
    go_ret
    exact ⟨by unfold szI; rw [if_neg h]; rfl, HB2.out⟩
end Go.Proofs.Ytmemnjcpoggdhaa
namespace Go.Proofs.Ytmemnjcpoggdhaa
open Go.RowKit
set_option linter.unusedSimpArgs false
set_option linter.unusedVariables false

def PS13 (w wr : World) (vb : Value) (R : List Nat) : Prop :=
  Below w.heap.size w wr ∧ (wr.ownsRow w.heap.size 5 1 vb R.length (R.map cB) ∨ (RowA wr 1 vb R.length (R.map cB) ∧ ∃ ao, vb = .slice ao R.length R.length))
set_option maxRecDepth 20000 in
theorem wpList_put13 {ops : Array Oper} {rest : List Oper} {o : Oper} {a : Act} {Q : Exit → Act → World → Prop} (hgd : o.guard = none) (s x : Operand)
    (ho : o.op = .call { callee := .builtin .append, args := #[s, x], argTypes := #[39, 39] }) (w wr : World) (vb : Value) (R : List Nat) (hS : PS13 w wr vb R) (b : Nat) (hl : R.length ≤ 140737488355200) (hs : a.eval s = vb) (hx : a.eval x = .slice (some ⟨wr.heap.size, 0, none⟩) 1 1)
    (h : ∀ v' w', w'.ownsRow w.heap.size 5 1 v' (R ++ [b]).length ((R ++ [b]).map cB) → Below w.heap.size w w' → wpList Try.prog ops Q rest (a.put o.dst v') w') : wpList Try.prog ops Q (o :: rest) a (wr.alloc (.cells #[.int .u8 (b : Int)] 5)) := by
  obtain ⟨i0, hi, hz0, hz1, hz2⟩ := info13 Try.infoB13
  obtain ⟨hB, hS⟩ := hS
  have q9 := bl1 wr (.cells #[.int .u8 (b : Int)] 5)
  have h63 : R.length + 1 ≤ maxLen := by unfold maxLen; omega
  have h47 : (R.length + 1) * 1 ≤ 140737488355328 := by omega
  have hsz : w.heap.size ≤ (wr.alloc (.cells #[.int .u8 (b : Int)] 5)).heap.size := Nat.le_trans hB.size q9.size
  have hB9 := keepb q9 hB
  have hmap : R.map cB ++ [.int .u8 (b : Int)] = (R ++ [b]).map cB := by rw [List.map_append]; rfl
  have hlen : (R ++ [b]).length = R.length + 1 := by simp
  rcases hS with hS | ⟨hS, ao, hv⟩
  · have hO := own_b13 q9 hS
    refine wpList_append_lies _ hgd s x 39 ho w.heap.size 5 i0 (.int .u8 0) 1 1 Try.underlying39 hi hz0 hz1 hz2 rfl (by decide) vb R.length (R.map cB) hs hO ⟨wr.heap.size, 0, none⟩ 1 1 [.int .u8 (b : Int)] hx rfl (news13 (by simp [go_sem])) (by intro u hu; simp at hu; subst hu; rfl) (by decide) h63 h47 hsz _ rfl ?_
    intro g cap w' h1 h2 _ _
    refine h _ w' ?_ (hB9.grown h2 hB9.size (fun z e => (hO.lt z e).1))
    rw [hlen, ← hmap]; exact h1
  · subst hv
    obtain ⟨hl0, ao', c', e, hc, hr⟩ := hS.below q9
    injection e with e1 e2 e3
    subst e1
    refine wpList_append_grows _ hgd s x 39 ho 5 i0 (.int .u8 0) 1 1 Try.underlying39 hi hz0 hz1 hz2 rfl (by decide) ao R.length R.length (R.map cB) hs ?_ hl0 ?_ ⟨wr.heap.size, 0, none⟩ 1 1 [.int .u8 (b : Int)] hx rfl (news13 (by simp [go_sem])) (by intro u hu; simp at hu; subst hu; rfl) (by omega) h63 h47 ?_
    · intro hn
      rcases hr with ⟨-, -, h⟩ | ⟨ad, h, -⟩
      · exact ⟨h, h⟩
      · rw [hn] at h; cases h
    · intro bb hb j u hj
      rcases hr with ⟨h, -, -⟩ | ⟨ad, h, hr⟩
      · rw [hb] at h; cases h
      · rw [hb] at h; injection h with h; subst h; exact hr j u hj
    · intro v' w' h1 h2
      refine h v' w' ?_ (hB9.grown h2 hB9.size (fun z e => by cases e))
      have := own_wide13 h1 hsz
      rw [hlen, ← hmap]; exact this
def lastB (x : Nat) : Nat → List Nat
  | 0 => []
  | c + 1 => x / 256 ^ c % 256 :: lastB x c
theorem lastB_four (x : Nat) (h : x < 4294967296) : lastB x 4 = by4 x := by
  unfold by4
  simp only [lastB]
  congr 1
  · omega
  · congr 1; congr 1; congr 1; omega
end Go.Proofs.Ytmemnjcpoggdhaa
namespace Go.Proofs.Ytmemnjcpoggdhaa
open Go.RowKit
set_option linter.unusedSimpArgs false
set_option linter.unusedVariables false

end Go.Proofs.Ytmemnjcpoggdhaa
namespace Go.Proofs.Ytmemnjcpoggdhaa
open Go.RowKit
set_option linter.unusedSimpArgs false
set_option linter.unusedVariables false

def AtIF (w : World) (B : Nat) (op n : Int) (v : Value) : Prop := AtI w B op n v ∧ w.frozen? ⟨B, 0, none⟩ = false ∧ w.frozen? ⟨B, 1, none⟩ = false ∧ w.frozen? ⟨B, 2, none⟩ = false
theorem AtIF.below {w w' : World} {B : Nat} {op n : Int} {v : Value} (h : AtIF w B op n v) (hb : Below w.heap.size w w') : AtIF w' B op n v :=
  ⟨h.1.below hb, keepf hb h.1.1 h.2.1, keepf hb h.1.2.1 h.2.2.1, keepf hb h.1.2.2 h.2.2.2⟩
end Go.Proofs.Ytmemnjcpoggdhaa
namespace Go.Proofs.Ytmemnjcpoggdhaa
open Go.RowKit
set_option linter.unusedSimpArgs false
set_option linter.unusedVariables false

section
variable {P : Program}

end
end Go.Proofs.Ytmemnjcpoggdhaa
