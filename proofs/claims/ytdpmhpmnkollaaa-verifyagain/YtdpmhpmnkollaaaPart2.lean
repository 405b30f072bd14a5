/-
  Part 2 of the proof: 4 texts, one behind the other.
-/
import Derived.Test.YtdpmhpmnkollaaaPart1
import Derived.ArgAppend
namespace Go.Proofs.Ytdpmhpmnkollaaa
open Go.RowKit
set_option linter.unusedSimpArgs false
set_option linter.unusedVariables false

def kLo (op : Int) : Int := if op = 4 then 0 else 1
def kHi (op : Int) : Int := if op = 3 then 16777215 else if op = 4 then 65535 else 24
def kRm (op : Int) : Int := if op = 3 then 16777215 else if op = 4 then 65535 else 255
def isOp (op : Int) : Bool := decide (1 ≤ op) && decide (op ≤ 4)
def kindV (op : Int) : Value := if isOp op then .agg #[.int .i64 (kLo op), .int .i64 (kHi op), .int .i64 (kRm op), .bool (op == 2)] else .agg #[.int .i64 0, .int .i64 0, .int .i64 0, .bool false]
theorem kindV_op {op : Int} (h : isOp op = true) : kindV op = .agg #[.int .i64 (kLo op), .int .i64 (kHi op), .int .i64 (kRm op), .bool (op == 2)] := by unfold kindV; rw [if_pos h]
theorem kindV_no {op : Int} (h : isOp op = false) : kindV op = .agg #[.int .i64 0, .int .i64 0, .int .i64 0, .bool false] := by unfold kindV; rw [if_neg (by rw [h]; decide)]
theorem isOp_cases {op : Int} (h : isOp op = true) : op = 1 ∨ op = 2 ∨ op = 3 ∨ op = 4 := by
  unfold isOp at h; simp at h; omega
theorem isOp_none {op : Int} (h : isOp op = false) : op ≠ 1 ∧ op ≠ 2 ∧ op ≠ 3 ∧ op ≠ 4 := by
  refine ⟨?_, ?_, ?_, ?_⟩ <;> (rintro rfl; revert h; decide)
set_option maxRecDepth 100000 in
theorem kindOf_1 (w : World) :
    Calls Try.prog 80 #[.int .i64 1] w fun e w' => e = .returned (.tuple #[.agg #[.int .i64 1, .int .i64 24, .int .i64 255, .bool false], .bool true]) ∧ Below w.heap.size w w' := by
  go_enter Try.func80, Try.ntmps80
  go_wp2
  exact bodyPost_ret (v := .tuple #[.agg #[.int .i64 1, .int .i64 24, .int .i64 255, .bool false], .bool true]) (by simp [results, Try.results80, go_sem]) rfl ⟨rfl, keepb (bl1 _ _) (bl1 _ _)⟩
set_option maxRecDepth 100000 in
theorem kindOf_2 (w : World) :
    Calls Try.prog 80 #[.int .i64 2] w fun e w' => e = .returned (.tuple #[.agg #[.int .i64 1, .int .i64 24, .int .i64 255, .bool true], .bool true]) ∧ Below w.heap.size w w' := by
  go_enter Try.func80, Try.ntmps80
  go_wp2
  exact bodyPost_ret (v := .tuple #[.agg #[.int .i64 1, .int .i64 24, .int .i64 255, .bool true], .bool true]) (by simp [results, Try.results80, go_sem]) rfl ⟨rfl, keepb (bl1 _ _) (bl1 _ _)⟩
set_option maxRecDepth 100000 in
theorem kindOf_3 (w : World) :
    Calls Try.prog 80 #[.int .i64 3] w fun e w' => e = .returned (.tuple #[.agg #[.int .i64 1, .int .i64 16777215, .int .i64 16777215, .bool false], .bool true]) ∧ Below w.heap.size w w' := by
  go_enter Try.func80, Try.ntmps80
  go_wp2
  exact bodyPost_ret (v := .tuple #[.agg #[.int .i64 1, .int .i64 16777215, .int .i64 16777215, .bool false], .bool true]) (by simp [results, Try.results80, go_sem]) rfl ⟨rfl, keepb (bl1 _ _) (bl1 _ _)⟩
set_option maxRecDepth 100000 in
theorem kindOf_4 (w : World) :
    Calls Try.prog 80 #[.int .i64 4] w fun e w' => e = .returned (.tuple #[.agg #[.int .i64 0, .int .i64 65535, .int .i64 65535, .bool false], .bool true]) ∧ Below w.heap.size w w' := by
  go_enter Try.func80, Try.ntmps80
  go_wp2
  exact bodyPost_ret (v := .tuple #[.agg #[.int .i64 0, .int .i64 65535, .int .i64 65535, .bool false], .bool true]) (by simp [results, Try.results80, go_sem]) rfl ⟨rfl, keepb (bl1 _ _) (bl1 _ _)⟩
set_option maxRecDepth 100000 in
theorem kindOf_none (op : Int) (h1 : op ≠ 1) (h2 : op ≠ 2) (h3 : op ≠ 3) (h4 : op ≠ 4) (w : World) :
    Calls Try.prog 80 #[.int .i64 op] w fun e w' => e = .returned (.tuple #[.agg #[.int .i64 0, .int .i64 0, .int .i64 0, .bool false], .bool false]) ∧ Below w.heap.size w w' := by
  go_enter Try.func80, Try.ntmps80
  go_wp2
  exact bodyPost_ret (v := .tuple #[.agg #[.int .i64 0, .int .i64 0, .int .i64 0, .bool false], .bool false]) (by simp [results, Try.results80, go_sem]) rfl ⟨rfl, keepb (bl1 _ _) (bl1 _ _)⟩
theorem kindOf_any (op : Int) (w : World) :
    Calls Try.prog 80 #[.int .i64 op] w fun e w' => e = .returned (.tuple #[kindV op, .bool (isOp op)]) ∧ Below w.heap.size w w' := by
  cases h : isOp op with
  | true =>
    rcases isOp_cases h with rfl | rfl | rfl | rfl
    · exact kindOf_1 w
    · exact kindOf_2 w
    · exact kindOf_3 w
    · exact kindOf_4 w
  | false =>
    obtain ⟨h1, h2, h3, h4⟩ := isOp_none h
    rw [kindV_no h]
    exact kindOf_none op h1 h2 h3 h4 w
theorem takes_any (a b c : Int) (d : Bool) (n : Int) (w : World) :
    Calls Try.prog 81 #[.agg #[.int .i64 a, .int .i64 b, .int .i64 c, .bool d], .int .i64 n] w fun e w' => e = .returned (.bool (decide (a ≤ n) && decide (n ≤ b))) ∧ Below w.heap.size w w' := by
  have HB := hid13 (bl1 w (.cells #[.int .i64 a, .int .i64 b, .int .i64 c, .bool d] 150))
  by_cases h : a ≤ n
  · rw [decide_eq_true h]
    go_enter Try.func81, Try.ntmps81
    go_wp2
    go_ret
    exact ⟨rfl, HB.out⟩
  · rw [decide_eq_false h]
    go_enter Try.func81, Try.ntmps81
    go_wp2
    go_ret
    exact ⟨rfl, HB.out⟩
def mwN (n : Nat) : Nat := if n < 5 then 1 else 2 ^ (n - 5)
theorem sh64 (n : Nat) (h : n ≤ 24) : Op.shift .shl .i64 1 .i64 (n : Int) = pure (.int .i64 ((2 ^ n : Nat) : Int)) := by
  rw [shift_shl_any .i64 .i64 1 _ (by omega)]
  have : ∀ m : Fin 25, IntKind.i64.wrap (1 * 2 ^ min ((m.val : Nat) : Int).toNat IntKind.i64.bits) = ((2 ^ m.val : Nat) : Int) := by decide +kernel
  exact congrArg (fun z => pure (Value.int .i64 z)) (this ⟨n, by omega⟩)
theorem mwN_max (n : Nat) (h : n ≤ 24) : mwN n = max 1 (2 ^ n / 32) := by
  have : ∀ m : Fin 25, mwN m.val = max 1 (2 ^ m.val / 32) := by decide +kernel
  exact this ⟨n, by omega⟩
theorem mwN_lo (n : Nat) : 1 ≤ mwN n := by
  unfold mwN; split
  · exact Nat.le_refl _
  · exact Nat.one_le_two_pow
theorem mwN_hi (n : Nat) (h : n ≤ 24) : mwN n ≤ 524288 := by
  have : ∀ m : Fin 25, mwN m.val ≤ 524288 := by decide +kernel
  exact this ⟨n, by omega⟩
theorem mapWords_any (n : Nat) (h : n ≤ 24) (w : World) :
    Calls Try.prog 101 #[.int .i64 (n : Int)] w fun e w' => e = .returned (.int .i64 (mwN n : Int)) ∧ w' = w := by
  have hs := sh64 n h
  obtain ⟨P, hP⟩ : ∃ P : Nat, P = 2 ^ n := ⟨_, rfl⟩
  have hm : mwN n = max 1 (P / 32) := by rw [hP]; exact mwN_max n h
  rw [← hP] at hs
  rw [hm]
  have hPl : P ≤ 16777216 := by rw [hP]; exact Nat.pow_le_pow_right (n := 2) (by decide) h
  clear hP hm h
  by_cases c : P < 32
  · have e : Hid (max 1 (P / 32) = 1) := by show _ = _; omega
    have c1 : (P : Int) / 32 ≤ 1 := by omega
    rw [e.out]
    go_enter Try.func101, Try.ntmps101
    go_wp2
    go_ret
    exact ⟨rfl, rfl⟩
  · obtain ⟨q, hq⟩ : ∃ q, q = P / 32 := ⟨_, rfl⟩
    have e : Hid (max 1 (P / 32) = q) := by show _ = _; omega
    have e1 : (P : Int) / 32 = (q : Int) := by omega
    have c1 : (1 : Int) ≤ q := by omega
    have c2 : ((1 : Int) < (q : Int)) ∨ q = 1 := by omega
    have wq : wrap64 (q : Int) = (q : Int) := by unfold wrap64; omega
    rw [e.out]
    clear e hq c c2
    go_enter Try.func101, Try.ntmps101
    go_wp2
    · go_ret
      exact ⟨rfl, rfl⟩
    · go_ret
      obtain rfl : q = 1 := by omega
      exact ⟨rfl, rfl⟩
theorem hi32 (x : BitVec 32) : uI x / 2147483648 = if x.getLsbD 31 then 1 else 0 := by
  rw [uI_eq]
  have h1 := x.isLt
  have h2 : x.getLsbD 31 = decide (2147483648 ≤ x.toNat) := by
    rw [BitVec.getLsbD, Nat.testBit_eq_decide_div_mod_eq]
    have e : (2 : Nat) ^ 31 = 2147483648 := by decide
    rw [e]
    congr 1
    apply propext
    omega
  rw [h2]
  by_cases c : 2147483648 ≤ x.toNat
  · rw [decide_eq_true c, if_pos rfl]; omega
  · rw [decide_eq_false c, if_neg (by decide)]; omega
theorem sh64u (n : Nat) (h : n ≤ 24) : Op.shift .shl .u64 1 .i64 (n : Int) = pure (.int .u64 ((2 ^ n : Nat) : Int)) := by
  rw [shift_shl_any .u64 .i64 1 _ (by omega)]
  have : ∀ m : Fin 25, IntKind.u64.wrap (1 * 2 ^ min ((m.val : Nat) : Int).toNat IntKind.u64.bits) = ((2 ^ m.val : Nat) : Int) := by decide +kernel
  exact congrArg (fun z => pure (Value.int .u64 z)) (this ⟨n, by omega⟩)
theorem sh32u (x : BitVec 32) (P : Nat) : Op.shift .shl .u32 (uI x) .u64 (P : Int) = pure (.int .u32 (uI (x <<< P))) := by
  rw [shift_shl_any .u32 .u64 _ _ (by omega), Int.toNat_natCast]
  have hb : IntKind.u32.bits = 32 := rfl
  rw [hb]
  obtain ⟨k, hk⟩ : ∃ k, k = min P 32 := ⟨_, rfl⟩
  rw [← hk]
  have hw : ∀ z : Int, 0 ≤ z → IntKind.u32.wrap z = z % 4294967296 := by intro z hz; simp [IntKind.wrap, IntKind.bits, IntKind.signed]
  have hz : (0 : Int) ≤ uI x * 2 ^ k := Int.mul_nonneg (uI_lo x) (by have : (0:Int) < 2 ^ k := Int.pow_pos (by decide); omega)
  rw [hw _ hz, shl32]
  have e : x <<< k = x <<< P := by
    by_cases c : P ≤ 32
    · rw [hk, Nat.min_eq_left c]
    · rw [BitVec.shiftLeft_eq_zero (by omega), BitVec.shiftLeft_eq_zero (by omega)]
  rw [e]
def topB (x : BitVec 32) (P : Nat) : Bool := x.getLsbD 31 && (x <<< P == 0#32)
def isMapB (m : List (BitVec 32)) (n : Nat) : Bool := decide (m.length = mwN n) && topB (m.headD 0#32) (2 ^ n)
theorem isMapB_cons (x : BitVec 32) (t : List (BitVec 32)) (n : Nat) : isMapB (x :: t) n = (decide ((x :: t).length = mwN n) && topB x (2 ^ n)) := rfl
set_option maxRecDepth 100000 in
theorem beginsMap_any (x : BitVec 32) (n : Nat) (w : World) (h : n ≤ 24) :
    Calls Try.prog 102 #[.int .u32 (uI x), .int .i64 (n : Int)] w fun e w' => e = .returned (.bool (topB x (2 ^ n))) ∧ w' = w := by
  have hs1 := sh64u n h
  obtain ⟨P, hP⟩ : ∃ P : Nat, P = 2 ^ n := ⟨_, rfl⟩
  rw [← hP] at hs1 ⊢
  have hs2 := sh32u x P
  have hh := hi32 x
  clear h hP
  unfold topB
  cases g : x.getLsbD 31 with
  | true =>
    rw [g] at hh
    simp only [if_true] at hh
    by_cases hz : x <<< P = 0#32
    · have hz' : (x <<< P == 0#32) = true := by rw [hz]; rfl
      rw [hz']
      rw [hz, uI_zero] at hs2
      clear hz g hz'
      go_enter Try.func102, Try.ntmps102
      go_wp2
      go_ret
      exact ⟨rfl, rfl⟩
    · have hz' : (x <<< P == 0#32) = false := by simpa using hz
      rw [hz']
      obtain ⟨Y, hY⟩ : ∃ Y, Y = uI (x <<< P) := ⟨_, rfl⟩
      have hY0 : (Y == 0) = false := by
        rw [hY]; simp only [beq_eq_false_iff_ne]
        exact fun e => hz ((uI_is0 _).1 e)
      rw [← hY] at hs2
      clear hz g hz' hY
      go_enter Try.func102, Try.ntmps102
      go_wp2
      go_ret
      exact ⟨rfl, rfl⟩
  | false =>
    rw [g] at hh
    replace hh : uI x / 2147483648 = 0 := hh
    clear hs2 hs1 g
    go_enter Try.func102, Try.ntmps102
    go_wp2
    go_ret
    exact ⟨rfl, rfl⟩
end Go.Proofs.Ytdpmhpmnkollaaa
namespace Go.Proofs.Ytdpmhpmnkollaaa
open Go.RowKit
set_option linter.unusedSimpArgs false
set_option linter.unusedVariables false

def chkE (op n : Int) (m : List (BitVec 32)) : Int :=
  if isOp op = true then (if (decide (kLo op ≤ n) && decide (n ≤ kHi op)) = true then (if op = 2 then (if isMapB m n.toNat = true then 0 else 25) else if m = [] then 0 else 25) else 1) else 24
theorem chk_no {op n : Int} {m : List (BitVec 32)} (h : isOp op = false) : chkE op n m = 24 := by unfold chkE; rw [if_neg (by rw [h]; decide)]
theorem chk_arg {op n : Int} {m : List (BitVec 32)} (h : isOp op = true) (h2 : (decide (kLo op ≤ n) && decide (n ≤ kHi op)) = false) : chkE op n m = 1 := by unfold chkE; rw [if_pos h, if_neg (by rw [h2]; decide)]
theorem chk_plain {op n : Int} {m : List (BitVec 32)} (h : isOp op = true) (h2 : (decide (kLo op ≤ n) && decide (n ≤ kHi op)) = true) (h3 : op ≠ 2) : chkE op n m = if m = [] then 0 else 25 := by unfold chkE; rw [if_pos h, if_pos h2, if_neg h3]
theorem chk_map {op n : Int} {m : List (BitVec 32)} (h : isOp op = true) (h2 : (decide (kLo op ≤ n) && decide (n ≤ kHi op)) = true) (h3 : op = 2) : chkE op n m = if isMapB m n.toNat = true then 0 else 25 := by unfold chkE; rw [if_pos h, if_pos h2, if_pos h3]
def AtI (w : World) (B : Nat) (op n : Int) (v : Value) : Prop := w.cell? ⟨B, 0, none⟩ = some (.int .i64 op) ∧ w.cell? ⟨B, 1, none⟩ = some (.int .i64 n) ∧ w.cell? ⟨B, 2, none⟩ = some v
theorem AtI.below {w w' : World} {B : Nat} {op n : Int} {v : Value} (h : AtI w B op n v) (hb : Below w.heap.size w w') : AtI w' B op n v := ⟨keepc hb h.1, keepc hb h.2.1, keepc hb h.2.2⟩
theorem ati_new (w : World) (op n : Int) (v : Value) (T : TypeId) : AtI (w.alloc (.cells #[.int .i64 op, .int .i64 n, v] T)) w.heap.size op n v := by
  refine ⟨?_, ?_, ?_⟩ <;> simp [go_sem]
end Go.Proofs.Ytdpmhpmnkollaaa
namespace Go.Proofs.Ytdpmhpmnkollaaa
open Go.RowKit
set_option linter.unusedSimpArgs false
set_option linter.unusedVariables false

theorem fold_lt (l : List Nat) (h : ∀ b ∈ l, b < 256) : ∀ v, l.foldl (fun v b => v * 256 + b) v < (v + 1) * 256 ^ l.length := by
  induction l with
  | nil => intro v; simp
  | cons b l ih =>
    intro v
    have h1 := ih (fun x hx => h x (by simp [hx])) (v * 256 + b)
    have h2 := h b (by simp)
    rw [List.foldl_cons, List.length_cons, Nat.pow_succ]
    refine Nat.lt_of_lt_of_le h1 ?_
    rw [Nat.mul_comm (256 ^ l.length) 256, ← Nat.mul_assoc]
    exact Nat.mul_le_mul_right _ (by omega)
theorem numN_lt (l : List Nat) (h : ∀ b ∈ l, b < 256) : numN13 l < 256 ^ l.length := by
  have := fold_lt l h 0
  unfold numN13
  omega
def PS13 (w wr : World) (vb : Value) (R : List Nat) : Prop :=
  Below w.heap.size w wr ∧ (wr.ownsRow w.heap.size 5 1 vb R.length (R.map cB) ∨ (RowA wr 1 vb R.length (R.map cB) ∧ ∃ ao, vb = .slice ao R.length R.length))
set_option maxRecDepth 20000 in
theorem wpList_put13 {ops : Array Oper} {rest : List Oper} {o : Oper} {a : Act} {Q : Exit → Act → World → Prop} (hgd : o.guard = none) (s x : Operand)
    (ho : o.op = .call { callee := .builtin .append, args := #[s, x], argTypes := #[27, 27] }) (w wr : World) (vb : Value) (R : List Nat) (hS : PS13 w wr vb R) (b : Nat) (hl : R.length ≤ 140737488355200) (hs : a.eval s = vb) (hx : a.eval x = .slice (some ⟨wr.heap.size, 0, none⟩) 1 1)
    (h : ∀ v' w', w'.ownsRow w.heap.size 5 1 v' (R ++ [b]).length ((R ++ [b]).map cB) → Below w.heap.size w w' → wpList Try.prog ops Q rest (a.put o.dst v') w') : wpList Try.prog ops Q (o :: rest) a (wr.alloc (.cells #[.int .u8 (b : Int)] 5)) := by
  obtain ⟨i0, hi, hz0, hz1, hz2⟩ := info13 Try.infoB13
  obtain ⟨hB, hS⟩ := hS
  have q9 := bl1 wr (.cells #[.int .u8 (b : Int)] 5)
  have h63 : R.length + 1 ≤ maxLen := by unfold maxLen; omega
  have h47 : (R.length + 1) * 1 ≤ 140737488355328 := by omega
  have hsz : w.heap.size ≤ (wr.alloc (.cells #[.int .u8 (b : Int)] 5)).heap.size := Nat.le_trans hB.size q9.size
  have hB9 := keepb q9 hB
  have hmap : R.map cB ++ [.int .u8 (b : Int)] = (R ++ [b]).map cB := by rw [List.map_append]; rfl
  have hlen : (R ++ [b]).length = R.length + 1 := by simp
  rcases hS with hS | ⟨hS, ao, hv⟩
  · have hO := own_b13 q9 hS
    refine wpList_append_lies _ hgd s x 27 ho w.heap.size 5 i0 (.int .u8 0) 1 1 Try.underlying27 hi hz0 hz1 hz2 rfl (by decide) vb R.length (R.map cB) hs hO ⟨wr.heap.size, 0, none⟩ 1 1 [.int .u8 (b : Int)] hx rfl (news13 (by simp [go_sem])) (by intro u hu; simp at hu; subst hu; rfl) (by decide) h63 h47 hsz _ rfl ?_
    intro g cap w' h1 h2 _ _
    refine h _ w' ?_ (hB9.grown h2 hB9.size (fun z e => (hO.lt z e).1))
    rw [hlen, ← hmap]; exact h1
  · subst hv
    obtain ⟨hl0, ao', c', e, hc, hr⟩ := hS.below q9
    injection e with e1 e2 e3
    subst e1
    refine wpList_append_grows _ hgd s x 27 ho 5 i0 (.int .u8 0) 1 1 Try.underlying27 hi hz0 hz1 hz2 rfl (by decide) ao R.length R.length (R.map cB) hs ?_ hl0 ?_ ⟨wr.heap.size, 0, none⟩ 1 1 [.int .u8 (b : Int)] hx rfl (news13 (by simp [go_sem])) (by intro u hu; simp at hu; subst hu; rfl) (by omega) h63 h47 ?_
    · intro hn
      rcases hr with ⟨-, -, h⟩ | ⟨ad, h, -⟩
      · exact ⟨h, h⟩
      · rw [hn] at h; cases h
    · intro bb hb j u hj
      rcases hr with ⟨h, -, -⟩ | ⟨ad, h, hr⟩
      · rw [hb] at h; cases h
      · rw [hb] at h; injection h with h; subst h; exact hr j u hj
    · intro v' w' h1 h2
      refine h v' w' ?_ (hB9.grown h2 hB9.size (fun z e => by cases e))
      have := own_wide13 h1 hsz
      rw [hlen, ← hmap]; exact this
def lastB (x : Nat) : Nat → List Nat
  | 0 => []
  | c + 1 => x / 256 ^ c % 256 :: lastB x c
theorem lastB_four (x : Nat) (h : x < 4294967296) : lastB x 4 = by4 x := by
  unfold by4
  simp only [lastB]
  congr 1
  · omega
  · congr 1; congr 1; congr 1; omega
end Go.Proofs.Ytdpmhpmnkollaaa
namespace Go.Proofs.Ytdpmhpmnkollaaa
open Go.RowKit
set_option linter.unusedSimpArgs false
set_option linter.unusedVariables false

def wdV (l : List Nat) (k : Nat) : BitVec 32 := BitVec.ofNat 32 (numN13 ((l.drop (4 * k)).take 4))
theorem wd_lt (l : List Nat) (k : Nat) (hx : ∀ b ∈ l, b < 256) : numN13 ((l.drop (4 * k)).take 4) < 4294967296 := by
  have h2 := numN_lt ((l.drop (4 * k)).take 4) (fun x h => hx x (List.mem_of_mem_drop (List.mem_of_mem_take h)))
  have h3 : ((l.drop (4 * k)).take 4).length ≤ 4 := by rw [List.length_take]; omega
  have h4 := Nat.pow_le_pow_right (n := 256) (by omega) h3
  have : 256 ^ 4 = 4294967296 := by decide
  omega
theorem wd_uI (l : List Nat) (k : Nat) (hx : ∀ b ∈ l, b < 256) : uI (wdV l k) = ((numN13 ((l.drop (4 * k)).take 4) : Nat) : Int) := uI_of _ (wd_lt l k hx)
def stB (m : Nat) (at' : Int) (c : Int) : Bool := decide (0 ≤ at') && decide (at' ≤ (m : Int) / 4 - c)
theorem cstand_any (ao : Option Addr) (m cc : Nat) (n c : Int) (w : World) (hc : 0 ≤ c ∧ c ≤ 1000000) (hm : m ≤ 140737488355328) :
    Calls Try.prog 78 #[.slice ao m cc, .int .i64 n, .int .i64 c] w fun e w' => e = .returned (.bool (stB m n c)) ∧ w' = w := by
  unfold stB
  have hw : IntKind.i64.wrap ((m : Int) / 4 - c) = (m : Int) / 4 - c := by rw [IntKind.wrap_i64]; omega
  obtain ⟨q, hq⟩ : ∃ q, q = (m : Int) / 4 - c := ⟨_, rfl⟩
  by_cases h : 0 ≤ n
  · rw [decide_eq_true h]
    go_enter Try.func78, Try.ntmps78
    go_wp2
    go_ret
    exact ⟨rfl, rfl⟩
  · rw [decide_eq_false h]
    go_enter Try.func78, Try.ntmps78
    go_wp2
    go_ret
    exact ⟨rfl, rfl⟩
theorem wordAt_any (v : Value) (l : List Nat) (k : Nat) (w : World) (hv : RwX cB w v l) (hl : l.length ≤ 140737488355328) (hx : ∀ b ∈ l, b < 256) (hk : k < l.length / 4) :
    Calls Try.prog 79 #[v, .int .i64 (k : Int)] w fun e w' => e = .returned (.int .u32 (uI (wdV l k))) ∧ Below w.heap.size w w' := by
  have hw : IntKind.i64.wrap ((k : Int) * 4) = (k : Int) * 4 := by rw [IntKind.wrap_i64]; omega
  have K1 := get32_any v l ((k : Int) * 4) w hv hl hx (by omega) (by omega)
  have hc : 0 ≤ (k : Int) * 4 ∧ (k : Int) * 4 ≤ (l.length : Int) - ((4 : Nat) : Int) := by constructor <;> omega
  have e1 : ((gtN l ((k : Int) * 4) 4 : Nat) : Int) = uI (wdV l k) := by
    rw [wd_uI l k hx]
    unfold gtN
    rw [if_pos hc]
    have : ((k : Int) * 4).toNat = 4 * k := by omega
    rw [this]
  have e2 : gtE l ((k : Int) * 4) 4 = 0 := by unfold gtE; rw [if_pos hc]
  rw [e1, e2] at K1
  obtain ⟨ao, c, rfl, -⟩ := hv
  clear hc e1 e2
  go_enter Try.func79, Try.ntmps79
  go_wp2_with fail
  refine K1.mono ?_
  rintro e w1 ⟨rfl, hb⟩
  have HB := hid13 hb
  clear hb K1
  go_wp2
  go_ret
  exact ⟨rfl, HB.out⟩
def mpL (l : List Nat) (k c : Nat) : List (BitVec 32) := (List.range c).map fun j => wdV l (k + j)
theorem mpL_len (l : List Nat) (k c : Nat) : (mpL l k c).length = c := by unfold mpL; simp
theorem mpL_succ (l : List Nat) (k c : Nat) : mpL l k (c + 1) = mpL l k c ++ [wdV l (k + c)] := by unfold mpL; rw [List.range_succ, List.map_append]; rfl
theorem mpL_top (l : List Nat) (k n : Nat) : isMapB (mpL l k (mwN n)) n = topB (wdV l k) (2 ^ n) := by
  unfold isMapB
  rw [mpL_len, decide_eq_true rfl, Bool.true_and]
  have h := mwN_lo n
  obtain ⟨c, hc⟩ : ∃ c, mwN n = c + 1 := ⟨mwN n - 1, by omega⟩
  rw [hc]
  unfold mpL
  rw [List.range_succ_eq_map, List.map_cons]
  rfl
def rmP (l : List Nat) (k n : Nat) : List (BitVec 32) × Int :=
  if k + mwN n ≤ l.length / 4 then (if isMapB (mpL l k (mwN n)) n = true then (mpL l k (mwN n), 0) else ([], 25)) else ([], 30)
set_option maxRecDepth 100000 in
set_option maxHeartbeats 4000000 in
theorem readMap_any (v : Value) (l : List Nat) (k n : Nat) (w : World) (hv : RwX cB w v l) (hl : l.length ≤ 140737488355328) (hx : ∀ b ∈ l, b < 256) (hn : n ≤ 24) (hk : k ≤ 140737488355328) :
    Calls Try.prog 82 #[v, .int .i64 (k : Int), .int .i64 (n : Int)] w fun e w' => ∃ v', e = .returned (.tuple #[v', .int .i64 (rmP l k n).2]) ∧ w'.ownsRow w.heap.size 96 1 v' (rmP l k n).1.length ((rmP l k n).1.map cU) ∧ Below w.heap.size w w' := by
  have K1 := fun w => mapWords_any n hn w
  obtain ⟨ao, cc, hvf, -⟩ := id hv
  obtain ⟨i0, hi, hz0, hz1, hz2⟩ := info13 Try.infoU13
  obtain ⟨c, hc⟩ : ∃ c, c = mwN n := ⟨_, rfl⟩
  have hch := mwN_hi n hn
  have HR : Hid (rmP l k n = if k + c ≤ l.length / 4 then (if isMapB (mpL l k c) n = true then (mpL l k c, (0 : Int)) else ([], 25)) else ([], 30)) := by show _ = _; rw [hc]; rfl
  rw [← hc] at K1 hch
  have K2 := fun w => cstand_any ao l.length cc (k : Int) (c : Int) w ⟨by omega, by omega⟩ hl
  subst hvf
  by_cases hs : k + c ≤ l.length / 4
  · have e : stB l.length (k : Int) (c : Int) = true := by unfold stB; simp; omega
    rw [e] at K2
    have hmt : isMapB (mpL l k c) n = topB (wdV l k) (2 ^ n) := by rw [hc]; exact mpL_top l k n
    have HR' := HR.out
    rw [if_pos hs, hmt] at HR'
    clear HR hmt
    have hw0 := wordAt_any (.slice ao l.length cc) l k w hv hl hx (by have := mwN_lo n; omega)
    have KB := fun w => beginsMap_any (wdV l k) n w hn
    generalize topB (wdV l k) (2 ^ n) = z at *
    cases z with
    | false =>
      have HR : Hid (rmP l k n = ([], 25)) := HR'
      clear e hc hv hn hx hl hk hs HR' hch hi hz0 hz1 hz2
      go_enter Try.func82, Try.ntmps82
      go_wp2_with (first | (go_at_call 101; refine (K1 _).mono ?_; rintro e w1 ⟨rfl, hw1⟩; replace hw1 := hw1.symm; subst hw1) | (go_at_call 78; refine (K2 _).mono ?_; rintro e w1 ⟨rfl, hw1⟩; replace hw1 := hw1.symm; subst hw1) | fail)
      refine hw0.mono ?_
      rintro e w1 ⟨rfl, hb⟩
      have HB := hid13 hb
      clear hb
      go_wp2_with (first | (go_at_call 102; refine (KB _).mono ?_; rintro e w1 ⟨rfl, hw1⟩; replace hw1 := hw1.symm; subst hw1) | fail)
      exact bodyPost_ret (v := .tuple #[.slice none 0 0, .int .i64 25]) (by simp [results, Try.results82, go_sem]) rfl ⟨_, by rw [HR.out], by rw [HR.out]; exact World.ownsRow_nil _ _ _ _, HB.out⟩
    | true =>
    have HR : Hid (rmP l k n = (mpL l k c, 0)) := HR'
    clear HR'
    have hby : i0.bytes * c ≤ 281474976710656 := by rw [hz2]; omega
    have hmx : c ≤ maxLen := by unfold maxLen; omega
    have HV := hid13 hv
    have HN := hid13 hn
    have HC : Hid (c = mwN n ∧ c ≤ 524288 ∧ k + c ≤ l.length / 4 ∧ l.length ≤ 140737488355328) := ⟨hc, hch, hs, hl⟩
    have HX := hid13 hx
    clear e hc hv hn hx
    go_enter Try.func82, Try.ntmps82
    go_wp2_with (first | (go_at_call 101; refine (K1 _).mono ?_; rintro e w1 ⟨rfl, hw1⟩; replace hw1 := hw1.symm; subst hw1) | (go_at_call 78; refine (K2 _).mono ?_; rintro e w1 ⟨rfl, hw1⟩; replace hw1 := hw1.symm; subst hw1) | fail)
    refine hw0.mono ?_
    rintro e w1 ⟨rfl, hb1⟩
    have hle1 : w.heap.size ≤ w1.heap.size := hb1.size
    have HB1 := hid13 hb1
    have HLE := hid13 hle1
    clear hb1 hw0
    go_wp2_with (first | (go_at_call 102; refine (KB _).mono ?_; rintro e w9 ⟨rfl, hw9⟩; replace hw9 := hw9.symm; subst hw9) | (at_make; apply stopHere9))
    refine (show wpList _ _ _ _ _ _ from ?_)
    refine wpList_make_full _ rfl _ _ 65 rfl w.heap.size 96 i0 (.int .u32 0) 1 Try.underlying65 hi hz0 hz1 .i64 .i64 _ _ c rfl rfl rfl rfl hby hmx hle1 ?_
    intro w2 hown2 hgrow
    have HS0 : Hid (Below w.heap.size w w2 ∧ w2.ownsRow w.heap.size 96 1 (.slice (some ⟨w1.heap.size, 0, none⟩) c c) c ((mpL l k 0 ++ List.replicate c 0#32).map cU)) := by
      refine ⟨HB1.out.grown hgrow hle1 (fun z hz => by cases hz), ?_⟩
      have e : (mpL l k 0 ++ List.replicate c 0#32).map cU = (madeCells (Value.int .u32 0).cells (c * 1)).toList := by
        show _ = (madeCells #[Value.int .u32 0] (c * 1)).toList
        rw [toList_madeCells_one, Nat.mul_one]
        show (List.replicate c 0#32).map cU = _
        rw [List.map_replicate]
        unfold cU
        rw [uI_zero]
      rw [e]; exact hown2
    clear hown2 hgrow hby K1 K2 KB hmx hl hk hs hch hle1
    go_wp2_with fail
    go_loopg [10, 28] c (fun g x10 i wr => ∃ (j : Nat), j + g = c ∧ i = .int .i64 (j : Int) ∧ Hid (Below w.heap.size w wr ∧ wr.ownsRow w.heap.size 96 1 (.slice (some ⟨w1.heap.size, 0, none⟩) c c) c ((mpL l k j ++ List.replicate (c - j) 0#32).map cU)))
    case atStart => exact ⟨0, by omega, rfl, HS0⟩
    case round =>
      clear HS0
      obtain ⟨j, hj, rfl, HS⟩ := hrel
      by_cases hlt : j < c
      · have hli : (j : Int) < (c : Int) := by omega
        have K3 := fun w' (hb : Below w.heap.size w w') => wordAt_any (.slice ao l.length cc) l (k + j) w' (HV.out.below hb) HC.out.2.2.2 HX.out (by have := HC.out.2.2.1; omega)
        have K3' := K3 wr HS.out.1
        rw [show ((k + j : Nat) : Int) = (k : Int) + (j : Int) by omega] at K3'
        have mk : IntKind.i64.wrap ((k : Int) + (j : Int)) = (k : Int) + (j : Int) := by rw [IntKind.wrap_i64]; have := HC.out; omega
        have mj : IntKind.i64.wrap ((j : Int) + 1) = (j : Int) + 1 := by rw [IntKind.wrap_i64]; have := HC.out; omega
        have HK : Hid (j + gk = c ∧ j < c) := ⟨hj, hlt⟩
        clear K3 hj hlt
        go_wp2_with fail
        refine K3'.mono ?_
        rintro e w3 ⟨rfl, hb3⟩
        have hO3 := own_b13 hb3 HS.out.2
        have hln : (mpL l k j ++ List.replicate (c - j) 0#32).length = c := by rw [List.length_append, mpL_len, List.length_replicate]; have := HK.out; omega
        have c3 : w3.cell? ⟨w1.heap.size, j, none⟩ = some (.int .u32 0) := by
          rw [hO3.cellAt j (by have := HK.out; omega), List.getElem?_map, List.getElem?_append_right (by rw [mpL_len]; exact Nat.le_refl _), mpL_len, Nat.sub_self, List.getElem?_replicate, if_pos (by have := HK.out; omega)]
          show some (cU 0#32) = _
          unfold cU; rw [uI_zero]
        have f3 := hO3.frozenAt j
        have hst := (hO3.stored j (.int .u32 (uI (wdV l (k + j))))).1
        have e1 : ((mpL l k j ++ List.replicate (c - j) 0#32).map cU).set j (.int .u32 (uI (wdV l (k + j)))) = (mpL l k (j + 1) ++ List.replicate (c - (j + 1)) 0#32).map cU := by
          show ((mpL l k j ++ List.replicate (c - j) 0#32).map cU).set j (cU (wdV l (k + j))) = _
          rw [← List.map_set, mpL_succ]
          congr 1
          rw [List.set_append_right _ _ (by rw [mpL_len]; exact Nat.le_refl _), mpL_len, Nat.sub_self]
          obtain ⟨z, hz⟩ : ∃ z, c - j = z + 1 := ⟨c - j - 1, by have := HK.out; omega⟩
          rw [hz, show c - (j + 1) = z by omega, List.replicate_succ, List.set_cons_zero, List.append_assoc]
          rfl
        rw [e1] at hst
        have HS4 : Hid (Below w.heap.size w (w3.setCell ⟨w1.heap.size, j, none⟩ (.int .u32 (uI (wdV l (k + j))))) ∧ _) := ⟨(keepb hb3 HS.out.1).setCell HLE.out _, hst⟩
        clear K3' hb3 hO3 hln hst e1 HS
        go_wp2
        go_roundg (gk - 1)
        case measure => have := HK.out; omega
        case rel => exact ⟨j + 1, by have := HK.out; omega, rfl, HS4⟩
      · have hli : ¬ (j : Int) < (c : Int) := by omega
        obtain rfl : j = c := by omega
        have HO : Hid (wr.ownsRow w.heap.size 96 1 (.slice (some ⟨w1.heap.size, 0, none⟩) j j) j ((mpL l k j).map cU)) := by
          have := HS.out.2
          rw [Nat.sub_self, List.replicate_zero, List.append_nil] at this
          exact this
        have HB := hid13 HS.out.1
        clear HS hj hlt
        go_wp2
        exact bodyPost_ret (v := .tuple #[.slice (some ⟨w1.heap.size, 0, none⟩) j j, .int .i64 0]) (by simp [results, Try.results82, go_sem]) rfl ⟨_, by rw [HR.out], by rw [HR.out]; show World.ownsRow _ _ _ _ _ (mpL l k j).length _; rw [mpL_len]; exact HO.out, HB.out⟩
  · have e : stB l.length (k : Int) (c : Int) = false := by unfold stB; simp; omega
    rw [e] at K2
    have HR' := HR.out
    rw [if_neg hs] at HR'
    have HR2 : Hid (rmP l k n = ([], 30)) := HR'
    clear HR HR' e hc hv hn hx hl hk hs
    go_enter Try.func82, Try.ntmps82
    go_wp2_with (first | (go_at_call 101; refine (K1 _).mono ?_; rintro e w1 ⟨rfl, hw1⟩; replace hw1 := hw1.symm; subst hw1) | (go_at_call 78; refine (K2 _).mono ?_; rintro e w1 ⟨rfl, hw1⟩; replace hw1 := hw1.symm; subst hw1))
    exact bodyPost_ret (v := .tuple #[.slice none 0 0, .int .i64 30]) (by simp [results, Try.results82, go_sem]) rfl ⟨_, by rw [HR2.out], by rw [HR2.out]; exact World.ownsRow_nil _ _ _ _, Below.refl _ _⟩
end Go.Proofs.Ytdpmhpmnkollaaa
