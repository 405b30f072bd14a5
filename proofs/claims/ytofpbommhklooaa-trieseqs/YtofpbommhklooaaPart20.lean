/-
  Part 20 of the proof: 8 texts, one behind the other.
-/
import Derived.Test.YtofpbommhklooaaPart18
import Derived.Test.YtofpbommhklooaaPart19
import Derived.Test.YtofpbommhklooaaPart12
import Derived.Test.YtofpbommhklooaaPart10
import Derived.Test.YtofpbommhklooaaPart2
import Derived.Test.YtofpbommhklooaaPart13
import Derived.Test.YtofpbommhklooaaPart14
import Derived.Test.YtofpbommhklooaaPart11
import Derived.Lib.TrailingZeros
import Derived.Deep.QuietTactic
import Derived.BigQuiet
/-
  What the questions of a table's tree tell: a node's prefix, a prefix's node, the way of an address.
-/
namespace Go.Proofs.Ytofpbommhklooaa
open Go.RowKit Go.Shelf
set_option linter.unusedSimpArgs false
set_option linter.unusedVariables false

/-- The tree of a right table. -/
structure Ctx (F : Int) (l : List Rte) (ws : List (BitVec 128)) (L : List Nd) : Prop where
  t : Tre l ws L
  fm : F = 32 ∨ F = 128
  rr : ∀ r ∈ l, RtH F r
  ll : l.length ≤ 1048576
  od : OrdR l
theorem right_zero {F : Int} {l : List Rte} (h : RightT F l) : TabE F l 0 := ⟨fun q => absurd h.2.1 q, fun _ => .inl ⟨h.2.2, rfl⟩⟩
section
variable {F : Int} {l : List Rte} {ws : List (BitVec 128)} {L : List Nd}
theorem Ctx.of (t : Tre l ws L) (h : TabE F l 0) : Ctx F l ws L := by
  obtain ⟨a, b, c, d⟩ := tab8_ok h
  exact ⟨t, a, c, b, d⟩
theorem Ctx.fam (c : Ctx F l ws L) : fam F = true := by rcases c.fm with rfl | rfl <;> decide
theorem Ctx.F0 (c : Ctx F l ws L) : 0 ≤ F ∧ F ≤ 128 := by rcases c.fm with rfl | rfl <;> omega
theorem Ctx.lnF (c : Ctx F l ws L) {i : Nat} (h : i < L.length) : 0 ≤ ln L i ∧ ln L i ≤ F := ⟨(c.t.ln128 h).1, (c.t.nf F c.F0.1 (fun r hr => (c.rr r hr).1.2.1)).2 i h⟩
theorem Ctx.ok (c : Ctx F l ws L) : ∀ x ∈ L, x.ok := c.t.ok c.ll
theorem Ctx.len (c : Ctx F l ws L) : L.length ≤ 134217729 := by have := c.t.nl; have := c.ll; omega
theorem Ctx.ad_mem (c : Ctx F l ws L) {i : Nat} (h : i < L.length) : ad ws L i ∈ ws := by
  have b := (c.t.inv.bnd i h).2.1
  unfold ad
  rw [List.getD_eq_getElem?_getD, List.getElem?_eq_getElem (by omega)]
  exact List.getElem_mem _
theorem Ctx.adF (c : Ctx F l ws L) {i : Nat} (h : i < L.length) : cutW (ad ws L i) F = ad ws L i := c.t.wfam c.F0.1 c.rr _ (c.ad_mem h)
/-- A node's prefix is right. -/
theorem Ctx.chk (c : Ctx F l ws L) {i : Nat} (h : i < L.length) : checkE F (pfA ws L i) (ln L i) = 0 := by
  have b := c.lnF h
  refine chkIn8 c.fam b.1 b.2 ?_
  unfold pfA
  rw [cut_cut2 _ _ _ b.1 (Int.le_refl _)]
theorem Ctx.inn (c : Ctx F l ws L) {i : Nat} (h : i < L.length) : InN ws L (pfA ws L i) i := by
  unfold InN pfA
  rw [cut_cut2 _ _ _ (c.lnF h).1 (Int.le_refl _)]
theorem tfind8_any (c : Ctx F l ws L) (B g cap wg wc : Nat) (x : BitVec 128) (pl : Int) (w : World) (h : TrT w B F g cap wg wc L ws) :
    Calls Try.prog 17 #[.pointer (some ⟨B, 0, none⟩), .agg #[.int .u64 (hI x), .int .u64 (lI x), .int .i64 pl]] w fun e w' => (∃ m : Int, e = .returned (.int .i64 m) ∧ ((∃ i : Nat, m = (i : Int) ∧ i < L.length ∧ ln L i = pl ∧ pfA ws L i = x) ∨ (m = -1 ∧ ∀ i, i < L.length → ln L i = pl → pfA ws L i ≠ x))) ∧ Below w.heap.size w w' := by
  obtain ⟨N, wq⟩ := c.t.path x
  have wt := wq.to
  rw [Int.natCast_zero] at wt
  have KF := tfind_any (N + 1) B F g cap (.slice (some ⟨wg, 0, none⟩) ws.length wc) L x pl (fun _ => wt) w h.tn c.t.pos c.ok (by have := c.len; omega)
  refine KF.mono ?_
  rintro e w' ⟨rfl, hb⟩
  refine ⟨⟨_, rfl, ?_⟩, hb⟩
  by_cases hc : checkE F x pl = 0
  · obtain ⟨-, -, -, hx⟩ := check_out hc
    rw [if_pos hc]
    unfold pthL
    rw [if_pos (check_fam hc)]
    rcases c.t.find wq pl with ⟨m, q1, q2, q3, q4⟩ | ⟨q1, q2⟩
    · refine .inl ⟨m, q4, q1, q2, ?_⟩
      unfold InN at q3
      unfold pfA
      rw [← q3, q2, hx]
    · refine .inr ⟨q1, fun i hi hl he => q2 i hi hl ?_⟩
      unfold InN
      unfold pfA at he
      rw [he, hl, hx]
  · rw [if_neg hc]
    refine .inr ⟨rfl, fun i hi hl he => hc ?_⟩
    have := c.chk hi
    rwa [he, hl] at this
theorem Ctx.uniqP (c : Ctx F l ws L) {i j : Nat} (hi : i < L.length) (hj : j < L.length) (hl : ln L i = ln L j) (h : pfA ws L i = pfA ws L j) : i = j := by
  refine c.t.uniq (x := pfA ws L i) hi hj hl (c.inn hi) ?_
  rw [h]; exact c.inn hj
/-- The node of a node's prefix is it. -/
theorem tfindAt_any (c : Ctx F l ws L) (B g cap wg wc k : Nat) (w : World) (h : TrT w B F g cap wg wc L ws) (hk : k < L.length) :
    Calls Try.prog 17 #[.pointer (some ⟨B, 0, none⟩), .agg #[.int .u64 (hI (pfA ws L k)), .int .u64 (lI (pfA ws L k)), .int .i64 (ln L k)]] w fun e w' => e = .returned (.int .i64 (k : Int)) ∧ Below w.heap.size w w' := by
  refine (tfind8_any c B g cap wg wc (pfA ws L k) (ln L k) w h).mono ?_
  rintro e w' ⟨⟨m, rfl, hm⟩, hb⟩
  rcases hm with ⟨i, rfl, q1, q2, q3⟩ | ⟨-, q⟩
  · rw [c.uniqP q1 hk q2 q3]; exact ⟨rfl, hb⟩
  · exact absurd rfl (q k hk rfl)
/-- The node of a route's prefix. -/
theorem tfindR_any (c : Ctx F l ws L) (B g cap wg wc : Nat) (r : Rte) (hr : r ∈ l) (w : World) (h : TrT w B F g cap wg wc L ws) :
    Calls Try.prog 17 #[.pointer (some ⟨B, 0, none⟩), .agg #[.int .u64 (hI r.1.1), .int .u64 (lI r.1.1), .int .i64 r.1.2]] w fun e w' => (∃ m : Nat, e = .returned (.int .i64 (m : Int)) ∧ m < L.length ∧ (ndAt L (m : Int)).hop = r.2) ∧ Below w.heap.size w w' := by
  refine (tfind8_any c B g cap wg wc r.1.1 r.1.2 w h).mono ?_
  rintro e w' ⟨⟨m, rfl, hm⟩, hb⟩
  obtain ⟨i, q1, q2, q3⟩ := c.t.hasr hr
  have hx := (c.rr r hr).1.2.2
  rcases hm with ⟨j, rfl, p1, p2, p3⟩ | ⟨-, q⟩
  · refine ⟨⟨j, rfl, p1, ?_⟩, hb⟩
    rw [nd8_at p1]
    refine c.t.route hr p1 p2 ?_
    rw [← p3]; exact c.inn p1
  · refine absurd ?_ (q i q1 q2)
    unfold InN at q3
    unfold pfA
    rw [← q3, q2, hx]
end
/-- What a law knows: the tree, the table's variable, what stays. -/
def CT8 (w : World) (F : Int) (v : Value) (B g cap wg wc : Nat) (L : List Nd) (ws : List (BitVec 128)) (X : World) : Prop := TrT X B F g cap wg wc L ws ∧ AtT X w.heap.size F v ∧ Below w.heap.size w X
theorem CT8.below {w X Y : World} {F : Int} {v : Value} {B g cap wg wc : Nat} {L : List Nd} {ws : List (BitVec 128)} (k : CT8 w F v B g cap wg wc L ws X) (hb : Below X.heap.size X Y) : CT8 w F v B g cap wg wc L ws Y := ⟨k.1.below hb, k.2.1.below hb, keepb hb k.2.2⟩
end Go.Proofs.Ytofpbommhklooaa
/-
  Rows in memory, whosever they are (Rws0), beside the prefixes.
-/
/-
  Segments in memory, with their next hops; rows of them; what is told of a list of them.
-/
namespace Go.Proofs.Ytofpbommhklooaa
open Go.RowKit
set_option linter.unusedSimpArgs false
set_option linter.unusedVariables false

/-- A segment: its first, its last address, its next hop. -/
abbrev Sg := (BitVec 128 × BitVec 128) × Int
/-- A segment in memory. -/
def AtG (w : World) (B : Nat) (x y : BitVec 128) (h : Int) : Prop := w.cell? ⟨B, 0, none⟩ = some (.int .u64 (hI x)) ∧ w.cell? ⟨B, 1, none⟩ = some (.int .u64 (lI x)) ∧ w.cell? ⟨B, 2, none⟩ = some (.int .u64 (hI y)) ∧ w.cell? ⟨B, 3, none⟩ = some (.int .u64 (lI y)) ∧ w.cell? ⟨B, 4, none⟩ = some (.int .i64 h) ∧ w.frozen? ⟨B, 0, none⟩ = false ∧ w.frozen? ⟨B, 1, none⟩ = false ∧ w.frozen? ⟨B, 2, none⟩ = false ∧ w.frozen? ⟨B, 3, none⟩ = false ∧ w.frozen? ⟨B, 4, none⟩ = false
theorem AtG.below {w w' : World} {B : Nat} {x y : BitVec 128} {h : Int} (g : AtG w B x y h) (hb : Below w.heap.size w w') : AtG w' B x y h := by
  obtain ⟨a0, a1, a2, a3, a4, b0, b1, b2, b3, b4⟩ := g
  exact ⟨keepc hb a0, keepc hb a1, keepc hb a2, keepc hb a3, keepc hb a4, keepf hb a0 b0, keepf hb a1 b1, keepf hb a2 b2, keepf hb a3 b3, keepf hb a4 b4⟩
theorem atg_new (w : World) (B : Nat) (x y : BitVec 128) (h : Int) (T : TypeId) (e : B = w.heap.size) : AtG (w.alloc (.cells #[.int .u64 (hI x), .int .u64 (lI x), .int .u64 (hI y), .int .u64 (lI y), .int .i64 h] T)) B x y h := by
  subst e
  refine ⟨?_, ?_, ?_, ?_, ?_, ?_, ?_, ?_, ?_, ?_⟩ <;> simp [go_sem]
theorem AtG.lt {W : World} {B : Nat} {x y : BitVec 128} {h : Int} (g : AtG W B x y h) : B < W.heap.size := cell_in g.1
def rowG : List Sg → List Value
  | [] => []
  | p :: l => .int .u64 (hI p.1.1) :: .int .u64 (lI p.1.1) :: .int .u64 (hI p.1.2) :: .int .u64 (lI p.1.2) :: .int .i64 p.2 :: rowG l
theorem rowG_app : ∀ l m, rowG (l ++ m) = rowG l ++ rowG m := by
  intro l
  induction l with
  | nil => intro m; rfl
  | cons p l ih => intro m; simp [rowG, ih]
theorem rowG_one (l : List Sg) (x y : BitVec 128) (h : Int) : rowG (l ++ [((x, y), h)]) = rowG l ++ [.int .u64 (hI x), .int .u64 (lI x), .int .u64 (hI y), .int .u64 (lI y), .int .i64 h] := by rw [rowG_app]; rfl
theorem rowG_len : ∀ l, (rowG l).length = l.length * 5 := by
  intro l
  induction l with
  | nil => rfl
  | cons p l ih => simp only [rowG, List.length_cons, ih]; omega
theorem rowG_cell (l : List Sg) : ∀ u ∈ rowG l, u.oneCell' = true := by
  induction l with
  | nil => intro u hu; cases hu
  | cons p l ih =>
    intro u hu
    simp only [rowG, List.mem_cons] at hu
    rcases hu with rfl | rfl | rfl | rfl | rfl | hu
    all_goals first | rfl | exact ih u hu
theorem rowG_get : ∀ (l : List Sg) (j : Nat) (hj : j < l.length), (rowG l)[j * 5]? = some (.int .u64 (hI l[j].1.1)) ∧ (rowG l)[j * 5 + 1]? = some (.int .u64 (lI l[j].1.1)) ∧ (rowG l)[j * 5 + 2]? = some (.int .u64 (hI l[j].1.2)) ∧ (rowG l)[j * 5 + 3]? = some (.int .u64 (lI l[j].1.2)) ∧ (rowG l)[j * 5 + 4]? = some (.int .i64 l[j].2) := by
  intro l
  induction l with
  | nil => intro j hj; simp at hj
  | cons p l ih =>
    intro j hj
    cases j with
    | zero => simp [rowG]
    | succ j =>
      have := ih j (by simpa using hj)
      rw [show (j + 1) * 5 = j * 5 + 5 by omega, show j * 5 + 5 + 1 = j * 5 + 1 + 5 by omega, show j * 5 + 5 + 2 = j * 5 + 2 + 5 by omega, show j * 5 + 5 + 3 = j * 5 + 3 + 5 by omega, show j * 5 + 5 + 4 = j * 5 + 4 + 5 by omega]
      simpa [rowG] using this
theorem rwg_cells {W : World} {b off : Nat} {l : List Sg} (h : ∀ j u, (rowG l)[j]? = some u → W.cell? ⟨b, off + j, none⟩ = some u) (k : Nat) (hk : k < l.length) :
    W.cell? ⟨b, off + k * 5, none⟩ = some (.int .u64 (hI l[k].1.1)) ∧ W.cell? ⟨b, off + k * 5 + 1, none⟩ = some (.int .u64 (lI l[k].1.1)) ∧ W.cell? ⟨b, off + k * 5 + 2, none⟩ = some (.int .u64 (hI l[k].1.2)) ∧ W.cell? ⟨b, off + k * 5 + 3, none⟩ = some (.int .u64 (lI l[k].1.2)) ∧ W.cell? ⟨b, off + k * 5 + 4, none⟩ = some (.int .i64 l[k].2) := by
  obtain ⟨a0, a1, a2, a3, a4⟩ := rowG_get l k hk
  exact ⟨h _ _ a0, h _ _ a1, h _ _ a2, h _ _ a3, h _ _ a4⟩
theorem newsG (W : World) (a b c d e : Value) (t : TypeId) : ∀ j u, [a, b, c, d, e][j]? = some u → (W.alloc (.cells #[a, b, c, d, e] t)).cell? ((⟨W.heap.size, 0, none⟩ : Addr).add j) = some u := by
  intro j u hj
  match j, hj with
  | 0, hj => simp at hj; subst hj; simp [Addr.add, go_sem]
  | 1, hj => simp at hj; subst hj; simp [Addr.add, go_sem]
  | 2, hj => simp at hj; subst hj; simp [Addr.add, go_sem]
  | 3, hj => simp at hj; subst hj; simp [Addr.add, go_sem]
  | 4, hj => simp at hj; subst hj; simp [Addr.add, go_sem]
theorem fiveG (a b c d e : Int) : ∀ u ∈ [Value.int .u64 a, Value.int .u64 b, Value.int .u64 c, Value.int .u64 d, Value.int .i64 e], u.oneCell' = true := by
  intro u hu; simp at hu; rcases hu with rfl | rfl | rfl | rfl | rfl <;> rfl
/-- A list of segments in memory, whosever it is. -/
def RwG (W : World) (v : Value) (l : List Sg) : Prop := ∃ ao c, v = .slice ao l.length c ∧ (l = [] ∨ ∃ b off, ao = some ⟨b, off, none⟩ ∧ ∀ j u, (rowG l)[j]? = some u → W.cell? ⟨b, off + j, none⟩ = some u)
theorem RwG.below {W W' : World} {v : Value} {l : List Sg} (h : RwG W v l) (hb : Below W.heap.size W W') : RwG W' v l := by
  obtain ⟨ao, c, e, h⟩ := h
  refine ⟨ao, c, e, h.imp id ?_⟩
  rintro ⟨b, off, e', hc⟩
  exact ⟨b, off, e', fun j u hj => keepc hb (hc j u hj)⟩
theorem row_rwg {W : World} {v : Value} {l : List Sg} (h : Row W 5 v l.length (rowG l)) : RwG W v l := by
  obtain ⟨-, ao, c, e, -, h⟩ := h
  refine ⟨ao, c, e, ?_⟩
  rcases h with ⟨-, -, h⟩ | h
  · exact .inl (List.length_eq_zero_iff.mp h)
  · exact .inr h
/-- The error of one segment. -/
def sgE (F : Int) (s : Sg) : Int := if rightE F s.1.1 = 0 then (if rightE F s.1.2 = 0 then (if s.2 < 0 then 15 else if 65535 < s.2 then 15 else if cmpZ s.1.2 s.1.1 < 0 then 19 else 0) else 6) else 6
def moO (F : Int) : Option Sg → Bool
  | none => true
  | some s => nextB F s.1.2
def nxO (F : Int) : Option Sg → BitVec 128
  | none => 0#128
  | some s => nextV F s.1.2
/-- The error of segments behind one, or behind none. -/
def sgsGo (F : Int) : Option Sg → List Sg → Int
  | p, [] => if moO F p = true then 19 else 0
  | p, s :: l => if sgE F s = 0 then (if moO F p = true then (if (s.1.1 == nxO F p) = true then (if p.map (·.2) = some s.2 then 19 else sgsGo F (some s) l) else 19) else 19) else sgE F s
def sgsE (F : Int) (l : List Sg) : Int := if fam F = true then (if l = [] then 2 else sgsGo F none l) else 11
end Go.Proofs.Ytofpbommhklooaa
/-
  Plain facts: two prefixes are apart, or one lies within the other; what has an address lies between the ends.
-/
namespace Go.Proofs.Ytofpbommhklooaa
open Go.RowKit
set_option linter.unusedSimpArgs false
set_option linter.unusedVariables false

theorem last_bit (F : Int) (x : BitVec 128) (n : Int) (j : Nat) (hj : j < 128) : (lastW F x n).getLsbD j = (x.getLsbD j || (xor (decide (128 - F.toNat ≤ j)) (decide (128 - n.toNat ≤ j)))) := by
  unfold lastW
  rw [BitVec.getLsbD_or, BitVec.getLsbD_xor, maskW_bit F j hj, maskW_bit n j hj]
theorem cut_bit (x : BitVec 128) (n : Int) (j : Nat) (hj : j < 128) : (cutW x n).getLsbD j = (x.getLsbD j && decide (128 - n.toNat ≤ j)) := by
  unfold cutW
  rw [BitVec.getLsbD_and, maskW_bit n j hj]
theorem last_cut (F : Int) (x : BitVec 128) (n : Int) (h : Rt F x n) : cutW (lastW F x n) n = x := by
  apply BitVec.eq_of_getLsbD_eq
  intro j hj
  have hx := congrArg (fun z => z.getLsbD j) h.2.2
  simp only [cut_bit x n j hj] at hx
  rw [cut_bit _ n j hj, last_bit F x n j hj]
  have h1 := h.1; have h2 := h.2.1
  by_cases c : 128 - n.toNat ≤ j
  · have d : 128 - F.toNat ≤ j := by omega
    simp [c, d]
  · simp [c] at hx ⊢
    exact hx
theorem last_fam (F : Int) (x : BitVec 128) (n : Int) (h : Rt F x n) : cutW (lastW F x n) F = lastW F x n := by
  apply BitVec.eq_of_getLsbD_eq
  intro j hj
  have hx := congrArg (fun z => z.getLsbD j) h.2.2
  simp only [cut_bit x n j hj] at hx
  rw [cut_bit _ F j hj, last_bit F x n j hj]
  have h1 := h.1; have h2 := h.2.1
  by_cases d : 128 - F.toNat ≤ j
  · simp [d]
  · have c : ¬ 128 - n.toNat ≤ j := by omega
    simp [c] at hx
    simp [c, d, hx]
theorem cut_le (x : BitVec 128) (n : Int) : (cutW x n).toNat ≤ x.toNat := by
  rw [cut_nat]; exact Nat.div_mul_le_self _ _
theorem le_last (F : Int) (x : BitVec 128) (n : Int) (h : Rt F x n) (c : BitVec 128) (hc : cutW c F = c) (hx : cutW c n = x) : c.toNat ≤ (lastW F x n).toNat := by
  have e : c &&& lastW F x n = c := by
    apply BitVec.eq_of_getLsbD_eq
    intro j hj
    have e1 := congrArg (fun z => z.getLsbD j) hc
    have e2 := congrArg (fun z => z.getLsbD j) hx
    simp only [cut_bit c F j hj, cut_bit c n j hj] at e1 e2
    rw [BitVec.getLsbD_and, last_bit F x n j hj]
    by_cases a : 128 - n.toNat ≤ j
    · simp [a] at e2
      rw [e2]
      cases x.getLsbD j <;> simp
    · by_cases b : 128 - F.toNat ≤ j
      · simp [a, b]
      · simp [b] at e1
        rw [e1]; simp
  rw [← e, BitVec.toNat_and]
  exact Nat.and_le_right
theorem has_ends (F : Int) (x : BitVec 128) (n : Int) (h : Rt F x n) (c : BitVec 128) (hc : cutW c F = c) : cutW c n = x ↔ (x.toNat ≤ c.toNat ∧ c.toNat ≤ (lastW F x n).toNat) := by
  constructor
  · intro e
    exact ⟨by rw [← e]; exact cut_le c n, le_last F x n h c hc e⟩
  · rintro ⟨h1, h2⟩
    have a := cut_mono x c n h1
    have b := cut_mono c _ n h2
    rw [h.2.2] at a
    rw [last_cut F x n h] at b
    exact BitVec.eq_of_toNat_eq (by omega)
theorem cmp_le (x y : BitVec 128) : cmpZ x y ≤ 0 ↔ x.toNat ≤ y.toNat := by
  rcases cmpZ_ways x y with ⟨h, e⟩ | ⟨h, e⟩ | ⟨h, e⟩ <;> rw [e]
  · exact ⟨fun _ => by omega, fun _ => by decide⟩
  · exact ⟨fun _ => by rw [h]; omega, fun _ => by decide⟩
  · exact ⟨fun q => absurd q (by decide), fun q => by omega⟩
theorem cmp_lt0 (x y : BitVec 128) : cmpZ x y < 0 ↔ x.toNat < y.toNat := by
  rcases cmpZ_ways x y with ⟨h, e⟩ | ⟨h, e⟩ | ⟨h, e⟩ <;> rw [e]
  · exact ⟨fun _ => h, fun _ => by decide⟩
  · exact ⟨fun q => absurd q (by decide), fun q => by rw [h] at q; omega⟩
  · exact ⟨fun q => absurd q (by decide), fun q => by omega⟩
theorem rt_fam (F : Int) (x : BitVec 128) (n : Int) (h : Rt F x n) : cutW x F = x := by
  have := cut_cut2 x n F h.1 h.2.1
  rwa [h.2.2] at this
/-- If one ends ahead of the other, neither lies within the other. -/
theorem ahead_no (F : Int) (x : BitVec 128) (n : Int) (y : BitVec 128) (m : Int) (hx : Rt F x n) (hy : Rt F y m) (h : (lastW F x n).toNat < y.toNat) : withinB x n y m = false ∧ withinB y m x n = false := by
  constructor
  · cases q : withinB x n y m
    · rfl
    · rw [within_iff] at q
      have a := cut_le x m
      rw [q.2] at a
      have b := (has_ends F x n hx x (rt_fam F x n hx)).mp hx.2.2
      omega
  · cases q : withinB y m x n
    · rfl
    · rw [within_iff] at q
      have b := (has_ends F x n hx y (rt_fam F y m hy)).mp q.2
      omega
theorem apart_of (F : Int) (x : BitVec 128) (n : Int) (y : BitVec 128) (m : Int) (hx : Rt F x n) (hy : Rt F y m) (hnm : n ≤ m) (h : withinB y m x n = false) : (lastW F x n).toNat < y.toNat ∨ (lastW F y m).toNat < x.toNat := by
  have hc : ¬ cutW y n = x := by
    intro e
    have := (within_iff y m x n).mpr ⟨hnm, e⟩
    rw [h] at this; cases this
  rcases Nat.lt_or_ge (cutW y n).toNat x.toNat with q | q
  · right
    apply Classical.byContradiction
    intro c
    have a := cut_mono x (lastW F y m) n (by omega)
    rw [hx.2.2, ← cut_cut (lastW F y m) n m hx.1 hnm, last_cut F y m hy] at a
    omega
  · left
    apply Classical.byContradiction
    intro c
    have a := cut_mono y (lastW F x n) n (by omega)
    rw [last_cut F x n hx] at a
    exact hc (BitVec.eq_of_toNat_eq (by omega))
theorem apart_iff (F : Int) (x : BitVec 128) (n : Int) (y : BitVec 128) (m : Int) (hx : Rt F x n) (hy : Rt F y m) :
    ((lastW F x n).toNat < y.toNat ∨ (lastW F y m).toNat < x.toNat) ↔ (withinB x n y m = false ∧ withinB y m x n = false) := by
  constructor
  · rintro (h | h)
    · exact ahead_no F x n y m hx hy h
    · exact (ahead_no F y m x n hy hx h).symm
  · rintro ⟨h1, h2⟩
    by_cases c : n ≤ m
    · exact apart_of F x n y m hx hy c h2
    · exact (apart_of F y m x n hy hx (by omega) h1).symm
theorem both_eq (F : Int) (x : BitVec 128) (n : Int) (y : BitVec 128) (m : Int) (hx : Rt F x n) (hy : Rt F y m) : (withinB x n y m && withinB y m x n) = ((x == y) && (n == m)) := by
  rw [Bool.eq_iff_iff]
  simp only [Bool.and_eq_true, within_iff, beq_iff_eq]
  constructor
  · rintro ⟨⟨a, b⟩, c, d⟩
    have e : n = m := by omega
    subst e
    exact ⟨by rw [← d, hy.2.2], rfl⟩
  · rintro ⟨rfl, rfl⟩
    exact ⟨⟨Int.le_refl _, hx.2.2⟩, Int.le_refl _, hx.2.2⟩
theorem within_ends (F : Int) (x : BitVec 128) (n : Int) (y : BitVec 128) (m : Int) (hx : Rt F x n) (hy : Rt F y m) (h : withinB x n y m = true) : ¬ 0 < cmpZ y x ∧ ¬ 0 < cmpZ (lastW F x n) (lastW F y m) := by
  rw [within_iff] at h
  have a : cmpZ y x ≤ 0 := (cmp_le y x).mpr (by rw [← h.2]; exact cut_le x m)
  have hl : cutW (lastW F x n) m = y := by rw [← cut_cut (lastW F x n) m n hy.1 h.1, last_cut F x n hx, h.2]
  have b : cmpZ (lastW F x n) (lastW F y m) ≤ 0 := (cmp_le _ _).mpr (le_last F y m hy _ (last_fam F x n hx) hl)
  exact ⟨by omega, by omega⟩
theorem within_has (F : Int) (x : BitVec 128) (n : Int) (y : BitVec 128) (m : Int) (c : BitVec 128) (hy : Rt F y m) (h : withinB x n y m = true) (hc : (cutW c n == x) = true) : (cutW c m == y) = true := by
  rw [within_iff] at h
  have e : cutW c n = x := by simpa using hc
  have := cut_cut c m n hy.1 h.1
  rw [e, h.2] at this
  simp [← this]
end Go.Proofs.Ytofpbommhklooaa
/-
  Plain facts on numbers: the widest prefixes of a range, one behind the other, are not too many.
-/
namespace Go.Proofs.Ytofpbommhklooaa
open Go.RowKit
set_option linter.unusedSimpArgs false
set_option linter.unusedVariables false

/-- A prefix of 2 to e addresses that begins at a ends ahead of c. -/
def Rs (c a e : Nat) : Prop := 2 ^ e ∣ a ∧ a + 2 ^ e ≤ c
theorem Rs.down {c a e i : Nat} (h : Rs c a e) (hi : i ≤ e) : Rs c a i := by
  have := Nat.pow_le_pow_right (n := 2) (by decide) hi
  exact ⟨Nat.dvd_trans (Nat.pow_dvd_pow 2 hi) h.1, by have := h.2; omega⟩
/-- So many of the widest ones, one behind the other, reach from a to c. -/
inductive Cn (u c : Nat) : Nat → Nat → Prop
  | done : Cn u c c 0
  | step (a e k : Nat) : u ≤ e → Rs c a e → ¬ (e < 128 ∧ Rs c a (e + 1)) → Cn u c (a + 2 ^ e) k → Cn u c a (k + 1)
theorem Cn.none {u c k : Nat} (h : Cn u c c k) : k = 0 := by
  cases h with
  | done => rfl
  | step _ e k h1 h2 h3 h4 => have := h2.2; have := Nat.two_pow_pos e; omega
theorem cn_end (u c : Nat) (hu : 2 ^ u ∣ c) : ∀ d a k, 2 ^ (u + d) ∣ a → a ≤ c → c < a + 2 ^ (u + d) → u + d ≤ 128 → Cn u c a k → k ≤ d := by
  intro d
  induction d with
  | zero =>
    intro a k h1 h2 h3 h5 h4
    have : a = c := by
      obtain ⟨p, hp⟩ := hu
      obtain ⟨q, hq⟩ := h1
      simp only [Nat.add_zero] at *
      have hp' := Nat.two_pow_pos u
      rw [hp, hq] at h3 h2
      have a1 : p < q + 1 := Nat.lt_of_mul_lt_mul_left (a := 2 ^ u) (by rw [Nat.mul_add, Nat.mul_one]; exact h3)
      have a2 : q ≤ p := Nat.le_of_mul_le_mul_left h2 hp'
      rw [hp, hq, show p = q by omega]
    subst this
    rw [h4.none]; omega
  | succ d ih =>
    intro a k h1 h2 h3 h5 h4
    have hpw : 2 ^ (u + (d + 1)) = 2 ^ (u + d) + 2 ^ (u + d) := by rw [← Nat.add_assoc, Nat.pow_succ]; omega
    have h1' : 2 ^ (u + d) ∣ a := Nat.dvd_trans (Nat.pow_dvd_pow 2 (by omega)) h1
    by_cases hc : c < a + 2 ^ (u + d)
    · have := ih a k h1' h2 hc (by omega) h4; omega
    · cases h4 with
      | done => omega
      | step _ e k g1 g2 g3 g4 =>
        have e1 : ¬ u + d + 1 ≤ e := by
          intro q
          have := (g2.down q).2
          rw [show u + d + 1 = u + (d + 1) by omega] at this
          omega
        have e2 : ¬ e < u + d := by
          intro q
          exact g3 ⟨by omega, Rs.down ⟨h1', by omega⟩ q⟩
        have e3 : e = u + d := by omega
        subst e3
        have := ih (a + 2 ^ (u + d)) k (Nat.dvd_add h1' (Nat.dvd_refl _)) (by omega) (by omega) (by omega) g4
        omega
theorem cn_up (u c m j : Nat) (hm : 2 ^ j ∣ m) (hmc : m ≤ c) (hj : j ≤ 128) : ∀ d t a k, t + d = j → u ≤ t → a ≤ m → 2 ^ t ∣ m - a → m - a < 2 ^ j → Cn u c a k → ∃ k', Cn u c m k' ∧ k ≤ d + k' := by
  intro d
  induction d with
  | zero =>
    intro t a k ht hu ha h1 h2 h3
    have : m - a = 0 := Nat.eq_zero_of_dvd_of_lt h1 (by rw [show t = j by omega]; exact h2)
    have : a = m := by omega
    subst this
    exact ⟨k, h3, by omega⟩
  | succ d ih =>
    intro t a k ht hu ha h1 h2 h3
    by_cases hd : 2 ^ (t + 1) ∣ m - a
    · obtain ⟨k', p, q⟩ := ih (t + 1) a k (by omega) (by omega) ha hd h2 h3
      exact ⟨k', p, by omega⟩
    · have ham : a < m := by
        rcases Nat.lt_or_ge a m with q | q
        · exact q
        · exact absurd (by rw [show m - a = 0 by omega]; exact Nat.dvd_zero _) hd
      have hta : 2 ^ t ∣ a := by
        have : 2 ^ t ∣ m := Nat.dvd_trans (Nat.pow_dvd_pow 2 (by omega)) hm
        exact (Nat.dvd_sub_iff_right ha this).mp h1
      have hna : ¬ 2 ^ (t + 1) ∣ a := by
        intro q
        have : 2 ^ (t + 1) ∣ m := Nat.dvd_trans (Nat.pow_dvd_pow 2 (by omega)) hm
        exact hd (Nat.dvd_sub this q)
      have hle : 2 ^ t ≤ m - a := Nat.le_of_dvd (by omega) h1
      cases h3 with
      | done => omega
      | step _ e k g1 g2 g3 g4 =>
        have e1 : ¬ t + 1 ≤ e := fun q => hna (g2.down q).1
        have e2 : ¬ e < t := fun q => g3 ⟨by omega, Rs.down ⟨hta, by omega⟩ q⟩
        have e3 : e = t := by omega
        subst e3
        obtain ⟨p, hp⟩ := h1
        have hodd : p % 2 = 1 := by
          rcases Nat.mod_two_eq_zero_or_one p with q | q
          · exact absurd ⟨p / 2, by rw [hp, Nat.pow_succ, Nat.mul_assoc]; congr 1; omega⟩ hd
          · exact q
        obtain ⟨k', x, y⟩ := ih (e + 1) (a + 2 ^ e) k (by omega) (by omega) (by omega) ⟨p / 2, by
          rw [show m - (a + 2 ^ e) = (m - a) - 2 ^ e by omega, hp, Nat.pow_succ, Nat.mul_assoc, show 2 * (p / 2) = p - 1 by omega, Nat.mul_sub, Nat.mul_one]⟩ (by omega) g4
        exact ⟨k', x, by omega⟩
theorem split_at (a c : Nat) (h : a < c) : ∀ N, a / 2 ^ N = c / 2 ^ N → ∃ j q, j < N ∧ 2 * q * 2 ^ j ≤ a ∧ a < (2 * q + 1) * 2 ^ j ∧ (2 * q + 1) * 2 ^ j ≤ c ∧ c < (2 * q + 2) * 2 ^ j := by
  intro N
  induction N with
  | zero => intro e; simp at e; omega
  | succ N ih =>
    intro e
    by_cases f : a / 2 ^ N = c / 2 ^ N
    · obtain ⟨j, q, h1, h2⟩ := ih f
      exact ⟨j, q, by omega, h2⟩
    · have hp := Nat.two_pow_pos N
      rw [Nat.pow_succ, ← Nat.div_div_eq_div_mul, ← Nat.div_div_eq_div_mul] at e
      have m : a / 2 ^ N ≤ c / 2 ^ N := Nat.div_le_div_right (by omega)
      have ea : a / 2 ^ N = 2 * (a / 2 ^ N / 2) := by omega
      have ec : c / 2 ^ N = 2 * (a / 2 ^ N / 2) + 1 := by omega
      generalize a / 2 ^ N / 2 = q at *
      refine ⟨N, q, by omega, ?_, ?_, ?_, ?_⟩
      · rw [← ea]; exact Nat.div_mul_le_self _ _
      · have := Nat.lt_div_mul_add (a := a) hp
        rw [ea] at this; rw [Nat.add_mul, Nat.one_mul]; omega
      · rw [← ec]; exact Nat.div_mul_le_self _ _
      · have := Nat.lt_div_mul_add (a := c) hp
        rw [ec] at this; rw [show 2 * q + 2 = (2 * q + 1) + 1 by omega, Nat.add_mul (2 * q + 1), Nat.one_mul]; omega
/-- Not too many. -/
theorem cn_most (u c a k : Nat) (hu : u + 2 ≤ 128) (hua : 2 ^ u ∣ a) (huc : 2 ^ u ∣ c) (hac : a < c) (hc : c ≤ 2 ^ 128) (h : Cn u c a k) : k ≤ 2 * (128 - u) - 2 := by
  by_cases hw : c = 2 ^ 128
  · subst hw
    by_cases h0 : a = 0
    · subst h0
      cases h with
      | step _ e k g1 g2 g3 g4 =>
        have e1 : e = 128 := by
          rcases Nat.lt_or_ge e 128 with q | q
          · exact absurd ⟨q, Nat.dvd_zero _, by have := Nat.pow_le_pow_right (n := 2) (by decide) (show e + 1 ≤ 128 by omega); omega⟩ g3
          · have := g2.2
            have : 2 ^ e ≤ 2 ^ 128 := by omega
            have := (Nat.pow_le_pow_iff_right (a := 2) (by decide)).mp this
            omega
        subst e1
        rw [Nat.zero_add] at g4
        have := g4.none
        omega
    · obtain ⟨k', p, q⟩ := cn_up u (2 ^ 128) (2 ^ 128) 128 (Nat.dvd_refl _) (Nat.le_refl _) (by omega) (128 - u) u a k (by omega) (by omega) (by omega) (Nat.dvd_sub huc hua) (by omega) h
      have := p.none
      omega
  · obtain ⟨j, q, h1, h2, h3, h4, h5⟩ := split_at a c hac 128 (by rw [Nat.div_eq_of_lt (by omega), Nat.div_eq_of_lt (by omega)])
    have huj : u ≤ j := by
      rcases Nat.lt_or_ge j u with x | x
      · exfalso
        have hp := Nat.two_pow_pos j
        have hd : 2 ^ (j + 1) ∣ 2 ^ u := Nat.pow_dvd_pow 2 (by omega)
        obtain ⟨t, ht⟩ := Nat.dvd_trans hd huc
        rw [ht, show 2 ^ (j + 1) * t = 2 * t * 2 ^ j by rw [Nat.pow_succ, Nat.mul_assoc, Nat.mul_comm]] at h4 h5
        have b3 := Nat.le_of_mul_le_mul_right h4 hp
        have b4 := Nat.lt_of_mul_lt_mul_right h5
        omega
      · exact x
    have hs : (2 * q + 1) * 2 ^ j = 2 * q * 2 ^ j + 2 ^ j := by rw [Nat.add_mul, Nat.one_mul]
    have hs2 : (2 * q + 2) * 2 ^ j = (2 * q + 1) * 2 ^ j + 2 ^ j := by rw [show 2 * q + 2 = (2 * q + 1) + 1 by omega, Nat.add_mul (2 * q + 1), Nat.one_mul]
    have hdm : 2 ^ j ∣ (2 * q + 1) * 2 ^ j := Nat.dvd_mul_left _ _
    have hda : 2 ^ j ∣ 2 * q * 2 ^ j := Nat.dvd_mul_left _ _
    generalize hm : (2 * q + 1) * 2 ^ j = m at *
    generalize ha0 : 2 * q * 2 ^ j = a0 at *
    have tailm : ∀ k', Cn u c m k' → k' ≤ j - u := fun k' hk' => cn_end u c huc (j - u) m k' (by rw [show u + (j - u) = j by omega]; exact hdm) h4 (by rw [show u + (j - u) = j by omega]; omega) (by omega) hk'
    by_cases hr : a = a0
    · subst hr
      cases h with
      | done => omega
      | step _ e k g1 g2 g3 g4 =>
        have e1 : ¬ j + 1 ≤ e := by
          intro x
          have := (g2.down x).2
          rw [Nat.pow_succ] at this
          omega
        have e2 : ¬ e < j := fun x => g3 ⟨by omega, Rs.down ⟨hda, by omega⟩ x⟩
        have e3 : e = j := by omega
        subst e3
        rw [← hs] at g4
        have := tailm k g4
        omega
    · obtain ⟨k', p, r⟩ := cn_up u c m j hdm h4 (by omega) (j - u) u a k (by omega) (by omega) (by omega) (Nat.dvd_sub (Nat.dvd_trans (Nat.pow_dvd_pow 2 huj) hdm) hua) (by omega) h
      have := tailm k' p
      omega
end Go.Proofs.Ytofpbommhklooaa
/-
  Plain numbers: the sum of a word's bits, place by place; the noughts behind the last bit that is set.
-/
namespace Go.Proofs.Ytofpbommhklooaa
open Go.RowKit
set_option linter.unusedSimpArgs false
set_option linter.unusedVariables false

def bs : Nat → Nat → Nat
  | 0, _ => 0
  | k + 1, x => bs k x + x / 2 ^ k % 2
theorem bs_add (m : Nat) (x : Nat) : ∀ k, bs (m + k) x = bs m x + bs k (x / 2 ^ m) := by
  intro k
  induction k with
  | zero => simp [bs]
  | succ k ih =>
    have e : x / 2 ^ (m + k) = x / 2 ^ m / 2 ^ k := by rw [Nat.pow_add, Nat.div_div_eq_div_mul]
    rw [← Nat.add_assoc]; simp only [bs]; rw [ih, e]; omega
theorem bs8 (x : Nat) : bs 8 x = ocB (x % 256) := by
  simp only [bs, ocB]; omega
theorem oc_bs (k : Nat) : ∀ x, oc k x = bs (8 * k) x := by
  induction k with
  | zero => intro x; rfl
  | succ k ih =>
    intro x
    have e : 8 * (k + 1) = 8 + 8 * k := by omega
    rw [e, bs_add, bs8]; simp only [oc]; rw [ih]
theorem bs_modn (n : Nat) : ∀ k x, k ≤ n → bs k (x % 2 ^ n) = bs k x := by
  intro k
  induction k with
  | zero => intro x _; rfl
  | succ k ih =>
    intro x h
    simp only [bs]; rw [ih x (by omega)]
    have : x % 2 ^ n / 2 ^ k % 2 = x / 2 ^ k % 2 := by
      have e : n = k + (n - k) := by omega
      rw [e, Nat.pow_add, Nat.mod_mul_right_div_self]
      have e2 : n - k = 1 + (n - k - 1) := by omega
      rw [e2, Nat.pow_add]
      exact Nat.mod_mul_right_mod _ _ _
    omega
theorem bs_mod (n : Nat) (x : Nat) : bs n (x % 2 ^ n) = bs n x := bs_modn n n x (Nat.le_refl _)
/-- The sum of the first k bits from the front. -/
def fs (x : BitVec 128) : Nat → Nat
  | 0 => 0
  | k + 1 => fs x k + (bitZ x (k : Int)).toNat
theorem bit_at (x : BitVec 128) (k : Nat) (h : k < 128) : (bitZ x (k : Int)).toNat = x.toNat / 2 ^ (127 - k) % 2 := by
  unfold bitZ
  rw [bitB_in x k (by omega) (by omega)]
  have e : (127 - (k : Int)).toNat = 127 - k := by omega
  rw [e]
  unfold BitVec.getLsbD; rw [Nat.testBit_eq_decide_div_mod_eq]
  by_cases c : x.toNat / 2 ^ (127 - k) % 2 = 1
  · simp [c]
  · simp [c]; omega
theorem fs_bs (x : BitVec 128) : ∀ k, k ≤ 128 → fs x k = bs k (x.toNat / 2 ^ (128 - k)) := by
  intro k
  induction k with
  | zero => intro _; rfl
  | succ k ih =>
    intro hk
    have e1 : 128 - k = (128 - (k + 1)) + 1 := by omega
    have e2 : 127 - k = 128 - (k + 1) := by omega
    have e3 : k + 1 = 1 + k := by omega
    simp only [fs]; rw [ih (by omega), bit_at x k (by omega), e2, e1, Nat.pow_succ, ← Nat.div_div_eq_div_mul]
    rw [e3, bs_add]
    simp [bs]; omega
theorem ones_fs (x : BitVec 128) : onesN x = fs x 128 := by
  rw [fs_bs x 128 (Nat.le_refl _)]
  unfold onesN
  rw [oc_bs, oc_bs, hvN, lvN]
  have e := bs_add 64 x.toNat 64
  have l : bs 64 (x.toNat % 18446744073709551616) = bs 64 x.toNat := by
    have := bs_mod 64 x.toNat
    exact this
  simp only [Nat.sub_self, Nat.pow_zero, Nat.div_one]
  show bs 64 (x.toNat / 18446744073709551616) + bs 64 (x.toNat % 18446744073709551616) = bs (64 + 64) x.toNat
  have p : (2 : Nat) ^ 64 = 18446744073709551616 := by decide
  rw [p] at e
  rw [e, l]; omega
/-- How many noughts stand last. -/
def trailN (x : BitVec 128) : Nat := Lib.ctz 128 x.toNat
theorem odd_uniq (a b : Nat) : ∀ k c, 2 ^ k * (2 * a + 1) = 2 ^ c * (2 * b + 1) → k = c := by
  intro k
  induction k with
  | zero =>
    intro c h
    cases c with
    | zero => rfl
    | succ c => rw [Nat.pow_succ, Nat.mul_comm (2 ^ c) 2, Nat.mul_assoc] at h; omega
  | succ k ih =>
    intro c h
    cases c with
    | zero => rw [Nat.pow_succ, Nat.mul_comm (2 ^ k) 2, Nat.mul_assoc] at h; omega
    | succ c =>
      rw [Nat.pow_succ, Nat.mul_comm (2 ^ k) 2, Nat.mul_assoc, Nat.pow_succ, Nat.mul_comm (2 ^ c) 2, Nat.mul_assoc] at h
      rw [ih c (by omega)]
theorem ctz_char (n x k : Nat) (hx : 0 < x) (hn : x < 2 ^ n) (h1 : x % 2 ^ k = 0) (h2 : x / 2 ^ k % 2 = 1) : Lib.ctz n x = k := by
  obtain ⟨m, hm, _⟩ := Lib.ctzFrom_spec n x hx hn
  have e : x = 2 ^ k * (2 * (x / 2 ^ k / 2) + 1) := by
    have h3 : 2 * (x / 2 ^ k / 2) + 1 = x / 2 ^ k := by omega
    rw [h3]
    have := Nat.div_add_mod x (2 ^ k)
    omega
  unfold Lib.ctz
  rw [if_neg (by omega)]
  exact odd_uniq m _ _ _ (hm.symm.trans e)
theorem trail_char (x : BitVec 128) (k : Nat) (hk : k ≤ 128) (h1 : x.toNat % 2 ^ k = 0) (h2 : k = 128 ∨ x.toNat / 2 ^ k % 2 = 1) : trailN x = k := by
  unfold trailN
  by_cases h0 : x.toNat = 0
  · rcases h2 with h2 | h2
    · unfold Lib.ctz; rw [if_pos h0, h2]
    · rw [h0] at h2; simp at h2
  · rcases h2 with h2 | h2
    · subst h2
      have := x.isLt
      rw [Nat.mod_eq_of_lt this] at h1; omega
    · exact ctz_char 128 x.toNat k (by omega) x.isLt h1 h2
theorem trail_step (x : BitVec 128) (k : Nat) (h1 : x.toNat % 2 ^ k = 0) (h2 : x.toNat / 2 ^ k % 2 = 0) : x.toNat % 2 ^ (k + 1) = 0 := by
  rw [Nat.pow_succ, Nat.mod_mul, h1, h2]; simp
theorem trail_lo (x : BitVec 128) (h : ¬ lI x = 0) : Lib.ctz 64 (lI x).toNat = trailN x := by
  have e : (lI x).toNat = x.toNat % 2 ^ 64 := by rw [lIN]; rfl
  have hp := lI_lo x
  have h0 : 0 < x.toNat % 2 ^ 64 := by omega
  obtain ⟨m, hm, hk⟩ := Lib.ctzFrom_spec 64 (x.toNat % 2 ^ 64) h0 (Nat.mod_lt _ (by decide))
  rw [e]
  have ec : Lib.ctz 64 (x.toNat % 2 ^ 64) = Lib.ctzFrom 64 (x.toNat % 2 ^ 64) := by unfold Lib.ctz; rw [if_neg (by omega)]
  rw [ec]
  generalize Lib.ctzFrom 64 (x.toNat % 2 ^ 64) = k at *
  have hd : x.toNat = 2 ^ 64 * (x.toNat / 2 ^ 64) + x.toNat % 2 ^ 64 := (Nat.div_add_mod _ _).symm
  have p64 : 2 ^ 64 = 2 ^ k * (2 * 2 ^ (63 - k)) := by
    have : 2 * 2 ^ (63 - k) = 2 ^ (64 - k) := by rw [Nat.mul_comm, ← Nat.pow_succ]; congr 1; omega
    rw [this, ← Nat.pow_add]; congr 1; omega
  have hq : x.toNat = 2 ^ k * (2 * (2 ^ (63 - k) * (x.toNat / 2 ^ 64) + m) + 1) := by
    have e1 : 2 ^ k * (2 * (2 ^ (63 - k) * (x.toNat / 2 ^ 64) + m) + 1) = 2 ^ k * (2 * 2 ^ (63 - k)) * (x.toNat / 2 ^ 64) + 2 ^ k * (2 * m + 1) := by
      rw [Nat.mul_assoc, ← Nat.mul_add]; congr 1
      rw [Nat.mul_add, Nat.mul_assoc]; omega
    rw [e1, ← p64, ← hm]; exact hd
  have hpk : 0 < 2 ^ k := Nat.two_pow_pos k
  symm
  apply trail_char x k (by omega)
  · rw [hq]; exact Nat.mul_mod_right _ _
  · right; rw [hq, Nat.mul_div_cancel_left _ hpk]; omega
theorem trail_hi (x : BitVec 128) (h : lI x = 0) (h' : ¬ hI x = 0) : 64 + Lib.ctz 64 (hI x).toNat = trailN x := by
  have e : (hI x).toNat = x.toNat / 2 ^ 64 := by rw [hIN]; rfl
  have l : x.toNat % 2 ^ 64 = 0 := by rw [lIN] at h; omega
  have hp := hI_lo x
  have hx := x.isLt
  have h0 : 0 < x.toNat / 2 ^ 64 := by omega
  have hb : x.toNat / 2 ^ 64 < 2 ^ 64 := by omega
  obtain ⟨m, hm, hk⟩ := Lib.ctzFrom_spec 64 (x.toNat / 2 ^ 64) h0 hb
  rw [e]
  have ec : Lib.ctz 64 (x.toNat / 2 ^ 64) = Lib.ctzFrom 64 (x.toNat / 2 ^ 64) := by unfold Lib.ctz; rw [if_neg (by omega)]
  rw [ec]
  generalize Lib.ctzFrom 64 (x.toNat / 2 ^ 64) = k at *
  have hd : x.toNat = 2 ^ 64 * (x.toNat / 2 ^ 64) := by have := Nat.div_add_mod x.toNat (2 ^ 64); omega
  have hq : x.toNat = 2 ^ (64 + k) * (2 * m + 1) := by rw [Nat.pow_add, Nat.mul_assoc, ← hm]; exact hd
  have hpk : 0 < 2 ^ (64 + k) := Nat.two_pow_pos _
  symm
  apply trail_char x (64 + k) (by omega)
  · rw [hq]; exact Nat.mul_mod_right _ _
  · right; rw [hq, Nat.mul_div_cancel_left _ hpk]; omega
theorem trail_0 (x : BitVec 128) (h : lI x = 0) (h' : hI x = 0) : trailN x = 128 := by
  have : x.toNat = 0 := by rw [lIN] at h; rw [hIN] at h'; omega
  unfold trailN Lib.ctz; rw [if_pos this]
theorem trail_le (x : BitVec 128) : trailN x ≤ 128 := by
  unfold trailN
  by_cases h : x.toNat = 0
  · unfold Lib.ctz; rw [if_pos h]; omega
  · obtain ⟨m, hm, hk⟩ := Lib.ctzFrom_spec 128 x.toNat (by omega) x.isLt
    unfold Lib.ctz; rw [if_neg h]; omega
theorem tz_key (x a : Nat) (hx : x < 18446744073709551616) (hx0 : x ≠ 0) (hlow : x &&& (18446744073709551616 - x) = a) :
    IntKind.u64.wrap (bits BinOp.and IntKind.u64 (x : Int) (IntKind.u64.wrap (-(x : Int))) * 285870213051353865) / 288230376151711744 = ((a * 285870213051353865 % 18446744073709551616 / 288230376151711744 : Nat) : Int) := by
  have wu : ∀ n : Int, IntKind.u64.wrap n = n % 18446744073709551616 := fun n => by simp [IntKind.wrap, IntKind.bits, IntKind.signed]
  have e1 : IntKind.u64.wrap (-(x : Int)) = ((18446744073709551616 - x : Nat) : Int) := by rw [wu]; omega
  rw [e1, bits_and_u64_nat x _ hx (by omega), hlow, wu]
  omega
end Go.Proofs.Ytofpbommhklooaa
/-
  What a call of package word's Ones does.
-/
namespace Go.Proofs.Ytofpbommhklooaa
open Go.RowKit
set_option linter.unusedSimpArgs false
set_option linter.unusedVariables false

theorem ones_end (a b : Nat) (h1 : a ≤ 64) (h2 : b ≤ 64) : IntKind.i64.wrap ((a : Int) + b) = ((a + b : Nat) : Int) := by
  rw [IntKind.wrap_i64]; omega
/-- How many bits are set in the number. -/
def ocI (v : Int) : Int := ((oc 8 v.toNat : Nat) : Int)
theorem ocI_bd (v : Int) : 0 ≤ ocI v ∧ ocI v ≤ 64 := by
  have := oc_le 8 v.toNat
  unfold ocI; omega

end Go.Proofs.Ytofpbommhklooaa
/-
  What the calls of Ones and Trail do, in turnpikeref1 and in package word.
-/
namespace Go.Proofs.Ytofpbommhklooaa
open Go.RowKit
set_option linter.unusedSimpArgs false
set_option linter.unusedVariables false

theorem fs_le (x : BitVec 128) : ∀ k, fs x k ≤ k := by
  intro k
  induction k with
  | zero => exact Nat.le_refl _
  | succ k ih => simp only [fs]; rcases bitZ_01 x (k : Int) with h | h <;> rw [h] <;> simp <;> omega
theorem fs_next (x : BitVec 128) (k : Nat) : ((fs x k : Nat) : Int) + bitZ x (k : Int) = ((fs x (k + 1) : Nat) : Int) := by
  simp only [fs]; rcases bitZ_01 x (k : Int) with h | h <;> rw [h] <;> simp

end Go.Proofs.Ytofpbommhklooaa
