/-
  Part 21 of the proof: 1 texts, one behind the other.
-/
import Derived.Test.YtoejhhoniflpeaaPart19
import Derived.Test.YtoejhhoniflpeaaPart20
import Derived.Test.YtoejhhoniflpeaaPart13
/-
  What the questions of a table's tree tell: a node's prefix, a prefix's node, the way of an address.
-/
namespace Go.Proofs.Ytoejhhoniflpeaa
open Go.RowKit Go.Shelf
set_option linter.unusedSimpArgs false
set_option linter.unusedVariables false

/-- The tree of a right table. -/
structure Ctx (F : Int) (l : List Rte) (ws : List (BitVec 128)) (L : List Nd) : Prop where
  t : Tre l ws L
  fm : F = 32 ∨ F = 128
  rr : ∀ r ∈ l, RtH F r
  ll : l.length ≤ 1048576
  od : OrdR l
theorem right_zero {F : Int} {l : List Rte} (h : RightT F l) : TabE F l 0 := ⟨fun q => absurd h.2.1 q, fun _ => .inl ⟨h.2.2, rfl⟩⟩
section
variable {F : Int} {l : List Rte} {ws : List (BitVec 128)} {L : List Nd}
theorem Ctx.of (t : Tre l ws L) (h : TabE F l 0) : Ctx F l ws L := by
  obtain ⟨a, b, c, d⟩ := tab8_ok h
  exact ⟨t, a, c, b, d⟩
theorem Ctx.fam (c : Ctx F l ws L) : fam F = true := by rcases c.fm with rfl | rfl <;> decide
theorem Ctx.F0 (c : Ctx F l ws L) : 0 ≤ F ∧ F ≤ 128 := by rcases c.fm with rfl | rfl <;> omega
theorem Ctx.lnF (c : Ctx F l ws L) {i : Nat} (h : i < L.length) : 0 ≤ ln L i ∧ ln L i ≤ F := ⟨(c.t.ln128 h).1, (c.t.nf F c.F0.1 (fun r hr => (c.rr r hr).1.2.1)).2 i h⟩
theorem Ctx.ok (c : Ctx F l ws L) : ∀ x ∈ L, x.ok := c.t.ok c.ll
theorem Ctx.len (c : Ctx F l ws L) : L.length ≤ 134217729 := by have := c.t.nl; have := c.ll; omega
theorem Ctx.ad_mem (c : Ctx F l ws L) {i : Nat} (h : i < L.length) : ad ws L i ∈ ws := by
  have b := (c.t.inv.bnd i h).2.1
  unfold ad
  rw [List.getD_eq_getElem?_getD, List.getElem?_eq_getElem (by omega)]
  exact List.getElem_mem _
theorem Ctx.adF (c : Ctx F l ws L) {i : Nat} (h : i < L.length) : cutW (ad ws L i) F = ad ws L i := c.t.wfam c.F0.1 c.rr _ (c.ad_mem h)
/-- A node's prefix is right. -/
theorem Ctx.chk (c : Ctx F l ws L) {i : Nat} (h : i < L.length) : checkE F (pfA ws L i) (ln L i) = 0 := by
  have b := c.lnF h
  refine check_in c.fam b.1 b.2 ?_
  unfold pfA
  rw [cut_cut2 _ _ _ b.1 (Int.le_refl _)]
theorem Ctx.inn (c : Ctx F l ws L) {i : Nat} (h : i < L.length) : InN ws L (pfA ws L i) i := by
  unfold InN pfA
  rw [cut_cut2 _ _ _ (c.lnF h).1 (Int.le_refl _)]
theorem tat8_any (c : Ctx F l ws L) (B g cap wg wc k : Nat) (w : World) (h : TrT w B F g cap wg wc L ws) (hk : k < L.length) :
    Calls Try.prog 13 #[.pointer (some ⟨B, 0, none⟩), .int .i64 (k : Int)] w fun e w' => e = .returned (.tuple #[.agg #[.int .u64 (hI (pfA ws L k)), .int .u64 (lI (pfA ws L k)), .int .i64 (ln L k)], .bool true]) ∧ Below w.heap.size w w' := by
  have b := (c.t.inv.bnd k hk).2.1
  have e : nd8 L k = L[k] := nd8_in hk
  rw [e] at b
  have hjl : L[k].word.toNat < ws.length := by omega
  have KA := tat_any B F g cap wg ws.length wc L k L[k].word.toNat ws[L[k].word.toNat] w h.tn hk (c.ok _ (List.getElem_mem hk)) (by omega) hjl (h.wd _ hjl).1 (h.wd _ hjl).2
  have ea : ws[L[k].word.toNat] = ad ws L k := by
    unfold ad
    rw [e, List.getD_eq_getElem?_getD, List.getElem?_eq_getElem hjl]; rfl
  have el : L[k].length = ln L k := by unfold ln; rw [e]
  obtain ⟨o1, o2⟩ := of_in c.fam (c.lnF hk).1 (c.lnF hk).2 (c.adF hk)
  rw [ea, el, o1, o2] at KA
  exact KA
theorem tfind8_any (c : Ctx F l ws L) (B g cap wg wc : Nat) (x : BitVec 128) (pl : Int) (w : World) (h : TrT w B F g cap wg wc L ws) :
    Calls Try.prog 23 #[.pointer (some ⟨B, 0, none⟩), .agg #[.int .u64 (hI x), .int .u64 (lI x), .int .i64 pl]] w fun e w' => (∃ m : Int, e = .returned (.int .i64 m) ∧ ((∃ i : Nat, m = (i : Int) ∧ i < L.length ∧ ln L i = pl ∧ pfA ws L i = x) ∨ (m = -1 ∧ ∀ i, i < L.length → ln L i = pl → pfA ws L i ≠ x))) ∧ Below w.heap.size w w' := by
  obtain ⟨N, wq⟩ := c.t.path x
  have wt := wq.to
  rw [Int.natCast_zero] at wt
  have KF := tfind_any (N + 1) B F g cap (.slice (some ⟨wg, 0, none⟩) ws.length wc) L x pl (fun _ => wt) w h.tn c.t.pos c.ok (by have := c.len; omega)
  refine KF.mono ?_
  rintro e w' ⟨rfl, hb⟩
  refine ⟨⟨_, rfl, ?_⟩, hb⟩
  by_cases hc : checkE F x pl = 0
  · obtain ⟨-, -, -, hx⟩ := check_out hc
    rw [if_pos hc]
    unfold pthL
    rw [if_pos (check_fam hc)]
    rcases c.t.find wq pl with ⟨m, q1, q2, q3, q4⟩ | ⟨q1, q2⟩
    · refine .inl ⟨m, q4, q1, q2, ?_⟩
      unfold InN at q3
      unfold pfA
      rw [← q3, q2, hx]
    · refine .inr ⟨q1, fun i hi hl he => q2 i hi hl ?_⟩
      unfold InN
      unfold pfA at he
      rw [he, hl, hx]
  · rw [if_neg hc]
    refine .inr ⟨rfl, fun i hi hl he => hc ?_⟩
    have := c.chk hi
    rwa [he, hl] at this
theorem Ctx.uniqP (c : Ctx F l ws L) {i j : Nat} (hi : i < L.length) (hj : j < L.length) (hl : ln L i = ln L j) (h : pfA ws L i = pfA ws L j) : i = j := by
  refine c.t.uniq (x := pfA ws L i) hi hj hl (c.inn hi) ?_
  rw [h]; exact c.inn hj
/-- The node of a node's prefix is it. -/
theorem tfindAt_any (c : Ctx F l ws L) (B g cap wg wc k : Nat) (w : World) (h : TrT w B F g cap wg wc L ws) (hk : k < L.length) :
    Calls Try.prog 23 #[.pointer (some ⟨B, 0, none⟩), .agg #[.int .u64 (hI (pfA ws L k)), .int .u64 (lI (pfA ws L k)), .int .i64 (ln L k)]] w fun e w' => e = .returned (.int .i64 (k : Int)) ∧ Below w.heap.size w w' := by
  refine (tfind8_any c B g cap wg wc (pfA ws L k) (ln L k) w h).mono ?_
  rintro e w' ⟨⟨m, rfl, hm⟩, hb⟩
  rcases hm with ⟨i, rfl, q1, q2, q3⟩ | ⟨-, q⟩
  · rw [c.uniqP q1 hk q2 q3]; exact ⟨rfl, hb⟩
  · exact absurd rfl (q k hk rfl)
/-- The node of a route's prefix. -/
theorem tfindR_any (c : Ctx F l ws L) (B g cap wg wc : Nat) (r : Rte) (hr : r ∈ l) (w : World) (h : TrT w B F g cap wg wc L ws) :
    Calls Try.prog 23 #[.pointer (some ⟨B, 0, none⟩), .agg #[.int .u64 (hI r.1.1), .int .u64 (lI r.1.1), .int .i64 r.1.2]] w fun e w' => (∃ m : Nat, e = .returned (.int .i64 (m : Int)) ∧ m < L.length ∧ (ndAt L (m : Int)).hop = r.2) ∧ Below w.heap.size w w' := by
  refine (tfind8_any c B g cap wg wc r.1.1 r.1.2 w h).mono ?_
  rintro e w' ⟨⟨m, rfl, hm⟩, hb⟩
  obtain ⟨i, q1, q2, q3⟩ := c.t.hasr hr
  have hx := (c.rr r hr).1.2.2
  rcases hm with ⟨j, rfl, p1, p2, p3⟩ | ⟨-, q⟩
  · refine ⟨⟨j, rfl, p1, ?_⟩, hb⟩
    rw [nd8_at p1]
    refine c.t.route hr p1 p2 ?_
    rw [← p3]; exact c.inn p1
  · refine absurd ?_ (q i q1 q2)
    unfold InN at q3
    unfold pfA
    rw [← q3, q2, hx]
end
/-- What a law knows: the tree, the table's variable, what stays. -/
def CT8 (w : World) (F : Int) (v : Value) (B g cap wg wc : Nat) (L : List Nd) (ws : List (BitVec 128)) (X : World) : Prop := TrT X B F g cap wg wc L ws ∧ AtT X w.heap.size F v ∧ Below w.heap.size w X
theorem CT8.below {w X Y : World} {F : Int} {v : Value} {B g cap wg wc : Nat} {L : List Nd} {ws : List (BitVec 128)} (k : CT8 w F v B g cap wg wc L ws X) (hb : Below X.heap.size X Y) : CT8 w F v B g cap wg wc L ws Y := ⟨k.1.below hb, k.2.1.below hb, keepb hb k.2.2⟩
end Go.Proofs.Ytoejhhoniflpeaa
