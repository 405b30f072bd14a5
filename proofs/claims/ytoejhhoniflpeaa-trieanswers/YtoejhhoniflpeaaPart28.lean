/-
  Part 28 of the proof: 2 texts, one behind the other.
-/
import Derived.Test.YtoejhhoniflpeaaPart23
import Derived.Test.YtoejhhoniflpeaaPart24
import Derived.Test.YtoejhhoniflpeaaPart27
import Derived.Test.YtoejhhoniflpeaaRows
import Derived.ProofKit
import Derived.Lib.SmallJoins
/-
  The law TrieAnswers.
-/
namespace Go.Proofs.Ytoejhhoniflpeaa
open Go.RowKit Go.Shelf
set_option linter.unusedSimpArgs false
set_option linter.unusedVariables false
attribute [local go_sem] Oper.semAt_some

theorem blk_kept {W W' : World} {z : Nat} {cs : Array Value} {T : TypeId} (h : W.heap[z]? = some (.cells cs T)) {row : Option Nat} (hg : W.grownBy W' row) (hr : ∀ r, row = some r → ∃ o : Obj, W.heap[r]? = some o ∧ o.isCells = false) : W'.heap[z]? = some (.cells cs T) := by
  rw [hg.block z (blk_lt h) (fun e => ?_)]
  · exact h
  · obtain ⟨o, h1, h2⟩ := hr z e.symm
    rw [h] at h1
    cases h1
    cases h2
theorem TrT.kept {W W' : World} {B : Nat} {F : Int} {g cap wg wc : Nat} {L : List Nd} {ws : List (BitVec 128)} (k : TrT W B F g cap wg wc L ws) {row : Option Nat} (hg : W.grownBy W' row) (hr : ∀ r, row = some r → ∃ o : Obj, W.heap[r]? = some o ∧ o.isCells = false) : TrT W' B F g cap wg wc L ws := ⟨k.tn.kept hg hr, fun j hj => ⟨cell_kept (k.wd j hj).1 hg hr, cell_kept (k.wd j hj).2 hg hr⟩⟩
theorem TrT.heap {W W' : World} {B : Nat} {F : Int} {g cap wg wc : Nat} {L : List Nd} {ws : List (BitVec 128)} (k : TrT W B F g cap wg wc L ws) (e1 : W'.heap[B]? = W.heap[B]?) (e2 : W'.heap[g]? = W.heap[g]?) (e3 : W'.heap[wg]? = W.heap[wg]?) : TrT W' B F g cap wg wc L ws := ⟨k.tn.heap e1 e2, fun j hj => by rw [cellB e3, cellB e3]; exact k.wd j hj⟩
/-- The law's variables: the table, the word, the answer, the tree. -/
structure V8 (w : World) (F : Int) (v : Value) (x : BitVec 128) (r : Bool) (B X : Nat) (W : World) : Prop where
  t : W.heap[w.heap.size]? = some (.cells #[.int .i64 F, v] 24)
  x : W.heap[w.heap.size + 1]? = some (.cells #[.int .u64 (hI x), .int .u64 (lI x)] 37)
  r : W.heap[w.heap.size + 2]? = some (.cells #[.bool r] 4)
  p : W.heap[X]? = some (.cells #[.pointer (some ⟨B, 0, none⟩)] 26)
section
variable {w W W' : World} {F : Int} {v : Value} {x : BitVec 128} {r : Bool} {B X : Nat}
theorem V8.below (k : V8 w F v x r B X W) (hb : Below W.heap.size W W') : V8 w F v x r B X W' := ⟨(hb.block _ (blk_lt k.t)).trans k.t, (hb.block _ (blk_lt k.x)).trans k.x, (hb.block _ (blk_lt k.r)).trans k.r, (hb.block _ (blk_lt k.p)).trans k.p⟩
theorem V8.kept (k : V8 w F v x r B X W) {row : Option Nat} (hg : W.grownBy W' row) (hr : ∀ r, row = some r → ∃ o : Obj, W.heap[r]? = some o ∧ o.isCells = false) : V8 w F v x r B X W' := ⟨blk_kept k.t hg hr, blk_kept k.x hg hr, blk_kept k.r hg hr, blk_kept k.p hg hr⟩
theorem V8.set (k : V8 w F v x r B X W) {z o : Nat} (u : Value) (h1 : w.heap.size ≠ z) (h2 : w.heap.size + 1 ≠ z) (h3 : w.heap.size + 2 ≠ z) (h4 : X ≠ z) : V8 w F v x r B X (W.setCell ⟨z, o, none⟩ u) := ⟨(setB u h1).trans k.t, (setB u h2).trans k.x, (setB u h3).trans k.r, (setB u h4).trans k.p⟩
end
/-- A round: what it keeps, and the law's variables. -/
structure Rd8 (w : World) (F : Int) (v : Value) (x : BitVec 128) (B X g cap wg wc : Nat) (L : List Nd) (ws : List (BitVec 128)) (H M : Nat) (V : World) (hv nv : Int) (A : World) : Prop where
  k1 : KeepsFrom M V A
  k2 : KW (fun z => z = B ∨ z = g) (M + 2) V A
  tr : TrT A B F g cap wg wc L ws
  v8 : V8 w F v x false B X A
  h : Cl1 A H (.int .i64 hv)
  n : Cl1 A (H + 1) (.int .i64 nv)
  b : Below w.heap.size w A
section
variable {w V A A' : World} {F : Int} {v : Value} {x : BitVec 128} {B X g cap wg wc : Nat} {L : List Nd} {ws : List (BitVec 128)} {H M : Nat} {hv nv : Int}
theorem Rd8.below (k : Rd8 w F v x B X g cap wg wc L ws H M V hv nv A) (hb : Below A.heap.size A A') : Rd8 w F v x B X g cap wg wc L ws H M V hv nv A' :=
  ⟨⟨Nat.le_trans k.k1.1 hb.size, fun z o h1 h2 h3 => by
    have := k.k1.same z o h1 h2 h3
    exact (hb.block z (blk_lt this)).trans this⟩, k.k2.trans (kw_below hb), k.tr.below hb, k.v8.below hb, k.h.below hb, k.n.below hb, keepb hb k.b⟩
/-- What lies where. -/
def Wh8 (w : World) (B X g wg H M : Nat) : Prop := ((w.heap.size + 2 < H ∧ X < H) ∧ B < H ∧ g < H ∧ wg < H) ∧ H + 1 < M
theorem Rd8.set (k : Rd8 w F v x B X g cap wg wc L ws H M V hv nv A) (hw : Wh8 w B X g wg H M) (b : Nat) (hb : b = H ∨ b = H + 1) (u : Value) : KeepsFrom M V (A.setCell ⟨b, 0, none⟩ u) ∧ KW (fun z => z = B ∨ z = g) (M + 2) V (A.setCell ⟨b, 0, none⟩ u) ∧ TrT (A.setCell ⟨b, 0, none⟩ u) B F g cap wg wc L ws ∧ V8 w F v x false B X (A.setCell ⟨b, 0, none⟩ u) ∧ Below w.heap.size w (A.setCell ⟨b, 0, none⟩ u) := by
  obtain ⟨⟨⟨a1, a2⟩, a3, a4, a5⟩, a6⟩ := hw
  refine ⟨⟨by simpa using k.k1.1, fun z o h1 h2 h3 => (setB u (by omega)).trans (k.k1.same z o h1 h2 h3)⟩, k.k2.trans (kw_set (by rintro (q | q) <;> omega) (by omega) A u), k.tr.heap (setB u (by omega)) (setB u (by omega)) (setB u (by omega)), k.v8.set u (by omega) (by omega) (by omega) (by omega), k.b.setCell (p := ⟨b, 0, none⟩) (by show w.heap.size ≤ b; omega) u⟩
theorem Rd8.setN (k : Rd8 w F v x B X g cap wg wc L ws H M V hv nv A) (hw : Wh8 w B X g wg H M) (m : Int) : Rd8 w F v x B X g cap wg wc L ws H M V hv m (A.setCell ⟨H + 1, 0, none⟩ (.int .i64 m)) := by
  obtain ⟨c1, c2, c3, c4, c5⟩ := k.set hw (H + 1) (.inr rfl) (.int .i64 m)
  exact ⟨c1, c2, c3, c4, k.h.heap (setB _ (by omega)), k.n.set _, c5⟩
theorem Rd8.setH (k : Rd8 w F v x B X g cap wg wc L ws H M V hv nv A) (hw : Wh8 w B X g wg H M) (m : Int) : Rd8 w F v x B X g cap wg wc L ws H M V m nv (A.setCell ⟨H, 0, none⟩ (.int .i64 m)) := by
  obtain ⟨c1, c2, c3, c4, c5⟩ := k.set hw H (.inl rfl) (.int .i64 m)
  exact ⟨c1, c2, c3, c4, k.h.set _, k.n.heap (setB _ (by omega)), c5⟩
end
set_option maxRecDepth 100000 in
theorem seqnil8 (a b c : Value) (W : World) : (binOp BinOp.eql 46 (.func (.func 51) #[.agg #[a, b, c]] #[]) .nilFunc).run Try.prog W = .ok (.bool false) W := by
  kernel_rfl
set_option maxRecDepth 100000 in
set_option maxHeartbeats 16000000 in
theorem trieAnswers_any (F : Int) (v : Value) (l : List Rte) (x0 : BitVec 128) (w : World) (hv : RwR w v l) :
    Calls Try.prog 8 #[.agg #[.int .i64 F, v], .agg #[.int .u64 (hI x0), .int .u64 (lI x0)]] w fun e w' => e = .returned (.bool true) ∧ Below w.heap.size w w' := by
  have q1 := bl1 w (.cells #[.int .i64 F, v] 24)
  have q2 := bl1 (w.alloc (.cells #[.int .i64 F, v] 24)) (.cells #[.int .u64 (hI x0), .int .u64 (lI x0)] 37)
  have q3 := bl1 ((w.alloc (.cells #[.int .i64 F, v] 24)).alloc (.cells #[.int .u64 (hI x0), .int .u64 (lI x0)] 37)) (.cells #[.bool false] 4)
  have HB0 := hidX (keepb q3 (keepb q2 q1))
  have HV0 := hidX (((hv.below q1).below q2).below q3)
  have s1 : (w.alloc (.cells #[.int .i64 F, v] 24)).heap.size = w.heap.size + 1 := by simp
  have s2 : ((w.alloc (.cells #[.int .i64 F, v] 24)).alloc (.cells #[.int .u64 (hI x0), .int .u64 (lI x0)] 37)).heap.size = w.heap.size + 2 := by simp
  have HL0 : Hid (∀ X, X = (((w.alloc (.cells #[.int .i64 F, v] 24)).alloc (.cells #[.int .u64 (hI x0), .int .u64 (lI x0)] 37)).alloc (.cells #[.bool false] 4)) → X.heap[w.heap.size]? = some (.cells #[.int .i64 F, v] 24) ∧ X.heap[w.heap.size + 1]? = some (.cells #[.int .u64 (hI x0), .int .u64 (lI x0)] 37) ∧ X.heap[w.heap.size + 2]? = some (.cells #[.bool false] 4)) := hidX (by
    rintro X rfl
    refine ⟨?_, ?_, ?_⟩
    · rw [q3.block _ (by omega), q2.block _ (by omega)]
      exact Array.getElem?_push_size
    · rw [q3.block _ (by omega), ← s1]
      exact Array.getElem?_push_size
    · rw [← s2]
      exact Array.getElem?_push_size)
  have HVw := hidX hv
  obtain ⟨ao, c, rfl, -⟩ := hv
  have KK := fun w => known8_any w
  clear q1 q2 q3 s1 s2
  refine (callsIn_wide (n := 9)).1 ?_
  refine callsIn_of_wp_marks Try.func8 rfl trivial ?_ rfl
  simp only [Try.ntmps8, List.size_toArray, List.length_cons, List.length_nil, Nat.reduceAdd, Nat.reduceSub, Array.replicate_succ, Array.replicate_zero, List.push_toArray, List.append_toArray, List.nil_append, List.cons_append]
  refine wpIn_wide.2 ?_
  go_wp2_with fail
  revert HB0 HV0 HL0
  generalize ((w.alloc (.cells #[.int .i64 F, (.slice ao l.length c)] 24)).alloc (.cells #[.int .u64 (hI x0), .int .u64 (lI x0)] 37)).alloc (.cells #[.bool false] 4) = W3
  intro HB0 HV0 HL0
  refine (KK W3).mono ?_
  rintro e w1 ⟨rfl, hb⟩
  obtain ⟨k1, k2, k3⟩ := HL0.out W3 rfl
  have HB1 := hidX (keepb hb HB0.out)
  have HV1 := hidX (HV0.out.below hb)
  have HL1 := hidX (And.intro ((hb.block _ (blk_lt k1)).trans k1) (And.intro ((hb.block _ (blk_lt k2)).trans k2) ((hb.block _ (blk_lt k3)).trans k3)))
  have hw1 : w.heap.size + 2 < w1.heap.size := blk_lt HL1.out.2.2
  clear KK hb k1 k2 k3 HB0 HV0 HL0
  have KM := made8_any F (.slice ao l.length c) l w1 HV1.out
  have t0 := at_block HL1.out.1 0 (.int .i64 F) rfl
  have t1 := at_block HL1.out.1 1 (.slice ao l.length c) rfl
  go_wp2_with fail
  refine KM.mono ?_
  rintro e w2 ⟨hM, hb⟩
  have HB2 := hidX (keepb hb HB1.out)
  have HV2 := hidX (HV1.out.below hb)
  have HL2 := hidX (And.intro ((hb.block _ (blk_lt HL1.out.1)).trans HL1.out.1) (And.intro ((hb.block _ (blk_lt HL1.out.2.1)).trans HL1.out.2.1) ((hb.block _ (blk_lt HL1.out.2.2)).trans HL1.out.2.2)))
  clear KM hb t0 t1 HB1 HV1 HL1
  have hw2 : w.heap.size + 2 < w2.heap.size := blk_lt HL2.out.2.2
  rcases hM with ⟨hn, rfl⟩ | ⟨⟨hR, hl3⟩, B, g, cap, wg, wc, ws, L, rfl, k1, k2, hBw, hgw, hww⟩
  · have q5 := bl1 w2 (.cells #[.pointer none] 26)
    have KR := rightI_any F (.slice ao l.length c) l _ (HV2.out.below q5)
    have t0 := at_block HL2.out.1 0 (.int .i64 F) rfl
    have t1 := at_block HL2.out.1 1 (.slice ao l.length c) rfl
    have HB5 := hidX (keepb q5 HB2.out)
    have HT5 := hidX ((q5.block _ (blk_lt HL2.out.1)).trans HL2.out.1)
    have HR5 := hidX ((q5.block _ (blk_lt HL2.out.2.2)).trans HL2.out.2.2)
    have hw3 : w.heap.size < w2.heap.size := by omega
    clear q5 HB2 HV2 HL2
    go_wp2_with fail
    clear t0 t1
    revert KR HB5 HT5 HR5
    generalize w2.alloc (.cells #[.pointer none] 26) = W5
    intro KR HB5 HT5 HR5
    refine KR.mono ?_
    rintro e w3 ⟨⟨r, hr, rfl⟩, hb⟩
    have HB6 := hidX (keepb hb HB5.out)
    have HT6 := hidX ((hb.block _ (blk_lt HT5.out)).trans HT5.out)
    have HR6 := hidX ((hb.block _ (blk_lt HR5.out)).trans HR5.out)
    clear KR hb HB5 HT5 HR5
    have t0 := at_block HT6.out 0 (.int .i64 F) rfl
    have t1 := at_block HT6.out 1 (.slice ao l.length c) rfl
    have r0 := at_block HR6.out 0 (.bool false) rfl
    have rf := fr_blk (j := 0) HR6.out
    have HRs := hidX (set_blk (o := 0) HR6.out (.bool true))
    have HBs := hidX (HB6.out.setCell (p := ⟨w.heap.size + 2, 0, none⟩) (by simp) (.bool true))
    cases r with
    | false =>
      clear hr hn
      go_wp2
      have z0 := at_block HRs.out 0 (.bool true) rfl
      refine ⟨.bool true, ?_, rfl, HBs.out⟩
      simp [results, Try.results8, go_sem, z0]
    | true =>
      have hl : (300 : Int) < (l.length : Int) := by
        have := hr.mp rfl
        apply Classical.byContradiction; intro q
        exact hn ⟨this, by omega⟩
      clear hr hn
      go_wp2
      have z0 := at_block HRs.out 0 (.bool true) rfl
      refine ⟨.bool true, ?_, rfl, HBs.out⟩
      simp [results, Try.results8, go_sem, z0, hl]
  · have Hx := hidX (Ctx.of k2 (right_zero hR))
    have hF := Hx.out.F0
    have KF := fun w => Fitted_zero F x0 w hF.1 hF.2
    obtain ⟨x, hxe⟩ : ∃ x, x = x0 &&& maskW F := ⟨_, rfl⟩
    have Hxr : Hid (cutW x F = x) := hidX (by rw [hxe]; unfold cutW; rw [BitVec.and_assoc]; simp)
    rw [← hxe] at KF
    have q5 := bl1 w2 (.cells #[.pointer (some ⟨B, 0, none⟩)] 26)
    have t0 := at_block HL2.out.1 0 (.int .i64 F) rfl
    have y0 := at_block HL2.out.2.1 0 (.int .u64 (hI x0)) rfl
    have y1 := at_block HL2.out.2.1 1 (.int .u64 (lI x0)) rfl
    have hw3 : w.heap.size < w2.heap.size := by omega
    have hw4 : w.heap.size + 1 < w2.heap.size := by omega
    have HB5 := hidX (keepb q5 HB2.out)
    have HTr5 := hidX (k1.below q5)
    have HL5 : Hid (V8 w F (.slice ao l.length c) x0 false B w2.heap.size (w2.alloc (.cells #[.pointer (some ⟨B, 0, none⟩)] 26))) := hidX ⟨(q5.block _ (blk_lt HL2.out.1)).trans HL2.out.1, (q5.block _ (blk_lt HL2.out.2.1)).trans HL2.out.2.1, (q5.block _ (blk_lt HL2.out.2.2)).trans HL2.out.2.2, Array.getElem?_push_size⟩
    have HXn : Hid (w.heap.size + 2 < w2.heap.size ∧ w2.heap.size ≠ B ∧ w2.heap.size ≠ g ∧ w2.heap.size ≠ wg) := hidX ⟨hw2, by have := cell_in k1.tn.w; omega, by have := cell_in (k1.tn.row 0 k2.pos).1; omega, by have := cell_in (k1.wd 0 (by rw [k2.wl]; omega)).1; omega⟩
    have Hvn : Hid (w.heap.size + 2 < B ∧ w.heap.size + 2 < g ∧ w.heap.size + 2 < wg) := hidX ⟨by omega, by omega, by omega⟩
    clear q5 HB2 HV2 HL2 k1 k2 hR hxe hF hBw hgw hww
    go_wp2_with fail
    clear t0 y0 y1 hw2 hw3 hw4
    revert HB5 HTr5 HL5 HXn
    generalize w2.alloc (.cells #[.pointer (some ⟨B, 0, none⟩)] 26) = W5
    generalize w2.heap.size = X
    intro HB5 HTr5 HL5 HXn
    refine (KF W5).mono ?_
    rintro e w6 ⟨rfl, hb⟩
    have HB6 := hidX (keepb hb HB5.out)
    have HTr6 := hidX (HTr5.out.below hb)
    have hL6 := HL5.out.below hb
    clear hb HB5 HTr5 HL5 KF
    have y0 := at_block hL6.x 0 (.int .u64 (hI x0)) rfl
    have y1 := at_block hL6.x 1 (.int .u64 (lI x0)) rfl
    have f0 := fr_blk (j := 0) hL6.x
    have f1 := fr_blk (j := 1) hL6.x
    have p0 := at_block hL6.p 0 (.pointer (some ⟨B, 0, none⟩)) rfl
    have hX1 : w.heap.size + 1 < X := by have := HXn.out.1; omega
    have hX2 : ¬ X = w.heap.size + 1 := by omega
    have hs : ∀ z, ¬ z = w.heap.size + 1 → ((w6.setCell ⟨w.heap.size + 1, 0, none⟩ (.int .u64 (hI x))).setCell ⟨w.heap.size + 1, 1, none⟩ (.int .u64 (lI x))).heap[z]? = w6.heap[z]? := fun z hz => by rw [setB _ hz, setB _ hz]
    have HB7 := hidX ((HB6.out.setCell (p := ⟨w.heap.size + 1, 0, none⟩) (by simp) (.int .u64 (hI x))).setCell (p := ⟨w.heap.size + 1, 1, none⟩) (by simp) (.int .u64 (lI x)))
    have HTr7 := hidX (HTr6.out.heap (hs B (by have := Hvn.out.1; omega)) (hs g (by have := Hvn.out.2.1; omega)) (hs wg (by have := Hvn.out.2.2; omega)))
    have HL7 : Hid (V8 w F (.slice ao l.length c) x false B X ((w6.setCell ⟨w.heap.size + 1, 0, none⟩ (.int .u64 (hI x))).setCell ⟨w.heap.size + 1, 1, none⟩ (.int .u64 (lI x)))) := hidX ⟨(hs _ (by omega)).trans hL6.t, by simpa using set_blk (o := 1) (set_blk (o := 0) hL6.x (.int .u64 (hI x))) (.int .u64 (lI x)), (hs _ (by omega)).trans hL6.r, (hs _ hX2).trans hL6.p⟩
    clear HB6 HTr6 hL6 hs
    go_wp2_with fail
    clear y0 y1 f0 f1 p0 hX1 hX2
    revert HB7 HTr7 HL7
    generalize (w6.setCell ⟨w.heap.size + 1, 0, none⟩ (.int .u64 (hI x))).setCell ⟨w.heap.size + 1, 1, none⟩ (.int .u64 (lI x)) = W7
    intro HB7 HTr7 HL7
    refine (tpath_any B x W7).mono ?_
    rintro e w8 ⟨rfl, hb⟩
    have HB8 := hidX (keepb hb HB7.out)
    have hT8 := HTr7.out.below hb
    have hL8 := HL7.out.below hb
    clear hb HB7 HTr7 HL7
    have q1 := bl1 w8 (.cells #[.int .i64 0] 3)
    have q2 := bl1 (w8.alloc (.cells #[.int .i64 0] 3)) (.cells #[.int .i64 0] 3)
    have s1 : (w8.alloc (.cells #[.int .i64 0] 3)).heap.size = w8.heap.size + 1 := by simp
    have HB9 := hidX (keepb q2 (keepb q1 HB8.out))
    have HTr9 := hidX ((hT8.below q1).below q2)
    have HL9 := hidX ((hL8.below q1).below q2)
    have HH9 := hidX ((cl1_new w8 w8.heap.size (.int .i64 0) 3 rfl).below q2)
    have HN9 := hidX (cl1_new (w8.alloc (.cells #[.int .i64 0] 3)) (w8.heap.size + 1) (.int .i64 0) 3 s1.symm)
    have HHn : Hid ((w.heap.size + 2 < w8.heap.size ∧ X < w8.heap.size) ∧ B < w8.heap.size ∧ g < w8.heap.size ∧ wg < w8.heap.size) := hidX ⟨⟨blk_lt hL8.r, blk_lt hL8.p⟩, cell_in hT8.tn.w, cell_in (hT8.tn.row 0 Hx.out.t.pos).1, cell_in (hT8.wd 0 (by rw [Hx.out.t.wl]; omega)).1⟩
    have E0 := fun W => seqnil8 (.pointer (some ⟨B, 0, none⟩)) (.int .u64 (hI x)) (.int .u64 (lI x)) W
    clear q1 q2 s1 HB8 hT8 hL8
    go_wp2_with fail
    clear E0
    revert HB9 HTr9 HL9 HH9 HN9 HHn
    generalize (w8.alloc (.cells #[.int .i64 0] 3)).alloc (.cells #[.int .i64 0] 3) = Wl
    generalize hHe : w8.heap.size = H
    intro HB9 HTr9 HL9 HH9 HN9 HHn
    clear hHe
    obtain ⟨N, wq⟩ := Hx.out.t.path x
    have wt := wq.to
    rw [Int.natCast_zero] at wt
    have Hwq := hidX wq
    have hWl : H + 1 < Wl.heap.size := HN9.out.lt
    have Hck : Hid (checkE F x F = 0) := hidX (chkIn8 Hx.out.fam Hx.out.F0.1 (Int.le_refl _) Hxr.out)
    have hpth : pthL L F x (N + 1) = wayL L x (N + 1) 0 := by unfold pthL; rw [if_pos Hck.out]
    have Hpth := hidX hpth
    have hvn := Hvn.out
    have hhn := HHn.out
    clear wq hpth
    refine (wpIn_wide (n := 9)).1 ?_
    refine rangeYA 9 (by decide) (gf := 51) (ba := #[.agg #[.pointer (some ⟨B, 0, none⟩), .int .u64 (hI x), .int .u64 (lI x)]]) (lb := #[]) rfl (enters_of Try.func51 (by kernel_rfl) rfl)
      (way_each (9 - 1) (N + 1) (fun z => z = B ∨ z = g) (Wl.heap.size + 2) B F g cap (.slice (some ⟨wg, 0, none⟩) ws.length wc) L x (fun _ => wt) Wl HTr9.out.tn (.inl (.inl rfl)) (.inl (.inr rfl)) Hx.out.ok (by have := Hx.out.len; omega)) (Nat.le_refl _) (fun A => KW.refl _ _ _) (fun h k => h.trans k) (fun V o o' h1 h2 => kw_put (by rintro (q | q) <;> omega) (by omega) V o o' h1 h2) (Below.refl _ _) (fun _ => rfl)
      (fun pre V => (TrT V B F g cap wg wc L ws ∧ V8 w F (.slice ao l.length c) x false B X V ∧ Cl1 V H (.int .i64 (lastH L pre 0)) ∧ Cl1 V (H + 1) (.int .i64 (pre.length : Int))) ∧ Below w.heap.size w V)
      (fun c pre V => False)
      (OwnFrom.and (Own.from (fun s A B row hs hg hr => ⟨hs.1.kept hg hr, hs.2.1.kept hg hr, hs.2.2.1.kept hg hr, hs.2.2.2.kept hg hr⟩) _) (ownFrom_below (Nat.le_refl _) (by omega)))
      (fun c s A B row hs hg hr => hs)
      ⟨⟨HTr9.out, HL9.out, HH9.out, HN9.out⟩, HB9.out⟩
      ?AX ?assign ?body ?done ?stop
    case assign =>
      intro lo y V K hK
      unfold encI
      simp only [List.zip_toArray, List.zip_cons_cons, List.zip_nil_left, List.zip_nil_right, List.foldl_toArray, List.foldl_cons, List.foldl_nil, List.setIfInBounds_toArray, List.set_cons_zero, List.set_cons_succ, Array.zip]
      have HKK := hidX hK
      clear hK
      gi_wp2
      exact HKK.out
    case body =>
      rintro lo pre y V hl - ⟨⟨hi1, hi2, hi3, hi4⟩, hi5⟩ hlt
      rw [Hpth.out] at hlt
      have hidx : (wayL L x (N + 1) 0)[pre.length]? = some y := by
        obtain ⟨t, e⟩ := hlt
        rw [← e]; simp
      have hnod := Hwq.out.nod
      rw [Int.natCast_zero] at hnod
      obtain ⟨m, rfl, -, m2, m3, m4⟩ := hnod _ _ hidx
      rw [Hx.out.t.ln0, Int.zero_add] at m3
      have KA := tat8_any Hx.out B g cap wg wc m V hi1 m2
      rw [m3] at KA
      have HW : Hid (Wh8 w B X g wg H Wl.heap.size) := hidX ⟨hhn, hWl⟩
      have HD := hidX (show Rd8 w F (.slice ao l.length c) x B X g cap wg wc L ws H Wl.heap.size V (lastH L pre 0) (pre.length : Int) V from ⟨KeepsFrom.refl _ _, KW.refl _ _ _, hi1, hi2, hi3, hi4, hi5⟩)
      have p0 := at_block hi2.p 0 (.pointer (some ⟨B, 0, none⟩)) rfl
      have hE := lastH_one L pre (m : Int) 0
      have KHp := fun W h => thop_any B F g cap (.slice (some ⟨wg, 0, none⟩) ws.length wc) L (m : Int) W h Hx.out.ok
      have KHs := fun W => rhas_any (pfA ws L m) (pre.length : Int) x W
      have hhas : rhasB (pfA ws L m) (pre.length : Int) x = true := by
        have b := Hx.out.lnF m2
        rw [← m3, has_eq _ _ _ b.1 (by have := Hx.out.F0; omega) (by unfold pfA; rw [cut_cut2 _ _ _ b.1 (Int.le_refl _)])]
        unfold InN at m4
        unfold pfA
        rw [m4]; simp
      rw [hhas] at KHs
      have wn : IntKind.i64.wrap ((pre.length : Int) + 1) = ((pre ++ [(m : Int)]).length : Int) := by
        have := (Hx.out.lnF m2).2
        have := Hx.out.F0.2
        rw [IntKind.wrap_i64]; simp; omega
      have HE := hidX hE
      have HP := hidX (show (pre ++ [(m : Int)]).length = pre.length + 1 by simp)
      revert KHp HE wn
      generalize (ndAt L (m : Int)).hop = hp
      generalize hh2 : lastH L (pre ++ [(m : Int)]) 0 = h2
      generalize hn2 : ((pre ++ [(m : Int)]).length : Int) = n2
      intro KHp wn HE
      revert HD HE
      generalize lastH L pre 0 = h0
      intro HD HE
      have Hn2 := hidX hn2
      have Hh2 := hidX hh2
      clear hi1 hi2 hi3 hi4 hi5 hlt hidx hnod m3 m4 hhas hE hn2 hh2
      gi_wp2_with fail
      refine ⟨trivial, ?_⟩
      have KA2 : CallsIn (Fence.wide.inRound lo) 6 Try.prog 13 #[.pointer (some ⟨B, 0, none⟩), .int .i64 (m : Int)] V _ := (callsIn_wide (n := 6)).2 KA
      refine KA2.mono ?_
      clear KA2 KA p0
      rintro e V2 ⟨rfl, hb⟩
      have q2 := bl1 V2 (.cells #[.int .u64 (hI (pfA ws L m)), .int .u64 (lI (pfA ws L m)), .int .i64 (pre.length : Int)] 39)
      have hD2 := HD.out.below hb
      have HD3 := hidX (hD2.below q2)
      obtain ⟨n0, -⟩ := hD2.n
      have y0 := at_block hD2.v8.x 0 (.int .u64 (hI x)) rfl
      have y1 := at_block hD2.v8.x 1 (.int .u64 (lI x)) rfl
      have l1 : H + 1 < V2.heap.size := hD2.n.lt
      have l2 : w.heap.size + 1 < V2.heap.size := blk_lt hD2.v8.x
      clear hb q2 hD2 HD
      gi_wp2_with fail
      clear n0 y0 y1 l1 l2
      revert HD3
      generalize V2.alloc (.cells #[.int .u64 (hI (pfA ws L m)), .int .u64 (lI (pfA ws L m)), .int .i64 (pre.length : Int)] 39) = V3
      intro HD3
      refine ⟨trivial, ?_⟩
      have KA2 : CallsIn (Fence.wide.inRound lo) 6 Try.prog 36 #[.agg #[.int .u64 (hI (pfA ws L m)), .int .u64 (lI (pfA ws L m)), .int .i64 (pre.length : Int)], .agg #[.int .u64 (hI x), .int .u64 (lI x)]] V3 _ := (callsIn_wide (n := 6)).2 (KHs V3)
      refine KA2.mono ?_
      clear KA2 KHs
      rintro e V4 ⟨rfl, hb⟩
      have hD4 := HD3.out.below hb
      obtain ⟨n0, nf⟩ := hD4.n
      have p0 := at_block hD4.v8.p 0 (.pointer (some ⟨B, 0, none⟩)) rfl
      have HD5 := hidX (hD4.setN HW.out n2)
      have l3 : ¬ X = H + 1 := by have := HW.out; unfold Wh8 at this; omega
      clear hb HD3 hD4
      gi_wp2_with fail
      clear n0 nf p0 l3
      revert HD5
      generalize V4.setCell ⟨H + 1, 0, none⟩ (.int .i64 n2) = V5
      intro HD5
      refine ⟨trivial, ?_⟩
      have KA2 : CallsIn (Fence.wide.inRound lo) 6 Try.prog 14 #[.pointer (some ⟨B, 0, none⟩), .int .i64 (m : Int)] V5 _ := (callsIn_wide (n := 6)).2 (KHp V5 HD5.out.tr.tn)
      refine KA2.mono ?_
      clear KA2
      rintro e V6 ⟨rfl, hb⟩
      have HD6 := hidX (HD5.out.below hb)
      clear hb HD5
      by_cases c : 0 < hp
      · have c' : decide (0 < hp) = true := by simpa using c
        have He : Hid (h2 = hp) := hidX (by rw [HE.out, if_pos c])
        have p0 := at_block HD6.out.v8.p 0 (.pointer (some ⟨B, 0, none⟩)) rfl
        clear c
        gi_wp2_with fail
        refine ⟨trivial, ?_⟩
        have KA2 : CallsIn (Fence.wide.inRound lo) 6 Try.prog 14 #[.pointer (some ⟨B, 0, none⟩), .int .i64 (m : Int)] V6 _ := (callsIn_wide (n := 6)).2 (KHp V6 HD6.out.tr.tn)
        refine KA2.mono ?_
        clear KA2 p0
        rintro e V7 ⟨rfl, hb⟩
        have hD7 := HD6.out.below hb
        obtain ⟨h0', hf⟩ := hD7.h
        have HD8 := hidX (hD7.setH HW.out hp)
        clear hb hD7 HD6
        gi_wp2
        exact ⟨HD8.out.k1, HD8.out.k2, ⟨HD8.out.tr, HD8.out.v8, by rw [Hh2.out, He.out]; exact HD8.out.h, by rw [Hn2.out]; exact HD8.out.n⟩, HD8.out.b⟩
      · have c' : decide (0 < hp) = false := by simpa using c
        have He : Hid (h2 = h0) := hidX (by rw [HE.out, if_neg c])
        clear c
        gi_wp2
        exact ⟨HD6.out.k1, HD6.out.k2, ⟨HD6.out.tr, HD6.out.v8, by rw [Hh2.out, He.out]; exact HD6.out.h, by rw [Hn2.out]; exact HD6.out.n⟩, HD6.out.b⟩
    case done =>
      rintro D ys V hD rfl ⟨⟨hi1, hi2, hi3, hi4⟩, hi5⟩ hK
      have hlen : ((pthL L F x (N + 1)).length : Int) = ((N + 1 : Nat) : Int) := by rw [Hpth.out, wayL_len]
      have KLk := fun W h => tlook_any (N + 1) B F g cap (.slice (some ⟨wg, 0, none⟩) ws.length wc) L x (fun _ => wt) W h Hx.out.t.pos Hx.out.ok (by have := Hx.out.len; omega)
      have KRl := fun W hW => rlookup_any F x (.slice ao l.length c) l W hW (by omega) (fun r hr => ⟨(Hx.out.rr r hr).1.1, Int.le_trans (Hx.out.rr r hr).1.2.1 Hx.out.F0.2, (Hx.out.rr r hr).1.2.2⟩)
      have hla := Hx.out.last Hwq.out
      rw [← hla] at KRl
      rw [Hpth.out] at KLk hi3
      rw [hlen] at hi4
      revert KLk KRl hi3
      generalize lastH L (wayL L x (N + 1) 0) 0 = hv
      intro hi3 KLk KRl
      revert hi4
      obtain ⟨n3, hn3⟩ : ∃ n3 : Int, n3 = ((N + 1 : Nat) : Int) := ⟨_, rfl⟩
      rw [← hn3]
      intro hi4
      have hn4 : 0 < n3 := by omega
      have HCb : Hid (∀ A A' : World, ((TrT A B F g cap wg wc L ws ∧ V8 w F (.slice ao l.length c) x false B X A ∧ Cl1 A H (.int .i64 hv) ∧ Cl1 A (H + 1) (.int .i64 n3)) ∧ Below w.heap.size w A ∧ A.heap[D]? = some (.deferred (some []))) → Below A.heap.size A A' → ((TrT A' B F g cap wg wc L ws ∧ V8 w F (.slice ao l.length c) x false B X A' ∧ Cl1 A' H (.int .i64 hv) ∧ Cl1 A' (H + 1) (.int .i64 n3)) ∧ Below w.heap.size w A' ∧ A'.heap[D]? = some (.deferred (some [])))) := hidX (fun A A' h hb => ⟨⟨h.1.1.below hb, h.1.2.1.below hb, h.1.2.2.1.below hb, h.1.2.2.2.below hb⟩, keepb hb h.2.1, (hb.block _ (blk_lt h.2.2)).trans h.2.2⟩)
      have HC0 := hidX (HCb.out V V.drew ⟨⟨hi1, hi2, hi3, hi4⟩, hi5, hK⟩ (below_drewN (Below.refl _ _) 1))
      have hDn : w.heap.size + 2 < D := by have := HHn.out.1.1; omega
      clear hi1 hi2 hi3 hi4 hi5 hK hlen hla hn3
      refine wl_nil8 (P := Try.prog) (ops := #[]) ?_
      go_wp2_with fail
      refine qp_region2 16 (qpOk 16 16 (by decide) (fun N => by kernel_rfl) (by kernel_rfl) (by kernel_rfl) (by kernel_rfl) (by kernel_rfl)) (C := fun A => (TrT A B F g cap wg wc L ws ∧ V8 w F (.slice ao l.length c) x false B X A ∧ Cl1 A H (.int .i64 hv) ∧ Cl1 A (H + 1) (.int .i64 n3)) ∧ Below w.heap.size w A ∧ A.heap[D]? = some (.deferred (some []))) [some 71, some 72, some 73, some 74, some 75, some 76, some 77, some 78, some 79, some 80, some 81, some 82, some 83, some 84, some 85, some 86] [.int .i64 n3, .bool true, .bool true, .pointer (some ⟨B, 0, none⟩), .agg #[.int .u64 (hI x), .int .u64 (lI x)], .int .i64 hv, .int .i64 hv, .bool true, .bool true, .bool true, .int .i64 hv, .agg #[.int .i64 F, (.slice ao l.length c)], .agg #[.int .u64 (hI x), .int .u64 (lI x)], .int .i64 hv, .bool true, .bool true] (by kernel_rfl) HC0.out ?walk ?fin
      case walk =>
        dsimp only [List.take]
        refine q_run (v := .int .i64 n3) (by rfl) ?_ ?_
        · (intro w9 hC; obtain ⟨h0, -⟩ := hC.1.2.2.1; obtain ⟨n0, -⟩ := hC.1.2.2.2; have p0 := at_block hC.1.2.1.p 0 (.pointer (some ⟨B, 0, none⟩)) rfl; have y0 := at_block hC.1.2.1.x 0 (.int .u64 (hI x)) rfl; have y1 := at_block hC.1.2.1.x 1 (.int .u64 (lI x)) rfl; have t0 := at_block hC.1.2.1.t 0 (.int .i64 F) rfl; have t1 := at_block hC.1.2.1.t 1 (.slice ao l.length c) rfl; clear hC; go_simp; first | done | (simp; done) | (simp [*]; done) | omega | (simp; omega) | rfl)
        simp only [Act.put, List.setIfInBounds_toArray, List.set_cons_zero, List.set_cons_succ]
        refine q_run (v := .bool true) (by rfl) ?_ ?_
        · (intro w9 hC; obtain ⟨h0, -⟩ := hC.1.2.2.1; obtain ⟨n0, -⟩ := hC.1.2.2.2; have p0 := at_block hC.1.2.1.p 0 (.pointer (some ⟨B, 0, none⟩)) rfl; have y0 := at_block hC.1.2.1.x 0 (.int .u64 (hI x)) rfl; have y1 := at_block hC.1.2.1.x 1 (.int .u64 (lI x)) rfl; have t0 := at_block hC.1.2.1.t 0 (.int .i64 F) rfl; have t1 := at_block hC.1.2.1.t 1 (.slice ao l.length c) rfl; clear hC; go_simp; first | done | (simp; done) | (simp [*]; done) | omega | (simp; omega) | rfl)
        simp only [Act.put, List.setIfInBounds_toArray, List.set_cons_zero, List.set_cons_succ]
        refine q_run (v := .bool true) (by rfl) ?_ ?_
        · (intro w9 hC; obtain ⟨h0, -⟩ := hC.1.2.2.1; obtain ⟨n0, -⟩ := hC.1.2.2.2; have p0 := at_block hC.1.2.1.p 0 (.pointer (some ⟨B, 0, none⟩)) rfl; have y0 := at_block hC.1.2.1.x 0 (.int .u64 (hI x)) rfl; have y1 := at_block hC.1.2.1.x 1 (.int .u64 (lI x)) rfl; have t0 := at_block hC.1.2.1.t 0 (.int .i64 F) rfl; have t1 := at_block hC.1.2.1.t 1 (.slice ao l.length c) rfl; clear hC; go_simp; first | done | (simp; done) | (simp [*]; done) | omega | (simp; omega) | rfl)
        simp only [Act.put, List.setIfInBounds_toArray, List.set_cons_zero, List.set_cons_succ]
        refine q_run (v := .pointer (some ⟨B, 0, none⟩)) (by rfl) ?_ ?_
        · (intro w9 hC; obtain ⟨h0, -⟩ := hC.1.2.2.1; obtain ⟨n0, -⟩ := hC.1.2.2.2; have p0 := at_block hC.1.2.1.p 0 (.pointer (some ⟨B, 0, none⟩)) rfl; have y0 := at_block hC.1.2.1.x 0 (.int .u64 (hI x)) rfl; have y1 := at_block hC.1.2.1.x 1 (.int .u64 (lI x)) rfl; have t0 := at_block hC.1.2.1.t 0 (.int .i64 F) rfl; have t1 := at_block hC.1.2.1.t 1 (.slice ao l.length c) rfl; clear hC; go_simp; first | done | (simp; done) | (simp [*]; done) | omega | (simp; omega) | rfl)
        simp only [Act.put, List.setIfInBounds_toArray, List.set_cons_zero, List.set_cons_succ]
        refine q_run (v := .agg #[.int .u64 (hI x), .int .u64 (lI x)]) (by rfl) ?_ ?_
        · (intro w9 hC; obtain ⟨h0, -⟩ := hC.1.2.2.1; obtain ⟨n0, -⟩ := hC.1.2.2.2; have p0 := at_block hC.1.2.1.p 0 (.pointer (some ⟨B, 0, none⟩)) rfl; have y0 := at_block hC.1.2.1.x 0 (.int .u64 (hI x)) rfl; have y1 := at_block hC.1.2.1.x 1 (.int .u64 (lI x)) rfl; have t0 := at_block hC.1.2.1.t 0 (.int .i64 F) rfl; have t1 := at_block hC.1.2.1.t 1 (.slice ao l.length c) rfl; clear hC; go_simp; first | done | (simp; done) | (simp [*]; done) | omega | (simp; omega) | rfl)
        simp only [Act.put, List.setIfInBounds_toArray, List.set_cons_zero, List.set_cons_succ]
        refine q_call (v := .int .i64 hv) (f := 27) (args := #[.pointer (some ⟨B, 0, none⟩), .agg #[.int .u64 (hI x), .int .u64 (lI x)]]) (by rfl) ?_ ?_ ?_
        · (intro w9 hC; clear hC; go_simp)
        · exact fun w9 hC => (KLk w9 hC.1.1.tn).mono fun e w' ⟨he, hb⟩ => ⟨he, HCb.out w9 w' hC hb⟩
        simp only [Act.put, List.setIfInBounds_toArray, List.set_cons_zero, List.set_cons_succ]
        refine q_run (v := .int .i64 hv) (by rfl) ?_ ?_
        · (intro w9 hC; obtain ⟨h0, -⟩ := hC.1.2.2.1; obtain ⟨n0, -⟩ := hC.1.2.2.2; have p0 := at_block hC.1.2.1.p 0 (.pointer (some ⟨B, 0, none⟩)) rfl; have y0 := at_block hC.1.2.1.x 0 (.int .u64 (hI x)) rfl; have y1 := at_block hC.1.2.1.x 1 (.int .u64 (lI x)) rfl; have t0 := at_block hC.1.2.1.t 0 (.int .i64 F) rfl; have t1 := at_block hC.1.2.1.t 1 (.slice ao l.length c) rfl; clear hC; go_simp; first | done | (simp; done) | (simp [*]; done) | omega | (simp; omega) | rfl)
        simp only [Act.put, List.setIfInBounds_toArray, List.set_cons_zero, List.set_cons_succ]
        refine q_run (v := .bool true) (by rfl) ?_ ?_
        · (intro w9 hC; obtain ⟨h0, -⟩ := hC.1.2.2.1; obtain ⟨n0, -⟩ := hC.1.2.2.2; have p0 := at_block hC.1.2.1.p 0 (.pointer (some ⟨B, 0, none⟩)) rfl; have y0 := at_block hC.1.2.1.x 0 (.int .u64 (hI x)) rfl; have y1 := at_block hC.1.2.1.x 1 (.int .u64 (lI x)) rfl; have t0 := at_block hC.1.2.1.t 0 (.int .i64 F) rfl; have t1 := at_block hC.1.2.1.t 1 (.slice ao l.length c) rfl; clear hC; go_simp; first | done | (simp; done) | (simp [*]; done) | omega | (simp; omega) | rfl)
        simp only [Act.put, List.setIfInBounds_toArray, List.set_cons_zero, List.set_cons_succ]
        refine q_run (v := .bool true) (by rfl) ?_ ?_
        · (intro w9 hC; obtain ⟨h0, -⟩ := hC.1.2.2.1; obtain ⟨n0, -⟩ := hC.1.2.2.2; have p0 := at_block hC.1.2.1.p 0 (.pointer (some ⟨B, 0, none⟩)) rfl; have y0 := at_block hC.1.2.1.x 0 (.int .u64 (hI x)) rfl; have y1 := at_block hC.1.2.1.x 1 (.int .u64 (lI x)) rfl; have t0 := at_block hC.1.2.1.t 0 (.int .i64 F) rfl; have t1 := at_block hC.1.2.1.t 1 (.slice ao l.length c) rfl; clear hC; go_simp; first | done | (simp; done) | (simp [*]; done) | omega | (simp; omega) | rfl)
        simp only [Act.put, List.setIfInBounds_toArray, List.set_cons_zero, List.set_cons_succ]
        refine q_run (v := .bool true) (by rfl) ?_ ?_
        · (intro w9 hC; obtain ⟨h0, -⟩ := hC.1.2.2.1; obtain ⟨n0, -⟩ := hC.1.2.2.2; have p0 := at_block hC.1.2.1.p 0 (.pointer (some ⟨B, 0, none⟩)) rfl; have y0 := at_block hC.1.2.1.x 0 (.int .u64 (hI x)) rfl; have y1 := at_block hC.1.2.1.x 1 (.int .u64 (lI x)) rfl; have t0 := at_block hC.1.2.1.t 0 (.int .i64 F) rfl; have t1 := at_block hC.1.2.1.t 1 (.slice ao l.length c) rfl; clear hC; go_simp; first | done | (simp; done) | (simp [*]; done) | omega | (simp; omega) | rfl)
        simp only [Act.put, List.setIfInBounds_toArray, List.set_cons_zero, List.set_cons_succ]
        refine q_run (v := .int .i64 hv) (by rfl) ?_ ?_
        · (intro w9 hC; obtain ⟨h0, -⟩ := hC.1.2.2.1; obtain ⟨n0, -⟩ := hC.1.2.2.2; have p0 := at_block hC.1.2.1.p 0 (.pointer (some ⟨B, 0, none⟩)) rfl; have y0 := at_block hC.1.2.1.x 0 (.int .u64 (hI x)) rfl; have y1 := at_block hC.1.2.1.x 1 (.int .u64 (lI x)) rfl; have t0 := at_block hC.1.2.1.t 0 (.int .i64 F) rfl; have t1 := at_block hC.1.2.1.t 1 (.slice ao l.length c) rfl; clear hC; go_simp; first | done | (simp; done) | (simp [*]; done) | omega | (simp; omega) | rfl)
        simp only [Act.put, List.setIfInBounds_toArray, List.set_cons_zero, List.set_cons_succ]
        refine q_run (v := .agg #[.int .i64 F, (.slice ao l.length c)]) (by rfl) ?_ ?_
        · (intro w9 hC; obtain ⟨h0, -⟩ := hC.1.2.2.1; obtain ⟨n0, -⟩ := hC.1.2.2.2; have p0 := at_block hC.1.2.1.p 0 (.pointer (some ⟨B, 0, none⟩)) rfl; have y0 := at_block hC.1.2.1.x 0 (.int .u64 (hI x)) rfl; have y1 := at_block hC.1.2.1.x 1 (.int .u64 (lI x)) rfl; have t0 := at_block hC.1.2.1.t 0 (.int .i64 F) rfl; have t1 := at_block hC.1.2.1.t 1 (.slice ao l.length c) rfl; clear hC; go_simp; first | done | (simp; done) | (simp [*]; done) | omega | (simp; omega) | rfl)
        simp only [Act.put, List.setIfInBounds_toArray, List.set_cons_zero, List.set_cons_succ]
        refine q_run (v := .agg #[.int .u64 (hI x), .int .u64 (lI x)]) (by rfl) ?_ ?_
        · (intro w9 hC; obtain ⟨h0, -⟩ := hC.1.2.2.1; obtain ⟨n0, -⟩ := hC.1.2.2.2; have p0 := at_block hC.1.2.1.p 0 (.pointer (some ⟨B, 0, none⟩)) rfl; have y0 := at_block hC.1.2.1.x 0 (.int .u64 (hI x)) rfl; have y1 := at_block hC.1.2.1.x 1 (.int .u64 (lI x)) rfl; have t0 := at_block hC.1.2.1.t 0 (.int .i64 F) rfl; have t1 := at_block hC.1.2.1.t 1 (.slice ao l.length c) rfl; clear hC; go_simp; first | done | (simp; done) | (simp [*]; done) | omega | (simp; omega) | rfl)
        simp only [Act.put, List.setIfInBounds_toArray, List.set_cons_zero, List.set_cons_succ]
        refine q_call (v := .int .i64 hv) (f := 37) (args := #[.agg #[.int .i64 F, (.slice ao l.length c)], .agg #[.int .u64 (hI x), .int .u64 (lI x)]]) (by rfl) ?_ ?_ ?_
        · (intro w9 hC; clear hC; go_simp)
        · exact fun w9 hC => (KRl w9 (HVw.out.below hC.2.1)).mono fun e w' ⟨he, hb⟩ => ⟨he, HCb.out w9 w' hC hb⟩
        simp only [Act.put, List.setIfInBounds_toArray, List.set_cons_zero, List.set_cons_succ]
        refine q_run (v := .bool true) (by rfl) ?_ ?_
        · (intro w9 hC; obtain ⟨h0, -⟩ := hC.1.2.2.1; obtain ⟨n0, -⟩ := hC.1.2.2.2; have p0 := at_block hC.1.2.1.p 0 (.pointer (some ⟨B, 0, none⟩)) rfl; have y0 := at_block hC.1.2.1.x 0 (.int .u64 (hI x)) rfl; have y1 := at_block hC.1.2.1.x 1 (.int .u64 (lI x)) rfl; have t0 := at_block hC.1.2.1.t 0 (.int .i64 F) rfl; have t1 := at_block hC.1.2.1.t 1 (.slice ao l.length c) rfl; clear hC; go_simp; first | done | (simp; done) | (simp [*]; done) | omega | (simp; omega) | rfl)
        simp only [Act.put, List.setIfInBounds_toArray, List.set_cons_zero, List.set_cons_succ]
        refine q_run (v := .bool true) (by rfl) ?_ ?_
        · (intro w9 hC; obtain ⟨h0, -⟩ := hC.1.2.2.1; obtain ⟨n0, -⟩ := hC.1.2.2.2; have p0 := at_block hC.1.2.1.p 0 (.pointer (some ⟨B, 0, none⟩)) rfl; have y0 := at_block hC.1.2.1.x 0 (.int .u64 (hI x)) rfl; have y1 := at_block hC.1.2.1.x 1 (.int .u64 (lI x)) rfl; have t0 := at_block hC.1.2.1.t 0 (.int .i64 F) rfl; have t1 := at_block hC.1.2.1.t 1 (.slice ao l.length c) rfl; clear hC; go_simp; first | done | (simp; done) | (simp [*]; done) | omega | (simp; omega) | rfl)
        simp only [Act.put, List.setIfInBounds_toArray, List.set_cons_zero, List.set_cons_succ]
        refine wpQuiet_nil ?_
        simp only [putAll, Act.put, List.setIfInBounds_toArray, List.set_cons_zero, List.set_cons_succ]
      case fin =>
        intro W hC
        simp only [putAll, Act.put, List.setIfInBounds_toArray, List.set_cons_zero, List.set_cons_succ]
        dsimp only [List.drop]
        have hr : Cl1 W (w.heap.size + 2) (.bool false) := ⟨at_block hC.1.2.1.r 0 _ rfl, fr_blk hC.1.2.1.r⟩
        have HR := hidX (hr.set (.bool true))
        have HB := hidX (hC.2.1.setCell (p := ⟨w.heap.size + 2, 0, none⟩) (by simp) (.bool true))
        have HK : Hid ((W.setCell ⟨w.heap.size + 2, 0, none⟩ (.bool true)).heap[D]? = some (.deferred (some []))) := hidX ((setB _ (by omega)).trans hC.2.2)
        obtain ⟨r0, rf⟩ := hr
        clear hC HC0
        go_wp2
        refine ⟨by simp, .inl ⟨_, _, rfl, run_takeDeferred HK.out, ?_⟩⟩
        obtain ⟨z0, -⟩ := HR.out.kept (grownBy_putObj' _ D (.deferred none)) (fun r e => by cases e; exact ⟨_, HK.out, rfl⟩)
        refine ⟨.bool true, ?_, rfl, HB.out.trans (belowK_b (w := w) (Nat.le_refl _) _ D _ _ (by omega) HK.out rfl rfl)⟩
        simp [results, Try.results8, go_sem, z0]
    case stop =>
      rintro D c pre V hD hpre hi hK
      exact hi.elim
end Go.Proofs.Ytoejhhoniflpeaa
/-
  How a prefix that is handed in reads as data.
-/
namespace Go.Proofs.Ytoejhhoniflpeaa
open Go.ChangeShapes Go.WideShapes Go.ChangeAt Go.RowKit Go.Joins
set_option linter.unusedSimpArgs false
set_option linter.unusedVariables false

theorem Try.cellsW : Try.prog.cellsOf 37 = 2 := by kernel_rfl
theorem Try.cellsP : Try.prog.cellsOf 39 = 3 := by kernel_rfl
theorem Try.cellsI : Try.prog.cellsOf 3 = 1 := by kernel_rfl
theorem Try.cellsU : Try.prog.cellsOf 35 = 1 := by kernel_rfl
section
variable {H : Type} {enc : TypeId × Value → H} {w : World} {base : Nat} {spare : Nat → Bool} {held : Bool}
set_option maxRecDepth 100000 in
theorem open_pfx {r : Reach} {b0 : Nat} {v : Value} {d : DataW H} {p : List MemPlace} (hv : Value.okWide Try.prog w r b0 39 v) (h : DataW.Trod enc Try.prog w base spare held 39 v d p) :
    ∃ a b n : Int, v = .agg #[.int .u64 a, .int .u64 b, .int .i64 n] ∧ d = .agg [.agg [.lit (.int .u64 a), .lit (.int .u64 b)], .lit (.int .i64 n)] ∧ p = [] ∧ (Lit.int .u64 a).wf = true ∧ (Lit.int .u64 b).wf = true ∧ (Lit.int .i64 n).wf = true := by
  obtain ⟨cs, rfl, hsz⟩ := okWide_struct Try.underlying39 hv
  obtain ⟨c0, c1, c2, rfl⟩ := array3 (hsz.trans Try.cellsP)
  obtain ⟨fuel, hf⟩ := h
  obtain ⟨y0, y1, n, hx, _, h0, h1⟩ := trod_struct2 Try.underlying39 hf
  have h0' : DataW.trod enc Try.prog w base spare held n 37 [c0, c1] = some y0 := by simpa [Value.cells, Try.cellsW] using h0
  have h1' : DataW.trod enc Try.prog w base spare held n 3 [c2] = some y1 := by simpa [Value.cells, Try.cellsI] using h1
  obtain ⟨u0, u1, m, hu, _, g0, g1⟩ := trod_struct2 Try.underlying37 h0'
  have g0' : DataW.trod enc Try.prog w base spare held m 35 [c0] = some u0 := by simpa [Value.cells, Try.cellsU] using g0
  have g1' : DataW.trod enc Try.prog w base spare held m 35 [c1] = some u1 := by simpa [Value.cells, Try.cellsU] using g1
  obtain ⟨a, ea, rfl, wa⟩ := DataW.trod_int Try.underlying35 g0'
  obtain ⟨b, eb, rfl, wb⟩ := DataW.trod_int Try.underlying35 g1'
  obtain ⟨k, ek, rfl, wk⟩ := DataW.trod_int Try.underlying3 h1'
  simp at ea eb ek
  subst ea eb ek hu
  simp only [Prod.mk.injEq] at hx
  exact ⟨a, b, k, rfl, hx.1, by simpa using hx.2, wa, wb, wk⟩
set_option maxRecDepth 100000 in
theorem shut_pfx {a b n : Int} (wa : (Lit.int .u64 a).wf = true) (wb : (Lit.int .u64 b).wf = true) (wn : (Lit.int .i64 n).wf = true) :
    DataW.Trod enc Try.prog w base spare held 39 (.agg #[.int .u64 a, .int .u64 b, .int .i64 n]) (.agg [.agg [.lit (.int .u64 a), .lit (.int .u64 b)], .lit (.int .i64 n)]) [] := by
  have f : ∀ {z : Int}, (Lit.int .u64 z).wf = true → DataW.trod enc Try.prog w base spare held 1 35 [.int .u64 z] = some (.lit (.int .u64 z), []) := fun hz => by simp [DataW.trod, Try.underlying35, hz]
  have g : DataW.trod enc Try.prog w base spare held 2 3 [.int .i64 n] = some (.lit (.int .i64 n), []) := by simp [DataW.trod, Try.underlying3, wn]
  have s : DataW.trod enc Try.prog w base spare held 2 37 [.int .u64 a, .int .u64 b] = some (.agg [.lit (.int .u64 a), .lit (.int .u64 b)], []) := by
    have := trod_struct2_mk (enc := enc) (w := w) (base := base) (spare := spare) (held := held) (n := 1) (cs := [.int .u64 a, .int .u64 b]) Try.underlying37 (by simp [Try.cellsW]) (by simpa [Try.cellsU] using f wa) (by simpa [Try.cellsU] using f wb)
    simpa using this
  have := trod_struct2_mk (enc := enc) (w := w) (base := base) (spare := spare) (held := held) (n := 2) (cs := [.int .u64 a, .int .u64 b, .int .i64 n]) Try.underlying39 (by simp [Try.cellsP]) (by simpa [Try.cellsW] using s) (by simpa [Try.cellsI] using g)
  exact ⟨3, by simpa [Value.cells] using this⟩
end
end Go.Proofs.Ytoejhhoniflpeaa
