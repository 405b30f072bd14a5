/-
  Part 33 of the proof: 3 texts, one behind the other.
-/
import Derived.Test.YtofpbommhklooaaPart32
import Derived.Test.YtofpbommhklooaaPart28
import Derived.Test.YtofpbommhklooaaRows
import Derived.ProofKit
import Derived.Lib.SmallJoins
import Derived.Test.YtofpbommhklooaaPart11
import Derived.Deep.Slices
import Derived.Deep.Strs
import Derived.Carry
/-
  The law TrieWalks.
-/
namespace Go.Proofs.Ytofpbommhklooaa
open Go.RowKit Go.Shelf
set_option linter.unusedSimpArgs false
set_option linter.unusedVariables false
attribute [local go_sem] Oper.semAt_some

/-- The law's variables: the table, the word, the answer, what is wanted, the count. -/
structure VW8 (w : World) (F : Int) (v : Value) (x : BitVec 128) (H : Nat) (wv : Value) (kv : Int) (ao : Option Addr) (A : List Int) (W : World) : Prop where
  t : W.heap[w.heap.size]? = some (.cells #[.int .i64 F, v] 24)
  x : W.heap[w.heap.size + 1]? = some (.cells #[.int .u64 (hI x), .int .u64 (lI x)] 27)
  r : W.heap[w.heap.size + 2]? = some (.cells #[.bool false] 4)
  s : Cl1 W H wv
  k : Cl1 W (H + 1) (.int .i64 kv)
  a : RowI W H ao A
section
variable {w W W' : World} {F : Int} {v wv : Value} {x : BitVec 128} {kv : Int} {H : Nat} {ao : Option Addr} {A : List Int}
theorem VW8.below (q : VW8 w F v x H wv kv ao A W) (hb : Below W.heap.size W W') : VW8 w F v x H wv kv ao A W' := ⟨(hb.block _ (blk_lt q.t)).trans q.t, (hb.block _ (blk_lt q.x)).trans q.x, (hb.block _ (blk_lt q.r)).trans q.r, q.s.below hb, q.k.below hb, q.a.below hb⟩
theorem VW8.kept (q : VW8 w F v x H wv kv ao A W) {row : Option Nat} (hg : W.grownBy W' row) (hr : ∀ r, row = some r → ∃ o : Obj, W.heap[r]? = some o ∧ o.isCells = false) : VW8 w F v x H wv kv ao A W' := ⟨blk_kept q.t hg hr, blk_kept q.x hg hr, blk_kept q.r hg hr, q.s.kept hg hr, q.k.kept hg hr, q.a.kept hg hr⟩
theorem VW8.setK (q : VW8 w F v x H wv kv ao A W) (hH : w.heap.size + 2 < H) (m : Int) : VW8 w F v x H wv m ao A (W.setCell ⟨H + 1, 0, none⟩ (.int .i64 m)) := ⟨(setB _ (by omega)).trans q.t, (setB _ (by omega)).trans q.x, (setB _ (by omega)).trans q.r, q.s.heap (setB _ (by omega)), q.k.set _, q.a.set _ (by omega)⟩
end
set_option maxRecDepth 100000 in
theorem seqnilW (a b c : Value) (W : World) : (binOp BinOp.eql 34 (.func (.func 24) #[.agg #[a, b, c]] #[]) .nilFunc).run Try.prog W = .ok (.bool false) W := by
  kernel_rfl
set_option maxRecDepth 100000 in
set_option maxHeartbeats 32000000 in
theorem trieWalks_any (F : Int) (v : Value) (l : List Rte) (x : BitVec 128) (w : World) (hv : RwR w v l) :
    Calls Try.prog 3 #[.agg #[.int .i64 F, v], .agg #[.int .u64 (hI x), .int .u64 (lI x)]] w fun e w' => e = .returned (.bool true) ∧ Below w.heap.size w w' := by
  have q1 := bl1 w (.cells #[.int .i64 F, v] 24)
  have q2 := bl1 (w.alloc (.cells #[.int .i64 F, v] 24)) (.cells #[.int .u64 (hI x), .int .u64 (lI x)] 27)
  have q3 := bl1 ((w.alloc (.cells #[.int .i64 F, v] 24)).alloc (.cells #[.int .u64 (hI x), .int .u64 (lI x)] 27)) (.cells #[.bool false] 4)
  have HB0 := hidX (keepb q3 (keepb q2 q1))
  have HV0 := hidX (((hv.below q1).below q2).below q3)
  have s1 : (w.alloc (.cells #[.int .i64 F, v] 24)).heap.size = w.heap.size + 1 := by simp
  have s2 : ((w.alloc (.cells #[.int .i64 F, v] 24)).alloc (.cells #[.int .u64 (hI x), .int .u64 (lI x)] 27)).heap.size = w.heap.size + 2 := by simp
  have HL0 : Hid (∀ X, X = (((w.alloc (.cells #[.int .i64 F, v] 24)).alloc (.cells #[.int .u64 (hI x), .int .u64 (lI x)] 27)).alloc (.cells #[.bool false] 4)) → (X.heap[w.heap.size]? = some (.cells #[.int .i64 F, v] 24) ∧ X.heap[w.heap.size + 1]? = some (.cells #[.int .u64 (hI x), .int .u64 (lI x)] 27) ∧ X.heap[w.heap.size + 2]? = some (.cells #[.bool false] 4))) := hidX (by
    rintro X rfl
    refine ⟨?_, ?_, ?_⟩
    · rw [q3.block _ (by omega), q2.block _ (by omega)]
      exact Array.getElem?_push_size
    · rw [q3.block _ (by omega), ← s1]
      exact Array.getElem?_push_size
    · rw [← s2]
      exact Array.getElem?_push_size)
  obtain ⟨ao, c, rfl, -⟩ := hv
  have KK := fun w => known8_any w
  clear q1 q2 q3 s1 s2
  refine (callsIn_wide (n := 9)).1 ?_
  refine callsIn_of_wp_marks Try.func3 rfl trivial ?_ rfl
  simp only [Try.ntmps3, List.size_toArray, List.length_cons, List.length_nil, Nat.reduceAdd, Nat.reduceSub, Array.replicate_succ, Array.replicate_zero, List.push_toArray, List.append_toArray, List.nil_append, List.cons_append]
  refine wpIn_wide.2 ?_
  go_wp2_with fail
  revert HB0 HV0 HL0
  generalize ((w.alloc (.cells #[.int .i64 F, (.slice ao l.length c)] 24)).alloc (.cells #[.int .u64 (hI x), .int .u64 (lI x)] 27)).alloc (.cells #[.bool false] 4) = W3
  intro HB0 HV0 HL0
  refine (KK W3).mono ?_
  rintro e w1 ⟨rfl, hb⟩
  obtain ⟨k1, k2, k3⟩ := HL0.out W3 rfl
  have HB1 := hidX (keepb hb HB0.out)
  have HV1 := hidX (HV0.out.below hb)
  have HL1 : Hid ((w1.heap[w.heap.size]? = some (.cells #[.int .i64 F, (.slice ao l.length c)] 24) ∧ w1.heap[w.heap.size + 1]? = some (.cells #[.int .u64 (hI x), .int .u64 (lI x)] 27) ∧ w1.heap[w.heap.size + 2]? = some (.cells #[.bool false] 4))) := hidX (And.intro ((hb.block _ (blk_lt k1)).trans k1) (And.intro ((hb.block _ (blk_lt k2)).trans k2) ((hb.block _ (blk_lt k3)).trans k3)))
  clear KK hb k1 k2 k3 HB0 HV0 HL0
  have KM := both8_any F (.slice ao l.length c) l w1 HV1.out
  have t0 := at_block HL1.out.1 0 (.int .i64 F) rfl
  have t1 := at_block HL1.out.1 1 (.slice ao l.length c) rfl
  go_wp2_with fail
  refine KM.mono ?_
  rintro e w2 ⟨hM, hb⟩
  have HB2 := hidX (keepb hb HB1.out)
  have HL2 : Hid ((w2.heap[w.heap.size]? = some (.cells #[.int .i64 F, (.slice ao l.length c)] 24) ∧ w2.heap[w.heap.size + 1]? = some (.cells #[.int .u64 (hI x), .int .u64 (lI x)] 27) ∧ w2.heap[w.heap.size + 2]? = some (.cells #[.bool false] 4))) := hidX (And.intro ((hb.block _ (blk_lt HL1.out.1)).trans HL1.out.1) (And.intro ((hb.block _ (blk_lt HL1.out.2.1)).trans HL1.out.2.1) ((hb.block _ (blk_lt HL1.out.2.2)).trans HL1.out.2.2)))
  have HV2 := hidX (HV1.out.below hb)
  clear KM hb t0 t1 HB1 HV1 HL1
  have hw2 : w.heap.size + 2 < w2.heap.size := blk_lt HL2.out.2.2
  rcases hM with rfl | ⟨B, g, cap, wg, wc, ws, L, D, P, Z, gp, cp, gz, cz, rfl, k1, k2, k3, k4, hl3⟩
  · have hr : Cl1 w2 (w.heap.size + 2) (.bool false) := ⟨at_block HL2.out.2.2 0 _ rfl, fr_blk HL2.out.2.2⟩
    have HR := hidX (hr.set (.bool true))
    have HBz := hidX (HB2.out.setCell (p := ⟨w.heap.size + 2, 0, none⟩) (by simp) (.bool true))
    obtain ⟨r0, rf⟩ := hr
    clear HL2 HB2 hw2
    go_wp2
    obtain ⟨z0, -⟩ := HR.out
    refine ⟨.bool true, ?_, rfl, HBz.out⟩
    simp [results, Try.results3, go_sem, z0]
  · have HC := hidX (show (TrT w2 B F g cap wg wc L ws ∧ DrT w2 D F (.slice ao l.length c) P Z gp cp gz cz ∧ (w2.heap[w.heap.size]? = some (.cells #[.int .i64 F, (.slice ao l.length c)] 24) ∧ w2.heap[w.heap.size + 1]? = some (.cells #[.int .u64 (hI x), .int .u64 (lI x)] 27) ∧ w2.heap[w.heap.size + 2]? = some (.cells #[.bool false] 4)) ∧ Below w.heap.size w w2) from ⟨k1, k4, HL2.out, HB2.out⟩)
    have Hx := hidX k2
    have Hd := hidX k3
    have y0 := at_block HL2.out.2.1 0 (.int .u64 (hI x)) rfl
    have y1 := at_block HL2.out.2.1 1 (.int .u64 (lI x)) rfl
    clear k1 k2 k3 k4 HL2 HB2 hw2
    go_wp2_with fail
    refine (tpath_any B x w2).mono ?_
    rintro e w3 ⟨rfl, hb⟩
    have HCb : Hid (∀ X Y, (TrT X B F g cap wg wc L ws ∧ DrT X D F (.slice ao l.length c) P Z gp cp gz cz ∧ (X.heap[w.heap.size]? = some (.cells #[.int .i64 F, (.slice ao l.length c)] 24) ∧ X.heap[w.heap.size + 1]? = some (.cells #[.int .u64 (hI x), .int .u64 (lI x)] 27) ∧ X.heap[w.heap.size + 2]? = some (.cells #[.bool false] 4)) ∧ Below w.heap.size w X) → Below X.heap.size X Y → (TrT Y B F g cap wg wc L ws ∧ DrT Y D F (.slice ao l.length c) P Z gp cp gz cz ∧ (Y.heap[w.heap.size]? = some (.cells #[.int .i64 F, (.slice ao l.length c)] 24) ∧ Y.heap[w.heap.size + 1]? = some (.cells #[.int .u64 (hI x), .int .u64 (lI x)] 27) ∧ Y.heap[w.heap.size + 2]? = some (.cells #[.bool false] 4)) ∧ Below w.heap.size w Y)) := hidX (fun X Y a b => ⟨a.1.below b, a.2.1.below b, ⟨(b.block _ (blk_lt a.2.2.1.1)).trans a.2.2.1.1, (b.block _ (blk_lt a.2.2.1.2.1)).trans a.2.2.1.2.1, (b.block _ (blk_lt a.2.2.1.2.2)).trans a.2.2.1.2.2⟩, keepb b a.2.2.2⟩)
    have HC3 := hidX (HCb.out _ _ HC.out hb)
    have HV3 := hidX (HV2.out.below hb)
    clear HC hb y0 y1
    obtain ⟨N, wq⟩ := Hx.out.t.path x
    have wt := wq.to
    rw [Int.natCast_zero] at wt
    have Hwt := hidX wt
    have hN9 : N + 1 ≤ 1000000 := by
      have hnod := wq.nod
      rw [Int.natCast_zero] at hnod
      obtain ⟨m, -, -, m2, m3, -⟩ := hnod N _ (List.getElem?_eq_getElem (by rw [wayL_len]; omega))
      have := Hx.out.t.ln128 m2
      have := Hx.out.t.ln0
      omega
    obtain ⟨m0, hm0⟩ : ∃ m0 : Int, m0 = lastH L (pthL L F x (N + 1)) 0 := ⟨_, rfl⟩
    have hm1 : (rightE F x = 0 → m0 = hopM (mat x none l)) ∧ (¬ rightE F x = 0 → m0 = 0) := by
      rw [right_zero8 Hx.out.fam Hx.out.F0.1, hm0]
      unfold pthL
      constructor
      · intro q
        rw [if_pos q]
        exact Hx.out.last wq
      · intro q
        rw [if_neg q]; rfl
    have HKf : Hid (∀ X, (TrT X B F g cap wg wc L ws ∧ DrT X D F (.slice ao l.length c) P Z gp cp gz cz ∧ (X.heap[w.heap.size]? = some (.cells #[.int .i64 F, (.slice ao l.length c)] 24) ∧ X.heap[w.heap.size + 1]? = some (.cells #[.int .u64 (hI x), .int .u64 (lI x)] 27) ∧ X.heap[w.heap.size + 2]? = some (.cells #[.bool false] 4)) ∧ Below w.heap.size w X) → Calls Try.prog 8 #[.pointer (some ⟨B, 0, none⟩), .agg #[.int .u64 (hI x), .int .u64 (lI x)]] X fun e w' => e = .returned (.int .i64 m0) ∧ Below X.heap.size X w') := hidX (fun X k => by
      rw [hm0]
      exact tlook_any (N + 1) B F g cap (.slice (some ⟨wg, 0, none⟩) ws.length wc) L x (fun _ => Hwt.out) X k.1.tn Hx.out.t.pos Hx.out.ok (by have := Hx.out.len; omega))
    have HKg : Hid (∀ X, ((TrT X B F g cap wg wc L ws ∧ DrT X D F (.slice ao l.length c) P Z gp cp gz cz ∧ (X.heap[w.heap.size]? = some (.cells #[.int .i64 F, (.slice ao l.length c)] 24) ∧ X.heap[w.heap.size + 1]? = some (.cells #[.int .u64 (hI x), .int .u64 (lI x)] 27) ∧ X.heap[w.heap.size + 2]? = some (.cells #[.bool false] 4)) ∧ Below w.heap.size w X) ∧ RwR X (.slice ao l.length c) l) → Calls Try.prog 9 #[.pointer (some ⟨D, 0, none⟩), .agg #[.int .u64 (hI x), .int .u64 (lI x)]] X fun e w' => e = .returned (.int .i64 m0) ∧ Below X.heap.size X w') := hidX (fun X k => by
      by_cases q : rightE F x = 0
      · rw [hm1.1 q]
        exact rlook8_yes _ x X k.1.2.1 q k.2 (by omega) (fun r hr => ⟨(Hx.out.rr r hr).1.1, Int.le_trans (Hx.out.rr r hr).1.2.1 Hx.out.F0.2, (Hx.out.rr r hr).1.2.2⟩)
      · rw [hm1.2 q]
        exact rlook8_no _ x X k.1.2.1 q)
    have HD := hidX (show ((TrT w3.drew B F g cap wg wc L ws ∧ DrT w3.drew D F (.slice ao l.length c) P Z gp cp gz cz ∧ (w3.drew.heap[w.heap.size]? = some (.cells #[.int .i64 F, (.slice ao l.length c)] 24) ∧ w3.drew.heap[w.heap.size + 1]? = some (.cells #[.int .u64 (hI x), .int .u64 (lI x)] 27) ∧ w3.drew.heap[w.heap.size + 2]? = some (.cells #[.bool false] 4)) ∧ Below w.heap.size w w3.drew)) ∧ RwR w3.drew (.slice ao l.length c) l from ⟨HCb.out _ _ HC3.out (below_drewN (Below.refl _ _) 1), (HV3.out).below (below_drewN (Below.refl _ _) 1)⟩)
    have HCg : Hid (∀ X Y, ((TrT X B F g cap wg wc L ws ∧ DrT X D F (.slice ao l.length c) P Z gp cp gz cz ∧ (X.heap[w.heap.size]? = some (.cells #[.int .i64 F, (.slice ao l.length c)] 24) ∧ X.heap[w.heap.size + 1]? = some (.cells #[.int .u64 (hI x), .int .u64 (lI x)] 27) ∧ X.heap[w.heap.size + 2]? = some (.cells #[.bool false] 4)) ∧ Below w.heap.size w X) ∧ RwR X (.slice ao l.length c) l) → Below X.heap.size X Y → ((TrT Y B F g cap wg wc L ws ∧ DrT Y D F (.slice ao l.length c) P Z gp cp gz cz ∧ (Y.heap[w.heap.size]? = some (.cells #[.int .i64 F, (.slice ao l.length c)] 24) ∧ Y.heap[w.heap.size + 1]? = some (.cells #[.int .u64 (hI x), .int .u64 (lI x)] 27) ∧ Y.heap[w.heap.size + 2]? = some (.cells #[.bool false] 4)) ∧ Below w.heap.size w Y) ∧ RwR Y (.slice ao l.length c) l)) := hidX (fun X Y a b => ⟨HCb.out _ _ a.1 b, a.2.below b⟩)
    have E0 := fun W => seqnilW (.pointer (some ⟨B, 0, none⟩)) (.int .u64 (hI x)) (.int .u64 (lI x)) W
    clear HC3 hm0 hm1 wt
    go_wp2_with fail
    refine qw_region (C := fun X => (TrT X B F g cap wg wc L ws ∧ DrT X D F (.slice ao l.length c) P Z gp cp gz cz ∧ (X.heap[w.heap.size]? = some (.cells #[.int .i64 F, (.slice ao l.length c)] 24) ∧ X.heap[w.heap.size + 1]? = some (.cells #[.int .u64 (hI x), .int .u64 (lI x)] 27) ∧ X.heap[w.heap.size + 2]? = some (.cells #[.bool false] 4)) ∧ Below w.heap.size w X) ∧ RwR X (.slice ao l.length c) l) (by kernel_rfl) (by kernel_rfl) HD.out ?_
    clear HD
    refine qw_run (v := .func (.func 24) #[.agg #[.pointer (some ⟨B, 0, none⟩), .int .u64 (hI x), .int .u64 (lI x)]] #[]) (by rfl) ?_ ?_
    · (intro w1 hC; clear hC; go_simp; first | done | (simp; done) | (simp [*]; done) | omega | (simp; omega) | rfl)
    simp only [Act.put, List.setIfInBounds_toArray, List.set_cons_zero, List.set_cons_succ]
    refine qw_run (v := .bool false) (by rfl) ?_ ?_
    · (intro w1 hC; have f0 := E0 w1; clear hC; go_simp; first | done | (simp; done) | (simp [*]; done) | omega | (simp; omega) | rfl)
    simp only [Act.put, List.setIfInBounds_toArray, List.set_cons_zero, List.set_cons_succ]
    refine qw_run (v := .bool false) (by rfl) ?_ ?_
    · (intro w1 hC; clear hC; go_simp; first | done | (simp; done) | (simp [*]; done) | omega | (simp; omega) | rfl)
    simp only [Act.put, List.setIfInBounds_toArray, List.set_cons_zero, List.set_cons_succ]
    refine qw_run (v := .pointer (some ⟨B, 0, none⟩)) (by rfl) ?_ ?_
    · (intro w1 hC; clear hC; go_simp; first | done | (simp; done) | (simp [*]; done) | omega | (simp; omega) | rfl)
    simp only [Act.put, List.setIfInBounds_toArray, List.set_cons_zero, List.set_cons_succ]
    refine qw_run (v := .agg #[.int .u64 (hI x), .int .u64 (lI x)]) (by rfl) ?_ ?_
    · (intro w1 hC; have f0 := at_block hC.1.2.2.1.2.1 0 _ rfl; have f1 := at_block hC.1.2.2.1.2.1 1 _ rfl; clear hC; go_simp; first | done | (simp; done) | (simp [*]; done) | omega | (simp; omega) | rfl)
    simp only [Act.put, List.setIfInBounds_toArray, List.set_cons_zero, List.set_cons_succ]
    refine qw_call (v := .int .i64 m0) (f := 8) (args := #[.pointer (some ⟨B, 0, none⟩), .agg #[.int .u64 (hI x), .int .u64 (lI x)]]) (by rfl) ?_ ?_ ?_
    · (intro w1 hC; clear hC; go_simp)
    · exact fun w1 hC => (HKf.out w1 hC.1).mono fun e w' ⟨he, hb⟩ => ⟨he, HCg.out _ _ hC hb⟩
    simp only [Act.put, List.setIfInBounds_toArray, List.set_cons_zero, List.set_cons_succ]
    refine qw_run (v := .pointer (some ⟨D, 0, none⟩)) (by rfl) ?_ ?_
    · (intro w1 hC; clear hC; go_simp; first | done | (simp; done) | (simp [*]; done) | omega | (simp; omega) | rfl)
    simp only [Act.put, List.setIfInBounds_toArray, List.set_cons_zero, List.set_cons_succ]
    refine qw_run (v := .agg #[.int .u64 (hI x), .int .u64 (lI x)]) (by rfl) ?_ ?_
    · (intro w1 hC; have f0 := at_block hC.1.2.2.1.2.1 0 _ rfl; have f1 := at_block hC.1.2.2.1.2.1 1 _ rfl; clear hC; go_simp; first | done | (simp; done) | (simp [*]; done) | omega | (simp; omega) | rfl)
    simp only [Act.put, List.setIfInBounds_toArray, List.set_cons_zero, List.set_cons_succ]
    refine qw_call (v := .int .i64 m0) (f := 9) (args := #[.pointer (some ⟨D, 0, none⟩), .agg #[.int .u64 (hI x), .int .u64 (lI x)]]) (by rfl) ?_ ?_ ?_
    · (intro w1 hC; clear hC; go_simp)
    · exact fun w1 hC => (HKg.out w1 hC).mono fun e w' ⟨he, hb⟩ => ⟨he, HCg.out _ _ hC hb⟩
    simp only [Act.put, List.setIfInBounds_toArray, List.set_cons_zero, List.set_cons_succ]
    refine qw_run (v := .bool false) (by rfl) ?_ ?_
    · (intro w1 hC; clear hC; go_simp; first | done | (simp; done) | (simp [*]; done) | omega | (simp; omega) | rfl)
    simp only [Act.put, List.setIfInBounds_toArray, List.set_cons_zero, List.set_cons_succ]
    refine qw_run (v := .bool false) (by rfl) ?_ ?_
    · (intro w1 hC; clear hC; go_simp; first | done | (simp; done) | (simp [*]; done) | omega | (simp; omega) | rfl)
    simp only [Act.put, List.setIfInBounds_toArray, List.set_cons_zero, List.set_cons_succ]
    refine qw_nil ?_
    clear HKf HKg E0
    intro w4 hC
    have HC4 := hidX hC.1
    clear hC HCg HV3
    have y0 := at_block HC4.out.2.2.1.2.1 0 (.int .u64 (hI x)) rfl
    have y1 := at_block HC4.out.2.2.1.2.1 1 (.int .u64 (lI x)) rfl
    have KA : Calls Try.prog 10 #[.pointer (some ⟨D, 0, none⟩), .agg #[.int .u64 (hI x), .int .u64 (lI x)]] w4 fun r w' => (∃ lv base, r = .returned lv ∧ w'.ownsRow base 3 1 lv (pthL L F x (N + 1)).length (rowZ (pthL L F x (N + 1)))) ∧ Below w4.heap.size w4 w' := by
      unfold pthL
      by_cases q : checkE F x F = 0
      · rw [if_pos q]
        exact rpath8_yes Hx.out Hd.out _ x (N + 1) Hwt.out hN9 w4 HC4.out.2.1 ((right_zero8 Hx.out.fam Hx.out.F0.1).mpr q)
      · rw [if_neg q]
        refine (rpath8_no _ x w4 HC4.out.2.1 (fun z => q ((right_zero8 Hx.out.fam Hx.out.F0.1).mp z))).mono ?_
        rintro e w' ⟨rfl, hb⟩
        exact ⟨⟨_, 0, rfl, rfl, .inl ⟨rfl, rfl⟩⟩, hb⟩
    go_wp2_with fail
    refine KA.mono ?_
    rintro e w5 ⟨⟨lv9, bs9, rfl, hO⟩, hb⟩
    obtain ⟨ro, rc, rfl, hRow⟩ := own_rowI hO
    have hC5 := HCb.out _ _ HC4.out hb
    clear KA hO hb HC4 y0 y1
    have hAl : (pthL L F x (N + 1)).length ≤ 1000000000 := by
      unfold pthL
      split
      · rw [wayL_len]; omega
      · simp
    obtain ⟨A, hA⟩ : ∃ A, A = pthL L F x (N + 1) := ⟨_, rfl⟩
    rw [← hA] at hAl hRow ⊢
    have HA := hidX hA
    clear hA
    have q1 := bl1 w5 (.cells #[.slice ro A.length rc] 37)
    have q2 := bl1 (w5.alloc (.cells #[.slice ro A.length rc] 37)) (.cells #[.int .i64 0] 3)
    have s1 : (w5.alloc (.cells #[.slice ro A.length rc] 37)).heap.size = w5.heap.size + 1 := by simp
    have hC6 := HCb.out _ _ (HCb.out _ _ hC5 q1) q2
    have HTr := hidX hC6.1
    have HB := hidX hC6.2.2.2
    have HF : Hid (VW8 w F (.slice ao l.length c) x w5.heap.size (.slice ro A.length rc) 0 ro A ((w5.alloc (.cells #[.slice ro A.length rc] 37)).alloc (.cells #[.int .i64 0] 3))) := hidX ⟨hC6.2.2.1.1, hC6.2.2.1.2.1, hC6.2.2.1.2.2, (cl1_new w5 w5.heap.size (.slice ro A.length rc) 37 rfl).below q2, cl1_new (w5.alloc (.cells #[.slice ro A.length rc] 37)) (w5.heap.size + 1) (.int .i64 0) 3 s1.symm, (hRow.below q1).below q2⟩
    have HHn : Hid (w.heap.size + 2 < w5.heap.size ∧ B < w5.heap.size ∧ g < w5.heap.size ∧ wg < w5.heap.size) := hidX ⟨blk_lt hC5.2.2.1.2.2, cell_in hC5.1.tn.w, cell_in (hC5.1.tn.row 0 Hx.out.t.pos).1, cell_in (hC5.1.wd 0 (by rw [Hx.out.t.wl]; omega)).1⟩
    clear q1 q2 s1 hC6 hC5 hRow HCb
    go_wp2_with fail
    revert HTr HB HF HHn
    generalize (w5.alloc (.cells #[.slice ro A.length rc] 37)).alloc (.cells #[.int .i64 0] 3) = Wl
    generalize w5.heap.size = H
    intro HTr HB HF HHn
    have hWl : H + 1 < Wl.heap.size := HF.out.k.lt
    have hhn := HHn.out
    refine (wpIn_wide (n := 9)).1 ?_
    refine rangeYA 9 (by decide) (gf := 24) (ba := #[.agg #[.pointer (some ⟨B, 0, none⟩), .int .u64 (hI x), .int .u64 (lI x)]]) (lb := #[]) rfl (enters_of Try.func24 (by kernel_rfl) rfl)
      (way_each (9 - 1) (N + 1) (fun z => z = B ∨ z = g) (Wl.heap.size + 2) B F g cap (.slice (some ⟨wg, 0, none⟩) ws.length wc) L x (fun _ => Hwt.out) Wl HTr.out.tn (.inl (.inl rfl)) (.inl (.inr rfl)) Hx.out.ok (by have := Hx.out.len; omega)) (Nat.le_refl _) (fun A => KW.refl _ _ _) (fun h k => h.trans k) (fun V o o' h1 h2 => kw_put (by rintro (q | q) <;> omega) (by omega) V o o' h1 h2) (Below.refl _ _) (fun _ => rfl)
      (fun pre V => (TrT V B F g cap wg wc L ws ∧ VW8 w F (.slice ao l.length c) x H (.slice ro A.length rc) (pre.length : Int) ro A V) ∧ Below w.heap.size w V)
      (fun c pre V => False)
      (OwnFrom.and (Own.from (fun s A B row hs hg hr => ⟨hs.1.kept hg hr, hs.2.kept hg hr⟩) _) (ownFrom_below (Nat.le_refl _) (by omega)))
      (fun c s A B row hs hg hr => hs)
      ⟨⟨HTr.out, HF.out⟩, HB.out⟩
      ?AX ?assign ?body ?done ?stop
    case assign =>
      intro lo y V K hK
      unfold encI
      simp only [List.zip_toArray, List.zip_cons_cons, List.zip_nil_left, List.zip_nil_right, List.foldl_toArray, List.foldl_cons, List.foldl_nil, List.setIfInBounds_toArray, List.set_cons_zero, List.set_cons_succ, Array.zip]
      have HKK := hidX hK
      clear hK
      gi_wp2
      exact HKK.out
    case body =>
      rintro lo pre y V hl - ⟨⟨hi1, hi2⟩, hi3⟩ hlt
      rw [← HA.out] at hlt
      obtain ⟨suf, hsuf⟩ := hlt
      have hlen : pre.length < A.length := by rw [← hsuf]; simp
      have hget : A[pre.length]? = some y := by rw [← hsuf]; simp
      obtain ⟨rg, rfl, -, c0⟩ := hi2.a pre.length y hget
      obtain ⟨s0, -⟩ := hi2.s
      obtain ⟨k0, kf⟩ := hi2.k
      have hlt' : ¬ (A.length : Int) ≤ (pre.length : Int) := by omega
      have wn : IntKind.i64.wrap ((pre.length : Int) + 1) = ((pre ++ [y]).length : Int) := by
        rw [IntKind.wrap_i64]; simp; omega
      have HN := hidX (show KeepsFrom Wl.heap.size V (V.setCell ⟨H + 1, 0, none⟩ (.int .i64 ((pre ++ [y]).length : Int))) ∧ KW (fun z => z = B ∨ z = g) (Wl.heap.size + 2) V (V.setCell ⟨H + 1, 0, none⟩ (.int .i64 ((pre ++ [y]).length : Int))) ∧ (TrT (V.setCell ⟨H + 1, 0, none⟩ (.int .i64 ((pre ++ [y]).length : Int))) B F g cap wg wc L ws ∧ VW8 w F (.slice ao l.length c) x H (.slice (some ⟨rg, 0, none⟩) A.length rc) ((pre ++ [y]).length : Int) (some ⟨rg, 0, none⟩) A (V.setCell ⟨H + 1, 0, none⟩ (.int .i64 ((pre ++ [y]).length : Int)))) ∧ Below w.heap.size w (V.setCell ⟨H + 1, 0, none⟩ (.int .i64 ((pre ++ [y]).length : Int))) from
        ⟨⟨by simp, fun z o h1 h2 h3 => (setB _ (by omega)).trans h2⟩, kw_set (by rintro (q | q) <;> omega) (by omega) V _, ⟨hi1.heap (setB _ (by omega)) (setB _ (by omega)) (setB _ (by omega)), hi2.setK hhn.1 _⟩, hi3.setCell (p := ⟨H + 1, 0, none⟩) (by show w.heap.size ≤ H + 1; omega) _⟩)
      revert wn HN
      generalize hn2 : ((pre ++ [y]).length : Int) = n2
      intro wn HN
      have Hn2 := hidX hn2
      clear hn2
      clear hi1 hi2 hi3 hsuf hget
      gi_wp2
      exact ⟨HN.out.1, HN.out.2.1, ⟨HN.out.2.2.1.1, by rw [Hn2.out]; exact HN.out.2.2.1.2⟩, HN.out.2.2.2⟩
    case done =>
      rintro D9 ys V hD rfl ⟨⟨hi1, hi2⟩, hi3⟩ hK
      rw [← HA.out] at hi2
      obtain ⟨s0, -⟩ := hi2.s
      obtain ⟨k0, -⟩ := hi2.k
      have hr : Cl1 V (w.heap.size + 2) (.bool false) := ⟨at_block hi2.r 0 _ rfl, fr_blk hi2.r⟩
      have HR := hidX (hr.set (.bool true))
      have HBz := hidX (hi3.setCell (p := ⟨w.heap.size + 2, 0, none⟩) (by simp) (.bool true))
      have HK : Hid ((V.setCell ⟨w.heap.size + 2, 0, none⟩ (.bool true)).heap[D9]? = some (.deferred (some []))) := hidX ((setB _ (by omega)).trans hK)
      have HD9 := hidX hD
      obtain ⟨r0, rf⟩ := hr
      clear hi1 hi2 hi3 hK
      refine wl_nil8 (P := Try.prog) (ops := #[]) ?_
      go_wp2
      refine ⟨by simp, .inl ⟨_, _, rfl, run_takeDeferred HK.out, ?_⟩⟩
      obtain ⟨z0, -⟩ := HR.out.kept (grownBy_putObj' _ D9 (.deferred none)) (fun r e => by cases e; exact ⟨_, HK.out, rfl⟩)
      refine ⟨.bool true, ?_, rfl, HBz.out.trans (belowK_b (w := w) (Nat.le_refl _) _ D9 _ _ (by omega) HK.out rfl rfl)⟩
      simp [results, Try.results3, go_sem, z0]
    case stop =>
      rintro D9 c pre V hD hpre hi hK
      exact hi.elim
end Go.Proofs.Ytofpbommhklooaa
/-
  How a prefix that is handed in reads as data.
-/
namespace Go.Proofs.Ytofpbommhklooaa
open Go.ChangeShapes Go.WideShapes Go.ChangeAt Go.RowKit Go.Joins
set_option linter.unusedSimpArgs false
set_option linter.unusedVariables false

theorem Try.cellsW : Try.prog.cellsOf 27 = 2 := by kernel_rfl
theorem Try.cellsP : Try.prog.cellsOf 45 = 3 := by kernel_rfl
theorem Try.cellsI : Try.prog.cellsOf 3 = 1 := by kernel_rfl
theorem Try.cellsU : Try.prog.cellsOf 25 = 1 := by kernel_rfl
section
variable {H : Type} {enc : TypeId × Value → H} {w : World} {base : Nat} {spare : Nat → Bool} {held : Bool}
set_option maxRecDepth 100000 in
theorem open_pfx {r : Reach} {b0 : Nat} {v : Value} {d : DataW H} {p : List MemPlace} (hv : Value.okWide Try.prog w r b0 45 v) (h : DataW.Trod enc Try.prog w base spare held 45 v d p) :
    ∃ a b n : Int, v = .agg #[.int .u64 a, .int .u64 b, .int .i64 n] ∧ d = .agg [.agg [.lit (.int .u64 a), .lit (.int .u64 b)], .lit (.int .i64 n)] ∧ p = [] ∧ (Lit.int .u64 a).wf = true ∧ (Lit.int .u64 b).wf = true ∧ (Lit.int .i64 n).wf = true := by
  obtain ⟨cs, rfl, hsz⟩ := okWide_struct Try.underlying45 hv
  obtain ⟨c0, c1, c2, rfl⟩ := array3 (hsz.trans Try.cellsP)
  obtain ⟨fuel, hf⟩ := h
  obtain ⟨y0, y1, n, hx, _, h0, h1⟩ := trod_struct2 Try.underlying45 hf
  have h0' : DataW.trod enc Try.prog w base spare held n 27 [c0, c1] = some y0 := by simpa [Value.cells, Try.cellsW] using h0
  have h1' : DataW.trod enc Try.prog w base spare held n 3 [c2] = some y1 := by simpa [Value.cells, Try.cellsI] using h1
  obtain ⟨u0, u1, m, hu, _, g0, g1⟩ := trod_struct2 Try.underlying27 h0'
  have g0' : DataW.trod enc Try.prog w base spare held m 25 [c0] = some u0 := by simpa [Value.cells, Try.cellsU] using g0
  have g1' : DataW.trod enc Try.prog w base spare held m 25 [c1] = some u1 := by simpa [Value.cells, Try.cellsU] using g1
  obtain ⟨a, ea, rfl, wa⟩ := DataW.trod_int Try.underlying25 g0'
  obtain ⟨b, eb, rfl, wb⟩ := DataW.trod_int Try.underlying25 g1'
  obtain ⟨k, ek, rfl, wk⟩ := DataW.trod_int Try.underlying3 h1'
  simp at ea eb ek
  subst ea eb ek hu
  simp only [Prod.mk.injEq] at hx
  exact ⟨a, b, k, rfl, hx.1, by simpa using hx.2, wa, wb, wk⟩
set_option maxRecDepth 100000 in
theorem shut_pfx {a b n : Int} (wa : (Lit.int .u64 a).wf = true) (wb : (Lit.int .u64 b).wf = true) (wn : (Lit.int .i64 n).wf = true) :
    DataW.Trod enc Try.prog w base spare held 45 (.agg #[.int .u64 a, .int .u64 b, .int .i64 n]) (.agg [.agg [.lit (.int .u64 a), .lit (.int .u64 b)], .lit (.int .i64 n)]) [] := by
  have f : ∀ {z : Int}, (Lit.int .u64 z).wf = true → DataW.trod enc Try.prog w base spare held 1 25 [.int .u64 z] = some (.lit (.int .u64 z), []) := fun hz => by simp [DataW.trod, Try.underlying25, hz]
  have g : DataW.trod enc Try.prog w base spare held 2 3 [.int .i64 n] = some (.lit (.int .i64 n), []) := by simp [DataW.trod, Try.underlying3, wn]
  have s : DataW.trod enc Try.prog w base spare held 2 27 [.int .u64 a, .int .u64 b] = some (.agg [.lit (.int .u64 a), .lit (.int .u64 b)], []) := by
    have := trod_struct2_mk (enc := enc) (w := w) (base := base) (spare := spare) (held := held) (n := 1) (cs := [.int .u64 a, .int .u64 b]) Try.underlying27 (by simp [Try.cellsW]) (by simpa [Try.cellsU] using f wa) (by simpa [Try.cellsU] using f wb)
    simpa using this
  have := trod_struct2_mk (enc := enc) (w := w) (base := base) (spare := spare) (held := held) (n := 2) (cs := [.int .u64 a, .int .u64 b, .int .i64 n]) Try.underlying45 (by simp [Try.cellsP]) (by simpa [Try.cellsW] using s) (by simpa [Try.cellsI] using g)
  exact ⟨3, by simpa [Value.cells] using this⟩
end
end Go.Proofs.Ytofpbommhklooaa
/-
  How a table that is handed in reads as data.
-/
namespace Go.Proofs.Ytofpbommhklooaa
open Go.ChangeShapes Go.WideShapes Go.ChangeAt Go.RowKit Go.Joins
set_option linter.unusedSimpArgs false
set_option linter.unusedVariables false

theorem Try.laidOut : laidOutB Try.prog = true := by kernel_rfl
theorem Try.cellsR : Try.prog.cellsOf 47 = 4 := by kernel_rfl
theorem Try.cellsT : Try.prog.cellsOf 24 = 2 := by kernel_rfl
theorem Try.cellsL : Try.prog.cellsOf 22 = 1 := by kernel_rfl
theorem addT (g o j : Nat) : (⟨g, o, none⟩ : Addr).add j = ⟨g, o + j, none⟩ := by unfold Addr.add; split <;> simp_all
theorem rowR_lenF (l : List Rte) : (rowR l).length = l.length * 4 := by
  induction l with
  | nil => rfl
  | cons r l ih => simp [rowR, ih]; omega
theorem rowR_all {W : World} {b off : Nat} (l : List Rte) (h : ∀ i (hi : i < l.length), W.cell? ⟨b, off + i * 4, none⟩ = some (.int .u64 (hI l[i].1.1)) ∧ W.cell? ⟨b, off + (i * 4 + 1), none⟩ = some (.int .u64 (lI l[i].1.1)) ∧ W.cell? ⟨b, off + (i * 4 + 2), none⟩ = some (.int .i64 l[i].1.2) ∧ W.cell? ⟨b, off + (i * 4 + 3), none⟩ = some (.int .i64 l[i].2)) :
    ∀ j u, (rowR l)[j]? = some u → W.cell? ⟨b, off + j, none⟩ = some u := by
  intro j u hj
  have hlt : j < (rowR l).length := (List.getElem?_eq_some_iff.1 hj).1
  rw [rowR_lenF] at hlt
  have hi : j / 4 < l.length := by omega
  obtain ⟨a0, a1, a2, a3⟩ := h (j / 4) hi
  obtain ⟨b0, b1, b2, b3⟩ := rowR_get l (j / 4) hi
  have hm : j % 4 = 0 ∨ j % 4 = 1 ∨ j % 4 = 2 ∨ j % 4 = 3 := by omega
  rcases hm with hm | hm | hm | hm
  · have e : j = j / 4 * 4 := by omega
    rw [e, b0] at hj
    rw [e, ← hj]; exact a0
  · have e : j = j / 4 * 4 + 1 := by omega
    rw [e, b1] at hj
    rw [e, ← hj]; exact a1
  · have e : j = j / 4 * 4 + 2 := by omega
    rw [e, b2] at hj
    rw [e, ← hj]; exact a2
  · have e : j = j / 4 * 4 + 3 := by omega
    rw [e, b3] at hj
    rw [e, ← hj]; exact a3
section
variable {H : Type} {enc : TypeId × Value → H} {w : World} {spare : Nat → Bool} {held : Bool}
set_option maxRecDepth 100000 in
theorem trod_word {n : Nat} {c0 c1 : Value} {x : DataW H × List MemPlace} (h : DataW.trod enc Try.prog w 0 spare held n 27 [c0, c1] = some x) :
    ∃ a b : Int, c0 = .int .u64 a ∧ c1 = .int .u64 b ∧ (Lit.int .u64 a).wf = true ∧ (Lit.int .u64 b).wf = true := by
  obtain ⟨u0, u1, m, hu, _, g0, g1⟩ := trod_struct2 Try.underlying27 h
  have g0' : DataW.trod enc Try.prog w 0 spare held m 25 [c0] = some u0 := by simpa [Value.cells, Try.cellsU] using g0
  have g1' : DataW.trod enc Try.prog w 0 spare held m 25 [c1] = some u1 := by simpa [Value.cells, Try.cellsU] using g1
  obtain ⟨a, ea, rfl, wa⟩ := DataW.trod_int Try.underlying25 g0'
  obtain ⟨b, eb, rfl, wb⟩ := DataW.trod_int Try.underlying25 g1'
  simp at ea eb
  exact ⟨a, b, ea, eb, wa, wb⟩
set_option maxRecDepth 100000 in
theorem trod_rte {n : Nat} {c0 c1 c2 c3 : Value} {x : DataW H × List MemPlace} (h : DataW.trod enc Try.prog w 0 spare held n 47 [c0, c1, c2, c3] = some x) :
    ∃ a b k g : Int, c0 = .int .u64 a ∧ c1 = .int .u64 b ∧ c2 = .int .i64 k ∧ c3 = .int .i64 g ∧ (Lit.int .u64 a).wf = true ∧ (Lit.int .u64 b).wf = true := by
  obtain ⟨y0, y1, n, hx, _, h0, h1⟩ := trod_struct2 Try.underlying47 h
  have h0' : DataW.trod enc Try.prog w 0 spare held n 45 [c0, c1, c2] = some y0 := by simpa [Value.cells, Try.cellsP] using h0
  have h1' : DataW.trod enc Try.prog w 0 spare held n 3 [c3] = some y1 := by simpa [Value.cells, Try.cellsI, Try.cellsP] using h1
  obtain ⟨z0, z1, n2, hz, _, k0, k1⟩ := trod_struct2 Try.underlying45 h0'
  have k0' : DataW.trod enc Try.prog w 0 spare held n2 27 [c0, c1] = some z0 := by simpa [Value.cells, Try.cellsW] using k0
  have k1' : DataW.trod enc Try.prog w 0 spare held n2 3 [c2] = some z1 := by simpa [Value.cells, Try.cellsI, Try.cellsW] using k1
  obtain ⟨a, b, e0, e1, wa, wb⟩ := trod_word k0'
  obtain ⟨k, ek, rfl, wk⟩ := DataW.trod_int Try.underlying3 k1'
  obtain ⟨g, eg, rfl, wg⟩ := DataW.trod_int Try.underlying3 h1'
  simp at ek eg
  exact ⟨a, b, k, g, e0, e1, ek, eg, wa, wb⟩
theorem spot_none {W : World} {a : Addr} {u : Value} (h : W.cell? a = some u) : a = ⟨a.block, a.off, none⟩ := by
  obtain ⟨b, o, s⟩ := a
  cases s with
  | none => rfl
  | some z =>
    unfold World.cell? at h
    split at h
    · simp at h
    · cases h
theorem array2v {cs : Array Value} (h : cs.size = 2) : ∃ a b, cs = #[a, b] := by
  obtain ⟨l⟩ := cs
  match l, h with
  | [a, b], _ => exact ⟨a, b, rfl⟩
set_option maxRecDepth 100000 in
theorem open_tab {r : Reach} {b0 : Nat} {v : Value} {d : DataW H} {p : List MemPlace} (hv : Value.okWide Try.prog w r b0 24 v) (h : DataW.Trod enc Try.prog w 0 (fun _ => true) held 24 v d p) :
    ∃ (F : Int) (va : Value) (l : List Rte), v = .agg #[.int .i64 F, va] ∧ RwR w va l := by
  obtain ⟨cs, rfl, hsz⟩ := okWide_struct Try.underlying24 hv
  obtain ⟨c0, va, rfl⟩ := array2v (hsz.trans Try.cellsT)
  obtain ⟨fuel, hf⟩ := h
  obtain ⟨y0, y1, n, hx, _, h0, h1⟩ := trod_struct2 Try.underlying24 hf
  have h0' : DataW.trod enc Try.prog w 0 (fun _ => true) held n 3 [c0] = some y0 := by simpa [Value.cells, Try.cellsI] using h0
  have h1' : DataW.trod enc Try.prog w 0 (fun _ => true) held n 22 [va] = some y1 := by simpa [Value.cells, Try.cellsI, Try.cellsL] using h1
  obtain ⟨F, eF, rfl, wF⟩ := DataW.trod_int Try.underlying3 h0'
  simp at eF
  subst eF
  refine ⟨F, va, ?_⟩
  rcases Deep.open_slice Try.underlying22 h1' with ⟨hcs, hx⟩ | ⟨a, len, cap, m, n, D, Pl, hcs, _, hl, hm, hmm, hx, hel⟩
  · simp at hcs
    subst hcs
    exact ⟨[], rfl, none, 0, rfl, .inl rfl⟩
  · simp at hcs
    subst hcs
    simp at hmm
    subst hmm
    rw [Try.cellsR] at hel
    obtain ⟨f, hf⟩ := Deep.choose_lt (α := Rte) (n := len) (p := fun i x => w.cell? (a.add (i * 4)) = some (.int .u64 (hI x.1.1)) ∧ w.cell? ((a.add (i * 4)).add 1) = some (.int .u64 (lI x.1.1)) ∧ w.cell? ((a.add (i * 4)).add 2) = some (.int .i64 x.1.2) ∧ w.cell? ((a.add (i * 4)).add 3) = some (.int .i64 x.2)) (fun i hi => by
      obtain ⟨cs', h1, h2⟩ := hel i (by omega)
      obtain ⟨_, hlen, hc⟩ := World.cells?_some h1
      match cs', hlen with
      | [c0, c1, c2, c3], _ =>
        obtain ⟨x, y, k, g, rfl, rfl, rfl, rfl, wx, wy⟩ := trod_rte h2
        have bx : 0 ≤ x ∧ x < 18446744073709551616 := by simp [Lit.wf, IntKind.min, IntKind.max, IntKind.signed, IntKind.bits] at wx; omega
        have bY : 0 ≤ y ∧ y < 18446744073709551616 := by simp [Lit.wf, IntKind.min, IntKind.max, IntKind.signed, IntKind.bits] at wy; omega
        refine ⟨((mkW x y, k), g), ?_, ?_, ?_, ?_⟩
        · have := hc 0 (by omega)
          rw [hI_mk x y bx.1 bx.2]
          simpa [Addr.add] using this
        · rw [lI_mk x y bY.1 bY.2]
          simpa using hc 1 (by omega)
        · simpa using hc 2 (by omega)
        · simpa using hc 3 (by omega))
    refine ⟨(List.range len).map f, rfl, some a, _, by simp; rfl, ?_⟩
    by_cases hz : len = 0
    · subst hz
      exact .inl (by simp)
    · have h00 := (hf 0 (by omega)).1
      have ea : a = ⟨a.block, a.off, none⟩ := by
        have : a.add (0 * 4) = a := by simp [Addr.add]
        rw [this] at h00
        exact spot_none h00
      refine .inr ⟨a.block, a.off, by rw [← ea], ?_⟩
      refine rowR_all _ ?_
      intro i hi
      have hi' : i < len := by simpa using hi
      have := hf i hi'
      rw [ea] at this
      simp only [addT] at this
      simpa [Nat.add_assoc] using this
end
end Go.Proofs.Ytofpbommhklooaa
