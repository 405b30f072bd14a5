/-
  Part 28 of the proof: 3 texts, one behind the other.
-/
import Derived.Test.YtmeaikmmhgmgnaaPart6
import Derived.Test.YtmeaikmmhgmgnaaPart27
import Derived.Test.YtmeaikmmhgmgnaaPart5
import Derived.Laws.CopyRow
import Derived.Test.YtmeaikmmhgmgnaaPart21
import Derived.Lib.SliceRun
import Derived.Test.YtmeaikmmhgmgnaaPart24
/-
  copy of a row of any elements; what the calls of the law's Lend and Kept of tables do.
-/
namespace Go.Proofs.Ytmeaikmmhgmgnaa
open Go.RowKit
set_option linter.unusedSimpArgs false
set_option linter.unusedVariables false

theorem wpList_copy_any5 {P : Program} {w : World} {ops : Array Oper} {rest : List Oper} {o : Oper} {a : Act} {Q : Exit → Act → World → Prop} (hgd : o.guard = none) (d s : Operand) (dT sT : TypeId)
    (ho : o.op = .call { callee := .builtin .copy, args := #[d, s], argTypes := #[dT, sT] }) (elem : TypeId) (i : TypeInfo) (size : Nat) (hu : P.underlying dT = some (.slice elem)) (hi : P.info? elem = some i) (hsize : i.size = size)
    (base g n cap : Nat) (xs : List Value) (hd : a.eval d = .slice (some ⟨g, 0, none⟩) n cap) (hown : w.ownsRow base elem size (.slice (some ⟨g, 0, none⟩) n cap) n xs)
    (sp : Option Addr) (sLen sCap : Nat) (hs : a.eval s = .slice sp sLen sCap) (hle : sLen ≤ n) (cs : List Value) (hcl : cs.length = sLen * size) (h0 : sp = none → cs = []) (hsrc : ∀ ad, sp = some ad → ∀ j v, cs[j]? = some v → w.cell? (ad.add j) = some v) (h1 : ∀ v ∈ cs, v.oneCell' = true)
    (h : ∀ w', w'.ownsRow base elem size (.slice (some ⟨g, 0, none⟩) n cap) n (cs ++ xs.drop cs.length) → w.grownBy w' (some g) → wpList P ops Q rest (a.put o.dst (goInt sLen)) w') : wpList P ops Q (o :: rest) a w := by
  rcases hown.2 with ⟨h', _⟩ | ⟨g', cap', cur, h', hb, hg, hnc, hcm, hcs, htake⟩
  · cases h'
  · simp only [Value.slice.injEq, Option.some.injEq, Addr.mk.injEq, and_true, true_and] at h'
    obtain ⟨rfl, rfl⟩ := h'
    subst hsize
    have hxl : xs.length = n * i.size := hown.1
    have hfit : cs.length ≤ n * i.size := by rw [hcl]; exact Nat.mul_le_mul_right _ hle
    have hnc' : n * i.size ≤ cap * i.size := Nat.mul_le_mul_right _ hnc
    have hfc : (Builtin.firstCells i.size sLen (.slice sp sLen sCap)).run P w = .ok cs.toArray w := by
      cases sp with
      | none => rw [h0 rfl]; exact run_firstCells_none w i.size sLen sLen sCap
      | some ad => exact run_firstCells_some w i.size sLen ad sLen sCap cs hcl (hsrc ad rfl)
    have hst := run_storeCells_at P g 0 elem cs 0 cur w hg (by simp; omega) h1
    have hmin : Nat.min sLen n = sLen := Nat.min_eq_left hle
    refine wpList_plain hgd fun K hK => ?_
    unfold Oper.wp
    simp only [Nat.add_zero, List.take_zero, List.nil_append, Nat.zero_add] at hst
    simp [execOp, ho, resolve, invoke, builtin, hd, hs, Builtin.copy_, run_underlying hu, Builtin.lenOf, sizeOf, typeInfo, hi, hmin, hfc, hst, Result.andThen]
    refine hK _ _ (h _ ?_ ?_)
    · refine ⟨?_, .inr ⟨g, cap, (cs ++ cur.toList.drop cs.length).toArray, rfl, hb, setRow_heap w g cur _ elem _ hg, hnc, hcm, ?_, ?_⟩⟩
      · rw [List.length_append, List.length_drop]; omega
      · simp; omega
      · show ((cs ++ cur.toList.drop cs.length)).take (n * i.size) = _
        rw [List.take_append, List.take_of_length_le hfit, ← htake, List.drop_take]
    · exact ⟨rfl, rfl, rfl, by simp [World.setRow], fun k _ hk => setRow_other w g k _ (fun e => hk (by simp [e]))⟩
/-- The marks behind a list. -/
def mkR (n j : Nat) : List Rte := (List.range j).map fun (q : Nat) => ((0#128, 0), -7 - ((n : Int) + (q : Int)))
theorem mkR_succ (n j : Nat) : mkR n (j + 1) = mkR n j ++ [((0#128, 0), -7 - ((n : Int) + (j : Int)))] := by
  unfold mkR
  rw [List.range_succ, List.map_append]
  rfl
theorem mkR_len (n j : Nat) : (mkR n j).length = j := by unfold mkR; simp
theorem rowR_len5 : ∀ l, (rowR l).length = l.length * 4 := by
  intro l
  induction l with
  | nil => rfl
  | cons p l ih => simp only [rowR, List.length_cons, ih]; omega
theorem rowR_app5 : ∀ l m, rowR (l ++ m) = rowR l ++ rowR m := by
  intro l
  induction l with
  | nil => intro m; rfl
  | cons p l ih => intro m; simp [rowR, ih]
theorem rowR_one5 (l : List Rte) (x : BitVec 128) (n h : Int) : rowR (l ++ [((x, n), h)]) = rowR l ++ [.int .u64 (hI x), .int .u64 (lI x), .int .i64 n, .int .i64 h] := by rw [rowR_app5]; rfl
theorem rowR_cell5 (l : List Rte) : ∀ u ∈ rowR l, u.oneCell' = true := by
  induction l with
  | nil => intro u hu; cases hu
  | cons p l ih =>
    intro u hu
    simp only [rowR, List.mem_cons] at hu
    rcases hu with rfl | rfl | rfl | rfl | hu
    · rfl
    · rfl
    · rfl
    · rfl
    · exact ih u hu
theorem set4L (A rs : List Value) (n : Nat) (hn : A.length = n) (x y z u : Value) (h : 4 ≤ rs.length) : ((((A ++ rs).set n x).set (n + 1) y).set (n + 2) z).set (n + 3) u = A ++ x :: y :: z :: u :: rs.drop 4 := by
  subst hn
  match rs, h with
  | a :: b :: c :: d :: rs, _ =>
    rw [List.set_append_right _ _ (Nat.le_refl _), Nat.sub_self, List.set_append_right _ _ (by omega), List.set_append_right _ _ (by omega), List.set_append_right _ _ (by omega)]
    have e1 : A.length + 1 - A.length = 1 := by omega
    have e2 : A.length + 2 - A.length = 2 := by omega
    have e3 : A.length + 3 - A.length = 3 := by omega
    rw [e1, e2, e3]
    rfl
theorem drop4 (xs : List Value) (k : Nat) (x y z u : Value) : ((((xs.set (k * 4) x).set (k * 4 + 1) y).set (k * 4 + 2) z).set (k * 4 + 3) u).drop ((k + 1) * 4) = xs.drop ((k + 1) * 4) := by
  rw [List.drop_set_of_lt (by omega), List.drop_set_of_lt (by omega), List.drop_set_of_lt (by omega), List.drop_set_of_lt (by omega)]
theorem drop_get5 (xs ys : List Value) (m : Nat) (h : xs.drop m = ys.drop m) (r : Nat) : xs[m + r]? = ys[m + r]? := by
  have := congrArg (fun z => z[r]?) h
  simpa [List.getElem?_drop] using this
theorem stopHere5 {P : Program} {w : World} {ops : Array Oper} {rest : List Oper} {a : Act} {Q : Exit → Act → World → Prop} {o : Oper} (h : Hid (wpList P ops Q (o :: rest) a w)) : wpList P ops Q (o :: rest) a w := h.out
theorem Try.infoR5 : (Try.prog.info? 40).map (fun i => (i.zero, i.size, i.bytes)) = some (some (.agg #[.int .u64 0, .int .u64 0, .int .i64 0, .int .i64 0]), 4, 32) := by kernel_rfl
/-- A table, and the one that is answered. -/
def LnT (w : World) (F : Int) (v : Value) (W : World) : Prop := AtU W w.heap.size F v ∧ AtU W (w.heap.size + 1) 0 (.slice none 0 0)
theorem LnT.heap {w : World} {F : Int} {v : Value} {W W' : World} (k : LnT w F v W) (h : ∀ z, z < w.heap.size + 2 → W'.heap[z]? = W.heap[z]?) : LnT w F v W' := ⟨k.1.heap (h _ (by omega)), k.2.heap (h _ (by omega))⟩
set_option maxRecDepth 20000 in
set_option maxHeartbeats 8000000 in
theorem lend5_any (F : Int) (v : Value) (l : List Rte) (w : World) (hv : RwR w v l) (hl : l.length ≤ 1000000) :
    Calls Try.prog 7 #[.agg #[.int .i64 F, v]] w fun e w' => (∃ g, e = .returned (.agg #[.int .i64 F, .slice (some ⟨g, 0, none⟩) l.length (l.length + 3)]) ∧ w'.ownsRow w.heap.size 40 4 (.slice (some ⟨g, 0, none⟩) (l.length + 3) (l.length + 3)) (l.length + 3) (rowR (l ++ mkR l.length 3))) ∧ Below w.heap.size w w' := by
  obtain ⟨i0, hi, hz0, hz1, hz2⟩ := info_parts Try.infoR5
  obtain ⟨ao, c, rfl, hv⟩ := hv
  have HV : Hid (l = [] ∨ ∃ b off, ao = some ⟨b, off, none⟩ ∧ ∀ j u, (rowR l)[j]? = some u → w.cell? ⟨b, off + j, none⟩ = some u) := hv
  clear hv
  have m1 : IntKind.i64.wrap ((l.length : Int) + 3) = (l.length : Int) + 3 := by rw [IntKind.wrap_i64]; omega
  have hby : i0.bytes * (l.length + 3) ≤ 281474976710656 := by rw [hz2]; omega
  have q1 := bl1 w (.cells #[.int .i64 F, .slice ao l.length c] 25)
  have q2 := bl1 (w.alloc (.cells #[.int .i64 F, .slice ao l.length c] 25)) (.cells #[.int .i64 0, .slice none 0 0] 25)
  have a1 := atu_new w w.heap.size F (.slice ao l.length c) 25 rfl
  have HT : Hid (LnT w F (.slice ao l.length c) ((w.alloc (.cells #[.int .i64 F, .slice ao l.length c] 25)).alloc (.cells #[.int .i64 0, .slice none 0 0] 25))) := hidR ⟨a1.heap (hAl _ a1.lt), atu_new _ (w.heap.size + 1) 0 (.slice none 0 0) 25 (by simp)⟩
  have HB := hidR (keepb q2 q1)
  obtain ⟨t0, t1, -, -⟩ := HT.out.1
  have hsz : ((w.alloc (.cells #[.int .i64 F, .slice ao l.length c] 25)).alloc (.cells #[.int .i64 0, .slice none 0 0] 25)).heap.size = w.heap.size + 2 := by simp
  clear q1 q2 a1
  go_enter Try.func7, Try.ntmps7
  go_wp2_with (at_make; apply stopHere5)
  refine (show wpList _ _ _ _ _ _ from ?_)
  refine wpList_make_full _ rfl _ _ 22 rfl (w.heap.size + 2) 40 i0 (.agg #[.int .u64 0, .int .u64 0, .int .i64 0, .int .i64 0]) 4 Try.underlying22 hi hz0 hz1 .i64 .i64 _ _ (l.length + 3) rfl rfl (by simp) (by simp) hby (by unfold maxLen; omega) (by rw [hsz]; exact Nat.le_refl _) ?_
  intro w2 ho2 hgrow
  rw [hsz] at ho2
  have HB2 := hidR (HB.out.grown hgrow HB.out.size (fun z hz => by cases hz))
  have HT2 := hidR (HT.out.heap (fun z hz => hgrow.block z (by rw [hsz]; exact hz) (fun e => by cases e)))
  have HO2 := hidR ho2
  clear ho2 hgrow hby HT HB t0 t1
  rw [hsz]
  obtain ⟨t0, t1, -, -⟩ := HT2.out.1
  have hcp : ∀ ad, ao = some ad → ∀ j u, (rowR l)[j]? = some u → w2.cell? (ad.add j) = some u := by
    intro ad e j u hj
    rcases HV.out with h | ⟨b, off, e', hc⟩
    · rw [h] at hj; simp [rowR] at hj
    · rw [e'] at e
      cases e
      rw [addA]
      exact keepc HB2.out (hc j u hj)
  have hcn : ao = none → rowR l = [] := by
    intro e
    rcases HV.out with h | ⟨b, off, e', hc⟩
    · rw [h]; rfl
    · rw [e'] at e; cases e
  have HCP := hidR hcp
  have HCN := hidR hcn
  clear hcp hcn HV
  have HX : Hid (∀ (xs : List Value), xs.length = (l.length + 3) * 4 → (rowR l ++ xs.drop (rowR l).length) = rowR (l ++ mkR l.length 0) ++ xs.drop (rowR l).length ∧ (xs.drop (rowR l).length).length = 12) := hidR (by
    intro xs hx
    refine ⟨by simp [mkR], ?_⟩
    rw [List.length_drop, rowR_len5, hx]
    omega)
  go_wp2_with (first | (refine wpList_copy_any5 rfl (.tmp 10) (.tmp 12) 22 22 rfl 40 i0 4 Try.underlying22 hi hz1 (w.heap.size + 2) (w.heap.size + 2) (l.length + 3) (l.length + 3) _ rfl HO2.out ao l.length c rfl (by omega) (rowR l) (rowR_len5 l) HCN.out HCP.out (rowR_cell5 l) ?_; intro w3 ho3 hgrow3; have HO3 := hidR ho3; have HB3 := hidR (HB2.out.grown hgrow3 HB2.out.size (fun z hz => by cases hz; omega)); have HT3 := hidR (HT2.out.heap (fun z hz => hgrow3.block z (by have := HO2.out.lt (w.heap.size + 2) rfl; omega) (fun e => by cases e; omega))); clear ho3 hgrow3 t0 t1; obtain ⟨t0, t1, -, -⟩ := HT3.out.1))
  obtain ⟨q1, q2⟩ := HX.out _ HO2.out.1
  rw [q1] at HO3
  revert q2
  generalize (List.drop (rowR l).length _) = rs0 at HO3 ⊢
  intro q2
  clear q1 HX HO2 HB2 HCP HCN HT2 t0 t1 hsz
  go_loopw [4] (fun i wr => ∃ j : Nat, j ≤ 3 ∧ i = .int .i64 ((l.length + j : Nat) : Int) ∧ ∃ rs : List Value, rs.length = (3 - j) * 4 ∧ Hid (wr.ownsRow (w.heap.size + 2) 40 4 (.slice (some ⟨w.heap.size + 2, 0, none⟩) (l.length + 3) (l.length + 3)) (l.length + 3) (rowR (l ++ mkR l.length j) ++ rs)) ∧ Hid (LnT w F (.slice ao l.length c) wr) ∧ Hid (Below w.heap.size w wr)) (fun i _ => (l.length + 3) - (intOf i).toNat)
  case atStart => exact ⟨0, by omega, by simp, rs0, by omega, HO3, HT3, HB3⟩
  case round =>
    clear HO3 HB3 HT3
    obtain ⟨j, hj, rfl, rs, hrs, HO, HT, HB⟩ := hrel
    have e1 : ((l.length + j : Nat) : Int) = (l.length : Int) + (j : Int) := by omega
    rw [e1]
    by_cases hlt : j < 3
    · have i1 : (l.length : Int) + (j : Int) < (l.length : Int) + 3 := by omega
      have i2 : (0 : Int) ≤ (l.length : Int) + (j : Int) := by omega
      have i3 : (j : Int) < 3 := by omega
      have mk : IntKind.i64.wrap ((l.length : Int) + (j : Int) + 1) = (l.length : Int) + (j : Int) + 1 := by rw [IntKind.wrap_i64]; omega
      have ms : IntKind.i64.wrap (-7 - ((l.length : Int) + (j : Int))) = -7 - ((l.length : Int) + (j : Int)) := by rw [IntKind.wrap_i64]; omega
      have ea : ((l.length : Int) + (j : Int)).toNat = l.length + j := by omega
      obtain ⟨⟨u0, z0⟩, s0⟩ := own_cell6 HO.out ((l.length + j) * 4) (by omega)
      obtain ⟨⟨u1, z1⟩, s1⟩ := own_cell6 HO.out ((l.length + j) * 4 + 1) (by omega)
      obtain ⟨⟨u2, z2⟩, s2⟩ := own_cell6 HO.out ((l.length + j) * 4 + 2) (by omega)
      obtain ⟨⟨u3, z3⟩, s3⟩ := own_cell6 HO.out ((l.length + j) * 4 + 3) (by omega)
      generalize hmm : -7 - ((l.length : Int) + (j : Int)) = mm at *
      go_wp2
      go_roundw
      case rel =>
        have t1 := ((((HO.out.stored ((l.length + j) * 4) (.int .u64 0)).1.stored ((l.length + j) * 4 + 1) (.int .u64 0)).1.stored ((l.length + j) * 4 + 2) (.int .i64 0)).1.stored ((l.length + j) * 4 + 3) (.int .i64 mm)).1
        rw [set4L _ rs ((l.length + j) * 4) (by rw [rowR_len5, List.length_append, mkR_len]) _ _ _ _ (by omega)] at t1
        refine ⟨j + 1, by omega, by simp; omega, rs.drop 4, by rw [List.length_drop, hrs]; omega, ?_, hidR (HT.out.heap (fun z hz => by rw [hSet _ (by omega), hSet _ (by omega), hSet _ (by omega), hSet _ (by omega)])), hidR ((((HB.out.setCell (p := ⟨w.heap.size + 2, _, none⟩) (by simp) _).setCell (p := ⟨w.heap.size + 2, _, none⟩) (by simp) _).setCell (p := ⟨w.heap.size + 2, _, none⟩) (by simp) _).setCell (p := ⟨w.heap.size + 2, _, none⟩) (by simp) _)⟩
        show World.ownsRow _ _ _ _ _ _ _
        rw [mkR_succ, hmm, ← List.append_assoc, rowR_one5, hI_zero, lI_zero, List.append_assoc]
        exact t1
      case measure => simp [intOf]; omega
    · obtain rfl : j = 3 := by omega
      have hr0 : rs = [] := List.eq_nil_of_length_eq_zero (by omega)
      subst hr0
      rw [List.append_nil] at HO
      have i1 : ¬ (l.length : Int) + ((3 : Nat) : Int) < (l.length : Int) + 3 := by omega
      have i2 : (l.length : Int) ≤ (l.length : Int) + 3 := by omega
      have i3 : l.length ≤ l.length + 3 := by omega
      have HC : Hid ((fun W => LnT w F (.slice ao l.length c) W ∧ W.ownsRow (w.heap.size + 2) 40 4 (.slice (some ⟨w.heap.size + 2, 0, none⟩) (l.length + 3) (l.length + 3)) (l.length + 3) (rowR (l ++ mkR l.length 3)) ∧ Below w.heap.size w W) wr) := hidR ⟨HT.out, HO.out, HB.out⟩
      clear HO HT HB
      go_wp2_with fail
      refine qp_region2 8 (qpOk 8 8 (by decide) (fun N => by kernel_rfl) (by kernel_rfl) (by kernel_rfl) (by kernel_rfl) (by kernel_rfl)) (C := fun W => LnT w F (.slice ao l.length c) W ∧ W.ownsRow (w.heap.size + 2) 40 4 (.slice (some ⟨w.heap.size + 2, 0, none⟩) (l.length + 3) (l.length + 3)) (l.length + 3) (rowR (l ++ mkR l.length 3)) ∧ Below w.heap.size w W) [some 29, some 30, some 31, some 32, some 33, some 34, some 35, some 36] [.pointer (some ⟨w.heap.size, 0, none⟩), .int .i64 F, .slice (some ⟨w.heap.size + 2, 0, none⟩) (l.length + 3) (l.length + 3), .pointer (some ⟨w.heap.size, 1, none⟩), .slice ao l.length c, .int .i64 (l.length : Int), .slice (some ⟨w.heap.size + 2, 0, none⟩) l.length (l.length + 3), .agg #[.int .i64 F, .slice (some ⟨w.heap.size + 2, 0, none⟩) l.length (l.length + 3)]] (by kernel_rfl) ⟨HC.out.1.heap (fun _ _ => rfl), own_heap HC.out.2.1 (fun _ _ => rfl), below_drewN HC.out.2.2 1⟩ ?walk ?fin
      case walk =>
        clear HC
        dsimp only [List.take]
        refine q_run (v := .pointer (some ⟨w.heap.size, 0, none⟩)) (by rfl) ?_ ?_
        · (intro w1 hC; obtain ⟨⟨⟨t0, t1, -, -⟩, -⟩, -, -⟩ := hC; go_simp; first | done | (simp; done) | (simp [*]; done) | omega | (simp; omega) | (rw [IntKind.wrap_i64]; omega) | (intro hx; omega) | rfl)
        simp only [Act.put, List.setIfInBounds_toArray, List.set_cons_zero, List.set_cons_succ]
        refine q_run (v := .int .i64 F) (by rfl) ?_ ?_
        · (intro w1 hC; obtain ⟨⟨⟨t0, t1, -, -⟩, -⟩, -, -⟩ := hC; go_simp; first | done | (simp; done) | (simp [*]; done) | omega | (simp; omega) | (rw [IntKind.wrap_i64]; omega) | (intro hx; omega) | rfl)
        simp only [Act.put, List.setIfInBounds_toArray, List.set_cons_zero, List.set_cons_succ]
        refine q_run (v := .slice (some ⟨w.heap.size + 2, 0, none⟩) (l.length + 3) (l.length + 3)) (by rfl) ?_ ?_
        · (intro w1 hC; obtain ⟨⟨⟨t0, t1, -, -⟩, -⟩, -, -⟩ := hC; go_simp; first | done | (simp; done) | (simp [*]; done) | omega | (simp; omega) | (rw [IntKind.wrap_i64]; omega) | (intro hx; omega) | rfl)
        simp only [Act.put, List.setIfInBounds_toArray, List.set_cons_zero, List.set_cons_succ]
        refine q_run (v := .pointer (some ⟨w.heap.size, 1, none⟩)) (by rfl) ?_ ?_
        · (intro w1 hC; obtain ⟨⟨⟨t0, t1, -, -⟩, -⟩, -, -⟩ := hC; go_simp; first | done | (simp; done) | (simp [*]; done) | omega | (simp; omega) | (rw [IntKind.wrap_i64]; omega) | (intro hx; omega) | rfl)
        simp only [Act.put, List.setIfInBounds_toArray, List.set_cons_zero, List.set_cons_succ]
        refine q_run (v := .slice ao l.length c) (by rfl) ?_ ?_
        · (intro w1 hC; obtain ⟨⟨⟨t0, t1, -, -⟩, -⟩, -, -⟩ := hC; go_simp; first | done | (simp; done) | (simp [*]; done) | omega | (simp; omega) | (rw [IntKind.wrap_i64]; omega) | (intro hx; omega) | rfl)
        simp only [Act.put, List.setIfInBounds_toArray, List.set_cons_zero, List.set_cons_succ]
        refine q_run (v := .int .i64 (l.length : Int)) (by rfl) ?_ ?_
        · (intro w1 hC; obtain ⟨⟨⟨t0, t1, -, -⟩, -⟩, -, -⟩ := hC; go_simp; first | done | (simp; done) | (simp [*]; done) | omega | (simp; omega) | (rw [IntKind.wrap_i64]; omega) | (intro hx; omega) | rfl)
        simp only [Act.put, List.setIfInBounds_toArray, List.set_cons_zero, List.set_cons_succ]
        refine q_run (v := .slice (some ⟨w.heap.size + 2, 0, none⟩) l.length (l.length + 3)) (by rfl) ?_ ?_
        · (intro w1 hC; obtain ⟨⟨⟨t0, t1, -, -⟩, -⟩, -, -⟩ := hC; go_simp; first | done | (simp; done) | (simp [*]; done) | omega | (simp; omega) | (rw [IntKind.wrap_i64]; omega) | (intro hx; omega) | rfl)
        simp only [Act.put, List.setIfInBounds_toArray, List.set_cons_zero, List.set_cons_succ]
        refine q_run (v := .agg #[.int .i64 F, .slice (some ⟨w.heap.size + 2, 0, none⟩) l.length (l.length + 3)]) (by rfl) ?_ ?_
        · (intro w1 hC; obtain ⟨⟨⟨t0, t1, -, -⟩, -⟩, -, -⟩ := hC; go_simp; first | done | (simp; done) | (simp [*]; done) | omega | (simp; omega) | (rw [IntKind.wrap_i64]; omega) | (intro hx; omega) | rfl)
        simp only [Act.put, List.setIfInBounds_toArray, List.set_cons_zero, List.set_cons_succ]
        refine wpQuiet_nil ?_
        simp only [putAll, Act.put, List.setIfInBounds_toArray, List.set_cons_zero, List.set_cons_succ]
      case fin =>
        intro W hC
        simp only [putAll, Act.put, List.setIfInBounds_toArray, List.set_cons_zero, List.set_cons_succ]
        dsimp only [List.drop]
        clear HC
        obtain ⟨hT, hO, hB⟩ := hC
        obtain ⟨r0, r1, r2, r3⟩ := hT.2
        obtain ⟨k0, k1, -, -⟩ := hT.2.set2 F (.slice (some ⟨w.heap.size + 2, 0, none⟩) l.length (l.length + 3))
        have HBs := hidR (bset2 (C := w.heap.size + 1) hB (by omega) (.int .i64 F) (.slice (some ⟨w.heap.size + 2, 0, none⟩) l.length (l.length + 3)))
        have HOs := hidR (own_wide (base' := w.heap.size) (own_heap (W' := (W.setCell ⟨w.heap.size + 1, 0, none⟩ (.int .i64 F)).setCell ⟨w.heap.size + 1, 1, none⟩ (.slice (some ⟨w.heap.size + 2, 0, none⟩) l.length (l.length + 3))) hO (fun z e => by
          have e : w.heap.size + 2 = z := by simpa [Value.ownBlock] using e
          rw [hSet _ (by omega), hSet _ (by omega)])) (by omega))
        clear hT hO hB
        go_wp2
        exact bodyPost_ret (v := .agg #[.int .i64 F, .slice (some ⟨w.heap.size + 2, 0, none⟩) l.length (l.length + 3)]) (by simp [results, Try.results7, go_sem, k0, k1]) rfl ⟨⟨w.heap.size + 2, rfl, HOs.out⟩, HBs.out⟩
end Go.Proofs.Ytmeaikmmhgmgnaa
/-
  What the call of package table's Canon does.
-/
namespace Go.Proofs.Ytmeaikmmhgmgnaa
open Go.RowKit
set_option linter.unusedSimpArgs false
set_option linter.unusedVariables false
attribute [local go_sem] Oper.semAt_some

set_option maxRecDepth 20000 in
set_option maxHeartbeats 4000000 in
theorem clone5_any (v : Value) (l : List Rte) (w : World) (hv : Row w 4 v l.length (rowR l)) (hl : l.length ≤ 1000000000) :
    Calls Try.prog 21 #[v] w fun e w' => ∃ v', e = .returned v' ∧ w'.ownsRow w.heap.size 40 4 v' l.length (rowR l) ∧ Below w.heap.size w w' := by
  obtain ⟨i0, hi, hz0, hz1, hz2⟩ := info_parts Try.infoR
  obtain ⟨ao, c, rfl, hc⟩ := hv.form
  have hq : ∀ (w : World) (a : Option Addr) (n c n' c' : Nat), (binOp .eql 22 (.slice a n c) (.slice none n' c')).run Try.prog w = .ok (.bool a.isNone) w := fun w a n c n' c' => Lib.run_eql_slice_nil w 22 40 a n c n' c' Try.underlying22
  have HV := hidR hv
  cases ao with
  | none =>
    have hl0 : l = [] := by
      obtain ⟨-, ao, c, e, -, h⟩ := hv
      injection e with e1 e2 e3
      subst e1
      rcases h with ⟨-, -, h⟩ | ⟨b, off, e, -⟩
      · exact List.length_eq_zero_iff.mp h
      · cases e
    subst hl0
    clear hv HV hc
    go_enter Try.func21, Try.ntmps21
    go_wp2
    exact bodyPost_ret (v := .slice none 0 0) (by simp [results, Try.results21, go_sem]) rfl ⟨_, rfl, ⟨rfl, .inl ⟨rfl, rfl⟩⟩, Below.refl _ _⟩
  | some a =>
    have q0 := bl1 w (.cells #[] 40)
    have HB0 := hidR q0
    have HO0 : Hid ((w.alloc (.cells #[] 40)).ownsRow w.heap.size 40 4 (.slice (some ⟨w.heap.size, 0, none⟩) 0 0) 0 []) := hidR ⟨rfl, .inr ⟨w.heap.size, 0, #[], rfl, Nat.le_refl _, Array.getElem?_push_size, Nat.le_refl _, by unfold maxLen; omega, rfl, rfl⟩⟩
    have HV0 := hidR (hv.below q0)
    clear hv HV q0
    go_enter Try.func21, Try.ntmps21
    go_wp2_with (at_builtin; apply stopHereW)
    refine (show wpList _ _ _ _ _ _ from ?_)
    revert HB0 HO0 HV0
    generalize w.alloc (.cells #[] 40) = W0
    intro HB0 HO0 HV0
    refine wpList_append_row rfl _ _ 22 rfl w.heap.size 40 i0 (.agg #[.int .u64 0, .int .u64 0, .int .i64 0, .int .i64 0]) 4 32 Try.underlying22 hi hz0 hz1 hz2 rfl (by decide) _ 0 [] rfl HO0.out _ l.length (rowR l) rfl HV0.out (rowR_cell5 l) (by unfold maxLen; omega) (by omega) HB0.out.size ?_
    intro go cap W1 ho hg
    have HR : Hid (W1.ownsRow w.heap.size 40 4 (.slice go l.length cap) l.length (rowR l) ∧ Below w.heap.size w W1) := hidR ⟨by rw [List.nil_append] at ho; simpa using ho, by
      refine HB0.out.trans ⟨hg.os, hg.tape, hg.output, hg.size, fun z hz => hg.block z (by have := HB0.out.size; omega) (fun e => ?_)⟩
      have : z = w.heap.size := Option.some.inj e
      omega⟩
    clear ho hg HB0 HO0 HV0
    go_wp2
    go_ret
    exact ⟨_, rfl, HR.out⟩

set_option maxRecDepth 20000 in
set_option maxHeartbeats 4000000 in
theorem ins0_any (ao : Option Addr) (c : Nat) (w : World) :
    Calls Try.prog 70 #[.slice ao 0 c, .int .i64 0, .int .i64 0, .func (.func 37) #[] #[]] w fun e w' => e = .returned (.tuple #[]) ∧ w' = w := by
  go_enter Try.func70, Try.ntmps70
  go_wp2_with fail
  go_loopw [8, 9] (fun i _ wr => i = .int .i64 1 ∧ wr = w) (fun _ _ _ => 0)
  case atStart => exact ⟨rfl, rfl⟩
  case round =>
    obtain ⟨rfl, rfl⟩ := hrel
    go_wp2
    exact bodyPost_end (v := .tuple #[]) (by simp [results, Try.results70, go_sem]) rfl ⟨rfl, rfl⟩
set_option maxRecDepth 20000 in
set_option maxHeartbeats 4000000 in
theorem stable0_any (ao : Option Addr) (c : Nat) (w : World) :
    Calls Try.prog 53 #[.slice ao 0 c, .int .i64 0, .func (.func 37) #[] #[]] w fun e w' => e = .returned (.tuple #[]) ∧ w' = w := by
  have KI := ins0_any ao c w
  go_enter Try.func53, Try.ntmps53
  go_wp2_with fail
  go_loopw [7, 8] (fun a b wr => a = .int .i64 0 ∧ b = .int .i64 20 ∧ wr = w) (fun _ _ _ => 0)
  case atStart => exact ⟨rfl, rfl, rfl⟩
  case round =>
    obtain ⟨rfl, rfl, rfl⟩ := hrel
    go_wp2_with fail
    refine KI.mono ?_
    rintro e w1 ⟨rfl, rfl⟩
    clear KI
    go_wp2_with fail
    go_loopw [6, 7, 8, 9] (fun s a b m wr => s = .int .i64 20 ∧ wr = w1) (fun _ _ _ _ _ => 0)
    case atStart => exact ⟨rfl, rfl⟩
    case round =>
      obtain ⟨rfl, rfl⟩ := hrel
      go_wp2
      exact bodyPost_end (v := .tuple #[]) (by simp [results, Try.results53, go_sem]) rfl ⟨rfl, rfl⟩
set_option maxHeartbeats 4000000 in
theorem sort0_any (ao : Option Addr) (c : Nat) (w : World) :
    Calls Try.prog 36 #[.slice ao 0 c, .func (.func 37) #[] #[]] w fun e w' => e = .returned (.tuple #[]) ∧ w' = w := by
  have KS := stable0_any ao c w
  go_enter Try.func36, Try.ntmps36
  go_wp2_with fail
  refine KS.mono ?_
  rintro e w1 ⟨rfl, rfl⟩
  clear KS
  go_wp2
  exact bodyPost_end (v := .tuple #[]) (by simp [results, Try.results36, go_sem]) rfl ⟨rfl, rfl⟩
set_option maxRecDepth 20000 in
set_option maxHeartbeats 4000000 in
theorem last0_any (ao : Option Addr) (c : Nat) (w : World) :
    Calls Try.prog 38 #[.slice ao 0 c] w fun e w' => e = .returned (.slice ao 0 c) ∧ w' = w := by
  obtain ⟨i0, hi, hz0, hz1, hz2⟩ := info_parts Try.infoR
  have hrun := fun w => run_slice_to (P := Try.prog) (w := w) Try.underlying22 hi ao 0 c 0 (Nat.zero_le _)
  go_enter Try.func38, Try.ntmps38
  go_wp2_with fail
  go_loopw [3, 5, 6, 11] (fun l _ _ i wr => l = .slice ao 0 c ∧ i = .int .i64 0 ∧ wr = w) (fun _ _ _ _ _ => 0)
  case atStart => exact ⟨rfl, rfl, rfl⟩
  case round =>
    obtain ⟨rfl, rfl, rfl⟩ := hrel
    go_wp2
    exact bodyPost_ret (v := .slice ao 0 c) (by simp [results, Try.results38, go_sem]) rfl ⟨rfl, rfl⟩
set_option maxHeartbeats 4000000 in
theorem inOrder0_any (F : Int) (ao : Option Addr) (c : Nat) (w : World) :
    Calls Try.prog 20 #[.int .i64 F, .slice ao 0 c] w fun e w' => e = .returned (.agg #[.int .i64 F, .slice ao 0 c]) ∧ Below w.heap.size w w' := by
  have q1 := bl1 w (.cells #[.int .i64 0, .slice none 0 0] 25)
  have HB1 := hidR q1
  have HT1 : Hid ((w.alloc (.cells #[.int .i64 0, .slice none 0 0] 25)).heap[w.heap.size]? = some (.cells #[.int .i64 0, .slice none 0 0] 25)) := hidR Array.getElem?_push_size
  clear q1
  go_enter Try.func20, Try.ntmps20
  go_wp2_with fail
  revert HB1 HT1
  generalize w.alloc (.cells #[.int .i64 0, .slice none 0 0] 25) = W1
  intro HB1 HT1
  refine (sort0_any ao c W1).mono ?_
  rintro e W2 ⟨rfl, rfl⟩
  go_wp2_with fail
  refine (last0_any ao c W2).mono ?_
  rintro e W3 ⟨rfl, rfl⟩
  have c0 := at_blk HT1.out 0 (.int .i64 0) rfl
  have c1 := at_blk HT1.out 1 (.slice none 0 0) rfl
  have d0 := fr_blk5 (j := 0) HT1.out
  have d1 := fr_blk5 (j := 1) HT1.out
  have HF : Hid (Below w.heap.size w ((W3.setCell ⟨w.heap.size, 0, none⟩ (.int .i64 F)).setCell ⟨w.heap.size, 1, none⟩ (.slice ao 0 c))) := hidR ((HB1.out.setCell (Nat.le_refl _) _).setCell (Nat.le_refl _) _)
  clear HB1 HT1
  go_wp2
  exact bodyPost_ret (v := .agg #[.int .i64 F, .slice ao 0 c]) (by simp [results, Try.results20, go_sem, c0, c1]) rfl ⟨rfl, HF.out⟩
/-- The front of an own row. -/
theorem own_cut {W : World} {base e size n m g c : Nat} {xs : List Value} (h : W.ownsRow base e size (.slice (some ⟨g, 0, none⟩) n c) n xs) (hm : m ≤ n) : W.ownsRow base e size (.slice (some ⟨g, 0, none⟩) m c) m (xs.take (m * size)) := by
  rcases h.2 with ⟨h', _⟩ | ⟨g', cap', cur, h', hb, hg, hnc, hcm, hcs, htake⟩
  · cases h'
  · simp only [Value.slice.injEq, Option.some.injEq, Addr.mk.injEq, and_true, true_and] at h'
    obtain ⟨rfl, rfl⟩ := h'
    refine ⟨by rw [List.length_take, h.1, Nat.min_eq_left (Nat.mul_le_mul_right _ hm)], .inr ⟨g, c, cur, rfl, hb, hg, by omega, hcm, hcs, ?_⟩⟩
    rw [← htake, List.take_take, Nat.min_eq_left (Nat.mul_le_mul_right _ hm)]
/-- inOrder of an own list. -/
theorem inOrderA_any (F : Int) (base : Nat) (v : Value) (D : List Rte) (w : World) (h : w.ownsRow base 40 4 v D.length (rowR D)) (hn : D.length ≤ 1000000000) :
    Calls Try.prog 20 #[.int .i64 F, v] w fun e w' => ∃ u, e = .returned (.agg #[.int .i64 F, u]) ∧ w'.ownsRow base 40 4 u (ltL (isrt D)).length (rowR (ltL (isrt D))) ∧ w.grownBy w' v.ownBlock ∧ (∀ z, u.ownBlock = some z → v.ownBlock = some z) := by
  obtain ⟨ao, c, rfl⟩ := own_form h
  by_cases h0 : D.length = 0
  · have hD : D = [] := List.length_eq_zero_iff.mp h0
    subst hD
    refine (inOrder0_any F ao c w).mono ?_
    rintro e w' ⟨rfl, hb⟩
    exact ⟨_, rfl, own_below hb h, below_grown hb, fun z e => e⟩
  · rcases h.2 with ⟨e, h1⟩ | ⟨g, cap, cur, e, h2⟩
    · exact absurd h1 h0
    · injection e with e1 e2 e3
      subst e1
      have hR : RwO w base g c D.length D := ⟨rfl, h⟩
      refine (inOrder_any F base g c D.length D (isrt D) w hR (by omega) hn (fun W hW => sort_any base g c D.length D W hW hn)).mono ?_
      rintro e w' ⟨rfl, ⟨D', hD', ht, hl⟩, hb⟩
      refine ⟨_, rfl, ?_, ?_, fun z e => e⟩
      · have := own_cut hD'.2 hl
        rw [rowR_take, ht] at this
        exact this
      · exact ⟨hb.os, hb.tape, hb.output, hb.size, fun z h1 h2 => hb.blk z h1 (fun e => h2 (by rw [e]; rfl))⟩
set_option maxRecDepth 20000 in
set_option maxHeartbeats 8000000 in
theorem canon_any (F : Int) (v : Value) (l : List Rte) (w : World) (hv : Row w 4 v l.length (rowR l)) :
    Calls Try.prog 8 #[.int .i64 F, v] w (RcnQ F l w) := by
  have q1 := bl1 w (.cells #[.int .i64 0, .slice none 0 0] 25)
  have HB1 := hidR q1
  have HT1 : Hid ((w.alloc (.cells #[.int .i64 0, .slice none 0 0] 25)).heap[w.heap.size]? = some (.cells #[.int .i64 0, .slice none 0 0] 25)) := hidR Array.getElem?_push_size
  have HV := hidR (hv.below q1)
  have KC := fun W h => checkRoutes_any F v l W (row_rwr h)
  have HL : Hid (rtsE F l = 0 → l.length ≤ 1048576) := hidR (fun h => by
    unfold rtsE at h
    split at h
    · split at h
      · omega
      · omega
    · omega)
  obtain ⟨z, hz⟩ : ∃ z, z = rtsE F l := ⟨_, rfl⟩
  have HZ := hidR hz
  rw [← hz] at KC
  clear q1 hv hz
  go_enter Try.func8, Try.ntmps8
  go_wp2_with fail
  revert HB1 HT1 HV
  generalize w.alloc (.cells #[.int .i64 0, .slice none 0 0] 25) = W1
  intro HB1 HT1 HV
  refine (KC W1 HV.out).mono ?_
  rintro e W2 ⟨rfl, hb⟩
  have HB2 := hidR (keepb hb HB1.out)
  have HT2 : Hid (W2.heap[w.heap.size]? = some (.cells #[.int .i64 0, .slice none 0 0] 25)) := hidR ((hb.block _ (blk_lt5 HT1.out)).trans HT1.out)
  have HV2 := hidR (HV.out.below hb)
  clear KC hb HB1 HT1 HV
  by_cases h0 : z = 0
  · subst h0
    have hlm := HL.out HZ.out.symm
    have KL := clone5_any v l W2 HV2.out (by omega)
    go_wp2_with fail
    refine KL.mono ?_
    rintro e W3 ⟨v', rfl, ho, hb⟩
    have HB3 := hidR (keepb hb HB2.out)
    have HT3 : Hid (W3.heap[w.heap.size]? = some (.cells #[.int .i64 0, .slice none 0 0] 25)) := hidR ((hb.block _ (blk_lt5 HT2.out)).trans HT2.out)
    have hws := blk_lt5 HT2.out
    have HN : Hid (∀ z, z < W2.heap.size → ¬ some z = v'.ownBlock) := hidR (fun z hz e => by have := (ho.lt z e.symm).1; omega)
    have KO := inOrderA_any F W2.heap.size v' l W3 ho (by omega)
    clear KL hb HB2 HT2 HV2 ho
    go_wp2_with fail
    refine KO.mono ?_
    rintro e W4 ⟨u, rfl, ho, hg, hu⟩
    have hT4 : W4.heap[w.heap.size]? = some (.cells #[.int .i64 0, .slice none 0 0] 25) := (hg.block _ (blk_lt5 HT3.out) (HN.out _ hws)).trans HT3.out
    have hB4 : Below w.heap.size w W4 := ⟨by rw [hg.os, HB3.out.os], by rw [hg.tape, HB3.out.tape], by rw [hg.output, HB3.out.output], Nat.le_trans HB3.out.size hg.size, fun z hz => by rw [hg.block z (by have := HB3.out.size; omega) (HN.out z (by omega)), HB3.out.block z hz]⟩
    have c0 := at_blk hT4 0 (.int .i64 0) rfl
    have c1 := at_blk hT4 1 (.slice none 0 0) rfl
    have d0 := fr_blk5 (j := 0) hT4
    have d1 := fr_blk5 (j := 1) hT4
    obtain ⟨uo, uc, rfl⟩ := own_form ho
    have HF : Hid (RcnQ F l w (.returned (.tuple #[.agg #[.int .i64 F, .slice uo (ltL (isrt l)).length uc], .int .i64 0])) ((W4.setCell ⟨w.heap.size, 0, none⟩ (.int .i64 F)).setCell ⟨w.heap.size, 1, none⟩ (.slice uo (ltL (isrt l)).length uc))) := hidR ⟨⟨_, _, by rw [if_pos HZ.out.symm, ← HZ.out], rfl, by
      rw [if_pos HZ.out.symm, ← canon_eq]
      exact own_wide (own_heap ho (fun z e => by have := (ho.lt z e).1; rw [hSet _ (by omega), hSet _ (by omega)])) (by omega)⟩, (hB4.setCell (Nat.le_refl _) _).setCell (Nat.le_refl _) _⟩
    clear KO ho hg hu hT4 hB4 HB3 HT3 HN
    generalize (ltL (isrt l)).length = sl at *
    go_wp2
    exact bodyPost_ret (v := .tuple #[.agg #[.int .i64 F, .slice uo sl uc], .int .i64 0]) (by simp [results, Try.results8, go_sem, c0, c1]) rfl HF.out
  · have c0 := at_blk HT2.out 0 (.int .i64 0) rfl
    have c1 := at_blk HT2.out 1 (.slice none 0 0) rfl
    have d0 := fr_blk5 (j := 0) HT2.out
    have d1 := fr_blk5 (j := 1) HT2.out
    have HF : Hid (RcnQ F l w (.returned (.tuple #[.agg #[.int .i64 0, .slice none 0 0], .int .i64 z])) ((W2.setCell ⟨w.heap.size, 0, none⟩ (.int .i64 0)).setCell ⟨w.heap.size, 1, none⟩ (.slice none 0 0))) := hidR (by
      have hz := HZ.out
      subst hz
      exact ⟨⟨.slice none 0 0, [], by rw [if_neg h0], by rw [if_neg h0], ⟨rfl, .inl ⟨rfl, rfl⟩⟩⟩, (HB2.out.setCell (Nat.le_refl _) _).setCell (Nat.le_refl _) _⟩)
    clear HB2 HT2 HV2
    go_wp2
    exact bodyPost_ret (v := .tuple #[.agg #[.int .i64 0, .slice none 0 0], .int .i64 z]) (by simp [results, Try.results8, go_sem, c0, c1]) rfl HF.out
end Go.Proofs.Ytmeaikmmhgmgnaa
/-
  A text of few entries is read: Parse.
-/
namespace Go.Proofs.Ytmeaikmmhgmgnaa
open Go.RowKit
set_option linter.unusedSimpArgs false
set_option linter.unusedVariables false
attribute [local go_sem] Oper.semAt_some

set_option maxRecDepth 20000 in
set_option maxHeartbeats 8000000 in
theorem parseS_any (F : Int) (s : ByteArray) (w : World) (hF : fam F = true) (hs : s.size ≤ 1000000000) (L S : List Rte) (hres : lnsR F s (s.size + 1) 0 1 0 [] 0 = ((0, 0, 0), L)) (hL0 : 0 < L.length) (hL : L.length ≤ 1000000000)
    (KS : ∀ (base g c : Nat) W, RwO W base g c L.length L → Calls Try.prog 36 #[.slice (some ⟨g, 0, none⟩) L.length c, .func (.func 37) #[] #[]] W fun e w' => e = .returned (.tuple #[]) ∧ RwO w' base g c L.length S ∧ Bo g W w') :
    Calls Try.prog 18 #[.int .i64 F, .string s] w fun e w' => (∃ v, e = .returned (.tuple #[.agg #[.int .i64 F, v], .agg #[.int .i64 0, .int .i64 0, .int .i64 0]]) ∧ Row w' 4 v (ltL S).length (rowR (ltL S))) ∧ Below w.heap.size w w' := by
  have q1 := bl1 w (.cells #[.int .i64 0, .slice none 0 0] 25)
  have q2 := bl1 (w.alloc (.cells #[.int .i64 0, .slice none 0 0] 25)) (.cells #[.int .i64 0, .int .i64 0, .int .i64 0] 52)
  have s1 : (w.alloc (.cells #[.int .i64 0, .slice none 0 0] 25)).heap.size = w.heap.size + 1 := by simp
  have HP : Hid (∀ X, X = (w.alloc (.cells #[.int .i64 0, .slice none 0 0] 25)).alloc (.cells #[.int .i64 0, .int .i64 0, .int .i64 0] 52) → X.heap[w.heap.size]? = some (.cells #[.int .i64 0, .slice none 0 0] 25) ∧ X.heap[w.heap.size + 1]? = some (.cells #[.int .i64 0, .int .i64 0, .int .i64 0] 52) ∧ Below w.heap.size w X) := hidR (by
    rintro X rfl
    refine ⟨?_, ?_, keepb q2 q1⟩
    · rw [q2.block _ (by omega)]
      exact Array.getElem?_push_size
    · rw [← s1]
      exact Array.getElem?_push_size)
  have KA := fun w => alast_any F w
  have hE : lastE F = 0 := by unfold lastE; rw [if_pos hF]
  rw [hE] at KA
  clear q1 q2 s1 hE
  go_enter Try.func18, Try.ntmps18
  go_wp2_with fail
  revert HP
  generalize hW0 : (w.alloc (.cells #[.int .i64 0, .slice none 0 0] 25)).alloc (.cells #[.int .i64 0, .int .i64 0, .int .i64 0] 52) = W0
  intro HP
  obtain ⟨hp1, hp2, hp3⟩ := HP.out W0 rfl
  clear HP hW0
  refine (KA W0).mono ?_
  rintro e W1 ⟨rfl, hb⟩
  have b2 := bl1 W1 (.cells #[.int .u64 (hI (lastV F)), .int .u64 (lI (lastV F))] 36)
  have b3 := bl1 (W1.alloc (.cells #[.int .u64 (hI (lastV F)), .int .u64 (lI (lastV F))] 36)) (.cells #[.int .i64 F, .string s, .int .i64 0, .int .i64 1, .int .i64 0] 74)
  have sz1 : (W1.alloc (.cells #[.int .u64 (hI (lastV F)), .int .u64 (lI (lastV F))] 36)).heap.size = W1.heap.size + 1 := by simp
  have bb := keepb b3 (keepb b2 hb)
  have HT : Hid (((W1.alloc (.cells #[.int .u64 (hI (lastV F)), .int .u64 (lI (lastV F))] 36)).alloc (.cells #[.int .i64 F, .string s, .int .i64 0, .int .i64 1, .int .i64 0] 74)).heap[w.heap.size]? = some (.cells #[.int .i64 0, .slice none 0 0] 25)) := hidR ((bb.block _ (blk_lt5 hp1)).trans hp1)
  have HF : Hid (((W1.alloc (.cells #[.int .u64 (hI (lastV F)), .int .u64 (lI (lastV F))] 36)).alloc (.cells #[.int .i64 F, .string s, .int .i64 0, .int .i64 1, .int .i64 0] 74)).heap[w.heap.size + 1]? = some (.cells #[.int .i64 0, .int .i64 0, .int .i64 0] 52)) := hidR ((bb.block _ (blk_lt5 hp2)).trans hp2)
  have HB := hidR (keepb bb hp3)
  have HR : Hid (RdV ((W1.alloc (.cells #[.int .u64 (hI (lastV F)), .int .u64 (lI (lastV F))] 36)).alloc (.cells #[.int .i64 F, .string s, .int .i64 0, .int .i64 1, .int .i64 0] 74)) (W1.heap.size + 1) F s 0 1 0) := hidR (by
    show _ = _
    rw [← sz1]
    exact Array.getElem?_push_size)
  have hlt : w.heap.size + 1 < W1.heap.size := by have := hb.size; have := blk_lt5 hp2; omega
  clear b2 b3 bb hp1 hp2 hp3 hb sz1 KA
  go_wp2_with fail
  revert HT HF HB HR hlt
  generalize (W1.alloc (.cells #[.int .u64 (hI (lastV F)), .int .u64 (lI (lastV F))] 36)).alloc (.cells #[.int .i64 F, .string s, .int .i64 0, .int .i64 1, .int .i64 0] 74) = W2
  generalize W1.heap.size = R1
  intro HT HF HB HR hlt
  refine (entries5_any (R1 + 1) F s W2 HR.out hs ((0, 0, 0), L) hres).mono ?_
  rintro e W3 ⟨⟨lv, rfl, hO⟩, hb⟩
  have hR2 : R1 + 1 < W2.heap.size := HR.out.lt
  obtain ⟨g, c, rfl⟩ : ∃ g c, lv = .slice (some ⟨g, 0, none⟩) L.length c := by
    rcases hO.2 with ⟨_, e1⟩ | ⟨g, cap, cur, e0, _⟩
    · have e2 : L.length = 0 := e1
      omega
    · exact ⟨g, cap, e0⟩
  have q4 := bl1 W3 (.cells #[.int .i64 0, .int .i64 0, .int .i64 0] 52)
  have hgb : W2.heap.size + 4 ≤ g := (hO.lt g rfl).1
  have HO := hidR (show RwO (W3.alloc (.cells #[.int .i64 0, .int .i64 0, .int .i64 0] 52)) (W2.heap.size + 4) g c L.length L from RwO.below ⟨rfl, hO⟩ q4)
  have HT3 := hidR ((q4.block _ (blk_lt5 ((hb.blk _ (blk_lt5 HT.out) (by omega)).trans HT.out))).trans ((hb.blk _ (blk_lt5 HT.out) (by omega)).trans HT.out))
  have HF3 := hidR ((q4.block _ (blk_lt5 ((hb.blk _ (blk_lt5 HF.out) (by omega)).trans HF.out))).trans ((hb.blk _ (blk_lt5 HF.out) (by omega)).trans HF.out))
  have HB3 := hidR (keepb q4 (Bo.low hb HB.out (by have := HB.out.size; omega) (Nat.le_refl _)))
  clear hO hb q4 HT HF HB HR hres
  go_wp2_with fail
  revert HO HT3 HF3 HB3
  generalize W3.alloc (.cells #[.int .i64 0, .int .i64 0, .int .i64 0] 52) = W4
  intro HO HT3 HF3 HB3
  refine (inOrder_any F (W2.heap.size + 4) g c L.length L S W4 HO.out hL0 hL (fun W h => KS _ _ _ W h)).mono ?_
  rintro e W5 ⟨rfl, hD, hb⟩
  have hT5 := (hb.blk _ (blk_lt5 HT3.out) (by omega)).trans HT3.out
  have hF5 := (hb.blk _ (blk_lt5 HF3.out) (by omega)).trans HF3.out
  have HB5 := hidR (Bo.low hb HB3.out (by have := HB3.out.size; omega) (Nat.le_refl _))
  have c0 := at_blk hT5 0 (.int .i64 0) rfl
  have c1 := at_blk hT5 1 (.slice none 0 0) rfl
  have c2 := at_blk hF5 0 (.int .i64 0) rfl
  have c3 := at_blk hF5 1 (.int .i64 0) rfl
  have c4 := at_blk hF5 2 (.int .i64 0) rfl
  have d0 := fr_blk5 (j := 0) hT5
  have d1 := fr_blk5 (j := 1) hT5
  have d2 := fr_blk5 (j := 0) hF5
  have d3 := fr_blk5 (j := 1) hF5
  have d4 := fr_blk5 (j := 2) hF5
  have HZ : Hid (Row (((((W5.setCell ⟨w.heap.size, 0, none⟩ (.int .i64 F)).setCell ⟨w.heap.size, 1, none⟩ (.slice (some ⟨g, 0, none⟩) (ltL S).length c)).setCell ⟨w.heap.size + 1, 0, none⟩ (.int .i64 0)).setCell ⟨w.heap.size + 1, 1, none⟩ (.int .i64 0)).setCell ⟨w.heap.size + 1, 2, none⟩ (.int .i64 0)) 4 (.slice (some ⟨g, 0, none⟩) (ltL S).length c) (ltL S).length (rowR (ltL S)) ∧ Below w.heap.size w (((((W5.setCell ⟨w.heap.size, 0, none⟩ (.int .i64 F)).setCell ⟨w.heap.size, 1, none⟩ (.slice (some ⟨g, 0, none⟩) (ltL S).length c)).setCell ⟨w.heap.size + 1, 0, none⟩ (.int .i64 0)).setCell ⟨w.heap.size + 1, 1, none⟩ (.int .i64 0)).setCell ⟨w.heap.size + 1, 2, none⟩ (.int .i64 0))) := hidR (by
    obtain ⟨D', h1, h2, h3⟩ := hD
    have h4 : RwO (((((W5.setCell ⟨w.heap.size, 0, none⟩ (.int .i64 F)).setCell ⟨w.heap.size, 1, none⟩ (.slice (some ⟨g, 0, none⟩) (ltL S).length c)).setCell ⟨w.heap.size + 1, 0, none⟩ (.int .i64 0)).setCell ⟨w.heap.size + 1, 1, none⟩ (.int .i64 0)).setCell ⟨w.heap.size + 1, 2, none⟩ (.int .i64 0)) (W2.heap.size + 4) g c L.length D' := h1.heap (by rw [hSet _ (by omega), hSet _ (by omega), hSet _ (by omega), hSet _ (by omega), hSet _ (by omega)])
    have r := own_row h4.2
    obtain ⟨r1, ao, c', r2, r3, r4⟩ := r
    injection r2 with r5 _ r6
    subst r5 r6
    refine ⟨⟨rowR_len _, _, _, rfl, by omega, ?_⟩, ((((HB5.out.setCell (p := ⟨w.heap.size, 0, none⟩) (Nat.le_refl _) _).setCell (p := ⟨w.heap.size, 1, none⟩) (Nat.le_refl _) _).setCell (p := ⟨w.heap.size + 1, 0, none⟩) (Nat.le_succ _) _).setCell (p := ⟨w.heap.size + 1, 1, none⟩) (Nat.le_succ _) _).setCell (p := ⟨w.heap.size + 1, 2, none⟩) (Nat.le_succ _) _⟩
    rcases r4 with ⟨e, _⟩ | ⟨b, off, e, r4⟩
    · cases e
    · injection e with e
      injection e with e1 e2
      subst e1 e2
      refine .inr ⟨_, _, rfl, fun j u hj => r4 j u ?_⟩
      rw [← h2, ← rowR_take] at hj
      have hjl := (List.getElem?_eq_some_iff.mp hj).1
      rw [List.length_take] at hjl
      rw [← hj, List.getElem?_take_of_lt (by omega)])
  clear hD hb hT5 hF5 HO HT3 HF3 HB3 HB5 KS
  go_wp2
  exact bodyPost_ret (v := .tuple #[.agg #[.int .i64 F, .slice (some ⟨g, 0, none⟩) (ltL S).length c], .agg #[.int .i64 0, .int .i64 0, .int .i64 0]]) (by simp [results, Try.results18, go_sem, c0, c1, c2, c3, c4]) rfl ⟨⟨_, rfl, HZ.out.1⟩, HZ.out.2⟩
end Go.Proofs.Ytmeaikmmhgmgnaa
