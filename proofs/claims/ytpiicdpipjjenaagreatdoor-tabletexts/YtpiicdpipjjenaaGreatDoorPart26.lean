/-
  Part 26 of the proof: 4 texts, one behind the other.
-/
import Derived.Test.YtpiicdpipjjenaaGreatDoorPart8
import Derived.Test.YtpiicdpipjjenaaGreatDoorPart25
import Derived.Test.YtpiicdpipjjenaaGreatDoorPart15
import Derived.Test.YtpiicdpipjjenaaGreatDoorPart16
import Derived.Test.YtpiicdpipjjenaaGreatDoorPart7
import Derived.Laws.CopyRow
import Derived.Test.YtpiicdpipjjenaaGreatDoorPart9
import Derived.Test.YtpiicdpipjjenaaGreatDoorRows
import Derived.ProofKit
import Derived.Lib.SmallJoins
namespace Go.Proofs.YtpiicdpipjjenaaGreatDoor
open Go.RowKit
set_option linter.unusedSimpArgs false
set_option linter.unusedVariables false

theorem wpList_copy_any5 {P : Program} {w : World} {ops : Array Oper} {rest : List Oper} {o : Oper} {a : Act} {Q : Exit → Act → World → Prop} (hgd : o.guard = none) (d s : Operand) (dT sT : TypeId)
    (ho : o.op = .call { callee := .builtin .copy, args := #[d, s], argTypes := #[dT, sT] }) (elem : TypeId) (i : TypeInfo) (size : Nat) (hu : P.underlying dT = some (.slice elem)) (hi : P.info? elem = some i) (hsize : i.size = size)
    (base g n cap : Nat) (xs : List Value) (hd : a.eval d = .slice (some ⟨g, 0, none⟩) n cap) (hown : w.ownsRow base elem size (.slice (some ⟨g, 0, none⟩) n cap) n xs)
    (sp : Option Addr) (sLen sCap : Nat) (hs : a.eval s = .slice sp sLen sCap) (hle : sLen ≤ n) (cs : List Value) (hcl : cs.length = sLen * size) (h0 : sp = none → cs = []) (hsrc : ∀ ad, sp = some ad → ∀ j v, cs[j]? = some v → w.cell? (ad.add j) = some v) (h1 : ∀ v ∈ cs, v.oneCell' = true)
    (h : ∀ w', w'.ownsRow base elem size (.slice (some ⟨g, 0, none⟩) n cap) n (cs ++ xs.drop cs.length) → w.grownBy w' (some g) → wpList P ops Q rest (a.put o.dst (goInt sLen)) w') : wpList P ops Q (o :: rest) a w := by
  rcases hown.2 with ⟨h', _⟩ | ⟨g', cap', cur, h', hb, hg, hnc, hcm, hcs, htake⟩
  · cases h'
  · simp only [Value.slice.injEq, Option.some.injEq, Addr.mk.injEq, and_true, true_and] at h'
    obtain ⟨rfl, rfl⟩ := h'
    subst hsize
    have hxl : xs.length = n * i.size := hown.1
    have hfit : cs.length ≤ n * i.size := by rw [hcl]; exact Nat.mul_le_mul_right _ hle
    have hnc' : n * i.size ≤ cap * i.size := Nat.mul_le_mul_right _ hnc
    have hfc : (Builtin.firstCells i.size sLen (.slice sp sLen sCap)).run P w = .ok cs.toArray w := by
      cases sp with
      | none => rw [h0 rfl]; exact run_firstCells_none w i.size sLen sLen sCap
      | some ad => exact run_firstCells_some w i.size sLen ad sLen sCap cs hcl (hsrc ad rfl)
    have hst := run_storeCells_at P g 0 elem cs 0 cur w hg (by simp; omega) h1
    have hmin : Nat.min sLen n = sLen := Nat.min_eq_left hle
    refine wpList_plain hgd fun K hK => ?_
    unfold Oper.wp
    simp only [Nat.add_zero, List.take_zero, List.nil_append, Nat.zero_add] at hst
    simp [execOp, ho, resolve, invoke, builtin, hd, hs, Builtin.copy_, run_underlying hu, Builtin.lenOf, sizeOf, typeInfo, hi, hmin, hfc, hst, Result.andThen]
    refine hK _ _ (h _ ?_ ?_)
    · refine ⟨?_, .inr ⟨g, cap, (cs ++ cur.toList.drop cs.length).toArray, rfl, hb, setRow_heap w g cur _ elem _ hg, hnc, hcm, ?_, ?_⟩⟩
      · rw [List.length_append, List.length_drop]; omega
      · simp; omega
      · show ((cs ++ cur.toList.drop cs.length)).take (n * i.size) = _
        rw [List.take_append, List.take_of_length_le hfit, ← htake, List.drop_take]
    · exact ⟨rfl, rfl, rfl, by simp [World.setRow], fun k _ hk => setRow_other w g k _ (fun e => hk (by simp [e]))⟩
def mkR (n j : Nat) : List Rte := (List.range j).map fun (q : Nat) => ((0#128, 0), -7 - ((n : Int) + (q : Int)))
theorem mkR_succ (n j : Nat) : mkR n (j + 1) = mkR n j ++ [((0#128, 0), -7 - ((n : Int) + (j : Int)))] := by
  unfold mkR
  rw [List.range_succ, List.map_append]
  rfl
theorem mkR_len (n j : Nat) : (mkR n j).length = j := by unfold mkR; simp
theorem rowR_len5 : ∀ l, (rowR l).length = l.length * 4 := by
  intro l
  induction l with
  | nil => rfl
  | cons p l ih => simp only [rowR, List.length_cons, ih]; omega
theorem rowR_app5 : ∀ l m, rowR (l ++ m) = rowR l ++ rowR m := by
  intro l
  induction l with
  | nil => intro m; rfl
  | cons p l ih => intro m; simp [rowR, ih]
theorem rowR_one5 (l : List Rte) (x : BitVec 128) (n h : Int) : rowR (l ++ [((x, n), h)]) = rowR l ++ [.int .u64 (hI x), .int .u64 (lI x), .int .i64 n, .int .i64 h] := by rw [rowR_app5]; rfl
theorem rowR_cell5 (l : List Rte) : ∀ u ∈ rowR l, u.oneCell' = true := by
  induction l with
  | nil => intro u hu; cases hu
  | cons p l ih =>
    intro u hu
    simp only [rowR, List.mem_cons] at hu
    rcases hu with rfl | rfl | rfl | rfl | hu
    · rfl
    · rfl
    · rfl
    · rfl
    · exact ih u hu
theorem set4L (A rs : List Value) (n : Nat) (hn : A.length = n) (x y z u : Value) (h : 4 ≤ rs.length) : ((((A ++ rs).set n x).set (n + 1) y).set (n + 2) z).set (n + 3) u = A ++ x :: y :: z :: u :: rs.drop 4 := by
  subst hn
  match rs, h with
  | a :: b :: c :: d :: rs, _ =>
    rw [List.set_append_right _ _ (Nat.le_refl _), Nat.sub_self, List.set_append_right _ _ (by omega), List.set_append_right _ _ (by omega), List.set_append_right _ _ (by omega)]
    have e1 : A.length + 1 - A.length = 1 := by omega
    have e2 : A.length + 2 - A.length = 2 := by omega
    have e3 : A.length + 3 - A.length = 3 := by omega
    rw [e1, e2, e3]
    rfl
theorem drop4 (xs : List Value) (k : Nat) (x y z u : Value) : ((((xs.set (k * 4) x).set (k * 4 + 1) y).set (k * 4 + 2) z).set (k * 4 + 3) u).drop ((k + 1) * 4) = xs.drop ((k + 1) * 4) := by
  rw [List.drop_set_of_lt (by omega), List.drop_set_of_lt (by omega), List.drop_set_of_lt (by omega), List.drop_set_of_lt (by omega)]
theorem drop_get5 (xs ys : List Value) (m : Nat) (h : xs.drop m = ys.drop m) (r : Nat) : xs[m + r]? = ys[m + r]? := by
  have := congrArg (fun z => z[r]?) h
  simpa [List.getElem?_drop] using this
theorem stopHere5 {P : Program} {w : World} {ops : Array Oper} {rest : List Oper} {a : Act} {Q : Exit → Act → World → Prop} {o : Oper} (h : Hid (wpList P ops Q (o :: rest) a w)) : wpList P ops Q (o :: rest) a w := h.out
theorem Tryz.infoR5 : (Tryz.prog.info? 47).map (fun i => (i.zero, i.size, i.bytes)) = some (some (.agg #[.int .u64 0, .int .u64 0, .int .i64 0, .int .i64 0]), 4, 32) := by kernel_rfl
def LnT (w : World) (F : Int) (v : Value) (W : World) : Prop := AtU W w.heap.size F v ∧ AtU W (w.heap.size + 1) 0 (.slice none 0 0)
theorem LnT.heap {w : World} {F : Int} {v : Value} {W W' : World} (k : LnT w F v W) (h : ∀ z, z < w.heap.size + 2 → W'.heap[z]? = W.heap[z]?) : LnT w F v W' := ⟨k.1.heap (h _ (by omega)), k.2.heap (h _ (by omega))⟩
set_option maxRecDepth 20000 in
set_option maxHeartbeats 8000000 in
theorem lend5_any (F : Int) (v : Value) (l : List Rte) (w : World) (hv : RwR w v l) (hl : l.length ≤ 1000000) :
    Calls Tryz.prog 6 #[.agg #[.int .i64 F, v]] w fun e w' => (∃ g, e = .returned (.agg #[.int .i64 F, .slice (some ⟨g, 0, none⟩) l.length (l.length + 3)]) ∧ w'.ownsRow w.heap.size 47 4 (.slice (some ⟨g, 0, none⟩) (l.length + 3) (l.length + 3)) (l.length + 3) (rowR (l ++ mkR l.length 3))) ∧ Below w.heap.size w w' := by
  obtain ⟨i0, hi, hz0, hz1, hz2⟩ := info_parts Tryz.infoR5
  obtain ⟨ao, c, rfl, hv⟩ := hv
  have HV : Hid (l = [] ∨ ∃ b off, ao = some ⟨b, off, none⟩ ∧ ∀ j u, (rowR l)[j]? = some u → w.cell? ⟨b, off + j, none⟩ = some u) := hv
  clear hv
  have m1 : IntKind.i64.wrap ((l.length : Int) + 3) = (l.length : Int) + 3 := by rw [IntKind.wrap_i64]; omega
  have hby : i0.bytes * (l.length + 3) ≤ 281474976710656 := by rw [hz2]; omega
  have q1 := bl1 w (.cells #[.int .i64 F, .slice ao l.length c] 24)
  have q2 := bl1 (w.alloc (.cells #[.int .i64 F, .slice ao l.length c] 24)) (.cells #[.int .i64 0, .slice none 0 0] 24)
  have a1 := atu_new w w.heap.size F (.slice ao l.length c) 24 rfl
  have HT : Hid (LnT w F (.slice ao l.length c) ((w.alloc (.cells #[.int .i64 F, .slice ao l.length c] 24)).alloc (.cells #[.int .i64 0, .slice none 0 0] 24))) := hidR ⟨a1.heap (hAl _ a1.lt), atu_new _ (w.heap.size + 1) 0 (.slice none 0 0) 24 (by simp)⟩
  have HB := hidR (keepb q2 q1)
  obtain ⟨t0, t1, -, -⟩ := HT.out.1
  have hsz : ((w.alloc (.cells #[.int .i64 F, .slice ao l.length c] 24)).alloc (.cells #[.int .i64 0, .slice none 0 0] 24)).heap.size = w.heap.size + 2 := by simp
  clear q1 q2 a1
  go_enter Tryz.func6, Tryz.ntmps6
  go_wp2_with (at_make; apply stopHere5)
  refine (show wpList _ _ _ _ _ _ from ?_)
  refine wpList_make_full _ rfl _ _ 22 rfl (w.heap.size + 2) 47 i0 (.agg #[.int .u64 0, .int .u64 0, .int .i64 0, .int .i64 0]) 4 Tryz.underlying22 hi hz0 hz1 .i64 .i64 _ _ (l.length + 3) rfl rfl (by simp) (by simp) hby (by unfold maxLen; omega) (by rw [hsz]; exact Nat.le_refl _) ?_
  intro w2 ho2 hgrow
  rw [hsz] at ho2
  have HB2 := hidR (HB.out.grown hgrow HB.out.size (fun z hz => by cases hz))
  have HT2 := hidR (HT.out.heap (fun z hz => hgrow.block z (by rw [hsz]; exact hz) (fun e => by cases e)))
  have HO2 := hidR ho2
  clear ho2 hgrow hby HT HB t0 t1
  rw [hsz]
  obtain ⟨t0, t1, -, -⟩ := HT2.out.1
  have hcp : ∀ ad, ao = some ad → ∀ j u, (rowR l)[j]? = some u → w2.cell? (ad.add j) = some u := by
    intro ad e j u hj
    rcases HV.out with h | ⟨b, off, e', hc⟩
    · rw [h] at hj; simp [rowR] at hj
    · rw [e'] at e
      cases e
      rw [addA]
      exact keepc HB2.out (hc j u hj)
  have hcn : ao = none → rowR l = [] := by
    intro e
    rcases HV.out with h | ⟨b, off, e', hc⟩
    · rw [h]; rfl
    · rw [e'] at e; cases e
  have HCP := hidR hcp
  have HCN := hidR hcn
  clear hcp hcn HV
  have HX : Hid (∀ (xs : List Value), xs.length = (l.length + 3) * 4 → (rowR l ++ xs.drop (rowR l).length) = rowR (l ++ mkR l.length 0) ++ xs.drop (rowR l).length ∧ (xs.drop (rowR l).length).length = 12) := hidR (by
    intro xs hx
    refine ⟨by simp [mkR], ?_⟩
    rw [List.length_drop, rowR_len5, hx]
    omega)
  go_wp2_with (first | (refine wpList_copy_any5 rfl (.tmp 10) (.tmp 12) 22 22 rfl 47 i0 4 Tryz.underlying22 hi hz1 (w.heap.size + 2) (w.heap.size + 2) (l.length + 3) (l.length + 3) _ rfl HO2.out ao l.length c rfl (by omega) (rowR l) (rowR_len5 l) HCN.out HCP.out (rowR_cell5 l) ?_; intro w3 ho3 hgrow3; have HO3 := hidR ho3; have HB3 := hidR (HB2.out.grown hgrow3 HB2.out.size (fun z hz => by cases hz; omega)); have HT3 := hidR (HT2.out.heap (fun z hz => hgrow3.block z (by have := HO2.out.lt (w.heap.size + 2) rfl; omega) (fun e => by cases e; omega))); clear ho3 hgrow3 t0 t1; obtain ⟨t0, t1, -, -⟩ := HT3.out.1))
  obtain ⟨q1, q2⟩ := HX.out _ HO2.out.1
  rw [q1] at HO3
  revert q2
  generalize (List.drop (rowR l).length _) = rs0 at HO3 ⊢
  intro q2
  clear q1 HX HO2 HB2 HCP HCN HT2 t0 t1 hsz
  go_loopw [4] (fun i wr => ∃ j : Nat, j ≤ 3 ∧ i = .int .i64 ((l.length + j : Nat) : Int) ∧ ∃ rs : List Value, rs.length = (3 - j) * 4 ∧ Hid (wr.ownsRow (w.heap.size + 2) 47 4 (.slice (some ⟨w.heap.size + 2, 0, none⟩) (l.length + 3) (l.length + 3)) (l.length + 3) (rowR (l ++ mkR l.length j) ++ rs)) ∧ Hid (LnT w F (.slice ao l.length c) wr) ∧ Hid (Below w.heap.size w wr)) (fun i _ => (l.length + 3) - (intOf i).toNat)
  case atStart => exact ⟨0, by omega, by simp, rs0, by omega, HO3, HT3, HB3⟩
  case round =>
    clear HO3 HB3 HT3
    obtain ⟨j, hj, rfl, rs, hrs, HO, HT, HB⟩ := hrel
    have e1 : ((l.length + j : Nat) : Int) = (l.length : Int) + (j : Int) := by omega
    rw [e1]
    by_cases hlt : j < 3
    · have i1 : (l.length : Int) + (j : Int) < (l.length : Int) + 3 := by omega
      have i2 : (0 : Int) ≤ (l.length : Int) + (j : Int) := by omega
      have i3 : (j : Int) < 3 := by omega
      have mk : IntKind.i64.wrap ((l.length : Int) + (j : Int) + 1) = (l.length : Int) + (j : Int) + 1 := by rw [IntKind.wrap_i64]; omega
      have ms : IntKind.i64.wrap (-7 - ((l.length : Int) + (j : Int))) = -7 - ((l.length : Int) + (j : Int)) := by rw [IntKind.wrap_i64]; omega
      have ea : ((l.length : Int) + (j : Int)).toNat = l.length + j := by omega
      obtain ⟨⟨u0, z0⟩, s0⟩ := own_cell6 HO.out ((l.length + j) * 4) (by omega)
      obtain ⟨⟨u1, z1⟩, s1⟩ := own_cell6 HO.out ((l.length + j) * 4 + 1) (by omega)
      obtain ⟨⟨u2, z2⟩, s2⟩ := own_cell6 HO.out ((l.length + j) * 4 + 2) (by omega)
      obtain ⟨⟨u3, z3⟩, s3⟩ := own_cell6 HO.out ((l.length + j) * 4 + 3) (by omega)
      generalize hmm : -7 - ((l.length : Int) + (j : Int)) = mm at *
      go_wp2
      go_roundw
      case rel =>
        have t1 := ((((HO.out.stored ((l.length + j) * 4) (.int .u64 0)).1.stored ((l.length + j) * 4 + 1) (.int .u64 0)).1.stored ((l.length + j) * 4 + 2) (.int .i64 0)).1.stored ((l.length + j) * 4 + 3) (.int .i64 mm)).1
        rw [set4L _ rs ((l.length + j) * 4) (by rw [rowR_len5, List.length_append, mkR_len]) _ _ _ _ (by omega)] at t1
        refine ⟨j + 1, by omega, by simp; omega, rs.drop 4, by rw [List.length_drop, hrs]; omega, ?_, hidR (HT.out.heap (fun z hz => by rw [hSet _ (by omega), hSet _ (by omega), hSet _ (by omega), hSet _ (by omega)])), hidR ((((HB.out.setCell (p := ⟨w.heap.size + 2, _, none⟩) (by simp) _).setCell (p := ⟨w.heap.size + 2, _, none⟩) (by simp) _).setCell (p := ⟨w.heap.size + 2, _, none⟩) (by simp) _).setCell (p := ⟨w.heap.size + 2, _, none⟩) (by simp) _)⟩
        show World.ownsRow _ _ _ _ _ _ _
        rw [mkR_succ, hmm, ← List.append_assoc, rowR_one5, hI_zero, lI_zero, List.append_assoc]
        exact t1
      case measure => simp [intOf]; omega
    · obtain rfl : j = 3 := by omega
      have hr0 : rs = [] := List.eq_nil_of_length_eq_zero (by omega)
      subst hr0
      rw [List.append_nil] at HO
      have i1 : ¬ (l.length : Int) + ((3 : Nat) : Int) < (l.length : Int) + 3 := by omega
      have i2 : (l.length : Int) ≤ (l.length : Int) + 3 := by omega
      have i3 : l.length ≤ l.length + 3 := by omega
      have HC : Hid ((fun W => LnT w F (.slice ao l.length c) W ∧ W.ownsRow (w.heap.size + 2) 47 4 (.slice (some ⟨w.heap.size + 2, 0, none⟩) (l.length + 3) (l.length + 3)) (l.length + 3) (rowR (l ++ mkR l.length 3)) ∧ Below w.heap.size w W) wr) := hidR ⟨HT.out, HO.out, HB.out⟩
      clear HO HT HB
      go_wp2_with fail
      refine qp_region2 8 (qpOk 8 8 (by decide) (fun N => by kernel_rfl) (by kernel_rfl) (by kernel_rfl) (by kernel_rfl) (by kernel_rfl)) (C := fun W => LnT w F (.slice ao l.length c) W ∧ W.ownsRow (w.heap.size + 2) 47 4 (.slice (some ⟨w.heap.size + 2, 0, none⟩) (l.length + 3) (l.length + 3)) (l.length + 3) (rowR (l ++ mkR l.length 3)) ∧ Below w.heap.size w W) [some 29, some 30, some 31, some 32, some 33, some 34, some 35, some 36] [.pointer (some ⟨w.heap.size, 0, none⟩), .int .i64 F, .slice (some ⟨w.heap.size + 2, 0, none⟩) (l.length + 3) (l.length + 3), .pointer (some ⟨w.heap.size, 1, none⟩), .slice ao l.length c, .int .i64 (l.length : Int), .slice (some ⟨w.heap.size + 2, 0, none⟩) l.length (l.length + 3), .agg #[.int .i64 F, .slice (some ⟨w.heap.size + 2, 0, none⟩) l.length (l.length + 3)]] (by kernel_rfl) ⟨HC.out.1.heap (fun _ _ => rfl), own_heap HC.out.2.1 (fun _ _ => rfl), below_drewN HC.out.2.2 1⟩ ?walk ?fin
      case walk =>
        clear HC
        dsimp only [List.take]
        refine q_run (v := .pointer (some ⟨w.heap.size, 0, none⟩)) (by rfl) ?_ ?_
        · (intro w1 hC; obtain ⟨⟨⟨t0, t1, -, -⟩, -⟩, -, -⟩ := hC; go_simp; first | done | (simp; done) | (simp [*]; done) | omega | (simp; omega) | (rw [IntKind.wrap_i64]; omega) | (intro hx; omega) | rfl)
        simp only [Act.put, List.setIfInBounds_toArray, List.set_cons_zero, List.set_cons_succ]
        refine q_run (v := .int .i64 F) (by rfl) ?_ ?_
        · (intro w1 hC; obtain ⟨⟨⟨t0, t1, -, -⟩, -⟩, -, -⟩ := hC; go_simp; first | done | (simp; done) | (simp [*]; done) | omega | (simp; omega) | (rw [IntKind.wrap_i64]; omega) | (intro hx; omega) | rfl)
        simp only [Act.put, List.setIfInBounds_toArray, List.set_cons_zero, List.set_cons_succ]
        refine q_run (v := .slice (some ⟨w.heap.size + 2, 0, none⟩) (l.length + 3) (l.length + 3)) (by rfl) ?_ ?_
        · (intro w1 hC; obtain ⟨⟨⟨t0, t1, -, -⟩, -⟩, -, -⟩ := hC; go_simp; first | done | (simp; done) | (simp [*]; done) | omega | (simp; omega) | (rw [IntKind.wrap_i64]; omega) | (intro hx; omega) | rfl)
        simp only [Act.put, List.setIfInBounds_toArray, List.set_cons_zero, List.set_cons_succ]
        refine q_run (v := .pointer (some ⟨w.heap.size, 1, none⟩)) (by rfl) ?_ ?_
        · (intro w1 hC; obtain ⟨⟨⟨t0, t1, -, -⟩, -⟩, -, -⟩ := hC; go_simp; first | done | (simp; done) | (simp [*]; done) | omega | (simp; omega) | (rw [IntKind.wrap_i64]; omega) | (intro hx; omega) | rfl)
        simp only [Act.put, List.setIfInBounds_toArray, List.set_cons_zero, List.set_cons_succ]
        refine q_run (v := .slice ao l.length c) (by rfl) ?_ ?_
        · (intro w1 hC; obtain ⟨⟨⟨t0, t1, -, -⟩, -⟩, -, -⟩ := hC; go_simp; first | done | (simp; done) | (simp [*]; done) | omega | (simp; omega) | (rw [IntKind.wrap_i64]; omega) | (intro hx; omega) | rfl)
        simp only [Act.put, List.setIfInBounds_toArray, List.set_cons_zero, List.set_cons_succ]
        refine q_run (v := .int .i64 (l.length : Int)) (by rfl) ?_ ?_
        · (intro w1 hC; obtain ⟨⟨⟨t0, t1, -, -⟩, -⟩, -, -⟩ := hC; go_simp; first | done | (simp; done) | (simp [*]; done) | omega | (simp; omega) | (rw [IntKind.wrap_i64]; omega) | (intro hx; omega) | rfl)
        simp only [Act.put, List.setIfInBounds_toArray, List.set_cons_zero, List.set_cons_succ]
        refine q_run (v := .slice (some ⟨w.heap.size + 2, 0, none⟩) l.length (l.length + 3)) (by rfl) ?_ ?_
        · (intro w1 hC; obtain ⟨⟨⟨t0, t1, -, -⟩, -⟩, -, -⟩ := hC; go_simp; first | done | (simp; done) | (simp [*]; done) | omega | (simp; omega) | (rw [IntKind.wrap_i64]; omega) | (intro hx; omega) | rfl)
        simp only [Act.put, List.setIfInBounds_toArray, List.set_cons_zero, List.set_cons_succ]
        refine q_run (v := .agg #[.int .i64 F, .slice (some ⟨w.heap.size + 2, 0, none⟩) l.length (l.length + 3)]) (by rfl) ?_ ?_
        · (intro w1 hC; obtain ⟨⟨⟨t0, t1, -, -⟩, -⟩, -, -⟩ := hC; go_simp; first | done | (simp; done) | (simp [*]; done) | omega | (simp; omega) | (rw [IntKind.wrap_i64]; omega) | (intro hx; omega) | rfl)
        simp only [Act.put, List.setIfInBounds_toArray, List.set_cons_zero, List.set_cons_succ]
        refine wpQuiet_nil ?_
        simp only [putAll, Act.put, List.setIfInBounds_toArray, List.set_cons_zero, List.set_cons_succ]
      case fin =>
        intro W hC
        simp only [putAll, Act.put, List.setIfInBounds_toArray, List.set_cons_zero, List.set_cons_succ]
        dsimp only [List.drop]
        clear HC
        obtain ⟨hT, hO, hB⟩ := hC
        obtain ⟨r0, r1, r2, r3⟩ := hT.2
        obtain ⟨k0, k1, -, -⟩ := hT.2.set2 F (.slice (some ⟨w.heap.size + 2, 0, none⟩) l.length (l.length + 3))
        have HBs := hidR (bset2 (C := w.heap.size + 1) hB (by omega) (.int .i64 F) (.slice (some ⟨w.heap.size + 2, 0, none⟩) l.length (l.length + 3)))
        have HOs := hidR (own_wide (base' := w.heap.size) (own_heap (W' := (W.setCell ⟨w.heap.size + 1, 0, none⟩ (.int .i64 F)).setCell ⟨w.heap.size + 1, 1, none⟩ (.slice (some ⟨w.heap.size + 2, 0, none⟩) l.length (l.length + 3))) hO (fun z e => by
          have e : w.heap.size + 2 = z := by simpa [Value.ownBlock] using e
          rw [hSet _ (by omega), hSet _ (by omega)])) (by omega))
        clear hT hO hB
        go_wp2
        exact bodyPost_ret (v := .agg #[.int .i64 F, .slice (some ⟨w.heap.size + 2, 0, none⟩) l.length (l.length + 3)]) (by simp [results, Tryz.results6, go_sem, k0, k1]) rfl ⟨⟨w.heap.size + 2, rfl, HOs.out⟩, HBs.out⟩
end Go.Proofs.YtpiicdpipjjenaaGreatDoor
namespace Go.Proofs.YtpiicdpipjjenaaGreatDoor
open Go.RowKit
set_option linter.unusedSimpArgs false
set_option linter.unusedVariables false

def Sty (g : Nat) (W W' : World) : Prop := W'.os = W.os ∧ W'.tape = W.tape ∧ W'.output = W.output ∧ W.heap.size ≤ W'.heap.size ∧ ∀ z, z < W.heap.size → z ≠ g → W'.heap[z]? = W.heap[z]?
theorem Sty.refl (g : Nat) (W : World) : Sty g W W := ⟨rfl, rfl, rfl, Nat.le_refl _, fun _ _ _ => rfl⟩
theorem Sty.below {g : Nat} {W W' W'' : World} (h : Sty g W W') (hb : Below W'.heap.size W' W'') : Sty g W W'' := ⟨by rw [hb.os, h.1], by rw [hb.tape, h.2.1], by rw [hb.output, h.2.2.1], Nat.le_trans h.2.2.2.1 hb.size, fun z h1 h2 => by rw [hb.block z (by have := h.2.2.2.1; omega), h.2.2.2.2 z h1 h2]⟩
theorem Sty.set {g : Nat} {W W' : World} (h : Sty g W W') (j : Nat) (u : Value) : Sty g W (W'.setCell ⟨g, j, none⟩ u) := by
  have b : Below 0 W' (W'.setCell ⟨g, j, none⟩ u) := (Below.refl _ _).setCell (Nat.zero_le _) u
  exact ⟨by rw [b.os, h.1], by rw [b.tape, h.2.1], by rw [b.output, h.2.2.1], Nat.le_trans h.2.2.2.1 b.size, fun z h1 h2 => by rw [hSet _ h2, h.2.2.2.2 z h1 h2]⟩
theorem Sty.own {g : Nat} {W W' : World} (h : Sty g W W') {base e size n : Nat} {v : Value} {xs : List Value} (ho : W.ownsRow base e size v n xs) (hn : v.ownBlock ≠ some g) : W'.ownsRow base e size v n xs := own_heap ho (fun z e => h.2.2.2.2 z (ho.lt z e).2 (fun q => hn (by rw [e, q])))
theorem Sty.low {g : Nat} {w W W' : World} (h : Sty g W W') (hb : Below w.heap.size w W) (hg : w.heap.size ≤ g) : Below w.heap.size w W' := ⟨by rw [h.1, hb.os], by rw [h.2.1, hb.tape], by rw [h.2.2.1, hb.output], Nat.le_trans hb.size h.2.2.2.1, fun z hz => by rw [h.2.2.2.2 z (by have := hb.size; omega) (by omega), hb.block z hz]⟩
theorem all_get5 (l : List Rte) (k : Nat) (hk : k < l.length) (h : k < (l ++ mkR l.length 3).length) : (l ++ mkR l.length 3)[k] = l[k] := List.getElem_append_left hk
theorem all_mark5 (l : List Rte) (k : Nat) (hk : l.length ≤ k) (h : k < (l ++ mkR l.length 3).length) : (l ++ mkR l.length 3)[k] = ((0#128, 0), -7 - (k : Int)) := by
  rw [List.getElem_append_right hk]
  unfold mkR
  simp
  omega
theorem eqR5_run (w : World) (h : Int) :
    (Op.equalIn 10000 47 (.agg #[.int .u64 0, .int .u64 0, .int .i64 0, .int .i64 h]) (.agg #[.int .u64 0, .int .u64 0, .int .i64 0, .int .i64 h])).run Tryz.prog w = .ok true w := by
  go_simp
set_option maxRecDepth 20000 in
set_option maxHeartbeats 8000000 in
theorem kept5_any (F : Int) (v : Value) (l : List Rte) (w0 w : World) (hv : RwR w0 v l) (hB : Below w0.heap.size w0 w) (g : Nat) (hown : w.ownsRow w0.heap.size 47 4 (.slice (some ⟨g, 0, none⟩) (l.length + 3) (l.length + 3)) (l.length + 3) (rowR (l ++ mkR l.length 3))) (hl : l.length ≤ 1000000) :
    Calls Tryz.prog 10 #[.agg #[.int .i64 F, .slice (some ⟨g, 0, none⟩) l.length (l.length + 3)], .agg #[.int .i64 F, v]] w fun e w' => e = .returned (.bool true) ∧ Sty g w w' := by
  obtain ⟨ao, c, rfl, hv⟩ := hv
  have HV : Hid (l = [] ∨ ∃ b off, ao = some ⟨b, off, none⟩ ∧ ∀ j u, (rowR l)[j]? = some u → w0.cell? ⟨b, off + j, none⟩ = some u) := hv
  have hgb : w0.heap.size ≤ g := (hown.lt g (by simp [Value.ownBlock])).1
  have hgw : g < w.heap.size := (hown.lt g (by simp [Value.ownBlock])).2
  have q1 := bl1 w (.cells #[.int .i64 F, .slice (some ⟨g, 0, none⟩) l.length (l.length + 3)] 24)
  have q2 := bl1 (w.alloc (.cells #[.int .i64 F, .slice (some ⟨g, 0, none⟩) l.length (l.length + 3)] 24)) (.cells #[.int .i64 F, .slice ao l.length c] 24)
  have HM := hidR ((att_new w w.heap.size F (.slice (some ⟨g, 0, none⟩) l.length (l.length + 3)) 24 rfl).below q2)
  have HT := hidR (att_new (w.alloc (.cells #[.int .i64 F, .slice (some ⟨g, 0, none⟩) l.length (l.length + 3)] 24)) (w.heap.size + 1) F (.slice ao l.length c) 24 (by simp))
  have HO := hidR (own_below q2 (own_below q1 hown))
  have HS := hidR (((Sty.refl g w).below q1).below q2)
  have HB := hidR (keepb q2 (keepb q1 hB))
  clear hv hown hB q1 q2
  have m1 : IntKind.i64.wrap ((l.length : Int) + 3) = (l.length : Int) + 3 := by rw [IntKind.wrap_i64]; omega
  have hAl' : (l ++ mkR l.length 3).length = l.length + 3 := by rw [List.length_append, mkR_len]
  have ea : ((l.length : Int) + 3).toNat = l.length + 3 := by omega
  have i0 : (l.length : Int) + 3 ≤ ((l.length + 3 : Nat) : Int) := by omega
  have i0' : (0 : Int) ≤ (l.length : Int) + 3 := by omega
  have d1 : ((l.length : Int) != (l.length : Int)) = false := by simp
  have d2 : (F != F) = false := by simp
  obtain ⟨t0, t1⟩ := HT.out
  obtain ⟨y0, y1⟩ := HM.out
  go_enter Tryz.func10, Tryz.ntmps10
  go_wp2_with fail
  clear i0 i0' t0 t1 y0 y1 HM
  go_loopw [6, 7] (fun okv i wr => ∃ k : Nat, k ≤ l.length + 3 ∧ i = .int .i64 k ∧ okv = .bool true ∧ ∃ xs : List Value, Hid (xs.drop (k * 4) = (rowR (l ++ mkR l.length 3)).drop (k * 4)) ∧ Hid (wr.ownsRow w0.heap.size 47 4 (.slice (some ⟨g, 0, none⟩) (l.length + 3) (l.length + 3)) (l.length + 3) xs) ∧ Hid (AtT wr (w.heap.size + 1) F (.slice ao l.length c)) ∧ Hid (Below w0.heap.size w0 wr) ∧ Hid (Sty g w wr)) (fun _ i _ => (l.length + 3) - (intOf i).toNat)
  case atStart => exact ⟨0, by omega, rfl, rfl, _, hidR rfl, HO, HT, HB, HS⟩
  case round =>
    clear HO HB HT HS
    obtain ⟨k, hk, rfl, rfl, xs, HX, HO, HT, HB, HS⟩ := hrel
    obtain ⟨t0, t1⟩ := HT.out
    have hset : ∀ (W : World) (u0 u1 u2 u3 : Value), AtT W (w.heap.size + 1) F (.slice ao l.length c) → AtT ((((W.setCell ⟨g, k * 4, none⟩ u0).setCell ⟨g, k * 4 + 1, none⟩ u1).setCell ⟨g, k * 4 + 2, none⟩ u2).setCell ⟨g, k * 4 + 3, none⟩ u3) (w.heap.size + 1) F (.slice ao l.length c) := by
      intro W u0 u1 u2 u3 h
      have e : ((((W.setCell ⟨g, k * 4, none⟩ u0).setCell ⟨g, k * 4 + 1, none⟩ u1).setCell ⟨g, k * 4 + 2, none⟩ u2).setCell ⟨g, k * 4 + 3, none⟩ u3).heap[w.heap.size + 1]? = W.heap[w.heap.size + 1]? := by
        rw [hSet _ (by omega), hSet _ (by omega), hSet _ (by omega), hSet _ (by omega)]
      exact ⟨by rw [cellH e]; exact h.1, by rw [cellH e]; exact h.2⟩
    have HSET := hidR hset
    clear hset
    by_cases hlt : k < l.length + 3
    · have hkA : k < (l ++ mkR l.length 3).length := by omega
      obtain ⟨a0, a1, a2, a3⟩ := rowR_get (l ++ mkR l.length 3) k hkA
      have cc : ∀ r u, (rowR (l ++ mkR l.length 3))[k * 4 + r]? = some u → wr.cell? ⟨g, k * 4 + r, none⟩ = some u := by
        intro r u h
        rw [← drop_get5 xs _ (k * 4) HX.out r] at h
        have := HO.out.cells (g := g) rfl _ _ h
        rw [addA, Nat.zero_add] at this
        exact this
      have x0 := cc 0 _ (by simpa using a0)
      have x1 := cc 1 _ a1
      have x2 := cc 2 _ a2
      have x3 := cc 3 _ a3
      rw [Nat.add_zero] at x0
      obtain ⟨-, s0⟩ := own_cell6 HO.out (k * 4) (by omega)
      obtain ⟨-, s1⟩ := own_cell6 HO.out (k * 4 + 1) (by omega)
      obtain ⟨-, s2⟩ := own_cell6 HO.out (k * 4 + 2) (by omega)
      obtain ⟨-, s3⟩ := own_cell6 HO.out (k * 4 + 3) (by omega)
      clear cc a0 a1 a2 a3
      have i1 : (k : Int) < (l.length : Int) + 3 := by omega
      have mk : IntKind.i64.wrap ((k : Int) + 1) = (k : Int) + 1 := by rw [IntKind.wrap_i64]; omega
      by_cases hkl : k < l.length
      · rw [all_get5 l k hkl hkA] at x0 x1 x2 x3
        have i2 : (k : Int) < (l.length : Int) := by omega
        rcases HV.out with h | ⟨b, off, rfl, hc⟩
        · rw [h] at hkl; simp at hkl
        · obtain ⟨y0, y1, y2, y3⟩ := rwr_cells hc k hkl
          have y0 := keepc HB.out y0
          have y1 := keepc HB.out y1
          have y2 := keepc HB.out y2
          have y3 := keepc HB.out y3
          have hE := fun w => eqR_run l[k].1.1 l[k].1.2 l[k].2 w
          clear hc
          generalize l[k].1.1 = px at *
          generalize l[k].1.2 = pn at *
          generalize l[k].2 = ph at *
          go_wp2_with fail
          go_quiet (fail)
          have HOq := hidR (own_below (below_drewN (Below.refl _ _) nq) HO.out)
          have HBq := hidR (below_drewN HB.out nq)
          have HSq := hidR (HS.out.below (below_drewN (Below.refl _ _) nq))
          have HTq := hidR (HT.out.below (below_drewN (Below.refl _ _) nq))
          clear HO HB HS HT
          go_wp2
          go_roundw
          case rel =>
            refine ⟨k + 1, by omega, by go_num, rfl, _, hidR ?_, hidR ((((HOq.out.stored (k * 4) (.int .u64 0)).1.stored (k * 4 + 1) (.int .u64 0)).1.stored (k * 4 + 2) (.int .i64 0)).1.stored (k * 4 + 3) (.int .i64 77)).1, hidR (HSET.out _ _ _ _ _ HTq.out), hidR ((((HBq.out.setCell (p := ⟨g, _, none⟩) hgb _).setCell (p := ⟨g, _, none⟩) hgb _).setCell (p := ⟨g, _, none⟩) hgb _).setCell (p := ⟨g, _, none⟩) hgb _), hidR ((((HSq.out.set _ _).set _ _).set _ _).set _ _)⟩
            rw [drop4]
            have := congrArg (fun z => z.drop 4) HX.out
            simpa [List.drop_drop, Nat.add_mul] using this
          case measure => simp [intOf]; omega
      · rw [all_mark5 l k (by omega) hkA] at x0 x1 x2 x3
        rw [hI_zero] at x0
        rw [lI_zero] at x1
        have i2 : ¬ k < l.length := hkl
        have ms : IntKind.i64.wrap (-7 - (k : Int)) = -7 - (k : Int) := by rw [IntKind.wrap_i64]; omega
        have hE := fun w => eqR5_run w (-7 - (k : Int))
        simp only at x2 x3
        go_wp2
        go_roundw
        case rel =>
          refine ⟨k + 1, by omega, by go_num, rfl, _, hidR ?_, hidR ((((HO.out.stored (k * 4) (.int .u64 0)).1.stored (k * 4 + 1) (.int .u64 0)).1.stored (k * 4 + 2) (.int .i64 0)).1.stored (k * 4 + 3) (.int .i64 77)).1, hidR (HSET.out _ _ _ _ _ HT.out), hidR ((((HB.out.setCell (p := ⟨g, _, none⟩) hgb _).setCell (p := ⟨g, _, none⟩) hgb _).setCell (p := ⟨g, _, none⟩) hgb _).setCell (p := ⟨g, _, none⟩) hgb _), hidR ((((HS.out.set _ _).set _ _).set _ _).set _ _)⟩
          rw [drop4]
          have := congrArg (fun z => z.drop 4) HX.out
          simpa [List.drop_drop, Nat.add_mul] using this
        case measure => simp [intOf]; omega
    · have hd : ¬ (k : Int) < (l.length : Int) + 3 := by omega
      go_wp2
      go_ret
      exact ⟨rfl, HS.out⟩
end Go.Proofs.YtpiicdpipjjenaaGreatDoor
namespace Go.Proofs.YtpiicdpipjjenaaGreatDoor
open Go.RowKit Go.Shelf
set_option linter.unusedSimpArgs false
set_option linter.unusedVariables false

theorem own_cutT {W : World} {base e size n m g c : Nat} {xs : List Value} (h : W.ownsRow base e size (.slice (some ⟨g, 0, none⟩) n c) n xs) (hm : m ≤ n) : W.ownsRow base e size (.slice (some ⟨g, 0, none⟩) m c) m (xs.take (m * size)) := by
  rcases h.2 with ⟨h', _⟩ | ⟨g', cap', cur, h', hb, hg, hnc, hcm, hcs, htake⟩
  · cases h'
  · simp only [Value.slice.injEq, Option.some.injEq, Addr.mk.injEq, and_true, true_and] at h'
    obtain ⟨rfl, rfl⟩ := h'
    refine ⟨by rw [List.length_take, h.1, Nat.min_eq_left (Nat.mul_le_mul_right _ hm)], .inr ⟨g, c, cur, rfl, hb, hg, by omega, hcm, hcs, ?_⟩⟩
    rw [← htake, List.take_take, Nat.min_eq_left (Nat.mul_le_mul_right _ hm)]
theorem lent_rowT {W : World} {base g : Nat} {l : List Rte} (h : W.ownsRow base 47 4 (.slice (some ⟨g, 0, none⟩) (l.length + 3) (l.length + 3)) (l.length + 3) (rowR (l ++ mkR l.length 3))) : RwR W (.slice (some ⟨g, 0, none⟩) l.length (l.length + 3)) l := by
  have := own_cutT h (m := l.length) (by omega)
  rw [rowR_take, List.take_left] at this
  exact row_rwr (own_row this)
set_option maxRecDepth 100000 in
set_option maxHeartbeats 16000000 in
theorem tableTexts_any (F : Int) (v : Value) (l : List Rte) (G : Int) (u : Value) (m : List Rte) (w : World) (hP : Pow w) (hT : Tab w) (hv : RwR w v l) (hu : RwR w u m) :
    Calls Tryz.prog 3 #[.agg #[.int .i64 F, v], .agg #[.int .i64 G, u]] w fun e w' => e = .returned (.bool true) ∧ Below w.heap.size w w' := by
  have KK := fun W => known5_any W
  have b1 := bl1 w (.cells #[.int .i64 F, v] 24)
  have b2 := bl1 (w.alloc (.cells #[.int .i64 F, v] 24)) (.cells #[.int .i64 G, u] 24)
  have HP0 := hidR ((att_new w w.heap.size F v 24 rfl).below b2)
  have HQ0 := hidR (att_new (w.alloc (.cells #[.int .i64 F, v] 24)) (w.heap.size + 1) G u 24 (by simp))
  have HB := hidR (keepb b2 b1)
  have HV := hidR hv
  have HU := hidR hu
  have HPT : Hid (Pow w ∧ Tab w) := ⟨hP, hT⟩
  obtain ⟨ao, c, rfl, -⟩ := hv
  obtain ⟨au, d, rfl, -⟩ := hu
  clear b1 b2 hP hT
  go_enter Tryz.func3, Tryz.ntmps3
  go_wp2_with fail
  refine (KK _).mono ?_
  rintro e w1 ⟨rfl, hb⟩
  have HB1 := hidR (keepb hb HB.out)
  have HP1 := hidR (HP0.out.below hb)
  have HQ1 := hidR (HQ0.out.below hb)
  obtain ⟨p0, p1⟩ := HP1.out
  clear KK hb HP0 HQ0 HB
  by_cases hl : (3000 : Int) < (l.length : Int)
  · go_wp2
    exact bodyPost_ret (v := .bool true) (by simp [results, Tryz.results3, go_sem]) rfl ⟨rfl, HB1.out⟩
  · have hl3 : l.length ≤ 3000 := by omega
    have HV1 := hidR (HV.out.below HB1.out)
    have HU1 := hidR (HU.out.below HB1.out)
    have KL := lend5_any F (.slice ao l.length c) l w1 HV1.out (by omega)
    go_wp2_with fail
    refine KL.mono ?_
    rintro e w2 ⟨⟨g, rfl, ho⟩, hb⟩
    have k1 := bl1 w2 (.cells #[.int .i64 F, .slice (some ⟨g, 0, none⟩) l.length (l.length + 3)] 24)
    have HGw : Hid (w1.heap.size ≤ g) := (ho.lt g (by simp [Value.ownBlock])).1
    have HO3 := hidR (own_b5 k1 ho)
    have HB3 := hidR (keepb k1 hb)
    have HM3 := hidR (att_new w2 w2.heap.size F (.slice (some ⟨g, 0, none⟩) l.length (l.length + 3)) 24 rfl)
    obtain ⟨m0, m1⟩ := HM3.out
    have KT := ttext_any F _ l _ (lent_rowT HO3.out) (HPT.out.1.keep (keepb HB3.out HB1.out)) (HPT.out.2.keep (keepb HB3.out HB1.out)) (by omega)
    clear KL hb ho k1 p0 p1
    go_wp2_with fail
    refine KT.mono ?_
    rintro e w4 ⟨⟨z, hz, rfl⟩, hb4⟩
    have HZ := hidR hz
    have HO4 := hidR (own_b5 hb4 HO3.out)
    have HB4 := hidR (keepb hb4 HB3.out)
    have HM4 := hidR (HM3.out.below hb4)
    obtain ⟨n0, n1⟩ := HM4.out
    have KC := tcheck_any F _ l w4 (lent_rowT HO4.out)
    have HSt : Hid (∀ y, TabE F l y → (if y = 0 then bL9 (tx5 F l) else ⟨#[]⟩) = (if z = 0 then bL9 (tx5 F l) else (⟨#[]⟩ : ByteArray))) := fun y hy => by rw [tabE_one hy HZ.out]
    generalize (if z = 0 then bL9 (tx5 F l) else (⟨#[]⟩ : ByteArray)) = S at *
    clear KT hb4 HO3 HB3 HM3 m0 m1 hz
    go_wp2_with fail
    refine KC.mono ?_
    rintro e w5 ⟨⟨y, hy, rfl⟩, hb5⟩
    have hyz := tabE_one hy HZ.out
    subst hyz
    have HO5 := hidR (own_b5 hb5 HO4.out)
    have HB5 := hidR (keepb hb5 HB4.out)
    have HM5 := hidR (HM4.out.below hb5)
    have HQ5 := hidR (HQ1.out.below HB5.out)
    obtain ⟨m0, m1⟩ := HM5.out
    obtain ⟨q0, q1⟩ := HQ5.out
    have KS := sameP_any F G _ (.slice au m.length d) l m w5 (lent_rowT HO5.out) (HU1.out.below HB5.out) (by omega)
    have KS2 := fun W (h1 : RwR W (.slice ao l.length c) l) (h2 : RwR W (.slice au m.length d) m) => rsameP_any F G _ _ l m W h1 h2 (by omega)
    generalize decide (F = G ∧ l = m) = sm at *
    have HKS2 := hidR KS2
    clear KC hb5 HO4 HB4 HM4 n0 n1 hy KS2 HQ5
    go_wp2_with fail
    refine KS.mono ?_
    rintro e w6 ⟨rfl, hb6⟩
    have HO6 := hidR (own_b5 hb6 HO5.out)
    have HB6 := hidR (keepb hb6 HB5.out)
    have HM6 := hidR (HM5.out.below hb6)
    have HP6 := hidR (HP1.out.below HB6.out)
    obtain ⟨n0, n1⟩ := HM6.out
    obtain ⟨r0, r1⟩ := HP6.out
    have KP := kept5_any F (.slice ao l.length c) l w1 w6 HV1.out HB6.out g HO6.out (by omega)
    clear KS hb6 HO5 HB5 HM5 m0 m1 q0 q1 HP6
    go_wp2_with fail
    refine KP.mono ?_
    rintro e w7 ⟨rfl, hst⟩
    have HB7 := hidR (hst.low HB6.out HGw.out)
    have HP7 := hidR (HP1.out.below HB7.out)
    obtain ⟨s0, s1⟩ := HP7.out
    have KR := rtext5_any F (.slice ao l.length c) l w7 (HV1.out.below HB7.out)
    clear KP hst HO6 HB6 HM6 n0 n1 r0 r1 HP7
    go_wp2_with fail
    refine KR.mono ?_
    rintro e w8 ⟨⟨y2, hy2, rfl⟩, hb8⟩
    rw [HSt.out y2 hy2]
    have hyz := tabE_one hy2 HZ.out
    subst hyz
    have HB8 := hidR (keepb hb8 HB7.out)
    have HP8 := hidR (HP1.out.below HB8.out)
    obtain ⟨n0, n1⟩ := HP8.out
    have KX := rcheckT_any F (.slice ao l.length c) l w8 (HV1.out.below HB8.out)
    clear KR hb8 HB7 s0 s1 hy2 HP8
    go_wp2_with fail
    refine KX.mono ?_
    rintro e w9 ⟨⟨y3, hy3, rfl⟩, hb9⟩
    have hyz := tabE_one hy3 HZ.out
    subst hyz
    have HB9 := hidR (keepb hb9 HB8.out)
    have HP9 := hidR (HP1.out.below HB9.out)
    have HQ9 := hidR (HQ1.out.below HB9.out)
    obtain ⟨s0, s1⟩ := HP9.out
    obtain ⟨q0, q1⟩ := HQ9.out
    have KY := HKS2.out w9 (HV1.out.below HB9.out) (HU1.out.below HB9.out)
    clear KX hb9 HB8 n0 n1 hy3 HKS2
    go_wp2_with fail
    refine KY.mono ?_
    rintro e w10 ⟨rfl, hb10⟩
    have HBe := hidR (keepb (keepb hb10 HB9.out) HB1.out)
    clear KY hb10
    go_wp2
    exact bodyPost_ret (v := .bool true) (by simp [results, Tryz.results3, go_sem]) rfl ⟨rfl, HBe.out⟩
end Go.Proofs.YtpiicdpipjjenaaGreatDoor
namespace Go.Proofs.YtpiicdpipjjenaaGreatDoor
open Go.ChangeShapes Go.WideShapes Go.ChangeAt Go.RowKit Go.Joins
set_option linter.unusedSimpArgs false
set_option linter.unusedVariables false

theorem Tryz.cellsW : Tryz.prog.cellsOf 43 = 2 := by kernel_rfl
theorem Tryz.cellsP : Tryz.prog.cellsOf 45 = 3 := by kernel_rfl
theorem Tryz.cellsI : Tryz.prog.cellsOf 3 = 1 := by kernel_rfl
theorem Tryz.cellsU : Tryz.prog.cellsOf 41 = 1 := by kernel_rfl
section
variable {H : Type} {enc : TypeId × Value → H} {w : World} {base : Nat} {spare : Nat → Bool} {held : Bool}
end
end Go.Proofs.YtpiicdpipjjenaaGreatDoor
