/-
  Part 7 of the proof: 1 texts, one behind the other.
-/
import Derived.Test.YtdmogkajpginmaaDoorPart3
import Derived.Laws.CopyRow
/-
  copy of a row of any elements; what the law's lend and kept do.
-/
namespace Go.Proofs.YtdmogkajpginmaaDoor
open Go.RowKit
set_option linter.unusedSimpArgs false
set_option linter.unusedVariables false

theorem wpList_copy_any {P : Program} {w : World} {ops : Array Oper} {rest : List Oper} {o : Oper} {a : Act} {Q : Exit → Act → World → Prop} (hgd : o.guard = none) (d s : Operand) (dT sT : TypeId)
    (ho : o.op = .call { callee := .builtin .copy, args := #[d, s], argTypes := #[dT, sT] }) (elem : TypeId) (i : TypeInfo) (size : Nat) (hu : P.underlying dT = some (.slice elem)) (hi : P.info? elem = some i) (hsize : i.size = size)
    (base g n cap : Nat) (xs : List Value) (hd : a.eval d = .slice (some ⟨g, 0, none⟩) n cap) (hown : w.ownsRow base elem size (.slice (some ⟨g, 0, none⟩) n cap) n xs)
    (sp : Option Addr) (sLen sCap : Nat) (hs : a.eval s = .slice sp sLen sCap) (hle : sLen ≤ n) (cs : List Value) (hcl : cs.length = sLen * size) (h0 : sp = none → cs = []) (hsrc : ∀ ad, sp = some ad → ∀ j v, cs[j]? = some v → w.cell? (ad.add j) = some v) (h1 : ∀ v ∈ cs, v.oneCell' = true)
    (h : ∀ w', w'.ownsRow base elem size (.slice (some ⟨g, 0, none⟩) n cap) n (cs ++ xs.drop cs.length) → w.grownBy w' (some g) → wpList P ops Q rest (a.put o.dst (goInt sLen)) w') : wpList P ops Q (o :: rest) a w := by
  rcases hown.2 with ⟨h', _⟩ | ⟨g', cap', cur, h', hb, hg, hnc, hcm, hcs, htake⟩
  · cases h'
  · simp only [Value.slice.injEq, Option.some.injEq, Addr.mk.injEq, and_true, true_and] at h'
    obtain ⟨rfl, rfl⟩ := h'
    subst hsize
    have hxl : xs.length = n * i.size := hown.1
    have hfit : cs.length ≤ n * i.size := by rw [hcl]; exact Nat.mul_le_mul_right _ hle
    have hnc' : n * i.size ≤ cap * i.size := Nat.mul_le_mul_right _ hnc
    have hfc : (Builtin.firstCells i.size sLen (.slice sp sLen sCap)).run P w = .ok cs.toArray w := by
      cases sp with
      | none => rw [h0 rfl]; exact run_firstCells_none w i.size sLen sLen sCap
      | some ad => exact run_firstCells_some w i.size sLen ad sLen sCap cs hcl (hsrc ad rfl)
    have hst := run_storeCells_at P g 0 elem cs 0 cur w hg (by simp; omega) h1
    have hmin : Nat.min sLen n = sLen := Nat.min_eq_left hle
    refine wpList_plain hgd fun K hK => ?_
    unfold Oper.wp
    simp only [Nat.add_zero, List.take_zero, List.nil_append, Nat.zero_add] at hst
    simp [execOp, ho, resolve, invoke, builtin, hd, hs, Builtin.copy_, run_underlying hu, Builtin.lenOf, sizeOf, typeInfo, hi, hmin, hfc, hst, Result.andThen]
    refine hK _ _ (h _ ?_ ?_)
    · refine ⟨?_, .inr ⟨g, cap, (cs ++ cur.toList.drop cs.length).toArray, rfl, hb, setRow_heap w g cur _ elem _ hg, hnc, hcm, ?_, ?_⟩⟩
      · rw [List.length_append, List.length_drop]; omega
      · simp; omega
      · show ((cs ++ cur.toList.drop cs.length)).take (n * i.size) = _
        rw [List.take_append, List.take_of_length_le hfit, ← htake, List.drop_take]
    · exact ⟨rfl, rfl, rfl, by simp [World.setRow], fun k _ hk => setRow_other w g k _ (fun e => hk (by simp [e]))⟩
/-- The row with so many marks behind it. -/
def mkZ (l : List Nat) (k : Nat) : List Nat := l ++ (List.replicate k 165 ++ List.replicate (9 - k) 0)
theorem mkZ_len (l : List Nat) (k : Nat) (h : k ≤ 9) : (mkZ l k).length = l.length + 9 := by unfold mkZ; simp; omega
theorem mkZ_set (l : List Nat) (k : Nat) (h : k < 9) : (mkZ l k).set (l.length + k) 165 = mkZ l (k + 1) := by
  unfold mkZ
  rw [List.set_append_right _ _ (by omega), show l.length + k - l.length = k by omega]
  congr 1
  rw [List.set_append_right _ _ (by simp), List.length_replicate, Nat.sub_self]
  obtain ⟨j, hj⟩ : ∃ j, 9 - k = j + 1 := ⟨8 - k, by omega⟩
  rw [hj, List.replicate_succ, List.set_cons_zero, show 9 - (k + 1) = j by omega, List.replicate_succ', List.append_assoc]
  rfl
theorem mkZ_lo (l : List Nat) (j x : Nat) (h : l[j]? = some x) : (mkZ l 9)[j]? = some x := by
  unfold mkZ
  rw [List.getElem?_append_left (List.getElem?_eq_some_iff.1 h).1]; exact h
theorem mkZ_hi (l : List Nat) (j : Nat) (h : l.length ≤ j) (h2 : j < l.length + 9) : (mkZ l 9)[j]? = some 165 := by
  unfold mkZ
  rw [List.getElem?_append_right h, List.getElem?_append_left (by simp; omega), List.getElem?_replicate_of_lt (by omega)]
set_option maxRecDepth 100000 in
set_option maxHeartbeats 8000000 in
theorem lend13 (v : Value) (l : List Nat) (w : World) (hA : RowA w 1 v l.length (l.map cB)) (hl : l.length ≤ 140737488355000) :
    Calls Tryd.prog 8 #[v] w fun e w' => e = .returned (.slice (some ⟨w.heap.size, 0, none⟩) l.length (l.length + 9)) ∧ w'.ownsRow w.heap.size 5 1 (.slice (some ⟨w.heap.size, 0, none⟩) (l.length + 9) (l.length + 9)) (l.length + 9) ((mkZ l 9).map cB) ∧ Below w.heap.size w w' := by
  obtain ⟨i0, hi, hz0, hz1, hz2⟩ := info13 Tryd.infoB13
  obtain ⟨-, ao, c, rfl, -, hv⟩ := id hA
  have HA := hid13 hA
  have m1 : IntKind.i64.wrap ((l.length : Int) + 9) = (l.length : Int) + 9 := by rw [IntKind.wrap_i64]; omega
  have hby : i0.bytes * (l.length + 9) ≤ 281474976710656 := by rw [hz2]; omega
  have HV := hid13 hv
  have hl0 : (l.length : Int) ≤ 140737488355000 := by omega
  clear hv hA
  go_enter Tryd.func8, Tryd.ntmps8
  go_wp2_with (at_make; apply stopHere9)
  refine (show wpList _ _ _ _ _ _ from ?_)
  refine wpList_make_full _ rfl _ _ 24 rfl w.heap.size 5 i0 (.int .u8 0) 1 Tryd.underlying24 hi hz0 hz1 .i64 .i64 _ _ (l.length + 9) rfl rfl (by simp) (by simp) hby (by unfold maxLen; omega) (Nat.le_refl _) ?_
  intro w2 ho2 hgrow
  have HB2 : Hid (Below w.heap.size w w2) := (Below.refl _ _).grown hgrow (Nat.le_refl _) (fun z hz => by cases hz)
  have HO2 := hid13 ho2
  have hA2 := HA.out.below HB2.out
  have hcp : ∀ ad, ao = some ad → ∀ j u, (l.map cB)[j]? = some u → w2.cell? (ad.add j) = some u := by
    intro ad e j u hj
    obtain ⟨-, ao', c', e', -, h⟩ := hA2
    injection e' with e1 e2 e3
    subst e1
    rcases h with ⟨rfl, -, -⟩ | ⟨a, ha, h⟩
    · cases e
    · rw [ha] at e
      injection e with e
      subst e
      exact h j u hj
  have hcn : ao = none → l.map cB = [] := by
    intro e
    rcases HV.out with ⟨-, -, h⟩ | ⟨a, ha, -⟩
    · rw [List.eq_nil_of_length_eq_zero h]; rfl
    · rw [ha] at e; cases e
  clear ho2 hgrow hby hA2
  have HCP := hid13 hcp
  have HCN := hid13 hcn
  clear hcp hcn
  go_wp2_with (first | (refine wpList_copy_any rfl (.tmp 9) (.tmp 10) 24 24 rfl 5 i0 1 Tryd.underlying24 hi hz1 w.heap.size w.heap.size (l.length + 9) (l.length + 9) _ rfl HO2.out ao l.length c rfl (by omega) (l.map cB) (by simp) HCN.out HCP.out (cB_one l) ?_; intro w3 ho3 hgrow3; have HP3 := hid13 (And.intro ho3 hgrow3); clear ho3 hgrow3))
  obtain ⟨ho3, hgrow3⟩ := HP3.out
  have HB3 : Hid (Below w.heap.size w w3) := HB2.out.grown hgrow3 HB2.out.size (fun z hz => by injection hz with hz; omega)
  have HO3 : Hid (w3.ownsRow w.heap.size 5 1 (.slice (some ⟨w.heap.size, 0, none⟩) (l.length + 9) (l.length + 9)) (l.length + 9) ((mkZ l 0).map cB)) := by
    have e : (mkZ l 0).map cB = l.map cB ++ (madeCells (Value.int .u8 0).cells ((l.length + 9) * 1)).toList.drop (l.map cB).length := by
      show _ = _ ++ (madeCells #[Value.int .u8 0] ((l.length + 9) * 1)).toList.drop _
      rw [toList_madeCells_one, List.length_map, Nat.mul_one, List.drop_replicate, show l.length + 9 - l.length = 9 by omega]
      unfold mkZ
      rw [List.map_append]
      rfl
    rw [e]; exact ho3
  clear ho3 hgrow3 HO2 HB2 HCP HCN HV HA HP3
  go_loopg [4] 9 (fun g i wr => ∃ k : Nat, k + g = 9 ∧ i = .int .i64 ((l.length : Int) + (k : Int)) ∧ Hid (wr.ownsRow w.heap.size 5 1 (.slice (some ⟨w.heap.size, 0, none⟩) (l.length + 9) (l.length + 9)) (l.length + 9) ((mkZ l k).map cB) ∧ Below w.heap.size w wr))
  case atStart => exact ⟨0, rfl, by simp, HO3.out, HB3.out⟩
  case round =>
    clear HO3 HB3
    obtain ⟨k, hk, rfl, HS⟩ := hrel
    obtain ⟨I, hI⟩ : ∃ I, I = l.length + k := ⟨_, rfl⟩
    have hIi : (l.length : Int) + (k : Int) = (I : Int) := by omega
    rw [hIi]
    by_cases hlt : k < 9
    · have hli : (I : Int) < (l.length : Int) + 9 := by omega
      have hf := HS.out.1.frozenAt I
      obtain ⟨u, hu⟩ : ∃ u, wr.cell? ⟨w.heap.size, I, none⟩ = some u := by
        rw [HS.out.1.cellAt I (by omega)]
        have := HS.out.1.1
        exact ⟨_, List.getElem?_eq_getElem (by omega)⟩
      have HN : Hid ((wr.setCell ⟨w.heap.size, I, none⟩ (.int .u8 165)).ownsRow w.heap.size 5 1 (.slice (some ⟨w.heap.size, 0, none⟩) (l.length + 9) (l.length + 9)) (l.length + 9) ((mkZ l (k + 1)).map cB) ∧ Below w.heap.size w (wr.setCell ⟨w.heap.size, I, none⟩ (.int .u8 165))) := by
        refine ⟨?_, HS.out.2.setCell (Nat.le_refl _) _⟩
        rw [← mkZ_set l k hlt, List.map_set, ← hI]
        exact (HS.out.1.stored I (.int .u8 165)).1
      have mk : IntKind.i64.wrap ((I : Int) + 1) = (I : Int) + 1 := by rw [IntKind.wrap_i64]; omega
      have HK : Hid (k + gk = 9 ∧ k < 9 ∧ (I : Int) = (l.length : Int) + (k : Int)) := ⟨hk, hlt, by omega⟩
      clear hI hIi HS hk
      go_wp2_with fail
      go_roundg (gk - 1)
      case measure => have := HK.out; omega
      case rel => exact ⟨k + 1, by have := HK.out; omega, congrArg (Value.int .i64) (by have := HK.out.2.2; omega), HN⟩
    · have hli : ¬ (I : Int) < (l.length : Int) + 9 := by omega
      obtain rfl : k = 9 := by omega
      clear hI hIi
      go_wp2_with fail
      go_ret
      exact ⟨rfl, HS.out.1, HS.out.2⟩
set_option maxRecDepth 100000 in
set_option maxHeartbeats 8000000 in
theorem kept13 (v : Value) (g : Nat) (l : List Nat) (w : World) (hv : RwX cB w v l) (ho : RwX cB w (.slice (some ⟨g, 0, none⟩) (l.length + 9) (l.length + 9)) (mkZ l 9)) (hl : l.length ≤ 140737488355000) :
    Calls Tryd.prog 10 #[.slice (some ⟨g, 0, none⟩) l.length (l.length + 9), v] w fun e w' => e = .returned (.bool true) ∧ Below w.heap.size w w' := by
  obtain ⟨ao, c, rfl, -, hv⟩ := hv
  have HC : Hid (∀ j x, (mkZ l 9)[j]? = some x → w.cell? ⟨g, j, none⟩ = some (cB x)) := by
    obtain ⟨ao', c', e, -, h⟩ := ho
    injection e with e1 e2 e3
    subst e1
    rcases h with h | ⟨b, off, e, h⟩
    · have := mkZ_len l 9 (by omega)
      rw [h] at this; simp at this
    · injection e with e
      injection e with e1 e2 e3
      subst e1 e2
      intro j x hj
      have := h j x hj
      rw [Nat.zero_add] at this
      exact this
  have HV := hid13 hv
  have m1 : IntKind.i64.wrap ((l.length : Int) + 9) = (l.length : Int) + 9 := by rw [IntKind.wrap_i64]; omega
  have hl0 : (l.length : Int) ≤ 140737488355000 := by omega
  have HB := hid13 (Below.refl w.heap.size w)
  clear hv ho
  go_enter Tryd.func10, Tryd.ntmps10
  go_wp2_with fail
  go_loopg [6] (l.length + 9) (fun gg i wr => ∃ k : Nat, k + gg = l.length + 9 ∧ i = .int .i64 (k : Int) ∧ Hid (Below w.heap.size w wr))
  case atStart => exact ⟨0, by omega, rfl, HB⟩
  case round =>
    clear HB
    obtain ⟨k, hk, rfl, HB⟩ := hrel
    by_cases hlt : k < l.length + 9
    · have hli : (k : Int) < (l.length : Int) + 9 := by omega
      have mk : IntKind.i64.wrap ((k : Int) + 1) = (k : Int) + 1 := by rw [IntKind.wrap_i64]; omega
      have HK : Hid (k + gk = l.length + 9 ∧ k < l.length + 9) := ⟨hk, hlt⟩
      by_cases hin : k < l.length
      · have hin1 : (k : Int) < (l.length : Int) := by omega
        obtain ⟨bo, off, rfl, hc1⟩ : ∃ bo off, ao = some ⟨bo, off, none⟩ ∧ ∀ j x, l[j]? = some x → w.cell? ⟨bo, off + j, none⟩ = some (cB x) := by
          rcases HV.out with h | h
          · rw [h] at hin; simp at hin
          · exact h
        obtain ⟨x, hx⟩ : ∃ x, l[k]? = some x := ⟨l[k], by simp [hin]⟩
        have r1 : wr.cell? ⟨bo, off + k, none⟩ = some (.int .u8 (x : Int)) := keepc HB.out (hc1 k x hx)
        have r2 : wr.cell? ⟨g, k, none⟩ = some (.int .u8 (x : Int)) := keepc HB.out (HC.out k x (mkZ_lo l k x hx))
        have hge : decide ((l.length : Int) ≤ (k : Int)) = false := decide_eq_false (by omega)
        clear hc1 hx hk
        go_wp2_with fail
        refine qw_region (C := fun W => W.cell? ⟨g, k, none⟩ = some (.int .u8 (x : Int)) ∧ W.cell? ⟨bo, off + k, none⟩ = some (.int .u8 (x : Int)) ∧ Below w.heap.size w W) (by kernel_rfl) (by kernel_rfl) ⟨r2, r1, HB.out.drew⟩ ?_
        clear r1 r2
        refine qw_run (v := .int .i64 (k : Int)) (by rfl) ?_ ?_
        · (intro w9 hC; clear hC; go_simp; first | done | (simp; done) | (simp [*]; done) | omega | (simp; omega) | (rw [IntKind.wrap_i64]; omega) | rfl)
        simp only [Act.put, List.setIfInBounds_toArray, List.set_cons_zero, List.set_cons_succ]
        refine qw_run (v := .slice (some ⟨bo, off, none⟩) l.length c) (by rfl) ?_ ?_
        · (intro w9 hC; clear hC; go_simp; first | done | (simp; done) | (simp [*]; done) | omega | (simp; omega) | (rw [IntKind.wrap_i64]; omega) | rfl)
        simp only [Act.put, List.setIfInBounds_toArray, List.set_cons_zero, List.set_cons_succ]
        refine qw_run (v := .int .i64 (l.length : Int)) (by rfl) ?_ ?_
        · (intro w9 hC; clear hC; go_simp; first | done | (simp; done) | (simp [*]; done) | omega | (simp; omega) | (rw [IntKind.wrap_i64]; omega) | rfl)
        simp only [Act.put, List.setIfInBounds_toArray, List.set_cons_zero, List.set_cons_succ]
        refine qw_run (v := .bool true) (by rfl) ?_ ?_
        · (intro w9 hC; clear hC; go_simp; first | done | (simp; done) | (simp [*]; done) | omega | (simp; omega) | (rw [IntKind.wrap_i64]; omega) | rfl)
        simp only [Act.put, List.setIfInBounds_toArray, List.set_cons_zero, List.set_cons_succ]
        refine qw_run (v := .bool true) (by rfl) ?_ ?_
        · (intro w9 hC; clear hC; go_simp; first | done | (simp; done) | (simp [*]; done) | omega | (simp; omega) | (rw [IntKind.wrap_i64]; omega) | rfl)
        simp only [Act.put, List.setIfInBounds_toArray, List.set_cons_zero, List.set_cons_succ]
        refine qw_run (v := .slice (some ⟨g, 0, none⟩) (l.length + 9) (l.length + 9)) (by rfl) ?_ ?_
        · (intro w9 hC; clear hC; go_simp; first | done | (simp; done) | (simp [*]; done) | omega | (simp; omega) | (rw [IntKind.wrap_i64]; omega) | rfl)
        simp only [Act.put, List.setIfInBounds_toArray, List.set_cons_zero, List.set_cons_succ]
        refine qw_run (v := .int .i64 (k : Int)) (by rfl) ?_ ?_
        · (intro w9 hC; clear hC; go_simp; first | done | (simp; done) | (simp [*]; done) | omega | (simp; omega) | (rw [IntKind.wrap_i64]; omega) | rfl)
        simp only [Act.put, List.setIfInBounds_toArray, List.set_cons_zero, List.set_cons_succ]
        refine qw_run (v := .pointer (some ⟨g, k, none⟩)) (by rfl) ?_ ?_
        · (intro w9 hC; clear hC; go_simp; first | done | (simp; done) | (simp [*]; done) | omega | (simp; omega) | (rw [IntKind.wrap_i64]; omega) | rfl)
        simp only [Act.put, List.setIfInBounds_toArray, List.set_cons_zero, List.set_cons_succ]
        refine qw_run (v := .int .u8 (x : Int)) (by rfl) ?_ ?_
        · (intro w9 hC; have f0 := hC.1; clear hC; go_simp; first | done | (simp; done) | (simp [*]; done) | omega | (simp; omega) | (rw [IntKind.wrap_i64]; omega) | rfl)
        simp only [Act.put, List.setIfInBounds_toArray, List.set_cons_zero, List.set_cons_succ]
        refine qw_run (v := .slice (some ⟨bo, off, none⟩) l.length c) (by rfl) ?_ ?_
        · (intro w9 hC; clear hC; go_simp; first | done | (simp; done) | (simp [*]; done) | omega | (simp; omega) | (rw [IntKind.wrap_i64]; omega) | rfl)
        simp only [Act.put, List.setIfInBounds_toArray, List.set_cons_zero, List.set_cons_succ]
        refine qw_run (v := .int .i64 (k : Int)) (by rfl) ?_ ?_
        · (intro w9 hC; clear hC; go_simp; first | done | (simp; done) | (simp [*]; done) | omega | (simp; omega) | (rw [IntKind.wrap_i64]; omega) | rfl)
        simp only [Act.put, List.setIfInBounds_toArray, List.set_cons_zero, List.set_cons_succ]
        refine qw_run (v := .pointer (some ⟨bo, off + k, none⟩)) (by rfl) ?_ ?_
        · (intro w9 hC; clear hC; go_simp; first | done | (simp; done) | (simp [*]; done) | omega | (simp; omega) | (rw [IntKind.wrap_i64]; omega) | rfl)
        simp only [Act.put, List.setIfInBounds_toArray, List.set_cons_zero, List.set_cons_succ]
        refine qw_run (v := .int .u8 (x : Int)) (by rfl) ?_ ?_
        · (intro w9 hC; have f0 := hC.2.1; clear hC; go_simp; first | done | (simp; done) | (simp [*]; done) | omega | (simp; omega) | (rw [IntKind.wrap_i64]; omega) | rfl)
        simp only [Act.put, List.setIfInBounds_toArray, List.set_cons_zero, List.set_cons_succ]
        refine qw_run (v := .bool false) (by rfl) ?_ ?_
        · (intro w9 hC; clear hC; go_simp; first | done | (simp; done) | (simp [*]; done) | omega | (simp; omega) | (rw [IntKind.wrap_i64]; omega) | rfl)
        simp only [Act.put, List.setIfInBounds_toArray, List.set_cons_zero, List.set_cons_succ]
        refine qw_run (v := .bool false) (by rfl) ?_ ?_
        · (intro w9 hC; clear hC; go_simp; first | done | (simp; done) | (simp [*]; done) | omega | (simp; omega) | (rw [IntKind.wrap_i64]; omega) | rfl)
        simp only [Act.put, List.setIfInBounds_toArray, List.set_cons_zero, List.set_cons_succ]
        refine qw_run (v := .bool false) (by rfl) ?_ ?_
        · (intro w9 hC; clear hC; go_simp; first | done | (simp; done) | (simp [*]; done) | omega | (simp; omega) | (rw [IntKind.wrap_i64]; omega) | rfl)
        simp only [Act.put, List.setIfInBounds_toArray, List.set_cons_zero, List.set_cons_succ]
        refine qw_run (v := .int .i64 (k : Int)) (by rfl) ?_ ?_
        · (intro w9 hC; clear hC; go_simp; first | done | (simp; done) | (simp [*]; done) | omega | (simp; omega) | (rw [IntKind.wrap_i64]; omega) | rfl)
        simp only [Act.put, List.setIfInBounds_toArray, List.set_cons_zero, List.set_cons_succ]
        refine qw_run (v := .slice (some ⟨bo, off, none⟩) l.length c) (by rfl) ?_ ?_
        · (intro w9 hC; clear hC; go_simp; first | done | (simp; done) | (simp [*]; done) | omega | (simp; omega) | (rw [IntKind.wrap_i64]; omega) | rfl)
        simp only [Act.put, List.setIfInBounds_toArray, List.set_cons_zero, List.set_cons_succ]
        refine qw_run (v := .int .i64 (l.length : Int)) (by rfl) ?_ ?_
        · (intro w9 hC; clear hC; go_simp; first | done | (simp; done) | (simp [*]; done) | omega | (simp; omega) | (rw [IntKind.wrap_i64]; omega) | rfl)
        simp only [Act.put, List.setIfInBounds_toArray, List.set_cons_zero, List.set_cons_succ]
        refine qw_run (v := .bool false) (by rfl) ?_ ?_
        · (intro w9 hC; clear hC; go_simp; first | done | (simp; done) | (simp [*]; done) | omega | (simp; omega) | (rw [IntKind.wrap_i64]; omega) | rfl)
        simp only [Act.put, List.setIfInBounds_toArray, List.set_cons_zero, List.set_cons_succ]
        refine qw_run (v := .bool false) (by rfl) ?_ ?_
        · (intro w9 hC; clear hC; go_simp; first | done | (simp; done) | (simp [*]; done) | omega | (simp; omega) | (rw [IntKind.wrap_i64]; omega) | rfl)
        simp only [Act.put, List.setIfInBounds_toArray, List.set_cons_zero, List.set_cons_succ]
        refine qw_skip (by rfl) ?_
        simp only [Act.put, List.setIfInBounds_toArray, List.set_cons_zero, List.set_cons_succ]
        refine qw_skip (by rfl) ?_
        simp only [Act.put, List.setIfInBounds_toArray, List.set_cons_zero, List.set_cons_succ]
        refine qw_skip (by rfl) ?_
        simp only [Act.put, List.setIfInBounds_toArray, List.set_cons_zero, List.set_cons_succ]
        refine qw_skip (by rfl) ?_
        simp only [Act.put, List.setIfInBounds_toArray, List.set_cons_zero, List.set_cons_succ]
        refine qw_skip (by rfl) ?_
        simp only [Act.put, List.setIfInBounds_toArray, List.set_cons_zero, List.set_cons_succ]
        refine qw_run (v := .bool false) (by rfl) ?_ ?_
        · (intro w9 hC; clear hC; go_simp; first | done | (simp; done) | (simp [*]; done) | omega | (simp; omega) | (rw [IntKind.wrap_i64]; omega) | rfl)
        simp only [Act.put, List.setIfInBounds_toArray, List.set_cons_zero, List.set_cons_succ]
        refine qw_run (v := .bool false) (by rfl) ?_ ?_
        · (intro w9 hC; clear hC; go_simp; first | done | (simp; done) | (simp [*]; done) | omega | (simp; omega) | (rw [IntKind.wrap_i64]; omega) | rfl)
        simp only [Act.put, List.setIfInBounds_toArray, List.set_cons_zero, List.set_cons_succ]
        refine qw_nil ?_
        intro W1 hC
        have HB2 := hid13 hC.2.2
        clear hC
        go_wp2
        go_roundg (gk - 1)
        case measure => have := HK.out; omega
        case rel => exact ⟨k + 1, by have := HK.out; omega, rfl, HB2⟩
      · have hin1 : decide ((k : Int) < (l.length : Int)) = false := decide_eq_false (by omega)
        have r2 : wr.cell? ⟨g, k, none⟩ = some (.int .u8 165) := keepc HB.out (HC.out k 165 (mkZ_hi l k (by omega) hlt))
        have hge : decide ((l.length : Int) ≤ (k : Int)) = true := decide_eq_true (by omega)
        clear hk
        go_wp2_with fail
        refine qw_region (C := fun W => W.cell? ⟨g, k, none⟩ = some (.int .u8 165) ∧ Below w.heap.size w W) (by kernel_rfl) (by kernel_rfl) ⟨r2, HB.out.drew⟩ ?_
        clear r2
        refine qw_run (v := .int .i64 (k : Int)) (by rfl) ?_ ?_
        · (intro w9 hC; clear hC; go_simp; first | done | (simp; done) | (simp [*]; done) | omega | (simp; omega) | (rw [IntKind.wrap_i64]; omega) | rfl)
        simp only [Act.put, List.setIfInBounds_toArray, List.set_cons_zero, List.set_cons_succ]
        refine qw_run (v := .slice ao l.length c) (by rfl) ?_ ?_
        · (intro w9 hC; clear hC; go_simp; first | done | (simp; done) | (simp [*]; done) | omega | (simp; omega) | (rw [IntKind.wrap_i64]; omega) | rfl)
        simp only [Act.put, List.setIfInBounds_toArray, List.set_cons_zero, List.set_cons_succ]
        refine qw_run (v := .int .i64 (l.length : Int)) (by rfl) ?_ ?_
        · (intro w9 hC; clear hC; go_simp; first | done | (simp; done) | (simp [*]; done) | omega | (simp; omega) | (rw [IntKind.wrap_i64]; omega) | rfl)
        simp only [Act.put, List.setIfInBounds_toArray, List.set_cons_zero, List.set_cons_succ]
        refine qw_run (v := .bool false) (by rfl) ?_ ?_
        · (intro w9 hC; clear hC; go_simp; first | done | (simp; done) | (simp [*]; done) | omega | (simp; omega) | (rw [IntKind.wrap_i64]; omega) | rfl)
        simp only [Act.put, List.setIfInBounds_toArray, List.set_cons_zero, List.set_cons_succ]
        refine qw_run (v := .bool false) (by rfl) ?_ ?_
        · (intro w9 hC; clear hC; go_simp; first | done | (simp; done) | (simp [*]; done) | omega | (simp; omega) | (rw [IntKind.wrap_i64]; omega) | rfl)
        simp only [Act.put, List.setIfInBounds_toArray, List.set_cons_zero, List.set_cons_succ]
        refine qw_skip (by rfl) ?_
        simp only [Act.put, List.setIfInBounds_toArray, List.set_cons_zero, List.set_cons_succ]
        refine qw_skip (by rfl) ?_
        simp only [Act.put, List.setIfInBounds_toArray, List.set_cons_zero, List.set_cons_succ]
        refine qw_skip (by rfl) ?_
        simp only [Act.put, List.setIfInBounds_toArray, List.set_cons_zero, List.set_cons_succ]
        refine qw_skip (by rfl) ?_
        simp only [Act.put, List.setIfInBounds_toArray, List.set_cons_zero, List.set_cons_succ]
        refine qw_skip (by rfl) ?_
        simp only [Act.put, List.setIfInBounds_toArray, List.set_cons_zero, List.set_cons_succ]
        refine qw_skip (by rfl) ?_
        simp only [Act.put, List.setIfInBounds_toArray, List.set_cons_zero, List.set_cons_succ]
        refine qw_skip (by rfl) ?_
        simp only [Act.put, List.setIfInBounds_toArray, List.set_cons_zero, List.set_cons_succ]
        refine qw_skip (by rfl) ?_
        simp only [Act.put, List.setIfInBounds_toArray, List.set_cons_zero, List.set_cons_succ]
        refine qw_skip (by rfl) ?_
        simp only [Act.put, List.setIfInBounds_toArray, List.set_cons_zero, List.set_cons_succ]
        refine qw_run (v := .bool false) (by rfl) ?_ ?_
        · (intro w9 hC; clear hC; go_simp; first | done | (simp; done) | (simp [*]; done) | omega | (simp; omega) | (rw [IntKind.wrap_i64]; omega) | rfl)
        simp only [Act.put, List.setIfInBounds_toArray, List.set_cons_zero, List.set_cons_succ]
        refine qw_run (v := .bool false) (by rfl) ?_ ?_
        · (intro w9 hC; clear hC; go_simp; first | done | (simp; done) | (simp [*]; done) | omega | (simp; omega) | (rw [IntKind.wrap_i64]; omega) | rfl)
        simp only [Act.put, List.setIfInBounds_toArray, List.set_cons_zero, List.set_cons_succ]
        refine qw_run (v := .int .i64 (k : Int)) (by rfl) ?_ ?_
        · (intro w9 hC; clear hC; go_simp; first | done | (simp; done) | (simp [*]; done) | omega | (simp; omega) | (rw [IntKind.wrap_i64]; omega) | rfl)
        simp only [Act.put, List.setIfInBounds_toArray, List.set_cons_zero, List.set_cons_succ]
        refine qw_run (v := .slice ao l.length c) (by rfl) ?_ ?_
        · (intro w9 hC; clear hC; go_simp; first | done | (simp; done) | (simp [*]; done) | omega | (simp; omega) | (rw [IntKind.wrap_i64]; omega) | rfl)
        simp only [Act.put, List.setIfInBounds_toArray, List.set_cons_zero, List.set_cons_succ]
        refine qw_run (v := .int .i64 (l.length : Int)) (by rfl) ?_ ?_
        · (intro w9 hC; clear hC; go_simp; first | done | (simp; done) | (simp [*]; done) | omega | (simp; omega) | (rw [IntKind.wrap_i64]; omega) | rfl)
        simp only [Act.put, List.setIfInBounds_toArray, List.set_cons_zero, List.set_cons_succ]
        refine qw_run (v := .bool true) (by rfl) ?_ ?_
        · (intro w9 hC; clear hC; go_simp; first | done | (simp; done) | (simp [*]; done) | omega | (simp; omega) | (rw [IntKind.wrap_i64]; omega) | rfl)
        simp only [Act.put, List.setIfInBounds_toArray, List.set_cons_zero, List.set_cons_succ]
        refine qw_run (v := .bool true) (by rfl) ?_ ?_
        · (intro w9 hC; clear hC; go_simp; first | done | (simp; done) | (simp [*]; done) | omega | (simp; omega) | (rw [IntKind.wrap_i64]; omega) | rfl)
        simp only [Act.put, List.setIfInBounds_toArray, List.set_cons_zero, List.set_cons_succ]
        refine qw_run (v := .slice (some ⟨g, 0, none⟩) (l.length + 9) (l.length + 9)) (by rfl) ?_ ?_
        · (intro w9 hC; clear hC; go_simp; first | done | (simp; done) | (simp [*]; done) | omega | (simp; omega) | (rw [IntKind.wrap_i64]; omega) | rfl)
        simp only [Act.put, List.setIfInBounds_toArray, List.set_cons_zero, List.set_cons_succ]
        refine qw_run (v := .int .i64 (k : Int)) (by rfl) ?_ ?_
        · (intro w9 hC; clear hC; go_simp; first | done | (simp; done) | (simp [*]; done) | omega | (simp; omega) | (rw [IntKind.wrap_i64]; omega) | rfl)
        simp only [Act.put, List.setIfInBounds_toArray, List.set_cons_zero, List.set_cons_succ]
        refine qw_run (v := .pointer (some ⟨g, k, none⟩)) (by rfl) ?_ ?_
        · (intro w9 hC; clear hC; go_simp; first | done | (simp; done) | (simp [*]; done) | omega | (simp; omega) | (rw [IntKind.wrap_i64]; omega) | rfl)
        simp only [Act.put, List.setIfInBounds_toArray, List.set_cons_zero, List.set_cons_succ]
        refine qw_run (v := .int .u8 165) (by rfl) ?_ ?_
        · (intro w9 hC; have f0 := hC.1; clear hC; go_simp; first | done | (simp; done) | (simp [*]; done) | omega | (simp; omega) | (rw [IntKind.wrap_i64]; omega) | rfl)
        simp only [Act.put, List.setIfInBounds_toArray, List.set_cons_zero, List.set_cons_succ]
        refine qw_run (v := .bool false) (by rfl) ?_ ?_
        · (intro w9 hC; clear hC; go_simp; first | done | (simp; done) | (simp [*]; done) | omega | (simp; omega) | (rw [IntKind.wrap_i64]; omega) | rfl)
        simp only [Act.put, List.setIfInBounds_toArray, List.set_cons_zero, List.set_cons_succ]
        refine qw_run (v := .bool false) (by rfl) ?_ ?_
        · (intro w9 hC; clear hC; go_simp; first | done | (simp; done) | (simp [*]; done) | omega | (simp; omega) | (rw [IntKind.wrap_i64]; omega) | rfl)
        simp only [Act.put, List.setIfInBounds_toArray, List.set_cons_zero, List.set_cons_succ]
        refine qw_run (v := .bool false) (by rfl) ?_ ?_
        · (intro w9 hC; clear hC; go_simp; first | done | (simp; done) | (simp [*]; done) | omega | (simp; omega) | (rw [IntKind.wrap_i64]; omega) | rfl)
        simp only [Act.put, List.setIfInBounds_toArray, List.set_cons_zero, List.set_cons_succ]
        refine qw_nil ?_
        intro W1 hC
        have HB2 := hid13 hC.2
        clear hC
        go_wp2
        go_roundg (gk - 1)
        case measure => have := HK.out; omega
        case rel => exact ⟨k + 1, by have := HK.out; omega, rfl, HB2⟩
    · have hli : ¬ (k : Int) < (l.length : Int) + 9 := by omega
      go_wp2_with fail
      go_ret
      exact ⟨rfl, HB.out⟩
end Go.Proofs.YtdmogkajpginmaaDoor
