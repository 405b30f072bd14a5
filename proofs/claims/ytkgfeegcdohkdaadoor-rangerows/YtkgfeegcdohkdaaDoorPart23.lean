/-
  Part 23 of the proof: 6 texts, one behind the other.
-/
import Derived.Test.YtkgfeegcdohkdaaDoorPart22
import Derived.Test.YtkgfeegcdohkdaaDoorPart18
import Derived.Laws.CopyRow
import Derived.Test.YtkgfeegcdohkdaaDoorPart5
import Derived.Laws.StructEq
/-
  What the call of turnpikeref4's Merge does.
-/
namespace Go.Proofs.YtkgfeegcdohkdaaDoor
open Go.RowKit
set_option linter.unusedSimpArgs false
set_option linter.unusedVariables false

theorem flat_takeR (F : Int) (R : List (BitVec 128 × BitVec 128)) (k : Nat) (hk : k < R.length) : ((R.take (k + 1)).flatMap fun s => covT F s.1 s.2) = ((R.take k).flatMap fun s => covT F s.1 s.2) ++ covT F R[k].1 R[k].2 := by
  rw [List.take_succ_eq_append_getElem hk, List.flatMap_append]
  simp
theorem flat_leR (F : Int) (R : List (BitVec 128 × BitVec 128)) (k : Nat) : ((R.take k).flatMap fun s => covT F s.1 s.2).length ≤ (R.flatMap fun s => covT F s.1 s.2).length := by
  conv => rhs; rw [← List.take_append_drop k R, List.flatMap_append, List.length_append]
  omega
theorem chk_fam {F : Int} {l : List (BitVec 128 × Int)} (h : chkE F l = 0) : fam F = true ∧ ∀ p ∈ l, Rp F p := by
  obtain ⟨a, b⟩ := chk_bd h
  refine ⟨a, fun p hp => ?_⟩
  have := b p hp
  unfold checkE at this
  rw [if_pos a] at this
  split at this
  · cases this
  · split at this
    · cases this
    · split at this
      · rename_i c1 c2 c3
        exact ⟨by omega, by omega, by simpa using c3⟩
      · cases this
set_option maxHeartbeats 2000000 in
theorem rmerge_err (F : Int) (v : Value) (l : List (BitVec 128 × Int)) (w : World) (hv : Rv w v l) (hl : l.length ≤ 1000000000) (hf : ¬ chkE F l = 0) :
    Calls Tryd.prog 24 #[.int .i64 F, v] w fun e w' => e = .returned (.tuple #[.slice none 0 0, .int .i64 (chkE F l)]) ∧ Below w.heap.size w w' := by
  have KC := rrows_err F v l w hv hl hf
  revert KC hf
  generalize chkE F l = ce
  intro hf KC
  have hn : (ce != 0) = true := by simp [hf]
  clear hv
  go_enter Tryd.func24, Tryd.ntmps24
  go_wp2_with fail
  refine KC.mono ?_
  rintro e w1 ⟨rfl, hb⟩
  clear KC
  go_wp2
  go_ret2
  exact ⟨rfl, hb⟩
set_option maxRecDepth 20000 in
set_option maxHeartbeats 8000000 in
theorem rmerge_any (F : Int) (v : Value) (l : List (BitVec 128 × Int)) (w : World) (hv : Rv w v l) (hl : l.length ≤ 1000000000) (hf : chkE F l = 0) :
    Calls Tryd.prog 24 #[.int .i64 F, v] w fun e w' => (∃ v', e = .returned (.tuple #[v', .int .i64 0]) ∧ w'.ownsRow w.heap.size 26 3 v' (ptAll [] (sortL l)).reverse.length (rowP (ptAll [] (sortL l)).reverse)) ∧ Below w.heap.size w w' := by
  obtain ⟨i0, hi, hz0, hz1, hz2⟩ := info_parts Tryd.infoP
  obtain ⟨ff, hR⟩ := chk_fam hf
  have hF := fam_le ff
  have KR := rrows_any F v l w hv hl hf
  have eL : (rrAll F [] (segL F (sortL l))).length = (rrAll F [] (segL F (sortL l))).reverse.length := by rw [List.length_reverse]
  rw [eL, rows_same ff l hR] at KR
  clear eL
  have HGr : Hid (∀ p ∈ (ptAll [] (sortL l)).reverse, Rp F p) := fun p hp => ptAll_rp hF (sortL l) [] (fun a ha => by cases ha) (fun a ha => hR a (sortL_mem.mp ha)) p (by simpa using hp)
  have HWc := Hid.mk' (whole_covers ff _ (merge_ns l) HGr.out)
  have hG : (ptAll [] (sortL l)).reverse.length ≤ l.length := by
    have := ptAll_le (sortL l) []
    rw [sortL_len] at this
    rw [List.length_reverse]
    simp at this
    omega
  have hRl : (psAll F [] (segL F (ptAll [] (sortL l)).reverse)).reverse.length ≤ l.length := by
    have := psAll_le F (segL F (ptAll [] (sortL l)).reverse) []
    rw [List.length_reverse]
    unfold segL at this ⊢
    simp only [List.length_map, List.length_nil] at this
    omega
  generalize (psAll F [] (segL F (ptAll [] (sortL l)).reverse)).reverse = R at *
  generalize (ptAll [] (sortL l)).reverse = G at *
  clear hf hR hv HGr
  go_enter Tryd.func24, Tryd.ntmps24
  go_wp2_with fail
  refine KR.mono ?_
  rintro e w4 ⟨⟨vr, rfl, ha⟩, kB4⟩
  have HD := Hid.mk' ha
  obtain ⟨ao2, c2, rfl⟩ := own_form ha
  have kB4 := Hid.mk' kB4
  clear ha KR
  go_wp2_with fail
  go_loopw [8, 9] (fun av i wr => ∃ k : Nat, k ≤ R.length ∧ i = .int .i64 k ∧ Hid (wr.ownsRow w4.heap.size 26 3 av ((R.take k).flatMap fun s => covT F s.1 s.2).length (rowP ((R.take k).flatMap fun s => covT F s.1 s.2))) ∧ Hid (Below w4.heap.size w4 wr)) (fun _ i _ => R.length - (intOf i).toNat)
  case atStart => exact ⟨0, by omega, rfl, World.ownsRow_nil _ _ _ _, Below.refl _ _⟩
  case round =>
    obtain ⟨k, hk, rfl, HO, HB⟩ := hrel
    by_cases hlt : (k : Int) < (R.length : Int)
    · have hks : k < R.length := by omega
      have hd := HD.out
      rcases hd.2 with ⟨e, h⟩ | ⟨g, cap, cur, e, -⟩
      · omega
      · injection e with e1 e2 e3
        subst e1
        clear e2 e3
        obtain ⟨x0, x1, x2, x3, x4⟩ := rows_cells hd rfl k hks
        have KV := fun W => rcover_any F R[k].1 R[k].2 W
        rw [HWc.out.2 R[k] (List.getElem_mem hks)] at KV
        have HF := Hid.mk' (flat_takeR F R k hks)
        have hle2 := flat_leR F R (k + 1)
        rw [HF.out, List.length_append, HWc.out.1] at hle2
        have HAl : Hid (∀ W, Below w4.heap.size w4 W → W.cell? ⟨g, k * 5, none⟩ = some (.int .u64 (hI R[k].1)) ∧ W.cell? ⟨g, k * 5 + 1, none⟩ = some (.int .u64 (lI R[k].1)) ∧ W.cell? ⟨g, k * 5 + 2, none⟩ = some (.int .u64 (hI R[k].2)) ∧ W.cell? ⟨g, k * 5 + 3, none⟩ = some (.int .u64 (lI R[k].2)) ∧ Below w4.heap.size w4 W) := fun W hb => ⟨keepc hb x0, keepc hb x1, keepc hb x2, keepc hb x3, hb⟩
        clear hd x0 x1 x2 x3 x4
        revert KV HF HAl hle2
        generalize covT F R[k].1 R[k].2 = CT
        generalize R[k].1 = px
        generalize R[k].2 = py
        intro KV HF hle2 HAl
        generalize ((R.take k).flatMap fun s => covT F s.1 s.2) = T0 at *
        have mk : IntKind.i64.wrap ((k : Int) + 1) = (k : Int) + 1 := by rw [IntKind.wrap_i64]; omega
        obtain ⟨y0, y1, y2, y3, hbl⟩ := HAl.out wr HB.out
        go_wp2_with fail
        have hbl := hbl.drew
        go_region_held3 (fun W => W.cell? ⟨g, k * 5, none⟩ = some (.int .u64 (hI px)) ∧ W.cell? ⟨g, k * 5 + 1, none⟩ = some (.int .u64 (lI px)) ∧ W.cell? ⟨g, k * 5 + 2, none⟩ = some (.int .u64 (hI py)) ∧ W.cell? ⟨g, k * 5 + 3, none⟩ = some (.int .u64 (lI py)) ∧ Below w4.heap.size w4 W)
          (first
            | exact HAl.out _ hbl
            | (obtain ⟨-, -, -, -, k9⟩ := ‹_ ∧ _ ∧ _ ∧ _ ∧ Below _ _ _›; exact HAl.out _ k9)
            | (obtain ⟨-, -, -, -, k9⟩ := ‹_ ∧ _ ∧ _ ∧ _ ∧ Below _ _ _›; exact HAl.out _ (keepb hb0 k9)))
          (first | (go_at_call 61; refine (KV _).mono ?_; rintro e w0 ⟨⟨cv, rfl, hrow⟩, hb0⟩))
        obtain ⟨-, -, -, -, k9⟩ := ‹_ ∧ _ ∧ _ ∧ _ ∧ Below w4.heap.size w4 w0›
        have HO0 : Hid (w0.ownsRow w4.heap.size 26 3 u8 T0.length (rowP T0)) := own_below hb0 HO.out.drew
        have HV0 : Hid (Row w0 3 cv CT.length (rowP CT)) := own_row hrow
        have k9 := Hid.mk' k9
        clear hrow hb0 hbl y0 y1 y2 y3 KV HAl HO HB
        go_wp2_with (at_builtin; apply stopHereC)
        refine (show wpList _ _ _ _ _ _ from ?_)
        refine wpList_append_row rfl _ _ 29 rfl w4.heap.size 26 i0 (.agg #[.int .u64 0, .int .u64 0, .int .i64 0]) 3 24 Tryd.underlying29 hi hz0 hz1 hz2 rfl (by decide) u8 T0.length (rowP T0) rfl HO0.out cv CT.length (rowP CT) rfl HV0.out (rowP_cell _) (by unfold maxLen; omega) (by omega) k9.out.size ?_
        intro ao5 c5 w5 hr5 hgrow
        have HO5 : Hid (w5.ownsRow w4.heap.size 26 3 (.slice ao5 (T0.length + CT.length) c5) ((R.take (k + 1)).flatMap fun s => covT F s.1 s.2).length (rowP ((R.take (k + 1)).flatMap fun s => covT F s.1 s.2))) := by
          show World.ownsRow _ _ _ _ _ _ _
          rw [HF.out, List.length_append, rowP_app]
          exact hr5
        have HB5 : Hid (Below w4.heap.size w4 w5) := k9.out.grown hgrow k9.out.size (fun z hz => (HO0.out.lt z hz).1)
        clear hr5 hgrow HO0 HV0 k9
        go_wp2
        go_roundw
        case rel => exact ⟨k + 1, by omega, by go_num, HO5, HB5⟩
        case measure => simp [intOf]; omega
    · have hd1 : ¬ k < R.length := by omega
      have HE : Hid (((R.take k).flatMap fun s => covT F s.1 s.2) = G) := by
        show _ = _
        rw [List.take_of_length_le (by omega), HWc.out.1]
      rw [HE.out] at HO
      have kBr := kB4.out.trans (HB.out.mono kB4.out.size)
      have HOr := Hid.mk' (own_base HO.out kB4.out.size)
      clear HO HE HB HD
      go_wp2
      go_ret2
      exact ⟨⟨_, rfl, HOr.out⟩, kBr⟩
end Go.Proofs.YtkgfeegcdohkdaaDoor
/-
  copy of a row of any elements; what the calls of the law's Lend and Kept do.
-/
namespace Go.Proofs.YtkgfeegcdohkdaaDoor
open Go.RowKit
set_option linter.unusedSimpArgs false
set_option linter.unusedVariables false

theorem wpList_copy_any {P : Program} {w : World} {ops : Array Oper} {rest : List Oper} {o : Oper} {a : Act} {Q : Exit → Act → World → Prop} (hgd : o.guard = none) (d s : Operand) (dT sT : TypeId)
    (ho : o.op = .call { callee := .builtin .copy, args := #[d, s], argTypes := #[dT, sT] }) (elem : TypeId) (i : TypeInfo) (size : Nat) (hu : P.underlying dT = some (.slice elem)) (hi : P.info? elem = some i) (hsize : i.size = size)
    (base g n cap : Nat) (xs : List Value) (hd : a.eval d = .slice (some ⟨g, 0, none⟩) n cap) (hown : w.ownsRow base elem size (.slice (some ⟨g, 0, none⟩) n cap) n xs)
    (sp : Option Addr) (sLen sCap : Nat) (hs : a.eval s = .slice sp sLen sCap) (hle : sLen ≤ n) (cs : List Value) (hcl : cs.length = sLen * size) (h0 : sp = none → cs = []) (hsrc : ∀ ad, sp = some ad → ∀ j v, cs[j]? = some v → w.cell? (ad.add j) = some v) (h1 : ∀ v ∈ cs, v.oneCell' = true)
    (h : ∀ w', w'.ownsRow base elem size (.slice (some ⟨g, 0, none⟩) n cap) n (cs ++ xs.drop cs.length) → w.grownBy w' (some g) → wpList P ops Q rest (a.put o.dst (goInt sLen)) w') : wpList P ops Q (o :: rest) a w := by
  rcases hown.2 with ⟨h', _⟩ | ⟨g', cap', cur, h', hb, hg, hnc, hcm, hcs, htake⟩
  · cases h'
  · simp only [Value.slice.injEq, Option.some.injEq, Addr.mk.injEq, and_true, true_and] at h'
    obtain ⟨rfl, rfl⟩ := h'
    subst hsize
    have hxl : xs.length = n * i.size := hown.1
    have hfit : cs.length ≤ n * i.size := by rw [hcl]; exact Nat.mul_le_mul_right _ hle
    have hnc' : n * i.size ≤ cap * i.size := Nat.mul_le_mul_right _ hnc
    have hfc : (Builtin.firstCells i.size sLen (.slice sp sLen sCap)).run P w = .ok cs.toArray w := by
      cases sp with
      | none => rw [h0 rfl]; exact run_firstCells_none w i.size sLen sLen sCap
      | some ad => exact run_firstCells_some w i.size sLen ad sLen sCap cs hcl (hsrc ad rfl)
    have hst := run_storeCells_at P g 0 elem cs 0 cur w hg (by simp; omega) h1
    have hmin : Nat.min sLen n = sLen := Nat.min_eq_left hle
    refine wpList_plain hgd fun K hK => ?_
    unfold Oper.wp
    simp only [Nat.add_zero, List.take_zero, List.nil_append, Nat.zero_add] at hst
    simp [execOp, ho, resolve, invoke, builtin, hd, hs, Builtin.copy_, run_underlying hu, Builtin.lenOf, sizeOf, typeInfo, hi, hmin, hfc, hst, Result.andThen]
    refine hK _ _ (h _ ?_ ?_)
    · refine ⟨?_, .inr ⟨g, cap, (cs ++ cur.toList.drop cs.length).toArray, rfl, hb, setRow_heap w g cur _ elem _ hg, hnc, hcm, ?_, ?_⟩⟩
      · rw [List.length_append, List.length_drop]; omega
      · simp; omega
      · show ((cs ++ cur.toList.drop cs.length)).take (n * i.size) = _
        rw [List.take_append, List.take_of_length_le hfit, ← htake, List.drop_take]
    · exact ⟨rfl, rfl, rfl, by simp [World.setRow], fun k _ hk => setRow_other w g k _ (fun e => hk (by simp [e]))⟩
/-- The marks behind a list. -/
def mkL (n j : Nat) : List (BitVec 128 × Int) := (List.range j).map fun (q : Nat) => (0#128, -7 - ((n : Int) + (q : Int)))
theorem mkL_succ (n j : Nat) : mkL n (j + 1) = mkL n j ++ [(0#128, -7 - ((n : Int) + (j : Int)))] := by
  unfold mkL
  rw [List.range_succ, List.map_append]
  rfl
theorem mkL_len (n j : Nat) : (mkL n j).length = j := by unfold mkL; simp
theorem set3 (A rs : List Value) (n : Nat) (hn : A.length = n) (x y z : Value) (h : 3 ≤ rs.length) : (((A ++ rs).set n x).set (n + 1) y).set (n + 2) z = A ++ x :: y :: z :: rs.drop 3 := by
  subst hn
  match rs, h with
  | a :: b :: c :: rs, _ =>
    rw [List.set_append_right _ _ (Nat.le_refl _), Nat.sub_self, List.set_append_right _ _ (by omega), List.set_append_right _ _ (by omega)]
    have e1 : A.length + 1 - A.length = 1 := by omega
    have e2 : A.length + 2 - A.length = 2 := by omega
    rw [e1, e2]
    rfl
theorem drop3 (xs : List Value) (k : Nat) (x y z : Value) : (((xs.set (k * 3) x).set (k * 3 + 1) y).set (k * 3 + 2) z).drop ((k + 1) * 3) = xs.drop ((k + 1) * 3) := by
  rw [List.drop_set_of_lt (by omega), List.drop_set_of_lt (by omega), List.drop_set_of_lt (by omega)]
theorem drop_get (xs ys : List Value) (m : Nat) (h : xs.drop m = ys.drop m) (r : Nat) : xs[m + r]? = ys[m + r]? := by
  have := congrArg (fun z => z[r]?) h
  simpa [List.getElem?_drop] using this
theorem stopHereL {P : Program} {w : World} {ops : Array Oper} {rest : List Oper} {a : Act} {Q : Exit → Act → World → Prop} {o : Oper} (h : Hid (wpList P ops Q (o :: rest) a w)) : wpList P ops Q (o :: rest) a w := h.out
set_option maxRecDepth 20000 in
set_option maxHeartbeats 4000000 in
theorem lend_any (v : Value) (l : List (BitVec 128 × Int)) (w : World) (hv : Rv w v l) (hl : l.length ≤ 1000000) :
    Calls Tryd.prog 21 #[v] w fun e w' => (∃ g, e = .returned (.slice (some ⟨g, 0, none⟩) l.length (l.length + 3)) ∧ w'.ownsRow w.heap.size 26 3 (.slice (some ⟨g, 0, none⟩) (l.length + 3) (l.length + 3)) (l.length + 3) (rowP (l ++ mkL l.length 3))) ∧ Below w.heap.size w w' := by
  obtain ⟨i0, hi, hz0, hz1, hz2⟩ := info_parts Tryd.infoP
  obtain ⟨ao, c, rfl, hv⟩ := hv
  have HV : Hid (l = [] ∨ ∃ b off, ao = some ⟨b, off, none⟩ ∧ ∀ j u, (rowP l)[j]? = some u → w.cell? ⟨b, off + j, none⟩ = some u) := hv
  clear hv
  have m1 : IntKind.i64.wrap ((l.length : Int) + 3) = (l.length : Int) + 3 := by rw [IntKind.wrap_i64]; omega
  have hby : i0.bytes * (l.length + 3) ≤ 281474976710656 := by rw [hz2]; omega
  go_enter Tryd.func21, Tryd.ntmps21
  go_wp2_with (at_make; apply stopHereL)
  refine (show wpList _ _ _ _ _ _ from ?_)
  refine wpList_make_full _ rfl _ _ 29 rfl w.heap.size 26 i0 (.agg #[.int .u64 0, .int .u64 0, .int .i64 0]) 3 Tryd.underlying29 hi hz0 hz1 .i64 .i64 _ _ (l.length + 3) rfl rfl (by simp) (by simp) hby (by unfold maxLen; omega) (Nat.le_refl _) ?_
  intro w2 ho2 hgrow
  have HB2 : Hid (Below w.heap.size w w2) := (Below.refl _ _).grown hgrow (Nat.le_refl _) (fun z hz => by cases hz)
  have HO2 := Hid.mk' ho2
  clear ho2 hgrow hby
  have hcp : ∀ ad, ao = some ad → ∀ j u, (rowP l)[j]? = some u → w2.cell? (ad.add j) = some u := by
    intro ad e j u hj
    rcases HV.out with h | ⟨b, off, e', hc⟩
    · rw [h] at hj; simp [rowP] at hj
    · rw [e'] at e
      cases e
      rw [addA]
      exact keepc HB2.out (hc j u hj)
  have hcn : ao = none → rowP l = [] := by
    intro e
    rcases HV.out with h | ⟨b, off, e', hc⟩
    · rw [h]; rfl
    · rw [e'] at e; cases e
  have HCP := Hid.mk' hcp
  have HCN := Hid.mk' hcn
  clear hcp hcn HV
  have HX : Hid (∀ (xs : List Value), xs.length = (l.length + 3) * 3 → (rowP l ++ xs.drop (rowP l).length) = rowP (l ++ mkL l.length 0) ++ xs.drop (rowP l).length ∧ (xs.drop (rowP l).length).length = 9) := by
    intro xs hx
    refine ⟨by simp [mkL], ?_⟩
    rw [List.length_drop, rowP_len, hx]
    omega
  go_wp2_with (first | (refine wpList_copy_any rfl (.tmp 9) (.tmp 10) 29 29 rfl 26 i0 3 Tryd.underlying29 hi hz1 w.heap.size w.heap.size (l.length + 3) (l.length + 3) _ rfl HO2.out ao l.length c rfl (by omega) (rowP l) (rowP_len l) HCN.out HCP.out (rowP_cell l) ?_; intro w3 ho3 hgrow3; have HO3 := Hid.mk' ho3; have HB3 := Hid.mk' (HB2.out.grown hgrow3 HB2.out.size (fun z hz => by cases hz; exact Nat.le_refl _)); clear ho3 hgrow3))
  obtain ⟨q1, q2⟩ := HX.out _ HO2.out.1
  rw [q1] at HO3
  revert q2
  generalize (List.drop (rowP l).length _) = rs0 at HO3 ⊢
  intro q2
  clear q1 HX HO2 HB2 HCP HCN
  go_loopw [4] (fun i wr => ∃ j : Nat, j ≤ 3 ∧ i = .int .i64 ((l.length + j : Nat) : Int) ∧ ∃ rs : List Value, rs.length = (3 - j) * 3 ∧ Hid (wr.ownsRow w.heap.size 26 3 (.slice (some ⟨w.heap.size, 0, none⟩) (l.length + 3) (l.length + 3)) (l.length + 3) (rowP (l ++ mkL l.length j) ++ rs)) ∧ Hid (Below w.heap.size w wr)) (fun i _ => (l.length + 3) - (intOf i).toNat)
  case atStart => exact ⟨0, by omega, by simp, rs0, by omega, HO3, HB3⟩
  case round =>
    clear HO3 HB3
    obtain ⟨j, hj, rfl, rs, hrs, HO, HB⟩ := hrel
    have e1 : ((l.length + j : Nat) : Int) = (l.length : Int) + (j : Int) := by omega
    rw [e1]
    by_cases hlt : j < 3
    · have i1 : (l.length : Int) + (j : Int) < (l.length : Int) + 3 := by omega
      have i2 : (0 : Int) ≤ (l.length : Int) + (j : Int) := by omega
      have i3 : (j : Int) < 3 := by omega
      have mk : IntKind.i64.wrap ((l.length : Int) + (j : Int) + 1) = (l.length : Int) + (j : Int) + 1 := by rw [IntKind.wrap_i64]; omega
      have ms : IntKind.i64.wrap (-7 - ((l.length : Int) + (j : Int))) = -7 - ((l.length : Int) + (j : Int)) := by rw [IntKind.wrap_i64]; omega
      have ea : ((l.length : Int) + (j : Int)).toNat = l.length + j := by omega
      obtain ⟨⟨t0, z0⟩, s0⟩ := own_cell HO.out ((l.length + j) * 3) (by omega)
      obtain ⟨⟨t1, z1⟩, s1⟩ := own_cell HO.out ((l.length + j) * 3 + 1) (by omega)
      obtain ⟨⟨t2, z2⟩, s2⟩ := own_cell HO.out ((l.length + j) * 3 + 2) (by omega)
      generalize hmm : -7 - ((l.length : Int) + (j : Int)) = mm at *
      go_wp2
      go_roundw
      case rel =>
        have t1 := (((HO.out.stored ((l.length + j) * 3) (.int .u64 0)).1.stored ((l.length + j) * 3 + 1) (.int .u64 0)).1.stored ((l.length + j) * 3 + 2) (.int .i64 mm)).1
        rw [set3 _ rs ((l.length + j) * 3) (by rw [rowP_len, List.length_append, mkL_len]) _ _ _ (by omega)] at t1
        refine ⟨j + 1, by omega, by simp; omega, rs.drop 3, by rw [List.length_drop, hrs]; omega, ?_, ((HB.out.setCell (Nat.le_refl _) _).setCell (Nat.le_refl _) _).setCell (Nat.le_refl _) _⟩
        show World.ownsRow _ _ _ _ _ _ _
        rw [mkL_succ, hmm, ← List.append_assoc, rowP_one, hI_zero, lI_zero, List.append_assoc]
        exact t1
      case measure => simp [intOf]; omega
    · obtain rfl : j = 3 := by omega
      have hr0 : rs = [] := List.eq_nil_of_length_eq_zero (by omega)
      subst hr0
      rw [List.append_nil] at HO
      have i1 : ¬ (l.length : Int) + ((3 : Nat) : Int) < (l.length : Int) + 3 := by omega
      have i2 : (l.length : Int) ≤ (l.length : Int) + 3 := by omega
      have i3 : l.length ≤ l.length + 3 := by omega
      go_wp2
      go_ret
      exact ⟨⟨w.heap.size, rfl, HO.out⟩, HB.out⟩
end Go.Proofs.YtkgfeegcdohkdaaDoor
/-
  What the call of the law's Kept does.
-/
namespace Go.Proofs.YtkgfeegcdohkdaaDoor
open Go.RowKit
set_option linter.unusedSimpArgs false
set_option linter.unusedVariables false

/-- Rows that lie apart from a block stay. -/
def Stays (g : Nat) (W W' : World) : Prop := ∀ (base : Nat) (e : TypeId) (size : Nat) (v : Value) (n : Nat) (xs : List Value), W.ownsRow base e size v n xs → v.ownBlock ≠ some g → W'.ownsRow base e size v n xs
theorem Stays.set {g : Nat} {W W' : World} (h : Stays g W W') (j : Nat) (u : Value) : Stays g W (W'.setCell ⟨g, j, none⟩ u) := fun base e size v n xs ho hn => own_grown (h base e size v n xs ho hn) (grown_set W' g j u) fun z e => by cases e; exact hn
theorem Stays.drew {g : Nat} {W W' : World} (h : Stays g W W') : Stays g W W'.drew := fun base e size v n xs ho hn => (h base e size v n xs ho hn).drew
theorem Stays.drewN {g : Nat} {W W' W'' : World} (h : Stays g W W') (hb : Below W'.heap.size W' W'') : Stays g W W'' := fun base e size v n xs ho hn => own_below hb (h base e size v n xs ho hn)
theorem all_get (l : List (BitVec 128 × Int)) (k : Nat) (hk : k < l.length) (h : k < (l ++ mkL l.length 3).length) : (l ++ mkL l.length 3)[k] = l[k] := List.getElem_append_left hk
theorem all_mark (l : List (BitVec 128 × Int)) (k : Nat) (hk : l.length ≤ k) (h : k < (l ++ mkL l.length 3).length) : (l ++ mkL l.length 3)[k] = (0#128, -7 - (k : Int)) := by
  rw [List.getElem_append_right hk]
  unfold mkL
  simp
  omega
set_option maxRecDepth 20000 in
set_option maxHeartbeats 4000000 in
theorem kept_any (v : Value) (l : List (BitVec 128 × Int)) (w0 w : World) (hv : Rv w0 v l) (hB : Below w0.heap.size w0 w) (g : Nat) (hown : w.ownsRow w0.heap.size 26 3 (.slice (some ⟨g, 0, none⟩) (l.length + 3) (l.length + 3)) (l.length + 3) (rowP (l ++ mkL l.length 3))) (hl : l.length ≤ 1000000) :
    Calls Tryd.prog 23 #[.slice (some ⟨g, 0, none⟩) l.length (l.length + 3), v] w fun e w' => e = .returned (.bool true) ∧ Below w0.heap.size w0 w' ∧ Stays g w w' := by
  obtain ⟨ao, c, rfl, hv⟩ := hv
  have HV : Hid (l = [] ∨ ∃ b off, ao = some ⟨b, off, none⟩ ∧ ∀ j u, (rowP l)[j]? = some u → w0.cell? ⟨b, off + j, none⟩ = some u) := hv
  have HO := Hid.mk' hown
  have HB := Hid.mk' hB
  have hgb : w0.heap.size ≤ g := (hown.lt g (by simp [Value.ownBlock])).1
  clear hv hown hB
  have m1 : IntKind.i64.wrap ((l.length : Int) + 3) = (l.length : Int) + 3 := by rw [IntKind.wrap_i64]; omega
  have hAl : (l ++ mkL l.length 3).length = l.length + 3 := by rw [List.length_append, mkL_len]
  have ea : ((l.length : Int) + 3).toNat = l.length + 3 := by omega
  have i0 : (l.length : Int) + 3 ≤ ((l.length + 3 : Nat) : Int) := by omega
  have i0' : (0 : Int) ≤ (l.length : Int) + 3 := by omega
  go_enter Tryd.func23, Tryd.ntmps23
  go_wp2_with fail
  clear i0 i0'
  go_loopw [6, 7] (fun okv i wr => ∃ k : Nat, k ≤ l.length + 3 ∧ i = .int .i64 k ∧ okv = .bool true ∧ ∃ xs : List Value, Hid (xs.drop (k * 3) = (rowP (l ++ mkL l.length 3)).drop (k * 3)) ∧ Hid (wr.ownsRow w0.heap.size 26 3 (.slice (some ⟨g, 0, none⟩) (l.length + 3) (l.length + 3)) (l.length + 3) xs) ∧ Hid (Below w0.heap.size w0 wr) ∧ Hid (Stays g w wr)) (fun _ i _ => (l.length + 3) - (intOf i).toNat)
  case atStart => exact ⟨0, by omega, rfl, rfl, _, rfl, HO, HB, fun base e size v n xs h _ => h⟩
  case round =>
    clear HO HB
    obtain ⟨k, hk, rfl, rfl, xs, HX, HO, HB, HS⟩ := hrel
    by_cases hlt : k < l.length + 3
    · have hkA : k < (l ++ mkL l.length 3).length := by omega
      obtain ⟨a0, a1, a2⟩ := rowP_get (l ++ mkL l.length 3) k hkA
      have cc : ∀ r u, (rowP (l ++ mkL l.length 3))[k * 3 + r]? = some u → wr.cell? ⟨g, k * 3 + r, none⟩ = some u := by
        intro r u h
        rw [← drop_get xs _ (k * 3) HX.out r] at h
        have := HO.out.cells (g := g) rfl _ _ h
        rw [addA, Nat.zero_add] at this
        exact this
      have x0 := cc 0 _ (by simpa using a0)
      have x1 := cc 1 _ a1
      have x2 := cc 2 _ a2
      rw [Nat.add_zero] at x0
      obtain ⟨⟨t0, z0⟩, s0⟩ := own_cell HO.out (k * 3) (by omega)
      obtain ⟨⟨t1, z1⟩, s1⟩ := own_cell HO.out (k * 3 + 1) (by omega)
      obtain ⟨⟨t2, z2⟩, s2⟩ := own_cell HO.out (k * 3 + 2) (by omega)
      clear z0 z1 z2 t0 t1 t2 cc a0 a1 a2
      have i1 : (k : Int) < (l.length : Int) + 3 := by omega
      have mk : IntKind.i64.wrap ((k : Int) + 1) = (k : Int) + 1 := by rw [IntKind.wrap_i64]; omega
      by_cases hkl : k < l.length
      · rw [all_get l k hkl hkA] at x0 x1 x2
        have i2 : (k : Int) < (l.length : Int) := by omega
        rcases HV.out with h | ⟨b, off, rfl, hc⟩
        · rw [h] at hkl; simp at hkl
        · obtain ⟨y0, y1, y2⟩ := rw_cells hc k hkl
          have y0 := keepc HB.out y0
          have y1 := keepc HB.out y1
          have y2 := keepc HB.out y2
          have hE := fun w => eqP_run l[k].1 l[k].2 l[k].1 l[k].2 w
          simp only [beq_self_eq_true, Bool.and_self] at hE
          clear hc
          generalize l[k].1 = px at *
          generalize l[k].2 = pn at *
          go_wp2_with fail
          go_quiet (fail)
          have HOq : Hid (∀ q, (wr.drewN q).ownsRow w0.heap.size 26 3 (.slice (some ⟨g, 0, none⟩) (l.length + 3) (l.length + 3)) (l.length + 3) xs) := fun q => own_below (below_drewN (Below.refl _ _) q) HO.out
          have HBq : Hid (∀ q, Below w0.heap.size w0 (wr.drewN q)) := fun q => below_drewN HB.out q
          have HSq : Hid (∀ q, Stays g w (wr.drewN q)) := fun q => HS.out.drewN (below_drewN (Below.refl _ _) q)
          clear HO HB HS
          go_wp2
          go_roundw
          case rel =>
            refine ⟨k + 1, by omega, by go_num, rfl, _, ?_, (((((HOq.out _).stored (k * 3) (.int .u64 0)).1.stored (k * 3 + 1) (.int .u64 0)).1.stored (k * 3 + 2) (.int .i64 77)).1), (((HBq.out _).setCell hgb _).setCell hgb _).setCell hgb _, (((HSq.out _).set _ _).set _ _).set _ _⟩
            show _ = _
            rw [drop3]
            have := congrArg (fun z => z.drop 3) HX.out
            simpa [List.drop_drop, Nat.add_mul] using this
          case measure => simp [intOf]; omega
      · rw [all_mark l k (by omega) hkA] at x0 x1 x2
        rw [hI_zero] at x0
        rw [lI_zero] at x1
        have i2 : ¬ k < l.length := hkl
        have ms : IntKind.i64.wrap (-7 - (k : Int)) = -7 - (k : Int) := by rw [IntKind.wrap_i64]; omega
        have hE := fun w => eqP_run 0#128 (-7 - (k : Int)) 0#128 (-7 - (k : Int)) w
        simp only [beq_self_eq_true, Bool.and_self, hI_zero, lI_zero] at hE
        simp only at x2
        go_wp2
        go_roundw
        case rel =>
          have t1 := (((HO.out.stored (k * 3) (.int .u64 0)).1.stored (k * 3 + 1) (.int .u64 0)).1.stored (k * 3 + 2) (.int .i64 77)).1
          refine ⟨k + 1, by omega, by go_num, rfl, _, ?_, t1, ((HB.out.setCell hgb _).setCell hgb _).setCell hgb _, ((HS.out.set _ _).set _ _).set _ _⟩
          show _ = _
          rw [drop3]
          have := congrArg (fun z => z.drop 3) HX.out
          simpa [List.drop_drop, Nat.add_mul] using this
        case measure => simp [intOf]; omega
    · have hd : ¬ (k : Int) < (l.length : Int) + 3 := by omega
      go_wp2
      go_ret
      exact ⟨rfl, HB.out, HS.out⟩
end Go.Proofs.YtkgfeegcdohkdaaDoor
/-
  Whole numbers of addresses, compared with themselves.
-/
namespace Go.Proofs.YtkgfeegcdohkdaaDoor
open Go.RowKit
set_option linter.unusedSimpArgs false
set_option linter.unusedVariables false

theorem infoU : (Tryd.prog.info? 22).map (fun i => i.size) = some 1 := by kernel_rfl
theorem eqC_run (a b c : Int) (w : World) :
    (Op.equalIn 10000 56 (.agg #[.int .u64 a, .int .u64 b, .int .u64 c]) (.agg #[.int .u64 a, .int .u64 b, .int .u64 c])).run Tryd.prog w = .ok true w := by
  have hU : Tryd.prog.underlying 56 = some (.array 3 22) := by kernel_rfl
  have hE : Tryd.prog.underlying 22 = some (.int .u64) := by kernel_rfl
  obtain ⟨i, hi, hs⟩ : ∃ i, Tryd.prog.info? 22 = some i ∧ i.size = 1 := by
    have := infoU
    cases h : Tryd.prog.info? 22 with
    | none => rw [h] at this; cases this
    | some i => rw [h] at this; simp at this; exact ⟨i, rfl, this⟩
  have hq := fun (x : Int) (w : World) => run_equalIn_int (P := Tryd.prog) w 9998 22 .u64 .u64 x x hE
  simp only [Nat.reduceAdd] at hq
  rw [show (10000 : Nat) = 9999 + 1 from rfl, Op.equalIn]
  simp [run_underlying hU, run_underlying hE, sizeOf, typeInfo, hi, hs, isAgg, List.range'_succ, List.forIn_cons, hq, go_sem]
end Go.Proofs.YtkgfeegcdohkdaaDoor
/-
  What the call of turnpikeref9's Add does with numbers whose sum fits.
-/
namespace Go.Proofs.YtkgfeegcdohkdaaDoor
open Go.RowKit
set_option linter.unusedSimpArgs false
set_option linter.unusedVariables false

/-- One digit: what is told, and what is carried. -/
theorem dig (x y c : Int) (hx : 0 ≤ x) (hx2 : x < 18446744073709551616) (hy : 0 ≤ y) (hy2 : y < 18446744073709551616) (hc : c = 0 ∨ c = 1) :
    ∃ s t k : Int, IntKind.u64.wrap (x + y) = s ∧ IntKind.u64.wrap (s + c) = t ∧ (k = 0 ∨ k = 1) ∧ x + y + c = k * 18446744073709551616 + t ∧ 0 ≤ t ∧ t < 18446744073709551616 ∧ (k = 1 ↔ (s < x ∨ t < s)) := by
  refine ⟨IntKind.u64.wrap (x + y), IntKind.u64.wrap (IntKind.u64.wrap (x + y) + c), if 18446744073709551616 ≤ x + y + c then 1 else 0, rfl, rfl, ?_, ?_, ?_, ?_, ?_⟩
  · split <;> simp
  · rw [IntKind.wrap_u64, IntKind.wrap_u64]; split <;> omega
  · rw [IntKind.wrap_u64]; omega
  · rw [IntKind.wrap_u64]; omega
  · rw [IntKind.wrap_u64, IntKind.wrap_u64]
    split
    · refine ⟨fun _ => ?_, fun _ => rfl⟩
      omega
    · refine ⟨fun h => by omega, fun h => ?_⟩
      omega
theorem add3 (N M : Nat) (h : N + M < 6277101735386680763835789423207666416102355444464034512896) (k2 k1 k0 t2 t1 t0 : Int) (h2 : cost2 N + cost2 M = k2 * 18446744073709551616 + t2) (h1 : cost1 N + cost1 M + k2 = k1 * 18446744073709551616 + t1) (h0 : cost0 N + cost0 M + k1 = k0 * 18446744073709551616 + t0)
    (b2 : 0 ≤ t2) (c2 : t2 < 18446744073709551616) (b1 : 0 ≤ t1) (c1 : t1 < 18446744073709551616) (b0 : 0 ≤ t0) (c0 : t0 < 18446744073709551616) : t2 = cost2 (N + M) ∧ t1 = cost1 (N + M) ∧ t0 = cost0 (N + M) ∧ k0 = 0 := by
  unfold cost0 cost1 cost2 at *
  have e : ∀ x : Nat, x / 340282366920938463463374607431768211456 = x / 18446744073709551616 / 18446744073709551616 := fun x => by rw [Nat.div_div_eq_div_mul]
  rw [e] at *
  rw [e] at *
  omega
end Go.Proofs.YtkgfeegcdohkdaaDoor
/-
  What the call of turnpikeref9's Add does.
-/
namespace Go.Proofs.YtkgfeegcdohkdaaDoor
open Go.RowKit
set_option linter.unusedSimpArgs false
set_option linter.unusedVariables false

def E9 (w : World) (x0 x1 x2 y0 y1 y2 c0 c1 c2 : Int) (W : World) : Prop := AtC W w.heap.size x0 x1 x2 ∧ AtC W (w.heap.size + 1) y0 y1 y2 ∧ AtC W (w.heap.size + 1 + 1) 0 0 0 ∧ AtC W (w.heap.size + 1 + 1 + 1) c0 c1 c2 ∧ Below w.heap.size w W
theorem E9.drewN {w W : World} {x0 x1 x2 y0 y1 y2 c0 c1 c2 : Int} (h : E9 w x0 x1 x2 y0 y1 y2 c0 c1 c2 W) : ∀ q, E9 w x0 x1 x2 y0 y1 y2 c0 c1 c2 (W.drewN q) := fun q =>
  have hb := below_drewN (Below.refl W.heap.size W) q
  ⟨h.1.below hb, h.2.1.below hb, h.2.2.1.below hb, h.2.2.2.1.below hb, keepb hb h.2.2.2.2⟩
theorem AtC.one0 {W : World} {B : Nat} {x y z : Int} (h : AtC W B x y z) (u : Int) : AtC (W.setCell ⟨B, 0, none⟩ (.int .u64 u)) B u y z := by
  obtain ⟨a0, a1, a2, a3, a4, a5⟩ := h
  refine ⟨?_, ?_, ?_, ?_, ?_, ?_⟩ <;> simp [go_sem, *]
theorem AtC.oth0 {W : World} {B C : Nat} {x y z : Int} (h : AtC W B x y z) (hn : ¬ B = C) (u : Int) : AtC (W.setCell ⟨C, 0, none⟩ (.int .u64 u)) B x y z := by
  have hn' : ¬ C = B := fun e => hn e.symm
  obtain ⟨a0, a1, a2, a3, a4, a5⟩ := h
  refine ⟨?_, ?_, ?_, ?_, ?_, ?_⟩ <;> simp [go_sem, hn, hn', *]
theorem E9.set0 {w : World} {x0 x1 x2 y0 y1 y2 c0 c1 c2 : Int} {X : Nat → World} (h : ∀ q, E9 w x0 x1 x2 y0 y1 y2 c0 c1 c2 (X q)) (u : Int) : ∀ q, E9 w x0 x1 x2 y0 y1 y2 u c1 c2 ((X q).setCell ⟨w.heap.size + 1 + 1 + 1, 0, none⟩ (.int .u64 u)) := fun q =>
  ⟨(h q).1.oth0 (by omega) u, (h q).2.1.oth0 (by omega) u, (h q).2.2.1.oth0 (by omega) u, (h q).2.2.2.1.one0 u, (h q).2.2.2.2.setCell (by show w.heap.size ≤ w.heap.size + 1 + 1 + 1; omega) _⟩
theorem AtC.one1 {W : World} {B : Nat} {x y z : Int} (h : AtC W B x y z) (u : Int) : AtC (W.setCell ⟨B, 1, none⟩ (.int .u64 u)) B x u z := by
  obtain ⟨a0, a1, a2, a3, a4, a5⟩ := h
  refine ⟨?_, ?_, ?_, ?_, ?_, ?_⟩ <;> simp [go_sem, *]
theorem AtC.oth1 {W : World} {B C : Nat} {x y z : Int} (h : AtC W B x y z) (hn : ¬ B = C) (u : Int) : AtC (W.setCell ⟨C, 1, none⟩ (.int .u64 u)) B x y z := by
  have hn' : ¬ C = B := fun e => hn e.symm
  obtain ⟨a0, a1, a2, a3, a4, a5⟩ := h
  refine ⟨?_, ?_, ?_, ?_, ?_, ?_⟩ <;> simp [go_sem, hn, hn', *]
theorem E9.set1 {w : World} {x0 x1 x2 y0 y1 y2 c0 c1 c2 : Int} {X : Nat → World} (h : ∀ q, E9 w x0 x1 x2 y0 y1 y2 c0 c1 c2 (X q)) (u : Int) : ∀ q, E9 w x0 x1 x2 y0 y1 y2 c0 u c2 ((X q).setCell ⟨w.heap.size + 1 + 1 + 1, 1, none⟩ (.int .u64 u)) := fun q =>
  ⟨(h q).1.oth1 (by omega) u, (h q).2.1.oth1 (by omega) u, (h q).2.2.1.oth1 (by omega) u, (h q).2.2.2.1.one1 u, (h q).2.2.2.2.setCell (by show w.heap.size ≤ w.heap.size + 1 + 1 + 1; omega) _⟩
theorem AtC.one2 {W : World} {B : Nat} {x y z : Int} (h : AtC W B x y z) (u : Int) : AtC (W.setCell ⟨B, 2, none⟩ (.int .u64 u)) B x y u := by
  obtain ⟨a0, a1, a2, a3, a4, a5⟩ := h
  refine ⟨?_, ?_, ?_, ?_, ?_, ?_⟩ <;> simp [go_sem, *]
theorem AtC.oth2 {W : World} {B C : Nat} {x y z : Int} (h : AtC W B x y z) (hn : ¬ B = C) (u : Int) : AtC (W.setCell ⟨C, 2, none⟩ (.int .u64 u)) B x y z := by
  have hn' : ¬ C = B := fun e => hn e.symm
  obtain ⟨a0, a1, a2, a3, a4, a5⟩ := h
  refine ⟨?_, ?_, ?_, ?_, ?_, ?_⟩ <;> simp [go_sem, hn, hn', *]
theorem E9.set2 {w : World} {x0 x1 x2 y0 y1 y2 c0 c1 c2 : Int} {X : Nat → World} (h : ∀ q, E9 w x0 x1 x2 y0 y1 y2 c0 c1 c2 (X q)) (u : Int) : ∀ q, E9 w x0 x1 x2 y0 y1 y2 c0 c1 u ((X q).setCell ⟨w.heap.size + 1 + 1 + 1, 2, none⟩ (.int .u64 u)) := fun q =>
  ⟨(h q).1.oth2 (by omega) u, (h q).2.1.oth2 (by omega) u, (h q).2.2.1.oth2 (by omega) u, (h q).2.2.2.1.one2 u, (h q).2.2.2.2.setCell (by show w.heap.size ≤ w.heap.size + 1 + 1 + 1; omega) _⟩
set_option maxRecDepth 20000 in
set_option maxHeartbeats 8000000 in
theorem radd9_any (N M : Nat) (w : World) (h : N + M < 6277101735386680763835789423207666416102355444464034512896) :
    Calls Tryd.prog 68 #[costV N, costV M] w fun e w' => e = .returned (.tuple #[costV (N + M), .int .i64 0]) ∧ Below w.heap.size w w' := by
  have n := cost_lo N
  have m := cost_lo M
  have n0 := cost_up N (by omega)
  have m0 := cost_up M (by omega)
  obtain ⟨s2, t2, k2, d2a, d2b, d2c, d2e, b2, e2, d2k⟩ := dig (cost2 N) (cost2 M) 0 n.2.2.2.1 n.2.2.2.2 m.2.2.2.1 m.2.2.2.2 (.inl rfl)
  obtain ⟨s1, t1, k1, d1a, d1b, d1c, d1e, b1, e1, d1k⟩ := dig (cost1 N) (cost1 M) k2 n.2.1 n.2.2.1 m.2.1 m.2.2.1 d2c
  obtain ⟨s0, t0, k0, d0a, d0b, d0c, d0e, b0, e0, d0k⟩ := dig (cost0 N) (cost0 M) k1 n.1 n0 m.1 m0 d1c
  obtain ⟨r2, r1, r0, rk⟩ := add3 N M h k2 k1 k0 t2 t1 t0 (by omega) d1e d0e b2 e2 b1 e1 b0 e0
  subst rk
  have HR : Hid (costV (N + M) = .agg #[.int .u64 t0, .int .u64 t1, .int .u64 t2]) := by unfold costV; rw [← r0, ← r1, ← r2]; rfl
  clear r2 r1 r0 n m n0 m0 h d2e d1e d0e b2 e2 b1 e1 b0 e0
  rw [Int.add_zero] at d2b
  unfold costV
  generalize cost0 N = x0 at *
  generalize cost1 N = x1 at *
  generalize cost2 N = x2 at *
  generalize cost0 M = y0 at *
  generalize cost1 M = y1 at *
  generalize cost2 M = y2 at *
  have D0 : Hid (d0c = d0c) := rfl
  clear D0
  have HE0 : Hid (E9 w x0 x1 x2 y0 y1 y2 0 0 0 ((((w.alloc (.cells #[.int .u64 x0, .int .u64 x1, .int .u64 x2] 56)).alloc (.cells #[.int .u64 y0, .int .u64 y1, .int .u64 y2] 56)).alloc (.cells #[.int .u64 0, .int .u64 0, .int .u64 0] 56)).alloc (.cells #[.int .u64 0, .int .u64 0, .int .u64 0] 56))) := by
    have p1 := bl1 w (.cells #[.int .u64 x0, .int .u64 x1, .int .u64 x2] 56)
    have q1 := atc_new w w.heap.size x0 x1 x2 56 rfl
    generalize hw1 : w.alloc (.cells #[.int .u64 x0, .int .u64 x1, .int .u64 x2] 56) = w1 at *
    have z1 : w.heap.size + 1 = w1.heap.size := by rw [← hw1]; simp
    have p2 := bl1 w1 (.cells #[.int .u64 y0, .int .u64 y1, .int .u64 y2] 56)
    have q2 := atc_new w1 (w.heap.size + 1) y0 y1 y2 56 z1
    generalize hw2 : w1.alloc (.cells #[.int .u64 y0, .int .u64 y1, .int .u64 y2] 56) = w2 at *
    have z2 : w.heap.size + 1 + 1 = w2.heap.size := by rw [← hw2]; simp [z1]
    have p3 := bl1 w2 (.cells #[.int .u64 0, .int .u64 0, .int .u64 0] 56)
    have q3 := atc_new w2 (w.heap.size + 1 + 1) 0 0 0 56 z2
    generalize hw3 : w2.alloc (.cells #[.int .u64 0, .int .u64 0, .int .u64 0] 56) = w3 at *
    have z3 : w.heap.size + 1 + 1 + 1 = w3.heap.size := by rw [← hw3]; simp [z2]
    have p4 := bl1 w3 (.cells #[.int .u64 0, .int .u64 0, .int .u64 0] 56)
    have q4 := atc_new w3 (w.heap.size + 1 + 1 + 1) 0 0 0 56 z3
    exact ⟨((q1.below p2).below p3).below p4, (q2.below p3).below p4, q3.below p4, q4, keepb p4 (keepb p3 (keepb p2 p1))⟩
  go_enter Tryd.func68, Tryd.ntmps68
  go_wp2_with fail
  go_loopw [7, 8] (fun cv i wr => (i = .int .i64 (2) ∧ cv = .int .u64 0 ∧ Hid (E9 w x0 x1 x2 y0 y1 y2 0 0 0 wr)) ∨ (i = .int .i64 (1) ∧ cv = .int .u64 k2 ∧ Hid (E9 w x0 x1 x2 y0 y1 y2 0 0 t2 wr)) ∨ (i = .int .i64 (0) ∧ cv = .int .u64 k1 ∧ Hid (E9 w x0 x1 x2 y0 y1 y2 0 t1 t2 wr)) ∨ (i = .int .i64 (-1) ∧ cv = .int .u64 0 ∧ Hid (E9 w x0 x1 x2 y0 y1 y2 t0 t1 t2 wr))) (fun _ i _ => (intOf i + 1).toNat)
  case atStart => exact .inl ⟨rfl, rfl, HE0⟩
  case round =>
    clear HE0
    rcases hrel with ⟨rfl, rfl, HE⟩ | ⟨rfl, rfl, HE⟩ | ⟨rfl, rfl, HE⟩ | ⟨rfl, rfl, HE⟩
    · obtain ⟨⟨a0, a1, a2, -, -, -⟩, ⟨b0, b1, b2, -, -, -⟩, -, ⟨c0, c1, c2, c3, c4, c5⟩, -⟩ := HE.out
      have HE' := Hid.mk' (E9.set2 (X := fun q => wr.drewN q) HE.out.drewN t2)
      have hA := d2a
      have hB := d2b
      by_cases o1 : s2 < x2
      · have hk : k2 = 1 := d2k.mpr (.inl o1)
        go_wp2_with fail
        go_quiet (fail)
        go_wp2
        go_roundw
        case rel => exact .inr (.inl ⟨by simp, by rw [hk], HE'.out _⟩)
        case measure => simp [intOf]
      · by_cases o2 : t2 < s2
        · have hk : k2 = 1 := d2k.mpr (.inr o2)
          go_wp2_with fail
          go_quiet (fail)
          go_wp2
          go_roundw
          case rel => exact .inr (.inl ⟨by simp, by rw [hk], HE'.out _⟩)
          case measure => simp [intOf]
        · have hk : k2 = 0 := by rcases d2c with h | h; exact h; exact absurd (d2k.mp h) (by simp [o1, o2])
          go_wp2_with fail
          go_quiet (fail)
          go_wp2
          go_roundw
          case rel => exact .inr (.inl ⟨by simp, by rw [hk], HE'.out _⟩)
          case measure => simp [intOf]
    · obtain ⟨⟨a0, a1, a2, -, -, -⟩, ⟨b0, b1, b2, -, -, -⟩, -, ⟨c0, c1, c2, c3, c4, c5⟩, -⟩ := HE.out
      have HE' := Hid.mk' (E9.set1 (X := fun q => wr.drewN q) HE.out.drewN t1)
      have hA := d1a
      have hB := d1b
      by_cases o1 : s1 < x1
      · have hk : k1 = 1 := d1k.mpr (.inl o1)
        go_wp2_with fail
        go_quiet (fail)
        go_wp2
        go_roundw
        case rel => exact .inr (.inr (.inl ⟨by simp, by rw [hk], HE'.out _⟩))
        case measure => simp [intOf]
      · by_cases o2 : t1 < s1
        · have hk : k1 = 1 := d1k.mpr (.inr o2)
          go_wp2_with fail
          go_quiet (fail)
          go_wp2
          go_roundw
          case rel => exact .inr (.inr (.inl ⟨by simp, by rw [hk], HE'.out _⟩))
          case measure => simp [intOf]
        · have hk : k1 = 0 := by rcases d1c with h | h; exact h; exact absurd (d1k.mp h) (by simp [o1, o2])
          go_wp2_with fail
          go_quiet (fail)
          go_wp2
          go_roundw
          case rel => exact .inr (.inr (.inl ⟨by simp, by rw [hk], HE'.out _⟩))
          case measure => simp [intOf]
    · obtain ⟨⟨a0, a1, a2, -, -, -⟩, ⟨b0, b1, b2, -, -, -⟩, -, ⟨c0, c1, c2, c3, c4, c5⟩, -⟩ := HE.out
      have HE' := Hid.mk' (E9.set0 (X := fun q => wr.drewN q) HE.out.drewN t0)
      have hA := d0a
      have hB := d0b
      by_cases o1 : s0 < x0
      · exact absurd (d0k.mpr (.inl o1)) (by simp)
      · by_cases o2 : t0 < s0
        · exact absurd (d0k.mpr (.inr o2)) (by simp)
        · go_wp2_with fail
          go_quiet (fail)
          go_wp2
          go_roundw
          case rel => exact .inr (.inr (.inr (⟨by simp, by simp, HE'.out _⟩)))
          case measure => simp [intOf]
    · obtain ⟨-, -, ⟨r0, r1, r2, r3, r4, r5⟩, ⟨c0, c1, c2, -, -, -⟩, kB⟩ := HE.out
      obtain ⟨v0, v1, v2, -, -, -⟩ := HE.out.2.2.1.set t0 t1 t2
      have kE := bset3 kB (show w.heap.size ≤ w.heap.size + 1 + 1 by omega) (.int .u64 t0) (.int .u64 t1) (.int .u64 t2)
      have Hk := Hid.mk' kE
      have Hv := Hid.mk' (And.intro v0 (And.intro v1 v2))
      clear kE v0 v1 v2 kB HE
      go_wp2
      obtain ⟨v0, v1, v2⟩ := Hv.out
      exact bodyPost_ret (v := .tuple #[.agg #[.int .u64 t0, .int .u64 t1, .int .u64 t2], .int .i64 0]) (by simp [results, Tryd.results68, go_sem, v0, v1, v2]) rfl ⟨by have := HR.out; unfold costV at this; rw [this], Hk.out⟩
end Go.Proofs.YtkgfeegcdohkdaaDoor
