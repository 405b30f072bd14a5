/-
  Part 23 of the proof: 6 texts, one behind the other.
-/
import Derived.Test.YtkgfeegcdohkdaaDoorPart22
import Derived.Test.YtkgfeegcdohkdaaDoorPart18
import Derived.Laws.CopyRow
import Derived.Test.YtkgfeegcdohkdaaDoorRows
import Derived.ProofKit
import Derived.Lib.SmallJoins
import Derived.Test.YtkgfeegcdohkdaaDoorPart16
import Derived.Deep.Slices
import Derived.Carry
/-
  What the call of turnpikeref4's Merge does.
-/
namespace Go.Proofs.YtkgfeegcdohkdaaDoor
open Go.RowKit
set_option linter.unusedSimpArgs false
set_option linter.unusedVariables false

theorem flat_takeR (F : Int) (R : List (BitVec 128 × BitVec 128)) (k : Nat) (hk : k < R.length) : ((R.take (k + 1)).flatMap fun s => covT F s.1 s.2) = ((R.take k).flatMap fun s => covT F s.1 s.2) ++ covT F R[k].1 R[k].2 := by
  rw [List.take_succ_eq_append_getElem hk, List.flatMap_append]
  simp
theorem flat_leR (F : Int) (R : List (BitVec 128 × BitVec 128)) (k : Nat) : ((R.take k).flatMap fun s => covT F s.1 s.2).length ≤ (R.flatMap fun s => covT F s.1 s.2).length := by
  conv => rhs; rw [← List.take_append_drop k R, List.flatMap_append, List.length_append]
  omega
theorem chk_fam {F : Int} {l : List (BitVec 128 × Int)} (h : chkE F l = 0) : fam F = true ∧ ∀ p ∈ l, Rp F p := by
  obtain ⟨a, b⟩ := chk_bd h
  refine ⟨a, fun p hp => ?_⟩
  have := b p hp
  unfold checkE at this
  rw [if_pos a] at this
  split at this
  · cases this
  · split at this
    · cases this
    · split at this
      · rename_i c1 c2 c3
        exact ⟨by omega, by omega, by simpa using c3⟩
      · cases this
set_option maxHeartbeats 2000000 in
theorem rmerge_err (F : Int) (v : Value) (l : List (BitVec 128 × Int)) (w : World) (hv : Rv w v l) (hl : l.length ≤ 1000000000) (hf : ¬ chkE F l = 0) :
    Calls Tryd.prog 24 #[.int .i64 F, v] w fun e w' => e = .returned (.tuple #[.slice none 0 0, .int .i64 (chkE F l)]) ∧ Below w.heap.size w w' := by
  have KC := rrows_err F v l w hv hl hf
  revert KC hf
  generalize chkE F l = ce
  intro hf KC
  have hn : (ce != 0) = true := by simp [hf]
  clear hv
  go_enter Tryd.func24, Tryd.ntmps24
  go_wp2_with fail
  refine KC.mono ?_
  rintro e w1 ⟨rfl, hb⟩
  clear KC
  go_wp2
  go_ret2
  exact ⟨rfl, hb⟩
set_option maxRecDepth 20000 in
set_option maxHeartbeats 8000000 in
theorem rmerge_any (F : Int) (v : Value) (l : List (BitVec 128 × Int)) (w : World) (hv : Rv w v l) (hl : l.length ≤ 1000000000) (hf : chkE F l = 0) :
    Calls Tryd.prog 24 #[.int .i64 F, v] w fun e w' => (∃ v', e = .returned (.tuple #[v', .int .i64 0]) ∧ w'.ownsRow w.heap.size 26 3 v' (ptAll [] (sortL l)).reverse.length (rowP (ptAll [] (sortL l)).reverse)) ∧ Below w.heap.size w w' := by
  obtain ⟨i0, hi, hz0, hz1, hz2⟩ := info_parts Tryd.infoP
  obtain ⟨ff, hR⟩ := chk_fam hf
  have hF := fam_le ff
  have KR := rrows_any F v l w hv hl hf
  have eL : (rrAll F [] (segL F (sortL l))).length = (rrAll F [] (segL F (sortL l))).reverse.length := by rw [List.length_reverse]
  rw [eL, rows_same ff l hR] at KR
  clear eL
  have HGr : Hid (∀ p ∈ (ptAll [] (sortL l)).reverse, Rp F p) := fun p hp => ptAll_rp hF (sortL l) [] (fun a ha => by cases ha) (fun a ha => hR a (sortL_mem.mp ha)) p (by simpa using hp)
  have HWc := Hid.mk' (whole_covers ff _ (merge_ns l) HGr.out)
  have hG : (ptAll [] (sortL l)).reverse.length ≤ l.length := by
    have := ptAll_le (sortL l) []
    rw [sortL_len] at this
    rw [List.length_reverse]
    simp at this
    omega
  have hRl : (psAll F [] (segL F (ptAll [] (sortL l)).reverse)).reverse.length ≤ l.length := by
    have := psAll_le F (segL F (ptAll [] (sortL l)).reverse) []
    rw [List.length_reverse]
    unfold segL at this ⊢
    simp only [List.length_map, List.length_nil] at this
    omega
  generalize (psAll F [] (segL F (ptAll [] (sortL l)).reverse)).reverse = R at *
  generalize (ptAll [] (sortL l)).reverse = G at *
  clear hf hR hv HGr
  go_enter Tryd.func24, Tryd.ntmps24
  go_wp2_with fail
  refine KR.mono ?_
  rintro e w4 ⟨⟨vr, rfl, ha⟩, kB4⟩
  have HD := Hid.mk' ha
  obtain ⟨ao2, c2, rfl⟩ := own_form ha
  have kB4 := Hid.mk' kB4
  clear ha KR
  go_wp2_with fail
  go_loopw [8, 9] (fun av i wr => ∃ k : Nat, k ≤ R.length ∧ i = .int .i64 k ∧ Hid (wr.ownsRow w4.heap.size 26 3 av ((R.take k).flatMap fun s => covT F s.1 s.2).length (rowP ((R.take k).flatMap fun s => covT F s.1 s.2))) ∧ Hid (Below w4.heap.size w4 wr)) (fun _ i _ => R.length - (intOf i).toNat)
  case atStart => exact ⟨0, by omega, rfl, World.ownsRow_nil _ _ _ _, Below.refl _ _⟩
  case round =>
    obtain ⟨k, hk, rfl, HO, HB⟩ := hrel
    by_cases hlt : (k : Int) < (R.length : Int)
    · have hks : k < R.length := by omega
      have hd := HD.out
      rcases hd.2 with ⟨e, h⟩ | ⟨g, cap, cur, e, -⟩
      · omega
      · injection e with e1 e2 e3
        subst e1
        clear e2 e3
        obtain ⟨x0, x1, x2, x3, x4⟩ := rows_cells hd rfl k hks
        have KV := fun W => rcover_any F R[k].1 R[k].2 W
        rw [HWc.out.2 R[k] (List.getElem_mem hks)] at KV
        have HF := Hid.mk' (flat_takeR F R k hks)
        have hle2 := flat_leR F R (k + 1)
        rw [HF.out, List.length_append, HWc.out.1] at hle2
        have HAl : Hid (∀ W, Below w4.heap.size w4 W → W.cell? ⟨g, k * 5, none⟩ = some (.int .u64 (hI R[k].1)) ∧ W.cell? ⟨g, k * 5 + 1, none⟩ = some (.int .u64 (lI R[k].1)) ∧ W.cell? ⟨g, k * 5 + 2, none⟩ = some (.int .u64 (hI R[k].2)) ∧ W.cell? ⟨g, k * 5 + 3, none⟩ = some (.int .u64 (lI R[k].2)) ∧ Below w4.heap.size w4 W) := fun W hb => ⟨keepc hb x0, keepc hb x1, keepc hb x2, keepc hb x3, hb⟩
        clear hd x0 x1 x2 x3 x4
        revert KV HF HAl hle2
        generalize covT F R[k].1 R[k].2 = CT
        generalize R[k].1 = px
        generalize R[k].2 = py
        intro KV HF hle2 HAl
        generalize ((R.take k).flatMap fun s => covT F s.1 s.2) = T0 at *
        have mk : IntKind.i64.wrap ((k : Int) + 1) = (k : Int) + 1 := by rw [IntKind.wrap_i64]; omega
        obtain ⟨y0, y1, y2, y3, hbl⟩ := HAl.out wr HB.out
        go_wp2_with fail
        have hbl := hbl.drew
        go_region_held3 (fun W => W.cell? ⟨g, k * 5, none⟩ = some (.int .u64 (hI px)) ∧ W.cell? ⟨g, k * 5 + 1, none⟩ = some (.int .u64 (lI px)) ∧ W.cell? ⟨g, k * 5 + 2, none⟩ = some (.int .u64 (hI py)) ∧ W.cell? ⟨g, k * 5 + 3, none⟩ = some (.int .u64 (lI py)) ∧ Below w4.heap.size w4 W)
          (first
            | exact HAl.out _ hbl
            | (obtain ⟨-, -, -, -, k9⟩ := ‹_ ∧ _ ∧ _ ∧ _ ∧ Below _ _ _›; exact HAl.out _ k9)
            | (obtain ⟨-, -, -, -, k9⟩ := ‹_ ∧ _ ∧ _ ∧ _ ∧ Below _ _ _›; exact HAl.out _ (keepb hb0 k9)))
          (first | (go_at_call 61; refine (KV _).mono ?_; rintro e w0 ⟨⟨cv, rfl, hrow⟩, hb0⟩))
        obtain ⟨-, -, -, -, k9⟩ := ‹_ ∧ _ ∧ _ ∧ _ ∧ Below w4.heap.size w4 w0›
        have HO0 : Hid (w0.ownsRow w4.heap.size 26 3 u8 T0.length (rowP T0)) := own_below hb0 HO.out.drew
        have HV0 : Hid (Row w0 3 cv CT.length (rowP CT)) := own_row hrow
        have k9 := Hid.mk' k9
        clear hrow hb0 hbl y0 y1 y2 y3 KV HAl HO HB
        go_wp2_with (at_builtin; apply stopHereC)
        refine (show wpList _ _ _ _ _ _ from ?_)
        refine wpList_append_row rfl _ _ 29 rfl w4.heap.size 26 i0 (.agg #[.int .u64 0, .int .u64 0, .int .i64 0]) 3 24 Tryd.underlying29 hi hz0 hz1 hz2 rfl (by decide) u8 T0.length (rowP T0) rfl HO0.out cv CT.length (rowP CT) rfl HV0.out (rowP_cell _) (by unfold maxLen; omega) (by omega) k9.out.size ?_
        intro ao5 c5 w5 hr5 hgrow
        have HO5 : Hid (w5.ownsRow w4.heap.size 26 3 (.slice ao5 (T0.length + CT.length) c5) ((R.take (k + 1)).flatMap fun s => covT F s.1 s.2).length (rowP ((R.take (k + 1)).flatMap fun s => covT F s.1 s.2))) := by
          show World.ownsRow _ _ _ _ _ _ _
          rw [HF.out, List.length_append, rowP_app]
          exact hr5
        have HB5 : Hid (Below w4.heap.size w4 w5) := k9.out.grown hgrow k9.out.size (fun z hz => (HO0.out.lt z hz).1)
        clear hr5 hgrow HO0 HV0 k9
        go_wp2
        go_roundw
        case rel => exact ⟨k + 1, by omega, by go_num, HO5, HB5⟩
        case measure => simp [intOf]; omega
    · have hd1 : ¬ k < R.length := by omega
      have HE : Hid (((R.take k).flatMap fun s => covT F s.1 s.2) = G) := by
        show _ = _
        rw [List.take_of_length_le (by omega), HWc.out.1]
      rw [HE.out] at HO
      have kBr := kB4.out.trans (HB.out.mono kB4.out.size)
      have HOr := Hid.mk' (own_base HO.out kB4.out.size)
      clear HO HE HB HD
      go_wp2
      go_ret2
      exact ⟨⟨_, rfl, HOr.out⟩, kBr⟩
end Go.Proofs.YtkgfeegcdohkdaaDoor
/-
  copy of a row of any elements; what the calls of the law's Lend and Kept do.
-/
namespace Go.Proofs.YtkgfeegcdohkdaaDoor
open Go.RowKit
set_option linter.unusedSimpArgs false
set_option linter.unusedVariables false

theorem wpList_copy_any {P : Program} {w : World} {ops : Array Oper} {rest : List Oper} {o : Oper} {a : Act} {Q : Exit → Act → World → Prop} (hgd : o.guard = none) (d s : Operand) (dT sT : TypeId)
    (ho : o.op = .call { callee := .builtin .copy, args := #[d, s], argTypes := #[dT, sT] }) (elem : TypeId) (i : TypeInfo) (size : Nat) (hu : P.underlying dT = some (.slice elem)) (hi : P.info? elem = some i) (hsize : i.size = size)
    (base g n cap : Nat) (xs : List Value) (hd : a.eval d = .slice (some ⟨g, 0, none⟩) n cap) (hown : w.ownsRow base elem size (.slice (some ⟨g, 0, none⟩) n cap) n xs)
    (sp : Option Addr) (sLen sCap : Nat) (hs : a.eval s = .slice sp sLen sCap) (hle : sLen ≤ n) (cs : List Value) (hcl : cs.length = sLen * size) (h0 : sp = none → cs = []) (hsrc : ∀ ad, sp = some ad → ∀ j v, cs[j]? = some v → w.cell? (ad.add j) = some v) (h1 : ∀ v ∈ cs, v.oneCell' = true)
    (h : ∀ w', w'.ownsRow base elem size (.slice (some ⟨g, 0, none⟩) n cap) n (cs ++ xs.drop cs.length) → w.grownBy w' (some g) → wpList P ops Q rest (a.put o.dst (goInt sLen)) w') : wpList P ops Q (o :: rest) a w := by
  rcases hown.2 with ⟨h', _⟩ | ⟨g', cap', cur, h', hb, hg, hnc, hcm, hcs, htake⟩
  · cases h'
  · simp only [Value.slice.injEq, Option.some.injEq, Addr.mk.injEq, and_true, true_and] at h'
    obtain ⟨rfl, rfl⟩ := h'
    subst hsize
    have hxl : xs.length = n * i.size := hown.1
    have hfit : cs.length ≤ n * i.size := by rw [hcl]; exact Nat.mul_le_mul_right _ hle
    have hnc' : n * i.size ≤ cap * i.size := Nat.mul_le_mul_right _ hnc
    have hfc : (Builtin.firstCells i.size sLen (.slice sp sLen sCap)).run P w = .ok cs.toArray w := by
      cases sp with
      | none => rw [h0 rfl]; exact run_firstCells_none w i.size sLen sLen sCap
      | some ad => exact run_firstCells_some w i.size sLen ad sLen sCap cs hcl (hsrc ad rfl)
    have hst := run_storeCells_at P g 0 elem cs 0 cur w hg (by simp; omega) h1
    have hmin : Nat.min sLen n = sLen := Nat.min_eq_left hle
    refine wpList_plain hgd fun K hK => ?_
    unfold Oper.wp
    simp only [Nat.add_zero, List.take_zero, List.nil_append, Nat.zero_add] at hst
    simp [execOp, ho, resolve, invoke, builtin, hd, hs, Builtin.copy_, run_underlying hu, Builtin.lenOf, sizeOf, typeInfo, hi, hmin, hfc, hst, Result.andThen]
    refine hK _ _ (h _ ?_ ?_)
    · refine ⟨?_, .inr ⟨g, cap, (cs ++ cur.toList.drop cs.length).toArray, rfl, hb, setRow_heap w g cur _ elem _ hg, hnc, hcm, ?_, ?_⟩⟩
      · rw [List.length_append, List.length_drop]; omega
      · simp; omega
      · show ((cs ++ cur.toList.drop cs.length)).take (n * i.size) = _
        rw [List.take_append, List.take_of_length_le hfit, ← htake, List.drop_take]
    · exact ⟨rfl, rfl, rfl, by simp [World.setRow], fun k _ hk => setRow_other w g k _ (fun e => hk (by simp [e]))⟩
/-- The marks behind a list. -/
def mkL (n j : Nat) : List (BitVec 128 × Int) := (List.range j).map fun (q : Nat) => (0#128, -7 - ((n : Int) + (q : Int)))
theorem mkL_succ (n j : Nat) : mkL n (j + 1) = mkL n j ++ [(0#128, -7 - ((n : Int) + (j : Int)))] := by
  unfold mkL
  rw [List.range_succ, List.map_append]
  rfl
theorem mkL_len (n j : Nat) : (mkL n j).length = j := by unfold mkL; simp
theorem set3 (A rs : List Value) (n : Nat) (hn : A.length = n) (x y z : Value) (h : 3 ≤ rs.length) : (((A ++ rs).set n x).set (n + 1) y).set (n + 2) z = A ++ x :: y :: z :: rs.drop 3 := by
  subst hn
  match rs, h with
  | a :: b :: c :: rs, _ =>
    rw [List.set_append_right _ _ (Nat.le_refl _), Nat.sub_self, List.set_append_right _ _ (by omega), List.set_append_right _ _ (by omega)]
    have e1 : A.length + 1 - A.length = 1 := by omega
    have e2 : A.length + 2 - A.length = 2 := by omega
    rw [e1, e2]
    rfl
theorem drop3 (xs : List Value) (k : Nat) (x y z : Value) : (((xs.set (k * 3) x).set (k * 3 + 1) y).set (k * 3 + 2) z).drop ((k + 1) * 3) = xs.drop ((k + 1) * 3) := by
  rw [List.drop_set_of_lt (by omega), List.drop_set_of_lt (by omega), List.drop_set_of_lt (by omega)]
theorem drop_get (xs ys : List Value) (m : Nat) (h : xs.drop m = ys.drop m) (r : Nat) : xs[m + r]? = ys[m + r]? := by
  have := congrArg (fun z => z[r]?) h
  simpa [List.getElem?_drop] using this
theorem stopHereL {P : Program} {w : World} {ops : Array Oper} {rest : List Oper} {a : Act} {Q : Exit → Act → World → Prop} {o : Oper} (h : Hid (wpList P ops Q (o :: rest) a w)) : wpList P ops Q (o :: rest) a w := h.out
set_option maxRecDepth 20000 in
set_option maxHeartbeats 4000000 in
theorem lend_any (v : Value) (l : List (BitVec 128 × Int)) (w : World) (hv : Rv w v l) (hl : l.length ≤ 1000000) :
    Calls Tryd.prog 21 #[v] w fun e w' => (∃ g, e = .returned (.slice (some ⟨g, 0, none⟩) l.length (l.length + 3)) ∧ w'.ownsRow w.heap.size 26 3 (.slice (some ⟨g, 0, none⟩) (l.length + 3) (l.length + 3)) (l.length + 3) (rowP (l ++ mkL l.length 3))) ∧ Below w.heap.size w w' := by
  obtain ⟨i0, hi, hz0, hz1, hz2⟩ := info_parts Tryd.infoP
  obtain ⟨ao, c, rfl, hv⟩ := hv
  have HV : Hid (l = [] ∨ ∃ b off, ao = some ⟨b, off, none⟩ ∧ ∀ j u, (rowP l)[j]? = some u → w.cell? ⟨b, off + j, none⟩ = some u) := hv
  clear hv
  have m1 : IntKind.i64.wrap ((l.length : Int) + 3) = (l.length : Int) + 3 := by rw [IntKind.wrap_i64]; omega
  have hby : i0.bytes * (l.length + 3) ≤ 281474976710656 := by rw [hz2]; omega
  go_enter Tryd.func21, Tryd.ntmps21
  go_wp2_with (at_make; apply stopHereL)
  refine (show wpList _ _ _ _ _ _ from ?_)
  refine wpList_make_full _ rfl _ _ 29 rfl w.heap.size 26 i0 (.agg #[.int .u64 0, .int .u64 0, .int .i64 0]) 3 Tryd.underlying29 hi hz0 hz1 .i64 .i64 _ _ (l.length + 3) rfl rfl (by simp) (by simp) hby (by unfold maxLen; omega) (Nat.le_refl _) ?_
  intro w2 ho2 hgrow
  have HB2 : Hid (Below w.heap.size w w2) := (Below.refl _ _).grown hgrow (Nat.le_refl _) (fun z hz => by cases hz)
  have HO2 := Hid.mk' ho2
  clear ho2 hgrow hby
  have hcp : ∀ ad, ao = some ad → ∀ j u, (rowP l)[j]? = some u → w2.cell? (ad.add j) = some u := by
    intro ad e j u hj
    rcases HV.out with h | ⟨b, off, e', hc⟩
    · rw [h] at hj; simp [rowP] at hj
    · rw [e'] at e
      cases e
      rw [addA]
      exact keepc HB2.out (hc j u hj)
  have hcn : ao = none → rowP l = [] := by
    intro e
    rcases HV.out with h | ⟨b, off, e', hc⟩
    · rw [h]; rfl
    · rw [e'] at e; cases e
  have HCP := Hid.mk' hcp
  have HCN := Hid.mk' hcn
  clear hcp hcn HV
  have HX : Hid (∀ (xs : List Value), xs.length = (l.length + 3) * 3 → (rowP l ++ xs.drop (rowP l).length) = rowP (l ++ mkL l.length 0) ++ xs.drop (rowP l).length ∧ (xs.drop (rowP l).length).length = 9) := by
    intro xs hx
    refine ⟨by simp [mkL], ?_⟩
    rw [List.length_drop, rowP_len, hx]
    omega
  go_wp2_with (first | (refine wpList_copy_any rfl (.tmp 9) (.tmp 10) 29 29 rfl 26 i0 3 Tryd.underlying29 hi hz1 w.heap.size w.heap.size (l.length + 3) (l.length + 3) _ rfl HO2.out ao l.length c rfl (by omega) (rowP l) (rowP_len l) HCN.out HCP.out (rowP_cell l) ?_; intro w3 ho3 hgrow3; have HO3 := Hid.mk' ho3; have HB3 := Hid.mk' (HB2.out.grown hgrow3 HB2.out.size (fun z hz => by cases hz; exact Nat.le_refl _)); clear ho3 hgrow3))
  obtain ⟨q1, q2⟩ := HX.out _ HO2.out.1
  rw [q1] at HO3
  revert q2
  generalize (List.drop (rowP l).length _) = rs0 at HO3 ⊢
  intro q2
  clear q1 HX HO2 HB2 HCP HCN
  go_loopw [4] (fun i wr => ∃ j : Nat, j ≤ 3 ∧ i = .int .i64 ((l.length + j : Nat) : Int) ∧ ∃ rs : List Value, rs.length = (3 - j) * 3 ∧ Hid (wr.ownsRow w.heap.size 26 3 (.slice (some ⟨w.heap.size, 0, none⟩) (l.length + 3) (l.length + 3)) (l.length + 3) (rowP (l ++ mkL l.length j) ++ rs)) ∧ Hid (Below w.heap.size w wr)) (fun i _ => (l.length + 3) - (intOf i).toNat)
  case atStart => exact ⟨0, by omega, by simp, rs0, by omega, HO3, HB3⟩
  case round =>
    clear HO3 HB3
    obtain ⟨j, hj, rfl, rs, hrs, HO, HB⟩ := hrel
    have e1 : ((l.length + j : Nat) : Int) = (l.length : Int) + (j : Int) := by omega
    rw [e1]
    by_cases hlt : j < 3
    · have i1 : (l.length : Int) + (j : Int) < (l.length : Int) + 3 := by omega
      have i2 : (0 : Int) ≤ (l.length : Int) + (j : Int) := by omega
      have i3 : (j : Int) < 3 := by omega
      have mk : IntKind.i64.wrap ((l.length : Int) + (j : Int) + 1) = (l.length : Int) + (j : Int) + 1 := by rw [IntKind.wrap_i64]; omega
      have ms : IntKind.i64.wrap (-7 - ((l.length : Int) + (j : Int))) = -7 - ((l.length : Int) + (j : Int)) := by rw [IntKind.wrap_i64]; omega
      have ea : ((l.length : Int) + (j : Int)).toNat = l.length + j := by omega
      obtain ⟨⟨t0, z0⟩, s0⟩ := own_cell HO.out ((l.length + j) * 3) (by omega)
      obtain ⟨⟨t1, z1⟩, s1⟩ := own_cell HO.out ((l.length + j) * 3 + 1) (by omega)
      obtain ⟨⟨t2, z2⟩, s2⟩ := own_cell HO.out ((l.length + j) * 3 + 2) (by omega)
      generalize hmm : -7 - ((l.length : Int) + (j : Int)) = mm at *
      go_wp2
      go_roundw
      case rel =>
        have t1 := (((HO.out.stored ((l.length + j) * 3) (.int .u64 0)).1.stored ((l.length + j) * 3 + 1) (.int .u64 0)).1.stored ((l.length + j) * 3 + 2) (.int .i64 mm)).1
        rw [set3 _ rs ((l.length + j) * 3) (by rw [rowP_len, List.length_append, mkL_len]) _ _ _ (by omega)] at t1
        refine ⟨j + 1, by omega, by simp; omega, rs.drop 3, by rw [List.length_drop, hrs]; omega, ?_, ((HB.out.setCell (Nat.le_refl _) _).setCell (Nat.le_refl _) _).setCell (Nat.le_refl _) _⟩
        show World.ownsRow _ _ _ _ _ _ _
        rw [mkL_succ, hmm, ← List.append_assoc, rowP_one, hI_zero, lI_zero, List.append_assoc]
        exact t1
      case measure => simp [intOf]; omega
    · obtain rfl : j = 3 := by omega
      have hr0 : rs = [] := List.eq_nil_of_length_eq_zero (by omega)
      subst hr0
      rw [List.append_nil] at HO
      have i1 : ¬ (l.length : Int) + ((3 : Nat) : Int) < (l.length : Int) + 3 := by omega
      have i2 : (l.length : Int) ≤ (l.length : Int) + 3 := by omega
      have i3 : l.length ≤ l.length + 3 := by omega
      go_wp2
      go_ret
      exact ⟨⟨w.heap.size, rfl, HO.out⟩, HB.out⟩
end Go.Proofs.YtkgfeegcdohkdaaDoor
/-
  What the call of the law's Kept does.
-/
namespace Go.Proofs.YtkgfeegcdohkdaaDoor
open Go.RowKit
set_option linter.unusedSimpArgs false
set_option linter.unusedVariables false

/-- Rows that lie apart from a block stay. -/
def Stays (g : Nat) (W W' : World) : Prop := ∀ (base : Nat) (e : TypeId) (size : Nat) (v : Value) (n : Nat) (xs : List Value), W.ownsRow base e size v n xs → v.ownBlock ≠ some g → W'.ownsRow base e size v n xs
theorem Stays.set {g : Nat} {W W' : World} (h : Stays g W W') (j : Nat) (u : Value) : Stays g W (W'.setCell ⟨g, j, none⟩ u) := fun base e size v n xs ho hn => own_grown (h base e size v n xs ho hn) (grown_set W' g j u) fun z e => by cases e; exact hn
theorem Stays.drew {g : Nat} {W W' : World} (h : Stays g W W') : Stays g W W'.drew := fun base e size v n xs ho hn => (h base e size v n xs ho hn).drew
theorem Stays.drewN {g : Nat} {W W' W'' : World} (h : Stays g W W') (hb : Below W'.heap.size W' W'') : Stays g W W'' := fun base e size v n xs ho hn => own_below hb (h base e size v n xs ho hn)
theorem all_get (l : List (BitVec 128 × Int)) (k : Nat) (hk : k < l.length) (h : k < (l ++ mkL l.length 3).length) : (l ++ mkL l.length 3)[k] = l[k] := List.getElem_append_left hk
theorem all_mark (l : List (BitVec 128 × Int)) (k : Nat) (hk : l.length ≤ k) (h : k < (l ++ mkL l.length 3).length) : (l ++ mkL l.length 3)[k] = (0#128, -7 - (k : Int)) := by
  rw [List.getElem_append_right hk]
  unfold mkL
  simp
  omega
set_option maxRecDepth 20000 in
set_option maxHeartbeats 4000000 in
theorem kept_any (v : Value) (l : List (BitVec 128 × Int)) (w0 w : World) (hv : Rv w0 v l) (hB : Below w0.heap.size w0 w) (g : Nat) (hown : w.ownsRow w0.heap.size 26 3 (.slice (some ⟨g, 0, none⟩) (l.length + 3) (l.length + 3)) (l.length + 3) (rowP (l ++ mkL l.length 3))) (hl : l.length ≤ 1000000) :
    Calls Tryd.prog 23 #[.slice (some ⟨g, 0, none⟩) l.length (l.length + 3), v] w fun e w' => e = .returned (.bool true) ∧ Below w0.heap.size w0 w' ∧ Stays g w w' := by
  obtain ⟨ao, c, rfl, hv⟩ := hv
  have HV : Hid (l = [] ∨ ∃ b off, ao = some ⟨b, off, none⟩ ∧ ∀ j u, (rowP l)[j]? = some u → w0.cell? ⟨b, off + j, none⟩ = some u) := hv
  have HO := Hid.mk' hown
  have HB := Hid.mk' hB
  have hgb : w0.heap.size ≤ g := (hown.lt g (by simp [Value.ownBlock])).1
  clear hv hown hB
  have m1 : IntKind.i64.wrap ((l.length : Int) + 3) = (l.length : Int) + 3 := by rw [IntKind.wrap_i64]; omega
  have hAl : (l ++ mkL l.length 3).length = l.length + 3 := by rw [List.length_append, mkL_len]
  have ea : ((l.length : Int) + 3).toNat = l.length + 3 := by omega
  have i0 : (l.length : Int) + 3 ≤ ((l.length + 3 : Nat) : Int) := by omega
  have i0' : (0 : Int) ≤ (l.length : Int) + 3 := by omega
  go_enter Tryd.func23, Tryd.ntmps23
  go_wp2_with fail
  clear i0 i0'
  go_loopw [6, 7] (fun okv i wr => ∃ k : Nat, k ≤ l.length + 3 ∧ i = .int .i64 k ∧ okv = .bool true ∧ ∃ xs : List Value, Hid (xs.drop (k * 3) = (rowP (l ++ mkL l.length 3)).drop (k * 3)) ∧ Hid (wr.ownsRow w0.heap.size 26 3 (.slice (some ⟨g, 0, none⟩) (l.length + 3) (l.length + 3)) (l.length + 3) xs) ∧ Hid (Below w0.heap.size w0 wr) ∧ Hid (Stays g w wr)) (fun _ i _ => (l.length + 3) - (intOf i).toNat)
  case atStart => exact ⟨0, by omega, rfl, rfl, _, rfl, HO, HB, fun base e size v n xs h _ => h⟩
  case round =>
    clear HO HB
    obtain ⟨k, hk, rfl, rfl, xs, HX, HO, HB, HS⟩ := hrel
    by_cases hlt : k < l.length + 3
    · have hkA : k < (l ++ mkL l.length 3).length := by omega
      obtain ⟨a0, a1, a2⟩ := rowP_get (l ++ mkL l.length 3) k hkA
      have cc : ∀ r u, (rowP (l ++ mkL l.length 3))[k * 3 + r]? = some u → wr.cell? ⟨g, k * 3 + r, none⟩ = some u := by
        intro r u h
        rw [← drop_get xs _ (k * 3) HX.out r] at h
        have := HO.out.cells (g := g) rfl _ _ h
        rw [addA, Nat.zero_add] at this
        exact this
      have x0 := cc 0 _ (by simpa using a0)
      have x1 := cc 1 _ a1
      have x2 := cc 2 _ a2
      rw [Nat.add_zero] at x0
      obtain ⟨⟨t0, z0⟩, s0⟩ := own_cell HO.out (k * 3) (by omega)
      obtain ⟨⟨t1, z1⟩, s1⟩ := own_cell HO.out (k * 3 + 1) (by omega)
      obtain ⟨⟨t2, z2⟩, s2⟩ := own_cell HO.out (k * 3 + 2) (by omega)
      clear z0 z1 z2 t0 t1 t2 cc a0 a1 a2
      have i1 : (k : Int) < (l.length : Int) + 3 := by omega
      have mk : IntKind.i64.wrap ((k : Int) + 1) = (k : Int) + 1 := by rw [IntKind.wrap_i64]; omega
      by_cases hkl : k < l.length
      · rw [all_get l k hkl hkA] at x0 x1 x2
        have i2 : (k : Int) < (l.length : Int) := by omega
        rcases HV.out with h | ⟨b, off, rfl, hc⟩
        · rw [h] at hkl; simp at hkl
        · obtain ⟨y0, y1, y2⟩ := rw_cells hc k hkl
          have y0 := keepc HB.out y0
          have y1 := keepc HB.out y1
          have y2 := keepc HB.out y2
          have hE := fun w => eqP_run l[k].1 l[k].2 l[k].1 l[k].2 w
          simp only [beq_self_eq_true, Bool.and_self] at hE
          clear hc
          generalize l[k].1 = px at *
          generalize l[k].2 = pn at *
          go_wp2_with fail
          go_quiet (fail)
          have HOq : Hid (∀ q, (wr.drewN q).ownsRow w0.heap.size 26 3 (.slice (some ⟨g, 0, none⟩) (l.length + 3) (l.length + 3)) (l.length + 3) xs) := fun q => own_below (below_drewN (Below.refl _ _) q) HO.out
          have HBq : Hid (∀ q, Below w0.heap.size w0 (wr.drewN q)) := fun q => below_drewN HB.out q
          have HSq : Hid (∀ q, Stays g w (wr.drewN q)) := fun q => HS.out.drewN (below_drewN (Below.refl _ _) q)
          clear HO HB HS
          go_wp2
          go_roundw
          case rel =>
            refine ⟨k + 1, by omega, by go_num, rfl, _, ?_, (((((HOq.out _).stored (k * 3) (.int .u64 0)).1.stored (k * 3 + 1) (.int .u64 0)).1.stored (k * 3 + 2) (.int .i64 77)).1), (((HBq.out _).setCell hgb _).setCell hgb _).setCell hgb _, (((HSq.out _).set _ _).set _ _).set _ _⟩
            show _ = _
            rw [drop3]
            have := congrArg (fun z => z.drop 3) HX.out
            simpa [List.drop_drop, Nat.add_mul] using this
          case measure => simp [intOf]; omega
      · rw [all_mark l k (by omega) hkA] at x0 x1 x2
        rw [hI_zero] at x0
        rw [lI_zero] at x1
        have i2 : ¬ k < l.length := hkl
        have ms : IntKind.i64.wrap (-7 - (k : Int)) = -7 - (k : Int) := by rw [IntKind.wrap_i64]; omega
        have hE := fun w => eqP_run 0#128 (-7 - (k : Int)) 0#128 (-7 - (k : Int)) w
        simp only [beq_self_eq_true, Bool.and_self, hI_zero, lI_zero] at hE
        simp only at x2
        go_wp2
        go_roundw
        case rel =>
          have t1 := (((HO.out.stored (k * 3) (.int .u64 0)).1.stored (k * 3 + 1) (.int .u64 0)).1.stored (k * 3 + 2) (.int .i64 77)).1
          refine ⟨k + 1, by omega, by go_num, rfl, _, ?_, t1, ((HB.out.setCell hgb _).setCell hgb _).setCell hgb _, ((HS.out.set _ _).set _ _).set _ _⟩
          show _ = _
          rw [drop3]
          have := congrArg (fun z => z.drop 3) HX.out
          simpa [List.drop_drop, Nat.add_mul] using this
        case measure => simp [intOf]; omega
    · have hd : ¬ (k : Int) < (l.length : Int) + 3 := by omega
      go_wp2
      go_ret
      exact ⟨rfl, HB.out, HS.out⟩
end Go.Proofs.YtkgfeegcdohkdaaDoor
/-
  The law RangeMerges.
-/
namespace Go.Proofs.YtkgfeegcdohkdaaDoor
open Go.RowKit
set_option linter.unusedSimpArgs false
set_option linter.unusedVariables false

theorem lent_rw {W : World} {base g : Nat} {l : List (BitVec 128 × Int)} (h : W.ownsRow base 26 3 (.slice (some ⟨g, 0, none⟩) (l.length + 3) (l.length + 3)) (l.length + 3) (rowP (l ++ mkL l.length 3))) : Rw W (.slice (some ⟨g, 0, none⟩) l.length (l.length + 3)) l := by
  refine ⟨some ⟨g, 0, none⟩, l.length + 3, rfl, .inr ⟨g, 0, rfl, ?_⟩⟩
  intro j u hj
  have hl : j < (rowP l).length := (List.getElem?_eq_some_iff.1 hj).1
  have := h.cells (g := g) rfl j u (by rw [rowP_app, List.getElem?_append_left hl]; exact hj)
  rw [addA, Nat.zero_add] at this
  rw [Nat.zero_add]
  exact this
/-- What Merge answers: a list, or an error. -/
def mgL (F : Int) (l : List (BitVec 128 × Int)) : List (BitVec 128 × Int) := if chkE F l = 0 then (ptAll [] (sortL l)).reverse else []
theorem merge_all (F : Int) (v : Value) (l : List (BitVec 128 × Int)) (w : World) (hv : Rw w v l) (hl : l.length ≤ 1000000000) :
    Calls Tryd.prog 22 #[.int .i64 F, v] w fun e w' => (∃ v', e = .returned (.tuple #[v', .int .i64 (chkE F l)]) ∧ w'.ownsRow w.heap.size 26 3 v' (mgL F l).length (rowP (mgL F l))) ∧ Below w.heap.size w w' := by
  unfold mgL
  by_cases h : chkE F l = 0
  · rw [if_pos h, h]
    refine (merge_any F v l w hv hl h).mono ?_
    rintro e w' ⟨⟨v', rfl, h⟩, hb⟩
    exact ⟨⟨v', rfl, by rw [List.length_reverse]; exact h⟩, hb⟩
  · rw [if_neg h]
    refine (merge_err F v l w hv hl h).mono ?_
    rintro e w' ⟨rfl, hb⟩
    exact ⟨⟨_, rfl, World.ownsRow_nil _ _ _ _⟩, hb⟩
theorem rmerge_all (F : Int) (v : Value) (l : List (BitVec 128 × Int)) (w : World) (hv : Rv w v l) (hl : l.length ≤ 1000000000) :
    Calls Tryd.prog 24 #[.int .i64 F, v] w fun e w' => (∃ v', e = .returned (.tuple #[v', .int .i64 (chkE F l)]) ∧ w'.ownsRow w.heap.size 26 3 v' (mgL F l).length (rowP (mgL F l))) ∧ Below w.heap.size w w' := by
  unfold mgL
  by_cases h : chkE F l = 0
  · rw [if_pos h, h]
    exact rmerge_any F v l w hv hl h
  · rw [if_neg h]
    refine (rmerge_err F v l w hv hl h).mono ?_
    rintro e w' ⟨rfl, hb⟩
    exact ⟨⟨_, rfl, World.ownsRow_nil _ _ _ _⟩, hb⟩
theorem mgL_le (F : Int) (l : List (BitVec 128 × Int)) : (mgL F l).length ≤ l.length := by
  unfold mgL
  split
  · have := ptAll_le (sortL l) []
    rw [sortL_len] at this
    rw [List.length_reverse]
    simp at this
    omega
  · simp
theorem rangeMerges_many (F : Int) (v : Value) (l : List (BitVec 128 × Int)) (w : World) (hT : Tab w) (hv : Rv w v l) (hl : 2000 < l.length) :
    Calls Tryd.prog 5 #[.int .i64 F, v] w fun e w' => e = .returned (.bool true) ∧ Below w.heap.size w w' := by
  have KN := known4_any w hT
  obtain ⟨ao, c, rfl, -⟩ := hv
  have h1 : (2000 : Int) < (l.length : Int) := by omega
  go_enter Tryd.func5, Tryd.ntmps5
  go_wp2_with fail
  refine KN.mono ?_
  rintro e w1 ⟨rfl, kB⟩
  clear KN
  go_wp2
  go_ret
  exact ⟨rfl, kB⟩
set_option maxRecDepth 20000 in
set_option maxHeartbeats 4000000 in
theorem rangeMerges_any (F : Int) (v : Value) (l : List (BitVec 128 × Int)) (w : World) (hT : Tab w) (hv : Rv w v l) :
    Calls Tryd.prog 5 #[.int .i64 F, v] w fun e w' => e = .returned (.bool true) ∧ Below w.heap.size w w' := by
  by_cases hl : 2000 < l.length
  · exact rangeMerges_many F v l w hT hv hl
  · have KN := known4_any w hT
    have HV := Hid.mk' hv
    have KL := fun w hv => lend_any v l w hv (by omega)
    have KM := fun v w hv => merge_all F v l w hv (by omega)
    have KG := fun w hv => rmerge_all F v l w hv (by omega)
    have hml := mgL_le F l
    obtain ⟨ao, c, rfl, -⟩ := hv
    have h1 : ¬ (2000 : Int) < (l.length : Int) := by omega
    generalize mgL F l = M at *
    generalize chkE F l = ce at *
    go_enter Tryd.func5, Tryd.ntmps5
    go_wp2_with fail
    refine KN.mono ?_
    rintro e w1 ⟨rfl, kB⟩
    have HV1 := Hid.mk' (HV.out.below kB)
    have HB1 := Hid.mk' kB
    clear KN kB HV
    go_wp2_with fail
    refine (KL _ HV1.out).mono ?_
    rintro e w2 ⟨⟨g, rfl, ho⟩, hb⟩
    have HO2 := Hid.mk' ho
    have HB2 := Hid.mk' hb
    clear ho hb KL
    go_wp2_with fail
    refine (KM _ _ (lent_rw HO2.out)).mono ?_
    rintro e w3 ⟨⟨va, rfl, ha⟩, hb⟩
    have hne : va.ownBlock ≠ some g := fun e => by
      have a1 := (ha.lt g e).1
      have a2 := (HO2.out.lt g (by simp [Value.ownBlock])).2
      omega
    have KK := kept_any (.slice ao l.length c) l w1 w3 HV1.out (keepb hb HB2.out) g (own_below hb HO2.out) (by omega)
    have HA := Hid.mk' ha
    have HNE := Hid.mk' hne
    clear ha hb hne KM HO2 HB2
    go_wp2_with fail
    refine KK.mono ?_
    rintro e w4 ⟨rfl, hb4, hst⟩
    have HA4 := Hid.mk' (hst _ _ _ _ _ _ HA.out HNE.out)
    have HB4 := Hid.mk' hb4
    clear hst hb4 KK HA HNE
    go_wp2_with fail
    refine (KG _ (HV1.out.below HB4.out)).mono ?_
    rintro e w5 ⟨⟨vb, rfl, hbq⟩, hb⟩
    have KE := same_any va vb M w5 ⟨_, own_below hb HA4.out⟩ ⟨_, hbq⟩ (by omega)
    have kB5 := keepb (keepb hb HB4.out) HB1.out
    clear hbq hb KG HA4 HB4 HV1 HB1
    go_wp2_with fail
    refine KE.mono ?_
    rintro e w6 ⟨rfl, hb⟩
    have kB6 := keepb hb kB5
    clear hb KE kB5
    go_wp2
    go_ret
    exact ⟨rfl, kB6⟩
end Go.Proofs.YtkgfeegcdohkdaaDoor
/-
  How a prefix that is handed in reads as data.
-/
namespace Go.Proofs.YtkgfeegcdohkdaaDoor
open Go.ChangeShapes Go.WideShapes Go.ChangeAt Go.RowKit Go.Joins
set_option linter.unusedSimpArgs false
set_option linter.unusedVariables false

theorem Tryd.cellsW : Tryd.prog.cellsOf 24 = 2 := by kernel_rfl
theorem Tryd.cellsP : Tryd.prog.cellsOf 26 = 3 := by kernel_rfl
theorem Tryd.cellsI : Tryd.prog.cellsOf 3 = 1 := by kernel_rfl
theorem Tryd.cellsU : Tryd.prog.cellsOf 22 = 1 := by kernel_rfl
section
variable {H : Type} {enc : TypeId × Value → H} {w : World} {base : Nat} {spare : Nat → Bool} {held : Bool}
set_option maxRecDepth 100000 in
theorem open_pfx {r : Reach} {b0 : Nat} {v : Value} {d : DataW H} {p : List MemPlace} (hv : Value.okWide Tryd.prog w r b0 26 v) (h : DataW.Trod enc Tryd.prog w base spare held 26 v d p) :
    ∃ a b n : Int, v = .agg #[.int .u64 a, .int .u64 b, .int .i64 n] ∧ d = .agg [.agg [.lit (.int .u64 a), .lit (.int .u64 b)], .lit (.int .i64 n)] ∧ p = [] ∧ (Lit.int .u64 a).wf = true ∧ (Lit.int .u64 b).wf = true ∧ (Lit.int .i64 n).wf = true := by
  obtain ⟨cs, rfl, hsz⟩ := okWide_struct Tryd.underlying26 hv
  obtain ⟨c0, c1, c2, rfl⟩ := array3 (hsz.trans Tryd.cellsP)
  obtain ⟨fuel, hf⟩ := h
  obtain ⟨y0, y1, n, hx, _, h0, h1⟩ := trod_struct2 Tryd.underlying26 hf
  have h0' : DataW.trod enc Tryd.prog w base spare held n 24 [c0, c1] = some y0 := by simpa [Value.cells, Tryd.cellsW] using h0
  have h1' : DataW.trod enc Tryd.prog w base spare held n 3 [c2] = some y1 := by simpa [Value.cells, Tryd.cellsI] using h1
  obtain ⟨u0, u1, m, hu, _, g0, g1⟩ := trod_struct2 Tryd.underlying24 h0'
  have g0' : DataW.trod enc Tryd.prog w base spare held m 22 [c0] = some u0 := by simpa [Value.cells, Tryd.cellsU] using g0
  have g1' : DataW.trod enc Tryd.prog w base spare held m 22 [c1] = some u1 := by simpa [Value.cells, Tryd.cellsU] using g1
  obtain ⟨a, ea, rfl, wa⟩ := DataW.trod_int Tryd.underlying22 g0'
  obtain ⟨b, eb, rfl, wb⟩ := DataW.trod_int Tryd.underlying22 g1'
  obtain ⟨k, ek, rfl, wk⟩ := DataW.trod_int Tryd.underlying3 h1'
  simp at ea eb ek
  subst ea eb ek hu
  simp only [Prod.mk.injEq] at hx
  exact ⟨a, b, k, rfl, hx.1, by simpa using hx.2, wa, wb, wk⟩
set_option maxRecDepth 100000 in
theorem shut_pfx {a b n : Int} (wa : (Lit.int .u64 a).wf = true) (wb : (Lit.int .u64 b).wf = true) (wn : (Lit.int .i64 n).wf = true) :
    DataW.Trod enc Tryd.prog w base spare held 26 (.agg #[.int .u64 a, .int .u64 b, .int .i64 n]) (.agg [.agg [.lit (.int .u64 a), .lit (.int .u64 b)], .lit (.int .i64 n)]) [] := by
  have f : ∀ {z : Int}, (Lit.int .u64 z).wf = true → DataW.trod enc Tryd.prog w base spare held 1 22 [.int .u64 z] = some (.lit (.int .u64 z), []) := fun hz => by simp [DataW.trod, Tryd.underlying22, hz]
  have g : DataW.trod enc Tryd.prog w base spare held 2 3 [.int .i64 n] = some (.lit (.int .i64 n), []) := by simp [DataW.trod, Tryd.underlying3, wn]
  have s : DataW.trod enc Tryd.prog w base spare held 2 24 [.int .u64 a, .int .u64 b] = some (.agg [.lit (.int .u64 a), .lit (.int .u64 b)], []) := by
    have := trod_struct2_mk (enc := enc) (w := w) (base := base) (spare := spare) (held := held) (n := 1) (cs := [.int .u64 a, .int .u64 b]) Tryd.underlying24 (by simp [Tryd.cellsW]) (by simpa [Tryd.cellsU] using f wa) (by simpa [Tryd.cellsU] using f wb)
    simpa using this
  have := trod_struct2_mk (enc := enc) (w := w) (base := base) (spare := spare) (held := held) (n := 2) (cs := [.int .u64 a, .int .u64 b, .int .i64 n]) Tryd.underlying26 (by simp [Tryd.cellsP]) (by simpa [Tryd.cellsW] using s) (by simpa [Tryd.cellsI] using g)
  exact ⟨3, by simpa [Value.cells] using this⟩
end
end Go.Proofs.YtkgfeegcdohkdaaDoor
/-
  How a list of prefixes that is handed in reads as data.
-/
namespace Go.Proofs.YtkgfeegcdohkdaaDoor
open Go.ChangeShapes Go.WideShapes Go.ChangeAt Go.RowKit Go.Joins
set_option linter.unusedSimpArgs false
set_option linter.unusedVariables false

theorem Tryd.laidOut : laidOutB Tryd.prog = true := by kernel_rfl
theorem rowP_all {W : World} {b off : Nat} (l : List (BitVec 128 × Int)) (h : ∀ i (hi : i < l.length), W.cell? ⟨b, off + i * 3, none⟩ = some (.int .u64 (hI l[i].1)) ∧ W.cell? ⟨b, off + (i * 3 + 1), none⟩ = some (.int .u64 (lI l[i].1)) ∧ W.cell? ⟨b, off + (i * 3 + 2), none⟩ = some (.int .i64 l[i].2)) :
    ∀ j u, (rowP l)[j]? = some u → W.cell? ⟨b, off + j, none⟩ = some u := by
  intro j u hj
  have hlt : j < (rowP l).length := (List.getElem?_eq_some_iff.1 hj).1
  rw [rowP_len] at hlt
  have hi : j / 3 < l.length := by omega
  obtain ⟨a0, a1, a2⟩ := h (j / 3) hi
  obtain ⟨b0, b1, b2⟩ := rowP_get l (j / 3) hi
  have hm : j % 3 = 0 ∨ j % 3 = 1 ∨ j % 3 = 2 := by omega
  rcases hm with hm | hm | hm
  · have e : j = j / 3 * 3 := by omega
    rw [e, b0] at hj
    rw [e, ← hj]; exact a0
  · have e : j = j / 3 * 3 + 1 := by omega
    rw [e, b1] at hj
    rw [e, ← hj]; exact a1
  · have e : j = j / 3 * 3 + 2 := by omega
    rw [e, b2] at hj
    rw [e, ← hj]; exact a2
section
variable {H : Type} {enc : TypeId × Value → H} {w : World} {spare : Nat → Bool} {held : Bool}
set_option maxRecDepth 100000 in
theorem trod_pfx {n : Nat} {c0 c1 c2 : Value} {x : DataW H × List MemPlace} (h : DataW.trod enc Tryd.prog w 0 spare held n 26 [c0, c1, c2] = some x) :
    ∃ a b n : Int, c0 = .int .u64 a ∧ c1 = .int .u64 b ∧ c2 = .int .i64 n ∧ (Lit.int .u64 a).wf = true ∧ (Lit.int .u64 b).wf = true := by
  obtain ⟨y0, y1, n, hx, _, h0, h1⟩ := trod_struct2 Tryd.underlying26 h
  have h0' : DataW.trod enc Tryd.prog w 0 spare held n 24 [c0, c1] = some y0 := by simpa [Value.cells, Tryd.cellsW] using h0
  have h1' : DataW.trod enc Tryd.prog w 0 spare held n 3 [c2] = some y1 := by simpa [Value.cells, Tryd.cellsI] using h1
  obtain ⟨u0, u1, m, hu, _, g0, g1⟩ := trod_struct2 Tryd.underlying24 h0'
  have g0' : DataW.trod enc Tryd.prog w 0 spare held m 22 [c0] = some u0 := by simpa [Value.cells, Tryd.cellsU] using g0
  have g1' : DataW.trod enc Tryd.prog w 0 spare held m 22 [c1] = some u1 := by simpa [Value.cells, Tryd.cellsU] using g1
  obtain ⟨a, ea, rfl, wa⟩ := DataW.trod_int Tryd.underlying22 g0'
  obtain ⟨b, eb, rfl, wb⟩ := DataW.trod_int Tryd.underlying22 g1'
  obtain ⟨k, ek, rfl, wk⟩ := DataW.trod_int Tryd.underlying3 h1'
  simp at ea eb ek
  exact ⟨a, b, k, ea, eb, ek, wa, wb⟩
theorem spot_none {W : World} {a : Addr} {u : Value} (h : W.cell? a = some u) : a = ⟨a.block, a.off, none⟩ := by
  obtain ⟨b, o, s⟩ := a
  cases s with
  | none => rfl
  | some z =>
    unfold World.cell? at h
    split at h
    · simp at h
    · cases h
set_option maxRecDepth 100000 in
theorem open_pfxs {r : Reach} {b0 : Nat} {v : Value} {d : DataW H} {p : List MemPlace} (hv : Value.okWide Tryd.prog w r b0 29 v) (h : DataW.Trod enc Tryd.prog w 0 (fun _ => true) held 29 v d p) :
    ∃ l : List (BitVec 128 × Int), Rv w v l := by
  obtain ⟨a0, len, cap, rfl⟩ := okWide_slice Tryd.underlying29 hv
  obtain ⟨fuel, hf⟩ := h
  rcases Deep.open_slice Tryd.underlying29 hf with ⟨hcs, hx⟩ | ⟨a, len', cap', m, n, D, Pl, hcs, _, hl, hm, hmm, hx, hel⟩
  · simp [Value.cells] at hcs
    obtain ⟨rfl, rfl, rfl⟩ := hcs
    exact ⟨[], none, 0, rfl, .inl rfl⟩
  · simp [Value.cells] at hcs
    obtain ⟨rfl, rfl, rfl⟩ := hcs
    simp at hmm
    subst hmm
    rw [Tryd.cellsP] at hel
    obtain ⟨f, hf⟩ := Deep.choose_lt (α := BitVec 128 × Int) (n := len) (p := fun i x => w.cell? (a.add (i * 3)) = some (.int .u64 (hI x.1)) ∧ w.cell? ((a.add (i * 3)).add 1) = some (.int .u64 (lI x.1)) ∧ w.cell? ((a.add (i * 3)).add 2) = some (.int .i64 x.2)) (fun i hi => by
      obtain ⟨cs', h1, h2⟩ := hel i (by omega)
      obtain ⟨_, hlen, hc⟩ := World.cells?_some h1
      match cs', hlen with
      | [c0, c1, c2], _ =>
        obtain ⟨x, y, k, rfl, rfl, rfl, wx, wy⟩ := trod_pfx h2
        have bx : 0 ≤ x ∧ x < 18446744073709551616 := by simp [Lit.wf, IntKind.min, IntKind.max, IntKind.signed, IntKind.bits] at wx; omega
        have bY : 0 ≤ y ∧ y < 18446744073709551616 := by simp [Lit.wf, IntKind.min, IntKind.max, IntKind.signed, IntKind.bits] at wy; omega
        refine ⟨(mkW x y, k), ?_, ?_, ?_⟩
        · have := hc 0 (by omega)
          rw [hI_mk x y bx.1 bx.2]
          simpa [Addr.add] using this
        · rw [lI_mk x y bY.1 bY.2]
          simpa using hc 1 (by omega)
        · simpa using hc 2 (by omega))
    refine ⟨(List.range len).map f, some a, _, by simp; rfl, ?_⟩
    by_cases hz : len = 0
    · subst hz
      exact .inl (by simp)
    · have h00 := (hf 0 (by omega)).1
      have ea : a = ⟨a.block, a.off, none⟩ := by
        have : a.add (0 * 3) = a := by simp [Addr.add]
        rw [this] at h00
        exact spot_none h00
      refine .inr ⟨a.block, a.off, by rw [← ea], ?_⟩
      refine rowP_all _ ?_
      intro i hi
      have hi' : i < len := by simpa using hi
      have := hf i hi'
      rw [ea] at this
      simp only [addA] at this
      simpa [Nat.add_assoc] using this
end
end Go.Proofs.YtkgfeegcdohkdaaDoor
