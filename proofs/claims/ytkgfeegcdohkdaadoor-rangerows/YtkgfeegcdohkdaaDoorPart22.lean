/-
  Part 22 of the proof: 1 texts, one behind the other.
-/
import Derived.Test.YtkgfeegcdohkdaaDoorPart20
import Derived.Test.YtkgfeegcdohkdaaDoorPart21
import Derived.Test.YtkgfeegcdohkdaaDoorPart10
/-
  What the call of turnpikeref4's Rows does.
-/
namespace Go.Proofs.YtkgfeegcdohkdaaDoor
open Go.RowKit
set_option linter.unusedSimpArgs false
set_option linter.unusedVariables false

/-- A prefix of the row that is gone through, and the rows that are made. -/
def D9 (w2 : World) (b o : Nat) (px : BitVec 128) (pn : Int) (ov : Value) (st : List (BitVec 128 × BitVec 128)) (W : World) : Prop := (W.cell? ⟨b, o, none⟩ = some (.int .u64 (hI px)) ∧ W.cell? ⟨b, o + 1, none⟩ = some (.int .u64 (lI px)) ∧ W.cell? ⟨b, o + 2, none⟩ = some (.int .i64 pn)) ∧ W.ownsRow w2.heap.size 64 5 ov st.length (rowS st.reverse) ∧ Below w2.heap.size w2 W
theorem D9.below {w2 W W' : World} {b o : Nat} {px : BitVec 128} {pn : Int} {ov : Value} {st : List (BitVec 128 × BitVec 128)} (h : D9 w2 b o px pn ov st W) (hb : Below W.heap.size W W') : D9 w2 b o px pn ov st W' := ⟨⟨keepc hb h.1.1, keepc hb h.1.2.1, keepc hb h.1.2.2⟩, own_below hb h.2.1, keepb hb h.2.2⟩
theorem D9.drew {w2 W : World} {b o : Nat} {px : BitVec 128} {pn : Int} {ov : Value} {st : List (BitVec 128 × BitVec 128)} (h : D9 w2 b o px pn ov st W) : D9 w2 b o px pn ov st W.drew := ⟨h.1, h.2.1.drew, h.2.2.drew⟩
/-- The new segment, the last row's end, the rows. -/
def D14 (w2 : World) (N g n : Nat) (px lx an : BitVec 128) (ov : Value) (st : List (BitVec 128 × BitVec 128)) (W : World) : Prop := AtS W N px lx 1 ∧ (W.cell? ⟨g, n * 5 + 2, none⟩ = some (.int .u64 (hI an)) ∧ W.cell? ⟨g, n * 5 + 3, none⟩ = some (.int .u64 (lI an))) ∧ W.ownsRow w2.heap.size 64 5 ov st.length (rowS st.reverse) ∧ Below w2.heap.size w2 W
theorem D14.below {w2 W W' : World} {N g n : Nat} {px lx an : BitVec 128} {ov : Value} {st : List (BitVec 128 × BitVec 128)} (h : D14 w2 N g n px lx an ov st W) (hb : Below W.heap.size W W') : D14 w2 N g n px lx an ov st W' := ⟨h.1.below hb, ⟨keepc hb h.2.1.1, keepc hb h.2.1.2⟩, own_below hb h.2.2.1, keepb hb h.2.2.2⟩
theorem D14.drew {w2 W : World} {N g n : Nat} {px lx an : BitVec 128} {ov : Value} {st : List (BitVec 128 × BitVec 128)} (h : D14 w2 N g n px lx an ov st W) : D14 w2 N g n px lx an ov st W.drew := ⟨h.1, h.2.1, h.2.2.1.drew, h.2.2.2.drew⟩
theorem seg_drop (F : Int) (l : List (BitVec 128 × Int)) (k : Nat) (hk : k < l.length) : (segL F l).drop k = (l[k].1, lastW F l[k].1 l[k].2) :: (segL F l).drop (k + 1) := by
  unfold segL
  rw [← List.map_drop, ← List.map_drop, List.drop_eq_getElem_cons hk]
  rfl
theorem rowS_set (L : List (BitVec 128 × BitVec 128)) (k : Nat) (x y : BitVec 128) (hk : k < L.length) (hx : L[k].1 = x) : ((rowS L).set (k * 5 + 2) (.int .u64 (hI y))).set (k * 5 + 3) (.int .u64 (lI y)) = rowS (L.set k (x, y)) := by
  induction L generalizing k with
  | nil => simp at hk
  | cons p L ih =>
    cases k with
    | zero =>
      have e : p.1 = x := hx
      simp [rowS, e]
    | succ k =>
      have := ih k (by simpa using hk) hx
      rw [show (k + 1) * 5 + 2 = k * 5 + 2 + 1 + 1 + 1 + 1 + 1 by omega, show (k + 1) * 5 + 3 = k * 5 + 3 + 1 + 1 + 1 + 1 + 1 by omega]
      simp only [rowS, List.set_cons_succ]
      rw [this]
theorem set_last (s : List (BitVec 128 × BitVec 128)) (a q : BitVec 128 × BitVec 128) : (s.reverse ++ [a]).set s.length q = s.reverse ++ [q] := by
  rw [List.set_append_right _ _ (by simp)]
  simp
theorem stopHereC {P : Program} {w : World} {ops : Array Oper} {rest : List Oper} {a : Act} {Q : Exit → Act → World → Prop} {o : Oper} (h : Hid (wpList P ops Q (o :: rest) a w)) : wpList P ops Q (o :: rest) a w := h.out
set_option maxHeartbeats 2000000 in
theorem rrows_err (F : Int) (v : Value) (l : List (BitVec 128 × Int)) (w : World) (hv : Rv w v l) (hl : l.length ≤ 1000000000) (hf : ¬ chkE F l = 0) :
    Calls Tryd.prog 28 #[.int .i64 F, v] w fun e w' => e = .returned (.tuple #[.slice none 0 0, .int .i64 (chkE F l)]) ∧ Below w.heap.size w w' := by
  have KC := rchk_any F v l w hv hl
  revert KC hf
  generalize chkE F l = ce
  intro hf KC
  have hn : (ce != 0) = true := by simp [hf]
  clear hv
  go_enter Tryd.func28, Tryd.ntmps28
  go_wp2_with fail
  refine KC.mono ?_
  rintro e w1 ⟨rfl, hb⟩
  clear KC
  go_wp2
  go_ret2
  exact ⟨rfl, hb⟩
set_option maxRecDepth 20000 in
set_option maxHeartbeats 16000000 in
theorem rrows_any (F : Int) (v : Value) (l : List (BitVec 128 × Int)) (w : World) (hv : Rv w v l) (hl : l.length ≤ 1000000000) (hf : chkE F l = 0) :
    Calls Tryd.prog 28 #[.int .i64 F, v] w fun e w' => (∃ v', e = .returned (.tuple #[v', .int .i64 0]) ∧ w'.ownsRow w.heap.size 64 5 v' (rrAll F [] (segL F (sortL l))).length (rowS (rrAll F [] (segL F (sortL l))).reverse)) ∧ Below w.heap.size w w' := by
  obtain ⟨i0, hi, hz0, hz1, hz2⟩ := info_parts Tryd.infoS
  have KC := rchk_any F v l w hv hl
  rw [hf] at KC
  have KO := fun w hv => rsorted_any v l w hv hl
  have HR : Hid (∀ p ∈ sortL l, 0 ≤ p.2 ∧ p.2 ≤ F) := fun p hp => check_in ((chk_bd hf).2 p (sortL_mem.mp hp))
  have hSl : (sortL l).length ≤ 1000000000 := by rw [sortL_len]; exact hl
  have HV := Hid.mk' hv
  clear hv hf
  go_enter Tryd.func28, Tryd.ntmps28
  go_wp2_with fail
  refine KC.mono ?_
  rintro e w1 ⟨rfl, kB1⟩
  clear KC
  go_wp2_with fail
  refine (KO _ (HV.out.below kB1)).mono ?_
  rintro e w2 ⟨⟨vs, rfl, hrow⟩, hb⟩
  have kB2 := Hid.mk' (keepb hb kB1)
  have HSL : Hid (∃ z, z = sortL l) := ⟨_, rfl⟩
  obtain ⟨SL, hSL⟩ : ∃ SL, SL = sortL l := ⟨_, rfl⟩
  rw [← hSL] at hrow HR hSl
  have HSL := Hid.mk' hSL
  clear hSL
  obtain ⟨ao, c, rfl⟩ := own_form hrow
  have HVS := Hid.mk' hrow
  clear hb kB1 KO HV hrow
  go_wp2_with fail
  go_loopw [7, 8] (fun ov i wr => ∃ k : Nat, k ≤ SL.length ∧ i = .int .i64 k ∧ ∃ st : List (BitVec 128 × BitVec 128), Hid (rrAll F st ((segL F SL).drop k) = rrAll F [] (segL F SL)) ∧ Hid (st.length ≤ k) ∧ Hid (wr.ownsRow w2.heap.size 64 5 ov st.length (rowS st.reverse)) ∧ Hid (Below w2.heap.size w2 wr)) (fun _ i _ => SL.length - (intOf i).toNat)
  case atStart => exact ⟨0, by omega, rfl, [], rfl, Nat.le_refl _, World.ownsRow_nil _ _ _ _, Below.refl _ _⟩
  case round =>
    obtain ⟨k, hk, rfl, st, HG, HLe, HO, HB⟩ := hrel
    by_cases hlt : (k : Int) < (SL.length : Int)
    · have hks : k < SL.length := by omega
      have hro := HVS.out
      rcases hro.2 with ⟨e, h⟩ | ⟨b, cap0, cur0, e, -⟩
      · omega
      · injection e with e1 e2 e3
        subst e1
        clear e2 e3
        obtain ⟨x0, x1, x2⟩ := row_cells hro rfl k hks
        have hbd := HR.out SL[k] (List.getElem_mem hks)
        have KL := fun w => rplast_any F SL[k].1 SL[k].2 w
        rw [last_eq F SL[k].1 SL[k].2 hbd.1 hbd.2] at KL
        have HD := Hid.mk' (seg_drop F SL k hks)
        have hD9 : D9 w2 b (k * 3) SL[k].1 SL[k].2 u7 st wr := ⟨⟨keepc HB.out x0, keepc HB.out x1, keepc HB.out x2⟩, HO.out, HB.out⟩
        have HD9 := Hid.mk' hD9.drew
        have mk : IntKind.i64.wrap ((k : Int) + 1) = (k : Int) + 1 := by rw [IntKind.wrap_i64]; omega
        clear hD9 hro x0 x1 x2 hbd
        revert KL HD HD9
        generalize lastW F SL[k].1 SL[k].2 = lx
        generalize SL[k].1 = px
        generalize SL[k].2 = pn
        intro KL HD HD9
        have hst1 : st.length ≤ 1000000000 := by have := HLe.out; omega
        obtain ⟨⟨x0, x1, x2⟩, -, -⟩ := HD9.out
        go_wp2_with fail
        clear x0 x1 x2
        refine al_region2 13 12 (alOk (qpOk 13 12 (by decide) (fun N => by kernel_rfl) (by kernel_rfl) (by kernel_rfl) (by kernel_rfl) (by kernel_rfl)) (by decide) rfl rfl (by kernel_rfl)) (D := D9 w2 b (k * 3) px pn u7 st) (C1 := fun N W => D9 w2 b (k * 3) px pn u7 st W ∧ AtS W N 0#128 0#128 0 ∧ w2.heap.size ≤ N ∧ u7.ownBlock ≠ some N) (obj := .cells #[.int .u64 0, .int .u64 0, .int .u64 0, .int .u64 0, .int .i64 0] 64) [some 27, some 28, some 29, some 30, some 31, some 32, some 33, some 34, some 35, some 36, some 37, some 38, some 9] (fun N => [.slice (some ⟨b, 0, none⟩) SL.length c, .int .i64 (k : Int), .pointer (some ⟨b, k * 3, none⟩), .pointer (some ⟨b, k * 3, none⟩), .agg #[.int .u64 (hI px), .int .u64 (lI px)], .int .i64 F, .slice (some ⟨b, 0, none⟩) SL.length c, .int .i64 (k : Int), .pointer (some ⟨b, k * 3, none⟩), .agg #[.int .u64 (hI px), .int .u64 (lI px), .int .i64 pn], .agg #[.int .u64 (hI lx), .int .u64 (lI lx)], .agg #[.int .u64 (hI px), .int .u64 (lI px), .int .u64 (hI lx), .int .u64 (lI lx), .int .i64 1], .pointer (some ⟨N, 0, none⟩)]) 9 (by kernel_rfl) rfl ?hA9 ?hal9 ?hC9 HD9.out ?walk9 ?post9
        case hA9 => intro N; simp only [putAll, Act.put, List.setIfInBounds_toArray, List.set_cons_zero, List.set_cons_succ]; rfl
        case hal9 => intro W a _; go_simp
        case hC9 => intro W h; exact ⟨h.below (bl1 W _), ats_new0 W, h.2.2.size, fun e => by have := (h.2.1.lt _ e).2; omega⟩
        case walk9 =>
            intro N X hX
            have hXD : ∀ W, X W → D9 w2 b (k * 3) px pn u7 st W := by
              rcases hX with rfl | rfl
              · exact fun W h => h
              · exact fun W h => h.1
            have hXb : ∀ W W', X W → Below W.heap.size W W' → X W' := by
              rcases hX with rfl | rfl
              · exact fun W W' h hb => h.below hb
              · exact fun W W' h hb => ⟨h.1.below hb, h.2.1.below hb, h.2.2⟩
            clear hX HD9
            dsimp only [rep, List.take, List.modify, List.modifyTailIdx, List.modifyTailIdx.go, List.modifyHead]
            refine q_run (v := .slice (some ⟨b, 0, none⟩) SL.length c) (by rfl) ?_ ?_
            · (intro w1 hC; obtain ⟨⟨x0, x1, x2⟩, -, -⟩ := hXD w1 hC; clear hC; go_simp; first | done | (simp; done) | (simp [*]; done) | omega | (simp; omega) | (rw [IntKind.wrap_i64]; omega) | (intro hx; omega) | rfl)
            simp only [Act.put, List.setIfInBounds_toArray, List.set_cons_zero, List.set_cons_succ]
            refine q_run (v := .int .i64 (k : Int)) (by rfl) ?_ ?_
            · (intro w1 hC; obtain ⟨⟨x0, x1, x2⟩, -, -⟩ := hXD w1 hC; clear hC; go_simp; first | done | (simp; done) | (simp [*]; done) | omega | (simp; omega) | (rw [IntKind.wrap_i64]; omega) | (intro hx; omega) | rfl)
            simp only [Act.put, List.setIfInBounds_toArray, List.set_cons_zero, List.set_cons_succ]
            refine q_run (v := .pointer (some ⟨b, k * 3, none⟩)) (by rfl) ?_ ?_
            · (intro w1 hC; obtain ⟨⟨x0, x1, x2⟩, -, -⟩ := hXD w1 hC; clear hC; go_simp; first | done | (simp; done) | (simp [*]; done) | omega | (simp; omega) | (rw [IntKind.wrap_i64]; omega) | (intro hx; omega) | rfl)
            simp only [Act.put, List.setIfInBounds_toArray, List.set_cons_zero, List.set_cons_succ]
            refine q_run (v := .pointer (some ⟨b, k * 3, none⟩)) (by rfl) ?_ ?_
            · (intro w1 hC; obtain ⟨⟨x0, x1, x2⟩, -, -⟩ := hXD w1 hC; clear hC; go_simp; first | done | (simp; done) | (simp [*]; done) | omega | (simp; omega) | (rw [IntKind.wrap_i64]; omega) | (intro hx; omega) | rfl)
            simp only [Act.put, List.setIfInBounds_toArray, List.set_cons_zero, List.set_cons_succ]
            refine q_run (v := .agg #[.int .u64 (hI px), .int .u64 (lI px)]) (by rfl) ?_ ?_
            · (intro w1 hC; obtain ⟨⟨x0, x1, x2⟩, -, -⟩ := hXD w1 hC; clear hC; go_simp; first | done | (simp; done) | (simp [*]; done) | omega | (simp; omega) | (rw [IntKind.wrap_i64]; omega) | (intro hx; omega) | rfl)
            simp only [Act.put, List.setIfInBounds_toArray, List.set_cons_zero, List.set_cons_succ]
            refine q_run (v := .int .i64 F) (by rfl) ?_ ?_
            · (intro w1 hC; obtain ⟨⟨x0, x1, x2⟩, -, -⟩ := hXD w1 hC; clear hC; go_simp; first | done | (simp; done) | (simp [*]; done) | omega | (simp; omega) | (rw [IntKind.wrap_i64]; omega) | (intro hx; omega) | rfl)
            simp only [Act.put, List.setIfInBounds_toArray, List.set_cons_zero, List.set_cons_succ]
            refine q_run (v := .slice (some ⟨b, 0, none⟩) SL.length c) (by rfl) ?_ ?_
            · (intro w1 hC; obtain ⟨⟨x0, x1, x2⟩, -, -⟩ := hXD w1 hC; clear hC; go_simp; first | done | (simp; done) | (simp [*]; done) | omega | (simp; omega) | (rw [IntKind.wrap_i64]; omega) | (intro hx; omega) | rfl)
            simp only [Act.put, List.setIfInBounds_toArray, List.set_cons_zero, List.set_cons_succ]
            refine q_run (v := .int .i64 (k : Int)) (by rfl) ?_ ?_
            · (intro w1 hC; obtain ⟨⟨x0, x1, x2⟩, -, -⟩ := hXD w1 hC; clear hC; go_simp; first | done | (simp; done) | (simp [*]; done) | omega | (simp; omega) | (rw [IntKind.wrap_i64]; omega) | (intro hx; omega) | rfl)
            simp only [Act.put, List.setIfInBounds_toArray, List.set_cons_zero, List.set_cons_succ]
            refine q_run (v := .pointer (some ⟨b, k * 3, none⟩)) (by rfl) ?_ ?_
            · (intro w1 hC; obtain ⟨⟨x0, x1, x2⟩, -, -⟩ := hXD w1 hC; clear hC; go_simp; first | done | (simp; done) | (simp [*]; done) | omega | (simp; omega) | (rw [IntKind.wrap_i64]; omega) | (intro hx; omega) | rfl)
            simp only [Act.put, List.setIfInBounds_toArray, List.set_cons_zero, List.set_cons_succ]
            refine q_run (v := .agg #[.int .u64 (hI px), .int .u64 (lI px), .int .i64 pn]) (by rfl) ?_ ?_
            · (intro w1 hC; obtain ⟨⟨x0, x1, x2⟩, -, -⟩ := hXD w1 hC; clear hC; go_simp; first | done | (simp; done) | (simp [*]; done) | omega | (simp; omega) | (rw [IntKind.wrap_i64]; omega) | (intro hx; omega) | rfl)
            simp only [Act.put, List.setIfInBounds_toArray, List.set_cons_zero, List.set_cons_succ]
            refine q_call (v := .agg #[.int .u64 (hI lx), .int .u64 (lI lx)]) (f := 43) (args := #[.int .i64 F, .agg #[.int .u64 (hI px), .int .u64 (lI px), .int .i64 pn]]) (by rfl) ?_ ?_ ?_
            · (intro w1 hC; clear hC; go_simp)
            · exact fun w1 hC => (KL w1).mono fun e w' ⟨he, hb⟩ => ⟨he, hXb w1 _ hC hb⟩
            simp only [Act.put, List.setIfInBounds_toArray, List.set_cons_zero, List.set_cons_succ]
            refine q_run (v := .agg #[.int .u64 (hI px), .int .u64 (lI px), .int .u64 (hI lx), .int .u64 (lI lx), .int .i64 1]) (by rfl) ?_ ?_
            · (intro w1 hC; obtain ⟨⟨x0, x1, x2⟩, -, -⟩ := hXD w1 hC; clear hC; go_simp; first | done | (simp; done) | (simp [*]; done) | omega | (simp; omega) | (rw [IntKind.wrap_i64]; omega) | (intro hx; omega) | rfl)
            simp only [Act.put, List.setIfInBounds_toArray, List.set_cons_zero, List.set_cons_succ]
            refine q_run (v := .pointer (some ⟨N, 0, none⟩)) (by rfl) ?_ ?_
            · (intro w1 hC; obtain ⟨⟨x0, x1, x2⟩, -, -⟩ := hXD w1 hC; clear hC; go_simp; first | done | (simp; done) | (simp [*]; done) | omega | (simp; omega) | (rw [IntKind.wrap_i64]; omega) | (intro hx; omega) | rfl)
            simp only [Act.put, List.setIfInBounds_toArray, List.set_cons_zero, List.set_cons_succ]
            refine wpQuiet_nil ?_
            simp only [putAll, Act.put, List.setIfInBounds_toArray, List.set_cons_zero, List.set_cons_succ]
        case post9 =>
          intro N W hC
          obtain ⟨hE, hZ, hN1, hN2⟩ := hC
          simp only [putAll, Act.put, List.setIfInBounds_toArray, List.set_cons_zero, List.set_cons_succ]
          dsimp only [List.drop]
          obtain ⟨z0, z1, z2, z3, z4, z5, z6, z7, z8, z9⟩ := id hZ
          have HZ2 := Hid.mk' (hZ.set px lx 1)
          have HO2 := Hid.mk' (own_set5 hE.2.1 N (.int .u64 (hI px)) (.int .u64 (lI px)) (.int .u64 (hI lx)) (.int .u64 (lI lx)) (.int .i64 1) hN2)
          have HB2 := Hid.mk' (bset5 hE.2.2 hN1 (.int .u64 (hI px)) (.int .u64 (lI px)) (.int .u64 (hI lx)) (.int .u64 (lI lx)) (.int .i64 1))
          have HN : Hid (∀ z, u7.ownBlock = some z → ¬ z = N) := fun z hz e => hN2 (by rw [hz, e])
          clear hE hZ HD9 KL HO HB
          unfold set5 at HZ2 HO2 HB2
          refine wpList_plain rfl fun K hK => ?_
          unfold Oper.wp
          simp [execOp, go_sem, z0, z1, z2, z3, z4, z5, z6, z7, z8, z9, Oper.upon]
          refine hK _ _ ?_
          clear z0 z1 z2 z3 z4 z5 z6 z7 z8 z9 hK
          generalize ((((W.setCell ⟨N, 0, none⟩ (.int .u64 (hI px))).setCell ⟨N, 1, none⟩ (.int .u64 (lI px))).setCell ⟨N, 2, none⟩ (.int .u64 (hI lx))).setCell ⟨N, 3, none⟩ (.int .u64 (lI lx))).setCell ⟨N, 4, none⟩ (.int .i64 1) = W2 at *
          refine wpList_nil ?_
          obtain ⟨s0, s1, s2, s3, s4, -⟩ := id HZ2.out
          cases st with
          | nil =>
            obtain ⟨oo, oc, rfl⟩ := own_form HO2.out
            have h47 : (0 + 1) * 40 ≤ 140737488355328 := by omega
            have h63 : 0 + 1 ≤ maxLen := by unfold maxLen; omega
            go_wp2_with (at_builtin; apply stopHereC)
            refine (show wpList _ _ _ _ _ _ from ?_)
            refine wpList_append_lies _ rfl _ _ 52 rfl w2.heap.size 64 i0 (.agg #[.int .u64 0, .int .u64 0, .int .u64 0, .int .u64 0, .int .i64 0]) 5 40 Tryd.underlying52 hi hz0 hz1 hz2 rfl (by decide) _ _ _ rfl (HO2.out.alloc _) ⟨W2.heap.size, 0, none⟩ 1 1 [.int .u64 (hI px), .int .u64 (lI px), .int .u64 (hI lx), .int .u64 (lI lx), .int .i64 1] rfl rfl (newsS _ _ _ _ _ _ _) (fiveS _ _ _ _ _) (by decide) h63 h47 (by have := HB2.out.size; simp; omega) _ rfl ?_
            intro g4 cap4 w4 ho4 hgrow hat hlt4
            have HB4 : Hid (Below w2.heap.size w2 w4) := (HB2.out.alloc HB2.out.size _).grown hgrow (by have := HB2.out.size; simp; omega) (fun z hz => (HO2.out.lt z hz).1)
            have HO4 : Hid (w4.ownsRow w2.heap.size 64 5 (.slice (some ⟨g4, 0, none⟩) (0 + 1) cap4) [(px, lx)].length (rowS [(px, lx)].reverse)) := ho4
            clear ho4 hgrow hat hlt4 HO2 HB2 HZ2 s0 s1 s2 s3 s4
            go_wp2
            go_roundw
            case rel =>
              refine ⟨k + 1, by omega, by go_num, [(px, lx)], ?_, (show 1 ≤ k + 1 by omega), HO4, HB4⟩
              show rrAll F [(px, lx)] ((segL F SL).drop (k + 1)) = _
              rw [← HG.out, HD.out]
              rfl
            case measure => simp [intOf]; omega
          | cons a s =>
            obtain ⟨ax, an⟩ := a
            have ho := HO2.out
            obtain ⟨g, cap, rfl, -, -⟩ := ho.form (by simp)
            obtain ⟨n, HNn⟩ : ∃ n, Hid (s.reverse.length = n) := ⟨_, rfl⟩
            have hlen : ((ax, an) :: s).length = n + 1 := by have := HNn.out; simp at this; simp [this]
            have hrev : ((ax, an) :: s).reverse = s.reverse ++ [(ax, an)] := by simp
            have ho' := ho
            rw [hlen, hrev] at ho'
            obtain ⟨o0, o1, o2, o3, o4⟩ := rows_last ho' HNn.out
            have hnb : n ≤ 1000000000 := by have := HLe.out; rw [hlen] at this; omega
            rw [hlen]
            have HLn : Hid (n + 1 ≤ k) := by have := HLe.out; rw [hlen] at this; exact this
            have ng : ¬ g = N := HN.out g (by simp [Value.ownBlock])
            have m1 : IntKind.i64.wrap ((n : Int) + 1 - 1) = (n : Int) := by rw [IntKind.wrap_i64]; omega
            have m2 : IntKind.i64.wrap (n : Int) = (n : Int) := by rw [IntKind.wrap_i64]; omega
            have i1 : (0 : Int) < (n : Int) + 1 := by omega
            have i2 : (n : Int) < (n : Int) + 1 := by omega
            have i3 : (0 : Int) ≤ (n : Int) := by omega
            have KX := fun w => rnext_any F an w
            have HO3 : Hid (W2.ownsRow w2.heap.size 64 5 (.slice (some ⟨g, 0, none⟩) (n + 1) cap) ((ax, an) :: s).length (rowS ((ax, an) :: s).reverse)) := by rw [← hlen]; exact ho
            clear ho ho' hrev HO2 HN
            go_wp2_with fail
            refine (KX _).mono ?_
            rintro e W3 ⟨rfl, hb⟩
            have HRR : Hid (∀ q, rrIn F ((ax, an) :: s) (px, lx) = q → rrAll F q ((segL F SL).drop (k + 1)) = rrAll F [] (segL F SL)) := by
              rintro q rfl
              rw [← HG.out, HD.out]
              rfl
            unfold rrIn at HRR
            simp only at HRR
            generalize nextV F an = y at *
            generalize nextB F an = nb at *
            have b3 := bl1 W3 (.cells #[.int .u64 (hI y), .int .u64 (lI y)] 24)
            have hb' := hb
            obtain ⟨y0, y1, -, -⟩ := at_new W3 W3.heap.size y 24 rfl
            have HZ4 := Hid.mk' ((HZ2.out.below hb).below b3)
            have HO4 := Hid.mk' (own_below b3 (own_below hb HO3.out))
            have HB4 := Hid.mk' (keepb b3 (keepb hb HB2.out))
            have t2 := keepc b3 (keepc hb o2)
            have t3 := keepc b3 (keepc hb o3)
            have HT23 := Hid.mk' (And.intro t2 t3)
            obtain ⟨s0, s1, s2, s3, s4, -⟩ := id HZ4.out
            clear hb hb' b3 KX HZ2 HO3 HB2 o0 o1 o2 o3 o4 HG HD HLe
            have KC1 := fun w => rcmp_any px y w
            have KC2 := fun w => rcmp_any lx an w
            have HCM : Hid (D14 w2 N g n px lx an (.slice (some ⟨g, 0, none⟩) (n + 1) cap) ((ax, an) :: s) (W3.alloc (.cells #[.int .u64 (hI y), .int .u64 (lI y)] 24))) := ⟨HZ4.out, HT23.out, HO4.out, HB4.out⟩
            clear HZ4 HO4 HB4 HT23
            generalize cmpZ px y = d1 at *
            generalize cmpZ lx an = d2 at *
            cases nb with
            | false =>
              have HRR2 : Hid (∀ q, (if 0 < d2 then (ax, lx) :: s else (ax, an) :: s) = q → rrAll F q ((segL F SL).drop (k + 1)) = rrAll F [] (segL F SL)) := by
                intro q hq
                refine HRR.out q ?_
                rw [if_pos (.inl rfl)]
                exact hq
              have HC14 := Hid.mk' HCM.out.drew
              obtain ⟨⟨z0, z1, z2, z3, z4, -⟩, ⟨o2, o3⟩, -, -⟩ := HC14.out
              go_wp2_with fail
              refine qw_region (C := D14 w2 N g n px lx an (.slice (some ⟨g, 0, none⟩) (n + 1) cap) ((ax, an) :: s)) (by kernel_rfl) (by kernel_rfl) HC14.out ?_
              clear HC14 HRR KC1 HCM z0 z1 z2 z3 z4 o2 o3 s0 s1 s2 s3 s4 t2 t3 y0 y1
              refine qw_run (v := .pointer (some ⟨N, 2, none⟩)) (by rfl) ?_ ?_
              · (intro w1 hC; obtain ⟨⟨z0, z1, z2, z3, z4, -, -, -, -, -⟩, ⟨o2, o3⟩, -, -⟩ := hC; go_simp; first | done | (simp; done) | (simp [*]; done) | omega | (simp; omega) | (rw [IntKind.wrap_i64]; omega) | (intro hx; omega) | rfl)
              simp only [Act.put, List.setIfInBounds_toArray, List.set_cons_zero, List.set_cons_succ]
              refine qw_run (v := .agg #[.int .u64 (hI lx), .int .u64 (lI lx)]) (by rfl) ?_ ?_
              · (intro w1 hC; obtain ⟨⟨z0, z1, z2, z3, z4, -, -, -, -, -⟩, ⟨o2, o3⟩, -, -⟩ := hC; go_simp; first | done | (simp; done) | (simp [*]; done) | omega | (simp; omega) | (rw [IntKind.wrap_i64]; omega) | (intro hx; omega) | rfl)
              simp only [Act.put, List.setIfInBounds_toArray, List.set_cons_zero, List.set_cons_succ]
              refine qw_run (v := .slice (some ⟨g, 0, none⟩) (n + 1) cap) (by rfl) ?_ ?_
              · (intro w1 hC; obtain ⟨⟨z0, z1, z2, z3, z4, -, -, -, -, -⟩, ⟨o2, o3⟩, -, -⟩ := hC; go_simp; first | done | (simp; done) | (simp [*]; done) | omega | (simp; omega) | (rw [IntKind.wrap_i64]; omega) | (intro hx; omega) | rfl)
              simp only [Act.put, List.setIfInBounds_toArray, List.set_cons_zero, List.set_cons_succ]
              refine qw_run (v := .int .i64 (n : Int)) (by rfl) ?_ ?_
              · (intro w1 hC; obtain ⟨⟨z0, z1, z2, z3, z4, -, -, -, -, -⟩, ⟨o2, o3⟩, -, -⟩ := hC; go_simp; first | done | (simp; done) | (simp [*]; done) | omega | (simp; omega) | (rw [IntKind.wrap_i64]; omega) | (intro hx; omega) | rfl)
              simp only [Act.put, List.setIfInBounds_toArray, List.set_cons_zero, List.set_cons_succ]
              refine qw_run (v := .pointer (some ⟨g, n * 5, none⟩)) (by rfl) ?_ ?_
              · (intro w1 hC; obtain ⟨⟨z0, z1, z2, z3, z4, -, -, -, -, -⟩, ⟨o2, o3⟩, -, -⟩ := hC; go_simp; first | done | (simp; done) | (simp [*]; done) | omega | (simp; omega) | (rw [IntKind.wrap_i64]; omega) | (intro hx; omega) | rfl)
              simp only [Act.put, List.setIfInBounds_toArray, List.set_cons_zero, List.set_cons_succ]
              refine qw_run (v := .pointer (some ⟨g, n * 5 + 2, none⟩)) (by rfl) ?_ ?_
              · (intro w1 hC; obtain ⟨⟨z0, z1, z2, z3, z4, -, -, -, -, -⟩, ⟨o2, o3⟩, -, -⟩ := hC; go_simp; first | done | (simp; done) | (simp [*]; done) | omega | (simp; omega) | (rw [IntKind.wrap_i64]; omega) | (intro hx; omega) | rfl)
              simp only [Act.put, List.setIfInBounds_toArray, List.set_cons_zero, List.set_cons_succ]
              refine qw_run (v := .agg #[.int .u64 (hI an), .int .u64 (lI an)]) (by rfl) ?_ ?_
              · (intro w1 hC; obtain ⟨⟨z0, z1, z2, z3, z4, -, -, -, -, -⟩, ⟨o2, o3⟩, -, -⟩ := hC; go_simp; first | done | (simp; done) | (simp [*]; done) | omega | (simp; omega) | (rw [IntKind.wrap_i64]; omega) | (intro hx; omega) | rfl)
              simp only [Act.put, List.setIfInBounds_toArray, List.set_cons_zero, List.set_cons_succ]
              refine qw_call (v := .int .i64 d2) (f := 34) (args := #[.agg #[.int .u64 (hI lx), .int .u64 (lI lx)], .agg #[.int .u64 (hI an), .int .u64 (lI an)]]) (by rfl) ?_ ?_ ?_
              · (intro w1 hC; clear hC; go_simp)
              · exact fun w1 hC => (KC2 w1).mono fun e w' ⟨he, hb⟩ => ⟨he, hC.below hb⟩
              simp only [Act.put, List.setIfInBounds_toArray, List.set_cons_zero, List.set_cons_succ]
              refine qw_run (v := .bool (decide (0 < d2))) (by rfl) ?_ ?_
              · (intro w1 hC; obtain ⟨⟨z0, z1, z2, z3, z4, -, -, -, -, -⟩, ⟨o2, o3⟩, -, -⟩ := hC; go_simp; first | done | (simp; done) | (simp [*]; done) | omega | (simp; omega) | (rw [IntKind.wrap_i64]; omega) | (intro hx; omega) | rfl)
              simp only [Act.put, List.setIfInBounds_toArray, List.set_cons_zero, List.set_cons_succ]
              refine qw_nil ?_
              intro W5 hC5
              have HC5 := Hid.mk' hC5
              clear hC5 KC2
              by_cases hd2 : 0 < d2
              · have HST := Hid.mk' (HRR2.out _ (if_pos hd2))
                obtain ⟨-, ⟨o2, o3⟩, ho5, hb5⟩ := id HC5.out
                obtain ⟨z0, z1, z2, z3, z4, -⟩ := id HC5.out.1
                have hrev : ((ax, an) :: s).reverse = s.reverse ++ [(ax, an)] := by simp
                rw [hlen, hrev] at ho5
                have HO5 := Hid.mk' ho5
                have f2 := (own_cell ho5 (n * 5 + 2) (by omega)).2
                have f3 := (own_cell ho5 (n * 5 + 3) (by omega)).2
                have HB5 := Hid.mk' hb5
                have hsn : s.length = n := by have := HNn.out; simpa using this
                clear ho5 hb5 hrev HC5 HRR2
                go_wp2
                go_roundw
                case rel =>
                  have t1 := ((HO5.out.stored (n * 5 + 2) (.int .u64 (hI lx))).1.stored (n * 5 + 3) (.int .u64 (lI lx))).1
                  have q1 : n < (s.reverse ++ [(ax, an)]).length := by simp; omega
                  have q2 : (s.reverse ++ [(ax, an)])[n].1 = ax := by subst hsn; simp
                  have t2 := rowS_set (s.reverse ++ [(ax, an)]) n ax lx q1 q2
                  rw [← hsn, set_last s (ax, an) (ax, lx), hsn] at t2
                  rw [t2] at t1
                  have hg := (HO5.out.lt g (by simp [Value.ownBlock])).1
                  refine ⟨k + 1, by omega, by go_num, (ax, lx) :: s, HST, ?_, ?_, (HB5.out.setCell hg _).setCell hg _⟩
                  · show s.length + 1 ≤ k + 1; have := HLn.out; omega
                  · show World.ownsRow _ _ _ _ _ _ _
                    rw [List.reverse_cons, List.length_cons, hsn]
                    exact t1
                case measure => simp [intOf]; omega
              · have HST := Hid.mk' (HRR2.out _ (if_neg hd2))
                have hd2' : ¬ 0 < d2 := hd2
                have HB5 := Hid.mk' HC5.out.2.2.2
                have HO5 := Hid.mk' HC5.out.2.2.1
                clear HC5 HRR2
                go_wp2
                go_roundw
                case rel =>
                  refine ⟨k + 1, by omega, by go_num, (ax, an) :: s, HST, ?_, ?_, HB5⟩
                  · show ((ax, an) :: s).length ≤ k + 1; rw [hlen]; have := HLn.out; omega
                  · exact HO5
                case measure => simp [intOf]; omega
            | true =>
              go_wp2_with fail
              refine (KC1 _).mono ?_
              rintro e W4 ⟨rfl, hb⟩
              have HCM4 := Hid.mk' (HCM.out.below hb)
              clear hb KC1 HCM s0 s1 s2 s3 s4 t2 t3 y0 y1
              obtain ⟨s0, s1, s2, s3, s4, -⟩ := id HCM4.out.1
              by_cases hd1 : d1 ≤ 0
              · have HRR2 : Hid (∀ q, (if 0 < d2 then (ax, lx) :: s else (ax, an) :: s) = q → rrAll F q ((segL F SL).drop (k + 1)) = rrAll F [] (segL F SL)) := by
                  intro q hq
                  refine HRR.out q ?_
                  rw [if_pos (.inr hd1)]
                  exact hq
                have HC14 := Hid.mk' HCM4.out.drew
                obtain ⟨⟨z0, z1, z2, z3, z4, -⟩, ⟨o2, o3⟩, -, -⟩ := HC14.out
                go_wp2_with fail
                refine qw_region (C := D14 w2 N g n px lx an (.slice (some ⟨g, 0, none⟩) (n + 1) cap) ((ax, an) :: s)) (by kernel_rfl) (by kernel_rfl) HC14.out ?_
                clear HC14 HRR HCM4 z0 z1 z2 z3 z4 o2 o3 s0 s1 s2 s3 s4
                refine qw_run (v := .pointer (some ⟨N, 2, none⟩)) (by rfl) ?_ ?_
                · (intro w1 hC; obtain ⟨⟨z0, z1, z2, z3, z4, -, -, -, -, -⟩, ⟨o2, o3⟩, -, -⟩ := hC; go_simp; first | done | (simp; done) | (simp [*]; done) | omega | (simp; omega) | (rw [IntKind.wrap_i64]; omega) | (intro hx; omega) | rfl)
                simp only [Act.put, List.setIfInBounds_toArray, List.set_cons_zero, List.set_cons_succ]
                refine qw_run (v := .agg #[.int .u64 (hI lx), .int .u64 (lI lx)]) (by rfl) ?_ ?_
                · (intro w1 hC; obtain ⟨⟨z0, z1, z2, z3, z4, -, -, -, -, -⟩, ⟨o2, o3⟩, -, -⟩ := hC; go_simp; first | done | (simp; done) | (simp [*]; done) | omega | (simp; omega) | (rw [IntKind.wrap_i64]; omega) | (intro hx; omega) | rfl)
                simp only [Act.put, List.setIfInBounds_toArray, List.set_cons_zero, List.set_cons_succ]
                refine qw_run (v := .slice (some ⟨g, 0, none⟩) (n + 1) cap) (by rfl) ?_ ?_
                · (intro w1 hC; obtain ⟨⟨z0, z1, z2, z3, z4, -, -, -, -, -⟩, ⟨o2, o3⟩, -, -⟩ := hC; go_simp; first | done | (simp; done) | (simp [*]; done) | omega | (simp; omega) | (rw [IntKind.wrap_i64]; omega) | (intro hx; omega) | rfl)
                simp only [Act.put, List.setIfInBounds_toArray, List.set_cons_zero, List.set_cons_succ]
                refine qw_run (v := .int .i64 (n : Int)) (by rfl) ?_ ?_
                · (intro w1 hC; obtain ⟨⟨z0, z1, z2, z3, z4, -, -, -, -, -⟩, ⟨o2, o3⟩, -, -⟩ := hC; go_simp; first | done | (simp; done) | (simp [*]; done) | omega | (simp; omega) | (rw [IntKind.wrap_i64]; omega) | (intro hx; omega) | rfl)
                simp only [Act.put, List.setIfInBounds_toArray, List.set_cons_zero, List.set_cons_succ]
                refine qw_run (v := .pointer (some ⟨g, n * 5, none⟩)) (by rfl) ?_ ?_
                · (intro w1 hC; obtain ⟨⟨z0, z1, z2, z3, z4, -, -, -, -, -⟩, ⟨o2, o3⟩, -, -⟩ := hC; go_simp; first | done | (simp; done) | (simp [*]; done) | omega | (simp; omega) | (rw [IntKind.wrap_i64]; omega) | (intro hx; omega) | rfl)
                simp only [Act.put, List.setIfInBounds_toArray, List.set_cons_zero, List.set_cons_succ]
                refine qw_run (v := .pointer (some ⟨g, n * 5 + 2, none⟩)) (by rfl) ?_ ?_
                · (intro w1 hC; obtain ⟨⟨z0, z1, z2, z3, z4, -, -, -, -, -⟩, ⟨o2, o3⟩, -, -⟩ := hC; go_simp; first | done | (simp; done) | (simp [*]; done) | omega | (simp; omega) | (rw [IntKind.wrap_i64]; omega) | (intro hx; omega) | rfl)
                simp only [Act.put, List.setIfInBounds_toArray, List.set_cons_zero, List.set_cons_succ]
                refine qw_run (v := .agg #[.int .u64 (hI an), .int .u64 (lI an)]) (by rfl) ?_ ?_
                · (intro w1 hC; obtain ⟨⟨z0, z1, z2, z3, z4, -, -, -, -, -⟩, ⟨o2, o3⟩, -, -⟩ := hC; go_simp; first | done | (simp; done) | (simp [*]; done) | omega | (simp; omega) | (rw [IntKind.wrap_i64]; omega) | (intro hx; omega) | rfl)
                simp only [Act.put, List.setIfInBounds_toArray, List.set_cons_zero, List.set_cons_succ]
                refine qw_call (v := .int .i64 d2) (f := 34) (args := #[.agg #[.int .u64 (hI lx), .int .u64 (lI lx)], .agg #[.int .u64 (hI an), .int .u64 (lI an)]]) (by rfl) ?_ ?_ ?_
                · (intro w1 hC; clear hC; go_simp)
                · exact fun w1 hC => (KC2 w1).mono fun e w' ⟨he, hb⟩ => ⟨he, hC.below hb⟩
                simp only [Act.put, List.setIfInBounds_toArray, List.set_cons_zero, List.set_cons_succ]
                refine qw_run (v := .bool (decide (0 < d2))) (by rfl) ?_ ?_
                · (intro w1 hC; obtain ⟨⟨z0, z1, z2, z3, z4, -, -, -, -, -⟩, ⟨o2, o3⟩, -, -⟩ := hC; go_simp; first | done | (simp; done) | (simp [*]; done) | omega | (simp; omega) | (rw [IntKind.wrap_i64]; omega) | (intro hx; omega) | rfl)
                simp only [Act.put, List.setIfInBounds_toArray, List.set_cons_zero, List.set_cons_succ]
                refine qw_nil ?_
                intro W5 hC5
                have HC5 := Hid.mk' hC5
                clear hC5 KC2
                by_cases hd2 : 0 < d2
                · have HST := Hid.mk' (HRR2.out _ (if_pos hd2))
                  obtain ⟨-, ⟨o2, o3⟩, ho5, hb5⟩ := id HC5.out
                  obtain ⟨z0, z1, z2, z3, z4, -⟩ := id HC5.out.1
                  have hrev : ((ax, an) :: s).reverse = s.reverse ++ [(ax, an)] := by simp
                  rw [hlen, hrev] at ho5
                  have HO5 := Hid.mk' ho5
                  have f2 := (own_cell ho5 (n * 5 + 2) (by omega)).2
                  have f3 := (own_cell ho5 (n * 5 + 3) (by omega)).2
                  have HB5 := Hid.mk' hb5
                  have hsn : s.length = n := by have := HNn.out; simpa using this
                  clear ho5 hb5 hrev HC5 HRR2
                  go_wp2
                  go_roundw
                  case rel =>
                    have t1 := ((HO5.out.stored (n * 5 + 2) (.int .u64 (hI lx))).1.stored (n * 5 + 3) (.int .u64 (lI lx))).1
                    have q1 : n < (s.reverse ++ [(ax, an)]).length := by simp; omega
                    have q2 : (s.reverse ++ [(ax, an)])[n].1 = ax := by subst hsn; simp
                    have t2 := rowS_set (s.reverse ++ [(ax, an)]) n ax lx q1 q2
                    rw [← hsn, set_last s (ax, an) (ax, lx), hsn] at t2
                    rw [t2] at t1
                    have hg := (HO5.out.lt g (by simp [Value.ownBlock])).1
                    refine ⟨k + 1, by omega, by go_num, (ax, lx) :: s, HST, ?_, ?_, (HB5.out.setCell hg _).setCell hg _⟩
                    · show s.length + 1 ≤ k + 1; have := HLn.out; omega
                    · show World.ownsRow _ _ _ _ _ _ _
                      rw [List.reverse_cons, List.length_cons, hsn]
                      exact t1
                  case measure => simp [intOf]; omega
                · have HST := Hid.mk' (HRR2.out _ (if_neg hd2))
                  have hd2' : ¬ 0 < d2 := hd2
                  have HB5 := Hid.mk' HC5.out.2.2.2
                  have HO5 := Hid.mk' HC5.out.2.2.1
                  clear HC5 HRR2
                  go_wp2
                  go_roundw
                  case rel =>
                    refine ⟨k + 1, by omega, by go_num, (ax, an) :: s, HST, ?_, ?_, HB5⟩
                    · show ((ax, an) :: s).length ≤ k + 1; rw [hlen]; have := HLn.out; omega
                    · exact HO5
                  case measure => simp [intOf]; omega
              · have HST := Hid.mk' (HRR.out ((px, lx) :: (ax, an) :: s) (by rw [if_neg (by simp [hd1])]))
                have h47 : (n + 1 + 1) * 40 ≤ 140737488355328 := by omega
                have h63 : n + 1 + 1 ≤ maxLen := by unfold maxLen; omega
                have HO4 : Hid (W4.ownsRow w2.heap.size 64 5 (.slice (some ⟨g, 0, none⟩) (n + 1) cap) (n + 1) (rowS ((ax, an) :: s).reverse)) := by
                  have := HCM4.out.2.2.1
                  rw [hlen] at this
                  exact this
                have HB4 := Hid.mk' HCM4.out.2.2.2
                clear HCM4 HRR KC2
                go_wp2_with (at_builtin; apply stopHereC)
                refine (show wpList _ _ _ _ _ _ from ?_)
                refine wpList_append_lies _ rfl _ _ 52 rfl w2.heap.size 64 i0 (.agg #[.int .u64 0, .int .u64 0, .int .u64 0, .int .u64 0, .int .i64 0]) 5 40 Tryd.underlying52 hi hz0 hz1 hz2 rfl (by decide) _ _ _ rfl (HO4.out.alloc _) ⟨W4.heap.size, 0, none⟩ 1 1 [.int .u64 (hI px), .int .u64 (lI px), .int .u64 (hI lx), .int .u64 (lI lx), .int .i64 1] rfl rfl (newsS _ _ _ _ _ _ _) (fiveS _ _ _ _ _) (by decide) h63 h47 (by have := HB4.out.size; simp; omega) _ rfl ?_
                intro g4 cap4 w6 ho6 hgrow hat hlt4
                have HB6 : Hid (Below w2.heap.size w2 w6) := (HB4.out.alloc HB4.out.size _).grown hgrow (by have := HB4.out.size; simp; omega) (fun z hz => (HO4.out.lt z hz).1)
                have HO6 : Hid (w6.ownsRow w2.heap.size 64 5 (.slice (some ⟨g4, 0, none⟩) (n + 1 + 1) cap4) ((px, lx) :: (ax, an) :: s).length (rowS ((px, lx) :: (ax, an) :: s).reverse)) := by
                  show World.ownsRow _ _ _ _ _ _ _
                  rw [List.reverse_cons, rowS_one, List.length_cons, hlen]
                  exact ho6
                clear ho6 hgrow hat hlt4 HO4 HB4 s0 s1 s2 s3 s4
                go_wp2
                go_roundw
                case rel =>
                  refine ⟨k + 1, by omega, by go_num, (px, lx) :: (ax, an) :: s, HST, ?_, HO6, HB6⟩
                  show ((px, lx) :: (ax, an) :: s).length ≤ k + 1
                  rw [List.length_cons, hlen]
                  have := HLn.out
                  omega
                case measure => simp [intOf]; omega
    · have hd0 : ¬ k < SL.length := by omega
      have HE : Hid (rrAll F [] (segL F SL) = st) := by
        show _ = _
        rw [← HG.out, List.drop_eq_nil_of_le (by unfold segL; simp; omega)]
        rfl
      have kBr := kB2.out.trans (HB.out.mono kB2.out.size)
      have HOr := Hid.mk' (own_base HO.out kB2.out.size)
      clear HO HB HG
      go_wp2
      go_ret2
      refine ⟨⟨_, rfl, ?_⟩, kBr⟩
      rw [← HSL.out, HE.out]
      exact HOr.out
end Go.Proofs.YtkgfeegcdohkdaaDoor
