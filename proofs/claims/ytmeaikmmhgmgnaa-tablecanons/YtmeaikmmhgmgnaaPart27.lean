/-
  Part 27 of the proof: 4 texts, one behind the other.
-/
import Derived.Test.YtmeaikmmhgmgnaaPart25
import Derived.Test.YtmeaikmmhgmgnaaPart26
import Derived.Test.YtmeaikmmhgmgnaaPart10
/-
  What the call of turnpikeref5's Canon does.
-/
namespace Go.Proofs.Ytmeaikmmhgmgnaa
open Go.RowKit
set_option linter.unusedSimpArgs false
set_option linter.unusedVariables false

theorem setV_pos (r : Rte) : ∀ S : List Rte, 0 < (setV S r).length
  | [] => by simp [setV]
  | y :: t => by
    show 0 < (if cmR r y < 0 then y :: setV t r else tellR (y :: t) r).length
    split
    · simp
    · unfold tellR
      dsimp only
      split <;> simp
theorem setF_pos (r : Rte) (S : List Rte) : 0 < (setF S r).length := by unfold setF; rw [List.length_reverse]; exact setV_pos _ _
theorem fold_len : ∀ (D S : List Rte), (D.foldl setF S).length ≤ S.length + D.length
  | [], S => by simp
  | x :: D, S => by
    have h1 := fold_len D (setF S x)
    have h2 := setF_len x S
    rw [List.foldl_cons, List.length_cons]
    omega
/-- Canon's variables: the result, the table with the list as it was, and the list. -/
structure CnV (w : World) (Bt : Nat) (F : Int) (vC v : Value) (S : List Rte) (W : World) : Prop where
  res : W.heap[w.heap.size]? = some (.cells #[.int .i64 0, .slice none 0 0] 25)
  t : W.heap[Bt]? = some (.cells #[.int .i64 F, vC] 25)
  own : W.ownsRow (Bt + 1) 40 4 v S.length (rowR S)
  lt : w.heap.size < Bt
  low : Below w.heap.size w W
theorem CnV.below {w W W' : World} {Bt : Nat} {F : Int} {vC v : Value} {S : List Rte} (h : CnV w Bt F vC v S W) (hb : Below W.heap.size W W') : CnV w Bt F vC v S W' :=
  ⟨(hb.block _ (blk_lt5 h.res)).trans h.res, (hb.block _ (blk_lt5 h.t)).trans h.t, own_below hb h.own, h.lt, keepb hb h.low⟩
theorem CnV.setd {w W W' : World} {Bt : Nat} {F : Int} {vC v v' : Value} {S S' : List Rte} (h : CnV w Bt F vC v S W) (hp : PtR (Bt + 1) v S' W v' W') : CnV w Bt F vC v' S' W' := by
  have hne : ∀ z, z ≤ Bt → ¬ v.ownBlock = some z := fun z hz e => by have := (h.own.lt z e).1; omega
  have hl := h.lt
  refine ⟨?_, ?_, hp.1, h.lt, ?_⟩
  · rw [hp.2.1.block _ (blk_lt5 h.res) (fun e => hne _ (by omega) e.symm)]; exact h.res
  · rw [hp.2.1.block _ (blk_lt5 h.t) (fun e => hne _ (by omega) e.symm)]; exact h.t
  · exact ⟨by rw [hp.2.1.os, h.low.os], by rw [hp.2.1.tape, h.low.tape], by rw [hp.2.1.output, h.low.output], Nat.le_trans h.low.size hp.2.1.size, fun z hz => by rw [hp.2.1.block z (by have := h.low.size; omega) (fun e => hne z (by omega) e.symm), h.low.block z hz]⟩
theorem CnV.put {w W : World} {Bt : Nat} {F : Int} {vC v : Value} {S : List Rte} (h : CnV w Bt F vC v S W) : CnV w Bt F v v S (W.setCell ⟨Bt, 1, none⟩ v) := by
  have hl := h.lt
  refine ⟨?_, ?_, ?_, h.lt, h.low.setCell (by show w.heap.size ≤ Bt; omega) _⟩
  · rw [hSet _ (by omega)]; exact h.res
  · exact (set_blk5 (o := 1) h.t v).trans rfl
  · exact own_heap h.own (fun z e => hSet _ (by have := (h.own.lt z e).1; omega))
/-- What Canon tells. -/
def RcnQ (F : Int) (l : List Rte) (w : World) (e : Ending) (w' : World) : Prop := (∃ u S, e = .returned (.tuple #[.agg #[.int .i64 (if rtsE F l = 0 then F else 0), u], .int .i64 (rtsE F l)]) ∧ S = (if rtsE F l = 0 then l.foldl setF [] else []) ∧ w'.ownsRow w.heap.size 40 4 u S.length (rowR S)) ∧ Below w.heap.size w w'
set_option maxRecDepth 20000 in
set_option maxHeartbeats 16000000 in
theorem rcanon_any (F : Int) (v : Value) (l : List Rte) (w : World) (hv : RwR w v l) :
    Calls Try.prog 10 #[.int .i64 F, v] w (RcnQ F l w) := by
  obtain ⟨ao, c, rfl, hv⟩ := hv
  have KI := fun w => isFamily_any F w
  have q1 := bl1 w (.cells #[.int .i64 0, .slice none 0 0] 25)
  have HRes : Hid ((w.alloc (.cells #[.int .i64 0, .slice none 0 0] 25)).heap[w.heap.size]? = some (.cells #[.int .i64 0, .slice none 0 0] 25)) := hidR Array.getElem?_push_size
  have HB := hidR q1
  have HV : Hid (l = [] ∨ ∃ b off, ao = some ⟨b, off, none⟩ ∧ ∀ j u, (rowR l)[j]? = some u → w.cell? ⟨b, off + j, none⟩ = some u) := hv
  have own0 : ∀ W : World, W.ownsRow w.heap.size 40 4 (.slice none 0 0) 0 [] := fun W => ⟨rfl, .inl ⟨rfl, rfl⟩⟩
  have HRet : ∀ (z : Int) (W : World), rtsE F l = z → z ≠ 0 → Below w.heap.size w W → RcnQ F l w (.returned (.tuple #[.agg #[.int .i64 0, .slice none 0 0], .int .i64 z])) ((W.setCell ⟨w.heap.size, 0, none⟩ (.int .i64 0)).setCell ⟨w.heap.size, 1, none⟩ (.slice none 0 0)) := fun z W h1 h2 h4 => by
    subst h1
    refine ⟨⟨.slice none 0 0, [], by rw [if_neg h2], by rw [if_neg h2], own0 _⟩, (h4.setCell (Nat.le_refl _) _).setCell (Nat.le_refl _) _⟩
  have HRt := hidR HRet
  clear hv q1 HRet
  cases hf : fam F
  · rw [hf] at KI
    have HE : Hid (rtsE F l = 11) := hidR (by unfold rtsE; rw [if_neg (by simp [hf])])
    clear hf HV
    go_enter Try.func10, Try.ntmps10
    go_wp2_with fail
    refine (KI _).mono ?_
    rintro e w1 ⟨rfl, rfl⟩
    revert HRes HB
    generalize w.alloc (.cells #[.int .i64 0, .slice none 0 0] 25) = W0
    intro HRes HB
    have c0 := at_blk HRes.out 0 (.int .i64 0) rfl
    have c1 := at_blk HRes.out 1 (.slice none 0 0) rfl
    have d0 := fr_blk5 (j := 0) HRes.out
    have d1 := fr_blk5 (j := 1) HRes.out
    have HF := hidR (HRt.out 11 _ HE.out (by decide) HB.out)
    clear KI HRes HB HRt HE
    go_wp2
    exact bodyPost_ret (v := .tuple #[.agg #[.int .i64 0, .slice none 0 0], .int .i64 11]) (by simp [results, Try.results10, go_sem, c0, c1]) rfl HF.out
  · rw [hf] at KI
    by_cases hl : 1048576 < l.length
    · have HE : Hid (rtsE F l = 16) := hidR (by unfold rtsE; rw [if_pos (by simp [hf]), if_pos hl])
      have h1 : (1048576 : Int) < (l.length : Int) := by omega
      clear hf HV
      go_enter Try.func10, Try.ntmps10
      go_wp2_with fail
      refine (KI _).mono ?_
      rintro e w1 ⟨rfl, rfl⟩
      revert HRes HB
      generalize w.alloc (.cells #[.int .i64 0, .slice none 0 0] 25) = W0
      intro HRes HB
      have c0 := at_blk HRes.out 0 (.int .i64 0) rfl
      have c1 := at_blk HRes.out 1 (.slice none 0 0) rfl
      have d0 := fr_blk5 (j := 0) HRes.out
      have d1 := fr_blk5 (j := 1) HRes.out
      have HF := hidR (HRt.out 16 _ HE.out (by decide) HB.out)
      clear KI HRes HB HRt HE
      go_wp2
      exact bodyPost_ret (v := .tuple #[.agg #[.int .i64 0, .slice none 0 0], .int .i64 16]) (by simp [results, Try.results10, go_sem, c0, c1]) rfl HF.out
    · have h1 : ¬ (1048576 : Int) < (l.length : Int) := by omega
      have HRE : Hid (rtsE F l = rtsG F l) := hidR (by unfold rtsE; rw [if_pos hf, if_neg hl])
      have hlm : l.length ≤ 1048576 := by omega
      clear hf hl
      go_enter Try.func10, Try.ntmps10
      go_wp2_with fail
      refine (KI _).mono ?_
      rintro e w1 ⟨rfl, rfl⟩
      revert HRes HB
      generalize w.alloc (.cells #[.int .i64 0, .slice none 0 0] 25) = W0
      intro HRes HB
      clear KI
      go_wp2_with fail
      go_loopw [6, 7] (fun i _ wr => ∃ k : Nat, k ≤ l.length ∧ i = .int .i64 k ∧ Hid (rtsG F (l.drop k) = rtsG F l) ∧ Hid (wr.heap[w.heap.size]? = some (.cells #[.int .i64 0, .slice none 0 0] 25)) ∧ Hid (Below w.heap.size w wr)) (fun i _ _ => l.length - (intOf i).toNat)
      case atStart => exact ⟨0, by omega, rfl, hidR rfl, HRes, HB⟩
      case round =>
        clear HRes HB
        obtain ⟨k, hk, rfl, HG, HT, HB⟩ := hrel
        by_cases hlt : (k : Int) < (l.length : Int)
        · have hks : k < l.length := by omega
          rcases HV.out with e | ⟨b, off, rfl, hc⟩
          · rw [e] at hks; simp at hks
          · obtain ⟨y0, y1, y2, y3⟩ := rwr_cells hc k hks
            have x0 := keepc HB.out y0
            have x1 := keepc HB.out y1
            have x2 := keepc HB.out y2
            have x3 := keepc HB.out y3
            have KC := fun w => rchecked_any F l[k].1.1 l[k].1.2 l[k].2 w
            have HD := hidR (rts_drop F l k hks)
            have eR : ((l[k].1.1, l[k].1.2), l[k].2) = l[k] := rfl
            rw [eR] at KC
            clear y0 y1 y2 y3 hc eR
            have w1 : IntKind.i64.wrap ((k : Int) + 1) = ((k + 1 : Nat) : Int) := by rw [IntKind.wrap_i64]; push_cast; omega
            revert x0 x1 x2 x3 KC HD
            generalize rteE F l[k] = ce
            generalize l[k] = r
            obtain ⟨⟨px, pn⟩, ph⟩ := r
            dsimp only
            intro x0 x1 x2 x3 KC HD
            go_wp2_with fail
            refine (KC _).mono ?_
            rintro e w2 ⟨rfl, hb⟩
            have HT2 : Hid (w2.heap[w.heap.size]? = some (.cells #[.int .i64 0, .slice none 0 0] 25)) := hidR ((hb.block _ (blk_lt5 HT.out)).trans HT.out)
            have HB2 := hidR (keepb hb HB.out)
            clear KC hb HT HB x0 x1 x2 x3
            by_cases hz : ce = 0
            · subst hz
              have HG2 : Hid (rtsG F (l.drop (k + 1)) = rtsG F l) := hidR (by rw [← HG.out, HD.out, if_pos rfl])
              clear HD HG
              go_wp2_with fail
              go_roundw
              case rel => exact ⟨k + 1, by omega, rfl, HG2, HT2, HB2⟩
              case measure => simp [intOf]; omega
            · have HE : Hid (rtsE F l = ce) := hidR (by rw [HRE.out, ← HG.out, HD.out, if_neg hz])
              have c0 := at_blk HT2.out 0 (.int .i64 0) rfl
              have c1 := at_blk HT2.out 1 (.slice none 0 0) rfl
              have d0 := fr_blk5 (j := 0) HT2.out
              have d1 := fr_blk5 (j := 1) HT2.out
              have HF := hidR (HRt.out ce _ HE.out hz HB2.out)
              clear HD HG HT2 HB2 HRt
              go_wp2
              exact bodyPost_ret (v := .tuple #[.agg #[.int .i64 0, .slice none 0 0], .int .i64 ce]) (by simp [results, Try.results10, go_sem, c0, c1]) rfl HF.out
        · obtain rfl : k = l.length := by omega
          have HE : Hid (rtsE F l = 0) := hidR (by rw [HRE.out, ← HG.out, List.drop_length]; rfl)
          have hbl := bl1 wr (.cells #[.int .i64 F, .slice none 0 0] 25)
          have hws := HB.out.size
          have hwt := blk_lt5 HT.out
          have HC0 : Hid (CnV w wr.heap.size F (.slice none 0 0) (.slice none 0 0) [] (wr.alloc (.cells #[.int .i64 F, .slice none 0 0] 25))) := hidR ⟨(hbl.block _ hwt).trans HT.out, Array.getElem?_push_size, ⟨rfl, .inl ⟨rfl, rfl⟩⟩, by omega, keepb hbl HB.out⟩
          clear hbl HRE HG HRt HT HB
          go_wp2_with fail
          revert HC0
          generalize wr.alloc (.cells #[.int .i64 F, .slice none 0 0] 25) = W1
          generalize wr.heap.size = Bt
          intro HC0
          clear hws hwt
          go_loopw [9] (fun i wr => ∃ (k : Nat) (vS : Value), k ≤ l.length ∧ i = .int .i64 k ∧ Hid (CnV w Bt F vS vS ((l.take k).foldl setF []) wr)) (fun i _ => l.length - (intOf i).toNat)
          case atStart => exact ⟨0, .slice none 0 0, by omega, rfl, HC0⟩
          case round =>
            clear HC0
            obtain ⟨k, vS, hk, rfl, HC⟩ := hrel
            by_cases hlt : (k : Int) < (l.length : Int)
            · have hks : k < l.length := by omega
              rcases HV.out with e | ⟨b, off, rfl, hc⟩
              · rw [e] at hks; simp at hks
              · obtain ⟨y0, y1, y2, y3⟩ := rwr_cells hc k hks
                have w1 : IntKind.i64.wrap ((k : Int) + 1) = ((k + 1 : Nat) : Int) := by rw [IntKind.wrap_i64]; push_cast; omega
                have HN : Hid ((l.take (k + 1)).foldl setF [] = setF ((l.take k).foldl setF []) l[k]) := hidR (by rw [List.take_succ_eq_append_getElem hks, List.foldl_append]; rfl)
                have hSl : ((l.take k).foldl setF []).length ≤ 1000000000 := by
                  have := fold_len (l.take k) []
                  rw [List.length_take] at this
                  simp at this
                  omega
                have HX : Hid (∀ W, Below w.heap.size w W → W.cell? ⟨b, off + k * 4, none⟩ = some (.int .u64 (hI l[k].1.1)) ∧ W.cell? ⟨b, off + k * 4 + 1, none⟩ = some (.int .u64 (lI l[k].1.1)) ∧ W.cell? ⟨b, off + k * 4 + 2, none⟩ = some (.int .i64 l[k].1.2) ∧ W.cell? ⟨b, off + k * 4 + 3, none⟩ = some (.int .i64 l[k].2)) := hidR (fun W hb => ⟨keepc hb y0, keepc hb y1, keepc hb y2, keepc hb y3⟩)
                clear y0 y1 y2 y3 hc
                revert HX HN hSl HC
                generalize (l.take k).foldl setF [] = S
                generalize l[k] = r
                obtain ⟨⟨px, pn⟩, ph⟩ := r
                dsimp only
                generalize hS2 : setF S ((px, pn), ph) = S2
                intro HC HN hSl HX
                have HS2 : Hid (setF S ((px, pn), ph) = S2) := hidR hS2
                have KS : Hid (∀ W, CnV w Bt F vS vS S W → Calls Try.prog 24 #[vS, .agg #[.int .u64 (hI px), .int .u64 (lI px), .int .i64 pn, .int .i64 ph]] W fun e w' => ∃ N, e = .returned (.slice (some ⟨(decN N).1, 0, none⟩) S2.length (decN N).2) ∧ CnV w Bt F vS (.slice (some ⟨(decN N).1, 0, none⟩) S2.length (decN N).2) S2 w') := hidR (fun W h => (rset_any (Bt + 1) vS S px pn ph W h.own (by have := blk_lt5 h.t; omega) hSl).mono (by
                  rintro e w' ⟨v', rfl, hp⟩
                  rw [HS2.out] at hp
                  have h2 := h.setd hp
                  have hpos : 0 < S2.length := by rw [← HS2.out]; exact setF_pos _ _
                  rcases h2.own.2 with ⟨e0, hn0⟩ | ⟨g', cap', cur, e0, -⟩
                  · exfalso; omega
                  · subst e0
                    obtain ⟨N, hN⟩ := decN_ex g' cap'
                    refine ⟨N, ?_, ?_⟩
                    · rw [hN]
                    · rw [hN]; exact h2))
                clear hS2 hSl
                go_wp2_with fail
                refine cl_region 7 6 (alOk (qpOk 7 6 (by decide) (fun N => by kernel_rfl) (by kernel_rfl) (by kernel_rfl) (by kernel_rfl) (by kernel_rfl)) (by decide) rfl rfl (by kernel_rfl)) (D := fun W => CnV w Bt F vS vS S W) (C1 := fun N W => CnV w Bt F vS (.slice (some ⟨(decN N).1, 0, none⟩) S2.length (decN N).2) S2 W) [some 42, some 43, some 44, some 45, some 46, some 47, some 48] (fun N => [.pointer (some ⟨Bt, 1, none⟩), vS, .slice (some ⟨b, off, none⟩) l.length c, .int .i64 (k : Int), .pointer (some ⟨b, off + k * 4, none⟩), .agg #[.int .u64 (hI px), .int .u64 (lI px), .int .i64 pn, .int .i64 ph], .slice (some ⟨(decN N).1, 0, none⟩) S2.length (decN N).2]) (fun N => .slice (some ⟨(decN N).1, 0, none⟩) S2.length (decN N).2) 48 [43, 47] (by kernel_rfl) rfl ?hA ?hrd ?hal (HC.out.below (below_drewN (Below.refl _ _) 1)) ?walk ?fin
                case hA => intro N; rfl
                case hrd => kernel_rfl
                case hal =>
                  intro W a' hC hr K Q' hK
                  have e43 : a'.tmps[43]? = some vS := (hr 43 (by simp)).trans (by simp only [putAll, Act.put, List.setIfInBounds_toArray, List.set_cons_zero, List.set_cons_succ]; rfl)
                  have e47 : a'.tmps[47]? = some (.agg #[.int .u64 (hI px), .int .u64 (lI px), .int .i64 pn, .int .i64 ph]) := (hr 47 (by simp)).trans (by simp only [putAll, Act.put, List.setIfInBounds_toArray, List.set_cons_zero, List.set_cons_succ]; rfl)
                  clear hr
                  unfold Oper.wp
                  simp [execOp, e43, e47, go_sem, Oper.upon]
                  refine (KS.out W hC).mono ?_
                  rintro e w' ⟨N, rfl, h⟩
                  exact hK N w' h
                case walk =>
                  intro N X hX
                  have hXD : ∀ W, X W → W.cell? ⟨Bt, 1, none⟩ = some vS ∧ W.cell? ⟨b, off + k * 4, none⟩ = some (.int .u64 (hI px)) ∧ W.cell? ⟨b, off + k * 4 + 1, none⟩ = some (.int .u64 (lI px)) ∧ W.cell? ⟨b, off + k * 4 + 2, none⟩ = some (.int .i64 pn) ∧ W.cell? ⟨b, off + k * 4 + 3, none⟩ = some (.int .i64 ph) := by
                    rcases hX with rfl | rfl
                    · exact fun W h => ⟨at_blk h.t 1 vS rfl, HX.out W h.low⟩
                    · exact fun W h => ⟨at_blk h.t 1 vS rfl, HX.out W h.low⟩
                  clear hX HC KS HX
                  dsimp only [rep, List.take, List.modify, List.modifyTailIdx, List.modifyTailIdx.go, List.modifyHead]
                  refine q_run (v := .pointer (some ⟨Bt, 1, none⟩)) (by rfl) ?_ ?_
                  · (intro w1 hC; obtain ⟨a1, x0, x1, x2, x3⟩ := hXD w1 hC; clear hC; go_simp; first | done | (simp; done) | (simp [*]; done) | omega | (simp; omega) | (simp [*]; omega) | rfl)
                  simp only [Act.put, List.setIfInBounds_toArray, List.set_cons_zero, List.set_cons_succ]
                  refine q_run (v := vS) (by rfl) ?_ ?_
                  · (intro w1 hC; obtain ⟨a1, x0, x1, x2, x3⟩ := hXD w1 hC; clear hC; go_simp; first | done | (simp; done) | (simp [*]; done) | omega | (simp; omega) | (simp [*]; omega) | rfl)
                  simp only [Act.put, List.setIfInBounds_toArray, List.set_cons_zero, List.set_cons_succ]
                  refine q_run (v := .slice (some ⟨b, off, none⟩) l.length c) (by rfl) ?_ ?_
                  · (intro w1 hC; obtain ⟨a1, x0, x1, x2, x3⟩ := hXD w1 hC; clear hC; go_simp; first | done | (simp; done) | (simp [*]; done) | omega | (simp; omega) | (simp [*]; omega) | rfl)
                  simp only [Act.put, List.setIfInBounds_toArray, List.set_cons_zero, List.set_cons_succ]
                  refine q_run (v := .int .i64 (k : Int)) (by rfl) ?_ ?_
                  · (intro w1 hC; obtain ⟨a1, x0, x1, x2, x3⟩ := hXD w1 hC; clear hC; go_simp; first | done | (simp; done) | (simp [*]; done) | omega | (simp; omega) | (simp [*]; omega) | rfl)
                  simp only [Act.put, List.setIfInBounds_toArray, List.set_cons_zero, List.set_cons_succ]
                  refine q_run (v := .pointer (some ⟨b, off + k * 4, none⟩)) (by rfl) ?_ ?_
                  · (intro w1 hC; obtain ⟨a1, x0, x1, x2, x3⟩ := hXD w1 hC; clear hC; go_simp; first | done | (simp; done) | (simp [*]; done) | omega | (simp; omega) | (simp [*]; omega) | rfl)
                  simp only [Act.put, List.setIfInBounds_toArray, List.set_cons_zero, List.set_cons_succ]
                  refine q_run (v := .agg #[.int .u64 (hI px), .int .u64 (lI px), .int .i64 pn, .int .i64 ph]) (by rfl) ?_ ?_
                  · (intro w1 hC; obtain ⟨a1, x0, x1, x2, x3⟩ := hXD w1 hC; clear hC; go_simp; first | done | (simp; done) | (simp [*]; done) | omega | (simp; omega) | (simp [*]; omega) | rfl)
                  simp only [Act.put, List.setIfInBounds_toArray, List.set_cons_zero, List.set_cons_succ]
                  refine q_run (v := .slice (some ⟨(decN N).1, 0, none⟩) S2.length (decN N).2) (by rfl) ?_ ?_
                  · (intro w1 hC; obtain ⟨a1, x0, x1, x2, x3⟩ := hXD w1 hC; clear hC; go_simp; first | done | (simp; done) | (simp [*]; done) | omega | (simp; omega) | (simp [*]; omega) | rfl)
                  simp only [Act.put, List.setIfInBounds_toArray, List.set_cons_zero, List.set_cons_succ]
                  refine wpQuiet_nil ?_
                  simp only [putAll, Act.put, List.setIfInBounds_toArray, List.set_cons_zero, List.set_cons_succ]
                case fin =>
                  intro N W hC
                  simp only [putAll, Act.put, List.setIfInBounds_toArray, List.set_cons_zero, List.set_cons_succ]
                  dsimp only [List.drop]
                  have c1 := at_blk hC.t 1 vS rfl
                  have d1 := fr_blk5 (j := 1) hC.t
                  have HC2 := hidR hC.put
                  clear hC HC KS HX
                  go_wp2_with fail
                  go_roundw
                  case rel => exact ⟨k + 1, _, by omega, rfl, by rw [HN.out]; exact HC2⟩
                  case measure => simp [intOf]; omega
            · obtain rfl : k = l.length := by omega
              rw [List.take_length] at HC
              have hl2 := HC.out.lt
              have hown := own_form HC.out.own
              obtain ⟨so, sc, rfl⟩ := hown
              have s0 := at_blk HC.out.t 0 (.int .i64 F) rfl
              have s1 := at_blk HC.out.t 1 _ rfl
              have c0 := at_blk HC.out.res 0 (.int .i64 0) rfl
              have c1 := at_blk HC.out.res 1 (.slice none 0 0) rfl
              have d0 := fr_blk5 (j := 0) HC.out.res
              have d1 := fr_blk5 (j := 1) HC.out.res
              have HF : Hid (RcnQ F l w (.returned (.tuple #[.agg #[.int .i64 F, .slice so (l.foldl setF []).length sc], .int .i64 0])) ((wr.setCell ⟨w.heap.size, 0, none⟩ (.int .i64 F)).setCell ⟨w.heap.size, 1, none⟩ (.slice so (l.foldl setF []).length sc))) := hidR ⟨⟨_, _, by rw [if_pos HE.out, HE.out], rfl, by
                rw [if_pos HE.out]
                exact own_wide (own_heap HC.out.own (fun z e => by have := (HC.out.own.lt z e).1; rw [hSet _ (by omega), hSet _ (by omega)])) (by omega)⟩, (HC.out.low.setCell (Nat.le_refl _) _).setCell (Nat.le_refl _) _⟩
              clear HC
              generalize (l.foldl setF []).length = sl at *
              go_wp2
              exact bodyPost_ret (v := .tuple #[.agg #[.int .i64 F, .slice so sl sc], .int .i64 0]) (by simp [results, Try.results10, go_sem, c0, c1]) rfl HF.out
end Go.Proofs.Ytmeaikmmhgmgnaa
/-
  Rows of words in memory.
-/
namespace Go.Proofs.Ytmeaikmmhgmgnaa
open Go.RowKit
set_option linter.unusedSimpArgs false
set_option linter.unusedVariables false

def rowW : List (BitVec 128) → List Value
  | [] => []
  | x :: l => .int .u64 (hI x) :: .int .u64 (lI x) :: rowW l
theorem rowW_app : ∀ l m, rowW (l ++ m) = rowW l ++ rowW m := by
  intro l
  induction l with
  | nil => intro m; rfl
  | cons p l ih => intro m; simp [rowW, ih]
theorem rowW_one (l : List (BitVec 128)) (x : BitVec 128) : rowW (l ++ [x]) = rowW l ++ [.int .u64 (hI x), .int .u64 (lI x)] := by rw [rowW_app]; rfl
theorem rowW_len : ∀ l, (rowW l).length = l.length * 2 := by
  intro l
  induction l with
  | nil => rfl
  | cons p l ih => simp only [rowW, List.length_cons, ih]; omega
theorem rowW_get : ∀ (l : List (BitVec 128)) (j : Nat) (hj : j < l.length), (rowW l)[j * 2]? = some (.int .u64 (hI l[j])) ∧ (rowW l)[j * 2 + 1]? = some (.int .u64 (lI l[j])) := by
  intro l
  induction l with
  | nil => intro j hj; simp at hj
  | cons p l ih =>
    intro j hj
    cases j with
    | zero => simp [rowW]
    | succ j =>
      have := ih j (by simpa using hj)
      rw [show (j + 1) * 2 = j * 2 + 2 by omega, show j * 2 + 2 + 1 = j * 2 + 1 + 2 by omega]
      simpa [rowW] using this
theorem ownW_cells {W : World} {base n g c : Nat} {l : List (BitVec 128)} (h : W.ownsRow base 36 2 (.slice (some ⟨g, 0, none⟩) n c) n (rowW l)) (j : Nat) (hj : j < l.length) :
    W.cell? ⟨g, j * 2, none⟩ = some (.int .u64 (hI l[j])) ∧ W.cell? ⟨g, j * 2 + 1, none⟩ = some (.int .u64 (lI l[j])) := by
  obtain ⟨a, b⟩ := rowW_get l j hj
  have e : ∀ k, (⟨g, 0, none⟩ : Addr).add k = ⟨g, k, none⟩ := fun k => by unfold Addr.add; split <;> simp_all
  have f := fun k u => h.cells (g := g) rfl k u
  exact ⟨by have := f _ _ a; rwa [e] at this, by have := f _ _ b; rwa [e] at this⟩
theorem rowW_set (L : List (BitVec 128)) (k : Nat) (q : BitVec 128) : ((rowW L).set (k * 2) (.int .u64 (hI q))).set (k * 2 + 1) (.int .u64 (lI q)) = if k < L.length then rowW (L.set k q) else rowW L := by
  induction L generalizing k with
  | nil => simp [rowW]
  | cons p L ih =>
    cases k with
    | zero => simp [rowW]
    | succ k =>
      have := ih k
      rw [show (k + 1) * 2 = k * 2 + 1 + 1 by omega, show k * 2 + 1 + 1 + 1 = k * 2 + 1 + 1 + 1 by omega]
      simp only [rowW, List.set_cons_succ, List.length_cons, Nat.add_lt_add_iff_right]
      rw [this]
      split <;> rfl
theorem Try.infoWd : (Try.prog.info? 36).map (fun i => (i.zero, i.size, i.bytes)) = some (some (.agg #[.int .u64 0, .int .u64 0]), 2, 16) := by kernel_rfl
theorem newsWd (W : World) (a b : Value) (t : TypeId) : ∀ j u, [a, b][j]? = some u → (W.alloc (.cells #[a, b] t)).cell? ((⟨W.heap.size, 0, none⟩ : Addr).add j) = some u := by
  intro j u hj
  match j, hj with
  | 0, hj => simp at hj; subst hj; simp [Addr.add, go_sem]
  | 1, hj => simp at hj; subst hj; simp [Addr.add, go_sem]
theorem twoW (a b : Int) : ∀ u ∈ [Value.int .u64 a, Value.int .u64 b], u.oneCell' = true := by
  intro u hu; simp at hu; rcases hu with rfl | rfl <;> rfl
/-- A row's cells are there, and may be written. -/
theorem own_cell6 {W : World} {base e size n g cap : Nat} {xs : List Value} (h : W.ownsRow base e size (.slice (some ⟨g, 0, none⟩) n cap) n xs) (j : Nat) (hj : j < n * size) : (∃ u, W.cell? ⟨g, j, none⟩ = some u) ∧ W.frozen? ⟨g, j, none⟩ = false := by
  rcases h.2 with ⟨h', _⟩ | ⟨g', cap', cur, h', hb, hg, hnc, hcm, hcs, htake⟩
  · cases h'
  · simp only [Value.slice.injEq, Option.some.injEq, Addr.mk.injEq, and_true, true_and] at h'
    obtain ⟨rfl, rfl⟩ := h'
    have hs : j < cur.size := by
      rw [hcs]
      exact Nat.lt_of_lt_of_le hj (Nat.mul_le_mul_right _ hnc)
    refine ⟨⟨cur[j], ?_⟩, ?_⟩
    · simp [World.cell?, hg, hs]
    · simp [World.frozen?, hg]
/-- What put leaves of memory: the row is changed in its own place, or made anew. -/
def PtO (base : Nat) (v : Value) (S : List (BitVec 128)) (w : World) (v' : Value) (w' : World) : Prop := w'.ownsRow base 36 2 v' S.length (rowW S) ∧ w.grownBy w' v.ownBlock ∧ (∀ z, v'.ownBlock = some z → v.ownBlock = some z ∨ w.heap.size ≤ z)
theorem set_midW (S : List (BitVec 128)) (k : Nat) (hk : k ≤ S.length) (d q : BitVec 128) : (S.take k ++ d :: S.drop k).set k q = S.take k ++ q :: S.drop k := by
  rw [List.set_append_right _ _ (by simp; omega)]
  congr 1
  have : k - (S.take k).length = 0 := by simp; omega
  rw [this]
  rfl
theorem mid_backW (S : List (BitVec 128)) (k : Nat) (hk : k < S.length) : S.take (k + 1) ++ S[k] :: S.drop (k + 1) = S.take k ++ S[k] :: S.drop k := by
  rw [List.take_succ_eq_append_getElem hk, List.append_assoc]
  congr 1
  rw [List.drop_eq_getElem_cons hk]
  rfl
theorem mid_getW (S : List (BitVec 128)) (k : Nat) (hk : k < S.length) (d : BitVec 128) (h : k < (S.take (k + 1) ++ d :: S.drop (k + 1)).length) : (S.take (k + 1) ++ d :: S.drop (k + 1))[k] = S[k] := by
  rw [List.getElem_append_left (by simp; omega), List.getElem_take]
/-- Words in order, each once, with another one. -/
def PutS (S : List (BitVec 128)) (x : BitVec 128) (T : List (BitVec 128)) : Prop := T.Pairwise (fun a b => a.toNat < b.toNat) ∧ (∀ y, y ∈ T ↔ (y = x ∨ y ∈ S)) ∧ T.length ≤ S.length + 1
theorem put_there (S : List (BitVec 128)) (x : BitVec 128) (hS : S.Pairwise (fun a b => a.toNat < b.toNat)) (h : x ∈ S) : PutS S x S :=
  ⟨hS, fun y => ⟨.inr, fun q => by rcases q with rfl | q; exact h; exact q⟩, by omega⟩
theorem put_new (S : List (BitVec 128)) (x : BitVec 128) (hS : S.Pairwise (fun a b => a.toNat < b.toNat)) (k : Nat) (hk : k ≤ S.length) (h1 : ∀ q ∈ S.drop k, x.toNat < q.toNat) (h2 : ∀ (h : 0 < k), (S[k - 1]'(by omega)).toNat < x.toNat) : PutS S x (S.take k ++ x :: S.drop k) := by
  refine ⟨?_, ?_, by simp; omega⟩
  · have hs : (S.take k ++ S.drop k).Pairwise (fun a b => a.toNat < b.toNat) := by rw [List.take_append_drop]; exact hS
    obtain ⟨p1, p2, p3⟩ := List.pairwise_append.mp hs
    have h3 : ∀ a ∈ S.take k, a.toNat < x.toNat := by
      intro a ha
      by_cases h0 : 0 < k
      · have h2 := h2 h0
        obtain ⟨i, hi, rfl⟩ := List.mem_iff_getElem.mp ha
        have hi' : i < k := by simp at hi; omega
        rw [List.getElem_take]
        by_cases e : i = k - 1
        · subst e; exact h2
        · have := List.pairwise_iff_getElem.mp hS i (k - 1) (by omega) (by omega) (by omega)
          omega
      · have : k = 0 := by omega
        subst this
        simp at ha
    refine List.pairwise_append.mpr ⟨p1, List.pairwise_cons.mpr ⟨h1, p2⟩, ?_⟩
    intro a ha b hb
    rcases List.mem_cons.mp hb with rfl | q
    · exact h3 a ha
    · exact p3 a ha b q
  · intro y
    have e : y ∈ S ↔ y ∈ S.take k ∨ y ∈ S.drop k := by rw [← List.mem_append, List.take_append_drop]
    rw [List.mem_append, List.mem_cons, e]
    constructor
    · rintro (q | q | q)
      · exact .inr (.inl q)
      · exact .inl q
      · exact .inr (.inr q)
    · rintro (q | q | q)
      · exact .inr (.inl q)
      · exact .inl q
      · exact .inr (.inr q)
end Go.Proofs.Ytmeaikmmhgmgnaa
/-
  A table whose neighbours are in order is in order.
-/
namespace Go.Proofs.Ytmeaikmmhgmgnaa
open Go.RowKit

theorem ord_adj {l : List Rte} (h : Adj l) : OrdR l := by
  intro a b hb hab
  induction b with
  | zero => omega
  | succ b ih =>
    have h1 := (pcmp_lt _ _ _ _).1 (h b hb)
    rcases Nat.lt_or_eq_of_le (Nat.le_of_lt_succ hab) with q | q
    · have h2 := (pcmp_lt _ _ _ _).1 (ih (by omega) q)
      refine (pcmp_lt _ _ _ _).2 ?_
      omega
    · subst q
      exact h a hb
end Go.Proofs.Ytmeaikmmhgmgnaa
/-
  What the calls of the law's SameRoutes, Same (of two that are the same) and Right do.
-/
namespace Go.Proofs.Ytmeaikmmhgmgnaa
open Go.RowKit
set_option linter.unusedSimpArgs false
set_option linter.unusedVariables false

theorem eqR_run (x : BitVec 128) (n h : Int) (w : World) :
    (Op.equalIn 10000 40 (.agg #[.int .u64 (hI x), .int .u64 (lI x), .int .i64 n, .int .i64 h]) (.agg #[.int .u64 (hI x), .int .u64 (lI x), .int .i64 n, .int .i64 h])).run Try.prog w = .ok true w := by
  go_simp
set_option maxHeartbeats 4000000 in
theorem sameRoutes_any (v u : Value) (l : List Rte) (w : World) (hv : RwR w v l) (hu : RwR w u l) (hl : l.length ≤ 1000000000) :
    Calls Try.prog 25 #[v, u] w fun e w' => e = .returned (.bool true) ∧ Below w.heap.size w w' := by
  obtain ⟨ao, c, rfl, hv⟩ := hv
  obtain ⟨au, d, rfl, hu⟩ := hu
  have HV := hidR hv
  have HU := hidR hu
  clear hv hu
  go_enter Try.func25, Try.ntmps25
  go_wp2_with fail
  go_loopw [5] (fun i wr => ∃ k : Nat, k ≤ l.length ∧ i = .int .i64 k ∧ Below w.heap.size w wr) (fun i _ => l.length - (intOf i).toNat)
  case atStart => exact ⟨0, by omega, rfl, Below.refl _ _⟩
  case round =>
    obtain ⟨k, hk, rfl, hB⟩ := hrel
    by_cases hlt : (k : Int) < (l.length : Int)
    · have hks : k < l.length := by omega
      rcases HV.out with e | ⟨b, off, rfl, hc⟩
      · rw [e] at hks; simp at hks
      · rcases HU.out with e | ⟨b', off', rfl, hc'⟩
        · rw [e] at hks; simp at hks
        · obtain ⟨x0, x1, x2, x3⟩ := rwr_cells hc k hks
          obtain ⟨y0, y1, y2, y3⟩ := rwr_cells hc' k hks
          have x0 := keepc hB x0
          have x1 := keepc hB x1
          have x2 := keepc hB x2
          have x3 := keepc hB x3
          have y0 := keepc hB y0
          have y1 := keepc hB y1
          have y2 := keepc hB y2
          have y3 := keepc hB y3
          have hE := fun w => eqR_run l[k].1.1 l[k].1.2 l[k].2 w
          generalize l[k].1.1 = px at *
          generalize l[k].1.2 = pn at *
          generalize l[k].2 = ph at *
          have mk : IntKind.i64.wrap ((k : Int) + 1) = (k : Int) + 1 := by rw [IntKind.wrap_i64]; omega
          clear hc hc' HV HU
          go_wp2_with fail
          go_quiet (fail)
          go_wp2
          go_roundw
          case rel => exact ⟨k + 1, by omega, by go_num, below_drewN hB _⟩
          case measure => simp [intOf]; omega
    · have hd : ¬ k < l.length := by omega
      clear HV HU
      go_wp2
      go_ret
      exact ⟨rfl, hB⟩
set_option maxHeartbeats 2000000 in
theorem sameT_any (F : Int) (v u : Value) (l : List Rte) (w : World) (hv : RwR w v l) (hu : RwR w u l) (hl : l.length ≤ 1000000000) :
    Calls Try.prog 11 #[.agg #[.int .i64 F, v], .agg #[.int .i64 F, u]] w fun e w' => e = .returned (.bool true) ∧ Below w.heap.size w w' := by
  have b1 := bl1 w (.cells #[.int .i64 F, v] 25)
  have b2 := bl1 (w.alloc (.cells #[.int .i64 F, v] 25)) (.cells #[.int .i64 F, u] 25)
  have KS := sameRoutes_any v u l _ ((hv.below b1).below b2) ((hu.below b1).below b2) hl
  obtain ⟨p0, p1⟩ := (att_new w w.heap.size F v 25 rfl).below b2
  obtain ⟨q0, q1⟩ := att_new (w.alloc (.cells #[.int .i64 F, v] 25)) (w.heap.size + 1) F u 25 (by simp)
  have HB := hidR (keepb b2 b1)
  obtain ⟨ao, c, rfl, -⟩ := hv
  obtain ⟨au, d, rfl, -⟩ := hu
  clear b1 b2
  go_enter Try.func11, Try.ntmps11
  go_wp2_with fail
  refine KS.mono ?_
  rintro e w1 ⟨rfl, hb⟩
  have kB := keepb hb HB.out
  clear KS hb HB p0 p1 q0 q1
  go_wp2
  go_ret
  exact ⟨rfl, kB⟩
/-- Is a table right? -/
def RightT (F : Int) (l : List Rte) : Prop := l.length ≤ 3000 ∧ rtsE F l = 0 ∧ Adj l
set_option maxHeartbeats 2000000 in
theorem rightT_any (F : Int) (v : Value) (l : List Rte) (w : World) (hv : RwR w v l) :
    Calls Try.prog 12 #[.agg #[.int .i64 F, v]] w fun e w' => (∃ r : Bool, (r = true → RightT F l) ∧ e = .returned (.bool r)) ∧ Below w.heap.size w w' := by
  have b1 := bl1 w (.cells #[.int .i64 F, v] 25)
  have KC := rcheckT_any F v l _ (hv.below b1)
  obtain ⟨p0, p1⟩ := att_new w w.heap.size F v 25 rfl
  have HB := hidR b1
  obtain ⟨ao, c, rfl, -⟩ := hv
  clear b1
  by_cases hl : l.length ≤ 3000
  · have h1 : (l.length : Int) ≤ 3000 := by omega
    go_enter Try.func12, Try.ntmps12
    go_wp2_with fail
    refine KC.mono ?_
    rintro e w1 ⟨⟨z, hz, rfl⟩, hb⟩
    have kB := keepb hb HB.out
    have HE : Hid ((z == 0) = true → RightT F l) := hidR (fun h => by
      have h0 : z = 0 := by simpa using h
      subst h0
      have hr : rtsE F l = 0 := Classical.byContradiction fun hn => hn (hz.1 hn).symm
      refine ⟨hl, hr, ?_⟩
      rcases hz.2 hr with ⟨q, -⟩ | ⟨-, q⟩
      · exact q
      · omega)
    clear KC hb HB p0 p1 hz
    go_wp2
    go_ret
    exact ⟨⟨z == 0, HE.out, rfl⟩, kB⟩
  · have h1 : ¬ (l.length : Int) ≤ 3000 := by omega
    clear KC
    go_enter Try.func12, Try.ntmps12
    go_wp2
    go_ret
    exact ⟨.inl rfl, HB.out⟩
end Go.Proofs.Ytmeaikmmhgmgnaa
