/-
  Part 25 of the proof: 3 texts, one behind the other.
-/
import Derived.Test.YtmeaikmmhgmgnabPart21
import Derived.Test.YtmeaikmmhgmgnabPart24
import Derived.Test.YtmeaikmmhgmgnabPart7
import Derived.Test.YtmeaikmmhgmgnabRows
import Derived.ProofKit
import Derived.Lib.SmallJoins
import Derived.Test.YtmeaikmmhgmgnabPart3
import Derived.Deep.Slices
import Derived.Deep.Strs
import Derived.Carry
/-
  TableOwn: what is told is the caller's own.
-/
namespace Go.Proofs.Ytmeaikmmhgmgnab
open Go.RowKit Go.Shelf
set_option linter.unusedSimpArgs false
set_option linter.unusedVariables false

def cZ (F : Int) (l : List Rte) : Int := rtsE F l
def cF (F : Int) (l : List Rte) : Int := if rtsE F l = 0 then F else 0
def cS (F : Int) (l : List Rte) : List Rte := if rtsE F l = 0 then l.foldl setF [] else []
theorem cS_len (F : Int) (l : List Rte) (hl : l.length ≤ 3000) : (cS F l).length ≤ 3000 := by
  unfold cS
  split
  · have := fold_len l []; simp at this; omega
  · simp
theorem canonS_any (F : Int) (v : Value) (l : List Rte) (W : World) (base : Nat) (h : W.ownsRow base 35 4 v l.length (rowR l)) :
    Calls Try.prog 5 #[.int .i64 F, v] W fun e w' => (∃ uo uc, e = .returned (.tuple #[.agg #[.int .i64 (cF F l), .slice uo (cS F l).length uc], .int .i64 (cZ F l)]) ∧ w'.ownsRow W.heap.size 35 4 (.slice uo (cS F l).length uc) (cS F l).length (rowR (cS F l))) ∧ Below W.heap.size W w' := by
  refine (canon_any F v l W (own_row h)).mono ?_
  rintro e w' ⟨⟨u, S, rfl, hS, ho⟩, hb⟩
  have hS' : S = cS F l := hS
  subst hS'
  obtain ⟨uo, uc, rfl⟩ := own_form ho
  exact ⟨⟨uo, uc, rfl, ho⟩, hb⟩
theorem Bt.own {M : Nat → Prop} {V W : World} (h : Bt M V W) {base e size n : Nat} {v : Value} {xs : List Value} (ho : V.ownsRow base e size v n xs) (hn : ∀ z, v.ownBlock = some z → ¬ M z) : W.ownsRow base e size v n xs := own_heap ho (fun z e => h.blk z (ho.lt z e).2 (hn z e))
theorem Bt.lowM {M : Nat → Prop} {w V W : World} (h : Bt M V W) (hb : Below w.heap.size w V) (hM : ∀ z, M z → w.heap.size ≤ z) : Below w.heap.size w W := ⟨by rw [h.os, hb.os], by rw [h.tape, hb.tape], by rw [h.output, hb.output], Nat.le_trans hb.size h.size, fun z hz => by rw [h.blk z (by have := hb.size; omega) (fun q => by have := hM z q; omega), hb.block z hz]⟩
theorem Bt.set1 {M : Nat → Prop} {V W : World} {g o : Nat} (h : Bt M V W) (hg : M g ∨ V.heap.size ≤ g) (u : Value) : Bt M V (W.setCell ⟨g, o, none⟩ u) := by
  have b : Below 0 W (W.setCell ⟨g, o, none⟩ u) := (Below.refl _ _).setCell (Nat.zero_le _) u
  refine ⟨by rw [b.os, h.os], by rw [b.tape, h.tape], by rw [b.output, h.output], Nat.le_trans h.size b.size, fun z h1 h2 => ?_⟩
  rw [Below.heap_setCell W ⟨g, o, none⟩ u z (by
    rintro rfl
    rcases hg with q | q
    · exact h2 q
    · omega)]
  exact h.blk z h1 h2
theorem Bt.grownM {M : Nat → Prop} {V W X : World} {r : Option Nat} (h : Bt M V W) (hg : W.grownBy X r) (hr : ∀ z, r = some z → M z ∨ V.heap.size ≤ z) : Bt M V X :=
  ⟨by rw [hg.os, h.os], by rw [hg.tape, h.tape], by rw [hg.output, h.output], Nat.le_trans h.size hg.size, fun z h1 h2 => by
    rw [hg.block z (by have := h.size; omega) (fun e => by rcases hr z e.symm with q | q; exact h2 q; omega)]
    exact h.blk z h1 h2⟩
theorem row_hop (D : List Rte) (i : Nat) (r : Rte) (h : Int) (hi : D[i]? = some r) : (rowR D).set (i * 4 + 3) (.int .i64 h) = rowR (D.set i (r.1, h)) := by
  have hlt := (List.getElem?_eq_some_iff.mp hi).1
  rw [rowR_set D i (r.1, h) hlt]
  obtain ⟨b0, b1, b2, -⟩ := rowR_get D i hlt
  have e : D[i] = r := (List.getElem?_eq_some_iff.mp hi).2
  rw [e] at b0 b1 b2
  have k : ∀ (xs : List Value) (j : Nat) (u : Value), xs[j]? = some u → xs.set j u = xs := fun xs j u hu => by
    obtain ⟨h1, h2⟩ := List.getElem?_eq_some_iff.mp hu
    rw [← h2]; exact List.set_getElem_self h1
  rw [k _ _ _ b0, k _ _ _ b1, k _ _ _ b2]
theorem own_blk {W : World} {base e size n : Nat} {v : Value} {xs : List Value} (h : W.ownsRow base e size v n xs) (z : Nat) (hz : v.ownBlock = some z) : ∃ cur, W.heap[z]? = some (.cells cur e (0, 0)) := by
  rcases h.2 with ⟨e0, _⟩ | ⟨g, cap, cur, e0, _, hg, _⟩
  · rw [e0] at hz; cases hz
  · rw [e0] at hz
    have : some g = some z := hz
    injection this with this
    subst this
    exact ⟨cur, hg⟩
/-- A row of routes for growing. -/
abbrev OwR (W : World) (base : Nat) (v : Value) (l : List Rte) : Prop := W.ownsRow base 35 4 v l.length (rowR l)
set_option maxRecDepth 100000 in
set_option maxHeartbeats 64000000 in
theorem tableOwn_any (F0 : Int) (v : Value) (l : List Rte) (F : Int) (w : World) (hv : RwR w v l) (hA : RowA w 4 v l.length (rowR l)) :
    Calls Try.prog 3 #[.agg #[.int .i64 F0, v], .int .i64 F] w fun e w' => e = .returned (.bool true) ∧ Below w.heap.size w w' := by
  obtain ⟨i0, hi, hz0, hz1, hz2⟩ := info_parts Try.infoR
  have q1 := bl1 w (.cells #[.int .i64 F0, v] 24)
  have HB0 := hidX q1
  have HT0 : Hid ((w.alloc (.cells #[.int .i64 F0, v] 24)).heap[w.heap.size]? = some (.cells #[.int .i64 F0, v] 24)) := hidX Array.getElem?_push_size
  have KK := fun W => known5_any W
  have HVw := hidX hv
  have HAw := hidX hA
  obtain ⟨ao, c, rfl, -⟩ := hv
  clear q1 hA
  go_enter Try.func3, Try.ntmps3
  go_wp2_with fail
  refine (KK _).mono ?_
  rintro e w1 ⟨rfl, hb⟩
  have HB1 := hidX (keepb hb HB0.out)
  have HT1 : Hid (w1.heap[w.heap.size]? = some (.cells #[.int .i64 F0, .slice ao l.length c] 24)) := hidX ((hb.block _ (blk_lt5 HT0.out)).trans HT0.out)
  clear KK hb HB0 HT0
  have t1 := at_blk HT1.out 1 (.slice ao l.length c) rfl
  by_cases hl : (3000 : Int) < (l.length : Int)
  · go_wp2
    exact bodyPost_ret (v := .bool true) (by simp [results, Try.results3, go_sem]) rfl ⟨rfl, HB1.out⟩
  have hl3 : l.length ≤ 3000 := by omega
  have hSl : (cS F l).length ≤ 3000 := cS_len F l hl3
  -- mine
  have q2 := bl1 w1 (.cells #[] 35)
  have HO2 : Hid ((w1.alloc (.cells #[] 35)).ownsRow w1.heap.size 35 4 (.slice (some ⟨w1.heap.size, 0, none⟩) 0 0) 0 []) := hidX ⟨rfl, .inr ⟨w1.heap.size, 0, #[], rfl, Nat.le_refl _, Array.getElem?_push_size, Nat.le_refl _, by unfold maxLen; omega, rfl, rfl⟩⟩
  have HB2 := hidX q2
  have HA2 := hidX ((HAw.out.below HB1.out).below q2)
  have t1' : (w1.alloc (.cells #[] 35)).cell? ⟨w.heap.size, 1, none⟩ = some (.slice ao l.length c) := keepc q2 t1
  clear q2
  go_wp2_with (at_builtin; apply stopHereW)
  refine (show wpList _ _ _ _ _ _ from ?_)
  clear t1 t1'
  revert HO2 HB2 HA2
  generalize w1.alloc (.cells #[] 35) = w2
  intro HO2 HB2 HA2
  refine wpList_append_rowA rfl _ _ 22 rfl w1.heap.size 35 i0 (.agg #[.int .u64 0, .int .u64 0, .int .i64 0, .int .i64 0]) 4 32 Try.underlying22 hi hz0 hz1 hz2 rfl (by decide) _ 0 [] rfl HO2.out _ l.length (rowR l) rfl HA2.out (rowR_cell5 l) (by unfold maxLen; omega) (by omega) HB2.out.size ?_
  intro mo mc w3 ho hg
  have hBb : Below w1.heap.size w1 w3 := by
    refine HB2.out.trans ⟨hg.os, hg.tape, hg.output, hg.size, fun z hz => hg.block z (by have := HB2.out.size; omega) (fun e => ?_)⟩
    have : z = w1.heap.size := Option.some.inj e
    omega
  have HM3 : Hid (OwR w3 w1.heap.size (.slice mo l.length mc) l) := hidX (by rw [List.nil_append] at ho; simpa using ho)
  have HT3 : Hid (w3.heap[w.heap.size]? = some (.cells #[.int .i64 F0, .slice ao l.length c] 24)) := hidX ((hBb.block _ (blk_lt5 HT1.out)).trans HT1.out)
  have HB3 := hidX (keepb hBb HB1.out)
  have hn1 := blk_lt5 HT1.out
  have hn13 : w1.heap.size ≤ w3.heap.size := hBb.size
  clear ho hg hBb HO2 HB2 HA2 HT1 HB1
  generalize w1.heap.size = n1 at *
  -- a
  have KC := canonS_any F _ l w3 n1 HM3.out
  go_wp2_with fail
  refine KC.mono ?_
  rintro e w4 ⟨⟨uo, uc, rfl, ho⟩, hb⟩
  have k1 := bl1 w4 (.cells #[.int .i64 (cF F l), .slice uo (cS F l).length uc] 24)
  have kb := keepb k1 hb
  have HM5 := hidX (own_below kb HM3.out)
  have HU5 := hidX (own_below k1 ho)
  have HB5 := hidX (keepb kb HB3.out)
  have HT5 : Hid ((w4.alloc (.cells #[.int .i64 (cF F l), .slice uo (cS F l).length uc] 24)).heap[w.heap.size]? = some (.cells #[.int .i64 F0, .slice ao l.length c] 24)) := hidX ((kb.block _ (blk_lt5 HT3.out)).trans HT3.out)
  have HQ5 : Hid ((w4.alloc (.cells #[.int .i64 (cF F l), .slice uo (cS F l).length uc] 24)).heap[w4.heap.size]? = some (.cells #[.int .i64 (cF F l), .slice uo (cS F l).length uc] 24)) := hidX Array.getElem?_push_size
  have HMn : Hid (∀ z, Value.ownBlock (.slice mo l.length mc) = some z → n1 ≤ z ∧ z < w3.heap.size) := hidX (fun z e => HM3.out.lt z e)
  have hn34 : w3.heap.size ≤ w4.heap.size := hb.size
  clear KC hb ho k1 kb HM3 HB3 HT3
  go_wp2_with fail
  revert HM5 HU5 HB5 HT5 HQ5
  generalize w4.alloc (.cells #[.int .i64 (cF F l), .slice uo (cS F l).length uc] 24) = w5
  generalize w4.heap.size = b6 at *
  generalize w3.heap.size = n3 at *
  intro HM5 HU5 HB5 HT5 HQ5
  -- b
  have KC := canonS_any F _ l w5 n1 HM5.out
  refine KC.mono ?_
  rintro e w6 ⟨⟨vo, vc, rfl, ho⟩, hb⟩
  have k1 := bl1 w6 (.cells #[.int .i64 (cF F l), .slice vo (cS F l).length vc] 24)
  have kb := keepb k1 hb
  have HM7 := hidX (own_below kb HM5.out)
  have HU7 := hidX (own_below kb HU5.out)
  have HV7 := hidX (own_below k1 ho)
  have HB7 := hidX (keepb kb HB5.out)
  have HT7 : Hid ((w6.alloc (.cells #[.int .i64 (cF F l), .slice vo (cS F l).length vc] 24)).heap[w.heap.size]? = some (.cells #[.int .i64 F0, .slice ao l.length c] 24)) := hidX ((kb.block _ (blk_lt5 HT5.out)).trans HT5.out)
  have HQ7 : Hid ((w6.alloc (.cells #[.int .i64 (cF F l), .slice vo (cS F l).length vc] 24)).heap[b6]? = some (.cells #[.int .i64 (cF F l), .slice uo (cS F l).length uc] 24)) := hidX ((kb.block _ (blk_lt5 HQ5.out)).trans HQ5.out)
  have HP7 : Hid ((w6.alloc (.cells #[.int .i64 (cF F l), .slice vo (cS F l).length vc] 24)).heap[w6.heap.size]? = some (.cells #[.int .i64 (cF F l), .slice vo (cS F l).length vc] 24)) := hidX Array.getElem?_push_size
  have HUn : Hid (∀ z, Value.ownBlock (.slice uo (cS F l).length uc) = some z → n3 ≤ z ∧ z < w5.heap.size ∧ z ≠ b6) := hidX (fun z e => ⟨(HU5.out.lt z e).1, (HU5.out.lt z e).2, fun q => by
    obtain ⟨cur, hcur⟩ := own_blk HU5.out z e
    rw [q, HQ5.out] at hcur
    injection hcur with hcur
    injection hcur with _ h2
    exact absurd h2 (by decide)⟩)
  have hn56 : w5.heap.size ≤ w6.heap.size := hb.size
  have hb65 : b6 < w5.heap.size := blk_lt5 HQ5.out
  clear KC hb ho k1 kb HM5 HU5 HB5 HT5 HQ5
  have p1 := at_blk HP7.out 1 (.slice vo (cS F l).length vc) rfl
  -- was
  have q2 := bl1 (w6.alloc (.cells #[.int .i64 (cF F l), .slice vo (cS F l).length vc] 24)) (.cells #[] 35)
  have p1' := keepc q2 p1
  have HO8 : Hid (((w6.alloc (.cells #[.int .i64 (cF F l), .slice vo (cS F l).length vc] 24)).alloc (.cells #[] 35)).ownsRow (w6.alloc (.cells #[.int .i64 (cF F l), .slice vo (cS F l).length vc] 24)).heap.size 35 4 (.slice (some ⟨(w6.alloc (.cells #[.int .i64 (cF F l), .slice vo (cS F l).length vc] 24)).heap.size, 0, none⟩) 0 0) 0 []) := hidX ⟨rfl, .inr ⟨_, 0, #[], rfl, Nat.le_refl _, Array.getElem?_push_size, Nat.le_refl _, by unfold maxLen; omega, rfl, rfl⟩⟩
  have HB8 := hidX q2
  have s78 : (w6.alloc (.cells #[.int .i64 (cF F l), .slice vo (cS F l).length vc] 24)).heap.size = w6.heap.size + 1 := by simp
  rw [s78] at HO8 HB8
  clear q2
  go_wp2_with (at_builtin; apply stopHereW)
  refine (show wpList _ _ _ _ _ _ from ?_)
  clear p1 p1'
  revert HM7 HU7 HV7 HB7 HT7 HQ7 HP7 s78 HO8 HB8
  generalize hw8 : (w6.alloc (.cells #[.int .i64 (cF F l), .slice vo (cS F l).length vc] 24)).alloc (.cells #[] 35) = w8
  generalize w6.alloc (.cells #[.int .i64 (cF F l), .slice vo (cS F l).length vc] 24) = w7
  generalize w6.heap.size = b8 at *
  intro HM7 HU7 HV7 HB7 HT7 HQ7 HP7 HO8 HB8 s78
  have HB8' : Hid (Below w7.heap.size w7 w8) := hidX (by rw [s78]; exact HB8.out)
  refine wpList_append_row rfl _ _ 22 rfl (b8 + 1) 35 i0 (.agg #[.int .u64 0, .int .u64 0, .int .i64 0, .int .i64 0]) 4 32 Try.underlying22 hi hz0 hz1 hz2 rfl (by decide) _ 0 [] rfl HO8.out _ (cS F l).length (rowR (cS F l)) rfl (own_row (own_below HB8'.out HV7.out)) (rowR_cell5 _) (by unfold maxLen; omega) (by omega) (by have := HB8'.out.size; omega) ?_
  intro so sc w9 ho hg
  have hBb : Below w7.heap.size w7 w9 := by
    refine HB8'.out.trans ⟨hg.os, hg.tape, hg.output, hg.size, fun z hz => hg.block z (by have := HB8'.out.size; omega) (fun e => ?_)⟩
    have : z = b8 + 1 := Option.some.inj e
    omega
  have HW9 : Hid (OwR w9 (b8 + 1) (.slice so (cS F l).length sc) (cS F l)) := hidX (by rw [List.nil_append] at ho; simpa using ho)
  have HM9 := hidX (own_below hBb HM7.out)
  have HU9 := hidX (own_below hBb HU7.out)
  have HV9 := hidX (own_below hBb HV7.out)
  have HB9 := hidX (keepb hBb HB7.out)
  have HT9 : Hid (w9.heap[w.heap.size]? = some (.cells #[.int .i64 F0, .slice ao l.length c] 24)) := hidX ((hBb.block _ (blk_lt5 HT7.out)).trans HT7.out)
  have HQ9 : Hid (w9.heap[b6]? = some (.cells #[.int .i64 (cF F l), .slice uo (cS F l).length uc] 24)) := hidX ((hBb.block _ (blk_lt5 HQ7.out)).trans HQ7.out)
  have HP9 : Hid (w9.heap[b8]? = some (.cells #[.int .i64 (cF F l), .slice vo (cS F l).length vc] 24)) := hidX ((hBb.block _ (blk_lt5 HP7.out)).trans HP7.out)
  have HVn : Hid (∀ z, Value.ownBlock (.slice vo (cS F l).length vc) = some z → w5.heap.size ≤ z ∧ z < b8) := hidX (fun z e => ⟨(HV7.out.lt z e).1, by
    have h1 := (HV7.out.lt z e).2
    have h2 : z ≠ b8 := fun q => by
      obtain ⟨cur, hcur⟩ := own_blk HV7.out z e
      rw [q, HP7.out] at hcur
      injection hcur with hcur
      injection hcur with _ h2
      exact absurd h2 (by decide)
    omega⟩)
  have HWn : Hid (∀ z, Value.ownBlock (.slice so (cS F l).length sc) = some z → b8 + 1 ≤ z) := hidX (fun z e => (HW9.out.lt z e).1)
  clear ho hg hBb HO8 HB8 HB8' HM7 HU7 HV7 HB7 HT7 HQ7 HP7 s78 hw8
  generalize w5.heap.size = n5 at *
  have HCp : Hid (w.heap.size < n1 ∧ n1 ≤ n3 ∧ n3 ≤ b6 ∧ b6 < n5 ∧ n5 ≤ b8) := hidX ⟨by omega, by omega, by omega, hb65, hn56⟩
  clear hn1 hn13 hn34 hb65 hn56
  generalize hS : cS F l = S at *
  generalize cF F l = F2 at *
  have HSe := hidX hS
  clear hS
  go_wp2_with fail
  -- a is written over
  go_loopw [11] (fun iv wr => ∃ (i : Nat) (D : List Rte), iv = .int .i64 (i : Int) ∧ D.length = S.length ∧ Hid (Bt (fun z => Value.ownBlock (.slice uo S.length uc) = some z ∨ z = b6) w9 wr) ∧ Hid (wr.heap[b6]? = some (.cells #[.int .i64 F2, .slice uo S.length uc] 24)) ∧ Hid (wr.ownsRow n3 35 4 (.slice uo S.length uc) S.length (rowR D))) (fun iv _ => S.length - (intOf iv).toNat)
  case atStart => exact ⟨0, S, rfl, rfl, hidX (Bt.refl _ _), HQ9, HU9⟩
  case round =>
    obtain ⟨i, D, rfl, hD, HBt, HQ, HU⟩ := hrel
    have a1 := at_blk HQ.out 1 (.slice uo S.length uc) rfl
    by_cases hlt : (i : Int) < (S.length : Int)
    · have his : i < S.length := by omega
      rcases HU.out.2 with ⟨e, h⟩ | ⟨ga, cap, cur, e, -⟩
      · omega
      · injection e with e1 e2 e3
        subst e1
        subst e3
        have hRo : RwO wr n3 ga uc S.length D := ⟨hD, HU.out⟩
        obtain ⟨x0, x1, x2, x3⟩ := hRo.cells (j := i) (r := D[i]) (List.getElem?_eq_getElem (by omega))
        have f0 := hRo.free (j := i * 4) (by omega)
        have f1 := hRo.free (j := i * 4 + 1) (by omega)
        have f2 := hRo.free (j := i * 4 + 2) (by omega)
        have f3 := hRo.free (j := i * 4 + 3) (by omega)
        have hRn := hRo.set (j := i) his ((0#128, 0), 99)
        dsimp only at hRn
        rw [hI_zero, lI_zero] at hRn
        have hga : ga ≠ b6 := (HUn.out ga rfl).2.2
        have HU2 := hidX hRn
        have HQ2 : Hid (((((wr.setCell ⟨ga, i * 4, none⟩ (.int .u64 0)).setCell ⟨ga, i * 4 + 1, none⟩ (.int .u64 0)).setCell ⟨ga, i * 4 + 2, none⟩ (.int .i64 0)).setCell ⟨ga, i * 4 + 3, none⟩ (.int .i64 99)).heap[b6]? = some (.cells #[.int .i64 F2, .slice (some ⟨ga, 0, none⟩) S.length uc] 24)) := hidX (by rw [hSet _ (fun q => hga q.symm), hSet _ (fun q => hga q.symm), hSet _ (fun q => hga q.symm), hSet _ (fun q => hga q.symm)]; exact HQ.out)
        have HBt2 := hidX ((((HBt.out.set1 (g := ga) (o := i * 4) (.inl (.inl rfl)) (.int .u64 0)).set1 (g := ga) (o := i * 4 + 1) (.inl (.inl rfl)) (.int .u64 0)).set1 (g := ga) (o := i * 4 + 2) (.inl (.inl rfl)) (.int .i64 0)).set1 (g := ga) (o := i * 4 + 3) (.inl (.inl rfl)) (.int .i64 99))
        have wi : IntKind.i64.wrap ((i : Int) + 1) = ((i + 1 : Nat) : Int) := by rw [IntKind.wrap_i64]; push_cast; omega
        clear hRo hRn HU HQ HBt hga e2
        generalize D[i] = r at *
        obtain ⟨⟨rx, rn⟩, rh⟩ := r
        dsimp only at x0 x1 x2 x3
        go_wp2
        go_roundw
        case rel => exact ⟨i + 1, D.set i ((0#128, 0), 99), by go_num, by rw [List.length_set]; exact hD, HBt2, HQ2, by have := HU2.out.2; exact this⟩
        case measure => simp [intOf]; omega
    · go_wp2_with fail
      clear a1
      -- a is grown
      go_loopw [12] (fun kv wr => ∃ (k : Nat) (D : List Rte) (xo : Option Addr) (xc : Nat), kv = .int .i64 (k : Int) ∧ k ≤ 30 ∧ D.length = S.length + k ∧ Hid (Bt (fun z => Value.ownBlock (.slice uo S.length uc) = some z ∨ z = b6) w9 wr) ∧ Hid (wr.heap[b6]? = some (.cells #[.int .i64 F2, .slice xo D.length xc] 24)) ∧ Hid (wr.ownsRow n3 35 4 (.slice xo D.length xc) D.length (rowR D)) ∧ Hid (∀ z, Value.ownBlock (.slice xo D.length xc) = some z → (Value.ownBlock (.slice uo S.length uc) = some z ∨ w9.heap.size ≤ z))) (fun kv _ => 30 - (intOf kv).toNat)
      case atStart => exact ⟨0, D, uo, uc, rfl, by omega, by omega, HBt, by rw [hD]; exact HQ, by rw [hD]; exact HU, hidX (fun z e => .inl (by rw [hD] at e; exact e))⟩
      case round =>
        clear HBt HQ HU
        obtain ⟨k, D2, xo, xc, rfl, hk, hD2, HBt, HQ, HU, HX⟩ := hrel
        have HD2 := hidX hD2
        have hDb : D2.length ≤ 3030 := by omega
        clear hD2
        have a1 := at_blk HQ.out 1 (.slice xo D2.length xc) rfl
        by_cases hk3 : (k : Int) < 30
        · have wk : IntKind.i64.wrap ((k : Int) + 1) = ((k + 1 : Nat) : Int) := by rw [IntKind.wrap_i64]; push_cast; omega
          have h47 : (D2.length + 1) * 32 ≤ 140737488355328 := by omega
          have h63 : D2.length + 1 ≤ maxLen := by unfold maxLen; omega
          go_wp2_with (at_builtin; apply stopHereW)
          refine (show wpList _ _ _ _ _ _ from ?_)
          refine wpList_append_lies _ rfl _ _ 22 rfl n3 35 i0 (.agg #[.int .u64 0, .int .u64 0, .int .i64 0, .int .i64 0]) 4 32 Try.underlying22 hi hz0 hz1 hz2 rfl (by decide) (.slice xo D2.length xc) D2.length (rowR D2) (by rfl) (HU.out.alloc _) ⟨wr.heap.size, 0, none⟩ 1 1 [.int .u64 0, .int .u64 0, .int .i64 0, .int .i64 98] rfl rfl (newsR6 _ _ rfl _ _ _ _ _) (fourR6' _ _ _ _) (by decide) h63 h47 (by have := blk_lt5 HQ.out; have := HCp.out; simp; omega) _ rfl ?_
          intro g4 cap4 w7 ho7 hgrow hat hlt4
          have k2 := bl1 wr (.cells #[.int .u64 0, .int .u64 0, .int .i64 0, .int .i64 98] 35)
          have hxn : ∀ z, Value.ownBlock (.slice xo D2.length xc) = some z → z ≠ b6 := fun z e q => by
            rcases HX.out z e with h1 | h1
            · exact (HUn.out z h1).2.2 q
            · have := blk_lt5 HQ9.out; omega
          have hq7 : w7.heap[b6]? = some (.cells #[.int .i64 F2, .slice xo D2.length xc] 24) := by
            rw [hgrow.block b6 (by have := blk_lt5 HQ.out; simp; omega) (fun e => hxn b6 e.symm rfl)]
            exact (k2.block _ (blk_lt5 HQ.out)).trans HQ.out
          have hs9 := HBt.out.size
          have hg4 : Value.ownBlock (.slice xo D2.length xc) = some g4 ∨ w9.heap.size ≤ g4 := by
            rcases hat with q | q
            · exact .inl q
            · right
              rw [q]; simp; omega
          have hg4' : Value.ownBlock (.slice uo S.length uc) = some g4 ∨ w9.heap.size ≤ g4 := by
            rcases hg4 with q | q
            · exact HX.out g4 q
            · exact .inr q
          have hg46 : g4 ≠ b6 := by
            rcases hg4 with q | q
            · exact hxn g4 q
            · have := blk_lt5 HQ9.out; omega
          have HBt2 : Hid (Bt (fun z => Value.ownBlock (.slice uo S.length uc) = some z ∨ z = b6) w9 (w7.setCell ⟨b6, 1, none⟩ (.slice (some ⟨g4, 0, none⟩) (D2.length + 1) cap4))) := hidX ((((HBt.out.below k2 (by omega)).grownM hgrow (fun z e => by
            rcases HX.out z e with q | q
            · exact .inl (.inl q)
            · exact .inr q))).set1 (.inl (.inr rfl)) _)
          have HQ2 : Hid ((w7.setCell ⟨b6, 1, none⟩ (.slice (some ⟨g4, 0, none⟩) (D2.length + 1) cap4)).heap[b6]? = some (.cells #[.int .i64 F2, .slice (some ⟨g4, 0, none⟩) (D2.length + 1) cap4] 24)) := hidX ((set_blk5 (o := 1) hq7 _).trans rfl)
          have hro : rowR D2 ++ [.int .u64 0, .int .u64 0, .int .i64 0, .int .i64 98] = rowR (D2 ++ [((0#128, 0), 98)]) := by rw [rowR_one5, hI_zero, lI_zero]
          rw [hro] at ho7
          have HU2 : Hid ((w7.setCell ⟨b6, 1, none⟩ (.slice (some ⟨g4, 0, none⟩) (D2.length + 1) cap4)).ownsRow n3 35 4 (.slice (some ⟨g4, 0, none⟩) (D2.length + 1) cap4) (D2.length + 1) (rowR (D2 ++ [((0#128, 0), 98)]))) := hidX (own_heap ho7 (fun z e => hSet _ (fun q => hg46 (by
            have : some g4 = some z := e
            injection this with this
            omega))))
          have HX2 : Hid (∀ z, Value.ownBlock (.slice (some ⟨g4, 0, none⟩) (D2.length + 1) cap4) = some z → (Value.ownBlock (.slice uo S.length uc) = some z ∨ w9.heap.size ≤ z)) := hidX (fun z e => by
            have : some g4 = some z := e
            injection this with this
            rw [← this]; exact hg4')
          have b1 := at_blk hq7 1 (.slice xo D2.length xc) rfl
          have b2 := fr_blk5 (j := 1) hq7
          have HDl : Hid ((D2 ++ [((0#128, (0 : Int)), (98 : Int))]).length = D2.length + 1) := hidX (by simp)
          clear ho7 hgrow hat hlt4 k2 hxn hq7 hg4 hg4' hg46 hro HBt HQ HU HX a1 hs9
          go_wp2_with fail
          go_roundw
          case rel => exact ⟨k + 1, D2 ++ [((0#128, 0), 98)], some ⟨g4, 0, none⟩, cap4, rfl, by omega, by have := HD2.out; rw [HDl.out]; omega, HBt2, by rw [HDl.out]; exact HQ2, by rw [HDl.out]; exact HU2, by rw [HDl.out]; exact HX2⟩
          case measure => simp [intOf]; omega
        · have hM9 : ∀ z, Value.ownBlock (.slice mo l.length mc) = some z → ¬ (Value.ownBlock (.slice uo S.length uc) = some z ∨ z = b6) := fun z e q => by
            have h1 := HMn.out z e
            have h2 := HCp.out
            rcases q with q | q
            · have := HUn.out z q; omega
            · omega
          have hV9 : ∀ z, Value.ownBlock (.slice vo S.length vc) = some z → ¬ (Value.ownBlock (.slice uo S.length uc) = some z ∨ z = b6) := fun z e q => by
            have h1 := HVn.out z e
            have h2 := HCp.out
            rcases q with q | q
            · have := HUn.out z q; omega
            · omega
          have hW9 : ∀ z, Value.ownBlock (.slice so S.length sc) = some z → ¬ (Value.ownBlock (.slice uo S.length uc) = some z ∨ z = b6) := fun z e q => by
            have h1 := HWn.out z e
            have h2 := HCp.out
            rcases q with q | q
            · have := HUn.out z q; omega
            · omega
          have hnT : ¬ (Value.ownBlock (.slice uo S.length uc) = some w.heap.size ∨ w.heap.size = b6) := fun q => by
            have h2 := HCp.out
            have h3 := HB9.out.size
            rcases q with q | q
            · have := HUn.out _ q; omega
            · omega
          have hnP : ¬ (Value.ownBlock (.slice uo S.length uc) = some b8 ∨ b8 = b6) := fun q => by
            have h2 := HCp.out
            rcases q with q | q
            · have := HUn.out _ q; omega
            · omega
          have HMa := hidX (HBt.out.own HM9.out hM9)
          have HVa := hidX (HBt.out.own HV9.out hV9)
          have HWa := hidX (HBt.out.own HW9.out hW9)
          have HTa : Hid (wr.heap[w.heap.size]? = some (.cells #[.int .i64 F0, .slice ao l.length c] 24)) := hidX ((HBt.out.blk _ (blk_lt5 HT9.out) hnT).trans HT9.out)
          have HPa : Hid (wr.heap[b8]? = some (.cells #[.int .i64 F2, .slice vo S.length vc] 24)) := hidX ((HBt.out.blk _ (blk_lt5 HP9.out) hnP).trans HP9.out)
          have HBa := hidX (HBt.out.lowM HB9.out (fun z q => by
            have h2 := HCp.out
            rcases q with q | q
            · have := HUn.out z q; omega
            · omega))
          have HVRa := hidX (HVw.out.below HBa.out)
          clear hM9 hV9 hW9 hnT hnP HBt HQ HU HX a1
          have p1 := at_blk HPa.out 1 (.slice vo S.length vc) rfl
          have t1 := at_blk HTa.out 1 (.slice ao l.length c) rfl
          generalize hcz : cZ F l = z0
          have HZ := hidX hcz
          clear hcz
          go_wp2_with fail
          refine (sameRoutes_any _ _ S wr (row_rwr (own_row HVa.out)) (row_rwr (own_row HWa.out)) (by omega)).mono ?_
          rintro e wb ⟨rfl, hb⟩
          have HMb := hidX (own_below hb HMa.out)
          have HVb := hidX (own_below hb HVa.out)
          have HWb := hidX (own_below hb HWa.out)
          have HTb : Hid (wb.heap[w.heap.size]? = some (.cells #[.int .i64 F0, .slice ao l.length c] 24)) := hidX ((hb.block _ (blk_lt5 HTa.out)).trans HTa.out)
          have HPb : Hid (wb.heap[b8]? = some (.cells #[.int .i64 F2, .slice vo S.length vc] 24)) := hidX ((hb.block _ (blk_lt5 HPa.out)).trans HPa.out)
          have HBb := hidX (keepb hb HBa.out)
          have HVRb := hidX (HVw.out.below HBb.out)
          clear hb p1 t1 HMa HVa HWa HTa HPa HBa HVRa
          have t1 := at_blk HTb.out 1 (.slice ao l.length c) rfl
          go_wp2_with fail
          refine (sameRoutes_any _ _ l wb (row_rwr (own_row HMb.out)) HVRb.out (by omega)).mono ?_
          rintro e wd ⟨rfl, hb⟩
          have HMd := hidX (own_below hb HMb.out)
          have HVd := hidX (own_below hb HVb.out)
          have HWd := hidX (own_below hb HWb.out)
          have HPd : Hid (wd.heap[b8]? = some (.cells #[.int .i64 F2, .slice vo S.length vc] 24)) := hidX ((hb.block _ (blk_lt5 HPb.out)).trans HPb.out)
          have HBd := hidX (keepb hb HBb.out)
          clear hb t1 HMb HVb HWb HTb HPb HBb HVRb
          -- c
          have KC := canonS_any F _ l wd n1 HMd.out
          rw [HSe.out] at KC
          generalize cF F l = F3 at KC
          generalize cZ F l = z3 at KC
          go_wp2_with fail
          refine KC.mono ?_
          rintro e we ⟨⟨yo, yc, rfl, ho⟩, hb⟩
          have k1 := bl1 we (.cells #[.int .i64 F3, .slice yo S.length yc] 24)
          have kb := keepb k1 hb
          have HMf := hidX (own_below kb HMd.out)
          have HVf := hidX (own_below kb HVd.out)
          have HWf := hidX (own_below kb HWd.out)
          have HYf := hidX (own_below k1 ho)
          have HPf : Hid ((we.alloc (.cells #[.int .i64 F3, .slice yo S.length yc] 24)).heap[b8]? = some (.cells #[.int .i64 F2, .slice vo S.length vc] 24)) := hidX ((kb.block _ (blk_lt5 HPd.out)).trans HPd.out)
          have HCf : Hid ((we.alloc (.cells #[.int .i64 F3, .slice yo S.length yc] 24)).heap[we.heap.size]? = some (.cells #[.int .i64 F3, .slice yo S.length yc] 24)) := hidX Array.getElem?_push_size
          have HBf := hidX (keepb kb HBd.out)
          clear KC hb ho k1 kb HMd HVd HWd HPd HBd
          have y1 := at_blk HCf.out 1 (.slice yo S.length yc) rfl
          go_wp2_with fail
          clear y1
          revert HMf HVf HWf HYf HPf HCf HBf
          generalize we.alloc (.cells #[.int .i64 F3, .slice yo S.length yc] 24) = wf
          intro HMf HVf HWf HYf HPf HCf HBf
          refine (sameRoutes_any _ _ S wf (row_rwr (own_row HYf.out)) (row_rwr (own_row HWf.out)) (by omega)).mono ?_
          rintro e wg ⟨rfl, hb⟩
          have HMg := hidX (own_below hb HMf.out)
          have HVg := hidX (own_below hb HVf.out)
          have HWg := hidX (own_below hb HWf.out)
          have HPg : Hid (wg.heap[b8]? = some (.cells #[.int .i64 F2, .slice vo S.length vc] 24)) := hidX ((hb.block _ (blk_lt5 HPf.out)).trans HPf.out)
          have HBg := hidX (keepb hb HBf.out)
          clear hb HMf HVf HWf HYf HPf HCf HBf
          go_wp2_with fail
          -- mine is changed
          go_loopw [15] (fun iv wr => ∃ (i : Nat) (D : List Rte), iv = .int .i64 (i : Int) ∧ i ≤ l.length ∧ D.length = l.length ∧ Hid (Bt (fun z => Value.ownBlock (.slice mo l.length mc) = some z) wg wr) ∧ Hid (wr.ownsRow n1 35 4 (.slice mo l.length mc) l.length (rowR D))) (fun iv _ => l.length - (intOf iv).toNat)
          case atStart => exact ⟨0, l, rfl, by omega, rfl, hidX (Bt.refl _ _), HMg⟩
          case round =>
            clear HMg
            obtain ⟨i, D, rfl, hil, hD, HBt, HM⟩ := hrel
            by_cases hlt : (i : Int) < (l.length : Int)
            · have his : i < l.length := by omega
              rcases HM.out.2 with ⟨e, h⟩ | ⟨gm, cap, cur, e, -⟩
              · omega
              · injection e with e1 e2 e3
                subst e1
                subst e3
                have hRo : RwO wr n1 gm mc l.length D := ⟨hD, HM.out⟩
                obtain ⟨x0, x1, x2, x3⟩ := hRo.cells (j := i) (r := D[i]) (List.getElem?_eq_getElem (by omega))
                have f3 := hRo.free (j := i * 4 + 3) (by omega)
                obtain ⟨hp, hhp⟩ : ∃ hp : Int, hp = 1 + (i : Int) * 7 % 65535 := ⟨_, rfl⟩
                have w7 : IntKind.i64.wrap ((i : Int) * 7) = (i : Int) * 7 := by rw [IntKind.wrap_i64]; omega
                have w8 : (i : Int) * 7 % 65535 = hp - 1 := by omega
                have w9a : Int.tmod ((i : Int) * 7) 65535 = hp - 1 := by rw [Int.tmod_eq_emod_of_nonneg (by omega)]; omega
                have w9b : IntKind.i64.wrap (hp - 1) = hp - 1 := by rw [IntKind.wrap_i64]; omega
                have w10 : IntKind.i64.wrap (1 + (hp - 1)) = hp := by rw [IntKind.wrap_i64]; omega
                have wi : IntKind.i64.wrap ((i : Int) + 1) = ((i + 1 : Nat) : Int) := by rw [IntKind.wrap_i64]; push_cast; omega
                have hst := HM.out.stored (i * 4 + 3) (.int .i64 hp)
                have hrw := row_hop D i D[i] hp (List.getElem?_eq_getElem (by omega))
                rw [hrw] at hst
                have HM2 := hidX hst.1
                have HBt2 := hidX (HBt.out.set1 (g := gm) (o := i * 4 + 3) (.inl rfl) (.int .i64 hp))
                have HD2 : Hid ((D.set i (D[i].1, hp)).length = l.length) := hidX (by rw [List.length_set]; exact hD)
                clear hRo hst hrw HM HBt e2 hhp
                revert HM2 HD2
                generalize D.set i (D[i].1, hp) = D3
                intro HM2 HD2
                generalize D[i] = r at *
                obtain ⟨⟨rx, rn⟩, rh⟩ := r
                dsimp only at x0 x1 x2 x3
                go_wp2
                go_roundw
                case rel => exact ⟨i + 1, D3, by go_num, by omega, HD2.out, HBt2, HM2⟩
                case measure => simp [intOf]; omega
            · have hnM : ∀ z, Value.ownBlock (.slice vo S.length vc) = some z → ¬ Value.ownBlock (.slice mo l.length mc) = some z := fun z e q => by
                have := HVn.out z e; have := HMn.out z q; have := HCp.out; omega
              have hnW : ∀ z, Value.ownBlock (.slice so S.length sc) = some z → ¬ Value.ownBlock (.slice mo l.length mc) = some z := fun z e q => by
                have := HWn.out z e; have := HMn.out z q; have := HCp.out; omega
              have hnP : ¬ Value.ownBlock (.slice mo l.length mc) = some b8 := fun q => by
                have := HMn.out b8 q; have := HCp.out; omega
              have HVh := hidX (HBt.out.own HVg.out hnM)
              have HWh := hidX (HBt.out.own HWg.out hnW)
              have HPh : Hid (wr.heap[b8]? = some (.cells #[.int .i64 F2, .slice vo S.length vc] 24)) := hidX ((HBt.out.blk _ (blk_lt5 HPg.out) hnP).trans HPg.out)
              have HBh := hidX (HBt.out.lowM HBg.out (fun z q => by have := HMn.out z q; have := HCp.out; omega))
              have hDl : D.length ≤ 3000 := by omega
              have hTl : (cS F D).length ≤ 3000 := cS_len F D hDl
              have HMh := HM
              clear hnM hnW hnP HBt HM HVg HWg HPg HBg
              -- x
              have HKC : Hid (∀ (v : Value) (W : World) (base : Nat), W.ownsRow base 35 4 v l.length (rowR D) → Calls Try.prog 5 #[.int .i64 F, v] W fun e w' => (∃ uo uc, e = .returned (.tuple #[.agg #[.int .i64 (cF F D), .slice uo (cS F D).length uc], .int .i64 (cZ F D)]) ∧ w'.ownsRow W.heap.size 35 4 (.slice uo (cS F D).length uc) (cS F D).length (rowR (cS F D))) ∧ Below W.heap.size W w') := hidX (fun v W base h => canonS_any F v D W base (by rw [hD]; exact h))
              generalize cS F D = T at HKC hTl
              generalize cF F D = F4 at HKC
              generalize cZ F D = z4 at HKC
              go_wp2_with fail
              refine (HKC.out _ wr n1 HMh.out).mono ?_
              rintro e wi ⟨⟨po, pc, rfl, ho⟩, hb⟩
              have k1 := bl1 wi (.cells #[.int .i64 F4, .slice po T.length pc] 24)
              have kb := keepb k1 hb
              have HMj := hidX (own_below kb HMh.out)
              have HVj := hidX (own_below kb HVh.out)
              have HWj := hidX (own_below kb HWh.out)
              have HXj := hidX (own_below k1 ho)
              have HPj : Hid ((wi.alloc (.cells #[.int .i64 F4, .slice po T.length pc] 24)).heap[b8]? = some (.cells #[.int .i64 F2, .slice vo S.length vc] 24)) := hidX ((kb.block _ (blk_lt5 HPh.out)).trans HPh.out)
              have HCj : Hid ((wi.alloc (.cells #[.int .i64 F4, .slice po T.length pc] 24)).heap[wi.heap.size]? = some (.cells #[.int .i64 F4, .slice po T.length pc] 24)) := hidX Array.getElem?_push_size
              have HBj := hidX (keepb kb HBh.out)
              have k2 := bl1 (wi.alloc (.cells #[.int .i64 F4, .slice po T.length pc] 24)) (.cells #[] 35)
              have sj : (wi.alloc (.cells #[.int .i64 F4, .slice po T.length pc] 24)).heap.size = wi.heap.size + 1 := by simp
              have HOk : Hid (((wi.alloc (.cells #[.int .i64 F4, .slice po T.length pc] 24)).alloc (.cells #[] 35)).ownsRow (wi.alloc (.cells #[.int .i64 F4, .slice po T.length pc] 24)).heap.size 35 4 (.slice (some ⟨(wi.alloc (.cells #[.int .i64 F4, .slice po T.length pc] 24)).heap.size, 0, none⟩) 0 0) 0 []) := hidX ⟨rfl, .inr ⟨_, 0, #[], rfl, Nat.le_refl _, Array.getElem?_push_size, Nat.le_refl _, by unfold maxLen; omega, rfl, rfl⟩⟩
              have HBk := hidX k2
              rw [sj] at HOk HBk
              clear hb ho k1 kb k2 HMh HVh HWh HPh HBh
              go_wp2_with (at_builtin; apply stopHereW)
              refine (show wpList _ _ _ _ _ _ from ?_)
              revert HMj HVj HWj HXj HPj HCj HBj sj HOk HBk
              generalize hwk : (wi.alloc (.cells #[.int .i64 F4, .slice po T.length pc] 24)).alloc (.cells #[] 35) = wk
              generalize (wi.alloc (.cells #[.int .i64 F4, .slice po T.length pc] 24)) = wj
              generalize wi.heap.size = b16
              intro HMj HVj HWj HXj HPj HCj HBj sj HOk HBk
              have HBk' : Hid (Below wj.heap.size wj wk) := hidX (by rw [sj]; exact HBk.out)
              refine wpList_append_row rfl _ _ 22 rfl (b16 + 1) 35 i0 (.agg #[.int .u64 0, .int .u64 0, .int .i64 0, .int .i64 0]) 4 32 Try.underlying22 hi hz0 hz1 hz2 rfl (by decide) _ 0 [] rfl HOk.out _ l.length (rowR D) rfl (own_row (own_below HBk'.out HMj.out)) (rowR_cell5 _) (by unfold maxLen; omega) (by omega) (by have := HBk'.out.size; omega) ?_
              intro qo qc wl ho hg
              have hBb : Below wj.heap.size wj wl := by
                refine HBk'.out.trans ⟨hg.os, hg.tape, hg.output, hg.size, fun z hz => hg.block z (by have := HBk'.out.size; omega) (fun e => ?_)⟩
                have : z = b16 + 1 := Option.some.inj e
                omega
              have HQl : Hid (wl.ownsRow (b16 + 1) 35 4 (.slice qo l.length qc) l.length (rowR D)) := hidX (by rw [List.nil_append] at ho; simpa using ho)
              have HVl := hidX (own_below hBb HVj.out)
              have HWl := hidX (own_below hBb HWj.out)
              have HXl := hidX (own_below hBb HXj.out)
              have HPl : Hid (wl.heap[b8]? = some (.cells #[.int .i64 F2, .slice vo S.length vc] 24)) := hidX ((hBb.block _ (blk_lt5 HPj.out)).trans HPj.out)
              have HCl : Hid (wl.heap[b16]? = some (.cells #[.int .i64 F4, .slice po T.length pc] 24)) := hidX ((hBb.block _ (blk_lt5 HCj.out)).trans HCj.out)
              have HBl := hidX (keepb hBb HBj.out)
              clear ho hg hBb HOk HBk HBk' HMj HVj HWj HXj HPj HCj HBj sj hwk
              go_wp2_with fail
              refine (HKC.out _ wl (b16 + 1) HQl.out).mono ?_
              rintro e wm ⟨⟨ro, rc, rfl, ho⟩, hb⟩
              have k1 := bl1 wm (.cells #[.int .i64 F4, .slice ro T.length rc] 24)
              have kb := keepb k1 hb
              have HVn2 := hidX (own_below kb HVl.out)
              have HWn2 := hidX (own_below kb HWl.out)
              have HXn := hidX (own_below kb HXl.out)
              have HYn := hidX (own_below k1 ho)
              have HPn : Hid ((wm.alloc (.cells #[.int .i64 F4, .slice ro T.length rc] 24)).heap[b8]? = some (.cells #[.int .i64 F2, .slice vo S.length vc] 24)) := hidX ((kb.block _ (blk_lt5 HPl.out)).trans HPl.out)
              have HCn : Hid ((wm.alloc (.cells #[.int .i64 F4, .slice ro T.length rc] 24)).heap[b16]? = some (.cells #[.int .i64 F4, .slice po T.length pc] 24)) := hidX ((kb.block _ (blk_lt5 HCl.out)).trans HCl.out)
              have HEn : Hid ((wm.alloc (.cells #[.int .i64 F4, .slice ro T.length rc] 24)).heap[wm.heap.size]? = some (.cells #[.int .i64 F4, .slice ro T.length rc] 24)) := hidX Array.getElem?_push_size
              have HBn := hidX (keepb kb HBl.out)
              clear hb ho k1 kb HQl HVl HWl HXl HPl HCl HBl HKC
              have c1 := at_blk HCn.out 1 (.slice po T.length pc) rfl
              have d1 := at_blk HEn.out 1 (.slice ro T.length rc) rfl
              go_wp2_with fail
              clear c1 d1
              revert HVn2 HWn2 HXn HYn HPn HCn HEn HBn
              generalize wm.alloc (.cells #[.int .i64 F4, .slice ro T.length rc] 24) = wn
              intro HVn2 HWn2 HXn HYn HPn HCn HEn HBn
              refine (sameRoutes_any _ _ T wn (row_rwr (own_row HXn.out)) (row_rwr (own_row HYn.out)) (by omega)).mono ?_
              rintro e wo ⟨rfl, hb⟩
              have HVo := hidX (own_below hb HVn2.out)
              have HWo := hidX (own_below hb HWn2.out)
              have HPo : Hid (wo.heap[b8]? = some (.cells #[.int .i64 F2, .slice vo S.length vc] 24)) := hidX ((hb.block _ (blk_lt5 HPn.out)).trans HPn.out)
              have HBo := hidX (keepb hb HBn.out)
              clear hb HVn2 HWn2 HXn HYn HPn HCn HEn HBn
              have p1 := at_blk HPo.out 1 (.slice vo S.length vc) rfl
              go_wp2_with fail
              refine (sameRoutes_any _ _ S wo (row_rwr (own_row HVo.out)) (row_rwr (own_row HWo.out)) (by omega)).mono ?_
              rintro e wp ⟨rfl, hb⟩
              have HBp := hidX (keepb hb HBo.out)
              clear hb HVo HWo HPo HBo p1
              go_wp2
              exact bodyPost_ret (v := .bool true) (by simp [results, Try.results3, go_sem]) rfl ⟨rfl, HBp.out⟩
end Go.Proofs.Ytmeaikmmhgmgnab
/-
  How a prefix that is handed in reads as data.
-/
namespace Go.Proofs.Ytmeaikmmhgmgnab
open Go.ChangeShapes Go.WideShapes Go.ChangeAt Go.RowKit Go.Joins
set_option linter.unusedSimpArgs false
set_option linter.unusedVariables false

theorem Try.cellsW : Try.prog.cellsOf 31 = 2 := by kernel_rfl
theorem Try.cellsP : Try.prog.cellsOf 33 = 3 := by kernel_rfl
theorem Try.cellsI : Try.prog.cellsOf 3 = 1 := by kernel_rfl
theorem Try.cellsU : Try.prog.cellsOf 29 = 1 := by kernel_rfl
section
variable {H : Type} {enc : TypeId × Value → H} {w : World} {base : Nat} {spare : Nat → Bool} {held : Bool}
end
end Go.Proofs.Ytmeaikmmhgmgnab
/-
  How a table that is handed in reads as data.
-/
namespace Go.Proofs.Ytmeaikmmhgmgnab
open Go.ChangeShapes Go.WideShapes Go.ChangeAt Go.RowKit Go.Joins
set_option linter.unusedSimpArgs false
set_option linter.unusedVariables false

theorem Try.laidOut : laidOutB Try.prog = true := by kernel_rfl
theorem Try.cellsR : Try.prog.cellsOf 35 = 4 := by kernel_rfl
theorem Try.cellsT : Try.prog.cellsOf 24 = 2 := by kernel_rfl
theorem Try.cellsL : Try.prog.cellsOf 22 = 1 := by kernel_rfl
theorem addT (g o j : Nat) : (⟨g, o, none⟩ : Addr).add j = ⟨g, o + j, none⟩ := by unfold Addr.add; split <;> simp_all
theorem rowR_lenF (l : List Rte) : (rowR l).length = l.length * 4 := by
  induction l with
  | nil => rfl
  | cons r l ih => simp [rowR, ih]; omega
theorem rowR_all {W : World} {b off : Nat} (l : List Rte) (h : ∀ i (hi : i < l.length), W.cell? ⟨b, off + i * 4, none⟩ = some (.int .u64 (hI l[i].1.1)) ∧ W.cell? ⟨b, off + (i * 4 + 1), none⟩ = some (.int .u64 (lI l[i].1.1)) ∧ W.cell? ⟨b, off + (i * 4 + 2), none⟩ = some (.int .i64 l[i].1.2) ∧ W.cell? ⟨b, off + (i * 4 + 3), none⟩ = some (.int .i64 l[i].2)) :
    ∀ j u, (rowR l)[j]? = some u → W.cell? ⟨b, off + j, none⟩ = some u := by
  intro j u hj
  have hlt : j < (rowR l).length := (List.getElem?_eq_some_iff.1 hj).1
  rw [rowR_lenF] at hlt
  have hi : j / 4 < l.length := by omega
  obtain ⟨a0, a1, a2, a3⟩ := h (j / 4) hi
  obtain ⟨b0, b1, b2, b3⟩ := rowR_get l (j / 4) hi
  have hm : j % 4 = 0 ∨ j % 4 = 1 ∨ j % 4 = 2 ∨ j % 4 = 3 := by omega
  rcases hm with hm | hm | hm | hm
  · have e : j = j / 4 * 4 := by omega
    rw [e, b0] at hj
    rw [e, ← hj]; exact a0
  · have e : j = j / 4 * 4 + 1 := by omega
    rw [e, b1] at hj
    rw [e, ← hj]; exact a1
  · have e : j = j / 4 * 4 + 2 := by omega
    rw [e, b2] at hj
    rw [e, ← hj]; exact a2
  · have e : j = j / 4 * 4 + 3 := by omega
    rw [e, b3] at hj
    rw [e, ← hj]; exact a3
section
variable {H : Type} {enc : TypeId × Value → H} {w : World} {spare : Nat → Bool} {held : Bool}
set_option maxRecDepth 100000 in
theorem trod_word {n : Nat} {c0 c1 : Value} {x : DataW H × List MemPlace} (h : DataW.trod enc Try.prog w 0 spare held n 31 [c0, c1] = some x) :
    ∃ a b : Int, c0 = .int .u64 a ∧ c1 = .int .u64 b ∧ (Lit.int .u64 a).wf = true ∧ (Lit.int .u64 b).wf = true := by
  obtain ⟨u0, u1, m, hu, _, g0, g1⟩ := trod_struct2 Try.underlying31 h
  have g0' : DataW.trod enc Try.prog w 0 spare held m 29 [c0] = some u0 := by simpa [Value.cells, Try.cellsU] using g0
  have g1' : DataW.trod enc Try.prog w 0 spare held m 29 [c1] = some u1 := by simpa [Value.cells, Try.cellsU] using g1
  obtain ⟨a, ea, rfl, wa⟩ := DataW.trod_int Try.underlying29 g0'
  obtain ⟨b, eb, rfl, wb⟩ := DataW.trod_int Try.underlying29 g1'
  simp at ea eb
  exact ⟨a, b, ea, eb, wa, wb⟩
set_option maxRecDepth 100000 in
theorem trod_rte {n : Nat} {c0 c1 c2 c3 : Value} {x : DataW H × List MemPlace} (h : DataW.trod enc Try.prog w 0 spare held n 35 [c0, c1, c2, c3] = some x) :
    ∃ a b k g : Int, c0 = .int .u64 a ∧ c1 = .int .u64 b ∧ c2 = .int .i64 k ∧ c3 = .int .i64 g ∧ (Lit.int .u64 a).wf = true ∧ (Lit.int .u64 b).wf = true := by
  obtain ⟨y0, y1, n, hx, _, h0, h1⟩ := trod_struct2 Try.underlying35 h
  have h0' : DataW.trod enc Try.prog w 0 spare held n 33 [c0, c1, c2] = some y0 := by simpa [Value.cells, Try.cellsP] using h0
  have h1' : DataW.trod enc Try.prog w 0 spare held n 3 [c3] = some y1 := by simpa [Value.cells, Try.cellsI, Try.cellsP] using h1
  obtain ⟨z0, z1, n2, hz, _, k0, k1⟩ := trod_struct2 Try.underlying33 h0'
  have k0' : DataW.trod enc Try.prog w 0 spare held n2 31 [c0, c1] = some z0 := by simpa [Value.cells, Try.cellsW] using k0
  have k1' : DataW.trod enc Try.prog w 0 spare held n2 3 [c2] = some z1 := by simpa [Value.cells, Try.cellsI, Try.cellsW] using k1
  obtain ⟨a, b, e0, e1, wa, wb⟩ := trod_word k0'
  obtain ⟨k, ek, rfl, wk⟩ := DataW.trod_int Try.underlying3 k1'
  obtain ⟨g, eg, rfl, wg⟩ := DataW.trod_int Try.underlying3 h1'
  simp at ek eg
  exact ⟨a, b, k, g, e0, e1, ek, eg, wa, wb⟩
theorem spot_none {W : World} {a : Addr} {u : Value} (h : W.cell? a = some u) : a = ⟨a.block, a.off, none⟩ := by
  obtain ⟨b, o, s⟩ := a
  cases s with
  | none => rfl
  | some z =>
    unfold World.cell? at h
    split at h
    · simp at h
    · cases h
theorem array2v {cs : Array Value} (h : cs.size = 2) : ∃ a b, cs = #[a, b] := by
  obtain ⟨l⟩ := cs
  match l, h with
  | [a, b], _ => exact ⟨a, b, rfl⟩
end
end Go.Proofs.Ytmeaikmmhgmgnab
