/-
  Part 8 of the proof: 2 texts, one behind the other.
-/
import Derived.Test.YtmeaikmmhgmgnaaPart7
import Derived.Test.YtmeaikmmhgmgnaaPart5
import Derived.Test.YtmeaikmmhgmgnaaPart6
/-
  A table's reader reads an entry.
-/
namespace Go.Proofs.Ytmeaikmmhgmgnaa
open Go.RowKit
set_option linter.unusedSimpArgs false
set_option linter.unusedVariables false
attribute [local go_sem] Oper.semAt_some

/-- The two variables that are told, not written yet. -/
def EnC (w : World) (R : Nat) (X : World) : Prop := X.heap[w.heap.size]? = some (.cells #[.int .u64 0, .int .u64 0, .int .i64 0, .int .i64 0] 40) ∧ X.heap[w.heap.size + 1]? = some (.cells #[.int .i64 0, .int .i64 0, .int .i64 0] 52) ∧ Bo R w X
section
variable {w X Y : World} {R : Nat} {F : Int} {s : ByteArray} {a ln st : Int}
theorem EnC.bo (k : EnC w R X) (hR : R < w.heap.size) (h : Bo R X Y) : EnC w R Y := ⟨(h.blk _ (blk_lt5 k.1) (by omega)).trans k.1, (h.blk _ (blk_lt5 k.2.1) (by omega)).trans k.2.1, k.2.2.trans h⟩
theorem EnC.zero (k : EnC w R X) : X.cell? ⟨w.heap.size, 0, none⟩ = some (.int .u64 0) ∧ X.cell? ⟨w.heap.size, 1, none⟩ = some (.int .u64 0) ∧ X.cell? ⟨w.heap.size, 2, none⟩ = some (.int .i64 0) ∧ X.cell? ⟨w.heap.size, 3, none⟩ = some (.int .i64 0) ∧ X.cell? ⟨w.heap.size + 1, 0, none⟩ = some (.int .i64 0) ∧ X.cell? ⟨w.heap.size + 1, 1, none⟩ = some (.int .i64 0) ∧ X.cell? ⟨w.heap.size + 1, 2, none⟩ = some (.int .i64 0) := ⟨at_blk k.1 0 _ rfl, at_blk k.1 1 _ rfl, at_blk k.1 2 _ rfl, at_blk k.1 3 _ rfl, at_blk k.2.1 0 _ rfl, at_blk k.2.1 1 _ rfl, at_blk k.2.1 2 _ rfl⟩
theorem EnC.free (k : EnC w R X) : (∀ j, X.frozen? ⟨w.heap.size, j, none⟩ = false) ∧ (∀ j, X.frozen? ⟨w.heap.size + 1, j, none⟩ = false) := ⟨fun j => fr_blk5 k.1, fun j => fr_blk5 k.2.1⟩
theorem EnC.ret (k : EnC w R Y) (hR : R < w.heap.size) (hr : RdV Y R F s a ln st) (v0 v1 v2 v3 f0 f1 f2 : Value) : RdV (((((((Y.setCell ⟨w.heap.size, 0, none⟩ (v0)).setCell ⟨w.heap.size, 1, none⟩ (v1)).setCell ⟨w.heap.size, 2, none⟩ (v2)).setCell ⟨w.heap.size, 3, none⟩ (v3)).setCell ⟨w.heap.size + 1, 0, none⟩ (f0)).setCell ⟨w.heap.size + 1, 1, none⟩ (f1)).setCell ⟨w.heap.size + 1, 2, none⟩ (f2)) R F s a ln st ∧ Bo R w (((((((Y.setCell ⟨w.heap.size, 0, none⟩ (v0)).setCell ⟨w.heap.size, 1, none⟩ (v1)).setCell ⟨w.heap.size, 2, none⟩ (v2)).setCell ⟨w.heap.size, 3, none⟩ (v3)).setCell ⟨w.heap.size + 1, 0, none⟩ (f0)).setCell ⟨w.heap.size + 1, 1, none⟩ (f1)).setCell ⟨w.heap.size + 1, 2, none⟩ (f2)) := by
  have hs : ∀ {W : World} {b o : Nat} {u : Value}, ¬ R = b → RdV W R F s a ln st → RdV (W.setCell ⟨b, o, none⟩ u) R F s a ln st := fun h q => (hSet _ h).trans q
  refine ⟨hs (by omega) (hs (by omega) (hs (by omega) (hs (by omega) (hs (by omega) (hs (by omega) (hs (by omega) hr)))))), ?_⟩
  exact Bt.set (Bt.set (Bt.set (Bt.set (Bt.set (Bt.set (Bt.set k.2.2 (.inr (by omega)) _ _) (.inr (by omega)) _ _) (.inr (by omega)) _ _) (.inr (by omega)) _ _) (.inr (by omega)) _ _) (.inr (by omega)) _ _) (.inr (by omega)) _ _
end
/-- What entry tells, by what the line's words say. -/
def entV (ln st : Int) : (Int × Nat) ⊕ (Rte × Nat) → Value
  | .inl (e, p) => .tuple #[.agg #[.int .u64 0, .int .u64 0, .int .i64 0, .int .i64 0], .agg #[.int .i64 e, .int .i64 ln, .int .i64 ((p : Int) - st + 1)]]
  | .inr (r, p) => .tuple #[.agg #[.int .u64 (hI r.1.1), .int .u64 (lI r.1.1), .int .i64 r.1.2, .int .i64 r.2], .agg #[.int .i64 0, .int .i64 0, .int .i64 0]]
def entP : (Int × Nat) ⊕ (Rte × Nat) → Nat
  | .inl (_, p) => p
  | .inr (_, p) => p
theorem ext_size (s : ByteArray) (a b : Nat) (h : b ≤ s.size) : (s.extract a b).size = b - a := by
  have q : (s.extract a b).size = min b s.size - a := ByteArray.size_extract
  omega
set_option maxRecDepth 20000 in
set_option maxHeartbeats 16000000 in
theorem entry5_any (R : Nat) (F : Int) (s : ByteArray) (ln st : Int) (k : Nat) (w : World) (h : RdV w R F s (k : Int) ln st) (hk : k ≤ s.size) (hs : s.size ≤ 1000000000) (hst0 : 0 ≤ st) (hst1 : st ≤ 2000000000) :
    Calls Try.prog 49 #[.pointer (some ⟨R, 0, none⟩)] w fun e w' => e = .returned (entV ln st (entO F s k)) ∧ RdV w' R F s (entP (entO F s k) : Nat) ln st ∧ Bo R w w' := by
  have hRw : R < w.heap.size := h.lt
  have q1 := bl1 w (.cells #[.int .u64 0, .int .u64 0, .int .i64 0, .int .i64 0] 40)
  have q2 := bl1 (w.alloc (.cells #[.int .u64 0, .int .u64 0, .int .i64 0, .int .i64 0] 40)) (.cells #[.int .i64 0, .int .i64 0, .int .i64 0] 52)
  have s1 : (w.alloc (.cells #[.int .u64 0, .int .u64 0, .int .i64 0, .int .i64 0] 40)).heap.size = w.heap.size + 1 := by simp
  have HR0 := hidR ((h.below q1).below q2)
  have HE0 : Hid (∀ X, X = (w.alloc (.cells #[.int .u64 0, .int .u64 0, .int .i64 0, .int .i64 0] 40)).alloc (.cells #[.int .i64 0, .int .i64 0, .int .i64 0] 52) → EnC w R X) := hidR (by
    rintro X rfl
    refine ⟨?_, ?_, Bt.ofB (keepb q2 q1)⟩
    · rw [q2.block _ (by omega)]
      exact Array.getElem?_push_size
    · rw [← s1]
      exact Array.getElem?_push_size)
  obtain ⟨e1, he1⟩ : ∃ e1, e1 = wdS s k := ⟨_, rfl⟩
  have b1 := wdS_bd s _ k (Nat.le_refl _) hk
  rw [← he1] at b1
  obtain ⟨t1, ht1⟩ : ∃ t1, t1 = s.extract k e1 := ⟨_, rfl⟩
  have Hz1 : Hid (t1.size = e1 - k) := hidR (by rw [ht1]; exact ext_size s k e1 b1.2.1)
  have HO : Hid (entO F s k = if ppE F (s.extract k e1) = 0 then (if kdS s (skS s e1) = 0 then (match nhO (s.extract (skS s e1) (wdS s (skS s e1))) with | none => .inl (15, skS s e1) | some h => if kdS s (skS s (wdS s (skS s e1))) = 0 then .inl (12, skS s (wdS s (skS s e1))) else .inr (((ppV F (s.extract k e1), ppN F (s.extract k e1)), h), skS s (wdS s (skS s e1)))) else .inl (12, skS s e1)) else .inl (ppE F (s.extract k e1), k)) := hidR (by rw [he1]; rfl)
  have HK0 := hidR (fun w h => word5_any R F s ln st k w h hk hs)
  rw [← he1, ← ht1] at HK0
  rw [← ht1] at HO
  clear he1 q1 q2 s1 h ht1
  go_enter Try.func49, Try.ntmps49
  go_wp2_with fail
  revert HR0 HE0
  generalize hW0 : (w.alloc (.cells #[.int .u64 0, .int .u64 0, .int .i64 0, .int .i64 0] 40)).alloc (.cells #[.int .i64 0, .int .i64 0, .int .i64 0] 52) = W0
  intro HR0 HE0
  have HE0 := hidR (HE0.out W0 rfl)
  clear hW0
  refine (HK0.out W0 HR0.out).mono ?_
  rintro e X ⟨rfl, hb⟩
  have HRX := hidR (HR0.out.below hb)
  have HEX := hidR (HE0.out.bo hRw (Bt.ofB hb))
  clear hb HR0 HE0 HK0
  obtain ⟨c0, -⟩ := HRX.out.cells
  have KP := fun w => pparse_any F t1 w (by have := Hz1.out; unfold maxLen; omega)
  revert HO KP
  generalize ppE F t1 = pe
  generalize ppV F t1 = px
  generalize ppN F t1 = pn
  intro HO KP
  go_wp2_with fail
  refine (KP X).mono ?_
  rintro e X1 ⟨rfl, hb⟩
  have HRX1 := hidR (HRX.out.below hb)
  have HEX1 := hidR (HEX.out.bo hRw (Bt.ofB hb))
  have hX1 : w.heap.size + 1 < X1.heap.size := blk_lt5 HEX1.out.2.1
  clear hb HRX HEX c0 KP
  by_cases hp : pe = 0
  · subst hp
    have HO1 := hidR (HO.out.trans (if_pos rfl))
    clear HO
    obtain ⟨-, -, r2, -, -⟩ := HRX1.out.cells
    have f2 := HRX1.out.free 2
    have wk : IntKind.i64.wrap ((k : Int) + (t1.size : Int)) = (e1 : Int) := by rw [Hz1.out, IntKind.wrap_i64]; omega
    have hRs := HRX1.out.setA (e1 : Int)
    have hEs := HEX1.out.bo hRw (Bo.set (Bt.refl _ _) 2 (.int .i64 (e1 : Int)))
    have q3 := bl1 (X1.setCell ⟨R, 2, none⟩ (.int .i64 (e1 : Int))) (.cells #[.int .u64 (hI px), .int .u64 (lI px), .int .i64 pn] 38)
    have HRs := hidR (hRs.below q3)
    have HEs := hidR (hEs.bo hRw (Bt.ofB q3))
    have HPs : Hid (((X1.setCell ⟨R, 2, none⟩ (.int .i64 (e1 : Int))).alloc (.cells #[.int .u64 (hI px), .int .u64 (lI px), .int .i64 pn] 38)).heap[X1.heap.size]? = some (.cells #[.int .u64 (hI px), .int .u64 (lI px), .int .i64 pn] 38)) := hidR (by
      have e : (X1.setCell ⟨R, 2, none⟩ (.int .i64 (e1 : Int))).heap.size = X1.heap.size := by simp
      rw [← e]
      exact Array.getElem?_push_size)
    clear HRX1 HEX1 hRs hEs q3
    have hlt2 : R < X1.heap.size := by omega
    go_wp2_with fail
    clear r2 f2 hlt2
    revert HRs HEs HPs
    generalize (X1.setCell ⟨R, 2, none⟩ (.int .i64 (e1 : Int))).alloc (.cells #[.int .u64 (hI px), .int .u64 (lI px), .int .i64 pn] 38) = X2
    generalize X1.heap.size = PB at *
    intro HRs HEs HPs
    have b2 := skS_bd s _ e1 (Nat.le_refl _) b1.2.1
    have KT := toWord_any R F s ln st e1 X2 HRs.out b1.2.1 hs
    revert HO1 KT b2
    generalize skS s e1 = a1
    intro HO1 b2 KT
    refine KT.mono ?_
    rintro e X3 ⟨rfl, hR3, hb3⟩
    have HR3 := hidR hR3
    have HE3 := hidR (HEs.out.bo hRw hb3)
    have HP3 := hidR ((hb3.blk PB (blk_lt5 HPs.out) (by omega)).trans HPs.out)
    clear KT hR3 hb3 HRs HEs HPs wk
    by_cases hk1 : kdS s a1 = 0
    · have HO2 := hidR (HO1.out.trans (if_pos hk1))
      have hd1 : decide (kdS s a1 = 0) = true := decide_eq_true hk1
      rw [hd1]
      clear HO1 hd1
      obtain ⟨e2, he2⟩ : ∃ e2, e2 = wdS s a1 := ⟨_, rfl⟩
      have b3 := wdS_bd s _ a1 (Nat.le_refl _) b2.2.1
      have KW := word5_any R F s ln st a1 X3 HR3.out b2.2.1 hs
      rw [← he2] at b3 KW HO2
      obtain ⟨t2, ht2⟩ : ∃ t2, t2 = s.extract a1 e2 := ⟨_, rfl⟩
      have Hz2 : Hid (t2.size = e2 - a1) := hidR (by rw [ht2]; exact ext_size s a1 e2 b3.2.1)
      rw [← ht2] at KW HO2
      clear he2 hk1 ht2
      go_wp2_with fail
      refine KW.mono ?_
      rintro e X4 ⟨rfl, hb⟩
      have HR4 := hidR (HR3.out.below hb)
      have HE4 := hidR (HE3.out.bo hRw (Bt.ofB hb))
      have HP4 := hidR ((hb.block PB (blk_lt5 HP3.out)).trans HP3.out)
      clear KW hb HR3 HE3 HP3
      have KN := nextHop_any t2 X4 (by have := Hz2.out; omega)
      revert HO2 KN
      generalize nhO t2 = no
      intro HO2 KN
      go_wp2_with fail
      refine KN.mono ?_
      rintro e X5 ⟨rfl, rfl⟩
      clear KN
      cases no with
      | none =>
        have HEq := hidR HO2.out
        have HRX := HR4
        have HEX := HE4
        clear HR4 HE4 HP4 HO2
        simp only [Option.getD_none, Option.isSome_none]
        go_wp2_with fail
        have KF := fault5_any R F s 15 ((a1 : Nat) : Int) ln st _ HRX.out hst0 hst1 (by omega) (by omega)
        refine KF.mono ?_
        rintro e9 Y ⟨rfl, hb⟩
        have HR9 := hidR (HRX.out.below hb)
        have HE9 := hidR (HEX.out.bo hRw (Bt.ofB hb))
        clear KF hb HRX HEX
        have HFin := hidR (HE9.out.ret hRw HR9.out (.int .u64 0) (.int .u64 0) (.int .i64 0) (.int .i64 0) (.int .i64 15) (.int .i64 ln) (.int .i64 ((a1 : Int) - st + 1)))
        obtain ⟨z0, z1, z2, z3, z4, z5, z6⟩ := HE9.out.zero
        have g0 := HE9.out.free.1
        have g1 := HE9.out.free.2
        have e0 := g0 0
        have e1 := g0 1
        have e2 := g0 2
        have e3 := g0 3
        have e4 := g1 0
        have e5 := g1 1
        have e6 := g1 2
        clear g0 g1 HE9 HR9
        go_wp2
        exact bodyPost_ret (v := .tuple #[.agg #[.int .u64 0, .int .u64 0, .int .i64 0, .int .i64 0], .agg #[.int .i64 15, .int .i64 ln, .int .i64 ((a1 : Int) - st + 1)]]) (by simp [results, Try.results49, go_sem, z0, z1, z2, z3, z4, z5, z6]) rfl ⟨by rw [HEq.out]; rfl, by rw [HEq.out]; exact HFin.out⟩
      | some hh =>
        have HO3 := HO2
        clear HO2
        simp only [Option.getD_some, Option.isSome_some]
        obtain ⟨-, -, r2, -, -⟩ := HR4.out.cells
        have f2 := HR4.out.free 2
        have wk : IntKind.i64.wrap ((a1 : Int) + (t2.size : Int)) = (e2 : Int) := by rw [Hz2.out, IntKind.wrap_i64]; omega
        have HRs := hidR (HR4.out.setA (e2 : Int))
        have HEs := hidR (HE4.out.bo hRw (Bo.set (Bt.refl _ _) 2 (.int .i64 (e2 : Int))))
        have HPs : Hid ((X5.setCell ⟨R, 2, none⟩ (.int .i64 (e2 : Int))).heap[PB]? = some (.cells #[.int .u64 (hI px), .int .u64 (lI px), .int .i64 pn] 38)) := hidR ((hSet _ (by omega)).trans HP4.out)
        clear HR4 HE4 HP4
        go_wp2_with fail
        clear r2 f2
        revert HRs HEs HPs
        generalize X5.setCell ⟨R, 2, none⟩ (.int .i64 (e2 : Int)) = X6
        intro HRs HEs HPs
        have b4 := skS_bd s _ e2 (Nat.le_refl _) b3.2.1
        have KT := toWord_any R F s ln st e2 X6 HRs.out b3.2.1 hs
        revert HO3 KT b4
        generalize skS s e2 = a2
        intro HO3 b4 KT
        refine KT.mono ?_
        rintro e X7 ⟨rfl, hR7, hb7⟩
        have HR7 := hidR hR7
        have HE7 := hidR (HEs.out.bo hRw hb7)
        have HP7 := hidR ((hb7.blk PB (blk_lt5 HPs.out) (by omega)).trans HPs.out)
        clear KT hR7 hb7 HRs HEs HPs wk
        by_cases hk2 : kdS s a2 = 0
        · have HEq := hidR (HO3.out.trans (if_pos hk2))
          have hd2 : decide (kdS s a2 = 0) = true := decide_eq_true hk2
          rw [hd2]
          have HRX := HR7
          have HEX := HE7
          clear HR7 HE7 HP7 HO3 hk2 hd2
          go_wp2_with fail
          have KF := fault5_any R F s 12 ((a2 : Nat) : Int) ln st _ HRX.out hst0 hst1 (by omega) (by omega)
          refine KF.mono ?_
          rintro e9 Y ⟨rfl, hb⟩
          have HR9 := hidR (HRX.out.below hb)
          have HE9 := hidR (HEX.out.bo hRw (Bt.ofB hb))
          clear KF hb HRX HEX
          have HFin := hidR (HE9.out.ret hRw HR9.out (.int .u64 0) (.int .u64 0) (.int .i64 0) (.int .i64 0) (.int .i64 12) (.int .i64 ln) (.int .i64 ((a2 : Int) - st + 1)))
          obtain ⟨z0, z1, z2, z3, z4, z5, z6⟩ := HE9.out.zero
          have g0 := HE9.out.free.1
          have g1 := HE9.out.free.2
          have e0 := g0 0
          have e1 := g0 1
          have e2 := g0 2
          have e3 := g0 3
          have e4 := g1 0
          have e5 := g1 1
          have e6 := g1 2
          clear g0 g1 HE9 HR9
          go_wp2
          exact bodyPost_ret (v := .tuple #[.agg #[.int .u64 0, .int .u64 0, .int .i64 0, .int .i64 0], .agg #[.int .i64 12, .int .i64 ln, .int .i64 ((a2 : Int) - st + 1)]]) (by simp [results, Try.results49, go_sem, z0, z1, z2, z3, z4, z5, z6]) rfl ⟨by rw [HEq.out]; rfl, by rw [HEq.out]; exact HFin.out⟩
        · have HEq := hidR (HO3.out.trans (if_neg hk2))
          have hd2 : decide (kdS s a2 = 0) = false := decide_eq_false hk2
          rw [hd2]
          have HRX := HR7
          have HEX := HE7
          have p0 := at_blk HP7.out 0 (.int .u64 (hI px)) rfl
          have p1 := at_blk HP7.out 1 (.int .u64 (lI px)) rfl
          have p2 := at_blk HP7.out 2 (.int .i64 pn) rfl
          clear HR7 HE7 HP7 HO3 hk2 hd2
          have HR9 := HRX
          have HE9 := HEX
          clear HRX HEX
          have HFin := hidR (HE9.out.ret hRw HR9.out (.int .u64 (hI px)) (.int .u64 (lI px)) (.int .i64 pn) (.int .i64 hh) (.int .i64 0) (.int .i64 0) (.int .i64 0))
          obtain ⟨z0, z1, z2, z3, z4, z5, z6⟩ := HE9.out.zero
          have g0 := HE9.out.free.1
          have g1 := HE9.out.free.2
          have e0 := g0 0
          have e1 := g0 1
          have e2 := g0 2
          have e3 := g0 3
          have e4 := g1 0
          have e5 := g1 1
          have e6 := g1 2
          clear g0 g1 HE9 HR9
          go_wp2
          exact bodyPost_ret (v := .tuple #[.agg #[.int .u64 (hI px), .int .u64 (lI px), .int .i64 pn, .int .i64 hh], .agg #[.int .i64 0, .int .i64 0, .int .i64 0]]) (by simp [results, Try.results49, go_sem, z0, z1, z2, z3, z4, z5, z6]) rfl ⟨by rw [HEq.out]; rfl, by rw [HEq.out]; exact HFin.out⟩
    · have HEq := hidR (HO1.out.trans (if_neg hk1))
      have hd1 : decide (kdS s a1 = 0) = false := decide_eq_false hk1
      rw [hd1]
      have HRX := HR3
      have HEX := HE3
      clear HR3 HE3 HP3 HO1 hk1 hd1
      go_wp2_with fail
      have KF := fault5_any R F s 12 ((a1 : Nat) : Int) ln st _ HRX.out hst0 hst1 (by omega) (by omega)
      refine KF.mono ?_
      rintro e9 Y ⟨rfl, hb⟩
      have HR9 := hidR (HRX.out.below hb)
      have HE9 := hidR (HEX.out.bo hRw (Bt.ofB hb))
      clear KF hb HRX HEX
      have HFin := hidR (HE9.out.ret hRw HR9.out (.int .u64 0) (.int .u64 0) (.int .i64 0) (.int .i64 0) (.int .i64 12) (.int .i64 ln) (.int .i64 ((a1 : Int) - st + 1)))
      obtain ⟨z0, z1, z2, z3, z4, z5, z6⟩ := HE9.out.zero
      have g0 := HE9.out.free.1
      have g1 := HE9.out.free.2
      have e0 := g0 0
      have e1 := g0 1
      have e2 := g0 2
      have e3 := g0 3
      have e4 := g1 0
      have e5 := g1 1
      have e6 := g1 2
      clear g0 g1 HE9 HR9
      go_wp2
      exact bodyPost_ret (v := .tuple #[.agg #[.int .u64 0, .int .u64 0, .int .i64 0, .int .i64 0], .agg #[.int .i64 12, .int .i64 ln, .int .i64 ((a1 : Int) - st + 1)]]) (by simp [results, Try.results49, go_sem, z0, z1, z2, z3, z4, z5, z6]) rfl ⟨by rw [HEq.out]; rfl, by rw [HEq.out]; exact HFin.out⟩
  · have HEq := hidR (HO.out.trans (if_neg hp))
    have q3 := bl1 X1 (.cells #[.int .u64 (hI px), .int .u64 (lI px), .int .i64 pn] 38)
    have HRX := hidR (HRX1.out.below q3)
    have HEX := hidR (HEX1.out.bo hRw (Bt.ofB q3))
    clear HRX1 HEX1 HO q3
    go_wp2_with fail
    revert HRX HEX
    generalize X1.alloc (.cells #[.int .u64 (hI px), .int .u64 (lI px), .int .i64 pn] 38) = X
    intro HRX HEX
    have KF := fault5_any R F s pe ((k : Nat) : Int) ln st _ HRX.out hst0 hst1 (by omega) (by omega)
    refine KF.mono ?_
    rintro e9 Y ⟨rfl, hb⟩
    have HR9 := hidR (HRX.out.below hb)
    have HE9 := hidR (HEX.out.bo hRw (Bt.ofB hb))
    clear KF hb HRX HEX
    have HFin := hidR (HE9.out.ret hRw HR9.out (.int .u64 0) (.int .u64 0) (.int .i64 0) (.int .i64 0) (.int .i64 pe) (.int .i64 ln) (.int .i64 ((k : Int) - st + 1)))
    obtain ⟨z0, z1, z2, z3, z4, z5, z6⟩ := HE9.out.zero
    have g0 := HE9.out.free.1
    have g1 := HE9.out.free.2
    have e0 := g0 0
    have e1 := g0 1
    have e2 := g0 2
    have e3 := g0 3
    have e4 := g1 0
    have e5 := g1 1
    have e6 := g1 2
    clear g0 g1 HE9 HR9
    go_wp2
    exact bodyPost_ret (v := .tuple #[.agg #[.int .u64 0, .int .u64 0, .int .i64 0, .int .i64 0], .agg #[.int .i64 pe, .int .i64 ln, .int .i64 ((k : Int) - st + 1)]]) (by simp [results, Try.results49, go_sem, z0, z1, z2, z3, z4, z5, z6]) rfl ⟨by rw [HEq.out]; rfl, by rw [HEq.out]; exact HFin.out⟩
end Go.Proofs.Ytmeaikmmhgmgnaa
/-
  What the call of slices.BinarySearchFunc does at routes, with package table's comparison.
-/
namespace Go.Proofs.Ytmeaikmmhgmgnaa
open Go.RowKit
set_option linter.unusedSimpArgs false
set_option linter.unusedVariables false

theorem cmpAt_any (x : BitVec 128) (n h : Int) (y : BitVec 128) (m : Int) (w : World) :
    Calls Try.prog 45 #[.agg #[.int .u64 (hI x), .int .u64 (lI x), .int .i64 n, .int .i64 h], .agg #[.int .u64 (hI y), .int .u64 (lI y), .int .i64 m]] w fun e w' => e = .returned (.int .i64 (pcmpZ x n y m)) ∧ Below w.heap.size w w' := by
  have KC := fun w => pcmp_any x n y m w
  generalize pcmpZ x n y m = z at *
  have A1 := atr_new w w.heap.size x n h 40 rfl
  have b1 := bl1 w (.cells #[.int .u64 (hI x), .int .u64 (lI x), .int .i64 n, .int .i64 h] 40)
  have b2 := bl1 (w.alloc (.cells #[.int .u64 (hI x), .int .u64 (lI x), .int .i64 n, .int .i64 h] 40)) (.cells #[.int .u64 (hI y), .int .u64 (lI y), .int .i64 m] 38)
  obtain ⟨p0, p1, p2, -⟩ := A1.below b2
  obtain ⟨q0, q1, q2, -⟩ := atp_new (w.alloc (.cells #[.int .u64 (hI x), .int .u64 (lI x), .int .i64 n, .int .i64 h] 40)) (w.heap.size + 1) y m 38 (by simp)
  have HB := hidR (keepb b2 b1)
  clear A1 b1 b2
  go_enter Try.func45, Try.ntmps45
  go_wp2_with fail
  refine (KC _).mono ?_
  rintro e w1 ⟨rfl, hb⟩
  have kB := keepb hb HB.out
  clear KC hb HB p0 p1 p2 q0 q1 q2
  go_wp2
  go_ret
  exact ⟨rfl, kB⟩
/-- The place sought for, and a route of the row. -/
def CBs (w : World) (b o : Nat) (y : BitVec 128) (m : Int) (x : BitVec 128) (n h : Int) (W : World) : Prop := AtP W w.heap.size y m ∧ (W.cell? ⟨b, o, none⟩ = some (.int .u64 (hI x)) ∧ W.cell? ⟨b, o + 1, none⟩ = some (.int .u64 (lI x)) ∧ W.cell? ⟨b, o + 2, none⟩ = some (.int .i64 n) ∧ W.cell? ⟨b, o + 3, none⟩ = some (.int .i64 h)) ∧ Below w.heap.size w W
theorem CBs.below {w W W' : World} {b o : Nat} {y : BitVec 128} {m : Int} {x : BitVec 128} {n h : Int} (g : CBs w b o y m x n h W) (hb : Below W.heap.size W W') : CBs w b o y m x n h W' := ⟨g.1.below hb, ⟨keepc hb g.2.1.1, keepc hb g.2.1.2.1, keepc hb g.2.1.2.2.1, keepc hb g.2.1.2.2.2⟩, keepb hb g.2.2⟩
theorem CBs.drew {w W : World} {b o : Nat} {y : BitVec 128} {m : Int} {x : BitVec 128} {n h : Int} (g : CBs w b o y m x n h W) : CBs w b o y m x n h W.drew := ⟨g.1, g.2.1, g.2.2.drew⟩
/-- How a route stands to a prefix. -/
def toP (y : BitVec 128) (m : Int) (r : Rte) : Int := pcmpZ r.1.1 r.1.2 y m
set_option maxRecDepth 20000 in
set_option maxHeartbeats 8000000 in
theorem search_any (y : BitVec 128) (m : Int) (v : Value) (l : List Rte) (w : World) (hv : RwR w v l) (hl : l.length ≤ 1000000000) (hmono : ∀ (a b : Nat) (hb : b < l.length) (hab : a ≤ b), toP y m l[b] < 0 → toP y m (l[a]'(by omega)) < 0) :
    Calls Try.prog 44 #[v, .agg #[.int .u64 (hI y), .int .u64 (lI y), .int .i64 m], .func (.func 45) #[] #[]] w fun e w' => (∃ i : Nat, i ≤ l.length ∧ (∀ (j : Nat) (hj : j < l.length), j < i ↔ toP y m l[j] < 0) ∧ e = .returned (.tuple #[.int .i64 i, .bool (match l[i]? with | some r => decide (toP y m r = 0) | none => false)])) ∧ Below w.heap.size w w' := by
  obtain ⟨ao, c, rfl, hv⟩ := hv
  have HV := hidR hv
  have HM := hidR hmono
  have A0 := hidR (atp_new w w.heap.size y m 38 rfl)
  have b0 := bl1 w (.cells #[.int .u64 (hI y), .int .u64 (lI y), .int .i64 m] 38)
  clear hv hmono
  go_enter Try.func44, Try.ntmps44
  go_wp2_with fail
  go_loopw [9, 10] (fun p q wr => ∃ i j : Nat, p = .int .i64 i ∧ q = .int .i64 j ∧ i ≤ j ∧ j ≤ l.length ∧ Hid ((∀ (a : Nat) (ha : a < l.length), a < i → toP y m l[a] < 0) ∧ (∀ (a : Nat) (ha : a < l.length), j ≤ a → 0 ≤ toP y m l[a])) ∧ Hid (AtP wr w.heap.size y m) ∧ Hid (Below w.heap.size w wr)) (fun p q _ => (intOf q).toNat - (intOf p).toNat)
  case atStart => exact ⟨0, l.length, rfl, rfl, by omega, by omega, ⟨fun a ha h => by omega, fun a ha h => by omega⟩, A0, b0⟩
  case round =>
    clear A0 b0
    obtain ⟨i, j, rfl, rfl, hij, hjl, HI, HA, HB⟩ := hrel
    by_cases hlt : (i : Int) < (j : Int)
    · rcases HV.out with e | ⟨b, off, rfl, hc⟩
      · rw [e] at hjl; simp at hjl; omega
      · obtain ⟨q, hq⟩ : ∃ q, q = (i + j) / 2 := ⟨_, rfl⟩
        have hq1 : i ≤ q := by omega
        have hq2 : q < j := by omega
        have hw1 : IntKind.i64.wrap ((i : Int) + (j : Int)) = (i : Int) + (j : Int) := by rw [IntKind.wrap_i64]; omega
        have hw2 : IntKind.u64.wrap ((i : Int) + (j : Int)) = (i : Int) + (j : Int) := by rw [IntKind.wrap_u64]; omega
        have hqi : ((i : Int) + (j : Int)) / 2 = (q : Int) := by omega
        have hql : q < l.length := by omega
        obtain ⟨x0, x1, x2, x3⟩ := rwr_cells hc q hql
        have HC := hidR (CBs.drew ⟨HA.out, ⟨keepc HB.out x0, keepc HB.out x1, keepc HB.out x2, keepc HB.out x3⟩, HB.out⟩ : CBs w b (off + q * 4) y m l[q].1.1 l[q].1.2 l[q].2 wr.drew)
        have KC := fun w => cmpAt_any l[q].1.1 l[q].1.2 l[q].2 y m w
        have HZ : Hid (toP y m l[q] = pcmpZ l[q].1.1 l[q].1.2 y m) := rfl
        clear x0 x1 x2 x3 hc HA HB
        revert KC HZ HC
        generalize pcmpZ l[q].1.1 l[q].1.2 y m = cz
        generalize l[q].1.1 = x
        generalize l[q].1.2 = n
        generalize l[q].2 = h
        intro HC KC HZ
        clear hq
        go_wp2_with fail
        refine qp_region2 8 (qpOk 8 8 (by decide) (fun N => by kernel_rfl) (by kernel_rfl) (by kernel_rfl) (by kernel_rfl) (by kernel_rfl)) (C := CBs w b (off + q * 4) y m x n h) [some 24, some 25, some 26, some 27, some 28, some 29, some 30, some 31] [.func (.func 45) #[] #[], .slice (some ⟨b, off, none⟩) l.length c, .int .i64 (q : Int), .pointer (some ⟨b, off + q * 4, none⟩), .agg #[.int .u64 (hI x), .int .u64 (lI x), .int .i64 n, .int .i64 h], .agg #[.int .u64 (hI y), .int .u64 (lI y), .int .i64 m], .int .i64 cz, .bool (decide (cz < 0))] (by kernel_rfl) HC.out ?walk ?fin
        case walk =>
          dsimp only [List.take]
          refine q_run (v := .func (.func 45) #[] #[]) (by rfl) ?_ ?_
          · (intro w1 hC; obtain ⟨⟨z0, z1, z2, -, -, -⟩, ⟨x0, x1, x2, x3⟩, -⟩ := hC; go_simp; first | done | (simp; done) | (simp [*]; done) | omega | (simp; omega) | (rw [IntKind.wrap_i64]; omega) | (intro hx; omega) | rfl)
          simp only [Act.put, List.setIfInBounds_toArray, List.set_cons_zero, List.set_cons_succ]
          refine q_run (v := .slice (some ⟨b, off, none⟩) l.length c) (by rfl) ?_ ?_
          · (intro w1 hC; obtain ⟨⟨z0, z1, z2, -, -, -⟩, ⟨x0, x1, x2, x3⟩, -⟩ := hC; go_simp; first | done | (simp; done) | (simp [*]; done) | omega | (simp; omega) | (rw [IntKind.wrap_i64]; omega) | (intro hx; omega) | rfl)
          simp only [Act.put, List.setIfInBounds_toArray, List.set_cons_zero, List.set_cons_succ]
          refine q_run (v := .int .i64 (q : Int)) (by rfl) ?_ ?_
          · (intro w1 hC; obtain ⟨⟨z0, z1, z2, -, -, -⟩, ⟨x0, x1, x2, x3⟩, -⟩ := hC; go_simp; first | done | (simp; done) | (simp [*]; done) | omega | (simp; omega) | (rw [IntKind.wrap_i64]; omega) | (intro hx; omega) | rfl)
          simp only [Act.put, List.setIfInBounds_toArray, List.set_cons_zero, List.set_cons_succ]
          refine q_run (v := .pointer (some ⟨b, off + q * 4, none⟩)) (by rfl) ?_ ?_
          · (intro w1 hC; obtain ⟨⟨z0, z1, z2, -, -, -⟩, ⟨x0, x1, x2, x3⟩, -⟩ := hC; go_simp; first | done | (simp; done) | (simp [*]; done) | omega | (simp; omega) | (rw [IntKind.wrap_i64]; omega) | (intro hx; omega) | rfl)
          simp only [Act.put, List.setIfInBounds_toArray, List.set_cons_zero, List.set_cons_succ]
          refine q_run (v := .agg #[.int .u64 (hI x), .int .u64 (lI x), .int .i64 n, .int .i64 h]) (by rfl) ?_ ?_
          · (intro w1 hC; obtain ⟨⟨z0, z1, z2, -, -, -⟩, ⟨x0, x1, x2, x3⟩, -⟩ := hC; go_simp; first | done | (simp; done) | (simp [*]; done) | omega | (simp; omega) | (rw [IntKind.wrap_i64]; omega) | (intro hx; omega) | rfl)
          simp only [Act.put, List.setIfInBounds_toArray, List.set_cons_zero, List.set_cons_succ]
          refine q_run (v := .agg #[.int .u64 (hI y), .int .u64 (lI y), .int .i64 m]) (by rfl) ?_ ?_
          · (intro w1 hC; obtain ⟨⟨z0, z1, z2, -, -, -⟩, ⟨x0, x1, x2, x3⟩, -⟩ := hC; go_simp; first | done | (simp; done) | (simp [*]; done) | omega | (simp; omega) | (rw [IntKind.wrap_i64]; omega) | (intro hx; omega) | rfl)
          simp only [Act.put, List.setIfInBounds_toArray, List.set_cons_zero, List.set_cons_succ]
          refine q_call (v := .int .i64 cz) (f := 45) (args := #[.agg #[.int .u64 (hI x), .int .u64 (lI x), .int .i64 n, .int .i64 h], .agg #[.int .u64 (hI y), .int .u64 (lI y), .int .i64 m]]) (by rfl) ?_ ?_ ?_
          · (intro w1 hC; clear hC; go_simp)
          · exact fun w1 hC => (KC w1).mono fun e w' ⟨he, hb⟩ => ⟨he, hC.below hb⟩
          simp only [Act.put, List.setIfInBounds_toArray, List.set_cons_zero, List.set_cons_succ]
          refine q_run (v := .bool (decide (cz < 0))) (by rfl) ?_ ?_
          · (intro w1 hC; obtain ⟨⟨z0, z1, z2, -, -, -⟩, ⟨x0, x1, x2, x3⟩, -⟩ := hC; go_simp; first | done | (simp; done) | (simp [*]; done) | omega | (simp; omega) | (rw [IntKind.wrap_i64]; omega) | (intro hx; omega) | rfl)
          simp only [Act.put, List.setIfInBounds_toArray, List.set_cons_zero, List.set_cons_succ]
          refine wpQuiet_nil ?_
          simp only [putAll, Act.put, List.setIfInBounds_toArray, List.set_cons_zero, List.set_cons_succ]
        case fin =>
          intro W hC
          simp only [putAll, Act.put, List.setIfInBounds_toArray, List.set_cons_zero, List.set_cons_succ]
          dsimp only [List.drop]
          have HA := hidR hC.1
          have HB := hidR hC.2.2
          clear hC HC KC hqi hw1 hw2
          by_cases hz : cz < 0
          · have hw3 : IntKind.i64.wrap ((q : Int) + 1) = (q : Int) + 1 := by rw [IntKind.wrap_i64]; omega
            go_wp2
            go_roundw
            case rel =>
              refine ⟨q + 1, j, by go_num, rfl, by omega, by omega, ⟨fun a ha hh => ?_, HI.out.2⟩, HA, HB⟩
              exact HM.out a q hql (by omega) (by rw [HZ.out]; exact hz)
            case measure => simp [intOf]; omega
          · go_wp2
            go_roundw
            case rel =>
              refine ⟨i, q, rfl, rfl, by omega, by omega, ⟨HI.out.1, fun a ha hh => Int.not_lt.mp fun hn => ?_⟩, HA, HB⟩
              have := HM.out q a ha hh hn
              rw [HZ.out] at this
              omega
            case measure => simp [intOf]; omega
    · have hd : ¬ i < j := by omega
      have hji : j = i := by omega
      subst hji
      by_cases hin : j < l.length
      · rcases HV.out with e | ⟨b, off, rfl, hc⟩
        · rw [e] at hin; simp at hin
        · obtain ⟨x0, x1, x2, x3⟩ := rwr_cells hc j hin
          have HC := hidR (CBs.drew ⟨HA.out, ⟨keepc HB.out x0, keepc HB.out x1, keepc HB.out x2, keepc HB.out x3⟩, HB.out⟩ : CBs w b (off + j * 4) y m l[j].1.1 l[j].1.2 l[j].2 wr.drew)
          have KC := fun w => cmpAt_any l[j].1.1 l[j].1.2 l[j].2 y m w
          have HR : Hid ((match l[j]? with | some r => decide (toP y m r = 0) | none => false) = (pcmpZ l[j].1.1 l[j].1.2 y m == 0)) := by
            show _ = _
            rw [List.getElem?_eq_getElem hin]
            rfl
          clear x0 x1 x2 x3 hc HA HB
          revert KC HR HC
          generalize pcmpZ l[j].1.1 l[j].1.2 y m = cz
          generalize l[j].1.1 = x
          generalize l[j].1.2 = n
          generalize l[j].2 = h
          intro HC KC HR
          have hin' : (j : Int) < (l.length : Int) := by omega
          go_wp2_with fail
          refine qp_region2 16 (qpOk 16 16 (by decide) (fun N => by kernel_rfl) (by kernel_rfl) (by kernel_rfl) (by kernel_rfl) (by kernel_rfl)) (C := CBs w b (off + j * 4) y m x n h) [some 35, some 36, some 37, some 38, some 39, some 40, some 41, some 42, some 43, some 44, some 45, some 46, some 47, some 48, some 6, some 7] [.int .i64 (j : Int), .int .i64 (j : Int), .int .i64 (l.length : Int), .bool true, .bool true, .func (.func 45) #[] #[], .slice (some ⟨b, off, none⟩) l.length c, .int .i64 (j : Int), .pointer (some ⟨b, off + j * 4, none⟩), .agg #[.int .u64 (hI x), .int .u64 (lI x), .int .i64 n, .int .i64 h], .agg #[.int .u64 (hI y), .int .u64 (lI y), .int .i64 m], .int .i64 cz, .bool (cz == 0), .bool (cz == 0), .int .i64 (j : Int), .bool (cz == 0)] (by kernel_rfl) HC.out ?walk ?fin
          case walk =>
            dsimp only [List.take]
            refine q_run (v := .int .i64 (j : Int)) (by rfl) ?_ ?_
            · (intro w1 hC; obtain ⟨⟨z0, z1, z2, -, -, -⟩, ⟨x0, x1, x2, x3⟩, -⟩ := hC; go_simp; first | done | (simp; done) | (simp [*]; done) | omega | (simp; omega) | (rw [IntKind.wrap_i64]; omega) | (intro hx; omega) | rfl)
            simp only [Act.put, List.setIfInBounds_toArray, List.set_cons_zero, List.set_cons_succ]
            refine q_run (v := .int .i64 (j : Int)) (by rfl) ?_ ?_
            · (intro w1 hC; obtain ⟨⟨z0, z1, z2, -, -, -⟩, ⟨x0, x1, x2, x3⟩, -⟩ := hC; go_simp; first | done | (simp; done) | (simp [*]; done) | omega | (simp; omega) | (rw [IntKind.wrap_i64]; omega) | (intro hx; omega) | rfl)
            simp only [Act.put, List.setIfInBounds_toArray, List.set_cons_zero, List.set_cons_succ]
            refine q_run (v := .int .i64 (l.length : Int)) (by rfl) ?_ ?_
            · (intro w1 hC; obtain ⟨⟨z0, z1, z2, -, -, -⟩, ⟨x0, x1, x2, x3⟩, -⟩ := hC; go_simp; first | done | (simp; done) | (simp [*]; done) | omega | (simp; omega) | (rw [IntKind.wrap_i64]; omega) | (intro hx; omega) | rfl)
            simp only [Act.put, List.setIfInBounds_toArray, List.set_cons_zero, List.set_cons_succ]
            refine q_run (v := .bool true) (by rfl) ?_ ?_
            · (intro w1 hC; obtain ⟨⟨z0, z1, z2, -, -, -⟩, ⟨x0, x1, x2, x3⟩, -⟩ := hC; go_simp; first | done | (simp; done) | (simp [*]; done) | omega | (simp; omega) | (rw [IntKind.wrap_i64]; omega) | (intro hx; omega) | rfl)
            simp only [Act.put, List.setIfInBounds_toArray, List.set_cons_zero, List.set_cons_succ]
            refine q_run (v := .bool true) (by rfl) ?_ ?_
            · (intro w1 hC; obtain ⟨⟨z0, z1, z2, -, -, -⟩, ⟨x0, x1, x2, x3⟩, -⟩ := hC; go_simp; first | done | (simp; done) | (simp [*]; done) | omega | (simp; omega) | (rw [IntKind.wrap_i64]; omega) | (intro hx; omega) | rfl)
            simp only [Act.put, List.setIfInBounds_toArray, List.set_cons_zero, List.set_cons_succ]
            refine q_run (v := .func (.func 45) #[] #[]) (by rfl) ?_ ?_
            · (intro w1 hC; obtain ⟨⟨z0, z1, z2, -, -, -⟩, ⟨x0, x1, x2, x3⟩, -⟩ := hC; go_simp; first | done | (simp; done) | (simp [*]; done) | omega | (simp; omega) | (rw [IntKind.wrap_i64]; omega) | (intro hx; omega) | rfl)
            simp only [Act.put, List.setIfInBounds_toArray, List.set_cons_zero, List.set_cons_succ]
            refine q_run (v := .slice (some ⟨b, off, none⟩) l.length c) (by rfl) ?_ ?_
            · (intro w1 hC; obtain ⟨⟨z0, z1, z2, -, -, -⟩, ⟨x0, x1, x2, x3⟩, -⟩ := hC; go_simp; first | done | (simp; done) | (simp [*]; done) | omega | (simp; omega) | (rw [IntKind.wrap_i64]; omega) | (intro hx; omega) | rfl)
            simp only [Act.put, List.setIfInBounds_toArray, List.set_cons_zero, List.set_cons_succ]
            refine q_run (v := .int .i64 (j : Int)) (by rfl) ?_ ?_
            · (intro w1 hC; obtain ⟨⟨z0, z1, z2, -, -, -⟩, ⟨x0, x1, x2, x3⟩, -⟩ := hC; go_simp; first | done | (simp; done) | (simp [*]; done) | omega | (simp; omega) | (rw [IntKind.wrap_i64]; omega) | (intro hx; omega) | rfl)
            simp only [Act.put, List.setIfInBounds_toArray, List.set_cons_zero, List.set_cons_succ]
            refine q_run (v := .pointer (some ⟨b, off + j * 4, none⟩)) (by rfl) ?_ ?_
            · (intro w1 hC; obtain ⟨⟨z0, z1, z2, -, -, -⟩, ⟨x0, x1, x2, x3⟩, -⟩ := hC; go_simp; first | done | (simp; done) | (simp [*]; done) | omega | (simp; omega) | (rw [IntKind.wrap_i64]; omega) | (intro hx; omega) | rfl)
            simp only [Act.put, List.setIfInBounds_toArray, List.set_cons_zero, List.set_cons_succ]
            refine q_run (v := .agg #[.int .u64 (hI x), .int .u64 (lI x), .int .i64 n, .int .i64 h]) (by rfl) ?_ ?_
            · (intro w1 hC; obtain ⟨⟨z0, z1, z2, -, -, -⟩, ⟨x0, x1, x2, x3⟩, -⟩ := hC; go_simp; first | done | (simp; done) | (simp [*]; done) | omega | (simp; omega) | (rw [IntKind.wrap_i64]; omega) | (intro hx; omega) | rfl)
            simp only [Act.put, List.setIfInBounds_toArray, List.set_cons_zero, List.set_cons_succ]
            refine q_run (v := .agg #[.int .u64 (hI y), .int .u64 (lI y), .int .i64 m]) (by rfl) ?_ ?_
            · (intro w1 hC; obtain ⟨⟨z0, z1, z2, -, -, -⟩, ⟨x0, x1, x2, x3⟩, -⟩ := hC; go_simp; first | done | (simp; done) | (simp [*]; done) | omega | (simp; omega) | (rw [IntKind.wrap_i64]; omega) | (intro hx; omega) | rfl)
            simp only [Act.put, List.setIfInBounds_toArray, List.set_cons_zero, List.set_cons_succ]
            refine q_call (v := .int .i64 cz) (f := 45) (args := #[.agg #[.int .u64 (hI x), .int .u64 (lI x), .int .i64 n, .int .i64 h], .agg #[.int .u64 (hI y), .int .u64 (lI y), .int .i64 m]]) (by rfl) ?_ ?_ ?_
            · (intro w1 hC; clear hC; go_simp)
            · exact fun w1 hC => (KC w1).mono fun e w' ⟨he, hb⟩ => ⟨he, hC.below hb⟩
            simp only [Act.put, List.setIfInBounds_toArray, List.set_cons_zero, List.set_cons_succ]
            refine q_run (v := .bool (cz == 0)) (by rfl) ?_ ?_
            · (intro w1 hC; obtain ⟨⟨z0, z1, z2, -, -, -⟩, ⟨x0, x1, x2, x3⟩, -⟩ := hC; go_simp; first | done | (simp; done) | (simp [*]; done) | omega | (simp; omega) | (rw [IntKind.wrap_i64]; omega) | (intro hx; omega) | rfl)
            simp only [Act.put, List.setIfInBounds_toArray, List.set_cons_zero, List.set_cons_succ]
            refine q_run (v := .bool (cz == 0)) (by rfl) ?_ ?_
            · (intro w1 hC; obtain ⟨⟨z0, z1, z2, -, -, -⟩, ⟨x0, x1, x2, x3⟩, -⟩ := hC; go_simp; first | done | (simp; done) | (simp [*]; done) | omega | (simp; omega) | (rw [IntKind.wrap_i64]; omega) | (intro hx; omega) | rfl)
            simp only [Act.put, List.setIfInBounds_toArray, List.set_cons_zero, List.set_cons_succ]
            refine q_run (v := .int .i64 (j : Int)) (by rfl) ?_ ?_
            · (intro w1 hC; obtain ⟨⟨z0, z1, z2, -, -, -⟩, ⟨x0, x1, x2, x3⟩, -⟩ := hC; go_simp; first | done | (simp; done) | (simp [*]; done) | omega | (simp; omega) | (rw [IntKind.wrap_i64]; omega) | (intro hx; omega) | rfl)
            simp only [Act.put, List.setIfInBounds_toArray, List.set_cons_zero, List.set_cons_succ]
            refine q_run (v := .bool (cz == 0)) (by rfl) ?_ ?_
            · (intro w1 hC; obtain ⟨⟨z0, z1, z2, -, -, -⟩, ⟨x0, x1, x2, x3⟩, -⟩ := hC; go_simp; first | done | (simp; done) | (simp [*]; done) | omega | (simp; omega) | (rw [IntKind.wrap_i64]; omega) | (intro hx; omega) | rfl)
            simp only [Act.put, List.setIfInBounds_toArray, List.set_cons_zero, List.set_cons_succ]
            refine wpQuiet_nil ?_
            simp only [putAll, Act.put, List.setIfInBounds_toArray, List.set_cons_zero, List.set_cons_succ]
          case fin =>
            intro W hC
            simp only [putAll, Act.put, List.setIfInBounds_toArray, List.set_cons_zero, List.set_cons_succ]
            dsimp only [List.drop]
            have HB := hidR hC.2.2
            clear hC HC KC
            go_wp2
            exact bodyPost_ret (v := .tuple #[.int .i64 (j : Int), .bool (cz == 0)]) (by simp [results, Try.results44, go_sem]) rfl ⟨⟨j, by omega, fun a ha => ⟨fun hh => HI.out.1 a ha hh, fun hh => Classical.byContradiction fun hn => absurd hh (Int.not_lt.mpr (HI.out.2 a ha (by omega)))⟩, by rw [HR.out]⟩, HB.out⟩
      · have hin' : ¬ (j : Int) < (l.length : Int) := by omega
        have HC := hidR HB.out.drew
        have HR : Hid ((match l[j]? with | some r => decide (toP y m r = 0) | none => false) = false) := by
          show _ = _
          rw [List.getElem?_eq_none (by omega)]
        clear HA HB
        go_wp2_with fail
        refine qw_region (C := fun W => Below w.heap.size w W) (by kernel_rfl) (by kernel_rfl) HC.out ?_
        clear HC
        refine qw_run (v := .int .i64 (j : Int)) (by rfl) ?_ ?_
        · (intro w1 hC; obtain hD := hC; go_simp; first | done | (simp; done) | (simp [*]; done) | omega | (simp; omega) | (rw [IntKind.wrap_i64]; omega) | (intro hx; omega) | rfl)
        simp only [Act.put, List.setIfInBounds_toArray, List.set_cons_zero, List.set_cons_succ]
        refine qw_run (v := .int .i64 (j : Int)) (by rfl) ?_ ?_
        · (intro w1 hC; obtain hD := hC; go_simp; first | done | (simp; done) | (simp [*]; done) | omega | (simp; omega) | (rw [IntKind.wrap_i64]; omega) | (intro hx; omega) | rfl)
        simp only [Act.put, List.setIfInBounds_toArray, List.set_cons_zero, List.set_cons_succ]
        refine qw_run (v := .int .i64 (l.length : Int)) (by rfl) ?_ ?_
        · (intro w1 hC; obtain hD := hC; go_simp; first | done | (simp; done) | (simp [*]; done) | omega | (simp; omega) | (rw [IntKind.wrap_i64]; omega) | (intro hx; omega) | rfl)
        simp only [Act.put, List.setIfInBounds_toArray, List.set_cons_zero, List.set_cons_succ]
        refine qw_run (v := .bool false) (by rfl) ?_ ?_
        · (intro w1 hC; obtain hD := hC; go_simp; first | done | (simp; done) | (simp [*]; done) | omega | (simp; omega) | (rw [IntKind.wrap_i64]; omega) | (intro hx; omega) | rfl)
        simp only [Act.put, List.setIfInBounds_toArray, List.set_cons_zero, List.set_cons_succ]
        refine qw_run (v := .bool false) (by rfl) ?_ ?_
        · (intro w1 hC; obtain hD := hC; go_simp; first | done | (simp; done) | (simp [*]; done) | omega | (simp; omega) | (rw [IntKind.wrap_i64]; omega) | (intro hx; omega) | rfl)
        simp only [Act.put, List.setIfInBounds_toArray, List.set_cons_zero, List.set_cons_succ]
        refine qw_skip (by rfl) ?_
        simp only [Act.put, List.setIfInBounds_toArray, List.set_cons_zero, List.set_cons_succ]
        refine qw_skip (by rfl) ?_
        simp only [Act.put, List.setIfInBounds_toArray, List.set_cons_zero, List.set_cons_succ]
        refine qw_skip (by rfl) ?_
        simp only [Act.put, List.setIfInBounds_toArray, List.set_cons_zero, List.set_cons_succ]
        refine qw_skip (by rfl) ?_
        simp only [Act.put, List.setIfInBounds_toArray, List.set_cons_zero, List.set_cons_succ]
        refine qw_skip (by rfl) ?_
        simp only [Act.put, List.setIfInBounds_toArray, List.set_cons_zero, List.set_cons_succ]
        refine qw_skip (by rfl) ?_
        simp only [Act.put, List.setIfInBounds_toArray, List.set_cons_zero, List.set_cons_succ]
        refine qw_skip (by rfl) ?_
        simp only [Act.put, List.setIfInBounds_toArray, List.set_cons_zero, List.set_cons_succ]
        refine qw_skip (by rfl) ?_
        simp only [Act.put, List.setIfInBounds_toArray, List.set_cons_zero, List.set_cons_succ]
        refine qw_run (v := .bool false) (by rfl) ?_ ?_
        · (intro w1 hC; obtain hD := hC; go_simp; first | done | (simp; done) | (simp [*]; done) | omega | (simp; omega) | (rw [IntKind.wrap_i64]; omega) | (intro hx; omega) | rfl)
        simp only [Act.put, List.setIfInBounds_toArray, List.set_cons_zero, List.set_cons_succ]
        refine qw_run (v := .int .i64 (j : Int)) (by rfl) ?_ ?_
        · (intro w1 hC; obtain hD := hC; go_simp; first | done | (simp; done) | (simp [*]; done) | omega | (simp; omega) | (rw [IntKind.wrap_i64]; omega) | (intro hx; omega) | rfl)
        simp only [Act.put, List.setIfInBounds_toArray, List.set_cons_zero, List.set_cons_succ]
        refine qw_run (v := .bool false) (by rfl) ?_ ?_
        · (intro w1 hC; obtain hD := hC; go_simp; first | done | (simp; done) | (simp [*]; done) | omega | (simp; omega) | (rw [IntKind.wrap_i64]; omega) | (intro hx; omega) | rfl)
        simp only [Act.put, List.setIfInBounds_toArray, List.set_cons_zero, List.set_cons_succ]
        refine qw_nil ?_
        intro W hC
        have HB := hidR hC
        clear hC
        go_wp2
        exact bodyPost_ret (v := .tuple #[.int .i64 (j : Int), .bool false]) (by simp [results, Try.results44, go_sem]) rfl ⟨⟨j, by omega, fun a ha => ⟨fun hh => HI.out.1 a ha hh, fun hh => Classical.byContradiction fun hn => absurd hh (Int.not_lt.mpr (HI.out.2 a ha (by omega)))⟩, by rw [HR.out]⟩, HB.out⟩
end Go.Proofs.Ytmeaikmmhgmgnaa
