/-
  Part 21 of the proof: 1 texts, one behind the other.
-/
import Derived.Test.YtpiicdpipjjenaaGreatDoorPart20
namespace Go.Proofs.YtpiicdpipjjenaaGreatDoor
open Go.RowKit
set_option linter.unusedSimpArgs false
set_option linter.unusedVariables false
attribute [local go_sem] Oper.semAt_some

def EnC (w : World) (R : Nat) (X : World) : Prop := X.heap[w.heap.size]? = some (.cells #[.int .u64 0, .int .u64 0, .int .i64 0, .int .i64 0] 47) ∧ X.heap[w.heap.size + 1]? = some (.cells #[.int .i64 0, .int .i64 0, .int .i64 0] 37) ∧ Bo R w X
section
variable {w X Y : World} {R : Nat} {F : Int} {s : ByteArray} {a ln st : Int}
theorem EnC.bo (k : EnC w R X) (hR : R < w.heap.size) (h : Bo R X Y) : EnC w R Y := ⟨(h.blk _ (blk_lt5 k.1) (by omega)).trans k.1, (h.blk _ (blk_lt5 k.2.1) (by omega)).trans k.2.1, k.2.2.trans h⟩
theorem EnC.zero (k : EnC w R X) : X.cell? ⟨w.heap.size, 0, none⟩ = some (.int .u64 0) ∧ X.cell? ⟨w.heap.size, 1, none⟩ = some (.int .u64 0) ∧ X.cell? ⟨w.heap.size, 2, none⟩ = some (.int .i64 0) ∧ X.cell? ⟨w.heap.size, 3, none⟩ = some (.int .i64 0) ∧ X.cell? ⟨w.heap.size + 1, 0, none⟩ = some (.int .i64 0) ∧ X.cell? ⟨w.heap.size + 1, 1, none⟩ = some (.int .i64 0) ∧ X.cell? ⟨w.heap.size + 1, 2, none⟩ = some (.int .i64 0) := ⟨at_blk k.1 0 _ rfl, at_blk k.1 1 _ rfl, at_blk k.1 2 _ rfl, at_blk k.1 3 _ rfl, at_blk k.2.1 0 _ rfl, at_blk k.2.1 1 _ rfl, at_blk k.2.1 2 _ rfl⟩
theorem EnC.free (k : EnC w R X) : (∀ j, X.frozen? ⟨w.heap.size, j, none⟩ = false) ∧ (∀ j, X.frozen? ⟨w.heap.size + 1, j, none⟩ = false) := ⟨fun j => fr_blk5 k.1, fun j => fr_blk5 k.2.1⟩
theorem EnC.ret (k : EnC w R Y) (hR : R < w.heap.size) (hr : RdV Y R F s a ln st) (v0 v1 v2 v3 f0 f1 f2 : Value) : RdV (((((((Y.setCell ⟨w.heap.size, 0, none⟩ (v0)).setCell ⟨w.heap.size, 1, none⟩ (v1)).setCell ⟨w.heap.size, 2, none⟩ (v2)).setCell ⟨w.heap.size, 3, none⟩ (v3)).setCell ⟨w.heap.size + 1, 0, none⟩ (f0)).setCell ⟨w.heap.size + 1, 1, none⟩ (f1)).setCell ⟨w.heap.size + 1, 2, none⟩ (f2)) R F s a ln st ∧ Bo R w (((((((Y.setCell ⟨w.heap.size, 0, none⟩ (v0)).setCell ⟨w.heap.size, 1, none⟩ (v1)).setCell ⟨w.heap.size, 2, none⟩ (v2)).setCell ⟨w.heap.size, 3, none⟩ (v3)).setCell ⟨w.heap.size + 1, 0, none⟩ (f0)).setCell ⟨w.heap.size + 1, 1, none⟩ (f1)).setCell ⟨w.heap.size + 1, 2, none⟩ (f2)) := by
  have hs : ∀ {W : World} {b o : Nat} {u : Value}, ¬ R = b → RdV W R F s a ln st → RdV (W.setCell ⟨b, o, none⟩ u) R F s a ln st := fun h q => (hSet _ h).trans q
  refine ⟨hs (by omega) (hs (by omega) (hs (by omega) (hs (by omega) (hs (by omega) (hs (by omega) (hs (by omega) hr)))))), ?_⟩
  exact Bt.set (Bt.set (Bt.set (Bt.set (Bt.set (Bt.set (Bt.set k.2.2 (.inr (by omega)) _ _) (.inr (by omega)) _ _) (.inr (by omega)) _ _) (.inr (by omega)) _ _) (.inr (by omega)) _ _) (.inr (by omega)) _ _) (.inr (by omega)) _ _
end
def entV (ln st : Int) : (Int × Nat) ⊕ (Rte × Nat) → Value
  | .inl (e, p) => .tuple #[.agg #[.int .u64 0, .int .u64 0, .int .i64 0, .int .i64 0], .agg #[.int .i64 e, .int .i64 ln, .int .i64 ((p : Int) - st + 1)]]
  | .inr (r, p) => .tuple #[.agg #[.int .u64 (hI r.1.1), .int .u64 (lI r.1.1), .int .i64 r.1.2, .int .i64 r.2], .agg #[.int .i64 0, .int .i64 0, .int .i64 0]]
def entP : (Int × Nat) ⊕ (Rte × Nat) → Nat
  | .inl (_, p) => p
  | .inr (_, p) => p
theorem ext_size (s : ByteArray) (a b : Nat) (h : b ≤ s.size) : (s.extract a b).size = b - a := by
  have q : (s.extract a b).size = min b s.size - a := ByteArray.size_extract
  omega
set_option maxRecDepth 20000 in
set_option maxHeartbeats 16000000 in
theorem entry5_any (R : Nat) (F : Int) (s : ByteArray) (ln st : Int) (k : Nat) (w : World) (h : RdV w R F s (k : Int) ln st) (hk : k ≤ s.size) (hs : s.size ≤ 1000000000) (hst0 : 0 ≤ st) (hst1 : st ≤ 2000000000) :
    Calls Tryz.prog 48 #[.pointer (some ⟨R, 0, none⟩)] w fun e w' => e = .returned (entV ln st (entO F s k)) ∧ RdV w' R F s (entP (entO F s k) : Nat) ln st ∧ Bo R w w' := by
  have hRw : R < w.heap.size := h.lt
  have q1 := bl1 w (.cells #[.int .u64 0, .int .u64 0, .int .i64 0, .int .i64 0] 47)
  have q2 := bl1 (w.alloc (.cells #[.int .u64 0, .int .u64 0, .int .i64 0, .int .i64 0] 47)) (.cells #[.int .i64 0, .int .i64 0, .int .i64 0] 37)
  have s1 : (w.alloc (.cells #[.int .u64 0, .int .u64 0, .int .i64 0, .int .i64 0] 47)).heap.size = w.heap.size + 1 := by simp
  have HR0 := hidR ((h.below q1).below q2)
  have HE0 : Hid (∀ X, X = (w.alloc (.cells #[.int .u64 0, .int .u64 0, .int .i64 0, .int .i64 0] 47)).alloc (.cells #[.int .i64 0, .int .i64 0, .int .i64 0] 37) → EnC w R X) := hidR (by
    rintro X rfl
    refine ⟨?_, ?_, Bt.ofB (keepb q2 q1)⟩
    · rw [q2.block _ (by omega)]
      exact Array.getElem?_push_size
    · rw [← s1]
      exact Array.getElem?_push_size)
  obtain ⟨e1, he1⟩ : ∃ e1, e1 = wdS s k := ⟨_, rfl⟩
  have b1 := wdS_bd s _ k (Nat.le_refl _) hk
  rw [← he1] at b1
  obtain ⟨t1, ht1⟩ : ∃ t1, t1 = s.extract k e1 := ⟨_, rfl⟩
  have Hz1 : Hid (t1.size = e1 - k) := hidR (by rw [ht1]; exact ext_size s k e1 b1.2.1)
  have HO : Hid (entO F s k = if ppE F (s.extract k e1) = 0 then (if kdS s (skS s e1) = 0 then (match nhO (s.extract (skS s e1) (wdS s (skS s e1))) with | none => .inl (15, skS s e1) | some h => if kdS s (skS s (wdS s (skS s e1))) = 0 then .inl (12, skS s (wdS s (skS s e1))) else .inr (((ppV F (s.extract k e1), ppN F (s.extract k e1)), h), skS s (wdS s (skS s e1)))) else .inl (12, skS s e1)) else .inl (ppE F (s.extract k e1), k)) := hidR (by rw [he1]; rfl)
  have HK0 := hidR (fun w h => word5_any R F s ln st k w h hk hs)
  rw [← he1, ← ht1] at HK0
  rw [← ht1] at HO
  clear he1 q1 q2 s1 h ht1
  go_enter Tryz.func48, Tryz.ntmps48
  go_wp2_with fail
  revert HR0 HE0
  generalize hW0 : (w.alloc (.cells #[.int .u64 0, .int .u64 0, .int .i64 0, .int .i64 0] 47)).alloc (.cells #[.int .i64 0, .int .i64 0, .int .i64 0] 37) = W0
  intro HR0 HE0
  have HE0 := hidR (HE0.out W0 rfl)
  clear hW0
  refine (HK0.out W0 HR0.out).mono ?_
  rintro e X ⟨rfl, hb⟩
  have HRX := hidR (HR0.out.below hb)
  have HEX := hidR (HE0.out.bo hRw (Bt.ofB hb))
  clear hb HR0 HE0 HK0
  obtain ⟨c0, -⟩ := HRX.out.cells
  have KP := fun w => pparse_any F t1 w (by have := Hz1.out; unfold maxLen; omega)
  revert HO KP
  generalize ppE F t1 = pe
  generalize ppV F t1 = px
  generalize ppN F t1 = pn
  intro HO KP
  go_wp2_with fail
  refine (KP X).mono ?_
  rintro e X1 ⟨rfl, hb⟩
  have HRX1 := hidR (HRX.out.below hb)
  have HEX1 := hidR (HEX.out.bo hRw (Bt.ofB hb))
  have hX1 : w.heap.size + 1 < X1.heap.size := blk_lt5 HEX1.out.2.1
  clear hb HRX HEX c0 KP
  by_cases hp : pe = 0
  · subst hp
    have HO1 := hidR (HO.out.trans (if_pos rfl))
    clear HO
    obtain ⟨-, -, r2, -, -⟩ := HRX1.out.cells
    have f2 := HRX1.out.free 2
    have wk : IntKind.i64.wrap ((k : Int) + (t1.size : Int)) = (e1 : Int) := by rw [Hz1.out, IntKind.wrap_i64]; omega
    have hRs := HRX1.out.setA (e1 : Int)
    have hEs := HEX1.out.bo hRw (Bo.set (Bt.refl _ _) 2 (.int .i64 (e1 : Int)))
    have q3 := bl1 (X1.setCell ⟨R, 2, none⟩ (.int .i64 (e1 : Int))) (.cells #[.int .u64 (hI px), .int .u64 (lI px), .int .i64 pn] 45)
    have HRs := hidR (hRs.below q3)
    have HEs := hidR (hEs.bo hRw (Bt.ofB q3))
    have HPs : Hid (((X1.setCell ⟨R, 2, none⟩ (.int .i64 (e1 : Int))).alloc (.cells #[.int .u64 (hI px), .int .u64 (lI px), .int .i64 pn] 45)).heap[X1.heap.size]? = some (.cells #[.int .u64 (hI px), .int .u64 (lI px), .int .i64 pn] 45)) := hidR (by
      have e : (X1.setCell ⟨R, 2, none⟩ (.int .i64 (e1 : Int))).heap.size = X1.heap.size := by simp
      rw [← e]
      exact Array.getElem?_push_size)
    clear HRX1 HEX1 hRs hEs q3
    have hlt2 : R < X1.heap.size := by omega
    go_wp2_with fail
    clear r2 f2 hlt2
    revert HRs HEs HPs
    generalize (X1.setCell ⟨R, 2, none⟩ (.int .i64 (e1 : Int))).alloc (.cells #[.int .u64 (hI px), .int .u64 (lI px), .int .i64 pn] 45) = X2
    generalize X1.heap.size = PB at *
    intro HRs HEs HPs
    have b2 := skS_bd s _ e1 (Nat.le_refl _) b1.2.1
    have KT := toWord_any R F s ln st e1 X2 HRs.out b1.2.1 hs
    revert HO1 KT b2
    generalize skS s e1 = a1
    intro HO1 b2 KT
    refine KT.mono ?_
    rintro e X3 ⟨rfl, hR3, hb3⟩
    have HR3 := hidR hR3
    have HE3 := hidR (HEs.out.bo hRw hb3)
    have HP3 := hidR ((hb3.blk PB (blk_lt5 HPs.out) (by omega)).trans HPs.out)
    clear KT hR3 hb3 HRs HEs HPs wk
    by_cases hk1 : kdS s a1 = 0
    · have HO2 := hidR (HO1.out.trans (if_pos hk1))
      have hd1 : decide (kdS s a1 = 0) = true := decide_eq_true hk1
      rw [hd1]
      clear HO1 hd1
      obtain ⟨e2, he2⟩ : ∃ e2, e2 = wdS s a1 := ⟨_, rfl⟩
      have b3 := wdS_bd s _ a1 (Nat.le_refl _) b2.2.1
      have KW := word5_any R F s ln st a1 X3 HR3.out b2.2.1 hs
      rw [← he2] at b3 KW HO2
      obtain ⟨t2, ht2⟩ : ∃ t2, t2 = s.extract a1 e2 := ⟨_, rfl⟩
      have Hz2 : Hid (t2.size = e2 - a1) := hidR (by rw [ht2]; exact ext_size s a1 e2 b3.2.1)
      rw [← ht2] at KW HO2
      clear he2 hk1 ht2
      go_wp2_with fail
      refine KW.mono ?_
      rintro e X4 ⟨rfl, hb⟩
      have HR4 := hidR (HR3.out.below hb)
      have HE4 := hidR (HE3.out.bo hRw (Bt.ofB hb))
      have HP4 := hidR ((hb.block PB (blk_lt5 HP3.out)).trans HP3.out)
      clear KW hb HR3 HE3 HP3
      have KN := nextHop_any t2 X4 (by have := Hz2.out; omega)
      revert HO2 KN
      generalize nhO t2 = no
      intro HO2 KN
      go_wp2_with fail
      refine KN.mono ?_
      rintro e X5 ⟨rfl, rfl⟩
      clear KN
      cases no with
      | none =>
        have HEq := hidR HO2.out
        have HRX := HR4
        have HEX := HE4
        clear HR4 HE4 HP4 HO2
        simp only [Option.getD_none, Option.isSome_none]
        go_wp2_with fail
        have KF := fault5_any R F s 15 ((a1 : Nat) : Int) ln st _ HRX.out hst0 hst1 (by omega) (by omega)
        refine KF.mono ?_
        rintro e9 Y ⟨rfl, hb⟩
        have HR9 := hidR (HRX.out.below hb)
        have HE9 := hidR (HEX.out.bo hRw (Bt.ofB hb))
        clear KF hb HRX HEX
        have HFin := hidR (HE9.out.ret hRw HR9.out (.int .u64 0) (.int .u64 0) (.int .i64 0) (.int .i64 0) (.int .i64 15) (.int .i64 ln) (.int .i64 ((a1 : Int) - st + 1)))
        obtain ⟨z0, z1, z2, z3, z4, z5, z6⟩ := HE9.out.zero
        have g0 := HE9.out.free.1
        have g1 := HE9.out.free.2
        have e0 := g0 0
        have e1 := g0 1
        have e2 := g0 2
        have e3 := g0 3
        have e4 := g1 0
        have e5 := g1 1
        have e6 := g1 2
        clear g0 g1 HE9 HR9
        go_wp2
        exact bodyPost_ret (v := .tuple #[.agg #[.int .u64 0, .int .u64 0, .int .i64 0, .int .i64 0], .agg #[.int .i64 15, .int .i64 ln, .int .i64 ((a1 : Int) - st + 1)]]) (by simp [results, Tryz.results48, go_sem, z0, z1, z2, z3, z4, z5, z6]) rfl ⟨by rw [HEq.out]; rfl, by rw [HEq.out]; exact HFin.out⟩
      | some hh =>
        have HO3 := HO2
        clear HO2
        simp only [Option.getD_some, Option.isSome_some]
        obtain ⟨-, -, r2, -, -⟩ := HR4.out.cells
        have f2 := HR4.out.free 2
        have wk : IntKind.i64.wrap ((a1 : Int) + (t2.size : Int)) = (e2 : Int) := by rw [Hz2.out, IntKind.wrap_i64]; omega
        have HRs := hidR (HR4.out.setA (e2 : Int))
        have HEs := hidR (HE4.out.bo hRw (Bo.set (Bt.refl _ _) 2 (.int .i64 (e2 : Int))))
        have HPs : Hid ((X5.setCell ⟨R, 2, none⟩ (.int .i64 (e2 : Int))).heap[PB]? = some (.cells #[.int .u64 (hI px), .int .u64 (lI px), .int .i64 pn] 45)) := hidR ((hSet _ (by omega)).trans HP4.out)
        clear HR4 HE4 HP4
        go_wp2_with fail
        clear r2 f2
        revert HRs HEs HPs
        generalize X5.setCell ⟨R, 2, none⟩ (.int .i64 (e2 : Int)) = X6
        intro HRs HEs HPs
        have b4 := skS_bd s _ e2 (Nat.le_refl _) b3.2.1
        have KT := toWord_any R F s ln st e2 X6 HRs.out b3.2.1 hs
        revert HO3 KT b4
        generalize skS s e2 = a2
        intro HO3 b4 KT
        refine KT.mono ?_
        rintro e X7 ⟨rfl, hR7, hb7⟩
        have HR7 := hidR hR7
        have HE7 := hidR (HEs.out.bo hRw hb7)
        have HP7 := hidR ((hb7.blk PB (blk_lt5 HPs.out) (by omega)).trans HPs.out)
        clear KT hR7 hb7 HRs HEs HPs wk
        by_cases hk2 : kdS s a2 = 0
        · have HEq := hidR (HO3.out.trans (if_pos hk2))
          have hd2 : decide (kdS s a2 = 0) = true := decide_eq_true hk2
          rw [hd2]
          have HRX := HR7
          have HEX := HE7
          clear HR7 HE7 HP7 HO3 hk2 hd2
          go_wp2_with fail
          have KF := fault5_any R F s 12 ((a2 : Nat) : Int) ln st _ HRX.out hst0 hst1 (by omega) (by omega)
          refine KF.mono ?_
          rintro e9 Y ⟨rfl, hb⟩
          have HR9 := hidR (HRX.out.below hb)
          have HE9 := hidR (HEX.out.bo hRw (Bt.ofB hb))
          clear KF hb HRX HEX
          have HFin := hidR (HE9.out.ret hRw HR9.out (.int .u64 0) (.int .u64 0) (.int .i64 0) (.int .i64 0) (.int .i64 12) (.int .i64 ln) (.int .i64 ((a2 : Int) - st + 1)))
          obtain ⟨z0, z1, z2, z3, z4, z5, z6⟩ := HE9.out.zero
          have g0 := HE9.out.free.1
          have g1 := HE9.out.free.2
          have e0 := g0 0
          have e1 := g0 1
          have e2 := g0 2
          have e3 := g0 3
          have e4 := g1 0
          have e5 := g1 1
          have e6 := g1 2
          clear g0 g1 HE9 HR9
          go_wp2
          exact bodyPost_ret (v := .tuple #[.agg #[.int .u64 0, .int .u64 0, .int .i64 0, .int .i64 0], .agg #[.int .i64 12, .int .i64 ln, .int .i64 ((a2 : Int) - st + 1)]]) (by simp [results, Tryz.results48, go_sem, z0, z1, z2, z3, z4, z5, z6]) rfl ⟨by rw [HEq.out]; rfl, by rw [HEq.out]; exact HFin.out⟩
        · have HEq := hidR (HO3.out.trans (if_neg hk2))
          have hd2 : decide (kdS s a2 = 0) = false := decide_eq_false hk2
          rw [hd2]
          have HRX := HR7
          have HEX := HE7
          have p0 := at_blk HP7.out 0 (.int .u64 (hI px)) rfl
          have p1 := at_blk HP7.out 1 (.int .u64 (lI px)) rfl
          have p2 := at_blk HP7.out 2 (.int .i64 pn) rfl
          clear HR7 HE7 HP7 HO3 hk2 hd2
          have HR9 := HRX
          have HE9 := HEX
          clear HRX HEX
          have HFin := hidR (HE9.out.ret hRw HR9.out (.int .u64 (hI px)) (.int .u64 (lI px)) (.int .i64 pn) (.int .i64 hh) (.int .i64 0) (.int .i64 0) (.int .i64 0))
          obtain ⟨z0, z1, z2, z3, z4, z5, z6⟩ := HE9.out.zero
          have g0 := HE9.out.free.1
          have g1 := HE9.out.free.2
          have e0 := g0 0
          have e1 := g0 1
          have e2 := g0 2
          have e3 := g0 3
          have e4 := g1 0
          have e5 := g1 1
          have e6 := g1 2
          clear g0 g1 HE9 HR9
          go_wp2
          exact bodyPost_ret (v := .tuple #[.agg #[.int .u64 (hI px), .int .u64 (lI px), .int .i64 pn, .int .i64 hh], .agg #[.int .i64 0, .int .i64 0, .int .i64 0]]) (by simp [results, Tryz.results48, go_sem, z0, z1, z2, z3, z4, z5, z6]) rfl ⟨by rw [HEq.out]; rfl, by rw [HEq.out]; exact HFin.out⟩
    · have HEq := hidR (HO1.out.trans (if_neg hk1))
      have hd1 : decide (kdS s a1 = 0) = false := decide_eq_false hk1
      rw [hd1]
      have HRX := HR3
      have HEX := HE3
      clear HR3 HE3 HP3 HO1 hk1 hd1
      go_wp2_with fail
      have KF := fault5_any R F s 12 ((a1 : Nat) : Int) ln st _ HRX.out hst0 hst1 (by omega) (by omega)
      refine KF.mono ?_
      rintro e9 Y ⟨rfl, hb⟩
      have HR9 := hidR (HRX.out.below hb)
      have HE9 := hidR (HEX.out.bo hRw (Bt.ofB hb))
      clear KF hb HRX HEX
      have HFin := hidR (HE9.out.ret hRw HR9.out (.int .u64 0) (.int .u64 0) (.int .i64 0) (.int .i64 0) (.int .i64 12) (.int .i64 ln) (.int .i64 ((a1 : Int) - st + 1)))
      obtain ⟨z0, z1, z2, z3, z4, z5, z6⟩ := HE9.out.zero
      have g0 := HE9.out.free.1
      have g1 := HE9.out.free.2
      have e0 := g0 0
      have e1 := g0 1
      have e2 := g0 2
      have e3 := g0 3
      have e4 := g1 0
      have e5 := g1 1
      have e6 := g1 2
      clear g0 g1 HE9 HR9
      go_wp2
      exact bodyPost_ret (v := .tuple #[.agg #[.int .u64 0, .int .u64 0, .int .i64 0, .int .i64 0], .agg #[.int .i64 12, .int .i64 ln, .int .i64 ((a1 : Int) - st + 1)]]) (by simp [results, Tryz.results48, go_sem, z0, z1, z2, z3, z4, z5, z6]) rfl ⟨by rw [HEq.out]; rfl, by rw [HEq.out]; exact HFin.out⟩
  · have HEq := hidR (HO.out.trans (if_neg hp))
    have q3 := bl1 X1 (.cells #[.int .u64 (hI px), .int .u64 (lI px), .int .i64 pn] 45)
    have HRX := hidR (HRX1.out.below q3)
    have HEX := hidR (HEX1.out.bo hRw (Bt.ofB q3))
    clear HRX1 HEX1 HO q3
    go_wp2_with fail
    revert HRX HEX
    generalize X1.alloc (.cells #[.int .u64 (hI px), .int .u64 (lI px), .int .i64 pn] 45) = X
    intro HRX HEX
    have KF := fault5_any R F s pe ((k : Nat) : Int) ln st _ HRX.out hst0 hst1 (by omega) (by omega)
    refine KF.mono ?_
    rintro e9 Y ⟨rfl, hb⟩
    have HR9 := hidR (HRX.out.below hb)
    have HE9 := hidR (HEX.out.bo hRw (Bt.ofB hb))
    clear KF hb HRX HEX
    have HFin := hidR (HE9.out.ret hRw HR9.out (.int .u64 0) (.int .u64 0) (.int .i64 0) (.int .i64 0) (.int .i64 pe) (.int .i64 ln) (.int .i64 ((k : Int) - st + 1)))
    obtain ⟨z0, z1, z2, z3, z4, z5, z6⟩ := HE9.out.zero
    have g0 := HE9.out.free.1
    have g1 := HE9.out.free.2
    have e0 := g0 0
    have e1 := g0 1
    have e2 := g0 2
    have e3 := g0 3
    have e4 := g1 0
    have e5 := g1 1
    have e6 := g1 2
    clear g0 g1 HE9 HR9
    go_wp2
    exact bodyPost_ret (v := .tuple #[.agg #[.int .u64 0, .int .u64 0, .int .i64 0, .int .i64 0], .agg #[.int .i64 pe, .int .i64 ln, .int .i64 ((k : Int) - st + 1)]]) (by simp [results, Tryz.results48, go_sem, z0, z1, z2, z3, z4, z5, z6]) rfl ⟨by rw [HEq.out]; rfl, by rw [HEq.out]; exact HFin.out⟩
end Go.Proofs.YtpiicdpipjjenaaGreatDoor
