/-
  Part 25 of the proof: 13 texts, one behind the other.
-/
import Derived.Test.YtdpmhpmnkollaaaPart24
import Derived.Test.YtdpmhpmnkollaaaPart5
import Derived.Test.YtdpmhpmnkollaaaPart6
import Derived.Test.YtdpmhpmnkollaaaPart1
import Derived.Test.YtdpmhpmnkollaaaPart2
import Derived.Test.YtdpmhpmnkollaaaPart3
import Derived.Deep.CutBlock
import Derived.Deep.DeepCutAuto
import Derived.Test.YtdpmhpmnkollaaaPart4
namespace Go.Proofs.Ytdpmhpmnkollaaa
open Go.RowKit
set_option linter.unusedSimpArgs false
set_option linter.unusedVariables false

theorem stopAnd14 {P : Program} {w : World} {ops : Array Oper} {rest : List Oper} {a : Act} {Q : Exit → Act → World → Prop} {d : Option Tmp} {t t2 ty : TypeId} {x y : Operand} {p : String} {af : Array Edge} {g : Option (Nat × Bool)} (h : Hid (wpList P ops Q ({ dst := d, op := .binOp .and t x y t2, type := ty, pos := p, after := af, guard := g } :: rest) a w)) : wpList P ops Q ({ dst := d, op := .binOp .and t x y t2, type := ty, pos := p, after := af, guard := g } :: rest) a w := h.out
theorem sd14a {k c L J : Nat} (h : k + 1 + c ≤ L / 4) (hL : L ≤ 10000000) (hJ : J ≤ c) (h1 : 1 ≤ J) : k + J < L / 4 ∧ (0 ≤ ((4 * (k + J) : Nat) : Int) ∧ ((4 * (k + J) : Nat) : Int) ≤ (L : Int) - ((4 : Nat) : Int)) := by omega
theorem sd14b {k c L J : Nat} (h : k + 1 + c ≤ L / 4) (hL : L ≤ 10000000) (hJ : J ≤ c) : IntKind.i64.wrap ((k : Int) + (J : Int)) = ((k + J : Nat) : Int) ∧ IntKind.i64.wrap (4 * ((k + J : Nat) : Int)) = ((4 * (k + J) : Nat) : Int) ∧ IntKind.i64.wrap ((J : Int) + 1) = ((J + 1 : Nat) : Int) := by
  refine ⟨?_, ?_, ?_⟩ <;> (rw [IntKind.wrap_i64]; omega)
theorem sd14 {k c L : Nat} (h : k + 1 + c ≤ L / 4) : (c : Int) ≤ (L : Int) / 4 - (k : Int) - 1 := by omega
theorem sd14n {k c L : Nat} (h : ¬ k + 1 + c ≤ L / 4) : (L : Int) / 4 - (k : Int) - 1 < (c : Int) := by omega
theorem wr14 (x : Int) (h0 : -1000000000 ≤ x) (h1 : x ≤ 1000000000) : wrap64 x = x := by unfold wrap64; omega
theorem ex14b {P : Program} {w : World} {s : Sem Value} {v : Value} (h : s.run P w = .ok v w) : (do pure (Next.value (← s)) : Sem Next).run P w = .ok (.value v) w := by
  simp only [Sem.run_bind, h, Sem.run_pure, Result.andThen_ok]
theorem sw_run14 {P : Program} {ops : Array Oper} {Q : Exit → Act → World → Prop} {a : Act} {o : Oper} {rest : List Oper} {w : World} {v : Value}
    (hg : o.guard = none) (h : (execOp a.eval o).run P w = .ok (.value v) w) (k : wpList P ops Q rest (a.put o.dst v) w) : wpList P ops Q (o :: rest) a w := by
  refine wpList_plain hg fun K hK => ?_
  unfold Oper.wp Oper.upon
  rw [h]
  exact hK _ _ k
theorem rd_fin (l : List Nat) (k : Nat) (w : World) (hk : k < l.length / 4) (z : Int) (m : List (BitVec 32)) (hz : z ≠ 0) (hr : rdP l k = (m, z)) (W : World) (hb : Below w.heap.size w W) : ∃ v', (Ending.returned (.tuple #[.agg #[.int .i64 0, .int .i64 0, .slice none 0 0], .int .i64 0, .int .i64 z])) = .returned (.tuple #[insV (dcI l (k : Int)) v', .int .i64 (dcZ l (k : Int)), .int .i64 (dcE l (k : Int))]) ∧ W.ownsRow w.heap.size 96 1 v' (dcI l (k : Int)).m.length ((dcI l (k : Int)).m.map cU) ∧ Below w.heap.size w W := by
  obtain ⟨g1, g2, g3⟩ := dc_bad hk hr hz
  refine ⟨.slice none 0 0, ?_, ?_, hb⟩
  · rw [g1, g2, g3]; rfl
  · rw [g1]; exact World.ownsRow_nil _ _ _ _
theorem dcw_new (w : World) (o n : Int) : DcW w ((w.alloc (.cells #[.int .i64 0, .int .i64 0, .slice none 0 0] 67)).alloc (.cells #[.int .i64 o, .int .i64 n, .slice none 0 0] 67)) (w.heap.size + 1) o n (.slice none 0 0) [] := by
  have q1 := bl1 w (.cells #[.int .i64 0, .int .i64 0, .slice none 0 0] 67)
  have q2 := bl1 (w.alloc (.cells #[.int .i64 0, .int .i64 0, .slice none 0 0] 67)) (.cells #[.int .i64 o, .int .i64 n, .slice none 0 0] 67)
  have a1 := (atif_new w 0 0 (.slice none 0 0) 67).below q2
  have a2 := atif_new (w.alloc (.cells #[.int .i64 0, .int .i64 0, .slice none 0 0] 67)) o n (.slice none 0 0) 67
  have hsz : (w.alloc (.cells #[.int .i64 0, .int .i64 0, .slice none 0 0] 67)).heap.size = w.heap.size + 1 := by simp
  rw [hsz] at a2
  exact ⟨keepb q2 q1, a1, a2, World.ownsRow_nil _ _ _ _, by simp⟩
set_option maxRecDepth 100000 in
set_option maxHeartbeats 16000000 in
theorem rdecode_map (v : Value) (l : List Nat) (k N : Nat) (w : World) (hv : RwX cB w v l) (hl : l.length ≤ 10000000) (hx : ∀ b ∈ l, b < 256) (hk : k < l.length / 4) (hO : insO l k = 2) (hN : insN l k = (N : Int)) (hN1 : 1 ≤ N) (hN24 : N ≤ 24) :
    Calls Try.prog 25 #[v, .int .i64 (k : Int)] w fun e w' => ∃ v', e = .returned (.tuple #[insV (dcI l (k : Int)) v', .int .i64 (dcZ l (k : Int)), .int .i64 (dcE l (k : Int))]) ∧ w'.ownsRow w.heap.size 96 1 v' (dcI l (k : Int)).m.length ((dcI l (k : Int)).m.map cU) ∧ Below w.heap.size w w' := by
  obtain ⟨ao, cc, hvf, -⟩ := id hv
  have q1 := bl1 w (.cells #[.int .i64 0, .int .i64 0, .slice none 0 0] 67)
  have K1 := rget13 v l (4 * (k : Int)) 4 4 rfl (by decide) (by decide) _ (hv.below q1) (by omega) hx (by omega) (by omega)
  have hyes : 0 ≤ 4 * (k : Int) ∧ 4 * (k : Int) ≤ (l.length : Int) - ((4 : Nat) : Int) := ⟨by omega, by omega⟩
  have e1 : ((gtN l (4 * (k : Int)) 4 : Nat) : Int) = uI (wdV l k) := by
    rw [wd_uI l k hx]
    unfold gtN
    rw [if_pos hyes, show (4 * (k : Int)).toNat = 4 * k by omega]
  rw [decide_eq_true hyes, e1] at K1
  obtain ⟨A4, hA4⟩ : ∃ A4 : Nat, 4 * (k : Int) = (A4 : Int) := ⟨4 * k, by omega⟩
  have mw : IntKind.i64.wrap (4 * (k : Int)) = (A4 : Int) := by rw [IntKind.wrap_i64]; omega
  rw [hA4] at K1
  have HV := hid13 hv
  have HX := hid13 hx
  have han := and24 (wdV l k)
  obtain ⟨X, hX⟩ : ∃ X, X = uI (wdV l k) := ⟨_, rfl⟩
  obtain ⟨c, hc⟩ : ∃ c, c = mwN N := ⟨_, rfl⟩
  have hR : rdP l k = if k + 1 + c ≤ l.length / 4 then (if isMapB (mpL l (k + 1) c) N = true then (mpL l (k + 1) c, (0 : Int)) else ([], 25)) else ([], 30) := by
    unfold rdP
    rw [hO, hN, if_pos (by decide), if_pos (by show (N : Int) ≤ 255; omega), if_pos (by unfold tkB kLo kHi; simp; omega), if_pos rfl, Int.toNat_natCast]
    unfold rmP
    rw [← hc]
  have hQ : Hid (insO l k = 2 ∧ insN l k = (N : Int)) := ⟨hO, hN⟩
  have x1 : X / 16777216 = 2 := by rw [hX, ← hO]; rfl
  have x2 : bits .and .u32 X 16777215 = (N : Int) := by rw [hX, han, ← hN]; rfl
  have hNw : IntKind.i64.wrap (N : Int) = (N : Int) := by rw [IntKind.wrap_i64]; omega
  rw [← hX] at K1
  have d0 : ¬ (k : Int) < 0 := by omega
  have d1 : ¬ (l.length : Int) ≤ (k : Int) := by omega
  have HAnd : Hid (∀ W : World, (binOp .and 96 (.int .u32 X) (.int .u32 16777215)).run Try.prog W = .ok (.int .u32 (N : Int)) W) := by
    intro W
    rw [binOp_and]
    show Result.ok (Value.int .u32 (bits .and .u32 X 16777215)) W = _
    rw [x2]
  have K5 := fun w => rmapWords_any N hN24 w
  have hch := mwN_hi N hN24
  have hcl := mwN_lo N
  rw [← hc] at K5 hch hcl
  obtain ⟨D, hD⟩ : ∃ D : Int, D = (l.length : Int) / 4 - (k : Int) - 1 := ⟨_, rfl⟩
  have mD : wrap64 (wrap64 (wrap64 ((l.length : Int) / 4) - (k : Int)) - 1) = D := by
    rw [wr14 ((l.length : Int) / 4) (by omega) (by omega), wr14 ((l.length : Int) / 4 - (k : Int)) (by omega) (by omega), wr14 _ (by omega) (by omega), hD]
  have t0 : (N : Int) ≤ 255 := by omega
  have t1 : 1 ≤ (N : Int) := by omega
  have t2 : (N : Int) ≤ 24 := by omega
  subst hvf
  by_cases s1 : k + 1 + c ≤ l.length / 4
  · rw [if_pos s1] at hR
    have HR2 := hid13 hR
    have s2 : (c : Int) ≤ D := by rw [hD]; exact sd14 s1
    have HC : Hid (c ≤ 524288 ∧ 1 ≤ c ∧ N ≤ 24 ∧ k + 1 + c ≤ l.length / 4 ∧ l.length ≤ 10000000) := ⟨hch, hcl, hN24, s1, hl⟩
    clear hyes e1 hv hx hX han q1 hO hN hl hk hA4 x2 hch hcl hN24 s1 hc hN1 hR hD
    go_enter Try.func25, Try.ntmps25
    go_wp2_with (first | (go_at_call 41; refine K1.mono ?_; rintro e w2 ⟨rfl, hw2⟩; replace hw2 := hw2.symm; subst hw2) | (with_reducible apply stopAnd14))
    refine (show wpList _ _ _ _ _ _ from ?_)
    refine sw_run14 (v := .int .u32 (N : Int)) rfl (ex14b (HAnd.out _)) ?_
    simp only [Act.put, List.setIfInBounds_toArray, List.set_cons_zero, List.set_cons_succ]
    clear HAnd K1
    go_wp2_with (first | (go_at_call 42; refine (K5 _).mono ?_; rintro e w3 ⟨rfl, hw3⟩; replace hw3 := hw3.symm; subst hw3) | fail)
    have HD0 := hid13 (dcw_new w 2 (N : Int))
    obtain ⟨i0, hi, hz0, hz1, hz2⟩ := info13 Try.infoU13
    clear d0 d1 mw mD s2 t0 t1 t2 x1 K5
    go_loopg [11, 12, 13] c (fun g k11 x12 x13 wr => ∃ (J : Nat) (vb : Value) (R : List (BitVec 32)), Hid (J + g = c + 1 ∧ 1 ≤ J) ∧ k11 = .int .i64 (J : Int) ∧ Hid (DcW w wr (w.heap.size + 1) 2 (N : Int) vb R) ∧ Hid (R = mpL l (k + 1) (J - 1)))
    case atStart => exact ⟨1, _, [], ⟨by omega, Nat.le_refl _⟩, rfl, HD0, rfl⟩
    case round =>
      clear HD0
      obtain ⟨J, vb, R, HJ, rfl, HW, HR⟩ := hrel
      obtain ⟨⟨j0, j1, j2⟩, f0, f1, f2⟩ := HW.out.i
      by_cases hlt : J ≤ c
      · have hli : (J : Int) ≤ (c : Int) := by omega
        obtain ⟨r1, r2⟩ := sd14a HC.out.2.2.2.1 HC.out.2.2.2.2 hlt HJ.out.2
        obtain ⟨m1, m2, m3⟩ := sd14b HC.out.2.2.2.1 HC.out.2.2.2.2 hlt
        have K6 := rget13 (.slice ao l.length cc) l ((4 * (k + J) : Nat) : Int) 4 4 rfl (by decide) (by decide) wr (HV.out.below HW.out.b) (by have := HC.out.2.2.2.2; omega) HX.out (by omega) (by have := HC.out.2.2.2.2; omega)
        have e6 : ((gtN l ((4 * (k + J) : Nat) : Int) 4 : Nat) : Int) = uI (wdV l (k + J)) := by
          rw [wd_uI l (k + J) HX.out]
          unfold gtN
          rw [if_pos r2, Int.toNat_natCast]
        rw [decide_eq_true r2, e6] at K6
        have HR2' : Hid (R ++ [wdV l (k + J)] = mpL l (k + 1) (J + 1 - 1)) := by
          show _ = _
          have h1 := HJ.out.2
          rw [HR.out, show J + 1 - 1 = (J - 1) + 1 by omega, mpL_succ, show k + 1 + (J - 1) = k + J by omega]
        have HRl : Hid (R.length ≤ 524288) := by show _ ≤ _; rw [HR.out, mpL_len]; have := HC.out.1; omega
        have HJ2 : Hid (J + gk = c + 1 ∧ 1 ≤ J ∧ J ≤ c) := ⟨HJ.out.1, HJ.out.2, hlt⟩
        obtain ⟨P1, hP1⟩ : ∃ P1 : Nat, P1 = k + J := ⟨_, rfl⟩
        obtain ⟨P4, hP4⟩ : ∃ P4 : Nat, P4 = 4 * (k + J) := ⟨_, rfl⟩
        obtain ⟨J1, hJ1⟩ : ∃ J1 : Nat, J1 = J + 1 := ⟨_, rfl⟩
        obtain ⟨x, hx⟩ : ∃ x, x = wdV l (k + J) := ⟨_, rfl⟩
        rw [← hx] at K6 HR2'
        rw [← hP4] at m2 K6
        rw [← hP1] at m1 m2
        rw [← hJ1] at m3 HR2'
        have HJ1 := hid13 hJ1
        obtain ⟨vbo, vbc, hvb⟩ := own_form HW.out.o
        have q7 := bl1 wr (.cells #[.int .u32 (uI x)] 96)
        have HW7 := hid13 (HW.out.below q7)
        have h63 : R.length + 1 ≤ maxLen := by have := HRl.out; unfold maxLen; omega
        have h47 : (R.length + 1) * 4 ≤ 140737488355328 := by have := HRl.out; omega
        subst hvb
        clear r1 r2 e6 hP1 hP4 hJ1 hx hlt HJ HR q7
        go_wp2_with (first | (go_at_call 41; refine K6.mono ?_; rintro e w2 ⟨rfl, hw2⟩; replace hw2 := hw2.symm; subst hw2) | (at_builtin; apply stopHere9))
        refine (show wpList _ _ _ _ _ _ from ?_)
        refine wpList_append_lies _ rfl _ _ 65 rfl (w.heap.size + 1 + 1) 96 i0 (.int .u32 0) 1 4 Try.underlying65 hi hz0 hz1 hz2 rfl (by decide) _ R.length (R.map cU) rfl HW7.out.o ⟨wr.heap.size, 0, none⟩ 1 1 [.int .u32 (uI x)] rfl rfl (news13 (by simp [go_sem])) (by intro u hu; simp at hu; subst hu; rfl) (by decide) h63 h47 HW7.out.s _ rfl ?_
        intro g4 cap4 w4 hown4 hgrow hat hlt4
        obtain ⟨hi4, hd4⟩ := HW7.out.app (Nat.lt_succ_self _) (R' := R ++ [x]) (v' := .slice (some ⟨g4, 0, none⟩) (R.length + 1) cap4) (by rw [List.length_append, List.map_append]; exact hown4) hgrow
        have HD4 := hid13 hd4
        obtain ⟨⟨y0, y1, y2⟩, z0, z1, z2⟩ := hi4
        clear hown4 hgrow hat hlt4 h63 h47 HW7 HW hd4 j0 j1 j2 f0 f1 f2 K6
        go_wp2
        go_roundg (gk - 1)
        case measure => have := HJ2.out; omega
        case rel => exact ⟨J1, _, R ++ [x], by have := HJ1.out; have := HJ2.out; exact ⟨by omega, by omega⟩, rfl, HD4, HR2'⟩
      · have hli : ¬ (J : Int) ≤ (c : Int) := by omega
        have hRc : R = mpL l (k + 1) c := by rw [HR.out, show J - 1 = c by have := HJ.out; omega]
        have hRl : R.length = c := by rw [hRc, mpL_len]
        have K8 := risMap_any vb R N wr (own_rwx HW.out.o) HC.out.2.2.1
        have HR3 : Hid (rdP l k = if isMapB R N = true then (R, (0 : Int)) else ([], 25)) := by show _ = _; rw [HR2.out, hRc]
        have HRl := hid13 hRl
        have mc : IntKind.i64.wrap (1 + (c : Int)) = 1 + (c : Int) := by rw [IntKind.wrap_i64]; have := HC.out.1; omega
        obtain ⟨vbo, vbc, hvb⟩ := own_form HW.out.o
        have HKk : Hid (k < l.length / 4) := by show _ < _; have := HC.out; omega
        subst hvb
        clear hRc hRl HR2 HR hlt HJ
        go_wp2_with fail
        refine K8.mono ?_
        rintro e w5 ⟨rfl, hb5⟩
        have HW5 := hid13 (HW.out.below hb5)
        clear K8 hb5 HW j0 j1 j2 f0 f1 f2
        obtain ⟨⟨j0, j1, j2⟩, f0, f1, f2⟩ := HW5.out.i
        obtain ⟨⟨y0, y1, y2⟩, z0, z1, z2⟩ := HW5.out.r
        generalize isMapB R N = z at *
        cases z with
        | true =>
          have HR4 : Hid (rdP l k = (R, 0)) := HR3
          clear HR3
          go_wp2
          obtain ⟨g1, g2, g3⟩ := dc_ok HKk.out HR4.out
          have hcR : 1 + (R.length : Int) = 1 + (c : Int) := by rw [HRl.out]
          refine bodyPost_ret (v := .tuple #[.agg #[.int .i64 2, .int .i64 (N : Int), .slice vbo R.length vbc], .int .i64 (1 + (c : Int)), .int .i64 0]) (by simp [results, Try.results25, go_sem, *]) rfl ⟨.slice vbo R.length vbc, by rw [g1, g2, hcR, g3, hQ.out.1, hQ.out.2]; rfl, ?_, bset3i HW5.out.b (Nat.le_refl _) _ _ _⟩
          rw [g1]
          have h1 : w.heap.size < w.heap.size + 1 + 1 := by omega
          exact own_wide13 (ownsRow_setCell_below (ownsRow_setCell_below (ownsRow_setCell_below HW5.out.o h1 _) h1 _) h1 _) (Nat.le_of_lt h1)
        | false =>
          have HR4 : Hid (rdP l k = ([], 25)) := HR3
          clear HR3
          go_wp2
          exact bodyPost_ret (v := .tuple #[.agg #[.int .i64 0, .int .i64 0, .slice none 0 0], .int .i64 0, .int .i64 25]) (by simp [results, Try.results25, go_sem, *]) rfl (rd_fin l k w HKk.out 25 [] (by decide) HR4.out _ (bset3i HW5.out.b (Nat.le_refl _) _ _ _))
  · rw [if_neg s1] at hR
    have HR2 : Hid (rdP l k = ([], 30)) := hR
    have s2 : D < (c : Int) := by rw [hD]; exact sd14n s1
    have HK := hid13 hk
    clear hyes e1 hv hx hX han q1 hO hN hl hk hA4 x2 hch hcl hN24 s1 hc hN1 hR hD
    go_enter Try.func25, Try.ntmps25
    go_wp2_with (first | (go_at_call 41; refine K1.mono ?_; rintro e w2 ⟨rfl, hw2⟩; replace hw2 := hw2.symm; subst hw2) | (with_reducible apply stopAnd14))
    refine (show wpList _ _ _ _ _ _ from ?_)
    refine sw_run14 (v := .int .u32 (N : Int)) rfl (ex14b (HAnd.out _)) ?_
    simp only [Act.put, List.setIfInBounds_toArray, List.set_cons_zero, List.set_cons_succ]
    clear HAnd K1
    go_wp2_with (first | (go_at_call 42; refine (K5 _).mono ?_; rintro e w3 ⟨rfl, hw3⟩; replace hw3 := hw3.symm; subst hw3) | fail)
    exact bodyPost_ret (v := .tuple #[.agg #[.int .i64 0, .int .i64 0, .slice none 0 0], .int .i64 0, .int .i64 30]) (by simp [results, Try.results25, go_sem]) rfl (rd_fin l k w HK.out 30 [] (by decide) HR2.out _ (keepb (bl1 _ _) (bl1 _ _)))
end Go.Proofs.Ytdpmhpmnkollaaa
namespace Go.Proofs.Ytdpmhpmnkollaaa
open Go.RowKit
set_option linter.unusedSimpArgs false
set_option linter.unusedVariables false

set_option maxRecDepth 100000 in
set_option maxHeartbeats 16000000 in
theorem rdecode_in (v : Value) (l : List Nat) (k : Nat) (w : World) (hv : RwX cB w v l) (hl : l.length ≤ 10000000) (hx : ∀ b ∈ l, b < 256) (hk : k < l.length / 4) :
    Calls Try.prog 25 #[v, .int .i64 (k : Int)] w fun e w' => ∃ v', e = .returned (.tuple #[insV (dcI l (k : Int)) v', .int .i64 (dcZ l (k : Int)), .int .i64 (dcE l (k : Int))]) ∧ w'.ownsRow w.heap.size 96 1 v' (dcI l (k : Int)).m.length ((dcI l (k : Int)).m.map cU) ∧ Below w.heap.size w w' := by
  obtain ⟨ao, cc, hvf, -⟩ := id hv
  have q1 := bl1 w (.cells #[.int .i64 0, .int .i64 0, .slice none 0 0] 67)
  have K1 := rget13 v l (4 * (k : Int)) 4 4 rfl (by decide) (by decide) _ (hv.below q1) (by omega) hx (by omega) (by omega)
  have hyes : 0 ≤ 4 * (k : Int) ∧ 4 * (k : Int) ≤ (l.length : Int) - ((4 : Nat) : Int) := ⟨by omega, by omega⟩
  have e1 : ((gtN l (4 * (k : Int)) 4 : Nat) : Int) = uI (wdV l k) := by
    rw [wd_uI l k hx]
    unfold gtN
    rw [if_pos hyes, show (4 * (k : Int)).toNat = 4 * k by omega]
  rw [decide_eq_true hyes, e1] at K1
  obtain ⟨A4, hA4⟩ : ∃ A4 : Nat, 4 * (k : Int) = (A4 : Int) := ⟨4 * k, by omega⟩
  have mw : IntKind.i64.wrap (4 * (k : Int)) = (A4 : Int) := by rw [IntKind.wrap_i64]; omega
  rw [hA4] at K1
  have HV := hid13 hv
  have HX := hid13 hx
  have HK : Hid (k < l.length / 4 ∧ l.length ≤ 10000000) := ⟨hk, hl⟩
  have hX0 := uI_lo (wdV l k)
  have hX1 := uI_up (wdV l k)
  have han := and24 (wdV l k)
  obtain ⟨X, hX⟩ : ∃ X, X = uI (wdV l k) := ⟨_, rfl⟩
  obtain ⟨O, hO⟩ : ∃ O : Nat, (O : Int) = insO l k := ⟨(insO l k).toNat, by unfold insO; omega⟩
  obtain ⟨N, hN⟩ : ∃ N : Nat, (N : Int) = insN l k := ⟨(insN l k).toNat, by unfold insN; omega⟩
  have HR : Hid (rdP l k = if isOp (O : Int) = true then (if (N : Int) ≤ kRm (O : Int) then (if tkB (O : Int) (N : Int) = true then (if (O : Int) = 2 then rmP l (k + 1) N else ([], (0 : Int))) else ([], 1)) else ([], 24)) else ([], 24)) := by
    show _ = _
    unfold rdP
    rw [← hO, ← hN, Int.toNat_natCast]
  have HQ : Hid (((O : Nat) : Int) = insO l k ∧ ((N : Nat) : Int) = insN l k) := ⟨hO, hN⟩
  have x1 : X / 16777216 = (O : Int) := by rw [hX, hO]; rfl
  have x2 : bits .and .u32 X 16777215 = (N : Int) := by rw [hX, han, hN]; rfl
  have hNb : (N : Int) < 16777216 := by rw [hN]; unfold insN; omega
  have hOw : IntKind.i64.wrap (O : Int) = (O : Int) := by rw [IntKind.wrap_i64]; have : (O : Int) < 256 := by rw [hO]; unfold insO; omega
                                                          omega
  have hNw : IntKind.i64.wrap (N : Int) = (N : Int) := by rw [IntKind.wrap_i64]; omega
  rw [← hX] at K1
  have d0 : ¬ (k : Int) < 0 := by omega
  have d1 : ¬ (l.length : Int) ≤ (k : Int) := by omega
  subst hvf
  have HNb := hid13 hNb
  have HAnd : Hid (∀ W : World, (binOp .and 96 (.int .u32 X) (.int .u32 16777215)).run Try.prog W = .ok (.int .u32 (N : Int)) W) := by
    intro W
    rw [binOp_and]
    show Result.ok (Value.int .u32 (bits .and .u32 X 16777215)) W = _
    rw [x2]
  clear hyes e1 hv hx hX han q1 hO hN hNb hl hk hX0 hX1 hA4 x2
  cases ho : isOp (O : Int) with
  | false =>
    have HR2 : Hid (rdP l k = ([], 24)) := by show _ = _; rw [HR.out, if_neg (by rw [ho]; decide)]
    obtain ⟨h1, h2, h3, h4⟩ := isOp_none ho
    clear ho HR
    go_enter Try.func25, Try.ntmps25
    go_wp2_with (first | (go_at_call 41; refine K1.mono ?_; rintro e w2 ⟨rfl, hw2⟩; replace hw2 := hw2.symm; subst hw2) | (with_reducible apply stopAnd14))
    refine (show wpList _ _ _ _ _ _ from ?_)
    refine sw_run14 (v := .int .u32 (N : Int)) rfl (ex14b (HAnd.out _)) ?_
    simp only [Act.put, List.setIfInBounds_toArray, List.set_cons_zero, List.set_cons_succ]
    clear HAnd HNb K1
    go_wp2_with fail
    exact bodyPost_ret (v := .tuple #[.agg #[.int .i64 0, .int .i64 0, .slice none 0 0], .int .i64 0, .int .i64 24]) (by simp [results, Try.results25, go_sem]) rfl (rd_fin l k w HK.out.1 24 [] (by decide) HR2.out _ (keepb (bl1 _ _) (bl1 _ _)))
  | true =>
    have hR1 := HR.out
    rw [if_pos ho] at hR1
    rcases isOp_cases ho with hO1 | hO1 | hO1 | hO1
    · obtain rfl : O = 1 := by omega
      have cO : ((1 : Nat) : Int) = 1 := rfl
      rw [cO] at x1 HQ hR1 hOw
      clear ho HR hO1
      rw [show kRm (1 : Int) = 255 from rfl] at hR1
      by_cases r1 : (N : Int) ≤ 255
      · rw [if_pos r1] at hR1
        have r2 : ¬ 255 < (N : Int) := by omega
        by_cases t1 : (N : Int) < 1
        · rw [if_neg (by have := HNb.out; unfold tkB kLo kHi; simp; omega)] at hR1
          have HR2 : Hid (rdP l k = ([], 1)) := hR1
          clear hR1
          go_enter Try.func25, Try.ntmps25
          go_wp2_with (first | (go_at_call 41; refine K1.mono ?_; rintro e w2 ⟨rfl, hw2⟩; replace hw2 := hw2.symm; subst hw2) | (with_reducible apply stopAnd14))
          refine (show wpList _ _ _ _ _ _ from ?_)
          refine sw_run14 (v := .int .u32 (N : Int)) rfl (ex14b (HAnd.out _)) ?_
          simp only [Act.put, List.setIfInBounds_toArray, List.set_cons_zero, List.set_cons_succ]
          clear HAnd HNb K1
          go_wp2_with fail
          exact bodyPost_ret (v := .tuple #[.agg #[.int .i64 0, .int .i64 0, .slice none 0 0], .int .i64 0, .int .i64 1]) (by simp [results, Try.results25, go_sem]) rfl (rd_fin l k w HK.out.1 1 [] (by decide) HR2.out _ (keepb (bl1 _ _) (bl1 _ _)))
        by_cases t2 : 24 < (N : Int)
        · rw [if_neg (by have := HNb.out; unfold tkB kLo kHi; simp; omega)] at hR1
          have HR2 : Hid (rdP l k = ([], 1)) := hR1
          clear hR1
          go_enter Try.func25, Try.ntmps25
          go_wp2_with (first | (go_at_call 41; refine K1.mono ?_; rintro e w2 ⟨rfl, hw2⟩; replace hw2 := hw2.symm; subst hw2) | (with_reducible apply stopAnd14))
          refine (show wpList _ _ _ _ _ _ from ?_)
          refine sw_run14 (v := .int .u32 (N : Int)) rfl (ex14b (HAnd.out _)) ?_
          simp only [Act.put, List.setIfInBounds_toArray, List.set_cons_zero, List.set_cons_succ]
          clear HAnd HNb K1
          go_wp2_with fail
          exact bodyPost_ret (v := .tuple #[.agg #[.int .i64 0, .int .i64 0, .slice none 0 0], .int .i64 0, .int .i64 1]) (by simp [results, Try.results25, go_sem]) rfl (rd_fin l k w HK.out.1 1 [] (by decide) HR2.out _ (keepb (bl1 _ _) (bl1 _ _)))
        rw [if_pos (by have := HNb.out; unfold tkB kLo kHi; simp; omega)] at hR1
        rw [if_neg (by decide)] at hR1
        have HR2 : Hid (rdP l k = ([], 0)) := hR1
        clear hR1
        go_enter Try.func25, Try.ntmps25
        go_wp2_with (first | (go_at_call 41; refine K1.mono ?_; rintro e w2 ⟨rfl, hw2⟩; replace hw2 := hw2.symm; subst hw2) | (with_reducible apply stopAnd14))
        refine (show wpList _ _ _ _ _ _ from ?_)
        refine sw_run14 (v := .int .u32 (N : Int)) rfl (ex14b (HAnd.out _)) ?_
        simp only [Act.put, List.setIfInBounds_toArray, List.set_cons_zero, List.set_cons_succ]
        clear HAnd HNb K1
        go_wp2_with fail
        obtain ⟨g1, g2, g3⟩ := dc_ok HK.out.1 HR2.out
        exact bodyPost_ret (v := .tuple #[.agg #[.int .i64 1, .int .i64 (N : Int), .slice none 0 0], .int .i64 1, .int .i64 0]) (by simp [results, Try.results25, go_sem]) rfl ⟨.slice none 0 0, by rw [g1, g2, g3, ← HQ.out.1, ← HQ.out.2]; rfl, by rw [g1]; exact World.ownsRow_nil _ _ _ _, keepb (bl1 _ _) (bl1 _ _)⟩
      · rw [if_neg r1] at hR1
        have r2 : 255 < (N : Int) := by omega
        have HR2 : Hid (rdP l k = ([], 24)) := hR1
        clear hR1
        go_enter Try.func25, Try.ntmps25
        go_wp2_with (first | (go_at_call 41; refine K1.mono ?_; rintro e w2 ⟨rfl, hw2⟩; replace hw2 := hw2.symm; subst hw2) | (with_reducible apply stopAnd14))
        refine (show wpList _ _ _ _ _ _ from ?_)
        refine sw_run14 (v := .int .u32 (N : Int)) rfl (ex14b (HAnd.out _)) ?_
        simp only [Act.put, List.setIfInBounds_toArray, List.set_cons_zero, List.set_cons_succ]
        clear HAnd HNb K1
        go_wp2_with fail
        exact bodyPost_ret (v := .tuple #[.agg #[.int .i64 0, .int .i64 0, .slice none 0 0], .int .i64 0, .int .i64 24]) (by simp [results, Try.results25, go_sem]) rfl (rd_fin l k w HK.out.1 24 [] (by decide) HR2.out _ (keepb (bl1 _ _) (bl1 _ _)))
    · obtain rfl : O = 2 := by omega
      have cO : ((2 : Nat) : Int) = 2 := rfl
      rw [cO] at x1 HQ hR1 hOw
      clear ho HR hO1
      rw [show kRm (2 : Int) = 255 from rfl] at hR1
      by_cases r1 : (N : Int) ≤ 255
      · rw [if_pos r1] at hR1
        have r2 : ¬ 255 < (N : Int) := by omega
        by_cases t1 : (N : Int) < 1
        · rw [if_neg (by have := HNb.out; unfold tkB kLo kHi; simp; omega)] at hR1
          have HR2 : Hid (rdP l k = ([], 1)) := hR1
          clear hR1
          go_enter Try.func25, Try.ntmps25
          go_wp2_with (first | (go_at_call 41; refine K1.mono ?_; rintro e w2 ⟨rfl, hw2⟩; replace hw2 := hw2.symm; subst hw2) | (with_reducible apply stopAnd14))
          refine (show wpList _ _ _ _ _ _ from ?_)
          refine sw_run14 (v := .int .u32 (N : Int)) rfl (ex14b (HAnd.out _)) ?_
          simp only [Act.put, List.setIfInBounds_toArray, List.set_cons_zero, List.set_cons_succ]
          clear HAnd HNb K1
          go_wp2_with fail
          exact bodyPost_ret (v := .tuple #[.agg #[.int .i64 0, .int .i64 0, .slice none 0 0], .int .i64 0, .int .i64 1]) (by simp [results, Try.results25, go_sem]) rfl (rd_fin l k w HK.out.1 1 [] (by decide) HR2.out _ (keepb (bl1 _ _) (bl1 _ _)))
        by_cases t2 : 24 < (N : Int)
        · rw [if_neg (by have := HNb.out; unfold tkB kLo kHi; simp; omega)] at hR1
          have HR2 : Hid (rdP l k = ([], 1)) := hR1
          clear hR1
          go_enter Try.func25, Try.ntmps25
          go_wp2_with (first | (go_at_call 41; refine K1.mono ?_; rintro e w2 ⟨rfl, hw2⟩; replace hw2 := hw2.symm; subst hw2) | (with_reducible apply stopAnd14))
          refine (show wpList _ _ _ _ _ _ from ?_)
          refine sw_run14 (v := .int .u32 (N : Int)) rfl (ex14b (HAnd.out _)) ?_
          simp only [Act.put, List.setIfInBounds_toArray, List.set_cons_zero, List.set_cons_succ]
          clear HAnd HNb K1
          go_wp2_with fail
          exact bodyPost_ret (v := .tuple #[.agg #[.int .i64 0, .int .i64 0, .slice none 0 0], .int .i64 0, .int .i64 1]) (by simp [results, Try.results25, go_sem]) rfl (rd_fin l k w HK.out.1 1 [] (by decide) HR2.out _ (keepb (bl1 _ _) (bl1 _ _)))
        rw [if_pos (by have := HNb.out; unfold tkB kLo kHi; simp; omega)] at hR1
        rw [if_pos rfl] at hR1
        exact rdecode_map (.slice ao l.length cc) l k N w HV.out HK.out.2 HX.out HK.out.1 HQ.out.1.symm HQ.out.2.symm (by omega) (by omega)
      · rw [if_neg r1] at hR1
        have r2 : 255 < (N : Int) := by omega
        have HR2 : Hid (rdP l k = ([], 24)) := hR1
        clear hR1
        go_enter Try.func25, Try.ntmps25
        go_wp2_with (first | (go_at_call 41; refine K1.mono ?_; rintro e w2 ⟨rfl, hw2⟩; replace hw2 := hw2.symm; subst hw2) | (with_reducible apply stopAnd14))
        refine (show wpList _ _ _ _ _ _ from ?_)
        refine sw_run14 (v := .int .u32 (N : Int)) rfl (ex14b (HAnd.out _)) ?_
        simp only [Act.put, List.setIfInBounds_toArray, List.set_cons_zero, List.set_cons_succ]
        clear HAnd HNb K1
        go_wp2_with fail
        exact bodyPost_ret (v := .tuple #[.agg #[.int .i64 0, .int .i64 0, .slice none 0 0], .int .i64 0, .int .i64 24]) (by simp [results, Try.results25, go_sem]) rfl (rd_fin l k w HK.out.1 24 [] (by decide) HR2.out _ (keepb (bl1 _ _) (bl1 _ _)))
    · obtain rfl : O = 3 := by omega
      have cO : ((3 : Nat) : Int) = 3 := rfl
      rw [cO] at x1 HQ hR1 hOw
      clear ho HR hO1
      rw [show kRm (3 : Int) = 16777215 from rfl] at hR1
      rw [if_pos (by have := HNb.out; omega)] at hR1
      by_cases t1 : (N : Int) < 1
      · rw [if_neg (by have := HNb.out; unfold tkB kLo kHi; simp; omega)] at hR1
        have HR2 : Hid (rdP l k = ([], 1)) := hR1
        clear hR1
        go_enter Try.func25, Try.ntmps25
        go_wp2_with (first | (go_at_call 41; refine K1.mono ?_; rintro e w2 ⟨rfl, hw2⟩; replace hw2 := hw2.symm; subst hw2) | (with_reducible apply stopAnd14))
        refine (show wpList _ _ _ _ _ _ from ?_)
        refine sw_run14 (v := .int .u32 (N : Int)) rfl (ex14b (HAnd.out _)) ?_
        simp only [Act.put, List.setIfInBounds_toArray, List.set_cons_zero, List.set_cons_succ]
        clear HAnd HNb K1
        go_wp2_with fail
        exact bodyPost_ret (v := .tuple #[.agg #[.int .i64 0, .int .i64 0, .slice none 0 0], .int .i64 0, .int .i64 1]) (by simp [results, Try.results25, go_sem]) rfl (rd_fin l k w HK.out.1 1 [] (by decide) HR2.out _ (keepb (bl1 _ _) (bl1 _ _)))
      rw [if_pos (by have := HNb.out; unfold tkB kLo kHi; simp; omega)] at hR1
      rw [if_neg (by decide)] at hR1
      have HR2 : Hid (rdP l k = ([], 0)) := hR1
      clear hR1
      go_enter Try.func25, Try.ntmps25
      go_wp2_with (first | (go_at_call 41; refine K1.mono ?_; rintro e w2 ⟨rfl, hw2⟩; replace hw2 := hw2.symm; subst hw2) | (with_reducible apply stopAnd14))
      refine (show wpList _ _ _ _ _ _ from ?_)
      refine sw_run14 (v := .int .u32 (N : Int)) rfl (ex14b (HAnd.out _)) ?_
      simp only [Act.put, List.setIfInBounds_toArray, List.set_cons_zero, List.set_cons_succ]
      clear HAnd HNb K1
      go_wp2_with fail
      obtain ⟨g1, g2, g3⟩ := dc_ok HK.out.1 HR2.out
      exact bodyPost_ret (v := .tuple #[.agg #[.int .i64 3, .int .i64 (N : Int), .slice none 0 0], .int .i64 1, .int .i64 0]) (by simp [results, Try.results25, go_sem]) rfl ⟨.slice none 0 0, by rw [g1, g2, g3, ← HQ.out.1, ← HQ.out.2]; rfl, by rw [g1]; exact World.ownsRow_nil _ _ _ _, keepb (bl1 _ _) (bl1 _ _)⟩
    · obtain rfl : O = 4 := by omega
      have cO : ((4 : Nat) : Int) = 4 := rfl
      rw [cO] at x1 HQ hR1 hOw
      clear ho HR hO1
      rw [show kRm (4 : Int) = 65535 from rfl] at hR1
      by_cases r1 : (N : Int) ≤ 65535
      · rw [if_pos r1] at hR1
        have r2 : ¬ 65535 < (N : Int) := by omega
        rw [if_pos (by have := HNb.out; unfold tkB kLo kHi; simp; omega), if_neg (by decide)] at hR1
        have HR2 : Hid (rdP l k = ([], 0)) := hR1
        clear hR1
        go_enter Try.func25, Try.ntmps25
        go_wp2_with (first | (go_at_call 41; refine K1.mono ?_; rintro e w2 ⟨rfl, hw2⟩; replace hw2 := hw2.symm; subst hw2) | (with_reducible apply stopAnd14))
        refine (show wpList _ _ _ _ _ _ from ?_)
        refine sw_run14 (v := .int .u32 (N : Int)) rfl (ex14b (HAnd.out _)) ?_
        simp only [Act.put, List.setIfInBounds_toArray, List.set_cons_zero, List.set_cons_succ]
        clear HAnd HNb K1
        go_wp2_with fail
        obtain ⟨g1, g2, g3⟩ := dc_ok HK.out.1 HR2.out
        exact bodyPost_ret (v := .tuple #[.agg #[.int .i64 4, .int .i64 (N : Int), .slice none 0 0], .int .i64 1, .int .i64 0]) (by simp [results, Try.results25, go_sem]) rfl ⟨.slice none 0 0, by rw [g1, g2, g3, ← HQ.out.1, ← HQ.out.2]; rfl, by rw [g1]; exact World.ownsRow_nil _ _ _ _, keepb (bl1 _ _) (bl1 _ _)⟩
      · rw [if_neg r1] at hR1
        have r2 : 65535 < (N : Int) := by omega
        have HR2 : Hid (rdP l k = ([], 24)) := hR1
        clear hR1
        go_enter Try.func25, Try.ntmps25
        go_wp2_with (first | (go_at_call 41; refine K1.mono ?_; rintro e w2 ⟨rfl, hw2⟩; replace hw2 := hw2.symm; subst hw2) | (with_reducible apply stopAnd14))
        refine (show wpList _ _ _ _ _ _ from ?_)
        refine sw_run14 (v := .int .u32 (N : Int)) rfl (ex14b (HAnd.out _)) ?_
        simp only [Act.put, List.setIfInBounds_toArray, List.set_cons_zero, List.set_cons_succ]
        clear HAnd HNb K1
        go_wp2_with fail
        exact bodyPost_ret (v := .tuple #[.agg #[.int .i64 0, .int .i64 0, .slice none 0 0], .int .i64 0, .int .i64 24]) (by simp [results, Try.results25, go_sem]) rfl (rd_fin l k w HK.out.1 24 [] (by decide) HR2.out _ (keepb (bl1 _ _) (bl1 _ _)))
end Go.Proofs.Ytdpmhpmnkollaaa
namespace Go.Proofs.Ytdpmhpmnkollaaa
open Go.RowKit
set_option linter.unusedSimpArgs false
set_option linter.unusedVariables false

def TwI (W : World) (B : Nat) (i j : Ins) (v u : Value) : Prop := AtI W B i.op i.n v ∧ AtI W (B + 1) j.op j.n u ∧ RwX cU W v i.m ∧ RwX cU W u j.m
theorem TwI.below {W W' : World} {B : Nat} {i j : Ins} {v u : Value} (h : TwI W B i j v u) (hb : Below W.heap.size W W') : TwI W' B i j v u := ⟨h.1.below hb, h.2.1.below hb, h.2.2.1.below hb, h.2.2.2.below hb⟩
end Go.Proofs.Ytdpmhpmnkollaaa
namespace Go.Proofs.Ytdpmhpmnkollaaa
open Go.RowKit
set_option linter.unusedSimpArgs false
set_option linter.unusedVariables false

end Go.Proofs.Ytdpmhpmnkollaaa
namespace Go.Proofs.Ytdpmhpmnkollaaa
open Go.RowKit
set_option linter.unusedSimpArgs false
set_option linter.unusedVariables false

end Go.Proofs.Ytdpmhpmnkollaaa
namespace Go.Proofs.Ytdpmhpmnkollaaa
open Go.RowKit
set_option linter.unusedSimpArgs false
set_option linter.unusedVariables false

theorem rdecode14 (v : Value) (l : List Nat) (a : Int) (w : World) (hv : RwX cB w v l) (hl : l.length ≤ 10000000) (hx : ∀ b ∈ l, b < 256) :
    Calls Try.prog 25 #[v, .int .i64 a] w fun e w' => ∃ v', e = .returned (.tuple #[insV (dcI l a) v', .int .i64 (dcZ l a), .int .i64 (dcE l a)]) ∧ w'.ownsRow w.heap.size 96 1 v' (dcI l a).m.length ((dcI l a).m.map cU) ∧ Below w.heap.size w w' := by
  cases hs : stB l.length a 1 with
  | false => exact rdecode_out v l a w hv hl hx hs
  | true =>
    have h2 : 0 ≤ a ∧ a.toNat < l.length / 4 := by unfold stB at hs; simp at hs; constructor <;> omega
    obtain ⟨k, rfl⟩ : ∃ k : Nat, a = (k : Int) := ⟨a.toNat, by omega⟩
    rw [Int.toNat_natCast] at h2
    exact rdecode_in v l k w hv hl hx h2.2
theorem dcI_len14 (l : List Nat) (a : Int) : (dcI l a).m.length ≤ 524288 := by
  unfold dcI
  split
  · exact rdP_len _ _
  · simp
end Go.Proofs.Ytdpmhpmnkollaaa
namespace Go.Proofs.Ytdpmhpmnkollaaa
open Go.RowKit
set_option linter.unusedSimpArgs false
set_option linter.unusedVariables false

end Go.Proofs.Ytdpmhpmnkollaaa
namespace Go.Proofs.Ytdpmhpmnkollaaa
open Go.RowKit
set_option linter.unusedSimpArgs false
set_option linter.unusedVariables false

theorem bitI (c : BitVec 32) (i : Nat) (h : i < 32) : bits .and .u32 (uI c / 2 ^ i) 1 = if c.getLsbD i then 1 else 0 := by
  rw [shr32, odd32, BitVec.getLsbD_ushiftRight, Nat.add_zero]
end Go.Proofs.Ytdpmhpmnkollaaa
namespace Go.Proofs.Ytdpmhpmnkollaaa
open Go.RowKit
set_option linter.unusedSimpArgs false
set_option linter.unusedVariables false

section
variable {W W' : World} {S k : Nat} {f : Nat → BitVec 32}
end
end Go.Proofs.Ytdpmhpmnkollaaa
namespace Go.Proofs.Ytdpmhpmnkollaaa
open Go.RowKit
set_option linter.unusedSimpArgs false
set_option linter.unusedVariables false

end Go.Proofs.Ytdpmhpmnkollaaa
namespace Go.Proofs.Ytdpmhpmnkollaaa
open Go.RowKit
set_option linter.unusedSimpArgs false
set_option linter.unusedVariables false

set_option maxRecDepth 100000 in
theorem is13 (v : Value) (U : List (BitVec 32)) (k : Nat) (w : World) (hv : RwX cU w v U) (hk : k < 32 * U.length) (hl : U.length ≤ 100000000000000) :
    Calls Try.prog 26 #[v, .int .i64 (k : Int)] w fun e w' => e = .returned (.bool (plc U k)) ∧ w' = w := by
  obtain ⟨ao, cc, rfl, -, hv⟩ := hv
  obtain ⟨q, hq⟩ : ∃ q, q = k / 32 := ⟨_, rfl⟩
  obtain ⟨r, hr⟩ : ∃ r, r = k % 32 := ⟨_, rfl⟩
  have hql : q < U.length := by omega
  obtain ⟨x, hx⟩ : ∃ x, U[q]? = some x := ⟨U[q], by simp [hql]⟩
  obtain ⟨bo, off, rfl, hc1⟩ : ∃ bo off, ao = some ⟨bo, off, none⟩ ∧ ∀ j x, U[j]? = some x → w.cell? ⟨bo, off + j, none⟩ = some (cU x) := by
    rcases hv with h | h
    · rw [h] at hql; simp at hql
    · exact h
  have r1 : w.cell? ⟨bo, off + q, none⟩ = some (.int .u32 (uI x)) := hc1 q x hx
  obtain ⟨s, hs⟩ : ∃ s, s + r = 31 := ⟨31 - r, by omega⟩
  have hq1 : (k : Int) / 32 = (q : Int) := by omega
  have hr1 : (k : Int) % 32 = (r : Int) := by omega
  have hs1 : 31 - (r : Int) = (s : Int) := by omega
  have hb := bitI x s (by omega)
  have hqi : ((q : Nat) : Int) < (U.length : Int) := by omega
  have HP : Hid (plc U k = x.getLsbD s) := by
    show _ = _
    unfold plc bt
    rw [← hq, ← hr, List.getD_eq_getElem?_getD, hx, Option.getD_some, show 31 - r = s by omega]
  rw [HP.out]
  have hs32 : s < 32 := by omega
  clear hc1 hx hq hr hs hv hk HP hql
  cases c : x.getLsbD s
  · rw [c] at hb
    simp only [Bool.false_eq_true, if_false] at hb
    clear c
    go_enter Try.func26, Try.ntmps26
    go_wp2
    go_ret
    exact ⟨rfl, rfl⟩
  · rw [c] at hb
    simp only [if_true] at hb
    clear c
    go_enter Try.func26, Try.ntmps26
    go_wp2
    go_ret
    exact ⟨rfl, rfl⟩
theorem and_pred (n : Nat) (h0 : 0 < n) (h : n < 4294967296) : bits .and .u32 (n : Int) ((n : Int) - 1) = ((n &&& (n - 1) : Nat) : Int) := by
  have h1 : (n : Int) = uI (BitVec.ofNat 32 n) := lit32 n h
  have h2 : (n : Int) - 1 = uI (BitVec.ofNat 32 (n - 1)) := by rw [uI_of _ (by omega)]; omega
  rw [h2, h1, and32, uI_eq, BitVec.toNat_and, BitVec.toNat_ofNat, BitVec.toNat_ofNat]
  have h3 : (2 : Nat) ^ 32 = 4294967296 := by decide
  rw [h3, Nat.mod_eq_of_lt h, Nat.mod_eq_of_lt (by omega)]
set_option maxRecDepth 100000 in
set_option maxHeartbeats 8000000 in
theorem rones13 (v : Value) (U : List (BitVec 32)) (w : World) (hv : RwX cU w v U) (hl : U.length ≤ 100000000000000) :
    Calls Try.prog 58 #[v] w fun e w' => e = .returned (.int .i64 ((sumW U U.length : Nat) : Int)) ∧ w' = w := by
  obtain ⟨ao, cc, rfl, -, hv⟩ := hv
  have HV := hid13 hv
  have HL := hid13 hl
  clear hv hl
  go_enter Try.func58, Try.ntmps58
  go_wp2_with fail
  go_loopg [3, 4, 5] U.length (fun g n i x wr => wr = w ∧ ∃ k m : Nat, k + g = U.length ∧ i = .int .i64 (k : Int) ∧ n = .int .i64 (m : Int) ∧ Hid (m = sumW U k))
  case atStart => exact ⟨rfl, 0, 0, by omega, rfl, rfl, rfl⟩
  case round =>
    obtain ⟨hw, k, m, hk, rfl, rfl, HM⟩ := hrel
    replace hw := hw.symm
    subst hw
    by_cases hlt : k < U.length
    · have hli : (k : Int) < (U.length : Int) := by omega
      obtain ⟨bo, off, rfl, hc1⟩ : ∃ bo off, ao = some ⟨bo, off, none⟩ ∧ ∀ j x, U[j]? = some x → w.cell? ⟨bo, off + j, none⟩ = some (cU x) := by
        rcases HV.out with h | h
        · rw [h] at hlt; simp at hlt
        · exact h
      obtain ⟨x, hx⟩ : ∃ x, U[k]? = some x := ⟨U[k], by simp [hlt]⟩
      have r1 : w.cell? ⟨bo, off + k, none⟩ = some (.int .u32 (uI x)) := hc1 k x hx
      have mk : IntKind.i64.wrap ((k : Int) + 1) = (k : Int) + 1 := by have := HL.out; rw [IntKind.wrap_i64]; omega
      have HE : Hid (m + bsN 32 x.toNat = sumW U (k + 1) ∧ sumW U (k + 1) ≤ 3200000000000000) := by
        have h1 := sumW_le U (k + 1)
        have h2 := HL.out
        refine ⟨?_, by omega⟩
        simp only [sumW]
        rw [List.getD_eq_getElem?_getD, hx, Option.getD_some, HM.out]; rfl
      have HK : Hid (k + gk = U.length ∧ k < U.length) := ⟨hk, hlt⟩
      have HX : Hid (uI x = (x.toNat : Int) ∧ x.toNat < 4294967296) := ⟨uI_eq x, x.isLt⟩
      clear hc1 hx hk HM
      go_wp2_with fail
      obtain ⟨gk0, hgk0⟩ : ∃ g, g = gk := ⟨_, rfl⟩
      rw [← hgk0] at HK
      go_loopg [3, 5] 33 (fun g n v wr => wr = w ∧ ∃ (a : Nat) (B : Int), n = .int .i64 (a : Int) ∧ v = .int .u32 B ∧ Hid (∃ b : Nat, B = (b : Int) ∧ bsN 32 b < g ∧ b < 4294967296 ∧ a + bsN 32 b = sumW U (k + 1)))
      case atStart => exact ⟨rfl, m, uI x, rfl, rfl, x.toNat, HX.out.1, by have := bsN_le 32 x.toNat; omega, HX.out.2, HE.out.1⟩
      case round =>
        obtain ⟨hw, a, B, rfl, rfl, HA⟩ := hrel
        replace hw := hw.symm
        subst hw
        obtain ⟨b, hBb, hbg, hb32, hab⟩ := HA.out
        by_cases hz : b = 0
        · have hB0 : B = 0 := by omega
          subst hB0
          have HN : Hid (a = sumW U (k + 1)) := by show _ = _; rw [hz, bsN_zero] at hab; omega
          clear hbg HA hz hBb hb32 hab
          go_wp2_with fail
          go_roundg (gk0 - 1)
          case measure => rw [← hgk0]; have := HK.out; omega
          case rel => exact ⟨rfl, k + 1, a, by have := HK.out; omega, rfl, rfl, HN⟩
        · have hzi : 0 < B := by omega
          have hcl := clear_low 32 b (by omega) (by have : (2 : Nat) ^ 32 = 4294967296 := by decide
                                                    omega)
          obtain ⟨c, hc⟩ : ∃ c, c = b &&& (b - 1) := ⟨_, rfl⟩
          have han := and_pred b (by omega) hb32
          rw [← hc] at hcl han
          have hcb : c ≤ b := by rw [hc]; exact Nat.and_le_left
          obtain ⟨C, hC⟩ : ∃ C : Int, C = (c : Int) := ⟨_, rfl⟩
          rw [← hC, ← hBb] at han
          have HN : Hid (∃ b : Nat, C = (b : Int) ∧ bsN 32 b < gk - 1 ∧ b < 4294967296 ∧ a + 1 + bsN 32 b = sumW U (k + 1)) := ⟨c, hC, by omega, by omega, by omega⟩
          have ma : IntKind.i64.wrap ((a : Int) + 1) = (a : Int) + 1 := by have h2 := HE.out.2; rw [IntKind.wrap_i64]; omega
          have hb1 : B < 4294967296 := by omega
          have HG : Hid (0 < gk) := by show 0 < gk; omega
          clear hc hcl hz hC hBb hbg hb32 hab hcb HA
          go_wp2_with fail
          go_roundg (gk - 1)
          case measure => have := HG.out; omega
          case rel => exact ⟨rfl, a + 1, C, rfl, rfl, HN⟩
    · have hli : ¬ (k : Int) < (U.length : Int) := by omega
      obtain rfl : k = U.length := by omega
      go_wp2_with fail
      go_ret
      exact ⟨by rw [← HM.out]; rfl, rfl⟩
end Go.Proofs.Ytdpmhpmnkollaaa
namespace Go.Proofs.Ytdpmhpmnkollaaa
open Go.RowKit
set_option linter.unusedSimpArgs false
set_option linter.unusedVariables false

end Go.Proofs.Ytdpmhpmnkollaaa
namespace Go.Proofs.Ytdpmhpmnkollaaa
open Go.RowKit
set_option linter.unusedSimpArgs false
set_option linter.unusedVariables false

def cG (q : Nat × List Nat) : Value := .slice (some ⟨q.1, 0, none⟩) q.2.length (q.2.length + 9)
structure SM (w W : World) (va vm : Value) (A : List Nat) (G : List (Nat × List Nat)) : Prop where
  b : Below w.heap.size w W
  a : W.ownsRow w.heap.size 5 1 va A.length (A.map cB)
  m : W.ownsRow w.heap.size 27 1 vm G.length (G.map cG)
  l : ∀ q ∈ G, W.ownsRow w.heap.size 5 1 (.slice (some ⟨q.1, 0, none⟩) (q.2.length + 9) (q.2.length + 9)) (q.2.length + 9) ((mkZ q.2 9).map cB)
  n : ∀ q ∈ G, va.ownBlock ≠ some q.1
section
variable {w W W' : World} {va vm v' : Value} {A : List Nat} {G : List (Nat × List Nat)}
theorem own_type {base base' e e' s s' n n' : Nat} {v u : Value} {xs ys : List Value} (h : W.ownsRow base e s v n xs) (k : W.ownsRow base' e' s' u n' ys) (hne : e ≠ e') {z : Nat} (hz : v.ownBlock = some z) : u.ownBlock ≠ some z := by
  intro q
  rcases h.2 with ⟨rfl, -⟩ | ⟨g, cap, cur, rfl, -, h2, -⟩
  · cases hz
  · rcases k.2 with ⟨rfl, -⟩ | ⟨g', cap', cur', rfl, -, k2, -⟩
    · cases q
    · simp only [Value.ownBlock, Option.some.injEq] at hz q
      subst hz q
      rw [h2] at k2
      injection k2 with k2
      injection k2 with k3 k4
      exact hne k4
theorem SM.below (h : SM w W va vm A G) (hb : Below W.heap.size W W') : SM w W' va vm A G := ⟨keepb hb h.b, own_b13 hb h.a, own_b13 hb h.m, fun q hq => own_b13 hb (h.l q hq), h.n⟩
end
end Go.Proofs.Ytdpmhpmnkollaaa
