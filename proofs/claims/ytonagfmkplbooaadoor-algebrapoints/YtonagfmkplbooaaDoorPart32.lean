/-
  Part 32 of the proof: 3 texts, one behind the other.
-/
import Derived.Test.YtonagfmkplbooaaDoorPart31
import Derived.Test.YtonagfmkplbooaaDoorRows
import Derived.ProofKit
import Derived.Lib.SmallJoins
import Derived.Test.YtonagfmkplbooaaDoorPart7
import Derived.Deep.Slices
import Derived.Deep.Strs
import Derived.Carry
/-
  The law AlgebraPoints: two tables, a prefix, an address.
-/
namespace Go.Proofs.YtonagfmkplbooaaDoor
open Go.RowKit
set_option linter.unusedSimpArgs false
set_option linter.unusedVariables false

set_option maxRecDepth 20000 in
set_option maxHeartbeats 16000000 in
theorem algebraPoints_any (F : Int) (va : Value) (l : List Rte) (G : Int) (vb : Value) (m : List Rte) (px : BitVec 128) (pn : Int) (xw : BitVec 128) (w : World) (hT : Tab w) (hva : RwR w va l) (hvb : RwR w vb m) :
    Calls Tryd.prog 3 #[.agg #[.int .i64 F, va], .agg #[.int .i64 G, vb], .agg #[.int .u64 (hI px), .int .u64 (lI px), .int .i64 pn], .agg #[.int .u64 (hI xw), .int .u64 (lI xw)]] w fun e w' => e = .returned (.bool true) ∧ Below w.heap.size w w' := by
  have KK := fun w => known6_any w
  have q1 := bl1 w (.cells #[.int .i64 F, va] 24)
  have q2 := bl1 (w.alloc (.cells #[.int .i64 F, va] 24)) (.cells #[.int .i64 G, vb] 24)
  have q3 := bl1 ((w.alloc (.cells #[.int .i64 F, va] 24)).alloc (.cells #[.int .i64 G, vb] 24)) (.cells #[.int .u64 (hI px), .int .u64 (lI px), .int .i64 pn] 29)
  have q4 := bl1 (((w.alloc (.cells #[.int .i64 F, va] 24)).alloc (.cells #[.int .i64 G, vb] 24)).alloc (.cells #[.int .u64 (hI px), .int .u64 (lI px), .int .i64 pn] 29)) (.cells #[.int .u64 (hI xw), .int .u64 (lI xw)] 27)
  have hB := keepb q4 (keepb q3 (keepb q2 q1))
  have H0 : Hid (Kns w ((((w.alloc (.cells #[.int .i64 F, va] 24)).alloc (.cells #[.int .i64 G, vb] 24)).alloc (.cells #[.int .u64 (hI px), .int .u64 (lI px), .int .i64 pn] 29)).alloc (.cells #[.int .u64 (hI xw), .int .u64 (lI xw)] 27)) [(w.heap.size, F, va, l), (w.heap.size + 1, G, vb, m)]) := hidR ⟨⟨⟨(((att_new w w.heap.size F va 24 rfl).below q2).below q3).below q4, hva.below hB⟩, ⟨((att_new (w.alloc (.cells #[.int .i64 F, va] 24)) (w.heap.size + 1) G vb 24 (by simp)).below q3).below q4, hvb.below hB⟩, trivial⟩, hB⟩
  have P0 : Hid (AtP ((((w.alloc (.cells #[.int .i64 F, va] 24)).alloc (.cells #[.int .i64 G, vb] 24)).alloc (.cells #[.int .u64 (hI px), .int .u64 (lI px), .int .i64 pn] 29)).alloc (.cells #[.int .u64 (hI xw), .int .u64 (lI xw)] 27)) (w.heap.size + 2) px pn) := hidR ((atp_new ((w.alloc (.cells #[.int .i64 F, va] 24)).alloc (.cells #[.int .i64 G, vb] 24)) (w.heap.size + 2) px pn 29 (by simp)).below q4)
  have X0 : Hid (At ((((w.alloc (.cells #[.int .i64 F, va] 24)).alloc (.cells #[.int .i64 G, vb] 24)).alloc (.cells #[.int .u64 (hI px), .int .u64 (lI px), .int .i64 pn] 29)).alloc (.cells #[.int .u64 (hI xw), .int .u64 (lI xw)] 27)) (w.heap.size + 3) xw) := hidR (at_new (((w.alloc (.cells #[.int .i64 F, va] 24)).alloc (.cells #[.int .i64 G, vb] 24)).alloc (.cells #[.int .u64 (hI px), .int .u64 (lI px), .int .i64 pn] 29)) (w.heap.size + 3) xw 27 (by simp))
  have HTab := hidR hT
  have HV := hidR (And.intro hva hvb)
  obtain ⟨ao, ca, rfl, -⟩ := hva
  obtain ⟨bo, cb, rfl, -⟩ := hvb
  clear q1 q2 q3 q4 hB hT
  go_enter Tryd.func3, Tryd.ntmps3
  go_wp2_with fail
  refine (KK _).mono ?_
  rintro e v1 ⟨rfl, hb⟩
  have H1 := hidR (Kns.below H0.out hb)
  have P1 := hidR (P0.out.below hb)
  clear P0
  have X1 := hidR (X0.out.below hb)
  clear X0
  clear H0
  clear hb
  clear KK
  obtain ⟨t0, s0⟩ := (H1.out.1).1.1
  go_wp2_with fail
  clear t0 s0
  refine (rightT_any F (.slice ao l.length ca) l _ ((H1.out.1).1.2)).mono ?_
  rintro e v2 ⟨⟨r, hr, rfl⟩, hb⟩
  have H2 := hidR (Kns.below H1.out hb)
  have P2 := hidR (P1.out.below hb)
  clear P1
  have X2 := hidR (X1.out.below hb)
  clear X1
  clear H1
  clear hb
  cases r with
  | false =>
    obtain ⟨t0, s0⟩ := (H2.out.1).1.1
    obtain ⟨t1, s1⟩ := (H2.out.1.2).1.1
    go_wp2
    go_ret
    exact ⟨rfl, H2.out.2⟩
  | true =>
    have HRa := hidR (hr rfl)
    clear hr
    obtain ⟨t0, s0⟩ := (H2.out.1.2).1.1
    go_wp2_with fail
    clear t0 s0
    refine (rightT_any G (.slice bo m.length cb) m _ ((H2.out.1.2).1.2)).mono ?_
    rintro e v3 ⟨⟨r, hr, rfl⟩, hb⟩
    have H3 := hidR (Kns.below H2.out hb)
    have P3 := hidR (P2.out.below hb)
    clear P2
    have X3 := hidR (X2.out.below hb)
    clear X2
    clear H2
    clear hb
    cases r with
    | false =>
      obtain ⟨t0, s0⟩ := (H3.out.1).1.1
      obtain ⟨t1, s1⟩ := (H3.out.1.2).1.1
      go_wp2
      go_ret
      exact ⟨rfl, H3.out.2⟩
    | true =>
      have HRb := hidR (hr rfl)
      clear hr
      by_cases hF : F = G
      rotate_left
      · have dn : (F != G) = true := by simpa using hF
        obtain ⟨t0, s0⟩ := (H3.out.1).1.1
        obtain ⟨t1, s1⟩ := (H3.out.1.2).1.1
        clear hF
        go_wp2
        go_ret
        exact ⟨rfl, H3.out.2⟩
      subst hF
      have dF : (F != F) = false := by simp
      obtain ⟨hf, n1, hL, hO⟩ := tab_ok (rightT_tab HRa.out)
      obtain ⟨-, n2, hM, -⟩ := tab_ok (rightT_tab HRb.out)
      have hF0 : 0 ≤ F ∧ F ≤ 128 := by rcases fam_ways F hf with rfl | rfl <;> decide
      have KF := fun w => Fitted5_any F px pn xw w hF0.1 hF0.2
      have hrt := fitted_rt F hf px pn
      have hx := right_mask F hf xw
      revert KF hrt hx
      generalize cutW px (pn % (F + 1)) = cx
      generalize pn % (F + 1) = pk
      generalize xw &&& maskW F = y
      intro KF hrt hx
      have hrs : (l ++ (m ++ [((cx, pk), 1)])).length ≤ 9000 := by have := HRa.out.1; have := HRb.out.1; simp; omega
      have hro : ∀ r ∈ l ++ (m ++ [((cx, pk), 1)]), Ro F r := fun r hr => by rcases List.mem_append.mp hr with q | q; exact hL r q; rcases List.mem_append.mp q with q | q; exact hM r q; rw [List.mem_singleton] at q; rw [q]; exact rt_ro hrt
      have A := led_table (rs := l ++ (m ++ [((cx, pk), 1)])) (rightT_tab HRa.out) (fun r h => by simp [h])
      have B := led_table (rs := l ++ (m ++ [((cx, pk), 1)])) (rightT_tab HRb.out) (fun r h => by simp [h])
      obtain ⟨Mx, Ax, Kx⟩ := over_led A B hro hrs
      obtain ⟨My, Ay, Ky⟩ := less_led A B hro hrs
      obtain ⟨Mz, Az, Kz⟩ := only_led A (rt_check hf hrt) (by simp) hro hrs
      have LA := fun v W h => lookup_led A hx v W h
      have LB := fun v W h => lookup_led B hx v W h
      have LX := fun v W h => lookup_led Ax hx v W h
      have LY := fun v W h => lookup_led Ay hx v W h
      have LZ := fun v W h => lookup_led Az hx v W h
      have KH := fun w => rhas_any cx pk y w
      rw [has_eq cx pk y hrt.1 (by have := hrt.2.1; omega) hrt.2.2] at KH
      have eZ : (if cutW y pk = cx then look y 0 l else 0) = (if (cutW y pk == cx) = true then look y 0 l else 0) := by by_cases q : cutW y pk = cx <;> simp [q]
      try dsimp only at LZ
      try simp only [eZ] at LZ
      try dsimp only at LA
      try dsimp only at LB
      try dsimp only at LX
      try dsimp only at LY
      clear eZ hf n1 n2 hL hO hM hrt hx hrs hro A B Ax Ay Az hF0 HRa HRb
      revert LA LB LX LY LZ KH
      generalize look y 0 l = i
      generalize look y 0 m = j
      generalize (cutW y pk == cx) = hs
      intro LA LB LX LY KH LZ
      obtain ⟨t0, s0⟩ := (H3.out.1).1.1
      obtain ⟨t1, s1⟩ := (H3.out.1.2).1.1
      obtain ⟨p0, p1, p2, -, -, -⟩ := P3.out
      obtain ⟨x0, x1, -⟩ := X3.out
      go_wp2_with fail
      clear t0 s0 t1 s1 p0 p1 p2 x0 x1
      refine (KF _).mono ?_
      rintro e v4 ⟨rfl, hb⟩
      have hH := Kns.below H3.out hb
      have hP := P3.out.below hb
      have hX := X3.out.below hb
      obtain ⟨f1, f2, f3⟩ := fit_set hH hP hX (by omega) (by omega) (by omega) ⟨HV.out.1, HV.out.2, trivial⟩ ⟨by simp, by simp, trivial⟩ cx pk y
      have Hf := hidR f1
      have Pf := hidR f2
      have Xf := hidR f3
      obtain ⟨z0, z1, z2, g0, g1, g2⟩ := hP
      obtain ⟨u0, u1, k0, k1, -⟩ := hX
      clear hb hH f1 f2 f3 KF H3 P3 X3
      obtain ⟨t0, s0⟩ := (Hf.out.1).1.1
      obtain ⟨t1, s1⟩ := (Hf.out.1.2).1.1
      go_wp2_with fail
      clear t0 s0 t1 s1
      revert Hf Pf Xf
      generalize (((((v4.setCell ⟨w.heap.size + 2, 0, none⟩ (.int .u64 (hI cx))).setCell ⟨w.heap.size + 2, 1, none⟩ (.int .u64 (lI cx))).setCell ⟨w.heap.size + 2, 2, none⟩ (.int .i64 pk)).setCell ⟨w.heap.size + 3, 0, none⟩ (.int .u64 (hI y))).setCell ⟨w.heap.size + 3, 1, none⟩ (.int .u64 (lI y))) = Wf
      intro Hf Pf Xf
      clear z0 z1 z2 g0 g1 g2 u0 u1 k0 k1
      refine (Kx _ _ _ (HTab.out.keep Hf.out.2) ((Hf.out.1).1.2) ((Hf.out.1.2).1.2)).mono ?_
      rintro e v5 ⟨⟨u5, rfl, hown⟩, hb⟩
      obtain ⟨a5, c5, rfl⟩ := own_form hown
      have hq := bl1 v5 (.cells #[.int .i64 F, .slice a5 Mx.length c5] 24)
      have H5 := hidR (Kns.new (F := F) (M := Mx) Hf.out hb hown)
      have P5 := hidR ((Pf.out.below hb).below hq)
      clear Pf
      have X5 := hidR ((Xf.out.below hb).below hq)
      clear Xf
      clear Hf hb hown hq
      obtain ⟨t0, s0⟩ := (H5.out.1.2).1.1
      obtain ⟨t1, s1⟩ := (H5.out.1.2.2).1.1
      go_wp2_with fail
      clear t0 s0 t1 s1
      revert H5 P5 X5
      generalize v5.alloc (.cells #[.int .i64 F, .slice a5 Mx.length c5] 24) = W5
      generalize v5.heap.size = N5
      intro H5 P5 X5
      refine (Ky _ _ _ (HTab.out.keep H5.out.2) ((H5.out.1.2).1.2) ((H5.out.1.2.2).1.2)).mono ?_
      rintro e v6 ⟨⟨u6, rfl, hown⟩, hb⟩
      obtain ⟨a6, c6, rfl⟩ := own_form hown
      have hq := bl1 v6 (.cells #[.int .i64 F, .slice a6 My.length c6] 24)
      have H6 := hidR (Kns.new (F := F) (M := My) H5.out hb hown)
      have P6 := hidR ((P5.out.below hb).below hq)
      clear P5
      have X6 := hidR ((X5.out.below hb).below hq)
      clear X5
      clear H5 hb hown hq
      obtain ⟨t0, s0⟩ := (H6.out.1.2.2).1.1
      obtain ⟨p0, p1, p2, -, -, -⟩ := P6.out
      go_wp2_with fail
      clear t0 s0 p0 p1 p2
      revert H6 P6 X6
      generalize v6.alloc (.cells #[.int .i64 F, .slice a6 My.length c6] 24) = W6
      generalize v6.heap.size = N6
      intro H6 P6 X6
      refine (Kz _ _ (HTab.out.keep H6.out.2) ((H6.out.1.2.2).1.2)).mono ?_
      rintro e v7 ⟨⟨u7, rfl, hown⟩, hb⟩
      obtain ⟨a7, c7, rfl⟩ := own_form hown
      have hq := bl1 v7 (.cells #[.int .i64 F, .slice a7 Mz.length c7] 24)
      have H7 := hidR (Kns.new (F := F) (M := Mz) H6.out hb hown)
      have P7 := hidR ((P6.out.below hb).below hq)
      clear P6
      have X7 := hidR ((X6.out.below hb).below hq)
      clear X6
      clear H6 hb hown hq
      obtain ⟨t0, s0⟩ := (H7.out.1.2.2.2).1.1
      obtain ⟨x0, x1, -⟩ := X7.out
      go_wp2_with fail
      clear t0 s0 x0 x1
      revert H7 P7 X7
      generalize v7.alloc (.cells #[.int .i64 F, .slice a7 Mz.length c7] 24) = W7
      generalize v7.heap.size = N7
      intro H7 P7 X7
      refine (LA _ _ ((H7.out.1.2.2.2).1.2)).mono ?_
      rintro e v8 ⟨rfl, hb⟩
      have H8 := hidR (Kns.below H7.out hb)
      have P8 := hidR (P7.out.below hb)
      clear P7
      have X8 := hidR (X7.out.below hb)
      clear X7
      clear H7
      clear hb
      obtain ⟨t0, s0⟩ := (H8.out.1.2.2.2.2).1.1
      obtain ⟨x0, x1, -⟩ := X8.out
      go_wp2_with fail
      clear t0 s0 x0 x1
      refine (LB _ _ ((H8.out.1.2.2.2.2).1.2)).mono ?_
      rintro e v9 ⟨rfl, hb⟩
      have H9 := hidR (Kns.below H8.out hb)
      have P9 := hidR (P8.out.below hb)
      clear P8
      have X9 := hidR (X8.out.below hb)
      clear X8
      clear H8
      clear hb
      clear Kx Ky Kz LA LB HV
      by_cases hi : i = 0
      · have di : (i == 0) = true := by simp [hi]
        have eo : qOver i j = j := by rw [qOver, if_pos hi]
        rw [eo] at LX
        clear eo hi
        by_cases hj : j = 0
        · have dj : (j != 0) = false := by simp [hj]
          have el : qLess i j = i := by rw [qLess, if_pos hj]
          rw [el] at LY
          clear el hj
          obtain ⟨p0, p1, p2, -, -, -⟩ := P9.out
          obtain ⟨x0, x1, -⟩ := X9.out
          go_wp2_with fail
          clear p0 p1 p2 x0 x1
          refine (KH _).mono ?_
          rintro e v10 ⟨rfl, hb⟩
          have H10 := hidR (Kns.below H9.out hb)
          have P10 := hidR (P9.out.below hb)
          clear P9
          have X10 := hidR (X9.out.below hb)
          clear X9
          clear H9
          clear hb KH
          cases hs with
          | false =>
            simp only [Bool.false_eq_true, if_false, if_true] at LZ
            obtain ⟨t0, s0⟩ := (H10.out.1.2.2).1.1
            obtain ⟨x0, x1, -⟩ := X10.out
            go_wp2_with fail
            clear t0 s0 x0 x1
            refine (LX _ _ ((H10.out.1.2.2).1.2)).mono ?_
            rintro e v11 ⟨rfl, hb⟩
            have H11 := hidR (Kns.below H10.out hb)
            have P11 := hidR (P10.out.below hb)
            clear P10
            have X11 := hidR (X10.out.below hb)
            clear X10
            clear H10
            clear hb
            obtain ⟨t0, s0⟩ := (H11.out.1.2).1.1
            obtain ⟨x0, x1, -⟩ := X11.out
            go_wp2_with fail
            clear t0 s0 x0 x1
            refine (LY _ _ ((H11.out.1.2).1.2)).mono ?_
            rintro e v12 ⟨rfl, hb⟩
            have H12 := hidR (Kns.below H11.out hb)
            have P12 := hidR (P11.out.below hb)
            clear P11
            have X12 := hidR (X11.out.below hb)
            clear X11
            clear H11
            clear hb
            obtain ⟨t0, s0⟩ := (H12.out.1).1.1
            obtain ⟨x0, x1, -⟩ := X12.out
            go_wp2_with fail
            clear t0 s0 x0 x1
            refine (LZ _ _ ((H12.out.1).1.2)).mono ?_
            rintro e v13 ⟨rfl, hb⟩
            have H13 := hidR (Kns.below H12.out hb)
            have P13 := hidR (P12.out.below hb)
            clear P12
            have X13 := hidR (X12.out.below hb)
            clear X12
            clear H12
            clear hb
            go_wp2
            go_ret
            exact ⟨rfl, H13.out.2⟩
          | true =>
            simp only [Bool.false_eq_true, if_false, if_true] at LZ
            obtain ⟨t0, s0⟩ := (H10.out.1.2.2).1.1
            obtain ⟨x0, x1, -⟩ := X10.out
            go_wp2_with fail
            clear t0 s0 x0 x1
            refine (LX _ _ ((H10.out.1.2.2).1.2)).mono ?_
            rintro e v11 ⟨rfl, hb⟩
            have H11 := hidR (Kns.below H10.out hb)
            have P11 := hidR (P10.out.below hb)
            clear P10
            have X11 := hidR (X10.out.below hb)
            clear X10
            clear H10
            clear hb
            obtain ⟨t0, s0⟩ := (H11.out.1.2).1.1
            obtain ⟨x0, x1, -⟩ := X11.out
            go_wp2_with fail
            clear t0 s0 x0 x1
            refine (LY _ _ ((H11.out.1.2).1.2)).mono ?_
            rintro e v12 ⟨rfl, hb⟩
            have H12 := hidR (Kns.below H11.out hb)
            have P12 := hidR (P11.out.below hb)
            clear P11
            have X12 := hidR (X11.out.below hb)
            clear X11
            clear H11
            clear hb
            obtain ⟨t0, s0⟩ := (H12.out.1).1.1
            obtain ⟨x0, x1, -⟩ := X12.out
            go_wp2_with fail
            clear t0 s0 x0 x1
            refine (LZ _ _ ((H12.out.1).1.2)).mono ?_
            rintro e v13 ⟨rfl, hb⟩
            have H13 := hidR (Kns.below H12.out hb)
            have P13 := hidR (P12.out.below hb)
            clear P12
            have X13 := hidR (X12.out.below hb)
            clear X12
            clear H12
            clear hb
            go_wp2
            go_ret
            exact ⟨rfl, H13.out.2⟩
        · have dj : (j != 0) = true := by simp [hj]
          have el : qLess i j = 0 := by rw [qLess, if_neg hj]
          rw [el] at LY
          clear el hj
          obtain ⟨p0, p1, p2, -, -, -⟩ := P9.out
          obtain ⟨x0, x1, -⟩ := X9.out
          go_wp2_with fail
          clear p0 p1 p2 x0 x1
          refine (KH _).mono ?_
          rintro e v10 ⟨rfl, hb⟩
          have H10 := hidR (Kns.below H9.out hb)
          have P10 := hidR (P9.out.below hb)
          clear P9
          have X10 := hidR (X9.out.below hb)
          clear X9
          clear H9
          clear hb KH
          cases hs with
          | false =>
            simp only [Bool.false_eq_true, if_false, if_true] at LZ
            obtain ⟨t0, s0⟩ := (H10.out.1.2.2).1.1
            obtain ⟨x0, x1, -⟩ := X10.out
            go_wp2_with fail
            clear t0 s0 x0 x1
            refine (LX _ _ ((H10.out.1.2.2).1.2)).mono ?_
            rintro e v11 ⟨rfl, hb⟩
            have H11 := hidR (Kns.below H10.out hb)
            have P11 := hidR (P10.out.below hb)
            clear P10
            have X11 := hidR (X10.out.below hb)
            clear X10
            clear H10
            clear hb
            obtain ⟨t0, s0⟩ := (H11.out.1.2).1.1
            obtain ⟨x0, x1, -⟩ := X11.out
            go_wp2_with fail
            clear t0 s0 x0 x1
            refine (LY _ _ ((H11.out.1.2).1.2)).mono ?_
            rintro e v12 ⟨rfl, hb⟩
            have H12 := hidR (Kns.below H11.out hb)
            have P12 := hidR (P11.out.below hb)
            clear P11
            have X12 := hidR (X11.out.below hb)
            clear X11
            clear H11
            clear hb
            obtain ⟨t0, s0⟩ := (H12.out.1).1.1
            obtain ⟨x0, x1, -⟩ := X12.out
            go_wp2_with fail
            clear t0 s0 x0 x1
            refine (LZ _ _ ((H12.out.1).1.2)).mono ?_
            rintro e v13 ⟨rfl, hb⟩
            have H13 := hidR (Kns.below H12.out hb)
            have P13 := hidR (P12.out.below hb)
            clear P12
            have X13 := hidR (X12.out.below hb)
            clear X12
            clear H12
            clear hb
            go_wp2
            go_ret
            exact ⟨rfl, H13.out.2⟩
          | true =>
            simp only [Bool.false_eq_true, if_false, if_true] at LZ
            obtain ⟨t0, s0⟩ := (H10.out.1.2.2).1.1
            obtain ⟨x0, x1, -⟩ := X10.out
            go_wp2_with fail
            clear t0 s0 x0 x1
            refine (LX _ _ ((H10.out.1.2.2).1.2)).mono ?_
            rintro e v11 ⟨rfl, hb⟩
            have H11 := hidR (Kns.below H10.out hb)
            have P11 := hidR (P10.out.below hb)
            clear P10
            have X11 := hidR (X10.out.below hb)
            clear X10
            clear H10
            clear hb
            obtain ⟨t0, s0⟩ := (H11.out.1.2).1.1
            obtain ⟨x0, x1, -⟩ := X11.out
            go_wp2_with fail
            clear t0 s0 x0 x1
            refine (LY _ _ ((H11.out.1.2).1.2)).mono ?_
            rintro e v12 ⟨rfl, hb⟩
            have H12 := hidR (Kns.below H11.out hb)
            have P12 := hidR (P11.out.below hb)
            clear P11
            have X12 := hidR (X11.out.below hb)
            clear X11
            clear H11
            clear hb
            obtain ⟨t0, s0⟩ := (H12.out.1).1.1
            obtain ⟨x0, x1, -⟩ := X12.out
            go_wp2_with fail
            clear t0 s0 x0 x1
            refine (LZ _ _ ((H12.out.1).1.2)).mono ?_
            rintro e v13 ⟨rfl, hb⟩
            have H13 := hidR (Kns.below H12.out hb)
            have P13 := hidR (P12.out.below hb)
            clear P12
            have X13 := hidR (X12.out.below hb)
            clear X12
            clear H12
            clear hb
            go_wp2
            go_ret
            exact ⟨rfl, H13.out.2⟩
      · have di : (i == 0) = false := by simp [hi]
        have eo : qOver i j = i := by rw [qOver, if_neg hi]
        rw [eo] at LX
        clear eo hi
        by_cases hj : j = 0
        · have dj : (j != 0) = false := by simp [hj]
          have el : qLess i j = i := by rw [qLess, if_pos hj]
          rw [el] at LY
          clear el hj
          obtain ⟨p0, p1, p2, -, -, -⟩ := P9.out
          obtain ⟨x0, x1, -⟩ := X9.out
          go_wp2_with fail
          clear p0 p1 p2 x0 x1
          refine (KH _).mono ?_
          rintro e v10 ⟨rfl, hb⟩
          have H10 := hidR (Kns.below H9.out hb)
          have P10 := hidR (P9.out.below hb)
          clear P9
          have X10 := hidR (X9.out.below hb)
          clear X9
          clear H9
          clear hb KH
          cases hs with
          | false =>
            simp only [Bool.false_eq_true, if_false, if_true] at LZ
            obtain ⟨t0, s0⟩ := (H10.out.1.2.2).1.1
            obtain ⟨x0, x1, -⟩ := X10.out
            go_wp2_with fail
            clear t0 s0 x0 x1
            refine (LX _ _ ((H10.out.1.2.2).1.2)).mono ?_
            rintro e v11 ⟨rfl, hb⟩
            have H11 := hidR (Kns.below H10.out hb)
            have P11 := hidR (P10.out.below hb)
            clear P10
            have X11 := hidR (X10.out.below hb)
            clear X10
            clear H10
            clear hb
            obtain ⟨t0, s0⟩ := (H11.out.1.2).1.1
            obtain ⟨x0, x1, -⟩ := X11.out
            go_wp2_with fail
            clear t0 s0 x0 x1
            refine (LY _ _ ((H11.out.1.2).1.2)).mono ?_
            rintro e v12 ⟨rfl, hb⟩
            have H12 := hidR (Kns.below H11.out hb)
            have P12 := hidR (P11.out.below hb)
            clear P11
            have X12 := hidR (X11.out.below hb)
            clear X11
            clear H11
            clear hb
            obtain ⟨t0, s0⟩ := (H12.out.1).1.1
            obtain ⟨x0, x1, -⟩ := X12.out
            go_wp2_with fail
            clear t0 s0 x0 x1
            refine (LZ _ _ ((H12.out.1).1.2)).mono ?_
            rintro e v13 ⟨rfl, hb⟩
            have H13 := hidR (Kns.below H12.out hb)
            have P13 := hidR (P12.out.below hb)
            clear P12
            have X13 := hidR (X12.out.below hb)
            clear X12
            clear H12
            clear hb
            go_wp2
            go_ret
            exact ⟨rfl, H13.out.2⟩
          | true =>
            simp only [Bool.false_eq_true, if_false, if_true] at LZ
            obtain ⟨t0, s0⟩ := (H10.out.1.2.2).1.1
            obtain ⟨x0, x1, -⟩ := X10.out
            go_wp2_with fail
            clear t0 s0 x0 x1
            refine (LX _ _ ((H10.out.1.2.2).1.2)).mono ?_
            rintro e v11 ⟨rfl, hb⟩
            have H11 := hidR (Kns.below H10.out hb)
            have P11 := hidR (P10.out.below hb)
            clear P10
            have X11 := hidR (X10.out.below hb)
            clear X10
            clear H10
            clear hb
            obtain ⟨t0, s0⟩ := (H11.out.1.2).1.1
            obtain ⟨x0, x1, -⟩ := X11.out
            go_wp2_with fail
            clear t0 s0 x0 x1
            refine (LY _ _ ((H11.out.1.2).1.2)).mono ?_
            rintro e v12 ⟨rfl, hb⟩
            have H12 := hidR (Kns.below H11.out hb)
            have P12 := hidR (P11.out.below hb)
            clear P11
            have X12 := hidR (X11.out.below hb)
            clear X11
            clear H11
            clear hb
            obtain ⟨t0, s0⟩ := (H12.out.1).1.1
            obtain ⟨x0, x1, -⟩ := X12.out
            go_wp2_with fail
            clear t0 s0 x0 x1
            refine (LZ _ _ ((H12.out.1).1.2)).mono ?_
            rintro e v13 ⟨rfl, hb⟩
            have H13 := hidR (Kns.below H12.out hb)
            have P13 := hidR (P12.out.below hb)
            clear P12
            have X13 := hidR (X12.out.below hb)
            clear X12
            clear H12
            clear hb
            go_wp2
            go_ret
            exact ⟨rfl, H13.out.2⟩
        · have dj : (j != 0) = true := by simp [hj]
          have el : qLess i j = 0 := by rw [qLess, if_neg hj]
          rw [el] at LY
          clear el hj
          obtain ⟨p0, p1, p2, -, -, -⟩ := P9.out
          obtain ⟨x0, x1, -⟩ := X9.out
          go_wp2_with fail
          clear p0 p1 p2 x0 x1
          refine (KH _).mono ?_
          rintro e v10 ⟨rfl, hb⟩
          have H10 := hidR (Kns.below H9.out hb)
          have P10 := hidR (P9.out.below hb)
          clear P9
          have X10 := hidR (X9.out.below hb)
          clear X9
          clear H9
          clear hb KH
          cases hs with
          | false =>
            simp only [Bool.false_eq_true, if_false, if_true] at LZ
            obtain ⟨t0, s0⟩ := (H10.out.1.2.2).1.1
            obtain ⟨x0, x1, -⟩ := X10.out
            go_wp2_with fail
            clear t0 s0 x0 x1
            refine (LX _ _ ((H10.out.1.2.2).1.2)).mono ?_
            rintro e v11 ⟨rfl, hb⟩
            have H11 := hidR (Kns.below H10.out hb)
            have P11 := hidR (P10.out.below hb)
            clear P10
            have X11 := hidR (X10.out.below hb)
            clear X10
            clear H10
            clear hb
            obtain ⟨t0, s0⟩ := (H11.out.1.2).1.1
            obtain ⟨x0, x1, -⟩ := X11.out
            go_wp2_with fail
            clear t0 s0 x0 x1
            refine (LY _ _ ((H11.out.1.2).1.2)).mono ?_
            rintro e v12 ⟨rfl, hb⟩
            have H12 := hidR (Kns.below H11.out hb)
            have P12 := hidR (P11.out.below hb)
            clear P11
            have X12 := hidR (X11.out.below hb)
            clear X11
            clear H11
            clear hb
            obtain ⟨t0, s0⟩ := (H12.out.1).1.1
            obtain ⟨x0, x1, -⟩ := X12.out
            go_wp2_with fail
            clear t0 s0 x0 x1
            refine (LZ _ _ ((H12.out.1).1.2)).mono ?_
            rintro e v13 ⟨rfl, hb⟩
            have H13 := hidR (Kns.below H12.out hb)
            have P13 := hidR (P12.out.below hb)
            clear P12
            have X13 := hidR (X12.out.below hb)
            clear X12
            clear H12
            clear hb
            go_wp2
            go_ret
            exact ⟨rfl, H13.out.2⟩
          | true =>
            simp only [Bool.false_eq_true, if_false, if_true] at LZ
            obtain ⟨t0, s0⟩ := (H10.out.1.2.2).1.1
            obtain ⟨x0, x1, -⟩ := X10.out
            go_wp2_with fail
            clear t0 s0 x0 x1
            refine (LX _ _ ((H10.out.1.2.2).1.2)).mono ?_
            rintro e v11 ⟨rfl, hb⟩
            have H11 := hidR (Kns.below H10.out hb)
            have P11 := hidR (P10.out.below hb)
            clear P10
            have X11 := hidR (X10.out.below hb)
            clear X10
            clear H10
            clear hb
            obtain ⟨t0, s0⟩ := (H11.out.1.2).1.1
            obtain ⟨x0, x1, -⟩ := X11.out
            go_wp2_with fail
            clear t0 s0 x0 x1
            refine (LY _ _ ((H11.out.1.2).1.2)).mono ?_
            rintro e v12 ⟨rfl, hb⟩
            have H12 := hidR (Kns.below H11.out hb)
            have P12 := hidR (P11.out.below hb)
            clear P11
            have X12 := hidR (X11.out.below hb)
            clear X11
            clear H11
            clear hb
            obtain ⟨t0, s0⟩ := (H12.out.1).1.1
            obtain ⟨x0, x1, -⟩ := X12.out
            go_wp2_with fail
            clear t0 s0 x0 x1
            refine (LZ _ _ ((H12.out.1).1.2)).mono ?_
            rintro e v13 ⟨rfl, hb⟩
            have H13 := hidR (Kns.below H12.out hb)
            have P13 := hidR (P12.out.below hb)
            clear P12
            have X13 := hidR (X12.out.below hb)
            clear X12
            clear H12
            clear hb
            go_wp2
            go_ret
            exact ⟨rfl, H13.out.2⟩
end Go.Proofs.YtonagfmkplbooaaDoor
/-
  How a prefix that is handed in reads as data.
-/
namespace Go.Proofs.YtonagfmkplbooaaDoor
open Go.ChangeShapes Go.WideShapes Go.ChangeAt Go.RowKit Go.Joins
set_option linter.unusedSimpArgs false
set_option linter.unusedVariables false

theorem Tryd.cellsW : Tryd.prog.cellsOf 27 = 2 := by kernel_rfl
theorem Tryd.cellsP : Tryd.prog.cellsOf 29 = 3 := by kernel_rfl
theorem Tryd.cellsI : Tryd.prog.cellsOf 3 = 1 := by kernel_rfl
theorem Tryd.cellsU : Tryd.prog.cellsOf 25 = 1 := by kernel_rfl
section
variable {H : Type} {enc : TypeId × Value → H} {w : World} {base : Nat} {spare : Nat → Bool} {held : Bool}
set_option maxRecDepth 100000 in
theorem open_pfx {r : Reach} {b0 : Nat} {v : Value} {d : DataW H} {p : List MemPlace} (hv : Value.okWide Tryd.prog w r b0 29 v) (h : DataW.Trod enc Tryd.prog w base spare held 29 v d p) :
    ∃ a b n : Int, v = .agg #[.int .u64 a, .int .u64 b, .int .i64 n] ∧ d = .agg [.agg [.lit (.int .u64 a), .lit (.int .u64 b)], .lit (.int .i64 n)] ∧ p = [] ∧ (Lit.int .u64 a).wf = true ∧ (Lit.int .u64 b).wf = true ∧ (Lit.int .i64 n).wf = true := by
  obtain ⟨cs, rfl, hsz⟩ := okWide_struct Tryd.underlying29 hv
  obtain ⟨c0, c1, c2, rfl⟩ := array3 (hsz.trans Tryd.cellsP)
  obtain ⟨fuel, hf⟩ := h
  obtain ⟨y0, y1, n, hx, _, h0, h1⟩ := trod_struct2 Tryd.underlying29 hf
  have h0' : DataW.trod enc Tryd.prog w base spare held n 27 [c0, c1] = some y0 := by simpa [Value.cells, Tryd.cellsW] using h0
  have h1' : DataW.trod enc Tryd.prog w base spare held n 3 [c2] = some y1 := by simpa [Value.cells, Tryd.cellsI] using h1
  obtain ⟨u0, u1, m, hu, _, g0, g1⟩ := trod_struct2 Tryd.underlying27 h0'
  have g0' : DataW.trod enc Tryd.prog w base spare held m 25 [c0] = some u0 := by simpa [Value.cells, Tryd.cellsU] using g0
  have g1' : DataW.trod enc Tryd.prog w base spare held m 25 [c1] = some u1 := by simpa [Value.cells, Tryd.cellsU] using g1
  obtain ⟨a, ea, rfl, wa⟩ := DataW.trod_int Tryd.underlying25 g0'
  obtain ⟨b, eb, rfl, wb⟩ := DataW.trod_int Tryd.underlying25 g1'
  obtain ⟨k, ek, rfl, wk⟩ := DataW.trod_int Tryd.underlying3 h1'
  simp at ea eb ek
  subst ea eb ek hu
  simp only [Prod.mk.injEq] at hx
  exact ⟨a, b, k, rfl, hx.1, by simpa using hx.2, wa, wb, wk⟩
set_option maxRecDepth 100000 in
theorem shut_pfx {a b n : Int} (wa : (Lit.int .u64 a).wf = true) (wb : (Lit.int .u64 b).wf = true) (wn : (Lit.int .i64 n).wf = true) :
    DataW.Trod enc Tryd.prog w base spare held 29 (.agg #[.int .u64 a, .int .u64 b, .int .i64 n]) (.agg [.agg [.lit (.int .u64 a), .lit (.int .u64 b)], .lit (.int .i64 n)]) [] := by
  have f : ∀ {z : Int}, (Lit.int .u64 z).wf = true → DataW.trod enc Tryd.prog w base spare held 1 25 [.int .u64 z] = some (.lit (.int .u64 z), []) := fun hz => by simp [DataW.trod, Tryd.underlying25, hz]
  have g : DataW.trod enc Tryd.prog w base spare held 2 3 [.int .i64 n] = some (.lit (.int .i64 n), []) := by simp [DataW.trod, Tryd.underlying3, wn]
  have s : DataW.trod enc Tryd.prog w base spare held 2 27 [.int .u64 a, .int .u64 b] = some (.agg [.lit (.int .u64 a), .lit (.int .u64 b)], []) := by
    have := trod_struct2_mk (enc := enc) (w := w) (base := base) (spare := spare) (held := held) (n := 1) (cs := [.int .u64 a, .int .u64 b]) Tryd.underlying27 (by simp [Tryd.cellsW]) (by simpa [Tryd.cellsU] using f wa) (by simpa [Tryd.cellsU] using f wb)
    simpa using this
  have := trod_struct2_mk (enc := enc) (w := w) (base := base) (spare := spare) (held := held) (n := 2) (cs := [.int .u64 a, .int .u64 b, .int .i64 n]) Tryd.underlying29 (by simp [Tryd.cellsP]) (by simpa [Tryd.cellsW] using s) (by simpa [Tryd.cellsI] using g)
  exact ⟨3, by simpa [Value.cells] using this⟩
end
end Go.Proofs.YtonagfmkplbooaaDoor
/-
  How a table that is handed in reads as data.
-/
namespace Go.Proofs.YtonagfmkplbooaaDoor
open Go.ChangeShapes Go.WideShapes Go.ChangeAt Go.RowKit Go.Joins
set_option linter.unusedSimpArgs false
set_option linter.unusedVariables false

theorem Tryd.laidOut : laidOutB Tryd.prog = true := by kernel_rfl
theorem Tryd.cellsR : Tryd.prog.cellsOf 50 = 4 := by kernel_rfl
theorem Tryd.cellsT : Tryd.prog.cellsOf 24 = 2 := by kernel_rfl
theorem Tryd.cellsL : Tryd.prog.cellsOf 22 = 1 := by kernel_rfl
theorem addT (g o j : Nat) : (⟨g, o, none⟩ : Addr).add j = ⟨g, o + j, none⟩ := by unfold Addr.add; split <;> simp_all
theorem rowR_lenF (l : List Rte) : (rowR l).length = l.length * 4 := by
  induction l with
  | nil => rfl
  | cons r l ih => simp [rowR, ih]; omega
theorem rowR_all {W : World} {b off : Nat} (l : List Rte) (h : ∀ i (hi : i < l.length), W.cell? ⟨b, off + i * 4, none⟩ = some (.int .u64 (hI l[i].1.1)) ∧ W.cell? ⟨b, off + (i * 4 + 1), none⟩ = some (.int .u64 (lI l[i].1.1)) ∧ W.cell? ⟨b, off + (i * 4 + 2), none⟩ = some (.int .i64 l[i].1.2) ∧ W.cell? ⟨b, off + (i * 4 + 3), none⟩ = some (.int .i64 l[i].2)) :
    ∀ j u, (rowR l)[j]? = some u → W.cell? ⟨b, off + j, none⟩ = some u := by
  intro j u hj
  have hlt : j < (rowR l).length := (List.getElem?_eq_some_iff.1 hj).1
  rw [rowR_lenF] at hlt
  have hi : j / 4 < l.length := by omega
  obtain ⟨a0, a1, a2, a3⟩ := h (j / 4) hi
  obtain ⟨b0, b1, b2, b3⟩ := rowR_get l (j / 4) hi
  have hm : j % 4 = 0 ∨ j % 4 = 1 ∨ j % 4 = 2 ∨ j % 4 = 3 := by omega
  rcases hm with hm | hm | hm | hm
  · have e : j = j / 4 * 4 := by omega
    rw [e, b0] at hj
    rw [e, ← hj]; exact a0
  · have e : j = j / 4 * 4 + 1 := by omega
    rw [e, b1] at hj
    rw [e, ← hj]; exact a1
  · have e : j = j / 4 * 4 + 2 := by omega
    rw [e, b2] at hj
    rw [e, ← hj]; exact a2
  · have e : j = j / 4 * 4 + 3 := by omega
    rw [e, b3] at hj
    rw [e, ← hj]; exact a3
section
variable {H : Type} {enc : TypeId × Value → H} {w : World} {spare : Nat → Bool} {held : Bool}
set_option maxRecDepth 100000 in
theorem trod_word {n : Nat} {c0 c1 : Value} {x : DataW H × List MemPlace} (h : DataW.trod enc Tryd.prog w 0 spare held n 27 [c0, c1] = some x) :
    ∃ a b : Int, c0 = .int .u64 a ∧ c1 = .int .u64 b ∧ (Lit.int .u64 a).wf = true ∧ (Lit.int .u64 b).wf = true := by
  obtain ⟨u0, u1, m, hu, _, g0, g1⟩ := trod_struct2 Tryd.underlying27 h
  have g0' : DataW.trod enc Tryd.prog w 0 spare held m 25 [c0] = some u0 := by simpa [Value.cells, Tryd.cellsU] using g0
  have g1' : DataW.trod enc Tryd.prog w 0 spare held m 25 [c1] = some u1 := by simpa [Value.cells, Tryd.cellsU] using g1
  obtain ⟨a, ea, rfl, wa⟩ := DataW.trod_int Tryd.underlying25 g0'
  obtain ⟨b, eb, rfl, wb⟩ := DataW.trod_int Tryd.underlying25 g1'
  simp at ea eb
  exact ⟨a, b, ea, eb, wa, wb⟩
set_option maxRecDepth 100000 in
theorem trod_rte {n : Nat} {c0 c1 c2 c3 : Value} {x : DataW H × List MemPlace} (h : DataW.trod enc Tryd.prog w 0 spare held n 50 [c0, c1, c2, c3] = some x) :
    ∃ a b k g : Int, c0 = .int .u64 a ∧ c1 = .int .u64 b ∧ c2 = .int .i64 k ∧ c3 = .int .i64 g ∧ (Lit.int .u64 a).wf = true ∧ (Lit.int .u64 b).wf = true := by
  obtain ⟨y0, y1, n, hx, _, h0, h1⟩ := trod_struct2 Tryd.underlying50 h
  have h0' : DataW.trod enc Tryd.prog w 0 spare held n 29 [c0, c1, c2] = some y0 := by simpa [Value.cells, Tryd.cellsP] using h0
  have h1' : DataW.trod enc Tryd.prog w 0 spare held n 3 [c3] = some y1 := by simpa [Value.cells, Tryd.cellsI, Tryd.cellsP] using h1
  obtain ⟨z0, z1, n2, hz, _, k0, k1⟩ := trod_struct2 Tryd.underlying29 h0'
  have k0' : DataW.trod enc Tryd.prog w 0 spare held n2 27 [c0, c1] = some z0 := by simpa [Value.cells, Tryd.cellsW] using k0
  have k1' : DataW.trod enc Tryd.prog w 0 spare held n2 3 [c2] = some z1 := by simpa [Value.cells, Tryd.cellsI, Tryd.cellsW] using k1
  obtain ⟨a, b, e0, e1, wa, wb⟩ := trod_word k0'
  obtain ⟨k, ek, rfl, wk⟩ := DataW.trod_int Tryd.underlying3 k1'
  obtain ⟨g, eg, rfl, wg⟩ := DataW.trod_int Tryd.underlying3 h1'
  simp at ek eg
  exact ⟨a, b, k, g, e0, e1, ek, eg, wa, wb⟩
theorem spot_none {W : World} {a : Addr} {u : Value} (h : W.cell? a = some u) : a = ⟨a.block, a.off, none⟩ := by
  obtain ⟨b, o, s⟩ := a
  cases s with
  | none => rfl
  | some z =>
    unfold World.cell? at h
    split at h
    · simp at h
    · cases h
theorem array2v {cs : Array Value} (h : cs.size = 2) : ∃ a b, cs = #[a, b] := by
  obtain ⟨l⟩ := cs
  match l, h with
  | [a, b], _ => exact ⟨a, b, rfl⟩
set_option maxRecDepth 100000 in
theorem open_tab {r : Reach} {b0 : Nat} {v : Value} {d : DataW H} {p : List MemPlace} (hv : Value.okWide Tryd.prog w r b0 24 v) (h : DataW.Trod enc Tryd.prog w 0 (fun _ => true) held 24 v d p) :
    ∃ (F : Int) (va : Value) (l : List Rte), v = .agg #[.int .i64 F, va] ∧ RwR w va l := by
  obtain ⟨cs, rfl, hsz⟩ := okWide_struct Tryd.underlying24 hv
  obtain ⟨c0, va, rfl⟩ := array2v (hsz.trans Tryd.cellsT)
  obtain ⟨fuel, hf⟩ := h
  obtain ⟨y0, y1, n, hx, _, h0, h1⟩ := trod_struct2 Tryd.underlying24 hf
  have h0' : DataW.trod enc Tryd.prog w 0 (fun _ => true) held n 3 [c0] = some y0 := by simpa [Value.cells, Tryd.cellsI] using h0
  have h1' : DataW.trod enc Tryd.prog w 0 (fun _ => true) held n 22 [va] = some y1 := by simpa [Value.cells, Tryd.cellsI, Tryd.cellsL] using h1
  obtain ⟨F, eF, rfl, wF⟩ := DataW.trod_int Tryd.underlying3 h0'
  simp at eF
  subst eF
  refine ⟨F, va, ?_⟩
  rcases Deep.open_slice Tryd.underlying22 h1' with ⟨hcs, hx⟩ | ⟨a, len, cap, m, n, D, Pl, hcs, _, hl, hm, hmm, hx, hel⟩
  · simp at hcs
    subst hcs
    exact ⟨[], rfl, none, 0, rfl, .inl rfl⟩
  · simp at hcs
    subst hcs
    simp at hmm
    subst hmm
    rw [Tryd.cellsR] at hel
    obtain ⟨f, hf⟩ := Deep.choose_lt (α := Rte) (n := len) (p := fun i x => w.cell? (a.add (i * 4)) = some (.int .u64 (hI x.1.1)) ∧ w.cell? ((a.add (i * 4)).add 1) = some (.int .u64 (lI x.1.1)) ∧ w.cell? ((a.add (i * 4)).add 2) = some (.int .i64 x.1.2) ∧ w.cell? ((a.add (i * 4)).add 3) = some (.int .i64 x.2)) (fun i hi => by
      obtain ⟨cs', h1, h2⟩ := hel i (by omega)
      obtain ⟨_, hlen, hc⟩ := World.cells?_some h1
      match cs', hlen with
      | [c0, c1, c2, c3], _ =>
        obtain ⟨x, y, k, g, rfl, rfl, rfl, rfl, wx, wy⟩ := trod_rte h2
        have bx : 0 ≤ x ∧ x < 18446744073709551616 := by simp [Lit.wf, IntKind.min, IntKind.max, IntKind.signed, IntKind.bits] at wx; omega
        have bY : 0 ≤ y ∧ y < 18446744073709551616 := by simp [Lit.wf, IntKind.min, IntKind.max, IntKind.signed, IntKind.bits] at wy; omega
        refine ⟨((mkW x y, k), g), ?_, ?_, ?_, ?_⟩
        · have := hc 0 (by omega)
          rw [hI_mk x y bx.1 bx.2]
          simpa [Addr.add] using this
        · rw [lI_mk x y bY.1 bY.2]
          simpa using hc 1 (by omega)
        · simpa using hc 2 (by omega)
        · simpa using hc 3 (by omega))
    refine ⟨(List.range len).map f, rfl, some a, _, by simp; rfl, ?_⟩
    by_cases hz : len = 0
    · subst hz
      exact .inl (by simp)
    · have h00 := (hf 0 (by omega)).1
      have ea : a = ⟨a.block, a.off, none⟩ := by
        have : a.add (0 * 4) = a := by simp [Addr.add]
        rw [this] at h00
        exact spot_none h00
      refine .inr ⟨a.block, a.off, by rw [← ea], ?_⟩
      refine rowR_all _ ?_
      intro i hi
      have hi' : i < len := by simpa using hi
      have := hf i hi'
      rw [ea] at this
      simp only [addT] at this
      simpa [Nat.add_assoc] using this
end
end Go.Proofs.YtonagfmkplbooaaDoor
