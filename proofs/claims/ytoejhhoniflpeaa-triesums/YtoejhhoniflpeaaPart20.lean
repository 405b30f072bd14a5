/-
  Part 20 of the proof: 2 texts, one behind the other.
-/
import Derived.Test.YtoejhhoniflpeaaPart19
import Derived.Test.YtoejhhoniflpeaaRows
import Derived.ProofKit
import Derived.Lib.SmallJoins
/-
  The law TrieSums.
-/
namespace Go.Proofs.Ytoejhhoniflpeaa
open Go.RowKit Go.Shelf
set_option linter.unusedSimpArgs false
set_option linter.unusedVariables false

theorem add_bd {L : List Nd} (ho : ∀ x ∈ L, x.ok) (a b : Int) : IntKind.i64.wrap ((ndAt L a).count + (ndAt L b).count) = (ndAt L a).count + (ndAt L b).count ∧ IntKind.i64.wrap ((ndAt L a).count + (ndAt L b).count + 1) = (ndAt L a).count + (ndAt L b).count + 1 ∧ IntKind.i64.wrap (1 + (ndAt L a).height) = 1 + (ndAt L a).height := by
  have h1 := ndAt_ok ho a
  have h2 := ndAt_ok ho b
  unfold Nd.ok at h1 h2
  refine ⟨?_, ?_, ?_⟩ <;> (rw [IntKind.wrap_i64]; omega)
/-- What is known in a round. -/
def CS8 (w : World) (F : Int) (v : Value) (B g cap wg wc : Nat) (L : List Nd) (ws : List (BitVec 128)) (X : World) : Prop := TrT X B F g cap wg wc L ws ∧ AtT X w.heap.size F v ∧ Below w.heap.size w X
theorem CS8.below {w X Y : World} {F : Int} {v : Value} {B g cap wg wc : Nat} {L : List Nd} {ws : List (BitVec 128)} (k : CS8 w F v B g cap wg wc L ws X) (hb : Below X.heap.size X Y) : CS8 w F v B g cap wg wc L ws Y := ⟨k.1.below hb, k.2.1.below hb, keepb hb k.2.2⟩
set_option maxRecDepth 20000 in
set_option maxHeartbeats 16000000 in
theorem trieSums_any (F : Int) (v : Value) (l : List Rte) (w : World) (hv : RwR w v l) :
    Calls Try.prog 7 #[.agg #[.int .i64 F, v]] w fun e w' => e = .returned (.bool true) ∧ Below w.heap.size w w' := by
  have q0 := bl1 w (.cells #[.int .i64 F, v] 24)
  have KK := known8_any (w.alloc (.cells #[.int .i64 F, v] 24))
  have HT := hidR (att_new w w.heap.size F v 24 rfl)
  have HV0 := hidR (hv.below q0)
  have HB0 := hidR q0
  obtain ⟨ao, c, rfl, -⟩ := hv
  clear q0
  go_enter Try.func7, Try.ntmps7
  go_wp2_with fail
  refine KK.mono ?_
  rintro e w1 ⟨rfl, hb⟩
  have HT1 := hidR (HT.out.below hb)
  have HV1 := hidR (HV0.out.below hb)
  have HB1 := hidR (keepb hb HB0.out)
  have KM := made8_any F (.slice ao l.length c) l w1 HV1.out
  obtain ⟨t0, t1⟩ := HT1.out
  clear KK hb HT HV0 HB0
  go_wp2_with fail
  refine KM.mono ?_
  rintro e w2 ⟨hM, hb⟩
  have HT2 := hidR (HT1.out.below hb)
  have HV2 := hidR (HV1.out.below hb)
  have HB2 := hidR (keepb hb HB1.out)
  clear KM hb HT1 HV1 HB1 t0 t1
  obtain ⟨t0, t1⟩ := HT2.out
  rcases hM with ⟨hn, rfl⟩ | ⟨⟨hR, hl3⟩, B, g, cap, wg, wc, ws, L, rfl, k1, k2, -, -, -⟩
  · have KR := rightI_any F (.slice ao l.length c) l w2 HV2.out
    go_wp2_with fail
    refine KR.mono ?_
    rintro e w3 ⟨⟨r, hr, rfl⟩, hb⟩
    have HT3 := hidR (HT2.out.below hb)
    have HB3 := hidR (keepb hb HB2.out)
    clear KR hb HT2 HV2 HB2 t0 t1
    obtain ⟨t0, t1⟩ := HT3.out
    cases r with
    | false =>
      go_wp2
      exact bodyPost_ret (v := .bool true) (by simp [results, Try.results7, go_sem]) rfl ⟨rfl, HB3.out⟩
    | true =>
      have hl : (300 : Int) < (l.length : Int) := by
        have := hr.mp rfl
        apply Classical.byContradiction; intro q
        exact hn ⟨this, by omega⟩
      clear hr hn
      go_wp2
      exact bodyPost_ret (v := .bool true) (by simp [results, Try.results7, go_sem, hl]) rfl ⟨rfl, HB3.out⟩
  · have HC := hidR (show CS8 w F (.slice ao l.length c) B g cap wg wc L ws w2 from ⟨k1, HT2.out, HB2.out⟩)
    have Hk := hidR k2
    have hLl : L.length ≤ 38401 := by have := k2.nl; omega
    have Ho := hidR (k2.ok (by omega))
    clear k1 k2 HT2 HV2 HB2 t0 t1 hR
    go_wp2_with fail
    go_loopw [4] (fun i wr => ∃ k : Nat, k ≤ L.length ∧ i = .int .i64 k ∧ Hid (CS8 w F (.slice ao l.length c) B g cap wg wc L ws wr)) (fun i _ => L.length - (intOf i).toNat)
    case atStart => exact ⟨0, by omega, rfl, HC⟩
    case round =>
      clear HC
      obtain ⟨k, hk, rfl, HC⟩ := hrel
      have KL := tlen_any B F g cap _ L wr HC.out.1.tn
      by_cases hlt : (k : Int) < (L.length : Int)
      · have hks : k < L.length := by omega
        obtain ⟨a, b, ha, hb', ha1, hb1, hcn, hhg, hlf⟩ := Hk.out.sums k hks
        have Ka := fun W h => tkid_any B F g cap (.slice (some ⟨wg, 0, none⟩) ws.length wc) L (k : Int) 0 W h Ho.out (by omega)
        have Kb := fun W h => tkid_any B F g cap (.slice (some ⟨wg, 0, none⟩) ws.length wc) L (k : Int) 1 W h Ho.out (by omega)
        have Kca := fun W h => tcnt_any B F g cap (.slice (some ⟨wg, 0, none⟩) ws.length wc) L a W h Ho.out
        have Kcb := fun W h => tcnt_any B F g cap (.slice (some ⟨wg, 0, none⟩) ws.length wc) L b W h Ho.out
        have Kha := fun W h => thei_any B F g cap (.slice (some ⟨wg, 0, none⟩) ws.length wc) L a W h Ho.out
        have Khb := fun W h => thei_any B F g cap (.slice (some ⟨wg, 0, none⟩) ws.length wc) L b W h Ho.out
        have Khp := fun W h => thop_any B F g cap (.slice (some ⟨wg, 0, none⟩) ws.length wc) L (k : Int) W h Ho.out
        have Kck := fun W h => tcnt_any B F g cap (.slice (some ⟨wg, 0, none⟩) ws.length wc) L (k : Int) W h Ho.out
        have Khk := fun W h => thei_any B F g cap (.slice (some ⟨wg, 0, none⟩) ws.length wc) L (k : Int) W h Ho.out
        obtain ⟨w1, w2, w3⟩ := add_bd Ho.out a b
        have w4 := (add_bd Ho.out b a).2.2
        have xa0 : 0 ≤ (ndAt L a).height := (ndAt_ok Ho.out a).2.2.2.2.2.1
        have xb0 : 0 ≤ (ndAt L b).height := (ndAt_ok Ho.out b).2.2.2.2.2.1
        have hk0 : 0 ≤ (ndAt L (k : Int)).hop := (ndAt_ok Ho.out (k : Int)).2.2.2.1.1
        have w5 : IntKind.i64.wrap ((k : Int) + 1) = ((k + 1 : Nat) : Int) := by rw [IntKind.wrap_i64]; push_cast; omega
        have Hki := hidR hks
        rw [ha] at Ka
        rw [hb'] at Kb
        clear ha hb'
        revert Kca Kcb Kha Khb Khp Kck Khk hcn hhg hlf w1 w2 w3 w4 xa0 xb0 hk0
        generalize (ndAt L a).count = ca
        generalize (ndAt L b).count = cb
        generalize (ndAt L a).height = xa
        generalize (ndAt L b).height = xb
        generalize (ndAt L (k : Int)).count = ck
        generalize (ndAt L (k : Int)).height = xk
        generalize (ndAt L (k : Int)).hop = hh
        intro hcn hhg hlf Kca Kcb Kha Khb Khp Kck Khk w1 w2 w3 w4 xa0 xb0 hk0
        have KLn := KL
        clear hks hk
        by_cases h1 : 0 ≤ a
        · have ha9 : ¬ a < 0 := by omega
          by_cases h2 : 0 ≤ b
          · have hb9 : ¬ b < 0 := by omega
            by_cases h3 : 0 < hh
            · by_cases h4 : xa < xb
              · have hcn2 : ck = ca + cb + 1 := by rw [hcn]; simp [h3]
                have hhg2 : xk = 1 + xb := by rw [hhg]; simp [h1, h2]; omega
                have hm9 : 1 + xa < 1 + xb := by omega
                subst hcn2
                clear hcn hhg hlf
                subst hhg2
                go_wp2_with fail
                refine KLn.mono ?_
                rintro e w3 ⟨rfl, rfl⟩
                clear KLn
                have KX := Ka _ HC.out.1.tn
                go_wp2_with fail
                refine KX.mono ?_
                rintro e w3 ⟨rfl, hb⟩
                replace HC := hidR (HC.out.below hb)
                clear KX hb
                have KX := Kb _ HC.out.1.tn
                go_wp2_with fail
                refine KX.mono ?_
                rintro e w3 ⟨rfl, hb⟩
                replace HC := hidR (HC.out.below hb)
                clear KX hb
                have KX := Kca _ HC.out.1.tn
                go_wp2_with fail
                refine KX.mono ?_
                rintro e w3 ⟨rfl, hb⟩
                replace HC := hidR (HC.out.below hb)
                clear KX hb
                have KX := Kcb _ HC.out.1.tn
                go_wp2_with fail
                refine KX.mono ?_
                rintro e w3 ⟨rfl, hb⟩
                replace HC := hidR (HC.out.below hb)
                clear KX hb
                have KX := Kha _ HC.out.1.tn
                go_wp2_with fail
                refine KX.mono ?_
                rintro e w3 ⟨rfl, hb⟩
                replace HC := hidR (HC.out.below hb)
                clear KX hb
                have KX := Khb _ HC.out.1.tn
                go_wp2_with fail
                refine KX.mono ?_
                rintro e w3 ⟨rfl, hb⟩
                replace HC := hidR (HC.out.below hb)
                clear KX hb
                have KX := Khp _ HC.out.1.tn
                go_wp2_with fail
                refine KX.mono ?_
                rintro e w3 ⟨rfl, hb⟩
                replace HC := hidR (HC.out.below hb)
                clear KX hb
                have KX := Kck _ HC.out.1.tn
                go_wp2_with fail
                refine KX.mono ?_
                rintro e w3 ⟨rfl, hb⟩
                replace HC := hidR (HC.out.below hb)
                clear KX hb
                have KX := Khk _ HC.out.1.tn
                go_wp2_with fail
                refine KX.mono ?_
                rintro e w3 ⟨rfl, hb⟩
                replace HC := hidR (HC.out.below hb)
                clear KX hb
                go_wp2
                go_roundw
                case rel => exact ⟨k + 1, by have := Hki.out; omega, rfl, HC⟩
                case measure => simp [intOf]; have := Hki.out; omega
              · have hcn2 : ck = ca + cb + 1 := by rw [hcn]; simp [h3]
                have hhg2 : xk = 1 + xa := by rw [hhg]; simp [h1, h2]; omega
                have hm9 : ¬ 1 + xa < 1 + xb := by omega
                subst hcn2
                clear hcn hhg hlf
                subst hhg2
                go_wp2_with fail
                refine KLn.mono ?_
                rintro e w3 ⟨rfl, rfl⟩
                clear KLn
                have KX := Ka _ HC.out.1.tn
                go_wp2_with fail
                refine KX.mono ?_
                rintro e w3 ⟨rfl, hb⟩
                replace HC := hidR (HC.out.below hb)
                clear KX hb
                have KX := Kb _ HC.out.1.tn
                go_wp2_with fail
                refine KX.mono ?_
                rintro e w3 ⟨rfl, hb⟩
                replace HC := hidR (HC.out.below hb)
                clear KX hb
                have KX := Kca _ HC.out.1.tn
                go_wp2_with fail
                refine KX.mono ?_
                rintro e w3 ⟨rfl, hb⟩
                replace HC := hidR (HC.out.below hb)
                clear KX hb
                have KX := Kcb _ HC.out.1.tn
                go_wp2_with fail
                refine KX.mono ?_
                rintro e w3 ⟨rfl, hb⟩
                replace HC := hidR (HC.out.below hb)
                clear KX hb
                have KX := Kha _ HC.out.1.tn
                go_wp2_with fail
                refine KX.mono ?_
                rintro e w3 ⟨rfl, hb⟩
                replace HC := hidR (HC.out.below hb)
                clear KX hb
                have KX := Khb _ HC.out.1.tn
                go_wp2_with fail
                refine KX.mono ?_
                rintro e w3 ⟨rfl, hb⟩
                replace HC := hidR (HC.out.below hb)
                clear KX hb
                have KX := Khp _ HC.out.1.tn
                go_wp2_with fail
                refine KX.mono ?_
                rintro e w3 ⟨rfl, hb⟩
                replace HC := hidR (HC.out.below hb)
                clear KX hb
                have KX := Kck _ HC.out.1.tn
                go_wp2_with fail
                refine KX.mono ?_
                rintro e w3 ⟨rfl, hb⟩
                replace HC := hidR (HC.out.below hb)
                clear KX hb
                have KX := Khk _ HC.out.1.tn
                go_wp2_with fail
                refine KX.mono ?_
                rintro e w3 ⟨rfl, hb⟩
                replace HC := hidR (HC.out.below hb)
                clear KX hb
                go_wp2
                go_roundw
                case rel => exact ⟨k + 1, by have := Hki.out; omega, rfl, HC⟩
                case measure => simp [intOf]; have := Hki.out; omega
            · by_cases h4 : xa < xb
              · have hcn2 : ck = ca + cb := by rw [hcn]; simp [h3]
                have hhg2 : xk = 1 + xb := by rw [hhg]; simp [h1, h2]; omega
                have hm9 : 1 + xa < 1 + xb := by omega
                subst hcn2
                clear hcn hhg hlf
                subst hhg2
                go_wp2_with fail
                refine KLn.mono ?_
                rintro e w3 ⟨rfl, rfl⟩
                clear KLn
                have KX := Ka _ HC.out.1.tn
                go_wp2_with fail
                refine KX.mono ?_
                rintro e w3 ⟨rfl, hb⟩
                replace HC := hidR (HC.out.below hb)
                clear KX hb
                have KX := Kb _ HC.out.1.tn
                go_wp2_with fail
                refine KX.mono ?_
                rintro e w3 ⟨rfl, hb⟩
                replace HC := hidR (HC.out.below hb)
                clear KX hb
                have KX := Kca _ HC.out.1.tn
                go_wp2_with fail
                refine KX.mono ?_
                rintro e w3 ⟨rfl, hb⟩
                replace HC := hidR (HC.out.below hb)
                clear KX hb
                have KX := Kcb _ HC.out.1.tn
                go_wp2_with fail
                refine KX.mono ?_
                rintro e w3 ⟨rfl, hb⟩
                replace HC := hidR (HC.out.below hb)
                clear KX hb
                have KX := Kha _ HC.out.1.tn
                go_wp2_with fail
                refine KX.mono ?_
                rintro e w3 ⟨rfl, hb⟩
                replace HC := hidR (HC.out.below hb)
                clear KX hb
                have KX := Khb _ HC.out.1.tn
                go_wp2_with fail
                refine KX.mono ?_
                rintro e w3 ⟨rfl, hb⟩
                replace HC := hidR (HC.out.below hb)
                clear KX hb
                have KX := Khp _ HC.out.1.tn
                go_wp2_with fail
                refine KX.mono ?_
                rintro e w3 ⟨rfl, hb⟩
                replace HC := hidR (HC.out.below hb)
                clear KX hb
                have KX := Kck _ HC.out.1.tn
                go_wp2_with fail
                refine KX.mono ?_
                rintro e w3 ⟨rfl, hb⟩
                replace HC := hidR (HC.out.below hb)
                clear KX hb
                have KX := Khk _ HC.out.1.tn
                go_wp2_with fail
                refine KX.mono ?_
                rintro e w3 ⟨rfl, hb⟩
                replace HC := hidR (HC.out.below hb)
                clear KX hb
                go_wp2
                go_roundw
                case rel => exact ⟨k + 1, by have := Hki.out; omega, rfl, HC⟩
                case measure => simp [intOf]; have := Hki.out; omega
              · have hcn2 : ck = ca + cb := by rw [hcn]; simp [h3]
                have hhg2 : xk = 1 + xa := by rw [hhg]; simp [h1, h2]; omega
                have hm9 : ¬ 1 + xa < 1 + xb := by omega
                subst hcn2
                clear hcn hhg hlf
                subst hhg2
                go_wp2_with fail
                refine KLn.mono ?_
                rintro e w3 ⟨rfl, rfl⟩
                clear KLn
                have KX := Ka _ HC.out.1.tn
                go_wp2_with fail
                refine KX.mono ?_
                rintro e w3 ⟨rfl, hb⟩
                replace HC := hidR (HC.out.below hb)
                clear KX hb
                have KX := Kb _ HC.out.1.tn
                go_wp2_with fail
                refine KX.mono ?_
                rintro e w3 ⟨rfl, hb⟩
                replace HC := hidR (HC.out.below hb)
                clear KX hb
                have KX := Kca _ HC.out.1.tn
                go_wp2_with fail
                refine KX.mono ?_
                rintro e w3 ⟨rfl, hb⟩
                replace HC := hidR (HC.out.below hb)
                clear KX hb
                have KX := Kcb _ HC.out.1.tn
                go_wp2_with fail
                refine KX.mono ?_
                rintro e w3 ⟨rfl, hb⟩
                replace HC := hidR (HC.out.below hb)
                clear KX hb
                have KX := Kha _ HC.out.1.tn
                go_wp2_with fail
                refine KX.mono ?_
                rintro e w3 ⟨rfl, hb⟩
                replace HC := hidR (HC.out.below hb)
                clear KX hb
                have KX := Khb _ HC.out.1.tn
                go_wp2_with fail
                refine KX.mono ?_
                rintro e w3 ⟨rfl, hb⟩
                replace HC := hidR (HC.out.below hb)
                clear KX hb
                have KX := Khp _ HC.out.1.tn
                go_wp2_with fail
                refine KX.mono ?_
                rintro e w3 ⟨rfl, hb⟩
                replace HC := hidR (HC.out.below hb)
                clear KX hb
                have KX := Kck _ HC.out.1.tn
                go_wp2_with fail
                refine KX.mono ?_
                rintro e w3 ⟨rfl, hb⟩
                replace HC := hidR (HC.out.below hb)
                clear KX hb
                have KX := Khk _ HC.out.1.tn
                go_wp2_with fail
                refine KX.mono ?_
                rintro e w3 ⟨rfl, hb⟩
                replace HC := hidR (HC.out.below hb)
                clear KX hb
                go_wp2
                go_roundw
                case rel => exact ⟨k + 1, by have := Hki.out; omega, rfl, HC⟩
                case measure => simp [intOf]; have := Hki.out; omega
          · have hb9 : b < 0 := by omega
            by_cases h3 : 0 < hh
            · have hcn2 : ck = ca + cb + 1 := by rw [hcn]; simp [h3]
              have hhg2 : xk = 1 + xa := by rw [hhg]; simp [h1, h2]; omega
              subst hcn2
              clear hcn hhg hlf
              subst hhg2
              go_wp2_with fail
              refine KLn.mono ?_
              rintro e w3 ⟨rfl, rfl⟩
              clear KLn
              have KX := Ka _ HC.out.1.tn
              go_wp2_with fail
              refine KX.mono ?_
              rintro e w3 ⟨rfl, hb⟩
              replace HC := hidR (HC.out.below hb)
              clear KX hb
              have KX := Kb _ HC.out.1.tn
              go_wp2_with fail
              refine KX.mono ?_
              rintro e w3 ⟨rfl, hb⟩
              replace HC := hidR (HC.out.below hb)
              clear KX hb
              have KX := Kca _ HC.out.1.tn
              go_wp2_with fail
              refine KX.mono ?_
              rintro e w3 ⟨rfl, hb⟩
              replace HC := hidR (HC.out.below hb)
              clear KX hb
              have KX := Kcb _ HC.out.1.tn
              go_wp2_with fail
              refine KX.mono ?_
              rintro e w3 ⟨rfl, hb⟩
              replace HC := hidR (HC.out.below hb)
              clear KX hb
              have KX := Kha _ HC.out.1.tn
              go_wp2_with fail
              refine KX.mono ?_
              rintro e w3 ⟨rfl, hb⟩
              replace HC := hidR (HC.out.below hb)
              clear KX hb
              have KX := Khp _ HC.out.1.tn
              go_wp2_with fail
              refine KX.mono ?_
              rintro e w3 ⟨rfl, hb⟩
              replace HC := hidR (HC.out.below hb)
              clear KX hb
              have KX := Kck _ HC.out.1.tn
              go_wp2_with fail
              refine KX.mono ?_
              rintro e w3 ⟨rfl, hb⟩
              replace HC := hidR (HC.out.below hb)
              clear KX hb
              have KX := Khk _ HC.out.1.tn
              go_wp2_with fail
              refine KX.mono ?_
              rintro e w3 ⟨rfl, hb⟩
              replace HC := hidR (HC.out.below hb)
              clear KX hb
              go_wp2
              go_roundw
              case rel => exact ⟨k + 1, by have := Hki.out; omega, rfl, HC⟩
              case measure => simp [intOf]; have := Hki.out; omega
            · have hcn2 : ck = ca + cb := by rw [hcn]; simp [h3]
              have hhg2 : xk = 1 + xa := by rw [hhg]; simp [h1, h2]; omega
              subst hcn2
              clear hcn hhg hlf
              subst hhg2
              go_wp2_with fail
              refine KLn.mono ?_
              rintro e w3 ⟨rfl, rfl⟩
              clear KLn
              have KX := Ka _ HC.out.1.tn
              go_wp2_with fail
              refine KX.mono ?_
              rintro e w3 ⟨rfl, hb⟩
              replace HC := hidR (HC.out.below hb)
              clear KX hb
              have KX := Kb _ HC.out.1.tn
              go_wp2_with fail
              refine KX.mono ?_
              rintro e w3 ⟨rfl, hb⟩
              replace HC := hidR (HC.out.below hb)
              clear KX hb
              have KX := Kca _ HC.out.1.tn
              go_wp2_with fail
              refine KX.mono ?_
              rintro e w3 ⟨rfl, hb⟩
              replace HC := hidR (HC.out.below hb)
              clear KX hb
              have KX := Kcb _ HC.out.1.tn
              go_wp2_with fail
              refine KX.mono ?_
              rintro e w3 ⟨rfl, hb⟩
              replace HC := hidR (HC.out.below hb)
              clear KX hb
              have KX := Kha _ HC.out.1.tn
              go_wp2_with fail
              refine KX.mono ?_
              rintro e w3 ⟨rfl, hb⟩
              replace HC := hidR (HC.out.below hb)
              clear KX hb
              have KX := Khp _ HC.out.1.tn
              go_wp2_with fail
              refine KX.mono ?_
              rintro e w3 ⟨rfl, hb⟩
              replace HC := hidR (HC.out.below hb)
              clear KX hb
              have KX := Kck _ HC.out.1.tn
              go_wp2_with fail
              refine KX.mono ?_
              rintro e w3 ⟨rfl, hb⟩
              replace HC := hidR (HC.out.below hb)
              clear KX hb
              have KX := Khk _ HC.out.1.tn
              go_wp2_with fail
              refine KX.mono ?_
              rintro e w3 ⟨rfl, hb⟩
              replace HC := hidR (HC.out.below hb)
              clear KX hb
              go_wp2
              go_roundw
              case rel => exact ⟨k + 1, by have := Hki.out; omega, rfl, HC⟩
              case measure => simp [intOf]; have := Hki.out; omega
        · have ha9 : a < 0 := by omega
          by_cases h2 : 0 ≤ b
          · have hb9 : ¬ b < 0 := by omega
            by_cases h3 : 0 < hh
            · have hcn2 : ck = ca + cb + 1 := by rw [hcn]; simp [h3]
              have hhg2 : xk = 1 + xb := by rw [hhg]; simp [h1, h2]; omega
              have hx9 : (0 : Int) < 1 + xb := by omega
              subst hcn2
              clear hcn hhg hlf
              subst hhg2
              go_wp2_with fail
              refine KLn.mono ?_
              rintro e w3 ⟨rfl, rfl⟩
              clear KLn
              have KX := Ka _ HC.out.1.tn
              go_wp2_with fail
              refine KX.mono ?_
              rintro e w3 ⟨rfl, hb⟩
              replace HC := hidR (HC.out.below hb)
              clear KX hb
              have KX := Kb _ HC.out.1.tn
              go_wp2_with fail
              refine KX.mono ?_
              rintro e w3 ⟨rfl, hb⟩
              replace HC := hidR (HC.out.below hb)
              clear KX hb
              have KX := Kca _ HC.out.1.tn
              go_wp2_with fail
              refine KX.mono ?_
              rintro e w3 ⟨rfl, hb⟩
              replace HC := hidR (HC.out.below hb)
              clear KX hb
              have KX := Kcb _ HC.out.1.tn
              go_wp2_with fail
              refine KX.mono ?_
              rintro e w3 ⟨rfl, hb⟩
              replace HC := hidR (HC.out.below hb)
              clear KX hb
              have KX := Khb _ HC.out.1.tn
              go_wp2_with fail
              refine KX.mono ?_
              rintro e w3 ⟨rfl, hb⟩
              replace HC := hidR (HC.out.below hb)
              clear KX hb
              have KX := Khp _ HC.out.1.tn
              go_wp2_with fail
              refine KX.mono ?_
              rintro e w3 ⟨rfl, hb⟩
              replace HC := hidR (HC.out.below hb)
              clear KX hb
              have KX := Kck _ HC.out.1.tn
              go_wp2_with fail
              refine KX.mono ?_
              rintro e w3 ⟨rfl, hb⟩
              replace HC := hidR (HC.out.below hb)
              clear KX hb
              have KX := Khk _ HC.out.1.tn
              go_wp2_with fail
              refine KX.mono ?_
              rintro e w3 ⟨rfl, hb⟩
              replace HC := hidR (HC.out.below hb)
              clear KX hb
              go_wp2
              go_roundw
              case rel => exact ⟨k + 1, by have := Hki.out; omega, rfl, HC⟩
              case measure => simp [intOf]; have := Hki.out; omega
            · have hcn2 : ck = ca + cb := by rw [hcn]; simp [h3]
              have hhg2 : xk = 1 + xb := by rw [hhg]; simp [h1, h2]; omega
              have hx9 : (0 : Int) < 1 + xb := by omega
              subst hcn2
              clear hcn hhg hlf
              subst hhg2
              go_wp2_with fail
              refine KLn.mono ?_
              rintro e w3 ⟨rfl, rfl⟩
              clear KLn
              have KX := Ka _ HC.out.1.tn
              go_wp2_with fail
              refine KX.mono ?_
              rintro e w3 ⟨rfl, hb⟩
              replace HC := hidR (HC.out.below hb)
              clear KX hb
              have KX := Kb _ HC.out.1.tn
              go_wp2_with fail
              refine KX.mono ?_
              rintro e w3 ⟨rfl, hb⟩
              replace HC := hidR (HC.out.below hb)
              clear KX hb
              have KX := Kca _ HC.out.1.tn
              go_wp2_with fail
              refine KX.mono ?_
              rintro e w3 ⟨rfl, hb⟩
              replace HC := hidR (HC.out.below hb)
              clear KX hb
              have KX := Kcb _ HC.out.1.tn
              go_wp2_with fail
              refine KX.mono ?_
              rintro e w3 ⟨rfl, hb⟩
              replace HC := hidR (HC.out.below hb)
              clear KX hb
              have KX := Khb _ HC.out.1.tn
              go_wp2_with fail
              refine KX.mono ?_
              rintro e w3 ⟨rfl, hb⟩
              replace HC := hidR (HC.out.below hb)
              clear KX hb
              have KX := Khp _ HC.out.1.tn
              go_wp2_with fail
              refine KX.mono ?_
              rintro e w3 ⟨rfl, hb⟩
              replace HC := hidR (HC.out.below hb)
              clear KX hb
              have KX := Kck _ HC.out.1.tn
              go_wp2_with fail
              refine KX.mono ?_
              rintro e w3 ⟨rfl, hb⟩
              replace HC := hidR (HC.out.below hb)
              clear KX hb
              have KX := Khk _ HC.out.1.tn
              go_wp2_with fail
              refine KX.mono ?_
              rintro e w3 ⟨rfl, hb⟩
              replace HC := hidR (HC.out.below hb)
              clear KX hb
              go_wp2
              go_roundw
              case rel => exact ⟨k + 1, by have := Hki.out; omega, rfl, HC⟩
              case measure => simp [intOf]; have := Hki.out; omega
          · have hb9 : b < 0 := by omega
            by_cases h3 : 0 < hh
            · have hcn2 : ck = ca + cb + 1 := by rw [hcn]; simp [h3]
              have hhg2 : xk = 0 := by rw [hhg]; simp [h1, h2]
              subst hcn2
              clear hcn hhg hlf
              subst hhg2
              go_wp2_with fail
              refine KLn.mono ?_
              rintro e w3 ⟨rfl, rfl⟩
              clear KLn
              have KX := Ka _ HC.out.1.tn
              go_wp2_with fail
              refine KX.mono ?_
              rintro e w3 ⟨rfl, hb⟩
              replace HC := hidR (HC.out.below hb)
              clear KX hb
              have KX := Kb _ HC.out.1.tn
              go_wp2_with fail
              refine KX.mono ?_
              rintro e w3 ⟨rfl, hb⟩
              replace HC := hidR (HC.out.below hb)
              clear KX hb
              have KX := Kca _ HC.out.1.tn
              go_wp2_with fail
              refine KX.mono ?_
              rintro e w3 ⟨rfl, hb⟩
              replace HC := hidR (HC.out.below hb)
              clear KX hb
              have KX := Kcb _ HC.out.1.tn
              go_wp2_with fail
              refine KX.mono ?_
              rintro e w3 ⟨rfl, hb⟩
              replace HC := hidR (HC.out.below hb)
              clear KX hb
              have KX := Khp _ HC.out.1.tn
              go_wp2_with fail
              refine KX.mono ?_
              rintro e w3 ⟨rfl, hb⟩
              replace HC := hidR (HC.out.below hb)
              clear KX hb
              have KX := Kck _ HC.out.1.tn
              go_wp2_with fail
              refine KX.mono ?_
              rintro e w3 ⟨rfl, hb⟩
              replace HC := hidR (HC.out.below hb)
              clear KX hb
              have KX := Khk _ HC.out.1.tn
              go_wp2_with fail
              refine KX.mono ?_
              rintro e w3 ⟨rfl, hb⟩
              replace HC := hidR (HC.out.below hb)
              clear KX hb
              have KX := Khp _ HC.out.1.tn
              go_wp2_with fail
              refine KX.mono ?_
              rintro e w3 ⟨rfl, hb⟩
              replace HC := hidR (HC.out.below hb)
              clear KX hb
              go_wp2
              go_roundw
              case rel => exact ⟨k + 1, by have := Hki.out; omega, rfl, HC⟩
              case measure => simp [intOf]; have := Hki.out; omega
            · have hcn2 : ck = ca + cb := by rw [hcn]; simp [h3]
              have hhg2 : xk = 0 := by rw [hhg]; simp [h1, h2]
              obtain ⟨z1, z2⟩ := hlf (by omega) (by omega) (by omega)
              have z3 : ¬ (0 : Int) < (k : Int) := by omega
              have z4 : ¬ (0 : Int) < (l.length : Int) := by rw [z2]; simp
              have z5 : hh = 0 := by omega
              have Hz1 := hidR z1
              clear z1 z2
              subst hcn2
              clear hcn hhg hlf
              subst hhg2
              go_wp2_with fail
              refine KLn.mono ?_
              rintro e w3 ⟨rfl, rfl⟩
              clear KLn
              have KX := Ka _ HC.out.1.tn
              go_wp2_with fail
              refine KX.mono ?_
              rintro e w3 ⟨rfl, hb⟩
              replace HC := hidR (HC.out.below hb)
              clear KX hb
              have KX := Kb _ HC.out.1.tn
              go_wp2_with fail
              refine KX.mono ?_
              rintro e w3 ⟨rfl, hb⟩
              replace HC := hidR (HC.out.below hb)
              clear KX hb
              have KX := Kca _ HC.out.1.tn
              go_wp2_with fail
              refine KX.mono ?_
              rintro e w3 ⟨rfl, hb⟩
              replace HC := hidR (HC.out.below hb)
              clear KX hb
              have KX := Kcb _ HC.out.1.tn
              go_wp2_with fail
              refine KX.mono ?_
              rintro e w3 ⟨rfl, hb⟩
              replace HC := hidR (HC.out.below hb)
              clear KX hb
              have KX := Khp _ HC.out.1.tn
              go_wp2_with fail
              refine KX.mono ?_
              rintro e w3 ⟨rfl, hb⟩
              replace HC := hidR (HC.out.below hb)
              clear KX hb
              have KX := Kck _ HC.out.1.tn
              go_wp2_with fail
              refine KX.mono ?_
              rintro e w3 ⟨rfl, hb⟩
              replace HC := hidR (HC.out.below hb)
              clear KX hb
              have KX := Khk _ HC.out.1.tn
              go_wp2_with fail
              refine KX.mono ?_
              rintro e w3 ⟨rfl, hb⟩
              replace HC := hidR (HC.out.below hb)
              clear KX hb
              have KX := Khp _ HC.out.1.tn
              go_wp2_with fail
              refine KX.mono ?_
              rintro e w3 ⟨rfl, hb⟩
              replace HC := hidR (HC.out.below hb)
              clear KX hb
              obtain ⟨t0, t1⟩ := HC.out.2.1
              go_wp2
              go_roundw
              case rel => exact ⟨k + 1, by have := Hki.out; omega, by rw [Hz1.out]; rfl, HC⟩
              case measure => simp [intOf]; have := Hki.out; omega
      · have hke : k = L.length := by omega
        have hd : decide ((k : Int) < (L.length : Int)) = false := decide_eq_false hlt
        have KA := fun W h => tcnt_any B F g cap (.slice (some ⟨wg, 0, none⟩) ws.length wc) L 0 W h Ho.out
        rw [Hk.out.all] at KA
        clear hke hk
        go_wp2_with fail
        refine KL.mono ?_
        rintro e w3 ⟨rfl, rfl⟩
        clear KL
        go_wp2_with fail
        refine q_region (C := CS8 w F (.slice ao l.length c) B g cap wg wc L ws) (by kernel_rfl) (by kernel_rfl) (HC.out.below (below_drewN (Below.refl _ _) 1)) ?_
        clear HC
        refine q_run (v := .pointer (some ⟨B, 0, none⟩)) (by rfl) ?_ ?_
        · (intro w9 hC; obtain ⟨t0, t1⟩ := hC.2.1; clear hC; go_simp; first | done | (simp; done) | (simp [*]; done) | omega | (simp; omega) | rfl)
        simp only [Act.put, List.setIfInBounds_toArray, List.set_cons_zero, List.set_cons_succ]
        refine q_call (v := .int .i64 (l.length : Int)) (f := 19) (args := #[.pointer (some ⟨B, 0, none⟩), .int .i64 0]) (by rfl) ?_ ?_ ?_
        · (intro w9 hC; clear hC; go_simp)
        · exact fun w9 hC => (KA w9 hC.1.tn).mono fun e w' ⟨he, hb⟩ => ⟨he, hC.below hb⟩
        simp only [Act.put, List.setIfInBounds_toArray, List.set_cons_zero, List.set_cons_succ]
        refine q_run (v := .pointer (some ⟨w.heap.size, 1, none⟩)) (by rfl) ?_ ?_
        · (intro w9 hC; obtain ⟨t0, t1⟩ := hC.2.1; clear hC; go_simp; first | done | (simp; done) | (simp [*]; done) | omega | (simp; omega) | rfl)
        simp only [Act.put, List.setIfInBounds_toArray, List.set_cons_zero, List.set_cons_succ]
        refine q_run (v := .slice ao l.length c) (by rfl) ?_ ?_
        · (intro w9 hC; obtain ⟨t0, t1⟩ := hC.2.1; clear hC; go_simp; first | done | (simp; done) | (simp [*]; done) | omega | (simp; omega) | rfl)
        simp only [Act.put, List.setIfInBounds_toArray, List.set_cons_zero, List.set_cons_succ]
        refine q_run (v := .int .i64 (l.length : Int)) (by rfl) ?_ ?_
        · (intro w9 hC; obtain ⟨t0, t1⟩ := hC.2.1; clear hC; go_simp; first | done | (simp; done) | (simp [*]; done) | omega | (simp; omega) | rfl)
        simp only [Act.put, List.setIfInBounds_toArray, List.set_cons_zero, List.set_cons_succ]
        refine q_run (v := .bool true) (by rfl) ?_ ?_
        · (intro w9 hC; obtain ⟨t0, t1⟩ := hC.2.1; clear hC; go_simp; first | done | (simp; done) | (simp [*]; done) | omega | (simp; omega) | rfl)
        simp only [Act.put, List.setIfInBounds_toArray, List.set_cons_zero, List.set_cons_succ]
        refine q_run (v := .bool true) (by rfl) ?_ ?_
        · (intro w9 hC; obtain ⟨t0, t1⟩ := hC.2.1; clear hC; go_simp; first | done | (simp; done) | (simp [*]; done) | omega | (simp; omega) | rfl)
        simp only [Act.put, List.setIfInBounds_toArray, List.set_cons_zero, List.set_cons_succ]
        refine wpQuiet_nil ?_
        intro W hC
        have HW := hidR hC
        clear hC
        go_wp2
        exact bodyPost_ret (v := .bool true) (by simp [results, Try.results7, go_sem]) rfl ⟨rfl, HW.out.2.2⟩
end Go.Proofs.Ytoejhhoniflpeaa
/-
  How a prefix that is handed in reads as data.
-/
namespace Go.Proofs.Ytoejhhoniflpeaa
open Go.ChangeShapes Go.WideShapes Go.ChangeAt Go.RowKit Go.Joins
set_option linter.unusedSimpArgs false
set_option linter.unusedVariables false

theorem Try.cellsW : Try.prog.cellsOf 37 = 2 := by kernel_rfl
theorem Try.cellsP : Try.prog.cellsOf 39 = 3 := by kernel_rfl
theorem Try.cellsI : Try.prog.cellsOf 3 = 1 := by kernel_rfl
theorem Try.cellsU : Try.prog.cellsOf 35 = 1 := by kernel_rfl
section
variable {H : Type} {enc : TypeId × Value → H} {w : World} {base : Nat} {spare : Nat → Bool} {held : Bool}
set_option maxRecDepth 100000 in
theorem open_pfx {r : Reach} {b0 : Nat} {v : Value} {d : DataW H} {p : List MemPlace} (hv : Value.okWide Try.prog w r b0 39 v) (h : DataW.Trod enc Try.prog w base spare held 39 v d p) :
    ∃ a b n : Int, v = .agg #[.int .u64 a, .int .u64 b, .int .i64 n] ∧ d = .agg [.agg [.lit (.int .u64 a), .lit (.int .u64 b)], .lit (.int .i64 n)] ∧ p = [] ∧ (Lit.int .u64 a).wf = true ∧ (Lit.int .u64 b).wf = true ∧ (Lit.int .i64 n).wf = true := by
  obtain ⟨cs, rfl, hsz⟩ := okWide_struct Try.underlying39 hv
  obtain ⟨c0, c1, c2, rfl⟩ := array3 (hsz.trans Try.cellsP)
  obtain ⟨fuel, hf⟩ := h
  obtain ⟨y0, y1, n, hx, _, h0, h1⟩ := trod_struct2 Try.underlying39 hf
  have h0' : DataW.trod enc Try.prog w base spare held n 37 [c0, c1] = some y0 := by simpa [Value.cells, Try.cellsW] using h0
  have h1' : DataW.trod enc Try.prog w base spare held n 3 [c2] = some y1 := by simpa [Value.cells, Try.cellsI] using h1
  obtain ⟨u0, u1, m, hu, _, g0, g1⟩ := trod_struct2 Try.underlying37 h0'
  have g0' : DataW.trod enc Try.prog w base spare held m 35 [c0] = some u0 := by simpa [Value.cells, Try.cellsU] using g0
  have g1' : DataW.trod enc Try.prog w base spare held m 35 [c1] = some u1 := by simpa [Value.cells, Try.cellsU] using g1
  obtain ⟨a, ea, rfl, wa⟩ := DataW.trod_int Try.underlying35 g0'
  obtain ⟨b, eb, rfl, wb⟩ := DataW.trod_int Try.underlying35 g1'
  obtain ⟨k, ek, rfl, wk⟩ := DataW.trod_int Try.underlying3 h1'
  simp at ea eb ek
  subst ea eb ek hu
  simp only [Prod.mk.injEq] at hx
  exact ⟨a, b, k, rfl, hx.1, by simpa using hx.2, wa, wb, wk⟩
set_option maxRecDepth 100000 in
theorem shut_pfx {a b n : Int} (wa : (Lit.int .u64 a).wf = true) (wb : (Lit.int .u64 b).wf = true) (wn : (Lit.int .i64 n).wf = true) :
    DataW.Trod enc Try.prog w base spare held 39 (.agg #[.int .u64 a, .int .u64 b, .int .i64 n]) (.agg [.agg [.lit (.int .u64 a), .lit (.int .u64 b)], .lit (.int .i64 n)]) [] := by
  have f : ∀ {z : Int}, (Lit.int .u64 z).wf = true → DataW.trod enc Try.prog w base spare held 1 35 [.int .u64 z] = some (.lit (.int .u64 z), []) := fun hz => by simp [DataW.trod, Try.underlying35, hz]
  have g : DataW.trod enc Try.prog w base spare held 2 3 [.int .i64 n] = some (.lit (.int .i64 n), []) := by simp [DataW.trod, Try.underlying3, wn]
  have s : DataW.trod enc Try.prog w base spare held 2 37 [.int .u64 a, .int .u64 b] = some (.agg [.lit (.int .u64 a), .lit (.int .u64 b)], []) := by
    have := trod_struct2_mk (enc := enc) (w := w) (base := base) (spare := spare) (held := held) (n := 1) (cs := [.int .u64 a, .int .u64 b]) Try.underlying37 (by simp [Try.cellsW]) (by simpa [Try.cellsU] using f wa) (by simpa [Try.cellsU] using f wb)
    simpa using this
  have := trod_struct2_mk (enc := enc) (w := w) (base := base) (spare := spare) (held := held) (n := 2) (cs := [.int .u64 a, .int .u64 b, .int .i64 n]) Try.underlying39 (by simp [Try.cellsP]) (by simpa [Try.cellsW] using s) (by simpa [Try.cellsI] using g)
  exact ⟨3, by simpa [Value.cells] using this⟩
end
end Go.Proofs.Ytoejhhoniflpeaa
