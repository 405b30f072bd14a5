/-
  Part 16 of the proof: 2 texts, one behind the other.
-/
import Derived.Test.YtkchalaicmanfaaPart15
import Derived.Test.YtkchalaicmanfaaPart14
namespace Go.Proofs.Ytkchalaicmanfaa
open Go.RowKit
set_option linter.unusedSimpArgs false
set_option linter.unusedVariables false
attribute [local go_sem] Oper.semAt_some

set_option maxRecDepth 100000 in
set_option maxHeartbeats 8000000 in
theorem rwords_any (b : Int) (v : Value) (l : List Rn) (w : World) (hv : RwN w v l) (hl : l.length ≤ 1000000) :
    Calls Try.prog 12 #[.agg #[.int .i64 b, v]] w fun e w' => e = .returned (.tuple #[.int .i64 (wdsN ⟨b, l⟩), .int .i64 (wdsE ⟨b, l⟩)]) ∧ Below w.heap.size w w' := by
  obtain ⟨ao, c, hvf, -⟩ := id hv
  subst hvf
  have q1 := bl1 w (.cells #[.int .i64 b, .slice ao l.length c] 24)
  have HD := hid13 (atd_new w b (.slice ao l.length c) 24)
  have HB := hid13 q1
  have HV := hid13 (hv.below q1)
  clear hv q1
  by_cases hlo : b < 0
  · have HN : Hid (wdsN ⟨b, l⟩ = 0 ∧ wdsE ⟨b, l⟩ = 1) := by
      have e : wdsE ⟨b, l⟩ = 1 := by unfold wdsE bitsB; rw [if_neg (by simp; omega)]
      exact ⟨by unfold wdsN; rw [e]; rfl, e⟩
    generalize wdsN ⟨b, l⟩ = rn at *
    generalize wdsE ⟨b, l⟩ = re at *
    go_enter Try.func12, Try.ntmps12
    go_wp2
    refine bodyPost_ret (v := .tuple #[.int .i64 (0), .int .i64 (1)]) (by simp [results, Try.results12, go_sem]) rfl ⟨by rw [HN.out.1, HN.out.2], HB.out⟩
  · by_cases hhi : 128 < b
    · have HN : Hid (wdsN ⟨b, l⟩ = 0 ∧ wdsE ⟨b, l⟩ = 1) := by
        have e : wdsE ⟨b, l⟩ = 1 := by unfold wdsE bitsB; rw [if_neg (by simp; omega)]
        exact ⟨by unfold wdsN; rw [e]; rfl, e⟩
      generalize wdsN ⟨b, l⟩ = rn at *
      generalize wdsE ⟨b, l⟩ = re at *
      go_enter Try.func12, Try.ntmps12
      go_wp2
      refine bodyPost_ret (v := .tuple #[.int .i64 (0), .int .i64 (1)]) (by simp [results, Try.results12, go_sem]) rfl ⟨by rw [HN.out.1, HN.out.2], HB.out⟩
    · have hbb : bitsB b = true := by unfold bitsB; simp; omega
      have KR := rruns_any b _ l _ HV.out hl (by omega) (by omega)
      have HE : Hid (wdsE ⟨b, l⟩ = (if ioB ⟨b, l⟩ = true then (if b ≤ 24 then 0 else 18) else 19) ∧ wdsN ⟨b, l⟩ = if wdsE ⟨b, l⟩ = 0 then (szN ⟨b, l⟩ : Int) else 0) := ⟨by unfold wdsE; rw [if_pos hbb], rfl⟩
      have HSz : Hid (szN ⟨b, l⟩ = if b = 0 then 1 else 2 + mwN b.toNat + l.length) := rfl
      generalize wdsN ⟨b, l⟩ = rn at *
      generalize wdsE ⟨b, l⟩ = re at *
      generalize szN ⟨b, l⟩ = sz at *
      generalize ioB ⟨b, l⟩ = io at *
      clear hbb
      go_enter Try.func12, Try.ntmps12
      go_wp2_with fail
      refine KR.mono ?_
      rintro e w2 ⟨rfl, hb2⟩
      have HB2 := hid13 (keepb hb2 HB.out)
      have HD2 := hid13 (HD.out.below hb2)
      obtain ⟨a0, a1⟩ := HD2.out
      clear KR hb2
      cases io with
      | false =>
        have HN : Hid (rn = 0 ∧ re = 19) := by
          have e : re = 19 := HE.out.1
          exact ⟨by rw [HE.out.2, e]; rfl, e⟩
        clear HE
        go_wp2
        refine bodyPost_ret (v := .tuple #[.int .i64 (0), .int .i64 (19)]) (by simp [results, Try.results12, go_sem]) rfl ⟨by rw [HN.out.1, HN.out.2], HB2.out⟩
      | true =>
        by_cases h24 : 24 < b
        · have HN : Hid (rn = 0 ∧ re = 18) := by
            have e : re = 18 := by rw [HE.out.1, if_pos rfl, if_neg (by omega)]
            exact ⟨by rw [HE.out.2, e]; rfl, e⟩
          clear HE
          go_wp2
          refine bodyPost_ret (v := .tuple #[.int .i64 (0), .int .i64 (18)]) (by simp [results, Try.results12, go_sem]) rfl ⟨by rw [HN.out.1, HN.out.2], HB2.out⟩
        · have e : re = 0 := by rw [HE.out.1, if_pos rfl, if_pos (by omega)]
          have en : rn = (sz : Int) := by rw [HE.out.2, if_pos e]
          by_cases hb0 : b = 0
          · have HN : Hid (rn = 1 ∧ re = 0) := ⟨by rw [en, HSz.out, if_pos hb0]; rfl, e⟩
            clear HE e en HSz
            subst hb0
            go_wp2
            refine bodyPost_ret (v := .tuple #[.int .i64 (1), .int .i64 (0)]) (by simp [results, Try.results12, go_sem]) rfl ⟨by rw [HN.out.1, HN.out.2], HB2.out⟩
          · obtain ⟨nb, rfl⟩ : ∃ nb : Nat, b = (nb : Int) := ⟨b.toNat, by omega⟩
            have HN : Hid (rn = 2 + (mwN nb : Int) + (l.length : Int) ∧ re = 0) := ⟨by rw [en, HSz.out, if_neg hb0, Int.toNat_natCast]; push_cast; rfl, e⟩
            have KM := fun w => rmapWords_any nb (by omega) w
            have hmw : mwN nb ≤ 524288 := mwN_hi nb (by omega)
            have hnb0 : nb ≠ 0 := by rintro rfl; exact hb0 rfl
            have e0 : ((nb : Int) == 0) = false := by simpa using hb0
            have HC : Hid (AtD w2.drew w.heap.size (nb : Int) (.slice ao l.length c) ∧ Below w.heap.size w w2.drew) := ⟨⟨a0, a1⟩, HB2.out.drew⟩
            clear HE e en HSz hb0 hnb0
            generalize mwN nb = mw at *
            go_wp2_with fail
            refine qw_region (C := fun X => AtD X w.heap.size (nb : Int) (.slice ao l.length c) ∧ Below w.heap.size w X) (by kernel_rfl) (by kernel_rfl) HC.out ?_
            refine qw_run (v := .pointer (some ⟨w.heap.size, 0, none⟩)) (by rfl) ?_ ?_
            · (intro w9 hC; clear hC; go_simp; first | done | (simp; done) | (simp [*]; done) | omega | (simp; omega) | (rw [IntKind.wrap_i64]; omega) | (intro hx; omega) | rfl)
            simp only [Act.put, List.setIfInBounds_toArray, List.set_cons_zero, List.set_cons_succ]
            refine qw_run (v := .int .i64 (nb : Int)) (by rfl) ?_ ?_
            · (intro w9 hC; obtain ⟨⟨a0, a1⟩, -⟩ := id hC; clear hC; go_simp; first | done | (simp; done) | (simp [*]; done) | omega | (simp; omega) | (rw [IntKind.wrap_i64]; omega) | (intro hx; omega) | rfl)
            simp only [Act.put, List.setIfInBounds_toArray, List.set_cons_zero, List.set_cons_succ]
            refine qw_call (v := .int .i64 (mw : Int)) (f := 32) (args := #[.int .i64 (nb : Int)]) (by rfl) ?_ ?_ ?_
            · (intro w9 hC; clear hC; go_simp; first | done | (simp; done) | rfl)
            · exact fun w9 hC => (KM w9).mono fun e w' h => ⟨h.1, by rw [h.2]; exact hC⟩
            simp only [Act.put, List.setIfInBounds_toArray, List.set_cons_zero, List.set_cons_succ]
            refine qw_run (v := .int .i64 (2 + (mw : Int))) (by rfl) ?_ ?_
            · (intro w9 hC; clear hC; go_simp; first | done | (simp; done) | (simp [*]; done) | omega | (simp; omega) | (rw [IntKind.wrap_i64]; omega) | (intro hx; omega) | rfl)
            simp only [Act.put, List.setIfInBounds_toArray, List.set_cons_zero, List.set_cons_succ]
            refine qw_run (v := .pointer (some ⟨w.heap.size, 1, none⟩)) (by rfl) ?_ ?_
            · (intro w9 hC; clear hC; go_simp; first | done | (simp; done) | (simp [*]; done) | omega | (simp; omega) | (rw [IntKind.wrap_i64]; omega) | (intro hx; omega) | rfl)
            simp only [Act.put, List.setIfInBounds_toArray, List.set_cons_zero, List.set_cons_succ]
            refine qw_run (v := .slice ao l.length c) (by rfl) ?_ ?_
            · (intro w9 hC; obtain ⟨⟨a0, a1⟩, -⟩ := id hC; clear hC; go_simp; first | done | (simp; done) | (simp [*]; done) | omega | (simp; omega) | (rw [IntKind.wrap_i64]; omega) | (intro hx; omega) | rfl)
            simp only [Act.put, List.setIfInBounds_toArray, List.set_cons_zero, List.set_cons_succ]
            refine qw_run (v := .int .i64 (l.length : Int)) (by rfl) ?_ ?_
            · (intro w9 hC; clear hC; go_simp; first | done | (simp; done) | (simp [*]; done) | omega | (simp; omega) | (rw [IntKind.wrap_i64]; omega) | (intro hx; omega) | rfl)
            simp only [Act.put, List.setIfInBounds_toArray, List.set_cons_zero, List.set_cons_succ]
            refine qw_run (v := .int .i64 (2 + (mw : Int) + (l.length : Int))) (by rfl) ?_ ?_
            · (intro w9 hC; clear hC; go_simp; first | done | (simp; done) | (simp [*]; done) | omega | (simp; omega) | (rw [IntKind.wrap_i64]; omega) | (intro hx; omega) | rfl)
            simp only [Act.put, List.setIfInBounds_toArray, List.set_cons_zero, List.set_cons_succ]
            refine qw_run (v := .int .i64 (2 + (mw : Int) + (l.length : Int))) (by rfl) ?_ ?_
            · (intro w9 hC; clear hC; go_simp; first | done | (simp; done) | (simp [*]; done) | omega | (simp; omega) | (rw [IntKind.wrap_i64]; omega) | (intro hx; omega) | rfl)
            simp only [Act.put, List.setIfInBounds_toArray, List.set_cons_zero, List.set_cons_succ]
            refine qw_run (v := .int .i64 0) (by rfl) ?_ ?_
            · (intro w9 hC; clear hC; go_simp; first | done | (simp; done) | (simp [*]; done) | omega | (simp; omega) | (rw [IntKind.wrap_i64]; omega) | (intro hx; omega) | rfl)
            simp only [Act.put, List.setIfInBounds_toArray, List.set_cons_zero, List.set_cons_succ]
            refine qw_nil ?_
            intro w9 hC
            have HB9 := hid13 hC.2
            clear hC
            go_wp2
            refine bodyPost_ret (v := .tuple #[.int .i64 (2 + (mw : Int) + (l.length : Int)), .int .i64 (0)]) (by simp [results, Try.results12, go_sem]) rfl ⟨by rw [HN.out.1, HN.out.2], HB9.out⟩
end Go.Proofs.Ytkchalaicmanfaa
namespace Go.Proofs.Ytkchalaicmanfaa
open Go.RowKit Go.Shelf
set_option linter.unusedSimpArgs false
set_option linter.unusedVariables false
attribute [local go_sem] Oper.semAt_some

set_option maxRecDepth 100000 in
set_option maxHeartbeats 8000000 in
theorem emitWords_any (b : Int) (v : Value) (l : List Rn) (w : World) (hn : NdIn w b v l) :
    Calls Try.prog 3 #[.agg #[.int .i64 b, v]] w fun e w' => e = .returned (.bool true) ∧ Below w.heap.size w w' := by
  obtain ⟨ao, c, hvf, -⟩ := id hn.r
  subst hvf
  have q1 := bl1 w (.cells #[.int .i64 b, .slice ao l.length c] 24)
  have HD := hid13 (atd_new w b (.slice ao l.length c) 24)
  have HB := hid13 q1
  have HV := hid13 hn.r
  have HRA := hid13 hn.a
  clear hn q1
  go_enter Try.func3, Try.ntmps3
  go_wp2_with fail
  refine (known16 _).mono ?_
  rintro e w1 ⟨rfl, hb1⟩
  have HB1 := hid13 (keepb hb1 HB.out)
  have HD1 := hid13 (HD.out.below hb1)
  obtain ⟨a0, a1⟩ := HD1.out
  clear hb1 HB HD
  by_cases h3 : (3000 : Int) < (l.length : Int)
  · go_wp2
    go_ret
    exact ⟨rfl, HB1.out⟩
  · have q2 := bl1 w1 (.cells #[.int .i64 b, .slice ao l.length c] 24)
    have HB2 := hid13 (keepb q2 HB1.out)
    have HD2 := hid13 (HD1.out.below q2)
    obtain ⟨y0, y1⟩ := atd_new w1 b (.slice ao l.length c) 24
    have hT : TwIn (w1.alloc (.cells #[.int .i64 b, .slice ao l.length c] 24)) (.slice (some ⟨w1.heap.size, 0, none⟩) 1 1) [⟨b, l⟩] := by
      refine ⟨_, 1, rfl, Nat.le_refl _, .inr ⟨w1.heap.size, 0, rfl, fun j d hj => ?_⟩⟩
      cases j with
      | succ j => simp at hj
      | zero =>
        simp at hj
        subst hj
        exact ⟨_, y0, y1, HRA.out.below HB2.out⟩
    have KT := twin_any _ _ _ hT (by simp) (by intro d hd; simp at hd; subst hd; show l.length ≤ _; omega)
    clear hT y0 y1 q2
    go_wp2_with fail
    refine KT.mono ?_
    rintro e w3 ⟨v3, rfl, hR3, hb3⟩
    obtain ⟨o3, c3, e3, hc3, hr3⟩ := hR3
    obtain ⟨g3, f3, e4, hr4⟩ := hr3.resolve_left (by simp)
    obtain ⟨vr, x0, x1, hRn⟩ := hr4 0 _ rfl
    subst e3 e4
    rw [Nat.zero_mul, Nat.add_zero] at x0 x1
    dsimp only at x0 hRn
    have HB3 := hid13 (keepb hb3 HB2.out)
    have HD3 := hid13 (HD2.out.below hb3)
    have KW := words_any16 b vr l w3 hRn (by omega)
    clear KT hb3 hr3 hr4 hRn a0 a1
    go_wp2_with fail
    refine KW.mono ?_
    rintro e w4 ⟨rfl, hb4⟩
    have HB4 := hid13 (keepb hb4 HB3.out)
    have HD4 := hid13 (HD3.out.below hb4)
    obtain ⟨z0, z1⟩ := HD4.out
    have KD := rwords_any b (.slice ao l.length c) l w4 (HV.out.below HB4.out) (by omega)
    generalize wdsN ⟨b, l⟩ = rn at *
    generalize wdsE ⟨b, l⟩ = re at *
    clear KW hb4 x0 x1
    go_wp2_with fail
    refine KD.mono ?_
    rintro e w5 ⟨rfl, hb5⟩
    have HB5 := hid13 (keepb hb5 HB4.out)
    clear KD hb5 z0 z1
    go_wp2
    go_ret
    exact ⟨rfl, HB5.out⟩
end Go.Proofs.Ytkchalaicmanfaa
