/-
  Part 24 of the proof: 5 texts, one behind the other.
-/
import Derived.Test.YtdpmhpmnkollaaaPart18
import Derived.Test.YtdpmhpmnkollaaaPart2
import Derived.Test.YtdpmhpmnkollaaaPart22
import Derived.Test.YtdpmhpmnkollaaaPart23
namespace Go.Proofs.Ytdpmhpmnkollaaa
open Go.RowKit Go.Shelf
set_option linter.unusedSimpArgs false
set_option linter.unusedVariables false
attribute [local go_sem] Oper.semAt_some

def wdsE (d : Nde) : Int := if bitsB d.b = true then (if ioB d = true then (if d.b ≤ 24 then 0 else 18) else 19) else 1
def wdsN (d : Nde) : Int := if wdsE d = 0 then (szN d : Int) else 0
end Go.Proofs.Ytdpmhpmnkollaaa
namespace Go.Proofs.Ytdpmhpmnkollaaa
open Go.RowKit Go.Shelf
set_option linter.unusedSimpArgs false
set_option linter.unusedVariables false
attribute [local go_sem] Oper.semAt_some

end Go.Proofs.Ytdpmhpmnkollaaa
namespace Go.Proofs.Ytdpmhpmnkollaaa
open Go.RowKit
set_option linter.unusedSimpArgs false
set_option linter.unusedVariables false

theorem rmapWords_any (n : Nat) (h : n ≤ 24) (w : World) :
    Calls Try.prog 42 #[.int .i64 (n : Int)] w fun e w' => e = .returned (.int .i64 (mwN n : Int)) ∧ w' = w := by
  by_cases c : n < 5
  · have c1 : (n : Int) < 5 := by omega
    have e : Hid (mwN n = 1) := by show _ = _; unfold mwN; rw [if_pos c]
    clear c h
    go_enter Try.func42, Try.ntmps42
    go_wp2
    go_ret
    exact ⟨by rw [e.out]; rfl, rfl⟩
  · have c1 : ¬ (n : Int) < 5 := by omega
    obtain ⟨j, hj⟩ : ∃ j, j = n - 5 := ⟨_, rfl⟩
    have hs := sh64 j (by omega)
    obtain ⟨P, hP⟩ : ∃ P : Nat, P = 2 ^ j := ⟨_, rfl⟩
    rw [← hP] at hs
    have e : Hid (mwN n = P) := by show _ = _; unfold mwN; rw [if_neg c, hP, hj]
    have hw : IntKind.i64.wrap ((n : Int) - 5) = (j : Int) := by rw [IntKind.wrap_i64]; omega
    clear c h hP hj
    go_enter Try.func42, Try.ntmps42
    go_wp2
    go_ret
    exact ⟨by rw [e.out]; rfl, rfl⟩
set_option maxRecDepth 100000 in
set_option maxHeartbeats 4000000 in
theorem risMap_any (v : Value) (m : List (BitVec 32)) (n : Nat) (w : World) (hv : RwX cU w v m) (h : n ≤ 24) :
    Calls Try.prog 43 #[v, .int .i64 (n : Int)] w fun e w' => e = .returned (.bool (isMapB m n)) ∧ Below w.heap.size w w' := by
  have KM := fun w => rmapWords_any n h w
  obtain ⟨ao, c, rfl, hc, hr⟩ := hv
  have hs1 := sh64u n h
  by_cases h1 : m.length = mwN n
  · obtain ⟨x, t, rfl⟩ : ∃ x t, m = x :: t := by
      cases m with
      | nil => have := mwN_lo n; simp at h1; omega
      | cons x t => exact ⟨x, t, rfl⟩
    obtain ⟨b, off, rfl, hcell⟩ : ∃ b off, ao = some ⟨b, off, none⟩ ∧ ∀ j y, (x :: t)[j]? = some y → w.cell? ⟨b, off + j, none⟩ = some (cU y) := by
      rcases hr with h | h
      · cases h
      · exact h
    have c0 : w.cell? ⟨b, off, none⟩ = some (.int .u32 (uI x)) := hcell 0 x rfl
    have HE : Hid (isMapB (x :: t) n = topB x (2 ^ n)) := by show _ = _; rw [isMapB_cons, decide_eq_true h1, Bool.true_and]
    obtain ⟨L, hL⟩ : ∃ L, L = (x :: t).length := ⟨_, rfl⟩
    rw [← hL] at h1 ⊢
    have hL0 : (0 : Int) < (L : Int) := by rw [hL]; simp
    rw [← h1] at KM
    obtain ⟨P, hP⟩ : ∃ P : Nat, P = 2 ^ n := ⟨_, rfl⟩
    rw [← hP] at hs1 HE
    have hs2 := sh32u x P
    have hh := hi32 x
    have HP : Hid (5 ≤ n → x <<< P = 0#32) := by
      intro h5
      refine BitVec.shiftLeft_eq_zero ?_
      rw [hP]
      have := Nat.pow_le_pow_right (n := 2) (by decide) h5
      exact this
    clear hcell hr h1 hL hc h hP
    unfold topB at HE
    cases g : x.getLsbD 31 with
    | true =>
      rw [g] at hh HE
      replace HE : Hid (isMapB (x :: t) n = (x <<< P == 0#32)) := HE
      simp only [if_true] at hh
      clear g
      by_cases h5 : 5 ≤ n
      · have HE2 : Hid (isMapB (x :: t) n = true) := by show _ = _; rw [HE.out, HP.out h5]; rfl
        have h5' : (5 : Int) ≤ (n : Int) := by omega
        clear h5 HE HP
        go_enter Try.func43, Try.ntmps43
        go_wp2_with (go_at_call 42; refine (KM _).mono ?_; rintro e w1 ⟨rfl, hw1⟩; replace hw1 := hw1.symm; subst hw1)
        go_quiet (fail)
        have HB : Hid (Below w.heap.size w (w.drewN nq)) := below_drewN (Below.refl _ _) nq
        go_wp2
        go_ret
        exact ⟨by rw [HE2.out]; rfl, HB.out⟩
      · have h5' : decide ((5 : Int) ≤ (n : Int)) = false := decide_eq_false (by omega)
        clear h5 HP
        by_cases hz : x <<< P = 0#32
        · have HE2 : Hid (isMapB (x :: t) n = true) := by show _ = _; rw [HE.out, hz]; rfl
          rw [hz, uI_zero] at hs2
          clear hz HE
          go_enter Try.func43, Try.ntmps43
          go_wp2_with (go_at_call 42; refine (KM _).mono ?_; rintro e w1 ⟨rfl, hw1⟩; replace hw1 := hw1.symm; subst hw1)
          go_quiet (fail)
          have HB : Hid (Below w.heap.size w (w.drewN nq)) := below_drewN (Below.refl _ _) nq
          go_wp2
          go_ret
          exact ⟨by rw [HE2.out]; rfl, HB.out⟩
        · have HE2 : Hid (isMapB (x :: t) n = false) := by show _ = _; rw [HE.out]; simpa using hz
          obtain ⟨Y, hY⟩ : ∃ Y, Y = uI (x <<< P) := ⟨_, rfl⟩
          have hY0 : (Y == 0) = false := by
            rw [hY]; simp only [beq_eq_false_iff_ne]
            exact fun e => hz ((uI_is0 _).1 e)
          rw [← hY] at hs2
          clear hz hY HE
          go_enter Try.func43, Try.ntmps43
          go_wp2_with (go_at_call 42; refine (KM _).mono ?_; rintro e w1 ⟨rfl, hw1⟩; replace hw1 := hw1.symm; subst hw1)
          go_quiet (fail)
          have HB : Hid (Below w.heap.size w (w.drewN nq)) := below_drewN (Below.refl _ _) nq
          go_wp2
          go_ret
          exact ⟨by rw [HE2.out]; rfl, HB.out⟩
    | false =>
      rw [g] at hh HE
      replace hh : uI x / 2147483648 = 0 := hh
      replace HE : Hid (isMapB (x :: t) n = false) := HE
      clear hs2 hs1 g HP
      go_enter Try.func43, Try.ntmps43
      go_wp2_with (go_at_call 42; refine (KM _).mono ?_; rintro e w1 ⟨rfl, hw1⟩; replace hw1 := hw1.symm; subst hw1)
      go_ret
      exact ⟨by rw [HE.out]; rfl, Below.refl _ _⟩
  · have HE : Hid (isMapB m n = false) := by show _ = _; unfold isMapB; rw [decide_eq_false h1]; rfl
    obtain ⟨L, hL⟩ : ∃ L, L = mwN n := ⟨_, rfl⟩
    rw [← hL] at KM h1
    have h1' : (((m.length : Nat) : Int) != (L : Int)) = true := by simp; omega
    clear hs1 hr hL h1
    go_enter Try.func43, Try.ntmps43
    go_wp2_with (go_at_call 42; refine (KM _).mono ?_; rintro e w1 ⟨rfl, hw1⟩; replace hw1 := hw1.symm; subst hw1)
    go_ret
    exact ⟨by rw [HE.out]; rfl, Below.refl _ _⟩
set_option maxRecDepth 100000 in
set_option maxHeartbeats 8000000 in
theorem rcheck14 (op n : Int) (v : Value) (m : List (BitVec 32)) (w : World) (hv : RwX cU w v m) :
    Calls Try.prog 59 #[.agg #[.int .i64 op, .int .i64 n, v]] w fun e w' => e = .returned (.int .i64 (chkE op n m)) ∧ Below w.heap.size w w' := by
  obtain ⟨ao, c, hvf, -⟩ := id hv
  have q1 := bl1 w (.cells #[.int .i64 op, .int .i64 n, v] 67)
  have a1 := ati_new w op n v 67
  have HV := hid13 (hv.below q1)
  obtain ⟨w1, hw1⟩ : ∃ w1, w1 = w.alloc (.cells #[.int .i64 op, .int .i64 n, v] 67) := ⟨_, rfl⟩
  rw [← hw1] at q1 HV
  have HB := hid13 q1
  subst hvf
  clear q1 hv a1
  cases ho : isOp op with
  | false =>
    have HE := hid13 (chk_no (n := n) (m := m) ho)
    obtain ⟨h1, h2, h3, h4⟩ := isOp_none ho
    clear ho
    go_enter Try.func59, Try.ntmps59
    go_wp2
    go_ret
    exact ⟨by rw [HE.out]; rfl, by rw [← hw1]; exact HB.out⟩
  | true =>
    cases ht : (decide (kLo op ≤ n) && decide (n ≤ kHi op)) with
    | false =>
      have HE := hid13 (chk_arg (m := m) ho ht)
      rcases isOp_cases ho with rfl | rfl | rfl | rfl
      · have hb : n < 1 ∨ 24 < n := by unfold kLo kHi at ht; simp at ht; omega
        clear ht ho
        rcases hb with hb | hb
        · go_enter Try.func59, Try.ntmps59
          go_wp2
          go_ret
          exact ⟨by rw [HE.out]; rfl, by rw [← hw1]; exact HB.out⟩
        · have hb2 : ¬ n < 1 := by omega
          go_enter Try.func59, Try.ntmps59
          go_wp2
          go_ret
          exact ⟨by rw [HE.out]; rfl, by rw [← hw1]; exact HB.out⟩
      · have hb : n < 1 ∨ 24 < n := by unfold kLo kHi at ht; simp at ht; omega
        clear ht ho
        rcases hb with hb | hb
        · go_enter Try.func59, Try.ntmps59
          go_wp2
          go_ret
          exact ⟨by rw [HE.out]; rfl, by rw [← hw1]; exact HB.out⟩
        · have hb2 : ¬ n < 1 := by omega
          go_enter Try.func59, Try.ntmps59
          go_wp2
          go_ret
          exact ⟨by rw [HE.out]; rfl, by rw [← hw1]; exact HB.out⟩
      · have hb : n < 1 ∨ 16777216 ≤ n := by unfold kLo kHi at ht; simp at ht; omega
        clear ht ho
        rcases hb with hb | hb
        · go_enter Try.func59, Try.ntmps59
          go_wp2
          go_ret
          exact ⟨by rw [HE.out]; rfl, by rw [← hw1]; exact HB.out⟩
        · have hb2 : ¬ n < 1 := by omega
          go_enter Try.func59, Try.ntmps59
          go_wp2
          go_ret
          exact ⟨by rw [HE.out]; rfl, by rw [← hw1]; exact HB.out⟩
      · have hb : n < 0 ∨ 65535 < n := by unfold kLo kHi at ht; simp at ht; omega
        clear ht ho
        rcases hb with hb | hb
        · go_enter Try.func59, Try.ntmps59
          go_wp2
          go_ret
          exact ⟨by rw [HE.out]; rfl, by rw [← hw1]; exact HB.out⟩
        · have hb2 : ¬ n < 0 := by omega
          go_enter Try.func59, Try.ntmps59
          go_wp2
          go_ret
          exact ⟨by rw [HE.out]; rfl, by rw [← hw1]; exact HB.out⟩
    | true =>
      by_cases h2 : op = 2
      · subst h2
        have hE := chk_map (m := m) ho ht rfl
        have hb : 1 ≤ n ∧ n ≤ 24 := by unfold kLo kHi at ht; simpa using ht
        obtain ⟨k, rfl⟩ : ∃ k : Nat, n = (k : Int) := ⟨n.toNat, by omega⟩
        rw [Int.toNat_natCast] at hE
        have HE := hid13 hE
        have K1 := risMap_any _ m k w1 HV.out (by omega)
        have b1 : ¬ (k : Int) < 1 := by omega
        have b2 : ¬ (24 : Int) < (k : Int) := by omega
        clear ht ho hE hb
        go_enter Try.func59, Try.ntmps59
        go_wp2_with fail
        rw [← hw1]
        refine K1.mono ?_
        rintro e w2 ⟨rfl, hb2⟩
        have HB2 := hid13 (keepb hb2 HB.out)
        have k2 : w2.cell? ⟨w.heap.size, 0, none⟩ = some (.int .i64 2) := keepc hb2 (by rw [hw1]; simp [go_sem])
        clear hb2 hw1 K1
        generalize isMapB m k = z at *
        cases z with
        | true =>
          replace HE : Hid (chkE 2 (k : Int) m = 0) := HE
          go_wp2
          go_ret
          exact ⟨by rw [HE.out]; rfl, HB2.out⟩
        | false =>
          replace HE : Hid (chkE 2 (k : Int) m = 25) := HE
          go_wp2
          go_ret
          exact ⟨by rw [HE.out]; rfl, HB2.out⟩
      · have hE := chk_plain (m := m) ho ht h2
        by_cases hm : m = []
        · rw [if_pos hm] at hE
          have HE := hid13 hE
          have hl : m.length = 0 := by rw [hm]; rfl
          rw [hl] at hw1 ⊢
          rcases isOp_cases ho with rfl | rfl | rfl | rfl
          · have hb : 1 ≤ n ∧ n ≤ 24 := by unfold kLo kHi at ht; simpa using ht
            have b1 : ¬ n < 1 := by omega
            have b2 : ¬ 24 < n := by omega
            clear ht ho hb hm hl hE h2
            go_enter Try.func59, Try.ntmps59
            go_wp2
            go_ret
            exact ⟨by rw [HE.out]; rfl, by rw [← hw1]; exact HB.out⟩
          · exact absurd rfl h2
          · have hb : 1 ≤ n ∧ n ≤ 16777215 := by unfold kLo kHi at ht; simpa using ht
            have b1 : ¬ n < 1 := by omega
            have b2 : ¬ 16777216 ≤ n := by omega
            clear ht ho hb hm hl hE h2
            go_enter Try.func59, Try.ntmps59
            go_wp2
            go_ret
            exact ⟨by rw [HE.out]; rfl, by rw [← hw1]; exact HB.out⟩
          · have hb : 0 ≤ n ∧ n ≤ 65535 := by unfold kLo kHi at ht; simpa using ht
            have b1 : ¬ n < 0 := by omega
            have b2 : ¬ 65535 < n := by omega
            clear ht ho hb hm hl hE h2
            go_enter Try.func59, Try.ntmps59
            go_wp2
            go_ret
            exact ⟨by rw [HE.out]; rfl, by rw [← hw1]; exact HB.out⟩
        · rw [if_neg hm] at hE
          have HE := hid13 hE
          have hl : (0 : Int) < (m.length : Int) := by have := List.length_pos_iff.2 hm; omega
          rcases isOp_cases ho with rfl | rfl | rfl | rfl
          · have hb : 1 ≤ n ∧ n ≤ 24 := by unfold kLo kHi at ht; simpa using ht
            have b1 : ¬ n < 1 := by omega
            have b2 : ¬ 24 < n := by omega
            clear ht ho hb hm hE h2
            go_enter Try.func59, Try.ntmps59
            go_wp2
            go_ret
            exact ⟨by rw [HE.out]; rfl, by rw [← hw1]; exact HB.out⟩
          · exact absurd rfl h2
          · have hb : 1 ≤ n ∧ n ≤ 16777215 := by unfold kLo kHi at ht; simpa using ht
            have b1 : ¬ n < 1 := by omega
            have b2 : ¬ 16777216 ≤ n := by omega
            clear ht ho hb hm hE h2
            go_enter Try.func59, Try.ntmps59
            go_wp2
            go_ret
            exact ⟨by rw [HE.out]; rfl, by rw [← hw1]; exact HB.out⟩
          · have hb : 0 ≤ n ∧ n ≤ 65535 := by unfold kLo kHi at ht; simpa using ht
            have b1 : ¬ n < 0 := by omega
            have b2 : ¬ 65535 < n := by omega
            clear ht ho hb hm hE h2
            go_enter Try.func59, Try.ntmps59
            go_wp2
            go_ret
            exact ⟨by rw [HE.out]; rfl, by rw [← hw1]; exact HB.out⟩
end Go.Proofs.Ytdpmhpmnkollaaa
namespace Go.Proofs.Ytdpmhpmnkollaaa
open Go.RowKit
set_option linter.unusedSimpArgs false
set_option linter.unusedVariables false
attribute [local go_sem] Oper.semAt_some

set_option maxRecDepth 100000 in
set_option maxHeartbeats 8000000 in
theorem rwords_any (b : Int) (v : Value) (l : List Rn) (w : World) (hv : RwN w v l) (hl : l.length ≤ 1000000) :
    Calls Try.prog 45 #[.agg #[.int .i64 b, v]] w fun e w' => e = .returned (.tuple #[.int .i64 (wdsN ⟨b, l⟩), .int .i64 (wdsE ⟨b, l⟩)]) ∧ Below w.heap.size w w' := by
  obtain ⟨ao, c, hvf, -⟩ := id hv
  subst hvf
  have q1 := bl1 w (.cells #[.int .i64 b, .slice ao l.length c] 53)
  have HD := hid13 (atd_new w b (.slice ao l.length c) 53)
  have HB := hid13 q1
  have HV := hid13 (hv.below q1)
  clear hv q1
  by_cases hlo : b < 0
  · have HN : Hid (wdsN ⟨b, l⟩ = 0 ∧ wdsE ⟨b, l⟩ = 1) := by
      have e : wdsE ⟨b, l⟩ = 1 := by unfold wdsE bitsB; rw [if_neg (by simp; omega)]
      exact ⟨by unfold wdsN; rw [e]; rfl, e⟩
    generalize wdsN ⟨b, l⟩ = rn at *
    generalize wdsE ⟨b, l⟩ = re at *
    go_enter Try.func45, Try.ntmps45
    go_wp2
    refine bodyPost_ret (v := .tuple #[.int .i64 (0), .int .i64 (1)]) (by simp [results, Try.results45, go_sem]) rfl ⟨by rw [HN.out.1, HN.out.2], HB.out⟩
  · by_cases hhi : 128 < b
    · have HN : Hid (wdsN ⟨b, l⟩ = 0 ∧ wdsE ⟨b, l⟩ = 1) := by
        have e : wdsE ⟨b, l⟩ = 1 := by unfold wdsE bitsB; rw [if_neg (by simp; omega)]
        exact ⟨by unfold wdsN; rw [e]; rfl, e⟩
      generalize wdsN ⟨b, l⟩ = rn at *
      generalize wdsE ⟨b, l⟩ = re at *
      go_enter Try.func45, Try.ntmps45
      go_wp2
      refine bodyPost_ret (v := .tuple #[.int .i64 (0), .int .i64 (1)]) (by simp [results, Try.results45, go_sem]) rfl ⟨by rw [HN.out.1, HN.out.2], HB.out⟩
    · have hbb : bitsB b = true := by unfold bitsB; simp; omega
      have KR := rruns_any b _ l _ HV.out hl (by omega) (by omega)
      have HE : Hid (wdsE ⟨b, l⟩ = (if ioB ⟨b, l⟩ = true then (if b ≤ 24 then 0 else 18) else 19) ∧ wdsN ⟨b, l⟩ = if wdsE ⟨b, l⟩ = 0 then (szN ⟨b, l⟩ : Int) else 0) := ⟨by unfold wdsE; rw [if_pos hbb], rfl⟩
      have HSz : Hid (szN ⟨b, l⟩ = if b = 0 then 1 else 2 + mwN b.toNat + l.length) := rfl
      generalize wdsN ⟨b, l⟩ = rn at *
      generalize wdsE ⟨b, l⟩ = re at *
      generalize szN ⟨b, l⟩ = sz at *
      generalize ioB ⟨b, l⟩ = io at *
      clear hbb
      go_enter Try.func45, Try.ntmps45
      go_wp2_with fail
      refine KR.mono ?_
      rintro e w2 ⟨rfl, hb2⟩
      have HB2 := hid13 (keepb hb2 HB.out)
      have HD2 := hid13 (HD.out.below hb2)
      obtain ⟨a0, a1⟩ := HD2.out
      clear KR hb2
      cases io with
      | false =>
        have HN : Hid (rn = 0 ∧ re = 19) := by
          have e : re = 19 := HE.out.1
          exact ⟨by rw [HE.out.2, e]; rfl, e⟩
        clear HE
        go_wp2
        refine bodyPost_ret (v := .tuple #[.int .i64 (0), .int .i64 (19)]) (by simp [results, Try.results45, go_sem]) rfl ⟨by rw [HN.out.1, HN.out.2], HB2.out⟩
      | true =>
        by_cases h24 : 24 < b
        · have HN : Hid (rn = 0 ∧ re = 18) := by
            have e : re = 18 := by rw [HE.out.1, if_pos rfl, if_neg (by omega)]
            exact ⟨by rw [HE.out.2, e]; rfl, e⟩
          clear HE
          go_wp2
          refine bodyPost_ret (v := .tuple #[.int .i64 (0), .int .i64 (18)]) (by simp [results, Try.results45, go_sem]) rfl ⟨by rw [HN.out.1, HN.out.2], HB2.out⟩
        · have e : re = 0 := by rw [HE.out.1, if_pos rfl, if_pos (by omega)]
          have en : rn = (sz : Int) := by rw [HE.out.2, if_pos e]
          by_cases hb0 : b = 0
          · have HN : Hid (rn = 1 ∧ re = 0) := ⟨by rw [en, HSz.out, if_pos hb0]; rfl, e⟩
            clear HE e en HSz
            subst hb0
            go_wp2
            refine bodyPost_ret (v := .tuple #[.int .i64 (1), .int .i64 (0)]) (by simp [results, Try.results45, go_sem]) rfl ⟨by rw [HN.out.1, HN.out.2], HB2.out⟩
          · obtain ⟨nb, rfl⟩ : ∃ nb : Nat, b = (nb : Int) := ⟨b.toNat, by omega⟩
            have HN : Hid (rn = 2 + (mwN nb : Int) + (l.length : Int) ∧ re = 0) := ⟨by rw [en, HSz.out, if_neg hb0, Int.toNat_natCast]; push_cast; rfl, e⟩
            have KM := fun w => rmapWords_any nb (by omega) w
            have hmw : mwN nb ≤ 524288 := mwN_hi nb (by omega)
            have hnb0 : nb ≠ 0 := by rintro rfl; exact hb0 rfl
            have e0 : ((nb : Int) == 0) = false := by simpa using hb0
            have HC : Hid (AtD w2.drew w.heap.size (nb : Int) (.slice ao l.length c) ∧ Below w.heap.size w w2.drew) := ⟨⟨a0, a1⟩, HB2.out.drew⟩
            clear HE e en HSz hb0 hnb0
            generalize mwN nb = mw at *
            go_wp2_with fail
            refine qw_region (C := fun X => AtD X w.heap.size (nb : Int) (.slice ao l.length c) ∧ Below w.heap.size w X) (by kernel_rfl) (by kernel_rfl) HC.out ?_
            refine qw_run (v := .pointer (some ⟨w.heap.size, 0, none⟩)) (by rfl) ?_ ?_
            · (intro w9 hC; clear hC; go_simp; first | done | (simp; done) | (simp [*]; done) | omega | (simp; omega) | (rw [IntKind.wrap_i64]; omega) | (intro hx; omega) | rfl)
            simp only [Act.put, List.setIfInBounds_toArray, List.set_cons_zero, List.set_cons_succ]
            refine qw_run (v := .int .i64 (nb : Int)) (by rfl) ?_ ?_
            · (intro w9 hC; obtain ⟨⟨a0, a1⟩, -⟩ := id hC; clear hC; go_simp; first | done | (simp; done) | (simp [*]; done) | omega | (simp; omega) | (rw [IntKind.wrap_i64]; omega) | (intro hx; omega) | rfl)
            simp only [Act.put, List.setIfInBounds_toArray, List.set_cons_zero, List.set_cons_succ]
            refine qw_call (v := .int .i64 (mw : Int)) (f := 42) (args := #[.int .i64 (nb : Int)]) (by rfl) ?_ ?_ ?_
            · (intro w9 hC; clear hC; go_simp; first | done | (simp; done) | rfl)
            · exact fun w9 hC => (KM w9).mono fun e w' h => ⟨h.1, by rw [h.2]; exact hC⟩
            simp only [Act.put, List.setIfInBounds_toArray, List.set_cons_zero, List.set_cons_succ]
            refine qw_run (v := .int .i64 (2 + (mw : Int))) (by rfl) ?_ ?_
            · (intro w9 hC; clear hC; go_simp; first | done | (simp; done) | (simp [*]; done) | omega | (simp; omega) | (rw [IntKind.wrap_i64]; omega) | (intro hx; omega) | rfl)
            simp only [Act.put, List.setIfInBounds_toArray, List.set_cons_zero, List.set_cons_succ]
            refine qw_run (v := .pointer (some ⟨w.heap.size, 1, none⟩)) (by rfl) ?_ ?_
            · (intro w9 hC; clear hC; go_simp; first | done | (simp; done) | (simp [*]; done) | omega | (simp; omega) | (rw [IntKind.wrap_i64]; omega) | (intro hx; omega) | rfl)
            simp only [Act.put, List.setIfInBounds_toArray, List.set_cons_zero, List.set_cons_succ]
            refine qw_run (v := .slice ao l.length c) (by rfl) ?_ ?_
            · (intro w9 hC; obtain ⟨⟨a0, a1⟩, -⟩ := id hC; clear hC; go_simp; first | done | (simp; done) | (simp [*]; done) | omega | (simp; omega) | (rw [IntKind.wrap_i64]; omega) | (intro hx; omega) | rfl)
            simp only [Act.put, List.setIfInBounds_toArray, List.set_cons_zero, List.set_cons_succ]
            refine qw_run (v := .int .i64 (l.length : Int)) (by rfl) ?_ ?_
            · (intro w9 hC; clear hC; go_simp; first | done | (simp; done) | (simp [*]; done) | omega | (simp; omega) | (rw [IntKind.wrap_i64]; omega) | (intro hx; omega) | rfl)
            simp only [Act.put, List.setIfInBounds_toArray, List.set_cons_zero, List.set_cons_succ]
            refine qw_run (v := .int .i64 (2 + (mw : Int) + (l.length : Int))) (by rfl) ?_ ?_
            · (intro w9 hC; clear hC; go_simp; first | done | (simp; done) | (simp [*]; done) | omega | (simp; omega) | (rw [IntKind.wrap_i64]; omega) | (intro hx; omega) | rfl)
            simp only [Act.put, List.setIfInBounds_toArray, List.set_cons_zero, List.set_cons_succ]
            refine qw_run (v := .int .i64 (2 + (mw : Int) + (l.length : Int))) (by rfl) ?_ ?_
            · (intro w9 hC; clear hC; go_simp; first | done | (simp; done) | (simp [*]; done) | omega | (simp; omega) | (rw [IntKind.wrap_i64]; omega) | (intro hx; omega) | rfl)
            simp only [Act.put, List.setIfInBounds_toArray, List.set_cons_zero, List.set_cons_succ]
            refine qw_run (v := .int .i64 0) (by rfl) ?_ ?_
            · (intro w9 hC; clear hC; go_simp; first | done | (simp; done) | (simp [*]; done) | omega | (simp; omega) | (rw [IntKind.wrap_i64]; omega) | (intro hx; omega) | rfl)
            simp only [Act.put, List.setIfInBounds_toArray, List.set_cons_zero, List.set_cons_succ]
            refine qw_nil ?_
            intro w9 hC
            have HB9 := hid13 hC.2
            clear hC
            go_wp2
            refine bodyPost_ret (v := .tuple #[.int .i64 (2 + (mw : Int) + (l.length : Int)), .int .i64 (0)]) (by simp [results, Try.results45, go_sem]) rfl ⟨by rw [HN.out.1, HN.out.2], HB9.out⟩
end Go.Proofs.Ytdpmhpmnkollaaa
namespace Go.Proofs.Ytdpmhpmnkollaaa
open Go.RowKit Go.Shelf
set_option linter.unusedSimpArgs false
set_option linter.unusedVariables false
attribute [local go_sem] Oper.semAt_some

set_option maxRecDepth 20000 in
set_option maxHeartbeats 4000000 in
theorem rorder16_any (F : Int) (v : Value) (L : List Nde) (w : World) (hv : RwD w v L) (hl : L.length ≤ 1000000) (hr : ∀ d ∈ L, d.r.length ≤ 1000000) :
    Calls Try.prog 44 #[.int .i64 F, v] w fun e w' => ∃ v', e = .returned (.tuple #[v', .int .i64 (chkM F L).2]) ∧ w'.ownsRow w.heap.size 3 1 v' (ordR F L).length ((ordR F L).map cI) ∧ Below w.heap.size w w' := by
  have KC := rcheck_any F v L w hv hl hr
  have HV := hid13 hv
  have HOk := hid13 (fun h => (chk_ok (F := F) (L := L) h).1)
  have HOr : Hid (∀ e, (chkM F L).2 = e → ordR F L = if e = 0 then ordL L else []) := hid13 (fun e h => by unfold ordR; rw [h])
  have HLr : Hid (L.length ≤ 1000000 ∧ ∀ d ∈ L, d.r.length ≤ 1000000) := ⟨hl, hr⟩
  generalize chkM F L = cm at *
  obtain ⟨cd, ce⟩ := cm
  dsimp only at KC HOk HOr
  clear hv hr hl
  go_enter Try.func44, Try.ntmps44
  go_wp2_with fail
  refine KC.mono ?_
  rintro e w2 ⟨rfl, hb2⟩
  have HB2 := hid13 hb2
  have HV2 := hid13 (HV.out.below hb2)
  clear KC hb2 HV
  by_cases h0 : ce = 0
  · have HE := hid13 (HOr.out 0 h0)
    have KW := rorder12_any v L w2 HV2.out (HOk.out h0) HLr.out.1 HLr.out.2
    subst h0
    clear HOk HOr
    go_wp2_with fail
    refine KW.mono ?_
    rintro e w3 ⟨v', rfl, ho, hb3⟩
    have HO := hid13 ho
    have HB3 := hid13 (keepb hb3 HB2.out)
    have HBs := hid13 HB2.out.size
    clear KW ho hb3
    go_wp2
    refine bodyPost_ret (v := .tuple #[v', .int .i64 0]) (by simp [results, Try.results44, go_sem]) rfl ⟨v', rfl, ?_, HB3.out⟩
    rw [HE.out]
    exact own_base16 HO.out HBs.out
  · have hn : (ce != 0) = true := by simpa using h0
    have HE : Hid (ordR F L = []) := by show _ = _; rw [HOr.out ce rfl, if_neg h0]
    clear HOk HOr
    go_wp2
    refine bodyPost_ret (v := .tuple #[.slice none 0 0, .int .i64 ce]) (by simp [results, Try.results44, go_sem]) rfl ⟨_, rfl, ?_, HB2.out⟩
    rw [HE.out]
    exact World.ownsRow_nil _ _ _ _
structure PlV (w : World) (vo : Value) (Gp : Nat) (o P : List Int) (W : World) : Prop where
  g : W.heap[Gp]? = some (.cells (P.map cI).toArray 3)
  o : W.ownsRow w.heap.size 3 1 vo o.length (o.map cI)
  b : Below w.heap.size w W
  ge : w.heap.size ≤ Gp
  ne : vo.ownBlock ≠ some Gp
section
variable {w W W' : World} {vo : Value} {Gp : Nat} {o P : List Int}
theorem PlV.below (h : PlV w vo Gp o P W) (hb : Below W.heap.size W W') : PlV w vo Gp o P W' := ⟨(hb.block _ (lt_16 h.g)).trans h.g, own_b13 hb h.o, keepb hb h.b, h.ge, h.ne⟩
theorem PlV.put (h : PlV w vo Gp o P W) (k : Nat) (m : Int) : PlV w vo Gp o (P.set k m) (W.setCell ⟨Gp, k, none⟩ (.int .i64 m)) := by
  refine ⟨?_, own_far16 h.o _ h.ne, h.b.setCell (p := ⟨Gp, k, none⟩) h.ge _, h.ge, h.ne⟩
  rw [set_16 h.g, List.setIfInBounds_toArray, List.map_set]; rfl
end
theorem own_block16 {W : World} {base e g n : Nat} {xs : List Value} (h : W.heap[g]? = some (.cells xs.toArray e)) (hb : base ≤ g) (hn : xs.length = n) (hm : n ≤ maxLen) : W.ownsRow base e 1 (.slice (some ⟨g, 0, none⟩) n n) n xs :=
  ⟨by simp [hn], .inr ⟨g, n, xs.toArray, rfl, hb, h, Nat.le_refl _, hm, by simp [hn], by rw [List.take_of_length_le (by simp [hn])]⟩⟩
set_option maxRecDepth 100000 in
set_option maxHeartbeats 16000000 in
theorem rplaces16_any (F : Int) (v : Value) (L : List Nde) (w : World) (hv : RwD w v L) (hl : L.length ≤ 1000000) (hr : ∀ d ∈ L, d.r.length ≤ 1000000) :
    Calls Try.prog 29 #[.int .i64 F, v] w fun e w' => ∃ vp, e = .returned (.tuple #[vp, .int .i64 ((layR F L).1.2.2 : Int), .int .i64 (layR F L).2]) ∧ w'.ownsRow w.heap.size 3 1 vp (layR F L).1.2.1.length ((layR F L).1.2.1.map cI) ∧ Below w.heap.size w w' := by
  obtain ⟨j0, hj, hj0, hj1, hj2⟩ := info13 Try.infoN16
  have KO := rorder16_any F v L w hv hl hr
  have HV := hid13 hv
  have HOk := hid13 (fun h => (chk_ok (F := F) (L := L) h).1)
  have HLr : Hid (L.length ≤ 1000000 ∧ ∀ d ∈ L, d.r.length ≤ 1000000) := ⟨hl, hr⟩
  have HLy : Hid (∀ e, (chkM F L).2 = e → layR F L = if e = 0 then (match plG L (ordL L) (List.replicate L.length 0) 0 with | some (P, n) => ((ordL L, P, n), 0) | none => (([], [], 0), 18)) else (([], [], 0), e)) := hid13 (fun e h => by unfold layR; rw [h]; first | rfl | (split; (cases plG L (ordL L) (List.replicate L.length 0) 0 <;> rfl); rfl))
  have HOr : Hid (∀ e, (chkM F L).2 = e → ordR F L = if e = 0 then ordL L else []) := hid13 (fun e h => by unfold ordR; rw [h])
  obtain ⟨R, hR⟩ : ∃ R, R = layR F L := ⟨_, rfl⟩
  rw [← hR] at HLy ⊢
  clear hR
  generalize (chkM F L).2 = ce at *
  generalize hOR : ordR F L = orr at *
  clear hv hr hOR
  go_enter Try.func29, Try.ntmps29
  go_wp2_with fail
  refine KO.mono ?_
  rintro e w2 ⟨vo, rfl, ho, hb2⟩
  have HB2 := hid13 hb2
  have HO2 := hid13 ho
  clear KO ho hb2
  by_cases h0 : ce = 0
  · have ok := HOk.out h0
    have eO := HOr.out 0 h0
    rw [if_pos rfl] at eO
    have HRR := hid13 (HLy.out 0 h0)
    rw [eO] at HO2
    have HoL : Hid ((ordL L).length ≤ L.length ∧ ∀ x ∈ ordL L, 0 ≤ x ∧ x < (L.length : Int)) := ⟨ord_len ok, ord_in ok⟩
    have Hok := hid13 ok
    generalize ordL L = o at *
    subst h0
    obtain ⟨ao, c, hvf, -, hrow⟩ := id HV.out
    obtain ⟨b, off, hao, hcell⟩ := hrow.resolve_left (by rintro rfl; exact absurd ok.1 (by simp))
    subst hao
    subst hvf
    have HC := hid13 hcell
    obtain ⟨oa, oc, hvo⟩ := own_form HO2.out
    subst hvo
    clear HOk HOr HLy eO ok hcell hrow
    go_wp2_with (at_make; apply stopHere9)
    refine (show wpList _ _ _ _ _ _ from ?_)
    refine wpList_make16 _ rfl _ _ 37 rfl 3 j0 (.int .i64 0) Try.underlying37 hj hj0 .i64 .i64 _ _ L.length L.length rfl rfl rfl rfl (Nat.le_refl _) (by rw [hj2]; omega) (by unfold maxLen; omega) ?_
    have eO : madeCells (Value.int IntKind.i64 0).cells (L.length * j0.size) = ((List.replicate L.length (0 : Int)).map cI).toArray := by rw [hj1, Nat.mul_one, List.map_replicate]; exact made_one16 _ _
    rw [eO]
    clear eO
    obtain ⟨O1, hO1⟩ : ∃ O : Obj, O = .cells ((List.replicate L.length (0 : Int)).map cI).toArray 3 := ⟨_, rfl⟩
    rw [← hO1]
    have Y0 : PlV w (.slice oa o.length oc) w2.heap.size o (List.replicate L.length 0) (w2.alloc O1) := by
      refine ⟨by rw [hO1]; exact new_16 _ _, own_b13 (bl1 w2 _) HO2.out, keepb (bl1 w2 _) HB2.out, HB2.out.size, fun e => ?_⟩
      have := HO2.out.lt _ e
      omega
    have HY0 := hid13 Y0
    clear Y0 hO1 HO2
    go_wp2_with fail
    revert HY0
    generalize w2.alloc O1 = W0
    generalize w2.heap.size = Gp
    intro HY0
    go_loopg [10, 11] o.length (fun g av iv wr => ∃ (i : Nat) (P : List Int) (n : Nat), i + g = o.length ∧ av = .int .i64 (n : Int) ∧ iv = .int .i64 (i : Int) ∧ Hid (PlV w (.slice oa o.length oc) Gp o P wr ∧ P.length = L.length ∧ n ≤ i * 2000000 ∧ plG L (o.drop i) P n = plG L o (List.replicate L.length 0) 0))
    case atStart => exact ⟨0, _, 0, by omega, rfl, rfl, hid13 ⟨HY0.out, by simp, by omega, rfl⟩⟩
    case round =>
      clear HY0
      obtain ⟨i, P, n, hk, rfl, rfl, HS⟩ := hrel
      by_cases hlt : (i : Int) < (o.length : Int)
      · have hli : i < o.length := by omega
        obtain ⟨x, hx⟩ : ∃ x, o[i]? = some x := ⟨o[i], by simp [hli]⟩
        obtain ⟨hx0, hx1⟩ := HoL.out.2 x (List.mem_of_getElem? hx)
        obtain ⟨k, rfl⟩ : ∃ k : Nat, x = (k : Int) := ⟨x.toNat, by omega⟩
        have hkL : k < L.length := by omega
        obtain ⟨⟨db, dr⟩, hd⟩ : ∃ d, L[k]? = some d := ⟨L[k], by simp [hkL]⟩
        have HT := hid13 (pl_drop L o i k _ hx hd P n)
        have hdr := HLr.out.2 _ (List.mem_of_getElem? hd)
        have hok := Hok.out.2 k _ hd
        obtain ⟨vr, x0, x1, hR⟩ := HC.out k _ hd
        obtain ⟨g0, ho0⟩ : ∃ g0, oa = some ⟨g0, 0, none⟩ := by
          rcases HS.out.1.o.2 with ⟨h1, h2⟩ | ⟨g, cap, cur, h1, -⟩
          · rw [h2] at hli; omega
          · injection h1 with h1; exact ⟨g, h1⟩
        subst ho0
        have o0 := (own_cell16 HS.out.1.o hx).1
        dsimp only at HT hdr x0 hR
        have HW : Hid (wdsE ⟨db, dr⟩ = (if db ≤ 24 then 0 else 18) ∧ wdsN ⟨db, dr⟩ = if wdsE ⟨db, dr⟩ = 0 then (szN ⟨db, dr⟩ : Int) else 0) := by
          refine ⟨?_, rfl⟩
          unfold wdsE
          rw [if_pos (show bitsB (Nde.mk db dr).b = true by have h1 := hok.b0; have h2 := hok.b1; dsimp only at h1 h2; unfold bitsB; simp; omega), if_pos hok.io]
        have KW := rwords_any db vr dr wr (hR.below HS.out.1.b) hdr
        have x0 := keepc HS.out.1.b x0
        have x1 := keepc HS.out.1.b x1
        have HJ : Hid (i < o.length ∧ o.length ≤ L.length ∧ L.length ≤ 1000000 ∧ i + gk = o.length) := ⟨hli, HoL.out.1, hl, hk⟩
        have hki : (k : Int) < (L.length : Int) := by omega
        have HSz : Hid (db ≤ 24 → szN ⟨db, dr⟩ ≤ 2000000) := fun h => by
          unfold szN
          dsimp only
          split
          · omega
          · have := mwN_hi db.toNat (by omega)
            omega
        generalize wdsE ⟨db, dr⟩ = wE at *
        generalize wdsN ⟨db, dr⟩ = wN at *
        obtain ⟨va, vc, hvr, -, -⟩ := id hR
        subst hvr
        have HXo := hid13 hx
        clear hR hd hx hok hk
        go_wp2_with fail
        refine KW.mono ?_
        rintro e w3 ⟨rfl, hb3⟩
        have HY3 := hid13 (HS.out.1.below hb3)
        clear KW hb3 x0 x1
        by_cases h24 : db ≤ 24
        · have hwE : wE = 0 := by rw [HW.out.1, if_pos h24]
          have hwN : wN = (szN ⟨db, dr⟩ : Int) := by rw [HW.out.2, if_pos hwE]
          subst hwE hwN
          have HS2 : Hid (plG L (o.drop (i + 1)) (P.set k (n : Int)) (n + szN ⟨db, dr⟩) = plG L o (List.replicate L.length 0) 0) := by show _ = _; rw [← HS.out.2.2.2, HT.out, if_pos h24]
          have HSl : Hid (szN ⟨db, dr⟩ ≤ 2000000 ∧ n ≤ i * 2000000) := ⟨HSz.out h24, HS.out.2.2.1⟩
          generalize szN ⟨db, dr⟩ = sz at *
          have hPk : P.length = L.length := HS.out.2.1
          obtain ⟨pk, hpk⟩ : ∃ pk, P[k]? = some pk := ⟨P[k]'(by omega), List.getElem?_eq_getElem _⟩
          have p2 : w3.cell? ⟨Gp, k, none⟩ = some (.int .i64 pk) := at_16 HY3.out.g k _ (by rw [List.getElem?_toArray, List.getElem?_map, hpk]; rfl)
          have p2f := fr_16 (j := k) HY3.out.g
          have o0 := (own_cell16 HY3.out.o HXo.out).1
          have HY4 := hid13 (HY3.out.put k (n : Int))
          have HPl : Hid ((P.set k (n : Int)).length = L.length) := by show _ = _; rw [List.length_set]; exact hPk
          have ms : IntKind.i64.wrap ((n : Int) + (sz : Int)) = ((n + sz : Nat) : Int) := by rw [IntKind.wrap_i64]; have := HSl.out; have := HJ.out; push_cast; omega
          have mi : IntKind.i64.wrap ((i : Int) + 1) = ((i + 1 : Nat) : Int) := by rw [IntKind.wrap_i64]; have := HJ.out; push_cast; omega
          clear HT h24 HS hPk hpk HW HSz
          go_wp2
          go_roundg (gk - 1)
          case measure => have := HJ.out; omega
          case rel => exact ⟨i + 1, P.set k (n : Int), n + sz, by have := HJ.out; omega, rfl, rfl, hid13 ⟨HY4.out, HPl.out, by have := HSl.out; omega, HS2.out⟩⟩
        · have hwE : wE = 18 := by rw [HW.out.1, if_neg h24]
          subst hwE
          have HPN : Hid (plG L o (List.replicate L.length 0) 0 = none) := by show _ = _; rw [← HS.out.2.2.2, HT.out, if_neg h24]
          have HR9 : Hid (R = (([], [], 0), 18)) := by show _ = _; rw [HRR.out, if_pos (by trivial), HPN.out]
          have HB9 := hid13 HY3.out.b
          clear HT h24 HS HY3 HW HSz
          go_wp2
          refine bodyPost_ret (v := .tuple #[.slice none 0 0, .int .i64 0, .int .i64 18]) (by simp [results, Try.results29, go_sem]) rfl ⟨_, by rw [HR9.out]; rfl, ?_, HB9.out⟩
          rw [HR9.out]; exact World.ownsRow_nil _ _ _ _
      · have hPN : plG L o (List.replicate L.length 0) 0 = some (P, n) := by
          rw [← HS.out.2.2.2, List.drop_eq_nil_of_le (by omega)]; rfl
        have HR9 : Hid (R = ((o, P, n), 0)) := by show _ = _; rw [HRR.out, if_pos (by trivial), hPN]
        have HYe := hid13 HS.out.1
        have HPl := hid13 HS.out.2.1
        clear hPN HS
        go_wp2
        refine bodyPost_ret (v := .tuple #[.slice (some ⟨Gp, 0, none⟩) L.length L.length, .int .i64 (n : Int), .int .i64 0]) (by simp [results, Try.results29, go_sem]) rfl ⟨_, by rw [HR9.out], ?_, HYe.out.b⟩
        rw [HR9.out]
        show World.ownsRow _ _ _ _ _ P.length _
        rw [HPl.out]
        exact own_block16 HYe.out.g HYe.out.ge (by simp [HPl.out]) (by unfold maxLen; have := HLr.out.1; omega)
  · have hn : (ce != 0) = true := by simpa using h0
    have HE : Hid (R = (([], [], 0), ce)) := by show _ = _; rw [HLy.out ce rfl, if_neg h0]
    obtain ⟨oa, oc, hvo⟩ := own_form HO2.out
    subst hvo
    clear HOk HOr HLy HO2
    go_wp2
    refine bodyPost_ret (v := .tuple #[.slice none 0 0, .int .i64 0, .int .i64 ce]) (by simp [results, Try.results29, go_sem]) rfl ⟨_, by rw [HE.out]; rfl, ?_, HB2.out⟩
    rw [HE.out]; exact World.ownsRow_nil _ _ _ _
end Go.Proofs.Ytdpmhpmnkollaaa
