/-
  Part 30 of the proof: 1 texts, one behind the other.
-/
import Derived.Test.YtonagfmkplbooaaGreatDoorPart27
import Derived.Test.YtonagfmkplbooaaGreatDoorPart7
import Derived.Test.YtonagfmkplbooaaGreatDoorPart23
/-
  What the call of the document's Check of segments does.
-/
namespace Go.Proofs.YtonagfmkplbooaaGreatDoor
open Go.RowKit
set_option linter.unusedSimpArgs false
set_option linter.unusedVariables false

theorem next_last (F : Int) (x : BitVec 128) (hx : rightE F x = 0) : nextB F x = !(x == lastV F) := by
  obtain ⟨hf, hc⟩ := right0 F x hx
  unfold lastV
  rw [if_pos hf]
  unfold nextB
  rw [hx, over_step F x hf hc]
  by_cases e : x = maskW F <;> simp [e]
/-- What the document's Check tells of one segment, with what stands ahead of it. -/
theorem sgs_one (F : Int) (p : Option Sg) (s : Sg) (l : List Sg) : sgsGo F p (s :: l) = if sgE F s = 0 then (if moO F p = true then (if (s.1.1 == nxO F p) = true then (if p.map (·.2) = some s.2 then 19 else sgsGo F (some s) l) else 19) else 19) else sgE F s := by
  rw [sgsGo]
theorem sgs_end (F : Int) (p : Option Sg) (s : Sg) (h : sgE F s = 0) (hl : ¬ s.1.2 = lastV F) : sgsGo F p [s] = 19 := by
  obtain ⟨h1, h2, h3, h4, h5⟩ := sgE_zero F s h
  have e : sgsGo F (some s) [] = 19 := by
    rw [sgsGo, moO, next_last F _ h2, if_pos (by simpa using hl)]
  rw [sgs_one, if_pos h, e]
  split
  · split
    · split <;> rfl
    · rfl
  · rfl
set_option maxRecDepth 20000 in
set_option maxHeartbeats 16000000 in
theorem rck6_any (F : Int) (v : Value) (l : List Sg) (w : World) (hv : RwG w v l) (hll : l.length ≤ 1000000000) :
    Calls Tryz.prog 54 #[.int .i64 F, v] w fun e w' => e = .returned (.int .i64 (sgsE F l)) ∧ Below w.heap.size w w' := by
  obtain ⟨ao, c, rfl, hv⟩ := hv
  have KI := fun w => isFamily_any F w
  have KL := fun w => rlast_any F w
  unfold sgsE
  cases hf : fam F
  · rw [hf] at KI
    rw [if_neg (by simp)]
    clear hf hv KL
    go_enter Tryz.func54, Tryz.ntmps54
    go_wp2_with fail
    refine (KI _).mono ?_
    rintro e w1 ⟨rfl, rfl⟩
    clear KI
    go_wp2
    go_ret
    exact ⟨rfl, Below.refl _ _⟩
  · rw [hf] at KI
    rw [if_pos rfl]
    have HV := hidR hv
    clear hf hv
    by_cases hl : l = []
    · rw [if_pos hl]
      have h1 : ((l.length : Int) == 0) = true := by rw [hl]; rfl
      clear KL
      go_enter Tryz.func54, Tryz.ntmps54
      go_wp2_with fail
      refine (KI _).mono ?_
      rintro e w1 ⟨rfl, rfl⟩
      clear KI
      go_wp2
      go_ret
      exact ⟨rfl, Below.refl _ _⟩
    · rw [if_neg hl]
      have hl0 : 0 < l.length := by
        have : l.length ≠ 0 := fun e => hl (List.length_eq_zero_iff.mp e)
        omega
      have h1 : ((l.length : Int) == 0) = false := by
        have : l.length ≠ 0 := by omega
        simpa using this
      clear hl
      generalize lastE F = le at *
      generalize hmk : lastV F = mk at *
      have HMK := hidR hmk
      clear hmk
      go_enter Tryz.func54, Tryz.ntmps54
      go_wp2_with fail
      refine (KI _).mono ?_
      rintro e w0 ⟨rfl, rfl⟩
      clear KI
      go_wp2_with fail
      refine (KL _).mono ?_
      rintro e w1 ⟨rfl, hb⟩
      have kB := hidR (hb.alloc hb.size (.cells #[.int .u64 (hI mk), .int .u64 (lI mk)] 27))
      have HN := hidR (at_new w1 w1.heap.size mk 27 rfl)
      clear KL hb
      go_wp2_with fail
      go_loopw [7] (fun i wr => ∃ k : Nat, k ≤ l.length ∧ i = .int .i64 k ∧ Hid (sgsGo F (prevO l k) (l.drop k) = sgsGo F none l) ∧ Hid (k = l.length → moO F (prevO l k) = false) ∧ Hid (At wr w1.heap.size mk) ∧ Hid (Below w0.heap.size w0 wr)) (fun i _ => l.length - (intOf i).toNat)
      case atStart => exact ⟨0, by omega, rfl, hidR rfl, hidR (fun e => by omega), HN, kB⟩
      case round =>
        clear kB HN
        obtain ⟨k, hk, rfl, hG, HM, HN, HB⟩ := hrel
        by_cases hlt : (k : Int) < (l.length : Int)
        · have hks : k < l.length := by omega
          rcases HV.out with h | ⟨b, off, rfl, hc⟩
          · rw [h] at hks; simp at hks
          · obtain ⟨x0, x1, x2, x3, x4⟩ := rwg_cells hc k hks
            have x0 := keepc HB.out x0
            have x1 := keepc HB.out x1
            have x2 := keepc HB.out x2
            have x3 := keepc HB.out x3
            have x4 := keepc HB.out x4
            have KX := fun w => rright_any F l[k].1.1 w
            have KY := fun w => rright_any F l[k].1.2 w
            have KC := fun w => rcmp_any l[k].1.2 l[k].1.1 w
            have HP : Hid (k = 0 ∨ ∃ (j : Nat) (q : Sg), j + 1 = k ∧ prevO l k = some q ∧ ∀ W, Below w0.heap.size w0 W → W.cell? ⟨b, off + j * 5 + 2, none⟩ = some (.int .u64 (hI q.1.2)) ∧ W.cell? ⟨b, off + j * 5 + 3, none⟩ = some (.int .u64 (lI q.1.2)) ∧ W.cell? ⟨b, off + j * 5 + 4, none⟩ = some (.int .i64 q.2)) := hidR (by
              cases k with
              | zero => exact .inl rfl
              | succ k =>
                refine .inr ⟨k, l[k], rfl, by rw [prevO, List.getElem?_eq_getElem (by omega)], fun W hW => ?_⟩
                obtain ⟨-, -, y2, y3, y4⟩ := rwg_cells hc k (by omega)
                exact ⟨keepc hW y2, keepc hW y3, keepc hW y4⟩)
            have HS : Hid (prevO l (k + 1) = some l[k]) := hidR (by rw [prevO, List.getElem?_eq_getElem hks])
            have HX : Hid (sgsGo F none l = sgsGo F (prevO l k) (l[k] :: l.drop (k + 1))) := hidR (by rw [← hG.out, List.drop_eq_getElem_cons hks])
            have HZ : Hid (k + 1 = l.length → l.drop (k + 1) = []) := hidR (fun e => List.drop_eq_nil_of_le (by omega))
            clear hc HV hG
            revert KX KY KC HS HX
            generalize l[k] = s at *
            obtain ⟨⟨px, py⟩, ph⟩ := s
            dsimp only at x0 x1 x2 x3 x4 ⊢
            intro KX KY KC HS HX
            have HSE : Hid (sgE F ((px, py), ph) = if rightE F px = 0 then (if rightE F py = 0 then (if ph < 0 then 15 else if 65535 < ph then 15 else if cmpZ py px < 0 then 19 else 0) else 6) else 6) := hidR rfl
            revert KX KY KC HSE
            generalize rightE F px = rx
            generalize rightE F py = ry
            generalize cmpZ py px = cz
            intro KX KY KC HSE
            have P0 := atg_new wr wr.heap.size px py ph 47 rfl
            have HS0 := hidR P0
            have HN0 := hidR (HN.out.below (bl1 wr (.cells #[.int .u64 (hI px), .int .u64 (lI px), .int .u64 (hI py), .int .u64 (lI py), .int .i64 ph] 47)))
            have HB0 := hidR (HB.out.alloc HB.out.size (.cells #[.int .u64 (hI px), .int .u64 (lI px), .int .u64 (hI py), .int .u64 (lI py), .int .i64 ph] 47))
            obtain ⟨p0, p1, p2, p3, p4, -⟩ := id P0
            have hk2 : IntKind.i64.wrap ((k : Int) + 1) = (k : Int) + 1 := by rw [IntKind.wrap_i64]; omega
            have hk3 : IntKind.i64.wrap ((l.length : Int) - 1) = (l.length : Int) - 1 := by rw [IntKind.wrap_i64]; omega
            clear P0 HN HB
            go_wp2_with fail
            refine (KX _).mono ?_
            rintro e w2 ⟨rfl, hb⟩
            have HS2 := hidR (HS0.out.below hb)
            have HN2 := hidR (HN0.out.below hb)
            have HB2 := hidR (keepb hb HB0.out)
            clear hb HS0 HN0 HB0 KX x0 x1 x2 x3 x4 p0 p1 p2 p3 p4
            obtain ⟨p0, p1, p2, p3, p4, -⟩ := HS2.out
            by_cases hrx : rx = 0
            · subst hrx
              go_wp2_with fail
              refine (KY _).mono ?_
              rintro e w3 ⟨rfl, hb⟩
              have HS3 := hidR (HS2.out.below hb)
              have HN3 := hidR (HN2.out.below hb)
              have HB3 := hidR (keepb hb HB2.out)
              clear hb HS2 HN2 HB2 KY p0 p1 p2 p3 p4
              obtain ⟨p0, p1, p2, p3, p4, -⟩ := HS3.out
              by_cases hry : ry = 0
              · subst hry
                by_cases hh1 : ph < 0
                · have HE : Hid (sgsGo F none l = 15) := hidR (by rw [HX.out, sgs_one, HSE.out]; simp [hh1])
                  clear KC HSE
                  go_wp2
                  go_ret
                  exact ⟨by rw [HE.out]; rfl, HB3.out⟩
                · by_cases hh2 : 65535 < ph
                  · have HE : Hid (sgsGo F none l = 15) := hidR (by rw [HX.out, sgs_one, HSE.out]; simp [hh1, hh2])
                    have d1 : decide (ph < 0) = false := by simpa using hh1
                    clear KC HSE
                    go_wp2
                    go_ret
                    exact ⟨by rw [HE.out]; rfl, HB3.out⟩
                  · have d1 : decide (ph < 0) = false := by simpa using hh1
                    have d2 : decide (65535 < ph) = false := by simpa using hh2
                    go_wp2_with fail
                    refine (KC _).mono ?_
                    rintro e w4 ⟨rfl, hb⟩
                    have HS4 := hidR (HS3.out.below hb)
                    have HN4 := hidR (HN3.out.below hb)
                    have HB4 := hidR (keepb hb HB3.out)
                    clear hb HS3 HN3 HB3 KC p0 p1 p2 p3 p4
                    obtain ⟨p0, p1, p2, p3, p4, -⟩ := HS4.out
                    obtain ⟨n0, n1, n2, n3, -⟩ := HN4.out
                    by_cases hcz : cz < 0
                    · have HE : Hid (sgsGo F none l = 19) := hidR (by
                        have e : sgE F ((px, py), ph) = 19 := by rw [HSE.out, if_pos trivial, if_pos trivial, if_neg (by omega), if_neg (by omega), if_pos hcz]
                        rw [HX.out, sgs_one, e]; rfl)
                      clear HSE
                      go_wp2
                      go_ret
                      exact ⟨by rw [HE.out]; rfl, HB4.out⟩
                    · have d3 : decide (cz < 0) = false := by simpa using hcz
                      have HSE0 : Hid (sgE F ((px, py), ph) = 0) := hidR (by rw [HSE.out, if_pos trivial, if_pos trivial, if_neg (by omega), if_neg (by omega), if_neg (by omega)])
                      clear HSE hh1 hh2 hcz
                      have hE0 := fun w => eqW_run px 0#128 w
                      simp only [hI_zero, lI_zero] at hE0
                      have hEL := fun w => eqW_run py mk w
                      rcases HP.out with hk0 | ⟨j, q, hkj, hq, hcq⟩
                      · have hq0 : prevO l k = none := by rw [hk0]; rfl
                        have g3 : ((k : Int) == 0) = true := by simp [hk0]
                        have g4 : decide ((0 : Int) < (k : Int)) = false := by simp [hk0]
                        have g5 : decide (0 < k) = false := by simp [hk0]
                        have HK0 := hidR hk0
                        cases hp0 : (px == 0#128)
                        · rw [hp0] at hE0
                          have HE : Hid (sgsGo F none l = 19) := hidR (by rw [HX.out, sgs_one, if_pos HSE0.out, hq0, if_pos (show moO F none = true from rfl), if_neg (by rw [show nxO F none = 0#128 from rfl, hp0]; decide)])
                          clear hEL hk0 hq0 HP
                          go_wp2
                          go_ret
                          exact ⟨by rw [HE.out]; rfl, HB4.out⟩
                        · rw [hp0] at hE0
                          have HC : Hid (sgsGo F (some ((px, py), ph)) (l.drop (k + 1)) = sgsGo F none l) := hidR (by rw [HX.out, sgs_one, if_pos HSE0.out, hq0, if_pos (show moO F none = true from rfl), if_pos (by rw [show nxO F none = 0#128 from rfl, hp0]), if_neg (by simp)])
                          clear hk0 hq0 HP
                          by_cases hkl : (k : Int) = (l.length : Int) - 1
                          · have dk : ((k : Int) == (l.length : Int) - 1) = true := by simp [hkl]
                            have hk1 : k + 1 = l.length := by omega
                            cases hpe : (py == mk)
                            · rw [hpe] at hEL
                              have HE : Hid (sgsGo F none l = 19) := hidR (by
                                rw [HX.out, HZ.out hk1]
                                exact sgs_end F _ _ HSE0.out (by rw [HMK.out]; simpa using hpe))
                              clear hkl hk1

                              go_wp2
                              go_ret
                              exact ⟨by rw [HE.out]; rfl, HB4.out⟩
                            · rw [hpe] at hEL
                              have HL : Hid (k + 1 = l.length → moO F (some ((px, py), ph)) = false) := hidR (fun _ => by
                                rw [moO, next_last F _ (sgE_zero F _ HSE0.out).2.1, HMK.out, hpe]; rfl)
                              clear hkl hk1
                              go_wp2
                              go_roundw
                              case rel =>
                                refine ⟨k + 1, by omega, by simp, ?_, ?_, HN4, HB4⟩
                                · show sgsGo F (prevO l (k + 1)) (l.drop (k + 1)) = sgsGo F none l
                                  rw [HS.out, HC.out]
                                · refine hidR (fun e => ?_)
                                  rw [HS.out]
                                  exact HL.out e
                              case measure => simp [intOf]; omega
                          · have dk : ((k : Int) == (l.length : Int) - 1) = false := by simpa using hkl
                            have HL : Hid (k + 1 = l.length → moO F (some ((px, py), ph)) = false) := hidR (fun e => absurd e (by omega))
                            clear hkl hEL
                            go_wp2
                            go_roundw
                            case rel =>
                              refine ⟨k + 1, by omega, by simp, ?_, ?_, HN4, HB4⟩
                              · show sgsGo F (prevO l (k + 1)) (l.drop (k + 1)) = sgsGo F none l
                                rw [HS.out, HC.out]
                              · refine hidR (fun e => ?_)
                                rw [HS.out]
                                exact HL.out e
                            case measure => simp [intOf]; omega
                      · have g0 : (0 : Int) < (k : Int) := by omega
                        have g1 : 0 < k := by omega
                        have g2 : decide (0 < k) = true := by simpa using g1
                        have g3 : ((k : Int) == 0) = false := by simp; omega
                        have m1 : IntKind.i64.wrap ((k : Int) - 1) = (j : Int) := by rw [IntKind.wrap_i64]; omega
                        have i1 : (0 : Int) ≤ (j : Int) := by omega
                        have i2 : (j : Int) < (l.length : Int) := by omega
                        have i3 : j < l.length := by omega
                        obtain ⟨c2, c3, c4⟩ := hcq w4 HB4.out
                        have KN := fun w => rnext_any F q.1.2 w
                        have HQq := hidR hq
                        have HCC : Hid (sgsGo F none l = if nextB F q.1.2 = true then (if (px == nextV F q.1.2) = true then (if q.2 = ph then 19 else sgsGo F (some ((px, py), ph)) (l.drop (k + 1))) else 19) else 19) := hidR (by
                          rw [HX.out, sgs_one, if_pos HSE0.out, hq]
                          simp only [moO, nxO, Option.map_some, Option.some.injEq])
                        have HKJ := hidR hkj
                        have HQ := hidR hcq
                        clear hkj hcq HP hE0 hq
                        revert KN HCC
                        generalize nextV F q.1.2 = nv
                        generalize nextB F q.1.2 = nb
                        intro KN HCC
                        have hEN := fun w => eqW_run nv px w
                        by_cases hkl : (k : Int) = (l.length : Int) - 1
                        · have dk : ((k : Int) == (l.length : Int) - 1) = true := by simp [hkl]
                          have hk1 : k + 1 = l.length := by omega
                          cases hpe : (py == mk)
                          · rw [hpe] at hEL
                            have HE : Hid (sgsGo F none l = 19) := hidR (by
                              rw [HX.out, HZ.out hk1]
                              exact sgs_end F _ _ HSE0.out (by rw [HMK.out]; simpa using hpe))
                            clear hkl hk1

                            go_wp2
                            go_ret
                            exact ⟨by rw [HE.out]; rfl, HB4.out⟩
                          · rw [hpe] at hEL
                            have HL : Hid (k + 1 = l.length → moO F (some ((px, py), ph)) = false) := hidR (fun _ => by
                              rw [moO, next_last F _ (sgE_zero F _ HSE0.out).2.1, HMK.out, hpe]; rfl)
                            clear hkl hk1
                            go_wp2_with fail
                            refine (KN _).mono ?_
                            rintro e w5 ⟨rfl, hb⟩
                            have A5 := at_new w5 w5.heap.size nv 27 rfl
                            have b5 := bl1 w5 (.cells #[.int .u64 (hI nv), .int .u64 (lI nv)] 27)
                            have HS5 := hidR ((HS4.out.below hb).below b5)
                            have HN5 := hidR ((HN4.out.below hb).below b5)
                            have HB5 := hidR (keepb b5 (keepb hb HB4.out))
                            have HQ5 := hidR (HQ.out _ HB5.out)
                            clear hb b5 HS4 HN4 HB4 KN p0 p1 p2 p3 p4 n0 n1 n2 n3 c2 c3 c4
                            obtain ⟨p0, p1, p2, p3, p4, -⟩ := HS5.out
                            obtain ⟨-, -, c4⟩ := HQ5.out
                            obtain ⟨y0, y1, -, -⟩ := A5
                            cases nb with
                            | false =>
                              have HE : Hid (sgsGo F none l = 19) := hidR (by rw [HCC.out]; rfl)
                              clear hEN HCC
                              go_wp2_with fail
                              go_quiet (fail)
                              go_wp2
                              go_ret
                              exact ⟨by rw [HE.out]; rfl, below_drewN HB5.out _⟩
                            | true =>
                              cases hpn : (nv == px)
                              · rw [hpn] at hEN
                                have HE : Hid (sgsGo F none l = 19) := hidR (by rw [HCC.out, if_pos rfl, if_neg (by intro e; have e2 : px = nv := (by simpa using e); rw [e2] at hpn; simp at hpn)])
                                clear HCC hpn
                                go_wp2_with fail
                                go_quiet (fail)
                                go_wp2
                                go_ret
                                exact ⟨by rw [HE.out]; rfl, below_drewN HB5.out _⟩
                              · rw [hpn] at hEN
                                have hpn' : (px == nv) = true := by have e2 : nv = px := (by simpa using hpn); rw [e2]; simp
                                by_cases hqh : q.2 = ph
                                · have dq : (q.2 == ph) = true := by simp [hqh]
                                  have HE : Hid (sgsGo F none l = 19) := hidR (by rw [HCC.out, if_pos rfl, if_pos hpn', if_pos hqh])
                                  clear HCC hpn hpn' hqh
                                  go_wp2_with fail
                                  go_quiet (fail)
                                  go_wp2
                                  go_ret
                                  exact ⟨by rw [HE.out]; rfl, below_drewN HB5.out _⟩
                                · have dq : (q.2 == ph) = false := by simp [hqh]
                                  have HC : Hid (sgsGo F (some ((px, py), ph)) (l.drop (k + 1)) = sgsGo F none l) := hidR (by rw [HCC.out, if_pos rfl, if_pos hpn', if_neg hqh])
                                  clear HCC hpn hpn' hqh
                                  go_wp2_with fail
                                  go_quiet (fail)
                                  go_wp2
                                  go_roundw
                                  case rel =>
                                    refine ⟨k + 1, by omega, by simp, ?_, ?_, (hidR (HN5.out.below (below_drewN (Below.refl _ _) _))), (hidR (below_drewN HB5.out _))⟩
                                    · show sgsGo F (prevO l (k + 1)) (l.drop (k + 1)) = sgsGo F none l
                                      rw [HS.out, HC.out]
                                    · refine hidR (fun e => ?_)
                                      rw [HS.out]
                                      exact HL.out e
                                  case measure => simp [intOf]; omega
                        · have dk : ((k : Int) == (l.length : Int) - 1) = false := by simpa using hkl
                          have HL : Hid (k + 1 = l.length → moO F (some ((px, py), ph)) = false) := hidR (fun e => absurd e (by omega))
                          clear hkl hEL
                          go_wp2_with fail
                          refine (KN _).mono ?_
                          rintro e w5 ⟨rfl, hb⟩
                          have A5 := at_new w5 w5.heap.size nv 27 rfl
                          have b5 := bl1 w5 (.cells #[.int .u64 (hI nv), .int .u64 (lI nv)] 27)
                          have HS5 := hidR ((HS4.out.below hb).below b5)
                          have HN5 := hidR ((HN4.out.below hb).below b5)
                          have HB5 := hidR (keepb b5 (keepb hb HB4.out))
                          have HQ5 := hidR (HQ.out _ HB5.out)
                          clear hb b5 HS4 HN4 HB4 KN p0 p1 p2 p3 p4 n0 n1 n2 n3 c2 c3 c4
                          obtain ⟨p0, p1, p2, p3, p4, -⟩ := HS5.out
                          obtain ⟨-, -, c4⟩ := HQ5.out
                          obtain ⟨y0, y1, -, -⟩ := A5
                          cases nb with
                          | false =>
                            have HE : Hid (sgsGo F none l = 19) := hidR (by rw [HCC.out]; rfl)
                            clear hEN HCC
                            go_wp2_with fail
                            go_quiet (fail)
                            go_wp2
                            go_ret
                            exact ⟨by rw [HE.out]; rfl, below_drewN HB5.out _⟩
                          | true =>
                            cases hpn : (nv == px)
                            · rw [hpn] at hEN
                              have HE : Hid (sgsGo F none l = 19) := hidR (by rw [HCC.out, if_pos rfl, if_neg (by intro e; have e2 : px = nv := (by simpa using e); rw [e2] at hpn; simp at hpn)])
                              clear HCC hpn
                              go_wp2_with fail
                              go_quiet (fail)
                              go_wp2
                              go_ret
                              exact ⟨by rw [HE.out]; rfl, below_drewN HB5.out _⟩
                            · rw [hpn] at hEN
                              have hpn' : (px == nv) = true := by have e2 : nv = px := (by simpa using hpn); rw [e2]; simp
                              by_cases hqh : q.2 = ph
                              · have dq : (q.2 == ph) = true := by simp [hqh]
                                have HE : Hid (sgsGo F none l = 19) := hidR (by rw [HCC.out, if_pos rfl, if_pos hpn', if_pos hqh])
                                clear HCC hpn hpn' hqh
                                go_wp2_with fail
                                go_quiet (fail)
                                go_wp2
                                go_ret
                                exact ⟨by rw [HE.out]; rfl, below_drewN HB5.out _⟩
                              · have dq : (q.2 == ph) = false := by simp [hqh]
                                have HC : Hid (sgsGo F (some ((px, py), ph)) (l.drop (k + 1)) = sgsGo F none l) := hidR (by rw [HCC.out, if_pos rfl, if_pos hpn', if_neg hqh])
                                clear HCC hpn hpn' hqh
                                go_wp2_with fail
                                go_quiet (fail)
                                go_wp2
                                go_roundw
                                case rel =>
                                  refine ⟨k + 1, by omega, by simp, ?_, ?_, (hidR (HN5.out.below (below_drewN (Below.refl _ _) _))), (hidR (below_drewN HB5.out _))⟩
                                  · show sgsGo F (prevO l (k + 1)) (l.drop (k + 1)) = sgsGo F none l
                                    rw [HS.out, HC.out]
                                  · refine hidR (fun e => ?_)
                                    rw [HS.out]
                                    exact HL.out e
                                case measure => simp [intOf]; omega
              · have HE : Hid (sgsGo F none l = 6) := hidR (by rw [HX.out, sgs_one, HSE.out]; simp [hry])
                have d1 : (ry != 0) = true := by simp [hry]
                clear KC HSE
                go_wp2
                go_ret
                exact ⟨by rw [HE.out]; rfl, HB3.out⟩
            · have HE : Hid (sgsGo F none l = 6) := hidR (by rw [HX.out, sgs_one, HSE.out]; simp [hrx])
              have d1 : (rx != 0) = true := by simp [hrx]
              clear KC KY HSE
              go_wp2
              go_ret
              exact ⟨by rw [HE.out]; rfl, HB2.out⟩
        · have hd : decide ((k : Int) < (l.length : Int)) = false := by simpa using hlt
          have hke : k = l.length := by omega
          have HE : Hid (sgsGo F none l = 0) := hidR (by rw [← hG.out, List.drop_eq_nil_of_le (by omega), sgsGo, HM.out hke]; rfl)
          clear hke
          go_wp2
          go_ret
          exact ⟨by rw [HE.out]; rfl, HB.out⟩
end Go.Proofs.YtonagfmkplbooaaGreatDoor
