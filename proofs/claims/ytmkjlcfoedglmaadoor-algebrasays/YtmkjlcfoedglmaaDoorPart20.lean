/-
  Part 20 of the proof: 3 texts, one behind the other.
-/
import Derived.Test.YtmkjlcfoedglmaaDoorPart9
import Derived.Test.YtmkjlcfoedglmaaDoorPart10
import Derived.Test.YtmkjlcfoedglmaaDoorPart11
import Derived.Test.YtmkjlcfoedglmaaDoorPart19
import Derived.Test.YtmkjlcfoedglmaaDoorPart8
import Derived.Test.YtmkjlcfoedglmaaDoorPart12
/-
  What the calls of package algebra's checkSeg and checkSegs do.
-/
namespace Go.Proofs.YtmkjlcfoedglmaaDoor
open Go.RowKit
set_option linter.unusedSimpArgs false
set_option linter.unusedVariables false

set_option maxHeartbeats 4000000 in
theorem checkSeg_any (F : Int) (x y : BitVec 128) (h : Int) (w : World) :
    Calls Tryd.prog 59 #[.int .i64 F, .agg #[.int .u64 (hI x), .int .u64 (lI x), .int .u64 (hI y), .int .u64 (lI y), .int .i64 h]] w fun e w' => e = .returned (.int .i64 (sgE F ((x, y), h))) ∧ Below w.heap.size w w' := by
  have KX := fun w => aright_any F x w
  have KY := fun w => aright_any F y w
  have KC := fun w => cmp_any y x w
  unfold sgE
  dsimp only
  revert KX KY KC
  generalize rightE F x = rx
  generalize rightE F y = ry
  generalize cmpZ y x = cz
  intro KX KY KC
  generalize hR : (if rx = 0 then (if ry = 0 then (if h < 0 then (15 : Int) else if 65535 < h then 15 else if cz < 0 then 19 else 0) else 6) else 6) = R
  have HR := hidR hR
  clear hR
  have A0 := hidR (atg_new w w.heap.size x y h 39 rfl)
  have B0 := hidR (bl1 w (.cells #[.int .u64 (hI x), .int .u64 (lI x), .int .u64 (hI y), .int .u64 (lI y), .int .i64 h] 39))
  obtain ⟨p0, p1, p2, p3, p4, -⟩ := A0.out
  go_enter Tryd.func59, Tryd.ntmps59
  by_cases h1 : rx = 0
  · subst h1
    go_wp2_with fail
    refine (KX _).mono ?_
    rintro e w1 ⟨rfl, hb⟩
    have B1 := hidR (keepb hb B0.out)
    have A1 := hidR (A0.out.below hb)
    obtain ⟨q0, q1, q2, q3, q4, -⟩ := A1.out
    clear KX hb B0 A0 p0 p1 p2 p3 p4
    go_wp2_with fail
    refine (KY _).mono ?_
    rintro e w2 ⟨rfl, hb⟩
    have B2 := hidR (keepb hb B1.out)
    have A2 := hidR (A1.out.below hb)
    obtain ⟨r0, r1, r2, r3, r4, -⟩ := A2.out
    clear KY hb B1 A1 q0 q1 q2 q3 q4
    by_cases h2 : ry = 0
    · subst h2
      by_cases h3 : h < 0
      · clear KC
        go_wp2
        go_ret
        exact ⟨by rw [← HR.out]; simp [*], B2.out⟩
      · by_cases h4 : 65535 < h
        · clear KC
          have d3 : decide (h < 0) = false := by simpa using h3
          go_wp2
          go_ret
          exact ⟨by rw [← HR.out]; simp [*], B2.out⟩
        · have d3 : decide (h < 0) = false := by simpa using h3
          have d4 : decide (65535 < h) = false := by simpa using h4
          go_wp2_with fail
          refine (KC _).mono ?_
          rintro e w3 ⟨rfl, hb⟩
          have B3 := hidR (keepb hb B2.out)
          clear KC hb B2 A2 r0 r1 r2 r3 r4
          by_cases h5 : cz < 0
          · go_wp2
            go_ret
            exact ⟨by rw [← HR.out, if_pos trivial, if_pos trivial, if_neg (by omega), if_neg (by omega), if_pos h5]; rfl, B3.out⟩
          · have d5 : decide (cz < 0) = false := by simpa using h5
            go_wp2
            go_ret
            exact ⟨by rw [← HR.out, if_pos trivial, if_pos trivial, if_neg (by omega), if_neg (by omega), if_neg (by omega)]; rfl, B3.out⟩
    · have d2 : (ry != 0) = true := by simp [h2]
      clear KC
      go_wp2
      go_ret
      exact ⟨by rw [← HR.out]; simp [*], B2.out⟩
  · have d1 : (rx != 0) = true := by simp [h1]
    go_wp2_with fail
    refine (KX _).mono ?_
    rintro e w1 ⟨rfl, hb⟩
    have B1 := hidR (keepb hb B0.out)
    clear KX hb B0 A0 p0 p1 p2 p3 p4 KY KC
    go_wp2
    go_ret
    exact ⟨by rw [← HR.out]; simp [*], B1.out⟩
/-- The segment ahead of place k. -/
def prevO (l : List Sg) : Nat → Option Sg
  | 0 => none
  | k + 1 => l[k]?
theorem sgs_drop (F : Int) (l : List Sg) (k : Nat) (hk : k < l.length) (p : Option Sg) : sgsGo F p (l.drop k) = if sgE F l[k] = 0 then (if moO F p = true then (if (l[k].1.1 == nxO F p) = true then (if p.map (·.2) = some l[k].2 then 19 else sgsGo F (some l[k]) (l.drop (k + 1))) else 19) else 19) else sgE F l[k] := by
  rw [List.drop_eq_getElem_cons hk, sgsGo]
set_option maxHeartbeats 8000000 in
theorem checkSegs_any (F : Int) (v : Value) (l : List Sg) (w : World) (hv : RwG w v l) (hll : l.length ≤ 1000000000) :
    Calls Tryd.prog 35 #[.int .i64 F, v] w fun e w' => e = .returned (.int .i64 (sgsE F l)) ∧ Below w.heap.size w w' := by
  obtain ⟨ao, c, rfl, hv⟩ := hv
  have KL := fun w => alast_any F w
  unfold lastV lastE at KL
  unfold sgsE
  cases hf : fam F
  · rw [hf, if_neg (by simp), if_neg (by simp), hI_zero, lI_zero] at KL
    rw [if_neg (by simp)]
    clear hf hv
    go_enter Tryd.func35, Tryd.ntmps35
    go_wp2_with fail
    refine (KL _).mono ?_
    rintro e w1 ⟨rfl, hb⟩
    clear KL
    go_wp2
    go_ret
    exact ⟨rfl, hb.alloc hb.size _⟩
  · rw [hf, if_pos rfl, if_pos rfl] at KL
    rw [if_pos rfl]
    have HV := hidR hv
    clear hf hv
    generalize maskW F = mk at *
    by_cases hl : l = []
    · rw [if_pos hl]
      have h1 : ((l.length : Int) == 0) = true := by rw [hl]; rfl
      go_enter Tryd.func35, Tryd.ntmps35
      go_wp2_with fail
      refine (KL _).mono ?_
      rintro e w1 ⟨rfl, hb⟩
      clear KL
      go_wp2
      go_ret
      exact ⟨rfl, hb.alloc hb.size _⟩
    · rw [if_neg hl]
      have h1 : ((l.length : Int) == 0) = false := by
        have : l.length ≠ 0 := fun e => hl (List.length_eq_zero_iff.mp e)
        simpa using this
      go_enter Tryd.func35, Tryd.ntmps35
      go_wp2_with fail
      refine (KL _).mono ?_
      rintro e w1 ⟨rfl, hb⟩
      have kB0 := hb.alloc hb.size (.cells #[.int .u64 (hI mk), .int .u64 (lI mk)] 27)
      have kB := hidR (kB0.alloc kB0.size (.cells #[.int .u64 0, .int .u64 0] 27))
      have HN := hidR (at_new (w1.alloc (.cells #[.int .u64 (hI mk), .int .u64 (lI mk)] 27)) (w1.heap.size + 1) 0#128 27 (by simp))
      have hle : w.heap.size ≤ w1.heap.size + 1 := by have := hb.size; omega
      clear KL hb kB0
      go_wp2_with fail
      go_loopw [8, 26] (fun mv i wr => ∃ k : Nat, k ≤ l.length ∧ i = .int .i64 k ∧ mv = .bool (moO F (prevO l k)) ∧ Hid (sgsGo F (prevO l k) (l.drop k) = sgsGo F none l) ∧ Hid (At wr (w1.heap.size + 1) (nxO F (prevO l k))) ∧ Hid (Below w.heap.size w wr)) (fun _ i _ => l.length - (intOf i).toNat)
      case atStart => exact ⟨0, by omega, rfl, rfl, hidR rfl, HN, kB⟩
      case round =>
        clear kB HN
        obtain ⟨k, hk, rfl, rfl, hG, HN, HB⟩ := hrel
        by_cases hlt : (k : Int) < (l.length : Int)
        · have hks : k < l.length := by omega
          rcases HV.out with h | ⟨b, off, rfl, hc⟩
          · rw [h] at hks; simp at hks
          · obtain ⟨x0, x1, x2, x3, x4⟩ := rwg_cells hc k hks
            have x0 := keepc HB.out x0
            have x1 := keepc HB.out x1
            have x2 := keepc HB.out x2
            have x3 := keepc HB.out x3
            have x4 := keepc HB.out x4
            have KC := fun w => checkSeg_any F l[k].1.1 l[k].1.2 l[k].2 w
            have KX := fun w => anext_any F l[k].1.2 w
            have eS : ((l[k].1.1, l[k].1.2), l[k].2) = l[k] := rfl
            rw [eS] at KC
            have HD := hidR (sgs_drop F l k hks (prevO l k))
            have HP : Hid (k = 0 ∨ ∃ (j : Nat) (q : Sg), k = j + 1 ∧ prevO l k = some q ∧ ∀ W, Below w.heap.size w W → W.cell? ⟨b, off + j * 5 + 4, none⟩ = some (.int .i64 q.2)) := hidR (by
              cases k with
              | zero => exact .inl rfl
              | succ k =>
                refine .inr ⟨k, l[k], rfl, by rw [prevO, List.getElem?_eq_getElem (by omega)], fun W hW => ?_⟩
                have := (rwg_cells hc k (by omega)).2.2.2.2
                exact keepc hW this)
            have HS : Hid (prevO l (k + 1) = some l[k]) := hidR (by rw [prevO, List.getElem?_eq_getElem hks])
            have hnx : Hid (nxO F (some l[k]) = nextV F l[k].1.2 ∧ moO F (some l[k]) = nextB F l[k].1.2) := hidR ⟨rfl, rfl⟩
            clear hc HV eS
            revert KC KX HD HS hnx
            generalize sgE F l[k] = ce
            generalize hlk : l[k] = s
            generalize nextV F s.1.2 = nv
            generalize nextB F s.1.2 = nb
            rw [hlk] at x0 x1 x2 x3 x4
            clear hlk
            obtain ⟨⟨px, py⟩, ph⟩ := s
            dsimp only at x0 x1 x2 x3 x4 ⊢
            intro KC KX HD HS hnx
            have P0 := atg_new wr wr.heap.size px py ph 39 rfl
            obtain ⟨p0, p1, p2, p3, p4, -⟩ := id P0
            go_wp2_with fail
            refine (KC _).mono ?_
            rintro e w2 ⟨rfl, hb⟩
            have kB2 := hidR (keepb hb (HB.out.alloc HB.out.size (.cells #[.int .u64 (hI px), .int .u64 (lI px), .int .u64 (hI py), .int .u64 (lI py), .int .i64 ph] 39)))
            have HN2 := hidR ((HN.out.below (bl1 wr (.cells #[.int .u64 (hI px), .int .u64 (lI px), .int .u64 (hI py), .int .u64 (lI py), .int .i64 ph] 39))).below hb)
            have HS2 := hidR (P0.below hb)
            obtain ⟨n0, n1, n2, n3, -⟩ := HN2.out
            obtain ⟨q0, q1, q2, q3, q4, -⟩ := HS2.out
            clear hb KC x0 x1 x2 x3 x4 p0 p1 p2 p3 p4 P0 HN HB
            by_cases hce : ce = 0
            · subst hce
              have hk2 : IntKind.i64.wrap ((k : Int) + 1) = (k : Int) + 1 := by rw [IntKind.wrap_i64]; omega
              have hE := fun w => eqW_run px (nxO F (prevO l k)) w
              have hG2 : Hid (sgsGo F none l = if moO F (prevO l k) = true then (if (px == nxO F (prevO l k)) = true then (if (prevO l k).map (·.2) = some ph then 19 else sgsGo F (some ((px, py), ph)) (l.drop (k + 1))) else 19) else 19) := hidR (by rw [← hG.out, HD.out, if_pos rfl])
              clear HD hG
              cases hmo : moO F (prevO l k)
              · have HE : Hid (sgsGo F none l = 19) := hidR (by rw [hG2.out, hmo]; rfl)
                clear hE KX HP
                go_wp2_with fail
                go_quiet (fail)
                go_wp2
                go_ret
                exact ⟨by rw [HE.out]; rfl, below_drewN kB2.out _⟩
              · cases hpe : (px == nxO F (prevO l k))
                · have HE : Hid (sgsGo F none l = 19) := hidR (by rw [hG2.out, hmo, hpe]; rfl)
                  rw [hpe] at hE
                  clear KX HP
                  go_wp2_with fail
                  go_quiet (fail)
                  go_wp2
                  go_ret
                  exact ⟨by rw [HE.out]; rfl, below_drewN kB2.out _⟩
                · rw [hpe] at hE
                  rcases HP.out with rfl | ⟨j, q, hkj, hq, hcq⟩
                  · have HC : Hid (sgsGo F (some ((px, py), ph)) (l.drop (0 + 1)) = sgsGo F none l) := hidR (by rw [hG2.out, hmo, hpe]; rfl)
                    clear HP hG2 hpe hmo
                    go_wp2_with fail
                    go_quiet (fail)
                    go_wp2_with fail
                    refine (KX _).mono ?_
                    rintro e w3 ⟨rfl, hb⟩
                    have bq := below_drewN (Below.refl w2.heap.size w2) nq
                    have HN3 := hidR (((HN2.out.below bq).below hb).set nv)
                    obtain ⟨y0, y1, y2, y3, -⟩ := (HN2.out.below bq).below hb
                    have kB3 := hidR (bset2 (keepb hb (below_drewN kB2.out nq)) hle (.int .u64 (hI nv)) (.int .u64 (lI nv)))
                    clear hb KX n0 n1 n2 n3 q0 q1 q2 q3 q4 hE
                    go_wp2
                    go_roundw
                    case rel =>
                      refine ⟨0 + 1, by omega, by simp, ?_, ?_, ?_, kB3⟩
                      · rw [HS.out, hnx.out.2]
                      · show sgsGo F (prevO l (0 + 1)) (l.drop (0 + 1)) = sgsGo F none l
                        rw [HS.out, HC.out]
                      · show At _ _ _
                        rw [HS.out, hnx.out.1]; exact HN3.out
                    case measure => simp [intOf]; omega
                  · have r4 := hcq w2 kB2.out
                    have m1 : IntKind.i64.wrap ((k : Int) - 1) = (j : Int) := by rw [IntKind.wrap_i64]; omega
                    have g1 : (0 : Int) < (k : Int) := by omega
                    have g5 : 0 < k := by omega
                    have g6 : decide (0 < k) = true := by simpa using g5
                    have g7 : decide ((0 : Int) < (k : Int)) = true := by simpa using g5
                    have g2 : (0 : Int) ≤ (j : Int) := by omega
                    have g3 : (j : Int) < (l.length : Int) := by omega
                    have g4 : j < l.length := by omega
                    have HKJ := hidR hkj
                    clear hkj
                    by_cases hh : ph = q.2
                    · have HE : Hid (sgsGo F none l = 19) := hidR (by rw [hG2.out, hmo, hpe, hq]; simp [hh])
                      have dh : (ph == q.2) = true := by simp [hh]
                      clear HP hG2 hpe hmo hcq hq KX
                      go_wp2_with fail
                      go_quiet (fail)
                      go_wp2
                      go_ret
                      exact ⟨by rw [HE.out]; rfl, below_drewN kB2.out _⟩
                    · have HC : Hid (sgsGo F (some ((px, py), ph)) (l.drop (k + 1)) = sgsGo F none l) := hidR (by rw [hG2.out, hmo, hpe, hq]; simp [show ¬ q.2 = ph from fun e => hh e.symm])
                      have dh : (ph == q.2) = false := by simp [hh]
                      clear HP hG2 hpe hmo hcq hq
                      go_wp2_with fail
                      go_quiet (fail)
                      go_wp2_with fail
                      refine (KX _).mono ?_
                      rintro e w3 ⟨rfl, hb⟩
                      have bq := below_drewN (Below.refl w2.heap.size w2) nq
                      have HN3 := hidR (((HN2.out.below bq).below hb).set nv)
                      obtain ⟨y0, y1, y2, y3, -⟩ := (HN2.out.below bq).below hb
                      have kB3 := hidR (bset2 (keepb hb (below_drewN kB2.out nq)) hle (.int .u64 (hI nv)) (.int .u64 (lI nv)))
                      clear hb KX n0 n1 n2 n3 q0 q1 q2 q3 q4 hE
                      go_wp2
                      go_roundw
                      case rel =>
                        refine ⟨k + 1, by omega, by simp, ?_, ?_, ?_, kB3⟩
                        · rw [HS.out, hnx.out.2]
                        · show sgsGo F (prevO l (k + 1)) (l.drop (k + 1)) = sgsGo F none l
                          rw [HS.out, HC.out]
                        · show At _ _ _
                          rw [HS.out, hnx.out.1]; exact HN3.out
                      case measure => simp [intOf]; omega
            · have hn : (ce != 0) = true := by simp [hce]
              have HE : Hid (sgsGo F none l = ce) := by show _ = _; rw [← hG.out, HD.out, if_neg hce]
              clear n0 n1 n2 n3 q0 q1 q2 q3 q4
              go_wp2
              go_ret
              exact ⟨by rw [HE.out]; rfl, kB2.out⟩
        · have hd : decide ((k : Int) < (l.length : Int)) = false := by simpa using hlt
          have HE : Hid (sgsGo F none l = if moO F (prevO l k) = true then 19 else 0) := by
            show _ = _
            rw [← hG.out, List.drop_eq_nil_of_le (by omega), sgsGo]
          cases hm : moO F (prevO l k)
          · rw [hm] at HE
            go_wp2
            go_ret
            exact ⟨by rw [HE.out]; rfl, HB.out⟩
          · rw [hm] at HE
            go_wp2
            go_ret
            exact ⟨by rw [HE.out]; rfl, HB.out⟩
end Go.Proofs.YtmkjlcfoedglmaaDoor
/-
  What the calls of package algebra's Table and of the law's known do.
-/
namespace Go.Proofs.YtmkjlcfoedglmaaDoor
open Go.RowKit
set_option linter.unusedSimpArgs false
set_option linter.unusedVariables false

/-- What Table tells of some segments. -/
def tW (F : Int) (l : List Sg) : Int := if sgsE F l = 0 then tabW F l else 0
def tX (F : Int) (l : List Sg) : Int := if sgsE F l = 0 then tabX F l else sgsE F l
def tL (F : Int) (l : List Sg) : List Rte := if sgsE F l = 0 then tabL F l else []
theorem t_yes {F : Int} {l : List Sg} (h : sgsE F l = 0) : tW F l = tabW F l ∧ tX F l = tabX F l ∧ tL F l = tabL F l := by
  unfold tW tX tL
  rw [if_pos h, if_pos h, if_pos h]
  exact ⟨rfl, rfl, rfl⟩
theorem t_no {F : Int} {l : List Sg} (h : ¬ sgsE F l = 0) : tW F l = 0 ∧ tX F l = sgsE F l ∧ tL F l = [] := by
  unfold tW tX tL
  rw [if_neg h, if_neg h, if_neg h]
  exact ⟨rfl, rfl, rfl⟩
set_option maxRecDepth 20000 in
set_option maxHeartbeats 8000000 in
theorem table6_any (F : Int) (v : Value) (l : List Sg) (w : World) (hT : Tab w) (hv : RwG w v l) (hl : l.length ≤ 1000000000) :
    Calls Tryd.prog 14 #[.int .i64 F, v] w fun e w' => (∃ v', e = .returned (.tuple #[.agg #[.int .i64 (tW F l), v'], .int .i64 (tX F l)]) ∧ w'.ownsRow w.heap.size 53 4 v' (tL F l).length (rowR (tL F l))) ∧ Below w.heap.size w w' := by
  have b0 := bl1 w (.cells #[.int .i64 0, .slice none 0 0] 24)
  have KC := checkSegs_any F v l _ (hv.below b0) hl
  have HK : Hid (∀ W, Below w.heap.size w W → Calls Tryd.prog 36 #[.int .i64 F, v] W fun e w' => (∃ v', e = .returned (.tuple #[.agg #[.int .i64 (tabW F l), v'], .int .i64 (tabX F l)]) ∧ w'.ownsRow W.heap.size 53 4 v' (tabL F l).length (rowR (tabL F l))) ∧ Below W.heap.size W w') := hidR (fun W hW => covered_any F v l W (hT.keep hW) (hv.below hW) hl)
  have HU := hidR (atu_new w w.heap.size 0 (.slice none 0 0) 24 rfl)
  have HB := hidR b0
  have HY : Hid (sgsE F l = 0 → tW F l = tabW F l ∧ tX F l = tabX F l ∧ tL F l = tabL F l) := hidR t_yes
  have HN : Hid (¬ sgsE F l = 0 → tW F l = 0 ∧ tX F l = sgsE F l ∧ tL F l = []) := hidR t_no
  obtain ⟨ao, c, rfl, -⟩ := hv
  clear b0 hT
  revert KC HY HN HK
  generalize sgsE F l = ce
  generalize tW F l = tw
  generalize tX F l = tx
  generalize tL F l = tl
  generalize tabW F l = aw
  generalize tabX F l = ax
  generalize tabL F l = al
  intro HY HN KC HK
  go_enter Tryd.func14, Tryd.ntmps14
  go_wp2_with fail
  refine KC.mono ?_
  rintro e w1 ⟨rfl, hb⟩
  have HB1 := hidR (keepb hb HB.out)
  have HU1 := hidR (HU.out.heap (hb.block _ HU.out.lt))
  clear KC hb HB HU
  by_cases hce : ce = 0
  · subst hce
    have HY1 := hidR (HY.out rfl)
    clear HY HN
    have KV := HK.out w1 HB1.out
    go_wp2_with fail
    refine KV.mono ?_
    rintro e w2 ⟨⟨v', rfl, hown⟩, hb⟩
    have HU2 := hidR (HU1.out.heap (hb.block _ HU1.out.lt))
    have HB2 := hidR (bset2 (keepb hb HB1.out) (Nat.le_refl w.heap.size) (.int .i64 aw) v')
    have hlt := HU1.out.lt
    have HO : Hid (((w2.setCell ⟨w.heap.size, 0, none⟩ (.int .i64 aw)).setCell ⟨w.heap.size, 1, none⟩ v').ownsRow w.heap.size 53 4 v' al.length (rowR al)) := hidR (own_wide (own_heap hown (fun g e => by
      have := (hown.lt g e).1
      rw [hSet _ (by omega), hSet _ (by omega)])) HB1.out.size)
    obtain ⟨u0, u1, u2, u3⟩ := HU2.out
    obtain ⟨s0, s1, -, -⟩ := HU2.out.set2 aw v'
    obtain ⟨av, cv', rfl⟩ := own_form hown
    clear KV hb hown HK HU1 hlt
    go_wp2
    exact bodyPost_ret (v := .tuple #[.agg #[.int .i64 aw, .slice av al.length cv'], .int .i64 ax]) (by simp [results, Tryd.results14, go_sem, s0, s1]) rfl ⟨⟨_, by rw [HY1.out.1, HY1.out.2.1], by rw [HY1.out.2.2]; exact HO.out⟩, HB2.out⟩
  · have hn : (ce != 0) = true := by simp [hce]
    have HN1 := hidR (HN.out hce)
    obtain ⟨u0, u1, u2, u3⟩ := HU1.out
    have HB2 := hidR (bset2 HB1.out (Nat.le_refl w.heap.size) (.int .i64 0) (.slice none 0 0))
    obtain ⟨s0, s1, -, -⟩ := HU1.out.set2 0 (.slice none 0 0)
    clear HK HY HN hce
    go_wp2
    exact bodyPost_ret (v := .tuple #[.agg #[.int .i64 0, .slice none 0 0], .int .i64 ce]) (by simp [results, Tryd.results14, go_sem, s0, s1]) rfl ⟨⟨.slice none 0 0, by rw [HN1.out.1, HN1.out.2.1], by rw [HN1.out.2.2]; exact World.ownsRow_nil _ _ _ _⟩, HB2.out⟩
/-- The chapter's first example, as it is asked. -/
def kn0 : List Rte := [((0x0a000000000000000000000000000000#128, 8), 1)]
theorem kn_swp : swp 32 kn0 = [((0#128, 0x09ffffff000000000000000000000000#128), 0), ((0x0a000000000000000000000000000000#128, 0x0affffff000000000000000000000000#128), 1), ((0x0b000000000000000000000000000000#128, 0xffffffff000000000000000000000000#128), 0)] := by decide +kernel
theorem kn_rts : rtsE 32 kn0 = 0 := by decide +kernel
theorem kn_tab (z : Int) (h : TabE 32 kn0 z) : z = 0 := by
  rcases h.2 kn_rts with ⟨_, h⟩ | ⟨h, _⟩
  · exact h
  · exfalso
    apply h
    intro a ha
    simp [kn0] at ha
theorem kn_rwr (w : World) : RwR (w.alloc (.cells #[.int .u64 720575940379279360, .int .u64 0, .int .i64 8, .int .i64 1] 53)) (.slice (some ⟨w.heap.size, 0, none⟩) 1 1) kn0 := by
  refine ⟨some ⟨w.heap.size, 0, none⟩, 1, rfl, .inr ⟨w.heap.size, 0, rfl, ?_⟩⟩
  intro j u hj
  have h0 : hI 0x0a000000000000000000000000000000#128 = 720575940379279360 := by decide
  have h1 : lI 0x0a000000000000000000000000000000#128 = 0 := by decide
  have e : rowR kn0 = [.int .u64 720575940379279360, .int .u64 0, .int .i64 8, .int .i64 1] := by simp [kn0, rowR, h0, h1]
  rw [e] at hj
  rw [Nat.zero_add]
  match j, hj with
  | 0, hj => simp at hj; subst hj; simp [go_sem]
  | 1, hj => simp at hj; subst hj; simp [go_sem]
  | 2, hj => simp at hj; subst hj; simp [go_sem]
  | 3, hj => simp at hj; subst hj; simp [go_sem]
set_option maxRecDepth 20000 in
set_option maxHeartbeats 8000000 in
theorem known6_any (w : World) : Calls Tryd.prog 6 #[] w fun e w' => e = .returned (.bool true) ∧ Below w.heap.size w w' := by
  have KS := segs_any 32 _ kn0 _ (kn_rwr w)
  have HB := hidR (bl1 w (.cells #[.int .u64 720575940379279360, .int .u64 0, .int .i64 8, .int .i64 1] 53))
  go_enter Tryd.func6, Tryd.ntmps6
  go_wp2_with fail
  refine KS.mono ?_
  rintro e w1 ⟨⟨z, v', hz, rfl, hown, -⟩, hb⟩
  have hz0 := kn_tab z hz
  subst hz0
  have hown := hown rfl
  rw [kn_swp] at hown
  have HB1 := hidR (keepb hb HB.out)
  obtain ⟨g, cap, e, -, -⟩ := hown.form (by simp)
  have e : v' = .slice (some ⟨g, 0, none⟩) 3 cap := e
  subst e
  obtain ⟨c0, c1, -, -, c4⟩ := ownG_cells (g := g) (n := 3) hown 1 (by simp)
  have h0 : hI 0x0a000000000000000000000000000000#128 = 720575940379279360 := by decide
  have h1 : lI 0x0a000000000000000000000000000000#128 = 0 := by decide
  simp only [List.getElem_cons_succ, List.getElem_cons_zero, h0, h1] at c0 c1 c4
  clear KS hb HB hown hz
  go_wp2
  go_ret
  exact ⟨rfl, HB1.out⟩
end Go.Proofs.YtmkjlcfoedglmaaDoor
/-
  Neighbours in a table of segments: in order, none within the other, no siblings with one hop.
-/
namespace Go.Proofs.YtmkjlcfoedglmaaDoor
set_option linter.unusedSimpArgs false
set_option linter.unusedVariables false

theorem sib_sb (F : Int) (a b : BitVec 128 × Int) (hF : F ≤ 128) (hb : Rt F b.1 b.2) (hn : 0 < b.2) (lt : a.1.toNat < b.1.toNat) (h1 : a.1 = sibV b.1 b.2) (h2 : a.2 = sibN b.2) : Sb a b := by
  have h0 := hb.1
  have hb1 := hb.2.1
  have hz : Rt F (cutW b.1 (b.2 - 1)) (b.2 - 1) := ⟨by omega, by omega, maskW_idem b.1 (b.2 - 1)⟩
  unfold sibN at h2
  rw [if_neg (by omega)] at h2
  rcases half_or F b.1 b.2 hb hn hF with q | q
  · exfalso
    rw [q] at hz
    have s := (kid_sibL F b.1 (b.2 - 1) hz (by omega) hF).1
    rw [show b.2 - 1 + 1 = b.2 by omega, ← h1] at s
    have k := kid_nat F b.1 (b.2 - 1) hz (by omega) hF
    rw [← s] at k
    have := Nat.two_pow_pos (127 - (b.2 - 1).toNat)
    omega
  · have s := kid_sibH F (cutW b.1 (b.2 - 1)) (b.2 - 1) hz (by omega) hF
    rw [q, show b.2 - 1 + 1 = b.2 by omega, ← h1] at s
    have k := kid_nat F (cutW b.1 (b.2 - 1)) (b.2 - 1) hz (by omega) hF
    rw [q, ← s] at k
    refine ⟨h2, hn, ?_, ?_⟩
    · rw [k, show 127 - (b.2 - 1).toNat = 128 - b.2.toNat by omega]
    · have d := (cut_dvd _ _).mp hz.2.2
      rw [← s] at d
      exact d
/-- What is known of neighbours. -/
def Ngb (a b : Rte) : Prop := pcmpZ a.1.1 a.1.2 b.1.1 b.1.2 < 0 ∧ rwithinB b.1.1 b.1.2 a.1.1 a.1.2 = false ∧ (0 < b.1.2 → ((a.1.1 == sibV b.1.1 b.1.2) && (a.1.2 == sibN b.1.2) && (a.2 == b.2)) = false) ∧ 0 ≤ b.1.2 ∧ b.1.2 ≤ 128 ∧ rsibV b.1.1 b.1.2 = sibV b.1.1 b.1.2
theorem covR_ngb (F : Int) (hf : fam F = true) (l : List Sg) (h : sgsGo F none l = 0) (j : Nat) (hj : j + 1 < (covR F l).length) : Ngb (covR F l)[j] (covR F l)[j + 1] := by
  obtain ⟨a1, a2, a3, a4⟩ := covR_table F hf l h
  obtain ⟨f0, f1⟩ := fam_bd F hf
  have g2 := List.pairwise_iff_getElem.mp a2 j (j + 1) (by omega) hj (by omega)
  have g3 := List.pairwise_iff_getElem.mp a3 j (j + 1) (by omega) hj (by omega)
  have ra := (a1 (covR F l)[j] (List.getElem_mem _)).1.1
  have rb := (a1 (covR F l)[j + 1] (List.getElem_mem _)).1.1
  generalize (covR F l)[j] = a at *
  generalize (covR F l)[j + 1] = b at *
  have la := rt_le F _ _ ra
  have b0 := rb.1
  have b1 := rb.2.1
  have a0 := ra.1
  have a1' := ra.2.1
  have lt : a.1.1.toNat < b.1.1.toNat := by have := g2.1; omega
  refine ⟨g3, ?_, fun hn => ?_, by omega, by omega, sib_eq F _ _ rb f1⟩
  · rw [within_eq _ _ _ _ ra.1 (by omega) ra.2.2]
    cases e : withinB b.1.1 b.1.2 a.1.1 a.1.2 with
    | false => rfl
    | true =>
      obtain ⟨_, q⟩ := (within_iff _ _ _ _).mp e
      have := ((has_ends F _ _ ra b.1.1 (rt_fam F _ _ rb)).mp q).2
      have := g2.1
      omega
  · cases e1 : (a.1.1 == sibV b.1.1 b.1.2) with
    | false => rfl
    | true =>
      cases e2 : (a.1.2 == sibN b.1.2) with
      | false => rfl
      | true =>
        cases e3 : (a.2 == b.2) with
        | false => rfl
        | true =>
          exact absurd ⟨by simpa using e3, sib_sb F a.1 b.1 f1 rb hn lt (by simpa using e1) (by simpa using e2)⟩ g2.2
/-- What Table tells of the segments of a right table. -/
theorem tab_segs (F : Int) (l : List Rte) (h : TabE F l 0) (hn : l.length ≤ 9000) : tX F (swp F l) = 0 ∧ tL F (swp F l) = covR F (swp F l) ∧ tW F (swp F l) = F ∧ fam F = true ∧ sgsGo F none (swp F l) = 0 := by
  obtain ⟨hf, n1, hL, hO⟩ := tab_ok h
  obtain ⟨a, b⟩ := swp_right F hf l hL hO
  have e : sgsE F (swp F l) = 0 := by
    unfold sgsE
    rw [if_pos hf, if_neg (fun q => by rw [q] at a; simp [sgsGo, moO] at a), a]
  obtain ⟨t1, t2, t3⟩ := t_yes e
  obtain ⟨u1, u2, u3⟩ := tab_yes (swp_fits F hf l hL hO hn)
  exact ⟨by rw [t2, u2], by rw [t3, u3], by rw [t1, u1], hf, a⟩
end Go.Proofs.YtmkjlcfoedglmaaDoor
