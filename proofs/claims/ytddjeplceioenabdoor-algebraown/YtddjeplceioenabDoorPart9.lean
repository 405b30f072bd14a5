/-
  Part 9 of the proof: 2 texts, one behind the other.
-/
import Derived.Test.YtddjeplceioenabDoorPart3
import Derived.Test.YtddjeplceioenabDoorPart5
import Derived.Test.YtddjeplceioenabDoorPart6
/-
  What the calls of package algebra's checkSeg and checkSegs do.
-/
namespace Go.Proofs.YtddjeplceioenabDoor
open Go.RowKit
set_option linter.unusedSimpArgs false
set_option linter.unusedVariables false

set_option maxHeartbeats 4000000 in
theorem checkSeg_any (F : Int) (x y : BitVec 128) (h : Int) (w : World) :
    Calls Tryd.prog 60 #[.int .i64 F, .agg #[.int .u64 (hI x), .int .u64 (lI x), .int .u64 (hI y), .int .u64 (lI y), .int .i64 h]] w fun e w' => e = .returned (.int .i64 (sgE F ((x, y), h))) ∧ Below w.heap.size w w' := by
  have KX := fun w => aright_any F x w
  have KY := fun w => aright_any F y w
  have KC := fun w => cmp_any y x w
  unfold sgE
  dsimp only
  revert KX KY KC
  generalize rightE F x = rx
  generalize rightE F y = ry
  generalize cmpZ y x = cz
  intro KX KY KC
  generalize hR : (if rx = 0 then (if ry = 0 then (if h < 0 then (15 : Int) else if 65535 < h then 15 else if cz < 0 then 19 else 0) else 6) else 6) = R
  have HR := hidR hR
  clear hR
  have A0 := hidR (atg_new w w.heap.size x y h 51 rfl)
  have B0 := hidR (bl1 w (.cells #[.int .u64 (hI x), .int .u64 (lI x), .int .u64 (hI y), .int .u64 (lI y), .int .i64 h] 51))
  obtain ⟨p0, p1, p2, p3, p4, -⟩ := A0.out
  go_enter Tryd.func60, Tryd.ntmps60
  by_cases h1 : rx = 0
  · subst h1
    go_wp2_with fail
    refine (KX _).mono ?_
    rintro e w1 ⟨rfl, hb⟩
    have B1 := hidR (keepb hb B0.out)
    have A1 := hidR (A0.out.below hb)
    obtain ⟨q0, q1, q2, q3, q4, -⟩ := A1.out
    clear KX hb B0 A0 p0 p1 p2 p3 p4
    go_wp2_with fail
    refine (KY _).mono ?_
    rintro e w2 ⟨rfl, hb⟩
    have B2 := hidR (keepb hb B1.out)
    have A2 := hidR (A1.out.below hb)
    obtain ⟨r0, r1, r2, r3, r4, -⟩ := A2.out
    clear KY hb B1 A1 q0 q1 q2 q3 q4
    by_cases h2 : ry = 0
    · subst h2
      by_cases h3 : h < 0
      · clear KC
        go_wp2
        go_ret
        exact ⟨by rw [← HR.out]; simp [*], B2.out⟩
      · by_cases h4 : 65535 < h
        · clear KC
          have d3 : decide (h < 0) = false := by simpa using h3
          go_wp2
          go_ret
          exact ⟨by rw [← HR.out]; simp [*], B2.out⟩
        · have d3 : decide (h < 0) = false := by simpa using h3
          have d4 : decide (65535 < h) = false := by simpa using h4
          go_wp2_with fail
          refine (KC _).mono ?_
          rintro e w3 ⟨rfl, hb⟩
          have B3 := hidR (keepb hb B2.out)
          clear KC hb B2 A2 r0 r1 r2 r3 r4
          by_cases h5 : cz < 0
          · go_wp2
            go_ret
            exact ⟨by rw [← HR.out, if_pos trivial, if_pos trivial, if_neg (by omega), if_neg (by omega), if_pos h5]; rfl, B3.out⟩
          · have d5 : decide (cz < 0) = false := by simpa using h5
            go_wp2
            go_ret
            exact ⟨by rw [← HR.out, if_pos trivial, if_pos trivial, if_neg (by omega), if_neg (by omega), if_neg (by omega)]; rfl, B3.out⟩
    · have d2 : (ry != 0) = true := by simp [h2]
      clear KC
      go_wp2
      go_ret
      exact ⟨by rw [← HR.out]; simp [*], B2.out⟩
  · have d1 : (rx != 0) = true := by simp [h1]
    go_wp2_with fail
    refine (KX _).mono ?_
    rintro e w1 ⟨rfl, hb⟩
    have B1 := hidR (keepb hb B0.out)
    clear KX hb B0 A0 p0 p1 p2 p3 p4 KY KC
    go_wp2
    go_ret
    exact ⟨by rw [← HR.out]; simp [*], B1.out⟩
/-- The segment ahead of place k. -/
def prevO (l : List Sg) : Nat → Option Sg
  | 0 => none
  | k + 1 => l[k]?
theorem sgs_drop (F : Int) (l : List Sg) (k : Nat) (hk : k < l.length) (p : Option Sg) : sgsGo F p (l.drop k) = if sgE F l[k] = 0 then (if moO F p = true then (if (l[k].1.1 == nxO F p) = true then (if p.map (·.2) = some l[k].2 then 19 else sgsGo F (some l[k]) (l.drop (k + 1))) else 19) else 19) else sgE F l[k] := by
  rw [List.drop_eq_getElem_cons hk, sgsGo]
set_option maxHeartbeats 8000000 in
theorem checkSegs_any (F : Int) (v : Value) (l : List Sg) (w : World) (hv : RwG w v l) (hll : l.length ≤ 1000000000) :
    Calls Tryd.prog 37 #[.int .i64 F, v] w fun e w' => e = .returned (.int .i64 (sgsE F l)) ∧ Below w.heap.size w w' := by
  obtain ⟨ao, c, rfl, hv⟩ := hv
  have KL := fun w => alast_any F w
  unfold lastV lastE at KL
  unfold sgsE
  cases hf : fam F
  · rw [hf, if_neg (by simp), if_neg (by simp), hI_zero, lI_zero] at KL
    rw [if_neg (by simp)]
    clear hf hv
    go_enter Tryd.func37, Tryd.ntmps37
    go_wp2_with fail
    refine (KL _).mono ?_
    rintro e w1 ⟨rfl, hb⟩
    clear KL
    go_wp2
    go_ret
    exact ⟨rfl, hb.alloc hb.size _⟩
  · rw [hf, if_pos rfl, if_pos rfl] at KL
    rw [if_pos rfl]
    have HV := hidR hv
    clear hf hv
    generalize maskW F = mk at *
    by_cases hl : l = []
    · rw [if_pos hl]
      have h1 : ((l.length : Int) == 0) = true := by rw [hl]; rfl
      go_enter Tryd.func37, Tryd.ntmps37
      go_wp2_with fail
      refine (KL _).mono ?_
      rintro e w1 ⟨rfl, hb⟩
      clear KL
      go_wp2
      go_ret
      exact ⟨rfl, hb.alloc hb.size _⟩
    · rw [if_neg hl]
      have h1 : ((l.length : Int) == 0) = false := by
        have : l.length ≠ 0 := fun e => hl (List.length_eq_zero_iff.mp e)
        simpa using this
      go_enter Tryd.func37, Tryd.ntmps37
      go_wp2_with fail
      refine (KL _).mono ?_
      rintro e w1 ⟨rfl, hb⟩
      have kB0 := hb.alloc hb.size (.cells #[.int .u64 (hI mk), .int .u64 (lI mk)] 27)
      have kB := hidR (kB0.alloc kB0.size (.cells #[.int .u64 0, .int .u64 0] 27))
      have HN := hidR (at_new (w1.alloc (.cells #[.int .u64 (hI mk), .int .u64 (lI mk)] 27)) (w1.heap.size + 1) 0#128 27 (by simp))
      have hle : w.heap.size ≤ w1.heap.size + 1 := by have := hb.size; omega
      clear KL hb kB0
      go_wp2_with fail
      go_loopw [8, 26] (fun mv i wr => ∃ k : Nat, k ≤ l.length ∧ i = .int .i64 k ∧ mv = .bool (moO F (prevO l k)) ∧ Hid (sgsGo F (prevO l k) (l.drop k) = sgsGo F none l) ∧ Hid (At wr (w1.heap.size + 1) (nxO F (prevO l k))) ∧ Hid (Below w.heap.size w wr)) (fun _ i _ => l.length - (intOf i).toNat)
      case atStart => exact ⟨0, by omega, rfl, rfl, hidR rfl, HN, kB⟩
      case round =>
        clear kB HN
        obtain ⟨k, hk, rfl, rfl, hG, HN, HB⟩ := hrel
        by_cases hlt : (k : Int) < (l.length : Int)
        · have hks : k < l.length := by omega
          rcases HV.out with h | ⟨b, off, rfl, hc⟩
          · rw [h] at hks; simp at hks
          · obtain ⟨x0, x1, x2, x3, x4⟩ := rwg_cells hc k hks
            have x0 := keepc HB.out x0
            have x1 := keepc HB.out x1
            have x2 := keepc HB.out x2
            have x3 := keepc HB.out x3
            have x4 := keepc HB.out x4
            have KC := fun w => checkSeg_any F l[k].1.1 l[k].1.2 l[k].2 w
            have KX := fun w => anext_any F l[k].1.2 w
            have eS : ((l[k].1.1, l[k].1.2), l[k].2) = l[k] := rfl
            rw [eS] at KC
            have HD := hidR (sgs_drop F l k hks (prevO l k))
            have HP : Hid (k = 0 ∨ ∃ (j : Nat) (q : Sg), k = j + 1 ∧ prevO l k = some q ∧ ∀ W, Below w.heap.size w W → W.cell? ⟨b, off + j * 5 + 4, none⟩ = some (.int .i64 q.2)) := hidR (by
              cases k with
              | zero => exact .inl rfl
              | succ k =>
                refine .inr ⟨k, l[k], rfl, by rw [prevO, List.getElem?_eq_getElem (by omega)], fun W hW => ?_⟩
                have := (rwg_cells hc k (by omega)).2.2.2.2
                exact keepc hW this)
            have HS : Hid (prevO l (k + 1) = some l[k]) := hidR (by rw [prevO, List.getElem?_eq_getElem hks])
            have hnx : Hid (nxO F (some l[k]) = nextV F l[k].1.2 ∧ moO F (some l[k]) = nextB F l[k].1.2) := hidR ⟨rfl, rfl⟩
            clear hc HV eS
            revert KC KX HD HS hnx
            generalize sgE F l[k] = ce
            generalize hlk : l[k] = s
            generalize nextV F s.1.2 = nv
            generalize nextB F s.1.2 = nb
            rw [hlk] at x0 x1 x2 x3 x4
            clear hlk
            obtain ⟨⟨px, py⟩, ph⟩ := s
            dsimp only at x0 x1 x2 x3 x4 ⊢
            intro KC KX HD HS hnx
            have P0 := atg_new wr wr.heap.size px py ph 51 rfl
            obtain ⟨p0, p1, p2, p3, p4, -⟩ := id P0
            go_wp2_with fail
            refine (KC _).mono ?_
            rintro e w2 ⟨rfl, hb⟩
            have kB2 := hidR (keepb hb (HB.out.alloc HB.out.size (.cells #[.int .u64 (hI px), .int .u64 (lI px), .int .u64 (hI py), .int .u64 (lI py), .int .i64 ph] 51)))
            have HN2 := hidR ((HN.out.below (bl1 wr (.cells #[.int .u64 (hI px), .int .u64 (lI px), .int .u64 (hI py), .int .u64 (lI py), .int .i64 ph] 51))).below hb)
            have HS2 := hidR (P0.below hb)
            obtain ⟨n0, n1, n2, n3, -⟩ := HN2.out
            obtain ⟨q0, q1, q2, q3, q4, -⟩ := HS2.out
            clear hb KC x0 x1 x2 x3 x4 p0 p1 p2 p3 p4 P0 HN HB
            by_cases hce : ce = 0
            · subst hce
              have hk2 : IntKind.i64.wrap ((k : Int) + 1) = (k : Int) + 1 := by rw [IntKind.wrap_i64]; omega
              have hE := fun w => eqW_run px (nxO F (prevO l k)) w
              have hG2 : Hid (sgsGo F none l = if moO F (prevO l k) = true then (if (px == nxO F (prevO l k)) = true then (if (prevO l k).map (·.2) = some ph then 19 else sgsGo F (some ((px, py), ph)) (l.drop (k + 1))) else 19) else 19) := hidR (by rw [← hG.out, HD.out, if_pos rfl])
              clear HD hG
              cases hmo : moO F (prevO l k)
              · have HE : Hid (sgsGo F none l = 19) := hidR (by rw [hG2.out, hmo]; rfl)
                clear hE KX HP
                go_wp2_with fail
                go_quiet (fail)
                go_wp2
                go_ret
                exact ⟨by rw [HE.out]; rfl, below_drewN kB2.out _⟩
              · cases hpe : (px == nxO F (prevO l k))
                · have HE : Hid (sgsGo F none l = 19) := hidR (by rw [hG2.out, hmo, hpe]; rfl)
                  rw [hpe] at hE
                  clear KX HP
                  go_wp2_with fail
                  go_quiet (fail)
                  go_wp2
                  go_ret
                  exact ⟨by rw [HE.out]; rfl, below_drewN kB2.out _⟩
                · rw [hpe] at hE
                  rcases HP.out with rfl | ⟨j, q, hkj, hq, hcq⟩
                  · have HC : Hid (sgsGo F (some ((px, py), ph)) (l.drop (0 + 1)) = sgsGo F none l) := hidR (by rw [hG2.out, hmo, hpe]; rfl)
                    clear HP hG2 hpe hmo
                    go_wp2_with fail
                    go_quiet (fail)
                    go_wp2_with fail
                    refine (KX _).mono ?_
                    rintro e w3 ⟨rfl, hb⟩
                    have bq := below_drewN (Below.refl w2.heap.size w2) nq
                    have HN3 := hidR (((HN2.out.below bq).below hb).set nv)
                    obtain ⟨y0, y1, y2, y3, -⟩ := (HN2.out.below bq).below hb
                    have kB3 := hidR (bset2 (keepb hb (below_drewN kB2.out nq)) hle (.int .u64 (hI nv)) (.int .u64 (lI nv)))
                    clear hb KX n0 n1 n2 n3 q0 q1 q2 q3 q4 hE
                    go_wp2
                    go_roundw
                    case rel =>
                      refine ⟨0 + 1, by omega, by simp, ?_, ?_, ?_, kB3⟩
                      · rw [HS.out, hnx.out.2]
                      · show sgsGo F (prevO l (0 + 1)) (l.drop (0 + 1)) = sgsGo F none l
                        rw [HS.out, HC.out]
                      · show At _ _ _
                        rw [HS.out, hnx.out.1]; exact HN3.out
                    case measure => simp [intOf]; omega
                  · have r4 := hcq w2 kB2.out
                    have m1 : IntKind.i64.wrap ((k : Int) - 1) = (j : Int) := by rw [IntKind.wrap_i64]; omega
                    have g1 : (0 : Int) < (k : Int) := by omega
                    have g5 : 0 < k := by omega
                    have g6 : decide (0 < k) = true := by simpa using g5
                    have g7 : decide ((0 : Int) < (k : Int)) = true := by simpa using g5
                    have g2 : (0 : Int) ≤ (j : Int) := by omega
                    have g3 : (j : Int) < (l.length : Int) := by omega
                    have g4 : j < l.length := by omega
                    have HKJ := hidR hkj
                    clear hkj
                    by_cases hh : ph = q.2
                    · have HE : Hid (sgsGo F none l = 19) := hidR (by rw [hG2.out, hmo, hpe, hq]; simp [hh])
                      have dh : (ph == q.2) = true := by simp [hh]
                      clear HP hG2 hpe hmo hcq hq KX
                      go_wp2_with fail
                      go_quiet (fail)
                      go_wp2
                      go_ret
                      exact ⟨by rw [HE.out]; rfl, below_drewN kB2.out _⟩
                    · have HC : Hid (sgsGo F (some ((px, py), ph)) (l.drop (k + 1)) = sgsGo F none l) := hidR (by rw [hG2.out, hmo, hpe, hq]; simp [show ¬ q.2 = ph from fun e => hh e.symm])
                      have dh : (ph == q.2) = false := by simp [hh]
                      clear HP hG2 hpe hmo hcq hq
                      go_wp2_with fail
                      go_quiet (fail)
                      go_wp2_with fail
                      refine (KX _).mono ?_
                      rintro e w3 ⟨rfl, hb⟩
                      have bq := below_drewN (Below.refl w2.heap.size w2) nq
                      have HN3 := hidR (((HN2.out.below bq).below hb).set nv)
                      obtain ⟨y0, y1, y2, y3, -⟩ := (HN2.out.below bq).below hb
                      have kB3 := hidR (bset2 (keepb hb (below_drewN kB2.out nq)) hle (.int .u64 (hI nv)) (.int .u64 (lI nv)))
                      clear hb KX n0 n1 n2 n3 q0 q1 q2 q3 q4 hE
                      go_wp2
                      go_roundw
                      case rel =>
                        refine ⟨k + 1, by omega, by simp, ?_, ?_, ?_, kB3⟩
                        · rw [HS.out, hnx.out.2]
                        · show sgsGo F (prevO l (k + 1)) (l.drop (k + 1)) = sgsGo F none l
                          rw [HS.out, HC.out]
                        · show At _ _ _
                          rw [HS.out, hnx.out.1]; exact HN3.out
                      case measure => simp [intOf]; omega
            · have hn : (ce != 0) = true := by simp [hce]
              have HE : Hid (sgsGo F none l = ce) := by show _ = _; rw [← hG.out, HD.out, if_neg hce]
              clear n0 n1 n2 n3 q0 q1 q2 q3 q4
              go_wp2
              go_ret
              exact ⟨by rw [HE.out]; rfl, kB2.out⟩
        · have hd : decide ((k : Int) < (l.length : Int)) = false := by simpa using hlt
          have HE : Hid (sgsGo F none l = if moO F (prevO l k) = true then 19 else 0) := by
            show _ = _
            rw [← hG.out, List.drop_eq_nil_of_le (by omega), sgsGo]
          cases hm : moO F (prevO l k)
          · rw [hm] at HE
            go_wp2
            go_ret
            exact ⟨by rw [HE.out]; rfl, HB.out⟩
          · rw [hm] at HE
            go_wp2
            go_ret
            exact ⟨by rw [HE.out]; rfl, HB.out⟩
end Go.Proofs.YtddjeplceioenabDoor
/-
  What a sweep through a table's routes tells, as a plain function.
-/
namespace Go.Proofs.YtddjeplceioenabDoor
set_option linter.unusedSimpArgs false
set_option linter.unusedVariables false

/-- A segment behind those that are told; the last one stands first. -/
def behS : List Sg → Sg → List Sg
  | [], s => [s]
  | a :: st, s => if a.2 = s.2 then ((a.1.1, s.1.2), a.2) :: st else s :: a :: st
/-- The first address of which nothing is told, whether there is none, what is told. -/
abbrev T3 := BitVec 128 × Bool × List Sg
def tell3 (F : Int) (la : BitVec 128) (h : Int) (t : T3) : T3 := if t.2.1 = true then t else if cmpZ la t.1 < 0 then t else (nextV F la, !nextB F la, behS t.2.2 ((t.1, la), h))
def popO (r : Rte) : List Rte → List Rte
  | [] => []
  | o :: os => if withinB r.1.1 r.1.2 o.1.1 o.1.2 = true then o :: os else popO r os
def popT (F : Int) (r : Rte) : List Rte → T3 → T3
  | [], t => t
  | o :: os, t => if withinB r.1.1 r.1.2 o.1.1 o.1.2 = true then t else popT F r os (tell3 F (lastW F o.1.1 o.1.2) o.2 t)
def entT (F : Int) (r : Rte) (h : Int) (t : T3) : T3 := if prevB F r.1.1 = true then tell3 F (prevV F r.1.1) h t else t
def endT (F : Int) : List Rte → T3 → T3
  | [], t => t
  | o :: os, t => endT F os (tell3 F (lastW F o.1.1 o.1.2) o.2 t)
def hopO : List Rte → Int
  | [] => 0
  | o :: _ => o.2
def swpGo (F : Int) : List Rte → T3 → List Rte → T3
  | op, t, [] => endT F op t
  | op, t, r :: l => swpGo F (r :: popO r op) (entT F r (hopO (popO r op)) (popT F r op t)) l
def op0 : List Rte := [((0#128, 0), 0)]
def t30 : T3 := (0#128, false, [])
def swp (F : Int) (l : List Rte) : List Sg := (swpGo F op0 t30 l).2.2.reverse
/-- The list of open routes ends with the one that has all addresses. -/
def Bot (op : List Rte) : Prop := ∃ os, op = os ++ op0
theorem Bot.ne {op : List Rte} (h : Bot op) : op ≠ [] := by obtain ⟨os, rfl⟩ := h; simp [op0]
theorem Bot.tl {o : Rte} {os : List Rte} (h : Bot (o :: os)) (r : Rte) (hr : 0 ≤ r.1.2) (hw : ¬ withinB r.1.1 r.1.2 o.1.1 o.1.2 = true) : Bot os := by
  obtain ⟨l, e⟩ := h
  cases l with
  | nil =>
    exfalso
    have e : o = ((0#128, 0), 0) := by have := List.cons.inj e; exact this.1
    subst e
    apply hw
    unfold withinB
    simp [hr, cutW, show maskW 0 = 0#128 by decide]
  | cons a l =>
    have := List.cons.inj e
    exact ⟨l, this.2⟩
theorem Bot.pop (r : Rte) (hr : 0 ≤ r.1.2) : ∀ op : List Rte, Bot op → Bot (popO r op)
  | [], h => h
  | o :: os, h => by
    rw [popO]
    split
    · exact h
    · rename_i hw; exact Bot.pop r hr os (h.tl r hr hw)
theorem behS_len (st : List Sg) (s : Sg) : (behS st s).length ≤ st.length + 1 := by
  cases st with
  | nil => simp [behS]
  | cons a st => simp only [behS]; split <;> simp
theorem tell3_len (F : Int) (la : BitVec 128) (h : Int) (t : T3) : (tell3 F la h t).2.2.length ≤ t.2.2.length + 1 := by
  unfold tell3
  split
  · omega
  · split
    · omega
    · exact behS_len _ _
theorem popT_len (F : Int) (r : Rte) : ∀ (op : List Rte) (t : T3), (popT F r op t).2.2.length + (popO r op).length ≤ t.2.2.length + op.length
  | [], t => by simp [popT, popO]
  | o :: os, t => by
    rw [popT, popO]
    split
    · simp
    · have h1 := popT_len F r os (tell3 F (lastW F o.1.1 o.1.2) o.2 t)
      have h2 := tell3_len F (lastW F o.1.1 o.1.2) o.2 t
      simp only [List.length_cons]
      omega
theorem entT_len (F : Int) (r : Rte) (h : Int) (t : T3) : (entT F r h t).2.2.length ≤ t.2.2.length + 1 := by
  unfold entT
  split
  · exact tell3_len _ _ _ _
  · omega
end Go.Proofs.YtddjeplceioenabDoor
