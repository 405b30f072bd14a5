/-
  Part 19 of the proof: 4 texts, one behind the other.
-/
import Derived.Test.YtddjeplceioenaaDoorPart9
import Derived.Test.YtddjeplceioenaaDoorPart18
import Derived.Test.YtddjeplceioenaaDoorPart5
/-
  What the calls of package algebra's Table and of the law's known do.
-/
namespace Go.Proofs.YtddjeplceioenaaDoor
open Go.RowKit
set_option linter.unusedSimpArgs false
set_option linter.unusedVariables false

/-- What Table tells of some segments. -/
def tW (F : Int) (l : List Sg) : Int := if sgsE F l = 0 then tabW F l else 0
def tX (F : Int) (l : List Sg) : Int := if sgsE F l = 0 then tabX F l else sgsE F l
def tL (F : Int) (l : List Sg) : List Rte := if sgsE F l = 0 then tabL F l else []
theorem t_yes {F : Int} {l : List Sg} (h : sgsE F l = 0) : tW F l = tabW F l ∧ tX F l = tabX F l ∧ tL F l = tabL F l := by
  unfold tW tX tL
  rw [if_pos h, if_pos h, if_pos h]
  exact ⟨rfl, rfl, rfl⟩
theorem t_no {F : Int} {l : List Sg} (h : ¬ sgsE F l = 0) : tW F l = 0 ∧ tX F l = sgsE F l ∧ tL F l = [] := by
  unfold tW tX tL
  rw [if_neg h, if_neg h, if_neg h]
  exact ⟨rfl, rfl, rfl⟩
set_option maxRecDepth 20000 in
set_option maxHeartbeats 8000000 in
theorem table6_any (F : Int) (v : Value) (l : List Sg) (w : World) (hT : Tab w) (hv : RwG w v l) (hl : l.length ≤ 1000000000) :
    Calls Tryd.prog 7 #[.int .i64 F, v] w fun e w' => (∃ v', e = .returned (.tuple #[.agg #[.int .i64 (tW F l), v'], .int .i64 (tX F l)]) ∧ w'.ownsRow w.heap.size 57 4 v' (tL F l).length (rowR (tL F l))) ∧ Below w.heap.size w w' := by
  have b0 := bl1 w (.cells #[.int .i64 0, .slice none 0 0] 26)
  have KC := checkSegs_any F v l _ (hv.below b0) hl
  have HK : Hid (∀ W, Below w.heap.size w W → Calls Tryd.prog 23 #[.int .i64 F, v] W fun e w' => (∃ v', e = .returned (.tuple #[.agg #[.int .i64 (tabW F l), v'], .int .i64 (tabX F l)]) ∧ w'.ownsRow W.heap.size 57 4 v' (tabL F l).length (rowR (tabL F l))) ∧ Below W.heap.size W w') := hidR (fun W hW => covered_any F v l W (hT.keep hW) (hv.below hW) hl)
  have HU := hidR (atu_new w w.heap.size 0 (.slice none 0 0) 26 rfl)
  have HB := hidR b0
  have HY : Hid (sgsE F l = 0 → tW F l = tabW F l ∧ tX F l = tabX F l ∧ tL F l = tabL F l) := hidR t_yes
  have HN : Hid (¬ sgsE F l = 0 → tW F l = 0 ∧ tX F l = sgsE F l ∧ tL F l = []) := hidR t_no
  obtain ⟨ao, c, rfl, -⟩ := hv
  clear b0 hT
  revert KC HY HN HK
  generalize sgsE F l = ce
  generalize tW F l = tw
  generalize tX F l = tx
  generalize tL F l = tl
  generalize tabW F l = aw
  generalize tabX F l = ax
  generalize tabL F l = al
  intro HY HN KC HK
  go_enter Tryd.func7, Tryd.ntmps7
  go_wp2_with fail
  refine KC.mono ?_
  rintro e w1 ⟨rfl, hb⟩
  have HB1 := hidR (keepb hb HB.out)
  have HU1 := hidR (HU.out.heap (hb.block _ HU.out.lt))
  clear KC hb HB HU
  by_cases hce : ce = 0
  · subst hce
    have HY1 := hidR (HY.out rfl)
    clear HY HN
    have KV := HK.out w1 HB1.out
    go_wp2_with fail
    refine KV.mono ?_
    rintro e w2 ⟨⟨v', rfl, hown⟩, hb⟩
    have HU2 := hidR (HU1.out.heap (hb.block _ HU1.out.lt))
    have HB2 := hidR (bset2 (keepb hb HB1.out) (Nat.le_refl w.heap.size) (.int .i64 aw) v')
    have hlt := HU1.out.lt
    have HO : Hid (((w2.setCell ⟨w.heap.size, 0, none⟩ (.int .i64 aw)).setCell ⟨w.heap.size, 1, none⟩ v').ownsRow w.heap.size 57 4 v' al.length (rowR al)) := hidR (own_wide (own_heap hown (fun g e => by
      have := (hown.lt g e).1
      rw [hSet _ (by omega), hSet _ (by omega)])) HB1.out.size)
    obtain ⟨u0, u1, u2, u3⟩ := HU2.out
    obtain ⟨s0, s1, -, -⟩ := HU2.out.set2 aw v'
    obtain ⟨av, cv', rfl⟩ := own_form hown
    clear KV hb hown HK HU1 hlt
    go_wp2
    exact bodyPost_ret (v := .tuple #[.agg #[.int .i64 aw, .slice av al.length cv'], .int .i64 ax]) (by simp [results, Tryd.results7, go_sem, s0, s1]) rfl ⟨⟨_, by rw [HY1.out.1, HY1.out.2.1], by rw [HY1.out.2.2]; exact HO.out⟩, HB2.out⟩
  · have hn : (ce != 0) = true := by simp [hce]
    have HN1 := hidR (HN.out hce)
    obtain ⟨u0, u1, u2, u3⟩ := HU1.out
    have HB2 := hidR (bset2 HB1.out (Nat.le_refl w.heap.size) (.int .i64 0) (.slice none 0 0))
    obtain ⟨s0, s1, -, -⟩ := HU1.out.set2 0 (.slice none 0 0)
    clear HK HY HN hce
    go_wp2
    exact bodyPost_ret (v := .tuple #[.agg #[.int .i64 0, .slice none 0 0], .int .i64 ce]) (by simp [results, Tryd.results7, go_sem, s0, s1]) rfl ⟨⟨.slice none 0 0, by rw [HN1.out.1, HN1.out.2.1], by rw [HN1.out.2.2]; exact World.ownsRow_nil _ _ _ _⟩, HB2.out⟩
/-- The chapter's first example, as it is asked. -/
def kn0 : List Rte := [((0x0a000000000000000000000000000000#128, 8), 1)]
theorem kn_swp : swp 32 kn0 = [((0#128, 0x09ffffff000000000000000000000000#128), 0), ((0x0a000000000000000000000000000000#128, 0x0affffff000000000000000000000000#128), 1), ((0x0b000000000000000000000000000000#128, 0xffffffff000000000000000000000000#128), 0)] := by decide +kernel
theorem kn_rts : rtsE 32 kn0 = 0 := by decide +kernel
theorem kn_tab (z : Int) (h : TabE 32 kn0 z) : z = 0 := by
  rcases h.2 kn_rts with ⟨_, h⟩ | ⟨h, _⟩
  · exact h
  · exfalso
    apply h
    intro a ha
    simp [kn0] at ha
theorem kn_rwr (w : World) : RwR (w.alloc (.cells #[.int .u64 720575940379279360, .int .u64 0, .int .i64 8, .int .i64 1] 57)) (.slice (some ⟨w.heap.size, 0, none⟩) 1 1) kn0 := by
  refine ⟨some ⟨w.heap.size, 0, none⟩, 1, rfl, .inr ⟨w.heap.size, 0, rfl, ?_⟩⟩
  intro j u hj
  have h0 : hI 0x0a000000000000000000000000000000#128 = 720575940379279360 := by decide
  have h1 : lI 0x0a000000000000000000000000000000#128 = 0 := by decide
  have e : rowR kn0 = [.int .u64 720575940379279360, .int .u64 0, .int .i64 8, .int .i64 1] := by simp [kn0, rowR, h0, h1]
  rw [e] at hj
  rw [Nat.zero_add]
  match j, hj with
  | 0, hj => simp at hj; subst hj; simp [go_sem]
  | 1, hj => simp at hj; subst hj; simp [go_sem]
  | 2, hj => simp at hj; subst hj; simp [go_sem]
  | 3, hj => simp at hj; subst hj; simp [go_sem]
set_option maxRecDepth 20000 in
set_option maxHeartbeats 8000000 in
theorem known6_any (w : World) : Calls Tryd.prog 6 #[] w fun e w' => e = .returned (.bool true) ∧ Below w.heap.size w w' := by
  have KS := segs_any 32 _ kn0 _ (kn_rwr w)
  have HB := hidR (bl1 w (.cells #[.int .u64 720575940379279360, .int .u64 0, .int .i64 8, .int .i64 1] 57))
  go_enter Tryd.func6, Tryd.ntmps6
  go_wp2_with fail
  refine KS.mono ?_
  rintro e w1 ⟨⟨z, v', hz, rfl, hown, -⟩, hb⟩
  have hz0 := kn_tab z hz
  subst hz0
  have hown := hown rfl
  rw [kn_swp] at hown
  have HB1 := hidR (keepb hb HB.out)
  obtain ⟨g, cap, e, -, -⟩ := hown.form (by simp)
  have e : v' = .slice (some ⟨g, 0, none⟩) 3 cap := e
  subst e
  obtain ⟨c0, c1, -, -, c4⟩ := ownG_cells (g := g) (n := 3) hown 1 (by simp)
  have h0 : hI 0x0a000000000000000000000000000000#128 = 720575940379279360 := by decide
  have h1 : lI 0x0a000000000000000000000000000000#128 = 0 := by decide
  simp only [List.getElem_cons_succ, List.getElem_cons_zero, h0, h1] at c0 c1 c4
  clear KS hb HB hown hz
  go_wp2
  go_ret
  exact ⟨rfl, HB1.out⟩
end Go.Proofs.YtddjeplceioenaaDoor
/-
  What the calls of turnpikeref2's Next and Prev do.
-/
namespace Go.Proofs.YtddjeplceioenaaDoor
open Go.RowKit
set_option linter.unusedSimpArgs false
set_option linter.unusedVariables false

set_option maxHeartbeats 4000000 in
theorem rnext_yes (F : Int) (x m y z : BitVec 128) (ov : Bool) (w : World) (q : (hI x == hI m) = false ∨ (hI x == hI m) = true ∧ (lI x == lI m) = false)
    (KR : ∀ w, Calls Tryd.prog 31 #[.int .i64 F, .agg #[.int .u64 (hI x), .int .u64 (lI x)]] w fun e w' => e = .returned (.int .i64 0) ∧ Below w.heap.size w w')
    (KK : ∀ w, Calls Tryd.prog 14 #[.int .i64 F] w fun e w' => e = .returned (.agg #[.int .u64 (hI m), .int .u64 (lI m)]) ∧ Below w.heap.size w w')
    (KS : ∀ w, Calls Tryd.prog 33 #[.int .i64 F] w fun e w' => e = .returned (.agg #[.int .u64 (hI y), .int .u64 (lI y)]) ∧ Below w.heap.size w w')
    (KM : ∀ w, Calls Tryd.prog 32 #[.agg #[.int .u64 (hI x), .int .u64 (lI x)], .agg #[.int .u64 (hI y), .int .u64 (lI y)]] w fun e w' => e = .returned (.tuple #[.agg #[.int .u64 (hI z), .int .u64 (lI z)], .bool ov]) ∧ Below w.heap.size w w') :
    Calls Tryd.prog 15 #[.int .i64 F, .agg #[.int .u64 (hI x), .int .u64 (lI x)]] w fun e w' => e = .returned (.tuple #[.agg #[.int .u64 (hI z), .int .u64 (lI z)], .bool true]) ∧ Below w.heap.size w w' := by
  have kB := (bl2 w (.cells #[.int .u64 (hI x), .int .u64 (lI x)] 37) (.cells #[.int .u64 0, .int .u64 0] 37)).drew
  rcases q with q1 | ⟨q1, q2⟩
  all_goals
    go_enter Tryd.func15, Tryd.ntmps15
    go_wp2_with fail
    refine q_region (C := (fun w' => w'.cell? ⟨w.heap.size, 0, none⟩ = some (.int .u64 (hI x)) ∧ w'.cell? ⟨w.heap.size, 1, none⟩ = some (.int .u64 (lI x)) ∧ w'.cell? ⟨w.heap.size + 1, 0, none⟩ = some (.int .u64 0) ∧ w'.cell? ⟨w.heap.size + 1, 1, none⟩ = some (.int .u64 0) ∧ w'.frozen? ⟨w.heap.size + 1, 0, none⟩ = false ∧ w'.frozen? ⟨w.heap.size + 1, 1, none⟩ = false ∧ Below w.heap.size w w')) (by kernel_rfl) (by kernel_rfl) ⟨by simp [go_sem], by simp [go_sem], by simp [go_sem], by simp [go_sem], by simp [go_sem], by simp [go_sem], kB⟩ ?_
    clear kB
    refine q_run (v := .int .i64 F) (by rfl) ?_ ?_
    · (intro w1 hC; obtain ⟨c1, c2, c3, c4, c5, c6, c7⟩ := hC; go_simp; first | done | (simp; done) | (simp [*]; done) | (simp; omega) | rfl)
    simp only [Act.put, List.setIfInBounds_toArray, List.set_cons_zero, List.set_cons_succ]
    refine q_run (v := .agg #[.int .u64 (hI x), .int .u64 (lI x)]) (by rfl) ?_ ?_
    · (intro w1 hC; obtain ⟨c1, c2, c3, c4, c5, c6, c7⟩ := hC; go_simp; first | done | (simp; done) | (simp [*]; done) | (simp; omega) | rfl)
    simp only [Act.put, List.setIfInBounds_toArray, List.set_cons_zero, List.set_cons_succ]
    refine q_call (v := .int .i64 0) (f := 31) (args := #[.int .i64 F, .agg #[.int .u64 (hI x), .int .u64 (lI x)]]) (by rfl) ?_ ?_ ?_
    · (intro w1 hC; obtain ⟨c1, c2, c3, c4, c5, c6, c7⟩ := hC; go_simp)
    · exact fun w1 hC => (KR w1).mono fun e w' ⟨he, hb⟩ => ⟨he, keepc hb hC.1, keepc hb hC.2.1, keepc hb hC.2.2.1, keepc hb hC.2.2.2.1, keepf hb hC.2.2.1 hC.2.2.2.2.1, keepf hb hC.2.2.2.1 hC.2.2.2.2.2.1, keepb hb hC.2.2.2.2.2.2⟩
    simp only [Act.put, List.setIfInBounds_toArray, List.set_cons_zero, List.set_cons_succ]
    refine q_run (v := .bool false) (by rfl) ?_ ?_
    · (intro w1 hC; obtain ⟨c1, c2, c3, c4, c5, c6, c7⟩ := hC; go_simp; first | done | (simp; done) | (simp [*]; done) | (simp; omega) | rfl)
    simp only [Act.put, List.setIfInBounds_toArray, List.set_cons_zero, List.set_cons_succ]
    refine q_run (v := .bool false) (by rfl) ?_ ?_
    · (intro w1 hC; obtain ⟨c1, c2, c3, c4, c5, c6, c7⟩ := hC; go_simp; first | done | (simp; done) | (simp [*]; done) | (simp; omega) | rfl)
    simp only [Act.put, List.setIfInBounds_toArray, List.set_cons_zero, List.set_cons_succ]
    refine q_run (v := .agg #[.int .u64 (hI x), .int .u64 (lI x)]) (by rfl) ?_ ?_
    · (intro w1 hC; obtain ⟨c1, c2, c3, c4, c5, c6, c7⟩ := hC; go_simp; first | done | (simp; done) | (simp [*]; done) | (simp; omega) | rfl)
    simp only [Act.put, List.setIfInBounds_toArray, List.set_cons_zero, List.set_cons_succ]
    refine q_run (v := .int .i64 F) (by rfl) ?_ ?_
    · (intro w1 hC; obtain ⟨c1, c2, c3, c4, c5, c6, c7⟩ := hC; go_simp; first | done | (simp; done) | (simp [*]; done) | (simp; omega) | rfl)
    simp only [Act.put, List.setIfInBounds_toArray, List.set_cons_zero, List.set_cons_succ]
    refine q_call (v := .agg #[.int .u64 (hI m), .int .u64 (lI m)]) (f := 14) (args := #[.int .i64 F]) (by rfl) ?_ ?_ ?_
    · (intro w1 hC; obtain ⟨c1, c2, c3, c4, c5, c6, c7⟩ := hC; go_simp)
    · exact fun w1 hC => (KK w1).mono fun e w' ⟨he, hb⟩ => ⟨he, keepc hb hC.1, keepc hb hC.2.1, keepc hb hC.2.2.1, keepc hb hC.2.2.2.1, keepf hb hC.2.2.1 hC.2.2.2.2.1, keepf hb hC.2.2.2.1 hC.2.2.2.2.2.1, keepb hb hC.2.2.2.2.2.2⟩
    simp only [Act.put, List.setIfInBounds_toArray, List.set_cons_zero, List.set_cons_succ]
    refine q_run (v := .bool false) (by rfl) ?_ ?_
    · (intro w1 hC; obtain ⟨c1, c2, c3, c4, c5, c6, c7⟩ := hC; go_simp; first | done | (simp; done) | (simp [*]; done) | (simp; omega) | rfl)
    simp only [Act.put, List.setIfInBounds_toArray, List.set_cons_zero, List.set_cons_succ]
    refine q_run (v := .bool false) (by rfl) ?_ ?_
    · (intro w1 hC; obtain ⟨c1, c2, c3, c4, c5, c6, c7⟩ := hC; go_simp; first | done | (simp; done) | (simp [*]; done) | (simp; omega) | rfl)
    simp only [Act.put, List.setIfInBounds_toArray, List.set_cons_zero, List.set_cons_succ]
    refine wpQuiet_nil ?_
    intro w1 hC
    obtain ⟨x0, x1, o0, o1, o2, o3, kB⟩ := hC
    have hZ : At w1 (w.heap.size + 1) 0#128 := ⟨by rw [hI_zero]; exact o0, by rw [lI_zero]; exact o1, o2, o3, cell_in o0⟩
    have z4 := cell_in o0
    have x4 := cell_in x0
    have n1 : ¬ w1.heap.size = w.heap.size := by omega
    clear o0 o1 o2 o3
    go_wp2_with fail
    rename_i Q' K hK
    have tail : ∀ (N : Nat) (W : World), At W N z → At W (w.heap.size + 1) 0#128 → Below w.heap.size w W → ¬ N = w.heap.size + 1 → (Exit.then K Q') .normal { tmps := #[.int .i64 F, .agg #[.int .u64 (hI x), .int .u64 (lI x)], undef, .pointer (some ⟨w.heap.size, 0, none⟩), .pointer (some ⟨w.heap.size + 1, 0, none⟩), .bool false, .pointer (some ⟨N, 0, none⟩), .bool ov, .int .i64 F, .agg #[.int .u64 (hI x), .int .u64 (lI x)], .int .i64 0, .bool false, .bool false, .agg #[.int .u64 (hI x), .int .u64 (lI x)], .int .i64 F, .agg #[.int .u64 (hI m), .int .u64 (lI m)], .bool false, .bool false, undef, .tuple #[.agg #[.int .u64 (hI z), .int .u64 (lI z)], .bool ov], .agg #[.int .u64 (hI x), .int .u64 (lI x)], .int .i64 F, .agg #[.int .u64 (hI y), .int .u64 (lI y)], .tuple #[.agg #[.int .u64 (hI z), .int .u64 (lI z)], .bool ov], .agg #[.int .u64 (hI z), .int .u64 (lI z)], .bool ov, undef], defers := [] } W := by
      intro N W hN hZ' hB' hn
      obtain ⟨a0, a1, a2, a3, a4⟩ := hN
      obtain ⟨b0, b1, b2, b3, b4⟩ := hZ'
      clear x0 x1 x4 hZ KR KK KS KM
      go_wp2
      exact bodyPost_ret (v := .tuple #[.agg #[.int .u64 (hI z), .int .u64 (lI z)], .bool true]) (by simp [results, Tryd.results15, go_sem, *]) rfl ⟨rfl, bset2 hB' (by omega) _ _⟩
    go_region_with (first | (go_at_call 33; refine (KS _).mono ?_; rintro e w2 ⟨rfl, hb2⟩; have p0 : w2.cell? ⟨w.heap.size, 0, none⟩ = some (.int .u64 (hI x)) := keepc hb2 (by simp [go_sem, *]); have p1 : w2.cell? ⟨w.heap.size, 1, none⟩ = some (.int .u64 (lI x)) := keepc hb2 (by simp [go_sem, *]); have n3 : ¬ w2.heap.size = w.heap.size := (fun e => by have := cell_in p0; omega); have l3 := cell_in p0; (try (refine (fun (c0 : w2.cell? ⟨w1.heap.size, 0, none⟩ = some (.int .u64 0)) => ?_) (keepc hb2 ?_); rotate_left; (focus (simp [go_sem]; done)))); (try (refine (fun (c1 : w2.cell? ⟨w1.heap.size, 1, none⟩ = some (.int .u64 0)) => ?_) (keepc hb2 ?_); rotate_left; (focus (simp [go_sem]; done)))); (try (refine (fun (g0 : w2.frozen? ⟨w1.heap.size, 0, none⟩ = false) => ?_) (keepf hb2 (v := .int .u64 0) ?_ ?_); rotate_left; (focus (simp [go_sem]; done)); (focus (simp [go_sem]; done)))); (try (refine (fun (g1 : w2.frozen? ⟨w1.heap.size, 1, none⟩ = false) => ?_) (keepf hb2 (v := .int .u64 0) ?_ ?_); rotate_left; (focus (simp [go_sem]; done)); (focus (simp [go_sem]; done)))); have hZ2 : At w2 (w.heap.size + 1) 0#128 := At.below (by first | exact hZ.drew | exact (hZ.below (bl1 _ _)).drew | exact hZ | exact hZ.below (bl1 _ _)) hb2; have kB2 : Below w.heap.size w w2 := keepb hb2 (by first | exact kB.drew | exact (kB.alloc (by omega) _).drew | exact kB | exact kB.alloc (by omega) _)) | (go_at_call 32; refine (KM _).mono ?_; rintro e w3 ⟨rfl, hb3⟩; (try (have d0 := keepc hb3 c0; have d1 := keepc hb3 c1; have e0 := keepf hb3 c0 g0; have e1 := keepf hb3 c1 g1)); (try (refine (fun (d2 : w3.cell? ⟨w2.heap.size, 0, none⟩ = some (.int .u64 0)) => ?_) (keepc hb3 ?_); rotate_left; (focus (simp [go_sem]; done)))); (try (refine (fun (d3 : w3.cell? ⟨w2.heap.size, 1, none⟩ = some (.int .u64 0)) => ?_) (keepc hb3 ?_); rotate_left; (focus (simp [go_sem]; done)))); (try (refine (fun (e2 : w3.frozen? ⟨w2.heap.size, 0, none⟩ = false) => ?_) (keepf hb3 (v := .int .u64 0) ?_ ?_); rotate_left; (focus (simp [go_sem]; done)); (focus (simp [go_sem]; done)))); (try (refine (fun (e3 : w3.frozen? ⟨w2.heap.size, 1, none⟩ = false) => ?_) (keepf hb3 (v := .int .u64 0) ?_ ?_); rotate_left; (focus (simp [go_sem]; done)); (focus (simp [go_sem]; done)))); have hZ3 : At w3 (w.heap.size + 1) 0#128 := At.below (by first | exact hZ2 | exact hZ2.below (bl1 _ _)) hb3; have kB3 : Below w.heap.size w w3 := keepb hb3 (by first | exact kB2 | exact kB2.alloc kB2.size _)))
    all_goals
      have z5 := hZ3.2.2.2.2
      have z6 := hZ2.2.2.2.2
    all_goals first
      | exact tail w3.heap.size _ (at_new w3 w3.heap.size z _ rfl) (hZ3.below (bl1 _ _)) (kB3.alloc kB3.size _) (Nat.ne_of_gt z5)
      | exact tail w2.heap.size _ (at_zero d2 d3 e2 e3 z) (hZ3.other _ _ (Nat.ne_of_lt z6)) (bset2 kB3 kB2.size _ _) (Nat.ne_of_gt z6)
      | exact tail w1.heap.size _ (at_zero d0 d1 e0 e1 z) (hZ3.other _ _ (Nat.ne_of_lt z4)) (bset2 kB3 kB.size _ _) (Nat.ne_of_gt z4)
end Go.Proofs.YtddjeplceioenaaDoor
/-
  What the calls of turnpikeref2's Next and Prev do where there is none, and of Prev.
-/
namespace Go.Proofs.YtddjeplceioenaaDoor
open Go.RowKit
set_option linter.unusedSimpArgs false
set_option linter.unusedVariables false

set_option maxHeartbeats 4000000 in
theorem rnext_no (F r : Int) (x : BitVec 128) (w : World) (hr : ¬ r = 0)
    (KR : ∀ w, Calls Tryd.prog 31 #[.int .i64 F, .agg #[.int .u64 (hI x), .int .u64 (lI x)]] w fun e w' => e = .returned (.int .i64 r) ∧ Below w.heap.size w w') :
    Calls Tryd.prog 15 #[.int .i64 F, .agg #[.int .u64 (hI x), .int .u64 (lI x)]] w fun e w' => e = .returned (.tuple #[.agg #[.int .u64 0, .int .u64 0], .bool false]) ∧ Below w.heap.size w w' := by
  have kB := (bl2 w (.cells #[.int .u64 (hI x), .int .u64 (lI x)] 37) (.cells #[.int .u64 0, .int .u64 0] 37)).drew
  have hrb : (r != 0) = true := by simp [hr]
  go_enter Tryd.func15, Tryd.ntmps15
  go_wp2_with fail
  refine q_region (C := (fun w' => w'.cell? ⟨w.heap.size, 0, none⟩ = some (.int .u64 (hI x)) ∧ w'.cell? ⟨w.heap.size, 1, none⟩ = some (.int .u64 (lI x)) ∧ w'.cell? ⟨w.heap.size + 1, 0, none⟩ = some (.int .u64 0) ∧ w'.cell? ⟨w.heap.size + 1, 1, none⟩ = some (.int .u64 0) ∧ w'.frozen? ⟨w.heap.size + 1, 0, none⟩ = false ∧ w'.frozen? ⟨w.heap.size + 1, 1, none⟩ = false ∧ Below w.heap.size w w')) (by kernel_rfl) (by kernel_rfl) ⟨by simp [go_sem], by simp [go_sem], by simp [go_sem], by simp [go_sem], by simp [go_sem], by simp [go_sem], kB⟩ ?_
  clear kB
  refine q_run (v := .int .i64 F) (by rfl) ?_ ?_
  · (intro w1 hC; obtain ⟨c1, c2, c3, c4, c5, c6, c7⟩ := hC; go_simp; first | done | (simp; done) | (simp [*]; done) | (simp; omega) | rfl)
  simp only [Act.put, List.setIfInBounds_toArray, List.set_cons_zero, List.set_cons_succ]
  refine q_run (v := .agg #[.int .u64 (hI x), .int .u64 (lI x)]) (by rfl) ?_ ?_
  · (intro w1 hC; obtain ⟨c1, c2, c3, c4, c5, c6, c7⟩ := hC; go_simp; first | done | (simp; done) | (simp [*]; done) | (simp; omega) | rfl)
  simp only [Act.put, List.setIfInBounds_toArray, List.set_cons_zero, List.set_cons_succ]
  refine q_call (v := .int .i64 r) (f := 31) (args := #[.int .i64 F, .agg #[.int .u64 (hI x), .int .u64 (lI x)]]) (by rfl) ?_ ?_ ?_
  · (intro w1 hC; obtain ⟨c1, c2, c3, c4, c5, c6, c7⟩ := hC; go_simp)
  · exact fun w1 hC => (KR w1).mono fun e w' ⟨he, hb⟩ => ⟨he, keepc hb hC.1, keepc hb hC.2.1, keepc hb hC.2.2.1, keepc hb hC.2.2.2.1, keepf hb hC.2.2.1 hC.2.2.2.2.1, keepf hb hC.2.2.2.1 hC.2.2.2.2.2.1, keepb hb hC.2.2.2.2.2.2⟩
  simp only [Act.put, List.setIfInBounds_toArray, List.set_cons_zero, List.set_cons_succ]
  refine q_run (v := .bool true) (by rfl) ?_ ?_
  · (intro w1 hC; obtain ⟨c1, c2, c3, c4, c5, c6, c7⟩ := hC; go_simp; first | done | (simp; done) | (simp [*]; done) | (simp; omega) | rfl)
  simp only [Act.put, List.setIfInBounds_toArray, List.set_cons_zero, List.set_cons_succ]
  refine q_run (v := .bool true) (by rfl) ?_ ?_
  · (intro w1 hC; obtain ⟨c1, c2, c3, c4, c5, c6, c7⟩ := hC; go_simp; first | done | (simp; done) | (simp [*]; done) | (simp; omega) | rfl)
  simp only [Act.put, List.setIfInBounds_toArray, List.set_cons_zero, List.set_cons_succ]
  refine q_skip (by rfl) ?_
  simp only [Act.put, List.setIfInBounds_toArray, List.set_cons_zero, List.set_cons_succ]
  refine q_skip (by rfl) ?_
  simp only [Act.put, List.setIfInBounds_toArray, List.set_cons_zero, List.set_cons_succ]
  refine q_skip (by rfl) ?_
  simp only [Act.put, List.setIfInBounds_toArray, List.set_cons_zero, List.set_cons_succ]
  refine q_skip (by rfl) ?_
  simp only [Act.put, List.setIfInBounds_toArray, List.set_cons_zero, List.set_cons_succ]
  refine q_run (v := .bool true) (by rfl) ?_ ?_
  · (intro w1 hC; obtain ⟨c1, c2, c3, c4, c5, c6, c7⟩ := hC; go_simp; first | done | (simp; done) | (simp [*]; done) | (simp; omega) | rfl)
  simp only [Act.put, List.setIfInBounds_toArray, List.set_cons_zero, List.set_cons_succ]
  refine wpQuiet_nil ?_
  intro w1 hC
  obtain ⟨x0, x1, o0, o1, o2, o3, kB⟩ := hC
  clear KR
  go_wp2
  exact bodyPost_ret (v := .tuple #[.agg #[.int .u64 0, .int .u64 0], .bool false]) (by simp [results, Tryd.results15, go_sem, *]) rfl ⟨rfl, bset2 kB (by omega) _ _⟩

set_option maxHeartbeats 4000000 in
theorem rnext_last (F : Int) (x : BitVec 128) (w : World)
    (KR : ∀ w, Calls Tryd.prog 31 #[.int .i64 F, .agg #[.int .u64 (hI x), .int .u64 (lI x)]] w fun e w' => e = .returned (.int .i64 0) ∧ Below w.heap.size w w')
    (KK : ∀ w, Calls Tryd.prog 14 #[.int .i64 F] w fun e w' => e = .returned (.agg #[.int .u64 (hI x), .int .u64 (lI x)]) ∧ Below w.heap.size w w') :
    Calls Tryd.prog 15 #[.int .i64 F, .agg #[.int .u64 (hI x), .int .u64 (lI x)]] w fun e w' => e = .returned (.tuple #[.agg #[.int .u64 0, .int .u64 0], .bool false]) ∧ Below w.heap.size w w' := by
  have kB := (bl2 w (.cells #[.int .u64 (hI x), .int .u64 (lI x)] 37) (.cells #[.int .u64 0, .int .u64 0] 37)).drew
  go_enter Tryd.func15, Tryd.ntmps15
  go_wp2_with fail
  refine q_region (C := (fun w' => w'.cell? ⟨w.heap.size, 0, none⟩ = some (.int .u64 (hI x)) ∧ w'.cell? ⟨w.heap.size, 1, none⟩ = some (.int .u64 (lI x)) ∧ w'.cell? ⟨w.heap.size + 1, 0, none⟩ = some (.int .u64 0) ∧ w'.cell? ⟨w.heap.size + 1, 1, none⟩ = some (.int .u64 0) ∧ w'.frozen? ⟨w.heap.size + 1, 0, none⟩ = false ∧ w'.frozen? ⟨w.heap.size + 1, 1, none⟩ = false ∧ Below w.heap.size w w')) (by kernel_rfl) (by kernel_rfl) ⟨by simp [go_sem], by simp [go_sem], by simp [go_sem], by simp [go_sem], by simp [go_sem], by simp [go_sem], kB⟩ ?_
  clear kB
  refine q_run (v := .int .i64 F) (by rfl) ?_ ?_
  · (intro w1 hC; obtain ⟨c1, c2, c3, c4, c5, c6, c7⟩ := hC; go_simp; first | done | (simp; done) | (simp [*]; done) | (simp; omega) | rfl)
  simp only [Act.put, List.setIfInBounds_toArray, List.set_cons_zero, List.set_cons_succ]
  refine q_run (v := .agg #[.int .u64 (hI x), .int .u64 (lI x)]) (by rfl) ?_ ?_
  · (intro w1 hC; obtain ⟨c1, c2, c3, c4, c5, c6, c7⟩ := hC; go_simp; first | done | (simp; done) | (simp [*]; done) | (simp; omega) | rfl)
  simp only [Act.put, List.setIfInBounds_toArray, List.set_cons_zero, List.set_cons_succ]
  refine q_call (v := .int .i64 0) (f := 31) (args := #[.int .i64 F, .agg #[.int .u64 (hI x), .int .u64 (lI x)]]) (by rfl) ?_ ?_ ?_
  · (intro w1 hC; obtain ⟨c1, c2, c3, c4, c5, c6, c7⟩ := hC; go_simp)
  · exact fun w1 hC => (KR w1).mono fun e w' ⟨he, hb⟩ => ⟨he, keepc hb hC.1, keepc hb hC.2.1, keepc hb hC.2.2.1, keepc hb hC.2.2.2.1, keepf hb hC.2.2.1 hC.2.2.2.2.1, keepf hb hC.2.2.2.1 hC.2.2.2.2.2.1, keepb hb hC.2.2.2.2.2.2⟩
  simp only [Act.put, List.setIfInBounds_toArray, List.set_cons_zero, List.set_cons_succ]
  refine q_run (v := .bool false) (by rfl) ?_ ?_
  · (intro w1 hC; obtain ⟨c1, c2, c3, c4, c5, c6, c7⟩ := hC; go_simp; first | done | (simp; done) | (simp [*]; done) | (simp; omega) | rfl)
  simp only [Act.put, List.setIfInBounds_toArray, List.set_cons_zero, List.set_cons_succ]
  refine q_run (v := .bool false) (by rfl) ?_ ?_
  · (intro w1 hC; obtain ⟨c1, c2, c3, c4, c5, c6, c7⟩ := hC; go_simp; first | done | (simp; done) | (simp [*]; done) | (simp; omega) | rfl)
  simp only [Act.put, List.setIfInBounds_toArray, List.set_cons_zero, List.set_cons_succ]
  refine q_run (v := .agg #[.int .u64 (hI x), .int .u64 (lI x)]) (by rfl) ?_ ?_
  · (intro w1 hC; obtain ⟨c1, c2, c3, c4, c5, c6, c7⟩ := hC; go_simp; first | done | (simp; done) | (simp [*]; done) | (simp; omega) | rfl)
  simp only [Act.put, List.setIfInBounds_toArray, List.set_cons_zero, List.set_cons_succ]
  refine q_run (v := .int .i64 F) (by rfl) ?_ ?_
  · (intro w1 hC; obtain ⟨c1, c2, c3, c4, c5, c6, c7⟩ := hC; go_simp; first | done | (simp; done) | (simp [*]; done) | (simp; omega) | rfl)
  simp only [Act.put, List.setIfInBounds_toArray, List.set_cons_zero, List.set_cons_succ]
  refine q_call (v := .agg #[.int .u64 (hI x), .int .u64 (lI x)]) (f := 14) (args := #[.int .i64 F]) (by rfl) ?_ ?_ ?_
  · (intro w1 hC; obtain ⟨c1, c2, c3, c4, c5, c6, c7⟩ := hC; go_simp)
  · exact fun w1 hC => (KK w1).mono fun e w' ⟨he, hb⟩ => ⟨he, keepc hb hC.1, keepc hb hC.2.1, keepc hb hC.2.2.1, keepc hb hC.2.2.2.1, keepf hb hC.2.2.1 hC.2.2.2.2.1, keepf hb hC.2.2.2.1 hC.2.2.2.2.2.1, keepb hb hC.2.2.2.2.2.2⟩
  simp only [Act.put, List.setIfInBounds_toArray, List.set_cons_zero, List.set_cons_succ]
  refine q_run (v := .bool true) (by rfl) ?_ ?_
  · (intro w1 hC; obtain ⟨c1, c2, c3, c4, c5, c6, c7⟩ := hC; go_simp; first | done | (simp; done) | (simp [*]; done) | (simp; omega) | rfl)
  simp only [Act.put, List.setIfInBounds_toArray, List.set_cons_zero, List.set_cons_succ]
  refine q_run (v := .bool true) (by rfl) ?_ ?_
  · (intro w1 hC; obtain ⟨c1, c2, c3, c4, c5, c6, c7⟩ := hC; go_simp; first | done | (simp; done) | (simp [*]; done) | (simp; omega) | rfl)
  simp only [Act.put, List.setIfInBounds_toArray, List.set_cons_zero, List.set_cons_succ]
  refine wpQuiet_nil ?_
  intro w1 hC
  obtain ⟨x0, x1, o0, o1, o2, o3, kB⟩ := hC
  clear KR KK
  go_wp2
  exact bodyPost_ret (v := .tuple #[.agg #[.int .u64 0, .int .u64 0], .bool false]) (by simp [results, Tryd.results15, go_sem, *]) rfl ⟨rfl, bset2 kB (by omega) _ _⟩

end Go.Proofs.YtddjeplceioenaaDoor
/-
  What the calls of turnpikeref2's Next and Prev do, of any word.
-/
namespace Go.Proofs.YtddjeplceioenaaDoor
open Go.RowKit
set_option linter.unusedSimpArgs false
set_option linter.unusedVariables false

theorem rnext_any (F : Int) (x : BitVec 128) (w : World) :
    Calls Tryd.prog 15 #[.int .i64 F, .agg #[.int .u64 (hI x), .int .u64 (lI x)]] w fun e w' => e = .returned (.tuple #[.agg #[.int .u64 (hI (nextV F x)), .int .u64 (lI (nextV F x))], .bool (nextB F x)]) ∧ Below w.heap.size w w' := by
  have KR := fun w => rright_any F x w
  by_cases hr : rightE F x = 0
  · obtain ⟨hf, hm⟩ := right0 F x hr
    rw [hr] at KR
    have ho := over_step F x hf hm
    have KK := fun w => rmask_any F w
    by_cases e : x = maskW F
    · have e1 : nextB F x = false := by unfold nextB; rw [ho]; simp [e]
      have e2 : nextV F x = 0#128 := by unfold nextV; rw [e1]; rfl
      rw [e1, e2, hI_zero, lI_zero]
      rw [← e] at KK
      exact rnext_last F x w KR KK
    · have e1 : nextB F x = true := by unfold nextB; rw [ho]; simp [e, hr]
      have e2 : nextV F x = x + stepW F := by unfold nextV; rw [e1]; rfl
      rw [e1, e2]
      refine rnext_yes F x (maskW F) (stepW F) (x + stepW F) (overB x (stepW F)) w ?_ KR KK (fun w => rone_any F w hf) (fun w => radd_any x (stepW F) w)
      rcases three x (maskW F) with ⟨a, b, c⟩ | ⟨a, c⟩ | ⟨a, b, c⟩
      · exact absurd c e
      · exact Or.inl a
      · exact Or.inr ⟨a, b⟩
  · have e1 : nextB F x = false := by unfold nextB; simp [hr]
    have e2 : nextV F x = 0#128 := by unfold nextV; rw [e1]; rfl
    rw [e1, e2, hI_zero, lI_zero]
    exact rnext_no F (rightE F x) x w hr KR
end Go.Proofs.YtddjeplceioenaaDoor
