/-
  Part 30 of the proof: 1 texts, one behind the other.
-/
import Derived.Test.YtohnhpicjedfeaaPart29
import Derived.Test.YtohnhpicjedfeaaPart10
namespace Go.Proofs.Ytohnhpicjedfeaa
open Go.RowKit Go.Shelf
set_option linter.unusedSimpArgs false
set_option linter.unusedVariables false

set_option maxRecDepth 100000 in
set_option maxHeartbeats 16000000 in
theorem tableLonely_any (F : Int) (ao : Option Addr) (c : Nat) (l : List Rte) (x : BitVec 128) (k : Int) (px : BitVec 128) (pn ph : Int) (w : World) (hv : RowA w 4 (.slice ao l.length c) l.length (rowR l)) :
    Calls Try.prog 4 #[.agg #[.int .i64 F, .slice ao l.length c], .agg #[.int .u64 (hI x), .int .u64 (lI x)], .int .i64 k, .agg #[.int .u64 (hI px), .int .u64 (lI px), .int .i64 pn, .int .i64 ph]] w fun e w' => e = .returned (.bool true) ∧ Below w.heap.size w w' := by
  have q1 := bl1 w (.cells #[.int .i64 F, .slice ao l.length c] 25)
  have q2 := bl1 (w.alloc (.cells #[.int .i64 F, .slice ao l.length c] 25)) (.cells #[.int .u64 (hI x), .int .u64 (lI x)] 36)
  have q3 := bl1 ((w.alloc (.cells #[.int .i64 F, .slice ao l.length c] 25)).alloc (.cells #[.int .u64 (hI x), .int .u64 (lI x)] 36)) (.cells #[.int .u64 (hI px), .int .u64 (lI px), .int .i64 pn, .int .i64 ph] 40)
  have HB0 := hidR (keepb q3 (keepb q2 q1))
  have HX0 : Hid (Gl w.heap.size F (.slice ao l.length c) x px pn ph (((w.alloc (.cells #[.int .i64 F, .slice ao l.length c] 25)).alloc (.cells #[.int .u64 (hI x), .int .u64 (lI x)] 36)).alloc (.cells #[.int .u64 (hI px), .int .u64 (lI px), .int .i64 pn, .int .i64 ph] 40))) := hidR ⟨
    (q3.block _ (by simp; omega)).trans ((q2.block _ (by simp)).trans Array.getElem?_push_size),
    (q3.block _ (by simp)).trans (by have := World.alloc_heap_new (w.alloc (.cells #[.int .i64 F, .slice ao l.length c] 25)) (.cells #[.int .u64 (hI x), .int .u64 (lI x)] 36); rwa [World.size_alloc] at this),
    by have := World.alloc_heap_new ((w.alloc (.cells #[.int .i64 F, .slice ao l.length c] 25)).alloc (.cells #[.int .u64 (hI x), .int .u64 (lI x)] 36)) (.cells #[.int .u64 (hI px), .int .u64 (lI px), .int .i64 pn, .int .i64 ph] 40); rwa [World.size_alloc, World.size_alloc] at this⟩
  have HVw := hidR hv
  have KK := fun W => known5_any W
  clear q1 q2 q3 hv
  go_enter Try.func4, Try.ntmps4
  go_wp2_with fail
  refine (KK _).mono ?_
  rintro e w1 ⟨rfl, hb⟩
  have HB1 := hidR (keepb hb HB0.out)
  have HX1 := hidR (HX0.out.below hb)
  have KR := rightT_any F (.slice ao l.length c) l w1 (rowA_rwr (HVw.out.below HB1.out))
  clear KK hb HB0 HX0
  have t0 := at_blk HX1.out.t 0 (.int .i64 F) rfl
  have t1 := at_blk HX1.out.t 1 (.slice ao l.length c) rfl
  go_wp2_with fail
  refine KR.mono ?_
  rintro e w2 ⟨⟨r, hr, rfl⟩, hb⟩
  have HB2 := hidR (keepb hb HB1.out)
  have HX2 := hidR (HX1.out.below hb)
  clear KR hb HB1 HX1 t0 t1
  cases r with
  | false =>
    go_wp2
    exact bodyPost_ret (v := .bool true) (by simp [results, Try.results4, go_sem]) rfl ⟨rfl, HB2.out⟩
  | true =>
    obtain ⟨hF, hl, hRt, hO⟩ := right5_okL (hr rfl)
    have t0 := at_blk HX2.out.t 0 (.int .i64 F) rfl
    have t1 := at_blk HX2.out.t 1 (.slice ao l.length c) rfl
    have x0 := at_blk HX2.out.x 0 (.int .u64 (hI x)) rfl
    have x1 := at_blk HX2.out.x 1 (.int .u64 (lI x)) rfl
    by_cases hl0 : l.length = 0
    · have hl0b : ((l.length : Int) == 0) = true := by simp [hl0]
      go_wp2
      exact bodyPost_ret (v := .bool true) (by simp [results, Try.results4, go_sem]) rfl ⟨rfl, HB2.out⟩
    have hl0b : ((l.length : Int) == 0) = false := beq_eq_false_iff_ne.mpr (by omega)
    have HG : Hid ((F = 32 ∨ F = 128) ∧ RtR F l ∧ OrdR l) := hidR ⟨hF, hRt, hO⟩
    have HE0 : Hid (rtsE F l = 0) := hidR (hr rfl).2.1
    have hF0 : 0 ≤ F := by omega
    have hF1 : F ≤ 128 := by omega
    clear hr hRt hO hF
    have KF := fitted5_any F 0#128 0 x w2 hF0 hF1
    rw [hI_zero, lI_zero] at KF
    have HRx := hidR (rt_mask F x hF0)
    revert KF HRx
    generalize (0 : Int) % (F + 1) = m
    generalize cutW 0#128 m = y
    generalize x &&& maskW F = z
    intro KF HRx
    go_wp2_with fail
    refine KF.mono ?_
    rintro e w3 ⟨rfl, hb⟩
    have hX3 := HX2.out.below hb
    have hB3 := keepb hb HB2.out
    clear hb KF t0 t1 x0 x1 HX2 HB2
    have t0 := at_blk hX3.t 0 (.int .i64 F) rfl
    have t1 := at_blk hX3.t 1 (.slice ao l.length c) rfl
    have x0 := at_blk hX3.x 0 (.int .u64 (hI x)) rfl
    have x1 := at_blk hX3.x 1 (.int .u64 (lI x)) rfl
    have g0 := fr_blk5 (j := 0) hX3.x
    have g1 := fr_blk5 (j := 1) hX3.x
    have HX4 : Hid (Gl w.heap.size F (.slice ao l.length c) z px pn ph ((w3.setCell ⟨w.heap.size + 1, 0, none⟩ (.int .u64 (hI z))).setCell ⟨w.heap.size + 1, 1, none⟩ (.int .u64 (lI z)))) := hidR (by
      refine ⟨?_, ?_, ?_⟩
      · rw [hSet6 _ (by omega), hSet6 _ (by omega)]; exact hX3.t
      · simpa using set_blk5 (o := 1) (set_blk5 (o := 0) hX3.x (.int .u64 (hI z))) (.int .u64 (lI z))
      · rw [hSet6 _ (by omega), hSet6 _ (by omega)]; exact hX3.r)
    have HB4 : Hid (Below w.heap.size w ((w3.setCell ⟨w.heap.size + 1, 0, none⟩ (.int .u64 (hI z))).setCell ⟨w.heap.size + 1, 1, none⟩ (.int .u64 (lI z)))) := hidR ((hB3.setCell (p := ⟨w.heap.size + 1, 0, none⟩) (by simp) _).setCell (p := ⟨w.heap.size + 1, 1, none⟩) (by simp) _)
    clear hX3 hB3
    go_wp2_with fail
    clear t0 t1 x0 x1 g0 g1
    revert HX4 HB4
    generalize (w3.setCell ⟨w.heap.size + 1, 0, none⟩ (.int .u64 (hI z))).setCell ⟨w.heap.size + 1, 1, none⟩ (.int .u64 (lI z)) = w4
    intro HX4 HB4
    obtain ⟨T, hT⟩ : ∃ T, T = (l.filter (inR z F)).reverse := ⟨_, rfl⟩
    have HTT := hidR hT
    clear hT
    refine (lookT_any F z ao c l w4 hF1 HG.out.2.2 HG.out.2.1 HRx.out (by omega) (HVw.out.below HB4.out) T HTT.out).mono ?_
    rintro e w5 ⟨rfl, hb⟩
    have HX5 := hidR (HX4.out.below hb)
    have HB5 := hidR (keepb hb HB4.out)
    clear hb HX4 HB4
    obtain ⟨W0, hW0⟩ : ∃ W0 : Int, W0 = (fstR T).2 := ⟨_, rfl⟩
    rw [← hW0]
    have HW0 := hidR hW0
    clear hW0
    have t1 := at_blk HX5.out.t 1 (.slice ao l.length c) rfl
    have KW := fun W => within5_any k (l.length : Int) W (by omega) (by omega)
    have b1 := Int.emod_nonneg k (b := (l.length : Int)) (by omega)
    have b2 := Int.emod_lt_of_pos k (b := (l.length : Int)) (by omega)
    obtain ⟨i, hi⟩ : ∃ i : Nat, k % (l.length : Int) = (i : Int) := ⟨(k % (l.length : Int)).toNat, by omega⟩
    rw [hi] at KW b1 b2
    have hil : i < l.length := by omega
    have hil2 : (i : Int) < (l.length : Int) := by omega
    clear hi b1 b2
    go_wp2_with fail
    refine (KW _).mono ?_
    rintro e w6 ⟨rfl, hw6⟩
    rw [hw6]; clear hw6 KW w6 t1
    -- the route
    have HR5 := rowA_rwr (HVw.out.below HB5.out)
    obtain ⟨ao', c', e9, hcl⟩ := HR5
    injection e9 with e1 e2 e3
    subst e1
    subst e3
    rcases hcl with hcl | ⟨b, off, rfl, hcl⟩
    · exfalso; rw [hcl] at hil; simp at hil
    have HCL : Hid (∀ j u, (rowR l)[j]? = some u → w5.cell? ⟨b, off + j, none⟩ = some u) := hidR hcl
    clear hcl
    have hlc : l.length ≤ c := by
      obtain ⟨-, _, _, e, h, -⟩ := HVw.out
      injection e with _ _ e3
      omega
    go_upto_region 8 with fail
    have hR8 : (w5.cell? ⟨b, off + i * 4, none⟩ = some (.int .u64 (hI l[i].1.1)) ∧ w5.cell? ⟨b, off + i * 4 + 1, none⟩ = some (.int .u64 (lI l[i].1.1)) ∧ w5.cell? ⟨b, off + i * 4 + 2, none⟩ = some (.int .i64 l[i].1.2)) := by
      have h3 := rowR_get l i hil
      refine ⟨?_, ?_, ?_⟩
      · exact HCL.out _ _ h3.1
      · exact HCL.out _ _ h3.2.1
      · exact HCL.out _ _ h3.2.2.1
    have HRi := hidR (HG.out.2.1 l[i] (List.getElem_mem hil))
    generalize hri : l[i] = ri at *
    obtain ⟨⟨rx, rn⟩, rh⟩ := ri
    dsimp only at hR8 HRi
    refine qw_region (C := fun W => Gl w.heap.size F (.slice (some ⟨b, off, none⟩) l.length c) z px pn ph W ∧ (W.cell? ⟨b, off + i * 4, none⟩ = some (.int .u64 (hI rx)) ∧ W.cell? ⟨b, off + i * 4 + 1, none⟩ = some (.int .u64 (lI rx)) ∧ W.cell? ⟨b, off + i * 4 + 2, none⟩ = some (.int .i64 rn)) ∧ Below w5.heap.size w5 W) (by kernel_rfl) (by kernel_rfl) ⟨HX5.out.below (below_drewN (Below.refl _ _) 1), hR8, (Below.refl _ _).drew⟩ ?_
    clear hR8
    refine qw_run (v := .pointer (some ⟨w.heap.size, 1, none⟩)) (by rfl) ?_ ?_
    · (intro w1 hC; obtain ⟨gx, ⟨c0, c1, c2⟩, lo⟩ := hC; have t1 := at_blk gx.t 1 (.slice (some ⟨b, off, none⟩) l.length c) rfl; have x0 := at_blk gx.x 0 (.int .u64 (hI z)) rfl; have x1 := at_blk gx.x 1 (.int .u64 (lI z)) rfl; clear gx lo; go_simp; first | done | (simp; done) | (simp [*]; done) | omega | (simp; omega) | (simp [*]; omega) | rfl)
    simp only [Act.put, List.setIfInBounds_toArray, List.set_cons_zero, List.set_cons_succ]
    refine qw_run (v := .slice (some ⟨b, off, none⟩) l.length c) (by rfl) ?_ ?_
    · (intro w1 hC; obtain ⟨gx, ⟨c0, c1, c2⟩, lo⟩ := hC; have t1 := at_blk gx.t 1 (.slice (some ⟨b, off, none⟩) l.length c) rfl; have x0 := at_blk gx.x 0 (.int .u64 (hI z)) rfl; have x1 := at_blk gx.x 1 (.int .u64 (lI z)) rfl; clear gx lo; go_simp; first | done | (simp; done) | (simp [*]; done) | omega | (simp; omega) | (simp [*]; omega) | rfl)
    simp only [Act.put, List.setIfInBounds_toArray, List.set_cons_zero, List.set_cons_succ]
    refine qw_run (v := .int .i64 (i : Int)) (by rfl) ?_ ?_
    · (intro w1 hC; obtain ⟨gx, ⟨c0, c1, c2⟩, lo⟩ := hC; have t1 := at_blk gx.t 1 (.slice (some ⟨b, off, none⟩) l.length c) rfl; have x0 := at_blk gx.x 0 (.int .u64 (hI z)) rfl; have x1 := at_blk gx.x 1 (.int .u64 (lI z)) rfl; clear gx lo; go_simp; first | done | (simp; done) | (simp [*]; done) | omega | (simp; omega) | (simp [*]; omega) | rfl)
    simp only [Act.put, List.setIfInBounds_toArray, List.set_cons_zero, List.set_cons_succ]
    refine qw_run (v := .pointer (some ⟨b, off + i * 4, none⟩)) (by rfl) ?_ ?_
    · (intro w1 hC; obtain ⟨gx, ⟨c0, c1, c2⟩, lo⟩ := hC; have t1 := at_blk gx.t 1 (.slice (some ⟨b, off, none⟩) l.length c) rfl; have x0 := at_blk gx.x 0 (.int .u64 (hI z)) rfl; have x1 := at_blk gx.x 1 (.int .u64 (lI z)) rfl; clear gx lo; go_simp; first | done | (simp; done) | (simp [*]; done) | omega | (simp; omega) | (simp [*]; omega) | rfl)
    simp only [Act.put, List.setIfInBounds_toArray, List.set_cons_zero, List.set_cons_succ]
    refine qw_run (v := .pointer (some ⟨b, off + i * 4, none⟩)) (by rfl) ?_ ?_
    · (intro w1 hC; obtain ⟨gx, ⟨c0, c1, c2⟩, lo⟩ := hC; have t1 := at_blk gx.t 1 (.slice (some ⟨b, off, none⟩) l.length c) rfl; have x0 := at_blk gx.x 0 (.int .u64 (hI z)) rfl; have x1 := at_blk gx.x 1 (.int .u64 (lI z)) rfl; clear gx lo; go_simp; first | done | (simp; done) | (simp [*]; done) | omega | (simp; omega) | (simp [*]; omega) | rfl)
    simp only [Act.put, List.setIfInBounds_toArray, List.set_cons_zero, List.set_cons_succ]
    refine qw_run (v := .agg #[.int .u64 (hI rx), .int .u64 (lI rx), .int .i64 rn]) (by rfl) ?_ ?_
    · (intro w1 hC; obtain ⟨gx, ⟨c0, c1, c2⟩, lo⟩ := hC; have t1 := at_blk gx.t 1 (.slice (some ⟨b, off, none⟩) l.length c) rfl; have x0 := at_blk gx.x 0 (.int .u64 (hI z)) rfl; have x1 := at_blk gx.x 1 (.int .u64 (lI z)) rfl; clear gx lo; go_simp; first | done | (simp; done) | (simp [*]; done) | omega | (simp; omega) | (simp [*]; omega) | rfl)
    simp only [Act.put, List.setIfInBounds_toArray, List.set_cons_zero, List.set_cons_succ]
    refine qw_run (v := .agg #[.int .u64 (hI z), .int .u64 (lI z)]) (by rfl) ?_ ?_
    · (intro w1 hC; obtain ⟨gx, ⟨c0, c1, c2⟩, lo⟩ := hC; have t1 := at_blk gx.t 1 (.slice (some ⟨b, off, none⟩) l.length c) rfl; have x0 := at_blk gx.x 0 (.int .u64 (hI z)) rfl; have x1 := at_blk gx.x 1 (.int .u64 (lI z)) rfl; clear gx lo; go_simp; first | done | (simp; done) | (simp [*]; done) | omega | (simp; omega) | (simp [*]; omega) | rfl)
    simp only [Act.put, List.setIfInBounds_toArray, List.set_cons_zero, List.set_cons_succ]
    refine qw_call (v := .bool (rhasB rx rn z)) (f := 16) (args := #[.agg #[.int .u64 (hI rx), .int .u64 (lI rx), .int .i64 rn], .agg #[.int .u64 (hI z), .int .u64 (lI z)]]) (by rfl) ?_ ?_ ?_
    · (intro w1 hC; clear hC; go_simp)
    · exact fun w1 hC => (rhas_any rx rn z w1).mono fun e w' ⟨he, hb⟩ => ⟨he, ⟨hC.1.below hb, ⟨keepc hb hC.2.1.1, keepc hb hC.2.1.2.1, keepc hb hC.2.1.2.2⟩, keepb hb hC.2.2⟩⟩
    simp only [Act.put, List.setIfInBounds_toArray, List.set_cons_zero, List.set_cons_succ]
    refine qw_run (v := .bool (!rhasB rx rn z)) (by rfl) ?_ ?_
    · (intro w1 hC; obtain ⟨gx, ⟨c0, c1, c2⟩, lo⟩ := hC; have t1 := at_blk gx.t 1 (.slice (some ⟨b, off, none⟩) l.length c) rfl; have x0 := at_blk gx.x 0 (.int .u64 (hI z)) rfl; have x1 := at_blk gx.x 1 (.int .u64 (lI z)) rfl; clear gx lo; go_simp; first | done | (simp; done) | (simp [*]; done) | omega | (simp; omega) | (simp [*]; omega) | rfl)
    simp only [Act.put, List.setIfInBounds_toArray, List.set_cons_zero, List.set_cons_succ]
    refine qw_nil ?_
    intro w9 hC
    have HX9 := hidR hC.1
    have HL9 := hidR hC.2.2
    clear hC
    go_upto_if 51 with fail
    go_cut [10] (fun _ wx => Hid (Gl w.heap.size F (.slice (some ⟨b, off, none⟩) l.length c) z px pn ph wx) ∧ Hid (Below w5.heap.size w5 wx))
    case first =>
      cases hh : rhasB rx rn z with
      | true =>
        go_wp2_with fail
        go_meet
        case rel => exact ⟨HX9, HL9⟩
      | false =>
        have t0 := at_blk HX9.out.t 0 (.int .i64 F) rfl
        have HU0 : Hid (UV w9 F (.slice none 0 0) (.slice none 0 0) [] (w9.alloc (.cells #[.int .i64 F, .slice none 0 0] 25))) := hidR ⟨Array.getElem?_push_size, World.ownsRow_nil _ _ _ _, bl1 w9 _⟩
        have hi3 : l.length ≤ 3000 := hl
        have HC9 : Hid (∀ W, Below w9.heap.size w9 W → ∀ j u, (rowR l)[j]? = some u → W.cell? ⟨b, off + j, none⟩ = some u) := hidR (fun W hW j u hj => keepc hW (keepc HL9.out (HCL.out j u hj)))
        have HT9 : Hid (∀ W, Below w9.heap.size w9 W → W.cell? ⟨w.heap.size, 1, none⟩ = some (.slice (some ⟨b, off, none⟩) l.length c)) := hidR (fun W hW => at_blk (HX9.out.below hW).t 1 _ rfl)
        go_wp2_with fail
        clear t0
        revert HU0
        generalize w9.alloc (.cells #[.int .i64 F, .slice none 0 0] 25) = w10
        intro HU0
        refine cl_region 7 6 (alOk (qpOk 7 6 (by decide) (fun N => by kernel_rfl) (by kernel_rfl) (by kernel_rfl) (by kernel_rfl) (by kernel_rfl)) (by decide) rfl rfl (by kernel_rfl)) (D := fun W => UV w9 F (.slice none 0 0) (.slice none 0 0) ([]) W) (C1 := fun N W => UV w9 F (.slice none 0 0) (valA (i) N) (l.take i) W) [some 55, some 56, some 57, some 58, some 59, some 60, some 61] (fun N => [.pointer (some ⟨w9.heap.size, 1, none⟩), .slice none 0 0, .pointer (some ⟨w.heap.size, 1, none⟩), .slice (some ⟨b, off, none⟩) l.length c, .int .i64 (i : Int), .slice (some ⟨b, off, none⟩) i c, valA (i) N]) (fun N => valA (i) N) 61 [56, 60] (by kernel_rfl) rfl ?hA ?hrd ?hal (HU0.out.below (below_drewN (Below.refl _ _) 1)) ?walk ?fin
        case hA => intro N; simp only [putAll, Act.put, List.setIfInBounds_toArray, List.set_cons_zero, List.set_cons_succ, List.eraseIdx_cons_succ, List.eraseIdx_cons_zero]
        case hrd => kernel_rfl
        case hal =>
          intro W a' hC hr K Q' hK
          have e1 : a'.tmps[56]? = some (.slice none 0 0) := (hr 56 (by simp)).trans (by simp only [putAll, Act.put, List.setIfInBounds_toArray, List.set_cons_zero, List.set_cons_succ]; rfl)
          have e2 : a'.tmps[60]? = some (.slice (some ⟨b, off, none⟩) i c) := (hr 60 (by simp)).trans (by simp only [putAll, Act.put, List.setIfInBounds_toArray, List.set_cons_zero, List.set_cons_succ]; rfl)
          clear hr
          exact app_uv w9 W F (.slice none 0 0) (.slice none 0 0) ([]) (l.take i) (l.take i) b (off) (i) (c) (i) (.tmp 56) (.tmp 60) rfl (by simp [go_sem, e1]) (by simp [go_sem, e2]) hC (by simp; omega) (by simp) (by simp; try omega) (fun j u hj => HC9.out W hC.low j u (by rw [← rowR_take] at hj; rw [List.getElem?_take] at hj; split at hj; exact hj; cases hj)) (by simp; omega) hK
        case walk =>
          intro N X hX
          have hXD : ∀ W, X W → W.cell? ⟨w9.heap.size, 1, none⟩ = some (.slice none 0 0) ∧ W.cell? ⟨w.heap.size, 1, none⟩ = some (.slice (some ⟨b, off, none⟩) l.length c) := by
            rcases hX with rfl | rfl
            · exact fun W h => ⟨at_blk h.t 1 _ rfl, HT9.out W h.low⟩
            · exact fun W h => ⟨at_blk h.t 1 _ rfl, HT9.out W h.low⟩
          clear hX HU0 HT9 HC9 HX9 HL9 HCL HVw HTT
          dsimp only [rep, List.take, List.modify, List.modifyTailIdx, List.modifyTailIdx.go, List.modifyHead]
          refine q_run (v := .pointer (some ⟨w9.heap.size, 1, none⟩)) (by rfl) ?_ ?_
          · (intro w1 hC; obtain ⟨a1, a2⟩ := hXD w1 hC; clear hC; go_simp; first | done | (simp; done) | (simp [*]; done) | omega | (simp; omega) | (simp [*]; omega) | (intro hx; omega) | (rw [if_pos (by omega), ho2]; done) | rfl)
          simp only [Act.put, List.setIfInBounds_toArray, List.set_cons_zero, List.set_cons_succ]
          refine q_run (v := .slice none 0 0) (by rfl) ?_ ?_
          · (intro w1 hC; obtain ⟨a1, a2⟩ := hXD w1 hC; clear hC; go_simp; first | done | (simp; done) | (simp [*]; done) | omega | (simp; omega) | (simp [*]; omega) | (intro hx; omega) | (rw [if_pos (by omega), ho2]; done) | rfl)
          simp only [Act.put, List.setIfInBounds_toArray, List.set_cons_zero, List.set_cons_succ]
          refine q_run (v := .pointer (some ⟨w.heap.size, 1, none⟩)) (by rfl) ?_ ?_
          · (intro w1 hC; obtain ⟨a1, a2⟩ := hXD w1 hC; clear hC; go_simp; first | done | (simp; done) | (simp [*]; done) | omega | (simp; omega) | (simp [*]; omega) | (intro hx; omega) | (rw [if_pos (by omega), ho2]; done) | rfl)
          simp only [Act.put, List.setIfInBounds_toArray, List.set_cons_zero, List.set_cons_succ]
          refine q_run (v := .slice (some ⟨b, off, none⟩) l.length c) (by rfl) ?_ ?_
          · (intro w1 hC; obtain ⟨a1, a2⟩ := hXD w1 hC; clear hC; go_simp; first | done | (simp; done) | (simp [*]; done) | omega | (simp; omega) | (simp [*]; omega) | (intro hx; omega) | (rw [if_pos (by omega), ho2]; done) | rfl)
          simp only [Act.put, List.setIfInBounds_toArray, List.set_cons_zero, List.set_cons_succ]
          refine q_run (v := .int .i64 (i : Int)) (by rfl) ?_ ?_
          · (intro w1 hC; obtain ⟨a1, a2⟩ := hXD w1 hC; clear hC; go_simp; first | done | (simp; done) | (simp [*]; done) | omega | (simp; omega) | (simp [*]; omega) | (intro hx; omega) | (rw [if_pos (by omega), ho2]; done) | rfl)
          simp only [Act.put, List.setIfInBounds_toArray, List.set_cons_zero, List.set_cons_succ]
          refine q_run (v := .slice (some ⟨b, off, none⟩) i c) (by rfl) ?_ ?_
          · (intro w1 hC; obtain ⟨a1, a2⟩ := hXD w1 hC; clear hC; go_simp; first | done | (simp; done) | (simp [*]; done) | omega | (simp; omega) | (simp [*]; omega) | (intro hx; omega) | (rw [if_pos (by omega), ho2]; done) | rfl)
          simp only [Act.put, List.setIfInBounds_toArray, List.set_cons_zero, List.set_cons_succ]
          refine q_run (v := valA (i) N) (by rfl) ?_ ?_
          · (intro w1 hC; obtain ⟨a1, a2⟩ := hXD w1 hC; clear hC; go_simp; first | done | (simp; done) | (simp [*]; done) | omega | (simp; omega) | (simp [*]; omega) | (intro hx; omega) | (rw [if_pos (by omega), ho2]; done) | rfl)
          simp only [Act.put, List.setIfInBounds_toArray, List.set_cons_zero, List.set_cons_succ]
          refine wpQuiet_nil ?_
          simp only [putAll, Act.put, List.setIfInBounds_toArray, List.set_cons_zero, List.set_cons_succ]
        case fin =>
          intro N W hC
          simp only [putAll, Act.put, List.setIfInBounds_toArray, List.set_cons_zero, List.set_cons_succ]
          dsimp only [List.drop]
          obtain ⟨uo, uc, eu⟩ := own_form hC.own
          have hlen : (l.take i).length = i := by simp; omega
          rw [hlen] at eu
          rw [eu] at hC ⊢
          have c1 := at_blk hC.t 1 _ rfl
          have d1 := fr_blk5 (j := 1) hC.t
          have HU1 := hidR hC.put
          clear hC HU0 eu
          go_wp2_with fail
          clear c1 d1
          revert HU1
          generalize W.setCell ⟨w9.heap.size, 1, none⟩ (.slice uo i uc) = w11
          intro HU1
          obtain ⟨off2, ho2, HD9⟩ := dropA5 l i b off c hil hlc w9 HC9.out
          have wi : IntKind.i64.wrap ((i : Int) + 1) = ((i + 1 : Nat) : Int) := by rw [IntKind.wrap_i64]; omega
          refine cl_region 8 7 (alOk (qpOk 8 7 (by decide) (fun N => by kernel_rfl) (by kernel_rfl) (by kernel_rfl) (by kernel_rfl) (by kernel_rfl)) (by decide) rfl rfl (by kernel_rfl)) (D := fun W => UV w9 F (.slice uo i uc) (.slice uo i uc) (l.take i) W) (C1 := fun N W => UV w9 F (.slice uo i uc) (valA (l.length - 1) N) (l.take i ++ l.drop (i + 1)) W) [some 63, some 64, some 65, some 66, some 67, some 68, some 69, some 70] (fun N => [.pointer (some ⟨w9.heap.size, 1, none⟩), .slice uo i uc, .pointer (some ⟨w.heap.size, 1, none⟩), .slice (some ⟨b, off, none⟩) l.length c, .int .i64 (i : Int), .int .i64 ((i + 1 : Nat) : Int), .slice (some ⟨b, off2, none⟩) (l.length - (i + 1)) (c - (i + 1)), valA (l.length - 1) N]) (fun N => valA (l.length - 1) N) 70 [64, 69] (by kernel_rfl) rfl ?hA ?hrd ?hal (HU1.out.below (below_drewN (Below.refl _ _) 1)) ?walk ?fin
          case hA => intro N; simp only [putAll, Act.put, List.setIfInBounds_toArray, List.set_cons_zero, List.set_cons_succ, List.eraseIdx_cons_succ, List.eraseIdx_cons_zero]
          case hrd => kernel_rfl
          case hal =>
            intro W a' hC hr K Q' hK
            have e1 : a'.tmps[64]? = some (.slice uo i uc) := (hr 64 (by simp)).trans (by simp only [putAll, Act.put, List.setIfInBounds_toArray, List.set_cons_zero, List.set_cons_succ]; rfl)
            have e2 : a'.tmps[69]? = some (.slice (some ⟨b, off2, none⟩) (l.length - (i + 1)) (c - (i + 1))) := (hr 69 (by simp)).trans (by simp only [putAll, Act.put, List.setIfInBounds_toArray, List.set_cons_zero, List.set_cons_succ]; rfl)
            clear hr
            exact app_uv w9 W F (.slice uo i uc) (.slice uo i uc) (l.take i) (l.drop (i + 1)) (l.take i ++ l.drop (i + 1)) b (off2) (l.length - (i + 1)) (c - (i + 1)) (l.length - 1) (.tmp 64) (.tmp 69) rfl (by simp [go_sem, e1]) (by simp [go_sem, e2]) hC (by simp) (by simp) (by simp; try omega) (fun j u hj => HD9.out W hC.low j u hj) (by simp; omega) hK
          case walk =>
            intro N X hX
            have hXD : ∀ W, X W → W.cell? ⟨w9.heap.size, 1, none⟩ = some (.slice uo i uc) ∧ W.cell? ⟨w.heap.size, 1, none⟩ = some (.slice (some ⟨b, off, none⟩) l.length c) := by
              rcases hX with rfl | rfl
              · exact fun W h => ⟨at_blk h.t 1 _ rfl, HT9.out W h.low⟩
              · exact fun W h => ⟨at_blk h.t 1 _ rfl, HT9.out W h.low⟩
            clear hX HU1 HT9 HC9 HD9 HX9 HL9 HCL HVw HTT
            dsimp only [rep, List.take, List.modify, List.modifyTailIdx, List.modifyTailIdx.go, List.modifyHead]
            refine q_run (v := .pointer (some ⟨w9.heap.size, 1, none⟩)) (by rfl) ?_ ?_
            · (intro w1 hC; obtain ⟨a1, a2⟩ := hXD w1 hC; clear hC; go_simp; first | done | (simp; done) | (simp [*]; done) | omega | (simp; omega) | (simp [*]; omega) | (intro hx; omega) | (rw [if_pos (by omega), ho2]; done) | rfl)
            simp only [Act.put, List.setIfInBounds_toArray, List.set_cons_zero, List.set_cons_succ]
            refine q_run (v := .slice uo i uc) (by rfl) ?_ ?_
            · (intro w1 hC; obtain ⟨a1, a2⟩ := hXD w1 hC; clear hC; go_simp; first | done | (simp; done) | (simp [*]; done) | omega | (simp; omega) | (simp [*]; omega) | (intro hx; omega) | (rw [if_pos (by omega), ho2]; done) | rfl)
            simp only [Act.put, List.setIfInBounds_toArray, List.set_cons_zero, List.set_cons_succ]
            refine q_run (v := .pointer (some ⟨w.heap.size, 1, none⟩)) (by rfl) ?_ ?_
            · (intro w1 hC; obtain ⟨a1, a2⟩ := hXD w1 hC; clear hC; go_simp; first | done | (simp; done) | (simp [*]; done) | omega | (simp; omega) | (simp [*]; omega) | (intro hx; omega) | (rw [if_pos (by omega), ho2]; done) | rfl)
            simp only [Act.put, List.setIfInBounds_toArray, List.set_cons_zero, List.set_cons_succ]
            refine q_run (v := .slice (some ⟨b, off, none⟩) l.length c) (by rfl) ?_ ?_
            · (intro w1 hC; obtain ⟨a1, a2⟩ := hXD w1 hC; clear hC; go_simp; first | done | (simp; done) | (simp [*]; done) | omega | (simp; omega) | (simp [*]; omega) | (intro hx; omega) | (rw [if_pos (by omega), ho2]; done) | rfl)
            simp only [Act.put, List.setIfInBounds_toArray, List.set_cons_zero, List.set_cons_succ]
            refine q_run (v := .int .i64 (i : Int)) (by rfl) ?_ ?_
            · (intro w1 hC; obtain ⟨a1, a2⟩ := hXD w1 hC; clear hC; go_simp; first | done | (simp; done) | (simp [*]; done) | omega | (simp; omega) | (simp [*]; omega) | (intro hx; omega) | (rw [if_pos (by omega), ho2]; done) | rfl)
            simp only [Act.put, List.setIfInBounds_toArray, List.set_cons_zero, List.set_cons_succ]
            refine q_run (v := .int .i64 ((i + 1 : Nat) : Int)) (by rfl) ?_ ?_
            · (intro w1 hC; obtain ⟨a1, a2⟩ := hXD w1 hC; clear hC; go_simp; first | done | (simp; done) | (simp [*]; done) | omega | (simp; omega) | (simp [*]; omega) | (intro hx; omega) | (rw [if_pos (by omega), ho2]; done) | rfl)
            simp only [Act.put, List.setIfInBounds_toArray, List.set_cons_zero, List.set_cons_succ]
            refine q_run (v := .slice (some ⟨b, off2, none⟩) (l.length - (i + 1)) (c - (i + 1))) (by rfl) ?_ ?_
            · (intro w1 hC; obtain ⟨a1, a2⟩ := hXD w1 hC; clear hC; go_simp; first | done | (simp; done) | (simp [*]; done) | omega | (simp; omega) | (simp [*]; omega) | (intro hx; omega) | (rw [if_pos (by omega), ho2]; done) | rfl)
            simp only [Act.put, List.setIfInBounds_toArray, List.set_cons_zero, List.set_cons_succ]
            refine q_run (v := valA (l.length - 1) N) (by rfl) ?_ ?_
            · (intro w1 hC; obtain ⟨a1, a2⟩ := hXD w1 hC; clear hC; go_simp; first | done | (simp; done) | (simp [*]; done) | omega | (simp; omega) | (simp [*]; omega) | (intro hx; omega) | (rw [if_pos (by omega), ho2]; done) | rfl)
            simp only [Act.put, List.setIfInBounds_toArray, List.set_cons_zero, List.set_cons_succ]
            refine wpQuiet_nil ?_
            simp only [putAll, Act.put, List.setIfInBounds_toArray, List.set_cons_zero, List.set_cons_succ]
          case fin =>
            intro N W hC
            simp only [putAll, Act.put, List.setIfInBounds_toArray, List.set_cons_zero, List.set_cons_succ]
            dsimp only [List.drop]
            obtain ⟨vo, vc, ev⟩ := own_form hC.own
            have hlen2 : (l.take i ++ l.drop (i + 1)).length = l.length - 1 := by simp; omega
            rw [hlen2] at ev
            rw [ev] at hC ⊢
            have c1 := at_blk hC.t 1 _ rfl
            have d1 := fr_blk5 (j := 1) hC.t
            have HU2 := hidR hC.put
            clear hC HU1 ev
            go_upto_region 12 with fail
            clear c1 d1
            revert HU2
            generalize W.setCell ⟨w9.heap.size, 1, none⟩ (.slice vo (l.length - 1) vc) = w12
            intro HU2
            have u0 := at_blk HU2.out.t 0 (.int .i64 F) rfl
            have u1 := at_blk HU2.out.t 1 (.slice vo (l.length - 1) vc) rfl
            have x0 := at_blk (HX9.out.below HU2.out.low).x 0 (.int .u64 (hI z)) rfl
            have x1 := at_blk (HX9.out.below HU2.out.low).x 1 (.int .u64 (lI z)) rfl
            have hA : RowA w12 4 (.slice vo (l.take i ++ l.drop (i + 1)).length vc) (l.take i ++ l.drop (i + 1)).length (rowR (l.take i ++ l.drop (i + 1))) := by
              have h := own_rowA HU2.out.own
              rw [hlen2] at h ⊢
              exact h
            have hni : inR z F l[i] = false := by
              rw [hri]
              unfold inR withinB
              have := has_eq rx rn z HRi.out.1 (Int.le_trans HRi.out.2.1 hF1) HRi.out.2.2
              rw [hh] at this
              rw [← this]
              simp
            have KL := lookT_any F z vo vc (l.take i ++ l.drop (i + 1)) w12 hF1 (del_ord l i HG.out.2.2) (fun r hr => HG.out.2.1 r (by
              rcases List.mem_append.mp hr with q | q
              · exact List.mem_of_mem_take q
              · exact List.mem_of_mem_drop q)) HRx.out (by rw [hlen2]; omega) hA T (by rw [HTT.out, del_filter _ l i hil hni])
            rw [hlen2, ← HW0.out] at KL
            clear hA hni
            go_wp2_with fail
            refine KL.mono ?_
            rintro e w13 ⟨rfl, hb⟩
            have HX13 := hidR (HX9.out.below (keepb hb HU2.out.low))
            have HL13 := hidR (keepb (HU2.out.below hb).low HL9.out)
            clear hb KL u0 u1 x0 x1
            go_wp2_with fail
            go_meet
            case rel => exact ⟨HX13, HL13⟩
    case rest =>
      obtain ⟨HXc, HLc⟩ := hcut
      have HBc := hidR (keepb HLc.out HB5.out)
      clear HX9 HL9 HX5 HB5 HCL HLc
      have KF := fitted5_any F px pn z wc hF0 hF1
      have HQ : Hid (Rt F (cutW px (pn % (F + 1))) (pn % (F + 1))) := hidR ⟨Int.emod_nonneg pn (by omega), by have := Int.emod_lt_of_pos pn (b := F + 1) (by omega); omega, maskW_idem _ _⟩
      revert KF HQ
      generalize pn % (F + 1) = qn
      generalize cutW px qn = qx
      generalize z &&& maskW F = z2
      intro KF HQ
      go_upto_region 14 with fail
      have t0 := at_blk HXc.out.t 0 (.int .i64 F) rfl
      have x0 := at_blk HXc.out.x 0 (.int .u64 (hI z)) rfl
      have x1 := at_blk HXc.out.x 1 (.int .u64 (lI z)) rfl
      have r0 := at_blk HXc.out.r 0 (.int .u64 (hI px)) rfl
      have r1 := at_blk HXc.out.r 1 (.int .u64 (lI px)) rfl
      have r2 := at_blk HXc.out.r 2 (.int .i64 pn) rfl
      go_wp2_with fail
      refine KF.mono ?_
      rintro e wd ⟨rfl, hb⟩
      have hX := HXc.out.below hb
      have hB := keepb hb HBc.out
      clear KF hb t0 x0 x1 r0 r1 r2 HXc HBc
      have r0 := at_blk hX.r 0 (.int .u64 (hI px)) rfl
      have r1 := at_blk hX.r 1 (.int .u64 (lI px)) rfl
      have r2 := at_blk hX.r 2 (.int .i64 pn) rfl
      have g0 := fr_blk5 (j := 0) hX.r
      have g1 := fr_blk5 (j := 1) hX.r
      have g2 := fr_blk5 (j := 2) hX.r
      have HXe : Hid (Gl w.heap.size F (.slice (some ⟨b, off, none⟩) l.length c) z qx qn ph (((wd.setCell ⟨w.heap.size + 2, 0, none⟩ (.int .u64 (hI qx))).setCell ⟨w.heap.size + 2, 1, none⟩ (.int .u64 (lI qx))).setCell ⟨w.heap.size + 2, 2, none⟩ (.int .i64 qn))) := hidR (by
        refine ⟨?_, ?_, ?_⟩
        · rw [hSet6 _ (by omega), hSet6 _ (by omega), hSet6 _ (by omega)]; exact hX.t
        · rw [hSet6 _ (by omega), hSet6 _ (by omega), hSet6 _ (by omega)]; exact hX.x
        · simpa using set_blk5 (o := 2) (set_blk5 (o := 1) (set_blk5 (o := 0) hX.r (.int .u64 (hI qx))) (.int .u64 (lI qx))) (.int .i64 qn))
      have HBe : Hid (Below w.heap.size w (((wd.setCell ⟨w.heap.size + 2, 0, none⟩ (.int .u64 (hI qx))).setCell ⟨w.heap.size + 2, 1, none⟩ (.int .u64 (lI qx))).setCell ⟨w.heap.size + 2, 2, none⟩ (.int .i64 qn))) := hidR (((hB.setCell (p := ⟨w.heap.size + 2, 0, none⟩) (by simp) _).setCell (p := ⟨w.heap.size + 2, 1, none⟩) (by simp) _).setCell (p := ⟨w.heap.size + 2, 2, none⟩) (by simp) _)
      clear hX hB
      go_upto_region 15 with fail
      clear r0 r1 r2 g0 g1 g2
      revert HXe HBe
      generalize ((wd.setCell ⟨w.heap.size + 2, 0, none⟩ (.int .u64 (hI qx))).setCell ⟨w.heap.size + 2, 1, none⟩ (.int .u64 (lI qx))).setCell ⟨w.heap.size + 2, 2, none⟩ (.int .i64 qn) = we
      intro HXe HBe
      have KH := within5_any ph 65535 we (by omega) (by omega)
      have b1 := Int.emod_nonneg ph (b := 65535) (by omega)
      have b2 := Int.emod_lt_of_pos ph (b := 65535) (by omega)
      revert KH b1 b2
      generalize ph % 65535 = qh
      intro KH b1 b2
      have wq : IntKind.i64.wrap (1 + qh) = 1 + qh := by rw [IntKind.wrap_i64]; omega
      have r3 := at_blk HXe.out.r 3 (.int .i64 ph) rfl
      have g3 := fr_blk5 (j := 3) HXe.out.r
      have HXf : Hid (Gl w.heap.size F (.slice (some ⟨b, off, none⟩) l.length c) z qx qn (1 + qh) (we.setCell ⟨w.heap.size + 2, 3, none⟩ (.int .i64 (1 + qh)))) := hidR (by
        refine ⟨?_, ?_, ?_⟩
        · rw [hSet6 _ (by omega)]; exact HXe.out.t
        · rw [hSet6 _ (by omega)]; exact HXe.out.x
        · simpa using set_blk5 (o := 3) HXe.out.r (.int .i64 (1 + qh)))
      have HBf : Hid (Below w.heap.size w (we.setCell ⟨w.heap.size + 2, 3, none⟩ (.int .i64 (1 + qh)))) := hidR (HBe.out.setCell (p := ⟨w.heap.size + 2, 3, none⟩) (by simp) _)
      clear HXe HBe
      go_wp2_with fail
      refine KH.mono ?_
      rintro e wf ⟨rfl, hwf⟩
      rw [hwf]; clear hwf KH wf
      go_upto_region 16 with fail
      clear r3 g3 wq
      revert HXf HBf
      generalize we.setCell ⟨w.heap.size + 2, 3, none⟩ (.int .i64 (1 + qh)) = wf
      intro HXf HBf
      obtain ⟨h9, hh9⟩ : ∃ h9 : Int, h9 = 1 + qh := ⟨_, rfl⟩
      rw [← hh9] at HXf
      have hb9 : 1 ≤ h9 ∧ h9 ≤ 65535 := by omega
      clear hh9 b1 b2
      obtain ⟨E2, hE2⟩ : ∃ E2 : Int, E2 = rtsE F (l ++ [((qx, qn), h9)]) := ⟨_, rfl⟩
      obtain ⟨F2, hF2⟩ : ∃ F2 : Int, F2 = (if rtsE F (l ++ [((qx, qn), h9)]) = 0 then F else 0) := ⟨_, rfl⟩
      obtain ⟨S2, hS2⟩ : ∃ S2 : List Rte, S2 = (if rtsE F (l ++ [((qx, qn), h9)]) = 0 then (l ++ [((qx, qn), h9)]).foldl setF [] else []) := ⟨_, rfl⟩
      have HE2 := hidR hE2
      have HF2 := hidR hF2
      have HS2 := hidR hS2
      clear hE2 hF2 hS2
      have t1 := at_blk HXf.out.t 1 (.slice (some ⟨b, off, none⟩) l.length c) rfl
      obtain ⟨i0, hi, hz0, hz1, hz2⟩ := info_parts Try.infoR
      go_wp2_with (at_builtin; apply stopHereW5)
      refine (show wpList _ _ _ _ _ _ from ?_)
      clear t1
      refine wpList_append_rowA rfl _ _ 22 rfl wf.heap.size 40 i0 (.agg #[.int .u64 0, .int .u64 0, .int .i64 0, .int .i64 0]) 4 32 Try.underlying22 hi hz0 hz1 hz2 rfl (by decide) _ 0 [] rfl (World.ownsRow_nil _ _ _ _) _ l.length (rowR l) rfl (HVw.out.below HBf.out) (rowR_cell5 l) (by unfold maxLen; omega) (by omega) (Nat.le_refl _) ?_
      intro mo mc wg ho hg
      have hBg : Below wf.heap.size wf wg := ⟨hg.os, hg.tape, hg.output, hg.size, fun z hz => hg.block z hz (fun e => by cases e)⟩
      have HLg := hidR hBg
      clear hBg
      have HMg : Hid (wg.ownsRow wf.heap.size 40 4 (.slice mo l.length mc) l.length (rowR l)) := hidR (by rw [List.nil_append] at ho; simpa using ho)
      clear ho hg
      rw [Nat.zero_add]
      go_upto_region 18 with fail
      have HK : Hid (∀ W v, W.ownsRow wf.heap.size 40 4 v (l.length + 1) (rowR (l ++ [((qx, qn), h9)])) → Calls Try.prog 8 #[.int .i64 F, v] W fun e w' => ∃ u, e = .returned (.tuple #[.agg #[.int .i64 F2, u], .int .i64 E2]) ∧ w'.ownsRow W.heap.size 40 4 u S2.length (rowR S2) ∧ Below W.heap.size W w') := hidR (fun W v h => (canon_any F v (l ++ [((qx, qn), h9)]) W (by have := own_row h; simpa using this)).mono (by
        rintro e w' ⟨⟨u, S, rfl, hS, ho⟩, hb⟩
        rw [HE2.out, HF2.out, HS2.out, ← hS]
        exact ⟨u, rfl, ho, hb⟩))
      refine gh_region (γ := Nat × Value × Value × Nat) (qpOk 13 13 (by decide) (fun N => by kernel_rfl) (by kernel_rfl) (by kernel_rfl) (by kernel_rfl) (by kernel_rfl)) (by kernel_rfl) (by kernel_rfl) [some 97, some 98, some 99, some 100, some 101, some 102, some 103, some 96, some 104, some 105, some 12, none, some 13] (fun g => [.pointer (some ⟨w.heap.size, 0, none⟩), .int .i64 F, .slice mo l.length mc, .agg #[.int .u64 (hI qx), .int .u64 (lI qx), .int .i64 qn, .int .i64 h9], .slice (some ⟨g.1, 0, none⟩) 1 1, g.2.1, .tuple #[.agg #[.int .i64 F2, g.2.2.1], .int .i64 E2], .tuple #[.agg #[.int .i64 F2, g.2.2.1], .int .i64 E2], .agg #[.int .i64 F2, g.2.2.1], .int .i64 E2, .pointer (some ⟨g.2.2.2, 0, none⟩), undef, .int .i64 E2]) (by kernel_rfl) (by simp) (fun lp g V => R18 wf F2 ((qx, qn), h9) l S2 mo mc (lp.getD 4 false) (lp.getD 5 false) (lp.getD 6 false) (lp.getD 10 false) (lp.getD 11 false) g.1 g.2.1 g.2.2.1 g.2.2.2 V ∧ (lp.getD 7 false = true → lp.getD 6 false = true) ∧ (lp.getD 8 false = true → lp.getD 6 false = true)) (0, undef, undef, 0) ⟨⟨keepb (below_drewN (Below.refl _ _) 1) HLg.out, fun h => (by simp at h), fun _ => own_below (below_drewN (Below.refl _ _) 1) HMg.out, fun h => (by simp at h), fun h => (by simp at h), fun h => (by simp at h), fun h => (by simp at h), fun h => (by simp at h), fun h => (by simp at h)⟩, fun h => (by simp at h), fun h => (by simp at h)⟩ ?step ?fin
      case step =>
        intro q o lp g w' a' ho hsz hun hdep hR hS K Q' hK
        have hfl : ∀ j, j ≠ q → (lp.setIfInBounds q true).getD j false = lp.getD j false := fun j hj => by rw [Array.getD_eq_getD_getElem?, Array.getD_eq_getD_getElem?, Array.getElem?_setIfInBounds_ne (by omega)]
        have hq : q < 13 := (List.getElem?_eq_some_iff.mp ho).1
        have hXq : Gl w.heap.size F (.slice (some ⟨b, off, none⟩) l.length c) z qx qn h9 w' := HXf.out.below hR.1.bel
        match q, ho, hun, hdep, hK, hfl, hq with
        | 0, ho, hun, hdep, hK, hfl, _ =>
          obtain rfl := Option.some.inj ho
          have o4 : a'.tmps[4]? = some (.pointer (some ⟨w.heap.size, 0, none⟩)) := (hS.old5 4 (by simp)).trans rfl
          have hK' := hK g w' (fun _ _ _ _ _ _ => rfl) (by rw [hfl 4 (by decide), hfl 5 (by decide), hfl 6 (by decide), hfl 7 (by decide), hfl 8 (by decide), hfl 10 (by decide), hfl 11 (by decide)]; exact hR) (.pointer (some ⟨w.heap.size, 0, none⟩)) (by simp only [valO, Option.bind_some]; simp only [putAll, Act.put, List.setIfInBounds_toArray, List.set_cons_zero, List.set_cons_succ]; rfl)
          clear hS hdep hR hXq
          refine gh_quiet5 (v := .pointer (some ⟨w.heap.size, 0, none⟩)) ?_ ?_
          · (simp only [execOp, Act.eval, o4]; go_simp; first | done | (simp; done) | (simp [*]; done) | omega | (simp; omega) | (simp [*]; omega))
          · exact hK'
        | 1, ho, hun, hdep, hK, hfl, _ =>
          obtain rfl := Option.some.inj ho
          have d0 : lp.getD 0 false = true := hdep { on := 0, ground := .data } (by simp) rfl
          have e97 : a'.tmps[97]? = some (.pointer (some ⟨w.heap.size, 0, none⟩)) := (hS.don 0 _ 97 rfl d0 rfl).trans (by simp only [putAll, Act.put, List.setIfInBounds_toArray, List.set_cons_zero, List.set_cons_succ]; rfl)
          have t0 := at_blk hXq.t 0 (.int .i64 F) rfl
          have hK' := hK g w' (fun _ _ _ _ _ _ => rfl) (by rw [hfl 4 (by decide), hfl 5 (by decide), hfl 6 (by decide), hfl 7 (by decide), hfl 8 (by decide), hfl 10 (by decide), hfl 11 (by decide)]; exact hR) (.int .i64 F) (by simp only [valO, Option.bind_some]; simp only [putAll, Act.put, List.setIfInBounds_toArray, List.set_cons_zero, List.set_cons_succ]; rfl)
          clear hS hdep hR hXq
          refine gh_quiet5 (v := .int .i64 F) ?_ ?_
          · (simp only [execOp, Act.eval, e97]; go_simp; first | done | (simp; done) | (simp [*]; done) | omega | (simp; omega) | (simp [*]; omega))
          · exact hK'
        | 2, ho, hun, hdep, hK, hfl, _ =>
          obtain rfl := Option.some.inj ho
          have o11 : a'.tmps[11]? = some (.slice mo l.length mc) := (hS.old5 11 (by simp)).trans rfl
          have hK' := hK g w' (fun _ _ _ _ _ _ => rfl) (by rw [hfl 4 (by decide), hfl 5 (by decide), hfl 6 (by decide), hfl 7 (by decide), hfl 8 (by decide), hfl 10 (by decide), hfl 11 (by decide)]; exact hR) (.slice mo l.length mc) (by simp only [valO, Option.bind_some]; simp only [putAll, Act.put, List.setIfInBounds_toArray, List.set_cons_zero, List.set_cons_succ]; rfl)
          clear hS hdep hR hXq
          refine gh_quiet5 (v := .slice mo l.length mc) ?_ ?_
          · (simp only [execOp, Act.eval, o11]; go_simp; first | done | (simp; done) | (simp [*]; done) | omega | (simp; omega) | (simp [*]; omega))
          · exact hK'
        | 3, ho, hun, hdep, hK, hfl, _ =>
          obtain rfl := Option.some.inj ho
          have o7 : a'.tmps[7]? = some (.pointer (some ⟨w.heap.size + 1 + 1, 0, none⟩)) := (hS.old5 7 (by simp)).trans rfl
          have r0 := at_blk hXq.r 0 (.int .u64 (hI qx)) rfl; have r1 := at_blk hXq.r 1 (.int .u64 (lI qx)) rfl; have r2 := at_blk hXq.r 2 (.int .i64 qn) rfl; have r3 := at_blk hXq.r 3 (.int .i64 h9) rfl
          have hK' := hK g w' (fun _ _ _ _ _ _ => rfl) (by rw [hfl 4 (by decide), hfl 5 (by decide), hfl 6 (by decide), hfl 7 (by decide), hfl 8 (by decide), hfl 10 (by decide), hfl 11 (by decide)]; exact hR) (.agg #[.int .u64 (hI qx), .int .u64 (lI qx), .int .i64 qn, .int .i64 h9]) (by simp only [valO, Option.bind_some]; simp only [putAll, Act.put, List.setIfInBounds_toArray, List.set_cons_zero, List.set_cons_succ]; rfl)
          clear hS hdep hR hXq
          refine gh_quiet5 (v := .agg #[.int .u64 (hI qx), .int .u64 (lI qx), .int .i64 qn, .int .i64 h9]) ?_ ?_
          · (simp only [execOp, Act.eval, o7]; go_simp; first | done | (simp; done) | (simp [*]; done) | omega | (simp; omega) | (simp [*]; omega))
          · exact hK'
        | 4, ho, hun, hdep, hK, hfl, _ =>
          obtain rfl := Option.some.inj ho
          have d3 : lp.getD 3 false = true := hdep { on := 3, ground := .data } (by simp) rfl
          have e100 : a'.tmps[100]? = some (.agg #[.int .u64 (hI qx), .int .u64 (lI qx), .int .i64 qn, .int .i64 h9]) := (hS.don 3 _ 100 rfl d3 rfl).trans (by simp only [putAll, Act.put, List.setIfInBounds_toArray, List.set_cons_zero, List.set_cons_succ]; rfl)
          have hR1 := hR.1
          rw [hun] at hR1
          have hK' := hK (w'.heap.size, g.2) (w'.alloc (.cells #[.int .u64 (hI qx), .int .u64 (lI qx), .int .i64 qn, .int .i64 h9] 40)) (fun k ok s hk hl hd => gh_sameL (d := 101) (s := s) (by simp only [putAll, Act.put, List.setIfInBounds_toArray, List.set_cons_zero, List.set_cons_succ] <;> rfl) (by rintro rfl; have := dstG_of (by kernel_rfl) k 4 ok _ 101 hk rfl hd rfl; subst this; rw [hun] at hl; cases hl)) (by rw [hfl 5 (by decide), hfl 6 (by decide), hfl 7 (by decide), hfl 8 (by decide), hfl 10 (by decide), hfl 11 (by decide), getD_set_same (by rw [hsz]; decide)]; exact ⟨hR1.build, hR.2⟩) (.slice (some ⟨w'.heap.size, 0, none⟩) 1 1) (by simp only [valO, Option.bind_some]; simp only [putAll, Act.put, List.setIfInBounds_toArray, List.set_cons_zero, List.set_cons_succ]; rfl)
          clear hS hdep hR hR1 hXq
          unfold Oper.wp
          simp [execOp, Act.eval, e100, go_sem, Oper.upon]
          exact hK'
        | 5, ho, hun, hdep, hK, hfl, _ =>
          obtain rfl := Option.some.inj ho
          have d2 : lp.getD 2 false = true := hdep { on := 2, ground := .data } (by simp) rfl
          have e99 : a'.tmps[99]? = some (.slice mo l.length mc) := (hS.don 2 _ 99 rfl d2 rfl).trans (by simp only [putAll, Act.put, List.setIfInBounds_toArray, List.set_cons_zero, List.set_cons_succ]; rfl)
          have d4 : lp.getD 4 false = true := hdep { on := 4, ground := .data } (by simp) rfl
          have e101 : a'.tmps[101]? = some (.slice (some ⟨g.1, 0, none⟩) 1 1) := (hS.don 4 _ 101 rfl d4 rfl).trans (by simp only [putAll, Act.put, List.setIfInBounds_toArray, List.set_cons_zero, List.set_cons_succ]; rfl)
          have hR1 := hR.1
          rw [hun, d4] at hR1
          have hbk := (hR1.b rfl rfl).2
          refine wp_append_own w' (.tmp 99) (.tmp 101) 22 rfl wf.heap.size 40 i0 (.agg #[.int .u64 0, .int .u64 0, .int .i64 0, .int .i64 0]) 4 32 Try.underlying22 hi hz0 hz1 hz2 rfl (by decide) (.slice mo l.length mc) l.length (rowR l) (by simp [Act.eval, e99]) (hR1.o5 rfl) ⟨g.1, 0, none⟩ 1 1 (rowR [((qx, qn), h9)]) (by simp [Act.eval, e101]) rfl (fun j u hj => by rw [addO, Nat.zero_add]; exact at_blk hbk j u (by simpa [rowR] using hj)) (rowR_cell5 _) (by unfold maxLen; omega) (by omega) hR1.bel.size ?_
          intro v' W2 ho2 hg2 _
          rw [← rowR_app5] at ho2
          exact hK (g.1, v', g.2.2) W2 (fun k ok s hk hl hd => gh_sameL (d := 102) (s := s) (by simp only [putAll, Act.put, List.setIfInBounds_toArray, List.set_cons_zero, List.set_cons_succ] <;> rfl) (by rintro rfl; have := dstG_of (by kernel_rfl) k 5 ok _ 102 hk rfl hd rfl; subst this; rw [hun] at hl; cases hl)) (by rw [hfl 4 (by decide), hfl 6 (by decide), hfl 7 (by decide), hfl 8 (by decide), hfl 10 (by decide), hfl 11 (by decide), getD_set_same (by rw [hsz]; decide)]; exact ⟨by rw [d4]; exact hR1.app v' ho2 hg2, hR.2⟩) v' (by simp only [valO, Option.bind_some]; simp only [putAll, Act.put, List.setIfInBounds_toArray, List.set_cons_zero, List.set_cons_succ]; rfl)
        | 6, ho, hun, hdep, hK, hfl, _ =>
          obtain rfl := Option.some.inj ho
          have d1 : lp.getD 1 false = true := hdep { on := 1, ground := .data } (by simp) rfl
          have e98 : a'.tmps[98]? = some (.int .i64 F) := (hS.don 1 _ 98 rfl d1 rfl).trans (by simp only [putAll, Act.put, List.setIfInBounds_toArray, List.set_cons_zero, List.set_cons_succ]; rfl)
          have d5 : lp.getD 5 false = true := hdep { on := 5, ground := .data } (by simp) rfl
          have e102 : a'.tmps[102]? = some (g.2.1) := (hS.don 5 _ 102 rfl d5 rfl).trans (by simp only [putAll, Act.put, List.setIfInBounds_toArray, List.set_cons_zero, List.set_cons_succ]; rfl)
          have hR1 := hR.1
          have d4 := hR1.c5 d5
          rw [hun, d4, d5] at hR1
          have KE := HK.out w' g.2.1 (hR1.o6 rfl rfl)
          clear hdep
          unfold Oper.wp
          simp only [execOp, Act.eval]
          simp [go_sem, e98, e102, Oper.upon]
          refine KE.mono ?_
          rintro e W2 ⟨u, rfl, ho2, hb2⟩
          exact hK (g.1, g.2.1, u, g.2.2.2) W2 (fun k ok s hk hl hd => gh_sameL3 (d1 := 103) (d2 := 96) (d3 := 104) (s := s) (by simp only [putAll, Act.put, List.setIfInBounds_toArray, List.set_cons_zero, List.set_cons_succ] <;> rfl) (by rintro rfl; have := dstG_of (by kernel_rfl) k 6 ok _ 103 hk rfl hd rfl; subst this; rw [hun] at hl; cases hl) (by rintro rfl; have := dstG_of (by kernel_rfl) k 7 ok _ 96 hk rfl hd rfl; subst this; have := hR.2.1 hl; rw [hun] at this; cases this) (by rintro rfl; have := dstG_of (by kernel_rfl) k 8 ok _ 104 hk rfl hd rfl; subst this; have := hR.2.2 hl; rw [hun] at this; cases this)) (by rw [hfl 4 (by decide), hfl 5 (by decide), hfl 7 (by decide), hfl 8 (by decide), hfl 10 (by decide), hfl 11 (by decide), getD_set_same (by rw [hsz]; decide)]; exact ⟨by rw [d4, d5]; exact hR1.can hb2 u ho2, fun _ => rfl, fun _ => rfl⟩) _ (by simp only [valO, Option.bind_some]; simp only [putAll, Act.put, List.setIfInBounds_toArray, List.set_cons_zero, List.set_cons_succ]; rfl)
        | 7, ho, hun, hdep, hK, hfl, _ =>
          obtain rfl := Option.some.inj ho
          have d6 : lp.getD 6 false = true := hdep { on := 6, ground := .data } (by simp) rfl
          have e103 : a'.tmps[103]? = some (.tuple #[.agg #[.int .i64 F2, g.2.2.1], .int .i64 E2]) := (hS.don 6 _ 103 rfl d6 rfl).trans (by simp only [putAll, Act.put, List.setIfInBounds_toArray, List.set_cons_zero, List.set_cons_succ]; rfl)
          have hK' := hK g w' (fun _ _ _ _ _ _ => rfl) (by rw [hfl 4 (by decide), hfl 5 (by decide), hfl 6 (by decide), hfl 8 (by decide), hfl 10 (by decide), hfl 11 (by decide), getD_set_same (by rw [hsz]; decide)]; exact ⟨hR.1, fun _ => d6, hR.2.2⟩) (.tuple #[.agg #[.int .i64 F2, g.2.2.1], .int .i64 E2]) (by simp only [valO, Option.bind_some]; simp only [putAll, Act.put, List.setIfInBounds_toArray, List.set_cons_zero, List.set_cons_succ]; rfl)
          clear hS hdep hR hXq
          refine gh_quiet5 (v := .tuple #[.agg #[.int .i64 F2, g.2.2.1], .int .i64 E2]) ?_ ?_
          · (simp only [execOp, Act.eval, e103]; go_simp; first | done | (simp; done) | (simp [*]; done) | omega | (simp; omega) | (simp [*]; omega))
          · exact hK'
        | 8, ho, hun, hdep, hK, hfl, _ =>
          obtain rfl := Option.some.inj ho
          have d7 : lp.getD 7 false = true := hdep { on := 7, ground := .data } (by simp) rfl
          have e96 : a'.tmps[96]? = some (.tuple #[.agg #[.int .i64 F2, g.2.2.1], .int .i64 E2]) := (hS.don 7 _ 96 rfl d7 rfl).trans (by simp only [putAll, Act.put, List.setIfInBounds_toArray, List.set_cons_zero, List.set_cons_succ]; rfl)
          have hK' := hK g w' (fun _ _ _ _ _ _ => rfl) (by rw [hfl 4 (by decide), hfl 5 (by decide), hfl 6 (by decide), hfl 7 (by decide), hfl 10 (by decide), hfl 11 (by decide), getD_set_same (by rw [hsz]; decide)]; exact ⟨hR.1, hR.2.1, fun _ => hR.2.1 d7⟩) (.agg #[.int .i64 F2, g.2.2.1]) (by simp only [valO, Option.bind_some]; simp only [putAll, Act.put, List.setIfInBounds_toArray, List.set_cons_zero, List.set_cons_succ]; rfl)
          clear hS hdep hR hXq
          refine gh_quiet5 (v := .agg #[.int .i64 F2, g.2.2.1]) ?_ ?_
          · (simp only [execOp, Act.eval, e96]; go_simp; first | done | (simp; done) | (simp [*]; done) | omega | (simp; omega) | (simp [*]; omega))
          · exact hK'
        | 9, ho, hun, hdep, hK, hfl, _ =>
          obtain rfl := Option.some.inj ho
          have d7 : lp.getD 7 false = true := hdep { on := 7, ground := .data } (by simp) rfl
          have e96 : a'.tmps[96]? = some (.tuple #[.agg #[.int .i64 F2, g.2.2.1], .int .i64 E2]) := (hS.don 7 _ 96 rfl d7 rfl).trans (by simp only [putAll, Act.put, List.setIfInBounds_toArray, List.set_cons_zero, List.set_cons_succ]; rfl)
          have hK' := hK g w' (fun _ _ _ _ _ _ => rfl) (by rw [hfl 4 (by decide), hfl 5 (by decide), hfl 6 (by decide), hfl 7 (by decide), hfl 8 (by decide), hfl 10 (by decide), hfl 11 (by decide)]; exact hR) (.int .i64 E2) (by simp only [valO, Option.bind_some]; simp only [putAll, Act.put, List.setIfInBounds_toArray, List.set_cons_zero, List.set_cons_succ]; rfl)
          clear hS hdep hR hXq
          refine gh_quiet5 (v := .int .i64 E2) ?_ ?_
          · (simp only [execOp, Act.eval, e96]; go_simp; first | done | (simp; done) | (simp [*]; done) | omega | (simp; omega) | (simp [*]; omega))
          · exact hK'
        | 10, ho, hun, hdep, hK, hfl, _ =>
          obtain rfl := Option.some.inj ho
          have hR1 := hR.1
          rw [hun] at hR1
          have hK' := hK (g.1, g.2.1, g.2.2.1, w'.heap.size) (w'.alloc (.cells #[.int .i64 0, .slice none 0 0] 25)) (fun k ok s hk hl hd => gh_sameL (d := 12) (s := s) (by simp only [putAll, Act.put, List.setIfInBounds_toArray, List.set_cons_zero, List.set_cons_succ] <;> rfl) (by rintro rfl; have := dstG_of (by kernel_rfl) k 10 ok _ 12 hk rfl hd rfl; subst this; rw [hun] at hl; cases hl)) (by rw [hfl 4 (by decide), hfl 5 (by decide), hfl 6 (by decide), hfl 7 (by decide), hfl 8 (by decide), hfl 11 (by decide), getD_set_same (by rw [hsz]; decide)]; exact ⟨hR1.al, hR.2⟩) (.pointer (some ⟨w'.heap.size, 0, none⟩)) (by simp only [valO, Option.bind_some]; simp only [putAll, Act.put, List.setIfInBounds_toArray, List.set_cons_zero, List.set_cons_succ]; rfl)
          clear hS hdep hR hR1 hXq
          unfold Oper.wp
          simp only [execOp]
          go_simp
          exact hK'
        | 11, ho, hun, hdep, hK, hfl, _ =>
          obtain rfl := Option.some.inj ho
          have d8 : lp.getD 8 false = true := hdep { on := 8, ground := .data } (by simp) rfl
          have e104 : a'.tmps[104]? = some (.agg #[.int .i64 F2, g.2.2.1]) := (hS.don 8 _ 104 rfl d8 rfl).trans (by simp only [putAll, Act.put, List.setIfInBounds_toArray, List.set_cons_zero, List.set_cons_succ]; rfl)
          have d10 : lp.getD 10 false = true := hdep { on := 10, ground := .data } (by simp) rfl
          have e12 : a'.tmps[12]? = some (.pointer (some ⟨g.2.2.2, 0, none⟩)) := (hS.don 10 _ 12 rfl d10 rfl).trans (by simp only [putAll, Act.put, List.setIfInBounds_toArray, List.set_cons_zero, List.set_cons_succ]; rfl)
          have d6 := hR.2.2 d8
          have d5 := hR.1.c6 d6
          have d4 := hR.1.c5 d5
          have hR1 := hR.1
          rw [hun, d4, d5, d6, d10] at hR1
          have hz := (hR1.a rfl).2
          have z0 := at_blk hz 0 (.int .i64 0) rfl
          have z1 := at_blk hz 1 (.slice none 0 0) rfl
          have k0 := fr_blk5 (j := 0) hz
          have k1 := fr_blk5 (j := 1) hz
          obtain ⟨uo, uc, eu⟩ := own_form (hR1.o7 rfl)
          have hK' := hK g _ (fun _ _ _ _ _ _ => rfl) (by rw [hfl 4 (by decide), hfl 5 (by decide), hfl 6 (by decide), hfl 7 (by decide), hfl 8 (by decide), hfl 10 (by decide), getD_set_same (by rw [hsz]; decide)]; exact ⟨by rw [d4, d5, d6, d10]; exact hR1.st, hR.2⟩) undef rfl
          rw [eu] at e104
          clear hS hdep hR hR1 hXq hz
          rw [eu] at hK'
          unfold Oper.wp
          simp [execOp, Act.eval, e104, e12, go_sem, z0, z1, k0, k1, Oper.upon]
          exact hK'
        | 12, ho, hun, hdep, hK, hfl, _ =>
          obtain rfl := Option.some.inj ho
          have d9 : lp.getD 9 false = true := hdep { on := 9, ground := .data } (by simp) rfl
          have e105 : a'.tmps[105]? = some (.int .i64 E2) := (hS.don 9 _ 105 rfl d9 rfl).trans (by simp only [putAll, Act.put, List.setIfInBounds_toArray, List.set_cons_zero, List.set_cons_succ]; rfl)
          have hK' := hK g w' (fun _ _ _ _ _ _ => rfl) (by rw [hfl 4 (by decide), hfl 5 (by decide), hfl 6 (by decide), hfl 7 (by decide), hfl 8 (by decide), hfl 10 (by decide), hfl 11 (by decide)]; exact hR) (.int .i64 E2) (by simp only [valO, Option.bind_some]; simp only [putAll, Act.put, List.setIfInBounds_toArray, List.set_cons_zero, List.set_cons_succ]; rfl)
          clear hS hdep hR hXq
          refine gh_quiet5 (v := .int .i64 E2) ?_ ?_
          · (simp only [execOp, Act.eval, e105]; go_simp; first | done | (simp; done) | (simp [*]; done) | omega | (simp; omega) | (simp [*]; omega))
          · exact hK'
        | n + 13, ho, hun, hdep, hK, hfl, hq => exact absurd hq (by omega)
      case fin =>
        intro g wh hR
        have hR : R18 wf F2 ((qx, qn), h9) l S2 mo mc true true true true true g.1 g.2.1 g.2.2.1 g.2.2.2 wh := by simpa using hR.1
        simp only [putAll, Act.put, List.setIfInBounds_toArray, List.set_cons_zero, List.set_cons_succ]
        obtain ⟨gB, g5, g6, gA⟩ := g
        dsimp only at hR ⊢
        have hE0 : E2 = 0 := by rw [HE2.out]; exact rts_appL F l _ HE0.out hl HQ.out hb9.1 hb9.2
        have hFF : F2 = F := by rw [HF2.out, if_pos (by rw [← HE2.out]; exact hE0)]
        have hSS : S2 = setF l ((qx, qn), h9) := by rw [HS2.out, if_pos (by rw [← HE2.out]; exact hE0), canon_one l _ HG.out.2.2]
        have HXh := hidR (HXf.out.below hR.bel)
        have HBh := hidR (keepb hR.bel HBf.out)
        have HTh : Hid (wh.heap[gA]? = some (.cells #[.int .i64 F, g6] 25)) := hidR (by have := (hR.a rfl).2; simpa [tabO, hFF] using this)
        have HOh := hidR (hR.o7 rfl)
        obtain ⟨so, sc, rfl⟩ := own_form HOh.out
        have HRS : Hid (RtR F S2 ∧ OrdR S2 ∧ S2.filter (fun q => inR z F q) = S2.filter (inR z F)) := hidR ⟨by rw [hSS]; exact set_rtR F l _ HG.out.2.1 HG.out.2.2 HQ.out, by rw [hSS]; exact ord_ofP (setF_ord _ l (ordP_of HG.out.2.2)), rfl⟩
        have hSl : S2.length ≤ 3001 := by rw [hSS]; have := setF_len ((qx, qn), h9) l; omega
        have HSS := hidR hSS
        clear hR HXf HBf HLg HMg HK hSS
        rw [hE0, hFF]
        have r0 := at_blk HXh.out.r 0 (.int .u64 (hI qx)) rfl
        have r1 := at_blk HXh.out.r 1 (.int .u64 (lI qx)) rfl
        have r2 := at_blk HXh.out.r 2 (.int .i64 qn) rfl
        have x0 := at_blk HXh.out.x 0 (.int .u64 (hI z)) rfl
        have x1 := at_blk HXh.out.x 1 (.int .u64 (lI z)) rfl
        go_wp2_with fail
        refine (rhas_any qx qn z wh).mono ?_
        rintro e wi ⟨rfl, hb⟩
        have HXi := hidR (HXh.out.below hb)
        have HBi := hidR (keepb hb HBh.out)
        have HTi : Hid (wi.heap[gA]? = some (.cells #[.int .i64 F, .slice so S2.length sc] 25)) := hidR ((hb.block _ (blk_lt5 HTh.out)).trans HTh.out)
        have HOi := hidR (own_below hb HOh.out)
        clear hb r0 r1 r2 x0 x1 HXh HBh HTh HOh
        have u0 := at_blk HTi.out 0 (.int .i64 F) rfl
        have u1 := at_blk HTi.out 1 (.slice so S2.length sc) rfl
        cases hh2 : rhasB qx qn z with
        | false =>
          have x0 := at_blk HXi.out.x 0 (.int .u64 (hI z)) rfl
          have x1 := at_blk HXi.out.x 1 (.int .u64 (lI z)) rfl
          have hni : inR z F ((qx, qn), h9) = false := by
            unfold inR withinB
            have := has_eq qx qn z HQ.out.1 (Int.le_trans HQ.out.2.1 hF1) HQ.out.2.2
            rw [hh2] at this
            rw [← this]
            simp
          have KL := lookT_any F z so sc S2 wi hF1 HRS.out.2.1 HRS.out.1 HRx.out (by omega) (own_rowA HOi.out) T (by rw [HSS.out, setF_filter _ (fun x y e => by unfold inR; rw [e]) _ l (ordP_of HG.out.2.2) hni]; exact HTT.out)
          rw [← HW0.out] at KL
          clear hni
          go_wp2_with fail
          refine KL.mono ?_
          rintro e wj ⟨rfl, hb⟩
          have HBj := hidR (keepb hb HBi.out)
          clear hb KL u0 u1 x0 x1 HXi HBi HTi HOi
          go_wp2
          exact bodyPost_ret (v := .bool true) (by simp [results, Try.results4, go_sem]) rfl ⟨rfl, HBj.out⟩
        | true =>
          have r0 := at_blk HXi.out.r 0 (.int .u64 (hI qx)) rfl
          have r1 := at_blk HXi.out.r 1 (.int .u64 (lI qx)) rfl
          have r2 := at_blk HXi.out.r 2 (.int .i64 qn) rfl
          go_wp2_with fail
          refine (find_any F qx qn _ S2 wi (row_rwr (own_row HOi.out)) (by omega) (ord_mono HRS.out.2.1 qx qn)).mono ?_
          rintro e wj ⟨⟨i2, ok, fh, hP, q1, q0, rfl⟩, hb⟩
          obtain ⟨n1, n2⟩ := fnd_place HRS.out.2.1 hP q1 q0
          have hfs : fndO qx qn S2 = some h9 := fnd_setL S2 ((qx, qn), h9) HRS.out.2.1 (by rw [HSS.out]; exact setF_there _ l (ordP_of HG.out.2.2))
          rw [hfs] at n1 n2
          have f1 : fh = h9 := n1
          have f2 : ok = true := n2
          clear n1 n2
          subst f1
          subst f2
          have r3 := at_blk (HXi.out.below hb).r 3 (.int .i64 fh) rfl
          have HBj := hidR (keepb hb HBi.out)
          have hff : (fh == fh) = true := by simp
          clear hb u0 u1 r0 r1 r2 HXi HBi HTi HOi hP q1 q0 hfs
          go_wp2
          exact bodyPost_ret (v := .bool true) (by simp [results, Try.results4, go_sem]) rfl ⟨rfl, HBj.out⟩
end Go.Proofs.Ytohnhpicjedfeaa
