/-
  Part 18 of the proof: 1 texts, one behind the other.
-/
import Derived.Test.YtonagfmkplbooaaGreatDoorPart16
import Derived.Test.YtonagfmkplbooaaGreatDoorPart17
/-
  What the calls of the sweeper's leave and enter do.
-/
namespace Go.Proofs.YtonagfmkplbooaaGreatDoor
open Go.RowKit
set_option linter.unusedSimpArgs false
set_option linter.unusedVariables false

set_option maxRecDepth 20000 in
set_option maxHeartbeats 8000000 in
theorem leave_any (base B : Nat) (F : Int) (o : Rte) (os : List Rte) (t : T3) (Z : Nat → Prop) (ob : Nat → Option Obj) (vo vt : Value) (w : World) (k : SwV w base B F (o :: os) t Z ob vo vt vt) (hl : os.length ≤ 1000000000) (ht : t.2.2.length ≤ 1000000000) :
    Calls Tryz.prog 38 #[.pointer (some ⟨B, 0, none⟩)] w fun e w' => e = .returned (.tuple #[]) ∧ (∃ vo' vt', SwV w' base B F os (tell3 F (lastW F o.1.1 o.1.2) o.2 t) Z ob vo' vt' vt') ∧ Below base w w' := by
  obtain ⟨⟨ox, om⟩, oh⟩ := o
  obtain ⟨g, cap, rfl, -, hcap⟩ := k.inner
  dsimp only
  have KI : ∀ W t (vc vt : Value), SwV W base B F (((ox, om), oh) :: os) t Z ob (.slice (some ⟨g, 0, none⟩) (os.length + 1) cap) vc vt → Calls Tryz.prog 37 #[.pointer (some ⟨B, 0, none⟩)] W fun e w' => e = .returned (.agg #[.int .u64 (hI ox), .int .u64 (lI ox), .int .i64 om, .int .i64 oh]) ∧ Below W.heap.size W w' := fun W t vc vt h => by
    obtain ⟨g', cap', e, h2, -⟩ := h.inner
    injection e with e1 _ e3
    injection e1 with e1
    injection e1 with e1
    subst e1
    subst e3
    exact inner_any B g os.length cap ox om oh W h2 hl
  have KL := fun w => plast_any F ox om w
  have KT : ∀ W, SwV W base B F (((ox, om), oh) :: os) t Z ob (.slice (some ⟨g, 0, none⟩) (os.length + 1) cap) vt vt → Calls Tryz.prog 63 #[.pointer (some ⟨B, 0, none⟩), .agg #[.int .u64 (hI (lastW F ox om)), .int .u64 (lI (lastW F ox om))]] W fun e w' => e = .returned (.tuple #[]) ∧ (∃ vt', SwV w' base B F (((ox, om), oh) :: os) (tell3 F (lastW F ox om) oh t) Z ob (.slice (some ⟨g, 0, none⟩) (os.length + 1) cap) vt' vt') ∧ Below base W w' := fun W h => tell_any base B F ((ox, om), oh) os t Z ob _ vt _ W h hl ht
  revert KL KT
  generalize lastW F ox om = lx
  generalize tell3 F lx oh t = t'
  intro KL KT
  have hos : os.length ≤ 1000000000 := hl
  generalize hn : os.length = n at *
  have HN := hidR hn
  clear hn
  go_enter Tryz.func38, Tryz.ntmps38
  go_wp2_with fail
  refine cl_region 10 9 (alOk (qpOk 10 9 (by decide) (fun N => by kernel_rfl) (by kernel_rfl) (by kernel_rfl) (by kernel_rfl) (by kernel_rfl)) (by decide) rfl rfl (by kernel_rfl)) (D := fun W => SwV W base B F (((ox, om), oh) :: os) t Z ob (.slice (some ⟨g, 0, none⟩) (n + 1) cap) vt vt ∧ Below base w W) (C1 := fun _ W => (∃ vt', SwV W base B F (((ox, om), oh) :: os) t' Z ob (.slice (some ⟨g, 0, none⟩) (n + 1) cap) vt' vt') ∧ Below base w W) [some 2, some 3, some 4, some 5, some 6, some 7, some 8, some 9, some 10, some 11] (fun _ => [.pointer (some ⟨B, 0, none⟩), .pointer (some ⟨B, 0, none⟩), .pointer (some ⟨B, 0, none⟩), .pointer (some ⟨B, 0, none⟩), .int .i64 F, .pointer (some ⟨B, 0, none⟩), .agg #[.int .u64 (hI ox), .int .u64 (lI ox), .int .i64 om, .int .i64 oh], .agg #[.int .u64 (hI ox), .int .u64 (lI ox), .int .i64 om], .agg #[.int .u64 (hI lx), .int .u64 (lI lx)], .tuple #[]]) (fun _ => .tuple #[]) 11 [2, 10] (by kernel_rfl) rfl ?hA ?hrd ?hal ⟨k.below (below_drewN (Below.refl _ _) 1), (Below.refl _ _).drew⟩ ?walk ?fin
  case hA => intro N; rfl
  case hrd => kernel_rfl
  case hal =>
    intro W a' hC hr K Q' hK
    have e2 : a'.tmps[2]? = some (.pointer (some ⟨B, 0, none⟩)) := (hr 2 (by simp)).trans (by simp only [putAll, Act.put, List.setIfInBounds_toArray, List.set_cons_zero, List.set_cons_succ]; rfl)
    have e10 : a'.tmps[10]? = some (.agg #[.int .u64 (hI lx), .int .u64 (lI lx)]) := (hr 10 (by simp)).trans (by simp only [putAll, Act.put, List.setIfInBounds_toArray, List.set_cons_zero, List.set_cons_succ]; rfl)
    clear hr k
    unfold Oper.wp
    simp [execOp, e2, e10, go_sem, Oper.upon]
    refine (KT W hC.1).mono ?_
    rintro e w' ⟨rfl, h, hb⟩
    exact hK 0 w' ⟨h, hC.2.trans hb⟩
  case walk =>
    intro N X hX
    have hXD : ∀ W, X W → ∃ t2 vc v2, SwV W base B F (((ox, om), oh) :: os) t2 Z ob (.slice (some ⟨g, 0, none⟩) (n + 1) cap) vc v2 := by
      rcases hX with rfl | rfl
      · exact fun W h => ⟨_, _, _, h.1⟩
      · exact fun W h => by obtain ⟨⟨v, h⟩, -⟩ := h; exact ⟨_, _, _, h⟩
    have hXb : ∀ W W', X W → Below W.heap.size W W' → X W' := by
      rcases hX with rfl | rfl
      · exact fun W W' h hb => ⟨h.1.below hb, h.2.trans (hb.mono h.1.base)⟩
      · exact fun W W' h hb => by obtain ⟨⟨v, h⟩, h2⟩ := h; exact ⟨⟨v, h.below hb⟩, h2.trans (hb.mono h.base)⟩
    clear hX k
    dsimp only [rep, List.take, List.modify, List.modifyTailIdx, List.modifyTailIdx.go, List.modifyHead]
    refine q_run (v := .pointer (some ⟨B, 0, none⟩)) (by rfl) ?_ ?_
    · (intro w1 hC; obtain ⟨t2, vc, v2, hC⟩ := hXD w1 hC; obtain ⟨⟨a0, a1, a2, a3, a4, a5⟩, -⟩ := hC.c; clear hC; go_simp; first | done | (simp; done) | (simp [*]; done) | omega | (simp; omega) | (rw [IntKind.wrap_i64]; omega) | (intro hx; omega) | rfl)
    simp only [Act.put, List.setIfInBounds_toArray, List.set_cons_zero, List.set_cons_succ]
    refine q_run (v := .pointer (some ⟨B, 0, none⟩)) (by rfl) ?_ ?_
    · (intro w1 hC; obtain ⟨t2, vc, v2, hC⟩ := hXD w1 hC; obtain ⟨⟨a0, a1, a2, a3, a4, a5⟩, -⟩ := hC.c; clear hC; go_simp; first | done | (simp; done) | (simp [*]; done) | omega | (simp; omega) | (rw [IntKind.wrap_i64]; omega) | (intro hx; omega) | rfl)
    simp only [Act.put, List.setIfInBounds_toArray, List.set_cons_zero, List.set_cons_succ]
    refine q_run (v := .pointer (some ⟨B, 0, none⟩)) (by rfl) ?_ ?_
    · (intro w1 hC; obtain ⟨t2, vc, v2, hC⟩ := hXD w1 hC; obtain ⟨⟨a0, a1, a2, a3, a4, a5⟩, -⟩ := hC.c; clear hC; go_simp; first | done | (simp; done) | (simp [*]; done) | omega | (simp; omega) | (rw [IntKind.wrap_i64]; omega) | (intro hx; omega) | rfl)
    simp only [Act.put, List.setIfInBounds_toArray, List.set_cons_zero, List.set_cons_succ]
    refine q_run (v := .pointer (some ⟨B, 0, none⟩)) (by rfl) ?_ ?_
    · (intro w1 hC; obtain ⟨t2, vc, v2, hC⟩ := hXD w1 hC; obtain ⟨⟨a0, a1, a2, a3, a4, a5⟩, -⟩ := hC.c; clear hC; go_simp; first | done | (simp; done) | (simp [*]; done) | omega | (simp; omega) | (rw [IntKind.wrap_i64]; omega) | (intro hx; omega) | rfl)
    simp only [Act.put, List.setIfInBounds_toArray, List.set_cons_zero, List.set_cons_succ]
    refine q_run (v := .int .i64 F) (by rfl) ?_ ?_
    · (intro w1 hC; obtain ⟨t2, vc, v2, hC⟩ := hXD w1 hC; obtain ⟨⟨a0, a1, a2, a3, a4, a5⟩, -⟩ := hC.c; clear hC; go_simp; first | done | (simp; done) | (simp [*]; done) | omega | (simp; omega) | (rw [IntKind.wrap_i64]; omega) | (intro hx; omega) | rfl)
    simp only [Act.put, List.setIfInBounds_toArray, List.set_cons_zero, List.set_cons_succ]
    refine q_run (v := .pointer (some ⟨B, 0, none⟩)) (by rfl) ?_ ?_
    · (intro w1 hC; obtain ⟨t2, vc, v2, hC⟩ := hXD w1 hC; obtain ⟨⟨a0, a1, a2, a3, a4, a5⟩, -⟩ := hC.c; clear hC; go_simp; first | done | (simp; done) | (simp [*]; done) | omega | (simp; omega) | (rw [IntKind.wrap_i64]; omega) | (intro hx; omega) | rfl)
    simp only [Act.put, List.setIfInBounds_toArray, List.set_cons_zero, List.set_cons_succ]
    refine q_call (v := .agg #[.int .u64 (hI ox), .int .u64 (lI ox), .int .i64 om, .int .i64 oh]) (f := 37) (args := #[.pointer (some ⟨B, 0, none⟩)]) (by rfl) ?_ ?_ ?_
    · (intro w1 hC; clear hC; go_simp)
    · exact fun w1 hC => by obtain ⟨t2, vc, v2, h⟩ := hXD w1 hC; exact (KI w1 t2 vc v2 h).mono fun e w' ⟨he, hb⟩ => ⟨he, hXb w1 _ hC hb⟩
    simp only [Act.put, List.setIfInBounds_toArray, List.set_cons_zero, List.set_cons_succ]
    refine q_run (v := .agg #[.int .u64 (hI ox), .int .u64 (lI ox), .int .i64 om]) (by rfl) ?_ ?_
    · (intro w1 hC; obtain ⟨t2, vc, v2, hC⟩ := hXD w1 hC; obtain ⟨⟨a0, a1, a2, a3, a4, a5⟩, -⟩ := hC.c; clear hC; go_simp; first | done | (simp; done) | (simp [*]; done) | omega | (simp; omega) | (rw [IntKind.wrap_i64]; omega) | (intro hx; omega) | rfl)
    simp only [Act.put, List.setIfInBounds_toArray, List.set_cons_zero, List.set_cons_succ]
    refine q_call (v := .agg #[.int .u64 (hI lx), .int .u64 (lI lx)]) (f := 64) (args := #[.int .i64 F, .agg #[.int .u64 (hI ox), .int .u64 (lI ox), .int .i64 om]]) (by rfl) ?_ ?_ ?_
    · (intro w1 hC; clear hC; go_simp)
    · exact fun w1 hC => (KL w1).mono fun e w' ⟨he, hb⟩ => ⟨he, hXb w1 _ hC hb⟩
    simp only [Act.put, List.setIfInBounds_toArray, List.set_cons_zero, List.set_cons_succ]
    refine q_run (v := .tuple #[]) (by rfl) ?_ ?_
    · (intro w1 hC; obtain ⟨t2, vc, v2, hC⟩ := hXD w1 hC; obtain ⟨⟨a0, a1, a2, a3, a4, a5⟩, -⟩ := hC.c; clear hC; go_simp; first | done | (simp; done) | (simp [*]; done) | omega | (simp; omega) | (rw [IntKind.wrap_i64]; omega) | (intro hx; omega) | rfl)
    simp only [Act.put, List.setIfInBounds_toArray, List.set_cons_zero, List.set_cons_succ]
    refine wpQuiet_nil ?_
    simp only [putAll, Act.put, List.setIfInBounds_toArray, List.set_cons_zero, List.set_cons_succ]
  case fin =>
    intro N W hC
    simp only [putAll, Act.put, List.setIfInBounds_toArray, List.set_cons_zero, List.set_cons_succ]
    dsimp only [List.drop]
    obtain ⟨⟨vt', hS⟩, hB⟩ := hC
    have HC := hidR (⟨hS, hB⟩ : SwV W base B F (((ox, om), oh) :: os) t' Z ob (.slice (some ⟨g, 0, none⟩) (n + 1) cap) vt' vt' ∧ Below base w W)
    clear hS hB k KI KL KT
    have m1 : IntKind.i64.wrap ((n : Int) + 1 - 1) = (n : Int) := by rw [IntKind.wrap_i64]; omega
    have i1 : (0 : Int) ≤ (n : Int) := by omega
    have i3 : (n : Int) ≤ (cap : Int) := by omega
    have i4 : n ≤ cap := by omega
    go_wp2_with fail
    refine qp_region2 12 (qpOk 12 12 (by decide) (fun N => by kernel_rfl) (by kernel_rfl) (by kernel_rfl) (by kernel_rfl) (by kernel_rfl)) (C := fun W => SwV W base B F (((ox, om), oh) :: os) t' Z ob (.slice (some ⟨g, 0, none⟩) (n + 1) cap) vt' vt' ∧ Below base w W) [some 12, some 13, some 14, some 15, some 16, some 17, some 18, some 19, some 20, some 21, some 22, some 23] [.pointer (some ⟨B, 0, none⟩), .pointer (some ⟨B, 0, none⟩), .pointer (some ⟨B, 0, none⟩), .pointer (some ⟨B, 1, none⟩), .slice (some ⟨g, 0, none⟩) (n + 1) cap, .pointer (some ⟨B, 0, none⟩), .pointer (some ⟨B, 0, none⟩), .pointer (some ⟨B, 1, none⟩), .slice (some ⟨g, 0, none⟩) (n + 1) cap, .int .i64 ((n : Int) + 1), .int .i64 (n : Int), .slice (some ⟨g, 0, none⟩) n cap] (by kernel_rfl) ⟨HC.out.1.below (below_drewN (Below.refl _ _) 1), HC.out.2.drew⟩ ?walk2 ?fin2
    case walk2 =>
      dsimp only [List.take]
      clear HC
      refine q_run (v := .pointer (some ⟨B, 0, none⟩)) (by rfl) ?_ ?_
      · (intro w1 hC; obtain ⟨⟨a0, a1, a2, a3, a4, a5⟩, -⟩ := hC.1.c; clear hC; go_simp; first | done | (simp; done) | (simp [*]; done) | omega | (simp; omega) | (rw [IntKind.wrap_i64]; omega) | (intro hx; omega) | rfl)
      simp only [Act.put, List.setIfInBounds_toArray, List.set_cons_zero, List.set_cons_succ]
      refine q_run (v := .pointer (some ⟨B, 0, none⟩)) (by rfl) ?_ ?_
      · (intro w1 hC; obtain ⟨⟨a0, a1, a2, a3, a4, a5⟩, -⟩ := hC.1.c; clear hC; go_simp; first | done | (simp; done) | (simp [*]; done) | omega | (simp; omega) | (rw [IntKind.wrap_i64]; omega) | (intro hx; omega) | rfl)
      simp only [Act.put, List.setIfInBounds_toArray, List.set_cons_zero, List.set_cons_succ]
      refine q_run (v := .pointer (some ⟨B, 0, none⟩)) (by rfl) ?_ ?_
      · (intro w1 hC; obtain ⟨⟨a0, a1, a2, a3, a4, a5⟩, -⟩ := hC.1.c; clear hC; go_simp; first | done | (simp; done) | (simp [*]; done) | omega | (simp; omega) | (rw [IntKind.wrap_i64]; omega) | (intro hx; omega) | rfl)
      simp only [Act.put, List.setIfInBounds_toArray, List.set_cons_zero, List.set_cons_succ]
      refine q_run (v := .pointer (some ⟨B, 1, none⟩)) (by rfl) ?_ ?_
      · (intro w1 hC; obtain ⟨⟨a0, a1, a2, a3, a4, a5⟩, -⟩ := hC.1.c; clear hC; go_simp; first | done | (simp; done) | (simp [*]; done) | omega | (simp; omega) | (rw [IntKind.wrap_i64]; omega) | (intro hx; omega) | rfl)
      simp only [Act.put, List.setIfInBounds_toArray, List.set_cons_zero, List.set_cons_succ]
      refine q_run (v := .slice (some ⟨g, 0, none⟩) (n + 1) cap) (by rfl) ?_ ?_
      · (intro w1 hC; obtain ⟨⟨a0, a1, a2, a3, a4, a5⟩, -⟩ := hC.1.c; clear hC; go_simp; first | done | (simp; done) | (simp [*]; done) | omega | (simp; omega) | (rw [IntKind.wrap_i64]; omega) | (intro hx; omega) | rfl)
      simp only [Act.put, List.setIfInBounds_toArray, List.set_cons_zero, List.set_cons_succ]
      refine q_run (v := .pointer (some ⟨B, 0, none⟩)) (by rfl) ?_ ?_
      · (intro w1 hC; obtain ⟨⟨a0, a1, a2, a3, a4, a5⟩, -⟩ := hC.1.c; clear hC; go_simp; first | done | (simp; done) | (simp [*]; done) | omega | (simp; omega) | (rw [IntKind.wrap_i64]; omega) | (intro hx; omega) | rfl)
      simp only [Act.put, List.setIfInBounds_toArray, List.set_cons_zero, List.set_cons_succ]
      refine q_run (v := .pointer (some ⟨B, 0, none⟩)) (by rfl) ?_ ?_
      · (intro w1 hC; obtain ⟨⟨a0, a1, a2, a3, a4, a5⟩, -⟩ := hC.1.c; clear hC; go_simp; first | done | (simp; done) | (simp [*]; done) | omega | (simp; omega) | (rw [IntKind.wrap_i64]; omega) | (intro hx; omega) | rfl)
      simp only [Act.put, List.setIfInBounds_toArray, List.set_cons_zero, List.set_cons_succ]
      refine q_run (v := .pointer (some ⟨B, 1, none⟩)) (by rfl) ?_ ?_
      · (intro w1 hC; obtain ⟨⟨a0, a1, a2, a3, a4, a5⟩, -⟩ := hC.1.c; clear hC; go_simp; first | done | (simp; done) | (simp [*]; done) | omega | (simp; omega) | (rw [IntKind.wrap_i64]; omega) | (intro hx; omega) | rfl)
      simp only [Act.put, List.setIfInBounds_toArray, List.set_cons_zero, List.set_cons_succ]
      refine q_run (v := .slice (some ⟨g, 0, none⟩) (n + 1) cap) (by rfl) ?_ ?_
      · (intro w1 hC; obtain ⟨⟨a0, a1, a2, a3, a4, a5⟩, -⟩ := hC.1.c; clear hC; go_simp; first | done | (simp; done) | (simp [*]; done) | omega | (simp; omega) | (rw [IntKind.wrap_i64]; omega) | (intro hx; omega) | rfl)
      simp only [Act.put, List.setIfInBounds_toArray, List.set_cons_zero, List.set_cons_succ]
      refine q_run (v := .int .i64 ((n : Int) + 1)) (by rfl) ?_ ?_
      · (intro w1 hC; obtain ⟨⟨a0, a1, a2, a3, a4, a5⟩, -⟩ := hC.1.c; clear hC; go_simp; first | done | (simp; done) | (simp [*]; done) | omega | (simp; omega) | (rw [IntKind.wrap_i64]; omega) | (intro hx; omega) | rfl)
      simp only [Act.put, List.setIfInBounds_toArray, List.set_cons_zero, List.set_cons_succ]
      refine q_run (v := .int .i64 (n : Int)) (by rfl) ?_ ?_
      · (intro w1 hC; obtain ⟨⟨a0, a1, a2, a3, a4, a5⟩, -⟩ := hC.1.c; clear hC; go_simp; first | done | (simp; done) | (simp [*]; done) | omega | (simp; omega) | (rw [IntKind.wrap_i64]; omega) | (intro hx; omega) | rfl)
      simp only [Act.put, List.setIfInBounds_toArray, List.set_cons_zero, List.set_cons_succ]
      refine q_run (v := .slice (some ⟨g, 0, none⟩) n cap) (by rfl) ?_ ?_
      · (intro w1 hC; obtain ⟨⟨a0, a1, a2, a3, a4, a5⟩, -⟩ := hC.1.c; clear hC; go_simp; first | done | (simp; done) | (simp [*]; done) | omega | (simp; omega) | (rw [IntKind.wrap_i64]; omega) | (intro hx; omega) | rfl)
      simp only [Act.put, List.setIfInBounds_toArray, List.set_cons_zero, List.set_cons_succ]
      refine wpQuiet_nil ?_
      simp only [putAll, Act.put, List.setIfInBounds_toArray, List.set_cons_zero, List.set_cons_succ]
    case fin2 =>
      intro W2 hC2
      simp only [putAll, Act.put, List.setIfInBounds_toArray, List.set_cons_zero, List.set_cons_succ]
      dsimp only [List.drop]
      obtain ⟨⟨a0, a1, a2, a3, a4, a5⟩, f1, f2, f3, f4, f5⟩ := hC2.1.c
      have HP : Hid (SwV (W2.setCell ⟨B, 1, none⟩ (.slice (some ⟨g, 0, none⟩) n cap)) base B F os t' Z ob (.slice (some ⟨g, 0, none⟩) n cap) vt' vt') := hidR (by
        have h9 := hC2.1
        rw [← HN.out] at h9
        have := h9.pop
        rw [HN.out] at this
        exact this)
      have HB := hidR (hC2.2.setCell (p := ⟨B, 1, none⟩) hC2.1.bB (.slice (some ⟨g, 0, none⟩) n cap))
      clear hC2 HC
      go_wp2
      exact bodyPost_end (v := .tuple #[]) (by simp [results, Tryz.results38, go_sem]) rfl ⟨rfl, ⟨_, _, HP.out⟩, HB.out⟩
theorem SwV.setN {W : World} {base B : Nat} {F : Int} {op : List Rte} {t : T3} {Z : Nat → Prop} {ob : Nat → Option Obj} {vo vc vt : Value} {H N : Nat} (k : SwV W base B F op t Z ob vo vc vt) (h : B < H ∧ (∀ z, Z z → z < H) ∧ (∀ z, vo.ownBlock = some z → z < H) ∧ (∀ z, vt.ownBlock = some z → z < H)) (hN : H ≤ N) (u v : Value) : SwV ((W.setCell ⟨N, 0, none⟩ u).setCell ⟨N, 1, none⟩ v) base B F op t Z ob vo vc vt := by
  obtain ⟨h1, h2, h4, h5⟩ := h
  have he : ∀ z, z < H → ((W.setCell ⟨N, 0, none⟩ u).setCell ⟨N, 1, none⟩ v).heap[z]? = W.heap[z]? := fun z q => by rw [hSet _ (by omega), hSet _ (by omega)]
  have hz : ((W.setCell ⟨N, 0, none⟩ u).setCell ⟨N, 1, none⟩ v).heap.size = W.heap.size := by simp
  exact ⟨k.c.heap (he _ h1), own_heap k.oo (fun g e => he g (h4 g e)), own_heap k.ot (fun g e => he g (h5 g e)), k.n1, k.n2, k.n3, k.bB, fun z q => by rw [he z (h2 z q)]; exact k.z z q, k.zB, fun z q => by rw [hz]; exact k.zl z q, k.z1, k.z2⟩
theorem SwV.low {W : World} {base B : Nat} {F : Int} {op : List Rte} {t : T3} {Z : Nat → Prop} {ob : Nat → Option Obj} {vo vc vt : Value} (k : SwV W base B F op t Z ob vo vc vt) : B < W.heap.size ∧ (∀ z, Z z → z < W.heap.size) ∧ (∀ z, vo.ownBlock = some z → z < W.heap.size) ∧ (∀ z, vt.ownBlock = some z → z < W.heap.size) := ⟨k.c.lt, k.zl, fun z e => (k.oo.lt z e).2, fun z e => (k.ot.lt z e).2⟩
theorem Tryz.infoRo : (Tryz.prog.info? 45).map (fun i => (i.zero, i.size, i.bytes)) = some (some (.agg #[.int .u64 0, .int .u64 0, .int .i64 0, .int .i64 0]), 4, 32) := by kernel_rfl
theorem newsAt {W : World} {N : Nat} {x : BitVec 128} {m h : Int} (k : AtR W N x m h) : ∀ j u, [Value.int .u64 (hI x), .int .u64 (lI x), .int .i64 m, .int .i64 h][j]? = some u → W.cell? ((⟨N, 0, none⟩ : Addr).add j) = some u := by
  intro j u hj
  rw [addA, Nat.zero_add]
  obtain ⟨k0, k1, k2, k3⟩ := k
  match j, hj with
  | 0, hj => simp at hj; subst hj; exact k0
  | 1, hj => simp at hj; subst hj; exact k1
  | 2, hj => simp at hj; subst hj; exact k2
  | 3, hj => simp at hj; subst hj; exact k3
theorem fourAt (a b c d : Int) : ∀ u ∈ [Value.int .u64 a, Value.int .u64 b, Value.int .i64 c, Value.int .i64 d], u.oneCell' = true := by
  intro u hu; simp at hu; rcases hu with rfl | rfl | rfl | rfl <;> rfl
set_option maxRecDepth 20000 in
set_option maxHeartbeats 8000000 in
theorem enter_any (base B : Nat) (F : Int) (r o : Rte) (os : List Rte) (t : T3) (Z : Nat → Prop) (ob : Nat → Option Obj) (vo vt : Value) (w : World) (k : SwV w base B F (o :: os) t Z ob vo vt vt) (hl : os.length ≤ 1000000000) (ht : t.2.2.length ≤ 1000000000) :
    Calls Tryz.prog 39 #[.pointer (some ⟨B, 0, none⟩), .agg #[.int .u64 (hI r.1.1), .int .u64 (lI r.1.1), .int .i64 r.1.2, .int .i64 r.2]] w fun e w' => e = .returned (.tuple #[]) ∧ (∃ vo' vt', SwV w' base B F (r :: o :: os) (entT F r o.2 t) Z ob vo' vt' vt') ∧ Below base w w' := by
  obtain ⟨i0, hi, hz0, hz1, hz2⟩ := info_parts Tryz.infoRo
  obtain ⟨⟨ox, om⟩, oh⟩ := o
  obtain ⟨⟨rx, rm⟩, rh⟩ := r
  obtain ⟨g, cap, rfl, -, hcap⟩ := k.inner
  dsimp only
  have HK : Hid (SwV (w.alloc (.cells #[.int .u64 (hI rx), .int .u64 (lI rx), .int .i64 rm, .int .i64 rh] 45)) base B F (((ox, om), oh) :: os) t (fun z => Z z ∨ z = w.heap.size) (fun z => (w.alloc (.cells #[.int .u64 (hI rx), .int .u64 (lI rx), .int .i64 rm, .int .i64 rh] 45)).heap[z]?) (.slice (some ⟨g, 0, none⟩) (os.length + 1) cap) vt vt) := hidR (k.more _)
  have HZ : Hid (∀ z, Z z → (w.alloc (.cells #[.int .u64 (hI rx), .int .u64 (lI rx), .int .i64 rm, .int .i64 rh] 45)).heap[z]? = ob z) := hidR (fun z q => by rw [hAl _ (k.zl z q)]; exact k.z z q)
  have HR : Hid (∀ W : World, W.heap[w.heap.size]? = (w.alloc (.cells #[.int .u64 (hI rx), .int .u64 (lI rx), .int .i64 rm, .int .i64 rh] 45)).heap[w.heap.size]? → AtR W w.heap.size rx rm rh) := hidR (fun W e => (atr_new w w.heap.size rx rm rh 45 rfl).heap e)
  have HB := hidR ((bl1 w (.cells #[.int .u64 (hI rx), .int .u64 (lI rx), .int .i64 rm, .int .i64 rh] 45)).mono k.base)
  have hwB : ¬ w.heap.size = B := by have := k.c.lt; omega
  have hbB := k.bB
  clear k
  have KF := fun w => pfirst_any rx rm w
  have KP := fun w => aprev_any F rx w
  have KT : ∀ W (Y : Nat → Prop) (oy : Nat → Option Obj), SwV W base B F (((ox, om), oh) :: os) t Y oy (.slice (some ⟨g, 0, none⟩) (os.length + 1) cap) vt vt → Calls Tryz.prog 63 #[.pointer (some ⟨B, 0, none⟩), .agg #[.int .u64 (hI (prevV F rx)), .int .u64 (lI (prevV F rx))]] W fun e w' => e = .returned (.tuple #[]) ∧ (∃ vt', SwV w' base B F (((ox, om), oh) :: os) (tell3 F (prevV F rx) oh t) Y oy (.slice (some ⟨g, 0, none⟩) (os.length + 1) cap) vt' vt') ∧ Below base W w' := fun W Y oy h => tell_any base B F ((ox, om), oh) os t Y oy _ vt _ W h hl ht
  have HE : Hid (entT F ((rx, rm), rh) oh t = if prevB F rx = true then tell3 F (prevV F rx) oh t else t) := hidR (by unfold entT; rfl)
  revert KP KT HE
  generalize entT F ((rx, rm), rh) oh t = te
  generalize tell3 F (prevV F rx) oh t = t'
  generalize prevV F rx = pv
  generalize prevB F rx = pb
  intro KP KT HE
  generalize hn : os.length = n at *
  have HN := hidR hn
  clear hn
  revert HK HZ HR HB
  generalize hW0 : (w.alloc (.cells #[.int .u64 (hI rx), .int .u64 (lI rx), .int .i64 rm, .int .i64 rh] 45)) = W0
  intro HZ HR HB HK
  go_enter Tryz.func39, Tryz.ntmps39
  go_wp2_with fail
  try rw [hW0]
  clear hW0
  refine two_region 13 11 12 (alOk (qpOk 13 11 (by decide) (fun N => by kernel_rfl) (by kernel_rfl) (by kernel_rfl) (by kernel_rfl) (by kernel_rfl)) (by decide) rfl rfl (by kernel_rfl)) (alOk (qpOk 13 12 (by decide) (fun N => by kernel_rfl) (by kernel_rfl) (by kernel_rfl) (by kernel_rfl) (by kernel_rfl)) (by decide) rfl rfl (by kernel_rfl)) (by decide) (by kernel_rfl) rfl (D := fun W => SwV W base B F (((ox, om), oh) :: os) t (fun z => Z z ∨ z = w.heap.size) (fun z => W0.heap[z]?) (.slice (some ⟨g, 0, none⟩) (n + 1) cap) vt vt ∧ Below base w W ∧ W0.heap.size ≤ W.heap.size) (C1 := fun N W => (SwV W base B F (((ox, om), oh) :: os) t (fun z => Z z ∨ z = w.heap.size) (fun z => W0.heap[z]?) (.slice (some ⟨g, 0, none⟩) (n + 1) cap) vt vt ∧ Below base w W ∧ W0.heap.size ≤ W.heap.size) ∧ At W N 0#128 ∧ W0.heap.size ≤ N) (C2 := fun N W => (SwV W base B F (((ox, om), oh) :: os) t (fun z => Z z ∨ z = w.heap.size) (fun z => W0.heap[z]?) (.slice (some ⟨g, 0, none⟩) (n + 1) cap) vt vt ∧ Below base w W ∧ W0.heap.size ≤ W.heap.size) ∧ At W N pv ∧ W0.heap.size ≤ N) (obj := .cells #[.int .u64 0, .int .u64 0] 27) [some 7, some 8, some 9, some 10, some 11, some 12, some 13, some 14, some 6, some 15, some 16, some 4, none] (fun N => [.pointer (some ⟨B, 0, none⟩), .pointer (some ⟨B, 0, none⟩), .pointer (some ⟨B, 0, none⟩), .int .i64 F, .pointer (some ⟨w.heap.size, 0, none⟩), .agg #[.int .u64 (hI rx), .int .u64 (lI rx), .int .i64 rm], .agg #[.int .u64 (hI rx), .int .u64 (lI rx)], .tuple #[.agg #[.int .u64 (hI pv), .int .u64 (lI pv)], .bool pb], .tuple #[.agg #[.int .u64 (hI pv), .int .u64 (lI pv)], .bool pb], .agg #[.int .u64 (hI pv), .int .u64 (lI pv)], .bool pb, .pointer (some ⟨N, 0, none⟩), undef]) 4 [4, 15] (by kernel_rfl) (fun N => by kernel_rfl) rfl ?hA3 ?hAd3 (by kernel_rfl) ?hal3 ?hC3 ?hst3 ⟨HK.out.below (below_drewN (Below.refl _ _) 1), HB.out.drew, Nat.le_refl _⟩ ?walk3 ?fin3
  case hA3 => intro N; simp only [putAll, Act.put, List.setIfInBounds_toArray, List.set_cons_zero, List.set_cons_succ]; rfl
  case hAd3 => intro N; simp only [putAll, Act.put, List.setIfInBounds_toArray, List.set_cons_zero, List.set_cons_succ]; rfl
  case hal3 => intro W a _; go_simp
  case hC3 => intro W h; exact ⟨⟨h.1.below (bl1 W _), h.2.1.trans ((bl1 W _).mono h.1.base), by have := h.2.2; simp; omega⟩, at_new0 W, h.2.2⟩
  case hst3 =>
    intro N W a' hC hr K Q' hK
    have e4 : a'.tmps[4]? = some (.pointer (some ⟨N, 0, none⟩)) := (hr 4 (by simp)).trans (by simp only [putAll, Act.put, List.setIfInBounds_toArray, List.set_cons_zero, List.set_cons_succ]; rfl)
    have e15 : a'.tmps[15]? = some (.agg #[.int .u64 (hI pv), .int .u64 (lI pv)]) := (hr 15 (by simp)).trans (by simp only [putAll, Act.put, List.setIfInBounds_toArray, List.set_cons_zero, List.set_cons_succ]; rfl)
    obtain ⟨hE, hZ, hN1⟩ := hC
    obtain ⟨z0, z1, z2, z3, z4⟩ := id hZ
    have hK' := hK _ ⟨⟨hE.1.setN HK.out.low hN1 (.int .u64 (hI pv)) (.int .u64 (lI pv)), (hE.2.1.setCell (p := ⟨N, 0, none⟩) (by have := HK.out.base; simp; omega) (.int .u64 (hI pv))).setCell (p := ⟨N, 1, none⟩) (by have := HK.out.base; simp; omega) (.int .u64 (lI pv)), by have := hE.2.2; simp; omega⟩, hZ.set pv, hN1⟩
    clear hr
    unfold Oper.wp
    simp [execOp, e4, e15, go_sem, z0, z1, z2, z3, z4, Oper.upon]
    exact hK'
  case walk3 =>
    intro N X hX
    have hXD : ∀ W, X W → SwC W B F (.slice (some ⟨g, 0, none⟩) (n + 1) cap) t.1 t.2.1 vt ∧ AtR W w.heap.size rx rm rh := by
      rcases hX with rfl | rfl | rfl
      · exact fun W h => ⟨h.1.c, HR.out W (h.1.z _ (.inr rfl))⟩
      · exact fun W h => ⟨h.1.1.c, HR.out W (h.1.1.z _ (.inr rfl))⟩
      · exact fun W h => ⟨h.1.1.c, HR.out W (h.1.1.z _ (.inr rfl))⟩
    have hXb : ∀ W W', X W → Below W.heap.size W W' → X W' := by
      rcases hX with rfl | rfl | rfl
      · exact fun W W' h hb => ⟨h.1.below hb, h.2.1.trans (hb.mono h.1.base), by have := hb.size; have := h.2.2; omega⟩
      · exact fun W W' h hb => ⟨⟨h.1.1.below hb, h.1.2.1.trans (hb.mono h.1.1.base), by have := hb.size; have := h.1.2.2; omega⟩, h.2.1.below hb, h.2.2⟩
      · exact fun W W' h hb => ⟨⟨h.1.1.below hb, h.1.2.1.trans (hb.mono h.1.1.base), by have := hb.size; have := h.1.2.2; omega⟩, h.2.1.below hb, h.2.2⟩
    clear hX HK HB HZ HR
    dsimp only [rep, List.take, List.modify, List.modifyTailIdx, List.modifyTailIdx.go, List.modifyHead]
    refine q_run (v := .pointer (some ⟨B, 0, none⟩)) (by rfl) ?_ ?_
    · (intro w1 hC; obtain ⟨⟨⟨a0, a1, a2, a3, a4, a5⟩, -⟩, ⟨r0, r1, r2, r3⟩⟩ := hXD w1 hC; clear hC; go_simp; first | done | (simp; done) | (simp [*]; done) | omega | (simp; omega) | (rw [IntKind.wrap_i64]; omega) | (intro hx; omega) | rfl)
    simp only [Act.put, List.setIfInBounds_toArray, List.set_cons_zero, List.set_cons_succ]
    refine q_run (v := .pointer (some ⟨B, 0, none⟩)) (by rfl) ?_ ?_
    · (intro w1 hC; obtain ⟨⟨⟨a0, a1, a2, a3, a4, a5⟩, -⟩, ⟨r0, r1, r2, r3⟩⟩ := hXD w1 hC; clear hC; go_simp; first | done | (simp; done) | (simp [*]; done) | omega | (simp; omega) | (rw [IntKind.wrap_i64]; omega) | (intro hx; omega) | rfl)
    simp only [Act.put, List.setIfInBounds_toArray, List.set_cons_zero, List.set_cons_succ]
    refine q_run (v := .pointer (some ⟨B, 0, none⟩)) (by rfl) ?_ ?_
    · (intro w1 hC; obtain ⟨⟨⟨a0, a1, a2, a3, a4, a5⟩, -⟩, ⟨r0, r1, r2, r3⟩⟩ := hXD w1 hC; clear hC; go_simp; first | done | (simp; done) | (simp [*]; done) | omega | (simp; omega) | (rw [IntKind.wrap_i64]; omega) | (intro hx; omega) | rfl)
    simp only [Act.put, List.setIfInBounds_toArray, List.set_cons_zero, List.set_cons_succ]
    refine q_run (v := .int .i64 F) (by rfl) ?_ ?_
    · (intro w1 hC; obtain ⟨⟨⟨a0, a1, a2, a3, a4, a5⟩, -⟩, ⟨r0, r1, r2, r3⟩⟩ := hXD w1 hC; clear hC; go_simp; first | done | (simp; done) | (simp [*]; done) | omega | (simp; omega) | (rw [IntKind.wrap_i64]; omega) | (intro hx; omega) | rfl)
    simp only [Act.put, List.setIfInBounds_toArray, List.set_cons_zero, List.set_cons_succ]
    refine q_run (v := .pointer (some ⟨w.heap.size, 0, none⟩)) (by rfl) ?_ ?_
    · (intro w1 hC; obtain ⟨⟨⟨a0, a1, a2, a3, a4, a5⟩, -⟩, ⟨r0, r1, r2, r3⟩⟩ := hXD w1 hC; clear hC; go_simp; first | done | (simp; done) | (simp [*]; done) | omega | (simp; omega) | (rw [IntKind.wrap_i64]; omega) | (intro hx; omega) | rfl)
    simp only [Act.put, List.setIfInBounds_toArray, List.set_cons_zero, List.set_cons_succ]
    refine q_run (v := .agg #[.int .u64 (hI rx), .int .u64 (lI rx), .int .i64 rm]) (by rfl) ?_ ?_
    · (intro w1 hC; obtain ⟨⟨⟨a0, a1, a2, a3, a4, a5⟩, -⟩, ⟨r0, r1, r2, r3⟩⟩ := hXD w1 hC; clear hC; go_simp; first | done | (simp; done) | (simp [*]; done) | omega | (simp; omega) | (rw [IntKind.wrap_i64]; omega) | (intro hx; omega) | rfl)
    simp only [Act.put, List.setIfInBounds_toArray, List.set_cons_zero, List.set_cons_succ]
    refine q_call (v := .agg #[.int .u64 (hI rx), .int .u64 (lI rx)]) (f := 66) (args := #[.agg #[.int .u64 (hI rx), .int .u64 (lI rx), .int .i64 rm]]) (by rfl) ?_ ?_ ?_
    · (intro w1 hC; clear hC; go_simp)
    · exact fun w1 hC => (KF w1).mono fun e w' ⟨he, hb⟩ => ⟨he, hXb w1 _ hC hb⟩
    simp only [Act.put, List.setIfInBounds_toArray, List.set_cons_zero, List.set_cons_succ]
    refine q_call (v := .tuple #[.agg #[.int .u64 (hI pv), .int .u64 (lI pv)], .bool pb]) (f := 65) (args := #[.int .i64 F, .agg #[.int .u64 (hI rx), .int .u64 (lI rx)]]) (by rfl) ?_ ?_ ?_
    · (intro w1 hC; clear hC; go_simp)
    · exact fun w1 hC => (KP w1).mono fun e w' ⟨he, hb⟩ => ⟨he, hXb w1 _ hC hb⟩
    simp only [Act.put, List.setIfInBounds_toArray, List.set_cons_zero, List.set_cons_succ]
    refine q_run (v := .tuple #[.agg #[.int .u64 (hI pv), .int .u64 (lI pv)], .bool pb]) (by rfl) ?_ ?_
    · (intro w1 hC; obtain ⟨⟨⟨a0, a1, a2, a3, a4, a5⟩, -⟩, ⟨r0, r1, r2, r3⟩⟩ := hXD w1 hC; clear hC; go_simp; first | done | (simp; done) | (simp [*]; done) | omega | (simp; omega) | (rw [IntKind.wrap_i64]; omega) | (intro hx; omega) | rfl)
    simp only [Act.put, List.setIfInBounds_toArray, List.set_cons_zero, List.set_cons_succ]
    refine q_run (v := .agg #[.int .u64 (hI pv), .int .u64 (lI pv)]) (by rfl) ?_ ?_
    · (intro w1 hC; obtain ⟨⟨⟨a0, a1, a2, a3, a4, a5⟩, -⟩, ⟨r0, r1, r2, r3⟩⟩ := hXD w1 hC; clear hC; go_simp; first | done | (simp; done) | (simp [*]; done) | omega | (simp; omega) | (rw [IntKind.wrap_i64]; omega) | (intro hx; omega) | rfl)
    simp only [Act.put, List.setIfInBounds_toArray, List.set_cons_zero, List.set_cons_succ]
    refine q_run (v := .bool pb) (by rfl) ?_ ?_
    · (intro w1 hC; obtain ⟨⟨⟨a0, a1, a2, a3, a4, a5⟩, -⟩, ⟨r0, r1, r2, r3⟩⟩ := hXD w1 hC; clear hC; go_simp; first | done | (simp; done) | (simp [*]; done) | omega | (simp; omega) | (rw [IntKind.wrap_i64]; omega) | (intro hx; omega) | rfl)
    simp only [Act.put, List.setIfInBounds_toArray, List.set_cons_zero, List.set_cons_succ]
    refine q_run (v := .pointer (some ⟨N, 0, none⟩)) (by rfl) ?_ ?_
    · (intro w1 hC; obtain ⟨⟨⟨a0, a1, a2, a3, a4, a5⟩, -⟩, ⟨r0, r1, r2, r3⟩⟩ := hXD w1 hC; clear hC; go_simp; first | done | (simp; done) | (simp [*]; done) | omega | (simp; omega) | (rw [IntKind.wrap_i64]; omega) | (intro hx; omega) | rfl)
    simp only [Act.put, List.setIfInBounds_toArray, List.set_cons_zero, List.set_cons_succ]
    refine q_run (v := undef) (by rfl) ?_ ?_
    · (intro w1 hC; obtain ⟨⟨⟨a0, a1, a2, a3, a4, a5⟩, -⟩, ⟨r0, r1, r2, r3⟩⟩ := hXD w1 hC; clear hC; go_simp; first | done | (simp; done) | (simp [*]; done) | omega | (simp; omega) | (rw [IntKind.wrap_i64]; omega) | (intro hx; omega) | rfl)
    simp only [Act.put, List.setIfInBounds_toArray, List.set_cons_zero, List.set_cons_succ]
    refine wpQuiet_nil ?_
    simp only [putAll, Act.put, List.setIfInBounds_toArray, List.set_cons_zero, List.set_cons_succ]
  case fin3 =>
    intro N W hC
    obtain ⟨⟨hE, hEB, -⟩, hZ, hN1⟩ := hC
    simp only [putAll, Act.put, List.setIfInBounds_toArray, List.set_cons_zero, List.set_cons_succ]
    dsimp only [List.drop]
    have HQ := hidR (And.intro hE hEB)
    obtain ⟨z0, z1, z2, z3, z4⟩ := id hZ
    clear HK HB hE hEB hZ KF KP
    cases pb with
    | false =>
      have HE2 : Hid (te = t) := hidR (by simpa using HE.out)
      clear HE
      obtain ⟨vq, hvq⟩ : ∃ vq, vq = vt := ⟨_, rfl⟩
      rw [← hvq] at HQ
      rw [← HE2.out] at HQ
      clear HE2 KT z0 z1 z2 z3 z4
      go_wp2_with fail
      refine ap_region 8 6 7 (alOk (qpOk 8 6 (by decide) (fun N => by kernel_rfl) (by kernel_rfl) (by kernel_rfl) (by kernel_rfl) (by kernel_rfl)) (by decide) rfl rfl (by kernel_rfl)) (alOk (qpOk 8 7 (by decide) (fun N => by kernel_rfl) (by kernel_rfl) (by kernel_rfl) (by kernel_rfl) (by kernel_rfl)) (by decide) rfl rfl (by kernel_rfl)) (by decide) (by kernel_rfl) (D := fun W => SwV W base B F (((ox, om), oh) :: os) te (fun z => Z z ∨ z = w.heap.size) (fun z => W0.heap[z]?) (.slice (some ⟨g, 0, none⟩) (n + 1) cap) vq vq ∧ Below base w W) (C1 := fun N W => (SwV W base B F (((ox, om), oh) :: os) te (fun z => Z z ∨ z = w.heap.size) (fun z => W0.heap[z]?) (.slice (some ⟨g, 0, none⟩) (n + 1) cap) vq vq ∧ Below base w W) ∧ AtR W N rx rm rh) (C2 := fun N M W => SwC W B F (.slice (some ⟨g, 0, none⟩) (n + 1) cap) te.1 te.2.1 vq ∧ AtR W w.heap.size rx rm rh ∧ SwV (W.setCell ⟨B, 1, none⟩ (valT (n + 1 + 1) M)) base B F (((rx, rm), rh) :: ((ox, om), oh) :: os) te (fun z => Z z ∨ z = w.heap.size) (fun z => W0.heap[z]?) (valT (n + 1 + 1) M) vq vq ∧ Below base w W) [some 21, some 22, some 23, some 24, some 25, some 26, some 27, some 28] (fun N M => [.pointer (some ⟨B, 0, none⟩), .pointer (some ⟨B, 0, none⟩), .pointer (some ⟨B, 0, none⟩), .pointer (some ⟨B, 1, none⟩), .slice (some ⟨g, 0, none⟩) (n + 1) cap, .agg #[.int .u64 (hI rx), .int .u64 (lI rx), .int .i64 rm, .int .i64 rh], .slice (some ⟨N, 0, none⟩) 1 1, valT (n + 1 + 1) M]) (fun N => .slice (some ⟨N, 0, none⟩) 1 1) (fun M => valT (n + 1 + 1) M) 27 28 [26] [25, 27] (by kernel_rfl) (fun N M => by kernel_rfl) rfl rfl ?hA4 ?hA41 ?hA42 (by kernel_rfl) (by kernel_rfl) (by decide) (by decide) ?h14 ?h24 ⟨HQ.out.1.below (below_drewN (Below.refl _ _) 1), HQ.out.2.drew⟩ ?walk4 ?fin4
      case hA4 => intro N M; simp only [putAll, Act.put, List.setIfInBounds_toArray, List.set_cons_zero, List.set_cons_succ]; try rfl
      case hA41 => intro N M; simp only [putAll, Act.put, List.setIfInBounds_toArray, List.set_cons_zero, List.set_cons_succ]; try rfl
      case hA42 => intro N M; simp only [putAll, Act.put, List.setIfInBounds_toArray, List.set_cons_zero, List.set_cons_succ]; try rfl
      case h14 =>
        intro W a' hC hr K Q' hK
        have e26 : a'.tmps[26]? = some (.agg #[.int .u64 (hI rx), .int .u64 (lI rx), .int .i64 rm, .int .i64 rh]) := (hr 26 (by simp)).trans (by simp only [putAll, Act.put, List.setIfInBounds_toArray, List.set_cons_zero, List.set_cons_succ]; rfl)
        have hK' := hK W.heap.size (W.alloc (.cells #[.int .u64 (hI rx), .int .u64 (lI rx), .int .i64 rm, .int .i64 rh] 45)) ⟨⟨hC.1.below (bl1 W _), hC.2.trans ((bl1 W _).mono hC.1.base)⟩, atr_new W W.heap.size rx rm rh 45 rfl⟩
        clear hr
        unfold Oper.wp
        simp [execOp, e26, go_sem, Oper.upon]
        exact hK'
      case h24 =>
        intro N W a' hC hr K Q' hK
        have e25 : a'.tmps[25]? = some (.slice (some ⟨g, 0, none⟩) (n + 1) cap) := (hr 25 (by simp)).trans (by simp only [putAll, Act.put, List.setIfInBounds_toArray, List.set_cons_zero, List.set_cons_succ]; rfl)
        have e27 : a'.tmps[27]? = some (.slice (some ⟨N, 0, none⟩) 1 1) := (hr 27 (by simp)).trans (by simp only [putAll, Act.put, List.setIfInBounds_toArray, List.set_cons_zero, List.set_cons_succ]; rfl)
        have hlen : (((ox, om), oh) :: os).length = n + 1 := by have := HN.out; simp [this]
        have hoo := hC.1.1.oo
        rw [hlen] at hoo
        refine wp_append_lies W (.tmp 25) (.tmp 27) 22 rfl base 45 i0 (.agg #[.int .u64 0, .int .u64 0, .int .i64 0, .int .i64 0]) 4 32 Tryz.underlying22 hi hz0 hz1 hz2 rfl (by decide) (.slice (some ⟨g, 0, none⟩) (n + 1) cap) (n + 1) (rowR (((ox, om), oh) :: os).reverse) (by simp [Act.eval, e25]) hoo ⟨N, 0, none⟩ 1 1 [.int .u64 (hI rx), .int .u64 (lI rx), .int .i64 rm, .int .i64 rh] (by simp [Act.eval, e27]) rfl (newsAt hC.2) (fourAt _ _ _ _) (by decide) (by unfold maxLen; omega) (by omega) hC.1.1.base _ rfl ?_
        intro g4 cap4 w4 hown4 hgrow hat hlt4
        obtain ⟨M, hM⟩ := decN_ex g4 cap4
        have eM : (.slice (some ⟨g4, 0, none⟩) (n + 1 + 1) cap4 : Value) = valT (n + 1 + 1) M := by rw [valT, hM]
        have hp := hC.1.1.push (x := rx) (m := rm) (h := rh) (g := g4) (cap := cap4) (by rw [hlen]; exact hown4) hgrow hat
        rw [hlen, eM] at hp
        rw [eM]
        refine hK M w4 ⟨hp.1, ?_, hp.2, hC.1.2.grown hgrow hC.1.1.base (fun z e => (hC.1.1.oo.lt z e).1)⟩
        refine HR.out w4 ?_
        rw [hgrow.block _ (hC.1.1.zl _ (.inr rfl)) (fun e => hC.1.1.z1 _ (.inr rfl) e.symm)]
        exact hC.1.1.z _ (.inr rfl)
      case walk4 =>
        intro N M X hX
        have hXD : ∀ W, X W → (∃ q1 q2, SwC W B F (.slice (some ⟨g, 0, none⟩) (n + 1) cap) q1 q2 vq) ∧ AtR W w.heap.size rx rm rh := by
          rcases hX with rfl | rfl | rfl
          · exact fun W h => ⟨⟨_, _, h.1.c⟩, HR.out W (h.1.z _ (.inr rfl))⟩
          · exact fun W h => ⟨⟨_, _, h.1.1.c⟩, HR.out W (h.1.1.z _ (.inr rfl))⟩
          · exact fun W h => ⟨⟨_, _, h.1⟩, h.2.1⟩
        clear hX HQ HZ HR
        dsimp only [rep, List.take, List.modify, List.modifyTailIdx, List.modifyTailIdx.go, List.modifyHead]
        refine q_run (v := .pointer (some ⟨B, 0, none⟩)) (by rfl) ?_ ?_
        · (intro w1 hC; obtain ⟨⟨q1, q2, ⟨a0, a1, a2, a3, a4, a5⟩, -⟩, ⟨r0, r1, r2, r3⟩⟩ := hXD w1 hC; clear hC; go_simp; first | done | (simp; done) | (simp [*]; done) | omega | (simp; omega) | (rw [IntKind.wrap_i64]; omega) | (intro hx; omega) | rfl)
        simp only [Act.put, List.setIfInBounds_toArray, List.set_cons_zero, List.set_cons_succ]
        refine q_run (v := .pointer (some ⟨B, 0, none⟩)) (by rfl) ?_ ?_
        · (intro w1 hC; obtain ⟨⟨q1, q2, ⟨a0, a1, a2, a3, a4, a5⟩, -⟩, ⟨r0, r1, r2, r3⟩⟩ := hXD w1 hC; clear hC; go_simp; first | done | (simp; done) | (simp [*]; done) | omega | (simp; omega) | (rw [IntKind.wrap_i64]; omega) | (intro hx; omega) | rfl)
        simp only [Act.put, List.setIfInBounds_toArray, List.set_cons_zero, List.set_cons_succ]
        refine q_run (v := .pointer (some ⟨B, 0, none⟩)) (by rfl) ?_ ?_
        · (intro w1 hC; obtain ⟨⟨q1, q2, ⟨a0, a1, a2, a3, a4, a5⟩, -⟩, ⟨r0, r1, r2, r3⟩⟩ := hXD w1 hC; clear hC; go_simp; first | done | (simp; done) | (simp [*]; done) | omega | (simp; omega) | (rw [IntKind.wrap_i64]; omega) | (intro hx; omega) | rfl)
        simp only [Act.put, List.setIfInBounds_toArray, List.set_cons_zero, List.set_cons_succ]
        refine q_run (v := .pointer (some ⟨B, 1, none⟩)) (by rfl) ?_ ?_
        · (intro w1 hC; obtain ⟨⟨q1, q2, ⟨a0, a1, a2, a3, a4, a5⟩, -⟩, ⟨r0, r1, r2, r3⟩⟩ := hXD w1 hC; clear hC; go_simp; first | done | (simp; done) | (simp [*]; done) | omega | (simp; omega) | (rw [IntKind.wrap_i64]; omega) | (intro hx; omega) | rfl)
        simp only [Act.put, List.setIfInBounds_toArray, List.set_cons_zero, List.set_cons_succ]
        refine q_run (v := .slice (some ⟨g, 0, none⟩) (n + 1) cap) (by rfl) ?_ ?_
        · (intro w1 hC; obtain ⟨⟨q1, q2, ⟨a0, a1, a2, a3, a4, a5⟩, -⟩, ⟨r0, r1, r2, r3⟩⟩ := hXD w1 hC; clear hC; go_simp; first | done | (simp; done) | (simp [*]; done) | omega | (simp; omega) | (rw [IntKind.wrap_i64]; omega) | (intro hx; omega) | rfl)
        simp only [Act.put, List.setIfInBounds_toArray, List.set_cons_zero, List.set_cons_succ]
        refine q_run (v := .agg #[.int .u64 (hI rx), .int .u64 (lI rx), .int .i64 rm, .int .i64 rh]) (by rfl) ?_ ?_
        · (intro w1 hC; obtain ⟨⟨q1, q2, ⟨a0, a1, a2, a3, a4, a5⟩, -⟩, ⟨r0, r1, r2, r3⟩⟩ := hXD w1 hC; clear hC; go_simp; first | done | (simp; done) | (simp [*]; done) | omega | (simp; omega) | (rw [IntKind.wrap_i64]; omega) | (intro hx; omega) | rfl)
        simp only [Act.put, List.setIfInBounds_toArray, List.set_cons_zero, List.set_cons_succ]
        refine q_run (v := .slice (some ⟨N, 0, none⟩) 1 1) (by rfl) ?_ ?_
        · (intro w1 hC; obtain ⟨⟨q1, q2, ⟨a0, a1, a2, a3, a4, a5⟩, -⟩, ⟨r0, r1, r2, r3⟩⟩ := hXD w1 hC; clear hC; go_simp; first | done | (simp; done) | (simp [*]; done) | omega | (simp; omega) | (rw [IntKind.wrap_i64]; omega) | (intro hx; omega) | rfl)
        simp only [Act.put, List.setIfInBounds_toArray, List.set_cons_zero, List.set_cons_succ]
        refine q_run (v := valT (n + 1 + 1) M) (by rfl) ?_ ?_
        · (intro w1 hC; obtain ⟨⟨q1, q2, ⟨a0, a1, a2, a3, a4, a5⟩, -⟩, ⟨r0, r1, r2, r3⟩⟩ := hXD w1 hC; clear hC; go_simp; first | done | (simp; done) | (simp [*]; done) | omega | (simp; omega) | (rw [IntKind.wrap_i64]; omega) | (intro hx; omega) | rfl)
        simp only [Act.put, List.setIfInBounds_toArray, List.set_cons_zero, List.set_cons_succ]
        refine wpQuiet_nil ?_
        simp only [putAll, Act.put, List.setIfInBounds_toArray, List.set_cons_zero, List.set_cons_succ]
      case fin4 =>
        intro N M W hC
        simp only [putAll, Act.put, List.setIfInBounds_toArray, List.set_cons_zero, List.set_cons_succ]
        dsimp only [List.drop]
        obtain ⟨⟨⟨a0, a1, a2, a3, a4, a5⟩, f1, f2, f3, f4, f5⟩, -, hS, hBl⟩ := hC
        have HS := hidR (hS.fewer (Y := Z) (od := ob) (fun z q => .inl q) (fun z q => HZ.out z q))
        have HBl := hidR (hBl.setCell (p := ⟨B, 1, none⟩) hbB (valT (n + 1 + 1) M))
        obtain ⟨g5, c5, hd⟩ : ∃ g5 c5, valT (n + 1 + 1) M = .slice (some ⟨g5, 0, none⟩) (n + 1 + 1) c5 := ⟨_, _, rfl⟩
        rw [hd] at HS HBl
        rw [hd]
        clear hd hS hBl HQ HZ HR
        go_wp2
        exact bodyPost_end (v := .tuple #[]) (by simp [results, Tryz.results39, go_sem]) rfl ⟨rfl, ⟨_, _, HS.out⟩, HBl.out⟩
    | true =>
      have HE2 : Hid (te = t') := hidR (by simpa using HE.out)
      clear HE
      go_wp2_with fail
      refine (KT W _ _ HQ.out.1).mono ?_
      rintro e w3 ⟨rfl, ⟨vq, hq⟩, hb⟩
      have HQ := hidR (And.intro hq (HQ.out.2.trans hb))
      rw [← HE2.out] at HQ
      clear HE2 KT z0 z1 z2 z3 z4 hq hb
      go_wp2_with fail
      refine ap_region 8 6 7 (alOk (qpOk 8 6 (by decide) (fun N => by kernel_rfl) (by kernel_rfl) (by kernel_rfl) (by kernel_rfl) (by kernel_rfl)) (by decide) rfl rfl (by kernel_rfl)) (alOk (qpOk 8 7 (by decide) (fun N => by kernel_rfl) (by kernel_rfl) (by kernel_rfl) (by kernel_rfl) (by kernel_rfl)) (by decide) rfl rfl (by kernel_rfl)) (by decide) (by kernel_rfl) (D := fun W => SwV W base B F (((ox, om), oh) :: os) te (fun z => Z z ∨ z = w.heap.size) (fun z => W0.heap[z]?) (.slice (some ⟨g, 0, none⟩) (n + 1) cap) vq vq ∧ Below base w W) (C1 := fun N W => (SwV W base B F (((ox, om), oh) :: os) te (fun z => Z z ∨ z = w.heap.size) (fun z => W0.heap[z]?) (.slice (some ⟨g, 0, none⟩) (n + 1) cap) vq vq ∧ Below base w W) ∧ AtR W N rx rm rh) (C2 := fun N M W => SwC W B F (.slice (some ⟨g, 0, none⟩) (n + 1) cap) te.1 te.2.1 vq ∧ AtR W w.heap.size rx rm rh ∧ SwV (W.setCell ⟨B, 1, none⟩ (valT (n + 1 + 1) M)) base B F (((rx, rm), rh) :: ((ox, om), oh) :: os) te (fun z => Z z ∨ z = w.heap.size) (fun z => W0.heap[z]?) (valT (n + 1 + 1) M) vq vq ∧ Below base w W) [some 21, some 22, some 23, some 24, some 25, some 26, some 27, some 28] (fun N M => [.pointer (some ⟨B, 0, none⟩), .pointer (some ⟨B, 0, none⟩), .pointer (some ⟨B, 0, none⟩), .pointer (some ⟨B, 1, none⟩), .slice (some ⟨g, 0, none⟩) (n + 1) cap, .agg #[.int .u64 (hI rx), .int .u64 (lI rx), .int .i64 rm, .int .i64 rh], .slice (some ⟨N, 0, none⟩) 1 1, valT (n + 1 + 1) M]) (fun N => .slice (some ⟨N, 0, none⟩) 1 1) (fun M => valT (n + 1 + 1) M) 27 28 [26] [25, 27] (by kernel_rfl) (fun N M => by kernel_rfl) rfl rfl ?hA4 ?hA41 ?hA42 (by kernel_rfl) (by kernel_rfl) (by decide) (by decide) ?h14 ?h24 ⟨HQ.out.1.below (below_drewN (Below.refl _ _) 1), HQ.out.2.drew⟩ ?walk4 ?fin4
      case hA4 => intro N M; simp only [putAll, Act.put, List.setIfInBounds_toArray, List.set_cons_zero, List.set_cons_succ]; try rfl
      case hA41 => intro N M; simp only [putAll, Act.put, List.setIfInBounds_toArray, List.set_cons_zero, List.set_cons_succ]; try rfl
      case hA42 => intro N M; simp only [putAll, Act.put, List.setIfInBounds_toArray, List.set_cons_zero, List.set_cons_succ]; try rfl
      case h14 =>
        intro W a' hC hr K Q' hK
        have e26 : a'.tmps[26]? = some (.agg #[.int .u64 (hI rx), .int .u64 (lI rx), .int .i64 rm, .int .i64 rh]) := (hr 26 (by simp)).trans (by simp only [putAll, Act.put, List.setIfInBounds_toArray, List.set_cons_zero, List.set_cons_succ]; rfl)
        have hK' := hK W.heap.size (W.alloc (.cells #[.int .u64 (hI rx), .int .u64 (lI rx), .int .i64 rm, .int .i64 rh] 45)) ⟨⟨hC.1.below (bl1 W _), hC.2.trans ((bl1 W _).mono hC.1.base)⟩, atr_new W W.heap.size rx rm rh 45 rfl⟩
        clear hr
        unfold Oper.wp
        simp [execOp, e26, go_sem, Oper.upon]
        exact hK'
      case h24 =>
        intro N W a' hC hr K Q' hK
        have e25 : a'.tmps[25]? = some (.slice (some ⟨g, 0, none⟩) (n + 1) cap) := (hr 25 (by simp)).trans (by simp only [putAll, Act.put, List.setIfInBounds_toArray, List.set_cons_zero, List.set_cons_succ]; rfl)
        have e27 : a'.tmps[27]? = some (.slice (some ⟨N, 0, none⟩) 1 1) := (hr 27 (by simp)).trans (by simp only [putAll, Act.put, List.setIfInBounds_toArray, List.set_cons_zero, List.set_cons_succ]; rfl)
        have hlen : (((ox, om), oh) :: os).length = n + 1 := by have := HN.out; simp [this]
        have hoo := hC.1.1.oo
        rw [hlen] at hoo
        refine wp_append_lies W (.tmp 25) (.tmp 27) 22 rfl base 45 i0 (.agg #[.int .u64 0, .int .u64 0, .int .i64 0, .int .i64 0]) 4 32 Tryz.underlying22 hi hz0 hz1 hz2 rfl (by decide) (.slice (some ⟨g, 0, none⟩) (n + 1) cap) (n + 1) (rowR (((ox, om), oh) :: os).reverse) (by simp [Act.eval, e25]) hoo ⟨N, 0, none⟩ 1 1 [.int .u64 (hI rx), .int .u64 (lI rx), .int .i64 rm, .int .i64 rh] (by simp [Act.eval, e27]) rfl (newsAt hC.2) (fourAt _ _ _ _) (by decide) (by unfold maxLen; omega) (by omega) hC.1.1.base _ rfl ?_
        intro g4 cap4 w4 hown4 hgrow hat hlt4
        obtain ⟨M, hM⟩ := decN_ex g4 cap4
        have eM : (.slice (some ⟨g4, 0, none⟩) (n + 1 + 1) cap4 : Value) = valT (n + 1 + 1) M := by rw [valT, hM]
        have hp := hC.1.1.push (x := rx) (m := rm) (h := rh) (g := g4) (cap := cap4) (by rw [hlen]; exact hown4) hgrow hat
        rw [hlen, eM] at hp
        rw [eM]
        refine hK M w4 ⟨hp.1, ?_, hp.2, hC.1.2.grown hgrow hC.1.1.base (fun z e => (hC.1.1.oo.lt z e).1)⟩
        refine HR.out w4 ?_
        rw [hgrow.block _ (hC.1.1.zl _ (.inr rfl)) (fun e => hC.1.1.z1 _ (.inr rfl) e.symm)]
        exact hC.1.1.z _ (.inr rfl)
      case walk4 =>
        intro N M X hX
        have hXD : ∀ W, X W → (∃ q1 q2, SwC W B F (.slice (some ⟨g, 0, none⟩) (n + 1) cap) q1 q2 vq) ∧ AtR W w.heap.size rx rm rh := by
          rcases hX with rfl | rfl | rfl
          · exact fun W h => ⟨⟨_, _, h.1.c⟩, HR.out W (h.1.z _ (.inr rfl))⟩
          · exact fun W h => ⟨⟨_, _, h.1.1.c⟩, HR.out W (h.1.1.z _ (.inr rfl))⟩
          · exact fun W h => ⟨⟨_, _, h.1⟩, h.2.1⟩
        clear hX HQ HZ HR
        dsimp only [rep, List.take, List.modify, List.modifyTailIdx, List.modifyTailIdx.go, List.modifyHead]
        refine q_run (v := .pointer (some ⟨B, 0, none⟩)) (by rfl) ?_ ?_
        · (intro w1 hC; obtain ⟨⟨q1, q2, ⟨a0, a1, a2, a3, a4, a5⟩, -⟩, ⟨r0, r1, r2, r3⟩⟩ := hXD w1 hC; clear hC; go_simp; first | done | (simp; done) | (simp [*]; done) | omega | (simp; omega) | (rw [IntKind.wrap_i64]; omega) | (intro hx; omega) | rfl)
        simp only [Act.put, List.setIfInBounds_toArray, List.set_cons_zero, List.set_cons_succ]
        refine q_run (v := .pointer (some ⟨B, 0, none⟩)) (by rfl) ?_ ?_
        · (intro w1 hC; obtain ⟨⟨q1, q2, ⟨a0, a1, a2, a3, a4, a5⟩, -⟩, ⟨r0, r1, r2, r3⟩⟩ := hXD w1 hC; clear hC; go_simp; first | done | (simp; done) | (simp [*]; done) | omega | (simp; omega) | (rw [IntKind.wrap_i64]; omega) | (intro hx; omega) | rfl)
        simp only [Act.put, List.setIfInBounds_toArray, List.set_cons_zero, List.set_cons_succ]
        refine q_run (v := .pointer (some ⟨B, 0, none⟩)) (by rfl) ?_ ?_
        · (intro w1 hC; obtain ⟨⟨q1, q2, ⟨a0, a1, a2, a3, a4, a5⟩, -⟩, ⟨r0, r1, r2, r3⟩⟩ := hXD w1 hC; clear hC; go_simp; first | done | (simp; done) | (simp [*]; done) | omega | (simp; omega) | (rw [IntKind.wrap_i64]; omega) | (intro hx; omega) | rfl)
        simp only [Act.put, List.setIfInBounds_toArray, List.set_cons_zero, List.set_cons_succ]
        refine q_run (v := .pointer (some ⟨B, 1, none⟩)) (by rfl) ?_ ?_
        · (intro w1 hC; obtain ⟨⟨q1, q2, ⟨a0, a1, a2, a3, a4, a5⟩, -⟩, ⟨r0, r1, r2, r3⟩⟩ := hXD w1 hC; clear hC; go_simp; first | done | (simp; done) | (simp [*]; done) | omega | (simp; omega) | (rw [IntKind.wrap_i64]; omega) | (intro hx; omega) | rfl)
        simp only [Act.put, List.setIfInBounds_toArray, List.set_cons_zero, List.set_cons_succ]
        refine q_run (v := .slice (some ⟨g, 0, none⟩) (n + 1) cap) (by rfl) ?_ ?_
        · (intro w1 hC; obtain ⟨⟨q1, q2, ⟨a0, a1, a2, a3, a4, a5⟩, -⟩, ⟨r0, r1, r2, r3⟩⟩ := hXD w1 hC; clear hC; go_simp; first | done | (simp; done) | (simp [*]; done) | omega | (simp; omega) | (rw [IntKind.wrap_i64]; omega) | (intro hx; omega) | rfl)
        simp only [Act.put, List.setIfInBounds_toArray, List.set_cons_zero, List.set_cons_succ]
        refine q_run (v := .agg #[.int .u64 (hI rx), .int .u64 (lI rx), .int .i64 rm, .int .i64 rh]) (by rfl) ?_ ?_
        · (intro w1 hC; obtain ⟨⟨q1, q2, ⟨a0, a1, a2, a3, a4, a5⟩, -⟩, ⟨r0, r1, r2, r3⟩⟩ := hXD w1 hC; clear hC; go_simp; first | done | (simp; done) | (simp [*]; done) | omega | (simp; omega) | (rw [IntKind.wrap_i64]; omega) | (intro hx; omega) | rfl)
        simp only [Act.put, List.setIfInBounds_toArray, List.set_cons_zero, List.set_cons_succ]
        refine q_run (v := .slice (some ⟨N, 0, none⟩) 1 1) (by rfl) ?_ ?_
        · (intro w1 hC; obtain ⟨⟨q1, q2, ⟨a0, a1, a2, a3, a4, a5⟩, -⟩, ⟨r0, r1, r2, r3⟩⟩ := hXD w1 hC; clear hC; go_simp; first | done | (simp; done) | (simp [*]; done) | omega | (simp; omega) | (rw [IntKind.wrap_i64]; omega) | (intro hx; omega) | rfl)
        simp only [Act.put, List.setIfInBounds_toArray, List.set_cons_zero, List.set_cons_succ]
        refine q_run (v := valT (n + 1 + 1) M) (by rfl) ?_ ?_
        · (intro w1 hC; obtain ⟨⟨q1, q2, ⟨a0, a1, a2, a3, a4, a5⟩, -⟩, ⟨r0, r1, r2, r3⟩⟩ := hXD w1 hC; clear hC; go_simp; first | done | (simp; done) | (simp [*]; done) | omega | (simp; omega) | (rw [IntKind.wrap_i64]; omega) | (intro hx; omega) | rfl)
        simp only [Act.put, List.setIfInBounds_toArray, List.set_cons_zero, List.set_cons_succ]
        refine wpQuiet_nil ?_
        simp only [putAll, Act.put, List.setIfInBounds_toArray, List.set_cons_zero, List.set_cons_succ]
      case fin4 =>
        intro N M W hC
        simp only [putAll, Act.put, List.setIfInBounds_toArray, List.set_cons_zero, List.set_cons_succ]
        dsimp only [List.drop]
        obtain ⟨⟨⟨a0, a1, a2, a3, a4, a5⟩, f1, f2, f3, f4, f5⟩, -, hS, hBl⟩ := hC
        have HS := hidR (hS.fewer (Y := Z) (od := ob) (fun z q => .inl q) (fun z q => HZ.out z q))
        have HBl := hidR (hBl.setCell (p := ⟨B, 1, none⟩) hbB (valT (n + 1 + 1) M))
        obtain ⟨g5, c5, hd⟩ : ∃ g5 c5, valT (n + 1 + 1) M = .slice (some ⟨g5, 0, none⟩) (n + 1 + 1) c5 := ⟨_, _, rfl⟩
        rw [hd] at HS HBl
        rw [hd]
        clear hd hS hBl HQ HZ HR
        go_wp2
        exact bodyPost_end (v := .tuple #[]) (by simp [results, Tryz.results39, go_sem]) rfl ⟨rfl, ⟨_, _, HS.out⟩, HBl.out⟩
end Go.Proofs.YtonagfmkplbooaaGreatDoor
