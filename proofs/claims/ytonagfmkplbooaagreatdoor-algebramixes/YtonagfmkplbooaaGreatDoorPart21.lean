/-
  Part 21 of the proof: 4 texts, one behind the other.
-/
import Derived.Test.YtonagfmkplbooaaGreatDoorPart19
import Derived.Test.YtonagfmkplbooaaGreatDoorPart20
import Derived.Test.YtonagfmkplbooaaGreatDoorPart8
import Derived.Test.YtonagfmkplbooaaGreatDoorPart9
import Derived.Test.YtonagfmkplbooaaGreatDoorPart15
import Derived.Test.YtonagfmkplbooaaGreatDoorPart2
import Derived.Deep.AppendLies
import Derived.Deep.RegionHeld3
/-
  What the calls of package table's Check and of package algebra's Segs do.
-/
namespace Go.Proofs.YtonagfmkplbooaaGreatDoor
open Go.RowKit
set_option linter.unusedSimpArgs false
set_option linter.unusedVariables false

/-- What Check reads of two routes beside one another. -/
def T6 (w : World) (F : Int) (v : Value) (b oa ob : Nat) (ax : BitVec 128) (an ah : Int) (bx : BitVec 128) (bn bh : Int) (W : World) : Prop := AtT W w.heap.size F v ∧ (W.cell? ⟨b, oa, none⟩ = some (.int .u64 (hI ax)) ∧ W.cell? ⟨b, oa + 1, none⟩ = some (.int .u64 (lI ax)) ∧ W.cell? ⟨b, oa + 2, none⟩ = some (.int .i64 an) ∧ W.cell? ⟨b, oa + 3, none⟩ = some (.int .i64 ah)) ∧ (W.cell? ⟨b, ob, none⟩ = some (.int .u64 (hI bx)) ∧ W.cell? ⟨b, ob + 1, none⟩ = some (.int .u64 (lI bx)) ∧ W.cell? ⟨b, ob + 2, none⟩ = some (.int .i64 bn) ∧ W.cell? ⟨b, ob + 3, none⟩ = some (.int .i64 bh)) ∧ Below w.heap.size w W
theorem T6.below {w W W' : World} {F : Int} {v : Value} {b oa ob : Nat} {ax : BitVec 128} {an ah : Int} {bx : BitVec 128} {bn bh : Int} (k : T6 w F v b oa ob ax an ah bx bn bh W) (hb : Below W.heap.size W W') : T6 w F v b oa ob ax an ah bx bn bh W' :=
  ⟨k.1.below hb, ⟨keepc hb k.2.1.1, keepc hb k.2.1.2.1, keepc hb k.2.1.2.2.1, keepc hb k.2.1.2.2.2⟩, ⟨keepc hb k.2.2.1.1, keepc hb k.2.2.1.2.1, keepc hb k.2.2.1.2.2.1, keepc hb k.2.2.1.2.2.2⟩, keepb hb k.2.2.2⟩
set_option maxRecDepth 20000 in
set_option maxHeartbeats 8000000 in
theorem tcheck_any (F : Int) (v : Value) (l : List Rte) (w : World) (hv : RwR w v l) :
    Calls Tryz.prog 32 #[.agg #[.int .i64 F, v]] w fun e w' => (∃ z, TabE F l z ∧ e = .returned (.int .i64 z)) ∧ Below w.heap.size w w' := by
  have b0 := bl1 w (.cells #[.int .i64 F, v] 24)
  have KC := checkRoutes_any F v l _ (hv.below b0)
  obtain ⟨ao, c, rfl, hv⟩ := hv
  have HT := hidR (att_new w w.heap.size F (.slice ao l.length c) 24 rfl)
  obtain ⟨t0, t1⟩ := HT.out
  have HV := hidR hv
  have HB := hidR b0
  have HE : Hid (∀ z, (rtsE F l ≠ 0 → z = rtsE F l) ∧ (rtsE F l = 0 → (Adj l ∧ z = 0) ∨ (¬ Adj l ∧ z = 19)) → TabE F l z) := hidR (fun z h => h)
  have HL : Hid (rtsE F l = 0 → l.length ≤ 1048576) := hidR (fun h => by
    unfold rtsE at h
    split at h
    · split at h
      · omega
      · omega
    · omega)
  clear hv b0
  revert KC HE HL
  generalize rtsE F l = ce
  intro KC HE HL
  go_enter Tryz.func32, Tryz.ntmps32
  go_wp2_with fail
  refine KC.mono ?_
  rintro e w1 ⟨rfl, hb⟩
  have HB1 := hidR (keepb hb HB.out)
  have HT1 := hidR (HT.out.below hb)
  clear KC hb t0 t1 HB HT
  by_cases hce : ce = 0
  · subst hce
    have hll := HL.out rfl
    have HE1 : Hid (∀ z, (Adj l ∧ z = 0) ∨ (¬ Adj l ∧ z = 19) → TabE F l z) := hidR (fun z h => HE.out z ⟨fun h0 => absurd rfl h0, fun _ => h⟩)
    clear HL HE
    go_wp2_with fail
    go_loopw [4] (fun i wr => ∃ k : Nat, 1 ≤ k ∧ (k ≤ l.length ∨ k = 1) ∧ i = .int .i64 k ∧ Hid (∀ (a : Nat) (h : a + 1 < l.length), a + 1 < k → pcmpZ l[a].1.1 l[a].1.2 l[a + 1].1.1 l[a + 1].1.2 < 0) ∧ Hid (AtT wr w.heap.size F (.slice ao l.length c)) ∧ Hid (Below w.heap.size w wr)) (fun i _ => l.length - (intOf i).toNat)
    case atStart => exact ⟨1, by omega, .inr rfl, rfl, hidR (fun a h h2 => by omega), HT1, HB1⟩
    case round =>
      clear HT1 HB1
      obtain ⟨k, hk1, hk2, rfl, HG, HT, HB⟩ := hrel
      obtain ⟨t0, t1⟩ := HT.out
      by_cases hlt : (k : Int) < (l.length : Int)
      · have hks : k < l.length := by omega
        obtain ⟨j, hj⟩ : ∃ j, j + 1 = k := ⟨k - 1, by omega⟩
        have hjs : j < l.length := by omega
        rcases HV.out with h | ⟨b, off, rfl, hc⟩
        · rw [h] at hks; simp at hks
        · obtain ⟨x0, x1, x2, x3⟩ := rwr_cells hc j hjs
          obtain ⟨y0, y1, y2, y3⟩ := rwr_cells hc k hks
          have HC := hidR (⟨HT.out, ⟨keepc HB.out x0, keepc HB.out x1, keepc HB.out x2, keepc HB.out x3⟩, ⟨keepc HB.out y0, keepc HB.out y1, keepc HB.out y2, keepc HB.out y3⟩, HB.out⟩ : T6 w F (.slice (some ⟨b, off, none⟩) l.length c) b (off + j * 4) (off + k * 4) l[j].1.1 l[j].1.2 l[j].2 l[k].1.1 l[k].1.2 l[k].2 wr)
          have KB := fun w => byPrefix_any l[j].1.1 l[j].1.2 l[j].2 l[k].1.1 l[k].1.2 l[k].2 w
          have HA : Hid ((Adj l → pcmpZ l[j].1.1 l[j].1.2 l[k].1.1 l[k].1.2 < 0) ∧ (pcmpZ l[j].1.1 l[j].1.2 l[k].1.1 l[k].1.2 < 0 → ∀ (a : Nat) (h : a + 1 < l.length), a + 1 < k + 1 → pcmpZ l[a].1.1 l[a].1.2 l[a + 1].1.1 l[a + 1].1.2 < 0)) := hidR (by
            subst hj
            refine ⟨fun hA => hA j hks, fun h a ha ha2 => ?_⟩
            by_cases e : a = j
            · subst e; exact h
            · exact HG.out a ha (by omega))
          have m1 : IntKind.i64.wrap ((k : Int) - 1) = (j : Int) := by rw [IntKind.wrap_i64]; omega
          have m2 : IntKind.i64.wrap ((k : Int) + 1) = (k : Int) + 1 := by rw [IntKind.wrap_i64]; omega
          have i1 : (0 : Int) ≤ (j : Int) := by omega
          have i2 : (j : Int) < (l.length : Int) := by omega
          clear x0 x1 x2 x3 y0 y1 y2 y3 hc HV HT HB hj
          revert KB HA HC
          generalize pcmpZ l[j].1.1 l[j].1.2 l[k].1.1 l[k].1.2 = z
          generalize l[j].1.1 = ax
          generalize l[j].1.2 = an
          generalize l[j].2 = ah
          generalize l[k].1.1 = bx
          generalize l[k].1.2 = bn
          generalize l[k].2 = bh
          intro HC KB HA
          have HAo := hidR HA.out
          by_cases hz : 0 ≤ z
          · have HN : Hid (¬ Adj l) := hidR (fun h => by have := HA.out.1 h; omega)
            go_wp2_with fail
            refine q_region (C := T6 w F (.slice (some ⟨b, off, none⟩) l.length c) b (off + j * 4) (off + k * 4) ax an ah bx bn bh) (by kernel_rfl) (by kernel_rfl) (T6.below HC.out (below_drewN (Below.refl _ _) 1)) ?_
            clear HC HA HG
            refine q_run (v := .pointer (some ⟨w.heap.size, 1, none⟩)) (by rfl) ?_ ?_
            · (intro w1 hC; obtain ⟨⟨t0, t1⟩, ⟨y0, y1, y2, y3⟩, ⟨z0, z1, z2, z3⟩, -⟩ := hC; go_simp; first | done | (simp; done) | (simp [*]; done) | omega | (simp; omega) | (rw [IntKind.wrap_i64]; omega) | (intro hx; omega) | rfl)
            simp only [Act.put, List.setIfInBounds_toArray, List.set_cons_zero, List.set_cons_succ]
            refine q_run (v := .slice (some ⟨b, off, none⟩) l.length c) (by rfl) ?_ ?_
            · (intro w1 hC; obtain ⟨⟨t0, t1⟩, ⟨y0, y1, y2, y3⟩, ⟨z0, z1, z2, z3⟩, -⟩ := hC; go_simp; first | done | (simp; done) | (simp [*]; done) | omega | (simp; omega) | (rw [IntKind.wrap_i64]; omega) | (intro hx; omega) | rfl)
            simp only [Act.put, List.setIfInBounds_toArray, List.set_cons_zero, List.set_cons_succ]
            refine q_run (v := .int .i64 (k : Int)) (by rfl) ?_ ?_
            · (intro w1 hC; obtain ⟨⟨t0, t1⟩, ⟨y0, y1, y2, y3⟩, ⟨z0, z1, z2, z3⟩, -⟩ := hC; go_simp; first | done | (simp; done) | (simp [*]; done) | omega | (simp; omega) | (rw [IntKind.wrap_i64]; omega) | (intro hx; omega) | rfl)
            simp only [Act.put, List.setIfInBounds_toArray, List.set_cons_zero, List.set_cons_succ]
            refine q_run (v := .int .i64 (j : Int)) (by rfl) ?_ ?_
            · (intro w1 hC; obtain ⟨⟨t0, t1⟩, ⟨y0, y1, y2, y3⟩, ⟨z0, z1, z2, z3⟩, -⟩ := hC; go_simp; first | done | (simp; done) | (simp [*]; done) | omega | (simp; omega) | (rw [IntKind.wrap_i64]; omega) | (intro hx; omega) | rfl)
            simp only [Act.put, List.setIfInBounds_toArray, List.set_cons_zero, List.set_cons_succ]
            refine q_run (v := .pointer (some ⟨b, off + j * 4, none⟩)) (by rfl) ?_ ?_
            · (intro w1 hC; obtain ⟨⟨t0, t1⟩, ⟨y0, y1, y2, y3⟩, ⟨z0, z1, z2, z3⟩, -⟩ := hC; go_simp; first | done | (simp; done) | (simp [*]; done) | omega | (simp; omega) | (rw [IntKind.wrap_i64]; omega) | (intro hx; omega) | rfl)
            simp only [Act.put, List.setIfInBounds_toArray, List.set_cons_zero, List.set_cons_succ]
            refine q_run (v := .agg #[.int .u64 (hI ax), .int .u64 (lI ax), .int .i64 an, .int .i64 ah]) (by rfl) ?_ ?_
            · (intro w1 hC; obtain ⟨⟨t0, t1⟩, ⟨y0, y1, y2, y3⟩, ⟨z0, z1, z2, z3⟩, -⟩ := hC; go_simp; first | done | (simp; done) | (simp [*]; done) | omega | (simp; omega) | (rw [IntKind.wrap_i64]; omega) | (intro hx; omega) | rfl)
            simp only [Act.put, List.setIfInBounds_toArray, List.set_cons_zero, List.set_cons_succ]
            refine q_run (v := .pointer (some ⟨w.heap.size, 1, none⟩)) (by rfl) ?_ ?_
            · (intro w1 hC; obtain ⟨⟨t0, t1⟩, ⟨y0, y1, y2, y3⟩, ⟨z0, z1, z2, z3⟩, -⟩ := hC; go_simp; first | done | (simp; done) | (simp [*]; done) | omega | (simp; omega) | (rw [IntKind.wrap_i64]; omega) | (intro hx; omega) | rfl)
            simp only [Act.put, List.setIfInBounds_toArray, List.set_cons_zero, List.set_cons_succ]
            refine q_run (v := .slice (some ⟨b, off, none⟩) l.length c) (by rfl) ?_ ?_
            · (intro w1 hC; obtain ⟨⟨t0, t1⟩, ⟨y0, y1, y2, y3⟩, ⟨z0, z1, z2, z3⟩, -⟩ := hC; go_simp; first | done | (simp; done) | (simp [*]; done) | omega | (simp; omega) | (rw [IntKind.wrap_i64]; omega) | (intro hx; omega) | rfl)
            simp only [Act.put, List.setIfInBounds_toArray, List.set_cons_zero, List.set_cons_succ]
            refine q_run (v := .int .i64 (k : Int)) (by rfl) ?_ ?_
            · (intro w1 hC; obtain ⟨⟨t0, t1⟩, ⟨y0, y1, y2, y3⟩, ⟨z0, z1, z2, z3⟩, -⟩ := hC; go_simp; first | done | (simp; done) | (simp [*]; done) | omega | (simp; omega) | (rw [IntKind.wrap_i64]; omega) | (intro hx; omega) | rfl)
            simp only [Act.put, List.setIfInBounds_toArray, List.set_cons_zero, List.set_cons_succ]
            refine q_run (v := .pointer (some ⟨b, off + k * 4, none⟩)) (by rfl) ?_ ?_
            · (intro w1 hC; obtain ⟨⟨t0, t1⟩, ⟨y0, y1, y2, y3⟩, ⟨z0, z1, z2, z3⟩, -⟩ := hC; go_simp; first | done | (simp; done) | (simp [*]; done) | omega | (simp; omega) | (rw [IntKind.wrap_i64]; omega) | (intro hx; omega) | rfl)
            simp only [Act.put, List.setIfInBounds_toArray, List.set_cons_zero, List.set_cons_succ]
            refine q_run (v := .agg #[.int .u64 (hI bx), .int .u64 (lI bx), .int .i64 bn, .int .i64 bh]) (by rfl) ?_ ?_
            · (intro w1 hC; obtain ⟨⟨t0, t1⟩, ⟨y0, y1, y2, y3⟩, ⟨z0, z1, z2, z3⟩, -⟩ := hC; go_simp; first | done | (simp; done) | (simp [*]; done) | omega | (simp; omega) | (rw [IntKind.wrap_i64]; omega) | (intro hx; omega) | rfl)
            simp only [Act.put, List.setIfInBounds_toArray, List.set_cons_zero, List.set_cons_succ]
            refine q_call (v := .int .i64 z) (f := 59) (args := #[.agg #[.int .u64 (hI ax), .int .u64 (lI ax), .int .i64 an, .int .i64 ah], .agg #[.int .u64 (hI bx), .int .u64 (lI bx), .int .i64 bn, .int .i64 bh]]) (by rfl) ?_ ?_ ?_
            · (intro w1 hC; clear hC; go_simp)
            · exact fun w1 hC => (KB w1).mono fun e w' ⟨he, hb⟩ => ⟨he, T6.below hC hb⟩
            simp only [Act.put, List.setIfInBounds_toArray, List.set_cons_zero, List.set_cons_succ]
            refine q_run (v := .bool true) (by rfl) ?_ ?_
            · (intro w1 hC; obtain ⟨⟨t0, t1⟩, ⟨y0, y1, y2, y3⟩, ⟨z0, z1, z2, z3⟩, -⟩ := hC; go_simp; first | done | (simp; done) | (simp [*]; done) | omega | (simp; omega) | (rw [IntKind.wrap_i64]; omega) | (intro hx; omega) | rfl)
            simp only [Act.put, List.setIfInBounds_toArray, List.set_cons_zero, List.set_cons_succ]
            refine wpQuiet_nil ?_
            intro W hC
            have HW := hidR hC
            clear hC
            go_wp2
            go_ret
            exact ⟨⟨19, HE1.out 19 (.inr ⟨HN.out, rfl⟩), rfl⟩, HW.out.2.2.2⟩
          · have HG2 := hidR (HA.out.2 (by omega))
            have hzd : decide (0 ≤ z) = false := by simpa using hz
            go_wp2_with fail
            refine q_region (C := T6 w F (.slice (some ⟨b, off, none⟩) l.length c) b (off + j * 4) (off + k * 4) ax an ah bx bn bh) (by kernel_rfl) (by kernel_rfl) (T6.below HC.out (below_drewN (Below.refl _ _) 1)) ?_
            clear HC HA HG
            refine q_run (v := .pointer (some ⟨w.heap.size, 1, none⟩)) (by rfl) ?_ ?_
            · (intro w1 hC; obtain ⟨⟨t0, t1⟩, ⟨y0, y1, y2, y3⟩, ⟨z0, z1, z2, z3⟩, -⟩ := hC; go_simp; first | done | (simp; done) | (simp [*]; done) | omega | (simp; omega) | (rw [IntKind.wrap_i64]; omega) | (intro hx; omega) | rfl)
            simp only [Act.put, List.setIfInBounds_toArray, List.set_cons_zero, List.set_cons_succ]
            refine q_run (v := .slice (some ⟨b, off, none⟩) l.length c) (by rfl) ?_ ?_
            · (intro w1 hC; obtain ⟨⟨t0, t1⟩, ⟨y0, y1, y2, y3⟩, ⟨z0, z1, z2, z3⟩, -⟩ := hC; go_simp; first | done | (simp; done) | (simp [*]; done) | omega | (simp; omega) | (rw [IntKind.wrap_i64]; omega) | (intro hx; omega) | rfl)
            simp only [Act.put, List.setIfInBounds_toArray, List.set_cons_zero, List.set_cons_succ]
            refine q_run (v := .int .i64 (k : Int)) (by rfl) ?_ ?_
            · (intro w1 hC; obtain ⟨⟨t0, t1⟩, ⟨y0, y1, y2, y3⟩, ⟨z0, z1, z2, z3⟩, -⟩ := hC; go_simp; first | done | (simp; done) | (simp [*]; done) | omega | (simp; omega) | (rw [IntKind.wrap_i64]; omega) | (intro hx; omega) | rfl)
            simp only [Act.put, List.setIfInBounds_toArray, List.set_cons_zero, List.set_cons_succ]
            refine q_run (v := .int .i64 (j : Int)) (by rfl) ?_ ?_
            · (intro w1 hC; obtain ⟨⟨t0, t1⟩, ⟨y0, y1, y2, y3⟩, ⟨z0, z1, z2, z3⟩, -⟩ := hC; go_simp; first | done | (simp; done) | (simp [*]; done) | omega | (simp; omega) | (rw [IntKind.wrap_i64]; omega) | (intro hx; omega) | rfl)
            simp only [Act.put, List.setIfInBounds_toArray, List.set_cons_zero, List.set_cons_succ]
            refine q_run (v := .pointer (some ⟨b, off + j * 4, none⟩)) (by rfl) ?_ ?_
            · (intro w1 hC; obtain ⟨⟨t0, t1⟩, ⟨y0, y1, y2, y3⟩, ⟨z0, z1, z2, z3⟩, -⟩ := hC; go_simp; first | done | (simp; done) | (simp [*]; done) | omega | (simp; omega) | (rw [IntKind.wrap_i64]; omega) | (intro hx; omega) | rfl)
            simp only [Act.put, List.setIfInBounds_toArray, List.set_cons_zero, List.set_cons_succ]
            refine q_run (v := .agg #[.int .u64 (hI ax), .int .u64 (lI ax), .int .i64 an, .int .i64 ah]) (by rfl) ?_ ?_
            · (intro w1 hC; obtain ⟨⟨t0, t1⟩, ⟨y0, y1, y2, y3⟩, ⟨z0, z1, z2, z3⟩, -⟩ := hC; go_simp; first | done | (simp; done) | (simp [*]; done) | omega | (simp; omega) | (rw [IntKind.wrap_i64]; omega) | (intro hx; omega) | rfl)
            simp only [Act.put, List.setIfInBounds_toArray, List.set_cons_zero, List.set_cons_succ]
            refine q_run (v := .pointer (some ⟨w.heap.size, 1, none⟩)) (by rfl) ?_ ?_
            · (intro w1 hC; obtain ⟨⟨t0, t1⟩, ⟨y0, y1, y2, y3⟩, ⟨z0, z1, z2, z3⟩, -⟩ := hC; go_simp; first | done | (simp; done) | (simp [*]; done) | omega | (simp; omega) | (rw [IntKind.wrap_i64]; omega) | (intro hx; omega) | rfl)
            simp only [Act.put, List.setIfInBounds_toArray, List.set_cons_zero, List.set_cons_succ]
            refine q_run (v := .slice (some ⟨b, off, none⟩) l.length c) (by rfl) ?_ ?_
            · (intro w1 hC; obtain ⟨⟨t0, t1⟩, ⟨y0, y1, y2, y3⟩, ⟨z0, z1, z2, z3⟩, -⟩ := hC; go_simp; first | done | (simp; done) | (simp [*]; done) | omega | (simp; omega) | (rw [IntKind.wrap_i64]; omega) | (intro hx; omega) | rfl)
            simp only [Act.put, List.setIfInBounds_toArray, List.set_cons_zero, List.set_cons_succ]
            refine q_run (v := .int .i64 (k : Int)) (by rfl) ?_ ?_
            · (intro w1 hC; obtain ⟨⟨t0, t1⟩, ⟨y0, y1, y2, y3⟩, ⟨z0, z1, z2, z3⟩, -⟩ := hC; go_simp; first | done | (simp; done) | (simp [*]; done) | omega | (simp; omega) | (rw [IntKind.wrap_i64]; omega) | (intro hx; omega) | rfl)
            simp only [Act.put, List.setIfInBounds_toArray, List.set_cons_zero, List.set_cons_succ]
            refine q_run (v := .pointer (some ⟨b, off + k * 4, none⟩)) (by rfl) ?_ ?_
            · (intro w1 hC; obtain ⟨⟨t0, t1⟩, ⟨y0, y1, y2, y3⟩, ⟨z0, z1, z2, z3⟩, -⟩ := hC; go_simp; first | done | (simp; done) | (simp [*]; done) | omega | (simp; omega) | (rw [IntKind.wrap_i64]; omega) | (intro hx; omega) | rfl)
            simp only [Act.put, List.setIfInBounds_toArray, List.set_cons_zero, List.set_cons_succ]
            refine q_run (v := .agg #[.int .u64 (hI bx), .int .u64 (lI bx), .int .i64 bn, .int .i64 bh]) (by rfl) ?_ ?_
            · (intro w1 hC; obtain ⟨⟨t0, t1⟩, ⟨y0, y1, y2, y3⟩, ⟨z0, z1, z2, z3⟩, -⟩ := hC; go_simp; first | done | (simp; done) | (simp [*]; done) | omega | (simp; omega) | (rw [IntKind.wrap_i64]; omega) | (intro hx; omega) | rfl)
            simp only [Act.put, List.setIfInBounds_toArray, List.set_cons_zero, List.set_cons_succ]
            refine q_call (v := .int .i64 z) (f := 59) (args := #[.agg #[.int .u64 (hI ax), .int .u64 (lI ax), .int .i64 an, .int .i64 ah], .agg #[.int .u64 (hI bx), .int .u64 (lI bx), .int .i64 bn, .int .i64 bh]]) (by rfl) ?_ ?_ ?_
            · (intro w1 hC; clear hC; go_simp)
            · exact fun w1 hC => (KB w1).mono fun e w' ⟨he, hb⟩ => ⟨he, T6.below hC hb⟩
            simp only [Act.put, List.setIfInBounds_toArray, List.set_cons_zero, List.set_cons_succ]
            refine q_run (v := .bool false) (by rfl) ?_ ?_
            · (intro w1 hC; obtain ⟨⟨t0, t1⟩, ⟨y0, y1, y2, y3⟩, ⟨z0, z1, z2, z3⟩, -⟩ := hC; go_simp; first | done | (simp; done) | (simp [*]; done) | omega | (simp; omega) | (rw [IntKind.wrap_i64]; omega) | (intro hx; omega) | rfl)
            simp only [Act.put, List.setIfInBounds_toArray, List.set_cons_zero, List.set_cons_succ]
            refine wpQuiet_nil ?_
            intro W hC
            have HW := hidR hC
            clear hC
            go_wp2
            go_roundw
            case rel => exact ⟨k + 1, by omega, .inl (by omega), by simp, HG2, hidR HW.out.1, hidR HW.out.2.2.2⟩
            case measure => simp [intOf]; omega
      · have hd : decide ((k : Int) < (l.length : Int)) = false := by simpa using hlt
        have HA : Hid (Adj l) := hidR (fun a h => HG.out a h (by omega))
        go_wp2
        go_ret
        exact ⟨⟨0, HE1.out 0 (.inl ⟨HA.out, rfl⟩), rfl⟩, HB.out⟩
  · have hn : (ce != 0) = true := by simp [hce]
    have HE1 := hidR (HE.out ce ⟨fun _ => rfl, fun h => absurd h hce⟩)
    clear HE
    go_wp2
    go_ret
    exact ⟨⟨ce, HE1.out, rfl⟩, HB1.out⟩
theorem rtsG_all (F : Int) : ∀ l : List Rte, rtsG F l = 0 → ∀ r ∈ l, rteE F r = 0
  | [], _, r, hr => by cases hr
  | a :: l, h, r, hr => by
    rw [rtsG] at h
    split at h
    · rename_i h1
      rcases List.mem_cons.mp hr with e | e
      · rw [e]; exact h1
      · exact rtsG_all F l h r e
    · rename_i h1; exact absurd h h1
theorem rts_all (F : Int) (l : List Rte) (h : rtsE F l = 0) : fam F = true ∧ l.length ≤ 1048576 ∧ ∀ r ∈ l, rteE F r = 0 := by
  unfold rtsE at h
  split at h
  · rename_i h1
    split at h
    · omega
    · rename_i h2
      exact ⟨h1, by omega, rtsG_all F l h⟩
  · omega
theorem rte_ro (F : Int) (r : Rte) (hf : fam F = true) (h : rteE F r = 0) : Ro F r := by
  unfold rteE at h
  split at h
  · rename_i h1
    split at h
    · rename_i h2
      unfold hopB at h2
      simp only [Bool.and_eq_true, decide_eq_true_iff] at h2
      refine ⟨?_, by omega, by omega⟩
      unfold checkE at h1
      rw [if_pos hf] at h1
      split at h1
      · omega
      · split at h1
        · omega
        · split at h1
          · rename_i h3 h4 h5
            exact ⟨by omega, by omega, by simpa using h5⟩
          · omega
    · omega
  · rename_i h1; exact absurd h h1
set_option maxRecDepth 20000 in
set_option maxHeartbeats 8000000 in
theorem segs_any (F : Int) (v : Value) (l : List Rte) (w : World) (hv : RwR w v l) :
    Calls Tryz.prog 14 #[.agg #[.int .i64 F, v]] w fun e w' => (∃ z v', TabE F l z ∧ e = .returned (.tuple #[v', .int .i64 z]) ∧ (z = 0 → w'.ownsRow w.heap.size 47 5 v' (swp F l).length (rowG (swp F l))) ∧ (z ≠ 0 → v' = .slice none 0 0)) ∧ Below w.heap.size w w' := by
  have b0 := bl1 w (.cells #[.int .i64 F, v] 24)
  have KC := tcheck_any F v l _ (hv.below b0)
  have HT := hidR (att_new w w.heap.size F v 24 rfl)
  have HV := hidR (hv.below b0)
  have HB := hidR b0
  have HX : Hid (∀ W, RwR W v l → TabE F l 0 → Calls Tryz.prog 19 #[.agg #[.int .i64 F, v]] W fun e w' => (∃ v', e = .returned v' ∧ w'.ownsRow W.heap.size 47 5 v' (swp F l).length (rowG (swp F l))) ∧ Below W.heap.size W w') := hidR (fun W hW hE => by
    have h0 : rtsE F l = 0 := by
      by_cases h : rtsE F l = 0
      · exact h
      · have := hE.1 h; omega
    obtain ⟨hf, h1, h2⟩ := rts_all F l h0
    exact sweep_any F v l W hW (by omega) (fun r hr => (rte_ro F r hf (h2 r hr)).1.1))
  obtain ⟨t0, t1⟩ := HT.out
  obtain ⟨ao, c, rfl, -⟩ := hv
  clear b0
  go_enter Tryz.func14, Tryz.ntmps14
  go_wp2_with fail
  refine KC.mono ?_
  rintro e w1 ⟨⟨z, hz, rfl⟩, hb⟩
  have HB1 := hidR (keepb hb HB.out)
  have HT1 := hidR (HT.out.below hb)
  have HV1 := hidR (HV.out.below hb)
  clear KC hb t0 t1 HB HT HV
  obtain ⟨t0, t1⟩ := HT1.out
  by_cases hz0 : z = 0
  · subst hz0
    have HE := hidR hz
    clear hz
    have KS := HX.out w1 HV1.out HE.out
    go_wp2_with fail
    refine KS.mono ?_
    rintro e w2 ⟨⟨v', rfl, hown⟩, hb2⟩
    have HO := hidR (own_wide hown HB1.out.size)
    have HB2 := hidR (keepb hb2 HB1.out)
    clear KS hown hb2 t0 t1
    go_wp2
    exact bodyPost_ret (v := .tuple #[v', .int .i64 0]) (by simp [results, Tryz.results14, go_sem]) rfl ⟨⟨0, v', HE.out, rfl, fun _ => HO.out, fun h => absurd rfl h⟩, HB2.out⟩
  · have hn : (z != 0) = true := by simp [hz0]
    have HE := hidR hz
    have HZ := hidR hz0
    clear hz hz0
    go_wp2
    exact bodyPost_ret (v := .tuple #[.slice none 0 0, .int .i64 z]) (by simp [results, Tryz.results14, go_sem]) rfl ⟨⟨z, _, HE.out, rfl, fun h => absurd h HZ.out, fun _ => rfl⟩, HB1.out⟩
end Go.Proofs.YtonagfmkplbooaaGreatDoor
/-
  Rows of words in memory.
-/
namespace Go.Proofs.YtonagfmkplbooaaGreatDoor
open Go.RowKit
set_option linter.unusedSimpArgs false
set_option linter.unusedVariables false

def rowW : List (BitVec 128) → List Value
  | [] => []
  | x :: l => .int .u64 (hI x) :: .int .u64 (lI x) :: rowW l
theorem rowW_app : ∀ l m, rowW (l ++ m) = rowW l ++ rowW m := by
  intro l
  induction l with
  | nil => intro m; rfl
  | cons p l ih => intro m; simp [rowW, ih]
theorem rowW_one (l : List (BitVec 128)) (x : BitVec 128) : rowW (l ++ [x]) = rowW l ++ [.int .u64 (hI x), .int .u64 (lI x)] := by rw [rowW_app]; rfl
theorem rowW_len : ∀ l, (rowW l).length = l.length * 2 := by
  intro l
  induction l with
  | nil => rfl
  | cons p l ih => simp only [rowW, List.length_cons, ih]; omega
theorem rowW_get : ∀ (l : List (BitVec 128)) (j : Nat) (hj : j < l.length), (rowW l)[j * 2]? = some (.int .u64 (hI l[j])) ∧ (rowW l)[j * 2 + 1]? = some (.int .u64 (lI l[j])) := by
  intro l
  induction l with
  | nil => intro j hj; simp at hj
  | cons p l ih =>
    intro j hj
    cases j with
    | zero => simp [rowW]
    | succ j =>
      have := ih j (by simpa using hj)
      rw [show (j + 1) * 2 = j * 2 + 2 by omega, show j * 2 + 2 + 1 = j * 2 + 1 + 2 by omega]
      simpa [rowW] using this
theorem ownW_cells {W : World} {base n g c : Nat} {l : List (BitVec 128)} (h : W.ownsRow base 27 2 (.slice (some ⟨g, 0, none⟩) n c) n (rowW l)) (j : Nat) (hj : j < l.length) :
    W.cell? ⟨g, j * 2, none⟩ = some (.int .u64 (hI l[j])) ∧ W.cell? ⟨g, j * 2 + 1, none⟩ = some (.int .u64 (lI l[j])) := by
  obtain ⟨a, b⟩ := rowW_get l j hj
  have e : ∀ k, (⟨g, 0, none⟩ : Addr).add k = ⟨g, k, none⟩ := fun k => by unfold Addr.add; split <;> simp_all
  have f := fun k u => h.cells (g := g) rfl k u
  exact ⟨by have := f _ _ a; rwa [e] at this, by have := f _ _ b; rwa [e] at this⟩
theorem rowW_set (L : List (BitVec 128)) (k : Nat) (q : BitVec 128) : ((rowW L).set (k * 2) (.int .u64 (hI q))).set (k * 2 + 1) (.int .u64 (lI q)) = if k < L.length then rowW (L.set k q) else rowW L := by
  induction L generalizing k with
  | nil => simp [rowW]
  | cons p L ih =>
    cases k with
    | zero => simp [rowW]
    | succ k =>
      have := ih k
      rw [show (k + 1) * 2 = k * 2 + 1 + 1 by omega, show k * 2 + 1 + 1 + 1 = k * 2 + 1 + 1 + 1 by omega]
      simp only [rowW, List.set_cons_succ, List.length_cons, Nat.add_lt_add_iff_right]
      rw [this]
      split <;> rfl
theorem Tryz.infoWd : (Tryz.prog.info? 27).map (fun i => (i.zero, i.size, i.bytes)) = some (some (.agg #[.int .u64 0, .int .u64 0]), 2, 16) := by kernel_rfl
theorem newsWd (W : World) (a b : Value) (t : TypeId) : ∀ j u, [a, b][j]? = some u → (W.alloc (.cells #[a, b] t)).cell? ((⟨W.heap.size, 0, none⟩ : Addr).add j) = some u := by
  intro j u hj
  match j, hj with
  | 0, hj => simp at hj; subst hj; simp [Addr.add, go_sem]
  | 1, hj => simp at hj; subst hj; simp [Addr.add, go_sem]
theorem twoW (a b : Int) : ∀ u ∈ [Value.int .u64 a, Value.int .u64 b], u.oneCell' = true := by
  intro u hu; simp at hu; rcases hu with rfl | rfl <;> rfl
/-- A row's cells are there, and may be written. -/
theorem own_cell6 {W : World} {base e size n g cap : Nat} {xs : List Value} (h : W.ownsRow base e size (.slice (some ⟨g, 0, none⟩) n cap) n xs) (j : Nat) (hj : j < n * size) : (∃ u, W.cell? ⟨g, j, none⟩ = some u) ∧ W.frozen? ⟨g, j, none⟩ = false := by
  rcases h.2 with ⟨h', _⟩ | ⟨g', cap', cur, h', hb, hg, hnc, hcm, hcs, htake⟩
  · cases h'
  · simp only [Value.slice.injEq, Option.some.injEq, Addr.mk.injEq, and_true, true_and] at h'
    obtain ⟨rfl, rfl⟩ := h'
    have hs : j < cur.size := by
      rw [hcs]
      exact Nat.lt_of_lt_of_le hj (Nat.mul_le_mul_right _ hnc)
    refine ⟨⟨cur[j], ?_⟩, ?_⟩
    · simp [World.cell?, hg, hs]
    · simp [World.frozen?, hg]
/-- What put leaves of memory: the row is changed in its own place, or made anew. -/
def PtO (base : Nat) (v : Value) (S : List (BitVec 128)) (w : World) (v' : Value) (w' : World) : Prop := w'.ownsRow base 27 2 v' S.length (rowW S) ∧ w.grownBy w' v.ownBlock ∧ (∀ z, v'.ownBlock = some z → v.ownBlock = some z ∨ w.heap.size ≤ z)
theorem set_midW (S : List (BitVec 128)) (k : Nat) (hk : k ≤ S.length) (d q : BitVec 128) : (S.take k ++ d :: S.drop k).set k q = S.take k ++ q :: S.drop k := by
  rw [List.set_append_right _ _ (by simp; omega)]
  congr 1
  have : k - (S.take k).length = 0 := by simp; omega
  rw [this]
  rfl
theorem mid_backW (S : List (BitVec 128)) (k : Nat) (hk : k < S.length) : S.take (k + 1) ++ S[k] :: S.drop (k + 1) = S.take k ++ S[k] :: S.drop k := by
  rw [List.take_succ_eq_append_getElem hk, List.append_assoc]
  congr 1
  rw [List.drop_eq_getElem_cons hk]
  rfl
theorem mid_getW (S : List (BitVec 128)) (k : Nat) (hk : k < S.length) (d : BitVec 128) (h : k < (S.take (k + 1) ++ d :: S.drop (k + 1)).length) : (S.take (k + 1) ++ d :: S.drop (k + 1))[k] = S[k] := by
  rw [List.getElem_append_left (by simp; omega), List.getElem_take]
/-- Words in order, each once, with another one. -/
def PutS (S : List (BitVec 128)) (x : BitVec 128) (T : List (BitVec 128)) : Prop := T.Pairwise (fun a b => a.toNat < b.toNat) ∧ (∀ y, y ∈ T ↔ (y = x ∨ y ∈ S)) ∧ T.length ≤ S.length + 1
theorem put_there (S : List (BitVec 128)) (x : BitVec 128) (hS : S.Pairwise (fun a b => a.toNat < b.toNat)) (h : x ∈ S) : PutS S x S :=
  ⟨hS, fun y => ⟨.inr, fun q => by rcases q with rfl | q; exact h; exact q⟩, by omega⟩
theorem put_new (S : List (BitVec 128)) (x : BitVec 128) (hS : S.Pairwise (fun a b => a.toNat < b.toNat)) (k : Nat) (hk : k ≤ S.length) (h1 : ∀ q ∈ S.drop k, x.toNat < q.toNat) (h2 : ∀ (h : 0 < k), (S[k - 1]'(by omega)).toNat < x.toNat) : PutS S x (S.take k ++ x :: S.drop k) := by
  refine ⟨?_, ?_, by simp; omega⟩
  · have hs : (S.take k ++ S.drop k).Pairwise (fun a b => a.toNat < b.toNat) := by rw [List.take_append_drop]; exact hS
    obtain ⟨p1, p2, p3⟩ := List.pairwise_append.mp hs
    have h3 : ∀ a ∈ S.take k, a.toNat < x.toNat := by
      intro a ha
      by_cases h0 : 0 < k
      · have h2 := h2 h0
        obtain ⟨i, hi, rfl⟩ := List.mem_iff_getElem.mp ha
        have hi' : i < k := by simp at hi; omega
        rw [List.getElem_take]
        by_cases e : i = k - 1
        · subst e; exact h2
        · have := List.pairwise_iff_getElem.mp hS i (k - 1) (by omega) (by omega) (by omega)
          omega
      · have : k = 0 := by omega
        subst this
        simp at ha
    refine List.pairwise_append.mpr ⟨p1, List.pairwise_cons.mpr ⟨h1, p2⟩, ?_⟩
    intro a ha b hb
    rcases List.mem_cons.mp hb with rfl | q
    · exact h3 a ha
    · exact p3 a ha b q
  · intro y
    have e : y ∈ S ↔ y ∈ S.take k ∨ y ∈ S.drop k := by rw [← List.mem_append, List.take_append_drop]
    rw [List.mem_append, List.mem_cons, e]
    constructor
    · rintro (q | q | q)
      · exact .inr (.inl q)
      · exact .inl q
      · exact .inr (.inr q)
    · rintro (q | q | q)
      · exact .inr (.inl q)
      · exact .inl q
      · exact .inr (.inr q)
end Go.Proofs.YtonagfmkplbooaaGreatDoor
/-
  What a call of package word's Text does.
-/
namespace Go.Proofs.YtonagfmkplbooaaGreatDoor
open Go.RowKit
set_option linter.unusedSimpArgs false
set_option linter.unusedVariables false

/-- The number of the digit at place k, and its sign. -/
def nib (x : BitVec 128) (k : Nat) : Nat := (lv (x >>> (124 - 4 * k))).toNat % 16
def chN (d : Nat) : Nat := if d < 10 then 48 + d else 87 + d
theorem nib_lt (x : BitVec 128) (k : Nat) : nib x k < 16 := Nat.mod_lt _ (by decide)
theorem and15 (x : BitVec 128) (k : Nat) : bits .and .u64 (lI (x >>> (124 - 4 * k))) 15 = ((nib x k : Nat) : Int) := by
  unfold lI nib
  have h : bits .and .u64 ((lv (x >>> (124 - 4 * k))).toNat : Int) 15 = (((lv (x >>> (124 - 4 * k))).toNat &&& 15 : Nat) : Int) := bits_and_u64_nat _ 15 (BitVec.isLt _) (by decide)
  rw [h]
  congr 1
  exact Nat.and_two_pow_sub_one_eq_mod _ 4
theorem dig_tab (d : Nat) (h : d < 16) : ((⟨#[48, 49, 50, 51, 52, 53, 54, 55, 56, 57, 97, 98, 99, 100, 101, 102]⟩ : ByteArray)[d]'h).toNat = chN d := by
  have all : ∀ j : Fin 16, ((⟨#[48, 49, 50, 51, 52, 53, 54, 55, 56, 57, 97, 98, 99, 100, 101, 102]⟩ : ByteArray)[j.val]'j.isLt).toNat = chN j.val := by decide
  exact all ⟨d, h⟩

theorem new_cell (W : World) (o : Obj) (cs : Array Value) (t : TypeId) (j : Nat) : ((W.alloc o).alloc (.cells cs t)).cell? ⟨W.heap.size + 1, j, none⟩ = cs[j]? := by
  have h : ((W.alloc o).alloc (.cells cs t)).heap[W.heap.size + 1]? = some (.cells cs t) := by
    show ((W.heap.push o).push (.cells cs t))[W.heap.size + 1]? = _
    rw [Array.getElem?_push, if_pos (by simp)]
  unfold World.cell?
  rw [h]
  simp
theorem new_frozen (W : World) (o : Obj) (cs : Array Value) (t : TypeId) (j : Nat) : ((W.alloc o).alloc (.cells cs t)).frozen? ⟨W.heap.size + 1, j, none⟩ = false := by
  simp [go_sem]

theorem set_same {W : World} {B k : Nat} {u v : Value} (h : W.cell? ⟨B, k, none⟩ = some u) : (W.setCell ⟨B, k, none⟩ v).cell? ⟨B, k, none⟩ = some v := by
  simp [go_sem, h]
theorem set_other {W : World} {B k j : Nat} {v : Value} (h : ¬ k = j) : (W.setCell ⟨B, k, none⟩ v).cell? ⟨B, j, none⟩ = W.cell? ⟨B, j, none⟩ := by
  simp [go_sem, h]
/-- The text of a word, as bytes. -/
def txtL (x : BitVec 128) : List Int := (List.range 32).map fun j => (chN (nib x j) : Int)
def txtW (x : BitVec 128) : ByteArray := (txtL x).foldl (fun r n => r.push (UInt8.ofNat n.toNat)) ByteArray.empty
end Go.Proofs.YtonagfmkplbooaaGreatDoor
/-
  What a call of the reference's Text does.
-/
namespace Go.Proofs.YtonagfmkplbooaaGreatDoor
open Go.RowKit
set_option linter.unusedSimpArgs false
set_option linter.unusedVariables false

theorem bit_div (x : BitVec 128) (i : Int) (d : Nat) (h : i = 127 - (d : Int)) (hd : d ≤ 127) : bitZ x i = ((x.toNat / 2 ^ d % 2 : Nat) : Int) := by
  unfold bitZ
  rw [bitB_in x i (by omega) (by omega), show (127 - i).toNat = d from by omega]
  unfold BitVec.getLsbD
  rw [Nat.testBit_eq_decide_div_mod_eq]
  have : x.toNat / 2 ^ d % 2 = 0 ∨ x.toNat / 2 ^ d % 2 = 1 := by omega
  rcases this with e | e <;> simp [e]
theorem nib_div (x : BitVec 128) (k : Nat) : nib x k = x.toNat / 2 ^ (124 - 4 * k) % 16 := by
  unfold nib
  rw [lvN, BitVec.toNat_ushiftRight, Nat.shiftRight_eq_div_pow]
  omega
theorem nib_bits (x : BitVec 128) (k : Nat) (h : k < 32) : 8 * bitZ x (4 * (k : Int)) + 4 * bitZ x (4 * (k : Int) + 1) + 2 * bitZ x (4 * (k : Int) + 2) + bitZ x (4 * (k : Int) + 3) = ((nib x k : Nat) : Int) := by
  rw [bit_div x (4 * (k : Int)) (124 - 4 * k + 3) (by omega) (by omega), bit_div x (4 * (k : Int) + 1) (124 - 4 * k + 2) (by omega) (by omega), bit_div x (4 * (k : Int) + 2) (124 - 4 * k + 1) (by omega) (by omega), bit_div x (4 * (k : Int) + 3) (124 - 4 * k) (by omega) (by omega), nib_div]
  rw [Nat.pow_add, Nat.pow_add, Nat.pow_add, ← Nat.div_div_eq_div_mul, ← Nat.div_div_eq_div_mul, ← Nat.div_div_eq_div_mul]
  generalize x.toNat / 2 ^ (124 - 4 * k) = m
  omega

/-- The first k signs, as cells. -/
def cellsT (x : BitVec 128) (k : Nat) : List Value := (List.range k).map fun j => Value.int .u8 (chN (nib x j) : Int)
theorem cellsT_succ (x : BitVec 128) (k : Nat) : cellsT x (k + 1) = cellsT x k ++ [Value.int .u8 (chN (nib x k) : Int)] := by
  unfold cellsT; rw [List.range_succ]; simp
theorem cellsT_get (x : BitVec 128) (k j : Nat) (h : j < k) : (cellsT x k)[j]? = some (.int .u8 (chN (nib x j) : Int)) := by
  unfold cellsT
  simp [h]

theorem own_below {base e size n : Nat} {v : Value} {xs : List Value} {W w' : World} (hb : Below W.heap.size W w') (h : W.ownsRow base e size v n xs) : w'.ownsRow base e size v n xs := by
  refine h.kept (row := none) ⟨hb.os, hb.tape, hb.output, hb.size, fun k hk _ => hb.block k hk⟩ ?_
  cases v.ownBlock with
  | none => exact Or.inl rfl
  | some a => exact Or.inr (by simp)

theorem app_keep {w W w1 : World} {x : BitVec 128} {e size n : Nat} {v : Value} {xs : List Value} (o : W.ownsRow (w.heap.size + 1) e size v n xs) (g : W.grownBy w1 v.ownBlock)
    (k1 : W.cell? ⟨w.heap.size, 0, none⟩ = some (.int .u64 (hI x))) (k2 : W.cell? ⟨w.heap.size, 1, none⟩ = some (.int .u64 (lI x))) (k9 : Below w.heap.size w W) :
    w1.cell? ⟨w.heap.size, 0, none⟩ = some (.int .u64 (hI x)) ∧ w1.cell? ⟨w.heap.size, 1, none⟩ = some (.int .u64 (lI x)) ∧ Below w.heap.size w w1 := by
  have hne : some w.heap.size ≠ v.ownBlock := by
    intro h
    have := (o.lt _ h.symm).1
    omega
  refine ⟨g.cell k1 hne, g.cell k2 hne, k9.grown g k9.size ?_⟩
  intro j hj
  have := (o.lt _ hj).1
  omega
theorem al_keep {w W : World} {x : BitVec 128} (o : Obj)
    (k1 : W.cell? ⟨w.heap.size, 0, none⟩ = some (.int .u64 (hI x))) (k2 : W.cell? ⟨w.heap.size, 1, none⟩ = some (.int .u64 (lI x))) (k9 : Below w.heap.size w W) :
    (W.alloc o).cell? ⟨w.heap.size, 0, none⟩ = some (.int .u64 (hI x)) ∧ (W.alloc o).cell? ⟨w.heap.size, 1, none⟩ = some (.int .u64 (lI x)) ∧ Below w.heap.size w (W.alloc o) :=
  ⟨keepc (bl1 W o) k1, keepc (bl1 W o) k2, keepb (bl1 W o) k9⟩
theorem Tryz.infoB : (Tryz.prog.info? 5).map (fun i => (i.zero, i.size, i.bytes)) = some (some (.int .u8 0), 1, 1) := by kernel_rfl
end Go.Proofs.YtonagfmkplbooaaGreatDoor
