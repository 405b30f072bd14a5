/-
  Part 18 of the proof: 6 texts, one behind the other.
-/
import Derived.Test.YtofpbommhklooaaPart17
import Derived.Test.YtofpbommhklooaaPart16
/-
  What the call of package table's Check does.
-/
namespace Go.Proofs.Ytofpbommhklooaa
open Go.RowKit
set_option linter.unusedSimpArgs false
set_option linter.unusedVariables false

/-- What Check reads of two routes beside one another. -/
def T6 (w : World) (F : Int) (v : Value) (b oa ob : Nat) (ax : BitVec 128) (an ah : Int) (bx : BitVec 128) (bn bh : Int) (W : World) : Prop := AtT W w.heap.size F v ∧ (W.cell? ⟨b, oa, none⟩ = some (.int .u64 (hI ax)) ∧ W.cell? ⟨b, oa + 1, none⟩ = some (.int .u64 (lI ax)) ∧ W.cell? ⟨b, oa + 2, none⟩ = some (.int .i64 an) ∧ W.cell? ⟨b, oa + 3, none⟩ = some (.int .i64 ah)) ∧ (W.cell? ⟨b, ob, none⟩ = some (.int .u64 (hI bx)) ∧ W.cell? ⟨b, ob + 1, none⟩ = some (.int .u64 (lI bx)) ∧ W.cell? ⟨b, ob + 2, none⟩ = some (.int .i64 bn) ∧ W.cell? ⟨b, ob + 3, none⟩ = some (.int .i64 bh)) ∧ Below w.heap.size w W
theorem T6.below {w W W' : World} {F : Int} {v : Value} {b oa ob : Nat} {ax : BitVec 128} {an ah : Int} {bx : BitVec 128} {bn bh : Int} (k : T6 w F v b oa ob ax an ah bx bn bh W) (hb : Below W.heap.size W W') : T6 w F v b oa ob ax an ah bx bn bh W' :=
  ⟨k.1.below hb, ⟨keepc hb k.2.1.1, keepc hb k.2.1.2.1, keepc hb k.2.1.2.2.1, keepc hb k.2.1.2.2.2⟩, ⟨keepc hb k.2.2.1.1, keepc hb k.2.2.1.2.1, keepc hb k.2.2.1.2.2.1, keepc hb k.2.2.1.2.2.2⟩, keepb hb k.2.2.2⟩
set_option maxRecDepth 20000 in
set_option maxHeartbeats 8000000 in
theorem tcheck_any (F : Int) (v : Value) (l : List Rte) (w : World) (hv : RwR w v l) :
    Calls Try.prog 29 #[.agg #[.int .i64 F, v]] w fun e w' => (∃ z, TabE F l z ∧ e = .returned (.int .i64 z)) ∧ Below w.heap.size w w' := by
  have b0 := bl1 w (.cells #[.int .i64 F, v] 24)
  have KC := checkRoutes_any F v l _ (hv.below b0)
  obtain ⟨ao, c, rfl, hv⟩ := hv
  have HT := hidR (att_new w w.heap.size F (.slice ao l.length c) 24 rfl)
  obtain ⟨t0, t1⟩ := HT.out
  have HV := hidR hv
  have HB := hidR b0
  have HE : Hid (∀ z, (rtsE F l ≠ 0 → z = rtsE F l) ∧ (rtsE F l = 0 → (Adj l ∧ z = 0) ∨ (¬ Adj l ∧ z = 19)) → TabE F l z) := hidR (fun z h => h)
  have HL : Hid (rtsE F l = 0 → l.length ≤ 1048576) := hidR (fun h => by
    unfold rtsE at h
    split at h
    · split at h
      · omega
      · omega
    · omega)
  clear hv b0
  revert KC HE HL
  generalize rtsE F l = ce
  intro KC HE HL
  go_enter Try.func29, Try.ntmps29
  go_wp2_with fail
  refine KC.mono ?_
  rintro e w1 ⟨rfl, hb⟩
  have HB1 := hidR (keepb hb HB.out)
  have HT1 := hidR (HT.out.below hb)
  clear KC hb t0 t1 HB HT
  by_cases hce : ce = 0
  · subst hce
    have hll := HL.out rfl
    have HE1 : Hid (∀ z, (Adj l ∧ z = 0) ∨ (¬ Adj l ∧ z = 19) → TabE F l z) := hidR (fun z h => HE.out z ⟨fun h0 => absurd rfl h0, fun _ => h⟩)
    clear HL HE
    go_wp2_with fail
    go_loopw [4] (fun i wr => ∃ k : Nat, 1 ≤ k ∧ (k ≤ l.length ∨ k = 1) ∧ i = .int .i64 k ∧ Hid (∀ (a : Nat) (h : a + 1 < l.length), a + 1 < k → pcmpZ l[a].1.1 l[a].1.2 l[a + 1].1.1 l[a + 1].1.2 < 0) ∧ Hid (AtT wr w.heap.size F (.slice ao l.length c)) ∧ Hid (Below w.heap.size w wr)) (fun i _ => l.length - (intOf i).toNat)
    case atStart => exact ⟨1, by omega, .inr rfl, rfl, hidR (fun a h h2 => by omega), HT1, HB1⟩
    case round =>
      clear HT1 HB1
      obtain ⟨k, hk1, hk2, rfl, HG, HT, HB⟩ := hrel
      obtain ⟨t0, t1⟩ := HT.out
      by_cases hlt : (k : Int) < (l.length : Int)
      · have hks : k < l.length := by omega
        obtain ⟨j, hj⟩ : ∃ j, j + 1 = k := ⟨k - 1, by omega⟩
        have hjs : j < l.length := by omega
        rcases HV.out with h | ⟨b, off, rfl, hc⟩
        · rw [h] at hks; simp at hks
        · obtain ⟨x0, x1, x2, x3⟩ := rwr_cells hc j hjs
          obtain ⟨y0, y1, y2, y3⟩ := rwr_cells hc k hks
          have HC := hidR (⟨HT.out, ⟨keepc HB.out x0, keepc HB.out x1, keepc HB.out x2, keepc HB.out x3⟩, ⟨keepc HB.out y0, keepc HB.out y1, keepc HB.out y2, keepc HB.out y3⟩, HB.out⟩ : T6 w F (.slice (some ⟨b, off, none⟩) l.length c) b (off + j * 4) (off + k * 4) l[j].1.1 l[j].1.2 l[j].2 l[k].1.1 l[k].1.2 l[k].2 wr)
          have KB := fun w => byPrefix_any l[j].1.1 l[j].1.2 l[j].2 l[k].1.1 l[k].1.2 l[k].2 w
          have HA : Hid ((Adj l → pcmpZ l[j].1.1 l[j].1.2 l[k].1.1 l[k].1.2 < 0) ∧ (pcmpZ l[j].1.1 l[j].1.2 l[k].1.1 l[k].1.2 < 0 → ∀ (a : Nat) (h : a + 1 < l.length), a + 1 < k + 1 → pcmpZ l[a].1.1 l[a].1.2 l[a + 1].1.1 l[a + 1].1.2 < 0)) := hidR (by
            subst hj
            refine ⟨fun hA => hA j hks, fun h a ha ha2 => ?_⟩
            by_cases e : a = j
            · subst e; exact h
            · exact HG.out a ha (by omega))
          have m1 : IntKind.i64.wrap ((k : Int) - 1) = (j : Int) := by rw [IntKind.wrap_i64]; omega
          have m2 : IntKind.i64.wrap ((k : Int) + 1) = (k : Int) + 1 := by rw [IntKind.wrap_i64]; omega
          have i1 : (0 : Int) ≤ (j : Int) := by omega
          have i2 : (j : Int) < (l.length : Int) := by omega
          clear x0 x1 x2 x3 y0 y1 y2 y3 hc HV HT HB hj
          revert KB HA HC
          generalize pcmpZ l[j].1.1 l[j].1.2 l[k].1.1 l[k].1.2 = z
          generalize l[j].1.1 = ax
          generalize l[j].1.2 = an
          generalize l[j].2 = ah
          generalize l[k].1.1 = bx
          generalize l[k].1.2 = bn
          generalize l[k].2 = bh
          intro HC KB HA
          have HAo := hidR HA.out
          by_cases hz : 0 ≤ z
          · have HN : Hid (¬ Adj l) := hidR (fun h => by have := HA.out.1 h; omega)
            go_wp2_with fail
            refine q_region (C := T6 w F (.slice (some ⟨b, off, none⟩) l.length c) b (off + j * 4) (off + k * 4) ax an ah bx bn bh) (by kernel_rfl) (by kernel_rfl) (T6.below HC.out (below_drewN (Below.refl _ _) 1)) ?_
            clear HC HA HG
            refine q_run (v := .pointer (some ⟨w.heap.size, 1, none⟩)) (by rfl) ?_ ?_
            · (intro w1 hC; obtain ⟨⟨t0, t1⟩, ⟨y0, y1, y2, y3⟩, ⟨z0, z1, z2, z3⟩, -⟩ := hC; go_simp; first | done | (simp; done) | (simp [*]; done) | omega | (simp; omega) | (rw [IntKind.wrap_i64]; omega) | (intro hx; omega) | rfl)
            simp only [Act.put, List.setIfInBounds_toArray, List.set_cons_zero, List.set_cons_succ]
            refine q_run (v := .slice (some ⟨b, off, none⟩) l.length c) (by rfl) ?_ ?_
            · (intro w1 hC; obtain ⟨⟨t0, t1⟩, ⟨y0, y1, y2, y3⟩, ⟨z0, z1, z2, z3⟩, -⟩ := hC; go_simp; first | done | (simp; done) | (simp [*]; done) | omega | (simp; omega) | (rw [IntKind.wrap_i64]; omega) | (intro hx; omega) | rfl)
            simp only [Act.put, List.setIfInBounds_toArray, List.set_cons_zero, List.set_cons_succ]
            refine q_run (v := .int .i64 (k : Int)) (by rfl) ?_ ?_
            · (intro w1 hC; obtain ⟨⟨t0, t1⟩, ⟨y0, y1, y2, y3⟩, ⟨z0, z1, z2, z3⟩, -⟩ := hC; go_simp; first | done | (simp; done) | (simp [*]; done) | omega | (simp; omega) | (rw [IntKind.wrap_i64]; omega) | (intro hx; omega) | rfl)
            simp only [Act.put, List.setIfInBounds_toArray, List.set_cons_zero, List.set_cons_succ]
            refine q_run (v := .int .i64 (j : Int)) (by rfl) ?_ ?_
            · (intro w1 hC; obtain ⟨⟨t0, t1⟩, ⟨y0, y1, y2, y3⟩, ⟨z0, z1, z2, z3⟩, -⟩ := hC; go_simp; first | done | (simp; done) | (simp [*]; done) | omega | (simp; omega) | (rw [IntKind.wrap_i64]; omega) | (intro hx; omega) | rfl)
            simp only [Act.put, List.setIfInBounds_toArray, List.set_cons_zero, List.set_cons_succ]
            refine q_run (v := .pointer (some ⟨b, off + j * 4, none⟩)) (by rfl) ?_ ?_
            · (intro w1 hC; obtain ⟨⟨t0, t1⟩, ⟨y0, y1, y2, y3⟩, ⟨z0, z1, z2, z3⟩, -⟩ := hC; go_simp; first | done | (simp; done) | (simp [*]; done) | omega | (simp; omega) | (rw [IntKind.wrap_i64]; omega) | (intro hx; omega) | rfl)
            simp only [Act.put, List.setIfInBounds_toArray, List.set_cons_zero, List.set_cons_succ]
            refine q_run (v := .agg #[.int .u64 (hI ax), .int .u64 (lI ax), .int .i64 an, .int .i64 ah]) (by rfl) ?_ ?_
            · (intro w1 hC; obtain ⟨⟨t0, t1⟩, ⟨y0, y1, y2, y3⟩, ⟨z0, z1, z2, z3⟩, -⟩ := hC; go_simp; first | done | (simp; done) | (simp [*]; done) | omega | (simp; omega) | (rw [IntKind.wrap_i64]; omega) | (intro hx; omega) | rfl)
            simp only [Act.put, List.setIfInBounds_toArray, List.set_cons_zero, List.set_cons_succ]
            refine q_run (v := .pointer (some ⟨w.heap.size, 1, none⟩)) (by rfl) ?_ ?_
            · (intro w1 hC; obtain ⟨⟨t0, t1⟩, ⟨y0, y1, y2, y3⟩, ⟨z0, z1, z2, z3⟩, -⟩ := hC; go_simp; first | done | (simp; done) | (simp [*]; done) | omega | (simp; omega) | (rw [IntKind.wrap_i64]; omega) | (intro hx; omega) | rfl)
            simp only [Act.put, List.setIfInBounds_toArray, List.set_cons_zero, List.set_cons_succ]
            refine q_run (v := .slice (some ⟨b, off, none⟩) l.length c) (by rfl) ?_ ?_
            · (intro w1 hC; obtain ⟨⟨t0, t1⟩, ⟨y0, y1, y2, y3⟩, ⟨z0, z1, z2, z3⟩, -⟩ := hC; go_simp; first | done | (simp; done) | (simp [*]; done) | omega | (simp; omega) | (rw [IntKind.wrap_i64]; omega) | (intro hx; omega) | rfl)
            simp only [Act.put, List.setIfInBounds_toArray, List.set_cons_zero, List.set_cons_succ]
            refine q_run (v := .int .i64 (k : Int)) (by rfl) ?_ ?_
            · (intro w1 hC; obtain ⟨⟨t0, t1⟩, ⟨y0, y1, y2, y3⟩, ⟨z0, z1, z2, z3⟩, -⟩ := hC; go_simp; first | done | (simp; done) | (simp [*]; done) | omega | (simp; omega) | (rw [IntKind.wrap_i64]; omega) | (intro hx; omega) | rfl)
            simp only [Act.put, List.setIfInBounds_toArray, List.set_cons_zero, List.set_cons_succ]
            refine q_run (v := .pointer (some ⟨b, off + k * 4, none⟩)) (by rfl) ?_ ?_
            · (intro w1 hC; obtain ⟨⟨t0, t1⟩, ⟨y0, y1, y2, y3⟩, ⟨z0, z1, z2, z3⟩, -⟩ := hC; go_simp; first | done | (simp; done) | (simp [*]; done) | omega | (simp; omega) | (rw [IntKind.wrap_i64]; omega) | (intro hx; omega) | rfl)
            simp only [Act.put, List.setIfInBounds_toArray, List.set_cons_zero, List.set_cons_succ]
            refine q_run (v := .agg #[.int .u64 (hI bx), .int .u64 (lI bx), .int .i64 bn, .int .i64 bh]) (by rfl) ?_ ?_
            · (intro w1 hC; obtain ⟨⟨t0, t1⟩, ⟨y0, y1, y2, y3⟩, ⟨z0, z1, z2, z3⟩, -⟩ := hC; go_simp; first | done | (simp; done) | (simp [*]; done) | omega | (simp; omega) | (rw [IntKind.wrap_i64]; omega) | (intro hx; omega) | rfl)
            simp only [Act.put, List.setIfInBounds_toArray, List.set_cons_zero, List.set_cons_succ]
            refine q_call (v := .int .i64 z) (f := 50) (args := #[.agg #[.int .u64 (hI ax), .int .u64 (lI ax), .int .i64 an, .int .i64 ah], .agg #[.int .u64 (hI bx), .int .u64 (lI bx), .int .i64 bn, .int .i64 bh]]) (by rfl) ?_ ?_ ?_
            · (intro w1 hC; clear hC; go_simp)
            · exact fun w1 hC => (KB w1).mono fun e w' ⟨he, hb⟩ => ⟨he, T6.below hC hb⟩
            simp only [Act.put, List.setIfInBounds_toArray, List.set_cons_zero, List.set_cons_succ]
            refine q_run (v := .bool true) (by rfl) ?_ ?_
            · (intro w1 hC; obtain ⟨⟨t0, t1⟩, ⟨y0, y1, y2, y3⟩, ⟨z0, z1, z2, z3⟩, -⟩ := hC; go_simp; first | done | (simp; done) | (simp [*]; done) | omega | (simp; omega) | (rw [IntKind.wrap_i64]; omega) | (intro hx; omega) | rfl)
            simp only [Act.put, List.setIfInBounds_toArray, List.set_cons_zero, List.set_cons_succ]
            refine wpQuiet_nil ?_
            intro W hC
            have HW := hidR hC
            clear hC
            go_wp2
            go_ret
            exact ⟨⟨19, HE1.out 19 (.inr ⟨HN.out, rfl⟩), rfl⟩, HW.out.2.2.2⟩
          · have HG2 := hidR (HA.out.2 (by omega))
            have hzd : decide (0 ≤ z) = false := by simpa using hz
            go_wp2_with fail
            refine q_region (C := T6 w F (.slice (some ⟨b, off, none⟩) l.length c) b (off + j * 4) (off + k * 4) ax an ah bx bn bh) (by kernel_rfl) (by kernel_rfl) (T6.below HC.out (below_drewN (Below.refl _ _) 1)) ?_
            clear HC HA HG
            refine q_run (v := .pointer (some ⟨w.heap.size, 1, none⟩)) (by rfl) ?_ ?_
            · (intro w1 hC; obtain ⟨⟨t0, t1⟩, ⟨y0, y1, y2, y3⟩, ⟨z0, z1, z2, z3⟩, -⟩ := hC; go_simp; first | done | (simp; done) | (simp [*]; done) | omega | (simp; omega) | (rw [IntKind.wrap_i64]; omega) | (intro hx; omega) | rfl)
            simp only [Act.put, List.setIfInBounds_toArray, List.set_cons_zero, List.set_cons_succ]
            refine q_run (v := .slice (some ⟨b, off, none⟩) l.length c) (by rfl) ?_ ?_
            · (intro w1 hC; obtain ⟨⟨t0, t1⟩, ⟨y0, y1, y2, y3⟩, ⟨z0, z1, z2, z3⟩, -⟩ := hC; go_simp; first | done | (simp; done) | (simp [*]; done) | omega | (simp; omega) | (rw [IntKind.wrap_i64]; omega) | (intro hx; omega) | rfl)
            simp only [Act.put, List.setIfInBounds_toArray, List.set_cons_zero, List.set_cons_succ]
            refine q_run (v := .int .i64 (k : Int)) (by rfl) ?_ ?_
            · (intro w1 hC; obtain ⟨⟨t0, t1⟩, ⟨y0, y1, y2, y3⟩, ⟨z0, z1, z2, z3⟩, -⟩ := hC; go_simp; first | done | (simp; done) | (simp [*]; done) | omega | (simp; omega) | (rw [IntKind.wrap_i64]; omega) | (intro hx; omega) | rfl)
            simp only [Act.put, List.setIfInBounds_toArray, List.set_cons_zero, List.set_cons_succ]
            refine q_run (v := .int .i64 (j : Int)) (by rfl) ?_ ?_
            · (intro w1 hC; obtain ⟨⟨t0, t1⟩, ⟨y0, y1, y2, y3⟩, ⟨z0, z1, z2, z3⟩, -⟩ := hC; go_simp; first | done | (simp; done) | (simp [*]; done) | omega | (simp; omega) | (rw [IntKind.wrap_i64]; omega) | (intro hx; omega) | rfl)
            simp only [Act.put, List.setIfInBounds_toArray, List.set_cons_zero, List.set_cons_succ]
            refine q_run (v := .pointer (some ⟨b, off + j * 4, none⟩)) (by rfl) ?_ ?_
            · (intro w1 hC; obtain ⟨⟨t0, t1⟩, ⟨y0, y1, y2, y3⟩, ⟨z0, z1, z2, z3⟩, -⟩ := hC; go_simp; first | done | (simp; done) | (simp [*]; done) | omega | (simp; omega) | (rw [IntKind.wrap_i64]; omega) | (intro hx; omega) | rfl)
            simp only [Act.put, List.setIfInBounds_toArray, List.set_cons_zero, List.set_cons_succ]
            refine q_run (v := .agg #[.int .u64 (hI ax), .int .u64 (lI ax), .int .i64 an, .int .i64 ah]) (by rfl) ?_ ?_
            · (intro w1 hC; obtain ⟨⟨t0, t1⟩, ⟨y0, y1, y2, y3⟩, ⟨z0, z1, z2, z3⟩, -⟩ := hC; go_simp; first | done | (simp; done) | (simp [*]; done) | omega | (simp; omega) | (rw [IntKind.wrap_i64]; omega) | (intro hx; omega) | rfl)
            simp only [Act.put, List.setIfInBounds_toArray, List.set_cons_zero, List.set_cons_succ]
            refine q_run (v := .pointer (some ⟨w.heap.size, 1, none⟩)) (by rfl) ?_ ?_
            · (intro w1 hC; obtain ⟨⟨t0, t1⟩, ⟨y0, y1, y2, y3⟩, ⟨z0, z1, z2, z3⟩, -⟩ := hC; go_simp; first | done | (simp; done) | (simp [*]; done) | omega | (simp; omega) | (rw [IntKind.wrap_i64]; omega) | (intro hx; omega) | rfl)
            simp only [Act.put, List.setIfInBounds_toArray, List.set_cons_zero, List.set_cons_succ]
            refine q_run (v := .slice (some ⟨b, off, none⟩) l.length c) (by rfl) ?_ ?_
            · (intro w1 hC; obtain ⟨⟨t0, t1⟩, ⟨y0, y1, y2, y3⟩, ⟨z0, z1, z2, z3⟩, -⟩ := hC; go_simp; first | done | (simp; done) | (simp [*]; done) | omega | (simp; omega) | (rw [IntKind.wrap_i64]; omega) | (intro hx; omega) | rfl)
            simp only [Act.put, List.setIfInBounds_toArray, List.set_cons_zero, List.set_cons_succ]
            refine q_run (v := .int .i64 (k : Int)) (by rfl) ?_ ?_
            · (intro w1 hC; obtain ⟨⟨t0, t1⟩, ⟨y0, y1, y2, y3⟩, ⟨z0, z1, z2, z3⟩, -⟩ := hC; go_simp; first | done | (simp; done) | (simp [*]; done) | omega | (simp; omega) | (rw [IntKind.wrap_i64]; omega) | (intro hx; omega) | rfl)
            simp only [Act.put, List.setIfInBounds_toArray, List.set_cons_zero, List.set_cons_succ]
            refine q_run (v := .pointer (some ⟨b, off + k * 4, none⟩)) (by rfl) ?_ ?_
            · (intro w1 hC; obtain ⟨⟨t0, t1⟩, ⟨y0, y1, y2, y3⟩, ⟨z0, z1, z2, z3⟩, -⟩ := hC; go_simp; first | done | (simp; done) | (simp [*]; done) | omega | (simp; omega) | (rw [IntKind.wrap_i64]; omega) | (intro hx; omega) | rfl)
            simp only [Act.put, List.setIfInBounds_toArray, List.set_cons_zero, List.set_cons_succ]
            refine q_run (v := .agg #[.int .u64 (hI bx), .int .u64 (lI bx), .int .i64 bn, .int .i64 bh]) (by rfl) ?_ ?_
            · (intro w1 hC; obtain ⟨⟨t0, t1⟩, ⟨y0, y1, y2, y3⟩, ⟨z0, z1, z2, z3⟩, -⟩ := hC; go_simp; first | done | (simp; done) | (simp [*]; done) | omega | (simp; omega) | (rw [IntKind.wrap_i64]; omega) | (intro hx; omega) | rfl)
            simp only [Act.put, List.setIfInBounds_toArray, List.set_cons_zero, List.set_cons_succ]
            refine q_call (v := .int .i64 z) (f := 50) (args := #[.agg #[.int .u64 (hI ax), .int .u64 (lI ax), .int .i64 an, .int .i64 ah], .agg #[.int .u64 (hI bx), .int .u64 (lI bx), .int .i64 bn, .int .i64 bh]]) (by rfl) ?_ ?_ ?_
            · (intro w1 hC; clear hC; go_simp)
            · exact fun w1 hC => (KB w1).mono fun e w' ⟨he, hb⟩ => ⟨he, T6.below hC hb⟩
            simp only [Act.put, List.setIfInBounds_toArray, List.set_cons_zero, List.set_cons_succ]
            refine q_run (v := .bool false) (by rfl) ?_ ?_
            · (intro w1 hC; obtain ⟨⟨t0, t1⟩, ⟨y0, y1, y2, y3⟩, ⟨z0, z1, z2, z3⟩, -⟩ := hC; go_simp; first | done | (simp; done) | (simp [*]; done) | omega | (simp; omega) | (rw [IntKind.wrap_i64]; omega) | (intro hx; omega) | rfl)
            simp only [Act.put, List.setIfInBounds_toArray, List.set_cons_zero, List.set_cons_succ]
            refine wpQuiet_nil ?_
            intro W hC
            have HW := hidR hC
            clear hC
            go_wp2
            go_roundw
            case rel => exact ⟨k + 1, by omega, .inl (by omega), by simp, HG2, hidR HW.out.1, hidR HW.out.2.2.2⟩
            case measure => simp [intOf]; omega
      · have hd : decide ((k : Int) < (l.length : Int)) = false := by simpa using hlt
        have HA : Hid (Adj l) := hidR (fun a h => HG.out a h (by omega))
        go_wp2
        go_ret
        exact ⟨⟨0, HE1.out 0 (.inl ⟨HA.out, rfl⟩), rfl⟩, HB.out⟩
  · have hn : (ce != 0) = true := by simp [hce]
    have HE1 := hidR (HE.out ce ⟨fun _ => rfl, fun h => absurd h hce⟩)
    clear HE
    go_wp2
    go_ret
    exact ⟨⟨ce, HE1.out, rfl⟩, HB1.out⟩
theorem rtsG_all (F : Int) : ∀ l : List Rte, rtsG F l = 0 → ∀ r ∈ l, rteE F r = 0
  | [], _, r, hr => by cases hr
  | a :: l, h, r, hr => by
    rw [rtsG] at h
    split at h
    · rename_i h1
      rcases List.mem_cons.mp hr with e | e
      · rw [e]; exact h1
      · exact rtsG_all F l h r e
    · rename_i h1; exact absurd h h1
theorem rts_all (F : Int) (l : List Rte) (h : rtsE F l = 0) : fam F = true ∧ l.length ≤ 1048576 ∧ ∀ r ∈ l, rteE F r = 0 := by
  unfold rtsE at h
  split at h
  · rename_i h1
    split at h
    · omega
    · rename_i h2
      exact ⟨h1, by omega, rtsG_all F l h⟩
  · omega
end Go.Proofs.Ytofpbommhklooaa
/-
  A table whose neighbours are in order is in order.
-/
namespace Go.Proofs.Ytofpbommhklooaa
open Go.RowKit

theorem ord_adj {l : List Rte} (h : Adj l) : OrdR l := by
  intro a b hb hab
  induction b with
  | zero => omega
  | succ b ih =>
    have h1 := (pcmp_lt _ _ _ _).1 (h b hb)
    rcases Nat.lt_or_eq_of_le (Nat.le_of_lt_succ hab) with q | q
    · have h2 := (pcmp_lt _ _ _ _).1 (ih (by omega) q)
      refine (pcmp_lt _ _ _ _).2 ?_
      omega
    · subst q
      exact h a hb
end Go.Proofs.Ytofpbommhklooaa
/-
  A table's tree: what trie.New tells.
-/
namespace Go.Proofs.Ytofpbommhklooaa
open Go.RowKit Go.Shelf
set_option linter.unusedSimpArgs false
set_option linter.unusedVariables false

theorem rte_rth (F : Int) (r : Rte) (hf : fam F = true) (h : rteE F r = 0) : RtH F r := by
  unfold rteE at h
  split at h
  · rename_i h1
    split at h
    · rename_i h2
      unfold hopB at h2
      simp only [Bool.and_eq_true, decide_eq_true_iff] at h2
      refine ⟨?_, by omega, by omega⟩
      unfold checkE at h1
      rw [if_pos hf] at h1
      split at h1
      · omega
      · split at h1
        · omega
        · split at h1
          · rename_i h3 h4 h5
            exact ⟨by omega, by omega, by simpa using h5⟩
          · omega
    · omega
  · rename_i h1; exact absurd h h1
theorem fam8 (F : Int) (h : fam F = true) : F = 32 ∨ F = 128 := by
  unfold fam at h
  simpa using h
/-- What Check's OK says of a table. -/
theorem tab8_ok {F : Int} {l : List Rte} (h : TabE F l 0) : (F = 32 ∨ F = 128) ∧ l.length ≤ 1048576 ∧ (∀ r ∈ l, RtH F r) ∧ OrdR l := by
  have h0 : rtsE F l = 0 := by
    by_cases h' : rtsE F l = 0
    · exact h'
    · have := h.1 h'; omega
  obtain ⟨hf, h1, h2⟩ := rts_all F l h0
  rcases h.2 h0 with ⟨ha, -⟩ | ⟨-, q⟩
  · exact ⟨fam8 F hf, h1, fun r hr => rte_rth F r hf (h2 r hr), ord_adj ha⟩
  · omega
/-- A tree in memory, with its words. -/
structure TrT (W : World) (B : Nat) (F : Int) (g cap wg wc : Nat) (L : List Nd) (ws : List (BitVec 128)) : Prop where
  tn : TrN W B F g cap (.slice (some ⟨wg, 0, none⟩) ws.length wc) L
  wd : ∀ j (hj : j < ws.length), W.cell? ⟨wg, j * 2, none⟩ = some (.int .u64 (hI ws[j])) ∧ W.cell? ⟨wg, j * 2 + 1, none⟩ = some (.int .u64 (lI ws[j]))
theorem TrT.below {W W' : World} {B : Nat} {F : Int} {g cap wg wc : Nat} {L : List Nd} {ws : List (BitVec 128)} (k : TrT W B F g cap wg wc L ws) (hb : Below W.heap.size W W') : TrT W' B F g cap wg wc L ws :=
  ⟨k.tn.below hb, fun j hj => ⟨keepc hb (k.wd j hj).1, keepc hb (k.wd j hj).2⟩⟩
theorem rowWd_get : ∀ (l : List (BitVec 128)) (k : Nat) (hk : k < l.length), (rowWd l)[k * 2]? = some (.int .u64 (hI l[k])) ∧ (rowWd l)[k * 2 + 1]? = some (.int .u64 (lI l[k]))
  | x :: l, 0, _ => ⟨rfl, rfl⟩
  | x :: l, k + 1, hk => by
    have := rowWd_get l k (by simpa using hk)
    rw [show (k + 1) * 2 = k * 2 + 2 by omega, show k * 2 + 2 + 1 = k * 2 + 1 + 2 by omega]
    exact this
theorem GwV.trt {W : World} {base G B : Nat} {F : Int} {L : List Nd} {ws : List (BitVec 128)} {y : List Nat} {vn vw vy : Value} (k : GwV W base G B F L ws y vn vw vy) (hL : 0 < L.length) (hw : 0 < ws.length) : ∃ g cap wg wc, TrT W B F g cap wg wc L ws ∧ base ≤ g ∧ base ≤ wg := by
  obtain ⟨g, cap, rfl, -, -⟩ := k.on.form (by omega)
  obtain ⟨wg, wc, rfl, -, -⟩ := k.ow.form (by omega)
  refine ⟨g, cap, wg, wc, ⟨⟨k.t0, k.t1, k.t2, fun j hj => ?_⟩, fun j hj => ?_⟩, (k.on.lt g rfl).1, (k.ow.lt wg rfl).1⟩
  · obtain ⟨a0, a1, a2, a3, a4, a5⟩ := rowNd_all L j hj
    exact ⟨(cells8 k.on a0).1, (cells8 k.on a1).1, (cells8 k.on a2).1, (cells8 k.on a3).1, (cells8 k.on a4).1, (cells8 k.on a5).1⟩
  · obtain ⟨a0, a1⟩ := rowWd_get ws j hj
    exact ⟨(cells8 k.ow a0).1, (cells8 k.ow a1).1⟩
/-- What New tells of a table whose check is z. -/
def NewQ (F : Int) (l : List Rte) (h0 : Nat) (z : Int) (e : Ending) (w' : World) : Prop := (z ≠ 0 ∧ e = .returned (.tuple #[.pointer none, .int .i64 z])) ∨ (z = 0 ∧ ∃ (B g cap wg wc : Nat) (ws : List (BitVec 128)) (L : List Nd), e = .returned (.tuple #[.pointer (some ⟨B, 0, none⟩), .int .i64 0]) ∧ TrT w' B F g cap wg wc L ws ∧ Tre l ws L ∧ L = (bkW 0 (grwG l (0#128, 0) grO).1 (grwG l (0#128, 0) grO).2.2).1 ∧ h0 ≤ B ∧ h0 ≤ g ∧ h0 ≤ wg)
set_option maxRecDepth 20000 in
set_option maxHeartbeats 4000000 in
theorem new8_any (F : Int) (v : Value) (l : List Rte) (w : World) (hv : RwR w v l) :
    Calls Try.prog 12 #[.agg #[.int .i64 F, v]] w fun e w' => (∃ z, TabE F l z ∧ NewQ F l w.heap.size z e w') ∧ Below w.heap.size w w' := by
  have q0 := bl1 w (.cells #[.int .i64 F, v] 24)
  have KC := tcheck_any F v l _ (hv.below q0)
  have HT := hidR (att_new w w.heap.size F v 24 rfl)
  have HV0 := hidR (hv.below q0)
  have HB0 := hidR q0
  obtain ⟨t0, t1⟩ := HT.out
  clear hv q0
  go_enter Try.func12, Try.ntmps12
  go_wp2_with fail
  refine KC.mono ?_
  rintro e w1 ⟨⟨z, hz, rfl⟩, hb⟩
  have HT1 := hidR (HT.out.below hb)
  have HV1 := hidR (HV0.out.below hb)
  have HB1 := hidR (keepb hb HB0.out)
  have Hz := hidR hz
  clear KC hb HT HV0 HB0 hz t0 t1
  by_cases h0 : z = 0
  · subst h0
    obtain ⟨hF, hl, hr, hO⟩ := tab8_ok Hz.out
    have KG := grow_any F v l w1 HV1.out (by omega) (by omega) hl hr hO
    obtain ⟨t0, t1⟩ := HT1.out
    have Hl := hidR hl
    clear hF hl hr hO
    go_wp2_with fail
    refine KG.mono ?_
    rintro e w2 ⟨G, B, last, s, vn, vw, vy, rfl, rfl, hG, hK, hb⟩
    obtain ⟨hT, hy⟩ := hG.tre Hl.out
    obtain ⟨g, cap, wg, wc, k1, k2, k3⟩ := hK.trt hT.pos (by rw [hT.wl]; omega)
    have hs : w.heap.size ≤ w1.heap.size := HB1.out.size
    have HQ : Hid (∃ z, TabE F l z ∧ NewQ F l w.heap.size z (.returned (.tuple #[.pointer (some ⟨B, 0, none⟩), .int .i64 0])) w2) := hidR ⟨0, Hz.out, .inr ⟨rfl, B, g, cap, wg, wc, _, _, rfl, k1, hT, rfl, by have := hK.bB; omega, by omega, by omega⟩⟩
    have HB2 := hidR (keepb hb HB1.out)
    clear hG hK hb hT hy k1 k2 k3 hs KG t0 t1
    go_wp2
    exact bodyPost_ret (v := .tuple #[.pointer (some ⟨B, 0, none⟩), .int .i64 0]) (by simp [results, Try.results12, go_sem]) rfl ⟨HQ.out, HB2.out⟩
  · have Hn := hidR h0
    go_wp2
    exact bodyPost_ret (v := .tuple #[.pointer none, .int .i64 z]) (by simp [results, Try.results12, go_sem]) rfl ⟨⟨z, Hz.out, .inl ⟨Hn.out, rfl⟩⟩, HB1.out⟩
end Go.Proofs.Ytofpbommhklooaa
/-
  What the calls of the law's SameRoutes, Same (of two that are the same) and Right do.
-/
namespace Go.Proofs.Ytofpbommhklooaa
open Go.RowKit
set_option linter.unusedSimpArgs false
set_option linter.unusedVariables false

theorem eqR_run (x : BitVec 128) (n h : Int) (w : World) :
    (Op.equalIn 10000 47 (.agg #[.int .u64 (hI x), .int .u64 (lI x), .int .i64 n, .int .i64 h]) (.agg #[.int .u64 (hI x), .int .u64 (lI x), .int .i64 n, .int .i64 h])).run Try.prog w = .ok true w := by
  go_simp
/-- Is a table right? -/
def RightT (F : Int) (l : List Rte) : Prop := l.length ≤ 3000 ∧ rtsE F l = 0 ∧ Adj l
set_option maxHeartbeats 2000000 in
theorem rightT_any (F : Int) (v : Value) (l : List Rte) (w : World) (hv : RwR w v l) :
    Calls Try.prog 11 #[.agg #[.int .i64 F, v]] w fun e w' => (∃ r : Bool, (r = true → RightT F l) ∧ e = .returned (.bool r)) ∧ Below w.heap.size w w' := by
  have b1 := bl1 w (.cells #[.int .i64 F, v] 24)
  have KC := rcheckT_any F v l _ (hv.below b1)
  obtain ⟨p0, p1⟩ := att_new w w.heap.size F v 24 rfl
  have HB := hidR b1
  obtain ⟨ao, c, rfl, -⟩ := hv
  clear b1
  by_cases hl : l.length ≤ 3000
  · have h1 : (l.length : Int) ≤ 3000 := by omega
    go_enter Try.func11, Try.ntmps11
    go_wp2_with fail
    refine KC.mono ?_
    rintro e w1 ⟨⟨z, hz, rfl⟩, hb⟩
    have kB := keepb hb HB.out
    have HE : Hid ((z == 0) = true → RightT F l) := hidR (fun h => by
      have h0 : z = 0 := by simpa using h
      subst h0
      have hr : rtsE F l = 0 := Classical.byContradiction fun hn => hn (hz.1 hn).symm
      refine ⟨hl, hr, ?_⟩
      rcases hz.2 hr with ⟨q, -⟩ | ⟨-, q⟩
      · exact q
      · omega)
    clear KC hb HB p0 p1 hz
    go_wp2
    go_ret
    exact ⟨⟨z == 0, HE.out, rfl⟩, kB⟩
  · have h1 : ¬ (l.length : Int) ≤ 3000 := by omega
    clear KC
    go_enter Try.func11, Try.ntmps11
    go_wp2
    go_ret
    exact ⟨.inl rfl, HB.out⟩
end Go.Proofs.Ytofpbommhklooaa
/-
  What the law's Right, known and made tell.
-/
namespace Go.Proofs.Ytofpbommhklooaa
open Go.RowKit Go.Shelf
set_option linter.unusedSimpArgs false
set_option linter.unusedVariables false

set_option maxHeartbeats 2000000 in
theorem rightI_any (F : Int) (v : Value) (l : List Rte) (w : World) (hv : RwR w v l) :
    Calls Try.prog 11 #[.agg #[.int .i64 F, v]] w fun e w' => (∃ r : Bool, (r = true ↔ RightT F l) ∧ e = .returned (.bool r)) ∧ Below w.heap.size w w' := by
  have b1 := bl1 w (.cells #[.int .i64 F, v] 24)
  have KC := rcheckT_any F v l _ (hv.below b1)
  obtain ⟨p0, p1⟩ := att_new w w.heap.size F v 24 rfl
  have HB := hidR b1
  obtain ⟨ao, c, rfl, -⟩ := hv
  clear b1
  by_cases hl : l.length ≤ 3000
  · have h1 : (l.length : Int) ≤ 3000 := by omega
    go_enter Try.func11, Try.ntmps11
    go_wp2_with fail
    refine KC.mono ?_
    rintro e w1 ⟨⟨z, hz, rfl⟩, hb⟩
    have kB := keepb hb HB.out
    have HE : Hid ((z == 0) = true ↔ RightT F l) := hidR (by
      constructor
      · intro h
        have h0 : z = 0 := by simpa using h
        subst h0
        have hr : rtsE F l = 0 := Classical.byContradiction fun hn => hn (hz.1 hn).symm
        refine ⟨hl, hr, ?_⟩
        rcases hz.2 hr with ⟨q, -⟩ | ⟨-, q⟩
        · exact q
        · omega
      · intro ⟨_, h1, h2⟩
        rcases hz.2 h1 with ⟨-, q⟩ | ⟨q, -⟩
        · simp [q]
        · exact absurd h2 q)
    clear KC hb HB p0 p1 hz
    go_wp2
    go_ret
    exact ⟨⟨z == 0, HE.out, rfl⟩, kB⟩
  · have h1 : ¬ (l.length : Int) ≤ 3000 := by omega
    have HN : Hid (¬ RightT F l) := hidR (fun h => hl h.1)
    clear KC
    go_enter Try.func11, Try.ntmps11
    go_wp2
    refine bodyPost_ret (v := .bool false) (by simp [results, Try.results11, go_sem]) rfl ⟨.inl ⟨HN.out, rfl⟩, HB.out⟩
theorem rightTab8 {F : Int} {l : List Rte} (h : RightT F l) {z : Int} (hz : TabE F l z) : z = 0 := by
  rcases hz.2 h.2.1 with ⟨-, q⟩ | ⟨q, -⟩
  · exact q
  · exact absurd h.2.2 q
/-- What made tells. -/
def MadeQ (F : Int) (l : List Rte) (h0 : Nat) (e : Ending) (w' : World) : Prop := (¬ (RightT F l ∧ l.length ≤ 300) ∧ e = .returned (.pointer none)) ∨ ((RightT F l ∧ l.length ≤ 300) ∧ ∃ (B g cap wg wc : Nat) (ws : List (BitVec 128)) (L : List Nd), e = .returned (.pointer (some ⟨B, 0, none⟩)) ∧ TrT w' B F g cap wg wc L ws ∧ Tre l ws L ∧ h0 ≤ B ∧ h0 ≤ g ∧ h0 ≤ wg)
/-- The chapter's first example. -/
def exR : List Rte := [((0#128, 2), 3), ((170141183460469231731687303715884105728#128, 1), 1)]
def exN : List Nd := (bkW 0 (grwG exR (0#128, 0) grO).1 (grwG exR (0#128, 0) grO).2.2).1
theorem ex_len : exN.length = 4 := by decide +kernel
theorem ex_hgt : (ndAt exN 0).height = 2 := by decide +kernel
theorem ex_hop : (ndAt exN 2).hop = 3 := by decide +kernel
theorem ex_kid : kidV exN 0 1 = 3 := by decide +kernel
theorem ex_tab : TabE 32 exR 0 := by
  have h1 : rtsE 32 exR = 0 := by decide +kernel
  refine ⟨fun h => absurd h1 h, fun _ => .inl ⟨?_, rfl⟩⟩
  intro a h
  have : a = 0 := by simp [exR] at h; omega
  subst this
  show pcmpZ 0#128 2 170141183460469231731687303715884105728#128 1 < 0
  decide +kernel
theorem tab_one {F : Int} {l : List Rte} {z y : Int} (h : TabE F l z) (k : TabE F l y) : z = y := by
  by_cases c : rtsE F l = 0
  · rcases h.2 c with ⟨a, b⟩ | ⟨a, b⟩ <;> rcases k.2 c with ⟨a2, b2⟩ | ⟨a2, b2⟩
    · rw [b, b2]
    · exact absurd a a2
    · exact absurd a2 a
    · rw [b, b2]
  · rw [h.1 c, k.1 c]
set_option maxRecDepth 20000 in
set_option maxHeartbeats 4000000 in
theorem known8_any (w : World) : Calls Try.prog 5 #[] w fun e w' => e = .returned (.bool true) ∧ Below w.heap.size w w' := by
  have q0 := bl1 w (.cells #[.int .u64 0, .int .u64 0, .int .i64 2, .int .i64 3, .int .u64 9223372036854775808, .int .u64 0, .int .i64 1, .int .i64 1] 47)
  have hv : RwR (w.alloc (.cells #[.int .u64 0, .int .u64 0, .int .i64 2, .int .i64 3, .int .u64 9223372036854775808, .int .u64 0, .int .i64 1, .int .i64 1] 47)) (.slice (some ⟨w.heap.size, 0, none⟩) 2 2) exR := by
    refine ⟨_, _, rfl, .inr ⟨w.heap.size, 0, rfl, ?_⟩⟩
    intro j u hj
    have e : rowR exR = [.int .u64 0, .int .u64 0, .int .i64 2, .int .i64 3, .int .u64 9223372036854775808, .int .u64 0, .int .i64 1, .int .i64 1] := by kernel_rfl
    rw [e] at hj
    rw [Nat.zero_add]
    exact at_block Array.getElem?_push_size j u (by simpa using hj)
  have KN := new8_any 32 _ exR _ hv
  have HB0 := hidR q0
  clear q0 hv
  go_enter Try.func5, Try.ntmps5
  go_wp2_with fail
  refine KN.mono ?_
  rintro e w2 ⟨⟨z, hz, hq⟩, hb⟩
  have hz0 := tab_one hz ex_tab
  subst hz0
  rcases hq with ⟨q, -⟩ | ⟨-, B, g, cap, wg, wc, ws, L, rfl, k1, k2, k6, k3, k4, k5⟩
  · exact absurd rfl q
  · have hk : L = exN := k6
    subst hk
    have ok := k2.ok (by decide)
    have HB2 := hidR (keepb hb HB0.out)
    have HK := hidR k1.tn
    have Ho := hidR ok
    have KL := tlen_any B 32 g cap _ exN w2 k1.tn
    rw [ex_len] at KL
    clear hb hz KN k1 k2 k3 k4 k5 k6 ok
    go_wp2_with fail
    refine KL.mono ?_
    rintro e w3 ⟨rfl, rfl⟩
    have KH := thei_any B 32 g cap _ exN 0 _ HK.out Ho.out
    rw [ex_hgt] at KH
    clear KL
    go_wp2_with fail
    refine KH.mono ?_
    rintro e w4 ⟨rfl, hb⟩
    have HK4 := hidR (HK.out.below hb)
    have HB4 := hidR (keepb hb HB2.out)
    have KP := thop_any B 32 g cap _ exN 2 _ HK4.out Ho.out
    rw [ex_hop] at KP
    clear KH hb HK HB2
    go_wp2_with fail
    refine KP.mono ?_
    rintro e w5 ⟨rfl, hb⟩
    have HK5 := hidR (HK4.out.below hb)
    have HB5 := hidR (keepb hb HB4.out)
    have KK := tkid_any B 32 g cap _ exN 0 1 _ HK5.out Ho.out (by rw [ex_len]; decide)
    rw [ex_kid] at KK
    clear KP hb HK4 HB4
    go_wp2_with fail
    refine KK.mono ?_
    rintro e w6 ⟨rfl, hb⟩
    have HB6 := hidR (keepb hb HB5.out)
    clear KK hb HK5 HB5
    go_wp2
    exact bodyPost_ret (v := .bool true) (by simp [results, Try.results5, go_sem]) rfl ⟨rfl, HB6.out⟩
end Go.Proofs.Ytofpbommhklooaa
/-
  Plain: the kids of a node as the program tells them, and how heights and counts come of theirs.
-/
namespace Go.Proofs.Ytofpbommhklooaa
open Go.RowKit
set_option linter.unusedSimpArgs false
set_option linter.unusedVariables false

section
variable {l : List Rte} {ws : List (BitVec 128)} {L : List Nd}
theorem nd8_at {i : Nat} (h : i < L.length) : ndAt L (i : Int) = nd8 L i := by rw [ndAt_in i h, nd8_in h]
theorem nd8_m1 : ndAt L (-1) = Nd.none := by unfold ndAt; rw [if_neg (by omega)]
/-- What the program tells of a node's kids, and how its sums come of theirs. -/
structure KidQ (ws : List (BitVec 128)) (L : List Nd) (i e : Nat) (a b : Int) : Prop where
  k0 : kidV L i 0 = a
  k1 : kidV L i 1 = b
  ca : a = -1 ∨ (a = ((i + 1 : Nat) : Int) ∧ i + 1 < e ∧ ln L (i + 1) = ln L i + 1 ∧ bitZ (ad ws L (i + 1)) (ln L i) = 0)
  cb : b = -1 ∨ ∃ m : Nat, b = (m : Int) ∧ i < m ∧ m < e ∧ ln L m = ln L i + 1 ∧ bitZ (ad ws L m) (ln L i) = 1 ∧ End L m e ∧ (a = -1 → m = i + 1) ∧ (a ≠ -1 → End L (i + 1) m)
  ea : a ≠ -1 → b = -1 → End L (i + 1) e
  cnt : (nd8 L i).count = (ndAt L a).count + (ndAt L b).count + (if 0 < hp L i then 1 else 0)
  hgt : (nd8 L i).height = max (if 0 ≤ a then 1 + (ndAt L a).height else 0) (if 0 ≤ b then 1 + (ndAt L b).height else 0)
  lf : a = -1 → b = -1 → e = i + 1
theorem cntR_one (L : List Nd) (i : Nat) : cntR L i 1 = if 0 < hp L i then 1 else 0 := by simp [cntR]
theorem Tre.kidq (t : Tre l ws L) {i e : Nat} (h : End L i e) : ∃ a b, KidQ ws L i e a b := by
  have hi : i < L.length := by have := h.1; have := h.2.1; omega
  have he := h.2.1
  have li := (t.inv.bnd i hi).1
  obtain ⟨e', hE, hc, hh⟩ := t.node hi
  have ee := hE.one h
  subst ee
  have nd : ∀ j f, End L j f → (nd8 L j).count = cntR L j (f - j) ∧ (nd8 L j).height = topR L j (f - j) - ln L j := by
    intro j f hj
    obtain ⟨f', q1, q2, q3⟩ := t.node (i := j) (by have := hj.1; have := hj.2.1; omega)
    have := q1.one hj
    subst this
    exact ⟨q2, q3⟩
  have tge : ∀ j f, End L j f → ln L j ≤ topR L j (f - j) := fun j f hj => topR_ge L j (f - j) j (by omega) (by have := hj.1; omega)
  have kv : ∀ bit, kidV L (i : Int) bit = if bit = 0 ∧ 0 < (nd8 L i).height ∧ (i : Int) + 1 ≠ (nd8 L i).high then (i : Int) + 1 else if bit = 1 ∧ 0 < (nd8 L i).high then (nd8 L i).high else -1 := by
    intro bit
    unfold kidV
    rw [nd8_at hi]
  have m1c : (ndAt L (-1)).count = 0 := by rw [nd8_m1]; rfl
  cases t.kids h with
  | leaf he hh0 =>
    subst he
    rw [show i + 1 - i = 1 by omega] at hc hh
    have hz : (nd8 L i).height = 0 := by rw [hh]; simp [topR]; omega
    refine ⟨-1, -1, by rw [kv, hz, hh0]; simp, by rw [kv, hz, hh0]; simp, .inl rfl, .inl rfl, fun q => absurd rfl q, ?_, ?_, fun _ _ => rfl⟩
    · rw [hc, m1c, cntR_one]; omega
    · rw [hz]; simp
  | low h1 hl hb hE2 hh0 =>
    obtain ⟨n1, n2⟩ := nd _ _ hE2
    have tg := tge _ _ hE2
    have a1 := cntR_add L i 1 (e' - (i + 1))
    have a2 := topR_add L i 1 (e' - (i + 1))
    rw [show 1 + (e' - (i + 1)) = e' - i by omega] at a1 a2
    have a3 : topR L i 1 = ln L i := by simp [topR]; omega
    have hz : (nd8 L i).height = 1 + (nd8 L (i + 1)).height := by rw [hh, a2, a3, n2]; omega
    have hz0 : 0 < (nd8 L i).height := by rw [hh, a2]; omega
    refine ⟨((i + 1 : Nat) : Int), -1, ?_, ?_, .inr ⟨rfl, h1, hl, hb⟩, .inl rfl, fun _ _ => hE2, ?_, ?_, fun q => by omega⟩
    · rw [kv, hh0, if_pos ⟨rfl, hz0, by omega⟩]; omega
    · rw [kv, hh0]; simp
    · rw [hc, a1, m1c, nd8_at (by omega), n1, cntR_one]; omega
    · rw [if_pos (by omega), if_neg (by omega), nd8_at (by omega), hz]; omega
  | high h1 hl hb hE2 hh0 =>
    obtain ⟨n1, n2⟩ := nd _ _ hE2
    have tg := tge _ _ hE2
    have a1 := cntR_add L i 1 (e' - (i + 1))
    have a2 := topR_add L i 1 (e' - (i + 1))
    rw [show 1 + (e' - (i + 1)) = e' - i by omega] at a1 a2
    have a3 : topR L i 1 = ln L i := by simp [topR]; omega
    have hz : (nd8 L i).height = 1 + (nd8 L (i + 1)).height := by rw [hh, a2, a3, n2]; omega
    refine ⟨-1, ((i + 1 : Nat) : Int), ?_, ?_, .inl rfl, .inr ⟨i + 1, rfl, by omega, h1, hl, hb, hE2, fun _ => rfl, fun q => absurd rfl q⟩, fun q => absurd rfl q, ?_, ?_, fun _ q => by omega⟩
    · rw [kv, hh0, if_neg (fun q => q.2.2 (by omega)), if_neg (fun q => by have := q.1; omega)]
    · rw [kv, hh0, if_neg (fun q => by have := q.1; omega), if_pos ⟨rfl, by omega⟩]
    · rw [hc, a1, m1c, nd8_at (by omega), n1, cntR_one]; omega
    · rw [if_neg (by omega), if_pos (by omega), nd8_at (by omega), hz]; omega
  | both m h1 h2 hl hb hE2 hl2 hb2 hE3 hh0 =>
    obtain ⟨n1, n2⟩ := nd _ _ hE2
    obtain ⟨p1, p2⟩ := nd _ _ hE3
    have tg := tge _ _ hE2
    have tg2 := tge _ _ hE3
    have a1 := cntR_add L i 1 (e' - (i + 1))
    have a2 := topR_add L i 1 (e' - (i + 1))
    have a4 := cntR_add L (i + 1) (m - (i + 1)) (e' - m)
    have a5 := topR_add L (i + 1) (m - (i + 1)) (e' - m)
    rw [show 1 + (e' - (i + 1)) = e' - i by omega] at a1 a2
    rw [show m - (i + 1) + (e' - m) = e' - (i + 1) by omega, show i + 1 + (m - (i + 1)) = m by omega] at a4 a5
    have a3 : topR L i 1 = ln L i := by simp [topR]; omega
    have hz : (nd8 L i).height = max (1 + (nd8 L (i + 1)).height) (1 + (nd8 L m).height) := by rw [hh, a2, a3, a5, n2, p2]; omega
    have hz0 : 0 < (nd8 L i).height := by rw [hh, a2, a5]; omega
    refine ⟨((i + 1 : Nat) : Int), (m : Int), ?_, ?_, .inr ⟨rfl, by omega, hl, hb⟩, .inr ⟨m, rfl, by omega, h2, hl2, hb2, hE3, fun q => by omega, fun _ => hE2⟩, fun _ q => by omega, ?_, ?_, fun q => by omega⟩
    · rw [kv, hh0, if_pos ⟨rfl, hz0, by omega⟩]; omega
    · rw [kv, hh0, if_neg (fun q => by have := q.1; omega), if_pos ⟨rfl, by omega⟩]
    · rw [hc, a1, a4, nd8_at (by omega), nd8_at (by omega), n1, p1, cntR_one]; omega
    · rw [if_pos (by omega), if_pos (by omega), nd8_at (by omega), nd8_at (by omega), hz]
/-- A node without kids has a route, but the first one of a table without routes. -/
theorem Tre.leaf (t : Tre l ws L) {i : Nat} (hi : i < L.length) (h : End L i (i + 1)) (h0 : hp L i = 0) : i = 0 ∧ l = [] := by
  by_cases c : i + 1 < L.length
  · have := h.2.2.2 c
    have := ((t.inv.stp i c).2.2.2 this).2.2
    omega
  · by_cases d : l = []
    · have := t.one d
      exact ⟨by omega, d⟩
    · have := t.lst d
      rw [show L.length - 1 = i by omega] at this
      omega
/-- A node's sums, by the kids that the program tells. -/
theorem Tre.sums (t : Tre l ws L) (k : Nat) (hk : k < L.length) : ∃ a b : Int, kidV L k 0 = a ∧ kidV L k 1 = b ∧ -1 ≤ a ∧ -1 ≤ b ∧ (ndAt L (k : Int)).count = (ndAt L a).count + (ndAt L b).count + (if 0 < (ndAt L (k : Int)).hop then 1 else 0) ∧ (ndAt L (k : Int)).height = max (if 0 ≤ a then 1 + (ndAt L a).height else 0) (if 0 ≤ b then 1 + (ndAt L b).height else 0) ∧ (a < 0 → b < 0 → (ndAt L (k : Int)).hop = 0 → k = 0 ∧ l = []) := by
  obtain ⟨e, hE, -, -⟩ := t.node hk
  obtain ⟨a, b, q⟩ := t.kidq hE
  refine ⟨a, b, q.k0, q.k1, ?_, ?_, ?_, ?_, ?_⟩
  · rcases q.ca with h | ⟨h, -⟩ <;> omega
  · rcases q.cb with h | ⟨m, h, -⟩ <;> omega
  · rw [nd8_at hk]; exact q.cnt
  · rw [nd8_at hk]; exact q.hgt
  · intro ha hb h0
    rw [nd8_at hk] at h0
    have ha' : a = -1 := by rcases q.ca with h | ⟨h, -⟩ <;> omega
    have hb' : b = -1 := by rcases q.cb with h | ⟨m, h, -⟩ <;> omega
    have := q.lf ha' hb'
    subst this
    exact t.leaf hk hE h0
theorem Tre.all (t : Tre l ws L) : (ndAt L 0).count = (l.length : Int) := by
  obtain ⟨e, hE, hc, -⟩ := t.node t.pos
  have : End L 0 L.length := ⟨t.pos, Nat.le_refl _, fun j a b => by rw [t.ln0]; exact t.lnp b a, fun h => by omega⟩
  have := hE.one this
  subst this
  have e0 := nd8_at t.pos
  rw [Int.natCast_zero] at e0
  rw [e0, hc, Nat.sub_zero]; exact t.tot
end
end Go.Proofs.Ytofpbommhklooaa
