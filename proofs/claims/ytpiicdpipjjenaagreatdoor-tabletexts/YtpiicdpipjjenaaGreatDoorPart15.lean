/-
  Part 15 of the proof: 5 texts, one behind the other.
-/
import Derived.Test.YtpiicdpipjjenaaGreatDoorPart6
import Derived.Test.YtpiicdpipjjenaaGreatDoorPart14
import Derived.Test.YtpiicdpipjjenaaGreatDoorPart9
import Derived.Test.YtpiicdpipjjenaaGreatDoorPart10
namespace Go.Proofs.YtpiicdpipjjenaaGreatDoor
open Go.RowKit
set_option linter.unusedSimpArgs false
set_option linter.unusedVariables false

theorem itoa_dec (n : Int) (h0 : 0 ≤ n) (h1 : n ≤ 128) : Lib.itoa n = decL n.toNat := by
  obtain ⟨k, rfl⟩ : ∃ k : Nat, n = k := ⟨n.toNat, by omega⟩
  rw [Lib.itoa_nonneg, decL_lib k (by omega)]
  rfl
theorem ptextD_any (F : Int) (x : BitVec 128) (n : Int) (w : World) (hP : Pow w) (hT : Tab w) (h : checkE F x n = 0) :
    Calls Tryz.prog 21 #[.int .i64 F, .agg #[.int .u64 (hI x), .int .u64 (lI x), .int .i64 n]] w fun e w' => e = .returned (.tuple #[.string (ptxD F x n), .int .i64 0]) ∧ Below w.heap.size w w' := by
  obtain ⟨hf, ⟨h0, h1, hx⟩, hr⟩ := check_bd F x n h
  have hF := fam_le F hf
  have hz := (text2_size F x hr).2
  have K := ptext_of2 F x n (text2 F x) 0 w hP hT h h0 (by omega) (by omega) (fun w hP hT => by
    have := atext_any F x w hP hT
    rw [hr] at this
    exact this)
  have e : ptxD F x n = slashed (text2 F x) n := by
    unfold ptxD slashed
    rw [if_pos h, ← itoa_dec n h0 (by omega)]
  rw [e]
  exact K
end Go.Proofs.YtpiicdpipjjenaaGreatDoor
namespace Go.Proofs.YtpiicdpipjjenaaGreatDoor
open Go.RowKit
set_option linter.unusedSimpArgs false
set_option linter.unusedVariables false

def T6 (w : World) (F : Int) (v : Value) (b oa ob : Nat) (ax : BitVec 128) (an ah : Int) (bx : BitVec 128) (bn bh : Int) (W : World) : Prop := AtT W w.heap.size F v ∧ (W.cell? ⟨b, oa, none⟩ = some (.int .u64 (hI ax)) ∧ W.cell? ⟨b, oa + 1, none⟩ = some (.int .u64 (lI ax)) ∧ W.cell? ⟨b, oa + 2, none⟩ = some (.int .i64 an) ∧ W.cell? ⟨b, oa + 3, none⟩ = some (.int .i64 ah)) ∧ (W.cell? ⟨b, ob, none⟩ = some (.int .u64 (hI bx)) ∧ W.cell? ⟨b, ob + 1, none⟩ = some (.int .u64 (lI bx)) ∧ W.cell? ⟨b, ob + 2, none⟩ = some (.int .i64 bn) ∧ W.cell? ⟨b, ob + 3, none⟩ = some (.int .i64 bh)) ∧ Below w.heap.size w W
theorem T6.below {w W W' : World} {F : Int} {v : Value} {b oa ob : Nat} {ax : BitVec 128} {an ah : Int} {bx : BitVec 128} {bn bh : Int} (k : T6 w F v b oa ob ax an ah bx bn bh W) (hb : Below W.heap.size W W') : T6 w F v b oa ob ax an ah bx bn bh W' :=
  ⟨k.1.below hb, ⟨keepc hb k.2.1.1, keepc hb k.2.1.2.1, keepc hb k.2.1.2.2.1, keepc hb k.2.1.2.2.2⟩, ⟨keepc hb k.2.2.1.1, keepc hb k.2.2.1.2.1, keepc hb k.2.2.1.2.2.1, keepc hb k.2.2.1.2.2.2⟩, keepb hb k.2.2.2⟩
set_option maxRecDepth 20000 in
set_option maxHeartbeats 8000000 in
theorem tcheck_any (F : Int) (v : Value) (l : List Rte) (w : World) (hv : RwR w v l) :
    Calls Tryz.prog 8 #[.agg #[.int .i64 F, v]] w fun e w' => (∃ z, TabE F l z ∧ e = .returned (.int .i64 z)) ∧ Below w.heap.size w w' := by
  have b0 := bl1 w (.cells #[.int .i64 F, v] 24)
  have KC := checkRoutes_any F v l _ (hv.below b0)
  obtain ⟨ao, c, rfl, hv⟩ := hv
  have HT := hidR (att_new w w.heap.size F (.slice ao l.length c) 24 rfl)
  obtain ⟨t0, t1⟩ := HT.out
  have HV := hidR hv
  have HB := hidR b0
  have HE : Hid (∀ z, (rtsE F l ≠ 0 → z = rtsE F l) ∧ (rtsE F l = 0 → (Adj l ∧ z = 0) ∨ (¬ Adj l ∧ z = 19)) → TabE F l z) := hidR (fun z h => h)
  have HL : Hid (rtsE F l = 0 → l.length ≤ 1048576) := hidR (fun h => by
    unfold rtsE at h
    split at h
    · split at h
      · omega
      · omega
    · omega)
  clear hv b0
  revert KC HE HL
  generalize rtsE F l = ce
  intro KC HE HL
  go_enter Tryz.func8, Tryz.ntmps8
  go_wp2_with fail
  refine KC.mono ?_
  rintro e w1 ⟨rfl, hb⟩
  have HB1 := hidR (keepb hb HB.out)
  have HT1 := hidR (HT.out.below hb)
  clear KC hb t0 t1 HB HT
  by_cases hce : ce = 0
  · subst hce
    have hll := HL.out rfl
    have HE1 : Hid (∀ z, (Adj l ∧ z = 0) ∨ (¬ Adj l ∧ z = 19) → TabE F l z) := hidR (fun z h => HE.out z ⟨fun h0 => absurd rfl h0, fun _ => h⟩)
    clear HL HE
    go_wp2_with fail
    go_loopw [4] (fun i wr => ∃ k : Nat, 1 ≤ k ∧ (k ≤ l.length ∨ k = 1) ∧ i = .int .i64 k ∧ Hid (∀ (a : Nat) (h : a + 1 < l.length), a + 1 < k → pcmpZ l[a].1.1 l[a].1.2 l[a + 1].1.1 l[a + 1].1.2 < 0) ∧ Hid (AtT wr w.heap.size F (.slice ao l.length c)) ∧ Hid (Below w.heap.size w wr)) (fun i _ => l.length - (intOf i).toNat)
    case atStart => exact ⟨1, by omega, .inr rfl, rfl, hidR (fun a h h2 => by omega), HT1, HB1⟩
    case round =>
      clear HT1 HB1
      obtain ⟨k, hk1, hk2, rfl, HG, HT, HB⟩ := hrel
      obtain ⟨t0, t1⟩ := HT.out
      by_cases hlt : (k : Int) < (l.length : Int)
      · have hks : k < l.length := by omega
        obtain ⟨j, hj⟩ : ∃ j, j + 1 = k := ⟨k - 1, by omega⟩
        have hjs : j < l.length := by omega
        rcases HV.out with h | ⟨b, off, rfl, hc⟩
        · rw [h] at hks; simp at hks
        · obtain ⟨x0, x1, x2, x3⟩ := rwr_cells hc j hjs
          obtain ⟨y0, y1, y2, y3⟩ := rwr_cells hc k hks
          have HC := hidR (⟨HT.out, ⟨keepc HB.out x0, keepc HB.out x1, keepc HB.out x2, keepc HB.out x3⟩, ⟨keepc HB.out y0, keepc HB.out y1, keepc HB.out y2, keepc HB.out y3⟩, HB.out⟩ : T6 w F (.slice (some ⟨b, off, none⟩) l.length c) b (off + j * 4) (off + k * 4) l[j].1.1 l[j].1.2 l[j].2 l[k].1.1 l[k].1.2 l[k].2 wr)
          have KB := fun w => byPrefix_any l[j].1.1 l[j].1.2 l[j].2 l[k].1.1 l[k].1.2 l[k].2 w
          have HA : Hid ((Adj l → pcmpZ l[j].1.1 l[j].1.2 l[k].1.1 l[k].1.2 < 0) ∧ (pcmpZ l[j].1.1 l[j].1.2 l[k].1.1 l[k].1.2 < 0 → ∀ (a : Nat) (h : a + 1 < l.length), a + 1 < k + 1 → pcmpZ l[a].1.1 l[a].1.2 l[a + 1].1.1 l[a + 1].1.2 < 0)) := hidR (by
            subst hj
            refine ⟨fun hA => hA j hks, fun h a ha ha2 => ?_⟩
            by_cases e : a = j
            · subst e; exact h
            · exact HG.out a ha (by omega))
          have m1 : IntKind.i64.wrap ((k : Int) - 1) = (j : Int) := by rw [IntKind.wrap_i64]; omega
          have m2 : IntKind.i64.wrap ((k : Int) + 1) = (k : Int) + 1 := by rw [IntKind.wrap_i64]; omega
          have i1 : (0 : Int) ≤ (j : Int) := by omega
          have i2 : (j : Int) < (l.length : Int) := by omega
          clear x0 x1 x2 x3 y0 y1 y2 y3 hc HV HT HB hj
          revert KB HA HC
          generalize pcmpZ l[j].1.1 l[j].1.2 l[k].1.1 l[k].1.2 = z
          generalize l[j].1.1 = ax
          generalize l[j].1.2 = an
          generalize l[j].2 = ah
          generalize l[k].1.1 = bx
          generalize l[k].1.2 = bn
          generalize l[k].2 = bh
          intro HC KB HA
          have HAo := hidR HA.out
          by_cases hz : 0 ≤ z
          · have HN : Hid (¬ Adj l) := hidR (fun h => by have := HA.out.1 h; omega)
            go_wp2_with fail
            refine q_region (C := T6 w F (.slice (some ⟨b, off, none⟩) l.length c) b (off + j * 4) (off + k * 4) ax an ah bx bn bh) (by kernel_rfl) (by kernel_rfl) (T6.below HC.out (below_drewN (Below.refl _ _) 1)) ?_
            clear HC HA HG
            refine q_run (v := .pointer (some ⟨w.heap.size, 1, none⟩)) (by rfl) ?_ ?_
            · (intro w1 hC; obtain ⟨⟨t0, t1⟩, ⟨y0, y1, y2, y3⟩, ⟨z0, z1, z2, z3⟩, -⟩ := hC; go_simp; first | done | (simp; done) | (simp [*]; done) | omega | (simp; omega) | (rw [IntKind.wrap_i64]; omega) | (intro hx; omega) | rfl)
            simp only [Act.put, List.setIfInBounds_toArray, List.set_cons_zero, List.set_cons_succ]
            refine q_run (v := .slice (some ⟨b, off, none⟩) l.length c) (by rfl) ?_ ?_
            · (intro w1 hC; obtain ⟨⟨t0, t1⟩, ⟨y0, y1, y2, y3⟩, ⟨z0, z1, z2, z3⟩, -⟩ := hC; go_simp; first | done | (simp; done) | (simp [*]; done) | omega | (simp; omega) | (rw [IntKind.wrap_i64]; omega) | (intro hx; omega) | rfl)
            simp only [Act.put, List.setIfInBounds_toArray, List.set_cons_zero, List.set_cons_succ]
            refine q_run (v := .int .i64 (k : Int)) (by rfl) ?_ ?_
            · (intro w1 hC; obtain ⟨⟨t0, t1⟩, ⟨y0, y1, y2, y3⟩, ⟨z0, z1, z2, z3⟩, -⟩ := hC; go_simp; first | done | (simp; done) | (simp [*]; done) | omega | (simp; omega) | (rw [IntKind.wrap_i64]; omega) | (intro hx; omega) | rfl)
            simp only [Act.put, List.setIfInBounds_toArray, List.set_cons_zero, List.set_cons_succ]
            refine q_run (v := .int .i64 (j : Int)) (by rfl) ?_ ?_
            · (intro w1 hC; obtain ⟨⟨t0, t1⟩, ⟨y0, y1, y2, y3⟩, ⟨z0, z1, z2, z3⟩, -⟩ := hC; go_simp; first | done | (simp; done) | (simp [*]; done) | omega | (simp; omega) | (rw [IntKind.wrap_i64]; omega) | (intro hx; omega) | rfl)
            simp only [Act.put, List.setIfInBounds_toArray, List.set_cons_zero, List.set_cons_succ]
            refine q_run (v := .pointer (some ⟨b, off + j * 4, none⟩)) (by rfl) ?_ ?_
            · (intro w1 hC; obtain ⟨⟨t0, t1⟩, ⟨y0, y1, y2, y3⟩, ⟨z0, z1, z2, z3⟩, -⟩ := hC; go_simp; first | done | (simp; done) | (simp [*]; done) | omega | (simp; omega) | (rw [IntKind.wrap_i64]; omega) | (intro hx; omega) | rfl)
            simp only [Act.put, List.setIfInBounds_toArray, List.set_cons_zero, List.set_cons_succ]
            refine q_run (v := .agg #[.int .u64 (hI ax), .int .u64 (lI ax), .int .i64 an, .int .i64 ah]) (by rfl) ?_ ?_
            · (intro w1 hC; obtain ⟨⟨t0, t1⟩, ⟨y0, y1, y2, y3⟩, ⟨z0, z1, z2, z3⟩, -⟩ := hC; go_simp; first | done | (simp; done) | (simp [*]; done) | omega | (simp; omega) | (rw [IntKind.wrap_i64]; omega) | (intro hx; omega) | rfl)
            simp only [Act.put, List.setIfInBounds_toArray, List.set_cons_zero, List.set_cons_succ]
            refine q_run (v := .pointer (some ⟨w.heap.size, 1, none⟩)) (by rfl) ?_ ?_
            · (intro w1 hC; obtain ⟨⟨t0, t1⟩, ⟨y0, y1, y2, y3⟩, ⟨z0, z1, z2, z3⟩, -⟩ := hC; go_simp; first | done | (simp; done) | (simp [*]; done) | omega | (simp; omega) | (rw [IntKind.wrap_i64]; omega) | (intro hx; omega) | rfl)
            simp only [Act.put, List.setIfInBounds_toArray, List.set_cons_zero, List.set_cons_succ]
            refine q_run (v := .slice (some ⟨b, off, none⟩) l.length c) (by rfl) ?_ ?_
            · (intro w1 hC; obtain ⟨⟨t0, t1⟩, ⟨y0, y1, y2, y3⟩, ⟨z0, z1, z2, z3⟩, -⟩ := hC; go_simp; first | done | (simp; done) | (simp [*]; done) | omega | (simp; omega) | (rw [IntKind.wrap_i64]; omega) | (intro hx; omega) | rfl)
            simp only [Act.put, List.setIfInBounds_toArray, List.set_cons_zero, List.set_cons_succ]
            refine q_run (v := .int .i64 (k : Int)) (by rfl) ?_ ?_
            · (intro w1 hC; obtain ⟨⟨t0, t1⟩, ⟨y0, y1, y2, y3⟩, ⟨z0, z1, z2, z3⟩, -⟩ := hC; go_simp; first | done | (simp; done) | (simp [*]; done) | omega | (simp; omega) | (rw [IntKind.wrap_i64]; omega) | (intro hx; omega) | rfl)
            simp only [Act.put, List.setIfInBounds_toArray, List.set_cons_zero, List.set_cons_succ]
            refine q_run (v := .pointer (some ⟨b, off + k * 4, none⟩)) (by rfl) ?_ ?_
            · (intro w1 hC; obtain ⟨⟨t0, t1⟩, ⟨y0, y1, y2, y3⟩, ⟨z0, z1, z2, z3⟩, -⟩ := hC; go_simp; first | done | (simp; done) | (simp [*]; done) | omega | (simp; omega) | (rw [IntKind.wrap_i64]; omega) | (intro hx; omega) | rfl)
            simp only [Act.put, List.setIfInBounds_toArray, List.set_cons_zero, List.set_cons_succ]
            refine q_run (v := .agg #[.int .u64 (hI bx), .int .u64 (lI bx), .int .i64 bn, .int .i64 bh]) (by rfl) ?_ ?_
            · (intro w1 hC; obtain ⟨⟨t0, t1⟩, ⟨y0, y1, y2, y3⟩, ⟨z0, z1, z2, z3⟩, -⟩ := hC; go_simp; first | done | (simp; done) | (simp [*]; done) | omega | (simp; omega) | (rw [IntKind.wrap_i64]; omega) | (intro hx; omega) | rfl)
            simp only [Act.put, List.setIfInBounds_toArray, List.set_cons_zero, List.set_cons_succ]
            refine q_call (v := .int .i64 z) (f := 27) (args := #[.agg #[.int .u64 (hI ax), .int .u64 (lI ax), .int .i64 an, .int .i64 ah], .agg #[.int .u64 (hI bx), .int .u64 (lI bx), .int .i64 bn, .int .i64 bh]]) (by rfl) ?_ ?_ ?_
            · (intro w1 hC; clear hC; go_simp)
            · exact fun w1 hC => (KB w1).mono fun e w' ⟨he, hb⟩ => ⟨he, T6.below hC hb⟩
            simp only [Act.put, List.setIfInBounds_toArray, List.set_cons_zero, List.set_cons_succ]
            refine q_run (v := .bool true) (by rfl) ?_ ?_
            · (intro w1 hC; obtain ⟨⟨t0, t1⟩, ⟨y0, y1, y2, y3⟩, ⟨z0, z1, z2, z3⟩, -⟩ := hC; go_simp; first | done | (simp; done) | (simp [*]; done) | omega | (simp; omega) | (rw [IntKind.wrap_i64]; omega) | (intro hx; omega) | rfl)
            simp only [Act.put, List.setIfInBounds_toArray, List.set_cons_zero, List.set_cons_succ]
            refine wpQuiet_nil ?_
            intro W hC
            have HW := hidR hC
            clear hC
            go_wp2
            go_ret
            exact ⟨⟨19, HE1.out 19 (.inr ⟨HN.out, rfl⟩), rfl⟩, HW.out.2.2.2⟩
          · have HG2 := hidR (HA.out.2 (by omega))
            have hzd : decide (0 ≤ z) = false := by simpa using hz
            go_wp2_with fail
            refine q_region (C := T6 w F (.slice (some ⟨b, off, none⟩) l.length c) b (off + j * 4) (off + k * 4) ax an ah bx bn bh) (by kernel_rfl) (by kernel_rfl) (T6.below HC.out (below_drewN (Below.refl _ _) 1)) ?_
            clear HC HA HG
            refine q_run (v := .pointer (some ⟨w.heap.size, 1, none⟩)) (by rfl) ?_ ?_
            · (intro w1 hC; obtain ⟨⟨t0, t1⟩, ⟨y0, y1, y2, y3⟩, ⟨z0, z1, z2, z3⟩, -⟩ := hC; go_simp; first | done | (simp; done) | (simp [*]; done) | omega | (simp; omega) | (rw [IntKind.wrap_i64]; omega) | (intro hx; omega) | rfl)
            simp only [Act.put, List.setIfInBounds_toArray, List.set_cons_zero, List.set_cons_succ]
            refine q_run (v := .slice (some ⟨b, off, none⟩) l.length c) (by rfl) ?_ ?_
            · (intro w1 hC; obtain ⟨⟨t0, t1⟩, ⟨y0, y1, y2, y3⟩, ⟨z0, z1, z2, z3⟩, -⟩ := hC; go_simp; first | done | (simp; done) | (simp [*]; done) | omega | (simp; omega) | (rw [IntKind.wrap_i64]; omega) | (intro hx; omega) | rfl)
            simp only [Act.put, List.setIfInBounds_toArray, List.set_cons_zero, List.set_cons_succ]
            refine q_run (v := .int .i64 (k : Int)) (by rfl) ?_ ?_
            · (intro w1 hC; obtain ⟨⟨t0, t1⟩, ⟨y0, y1, y2, y3⟩, ⟨z0, z1, z2, z3⟩, -⟩ := hC; go_simp; first | done | (simp; done) | (simp [*]; done) | omega | (simp; omega) | (rw [IntKind.wrap_i64]; omega) | (intro hx; omega) | rfl)
            simp only [Act.put, List.setIfInBounds_toArray, List.set_cons_zero, List.set_cons_succ]
            refine q_run (v := .int .i64 (j : Int)) (by rfl) ?_ ?_
            · (intro w1 hC; obtain ⟨⟨t0, t1⟩, ⟨y0, y1, y2, y3⟩, ⟨z0, z1, z2, z3⟩, -⟩ := hC; go_simp; first | done | (simp; done) | (simp [*]; done) | omega | (simp; omega) | (rw [IntKind.wrap_i64]; omega) | (intro hx; omega) | rfl)
            simp only [Act.put, List.setIfInBounds_toArray, List.set_cons_zero, List.set_cons_succ]
            refine q_run (v := .pointer (some ⟨b, off + j * 4, none⟩)) (by rfl) ?_ ?_
            · (intro w1 hC; obtain ⟨⟨t0, t1⟩, ⟨y0, y1, y2, y3⟩, ⟨z0, z1, z2, z3⟩, -⟩ := hC; go_simp; first | done | (simp; done) | (simp [*]; done) | omega | (simp; omega) | (rw [IntKind.wrap_i64]; omega) | (intro hx; omega) | rfl)
            simp only [Act.put, List.setIfInBounds_toArray, List.set_cons_zero, List.set_cons_succ]
            refine q_run (v := .agg #[.int .u64 (hI ax), .int .u64 (lI ax), .int .i64 an, .int .i64 ah]) (by rfl) ?_ ?_
            · (intro w1 hC; obtain ⟨⟨t0, t1⟩, ⟨y0, y1, y2, y3⟩, ⟨z0, z1, z2, z3⟩, -⟩ := hC; go_simp; first | done | (simp; done) | (simp [*]; done) | omega | (simp; omega) | (rw [IntKind.wrap_i64]; omega) | (intro hx; omega) | rfl)
            simp only [Act.put, List.setIfInBounds_toArray, List.set_cons_zero, List.set_cons_succ]
            refine q_run (v := .pointer (some ⟨w.heap.size, 1, none⟩)) (by rfl) ?_ ?_
            · (intro w1 hC; obtain ⟨⟨t0, t1⟩, ⟨y0, y1, y2, y3⟩, ⟨z0, z1, z2, z3⟩, -⟩ := hC; go_simp; first | done | (simp; done) | (simp [*]; done) | omega | (simp; omega) | (rw [IntKind.wrap_i64]; omega) | (intro hx; omega) | rfl)
            simp only [Act.put, List.setIfInBounds_toArray, List.set_cons_zero, List.set_cons_succ]
            refine q_run (v := .slice (some ⟨b, off, none⟩) l.length c) (by rfl) ?_ ?_
            · (intro w1 hC; obtain ⟨⟨t0, t1⟩, ⟨y0, y1, y2, y3⟩, ⟨z0, z1, z2, z3⟩, -⟩ := hC; go_simp; first | done | (simp; done) | (simp [*]; done) | omega | (simp; omega) | (rw [IntKind.wrap_i64]; omega) | (intro hx; omega) | rfl)
            simp only [Act.put, List.setIfInBounds_toArray, List.set_cons_zero, List.set_cons_succ]
            refine q_run (v := .int .i64 (k : Int)) (by rfl) ?_ ?_
            · (intro w1 hC; obtain ⟨⟨t0, t1⟩, ⟨y0, y1, y2, y3⟩, ⟨z0, z1, z2, z3⟩, -⟩ := hC; go_simp; first | done | (simp; done) | (simp [*]; done) | omega | (simp; omega) | (rw [IntKind.wrap_i64]; omega) | (intro hx; omega) | rfl)
            simp only [Act.put, List.setIfInBounds_toArray, List.set_cons_zero, List.set_cons_succ]
            refine q_run (v := .pointer (some ⟨b, off + k * 4, none⟩)) (by rfl) ?_ ?_
            · (intro w1 hC; obtain ⟨⟨t0, t1⟩, ⟨y0, y1, y2, y3⟩, ⟨z0, z1, z2, z3⟩, -⟩ := hC; go_simp; first | done | (simp; done) | (simp [*]; done) | omega | (simp; omega) | (rw [IntKind.wrap_i64]; omega) | (intro hx; omega) | rfl)
            simp only [Act.put, List.setIfInBounds_toArray, List.set_cons_zero, List.set_cons_succ]
            refine q_run (v := .agg #[.int .u64 (hI bx), .int .u64 (lI bx), .int .i64 bn, .int .i64 bh]) (by rfl) ?_ ?_
            · (intro w1 hC; obtain ⟨⟨t0, t1⟩, ⟨y0, y1, y2, y3⟩, ⟨z0, z1, z2, z3⟩, -⟩ := hC; go_simp; first | done | (simp; done) | (simp [*]; done) | omega | (simp; omega) | (rw [IntKind.wrap_i64]; omega) | (intro hx; omega) | rfl)
            simp only [Act.put, List.setIfInBounds_toArray, List.set_cons_zero, List.set_cons_succ]
            refine q_call (v := .int .i64 z) (f := 27) (args := #[.agg #[.int .u64 (hI ax), .int .u64 (lI ax), .int .i64 an, .int .i64 ah], .agg #[.int .u64 (hI bx), .int .u64 (lI bx), .int .i64 bn, .int .i64 bh]]) (by rfl) ?_ ?_ ?_
            · (intro w1 hC; clear hC; go_simp)
            · exact fun w1 hC => (KB w1).mono fun e w' ⟨he, hb⟩ => ⟨he, T6.below hC hb⟩
            simp only [Act.put, List.setIfInBounds_toArray, List.set_cons_zero, List.set_cons_succ]
            refine q_run (v := .bool false) (by rfl) ?_ ?_
            · (intro w1 hC; obtain ⟨⟨t0, t1⟩, ⟨y0, y1, y2, y3⟩, ⟨z0, z1, z2, z3⟩, -⟩ := hC; go_simp; first | done | (simp; done) | (simp [*]; done) | omega | (simp; omega) | (rw [IntKind.wrap_i64]; omega) | (intro hx; omega) | rfl)
            simp only [Act.put, List.setIfInBounds_toArray, List.set_cons_zero, List.set_cons_succ]
            refine wpQuiet_nil ?_
            intro W hC
            have HW := hidR hC
            clear hC
            go_wp2
            go_roundw
            case rel => exact ⟨k + 1, by omega, .inl (by omega), by simp, HG2, hidR HW.out.1, hidR HW.out.2.2.2⟩
            case measure => simp [intOf]; omega
      · have hd : decide ((k : Int) < (l.length : Int)) = false := by simpa using hlt
        have HA : Hid (Adj l) := hidR (fun a h => HG.out a h (by omega))
        go_wp2
        go_ret
        exact ⟨⟨0, HE1.out 0 (.inl ⟨HA.out, rfl⟩), rfl⟩, HB.out⟩
  · have hn : (ce != 0) = true := by simp [hce]
    have HE1 := hidR (HE.out ce ⟨fun _ => rfl, fun h => absurd h hce⟩)
    clear HE
    go_wp2
    go_ret
    exact ⟨⟨ce, HE1.out, rfl⟩, HB1.out⟩
theorem rtsG_all (F : Int) : ∀ l : List Rte, rtsG F l = 0 → ∀ r ∈ l, rteE F r = 0
  | [], _, r, hr => by cases hr
  | a :: l, h, r, hr => by
    rw [rtsG] at h
    split at h
    · rename_i h1
      rcases List.mem_cons.mp hr with e | e
      · rw [e]; exact h1
      · exact rtsG_all F l h r e
    · rename_i h1; exact absurd h h1
end Go.Proofs.YtpiicdpipjjenaaGreatDoor
namespace Go.Proofs.YtpiicdpipjjenaaGreatDoor
open Go.RowKit
set_option linter.unusedSimpArgs false
set_option linter.unusedVariables false

theorem decF_dec : ∀ (f m : Nat) (t : List UInt8), m < 10 ^ f → (t = [] → 1 ≤ f) → decF f m t = if m = 0 ∧ t ≠ [] then t else Lib.decDigits m ++ t
  | 0, m, t, h, h0 => by
    have hm : m = 0 := by simpa using h
    have ht : t ≠ [] := fun e => by have := h0 e; omega
    rw [if_pos ⟨hm, ht⟩]; rfl
  | f + 1, m, t, h, h0 => by
    by_cases q : m = 0 ∧ t ≠ []
    · rw [if_pos q]
      show (if m = 0 ∧ ¬ t = [] then t else decF f (m / 10) (UInt8.ofNat (48 + m % 10) :: t)) = _
      rw [if_pos q]
    · rw [if_neg q]
      show (if m = 0 ∧ ¬ t = [] then t else decF f (m / 10) (UInt8.ofNat (48 + m % 10) :: t)) = _
      rw [if_neg q, decF_dec f (m / 10) _ (by rw [Nat.pow_succ] at h; omega) (by simp)]
      by_cases h10 : m < 10
      · rw [if_pos ⟨by omega, by simp⟩, Lib.decDigits_one h10, Nat.mod_eq_of_lt h10]; rfl
      · rw [if_neg (by intro h; have := h.1; omega)]
        have e : Lib.decDigits m = Lib.decDigits (m / 10) ++ [UInt8.ofNat (48 + m % 10)] := by rw [Lib.decDigits, dif_neg h10]
        rw [e]; simp
theorem decL_dec (n : Nat) (h : n ≤ 16777215) : decL n = Lib.decDigits n := by
  unfold decL
  rw [decF_dec 20 n [] (by have : 10 ^ 20 = 100000000000000000000 := by decide
                           omega) (by intro _; decide), if_neg (by simp), List.append_nil]
theorem itoa5_any (n : Nat) (h1 : n ≤ 16777215) (w : World) (htab : Pow w) :
    Calls Tryz.prog 24 #[.int .i64 (n : Int)] w fun e w' => e = .returned (.string ⟨(decL n).toArray⟩) ∧ Below w.heap.size w w' :=
  (Any.strconv_Itoa Tryz.laysM171 (n : Int) (by omega) (by omega) w htab).mono fun e w' ⟨h, k, os, hw⟩ => ⟨by rw [h]; unfold Lib.itoa; rw [if_neg (by omega), decL_dec n h1]; rfl, by rw [hw]; exact Lib.below_grow _ _ (Nat.le_refl _) k os⟩
theorem rts_all5 {F : Int} {l : List Rte} (h : rtsE F l = 0) : ∀ r ∈ l, checkE F r.1.1 r.1.2 = 0 := by
  intro r hr
  unfold rtsE at h
  split at h
  · split at h
    · omega
    · have := rtsG_all F l h r hr
      unfold rteE at this
      by_cases hc : checkE F r.1.1 r.1.2 = 0
      · exact hc
      · rw [if_neg hc] at this; exact absurd this hc
  · omega
theorem tabE_one {F : Int} {l : List Rte} {z y : Int} (h : TabE F l z) (k : TabE F l y) : z = y := by
  by_cases h0 : rtsE F l = 0
  · rcases h.2 h0 with ⟨a, b⟩ | ⟨a, b⟩ <;> rcases k.2 h0 with ⟨c, d⟩ | ⟨c, d⟩
    · omega
    · exact absurd a c
    · exact absurd c a
    · omega
  · rw [h.1 h0, k.1 h0]
theorem tabE_zero {F : Int} {l : List Rte} (h : TabE F l 0) : rtsE F l = 0 := by
  apply Classical.byContradiction
  intro h0
  exact h0 (h.1 h0).symm
theorem tx5_step (F : Int) (l : List Rte) (k : Nat) (r : Rte) (h : l[k]? = some r) : tx5 F (l.take (k + 1)) = tx5 F (l.take k) ++ lnT F r := by
  rw [List.take_add_one, h, tx5_app]
  show _ ++ (lnT F r ++ []) = _
  rw [List.append_nil]
theorem new_b5 (W : World) (o : Obj) : (W.alloc o).heap[W.heap.size]? = some o := by rw [show (W.alloc o).heap = W.heap.push o from rfl]; simp
theorem bsz5 (S : ByteArray) : S.data.toList.length = S.size := Array.length_toList
theorem OKb.be {b : Nat} {A B C : World} (h : Below b A B) (g : OKb b B C) : Below b A C := ⟨by rw [g.1.os, h.os], by rw [g.1.tape, h.tape], by rw [g.1.output, h.output], Nat.le_trans h.size g.1.size, fun z hz => by rw [g.1.block z hz, h.block z hz]⟩
theorem be_be {b : Nat} {A B C : World} (h : Below b A B) (hb : b ≤ B.heap.size) (g : Below B.heap.size B C) : Below b A C := ⟨by rw [g.os, h.os], by rw [g.tape, h.tape], by rw [g.output, h.output], Nat.le_trans h.size g.size, fun z hz => by rw [g.block z (Nat.lt_of_lt_of_le hz hb), h.block z hz]⟩
set_option maxRecDepth 100000 in
set_option maxHeartbeats 16000000 in
theorem ttext_any (F : Int) (v : Value) (l : List Rte) (w : World) (hv : RwR w v l) (hP : Pow w) (hT : Tab w) (hl : l.length ≤ 1000000) :
    Calls Tryz.prog 7 #[.agg #[.int .i64 F, v]] w (TxQ F l w) := by
  have HVw := hidR hv
  obtain ⟨ao, c, rfl, hv⟩ := hv
  have q1 := bl1 w (.cells #[.int .i64 F, .slice ao l.length c] 24)
  have HT := hidR (att_new w w.heap.size F (.slice ao l.length c) 24 rfl)
  have HB := hidR q1
  have HV : Hid (l = [] ∨ ∃ b off, ao = some ⟨b, off, none⟩ ∧ ∀ j u, (rowR l)[j]? = some u → w.cell? ⟨b, off + j, none⟩ = some u) := hv
  have KC := tcheck_any F (.slice ao l.length c) l _ (HVw.out.below q1)
  have HPT : Hid (Pow w ∧ Tab w) := ⟨hP, hT⟩
  have HL : Hid (l.length ≤ 1000000) := hl
  obtain ⟨t0, t1⟩ := HT.out
  clear hv q1 hP hT hl HVw
  go_enter Tryz.func7, Tryz.ntmps7
  go_wp2_with fail
  refine KC.mono ?_
  rintro e w1 ⟨⟨z, hz, rfl⟩, hb1⟩
  have HZ := hidR hz
  have HT1 := hidR (HT.out.below hb1)
  have HB1 := hidR (keepb hb1 HB.out)
  clear KC hz hb1 HB t0 t1 HT
  by_cases h0 : z = 0
  · subst h0
    have hr0 := tabE_zero HZ.out
    have HHop := hidR (rts_hop hr0).2.2
    have HChk := hidR (rts_all5 hr0)
    obtain ⟨t0, t1⟩ := HT1.out
    have q2 := bl1 w1 (.cells #[.pointer none, .slice none 0 0] 55)
    have HS0 : Hid (IsB w1.heap.size [] (w1.alloc (.cells #[.pointer none, .slice none 0 0] 55)) ∧ Below w1.heap.size w1 (w1.alloc (.cells #[.pointer none, .slice none 0 0] 55))) := hidR ⟨Lib.fresh_isBuilder _ _ _, q2⟩
    have t0' := keepc q2 t0
    have t1' := keepc q2 t1
    clear hr0 q2
    go_wp2_with fail
    clear t0' t1'
    go_loopg [18] l.length (fun g kv wr => ∃ k : Nat, k + g = l.length ∧ kv = .int .i64 (k : Int) ∧ Hid (IsB w1.heap.size (tx5 F (l.take k)) wr ∧ Below w1.heap.size w1 wr))
    case atStart => exact ⟨0, by omega, rfl, HS0⟩
    case round =>
      clear HS0
      obtain ⟨k, hk, rfl, HS⟩ := hrel
      by_cases hlt : (k : Int) < (l.length : Int)
      · have hks : k < l.length := by omega
        obtain ⟨b, off, rfl, hc⟩ := HV.out.resolve_left (by rintro rfl; simp at hks)
        obtain ⟨x0, x1, x2, x3⟩ := rwr_cells hc k hks
        have hBw := keepb HS.out.2 HB1.out
        replace x0 := keepc hBw x0
        replace x1 := keepc hBw x1
        replace x2 := keepc hBw x2
        replace x3 := keepc hBw x3
        have hh := HHop.out _ (List.getElem_mem hks)
        have hck := HChk.out _ (List.getElem_mem hks)
        have HTx := hidR (tx5_step F l k _ (List.getElem?_eq_getElem hks))
        have htl := tx5_len F (l.take k)
        generalize l[k] = r at *
        obtain ⟨⟨rx, rn⟩, rh⟩ := r
        dsimp only at x0 x1 x2 x3 hh hck
        obtain ⟨hn, rfl⟩ : ∃ hn : Nat, rh = (hn : Int) := ⟨rh.toNat, by omega⟩
        have q3 := bl1 wr (.cells #[.int .u64 (hI rx), .int .u64 (lI rx), .int .i64 rn, .int .i64 (hn : Int)] 47)
        have HRb := hidR (new_b5 wr (.cells #[.int .u64 (hI rx), .int .u64 (lI rx), .int .i64 rn, .int .i64 (hn : Int)] 47))
        have HI3 := hidR (HS.out.1.okB q3)
        have HB3 := hidR (keepb q3 HS.out.2)
        have t0' := keepc HB3.out t0
        have KT := ptextD_any F rx rn _ (HPT.out.1.keep (keepb q3 hBw)) (HPT.out.2.keep (keepb q3 hBw)) hck
        have HLt : Hid ((tx5 F (l.take k)).length ≤ 143000000 ∧ hn ≤ 65535 ∧ k + gk = l.length ∧ k < l.length) := by
          rw [List.length_take] at htl
          have := HL.out
          exact ⟨by omega, by omega, hk, hks⟩
        have HPz := hidR (ptxD_size F rx rn)
        have HLn : Hid (tx5 F (l.take (k + 1)) = tx5 F (l.take k) ++ (ptxD F rx rn).data.toList ++ [32] ++ decL hn ++ [10]) := by
          show _ = _
          rw [HTx.out]
          unfold lnT
          simp
        have hdl : Hid ((decL hn).length ≤ 20) := hidR (by
          have h20 := (decF_len 20 hn [] (by have : 10 ^ 20 = 100000000000000000000 := by decide
                                             omega) (by intro _; decide)).2
          simpa [decL] using h20)
        generalize tx5 F (l.take k) = t at *
        generalize ptxD F rx rn = S1 at *
        obtain ⟨S2, hS2⟩ : ∃ S2 : ByteArray, S2 = ⟨(decL hn).toArray⟩ := ⟨_, rfl⟩
        have HS2 : Hid (S2.data.toList = decL hn ∧ S2.size ≤ 20) := hidR (by rw [hS2]; exact ⟨rfl, hdl.out⟩)
        have KI := fun W (h : Pow W) => itoa5_any hn (by omega) W h
        rw [← hS2] at KI
        have mk : IntKind.i64.wrap ((k : Int) + 1) = (k : Int) + 1 := by rw [IntKind.wrap_i64]; have := HL.out; omega
        have HNe : Hid (wr.heap.size ≠ w1.heap.size) := hidR (by have := HS.out.1.lt; omega)
        clear hc hk hh hck HTx htl q3 hBw hS2 hdl
        go_wp2_with fail
        refine KT.mono ?_
        rintro e w3 ⟨rfl, hb3⟩
        have HI4 := hidR (HI3.out.okB hb3)
        have HB4 := hidR (keepb hb3 HB3.out)
        have HR4 := hidR ((hb3.block _ (lt_b15 HRb.out)).trans HRb.out)
        have K4 := wstr_any w1.heap.size t S1 w3 HI4.out (by have := HLt.out; have := HPz.out; omega) HB4.out.size
        clear KT hb3 x0 x1 x2 x3 t0' HI3 HB3 HRb
        go_wp2_with fail
        refine K4.mono ?_
        rintro e w4 ⟨rfl, hi4, ho4⟩
        have HI5 := hidR hi4
        have HB5 := hidR (OKb.be HB4.out ho4)
        have HR5 := hidR (ho4.2 wr.heap.size _ HR4.out (by intro e; injection e with e; exact HNe.out e) (by intro c fz e; injection e with e1 e2 e3; revert e2; decide))
        have hz5 : (t ++ S1.data.toList).length ≤ 100000000000 := by have := HLt.out; have := HPz.out; have := bsz5 S1; rw [List.length_append]; omega
        have K5 : Calls Tryz.prog 23 #[.pointer (some ⟨w1.heap.size, 0, none⟩), .int .u8 32] w4 fun e w' => e = .returned .nilIface ∧ IsB w1.heap.size (t ++ S1.data.toList ++ [32]) w' ∧ OKb w1.heap.size w4 w' := wbyte_any w1.heap.size (t ++ S1.data.toList) 32 w4 HI5.out hz5 HB5.out.size
        clear K4 hi4 ho4 HI4 HB4 HR4
        go_wp2_with fail
        refine K5.mono ?_
        rintro e w5 ⟨rfl, hi5, ho5⟩
        have HI6 := hidR hi5
        have HB6 := hidR (OKb.be HB5.out ho5)
        have HR6 := hidR (ho5.2 wr.heap.size _ HR5.out (by intro e; injection e with e; exact HNe.out e) (by intro c fz e; injection e with e1 e2 e3; revert e2; decide))
        have hop : w5.cell? ⟨wr.heap.size, 3, none⟩ = some (.int .i64 (hn : Int)) := by simp [World.cell?, HR6.out]
        have K6 := KI w5 (HPT.out.1.keep (keepb HB6.out HB1.out))
        clear K5 hi5 ho5 HI5 HB5 HR5 KI hz5
        go_wp2_with fail
        refine K6.mono ?_
        rintro e w6 ⟨rfl, hb6⟩
        have HI7 := hidR (HI6.out.okB hb6)
        have HB7 := hidR (be_be HB6.out HB6.out.size hb6)
        have hl6 : Hid ((t ++ S1.data.toList ++ [32]).length ≤ 143000200) := hidR (by
          have := HLt.out
          have h2 := HPz.out
          have h3 := bsz5 S1
          rw [List.length_append, List.length_append]
          show _ + 1 ≤ _
          omega)
        generalize t ++ S1.data.toList ++ [32] = t2 at *
        have K7 := wstr_any w1.heap.size t2 S2 w6 HI7.out (by have := hl6.out; have := HS2.out; omega) HB7.out.size
        clear K6 hb6 HI6 HB6 hop HR6
        go_wp2_with fail
        refine K7.mono ?_
        rintro e w7 ⟨rfl, hi7, ho7⟩
        have HI8 := hidR hi7
        have HB8 := hidR (OKb.be HB7.out ho7)
        have hz8 : (t2 ++ S2.data.toList).length ≤ 100000000000 := by have := hl6.out; have := HS2.out; have := bsz5 S2; rw [List.length_append]; omega
        have K8 : Calls Tryz.prog 23 #[.pointer (some ⟨w1.heap.size, 0, none⟩), .int .u8 10] w7 fun e w' => e = .returned .nilIface ∧ IsB w1.heap.size (t2 ++ S2.data.toList ++ [10]) w' ∧ OKb w1.heap.size w7 w' := wbyte_any w1.heap.size (t2 ++ S2.data.toList) 10 w7 HI8.out hz8 HB8.out.size
        clear K7 hi7 ho7 HI7 HB7
        go_wp2_with fail
        refine K8.mono ?_
        rintro e w8 ⟨rfl, hi8, ho8⟩
        have HB9 := hidR (OKb.be HB8.out ho8)
        have HI9 : Hid (IsB w1.heap.size (tx5 F (l.take (k + 1))) w8) := hidR (by rw [HLn.out, ← HS2.out.1]; exact hi8)
        clear K8 hi8 ho8 HI8 HB8 hz8
        go_wp2
        go_roundg (gk - 1)
        case measure => have := HLt.out; omega
        case rel => exact ⟨k + 1, by have := HLt.out; omega, rfl, HI9, HB9.out⟩
      · have HTx : Hid (tx5 F (l.take k) = tx5 F l) := by show _ = _; rw [List.take_of_length_le (by omega)]
        have KS := bstr_any w1.heap.size _ wr HS.out.1 (Nat.le_of_lt HS.out.1.lt)
        rw [HTx.out] at KS
        obtain ⟨S, hS⟩ : ∃ S, S = bL9 (tx5 F l) := ⟨_, rfl⟩
        replace KS : Calls Tryz.prog 25 #[.pointer (some ⟨w1.heap.size, 0, none⟩)] wr fun e w' => e = .returned (.string S) ∧ Below w1.heap.size wr w' := by rw [hS]; exact KS
        have HSS := hidR hS
        have HBr := hidR HS.out.2
        clear HS hk HTx hS
        go_wp2_with fail
        refine KS.mono ?_
        rintro e w9 ⟨rfl, hb9⟩
        have HF : Hid (Below w.heap.size w w9) := hidR (keepb (show Below w1.heap.size w1 w9 from ⟨by rw [hb9.os, HBr.out.os], by rw [hb9.tape, HBr.out.tape], by rw [hb9.output, HBr.out.output], Nat.le_trans HBr.out.size hb9.size, fun z hz => by rw [hb9.block z hz, HBr.out.block z hz]⟩) HB1.out)
        clear KS hb9 HBr
        go_wp2
        exact bodyPost_ret (v := .tuple #[.string S, .int .i64 0]) (by simp [results, Tryz.results7, go_sem]) rfl ⟨⟨0, HZ.out, by rw [if_pos rfl, HSS.out]⟩, HF.out⟩
  · have hn : (z != 0) = true := by simpa using h0
    have HE : Hid ((if z = 0 then bL9 (tx5 F l) else ⟨#[]⟩) = (⟨#[]⟩ : ByteArray)) := by show _ = _; rw [if_neg h0]
    clear h0
    go_wp2
    exact bodyPost_ret (v := .tuple #[.string ⟨#[]⟩, .int .i64 z]) (by simp [results, Tryz.results7, go_sem]) rfl ⟨⟨z, HZ.out, by rw [HE.out]⟩, HB1.out⟩
end Go.Proofs.YtpiicdpipjjenaaGreatDoor
namespace Go.Proofs.YtpiicdpipjjenaaGreatDoor
open Go.RowKit

end Go.Proofs.YtpiicdpipjjenaaGreatDoor
namespace Go.Proofs.YtpiicdpipjjenaaGreatDoor
open Go.RowKit
set_option linter.unusedSimpArgs false
set_option linter.unusedVariables false

theorem eqR_run (x : BitVec 128) (n h : Int) (w : World) :
    (Op.equalIn 10000 47 (.agg #[.int .u64 (hI x), .int .u64 (lI x), .int .i64 n, .int .i64 h]) (.agg #[.int .u64 (hI x), .int .u64 (lI x), .int .i64 n, .int .i64 h])).run Tryz.prog w = .ok true w := by
  go_simp
end Go.Proofs.YtpiicdpipjjenaaGreatDoor
