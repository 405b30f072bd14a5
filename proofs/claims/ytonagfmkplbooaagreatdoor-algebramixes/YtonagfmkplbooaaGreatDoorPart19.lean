/-
  Part 19 of the proof: 3 texts, one behind the other.
-/
import Derived.Test.YtonagfmkplbooaaGreatDoorPart18
import Derived.Test.YtonagfmkplbooaaGreatDoorPart10
import Derived.Test.YtonagfmkplbooaaGreatDoorPart2
import Derived.Test.YtonagfmkplbooaaGreatDoorPart6
/-
  What the call of package algebra's sweep does.
-/
namespace Go.Proofs.YtonagfmkplbooaaGreatDoor
open Go.RowKit
set_option linter.unusedSimpArgs false
set_option linter.unusedVariables false

def lenW : Value → Nat
  | .slice _ n _ => n
  | _ => 0
/-- How many routes are open, by the sweeper's memory. -/
def opN (W : World) (B : Nat) : Nat := lenW ((W.cell? ⟨B, 1, none⟩).getD undef)
theorem SwV.opN {W : World} {base B : Nat} {F : Int} {op : List Rte} {t : T3} {Z : Nat → Prop} {ob : Nat → Option Obj} {vo vc vt : Value} (k : SwV W base B F op t Z ob vo vc vt) : opN W B = op.length := by
  obtain ⟨ao, c, e⟩ := own_form k.oo
  unfold Go.Proofs.YtonagfmkplbooaaGreatDoor.opN
  rw [k.c.1.2.1, e]
  rfl
theorem sw_start (w : World) (F : Int) (o1 : Obj) : SwV (((w.alloc o1).alloc (.cells #[.int .u64 0, .int .u64 0, .int .i64 0, .int .i64 0] 45)).alloc (.cells #[.int .i64 F, .slice (some ⟨w.heap.size + 1, 0, none⟩) 1 1, .int .u64 0, .int .u64 0, .bool false, .slice none 0 0] 72)) (w.heap.size + 1) (w.heap.size + 1 + 1) F op0 t30 (fun _ => False) (fun _ => none) (.slice (some ⟨w.heap.size + 1, 0, none⟩) 1 1) (.slice none 0 0) (.slice none 0 0) := by
  have h0 : hI 0#128 = 0 := by decide
  have h1 : lI 0#128 = 0 := by decide
  refine ⟨?_, ?_, World.ownsRow_nil _ _ _ _, ?_, by simp [Value.ownBlock], ?_, by omega, (fun _ h => h.elim), (fun _ h => h.elim), (fun _ h => h.elim), (fun _ h => h.elim), (fun _ h => h.elim)⟩
  · unfold SwC t30
    simp only [h0, h1]
    refine ⟨⟨?_, ?_, ?_, ?_, ?_, ?_⟩, ?_, ?_, ?_, ?_, ?_⟩ <;> simp [go_sem]
  · refine own_heap (W := (w.alloc o1).alloc (.cells #[.int .u64 0, .int .u64 0, .int .i64 0, .int .i64 0] 45)) ?_ (fun g e => ?_)
    · have e : rowR op0.reverse = [.int .u64 0, .int .u64 0, .int .i64 0, .int .i64 0] := by simp [op0, rowR, h0, h1]
      have hz : (w.alloc o1).heap.size = w.heap.size + 1 := by simp
      refine ⟨by rw [e]; rfl, .inr ⟨w.heap.size + 1, 1, #[.int .u64 0, .int .u64 0, .int .i64 0, .int .i64 0], rfl, Nat.le_refl _, ?_, Nat.le_refl _, by unfold maxLen; omega, rfl, by rw [e]; rfl⟩⟩
      rw [← hz]
      exact Array.getElem?_push_size
    · have : w.heap.size + 1 = g := by simpa [Value.ownBlock] using e
      exact hAl _ (by simp; omega)
  · intro e
    simp [Value.ownBlock] at e
  · intro z e
    simp [Value.ownBlock]
theorem pop_within (r o : Rte) (os : List Rte) (F : Int) (t : T3) (h : withinB r.1.1 r.1.2 o.1.1 o.1.2 = true) : popO r (o :: os) = o :: os ∧ popT F r (o :: os) t = t := by
  rw [popO, popT, if_pos h, if_pos h]; exact ⟨rfl, rfl⟩
theorem pop_not (r o : Rte) (os : List Rte) (F : Int) (t : T3) (h : withinB r.1.1 r.1.2 o.1.1 o.1.2 = false) : popO r (o :: os) = popO r os ∧ popT F r (o :: os) t = popT F r os (tell3 F (lastW F o.1.1 o.1.2) o.2 t) := by
  rw [popO, popT, if_neg (by rw [h]; decide), if_neg (by rw [h]; decide)]; exact ⟨rfl, rfl⟩
set_option maxRecDepth 20000 in
set_option maxHeartbeats 8000000 in
theorem sweep_any (F : Int) (v : Value) (l : List Rte) (w : World) (hv : RwR w v l) (hl : l.length ≤ 10000000) (hr : ∀ r ∈ l, 0 ≤ r.1.2) :
    Calls Tryz.prog 19 #[.agg #[.int .i64 F, v]] w fun e w' => (∃ v', e = .returned v' ∧ w'.ownsRow w.heap.size 47 5 v' (swp F l).length (rowG (swp F l))) ∧ Below w.heap.size w w' := by
  obtain ⟨ao, c, rfl, hv⟩ := hv
  have HV := hidR hv
  have HRr := hidR hr
  have HS := hidR (sw_start w F (.cells #[.int .i64 F, .slice ao l.length c] 24))
  have HB := hidR ((bl2 w (.cells #[.int .i64 F, .slice ao l.length c] 24) (.cells #[.int .u64 0, .int .u64 0, .int .i64 0, .int .i64 0] 45)).alloc (by simp; omega) (.cells #[.int .i64 F, .slice (some ⟨w.heap.size + 1, 0, none⟩) 1 1, .int .u64 0, .int .u64 0, .bool false, .slice none 0 0] 72))
  clear hv hr
  have t0 := keepc (bl2 (w.alloc (.cells #[.int .i64 F, .slice ao l.length c] 24)) (.cells #[.int .u64 0, .int .u64 0, .int .i64 0, .int .i64 0] 45) (.cells #[.int .i64 F, .slice (some ⟨w.heap.size + 1, 0, none⟩) 1 1, .int .u64 0, .int .u64 0, .bool false, .slice none 0 0] 72)) (show (w.alloc (.cells #[.int .i64 F, .slice ao l.length c] 24)).cell? ⟨w.heap.size, 1, none⟩ = some (.slice ao l.length c) by simp [go_sem])
  go_enter Tryz.func19, Tryz.ntmps19
  go_wp2_with fail
  go_loopw [14] (fun i wr => ∃ (k : Nat) (op : List Rte) (t : T3) (vo vt : Value), k ≤ l.length ∧ i = .int .i64 k ∧ Hid (SwV wr (w.heap.size + 1) (w.heap.size + 1 + 1) F op t (fun _ => False) (fun _ => none) vo vt vt) ∧ Hid (Bot op) ∧ Hid (swpGo F op t (l.drop k) = swpGo F op0 t30 l) ∧ op.length + t.2.2.length ≤ 1 + 2 * k ∧ Hid (Below w.heap.size w wr)) (fun i _ => l.length - (intOf i).toNat)
  case atStart => exact ⟨0, op0, t30, _, _, by omega, rfl, HS, hidR ⟨[], rfl⟩, hidR rfl, by simp [op0, t30], HB⟩
  case round =>
    clear HS HB t0
    obtain ⟨k, op, t, vo, vt, hk, rfl, HS, HBo, HG, hsz, HB⟩ := hrel
    by_cases hlt : (k : Int) < (l.length : Int)
    · have hks : k < l.length := by omega
      rcases HV.out with h | ⟨b, off, rfl, hc⟩
      · rw [h] at hks; simp at hks
      · obtain ⟨x0, x1, x2, x3⟩ := rwr_cells hc k hks
        have x0 := keepc HB.out x0
        have x1 := keepc HB.out x1
        have x2 := keepc HB.out x2
        have x3 := keepc HB.out x3
        have hr0 := HRr.out l[k] (List.getElem_mem hks)
        have HD := hidR (List.drop_eq_getElem_cons hks)
        clear hc
        revert hr0 HD
        generalize hlk : l[k] = r at *
        obtain ⟨⟨rx, rm⟩, rh⟩ := r
        dsimp only at x0 x1 x2 x3 ⊢
        clear hlk
        intro hr0 HD
        have HS1 : Hid (SwV (wr.alloc (.cells #[.int .u64 (hI rx), .int .u64 (lI rx), .int .i64 rm, .int .i64 rh] 45)) (w.heap.size + 1) (w.heap.size + 1 + 1) F op t (fun z => False ∨ z = wr.heap.size) (fun z => (wr.alloc (.cells #[.int .u64 (hI rx), .int .u64 (lI rx), .int .i64 rm, .int .i64 rh] 45)).heap[z]?) vo vt vt) := hidR (HS.out.more _)
        have HRr1 : Hid (∀ W : World, W.heap[wr.heap.size]? = (wr.alloc (.cells #[.int .u64 (hI rx), .int .u64 (lI rx), .int .i64 rm, .int .i64 rh] 45)).heap[wr.heap.size]? → AtR W wr.heap.size rx rm rh) := hidR (fun W e => (atr_new wr wr.heap.size rx rm rh 45 rfl).heap e)
        have HB1 := hidR (HB.out.alloc HB.out.size (.cells #[.int .u64 (hI rx), .int .u64 (lI rx), .int .i64 rm, .int .i64 rh] 45))
        have hk2 : IntKind.i64.wrap ((k : Int) + 1) = (k : Int) + 1 := by rw [IntKind.wrap_i64]; omega
        go_wp2_with fail
        clear x0 x1 x2 x3
        generalize wr.heap.size = R0 at *
        revert HS1 HB1 HRr1
        generalize (wr.alloc (.cells #[.int .u64 (hI rx), .int .u64 (lI rx), .int .i64 rm, .int .i64 rh] 45)) = W0
        intro HB1 HS1 HRr1
        go_loopw [] (fun W => ∃ (op2 : List Rte) (t2 : T3) (vo2 vt2 : Value), Hid (SwV W (w.heap.size + 1) (w.heap.size + 1 + 1) F op2 t2 (fun z => False ∨ z = R0) (fun z => W0.heap[z]?) vo2 vt2 vt2) ∧ Hid (Bot op2) ∧ Hid (popO ((rx, rm), rh) op2 = popO ((rx, rm), rh) op ∧ popT F ((rx, rm), rh) op2 t2 = popT F ((rx, rm), rh) op t) ∧ op2.length + t2.2.2.length ≤ 1 + 2 * k ∧ Hid (Below w.heap.size w W)) (fun W => opN W (w.heap.size + 1 + 1))
        case atStart => exact ⟨op, t, vo, vt, HS1, HBo, hidR ⟨rfl, rfl⟩, hsz, HB1⟩
        case round =>
          clear HS1 HB1
          obtain ⟨op2, t2, vo2, vt2, HS2, HBo2, HP2, hsz2, HB2⟩ := hrel
          cases op2 with
          | nil => exact absurd rfl HBo2.out.ne
          | cons o os =>
            obtain ⟨⟨ox, om⟩, oh⟩ := o
            obtain ⟨g, cap, rfl, -, hcap⟩ := HS2.out.inner
            have hos : os.length ≤ 1000000000 := by simp only [List.length_cons] at hsz2; omega
            have hto : t2.2.2.length ≤ 1000000000 := by omega
            have KI : ∀ W, SwV W (w.heap.size + 1) (w.heap.size + 1 + 1) F (((ox, om), oh) :: os) t2 (fun z => False ∨ z = R0) (fun z => W0.heap[z]?) (.slice (some ⟨g, 0, none⟩) (os.length + 1) cap) vt2 vt2 → Calls Tryz.prog 37 #[.pointer (some ⟨w.heap.size + 1 + 1, 0, none⟩)] W fun e w' => e = .returned (.agg #[.int .u64 (hI ox), .int .u64 (lI ox), .int .i64 om, .int .i64 oh]) ∧ Below W.heap.size W w' := fun W h => by
              obtain ⟨g', cap', e, h2, -⟩ := h.inner
              injection e with e1 _ e3
              injection e1 with e1
              injection e1 with e1
              subst e1
              subst e3
              exact inner_any _ g os.length cap ox om oh W h2 hos
            have KW := fun w => pwithin_any rx rm ox om w
            have HO := hidR HS2.out.opN
            obtain ⟨bw, hbw⟩ : ∃ b, b = withinB rx rm ox om := ⟨_, rfl⟩
            rw [← hbw] at KW
            cases bw with
            | true =>
              have HPw := hidR (pop_within ((rx, rm), rh) ((ox, om), oh) os F t2 hbw.symm)
              clear hbw
              go_wp2_with fail
              refine q_region (C := fun W => SwV W (w.heap.size + 1) (w.heap.size + 1 + 1) F (((ox, om), oh) :: os) t2 (fun z => False ∨ z = R0) (fun z => W0.heap[z]?) (.slice (some ⟨g, 0, none⟩) (os.length + 1) cap) vt2 vt2 ∧ Below w.heap.size w W) (by kernel_rfl) (by kernel_rfl) ⟨HS2.out.below (below_drewN (Below.refl _ _) 1), HB2.out.drew⟩ ?_
              clear HS2 HB2
              refine q_run (v := .pointer (some ⟨R0, 0, none⟩)) (by rfl) ?_ ?_
              · (intro w1 hC; obtain ⟨r0, r1, r2, r3⟩ := HRr1.out w1 (hC.1.z _ (.inr rfl)); clear hC; go_simp; first | done | (simp; done) | (simp [*]; done) | omega | (simp; omega) | (rw [IntKind.wrap_i64]; omega) | (intro hx; omega) | rfl)
              simp only [Act.put, List.setIfInBounds_toArray, List.set_cons_zero, List.set_cons_succ]
              refine q_run (v := .agg #[.int .u64 (hI rx), .int .u64 (lI rx), .int .i64 rm]) (by rfl) ?_ ?_
              · (intro w1 hC; obtain ⟨r0, r1, r2, r3⟩ := HRr1.out w1 (hC.1.z _ (.inr rfl)); clear hC; go_simp; first | done | (simp; done) | (simp [*]; done) | omega | (simp; omega) | (rw [IntKind.wrap_i64]; omega) | (intro hx; omega) | rfl)
              simp only [Act.put, List.setIfInBounds_toArray, List.set_cons_zero, List.set_cons_succ]
              refine q_call (v := .agg #[.int .u64 (hI ox), .int .u64 (lI ox), .int .i64 om, .int .i64 oh]) (f := 37) (args := #[.pointer (some ⟨w.heap.size + 1 + 1, 0, none⟩)]) (by rfl) ?_ ?_ ?_
              · (intro w1 hC; clear hC; go_simp)
              · exact fun w1 hC => (KI w1 hC.1).mono fun e w' ⟨he, hb⟩ => ⟨he, hC.1.below hb, keepb hb hC.2⟩
              simp only [Act.put, List.setIfInBounds_toArray, List.set_cons_zero, List.set_cons_succ]
              refine q_run (v := .agg #[.int .u64 (hI ox), .int .u64 (lI ox), .int .i64 om]) (by rfl) ?_ ?_
              · (intro w1 hC; obtain ⟨r0, r1, r2, r3⟩ := HRr1.out w1 (hC.1.z _ (.inr rfl)); clear hC; go_simp; first | done | (simp; done) | (simp [*]; done) | omega | (simp; omega) | (rw [IntKind.wrap_i64]; omega) | (intro hx; omega) | rfl)
              simp only [Act.put, List.setIfInBounds_toArray, List.set_cons_zero, List.set_cons_succ]
              refine q_call (v := .bool true) (f := 36) (args := #[.agg #[.int .u64 (hI rx), .int .u64 (lI rx), .int .i64 rm], .agg #[.int .u64 (hI ox), .int .u64 (lI ox), .int .i64 om]]) (by rfl) ?_ ?_ ?_
              · (intro w1 hC; clear hC; go_simp)
              · exact fun w1 hC => (KW w1).mono fun e w' ⟨he, hb⟩ => ⟨he, hC.1.below hb, keepb hb hC.2⟩
              simp only [Act.put, List.setIfInBounds_toArray, List.set_cons_zero, List.set_cons_succ]
              refine q_run (v := .bool false) (by rfl) ?_ ?_
              · (intro w1 hC; obtain ⟨r0, r1, r2, r3⟩ := HRr1.out w1 (hC.1.z _ (.inr rfl)); clear hC; go_simp; first | done | (simp; done) | (simp [*]; done) | omega | (simp; omega) | (rw [IntKind.wrap_i64]; omega) | (intro hx; omega) | rfl)
              simp only [Act.put, List.setIfInBounds_toArray, List.set_cons_zero, List.set_cons_succ]
              refine wpQuiet_nil ?_
              intro W hC
              have HC := hidR hC
              obtain ⟨r0, r1, r2, r3⟩ := HRr1.out W (hC.1.z _ (.inr rfl))
              clear hC KI KW
              go_wp2_with fail
              refine (enter_any _ _ F ((rx, rm), rh) ((ox, om), oh) os t2 _ _ _ vt2 W HC.out.1 hos hto).mono ?_
              rintro e w3 ⟨rfl, ⟨vo3, vt3, h3⟩, hb⟩
              have H3 := hidR (h3.fewer (Y := fun _ => False) (od := fun _ => none) (fun _ q => q.elim) (fun _ q => q.elim))
              have HB3 := hidR (HC.out.2.trans (hb.mono (by omega)))
              have hel := entT_len F ((rx, rm), rh) oh t2
              clear h3 hb HC r0 r1 r2 r3
              go_wp2
              go_roundw
              case rel =>
                refine ⟨k + 1, ((rx, rm), rh) :: ((ox, om), oh) :: os, entT F ((rx, rm), rh) oh t2, vo3, vt3, by omega, by simp, H3, ?_, ?_, ?_, HB3⟩
                · obtain ⟨q, hq⟩ := HBo2.out
                  exact hidR ⟨((rx, rm), rh) :: q, by rw [hq]; rfl⟩
                · show swpGo F _ _ (l.drop (k + 1)) = swpGo F op0 t30 l
                  rw [← HG.out, HD.out, swpGo, ← HP2.out.1, ← HP2.out.2, HPw.out.1, HPw.out.2, hopO]
                · simp only [List.length_cons] at hsz2 ⊢
                  omega
              case measure => simp [intOf]; omega
            | false =>
              have HPw := hidR (pop_not ((rx, rm), rh) ((ox, om), oh) os F t2 hbw.symm)
              have HBt := hidR (HBo2.out.tl ((rx, rm), rh) hr0 (by rw [← hbw]; decide))
              clear hbw
              go_wp2_with fail
              refine q_region (C := fun W => SwV W (w.heap.size + 1) (w.heap.size + 1 + 1) F (((ox, om), oh) :: os) t2 (fun z => False ∨ z = R0) (fun z => W0.heap[z]?) (.slice (some ⟨g, 0, none⟩) (os.length + 1) cap) vt2 vt2 ∧ Below w.heap.size w W) (by kernel_rfl) (by kernel_rfl) ⟨HS2.out.below (below_drewN (Below.refl _ _) 1), HB2.out.drew⟩ ?_
              clear HS2 HB2
              refine q_run (v := .pointer (some ⟨R0, 0, none⟩)) (by rfl) ?_ ?_
              · (intro w1 hC; obtain ⟨r0, r1, r2, r3⟩ := HRr1.out w1 (hC.1.z _ (.inr rfl)); clear hC; go_simp; first | done | (simp; done) | (simp [*]; done) | omega | (simp; omega) | (rw [IntKind.wrap_i64]; omega) | (intro hx; omega) | rfl)
              simp only [Act.put, List.setIfInBounds_toArray, List.set_cons_zero, List.set_cons_succ]
              refine q_run (v := .agg #[.int .u64 (hI rx), .int .u64 (lI rx), .int .i64 rm]) (by rfl) ?_ ?_
              · (intro w1 hC; obtain ⟨r0, r1, r2, r3⟩ := HRr1.out w1 (hC.1.z _ (.inr rfl)); clear hC; go_simp; first | done | (simp; done) | (simp [*]; done) | omega | (simp; omega) | (rw [IntKind.wrap_i64]; omega) | (intro hx; omega) | rfl)
              simp only [Act.put, List.setIfInBounds_toArray, List.set_cons_zero, List.set_cons_succ]
              refine q_call (v := .agg #[.int .u64 (hI ox), .int .u64 (lI ox), .int .i64 om, .int .i64 oh]) (f := 37) (args := #[.pointer (some ⟨w.heap.size + 1 + 1, 0, none⟩)]) (by rfl) ?_ ?_ ?_
              · (intro w1 hC; clear hC; go_simp)
              · exact fun w1 hC => (KI w1 hC.1).mono fun e w' ⟨he, hb⟩ => ⟨he, hC.1.below hb, keepb hb hC.2⟩
              simp only [Act.put, List.setIfInBounds_toArray, List.set_cons_zero, List.set_cons_succ]
              refine q_run (v := .agg #[.int .u64 (hI ox), .int .u64 (lI ox), .int .i64 om]) (by rfl) ?_ ?_
              · (intro w1 hC; obtain ⟨r0, r1, r2, r3⟩ := HRr1.out w1 (hC.1.z _ (.inr rfl)); clear hC; go_simp; first | done | (simp; done) | (simp [*]; done) | omega | (simp; omega) | (rw [IntKind.wrap_i64]; omega) | (intro hx; omega) | rfl)
              simp only [Act.put, List.setIfInBounds_toArray, List.set_cons_zero, List.set_cons_succ]
              refine q_call (v := .bool false) (f := 36) (args := #[.agg #[.int .u64 (hI rx), .int .u64 (lI rx), .int .i64 rm], .agg #[.int .u64 (hI ox), .int .u64 (lI ox), .int .i64 om]]) (by rfl) ?_ ?_ ?_
              · (intro w1 hC; clear hC; go_simp)
              · exact fun w1 hC => (KW w1).mono fun e w' ⟨he, hb⟩ => ⟨he, hC.1.below hb, keepb hb hC.2⟩
              simp only [Act.put, List.setIfInBounds_toArray, List.set_cons_zero, List.set_cons_succ]
              refine q_run (v := .bool true) (by rfl) ?_ ?_
              · (intro w1 hC; obtain ⟨r0, r1, r2, r3⟩ := HRr1.out w1 (hC.1.z _ (.inr rfl)); clear hC; go_simp; first | done | (simp; done) | (simp [*]; done) | omega | (simp; omega) | (rw [IntKind.wrap_i64]; omega) | (intro hx; omega) | rfl)
              simp only [Act.put, List.setIfInBounds_toArray, List.set_cons_zero, List.set_cons_succ]
              refine wpQuiet_nil ?_
              intro W hC
              have HC := hidR hC
              obtain ⟨r0, r1, r2, r3⟩ := HRr1.out W (hC.1.z _ (.inr rfl))
              clear hC KI KW
              go_wp2_with fail
              refine (leave_any _ _ F ((ox, om), oh) os t2 _ _ _ vt2 W HC.out.1 hos hto).mono ?_
              rintro e w3 ⟨rfl, ⟨vo3, vt3, h3⟩, hb⟩
              have H3 := hidR h3
              have HB3 := hidR (HC.out.2.trans (hb.mono (by omega)))
              have hel := tell3_len F (lastW F ox om) oh t2
              clear h3 hb HC r0 r1 r2 r3
              go_wp2
              go_roundw
              case rel =>
                refine ⟨os, tell3 F (lastW F ox om) oh t2, vo3, vt3, H3, HBt, ?_, ?_, HB3⟩
                · refine hidR ⟨?_, ?_⟩
                  · rw [← HP2.out.1, HPw.out.1]
                  · rw [← HP2.out.2, HPw.out.2]
                · simp only [List.length_cons] at hsz2
                  omega
              case measure =>
                show opN _ _ < opN _ _
                rw [H3.out.opN, HO.out, List.length_cons]
                omega
    · have hd : decide ((k : Int) < (l.length : Int)) = false := by simpa using hlt
      have HGe : Hid (endT F op t = swpGo F op0 t30 l) := hidR (by rw [← HG.out, List.drop_eq_nil_of_le (by omega), swpGo])
      have hsz' : op.length + t.2.2.length ≤ 1 + 2 * l.length := by omega
      clear HG
      go_wp2_with fail
      go_loopw [] (fun W => ∃ (op2 : List Rte) (t2 : T3) (vo2 vt2 : Value), Hid (SwV W (w.heap.size + 1) (w.heap.size + 1 + 1) F op2 t2 (fun _ => False) (fun _ => none) vo2 vt2 vt2) ∧ Hid (endT F op2 t2 = swpGo F op0 t30 l) ∧ op2.length + t2.2.2.length ≤ 1 + 2 * l.length ∧ Hid (Below w.heap.size w W)) (fun W => opN W (w.heap.size + 1 + 1))
      case atStart => exact ⟨op, t, vo, vt, HS, HGe, hsz', HB⟩
      case round =>
        clear HS HB HGe
        obtain ⟨op2, t2, vo2, vt2, HS2, HGe, hsz2, HB2⟩ := hrel
        have HO := hidR HS2.out.opN
        cases op2 with
        | nil =>
          obtain ⟨ao2, c2, rfl⟩ := own_form HS2.out.oo
          obtain ⟨⟨a0, a1, a2, a3, a4, a5⟩, -⟩ := HS2.out.c
          have HW : Hid (wr.ownsRow w.heap.size 47 5 vt2 (swp F l).length (rowG (swp F l))) := hidR (by
            have h9 : swp F l = t2.2.2.reverse := by
              unfold swp
              rw [← HGe.out, endT]
            rw [h9, List.length_reverse]
            exact own_wide HS2.out.ot (by omega))
          have a1 : wr.cell? ⟨w.heap.size + 1 + 1, 1, none⟩ = some (.slice ao2 0 c2) := a1
          go_wp2
          go_ret
          exact ⟨⟨vt2, rfl, HW.out⟩, HB2.out⟩
        | cons o os =>
          obtain ⟨⟨ox, om⟩, oh⟩ := o
          obtain ⟨g, cap, rfl, ⟨a1, -, -, -, -⟩, hcap⟩ := HS2.out.inner
          have hos : os.length ≤ 1000000000 := by simp only [List.length_cons] at hsz2; omega
          have hto : t2.2.2.length ≤ 1000000000 := by omega
          have d1 : (0 : Int) < (os.length : Int) + 1 := by omega
          go_wp2_with fail
          refine (leave_any _ _ F ((ox, om), oh) os t2 _ _ _ vt2 wr HS2.out hos hto).mono ?_
          rintro e w3 ⟨rfl, ⟨vo3, vt3, h3⟩, hb⟩
          have H3 := hidR h3
          have HB3 := hidR (HB2.out.trans (hb.mono (by omega)))
          have hel := tell3_len F (lastW F ox om) oh t2
          clear h3 hb a1
          go_wp2
          go_roundw
          case rel =>
            refine ⟨os, tell3 F (lastW F ox om) oh t2, vo3, vt3, H3, ?_, ?_, HB3⟩
            · exact hidR (by rw [← HGe.out, endT])
            · simp only [List.length_cons] at hsz2
              omega
          case measure =>
            show opN _ _ < opN _ _
            rw [H3.out.opN, HO.out, List.length_cons]
            omega
end Go.Proofs.YtonagfmkplbooaaGreatDoor
/-
  What the call of turnpikeref5's Find does.
-/
namespace Go.Proofs.YtonagfmkplbooaaGreatDoor
open Go.RowKit
set_option linter.unusedSimpArgs false
set_option linter.unusedVariables false

/-- The hop of the first route that bears a prefix. -/
def fndO (y : BitVec 128) (m : Int) : List Rte → Option Int
  | [] => none
  | r :: l => if ((r.1.1 == y) && (r.1.2 == m)) = true then some r.2 else fndO y m l
theorem fndO_drop (y : BitVec 128) (m : Int) (l : List Rte) (k : Nat) (hk : k < l.length) : fndO y m (l.drop k) = if ((l[k].1.1 == y) && (l[k].1.2 == m)) = true then some l[k].2 else fndO y m (l.drop (k + 1)) := by
  rw [List.drop_eq_getElem_cons hk]
  rfl
end Go.Proofs.YtonagfmkplbooaaGreatDoor
/-
  In a table that is in order the search finds what going over all routes finds.
-/
namespace Go.Proofs.YtonagfmkplbooaaGreatDoor
open Go.RowKit
set_option linter.unusedSimpArgs false
set_option linter.unusedVariables false

/-- The routes' prefixes are in order, none twice. -/
def OrdR (l : List Rte) : Prop := ∀ (a b : Nat) (hb : b < l.length) (hab : a < b), pcmpZ (l[a]'(by omega)).1.1 (l[a]'(by omega)).1.2 l[b].1.1 l[b].1.2 < 0
theorem pcmp_lt (x : BitVec 128) (n : Int) (y : BitVec 128) (m : Int) : pcmpZ x n y m < 0 ↔ (x.toNat < y.toNat ∨ (x.toNat = y.toNat ∧ n < m)) := by
  have h := pcmp_le x n y m
  have e := pcmp_eq0 x n y m
  constructor
  · intro q
    rcases h.1 (by omega) with r | ⟨r, s⟩
    · exact .inl r
    · refine .inr ⟨by rw [r], ?_⟩
      rcases Int.lt_or_eq_of_le s with t | t
      · exact t
      · have := e.2 ⟨r, t⟩; omega
  · intro q
    have hle : pcmpZ x n y m ≤ 0 := h.2 (q.imp id fun ⟨r, s⟩ => ⟨BitVec.eq_of_toNat_eq r, by omega⟩)
    have hne : pcmpZ x n y m ≠ 0 := fun q0 => by
      obtain ⟨r, s⟩ := e.1 q0
      rcases q with q | ⟨-, q⟩
      · rw [r] at q; omega
      · omega
    omega
theorem ord_mono {l : List Rte} (h : OrdR l) (y : BitVec 128) (m : Int) : Mono y m l := by
  intro a b hb hab hlt
  rcases Nat.lt_or_eq_of_le hab with q | q
  · have h1 := (pcmp_lt _ _ _ _).1 (h a b hb q)
    have h2 := (pcmp_lt _ _ _ _).1 hlt
    refine (pcmp_lt _ _ _ _).2 ?_
    omega
  · subst q; exact hlt
theorem fndO_none {y : BitVec 128} {m : Int} : ∀ {l : List Rte}, (∀ (j : Nat) (hj : j < l.length), toP y m l[j] ≠ 0) → fndO y m l = none := by
  intro l
  induction l with
  | nil => intro _; rfl
  | cons r l ih =>
    intro h
    have h0 := h 0 (by simp)
    have hn : ¬ ((r.1.1 == y) && (r.1.2 == m)) = true := fun q => by
      simp only [Bool.and_eq_true, beq_iff_eq] at q
      exact h0 ((pcmp_eq0 _ _ _ _).2 q)
    unfold fndO
    rw [if_neg hn]
    exact ih fun j hj => h (j + 1) (by simpa using hj)
theorem fndO_at {y : BitVec 128} {m : Int} : ∀ {l : List Rte} (i : Nat) (hi : i < l.length), (∀ (j : Nat) (hj : j < i), toP y m (l[j]'(by omega)) ≠ 0) → toP y m l[i] = 0 → fndO y m l = some l[i].2 := by
  intro l
  induction l with
  | nil => intro i hi; simp at hi
  | cons r l ih =>
    intro i hi h h0
    unfold fndO
    cases i with
    | zero =>
      obtain ⟨e1, e2⟩ := (pcmp_eq0 _ _ _ _).1 h0
      have hp : ((r.1.1 == y) && (r.1.2 == m)) = true := by
        simp only [Bool.and_eq_true, beq_iff_eq]
        exact ⟨e1, e2⟩
      rw [if_pos hp]
      rfl
    | succ i =>
      have hn : ¬ ((r.1.1 == y) && (r.1.2 == m)) = true := fun q => by
        simp only [Bool.and_eq_true, beq_iff_eq] at q
        exact h 0 (by omega) ((pcmp_eq0 _ _ _ _).2 q)
      rw [if_neg hn]
      exact ih i (by simpa using hi) (fun j hj => h (j + 1) (by omega)) h0
/-- What is found by the place. -/
theorem fnd_place {y : BitVec 128} {m : Int} {l : List Rte} {i : Nat} {ok : Bool} {h : Int} (hO : OrdR l) (hP : Place y m l i ok) (h1 : ok = true → ∃ hi : i < l.length, h = l[i].2) (h0 : ok = false → h = 0) : h = (fndO y m l).getD 0 ∧ ok = (fndO y m l).isSome := by
  obtain ⟨hi, hj, hk⟩ := hP
  cases ok
  · have hn : fndO y m l = none := fndO_none fun j hjl e => by
      have a1 := hj j hjl
      have n1 : ¬ j < i := fun q => by have := a1.1 q; omega
      have hil : i < l.length := by omega
      rw [List.getElem?_eq_getElem hil] at hk
      have ki : toP y m l[i] ≠ 0 := by
        intro q
        have : decide (toP y m l[i] = 0) = true := by simpa using q
        simp only at hk
        rw [this] at hk
        cases hk
      rcases Nat.lt_or_eq_of_le (Nat.le_of_not_lt n1) with q | q
      · have a2 := hj i hil
        have n2 : ¬ toP y m l[i] < 0 := fun q => by have := a2.2 q; omega
        have o1 := (pcmp_lt _ _ _ _).1 (hO i j hjl q)
        obtain ⟨e1, e2⟩ := (pcmp_eq0 _ _ _ _).1 e
        apply n2
        refine (pcmp_lt _ _ _ _).2 ?_
        rw [e1, e2] at o1
        exact o1
      · subst q; exact ki e
    rw [hn]
    exact ⟨h0 rfl, rfl⟩
  · obtain ⟨hil, e⟩ := h1 rfl
    rw [List.getElem?_eq_getElem hil] at hk
    have ki : toP y m l[i] = 0 := by simpa using hk.symm
    have hs := fndO_at i hil (fun j hji q => by have := (hj j (by omega)).1 hji; omega) ki
    rw [hs]
    exact ⟨e, rfl⟩
end Go.Proofs.YtonagfmkplbooaaGreatDoor
