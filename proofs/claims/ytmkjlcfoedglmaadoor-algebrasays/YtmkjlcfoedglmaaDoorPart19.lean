/-
  Part 19 of the proof: 3 texts, one behind the other.
-/
import Derived.Test.YtmkjlcfoedglmaaDoorPart18
import Derived.Test.YtmkjlcfoedglmaaDoorPart13
import Derived.Test.YtmkjlcfoedglmaaDoorPart10
import Derived.Test.YtmkjlcfoedglmaaDoorPart11
/-
  What the call of package algebra's sweep does.
-/
namespace Go.Proofs.YtmkjlcfoedglmaaDoor
open Go.RowKit
set_option linter.unusedSimpArgs false
set_option linter.unusedVariables false

def lenW : Value → Nat
  | .slice _ n _ => n
  | _ => 0
/-- How many routes are open, by the sweeper's memory. -/
def opN (W : World) (B : Nat) : Nat := lenW ((W.cell? ⟨B, 1, none⟩).getD undef)
theorem SwV.opN {W : World} {base B : Nat} {F : Int} {op : List Rte} {t : T3} {Z : Nat → Prop} {ob : Nat → Option Obj} {vo vc vt : Value} (k : SwV W base B F op t Z ob vo vc vt) : opN W B = op.length := by
  obtain ⟨ao, c, e⟩ := own_form k.oo
  unfold Go.Proofs.YtmkjlcfoedglmaaDoor.opN
  rw [k.c.1.2.1, e]
  rfl
theorem sw_start (w : World) (F : Int) (o1 : Obj) : SwV (((w.alloc o1).alloc (.cells #[.int .u64 0, .int .u64 0, .int .i64 0, .int .i64 0] 53)).alloc (.cells #[.int .i64 F, .slice (some ⟨w.heap.size + 1, 0, none⟩) 1 1, .int .u64 0, .int .u64 0, .bool false, .slice none 0 0] 84)) (w.heap.size + 1) (w.heap.size + 1 + 1) F op0 t30 (fun _ => False) (fun _ => none) (.slice (some ⟨w.heap.size + 1, 0, none⟩) 1 1) (.slice none 0 0) (.slice none 0 0) := by
  have h0 : hI 0#128 = 0 := by decide
  have h1 : lI 0#128 = 0 := by decide
  refine ⟨?_, ?_, World.ownsRow_nil _ _ _ _, ?_, by simp [Value.ownBlock], ?_, by omega, (fun _ h => h.elim), (fun _ h => h.elim), (fun _ h => h.elim), (fun _ h => h.elim), (fun _ h => h.elim)⟩
  · unfold SwC t30
    simp only [h0, h1]
    refine ⟨⟨?_, ?_, ?_, ?_, ?_, ?_⟩, ?_, ?_, ?_, ?_, ?_⟩ <;> simp [go_sem]
  · refine own_heap (W := (w.alloc o1).alloc (.cells #[.int .u64 0, .int .u64 0, .int .i64 0, .int .i64 0] 53)) ?_ (fun g e => ?_)
    · have e : rowR op0.reverse = [.int .u64 0, .int .u64 0, .int .i64 0, .int .i64 0] := by simp [op0, rowR, h0, h1]
      have hz : (w.alloc o1).heap.size = w.heap.size + 1 := by simp
      refine ⟨by rw [e]; rfl, .inr ⟨w.heap.size + 1, 1, #[.int .u64 0, .int .u64 0, .int .i64 0, .int .i64 0], rfl, Nat.le_refl _, ?_, Nat.le_refl _, by unfold maxLen; omega, rfl, by rw [e]; rfl⟩⟩
      rw [← hz]
      exact Array.getElem?_push_size
    · have : w.heap.size + 1 = g := by simpa [Value.ownBlock] using e
      exact hAl _ (by simp; omega)
  · intro e
    simp [Value.ownBlock] at e
  · intro z e
    simp [Value.ownBlock]
theorem pop_within (r o : Rte) (os : List Rte) (F : Int) (t : T3) (h : withinB r.1.1 r.1.2 o.1.1 o.1.2 = true) : popO r (o :: os) = o :: os ∧ popT F r (o :: os) t = t := by
  rw [popO, popT, if_pos h, if_pos h]; exact ⟨rfl, rfl⟩
theorem pop_not (r o : Rte) (os : List Rte) (F : Int) (t : T3) (h : withinB r.1.1 r.1.2 o.1.1 o.1.2 = false) : popO r (o :: os) = popO r os ∧ popT F r (o :: os) t = popT F r os (tell3 F (lastW F o.1.1 o.1.2) o.2 t) := by
  rw [popO, popT, if_neg (by rw [h]; decide), if_neg (by rw [h]; decide)]; exact ⟨rfl, rfl⟩
set_option maxRecDepth 20000 in
set_option maxHeartbeats 8000000 in
theorem sweep_any (F : Int) (v : Value) (l : List Rte) (w : World) (hv : RwR w v l) (hl : l.length ≤ 10000000) (hr : ∀ r ∈ l, 0 ≤ r.1.2) :
    Calls Tryd.prog 26 #[.agg #[.int .i64 F, v]] w fun e w' => (∃ v', e = .returned v' ∧ w'.ownsRow w.heap.size 39 5 v' (swp F l).length (rowG (swp F l))) ∧ Below w.heap.size w w' := by
  obtain ⟨ao, c, rfl, hv⟩ := hv
  have HV := hidR hv
  have HRr := hidR hr
  have HS := hidR (sw_start w F (.cells #[.int .i64 F, .slice ao l.length c] 24))
  have HB := hidR ((bl2 w (.cells #[.int .i64 F, .slice ao l.length c] 24) (.cells #[.int .u64 0, .int .u64 0, .int .i64 0, .int .i64 0] 53)).alloc (by simp; omega) (.cells #[.int .i64 F, .slice (some ⟨w.heap.size + 1, 0, none⟩) 1 1, .int .u64 0, .int .u64 0, .bool false, .slice none 0 0] 84))
  clear hv hr
  have t0 := keepc (bl2 (w.alloc (.cells #[.int .i64 F, .slice ao l.length c] 24)) (.cells #[.int .u64 0, .int .u64 0, .int .i64 0, .int .i64 0] 53) (.cells #[.int .i64 F, .slice (some ⟨w.heap.size + 1, 0, none⟩) 1 1, .int .u64 0, .int .u64 0, .bool false, .slice none 0 0] 84)) (show (w.alloc (.cells #[.int .i64 F, .slice ao l.length c] 24)).cell? ⟨w.heap.size, 1, none⟩ = some (.slice ao l.length c) by simp [go_sem])
  go_enter Tryd.func26, Tryd.ntmps26
  go_wp2_with fail
  go_loopw [14] (fun i wr => ∃ (k : Nat) (op : List Rte) (t : T3) (vo vt : Value), k ≤ l.length ∧ i = .int .i64 k ∧ Hid (SwV wr (w.heap.size + 1) (w.heap.size + 1 + 1) F op t (fun _ => False) (fun _ => none) vo vt vt) ∧ Hid (Bot op) ∧ Hid (swpGo F op t (l.drop k) = swpGo F op0 t30 l) ∧ op.length + t.2.2.length ≤ 1 + 2 * k ∧ Hid (Below w.heap.size w wr)) (fun i _ => l.length - (intOf i).toNat)
  case atStart => exact ⟨0, op0, t30, _, _, by omega, rfl, HS, hidR ⟨[], rfl⟩, hidR rfl, by simp [op0, t30], HB⟩
  case round =>
    clear HS HB t0
    obtain ⟨k, op, t, vo, vt, hk, rfl, HS, HBo, HG, hsz, HB⟩ := hrel
    by_cases hlt : (k : Int) < (l.length : Int)
    · have hks : k < l.length := by omega
      rcases HV.out with h | ⟨b, off, rfl, hc⟩
      · rw [h] at hks; simp at hks
      · obtain ⟨x0, x1, x2, x3⟩ := rwr_cells hc k hks
        have x0 := keepc HB.out x0
        have x1 := keepc HB.out x1
        have x2 := keepc HB.out x2
        have x3 := keepc HB.out x3
        have hr0 := HRr.out l[k] (List.getElem_mem hks)
        have HD := hidR (List.drop_eq_getElem_cons hks)
        clear hc
        revert hr0 HD
        generalize hlk : l[k] = r at *
        obtain ⟨⟨rx, rm⟩, rh⟩ := r
        dsimp only at x0 x1 x2 x3 ⊢
        clear hlk
        intro hr0 HD
        have HS1 : Hid (SwV (wr.alloc (.cells #[.int .u64 (hI rx), .int .u64 (lI rx), .int .i64 rm, .int .i64 rh] 53)) (w.heap.size + 1) (w.heap.size + 1 + 1) F op t (fun z => False ∨ z = wr.heap.size) (fun z => (wr.alloc (.cells #[.int .u64 (hI rx), .int .u64 (lI rx), .int .i64 rm, .int .i64 rh] 53)).heap[z]?) vo vt vt) := hidR (HS.out.more _)
        have HRr1 : Hid (∀ W : World, W.heap[wr.heap.size]? = (wr.alloc (.cells #[.int .u64 (hI rx), .int .u64 (lI rx), .int .i64 rm, .int .i64 rh] 53)).heap[wr.heap.size]? → AtR W wr.heap.size rx rm rh) := hidR (fun W e => (atr_new wr wr.heap.size rx rm rh 53 rfl).heap e)
        have HB1 := hidR (HB.out.alloc HB.out.size (.cells #[.int .u64 (hI rx), .int .u64 (lI rx), .int .i64 rm, .int .i64 rh] 53))
        have hk2 : IntKind.i64.wrap ((k : Int) + 1) = (k : Int) + 1 := by rw [IntKind.wrap_i64]; omega
        go_wp2_with fail
        clear x0 x1 x2 x3
        generalize wr.heap.size = R0 at *
        revert HS1 HB1 HRr1
        generalize (wr.alloc (.cells #[.int .u64 (hI rx), .int .u64 (lI rx), .int .i64 rm, .int .i64 rh] 53)) = W0
        intro HB1 HS1 HRr1
        go_loopw [] (fun W => ∃ (op2 : List Rte) (t2 : T3) (vo2 vt2 : Value), Hid (SwV W (w.heap.size + 1) (w.heap.size + 1 + 1) F op2 t2 (fun z => False ∨ z = R0) (fun z => W0.heap[z]?) vo2 vt2 vt2) ∧ Hid (Bot op2) ∧ Hid (popO ((rx, rm), rh) op2 = popO ((rx, rm), rh) op ∧ popT F ((rx, rm), rh) op2 t2 = popT F ((rx, rm), rh) op t) ∧ op2.length + t2.2.2.length ≤ 1 + 2 * k ∧ Hid (Below w.heap.size w W)) (fun W => opN W (w.heap.size + 1 + 1))
        case atStart => exact ⟨op, t, vo, vt, HS1, HBo, hidR ⟨rfl, rfl⟩, hsz, HB1⟩
        case round =>
          clear HS1 HB1
          obtain ⟨op2, t2, vo2, vt2, HS2, HBo2, HP2, hsz2, HB2⟩ := hrel
          cases op2 with
          | nil => exact absurd rfl HBo2.out.ne
          | cons o os =>
            obtain ⟨⟨ox, om⟩, oh⟩ := o
            obtain ⟨g, cap, rfl, -, hcap⟩ := HS2.out.inner
            have hos : os.length ≤ 1000000000 := by simp only [List.length_cons] at hsz2; omega
            have hto : t2.2.2.length ≤ 1000000000 := by omega
            have KI : ∀ W, SwV W (w.heap.size + 1) (w.heap.size + 1 + 1) F (((ox, om), oh) :: os) t2 (fun z => False ∨ z = R0) (fun z => W0.heap[z]?) (.slice (some ⟨g, 0, none⟩) (os.length + 1) cap) vt2 vt2 → Calls Tryd.prog 54 #[.pointer (some ⟨w.heap.size + 1 + 1, 0, none⟩)] W fun e w' => e = .returned (.agg #[.int .u64 (hI ox), .int .u64 (lI ox), .int .i64 om, .int .i64 oh]) ∧ Below W.heap.size W w' := fun W h => by
              obtain ⟨g', cap', e, h2, -⟩ := h.inner
              injection e with e1 _ e3
              injection e1 with e1
              injection e1 with e1
              subst e1
              subst e3
              exact inner_any _ g os.length cap ox om oh W h2 hos
            have KW := fun w => pwithin_any rx rm ox om w
            have HO := hidR HS2.out.opN
            obtain ⟨bw, hbw⟩ : ∃ b, b = withinB rx rm ox om := ⟨_, rfl⟩
            rw [← hbw] at KW
            cases bw with
            | true =>
              have HPw := hidR (pop_within ((rx, rm), rh) ((ox, om), oh) os F t2 hbw.symm)
              clear hbw
              go_wp2_with fail
              refine q_region (C := fun W => SwV W (w.heap.size + 1) (w.heap.size + 1 + 1) F (((ox, om), oh) :: os) t2 (fun z => False ∨ z = R0) (fun z => W0.heap[z]?) (.slice (some ⟨g, 0, none⟩) (os.length + 1) cap) vt2 vt2 ∧ Below w.heap.size w W) (by kernel_rfl) (by kernel_rfl) ⟨HS2.out.below (below_drewN (Below.refl _ _) 1), HB2.out.drew⟩ ?_
              clear HS2 HB2
              refine q_run (v := .pointer (some ⟨R0, 0, none⟩)) (by rfl) ?_ ?_
              · (intro w1 hC; obtain ⟨r0, r1, r2, r3⟩ := HRr1.out w1 (hC.1.z _ (.inr rfl)); clear hC; go_simp; first | done | (simp; done) | (simp [*]; done) | omega | (simp; omega) | (rw [IntKind.wrap_i64]; omega) | (intro hx; omega) | rfl)
              simp only [Act.put, List.setIfInBounds_toArray, List.set_cons_zero, List.set_cons_succ]
              refine q_run (v := .agg #[.int .u64 (hI rx), .int .u64 (lI rx), .int .i64 rm]) (by rfl) ?_ ?_
              · (intro w1 hC; obtain ⟨r0, r1, r2, r3⟩ := HRr1.out w1 (hC.1.z _ (.inr rfl)); clear hC; go_simp; first | done | (simp; done) | (simp [*]; done) | omega | (simp; omega) | (rw [IntKind.wrap_i64]; omega) | (intro hx; omega) | rfl)
              simp only [Act.put, List.setIfInBounds_toArray, List.set_cons_zero, List.set_cons_succ]
              refine q_call (v := .agg #[.int .u64 (hI ox), .int .u64 (lI ox), .int .i64 om, .int .i64 oh]) (f := 54) (args := #[.pointer (some ⟨w.heap.size + 1 + 1, 0, none⟩)]) (by rfl) ?_ ?_ ?_
              · (intro w1 hC; clear hC; go_simp)
              · exact fun w1 hC => (KI w1 hC.1).mono fun e w' ⟨he, hb⟩ => ⟨he, hC.1.below hb, keepb hb hC.2⟩
              simp only [Act.put, List.setIfInBounds_toArray, List.set_cons_zero, List.set_cons_succ]
              refine q_run (v := .agg #[.int .u64 (hI ox), .int .u64 (lI ox), .int .i64 om]) (by rfl) ?_ ?_
              · (intro w1 hC; obtain ⟨r0, r1, r2, r3⟩ := HRr1.out w1 (hC.1.z _ (.inr rfl)); clear hC; go_simp; first | done | (simp; done) | (simp [*]; done) | omega | (simp; omega) | (rw [IntKind.wrap_i64]; omega) | (intro hx; omega) | rfl)
              simp only [Act.put, List.setIfInBounds_toArray, List.set_cons_zero, List.set_cons_succ]
              refine q_call (v := .bool true) (f := 53) (args := #[.agg #[.int .u64 (hI rx), .int .u64 (lI rx), .int .i64 rm], .agg #[.int .u64 (hI ox), .int .u64 (lI ox), .int .i64 om]]) (by rfl) ?_ ?_ ?_
              · (intro w1 hC; clear hC; go_simp)
              · exact fun w1 hC => (KW w1).mono fun e w' ⟨he, hb⟩ => ⟨he, hC.1.below hb, keepb hb hC.2⟩
              simp only [Act.put, List.setIfInBounds_toArray, List.set_cons_zero, List.set_cons_succ]
              refine q_run (v := .bool false) (by rfl) ?_ ?_
              · (intro w1 hC; obtain ⟨r0, r1, r2, r3⟩ := HRr1.out w1 (hC.1.z _ (.inr rfl)); clear hC; go_simp; first | done | (simp; done) | (simp [*]; done) | omega | (simp; omega) | (rw [IntKind.wrap_i64]; omega) | (intro hx; omega) | rfl)
              simp only [Act.put, List.setIfInBounds_toArray, List.set_cons_zero, List.set_cons_succ]
              refine wpQuiet_nil ?_
              intro W hC
              have HC := hidR hC
              obtain ⟨r0, r1, r2, r3⟩ := HRr1.out W (hC.1.z _ (.inr rfl))
              clear hC KI KW
              go_wp2_with fail
              refine (enter_any _ _ F ((rx, rm), rh) ((ox, om), oh) os t2 _ _ _ vt2 W HC.out.1 hos hto).mono ?_
              rintro e w3 ⟨rfl, ⟨vo3, vt3, h3⟩, hb⟩
              have H3 := hidR (h3.fewer (Y := fun _ => False) (od := fun _ => none) (fun _ q => q.elim) (fun _ q => q.elim))
              have HB3 := hidR (HC.out.2.trans (hb.mono (by omega)))
              have hel := entT_len F ((rx, rm), rh) oh t2
              clear h3 hb HC r0 r1 r2 r3
              go_wp2
              go_roundw
              case rel =>
                refine ⟨k + 1, ((rx, rm), rh) :: ((ox, om), oh) :: os, entT F ((rx, rm), rh) oh t2, vo3, vt3, by omega, by simp, H3, ?_, ?_, ?_, HB3⟩
                · obtain ⟨q, hq⟩ := HBo2.out
                  exact hidR ⟨((rx, rm), rh) :: q, by rw [hq]; rfl⟩
                · show swpGo F _ _ (l.drop (k + 1)) = swpGo F op0 t30 l
                  rw [← HG.out, HD.out, swpGo, ← HP2.out.1, ← HP2.out.2, HPw.out.1, HPw.out.2, hopO]
                · simp only [List.length_cons] at hsz2 ⊢
                  omega
              case measure => simp [intOf]; omega
            | false =>
              have HPw := hidR (pop_not ((rx, rm), rh) ((ox, om), oh) os F t2 hbw.symm)
              have HBt := hidR (HBo2.out.tl ((rx, rm), rh) hr0 (by rw [← hbw]; decide))
              clear hbw
              go_wp2_with fail
              refine q_region (C := fun W => SwV W (w.heap.size + 1) (w.heap.size + 1 + 1) F (((ox, om), oh) :: os) t2 (fun z => False ∨ z = R0) (fun z => W0.heap[z]?) (.slice (some ⟨g, 0, none⟩) (os.length + 1) cap) vt2 vt2 ∧ Below w.heap.size w W) (by kernel_rfl) (by kernel_rfl) ⟨HS2.out.below (below_drewN (Below.refl _ _) 1), HB2.out.drew⟩ ?_
              clear HS2 HB2
              refine q_run (v := .pointer (some ⟨R0, 0, none⟩)) (by rfl) ?_ ?_
              · (intro w1 hC; obtain ⟨r0, r1, r2, r3⟩ := HRr1.out w1 (hC.1.z _ (.inr rfl)); clear hC; go_simp; first | done | (simp; done) | (simp [*]; done) | omega | (simp; omega) | (rw [IntKind.wrap_i64]; omega) | (intro hx; omega) | rfl)
              simp only [Act.put, List.setIfInBounds_toArray, List.set_cons_zero, List.set_cons_succ]
              refine q_run (v := .agg #[.int .u64 (hI rx), .int .u64 (lI rx), .int .i64 rm]) (by rfl) ?_ ?_
              · (intro w1 hC; obtain ⟨r0, r1, r2, r3⟩ := HRr1.out w1 (hC.1.z _ (.inr rfl)); clear hC; go_simp; first | done | (simp; done) | (simp [*]; done) | omega | (simp; omega) | (rw [IntKind.wrap_i64]; omega) | (intro hx; omega) | rfl)
              simp only [Act.put, List.setIfInBounds_toArray, List.set_cons_zero, List.set_cons_succ]
              refine q_call (v := .agg #[.int .u64 (hI ox), .int .u64 (lI ox), .int .i64 om, .int .i64 oh]) (f := 54) (args := #[.pointer (some ⟨w.heap.size + 1 + 1, 0, none⟩)]) (by rfl) ?_ ?_ ?_
              · (intro w1 hC; clear hC; go_simp)
              · exact fun w1 hC => (KI w1 hC.1).mono fun e w' ⟨he, hb⟩ => ⟨he, hC.1.below hb, keepb hb hC.2⟩
              simp only [Act.put, List.setIfInBounds_toArray, List.set_cons_zero, List.set_cons_succ]
              refine q_run (v := .agg #[.int .u64 (hI ox), .int .u64 (lI ox), .int .i64 om]) (by rfl) ?_ ?_
              · (intro w1 hC; obtain ⟨r0, r1, r2, r3⟩ := HRr1.out w1 (hC.1.z _ (.inr rfl)); clear hC; go_simp; first | done | (simp; done) | (simp [*]; done) | omega | (simp; omega) | (rw [IntKind.wrap_i64]; omega) | (intro hx; omega) | rfl)
              simp only [Act.put, List.setIfInBounds_toArray, List.set_cons_zero, List.set_cons_succ]
              refine q_call (v := .bool false) (f := 53) (args := #[.agg #[.int .u64 (hI rx), .int .u64 (lI rx), .int .i64 rm], .agg #[.int .u64 (hI ox), .int .u64 (lI ox), .int .i64 om]]) (by rfl) ?_ ?_ ?_
              · (intro w1 hC; clear hC; go_simp)
              · exact fun w1 hC => (KW w1).mono fun e w' ⟨he, hb⟩ => ⟨he, hC.1.below hb, keepb hb hC.2⟩
              simp only [Act.put, List.setIfInBounds_toArray, List.set_cons_zero, List.set_cons_succ]
              refine q_run (v := .bool true) (by rfl) ?_ ?_
              · (intro w1 hC; obtain ⟨r0, r1, r2, r3⟩ := HRr1.out w1 (hC.1.z _ (.inr rfl)); clear hC; go_simp; first | done | (simp; done) | (simp [*]; done) | omega | (simp; omega) | (rw [IntKind.wrap_i64]; omega) | (intro hx; omega) | rfl)
              simp only [Act.put, List.setIfInBounds_toArray, List.set_cons_zero, List.set_cons_succ]
              refine wpQuiet_nil ?_
              intro W hC
              have HC := hidR hC
              obtain ⟨r0, r1, r2, r3⟩ := HRr1.out W (hC.1.z _ (.inr rfl))
              clear hC KI KW
              go_wp2_with fail
              refine (leave_any _ _ F ((ox, om), oh) os t2 _ _ _ vt2 W HC.out.1 hos hto).mono ?_
              rintro e w3 ⟨rfl, ⟨vo3, vt3, h3⟩, hb⟩
              have H3 := hidR h3
              have HB3 := hidR (HC.out.2.trans (hb.mono (by omega)))
              have hel := tell3_len F (lastW F ox om) oh t2
              clear h3 hb HC r0 r1 r2 r3
              go_wp2
              go_roundw
              case rel =>
                refine ⟨os, tell3 F (lastW F ox om) oh t2, vo3, vt3, H3, HBt, ?_, ?_, HB3⟩
                · refine hidR ⟨?_, ?_⟩
                  · rw [← HP2.out.1, HPw.out.1]
                  · rw [← HP2.out.2, HPw.out.2]
                · simp only [List.length_cons] at hsz2
                  omega
              case measure =>
                show opN _ _ < opN _ _
                rw [H3.out.opN, HO.out, List.length_cons]
                omega
    · have hd : decide ((k : Int) < (l.length : Int)) = false := by simpa using hlt
      have HGe : Hid (endT F op t = swpGo F op0 t30 l) := hidR (by rw [← HG.out, List.drop_eq_nil_of_le (by omega), swpGo])
      have hsz' : op.length + t.2.2.length ≤ 1 + 2 * l.length := by omega
      clear HG
      go_wp2_with fail
      go_loopw [] (fun W => ∃ (op2 : List Rte) (t2 : T3) (vo2 vt2 : Value), Hid (SwV W (w.heap.size + 1) (w.heap.size + 1 + 1) F op2 t2 (fun _ => False) (fun _ => none) vo2 vt2 vt2) ∧ Hid (endT F op2 t2 = swpGo F op0 t30 l) ∧ op2.length + t2.2.2.length ≤ 1 + 2 * l.length ∧ Hid (Below w.heap.size w W)) (fun W => opN W (w.heap.size + 1 + 1))
      case atStart => exact ⟨op, t, vo, vt, HS, HGe, hsz', HB⟩
      case round =>
        clear HS HB HGe
        obtain ⟨op2, t2, vo2, vt2, HS2, HGe, hsz2, HB2⟩ := hrel
        have HO := hidR HS2.out.opN
        cases op2 with
        | nil =>
          obtain ⟨ao2, c2, rfl⟩ := own_form HS2.out.oo
          obtain ⟨⟨a0, a1, a2, a3, a4, a5⟩, -⟩ := HS2.out.c
          have HW : Hid (wr.ownsRow w.heap.size 39 5 vt2 (swp F l).length (rowG (swp F l))) := hidR (by
            have h9 : swp F l = t2.2.2.reverse := by
              unfold swp
              rw [← HGe.out, endT]
            rw [h9, List.length_reverse]
            exact own_wide HS2.out.ot (by omega))
          have a1 : wr.cell? ⟨w.heap.size + 1 + 1, 1, none⟩ = some (.slice ao2 0 c2) := a1
          go_wp2
          go_ret
          exact ⟨⟨vt2, rfl, HW.out⟩, HB2.out⟩
        | cons o os =>
          obtain ⟨⟨ox, om⟩, oh⟩ := o
          obtain ⟨g, cap, rfl, ⟨a1, -, -, -, -⟩, hcap⟩ := HS2.out.inner
          have hos : os.length ≤ 1000000000 := by simp only [List.length_cons] at hsz2; omega
          have hto : t2.2.2.length ≤ 1000000000 := by omega
          have d1 : (0 : Int) < (os.length : Int) + 1 := by omega
          go_wp2_with fail
          refine (leave_any _ _ F ((ox, om), oh) os t2 _ _ _ vt2 wr HS2.out hos hto).mono ?_
          rintro e w3 ⟨rfl, ⟨vo3, vt3, h3⟩, hb⟩
          have H3 := hidR h3
          have HB3 := hidR (HB2.out.trans (hb.mono (by omega)))
          have hel := tell3_len F (lastW F ox om) oh t2
          clear h3 hb a1
          go_wp2
          go_roundw
          case rel =>
            refine ⟨os, tell3 F (lastW F ox om) oh t2, vo3, vt3, H3, ?_, ?_, HB3⟩
            · exact hidR (by rw [← HGe.out, endT])
            · simp only [List.length_cons] at hsz2
              omega
          case measure =>
            show opN _ _ < opN _ _
            rw [H3.out.opN, HO.out, List.length_cons]
            omega
end Go.Proofs.YtmkjlcfoedglmaaDoor
/-
  What the calls of package table's Check and of package algebra's Segs do.
-/
namespace Go.Proofs.YtmkjlcfoedglmaaDoor
open Go.RowKit
set_option linter.unusedSimpArgs false
set_option linter.unusedVariables false

/-- What Check reads of two routes beside one another. -/
def T6 (w : World) (F : Int) (v : Value) (b oa ob : Nat) (ax : BitVec 128) (an ah : Int) (bx : BitVec 128) (bn bh : Int) (W : World) : Prop := AtT W w.heap.size F v ∧ (W.cell? ⟨b, oa, none⟩ = some (.int .u64 (hI ax)) ∧ W.cell? ⟨b, oa + 1, none⟩ = some (.int .u64 (lI ax)) ∧ W.cell? ⟨b, oa + 2, none⟩ = some (.int .i64 an) ∧ W.cell? ⟨b, oa + 3, none⟩ = some (.int .i64 ah)) ∧ (W.cell? ⟨b, ob, none⟩ = some (.int .u64 (hI bx)) ∧ W.cell? ⟨b, ob + 1, none⟩ = some (.int .u64 (lI bx)) ∧ W.cell? ⟨b, ob + 2, none⟩ = some (.int .i64 bn) ∧ W.cell? ⟨b, ob + 3, none⟩ = some (.int .i64 bh)) ∧ Below w.heap.size w W
theorem T6.below {w W W' : World} {F : Int} {v : Value} {b oa ob : Nat} {ax : BitVec 128} {an ah : Int} {bx : BitVec 128} {bn bh : Int} (k : T6 w F v b oa ob ax an ah bx bn bh W) (hb : Below W.heap.size W W') : T6 w F v b oa ob ax an ah bx bn bh W' :=
  ⟨k.1.below hb, ⟨keepc hb k.2.1.1, keepc hb k.2.1.2.1, keepc hb k.2.1.2.2.1, keepc hb k.2.1.2.2.2⟩, ⟨keepc hb k.2.2.1.1, keepc hb k.2.2.1.2.1, keepc hb k.2.2.1.2.2.1, keepc hb k.2.2.1.2.2.2⟩, keepb hb k.2.2.2⟩
set_option maxRecDepth 20000 in
set_option maxHeartbeats 8000000 in
theorem tcheck_any (F : Int) (v : Value) (l : List Rte) (w : World) (hv : RwR w v l) :
    Calls Tryd.prog 25 #[.agg #[.int .i64 F, v]] w fun e w' => (∃ z, TabE F l z ∧ e = .returned (.int .i64 z)) ∧ Below w.heap.size w w' := by
  have b0 := bl1 w (.cells #[.int .i64 F, v] 24)
  have KC := checkRoutes_any F v l _ (hv.below b0)
  obtain ⟨ao, c, rfl, hv⟩ := hv
  have HT := hidR (att_new w w.heap.size F (.slice ao l.length c) 24 rfl)
  obtain ⟨t0, t1⟩ := HT.out
  have HV := hidR hv
  have HB := hidR b0
  have HE : Hid (∀ z, (rtsE F l ≠ 0 → z = rtsE F l) ∧ (rtsE F l = 0 → (Adj l ∧ z = 0) ∨ (¬ Adj l ∧ z = 19)) → TabE F l z) := hidR (fun z h => h)
  have HL : Hid (rtsE F l = 0 → l.length ≤ 1048576) := hidR (fun h => by
    unfold rtsE at h
    split at h
    · split at h
      · omega
      · omega
    · omega)
  clear hv b0
  revert KC HE HL
  generalize rtsE F l = ce
  intro KC HE HL
  go_enter Tryd.func25, Tryd.ntmps25
  go_wp2_with fail
  refine KC.mono ?_
  rintro e w1 ⟨rfl, hb⟩
  have HB1 := hidR (keepb hb HB.out)
  have HT1 := hidR (HT.out.below hb)
  clear KC hb t0 t1 HB HT
  by_cases hce : ce = 0
  · subst hce
    have hll := HL.out rfl
    have HE1 : Hid (∀ z, (Adj l ∧ z = 0) ∨ (¬ Adj l ∧ z = 19) → TabE F l z) := hidR (fun z h => HE.out z ⟨fun h0 => absurd rfl h0, fun _ => h⟩)
    clear HL HE
    go_wp2_with fail
    go_loopw [4] (fun i wr => ∃ k : Nat, 1 ≤ k ∧ (k ≤ l.length ∨ k = 1) ∧ i = .int .i64 k ∧ Hid (∀ (a : Nat) (h : a + 1 < l.length), a + 1 < k → pcmpZ l[a].1.1 l[a].1.2 l[a + 1].1.1 l[a + 1].1.2 < 0) ∧ Hid (AtT wr w.heap.size F (.slice ao l.length c)) ∧ Hid (Below w.heap.size w wr)) (fun i _ => l.length - (intOf i).toNat)
    case atStart => exact ⟨1, by omega, .inr rfl, rfl, hidR (fun a h h2 => by omega), HT1, HB1⟩
    case round =>
      clear HT1 HB1
      obtain ⟨k, hk1, hk2, rfl, HG, HT, HB⟩ := hrel
      obtain ⟨t0, t1⟩ := HT.out
      by_cases hlt : (k : Int) < (l.length : Int)
      · have hks : k < l.length := by omega
        obtain ⟨j, hj⟩ : ∃ j, j + 1 = k := ⟨k - 1, by omega⟩
        have hjs : j < l.length := by omega
        rcases HV.out with h | ⟨b, off, rfl, hc⟩
        · rw [h] at hks; simp at hks
        · obtain ⟨x0, x1, x2, x3⟩ := rwr_cells hc j hjs
          obtain ⟨y0, y1, y2, y3⟩ := rwr_cells hc k hks
          have HC := hidR (⟨HT.out, ⟨keepc HB.out x0, keepc HB.out x1, keepc HB.out x2, keepc HB.out x3⟩, ⟨keepc HB.out y0, keepc HB.out y1, keepc HB.out y2, keepc HB.out y3⟩, HB.out⟩ : T6 w F (.slice (some ⟨b, off, none⟩) l.length c) b (off + j * 4) (off + k * 4) l[j].1.1 l[j].1.2 l[j].2 l[k].1.1 l[k].1.2 l[k].2 wr)
          have KB := fun w => byPrefix_any l[j].1.1 l[j].1.2 l[j].2 l[k].1.1 l[k].1.2 l[k].2 w
          have HA : Hid ((Adj l → pcmpZ l[j].1.1 l[j].1.2 l[k].1.1 l[k].1.2 < 0) ∧ (pcmpZ l[j].1.1 l[j].1.2 l[k].1.1 l[k].1.2 < 0 → ∀ (a : Nat) (h : a + 1 < l.length), a + 1 < k + 1 → pcmpZ l[a].1.1 l[a].1.2 l[a + 1].1.1 l[a + 1].1.2 < 0)) := hidR (by
            subst hj
            refine ⟨fun hA => hA j hks, fun h a ha ha2 => ?_⟩
            by_cases e : a = j
            · subst e; exact h
            · exact HG.out a ha (by omega))
          have m1 : IntKind.i64.wrap ((k : Int) - 1) = (j : Int) := by rw [IntKind.wrap_i64]; omega
          have m2 : IntKind.i64.wrap ((k : Int) + 1) = (k : Int) + 1 := by rw [IntKind.wrap_i64]; omega
          have i1 : (0 : Int) ≤ (j : Int) := by omega
          have i2 : (j : Int) < (l.length : Int) := by omega
          clear x0 x1 x2 x3 y0 y1 y2 y3 hc HV HT HB hj
          revert KB HA HC
          generalize pcmpZ l[j].1.1 l[j].1.2 l[k].1.1 l[k].1.2 = z
          generalize l[j].1.1 = ax
          generalize l[j].1.2 = an
          generalize l[j].2 = ah
          generalize l[k].1.1 = bx
          generalize l[k].1.2 = bn
          generalize l[k].2 = bh
          intro HC KB HA
          have HAo := hidR HA.out
          by_cases hz : 0 ≤ z
          · have HN : Hid (¬ Adj l) := hidR (fun h => by have := HA.out.1 h; omega)
            go_wp2_with fail
            refine q_region (C := T6 w F (.slice (some ⟨b, off, none⟩) l.length c) b (off + j * 4) (off + k * 4) ax an ah bx bn bh) (by kernel_rfl) (by kernel_rfl) (T6.below HC.out (below_drewN (Below.refl _ _) 1)) ?_
            clear HC HA HG
            refine q_run (v := .pointer (some ⟨w.heap.size, 1, none⟩)) (by rfl) ?_ ?_
            · (intro w1 hC; obtain ⟨⟨t0, t1⟩, ⟨y0, y1, y2, y3⟩, ⟨z0, z1, z2, z3⟩, -⟩ := hC; go_simp; first | done | (simp; done) | (simp [*]; done) | omega | (simp; omega) | (rw [IntKind.wrap_i64]; omega) | (intro hx; omega) | rfl)
            simp only [Act.put, List.setIfInBounds_toArray, List.set_cons_zero, List.set_cons_succ]
            refine q_run (v := .slice (some ⟨b, off, none⟩) l.length c) (by rfl) ?_ ?_
            · (intro w1 hC; obtain ⟨⟨t0, t1⟩, ⟨y0, y1, y2, y3⟩, ⟨z0, z1, z2, z3⟩, -⟩ := hC; go_simp; first | done | (simp; done) | (simp [*]; done) | omega | (simp; omega) | (rw [IntKind.wrap_i64]; omega) | (intro hx; omega) | rfl)
            simp only [Act.put, List.setIfInBounds_toArray, List.set_cons_zero, List.set_cons_succ]
            refine q_run (v := .int .i64 (k : Int)) (by rfl) ?_ ?_
            · (intro w1 hC; obtain ⟨⟨t0, t1⟩, ⟨y0, y1, y2, y3⟩, ⟨z0, z1, z2, z3⟩, -⟩ := hC; go_simp; first | done | (simp; done) | (simp [*]; done) | omega | (simp; omega) | (rw [IntKind.wrap_i64]; omega) | (intro hx; omega) | rfl)
            simp only [Act.put, List.setIfInBounds_toArray, List.set_cons_zero, List.set_cons_succ]
            refine q_run (v := .int .i64 (j : Int)) (by rfl) ?_ ?_
            · (intro w1 hC; obtain ⟨⟨t0, t1⟩, ⟨y0, y1, y2, y3⟩, ⟨z0, z1, z2, z3⟩, -⟩ := hC; go_simp; first | done | (simp; done) | (simp [*]; done) | omega | (simp; omega) | (rw [IntKind.wrap_i64]; omega) | (intro hx; omega) | rfl)
            simp only [Act.put, List.setIfInBounds_toArray, List.set_cons_zero, List.set_cons_succ]
            refine q_run (v := .pointer (some ⟨b, off + j * 4, none⟩)) (by rfl) ?_ ?_
            · (intro w1 hC; obtain ⟨⟨t0, t1⟩, ⟨y0, y1, y2, y3⟩, ⟨z0, z1, z2, z3⟩, -⟩ := hC; go_simp; first | done | (simp; done) | (simp [*]; done) | omega | (simp; omega) | (rw [IntKind.wrap_i64]; omega) | (intro hx; omega) | rfl)
            simp only [Act.put, List.setIfInBounds_toArray, List.set_cons_zero, List.set_cons_succ]
            refine q_run (v := .agg #[.int .u64 (hI ax), .int .u64 (lI ax), .int .i64 an, .int .i64 ah]) (by rfl) ?_ ?_
            · (intro w1 hC; obtain ⟨⟨t0, t1⟩, ⟨y0, y1, y2, y3⟩, ⟨z0, z1, z2, z3⟩, -⟩ := hC; go_simp; first | done | (simp; done) | (simp [*]; done) | omega | (simp; omega) | (rw [IntKind.wrap_i64]; omega) | (intro hx; omega) | rfl)
            simp only [Act.put, List.setIfInBounds_toArray, List.set_cons_zero, List.set_cons_succ]
            refine q_run (v := .pointer (some ⟨w.heap.size, 1, none⟩)) (by rfl) ?_ ?_
            · (intro w1 hC; obtain ⟨⟨t0, t1⟩, ⟨y0, y1, y2, y3⟩, ⟨z0, z1, z2, z3⟩, -⟩ := hC; go_simp; first | done | (simp; done) | (simp [*]; done) | omega | (simp; omega) | (rw [IntKind.wrap_i64]; omega) | (intro hx; omega) | rfl)
            simp only [Act.put, List.setIfInBounds_toArray, List.set_cons_zero, List.set_cons_succ]
            refine q_run (v := .slice (some ⟨b, off, none⟩) l.length c) (by rfl) ?_ ?_
            · (intro w1 hC; obtain ⟨⟨t0, t1⟩, ⟨y0, y1, y2, y3⟩, ⟨z0, z1, z2, z3⟩, -⟩ := hC; go_simp; first | done | (simp; done) | (simp [*]; done) | omega | (simp; omega) | (rw [IntKind.wrap_i64]; omega) | (intro hx; omega) | rfl)
            simp only [Act.put, List.setIfInBounds_toArray, List.set_cons_zero, List.set_cons_succ]
            refine q_run (v := .int .i64 (k : Int)) (by rfl) ?_ ?_
            · (intro w1 hC; obtain ⟨⟨t0, t1⟩, ⟨y0, y1, y2, y3⟩, ⟨z0, z1, z2, z3⟩, -⟩ := hC; go_simp; first | done | (simp; done) | (simp [*]; done) | omega | (simp; omega) | (rw [IntKind.wrap_i64]; omega) | (intro hx; omega) | rfl)
            simp only [Act.put, List.setIfInBounds_toArray, List.set_cons_zero, List.set_cons_succ]
            refine q_run (v := .pointer (some ⟨b, off + k * 4, none⟩)) (by rfl) ?_ ?_
            · (intro w1 hC; obtain ⟨⟨t0, t1⟩, ⟨y0, y1, y2, y3⟩, ⟨z0, z1, z2, z3⟩, -⟩ := hC; go_simp; first | done | (simp; done) | (simp [*]; done) | omega | (simp; omega) | (rw [IntKind.wrap_i64]; omega) | (intro hx; omega) | rfl)
            simp only [Act.put, List.setIfInBounds_toArray, List.set_cons_zero, List.set_cons_succ]
            refine q_run (v := .agg #[.int .u64 (hI bx), .int .u64 (lI bx), .int .i64 bn, .int .i64 bh]) (by rfl) ?_ ?_
            · (intro w1 hC; obtain ⟨⟨t0, t1⟩, ⟨y0, y1, y2, y3⟩, ⟨z0, z1, z2, z3⟩, -⟩ := hC; go_simp; first | done | (simp; done) | (simp [*]; done) | omega | (simp; omega) | (rw [IntKind.wrap_i64]; omega) | (intro hx; omega) | rfl)
            simp only [Act.put, List.setIfInBounds_toArray, List.set_cons_zero, List.set_cons_succ]
            refine q_call (v := .int .i64 z) (f := 52) (args := #[.agg #[.int .u64 (hI ax), .int .u64 (lI ax), .int .i64 an, .int .i64 ah], .agg #[.int .u64 (hI bx), .int .u64 (lI bx), .int .i64 bn, .int .i64 bh]]) (by rfl) ?_ ?_ ?_
            · (intro w1 hC; clear hC; go_simp)
            · exact fun w1 hC => (KB w1).mono fun e w' ⟨he, hb⟩ => ⟨he, T6.below hC hb⟩
            simp only [Act.put, List.setIfInBounds_toArray, List.set_cons_zero, List.set_cons_succ]
            refine q_run (v := .bool true) (by rfl) ?_ ?_
            · (intro w1 hC; obtain ⟨⟨t0, t1⟩, ⟨y0, y1, y2, y3⟩, ⟨z0, z1, z2, z3⟩, -⟩ := hC; go_simp; first | done | (simp; done) | (simp [*]; done) | omega | (simp; omega) | (rw [IntKind.wrap_i64]; omega) | (intro hx; omega) | rfl)
            simp only [Act.put, List.setIfInBounds_toArray, List.set_cons_zero, List.set_cons_succ]
            refine wpQuiet_nil ?_
            intro W hC
            have HW := hidR hC
            clear hC
            go_wp2
            go_ret
            exact ⟨⟨19, HE1.out 19 (.inr ⟨HN.out, rfl⟩), rfl⟩, HW.out.2.2.2⟩
          · have HG2 := hidR (HA.out.2 (by omega))
            have hzd : decide (0 ≤ z) = false := by simpa using hz
            go_wp2_with fail
            refine q_region (C := T6 w F (.slice (some ⟨b, off, none⟩) l.length c) b (off + j * 4) (off + k * 4) ax an ah bx bn bh) (by kernel_rfl) (by kernel_rfl) (T6.below HC.out (below_drewN (Below.refl _ _) 1)) ?_
            clear HC HA HG
            refine q_run (v := .pointer (some ⟨w.heap.size, 1, none⟩)) (by rfl) ?_ ?_
            · (intro w1 hC; obtain ⟨⟨t0, t1⟩, ⟨y0, y1, y2, y3⟩, ⟨z0, z1, z2, z3⟩, -⟩ := hC; go_simp; first | done | (simp; done) | (simp [*]; done) | omega | (simp; omega) | (rw [IntKind.wrap_i64]; omega) | (intro hx; omega) | rfl)
            simp only [Act.put, List.setIfInBounds_toArray, List.set_cons_zero, List.set_cons_succ]
            refine q_run (v := .slice (some ⟨b, off, none⟩) l.length c) (by rfl) ?_ ?_
            · (intro w1 hC; obtain ⟨⟨t0, t1⟩, ⟨y0, y1, y2, y3⟩, ⟨z0, z1, z2, z3⟩, -⟩ := hC; go_simp; first | done | (simp; done) | (simp [*]; done) | omega | (simp; omega) | (rw [IntKind.wrap_i64]; omega) | (intro hx; omega) | rfl)
            simp only [Act.put, List.setIfInBounds_toArray, List.set_cons_zero, List.set_cons_succ]
            refine q_run (v := .int .i64 (k : Int)) (by rfl) ?_ ?_
            · (intro w1 hC; obtain ⟨⟨t0, t1⟩, ⟨y0, y1, y2, y3⟩, ⟨z0, z1, z2, z3⟩, -⟩ := hC; go_simp; first | done | (simp; done) | (simp [*]; done) | omega | (simp; omega) | (rw [IntKind.wrap_i64]; omega) | (intro hx; omega) | rfl)
            simp only [Act.put, List.setIfInBounds_toArray, List.set_cons_zero, List.set_cons_succ]
            refine q_run (v := .int .i64 (j : Int)) (by rfl) ?_ ?_
            · (intro w1 hC; obtain ⟨⟨t0, t1⟩, ⟨y0, y1, y2, y3⟩, ⟨z0, z1, z2, z3⟩, -⟩ := hC; go_simp; first | done | (simp; done) | (simp [*]; done) | omega | (simp; omega) | (rw [IntKind.wrap_i64]; omega) | (intro hx; omega) | rfl)
            simp only [Act.put, List.setIfInBounds_toArray, List.set_cons_zero, List.set_cons_succ]
            refine q_run (v := .pointer (some ⟨b, off + j * 4, none⟩)) (by rfl) ?_ ?_
            · (intro w1 hC; obtain ⟨⟨t0, t1⟩, ⟨y0, y1, y2, y3⟩, ⟨z0, z1, z2, z3⟩, -⟩ := hC; go_simp; first | done | (simp; done) | (simp [*]; done) | omega | (simp; omega) | (rw [IntKind.wrap_i64]; omega) | (intro hx; omega) | rfl)
            simp only [Act.put, List.setIfInBounds_toArray, List.set_cons_zero, List.set_cons_succ]
            refine q_run (v := .agg #[.int .u64 (hI ax), .int .u64 (lI ax), .int .i64 an, .int .i64 ah]) (by rfl) ?_ ?_
            · (intro w1 hC; obtain ⟨⟨t0, t1⟩, ⟨y0, y1, y2, y3⟩, ⟨z0, z1, z2, z3⟩, -⟩ := hC; go_simp; first | done | (simp; done) | (simp [*]; done) | omega | (simp; omega) | (rw [IntKind.wrap_i64]; omega) | (intro hx; omega) | rfl)
            simp only [Act.put, List.setIfInBounds_toArray, List.set_cons_zero, List.set_cons_succ]
            refine q_run (v := .pointer (some ⟨w.heap.size, 1, none⟩)) (by rfl) ?_ ?_
            · (intro w1 hC; obtain ⟨⟨t0, t1⟩, ⟨y0, y1, y2, y3⟩, ⟨z0, z1, z2, z3⟩, -⟩ := hC; go_simp; first | done | (simp; done) | (simp [*]; done) | omega | (simp; omega) | (rw [IntKind.wrap_i64]; omega) | (intro hx; omega) | rfl)
            simp only [Act.put, List.setIfInBounds_toArray, List.set_cons_zero, List.set_cons_succ]
            refine q_run (v := .slice (some ⟨b, off, none⟩) l.length c) (by rfl) ?_ ?_
            · (intro w1 hC; obtain ⟨⟨t0, t1⟩, ⟨y0, y1, y2, y3⟩, ⟨z0, z1, z2, z3⟩, -⟩ := hC; go_simp; first | done | (simp; done) | (simp [*]; done) | omega | (simp; omega) | (rw [IntKind.wrap_i64]; omega) | (intro hx; omega) | rfl)
            simp only [Act.put, List.setIfInBounds_toArray, List.set_cons_zero, List.set_cons_succ]
            refine q_run (v := .int .i64 (k : Int)) (by rfl) ?_ ?_
            · (intro w1 hC; obtain ⟨⟨t0, t1⟩, ⟨y0, y1, y2, y3⟩, ⟨z0, z1, z2, z3⟩, -⟩ := hC; go_simp; first | done | (simp; done) | (simp [*]; done) | omega | (simp; omega) | (rw [IntKind.wrap_i64]; omega) | (intro hx; omega) | rfl)
            simp only [Act.put, List.setIfInBounds_toArray, List.set_cons_zero, List.set_cons_succ]
            refine q_run (v := .pointer (some ⟨b, off + k * 4, none⟩)) (by rfl) ?_ ?_
            · (intro w1 hC; obtain ⟨⟨t0, t1⟩, ⟨y0, y1, y2, y3⟩, ⟨z0, z1, z2, z3⟩, -⟩ := hC; go_simp; first | done | (simp; done) | (simp [*]; done) | omega | (simp; omega) | (rw [IntKind.wrap_i64]; omega) | (intro hx; omega) | rfl)
            simp only [Act.put, List.setIfInBounds_toArray, List.set_cons_zero, List.set_cons_succ]
            refine q_run (v := .agg #[.int .u64 (hI bx), .int .u64 (lI bx), .int .i64 bn, .int .i64 bh]) (by rfl) ?_ ?_
            · (intro w1 hC; obtain ⟨⟨t0, t1⟩, ⟨y0, y1, y2, y3⟩, ⟨z0, z1, z2, z3⟩, -⟩ := hC; go_simp; first | done | (simp; done) | (simp [*]; done) | omega | (simp; omega) | (rw [IntKind.wrap_i64]; omega) | (intro hx; omega) | rfl)
            simp only [Act.put, List.setIfInBounds_toArray, List.set_cons_zero, List.set_cons_succ]
            refine q_call (v := .int .i64 z) (f := 52) (args := #[.agg #[.int .u64 (hI ax), .int .u64 (lI ax), .int .i64 an, .int .i64 ah], .agg #[.int .u64 (hI bx), .int .u64 (lI bx), .int .i64 bn, .int .i64 bh]]) (by rfl) ?_ ?_ ?_
            · (intro w1 hC; clear hC; go_simp)
            · exact fun w1 hC => (KB w1).mono fun e w' ⟨he, hb⟩ => ⟨he, T6.below hC hb⟩
            simp only [Act.put, List.setIfInBounds_toArray, List.set_cons_zero, List.set_cons_succ]
            refine q_run (v := .bool false) (by rfl) ?_ ?_
            · (intro w1 hC; obtain ⟨⟨t0, t1⟩, ⟨y0, y1, y2, y3⟩, ⟨z0, z1, z2, z3⟩, -⟩ := hC; go_simp; first | done | (simp; done) | (simp [*]; done) | omega | (simp; omega) | (rw [IntKind.wrap_i64]; omega) | (intro hx; omega) | rfl)
            simp only [Act.put, List.setIfInBounds_toArray, List.set_cons_zero, List.set_cons_succ]
            refine wpQuiet_nil ?_
            intro W hC
            have HW := hidR hC
            clear hC
            go_wp2
            go_roundw
            case rel => exact ⟨k + 1, by omega, .inl (by omega), by simp, HG2, hidR HW.out.1, hidR HW.out.2.2.2⟩
            case measure => simp [intOf]; omega
      · have hd : decide ((k : Int) < (l.length : Int)) = false := by simpa using hlt
        have HA : Hid (Adj l) := hidR (fun a h => HG.out a h (by omega))
        go_wp2
        go_ret
        exact ⟨⟨0, HE1.out 0 (.inl ⟨HA.out, rfl⟩), rfl⟩, HB.out⟩
  · have hn : (ce != 0) = true := by simp [hce]
    have HE1 := hidR (HE.out ce ⟨fun _ => rfl, fun h => absurd h hce⟩)
    clear HE
    go_wp2
    go_ret
    exact ⟨⟨ce, HE1.out, rfl⟩, HB1.out⟩
theorem rtsG_all (F : Int) : ∀ l : List Rte, rtsG F l = 0 → ∀ r ∈ l, rteE F r = 0
  | [], _, r, hr => by cases hr
  | a :: l, h, r, hr => by
    rw [rtsG] at h
    split at h
    · rename_i h1
      rcases List.mem_cons.mp hr with e | e
      · rw [e]; exact h1
      · exact rtsG_all F l h r e
    · rename_i h1; exact absurd h h1
theorem rts_all (F : Int) (l : List Rte) (h : rtsE F l = 0) : fam F = true ∧ l.length ≤ 1048576 ∧ ∀ r ∈ l, rteE F r = 0 := by
  unfold rtsE at h
  split at h
  · rename_i h1
    split at h
    · omega
    · rename_i h2
      exact ⟨h1, by omega, rtsG_all F l h⟩
  · omega
theorem rte_ro (F : Int) (r : Rte) (hf : fam F = true) (h : rteE F r = 0) : Ro F r := by
  unfold rteE at h
  split at h
  · rename_i h1
    split at h
    · rename_i h2
      unfold hopB at h2
      simp only [Bool.and_eq_true, decide_eq_true_iff] at h2
      refine ⟨?_, by omega, by omega⟩
      unfold checkE at h1
      rw [if_pos hf] at h1
      split at h1
      · omega
      · split at h1
        · omega
        · split at h1
          · rename_i h3 h4 h5
            exact ⟨by omega, by omega, by simpa using h5⟩
          · omega
    · omega
  · rename_i h1; exact absurd h h1
set_option maxRecDepth 20000 in
set_option maxHeartbeats 8000000 in
theorem segs_any (F : Int) (v : Value) (l : List Rte) (w : World) (hv : RwR w v l) :
    Calls Tryd.prog 9 #[.agg #[.int .i64 F, v]] w fun e w' => (∃ z v', TabE F l z ∧ e = .returned (.tuple #[v', .int .i64 z]) ∧ (z = 0 → w'.ownsRow w.heap.size 39 5 v' (swp F l).length (rowG (swp F l))) ∧ (z ≠ 0 → v' = .slice none 0 0)) ∧ Below w.heap.size w w' := by
  have b0 := bl1 w (.cells #[.int .i64 F, v] 24)
  have KC := tcheck_any F v l _ (hv.below b0)
  have HT := hidR (att_new w w.heap.size F v 24 rfl)
  have HV := hidR (hv.below b0)
  have HB := hidR b0
  have HX : Hid (∀ W, RwR W v l → TabE F l 0 → Calls Tryd.prog 26 #[.agg #[.int .i64 F, v]] W fun e w' => (∃ v', e = .returned v' ∧ w'.ownsRow W.heap.size 39 5 v' (swp F l).length (rowG (swp F l))) ∧ Below W.heap.size W w') := hidR (fun W hW hE => by
    have h0 : rtsE F l = 0 := by
      by_cases h : rtsE F l = 0
      · exact h
      · have := hE.1 h; omega
    obtain ⟨hf, h1, h2⟩ := rts_all F l h0
    exact sweep_any F v l W hW (by omega) (fun r hr => (rte_ro F r hf (h2 r hr)).1.1))
  obtain ⟨t0, t1⟩ := HT.out
  obtain ⟨ao, c, rfl, -⟩ := hv
  clear b0
  go_enter Tryd.func9, Tryd.ntmps9
  go_wp2_with fail
  refine KC.mono ?_
  rintro e w1 ⟨⟨z, hz, rfl⟩, hb⟩
  have HB1 := hidR (keepb hb HB.out)
  have HT1 := hidR (HT.out.below hb)
  have HV1 := hidR (HV.out.below hb)
  clear KC hb t0 t1 HB HT HV
  obtain ⟨t0, t1⟩ := HT1.out
  by_cases hz0 : z = 0
  · subst hz0
    have HE := hidR hz
    clear hz
    have KS := HX.out w1 HV1.out HE.out
    go_wp2_with fail
    refine KS.mono ?_
    rintro e w2 ⟨⟨v', rfl, hown⟩, hb2⟩
    have HO := hidR (own_wide hown HB1.out.size)
    have HB2 := hidR (keepb hb2 HB1.out)
    clear KS hown hb2 t0 t1
    go_wp2
    exact bodyPost_ret (v := .tuple #[v', .int .i64 0]) (by simp [results, Tryd.results9, go_sem]) rfl ⟨⟨0, v', HE.out, rfl, fun _ => HO.out, fun h => absurd rfl h⟩, HB2.out⟩
  · have hn : (z != 0) = true := by simp [hz0]
    have HE := hidR hz
    have HZ := hidR hz0
    clear hz hz0
    go_wp2
    exact bodyPost_ret (v := .tuple #[.slice none 0 0, .int .i64 z]) (by simp [results, Tryd.results9, go_sem]) rfl ⟨⟨z, _, HE.out, rfl, fun h => absurd h HZ.out, fun _ => rfl⟩, HB1.out⟩
end Go.Proofs.YtmkjlcfoedglmaaDoor
/-
  What a table's check says, plainly.
-/
namespace Go.Proofs.YtmkjlcfoedglmaaDoor
set_option linter.unusedSimpArgs false
set_option linter.unusedVariables false

theorem ord_pair {l : List Rte} (h : OrdR l) : l.Pairwise (fun a b => pcmpZ a.1.1 a.1.2 b.1.1 b.1.2 < 0) := by
  rw [List.pairwise_iff_getElem]
  intro i j hi hj hij
  exact h i j hj hij
/-- What Check's OK says of a table. -/
theorem tab_ok {F : Int} {l : List Rte} (h : TabE F l 0) : fam F = true ∧ l.length ≤ 1048576 ∧ (∀ r ∈ l, Ro F r) ∧ l.Pairwise (fun a b => pcmpZ a.1.1 a.1.2 b.1.1 b.1.2 < 0) := by
  have h0 : rtsE F l = 0 := by
    by_cases h' : rtsE F l = 0
    · exact h'
    · have := h.1 h'; omega
  obtain ⟨hf, h1, h2⟩ := rts_all F l h0
  rcases h.2 h0 with ⟨ha, -⟩ | ⟨-, q⟩
  · exact ⟨hf, h1, fun r hr => rte_ro F r hf (h2 r hr), ord_pair (ord_adj ha)⟩
  · omega
theorem zero_right (F : Int) (hf : fam F = true) : rightE F 0#128 = 0 := by
  rcases fam_ways F hf with rfl | rfl <;> decide +kernel
theorem rt_right (F : Int) (hf : fam F = true) (r : Rte) (h : Ro F r) : rightE F r.1.1 = 0 := by
  exact right_of F _ hf (rt_fam F _ _ h.1)
theorem ro_cells {F : Int} {l : List Rte} (hf : fam F = true) (hL : ∀ r ∈ l, Ro F r) : ∀ r ∈ l, 0 ≤ r.1.2 ∧ r.1.2 ≤ 128 ∧ cutW r.1.1 r.1.2 = r.1.1 := by
  intro r hr
  obtain ⟨⟨h0, h1, h2⟩, -⟩ := hL r hr
  have : F ≤ 128 := by rcases fam_ways F hf with rfl | rfl <;> decide
  exact ⟨h0, by omega, h2⟩
end Go.Proofs.YtmkjlcfoedglmaaDoor
