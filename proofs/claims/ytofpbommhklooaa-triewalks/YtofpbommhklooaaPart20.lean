/-
  Part 20 of the proof: 1 texts, one behind the other.
-/
import Derived.Test.YtofpbommhklooaaPart15
import Derived.Test.YtofpbommhklooaaPart11
import Derived.Test.YtofpbommhklooaaPart8
/-
  How many nodes a table's tree has: size.
-/
namespace Go.Proofs.Ytofpbommhklooaa
open Go.RowKit Go.Shelf
set_option linter.unusedSimpArgs false
set_option linter.unusedVariables false

theorem fldP1 (a b c : Int) (w : World) : (Instr.field 45 (.agg #[.int .u64 a, .int .u64 b, .int .i64 c]) 1).run Try.prog w = .ok (.int .i64 c) w := by kernel_rfl
def szG (n : Int) (last : BitVec 128 × Int) : List Rte → Int
  | [] => n
  | r :: l => szG (n + (r.1.2 - meetN last.1 last.2 r.1.1 r.1.2)) r.1 l
theorem meet_bd (x : BitVec 128) (n : Int) (y : BitVec 128) (m : Int) (h0 : 0 ≤ n) (h1 : 0 ≤ m) : 0 ≤ meetN x n y m ∧ meetN x n y m ≤ m := by
  unfold meetN
  omega
theorem sz_bd : ∀ (l : List Rte) (n : Int) (last : BitVec 128 × Int), 0 ≤ last.2 → (∀ r ∈ l, 0 ≤ r.1.2 ∧ r.1.2 ≤ 128) → n ≤ szG n last l ∧ szG n last l ≤ n + 128 * l.length
  | [], n, last, _, _ => by simp [szG]
  | r :: l, n, last, h0, h => by
    have hr := h r (List.mem_cons_self ..)
    have mb := meet_bd last.1 last.2 r.1.1 r.1.2 h0 hr.1
    have := sz_bd l (n + (r.1.2 - meetN last.1 last.2 r.1.1 r.1.2)) r.1 hr.1 (fun q hq => h q (List.mem_cons_of_mem _ hq))
    rw [szG, List.length_cons]
    push_cast
    omega
set_option maxRecDepth 20000 in
set_option maxHeartbeats 4000000 in
theorem size_any (v : Value) (l : List Rte) (w : World) (hv : RwR w v l) (hl : l.length ≤ 1048576) (hr : ∀ r ∈ l, 0 ≤ r.1.2 ∧ r.1.2 ≤ 128) :
    Calls Try.prog 51 #[v] w fun e w' => e = .returned (.int .i64 (szG 1 (0#128, 0) l)) ∧ Below w.heap.size w w' := by
  obtain ⟨ao, c, rfl, hv⟩ := hv
  have HV := hidX hv
  have HL := hidX (And.intro hl hr)
  have q0 := bl1 w (.cells #[.int .u64 0, .int .u64 0, .int .i64 0] 45)
  have A0 := atp_new w w.heap.size 0#128 0 45 rfl
  rw [hI_zero, lI_zero] at A0
  have HA0 := hidX A0
  have HB0 := hidX q0
  have FP := fun a b c w => fldP1 a b c w
  obtain ⟨S, hS⟩ : ∃ S, S = szG 1 (0#128, 0) l := ⟨_, rfl⟩
  rw [← hS]
  have HS := hidX hS
  clear hv hr A0 q0 hS
  go_enter Try.func51, Try.ntmps51
  go_wp2_with fail
  go_loopw [3, 10] (fun n i wr => ∃ (k : Nat) (m : Int) (lx : BitVec 128) (ln : Int), k ≤ l.length ∧ i = .int .i64 k ∧ n = .int .i64 m ∧ Hid (szG m (lx, ln) (l.drop k) = S) ∧ Hid (0 ≤ ln ∧ 1 ≤ m ∧ m ≤ 1 + 128 * (k : Int)) ∧ Hid (AtP wr w.heap.size lx ln) ∧ Hid (Below w.heap.size w wr)) (fun n i _ => l.length - (intOf i).toNat)
  case atStart => exact ⟨0, 1, 0#128, 0, by omega, rfl, rfl, hidX HS.out.symm, hidX ⟨by omega, by omega, by omega⟩, HA0, HB0⟩
  case round =>
    clear HA0 HB0
    obtain ⟨k, m, lx, ln, hk, rfl, rfl, HG, HM, HA, HB⟩ := hrel
    by_cases hlt : (k : Int) < (l.length : Int)
    · have hks : k < l.length := by omega
      rcases HV.out with h | ⟨b, off, rfl, hc⟩
      · rw [h] at hks; simp at hks
      · obtain ⟨x0, x1, x2, x3⟩ := rwr_cells hc k hks
        have x0 := keepc HB.out x0
        have x1 := keepc HB.out x1
        have x2 := keepc HB.out x2
        have x3 := keepc HB.out x3
        have HG2 : Hid (szG (m + (l[k].1.2 - meetN lx ln l[k].1.1 l[k].1.2)) (l[k].1.1, l[k].1.2) (l.drop (k + 1)) = S) := hidX (by rw [← HG.out, List.drop_eq_getElem_cons hks, szG])
        have hrk := HL.out.2 l[k] (List.getElem_mem hks)
        have mb := meet_bd lx ln l[k].1.1 l[k].1.2 HM.out.1 hrk.1
        have KM := fun w => pmeet_any lx ln l[k].1.1 l[k].1.2 w
        clear hc HV HG
        revert KM HG2 hrk mb
        generalize l[k].1.1 = px at *
        generalize l[k].1.2 = pn at *
        generalize l[k].2 = ph at *
        generalize meetN lx ln px pn = mt
        generalize cutW lx mt = cx
        intro HG2 hrk mb KM
        have hM := HM.out
        have hl2 := HL.out.1
        have w1' : IntKind.i64.wrap (pn - mt) = pn - mt := by rw [IntKind.wrap_i64]; omega
        have w2' : IntKind.i64.wrap (m + (pn - mt)) = m + (pn - mt) := by rw [IntKind.wrap_i64]; omega
        have w3' : IntKind.i64.wrap ((k : Int) + 1) = ((k + 1 : Nat) : Int) := by rw [IntKind.wrap_i64]; push_cast; omega
        have HM2 : Hid (0 ≤ pn ∧ 1 ≤ m + (pn - mt) ∧ m + (pn - mt) ≤ 1 + 128 * ((k + 1 : Nat) : Int)) := hidX ⟨by omega, by omega, by push_cast; omega⟩
        clear hM hl2 hrk mb HM
        have q4 := bl1 wr (.cells #[.int .u64 (hI px), .int .u64 (lI px), .int .i64 pn, .int .i64 ph] 47)
        have P0 := hidX (atr_new wr wr.heap.size px pn ph 47 rfl)
        have HA2 := hidX (HA.out.below q4)
        have HB2 := hidX (keepb q4 HB.out)
        have hwr : w.heap.size < wr.heap.size := cell_in HA.out.1
        clear q4 HA HB
        go_wp2_with fail
        revert P0 HA2 HB2
        generalize wr.alloc (.cells #[.int .u64 (hI px), .int .u64 (lI px), .int .i64 pn, .int .i64 ph] 47) = W4
        generalize wr.heap.size = R at *
        intro P0 HA2 HB2
        clear x0 x1 x2 x3
        have HD : Hid (∀ X, Below W4.heap.size W4 X → AtP X w.heap.size lx ln ∧ (X.cell? ⟨R, 0, none⟩ = some (.int .u64 (hI px)) ∧ X.cell? ⟨R, 1, none⟩ = some (.int .u64 (lI px)) ∧ X.cell? ⟨R, 2, none⟩ = some (.int .i64 pn) ∧ X.cell? ⟨R, 3, none⟩ = some (.int .i64 ph))) := hidX (fun X hb => ⟨HA2.out.below hb, keepc hb P0.out.1, keepc hb P0.out.2.1, keepc hb P0.out.2.2.1, keepc hb P0.out.2.2.2⟩)
        refine qw_region (C := fun X => Below W4.heap.size W4 X) (by kernel_rfl) (by kernel_rfl) (below_drewN (Below.refl _ _) 1) ?_
        refine qw_run (v := .int .i64 m) (by rfl) ?_ ?_
        · (intro w1 hC; obtain ⟨⟨a0, a1, a2, -, -, -⟩, ⟨p0, p1, p2, p3⟩⟩ := HD.out w1 hC; go_simp; first | done | (simp; done) | (simp [*]; done) | omega | (simp; omega) | (rw [IntKind.wrap_i64]; omega) | (intro hx; omega) | rfl)
        simp only [Act.put, List.setIfInBounds_toArray, List.set_cons_zero, List.set_cons_succ]
        refine qw_run (v := .pointer (some ⟨R, 0, none⟩)) (by rfl) ?_ ?_
        · (intro w1 hC; obtain ⟨⟨a0, a1, a2, -, -, -⟩, ⟨p0, p1, p2, p3⟩⟩ := HD.out w1 hC; go_simp; first | done | (simp; done) | (simp [*]; done) | omega | (simp; omega) | (rw [IntKind.wrap_i64]; omega) | (intro hx; omega) | rfl)
        simp only [Act.put, List.setIfInBounds_toArray, List.set_cons_zero, List.set_cons_succ]
        refine qw_run (v := .pointer (some ⟨R, 2, none⟩)) (by rfl) ?_ ?_
        · (intro w1 hC; obtain ⟨⟨a0, a1, a2, -, -, -⟩, ⟨p0, p1, p2, p3⟩⟩ := HD.out w1 hC; go_simp; first | done | (simp; done) | (simp [*]; done) | omega | (simp; omega) | (rw [IntKind.wrap_i64]; omega) | (intro hx; omega) | rfl)
        simp only [Act.put, List.setIfInBounds_toArray, List.set_cons_zero, List.set_cons_succ]
        refine qw_run (v := .int .i64 pn) (by rfl) ?_ ?_
        · (intro w1 hC; obtain ⟨⟨a0, a1, a2, -, -, -⟩, ⟨p0, p1, p2, p3⟩⟩ := HD.out w1 hC; go_simp; first | done | (simp; done) | (simp [*]; done) | omega | (simp; omega) | (rw [IntKind.wrap_i64]; omega) | (intro hx; omega) | rfl)
        simp only [Act.put, List.setIfInBounds_toArray, List.set_cons_zero, List.set_cons_succ]
        refine qw_run (v := .agg #[.int .u64 (hI lx), .int .u64 (lI lx), .int .i64 ln]) (by rfl) ?_ ?_
        · (intro w1 hC; obtain ⟨⟨a0, a1, a2, -, -, -⟩, ⟨p0, p1, p2, p3⟩⟩ := HD.out w1 hC; go_simp; first | done | (simp; done) | (simp [*]; done) | omega | (simp; omega) | (rw [IntKind.wrap_i64]; omega) | (intro hx; omega) | rfl)
        simp only [Act.put, List.setIfInBounds_toArray, List.set_cons_zero, List.set_cons_succ]
        refine qw_run (v := .pointer (some ⟨R, 0, none⟩)) (by rfl) ?_ ?_
        · (intro w1 hC; obtain ⟨⟨a0, a1, a2, -, -, -⟩, ⟨p0, p1, p2, p3⟩⟩ := HD.out w1 hC; go_simp; first | done | (simp; done) | (simp [*]; done) | omega | (simp; omega) | (rw [IntKind.wrap_i64]; omega) | (intro hx; omega) | rfl)
        simp only [Act.put, List.setIfInBounds_toArray, List.set_cons_zero, List.set_cons_succ]
        refine qw_run (v := .agg #[.int .u64 (hI px), .int .u64 (lI px), .int .i64 pn]) (by rfl) ?_ ?_
        · (intro w1 hC; obtain ⟨⟨a0, a1, a2, -, -, -⟩, ⟨p0, p1, p2, p3⟩⟩ := HD.out w1 hC; go_simp; first | done | (simp; done) | (simp [*]; done) | omega | (simp; omega) | (rw [IntKind.wrap_i64]; omega) | (intro hx; omega) | rfl)
        simp only [Act.put, List.setIfInBounds_toArray, List.set_cons_zero, List.set_cons_succ]
        refine qw_call (v := .agg #[.int .u64 (hI cx), .int .u64 (lI cx), .int .i64 mt]) (f := 54) (args := #[.agg #[.int .u64 (hI lx), .int .u64 (lI lx), .int .i64 ln], .agg #[.int .u64 (hI px), .int .u64 (lI px), .int .i64 pn]]) (by rfl) ?_ ?_ ?_
        · (intro w1 hC; clear hC; go_simp)
        · exact fun w1 hC => (KM w1).mono fun e w' ⟨he, hb⟩ => ⟨he, keepb hb hC⟩
        simp only [Act.put, List.setIfInBounds_toArray, List.set_cons_zero, List.set_cons_succ]
        refine qw_run (v := .int .i64 mt) (by rfl) ?_ ?_
        · (intro w1 hC; obtain ⟨⟨a0, a1, a2, -, -, -⟩, ⟨p0, p1, p2, p3⟩⟩ := HD.out w1 hC; go_simp; first | done | (simp; done) | (simp [*]; done) | omega | (simp; omega) | (rw [IntKind.wrap_i64]; omega) | (intro hx; omega) | rfl)
        simp only [Act.put, List.setIfInBounds_toArray, List.set_cons_zero, List.set_cons_succ]
        refine qw_run (v := .int .i64 (pn - mt)) (by rfl) ?_ ?_
        · (intro w1 hC; obtain ⟨⟨a0, a1, a2, -, -, -⟩, ⟨p0, p1, p2, p3⟩⟩ := HD.out w1 hC; go_simp; first | done | (simp; done) | (simp [*]; done) | omega | (simp; omega) | (rw [IntKind.wrap_i64]; omega) | (intro hx; omega) | rfl)
        simp only [Act.put, List.setIfInBounds_toArray, List.set_cons_zero, List.set_cons_succ]
        refine qw_run (v := .int .i64 (m + (pn - mt))) (by rfl) ?_ ?_
        · (intro w1 hC; obtain ⟨⟨a0, a1, a2, -, -, -⟩, ⟨p0, p1, p2, p3⟩⟩ := HD.out w1 hC; go_simp; first | done | (simp; done) | (simp [*]; done) | omega | (simp; omega) | (rw [IntKind.wrap_i64]; omega) | (intro hx; omega) | rfl)
        simp only [Act.put, List.setIfInBounds_toArray, List.set_cons_zero, List.set_cons_succ]
        refine qw_run (v := .int .i64 (m + (pn - mt))) (by rfl) ?_ ?_
        · (intro w1 hC; obtain ⟨⟨a0, a1, a2, -, -, -⟩, ⟨p0, p1, p2, p3⟩⟩ := HD.out w1 hC; go_simp; first | done | (simp; done) | (simp [*]; done) | omega | (simp; omega) | (rw [IntKind.wrap_i64]; omega) | (intro hx; omega) | rfl)
        simp only [Act.put, List.setIfInBounds_toArray, List.set_cons_zero, List.set_cons_succ]
        refine qw_nil ?_
        intro W5 hC5
        obtain ⟨⟨a0, a1, a2, a3, a4, a5⟩, p0, p1, p2, p3⟩ := HD.out W5 hC5
        have HA5 := hidX ((HA2.out.below hC5).set8 px pn)
        have HB5 := hidX ((((keepb hC5 HB2.out).setCell (p := ⟨w.heap.size, 0, none⟩) (Nat.le_refl _) (.int .u64 (hI px))).setCell (p := ⟨w.heap.size, 1, none⟩) (Nat.le_refl _) (.int .u64 (lI px))).setCell (p := ⟨w.heap.size, 2, none⟩) (Nat.le_refl _) (.int .i64 pn))
        clear hC5 HD HA2 HB2 P0 KM FP
        go_wp2
        go_roundw
        case rel => exact ⟨k + 1, m + (pn - mt), px, pn, by omega, rfl, rfl, HG2, HM2, HA5, HB5⟩
        case measure => simp [intOf]; omega
    · have hke : k = l.length := by omega
      obtain rfl : m = S := by rw [← HG.out, List.drop_eq_nil_of_le (by omega)]; rfl
      clear HG HM HA HV HL
      go_wp2
      go_ret
      exact ⟨rfl, HB.out⟩
end Go.Proofs.Ytofpbommhklooaa
