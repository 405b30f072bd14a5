/-
  Part 10 of the proof: 11 texts, one behind the other.
-/
import Derived.Test.YtpiicdpipjjenaaGreatDoorPart9
import Derived.Test.YtpiicdpipjjenaaGreatDoorShelf
import Derived.Shelf.Strings.Builder1
import Derived.Lib.OthersKept
import Derived.Test.YtpiicdpipjjenaaGreatDoorPart6
import Derived.Lib.TrailingZeros
import Derived.Deep.QuietTactic
import Derived.BigQuiet
import Derived.Test.YtpiicdpipjjenaaGreatDoorPart3
import Derived.Test.YtpiicdpipjjenaaGreatDoorPart4
import Derived.Laws.AppendOwnNone
import Derived.Lib.IndexBytes
namespace Go.Proofs.YtpiicdpipjjenaaGreatDoor
open Go.RowKit
set_option linter.unusedSimpArgs false
set_option linter.unusedVariables false

theorem stopHereT {P : Program} {w : World} {ops : Array Oper} {rest : List Oper} {a : Act} {Q : Exit → Act → World → Prop} {o : Oper} (h : Hid (wpList P ops Q (o :: rest) a w)) : wpList P ops Q (o :: rest) a w := h.out
def TxQ (F : Int) (l : List Rte) (w : World) (e : Ending) (w' : World) : Prop := (∃ z, TabE F l z ∧ e = .returned (.tuple #[.string (if z = 0 then bL9 (tx5 F l) else ⟨#[]⟩), .int .i64 z])) ∧ Below w.heap.size w w'
theorem str_ln (F : Int) (r : Rte) : Lib.strCells (ptxD F r.1.1 r.1.2 ++ ⟨#[32]⟩ ++ ⟨(decL r.2.toNat).toArray⟩ ++ ⟨#[10]⟩) = Lib.byteCells (lnT F r) := by
  unfold Lib.strCells Lib.byteCells lnT
  simp [ByteArray.data_append]
set_option maxRecDepth 20000 in
set_option maxHeartbeats 16000000 in
theorem rtext5_any (F : Int) (v : Value) (l : List Rte) (w : World) (hv : RwR w v l) :
    Calls Tryz.prog 11 #[.agg #[.int .i64 F, v]] w (TxQ F l w) := by
  obtain ⟨i0, hi, hz0, hz1, hz2⟩ := info_parts Tryz.infoU5
  have HVw := hidR hv
  obtain ⟨ao, c, rfl, hv⟩ := hv
  have q1 := bl1 w (.cells #[.int .i64 F, .slice ao l.length c] 24)
  have HT := hidR (att_new w w.heap.size F (.slice ao l.length c) 24 rfl)
  have HB := hidR q1
  have HV : Hid (l = [] ∨ ∃ b off, ao = some ⟨b, off, none⟩ ∧ ∀ j u, (rowR l)[j]? = some u → w.cell? ⟨b, off + j, none⟩ = some u) := hv
  have KC := rcheckT_any F (.slice ao l.length c) l _ (HVw.out.below q1)
  obtain ⟨t0, t1⟩ := HT.out
  clear hv q1
  go_enter Tryz.func11, Tryz.ntmps11
  go_wp2_with fail
  clear t0 t1
  revert HT HB KC
  generalize w.alloc (.cells #[.int .i64 F, .slice ao l.length c] 24) = W0
  intro HT HB KC
  refine KC.mono ?_
  rintro e w1 ⟨⟨z, hz, rfl⟩, hb⟩
  have HZ := hidR hz
  have HT1 := hidR (HT.out.below hb)
  have HB1 := hidR (keepb hb HB.out)
  have hsz : w.heap.size < W0.heap.size := cell_in HT.out.1
  have hs1 : w.heap.size + 1 ≤ w1.heap.size := by have := hb.size; omega
  clear KC hb hz HT HB hsz
  by_cases h0 : z = 0
  · subst h0
    have hr : rtsE F l = 0 := by
      apply Classical.byContradiction
      intro q
      have := HZ.out.1 q
      exact q this.symm
    obtain ⟨-, hlm, hhop⟩ := rts_hop hr
    have HH := hidR hhop
    have HF : Hid (∀ W, Below w.heap.size w W → TxQ F l w (.returned (.tuple #[.string (bL9 (tx5 F l)), .int .i64 0])) W) := hidR (fun W hb => ⟨⟨0, HZ.out, by rw [if_pos rfl]⟩, hb⟩)
    clear hr hhop HZ
    go_wp2_with fail
    go_loopw [5, 6, 7, 8] (fun b iv _ _ wr => ∃ (k : Nat) (vb : Value), b = vb ∧ iv = .int .i64 (k : Int) ∧ k ≤ l.length ∧ Hid (AtT wr w.heap.size F (.slice ao l.length c)) ∧ Hid (wr.ownsRow (w.heap.size + 1) 5 1 vb (tx5 F (l.take k)).length (Lib.byteCells (tx5 F (l.take k))) ∧ w.heap.size + 1 ≤ wr.heap.size) ∧ Hid (Below w.heap.size w wr)) (fun _ iv _ _ _ => l.length - (intOf iv).toNat)
    case atStart => exact ⟨0, _, rfl, rfl, by omega, HT1, hidR ⟨World.ownsRow_nil _ _ _ _, hs1⟩, HB1⟩
    case round =>
      clear HT1 HB1
      obtain ⟨k, vb, hvb, rfl, hk, HT, HO, HB⟩ := hrel
      have Hvb := hidR hvb
      clear hvb
      have wk : IntKind.i64.wrap ((k : Int) + 1) = ((k + 1 : Nat) : Int) := by rw [IntKind.wrap_i64]; push_cast; omega
      obtain ⟨t0, t1⟩ := HT.out
      by_cases hlt : (k : Int) < (l.length : Int)
      · have hks : k < l.length := by omega
        rcases HV.out with e | ⟨b, off, rfl, hc⟩
        · rw [e] at hks; simp at hks
        · obtain ⟨x0, x1, x2, x3⟩ := rwr_cells hc k hks
          have HC := hidR (CX5.below ⟨⟨HT.out, ⟨keepc HB.out x0, keepc HB.out x1, keepc HB.out x2, keepc HB.out x3⟩, HB.out⟩, HO.out.1⟩ (below_drewN (Below.refl _ _) 1) : CX5 w F (.slice (some ⟨b, off, none⟩) l.length c) b (off + k * 4) l[k].1.1 l[k].1.2 l[k].2 (w.heap.size + 1) vb (tx5 F (l.take k)) wr.drew)
          have KP := fun w => rptextD_any F l[k].1.1 l[k].1.2 w
          obtain ⟨hh1, hh2⟩ := HH.out l[k] (List.getElem_mem hks)
          have KD := fun w => rdec_any l[k].2.toNat w (by omega)
          rw [show ((l[k].2.toNat : Nat) : Int) = l[k].2 by omega] at KD
          have HN : Hid (tx5 F (l.take (k + 1)) = tx5 F (l.take k) ++ lnT F l[k]) := hidR (by rw [List.take_succ_eq_append_getElem hks, tx5_app]; show _ ++ (lnT F l[k] ++ []) = _; rw [List.append_nil])
          have hp1 := ptxD_size F l[k].1.1 l[k].1.2
          have hp2 : (⟨(decL l[k].2.toNat).toArray⟩ : ByteArray).size ≤ 20 := decL_len9 _
          have HSt := hidR (str_ln F l[k])
          have HLl : Hid ((ptxD F l[k].1.1 l[k].1.2 ++ ⟨#[32]⟩ ++ ⟨(decL l[k].2.toNat).toArray⟩ ++ ⟨#[10]⟩).size = (lnT F l[k]).length) := hidR (by
            have := congrArg List.length (str_ln F l[k])
            rw [Lib.strCells_length, Lib.byteCells_length] at this
            exact this)
          have htl := tx5_len F (l.take k)
          rw [List.length_take] at htl
          have HOl : Hid (w.heap.size + 1 ≤ wr.heap.size) := hidR HO.out.2
          clear x0 x1 x2 x3 hc hh1 hh2 HT HO
          revert HC KP KD HN hp1 hp2 HSt HLl htl
          generalize ptxD F l[k].1.1 l[k].1.2 = p
          generalize hdd : (⟨(decL l[k].2.toNat).toArray⟩ : ByteArray) = d
          generalize lnT F l[k] = ln
          generalize checkE F l[k].1.1 l[k].1.2 = ce
          generalize tx5 F (l.take k) = TB
          generalize l[k] = r
          obtain ⟨⟨px, pn⟩, ph⟩ := r
          dsimp only
          intro HC KP KD HN hp1 hp2 HSt HLl htl
          have hq1 : ¬ 9223372036854775807 < p.size + 1 := by omega
          have hq2 : ¬ 9223372036854775807 < p.size + 1 + d.size := by omega
          have hq3 : ¬ 9223372036854775807 < p.size + 1 + d.size + 1 := by omega
          go_wp2_with fail
          refine qw_region (C := CX5 w F (.slice (some ⟨b, off, none⟩) l.length c) b (off + k * 4) px pn ph (w.heap.size + 1) vb TB) (by kernel_rfl) (by kernel_rfl) HC.out ?_
          clear HC t0 t1
          refine qw_run (v := .pointer (some ⟨w.heap.size, 0, none⟩)) (by rfl) ?_ ?_
          · (intro w1 hC; obtain ⟨⟨⟨t0, t1⟩, ⟨x0, x1, x2, x3⟩, -⟩, -⟩ := hC; go_simp; first | done | (simp; done) | (simp [*]; done) | omega | (simp; omega) | (rw [IntKind.wrap_i64]; omega) | (intro hx; omega) | rfl)
          simp only [Act.put, List.setIfInBounds_toArray, List.set_cons_zero, List.set_cons_succ]
          refine qw_run (v := .int .i64 F) (by rfl) ?_ ?_
          · (intro w1 hC; obtain ⟨⟨⟨t0, t1⟩, ⟨x0, x1, x2, x3⟩, -⟩, -⟩ := hC; go_simp; first | done | (simp; done) | (simp [*]; done) | omega | (simp; omega) | (rw [IntKind.wrap_i64]; omega) | (intro hx; omega) | rfl)
          simp only [Act.put, List.setIfInBounds_toArray, List.set_cons_zero, List.set_cons_succ]
          refine qw_run (v := .pointer (some ⟨w.heap.size, 1, none⟩)) (by rfl) ?_ ?_
          · (intro w1 hC; obtain ⟨⟨⟨t0, t1⟩, ⟨x0, x1, x2, x3⟩, -⟩, -⟩ := hC; go_simp; first | done | (simp; done) | (simp [*]; done) | omega | (simp; omega) | (rw [IntKind.wrap_i64]; omega) | (intro hx; omega) | rfl)
          simp only [Act.put, List.setIfInBounds_toArray, List.set_cons_zero, List.set_cons_succ]
          refine qw_run (v := .slice (some ⟨b, off, none⟩) l.length c) (by rfl) ?_ ?_
          · (intro w1 hC; obtain ⟨⟨⟨t0, t1⟩, ⟨x0, x1, x2, x3⟩, -⟩, -⟩ := hC; go_simp; first | done | (simp; done) | (simp [*]; done) | omega | (simp; omega) | (rw [IntKind.wrap_i64]; omega) | (intro hx; omega) | rfl)
          simp only [Act.put, List.setIfInBounds_toArray, List.set_cons_zero, List.set_cons_succ]
          refine qw_run (v := .int .i64 (k : Int)) (by rfl) ?_ ?_
          · (intro w1 hC; obtain ⟨⟨⟨t0, t1⟩, ⟨x0, x1, x2, x3⟩, -⟩, -⟩ := hC; go_simp; first | done | (simp; done) | (simp [*]; done) | omega | (simp; omega) | (rw [IntKind.wrap_i64]; omega) | (intro hx; omega) | rfl)
          simp only [Act.put, List.setIfInBounds_toArray, List.set_cons_zero, List.set_cons_succ]
          refine qw_run (v := .pointer (some ⟨b, off + k * 4, none⟩)) (by rfl) ?_ ?_
          · (intro w1 hC; obtain ⟨⟨⟨t0, t1⟩, ⟨x0, x1, x2, x3⟩, -⟩, -⟩ := hC; go_simp; first | done | (simp; done) | (simp [*]; done) | omega | (simp; omega) | (rw [IntKind.wrap_i64]; omega) | (intro hx; omega) | rfl)
          simp only [Act.put, List.setIfInBounds_toArray, List.set_cons_zero, List.set_cons_succ]
          refine qw_run (v := .pointer (some ⟨b, off + k * 4, none⟩)) (by rfl) ?_ ?_
          · (intro w1 hC; obtain ⟨⟨⟨t0, t1⟩, ⟨x0, x1, x2, x3⟩, -⟩, -⟩ := hC; go_simp; first | done | (simp; done) | (simp [*]; done) | omega | (simp; omega) | (rw [IntKind.wrap_i64]; omega) | (intro hx; omega) | rfl)
          simp only [Act.put, List.setIfInBounds_toArray, List.set_cons_zero, List.set_cons_succ]
          refine qw_run (v := .agg #[.int .u64 (hI px), .int .u64 (lI px), .int .i64 pn]) (by rfl) ?_ ?_
          · (intro w1 hC; obtain ⟨⟨⟨t0, t1⟩, ⟨x0, x1, x2, x3⟩, -⟩, -⟩ := hC; go_simp; first | done | (simp; done) | (simp [*]; done) | omega | (simp; omega) | (rw [IntKind.wrap_i64]; omega) | (intro hx; omega) | rfl)
          simp only [Act.put, List.setIfInBounds_toArray, List.set_cons_zero, List.set_cons_succ]
          refine qw_call (v := .tuple #[.string p, .int .i64 ce]) (f := 18) (args := #[.int .i64 F, .agg #[.int .u64 (hI px), .int .u64 (lI px), .int .i64 pn]]) (by rfl) ?_ ?_ ?_
          · (intro w1 hC; clear hC; go_simp)
          · exact fun w1 hC => (KP w1).mono fun e w' ⟨he, hb⟩ => ⟨he, hC.below hb⟩
          simp only [Act.put, List.setIfInBounds_toArray, List.set_cons_zero, List.set_cons_succ]
          refine qw_run (v := .tuple #[.string p, .int .i64 ce]) (by rfl) ?_ ?_
          · (intro w1 hC; obtain ⟨⟨⟨t0, t1⟩, ⟨x0, x1, x2, x3⟩, -⟩, -⟩ := hC; go_simp; first | done | (simp; done) | (simp [*]; done) | omega | (simp; omega) | (rw [IntKind.wrap_i64]; omega) | (intro hx; omega) | rfl)
          simp only [Act.put, List.setIfInBounds_toArray, List.set_cons_zero, List.set_cons_succ]
          refine qw_run (v := .string p) (by rfl) ?_ ?_
          · (intro w1 hC; obtain ⟨⟨⟨t0, t1⟩, ⟨x0, x1, x2, x3⟩, -⟩, -⟩ := hC; go_simp; first | done | (simp; done) | (simp [*]; done) | omega | (simp; omega) | (rw [IntKind.wrap_i64]; omega) | (intro hx; omega) | rfl)
          simp only [Act.put, List.setIfInBounds_toArray, List.set_cons_zero, List.set_cons_succ]
          refine qw_run (v := .int .i64 ce) (by rfl) ?_ ?_
          · (intro w1 hC; obtain ⟨⟨⟨t0, t1⟩, ⟨x0, x1, x2, x3⟩, -⟩, -⟩ := hC; go_simp; first | done | (simp; done) | (simp [*]; done) | omega | (simp; omega) | (rw [IntKind.wrap_i64]; omega) | (intro hx; omega) | rfl)
          simp only [Act.put, List.setIfInBounds_toArray, List.set_cons_zero, List.set_cons_succ]
          refine qw_run (v := .string p) (by rfl) ?_ ?_
          · (intro w1 hC; obtain ⟨⟨⟨t0, t1⟩, ⟨x0, x1, x2, x3⟩, -⟩, -⟩ := hC; go_simp; first | done | (simp; done) | (simp [*]; done) | omega | (simp; omega) | (rw [IntKind.wrap_i64]; omega) | (intro hx; omega) | rfl)
          simp only [Act.put, List.setIfInBounds_toArray, List.set_cons_zero, List.set_cons_succ]
          refine qw_run (v := .int .i64 ce) (by rfl) ?_ ?_
          · (intro w1 hC; obtain ⟨⟨⟨t0, t1⟩, ⟨x0, x1, x2, x3⟩, -⟩, -⟩ := hC; go_simp; first | done | (simp; done) | (simp [*]; done) | omega | (simp; omega) | (rw [IntKind.wrap_i64]; omega) | (intro hx; omega) | rfl)
          simp only [Act.put, List.setIfInBounds_toArray, List.set_cons_zero, List.set_cons_succ]
          refine qw_nil ?_
          intro w3 hC
          have HC3 := hidR hC
          obtain ⟨⟨⟨t0, t1⟩, ⟨x0, x1, x2, x3⟩, hB3⟩, hO3⟩ := hC
          clear hB3 hO3 KP
          go_wp2_with fail
          refine (KD _).mono ?_
          rintro e w4 ⟨rfl, hb⟩
          have HC4 := hidR (HC3.out.below hb)
          clear hb KD HC3 t0 t1 x0 x1 x2 x3 hdd
          have h63 : TB.length + (p ++ ⟨#[32]⟩ ++ d ++ ⟨#[10]⟩).size ≤ maxLen := by rw [ByteArray.size_append, ByteArray.size_append, ByteArray.size_append]; have a1 : (⟨#[32]⟩ : ByteArray).size = 1 := rfl; have a2 : (⟨#[10]⟩ : ByteArray).size = 1 := rfl; unfold maxLen; omega
          have h47 : TB.length + (p ++ ⟨#[32]⟩ ++ d ++ ⟨#[10]⟩).size ≤ 140737488355328 := by rw [ByteArray.size_append, ByteArray.size_append, ByteArray.size_append]; have a1 : (⟨#[32]⟩ : ByteArray).size = 1 := rfl; have a2 : (⟨#[10]⟩ : ByteArray).size = 1 := rfl; omega
          go_wp2_with (at_builtin; apply stopHereT)
          refine (show wpList _ _ _ _ _ _ from ?_)
          refine Lib.wpList_append_own_string _ rfl _ _ 53 9 rfl (w.heap.size + 1) 5 i0 Tryz.underlying53 Tryz.underlying9 hi hz0 hz1 hz2 _ _ _ (by rw [Hvb.out]; rfl) HC4.out.2 (p ++ ⟨#[32]⟩ ++ d ++ ⟨#[10]⟩) rfl h63 h47 (by have := HC4.out.1.2.2.size; have := cell_in HC4.out.1.1.1; omega) ?_
          intro v5 w5 ho5 hg5 _
          have hS4 := cell_in HC4.out.1.1.1
          have hlo := HC4.out.2
          have hblk : w5.heap[w.heap.size]? = w4.heap[w.heap.size]? := hg5.block _ hS4 (fun e => by have := (hlo.lt _ e.symm).1; omega)
          have hcl : ∀ o, w5.cell? ⟨w.heap.size, o, none⟩ = w4.cell? ⟨w.heap.size, o, none⟩ := fun o => by unfold World.cell?; rw [hblk]
          have HT5 : Hid (AtT w5 w.heap.size F (.slice (some ⟨b, off, none⟩) l.length c)) := hidR ⟨by rw [hcl]; exact HC4.out.1.1.1, by rw [hcl]; exact HC4.out.1.1.2⟩
          have HO5 : Hid (w5.ownsRow (w.heap.size + 1) 5 1 v5 (tx5 F (l.take (k + 1))).length (Lib.byteCells (tx5 F (l.take (k + 1)))) ∧ w.heap.size + 1 ≤ w5.heap.size) := hidR ⟨by
            rw [HN.out]
            have e1 : Lib.byteCells (TB ++ ln) = Lib.byteCells TB ++ Lib.byteCells ln := by unfold Lib.byteCells; exact List.map_append
            rw [e1, List.length_append, ← HLl.out, ← HSt.out]
            exact ho5, by have := hg5.size; omega⟩
          have HB5 := hidR (HC4.out.1.2.2.grown hg5 HC4.out.1.2.2.size (fun k hk => by have := (hlo.lt k hk).1; omega))
          clear ho5 hg5 hS4 hlo hblk hcl HC4 HN HSt HLl h63 h47 hq1 hq2 hq3 hp1 hp2 htl
          go_wp2_with fail
          go_roundw
          case rel => exact ⟨k + 1, v5, rfl, rfl, by omega, HT5, HO5, HB5⟩
          case measure => simp [intOf]; omega
      · obtain rfl : k = l.length := by omega
        rw [List.take_length] at HO
        have hconv := own_conv5 HO.out.1
        rw [← Hvb.out] at hconv
        have HFin := hidR (HF.out wr HB.out)
        clear HO HB HF HT Hvb
        go_wp2
        go_ret2
        exact HFin.out
  · have hzb : (z == 0) = false := by simpa using h0
    have HFin : Hid (TxQ F l w (.returned (.tuple #[.string ⟨#[]⟩, .int .i64 z])) w1) := hidR ⟨⟨z, HZ.out, by rw [if_neg h0]⟩, HB1.out⟩
    clear HZ HB1 HT1
    go_wp2
    go_ret2
    exact HFin.out
end Go.Proofs.YtpiicdpipjjenaaGreatDoor
namespace Go.Proofs.YtpiicdpipjjenaaGreatDoor
open Go.RowKit
set_option linter.unusedSimpArgs false
set_option linter.unusedVariables false

theorem lt_b15 {w : World} {z : Nat} {o : Obj} (hz : w.heap[z]? = some o) : z < w.heap.size := (Array.getElem?_eq_some_iff.1 hz).1
abbrev IsB (b : Nat) (t : List UInt8) (w : World) : Prop := Lib.IsBuilder 55 5 b b (Lib.byteCells t) w
abbrev OKb (b : Nat) (w w' : World) : Prop := Below b w w' ∧ Lib.OthersKept 5 (some b) w w'
theorem OKb.trans {b : Nat} {w W X : World} (h : OKb b w W) (g : OKb b W X) : OKb b w X := ⟨⟨by rw [g.1.os, h.1.os], by rw [g.1.tape, h.1.tape], by rw [g.1.output, h.1.output], Nat.le_trans h.1.size g.1.size, fun z hz => by rw [g.1.block z hz, h.1.block z hz]⟩, h.2.trans g.2⟩
theorem OKb.refl (b : Nat) (w : World) : OKb b w w := ⟨Below.refl _ _, Lib.OthersKept.refl _ _ _⟩
theorem OKb.ofB {b : Nat} {w w' : World} (h : Below w.heap.size w w') (hb : b ≤ w.heap.size) : OKb b w w' := ⟨h.mono hb, fun z o hz _ _ => by rw [h.block z (lt_b15 hz)]; exact hz⟩
theorem Tryz.bx72 : (Tryz.prog.info? 55).map (·.size) = some 2 := by kernel_rfl
theorem Tryz.bxl : liesAt Tryz.prog Tryz.prog.depth 55 (2 / Tryz.prog.cellsOf 55) 0 55 1 = true := by kernel_rfl
set_option maxHeartbeats 1000000 in
set_option maxRecDepth 100000 in
theorem bcheck_used (b : Nat) (w : World) (h0 : w.cell? ⟨b, 0, none⟩ = some (.pointer (some ⟨b, 0, none⟩))) :
    Calls Tryz.prog 41 #[.pointer (some ⟨b, 0, none⟩)] w fun e w' => e = .returned (.tuple #[]) ∧ w' = w := by
  obtain ⟨j, hj, _⟩ := Option.map_eq_some_iff.1 Tryz.bx72
  go_enter Tryz.func41, Tryz.ntmps41
  go_wp2
  rw [Lib.run_neq_ptr_same w _ Tryz.underlying52 hj]
  go_wp2
  go_end0
  exact ⟨rfl, rfl⟩
set_option maxHeartbeats 1000000 in
set_option maxRecDepth 100000 in
theorem bcheck_fresh (b : Nat) (w : World) (h0 : w.cell? ⟨b, 0, none⟩ = some (.pointer none)) (hsh : w.shape? b = some (55, 2)) (hfz : w.frozen? ⟨b, 0, none⟩ = false) :
    Calls Tryz.prog 41 #[.pointer (some ⟨b, 0, none⟩)] w fun e w' => e = .returned (.tuple #[]) ∧ w' = w.setCell ⟨b, 0, none⟩ (.pointer (some ⟨b, 0, none⟩)) := by
  obtain ⟨j, hj, hjs⟩ := Option.map_eq_some_iff.1 Tryz.bx72
  go_enter Tryz.func41, Tryz.ntmps41
  go_wp2
  rw [Lib.run_to_unsafe w ⟨b, 0, none⟩ Tryz.underlying52 Tryz.underlying103 hj (by rw [hjs]; decide) hsh (Nat.zero_lt_succ 1)]
  simp only [Result.andThen]
  rw [Oper.upon_value]
  go_wp2
  rw [run_callFunc_extern Tryz.func62 (by kernel_rfl) (by kernel_rfl) (by kernel_rfl) (e := Extern.AbiNoEscape.same) (by kernel_rfl)]
  rw [Lib.run_noEscape]
  simp only [Result.andThen]
  rw [Oper.upon_value]
  go_wp2
  rw [Lib.run_from_unsafe w ⟨b, 0, none⟩ Tryz.underlying103 Tryz.underlying52 hj hsh Tryz.bxl]
  simp only [Result.andThen]
  rw [Oper.upon_value]
  go_wp2
  go_end0
  exact ⟨rfl, rfl⟩
theorem bcheck_any (b : Nat) (t : List UInt8) (w : World) (h : IsB b t w) :
    Calls Tryz.prog 41 #[.pointer (some ⟨b, 0, none⟩)] w fun e w' => e = .returned (.tuple #[]) ∧ Lib.BuilderAt 55 5 b b (.pointer (some ⟨b, 0, none⟩)) (Lib.byteCells t) w' ∧ OKb b w w' := by
  rcases h with h | h
  · refine (bcheck_fresh b w h.cell0 h.shape h.frozen0).mono ?_
    rintro e w' ⟨rfl, rfl⟩
    exact ⟨rfl, h.used _, (Below.refl b w).setCell (p := ⟨b, 0, none⟩) h.1 _, Lib.OthersKept.setCell (b := b) (Lib.OthersKept.refl _ _ _) ⟨b, 0, none⟩ rfl _⟩
  · refine (bcheck_used b w h.cell0).mono ?_
    rintro e w' ⟨rfl, rfl⟩
    exact ⟨rfl, h, OKb.refl _ _⟩
theorem own_isrow {w : World} {base e n g : Nat} {v : Value} {xs : List Value} (h : w.ownsRow base e 1 v n xs) (hg : v.ownBlock = some g) : ∃ c fz, w.heap[g]? = some (.cells c e fz) := by
  rcases h.2 with ⟨hv, _⟩ | ⟨g', cap, cur, hv, hh⟩
  · rw [hv] at hg; cases hg
  · rw [hv] at hg
    injection hg with hg
    subst hg
    exact ⟨_, _, hh.2.1⟩
set_option maxHeartbeats 2000000 in
set_option maxRecDepth 100000 in
theorem wbyte_any (b : Nat) (t : List UInt8) (c : UInt8) (w : World) (h : IsB b t w) (hlen : t.length ≤ 100000000000) (hbw : b ≤ w.heap.size) :
    Calls Tryz.prog 23 #[.pointer (some ⟨b, 0, none⟩), .int .u8 (c.toNat : Int)] w fun e w' => e = .returned .nilIface ∧ IsB b (t ++ [c]) w' ∧ OKb b w w' := by
  obtain ⟨i0, hi, hz0, hz1, hz2⟩ := info_parts Tryz.infoU5
  have K := bcheck_any b t w h
  have hl : (Lib.byteCells t).length = t.length := by simp [Lib.byteCells]
  go_enter Tryz.func23, Tryz.ntmps23
  go_wp2_with fail
  refine K.mono ?_
  rintro e w1 ⟨rfl, h1, hb1⟩
  obtain ⟨hB, v, hbk, hown, hne⟩ := h1
  have c1 : w1.cell? ⟨b, 1, none⟩ = some v := by rw [Lib.cell_of_heap hbk]; rfl
  have hsz : w.heap.size ≤ w1.heap.size := hb1.1.size
  clear K h
  go_wp2_with (at_builtin; apply stopHereT)
  refine (show wpList _ _ _ _ _ _ from ?_)
  refine wpList_append_own _ rfl _ _ 53 rfl b 5 i0 (.int .u8 0) 1 1 Tryz.underlying53 hi hz0 hz1 hz2 rfl (by decide) _ _ _ rfl (hown.alloc _) ⟨w1.heap.size, 0, none⟩ 1 1 [.int .u8 (c.toNat : Int)] rfl rfl ?c1 ?c2 ?c3 ?c4 ?c5 ?_
  case c1 =>
    intro j u hj
    match j, hj with
    | 0, hj => simp at hj; subst hj; simp [Addr.add]
  case c2 => intro u hu; simp at hu; subst hu; rfl
  case c3 => unfold maxLen; omega
  case c4 => omega
  case c5 => simp; omega
  intro v' w2 hown' hgrow _
  have hlt : b < w1.heap.size := lt_b15 hbk
  have hb2 : w2.heap[b]? = some (.cells #[.pointer (some ⟨b, 0, none⟩), v] 55 (0, 0)) := by
    rw [hgrow.block b (by simp; omega) (fun e => hne e.symm), Lib.alloc_old w1 _ b hlt]
    exact hbk
  have d1 : w2.cell? ⟨b, 1, none⟩ = some v := by rw [Lib.cell_of_heap hb2]; rfl
  have f1 : w2.frozen? ⟨b, 1, none⟩ = false := Lib.frozen_of_heap hb2 1
  obtain ⟨ao, n', cap, rfl⟩ : ∃ ao n' cap, v' = .slice ao n' cap := by
    rcases hown'.2 with ⟨hv, _⟩ | ⟨g, cap, cur, hv, _⟩
    · exact ⟨_, _, _, hv⟩
    · exact ⟨_, _, _, hv⟩
  have HF : Hid (IsB b (t ++ [c]) (w2.setCell ⟨b, 1, none⟩ (.slice ao n' cap)) ∧ OKb b w (w2.setCell ⟨b, 1, none⟩ (.slice ao n' cap))) := hidR ⟨.inr (by
      have := Lib.BuilderAt.put (T := 55) (e := 5) hB hb2 (v' := .slice ao n' cap) (bs' := Lib.byteCells t ++ [.int .u8 (c.toNat : Int)]) (by simpa using hown') (by decide)
      have e : Lib.byteCells (t ++ [c]) = Lib.byteCells t ++ [.int .u8 (c.toNat : Int)] := by simp [Lib.byteCells]
      rw [e]; exact this), hb1.trans ⟨((Below.refl b w1).alloc (by omega) _).grown hgrow (by simp; omega) (fun k hk => (hown.lt k hk).1) |>.setCell (p := ⟨b, 1, none⟩) hB _, Lib.OthersKept.setCell (b := b) (((Lib.OthersKept.refl _ _ _).alloc _).grown hgrow (fun g hg => own_isrow (hown.alloc _) hg)) ⟨b, 1, none⟩ rfl _⟩⟩
  clear hown' hgrow hb1 hown hb2 hbk
  go_wp2
  go_ret
  exact ⟨rfl, HF.out.1, HF.out.2⟩
set_option maxHeartbeats 2000000 in
set_option maxRecDepth 100000 in
theorem wstr_any (b : Nat) (t : List UInt8) (s : ByteArray) (w : World) (h : IsB b t w) (hlen : t.length + s.size ≤ 100000000000) (hbw : b ≤ w.heap.size) :
    Calls Tryz.prog 22 #[.pointer (some ⟨b, 0, none⟩), .string s] w fun e w' => e = .returned (.tuple #[.int .i64 s.size, .nilIface]) ∧ IsB b (t ++ s.data.toList) w' ∧ OKb b w w' := by
  obtain ⟨i0, hi, hz0, hz1, hz2⟩ := info_parts Tryz.infoU5
  have K := bcheck_any b t w h
  have hl : (Lib.byteCells t).length = t.length := by simp [Lib.byteCells]
  go_enter Tryz.func22, Tryz.ntmps22
  go_wp2_with fail
  refine K.mono ?_
  rintro e w1 ⟨rfl, h1, hb1⟩
  obtain ⟨hB, v, hbk, hown, hne⟩ := h1
  have c1 : w1.cell? ⟨b, 1, none⟩ = some v := by rw [Lib.cell_of_heap hbk]; rfl
  have hsz : w.heap.size ≤ w1.heap.size := hb1.1.size
  clear K h
  go_wp2_with (at_builtin; apply stopHereT)
  refine (show wpList _ _ _ _ _ _ from ?_)
  refine Lib.wpList_append_own_string _ rfl _ _ 53 9 rfl b 5 i0 Tryz.underlying53 Tryz.underlying9 hi hz0 hz1 hz2 _ _ _ rfl hown s rfl ?c3 ?c4 ?c5 ?_
  case c3 => unfold maxLen; omega
  case c4 => omega
  case c5 => omega
  intro v' w2 hown' hgrow _
  have hlt : b < w1.heap.size := lt_b15 hbk
  have hb2 : w2.heap[b]? = some (.cells #[.pointer (some ⟨b, 0, none⟩), v] 55 (0, 0)) := by
    rw [hgrow.block b hlt (fun e => hne e.symm)]
    exact hbk
  have d1 : w2.cell? ⟨b, 1, none⟩ = some v := by rw [Lib.cell_of_heap hb2]; rfl
  have f1 : w2.frozen? ⟨b, 1, none⟩ = false := Lib.frozen_of_heap hb2 1
  obtain ⟨ao, n', cap, rfl⟩ : ∃ ao n' cap, v' = .slice ao n' cap := by
    rcases hown'.2 with ⟨hv, _⟩ | ⟨g, cap, cur, hv, _⟩
    · exact ⟨_, _, _, hv⟩
    · exact ⟨_, _, _, hv⟩
  have HF : Hid (IsB b (t ++ s.data.toList) (w2.setCell ⟨b, 1, none⟩ (.slice ao n' cap)) ∧ OKb b w (w2.setCell ⟨b, 1, none⟩ (.slice ao n' cap))) := hidR ⟨.inr (by
      have := Lib.BuilderAt.put (T := 55) (e := 5) hB hb2 (v' := .slice ao n' cap) (bs' := Lib.byteCells t ++ Lib.strCells s) (by simpa [Lib.strCells_length] using hown') (by decide)
      have e : Lib.byteCells (t ++ s.data.toList) = Lib.byteCells t ++ Lib.strCells s := by simp [Lib.byteCells, Lib.strCells]
      rw [e]; exact this), hb1.trans ⟨(Below.refl b w1).grown hgrow (by omega) (fun k hk => (hown.lt k hk).1) |>.setCell (p := ⟨b, 1, none⟩) hB _, Lib.OthersKept.setCell (b := b) ((Lib.OthersKept.refl _ _ _).grown hgrow (fun g hg => own_isrow hown hg)) ⟨b, 1, none⟩ rfl _⟩⟩
  clear hown' hgrow hb1 hown hb2 hbk
  go_wp2
  go_ret2
  exact ⟨rfl, HF.out.1, HF.out.2⟩
set_option maxRecDepth 100000 in
theorem Tryz.bExtra : Builder.Extra Tryz.prog Tryz.lays169_ren where
  sizeBuilder := by kernel_rfl
  liesBuilder := by kernel_rfl
  t5 := Tryz.underlying5
  a5 := Tryz.isAgg5
  z5 := Tryz.sizeOf5
  v5 := Tryz.zeroValue5
  infoByte := by kernel_rfl
  cellsByte := by kernel_rfl
  sizeByte := by kernel_rfl
  neB5 := by decide
set_option maxRecDepth 100000 in
theorem bstr_any (b : Nat) (t : List UInt8) (w : World) (h : IsB b t w) (hbw : b ≤ w.heap.size) :
    Calls Tryz.prog 25 #[.pointer (some ⟨b, 0, none⟩)] w fun e w' => e = .returned (.string ⟨t.toArray⟩) ∧ Below b w w' :=
  Any.Builder_String_any Tryz.lays169 Tryz.bExtra b b t w h hbw
theorem IsB.lt {b : Nat} {t : List UInt8} {W : World} (h : IsB b t W) : b < W.heap.size := by
  rcases h with h | h <;> exact h.lt
theorem own_b5 {W W' : World} {base e size n : Nat} {v : Value} {xs : List Value} (hb : Below W.heap.size W W') (h : W.ownsRow base e size v n xs) : W'.ownsRow base e size v n xs := by
  refine h.kept (row := none) ⟨hb.os, hb.tape, hb.output, hb.size, fun k hk _ => hb.block k hk⟩ ?_
  cases v.ownBlock with
  | none => exact Or.inl rfl
  | some a => exact Or.inr (by simp)
theorem IsB.okB {b : Nat} {t : List UInt8} {W W' : World} (h : IsB b t W) (hb : Below W.heap.size W W') : IsB b t W' := by
  have key : ∀ p, Lib.BuilderAt 55 5 b b p (Lib.byteCells t) W → Lib.BuilderAt 55 5 b b p (Lib.byteCells t) W' := fun p ⟨h1, v, h2, h3, h4⟩ => ⟨h1, v, by rw [hb.block _ (lt_b15 h2)]; exact h2, own_b5 hb h3, h4⟩
  rcases h with h | h
  · exact .inl (key _ h)
  · exact .inr (key _ h)
end Go.Proofs.YtpiicdpipjjenaaGreatDoor
namespace Go.Proofs.YtpiicdpipjjenaaGreatDoor
open Go.RowKit
set_option linter.unusedSimpArgs false
set_option linter.unusedVariables false

theorem tz_key (x a : Nat) (hx : x < 18446744073709551616) (hx0 : x ≠ 0) (hlow : x &&& (18446744073709551616 - x) = a) :
    IntKind.u64.wrap (bits BinOp.and IntKind.u64 (x : Int) (IntKind.u64.wrap (-(x : Int))) * 285870213051353865) / 288230376151711744 = ((a * 285870213051353865 % 18446744073709551616 / 288230376151711744 : Nat) : Int) := by
  have wu : ∀ n : Int, IntKind.u64.wrap n = n % 18446744073709551616 := fun n => by simp [IntKind.wrap, IntKind.bits, IntKind.signed]
  have e1 : IntKind.u64.wrap (-(x : Int)) = ((18446744073709551616 - x : Nat) : Int) := by rw [wu]; omega
  rw [e1, bits_and_u64_nat x _ hx (by omega), hlow, wu]
  omega
end Go.Proofs.YtpiicdpipjjenaaGreatDoor
namespace Go.Proofs.YtpiicdpipjjenaaGreatDoor
open Go.RowKit
set_option linter.unusedSimpArgs false
set_option linter.unusedVariables false

end Go.Proofs.YtpiicdpipjjenaaGreatDoor
namespace Go.Proofs.YtpiicdpipjjenaaGreatDoor
open Go.RowKit
set_option linter.unusedSimpArgs false
set_option linter.unusedVariables false

def Tab (w : World) : Prop := ∀ j, j < 64 → w.cell? ⟨3, j, none⟩ = some (.int .u8 ((Lib.deBruijn64tab.getD j 0 : Nat) : Int))
theorem Tab.keep {W w' : World} (h : Tab W) (hb : Below W.heap.size W w') : Tab w' := fun j hj => keepc hb (h j hj)
set_option maxHeartbeats 1000000 in
theorem tz_core (x k idx : Nat) (w : World) (hx0 : ((x : Int) == 0) = false)
    (key : IntKind.u64.wrap (bits BinOp.and IntKind.u64 (x : Int) (IntKind.u64.wrap (-(x : Int))) * 285870213051353865) / 288230376151711744 = (idx : Int))
    (hi : idx < 64) (hk : k < 64) (hcell : w.cell? ⟨3, idx, none⟩ = some (.int .u8 k)) :
    Calls Tryz.prog 123 #[.int .u64 x] w fun e w' => e = .returned (.int .i64 k) ∧ w' = w := by
  go_enter Tryz.func123, Tryz.ntmps123
  go_wp2_with (simp only [key])
  go_ret
  exact ⟨rfl, rfl⟩
theorem tz_any (v : Int) (w : World) (h0 : 0 ≤ v) (h1 : v < 18446744073709551616) (hn : ¬ v = 0) (hT : Tab w) :
    Calls Tryz.prog 123 #[.int .u64 v] w fun e w' => e = .returned (.int .i64 ((Lib.ctz 64 v.toNat : Nat) : Int)) ∧ w' = w := by
  obtain ⟨x, rfl⟩ := Int.eq_ofNat_of_zero_le h0
  have hx : x < 18446744073709551616 := by omega
  have hx0 : x ≠ 0 := by omega
  obtain ⟨hlow, hk⟩ := Lib.lowest_bit 64 x hx0 hx
  obtain ⟨hi, htab⟩ := Lib.deBruijn64_at _ hk
  have hcell := hT _ hi
  rw [htab] at hcell
  exact tz_core x _ _ w (by simp; omega) (tz_key x _ hx hx0 hlow) hi hk hcell

end Go.Proofs.YtpiicdpipjjenaaGreatDoor
namespace Go.Proofs.YtpiicdpipjjenaaGreatDoor
open Go.RowKit
set_option linter.unusedSimpArgs false
set_option linter.unusedVariables false

end Go.Proofs.YtpiicdpipjjenaaGreatDoor
namespace Go.Proofs.YtpiicdpipjjenaaGreatDoor
open Go.RowKit
set_option linter.unusedSimpArgs false
set_option linter.unusedVariables false

end Go.Proofs.YtpiicdpipjjenaaGreatDoor
namespace Go.Proofs.YtpiicdpipjjenaaGreatDoor
open Go.RowKit
set_option linter.unusedSimpArgs false
set_option linter.unusedVariables false

end Go.Proofs.YtpiicdpipjjenaaGreatDoor
namespace Go.Proofs.YtpiicdpipjjenaaGreatDoor
open Go.RowKit
set_option linter.unusedSimpArgs false
set_option linter.unusedVariables false

end Go.Proofs.YtpiicdpipjjenaaGreatDoor
namespace Go.Proofs.YtpiicdpipjjenaaGreatDoor
open Go.RowKit
set_option linter.unusedSimpArgs false
set_option linter.unusedVariables false

end Go.Proofs.YtpiicdpipjjenaaGreatDoor
namespace Go.Proofs.YtpiicdpipjjenaaGreatDoor
open Go.RowKit
set_option linter.unusedSimpArgs false
set_option linter.unusedVariables false

def both (T : ByteArray) (k : Nat) : Prop := byteAt T k = 58 ∧ byteAt T (k + 1) = 58
end Go.Proofs.YtpiicdpipjjenaaGreatDoor
