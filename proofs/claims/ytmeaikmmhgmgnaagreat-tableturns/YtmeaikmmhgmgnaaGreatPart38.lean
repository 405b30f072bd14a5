/-
  Part 38 of the proof: 4 texts, one behind the other.
-/
import Derived.Test.YtmeaikmmhgmgnaaGreatPart37
import Derived.Test.YtmeaikmmhgmgnaaGreatPart35
import Derived.Test.YtmeaikmmhgmgnaaGreatPart11
import Derived.Test.YtmeaikmmhgmgnaaGreatRows
import Derived.ProofKit
import Derived.Lib.SmallJoins
import Derived.Test.YtmeaikmmhgmgnaaGreatPart7
import Derived.Deep.Slices
import Derived.Deep.Strs
import Derived.Carry
namespace Go.Proofs.YtmeaikmmhgmgnaaGreat
open Go.RowKit
set_option linter.unusedSimpArgs false
set_option linter.unusedVariables false

theorem stopHereT {P : Program} {w : World} {ops : Array Oper} {rest : List Oper} {a : Act} {Q : Exit → Act → World → Prop} {o : Oper} (h : Hid (wpList P ops Q (o :: rest) a w)) : wpList P ops Q (o :: rest) a w := h.out
def TxQ (F : Int) (l : List Rte) (w : World) (e : Ending) (w' : World) : Prop := (∃ z, TabE F l z ∧ e = .returned (.tuple #[.string (if z = 0 then bL9 (tx5 F l) else ⟨#[]⟩), .int .i64 z])) ∧ Below w.heap.size w w'
theorem str_ln (F : Int) (r : Rte) : Lib.strCells (ptxD F r.1.1 r.1.2 ++ ⟨#[32]⟩ ++ ⟨(decL r.2.toNat).toArray⟩ ++ ⟨#[10]⟩) = Lib.byteCells (lnT F r) := by
  unfold Lib.strCells Lib.byteCells lnT
  simp [ByteArray.data_append]
set_option maxRecDepth 20000 in
set_option maxHeartbeats 16000000 in
theorem rtext5_any (F : Int) (v : Value) (l : List Rte) (w : World) (hv : RwR w v l) :
    Calls Tryz.prog 19 #[.agg #[.int .i64 F, v]] w (TxQ F l w) := by
  obtain ⟨i0, hi, hz0, hz1, hz2⟩ := info_parts Tryz.infoU5
  have HVw := hidR hv
  obtain ⟨ao, c, rfl, hv⟩ := hv
  have q1 := bl1 w (.cells #[.int .i64 F, .slice ao l.length c] 25)
  have HT := hidR (att_new w w.heap.size F (.slice ao l.length c) 25 rfl)
  have HB := hidR q1
  have HV : Hid (l = [] ∨ ∃ b off, ao = some ⟨b, off, none⟩ ∧ ∀ j u, (rowR l)[j]? = some u → w.cell? ⟨b, off + j, none⟩ = some u) := hv
  have KC := rcheckT_any F (.slice ao l.length c) l _ (HVw.out.below q1)
  obtain ⟨t0, t1⟩ := HT.out
  clear hv q1
  go_enter Tryz.func19, Tryz.ntmps19
  go_wp2_with fail
  clear t0 t1
  revert HT HB KC
  generalize w.alloc (.cells #[.int .i64 F, .slice ao l.length c] 25) = W0
  intro HT HB KC
  refine KC.mono ?_
  rintro e w1 ⟨⟨z, hz, rfl⟩, hb⟩
  have HZ := hidR hz
  have HT1 := hidR (HT.out.below hb)
  have HB1 := hidR (keepb hb HB.out)
  have hsz : w.heap.size < W0.heap.size := cell_in HT.out.1
  have hs1 : w.heap.size + 1 ≤ w1.heap.size := by have := hb.size; omega
  clear KC hb hz HT HB hsz
  by_cases h0 : z = 0
  · subst h0
    have hr : rtsE F l = 0 := by
      apply Classical.byContradiction
      intro q
      have := HZ.out.1 q
      exact q this.symm
    obtain ⟨-, hlm, hhop⟩ := rts_hop hr
    have HH := hidR hhop
    have HF : Hid (∀ W, Below w.heap.size w W → TxQ F l w (.returned (.tuple #[.string (bL9 (tx5 F l)), .int .i64 0])) W) := hidR (fun W hb => ⟨⟨0, HZ.out, by rw [if_pos rfl]⟩, hb⟩)
    clear hr hhop HZ
    go_wp2_with fail
    go_loopw [5, 6, 7, 8] (fun b iv _ _ wr => ∃ (k : Nat) (vb : Value), b = vb ∧ iv = .int .i64 (k : Int) ∧ k ≤ l.length ∧ Hid (AtT wr w.heap.size F (.slice ao l.length c)) ∧ Hid (wr.ownsRow (w.heap.size + 1) 5 1 vb (tx5 F (l.take k)).length (Lib.byteCells (tx5 F (l.take k))) ∧ w.heap.size + 1 ≤ wr.heap.size) ∧ Hid (Below w.heap.size w wr)) (fun _ iv _ _ _ => l.length - (intOf iv).toNat)
    case atStart => exact ⟨0, _, rfl, rfl, by omega, HT1, hidR ⟨World.ownsRow_nil _ _ _ _, hs1⟩, HB1⟩
    case round =>
      clear HT1 HB1
      obtain ⟨k, vb, hvb, rfl, hk, HT, HO, HB⟩ := hrel
      have Hvb := hidR hvb
      clear hvb
      have wk : IntKind.i64.wrap ((k : Int) + 1) = ((k + 1 : Nat) : Int) := by rw [IntKind.wrap_i64]; push_cast; omega
      obtain ⟨t0, t1⟩ := HT.out
      by_cases hlt : (k : Int) < (l.length : Int)
      · have hks : k < l.length := by omega
        rcases HV.out with e | ⟨b, off, rfl, hc⟩
        · rw [e] at hks; simp at hks
        · obtain ⟨x0, x1, x2, x3⟩ := rwr_cells hc k hks
          have HC := hidR (CX5.below ⟨⟨HT.out, ⟨keepc HB.out x0, keepc HB.out x1, keepc HB.out x2, keepc HB.out x3⟩, HB.out⟩, HO.out.1⟩ (below_drewN (Below.refl _ _) 1) : CX5 w F (.slice (some ⟨b, off, none⟩) l.length c) b (off + k * 4) l[k].1.1 l[k].1.2 l[k].2 (w.heap.size + 1) vb (tx5 F (l.take k)) wr.drew)
          have KP := fun w => rptextD_any F l[k].1.1 l[k].1.2 w
          obtain ⟨hh1, hh2⟩ := HH.out l[k] (List.getElem_mem hks)
          have KD := fun w => rdec_any l[k].2.toNat w (by omega)
          rw [show ((l[k].2.toNat : Nat) : Int) = l[k].2 by omega] at KD
          have HN : Hid (tx5 F (l.take (k + 1)) = tx5 F (l.take k) ++ lnT F l[k]) := hidR (by rw [List.take_succ_eq_append_getElem hks, tx5_app]; show _ ++ (lnT F l[k] ++ []) = _; rw [List.append_nil])
          have hp1 := ptxD_size F l[k].1.1 l[k].1.2
          have hp2 : (⟨(decL l[k].2.toNat).toArray⟩ : ByteArray).size ≤ 20 := decL_len9 _
          have HSt := hidR (str_ln F l[k])
          have HLl : Hid ((ptxD F l[k].1.1 l[k].1.2 ++ ⟨#[32]⟩ ++ ⟨(decL l[k].2.toNat).toArray⟩ ++ ⟨#[10]⟩).size = (lnT F l[k]).length) := hidR (by
            have := congrArg List.length (str_ln F l[k])
            rw [Lib.strCells_length, Lib.byteCells_length] at this
            exact this)
          have htl := tx5_len F (l.take k)
          rw [List.length_take] at htl
          have HOl : Hid (w.heap.size + 1 ≤ wr.heap.size) := hidR HO.out.2
          clear x0 x1 x2 x3 hc hh1 hh2 HT HO
          revert HC KP KD HN hp1 hp2 HSt HLl htl
          generalize ptxD F l[k].1.1 l[k].1.2 = p
          generalize hdd : (⟨(decL l[k].2.toNat).toArray⟩ : ByteArray) = d
          generalize lnT F l[k] = ln
          generalize checkE F l[k].1.1 l[k].1.2 = ce
          generalize tx5 F (l.take k) = TB
          generalize l[k] = r
          obtain ⟨⟨px, pn⟩, ph⟩ := r
          dsimp only
          intro HC KP KD HN hp1 hp2 HSt HLl htl
          have hq1 : ¬ 9223372036854775807 < p.size + 1 := by omega
          have hq2 : ¬ 9223372036854775807 < p.size + 1 + d.size := by omega
          have hq3 : ¬ 9223372036854775807 < p.size + 1 + d.size + 1 := by omega
          go_wp2_with fail
          refine qw_region (C := CX5 w F (.slice (some ⟨b, off, none⟩) l.length c) b (off + k * 4) px pn ph (w.heap.size + 1) vb TB) (by kernel_rfl) (by kernel_rfl) HC.out ?_
          clear HC t0 t1
          refine qw_run (v := .pointer (some ⟨w.heap.size, 0, none⟩)) (by rfl) ?_ ?_
          · (intro w1 hC; obtain ⟨⟨⟨t0, t1⟩, ⟨x0, x1, x2, x3⟩, -⟩, -⟩ := hC; go_simp; first | done | (simp; done) | (simp [*]; done) | omega | (simp; omega) | (rw [IntKind.wrap_i64]; omega) | (intro hx; omega) | rfl)
          simp only [Act.put, List.setIfInBounds_toArray, List.set_cons_zero, List.set_cons_succ]
          refine qw_run (v := .int .i64 F) (by rfl) ?_ ?_
          · (intro w1 hC; obtain ⟨⟨⟨t0, t1⟩, ⟨x0, x1, x2, x3⟩, -⟩, -⟩ := hC; go_simp; first | done | (simp; done) | (simp [*]; done) | omega | (simp; omega) | (rw [IntKind.wrap_i64]; omega) | (intro hx; omega) | rfl)
          simp only [Act.put, List.setIfInBounds_toArray, List.set_cons_zero, List.set_cons_succ]
          refine qw_run (v := .pointer (some ⟨w.heap.size, 1, none⟩)) (by rfl) ?_ ?_
          · (intro w1 hC; obtain ⟨⟨⟨t0, t1⟩, ⟨x0, x1, x2, x3⟩, -⟩, -⟩ := hC; go_simp; first | done | (simp; done) | (simp [*]; done) | omega | (simp; omega) | (rw [IntKind.wrap_i64]; omega) | (intro hx; omega) | rfl)
          simp only [Act.put, List.setIfInBounds_toArray, List.set_cons_zero, List.set_cons_succ]
          refine qw_run (v := .slice (some ⟨b, off, none⟩) l.length c) (by rfl) ?_ ?_
          · (intro w1 hC; obtain ⟨⟨⟨t0, t1⟩, ⟨x0, x1, x2, x3⟩, -⟩, -⟩ := hC; go_simp; first | done | (simp; done) | (simp [*]; done) | omega | (simp; omega) | (rw [IntKind.wrap_i64]; omega) | (intro hx; omega) | rfl)
          simp only [Act.put, List.setIfInBounds_toArray, List.set_cons_zero, List.set_cons_succ]
          refine qw_run (v := .int .i64 (k : Int)) (by rfl) ?_ ?_
          · (intro w1 hC; obtain ⟨⟨⟨t0, t1⟩, ⟨x0, x1, x2, x3⟩, -⟩, -⟩ := hC; go_simp; first | done | (simp; done) | (simp [*]; done) | omega | (simp; omega) | (rw [IntKind.wrap_i64]; omega) | (intro hx; omega) | rfl)
          simp only [Act.put, List.setIfInBounds_toArray, List.set_cons_zero, List.set_cons_succ]
          refine qw_run (v := .pointer (some ⟨b, off + k * 4, none⟩)) (by rfl) ?_ ?_
          · (intro w1 hC; obtain ⟨⟨⟨t0, t1⟩, ⟨x0, x1, x2, x3⟩, -⟩, -⟩ := hC; go_simp; first | done | (simp; done) | (simp [*]; done) | omega | (simp; omega) | (rw [IntKind.wrap_i64]; omega) | (intro hx; omega) | rfl)
          simp only [Act.put, List.setIfInBounds_toArray, List.set_cons_zero, List.set_cons_succ]
          refine qw_run (v := .pointer (some ⟨b, off + k * 4, none⟩)) (by rfl) ?_ ?_
          · (intro w1 hC; obtain ⟨⟨⟨t0, t1⟩, ⟨x0, x1, x2, x3⟩, -⟩, -⟩ := hC; go_simp; first | done | (simp; done) | (simp [*]; done) | omega | (simp; omega) | (rw [IntKind.wrap_i64]; omega) | (intro hx; omega) | rfl)
          simp only [Act.put, List.setIfInBounds_toArray, List.set_cons_zero, List.set_cons_succ]
          refine qw_run (v := .agg #[.int .u64 (hI px), .int .u64 (lI px), .int .i64 pn]) (by rfl) ?_ ?_
          · (intro w1 hC; obtain ⟨⟨⟨t0, t1⟩, ⟨x0, x1, x2, x3⟩, -⟩, -⟩ := hC; go_simp; first | done | (simp; done) | (simp [*]; done) | omega | (simp; omega) | (rw [IntKind.wrap_i64]; omega) | (intro hx; omega) | rfl)
          simp only [Act.put, List.setIfInBounds_toArray, List.set_cons_zero, List.set_cons_succ]
          refine qw_call (v := .tuple #[.string p, .int .i64 ce]) (f := 41) (args := #[.int .i64 F, .agg #[.int .u64 (hI px), .int .u64 (lI px), .int .i64 pn]]) (by rfl) ?_ ?_ ?_
          · (intro w1 hC; clear hC; go_simp)
          · exact fun w1 hC => (KP w1).mono fun e w' ⟨he, hb⟩ => ⟨he, hC.below hb⟩
          simp only [Act.put, List.setIfInBounds_toArray, List.set_cons_zero, List.set_cons_succ]
          refine qw_run (v := .tuple #[.string p, .int .i64 ce]) (by rfl) ?_ ?_
          · (intro w1 hC; obtain ⟨⟨⟨t0, t1⟩, ⟨x0, x1, x2, x3⟩, -⟩, -⟩ := hC; go_simp; first | done | (simp; done) | (simp [*]; done) | omega | (simp; omega) | (rw [IntKind.wrap_i64]; omega) | (intro hx; omega) | rfl)
          simp only [Act.put, List.setIfInBounds_toArray, List.set_cons_zero, List.set_cons_succ]
          refine qw_run (v := .string p) (by rfl) ?_ ?_
          · (intro w1 hC; obtain ⟨⟨⟨t0, t1⟩, ⟨x0, x1, x2, x3⟩, -⟩, -⟩ := hC; go_simp; first | done | (simp; done) | (simp [*]; done) | omega | (simp; omega) | (rw [IntKind.wrap_i64]; omega) | (intro hx; omega) | rfl)
          simp only [Act.put, List.setIfInBounds_toArray, List.set_cons_zero, List.set_cons_succ]
          refine qw_run (v := .int .i64 ce) (by rfl) ?_ ?_
          · (intro w1 hC; obtain ⟨⟨⟨t0, t1⟩, ⟨x0, x1, x2, x3⟩, -⟩, -⟩ := hC; go_simp; first | done | (simp; done) | (simp [*]; done) | omega | (simp; omega) | (rw [IntKind.wrap_i64]; omega) | (intro hx; omega) | rfl)
          simp only [Act.put, List.setIfInBounds_toArray, List.set_cons_zero, List.set_cons_succ]
          refine qw_run (v := .string p) (by rfl) ?_ ?_
          · (intro w1 hC; obtain ⟨⟨⟨t0, t1⟩, ⟨x0, x1, x2, x3⟩, -⟩, -⟩ := hC; go_simp; first | done | (simp; done) | (simp [*]; done) | omega | (simp; omega) | (rw [IntKind.wrap_i64]; omega) | (intro hx; omega) | rfl)
          simp only [Act.put, List.setIfInBounds_toArray, List.set_cons_zero, List.set_cons_succ]
          refine qw_run (v := .int .i64 ce) (by rfl) ?_ ?_
          · (intro w1 hC; obtain ⟨⟨⟨t0, t1⟩, ⟨x0, x1, x2, x3⟩, -⟩, -⟩ := hC; go_simp; first | done | (simp; done) | (simp [*]; done) | omega | (simp; omega) | (rw [IntKind.wrap_i64]; omega) | (intro hx; omega) | rfl)
          simp only [Act.put, List.setIfInBounds_toArray, List.set_cons_zero, List.set_cons_succ]
          refine qw_nil ?_
          intro w3 hC
          have HC3 := hidR hC
          obtain ⟨⟨⟨t0, t1⟩, ⟨x0, x1, x2, x3⟩, hB3⟩, hO3⟩ := hC
          clear hB3 hO3 KP
          go_wp2_with fail
          refine (KD _).mono ?_
          rintro e w4 ⟨rfl, hb⟩
          have HC4 := hidR (HC3.out.below hb)
          clear hb KD HC3 t0 t1 x0 x1 x2 x3 hdd
          have h63 : TB.length + (p ++ ⟨#[32]⟩ ++ d ++ ⟨#[10]⟩).size ≤ maxLen := by rw [ByteArray.size_append, ByteArray.size_append, ByteArray.size_append]; have a1 : (⟨#[32]⟩ : ByteArray).size = 1 := rfl; have a2 : (⟨#[10]⟩ : ByteArray).size = 1 := rfl; unfold maxLen; omega
          have h47 : TB.length + (p ++ ⟨#[32]⟩ ++ d ++ ⟨#[10]⟩).size ≤ 140737488355328 := by rw [ByteArray.size_append, ByteArray.size_append, ByteArray.size_append]; have a1 : (⟨#[32]⟩ : ByteArray).size = 1 := rfl; have a2 : (⟨#[10]⟩ : ByteArray).size = 1 := rfl; omega
          go_wp2_with (at_builtin; apply stopHereT)
          refine (show wpList _ _ _ _ _ _ from ?_)
          refine Lib.wpList_append_own_string _ rfl _ _ 53 9 rfl (w.heap.size + 1) 5 i0 Tryz.underlying53 Tryz.underlying9 hi hz0 hz1 hz2 _ _ _ (by rw [Hvb.out]; rfl) HC4.out.2 (p ++ ⟨#[32]⟩ ++ d ++ ⟨#[10]⟩) rfl h63 h47 (by have := HC4.out.1.2.2.size; have := cell_in HC4.out.1.1.1; omega) ?_
          intro v5 w5 ho5 hg5 _
          have hS4 := cell_in HC4.out.1.1.1
          have hlo := HC4.out.2
          have hblk : w5.heap[w.heap.size]? = w4.heap[w.heap.size]? := hg5.block _ hS4 (fun e => by have := (hlo.lt _ e.symm).1; omega)
          have hcl : ∀ o, w5.cell? ⟨w.heap.size, o, none⟩ = w4.cell? ⟨w.heap.size, o, none⟩ := fun o => by unfold World.cell?; rw [hblk]
          have HT5 : Hid (AtT w5 w.heap.size F (.slice (some ⟨b, off, none⟩) l.length c)) := hidR ⟨by rw [hcl]; exact HC4.out.1.1.1, by rw [hcl]; exact HC4.out.1.1.2⟩
          have HO5 : Hid (w5.ownsRow (w.heap.size + 1) 5 1 v5 (tx5 F (l.take (k + 1))).length (Lib.byteCells (tx5 F (l.take (k + 1)))) ∧ w.heap.size + 1 ≤ w5.heap.size) := hidR ⟨by
            rw [HN.out]
            have e1 : Lib.byteCells (TB ++ ln) = Lib.byteCells TB ++ Lib.byteCells ln := by unfold Lib.byteCells; exact List.map_append
            rw [e1, List.length_append, ← HLl.out, ← HSt.out]
            exact ho5, by have := hg5.size; omega⟩
          have HB5 := hidR (HC4.out.1.2.2.grown hg5 HC4.out.1.2.2.size (fun k hk => by have := (hlo.lt k hk).1; omega))
          clear ho5 hg5 hS4 hlo hblk hcl HC4 HN HSt HLl h63 h47 hq1 hq2 hq3 hp1 hp2 htl
          go_wp2_with fail
          go_roundw
          case rel => exact ⟨k + 1, v5, rfl, rfl, by omega, HT5, HO5, HB5⟩
          case measure => simp [intOf]; omega
      · obtain rfl : k = l.length := by omega
        rw [List.take_length] at HO
        have hconv := own_conv5 HO.out.1
        rw [← Hvb.out] at hconv
        have HFin := hidR (HF.out wr HB.out)
        clear HO HB HF HT Hvb
        go_wp2
        go_ret2
        exact HFin.out
  · have hzb : (z == 0) = false := by simpa using h0
    have HFin : Hid (TxQ F l w (.returned (.tuple #[.string ⟨#[]⟩, .int .i64 z])) w1) := hidR ⟨⟨z, HZ.out, by rw [if_neg h0]⟩, HB1.out⟩
    clear HZ HB1 HT1
    go_wp2
    go_ret2
    exact HFin.out
end Go.Proofs.YtmeaikmmhgmgnaaGreat
namespace Go.Proofs.YtmeaikmmhgmgnaaGreat
open Go.RowKit Go.Shelf
set_option linter.unusedSimpArgs false
set_option linter.unusedVariables false

def RowU (W : World) (B : Nat) (l : List UInt8) : Prop := ∀ j (hj : j < l.length), W.cell? ⟨B, j, none⟩ = some (.int .u8 (l[j].toNat : Int))
theorem RowU.below {W W' : World} {B : Nat} {l : List UInt8} (h : RowU W B l) (hb : Below W.heap.size W W') : RowU W' B l := fun j hj => keepc hb (h j hj)
theorem set_row (t : ByteArray) (W : World) (B i : Nat) (v : Int) (hit : i < t.size) (hv0 : 0 ≤ v) (hv1 : v < 256) (h : ∀ j, j < t.size → W.cell? ⟨B, j, none⟩ = some (.int .u8 (byteAt t j)) ∧ W.frozen? ⟨B, j, none⟩ = false) :
    ∃ l : List UInt8, l.length = t.size ∧ RowU (W.setCell ⟨B, i, none⟩ (.int .u8 v)).drew B l := by
  refine ⟨t.data.toList.set i (UInt8.ofNat v.toNat), by simp, ?_⟩
  intro j hj
  have hj' : j < t.size := by simpa using hj
  show (W.setCell ⟨B, i, none⟩ (.int .u8 v)).cell? ⟨B, j, none⟩ = _
  by_cases e : i = j
  · subst e
    rw [World.cell?_setCell_same W ⟨B, i, none⟩ (.int .u8 v) (h i hit).1]
    have : (UInt8.ofNat v.toNat).toNat = v.toNat := by rw [UInt8.toNat_ofNat']; omega
    simp [this]
    omega
  · rw [World.cell?_setCell_other W ⟨B, i, none⟩ ⟨B, j, none⟩ (.int .u8 v) (by simp [e]), (h j hj').1]
    rw [← byteAt_in t j hj']
    simp [List.getElem_set, e]
    rfl

set_option maxHeartbeats 1000000 in
theorem within9_any (a n : Int) (w : World) (h0 : 0 < n) (h1 : n ≤ 1000000000) :
    Calls Tryz.prog 20 #[.int .i64 a, .int .i64 n] w fun e w' => e = .returned (.int .i64 (a % n)) ∧ w' = w := by
  have b1 := Int.emod_nonneg a (b := n) (by omega)
  have b2 := Int.emod_lt_of_pos a h0
  have hn0 : ¬ n = 0 := by omega
  have hnb : (n == 0) = false := by simp; omega
  rcases tmod_ways a n h0 with ⟨c, e⟩ | ⟨c, e⟩
  · have hw : IntKind.i64.wrap (a.tmod n) = a.tmod n := by rw [IntKind.wrap_i64]; omega
    have hw2 : IntKind.i64.wrap (a.tmod n + n) = a.tmod n + n := by rw [IntKind.wrap_i64]; omega
    rw [← e]
    clear e b1 b2
    go_enter Tryz.func20, Tryz.ntmps20
    go_wp2
    go_ret
    exact ⟨rfl, rfl⟩
  · have hw : IntKind.i64.wrap (a.tmod n) = a.tmod n := by rw [IntKind.wrap_i64]; omega
    rw [← e]
    clear e b1 b2
    go_enter Tryz.func20, Tryz.ntmps20
    go_wp2
    go_ret
    exact ⟨rfl, rfl⟩
set_option maxRecDepth 100000 in
set_option maxHeartbeats 32000000 in
theorem tableTurns_any (F : Int) (v : Value) (l : List Rte) (a y o : Int) (m : ByteArray) (w : World) (hy0 : 0 ≤ y) (hy1 : y ≤ 255) (hv : RwR w v l) :
    Calls Tryz.prog 5 #[.agg #[.int .i64 F, v], .int .i64 a, .int .u8 y, .int .i64 o, .string m] w fun e w' => e = .returned (.bool true) ∧ Below w.heap.size w w' := by
  have q1 := bl1 w (.cells #[.int .i64 F, v] 25)
  have HT := hidX (att_new w w.heap.size F v 25 rfl)
  have HB := hidX q1
  have HV := hidX (hv.below q1)
  have KK := fun W => known5_any W
  obtain ⟨ao, c, rfl, -⟩ := hv
  clear q1
  go_enter Tryz.func5, Tryz.ntmps5
  go_wp2_with fail
  refine (KK _).mono ?_
  rintro e w1 ⟨rfl, hb⟩
  have HT1 := hidX (HT.out.below hb)
  have HB1 := hidX (keepb hb HB.out)
  have KT := rtext5_any F _ l w1 (HV.out.below hb)
  clear KK hb HT HB HV
  obtain ⟨t0, t1⟩ := HT1.out
  go_wp2_with fail
  refine KT.mono ?_
  rintro e w2 ⟨⟨z, -, rfl⟩, hb⟩
  have HT2 := hidX (HT1.out.below hb)
  have HB2 := hidX (keepb hb HB1.out)
  clear KT hb HT1 HB1 t0 t1
  generalize (if z = 0 then bL9 (tx5 F l) else (⟨#[]⟩ : ByteArray)) = t
  by_cases hz : ¬ z = 0
  · have hzb : (z == 0) = false := by simpa using hz
    go_wp2
    exact bodyPost_ret (v := .bool true) (by simp [results, Tryz.results5, go_sem]) rfl ⟨rfl, HB2.out⟩
  have hz0 : z = 0 := Classical.byContradiction hz
  clear hz
  subst hz0
  by_cases he : t.toList = []
  · have heb : t.toList.isEmpty = true := by rw [he]; rfl
    go_wp2
    exact bodyPost_ret (v := .bool true) (by simp [results, Tryz.results5, go_sem]) rfl ⟨rfl, HB2.out⟩
  have hts : 0 < t.size := by
    apply Classical.byContradiction
    intro q
    refine he ?_
    unfold ByteArray.toList ByteArray.toList.loop
    rw [if_neg (by omega)]
    rfl
  have heb : t.toList.isEmpty = false := by simpa using he
  by_cases hl6 : (65536 : Int) < (t.size : Int)
  · go_wp2
    exact bodyPost_ret (v := .bool true) (by simp [results, Tryz.results5, go_sem]) rfl ⟨rfl, HB2.out⟩
  by_cases hm2 : (200 : Int) < (m.size : Int)
  · go_wp2
    exact bodyPost_ret (v := .bool true) (by simp [results, Tryz.results5, go_sem]) rfl ⟨rfl, HB2.out⟩
  have KW := fun W => within9_any a (t.size : Int) W (by omega) (by omega)
  have b1 := Int.emod_nonneg a (b := (t.size : Int)) (by omega)
  have b2 := Int.emod_lt_of_pos a (b := (t.size : Int)) (by omega)
  obtain ⟨i, hi⟩ : ∃ i : Nat, a % (t.size : Int) = (i : Int) := ⟨(a % (t.size : Int)).toNat, by omega⟩
  rw [hi] at KW b1 b2
  clear hi
  have hit : i < t.size := by omega
  obtain ⟨mn, hmn⟩ : ∃ mn : Int, min 30 ((t.size : Int) - (i : Int)) = mn := ⟨_, rfl⟩
  have hmb : 0 ≤ mn ∧ mn ≤ 30 ∧ mn ≤ (t.size : Int) - (i : Int) := by omega
  have KV := fun W => within9_any o (mn + 1) W (by omega) (by omega)
  have c1 := Int.emod_nonneg o (b := mn + 1) (by omega)
  have c2 := Int.emod_lt_of_pos o (b := mn + 1) (by omega)
  obtain ⟨jj, hj⟩ : ∃ jj : Nat, o % (mn + 1) = (jj : Int) := ⟨(o % (mn + 1)).toNat, by omega⟩
  rw [hj] at KV c1 c2
  clear hj
  obtain ⟨j, hjd⟩ : ∃ j : Nat, j = i + jj := ⟨_, rfl⟩
  have hjt : j ≤ t.size := by omega
  have hij : i ≤ j := by omega
  have ws : IntKind.i64.wrap ((t.size : Int) - (i : Int)) = (t.size : Int) - (i : Int) := by rw [IntKind.wrap_i64]; omega
  have wm : IntKind.i64.wrap (mn + 1) = mn + 1 := by rw [IntKind.wrap_i64]; omega
  have wj : IntKind.i64.wrap ((i : Int) + (jj : Int)) = (j : Int) := by rw [IntKind.wrap_i64]; omega
  clear b1 b2 c1 c2 hjd
  go_wp2_with fail
  refine (KW _).mono ?_
  rintro e w3 ⟨rfl, hw3⟩
  rw [hw3]; clear hw3 KW w3
  go_wp2_with fail
  refine (KV _).mono ?_
  rintro e w3 ⟨rfl, hw3⟩
  rw [hw3]; clear hw3 KV w3
  obtain ⟨cap, W, hconv, hcells, hWB, hWs⟩ := str_bytes t w2
  have HC : Hid (∀ j, j < t.size → W.cell? ⟨w2.heap.size, j, none⟩ = some (.int .u8 (byteAt t j)) ∧ W.frozen? ⟨w2.heap.size, j, none⟩ = false) := hcells
  obtain ⟨q0, q1⟩ := hcells i hit
  have bb := byteAt_bd t i
  have HTW := hidX (HT2.out.below hWB)
  have HBW := hidX (keepb hWB HB2.out)
  have hB2 := HB2.out.size
  have hS2 := cell_in HT2.out.1
  have hi2 : (i : Int) < (t.size : Int) := by omega
  have hj2 : (j : Int) ≤ (t.size : Int) := by omega
  have hij2 : (i : Int) ≤ (j : Int) := by omega
  have wy : IntKind.u8.wrap (byteAt t i + y) = (byteAt t i + y) % 256 := by simp [IntKind.wrap, IntKind.bits, IntKind.signed]
  clear hcells hWB HT2 HB2
  generalize hbi : byteAt t i = bi at *
  go_wp2_with fail
  obtain ⟨l9, hlen, hR⟩ := set_row t W w2.heap.size i ((bi + y) % 256) hit (by omega) (by omega) HC
  have hT9 : AtT (W.setCell ⟨w2.heap.size, i, none⟩ (.int .u8 ((bi + y) % 256))).drew w.heap.size F (.slice ao l.length c) := by
    have hne : ∀ o', (W.setCell ⟨w2.heap.size, i, none⟩ (.int .u8 ((bi + y) % 256))).cell? ⟨w.heap.size, o', none⟩ = W.cell? ⟨w.heap.size, o', none⟩ := fun o' => World.cell?_setCell_other W ⟨w2.heap.size, i, none⟩ ⟨w.heap.size, o', none⟩ _ (by first | (simp; done) | (simp; omega))
    exact ⟨(hne 0).trans HTW.out.1, (hne 1).trans HTW.out.2⟩
  have hRB : Below w.heap.size w (W.setCell ⟨w2.heap.size, i, none⟩ (.int .u8 ((bi + y) % 256))).drew := (HBW.out.setCell (by first | (show w.heap.size ≤ w2.heap.size; omega) | omega) _).drew
  have HK : ∀ s W, Calls Tryz.prog 3 #[.int .i64 F, .string s] W fun e w' => e = .returned (.bool true) ∧ Below W.heap.size W w' := fun s W => tableReads_any F s W
  have hc1 : ¬ 9223372036854775807 < i + (t.size - j) := by omega
  have hc2 : ¬ 9223372036854775807 < i + m.size := by omega
  have hc3 : ¬ 9223372036854775807 < i + m.size + (t.size - i) := by omega
  clear HC HTW HBW hWs q0 q1 bb hbi hconv wy ws wm wj hmn hmb
  generalize w2.heap.size = B9 at *
  refine qw_region (C := fun w' => AtT w' w.heap.size F (.slice ao l.length c) ∧ RowU w' B9 l9 ∧ Below w.heap.size w w') (by kernel_rfl) (by kernel_rfl) ⟨hT9, hR, hRB⟩ ?_
  clear hT9 hR hRB
  refine qw_run (v := .pointer (some ⟨w.heap.size, 0, none⟩)) (by rfl) ?_ ?_
  · (intro w1 hC; obtain ⟨⟨t0, t1⟩, c1, c2⟩ := hC; go_simp; first | done | (simp; done) | (simp [*]; done) | omega | (simp; omega) | (rw [IntKind.wrap_i64]; omega) | rfl)
  simp only [Act.put, List.setIfInBounds_toArray, List.set_cons_zero, List.set_cons_succ]
  refine qw_run (v := .int .i64 F) (by rfl) ?_ ?_
  · (intro w1 hC; obtain ⟨⟨t0, t1⟩, c1, c2⟩ := hC; go_simp; first | done | (simp; done) | (simp [*]; done) | omega | (simp; omega) | (rw [IntKind.wrap_i64]; omega) | rfl)
  simp only [Act.put, List.setIfInBounds_toArray, List.set_cons_zero, List.set_cons_succ]
  refine qw_run (v := .slice (some ⟨B9, 0, none⟩) t.size cap) (by rfl) ?_ ?_
  · (intro w1 hC; obtain ⟨⟨t0, t1⟩, c1, c2⟩ := hC; go_simp; first | done | (simp; done) | (simp [*]; done) | omega | (simp; omega) | (rw [IntKind.wrap_i64]; omega) | rfl)
  simp only [Act.put, List.setIfInBounds_toArray, List.set_cons_zero, List.set_cons_succ]
  refine qw_run (v := .string ⟨l9.toArray⟩) (by rfl) ?_ ?_
  · (intro w1 hC; obtain ⟨⟨t0, t1⟩, c1, c2⟩ := hC; have hcv := run_convert_bytes_back (P := Tryz.prog) w1 53 9 5 ⟨B9, 0, none⟩ cap l9 Tryz.underlying53 Tryz.underlying5 Tryz.underlying9 (fun j hj => by have h7 := c1 j hj; have ea : (⟨B9, 0, none⟩ : Addr).add j = ⟨B9, j, none⟩ := (by cases j <;> simp [Addr.add]); rw [ea]; exact h7); rw [hlen] at hcv; go_simp; first | done | (simp [hcv]; done) | (simp [*]; done))
  simp only [Act.put, List.setIfInBounds_toArray, List.set_cons_zero, List.set_cons_succ]
  refine qw_call (v := .bool true) (f := 3) (args := #[.int .i64 F, .string ⟨l9.toArray⟩]) (by rfl) ?_ ?_ ?_
  · (intro w1 hC; clear hC; go_simp)
  · exact fun w1 hC => (HK (⟨l9.toArray⟩) w1).mono fun e w' ⟨he, hb⟩ => ⟨he, ⟨hC.1.below hb, hC.2.1.below hb, keepb hb hC.2.2⟩⟩
  simp only [Act.put, List.setIfInBounds_toArray, List.set_cons_zero, List.set_cons_succ]
  refine qw_run (v := .bool true) (by rfl) ?_ ?_
  · (intro w1 hC; obtain ⟨⟨t0, t1⟩, c1, c2⟩ := hC; go_simp; first | done | (simp; done) | (simp [*]; done) | omega | (simp; omega) | (rw [IntKind.wrap_i64]; omega) | rfl)
  simp only [Act.put, List.setIfInBounds_toArray, List.set_cons_zero, List.set_cons_succ]
  refine qw_run (v := .pointer (some ⟨w.heap.size, 0, none⟩)) (by rfl) ?_ ?_
  · (intro w1 hC; obtain ⟨⟨t0, t1⟩, c1, c2⟩ := hC; go_simp; first | done | (simp; done) | (simp [*]; done) | omega | (simp; omega) | (rw [IntKind.wrap_i64]; omega) | rfl)
  simp only [Act.put, List.setIfInBounds_toArray, List.set_cons_zero, List.set_cons_succ]
  refine qw_run (v := .int .i64 F) (by rfl) ?_ ?_
  · (intro w1 hC; obtain ⟨⟨t0, t1⟩, c1, c2⟩ := hC; go_simp; first | done | (simp; done) | (simp [*]; done) | omega | (simp; omega) | (rw [IntKind.wrap_i64]; omega) | rfl)
  simp only [Act.put, List.setIfInBounds_toArray, List.set_cons_zero, List.set_cons_succ]
  refine qw_run (v := .string t) (by rfl) ?_ ?_
  · (intro w1 hC; obtain ⟨⟨t0, t1⟩, c1, c2⟩ := hC; go_simp; first | done | (simp; done) | (simp [*]; done) | omega | (simp; omega) | (rw [IntKind.wrap_i64]; omega) | rfl)
  simp only [Act.put, List.setIfInBounds_toArray, List.set_cons_zero, List.set_cons_succ]
  refine qw_run (v := .int .i64 (i : Int)) (by rfl) ?_ ?_
  · (intro w1 hC; obtain ⟨⟨t0, t1⟩, c1, c2⟩ := hC; go_simp; first | done | (simp; done) | (simp [*]; done) | omega | (simp; omega) | (rw [IntKind.wrap_i64]; omega) | rfl)
  simp only [Act.put, List.setIfInBounds_toArray, List.set_cons_zero, List.set_cons_succ]
  refine qw_run (v := .string (t.extract 0 i)) (by rfl) ?_ ?_
  · (intro w1 hC; obtain ⟨⟨t0, t1⟩, c1, c2⟩ := hC; clear HK; go_simp; first | done | omega | (intro hx; omega) | (simp; done) | (simp [*]; done) | (simp; omega))
  simp only [Act.put, List.setIfInBounds_toArray, List.set_cons_zero, List.set_cons_succ]
  refine qw_run (v := .string t) (by rfl) ?_ ?_
  · (intro w1 hC; obtain ⟨⟨t0, t1⟩, c1, c2⟩ := hC; go_simp; first | done | (simp; done) | (simp [*]; done) | omega | (simp; omega) | (rw [IntKind.wrap_i64]; omega) | rfl)
  simp only [Act.put, List.setIfInBounds_toArray, List.set_cons_zero, List.set_cons_succ]
  refine qw_run (v := .int .i64 (j : Int)) (by rfl) ?_ ?_
  · (intro w1 hC; obtain ⟨⟨t0, t1⟩, c1, c2⟩ := hC; go_simp; first | done | (simp; done) | (simp [*]; done) | omega | (simp; omega) | (rw [IntKind.wrap_i64]; omega) | rfl)
  simp only [Act.put, List.setIfInBounds_toArray, List.set_cons_zero, List.set_cons_succ]
  refine qw_run (v := .string (t.extract j t.size)) (by rfl) ?_ ?_
  · (intro w1 hC; obtain ⟨⟨t0, t1⟩, c1, c2⟩ := hC; clear HK; go_simp; first | done | omega | (intro hx; omega) | (simp; done) | (simp [*]; done) | (simp; omega))
  simp only [Act.put, List.setIfInBounds_toArray, List.set_cons_zero, List.set_cons_succ]
  refine qw_run (v := .string (t.extract 0 i ++ t.extract j t.size)) (by rfl) ?_ ?_
  · (intro w1 hC; obtain ⟨⟨t0, t1⟩, c1, c2⟩ := hC; clear HK; go_simp; first | done | omega | (intro hx; omega) | (simp; done) | (simp [*]; done) | (simp; omega))
  simp only [Act.put, List.setIfInBounds_toArray, List.set_cons_zero, List.set_cons_succ]
  refine qw_call (v := .bool true) (f := 3) (args := #[.int .i64 F, .string (t.extract 0 i ++ t.extract j t.size)]) (by rfl) ?_ ?_ ?_
  · (intro w1 hC; clear hC; go_simp)
  · exact fun w1 hC => (HK ((t.extract 0 i ++ t.extract j t.size)) w1).mono fun e w' ⟨he, hb⟩ => ⟨he, ⟨hC.1.below hb, hC.2.1.below hb, keepb hb hC.2.2⟩⟩
  simp only [Act.put, List.setIfInBounds_toArray, List.set_cons_zero, List.set_cons_succ]
  refine qw_run (v := .bool true) (by rfl) ?_ ?_
  · (intro w1 hC; obtain ⟨⟨t0, t1⟩, c1, c2⟩ := hC; go_simp; first | done | (simp; done) | (simp [*]; done) | omega | (simp; omega) | (rw [IntKind.wrap_i64]; omega) | rfl)
  simp only [Act.put, List.setIfInBounds_toArray, List.set_cons_zero, List.set_cons_succ]
  refine qw_run (v := .bool true) (by rfl) ?_ ?_
  · (intro w1 hC; obtain ⟨⟨t0, t1⟩, c1, c2⟩ := hC; go_simp; first | done | (simp; done) | (simp [*]; done) | omega | (simp; omega) | (rw [IntKind.wrap_i64]; omega) | rfl)
  simp only [Act.put, List.setIfInBounds_toArray, List.set_cons_zero, List.set_cons_succ]
  refine qw_run (v := .pointer (some ⟨w.heap.size, 0, none⟩)) (by rfl) ?_ ?_
  · (intro w1 hC; obtain ⟨⟨t0, t1⟩, c1, c2⟩ := hC; go_simp; first | done | (simp; done) | (simp [*]; done) | omega | (simp; omega) | (rw [IntKind.wrap_i64]; omega) | rfl)
  simp only [Act.put, List.setIfInBounds_toArray, List.set_cons_zero, List.set_cons_succ]
  refine qw_run (v := .int .i64 F) (by rfl) ?_ ?_
  · (intro w1 hC; obtain ⟨⟨t0, t1⟩, c1, c2⟩ := hC; go_simp; first | done | (simp; done) | (simp [*]; done) | omega | (simp; omega) | (rw [IntKind.wrap_i64]; omega) | rfl)
  simp only [Act.put, List.setIfInBounds_toArray, List.set_cons_zero, List.set_cons_succ]
  refine qw_run (v := .string t) (by rfl) ?_ ?_
  · (intro w1 hC; obtain ⟨⟨t0, t1⟩, c1, c2⟩ := hC; go_simp; first | done | (simp; done) | (simp [*]; done) | omega | (simp; omega) | (rw [IntKind.wrap_i64]; omega) | rfl)
  simp only [Act.put, List.setIfInBounds_toArray, List.set_cons_zero, List.set_cons_succ]
  refine qw_run (v := .int .i64 (i : Int)) (by rfl) ?_ ?_
  · (intro w1 hC; obtain ⟨⟨t0, t1⟩, c1, c2⟩ := hC; go_simp; first | done | (simp; done) | (simp [*]; done) | omega | (simp; omega) | (rw [IntKind.wrap_i64]; omega) | rfl)
  simp only [Act.put, List.setIfInBounds_toArray, List.set_cons_zero, List.set_cons_succ]
  refine qw_run (v := .string (t.extract 0 i)) (by rfl) ?_ ?_
  · (intro w1 hC; obtain ⟨⟨t0, t1⟩, c1, c2⟩ := hC; clear HK; go_simp; first | done | omega | (intro hx; omega) | (simp; done) | (simp [*]; done) | (simp; omega))
  simp only [Act.put, List.setIfInBounds_toArray, List.set_cons_zero, List.set_cons_succ]
  refine qw_run (v := .string m) (by rfl) ?_ ?_
  · (intro w1 hC; obtain ⟨⟨t0, t1⟩, c1, c2⟩ := hC; go_simp; first | done | (simp; done) | (simp [*]; done) | omega | (simp; omega) | (rw [IntKind.wrap_i64]; omega) | rfl)
  simp only [Act.put, List.setIfInBounds_toArray, List.set_cons_zero, List.set_cons_succ]
  refine qw_run (v := .string (t.extract 0 i ++ m)) (by rfl) ?_ ?_
  · (intro w1 hC; obtain ⟨⟨t0, t1⟩, c1, c2⟩ := hC; clear HK; go_simp; first | done | omega | (intro hx; omega) | (simp; done) | (simp [*]; done) | (simp; omega))
  simp only [Act.put, List.setIfInBounds_toArray, List.set_cons_zero, List.set_cons_succ]
  refine qw_run (v := .string t) (by rfl) ?_ ?_
  · (intro w1 hC; obtain ⟨⟨t0, t1⟩, c1, c2⟩ := hC; go_simp; first | done | (simp; done) | (simp [*]; done) | omega | (simp; omega) | (rw [IntKind.wrap_i64]; omega) | rfl)
  simp only [Act.put, List.setIfInBounds_toArray, List.set_cons_zero, List.set_cons_succ]
  refine qw_run (v := .int .i64 (i : Int)) (by rfl) ?_ ?_
  · (intro w1 hC; obtain ⟨⟨t0, t1⟩, c1, c2⟩ := hC; go_simp; first | done | (simp; done) | (simp [*]; done) | omega | (simp; omega) | (rw [IntKind.wrap_i64]; omega) | rfl)
  simp only [Act.put, List.setIfInBounds_toArray, List.set_cons_zero, List.set_cons_succ]
  refine qw_run (v := .string (t.extract i t.size)) (by rfl) ?_ ?_
  · (intro w1 hC; obtain ⟨⟨t0, t1⟩, c1, c2⟩ := hC; clear HK; go_simp; first | done | omega | (intro hx; omega) | (simp; done) | (simp [*]; done) | (simp; omega))
  simp only [Act.put, List.setIfInBounds_toArray, List.set_cons_zero, List.set_cons_succ]
  refine qw_run (v := .string (t.extract 0 i ++ m ++ t.extract i t.size)) (by rfl) ?_ ?_
  · (intro w1 hC; obtain ⟨⟨t0, t1⟩, c1, c2⟩ := hC; clear HK; go_simp; first | done | omega | (intro hx; omega) | (simp; done) | (simp [*]; done) | (simp; omega))
  simp only [Act.put, List.setIfInBounds_toArray, List.set_cons_zero, List.set_cons_succ]
  refine qw_call (v := .bool true) (f := 3) (args := #[.int .i64 F, .string (t.extract 0 i ++ m ++ t.extract i t.size)]) (by rfl) ?_ ?_ ?_
  · (intro w1 hC; clear hC; go_simp)
  · exact fun w1 hC => (HK ((t.extract 0 i ++ m ++ t.extract i t.size)) w1).mono fun e w' ⟨he, hb⟩ => ⟨he, ⟨hC.1.below hb, hC.2.1.below hb, keepb hb hC.2.2⟩⟩
  simp only [Act.put, List.setIfInBounds_toArray, List.set_cons_zero, List.set_cons_succ]
  refine qw_run (v := .bool true) (by rfl) ?_ ?_
  · (intro w1 hC; obtain ⟨⟨t0, t1⟩, c1, c2⟩ := hC; go_simp; first | done | (simp; done) | (simp [*]; done) | omega | (simp; omega) | (rw [IntKind.wrap_i64]; omega) | rfl)
  simp only [Act.put, List.setIfInBounds_toArray, List.set_cons_zero, List.set_cons_succ]
  refine qw_run (v := .bool true) (by rfl) ?_ ?_
  · (intro w1 hC; obtain ⟨⟨t0, t1⟩, c1, c2⟩ := hC; go_simp; first | done | (simp; done) | (simp [*]; done) | omega | (simp; omega) | (rw [IntKind.wrap_i64]; omega) | rfl)
  simp only [Act.put, List.setIfInBounds_toArray, List.set_cons_zero, List.set_cons_succ]
  refine qw_nil ?_
  intro w9 hC
  have HB9 := hidX hC.2.2
  clear hC HK
  go_wp2
  exact bodyPost_ret (v := .bool true) (by simp [results, Tryz.results5, go_sem]) rfl ⟨rfl, HB9.out⟩
end Go.Proofs.YtmeaikmmhgmgnaaGreat
namespace Go.Proofs.YtmeaikmmhgmgnaaGreat
open Go.ChangeShapes Go.WideShapes Go.ChangeAt Go.RowKit Go.Joins
set_option linter.unusedSimpArgs false
set_option linter.unusedVariables false

theorem Tryz.cellsW : Tryz.prog.cellsOf 35 = 2 := by kernel_rfl
theorem Tryz.cellsP : Tryz.prog.cellsOf 37 = 3 := by kernel_rfl
theorem Tryz.cellsI : Tryz.prog.cellsOf 3 = 1 := by kernel_rfl
theorem Tryz.cellsU : Tryz.prog.cellsOf 33 = 1 := by kernel_rfl
section
variable {H : Type} {enc : TypeId × Value → H} {w : World} {base : Nat} {spare : Nat → Bool} {held : Bool}
end
end Go.Proofs.YtmeaikmmhgmgnaaGreat
namespace Go.Proofs.YtmeaikmmhgmgnaaGreat
open Go.ChangeShapes Go.WideShapes Go.ChangeAt Go.RowKit Go.Joins
set_option linter.unusedSimpArgs false
set_option linter.unusedVariables false

theorem Tryz.laidOut : laidOutB Tryz.prog = true := by kernel_rfl
theorem Tryz.cellsR : Tryz.prog.cellsOf 47 = 4 := by kernel_rfl
theorem Tryz.cellsT : Tryz.prog.cellsOf 25 = 2 := by kernel_rfl
theorem Tryz.cellsL : Tryz.prog.cellsOf 23 = 1 := by kernel_rfl
theorem addT (g o j : Nat) : (⟨g, o, none⟩ : Addr).add j = ⟨g, o + j, none⟩ := by unfold Addr.add; split <;> simp_all
theorem rowR_lenF (l : List Rte) : (rowR l).length = l.length * 4 := by
  induction l with
  | nil => rfl
  | cons r l ih => simp [rowR, ih]; omega
theorem rowR_all {W : World} {b off : Nat} (l : List Rte) (h : ∀ i (hi : i < l.length), W.cell? ⟨b, off + i * 4, none⟩ = some (.int .u64 (hI l[i].1.1)) ∧ W.cell? ⟨b, off + (i * 4 + 1), none⟩ = some (.int .u64 (lI l[i].1.1)) ∧ W.cell? ⟨b, off + (i * 4 + 2), none⟩ = some (.int .i64 l[i].1.2) ∧ W.cell? ⟨b, off + (i * 4 + 3), none⟩ = some (.int .i64 l[i].2)) :
    ∀ j u, (rowR l)[j]? = some u → W.cell? ⟨b, off + j, none⟩ = some u := by
  intro j u hj
  have hlt : j < (rowR l).length := (List.getElem?_eq_some_iff.1 hj).1
  rw [rowR_lenF] at hlt
  have hi : j / 4 < l.length := by omega
  obtain ⟨a0, a1, a2, a3⟩ := h (j / 4) hi
  obtain ⟨b0, b1, b2, b3⟩ := rowR_get l (j / 4) hi
  have hm : j % 4 = 0 ∨ j % 4 = 1 ∨ j % 4 = 2 ∨ j % 4 = 3 := by omega
  rcases hm with hm | hm | hm | hm
  · have e : j = j / 4 * 4 := by omega
    rw [e, b0] at hj
    rw [e, ← hj]; exact a0
  · have e : j = j / 4 * 4 + 1 := by omega
    rw [e, b1] at hj
    rw [e, ← hj]; exact a1
  · have e : j = j / 4 * 4 + 2 := by omega
    rw [e, b2] at hj
    rw [e, ← hj]; exact a2
  · have e : j = j / 4 * 4 + 3 := by omega
    rw [e, b3] at hj
    rw [e, ← hj]; exact a3
section
variable {H : Type} {enc : TypeId × Value → H} {w : World} {spare : Nat → Bool} {held : Bool}
set_option maxRecDepth 100000 in
theorem trod_word {n : Nat} {c0 c1 : Value} {x : DataW H × List MemPlace} (h : DataW.trod enc Tryz.prog w 0 spare held n 35 [c0, c1] = some x) :
    ∃ a b : Int, c0 = .int .u64 a ∧ c1 = .int .u64 b ∧ (Lit.int .u64 a).wf = true ∧ (Lit.int .u64 b).wf = true := by
  obtain ⟨u0, u1, m, hu, _, g0, g1⟩ := trod_struct2 Tryz.underlying35 h
  have g0' : DataW.trod enc Tryz.prog w 0 spare held m 33 [c0] = some u0 := by simpa [Value.cells, Tryz.cellsU] using g0
  have g1' : DataW.trod enc Tryz.prog w 0 spare held m 33 [c1] = some u1 := by simpa [Value.cells, Tryz.cellsU] using g1
  obtain ⟨a, ea, rfl, wa⟩ := DataW.trod_int Tryz.underlying33 g0'
  obtain ⟨b, eb, rfl, wb⟩ := DataW.trod_int Tryz.underlying33 g1'
  simp at ea eb
  exact ⟨a, b, ea, eb, wa, wb⟩
set_option maxRecDepth 100000 in
theorem trod_rte {n : Nat} {c0 c1 c2 c3 : Value} {x : DataW H × List MemPlace} (h : DataW.trod enc Tryz.prog w 0 spare held n 47 [c0, c1, c2, c3] = some x) :
    ∃ a b k g : Int, c0 = .int .u64 a ∧ c1 = .int .u64 b ∧ c2 = .int .i64 k ∧ c3 = .int .i64 g ∧ (Lit.int .u64 a).wf = true ∧ (Lit.int .u64 b).wf = true := by
  obtain ⟨y0, y1, n, hx, _, h0, h1⟩ := trod_struct2 Tryz.underlying47 h
  have h0' : DataW.trod enc Tryz.prog w 0 spare held n 37 [c0, c1, c2] = some y0 := by simpa [Value.cells, Tryz.cellsP] using h0
  have h1' : DataW.trod enc Tryz.prog w 0 spare held n 3 [c3] = some y1 := by simpa [Value.cells, Tryz.cellsI, Tryz.cellsP] using h1
  obtain ⟨z0, z1, n2, hz, _, k0, k1⟩ := trod_struct2 Tryz.underlying37 h0'
  have k0' : DataW.trod enc Tryz.prog w 0 spare held n2 35 [c0, c1] = some z0 := by simpa [Value.cells, Tryz.cellsW] using k0
  have k1' : DataW.trod enc Tryz.prog w 0 spare held n2 3 [c2] = some z1 := by simpa [Value.cells, Tryz.cellsI, Tryz.cellsW] using k1
  obtain ⟨a, b, e0, e1, wa, wb⟩ := trod_word k0'
  obtain ⟨k, ek, rfl, wk⟩ := DataW.trod_int Tryz.underlying3 k1'
  obtain ⟨g, eg, rfl, wg⟩ := DataW.trod_int Tryz.underlying3 h1'
  simp at ek eg
  exact ⟨a, b, k, g, e0, e1, ek, eg, wa, wb⟩
theorem spot_none {W : World} {a : Addr} {u : Value} (h : W.cell? a = some u) : a = ⟨a.block, a.off, none⟩ := by
  obtain ⟨b, o, s⟩ := a
  cases s with
  | none => rfl
  | some z =>
    unfold World.cell? at h
    split at h
    · simp at h
    · cases h
theorem array2v {cs : Array Value} (h : cs.size = 2) : ∃ a b, cs = #[a, b] := by
  obtain ⟨l⟩ := cs
  match l, h with
  | [a, b], _ => exact ⟨a, b, rfl⟩
set_option maxRecDepth 100000 in
theorem open_tab {r : Reach} {b0 : Nat} {v : Value} {d : DataW H} {p : List MemPlace} (hv : Value.okWide Tryz.prog w r b0 25 v) (h : DataW.Trod enc Tryz.prog w 0 (fun _ => true) held 25 v d p) :
    ∃ (F : Int) (va : Value) (l : List Rte), v = .agg #[.int .i64 F, va] ∧ RwR w va l := by
  obtain ⟨cs, rfl, hsz⟩ := okWide_struct Tryz.underlying25 hv
  obtain ⟨c0, va, rfl⟩ := array2v (hsz.trans Tryz.cellsT)
  obtain ⟨fuel, hf⟩ := h
  obtain ⟨y0, y1, n, hx, _, h0, h1⟩ := trod_struct2 Tryz.underlying25 hf
  have h0' : DataW.trod enc Tryz.prog w 0 (fun _ => true) held n 3 [c0] = some y0 := by simpa [Value.cells, Tryz.cellsI] using h0
  have h1' : DataW.trod enc Tryz.prog w 0 (fun _ => true) held n 23 [va] = some y1 := by simpa [Value.cells, Tryz.cellsI, Tryz.cellsL] using h1
  obtain ⟨F, eF, rfl, wF⟩ := DataW.trod_int Tryz.underlying3 h0'
  simp at eF
  subst eF
  refine ⟨F, va, ?_⟩
  rcases Deep.open_slice Tryz.underlying23 h1' with ⟨hcs, hx⟩ | ⟨a, len, cap, m, n, D, Pl, hcs, _, hl, hm, hmm, hx, hel⟩
  · simp at hcs
    subst hcs
    exact ⟨[], rfl, none, 0, rfl, .inl rfl⟩
  · simp at hcs
    subst hcs
    simp at hmm
    subst hmm
    rw [Tryz.cellsR] at hel
    obtain ⟨f, hf⟩ := Deep.choose_lt (α := Rte) (n := len) (p := fun i x => w.cell? (a.add (i * 4)) = some (.int .u64 (hI x.1.1)) ∧ w.cell? ((a.add (i * 4)).add 1) = some (.int .u64 (lI x.1.1)) ∧ w.cell? ((a.add (i * 4)).add 2) = some (.int .i64 x.1.2) ∧ w.cell? ((a.add (i * 4)).add 3) = some (.int .i64 x.2)) (fun i hi => by
      obtain ⟨cs', h1, h2⟩ := hel i (by omega)
      obtain ⟨_, hlen, hc⟩ := World.cells?_some h1
      match cs', hlen with
      | [c0, c1, c2, c3], _ =>
        obtain ⟨x, y, k, g, rfl, rfl, rfl, rfl, wx, wy⟩ := trod_rte h2
        have bx : 0 ≤ x ∧ x < 18446744073709551616 := by simp [Lit.wf, IntKind.min, IntKind.max, IntKind.signed, IntKind.bits] at wx; omega
        have bY : 0 ≤ y ∧ y < 18446744073709551616 := by simp [Lit.wf, IntKind.min, IntKind.max, IntKind.signed, IntKind.bits] at wy; omega
        refine ⟨((mkW x y, k), g), ?_, ?_, ?_, ?_⟩
        · have := hc 0 (by omega)
          rw [hI_mk x y bx.1 bx.2]
          simpa [Addr.add] using this
        · rw [lI_mk x y bY.1 bY.2]
          simpa using hc 1 (by omega)
        · simpa using hc 2 (by omega)
        · simpa using hc 3 (by omega))
    refine ⟨(List.range len).map f, rfl, some a, _, by simp; rfl, ?_⟩
    by_cases hz : len = 0
    · subst hz
      exact .inl (by simp)
    · have h00 := (hf 0 (by omega)).1
      have ea : a = ⟨a.block, a.off, none⟩ := by
        have : a.add (0 * 4) = a := by simp [Addr.add]
        rw [this] at h00
        exact spot_none h00
      refine .inr ⟨a.block, a.off, by rw [← ea], ?_⟩
      refine rowR_all _ ?_
      intro i hi
      have hi' : i < len := by simpa using hi
      have := hf i hi'
      rw [ea] at this
      simp only [addT] at this
      simpa [Nat.add_assoc] using this
end
end Go.Proofs.YtmeaikmmhgmgnaaGreat
