/-
  Part 30 of the proof: 1 texts, one behind the other.
-/
import Derived.Test.YtmeaikmmhgmgnaaGreatPart8
import Derived.Test.YtmeaikmmhgmgnaaGreatPart25
import Derived.Test.YtmeaikmmhgmgnaaGreatPart29
import Derived.Test.YtmeaikmmhgmgnaaGreatPart12
import Derived.Deep.CutBlock
import Derived.Deep.DeepCutAuto
namespace Go.Proofs.YtmeaikmmhgmgnaaGreat
open Go.RowKit
set_option linter.unusedSimpArgs false
set_option linter.unusedVariables false

theorem Tryz.infoN9 : (Tryz.prog.info? 3).map (fun i => (i.zero, i.size, i.bytes)) = some (some (.int .i64 0), 1, 8) := by kernel_rfl
theorem newsN9 (W : World) (a : Value) (t : TypeId) : ∀ j u, [a][j]? = some u → (W.alloc (.cells #[a] t)).cell? ((⟨W.heap.size, 0, none⟩ : Addr).add j) = some u := by
  intro j u hj
  match j, hj with
  | 0, hj => simp at hj; subst hj; simp [Addr.add, go_sem]
theorem oneN9 (a : Int) : ∀ u ∈ [Value.int .i64 a], u.oneCell' = true := by
  intro u hu; simp at hu; subst hu; rfl
theorem wl_nil {P : Program} {ops : Array Oper} {Q : Exit → Act → World → Prop} {a : Act} {w : World} (h : wpList P ops Q [] a w) : Q .normal a w := h
theorem Slt.old {l : List Oper} {a A : Act} {lp : Array Bool} {a' : Act} (h : Slt l a A lp a') (s : Nat) (hs : ∀ o ∈ l, o.dst ≠ some s) : a'.tmps[s]? = a.tmps[s]? := h.oth s (fun k o hk _ => hs o (List.mem_of_getElem? hk))
theorem gh_quiet {P : Program} {o : Oper} {a' : Act} {w' : World} {K : Act → World → Prop} {Q' : Exit → Act → World → Prop} {v : Value} (hr : (execOp a'.eval o).run P w' = .ok (.value v) w') (hK : K (a'.put o.dst v) w') : o.wp P a' w' K Q' := by
  unfold Oper.wp
  rw [hr]
  exact hK
theorem set3_P {W : World} {P : Nat} {a b c : Value} {T : TypeId} (h : W.heap[P]? = some (.cells #[a, b, c] T)) (x y z : Value) : (((W.setCell ⟨P, 0, none⟩ x).setCell ⟨P, 1, none⟩ y).setCell ⟨P, 2, none⟩ z).heap[P]? = some (.cells #[x, y, z] T) := by
  simpa using set_blk5 (o := 2) (set_blk5 (o := 1) (set_blk5 (o := 0) h x) y) z
structure EnW (w : World) (t : ByteArray) (c d : Nat) (vA vB : Value) (W : World) : Prop where
  res : W.heap[w.heap.size]? = some (.cells #[.int .u64 0, .int .u64 0, .int .i64 0, .int .i64 0] 47)
  oa : W.ownsRow (w.heap.size + 1) 3 1 vA c (rowN (ats t c))
  ob : W.ownsRow (w.heap.size + 1) 3 1 vB d (rowN (tos t d))
  ne : ∀ z, vA.ownBlock = some z → vB.ownBlock ≠ some z
  low : Below w.heap.size w W
abbrev EnV (w : World) (t : ByteArray) (c : Nat) (vA vB : Value) (W : World) : Prop := EnW w t c c vA vB W
section
variable {w W W' : World} {t : ByteArray} {c d : Nat} {vA vB : Value}
theorem EnW.below (h : EnW w t c d vA vB W) (hb : Below W.heap.size W W') : EnW w t c d vA vB W' :=
  ⟨(hb.block _ (blk_lt5 h.res)).trans h.res, own_below hb h.oa, own_below hb h.ob, h.ne, keepb hb h.low⟩
theorem EnW.ca {ga ca : Nat} (h : EnW w t c d (.slice (some ⟨ga, 0, none⟩) c ca) vB W) (q : Nat) {n : Nat} (hq : (ats t c)[q]? = some n) : W.cell? ⟨ga, q, none⟩ = some (.int .i64 (n : Int)) := by
  have f := h.oa.cells (g := ga) rfl q _ (rowN_get hq)
  rwa [addA, Nat.zero_add] at f
theorem EnW.cb {gb cb : Nat} (h : EnW w t c d vA (.slice (some ⟨gb, 0, none⟩) d cb) W) (q : Nat) {n : Nat} (hq : (tos t d)[q]? = some n) : W.cell? ⟨gb, q, none⟩ = some (.int .i64 (n : Int)) := by
  have f := h.ob.cells (g := gb) rfl q _ (rowN_get hq)
  rwa [addA, Nat.zero_add] at f
theorem EnW.far {N o : Nat} (h : EnW w t c d vA vB W) (hN : w.heap.size < N) (ha : vA.ownBlock ≠ some N) (hb : vB.ownBlock ≠ some N) (u : Value) : EnW w t c d vA vB (W.setCell ⟨N, o, none⟩ u) :=
  ⟨by rw [hSet _ (by omega)]; exact h.res, own_heap h.oa (fun z e => hSet _ (fun q => ha (by rw [e, q]))), own_heap h.ob (fun z e => hSet _ (fun q => hb (by rw [e, q]))), h.ne, h.low.setCell (by show w.heap.size ≤ N; omega) _⟩
theorem EnW.far3 {N : Nat} (h : EnW w t c d vA vB W) (hN : w.heap.size < N) (ha : vA.ownBlock ≠ some N) (hb : vB.ownBlock ≠ some N) (x y z : Value) : EnW w t c d vA vB (((W.setCell ⟨N, 0, none⟩ x).setCell ⟨N, 1, none⟩ y).setCell ⟨N, 2, none⟩ z) :=
  ((h.far hN ha hb x).far hN ha hb y).far hN ha hb z
theorem EnW.zero (h : EnW w t c d vA vB W) : EnW w t c d vA vB ((((W.setCell ⟨w.heap.size, 0, none⟩ (.int .u64 0)).setCell ⟨w.heap.size, 1, none⟩ (.int .u64 0)).setCell ⟨w.heap.size, 2, none⟩ (.int .i64 0)).setCell ⟨w.heap.size, 3, none⟩ (.int .i64 0)) := by
  have hz : ∀ z, w.heap.size + 1 ≤ z → ((((W.setCell ⟨w.heap.size, 0, none⟩ (.int .u64 0)).setCell ⟨w.heap.size, 1, none⟩ (.int .u64 0)).setCell ⟨w.heap.size, 2, none⟩ (.int .i64 0)).setCell ⟨w.heap.size, 3, none⟩ (.int .i64 0)).heap[z]? = W.heap[z]? := fun z h => by
    rw [hSet _ (by omega), hSet _ (by omega), hSet _ (by omega), hSet _ (by omega)]
  exact ⟨by simpa using set_blk5 (o := 3) (set_blk5 (o := 2) (set_blk5 (o := 1) (set_blk5 (o := 0) h.res (.int .u64 0)) (.int .u64 0)) (.int .i64 0)) (.int .i64 0), own_heap h.oa (fun z e => hz z (h.oa.lt z e).1), own_heap h.ob (fun z e => hz z (h.ob.lt z e).1), h.ne, (((h.low.setCell (Nat.le_refl _) _).setCell (Nat.le_refl _) _).setCell (Nat.le_refl _) _).setCell (Nat.le_refl _) _⟩
theorem EnW.grA {v' : Value} (h : EnW w t c d vA vB W) (ho : W'.ownsRow (w.heap.size + 1) 3 1 v' (c + 1) (rowN (ats t c) ++ [.int .i64 ((aNw t c : Nat) : Int)])) (hg : W.grownBy W' vA.ownBlock) (hv : ∀ z, v'.ownBlock = some z → vA.ownBlock = some z ∨ W.heap.size ≤ z) : EnW w t (c + 1) d v' vB W' := by
  have hne : ∀ z, z ≤ w.heap.size → ¬ some z = vA.ownBlock := fun z hz e => by have := (h.oa.lt z e.symm).1; omega
  refine ⟨(hg.block _ (blk_lt5 h.res) (hne _ (Nat.le_refl _))).trans h.res, by rw [ats_succ, rowN_app]; exact ho, own_heap h.ob (fun z e => hg.block z (h.ob.lt z e).2 (fun q => h.ne z q.symm e)), ?_, ?_⟩
  · intro z e1 e2
    rcases hv z e1 with q | q
    · exact h.ne z q e2
    · have := (h.ob.lt z e2).2; omega
  · exact ⟨by rw [hg.os, h.low.os], by rw [hg.tape, h.low.tape], by rw [hg.output, h.low.output], Nat.le_trans h.low.size hg.size, fun z hz => by rw [hg.block z (by have := h.low.size; omega) (hne z (by omega)), h.low.block z hz]⟩
theorem EnW.grB {v' : Value} (h : EnW w t c d vA vB W) (ho : W'.ownsRow (w.heap.size + 1) 3 1 v' (d + 1) (rowN (tos t d) ++ [.int .i64 ((bNw t (d + 1) : Nat) : Int)])) (hg : W.grownBy W' vB.ownBlock) (hv : ∀ z, v'.ownBlock = some z → vB.ownBlock = some z ∨ W.heap.size ≤ z) : EnW w t c (d + 1) vA v' W' := by
  have hne : ∀ z, z ≤ w.heap.size → ¬ some z = vB.ownBlock := fun z hz e => by have := (h.ob.lt z e.symm).1; omega
  refine ⟨(hg.block _ (blk_lt5 h.res) (hne _ (Nat.le_refl _))).trans h.res, own_heap h.oa (fun z e => hg.block z (h.oa.lt z e).2 (fun q => h.ne z e q.symm)), by rw [tos_succ, rowN_app]; exact ho, ?_, ?_⟩
  · intro z e1 e2
    rcases hv z e2 with q | q
    · exact h.ne z e1 q
    · have := (h.oa.lt z e1).2; omega
  · exact ⟨by rw [hg.os, h.low.os], by rw [hg.tape, h.low.tape], by rw [hg.output, h.low.output], Nat.le_trans h.low.size hg.size, fun z hz => by rw [hg.block z (by have := h.low.size; omega) (hne z (by omega)), h.low.block z hz]⟩
end
def enV (r : Rte × Bool × Int × Int) : Value := .tuple #[.agg #[.int .u64 (hI r.1.1.1), .int .u64 (lI r.1.1.1), .int .i64 r.1.1.2, .int .i64 r.1.2], .bool r.2.1, .int .i64 r.2.2.1, .int .i64 r.2.2.2]
theorem enV_z (b : Bool) (e p : Int) : enV (((0#128, 0), 0), b, e, p) = .tuple #[.agg #[.int .u64 0, .int .u64 0, .int .i64 0, .int .i64 0], .bool b, .int .i64 e, .int .i64 p] := by unfold enV; dsimp only; rw [hI_zero, lI_zero]
structure LnI (t : ByteArray) (E : Nat) : Prop where
  le : E ≤ t.size
  at2 : kdS t E = 2
  no2 : ∀ j, j < E → kdS t j ≠ 2
theorem kd_in {t : ByteArray} {k : Nat} (h : k < t.size) : kdS t k = if byteAt t k = 32 ∨ byteAt t k = 9 then 1 else if byteAt t k = 35 ∨ byteAt t k = 10 then 2 else 0 := by unfold kdS; rw [if_neg (by omega)]
theorem wd_end {t : ByteArray} {E : Nat} (h : LnI t E) : ∀ {i : Nat}, i ≤ E → wdS t i ≤ E := by
  intro i hi
  by_cases e : kdS t i = 0
  · have hne : i ≠ E := fun q => by rw [q, h.at2] at e; omega
    have := wd_end h (i := i + 1) (by omega)
    rw [wdS_go (by have := h.le; omega) e]
    exact this
  · rw [wdS_here e]; exact hi
termination_by i => E - i
set_option maxRecDepth 20000 in
set_option maxHeartbeats 64000000 in
theorem rentry_any (F : Int) (t : ByteArray) (w : World) (hs : t.size ≤ 1000000) (hnl : ∀ k, k < t.size → byteAt t k ≠ 10) :
    Calls Tryz.prog 26 #[.int .i64 F, .string t] w fun e w' => e = .returned (enV (enR F t)) ∧ Below w.heap.size w w' := by
  obtain ⟨i0, hi, hz0, hz1, hz2⟩ := info_parts Tryz.infoN9
  have q1 := bl1 w (.cells #[.int .u64 0, .int .u64 0, .int .i64 0, .int .i64 0] 47)
  have HV0 : Hid (EnV w t 0 (.slice none 0 0) (.slice none 0 0) (w.alloc (.cells #[.int .u64 0, .int .u64 0, .int .i64 0, .int .i64 0] 47))) := hidR ⟨Array.getElem?_push_size, ⟨rfl, .inl ⟨rfl, rfl⟩⟩, ⟨rfl, .inl ⟨rfl, rfl⟩⟩, (fun z e => by cases e), q1⟩
  have HNL := hidR hnl
  clear q1 hnl
  go_enter Tryz.func26, Tryz.ntmps26
  go_upto_block 0 with fail
  revert HV0
  generalize w.alloc (.cells #[.int .u64 0, .int .u64 0, .int .i64 0, .int .i64 0] 47) = W0
  intro HV0
  go_cut [8] (fun ev wx => ∃ E : Nat, ev = .int .i64 (E : Int) ∧ Hid (LnI t E) ∧ wx = W0)
  case first =>
    go_wp2_with fail
    go_loopw [8] (fun ev wx => ∃ k : Nat, ev = .int .i64 (k : Int) ∧ k ≤ t.size ∧ Hid (∀ j, j < k → kdS t j ≠ 2) ∧ wx = W0) (fun ev _ => t.size - (intOf ev).toNat)
    case atStart => exact ⟨0, rfl, by omega, hidR (fun j h => by omega), rfl⟩
    case round =>
      obtain ⟨k, rfl, hk, HN, rfl⟩ := hrel
      by_cases hlt : (k : Int) < (t.size : Int)
      · have hks : k < t.size := by omega
        have hbt := byteAt_in t k hks
        have HKd := hidR (kd_in hks)
        have Hn1 := hidR (HNL.out k hks)
        have wk : IntKind.i64.wrap ((k : Int) + 1) = ((k + 1 : Nat) : Int) := by rw [IntKind.wrap_i64]; push_cast; omega
        by_cases hb : byteAt t k = 35
        · have HE : Hid (LnI t k) := hidR ⟨by omega, by rw [HKd.out, hb]; decide, HN.out⟩
          clear HKd Hn1 HN
          generalize byteAt t k = b at *
          subst hb
          go_wp2_with fail
          go_meet
          case rel => exact ⟨k, rfl, HE, rfl⟩
        · have HN2 : Hid (∀ j, j < k + 1 → kdS t j ≠ 2) := hidR (fun j hj => by
            by_cases e : j = k
            · subst e
              rw [HKd.out]
              split
              · decide
              · have := Hn1.out
                rw [if_neg (by omega)]
                decide
            · exact HN.out j (by omega))
          have hbb : (byteAt t k == 35) = false := by simpa using hb
          clear HKd Hn1 HN
          generalize byteAt t k = b at *
          go_wp2_with fail
          go_roundw
          case rel => exact ⟨k + 1, rfl, by omega, HN2, by first | trivial | rfl⟩
          case measure => simp [intOf]; omega
      · have HE : Hid (LnI t k) := hidR ⟨by omega, by rw [show k = t.size by omega]; exact kdS_end t, HN.out⟩
        clear HN
        go_wp2_with fail
        go_meet
        case rel => exact ⟨k, rfl, HE, rfl⟩
  case rest =>
    obtain ⟨E, rfl, HE, rfl⟩ := hcut
    have hEs : E ≤ t.size := HE.out.le
    go_upto_block 2 with fail
    go_cut [9, 10, 11, 12] (fun va vb _ _ wx => ∃ (vA vB : Value) (c : Nat), va = vA ∧ vb = vB ∧ Hid (c ≤ 3 ∧ (∀ q, q < c → kdS t (aNw t q) = 0) ∧ (c ≤ 2 → aNw t c = E)) ∧ Hid (EnV w t c vA vB wx))
    case first =>
      go_wp2_with fail
      go_loopw [9, 10, 11, 12] (fun va vb iv _ wx => ∃ (vA vB : Value) (c i : Nat), va = vA ∧ vb = vB ∧ iv = .int .i64 (i : Int) ∧ Hid (c ≤ 2 ∧ i ≤ E ∧ bNw t c ≤ i ∧ skS t i = aNw t c ∧ ∀ q, q < c → kdS t (aNw t q) = 0) ∧ Hid (EnV w t c vA vB wx)) (fun _ _ iv _ _ => E - (intOf iv).toNat)
      case atStart => exact ⟨_, _, 0, 0, rfl, rfl, rfl, hidR ⟨by omega, by omega, Nat.le_refl _, rfl, fun q h => by omega⟩, HV0⟩
      case round =>
        clear HV0
        obtain ⟨vA, vB, c, i, rfl, rfl, rfl, HI, HV⟩ := hrel
        obtain ⟨ao, ca, rfl⟩ := own_form HV.out.oa
        obtain ⟨bo, cb, rfl⟩ := own_form HV.out.ob
        obtain ⟨hc2, hiE, hbi, hsk, hkd⟩ := HI.out
        by_cases hlt : (i : Int) < (E : Int)
        · have his : i < t.size := by omega
          have hbt := byteAt_in t i his
          have hki := kd_in his
          have hno := HE.out.no2 i (by omega)
          have wi : IntKind.i64.wrap ((i : Int) + 1) = ((i + 1 : Nat) : Int) := by rw [IntKind.wrap_i64]; push_cast; omega
          by_cases hb : byteAt t i = 32 ∨ byteAt t i = 9
          · have HI2 : Hid (c ≤ 2 ∧ i + 1 ≤ E ∧ bNw t c ≤ i + 1 ∧ skS t (i + 1) = aNw t c ∧ ∀ q, q < c → kdS t (aNw t q) = 0) := hidR ⟨hc2, by omega, by omega, by rw [← skS_go (by omega) (by rw [hki, if_pos hb])]; exact hsk, hkd⟩
            clear hki hno hsk hkd HI
            generalize byteAt t i = b at *
            rcases hb with rfl | rfl
            · go_wp2_with fail
              go_roundw
              case rel => exact ⟨_, _, c, i + 1, rfl, rfl, rfl, HI2, HV⟩
              case measure => simp [intOf]; omega
            · go_wp2_with fail
              go_roundw
              case rel => exact ⟨_, _, c, i + 1, rfl, rfl, rfl, HI2, HV⟩
              case measure => simp [intOf]; omega
          · have hk0 : kdS t i = 0 := by
              rcases kdS_ways t i with q | q | q
              · exact q
              · rw [hki, if_neg hb] at q; split at q <;> omega
              · exact absurd q hno
            have hai : aNw t c = i := by rw [← hsk]; exact skS_here (by omega)
            obtain ⟨B, hB⟩ : ∃ B, B = bNw t (c + 1) := ⟨_, rfl⟩
            have HW : Hid (wdS t i = B) := hidR (by rw [hB, ← hai]; rfl)
            have HB : Hid (B = bNw t (c + 1) ∧ i = aNw t c ∧ i < B ∧ B ≤ E) := hidR ⟨hB, hai.symm, by
              have h1 := wdS_go (s := t) (k := i) (by omega) hk0
              have h2 := wdS_bd t _ (i + 1) (Nat.le_refl _) (by omega)
              rw [HW.out] at h1
              omega, by
              have h3 := wd_end HE.out (show i ≤ E by omega)
              rw [HW.out] at h3
              exact h3⟩
            have hb1 : ¬ byteAt t i = 32 := fun e => hb (.inl e)
            have hb2 : ¬ byteAt t i = 9 := fun e => hb (.inr e)
            have hb3 : (byteAt t i == 32) = false := by simpa using hb1
            have hb4 : (byteAt t i == 9) = false := by simpa using hb2
            have HKc : Hid (∀ q, q < c + 1 → kdS t (aNw t q) = 0) := hidR (fun q hq => by
              by_cases e : q = c
              · rw [e, hai]; exact hk0
              · exact hkd q (by omega))
            clear hki hno hsk hkd HI hb hk0 hai hB
            generalize byteAt t i = b at *
            go_upto_block 4 with fail
            go_cut [12] (fun kv wx => kv = .int .i64 (B : Int) ∧ wx = wr)
            case first =>
              go_wp2_with fail
              go_loopw [12] (fun kv wx => ∃ k : Nat, kv = .int .i64 (k : Int) ∧ k ≤ E ∧ i ≤ k ∧ Hid (wdS t k = B) ∧ wx = wr) (fun kv _ => E - (intOf kv).toNat)
              case atStart => exact ⟨i, rfl, by omega, Nat.le_refl _, HW, rfl⟩
              case round =>
                clear HW
                obtain ⟨k, rfl, hkE, hik, HWk, rfl⟩ := hrel
                by_cases hlt2 : (k : Int) < (E : Int)
                · have hks : k < t.size := by omega
                  have hbt2 := byteAt_in t k hks
                  have hki := kd_in hks
                  have hno := HE.out.no2 k (by omega)
                  have wk : IntKind.i64.wrap ((k : Int) + 1) = ((k + 1 : Nat) : Int) := by rw [IntKind.wrap_i64]; push_cast; omega
                  by_cases e1 : byteAt t k = 32
                  · have HkB : Hid (k = B) := hidR (by rw [← HWk.out]; exact (wdS_here (by rw [hki, if_pos (.inl e1)]; decide)).symm)
                    clear hki hno HWk
                    generalize byteAt t k = b2 at *
                    subst e1
                    go_wp2_with fail
                    go_meet
                    case rel => exact ⟨by rw [HkB.out], rfl⟩
                  · have e1b : (byteAt t k == 32) = false := by simpa using e1
                    have e1m : (byteAt t k != 32) = true := by simpa using e1
                    by_cases e2 : byteAt t k = 9
                    · have HkB : Hid (k = B) := hidR (by rw [← HWk.out]; exact (wdS_here (by rw [hki, if_pos (.inr e2)]; decide)).symm)
                      clear hki hno HWk
                      generalize byteAt t k = b2 at *
                      subst e2
                      go_wp2_with fail
                      go_meet
                      case rel => exact ⟨by rw [HkB.out], rfl⟩
                    · have e2b : (byteAt t k == 9) = false := by simpa using e2
                      have e1n : (byteAt t k != 32) = true := by simpa using e1
                      have e2n : (byteAt t k != 9) = true := by simpa using e2
                      have HW2 : Hid (wdS t (k + 1) = B) := hidR (by
                        rw [← HWk.out]
                        refine (wdS_go (by omega) ?_).symm
                        rw [hki, if_neg (by omega)] at hno ⊢
                        split at hno
                        · exact absurd rfl hno
                        · rw [if_neg (by assumption)])
                      clear hki hno HWk
                      generalize byteAt t k = b2 at *
                      go_wp2_with fail
                      go_roundw
                      case rel => exact ⟨k + 1, rfl, by omega, by omega, HW2, by first | trivial | rfl⟩
                      case measure => simp [intOf]; omega
                · have HkB : Hid (k = B) := hidR (by rw [← HWk.out]; exact (wdS_here (by rw [show k = E by omega, HE.out.at2]; decide)).symm)
                  clear HWk
                  go_wp2_with fail
                  go_meet
                  case rel => exact ⟨by rw [HkB.out], rfl⟩
            case rest =>
              obtain ⟨rfl, rfl⟩ := hcut
              clear HW
              have h47 : (c + 1) * 8 ≤ 140737488355328 := by omega
              have h63 : c + 1 ≤ maxLen := by unfold maxLen; omega
              go_wp2_with (at_builtin; apply stopHereW)
              refine (show wpList _ _ _ _ _ _ from ?_)
              refine wpList_append_lies _ rfl _ _ 89 rfl (w.heap.size + 1) 3 i0 (.int .i64 0) 1 8 Tryz.underlying89 hi hz0 hz1 hz2 rfl (by decide) _ _ _ rfl (HV.out.oa.alloc _) ⟨wc.heap.size, 0, none⟩ 1 1 [.int .i64 (i : Int)] rfl rfl (newsN9 _ _ _) (oneN9 _) (by decide) h63 h47 (by have := blk_lt5 HV.out.res; simp; omega) _ rfl ?_
              intro g4 cap4 w7 ho7 hgrow hat hlt4
              have HV7 : Hid (EnW w t (c + 1) c (.slice (some ⟨g4, 0, none⟩) (c + 1) cap4) (.slice bo c cb) w7) := hidR ((HV.out.below (bl1 wc (.cells #[.int .i64 (i : Int)] 3))).grA (by rw [← HB.out.2.1]; exact ho7) hgrow (fun z e => by
                have e : g4 = z := by simpa [Value.ownBlock] using e
                rw [← e]
                rcases hat with q | q
                · exact .inl q
                · exact .inr (Nat.le_of_eq q.symm)))
              clear ho7 hgrow hat hlt4 HV
              go_wp2_with (at_builtin; apply stopHereW)
              refine (show wpList _ _ _ _ _ _ from ?_)
              refine wpList_append_lies _ rfl _ _ 89 rfl (w.heap.size + 1) 3 i0 (.int .i64 0) 1 8 Tryz.underlying89 hi hz0 hz1 hz2 rfl (by decide) _ _ _ rfl (HV7.out.ob.alloc _) ⟨w7.heap.size, 0, none⟩ 1 1 [.int .i64 (B : Int)] rfl rfl (newsN9 _ _ _) (oneN9 _) (by decide) h63 h47 (by have := blk_lt5 HV7.out.res; simp; omega) _ rfl ?_
              intro g5 cap5 w8 ho8 hgrow hat hlt5
              have HV8 : Hid (EnV w t (c + 1) (.slice (some ⟨g4, 0, none⟩) (c + 1) cap4) (.slice (some ⟨g5, 0, none⟩) (c + 1) cap5) w8) := hidR ((HV7.out.below (bl1 w7 (.cells #[.int .i64 (B : Int)] 3))).grB (by rw [← HB.out.1]; exact ho8) hgrow (fun z e => by
                have e : g5 = z := by simpa [Value.ownBlock] using e
                rw [← e]
                rcases hat with q | q
                · exact .inl q
                · exact .inr (Nat.le_of_eq q.symm)))
              clear ho8 hgrow hat hlt5 HV7
              by_cases hcc : c = 2
              · subst hcc
                have HQ : Hid (3 ≤ 3 ∧ (∀ q, q < 3 → kdS t (aNw t q) = 0) ∧ (3 ≤ 2 → aNw t 3 = E)) := hidR ⟨by omega, HKc.out, fun h => by omega⟩
                go_wp2_with fail
                go_meet
                case rel => exact ⟨_, _, 3, rfl, rfl, HQ, HV8⟩
              · have hcb : ¬ (c : Int) + 1 = 3 := by omega
                have hcd : ((c : Int) + 1 == 3) = false := by simpa using hcb
                have hBE := HB.out
                have HI2 : Hid (c + 1 ≤ 2 ∧ B ≤ E ∧ bNw t (c + 1) ≤ B ∧ skS t B = aNw t (c + 1) ∧ ∀ q, q < c + 1 → kdS t (aNw t q) = 0) := hidR ⟨by omega, hBE.2.2.2, by omega, by rw [hBE.1]; rfl, HKc.out⟩
                have HBi := hidR hBE.2.2.1
                clear hBE
                go_wp2_with fail
                go_roundw
                case rel => exact ⟨_, _, c + 1, B, rfl, rfl, rfl, HI2, HV8⟩
                case measure => have := HBi.out; simp [intOf]; omega
        · have HQ : Hid (c ≤ 3 ∧ (∀ q, q < c → kdS t (aNw t q) = 0) ∧ (c ≤ 2 → aNw t c = E)) := hidR ⟨by omega, hkd, fun _ => by rw [← hsk, show i = E by omega]; exact skS_here (by rw [HE.out.at2]; decide)⟩
          clear hsk hkd HI
          go_wp2_with fail
          go_meet
          case rel => exact ⟨_, _, c, rfl, rfl, HQ, HV⟩
    case rest =>
      clear HV0
      obtain ⟨vA, vB, c, rfl, rfl, HQ, HV⟩ := hcut
      obtain ⟨hc3, hkd, hcE⟩ := HQ.out
      have hV := HV.out
      obtain ⟨ao, ca, rfl⟩ := own_form hV.oa
      obtain ⟨bo, cb, rfl⟩ := own_form hV.ob
      clear HQ
      by_cases hc0 : c = 0
      · subst hc0
        have HEN : Hid (Ending.returned (.tuple #[.agg #[.int .u64 0, .int .u64 0, .int .i64 0, .int .i64 0], .bool false, .int .i64 0, .int .i64 0]) = .returned (enV (enR F t))) := hidR (by rw [enR_none (by rw [hcE (by omega), HE.out.at2]; decide), enV_z])
        have z0 := at_blk hV.res 0 (.int .u64 0) rfl
        have z1 := at_blk hV.res 1 (.int .u64 0) rfl
        have z2 := at_blk hV.res 2 (.int .i64 0) rfl
        have z3 := at_blk hV.res 3 (.int .i64 0) rfl
        have f0 := fr_blk5 (j := 0) hV.res
        have f1 := fr_blk5 (j := 1) hV.res
        have f2 := fr_blk5 (j := 2) hV.res
        have f3 := fr_blk5 (j := 3) hV.res
        have HL := hidR hV.zero.low
        clear hV HV hkd hcE
        go_wp2
        exact bodyPost_ret (v := .tuple #[.agg #[.int .u64 0, .int .u64 0, .int .i64 0, .int .i64 0], .bool false, .int .i64 0, .int .i64 0]) (by simp [results, Tryz.results26, go_sem, z0, z1, z2, z3]) rfl ⟨HEN.out, HL.out⟩
      · rcases hV.oa.2 with ⟨e, h⟩ | ⟨ga, cap, cur, e, -⟩
        · exact absurd h hc0
        rcases hV.ob.2 with ⟨e', h⟩ | ⟨gb, cap', cur', e', -⟩
        · exact absurd h hc0
        injection e with e1 _ e2
        injection e' with e3 _ e4
        subst e1
        subst e3
        clear e2 e4 hV
        obtain ⟨A0, hA0⟩ : ∃ A0, A0 = aNw t 0 := ⟨_, rfl⟩
        obtain ⟨B1, hB1⟩ : ∃ B1, B1 = bNw t 1 := ⟨_, rfl⟩
        have HA0 : Hid ((ats t c)[0]? = some A0) := hidR (by rw [hA0]; exact ats_get t c 0 (by omega))
        have HB1 : Hid ((tos t c)[0]? = some B1) := hidR (by rw [hB1]; exact tos_get t c 0 (by omega))
        have hb1 : A0 ≤ B1 ∧ B1 ≤ t.size := by rw [hA0, hB1]; exact ⟨(aNw_bd t 0).2.1, bNw_le t 1⟩
        have KP := fun w => rpparse_any F (t.extract A0 B1) w (by rw [ByteArray.size_extract]; unfold maxLen; omega)
        have HKd := hidR hkd
        have HcE := hidR hcE
        have HPx : Hid (ppE F (t.extract A0 B1) ≠ 0 → enR F t = (((0#128, 0), 0), true, ppE F (t.extract A0 B1), (A0 : Int) + 1)) := hidR (fun h => by rw [hA0, hB1] at h ⊢; exact enR_pfx (hkd 0 (by omega)) h)
        have H1x : Hid (ppE F (t.extract A0 B1) = 0 → c = 1 → enR F t = (((0#128, 0), 0), true, 12, (E : Int) + 1)) := hidR (fun h e => by
          have q := hcE (by omega)
          rw [e] at q
          rw [hA0, hB1] at h
          rw [enR_one (hkd 0 (by omega)) h (by rw [q, HE.out.at2]; decide), q])
        have H2x : Hid (ppE F (t.extract A0 B1) = 0 → 2 ≤ c → hpV (t.extract (aNw t 1) (bNw t 2)) < 0 → enR F t = (((0#128, 0), 0), true, 15, (aNw t 1 : Int) + 1)) := hidR (fun h e hh => by
          rw [hA0, hB1] at h
          exact enR_hop (hkd 0 (by omega)) h (hkd 1 (by omega)) (hp_lt hh))
        have H3x : Hid (ppE F (t.extract A0 B1) = 0 → c = 3 → ¬ hpV (t.extract (aNw t 1) (bNw t 2)) < 0 → enR F t = (((0#128, 0), 0), true, 12, (aNw t 2 : Int) + 1)) := hidR (fun h e hh => by
          rw [hA0, hB1] at h
          exact enR_three (hkd 0 (by omega)) h (hkd 1 (by omega)) (hp_ge hh) (hkd 2 (by omega)))
        have H4x : Hid (ppE F (t.extract A0 B1) = 0 → c = 2 → ¬ hpV (t.extract (aNw t 1) (bNw t 2)) < 0 → enR F t = (((ppV F (t.extract A0 B1), ppN F (t.extract A0 B1)), hpV (t.extract (aNw t 1) (bNw t 2))), true, 0, 0)) := hidR (fun h e hh => by
          have q := hcE (by omega)
          rw [e] at q
          rw [hA0, hB1] at h ⊢
          exact enR_ok (hkd 0 (by omega)) h (hkd 1 (by omega)) (hp_ge hh) (by rw [q, HE.out.at2]; decide))
        have hw1 : (0 : Int) < (c : Int) := by omega
        have hw2 : ¬ (c : Int) = 0 := by omega
        have hw3 : ((c : Int) == 0) = false := by simpa using hc0
        have hA1 : IntKind.i64.wrap ((A0 : Int) + 1) = (A0 : Int) + 1 := by rw [IntKind.wrap_i64]; omega
        have hw4 : (A0 : Int) ≤ (B1 : Int) := by omega
        have hw5 : (B1 : Int) ≤ (t.size : Int) := by omega
        have hwE : IntKind.i64.wrap ((E : Int) + 1) = (E : Int) + 1 := by rw [IntKind.wrap_i64]; omega
        clear hkd hcE hA0 hB1
        revert KP HPx H1x H2x H3x H4x
        generalize ppE F (t.extract A0 B1) = pe
        generalize ppV F (t.extract A0 B1) = px
        generalize ppN F (t.extract A0 B1) = pn
        generalize hww : t.extract A0 B1 = ww
        intro KP HPx H1x H2x H3x H4x
        go_wp2_with fail
        refine two_region 15 13 14 (alOk (qpOk 15 13 (by decide) (fun N => by kernel_rfl) (by kernel_rfl) (by kernel_rfl) (by kernel_rfl) (by kernel_rfl)) (by decide) rfl rfl (by kernel_rfl)) (alOk (qpOk 15 14 (by decide) (fun N => by kernel_rfl) (by kernel_rfl) (by kernel_rfl) (by kernel_rfl) (by kernel_rfl)) (by decide) rfl rfl (by kernel_rfl)) (by decide) (by kernel_rfl) rfl (D := EnV w t c (.slice (some ⟨ga, 0, none⟩) c ca) (.slice (some ⟨gb, 0, none⟩) c cb)) (C1 := fun N W => EnV w t c (.slice (some ⟨ga, 0, none⟩) c ca) (.slice (some ⟨gb, 0, none⟩) c cb) W ∧ W.heap[N]? = some (.cells #[.int .u64 0, .int .u64 0, .int .i64 0] 37) ∧ (w.heap.size < N ∧ N ≠ ga ∧ N ≠ gb)) (C2 := fun N W => EnV w t c (.slice (some ⟨ga, 0, none⟩) c ca) (.slice (some ⟨gb, 0, none⟩) c cb) W ∧ W.heap[N]? = some (.cells #[.int .u64 (hI px), .int .u64 (lI px), .int .i64 pn] 37) ∧ (w.heap.size < N ∧ N ≠ ga ∧ N ≠ gb)) (obj := .cells #[.int .u64 0, .int .u64 0, .int .i64 0] 37) [some 78, some 79, some 80, some 81, some 82, some 83, some 84, some 85, some 86, some 87, some 77, some 88, some 89, some 13, none] (fun N => [.int .i64 F, .string t, .slice (some ⟨ga, 0, none⟩) c ca, .pointer (some ⟨ga, 0, none⟩), .int .i64 (A0 : Int), .slice (some ⟨gb, 0, none⟩) c cb, .pointer (some ⟨gb, 0, none⟩), .int .i64 (B1 : Int), .string ww, .tuple #[.agg #[.int .u64 (hI px), .int .u64 (lI px), .int .i64 pn], .int .i64 pe], .tuple #[.agg #[.int .u64 (hI px), .int .u64 (lI px), .int .i64 pn], .int .i64 pe], .agg #[.int .u64 (hI px), .int .u64 (lI px), .int .i64 pn], .int .i64 pe, .pointer (some ⟨N, 0, none⟩), undef]) 13 [13, 88] (by kernel_rfl) (fun N => by kernel_rfl) rfl ?hA18 ?hAd18 (by kernel_rfl) ?hal18 ?hC18 ?hst18 (HV.out.below (below_drewN (Below.refl _ _) 1)) ?walk18 ?fin18
        case hA18 => intro N; simp only [putAll, Act.put, List.setIfInBounds_toArray, List.set_cons_zero, List.set_cons_succ]; rfl
        case hAd18 => intro N; simp only [putAll, Act.put, List.setIfInBounds_toArray, List.set_cons_zero, List.set_cons_succ]; rfl
        case hal18 => intro W a _; go_simp
        case hC18 => intro W h; exact ⟨h.below (bl1 W _), Array.getElem?_push_size, blk_lt5 h.res, fun e => by have := (h.oa.lt ga rfl).2; omega, fun e => by have := (h.ob.lt gb rfl).2; omega⟩
        case hst18 =>
          intro N W a' hC hr K Q' hK
          have e13 : a'.tmps[13]? = some (.pointer (some ⟨N, 0, none⟩)) := (hr 13 (by simp)).trans (by simp only [putAll, Act.put, List.setIfInBounds_toArray, List.set_cons_zero, List.set_cons_succ]; rfl)
          have e88 : a'.tmps[88]? = some (.agg #[.int .u64 (hI px), .int .u64 (lI px), .int .i64 pn]) := (hr 88 (by simp)).trans (by simp only [putAll, Act.put, List.setIfInBounds_toArray, List.set_cons_zero, List.set_cons_succ]; rfl)
          obtain ⟨hE, hZ, hN⟩ := hC
          have z0 := at_blk hZ 0 (.int .u64 0) rfl
          have z1 := at_blk hZ 1 (.int .u64 0) rfl
          have z2 := at_blk hZ 2 (.int .i64 0) rfl
          have f0 := fr_blk5 (j := 0) hZ
          have f1 := fr_blk5 (j := 1) hZ
          have f2 := fr_blk5 (j := 2) hZ
          have hK' := hK _ ⟨hE.far3 hN.1 (fun e => hN.2.1 (Option.some.inj e).symm) (fun e => hN.2.2 (Option.some.inj e).symm) (.int .u64 (hI px)) (.int .u64 (lI px)) (.int .i64 pn), set3_P hZ _ _ _, hN⟩
          unfold Oper.wp
          simp [execOp, e13, e88, go_sem, z0, z1, z2, f0, f1, f2, Oper.upon]
          exact hK'
        case walk18 =>
          intro N X hX
          have hXD : ∀ W, X W → W.cell? ⟨ga, 0, none⟩ = some (.int .i64 (A0 : Int)) ∧ W.cell? ⟨gb, 0, none⟩ = some (.int .i64 (B1 : Int)) ∧ True := by
            rcases hX with rfl | rfl | rfl
            · exact fun W h => ⟨h.ca 0 HA0.out, h.cb 0 HB1.out, trivial⟩
            · exact fun W h => ⟨h.1.ca 0 HA0.out, h.1.cb 0 HB1.out, trivial⟩
            · exact fun W h => ⟨h.1.ca 0 HA0.out, h.1.cb 0 HB1.out, trivial⟩
          have hXb : ∀ W W', X W → Below W.heap.size W W' → X W' := by
            rcases hX with rfl | rfl | rfl
            · exact fun W W' h hb => h.below hb
            · exact fun W W' h hb => ⟨h.1.below hb, (hb.block _ (blk_lt5 h.2.1)).trans h.2.1, h.2.2⟩
            · exact fun W W' h hb => ⟨h.1.below hb, (hb.block _ (blk_lt5 h.2.1)).trans h.2.1, h.2.2⟩
          clear hX HV
          dsimp only [rep, List.take, List.modify, List.modifyTailIdx, List.modifyTailIdx.go, List.modifyHead]
          refine q_run (v := .int .i64 F) (by rfl) ?_ ?_
          · (intro w1 hC; obtain ⟨x0, y0, -⟩ := hXD w1 hC; go_simp; first | done | (simp; done) | (simp [*]; done) | omega | (simp; omega) | (rw [IntKind.wrap_i64]; omega) | (intro hx; omega) | rfl)
          simp only [Act.put, List.setIfInBounds_toArray, List.set_cons_zero, List.set_cons_succ]
          refine q_run (v := .string t) (by rfl) ?_ ?_
          · (intro w1 hC; obtain ⟨x0, y0, -⟩ := hXD w1 hC; go_simp; first | done | (simp; done) | (simp [*]; done) | omega | (simp; omega) | (rw [IntKind.wrap_i64]; omega) | (intro hx; omega) | rfl)
          simp only [Act.put, List.setIfInBounds_toArray, List.set_cons_zero, List.set_cons_succ]
          refine q_run (v := .slice (some ⟨ga, 0, none⟩) c ca) (by rfl) ?_ ?_
          · (intro w1 hC; obtain ⟨x0, y0, -⟩ := hXD w1 hC; go_simp; first | done | (simp; done) | (simp [*]; done) | omega | (simp; omega) | (rw [IntKind.wrap_i64]; omega) | (intro hx; omega) | rfl)
          simp only [Act.put, List.setIfInBounds_toArray, List.set_cons_zero, List.set_cons_succ]
          refine q_run (v := .pointer (some ⟨ga, 0, none⟩)) (by rfl) ?_ ?_
          · (intro w1 hC; obtain ⟨x0, y0, -⟩ := hXD w1 hC; go_simp; first | done | (simp; done) | (simp [*]; done) | omega | (simp; omega) | (rw [IntKind.wrap_i64]; omega) | (intro hx; omega) | rfl)
          simp only [Act.put, List.setIfInBounds_toArray, List.set_cons_zero, List.set_cons_succ]
          refine q_run (v := .int .i64 (A0 : Int)) (by rfl) ?_ ?_
          · (intro w1 hC; obtain ⟨x0, y0, -⟩ := hXD w1 hC; go_simp; first | done | (simp; done) | (simp [*]; done) | omega | (simp; omega) | (rw [IntKind.wrap_i64]; omega) | (intro hx; omega) | rfl)
          simp only [Act.put, List.setIfInBounds_toArray, List.set_cons_zero, List.set_cons_succ]
          refine q_run (v := .slice (some ⟨gb, 0, none⟩) c cb) (by rfl) ?_ ?_
          · (intro w1 hC; obtain ⟨x0, y0, -⟩ := hXD w1 hC; go_simp; first | done | (simp; done) | (simp [*]; done) | omega | (simp; omega) | (rw [IntKind.wrap_i64]; omega) | (intro hx; omega) | rfl)
          simp only [Act.put, List.setIfInBounds_toArray, List.set_cons_zero, List.set_cons_succ]
          refine q_run (v := .pointer (some ⟨gb, 0, none⟩)) (by rfl) ?_ ?_
          · (intro w1 hC; obtain ⟨x0, y0, -⟩ := hXD w1 hC; go_simp; first | done | (simp; done) | (simp [*]; done) | omega | (simp; omega) | (rw [IntKind.wrap_i64]; omega) | (intro hx; omega) | rfl)
          simp only [Act.put, List.setIfInBounds_toArray, List.set_cons_zero, List.set_cons_succ]
          refine q_run (v := .int .i64 (B1 : Int)) (by rfl) ?_ ?_
          · (intro w1 hC; obtain ⟨x0, y0, -⟩ := hXD w1 hC; go_simp; first | done | (simp; done) | (simp [*]; done) | omega | (simp; omega) | (rw [IntKind.wrap_i64]; omega) | (intro hx; omega) | rfl)
          simp only [Act.put, List.setIfInBounds_toArray, List.set_cons_zero, List.set_cons_succ]
          refine q_run (v := .string ww) (by rfl) ?_ ?_
          · (intro w1 hC; obtain ⟨x0, y0, -⟩ := hXD w1 hC; go_simp; first | done | (simp; done) | (simp [*]; done) | omega | (simp; omega) | (rw [IntKind.wrap_i64]; omega) | (intro hx; omega) | rfl)
          simp only [Act.put, List.setIfInBounds_toArray, List.set_cons_zero, List.set_cons_succ]
          refine q_call (v := .tuple #[.agg #[.int .u64 (hI px), .int .u64 (lI px), .int .i64 pn], .int .i64 pe]) (f := 51) (args := #[.int .i64 F, .string ww]) (by rfl) ?_ ?_ ?_
          · (intro w1 hC; clear hC; go_simp)
          · exact fun w1 hC => (KP w1).mono fun e w' ⟨he, hb⟩ => ⟨he, hXb w1 _ hC hb⟩
          simp only [Act.put, List.setIfInBounds_toArray, List.set_cons_zero, List.set_cons_succ]
          refine q_run (v := .tuple #[.agg #[.int .u64 (hI px), .int .u64 (lI px), .int .i64 pn], .int .i64 pe]) (by rfl) ?_ ?_
          · (intro w1 hC; obtain ⟨x0, y0, -⟩ := hXD w1 hC; go_simp; first | done | (simp; done) | (simp [*]; done) | omega | (simp; omega) | (rw [IntKind.wrap_i64]; omega) | (intro hx; omega) | rfl)
          simp only [Act.put, List.setIfInBounds_toArray, List.set_cons_zero, List.set_cons_succ]
          refine q_run (v := .agg #[.int .u64 (hI px), .int .u64 (lI px), .int .i64 pn]) (by rfl) ?_ ?_
          · (intro w1 hC; obtain ⟨x0, y0, -⟩ := hXD w1 hC; go_simp; first | done | (simp; done) | (simp [*]; done) | omega | (simp; omega) | (rw [IntKind.wrap_i64]; omega) | (intro hx; omega) | rfl)
          simp only [Act.put, List.setIfInBounds_toArray, List.set_cons_zero, List.set_cons_succ]
          refine q_run (v := .int .i64 pe) (by rfl) ?_ ?_
          · (intro w1 hC; obtain ⟨x0, y0, -⟩ := hXD w1 hC; go_simp; first | done | (simp; done) | (simp [*]; done) | omega | (simp; omega) | (rw [IntKind.wrap_i64]; omega) | (intro hx; omega) | rfl)
          simp only [Act.put, List.setIfInBounds_toArray, List.set_cons_zero, List.set_cons_succ]
          refine q_run (v := .pointer (some ⟨N, 0, none⟩)) (by rfl) ?_ ?_
          · (intro w1 hC; go_simp)
          simp only [putAll, Act.put, List.setIfInBounds_toArray, List.set_cons_zero, List.set_cons_succ]
          refine q_run (v := undef) (by rfl) ?_ ?_
          · (intro w1 hC; go_simp)
          refine wpQuiet_nil ?_
          simp only [putAll, Act.put, List.setIfInBounds_toArray, List.set_cons_zero, List.set_cons_succ]
        case fin18 =>
          intro N W hC
          have HC18 := hidR hC
          clear hC HV KP
          simp only [putAll, Act.put, List.setIfInBounds_toArray, List.set_cons_zero, List.set_cons_succ]
          dsimp only [List.drop]
          have HV := hidR HC18.out.1
          have HPN := hidR HC18.out.2.1
          have HNx := hidR HC18.out.2.2
          clear HC18
          by_cases hpe : pe = 0
          · subst hpe
            by_cases hc1 : c = 1
            · subst hc1
              have HEN : Hid (Ending.returned (.tuple #[.agg #[.int .u64 0, .int .u64 0, .int .i64 0, .int .i64 0], .bool true, .int .i64 12, .int .i64 ((E : Int) + 1)]) = .returned (enV (enR F t))) := hidR (by rw [H1x.out (by simp) (by simp), enV_z])
              have z0 := at_blk HV.out.res 0 (.int .u64 0) rfl
              have z1 := at_blk HV.out.res 1 (.int .u64 0) rfl
              have z2 := at_blk HV.out.res 2 (.int .i64 0) rfl
              have z3 := at_blk HV.out.res 3 (.int .i64 0) rfl
              have f0 := fr_blk5 (j := 0) HV.out.res
              have f1 := fr_blk5 (j := 1) HV.out.res
              have f2 := fr_blk5 (j := 2) HV.out.res
              have f3 := fr_blk5 (j := 3) HV.out.res
              have HL := hidR HV.out.zero.low
              clear HV HPN HNx HPx H1x H2x H3x H4x HKd HcE
              go_wp2
              exact bodyPost_ret (v := .tuple #[.agg #[.int .u64 0, .int .u64 0, .int .i64 0, .int .i64 0], .bool true, .int .i64 12, .int .i64 ((E : Int) + 1)]) (by simp [results, Tryz.results26, go_sem, z0, z1, z2, z3]) rfl ⟨HEN.out, HL.out⟩
            · have hc1b : ((c : Int) == 1) = false := by simp; omega
              have hc1c : ¬ (c : Int) = 1 := by omega
              obtain ⟨A1, hA1e⟩ : ∃ A1, A1 = aNw t 1 := ⟨_, rfl⟩
              obtain ⟨B2, hB2e⟩ : ∃ B2, B2 = bNw t 2 := ⟨_, rfl⟩
              have HA1 : Hid ((ats t c)[1]? = some A1) := hidR (by rw [hA1e]; exact ats_get t c 1 (by omega))
              have HB2 : Hid ((tos t c)[1]? = some B2) := hidR (by rw [hB2e]; exact tos_get t c 1 (by omega))
              have hb2 : A1 < B2 ∧ B2 ≤ t.size := by
                rw [hA1e, hB2e]
                refine ⟨?_, bNw_le t 2⟩
                have h0 := HKd.out 1 (by omega)
                have h4 := (aNw_bd t 1).2.2
                have h5 := kdS_in (s := t) (k := aNw t 1) (by omega) h4
                have h1 := wdS_go (s := t) (k := aNw t 1) (by omega) h0
                have h2 := wdS_bd t _ (aNw t 1 + 1) (Nat.le_refl _) (by omega)
                have h3 : wdS t (aNw t 1) = bNw t 2 := rfl
                omega
              have KH : ∀ w, Calls Tryz.prog 52 #[.string (t.extract A1 B2)] w fun e w' => e = .returned (.int .i64 (hpV (t.extract A1 B2))) ∧ Below w.heap.size w w' := fun w => (rhop_any (t.extract A1 B2) w (by rw [ByteArray.size_extract]; omega) (by rw [ByteArray.size_extract]; omega)).mono (fun e w' h => ⟨h.1, by rw [h.2]; exact Below.refl _ _⟩)
              have hv4 : (A1 : Int) ≤ (B2 : Int) := by omega
              have hv5 : (B2 : Int) ≤ (t.size : Int) := by omega
              have hv6 : (1 : Int) < (c : Int) := by omega
              have hv7 : 1 < c := by omega
              have hA2 : IntKind.i64.wrap ((A1 : Int) + 1) = (A1 : Int) + 1 := by rw [IntKind.wrap_i64]; omega
              rw [← hA1e, ← hB2e] at H2x H3x H4x
              clear HPx H1x hA1e hB2e
              obtain ⟨hv, hhv⟩ : ∃ hv, hv = hpV (t.extract A1 B2) := ⟨_, rfl⟩
              rw [← hhv] at H2x H3x H4x
              simp only [← hhv] at KH
              clear hhv
              generalize hw2e : t.extract A1 B2 = w2 at KH
              go_wp2_with fail
              refine qw_region (C := fun W => EnV w t c (.slice (some ⟨ga, 0, none⟩) c ca) (.slice (some ⟨gb, 0, none⟩) c cb) W ∧ W.heap[N]? = some (.cells #[.int .u64 (hI px), .int .u64 (lI px), .int .i64 pn] 37)) (by kernel_rfl) (by kernel_rfl) ⟨HV.out.below (below_drewN (Below.refl _ _) 1), HPN.out⟩ ?_
              clear HV HPN
              have hXD : ∀ W, (EnV w t c (.slice (some ⟨ga, 0, none⟩) c ca) (.slice (some ⟨gb, 0, none⟩) c cb) W ∧ W.heap[N]? = some (.cells #[.int .u64 (hI px), .int .u64 (lI px), .int .i64 pn] 37)) → W.cell? ⟨ga, 1, none⟩ = some (.int .i64 (A1 : Int)) ∧ W.cell? ⟨gb, 1, none⟩ = some (.int .i64 (B2 : Int)) ∧ True := fun W h => ⟨h.1.ca 1 HA1.out, h.1.cb 1 HB2.out, trivial⟩
              refine qw_run (v := .string t) (by rfl) ?_ ?_
              · (intro w1 hC; obtain ⟨x1, y1, -⟩ := hXD w1 hC; go_simp; first | done | (simp; done) | (simp [*]; done) | omega | (simp; omega) | (rw [IntKind.wrap_i64]; omega) | (intro hx; omega) | rfl)
              simp only [Act.put, List.setIfInBounds_toArray, List.set_cons_zero, List.set_cons_succ]
              refine qw_run (v := .slice (some ⟨ga, 0, none⟩) c ca) (by rfl) ?_ ?_
              · (intro w1 hC; obtain ⟨x1, y1, -⟩ := hXD w1 hC; go_simp; first | done | (simp; done) | (simp [*]; done) | omega | (simp; omega) | (rw [IntKind.wrap_i64]; omega) | (intro hx; omega) | rfl)
              simp only [Act.put, List.setIfInBounds_toArray, List.set_cons_zero, List.set_cons_succ]
              refine qw_run (v := .pointer (some ⟨ga, 1, none⟩)) (by rfl) ?_ ?_
              · (intro w1 hC; obtain ⟨x1, y1, -⟩ := hXD w1 hC; go_simp; first | done | (simp; done) | (simp [*]; done) | omega | (simp; omega) | (rw [IntKind.wrap_i64]; omega) | (intro hx; omega) | rfl)
              simp only [Act.put, List.setIfInBounds_toArray, List.set_cons_zero, List.set_cons_succ]
              refine qw_run (v := .int .i64 (A1 : Int)) (by rfl) ?_ ?_
              · (intro w1 hC; obtain ⟨x1, y1, -⟩ := hXD w1 hC; go_simp; first | done | (simp; done) | (simp [*]; done) | omega | (simp; omega) | (rw [IntKind.wrap_i64]; omega) | (intro hx; omega) | rfl)
              simp only [Act.put, List.setIfInBounds_toArray, List.set_cons_zero, List.set_cons_succ]
              refine qw_run (v := .slice (some ⟨gb, 0, none⟩) c cb) (by rfl) ?_ ?_
              · (intro w1 hC; obtain ⟨x1, y1, -⟩ := hXD w1 hC; go_simp; first | done | (simp; done) | (simp [*]; done) | omega | (simp; omega) | (rw [IntKind.wrap_i64]; omega) | (intro hx; omega) | rfl)
              simp only [Act.put, List.setIfInBounds_toArray, List.set_cons_zero, List.set_cons_succ]
              refine qw_run (v := .pointer (some ⟨gb, 1, none⟩)) (by rfl) ?_ ?_
              · (intro w1 hC; obtain ⟨x1, y1, -⟩ := hXD w1 hC; go_simp; first | done | (simp; done) | (simp [*]; done) | omega | (simp; omega) | (rw [IntKind.wrap_i64]; omega) | (intro hx; omega) | rfl)
              simp only [Act.put, List.setIfInBounds_toArray, List.set_cons_zero, List.set_cons_succ]
              refine qw_run (v := .int .i64 (B2 : Int)) (by rfl) ?_ ?_
              · (intro w1 hC; obtain ⟨x1, y1, -⟩ := hXD w1 hC; go_simp; first | done | (simp; done) | (simp [*]; done) | omega | (simp; omega) | (rw [IntKind.wrap_i64]; omega) | (intro hx; omega) | rfl)
              simp only [Act.put, List.setIfInBounds_toArray, List.set_cons_zero, List.set_cons_succ]
              refine qw_run (v := .string w2) (by rfl) ?_ ?_
              · (intro w1 hC; obtain ⟨x1, y1, -⟩ := hXD w1 hC; go_simp; first | done | (simp; done) | (simp [*]; done) | omega | (simp; omega) | (rw [IntKind.wrap_i64]; omega) | (intro hx; omega) | rfl)
              simp only [Act.put, List.setIfInBounds_toArray, List.set_cons_zero, List.set_cons_succ]
              refine qw_call (v := .int .i64 hv) (f := 52) (args := #[.string w2]) (by rfl) ?_ ?_ ?_
              · (intro w1 hC; clear hC; go_simp)
              · exact fun w1 hC => (KH w1).mono fun e w' ⟨he, hb⟩ => ⟨he, ⟨hC.1.below hb, (hb.block _ (blk_lt5 hC.2)).trans hC.2⟩⟩
              simp only [Act.put, List.setIfInBounds_toArray, List.set_cons_zero, List.set_cons_succ]
              refine qw_run (v := .int .i64 hv) (by rfl) ?_ ?_
              · (intro w1 hC; obtain ⟨x1, y1, -⟩ := hXD w1 hC; go_simp; first | done | (simp; done) | (simp [*]; done) | omega | (simp; omega) | (rw [IntKind.wrap_i64]; omega) | (intro hx; omega) | rfl)
              simp only [Act.put, List.setIfInBounds_toArray, List.set_cons_zero, List.set_cons_succ]
              refine qw_nil ?_
              intro W9 hC9
              have HV := hidR hC9.1
              have HPN := hidR hC9.2
              clear hC9 hXD KH
              by_cases hh : hv < 0
              · have HEN : Hid (Ending.returned (.tuple #[.agg #[.int .u64 0, .int .u64 0, .int .i64 0, .int .i64 0], .bool true, .int .i64 15, .int .i64 ((A1 : Int) + 1)]) = .returned (enV (enR F t))) := hidR (by rw [H2x.out (by simp) (by omega) hh, enV_z])
                clear H2x H3x H4x HPN HNx
                go_wp2_with fail
                refine gh_region (γ := Unit) (qpOk 9 9 (by decide) (fun N => by kernel_rfl) (by kernel_rfl) (by kernel_rfl) (by kernel_rfl) (by kernel_rfl)) (by kernel_rfl) (by kernel_rfl) [some 115, some 116, some 117, some 118, some 119, none, some 5, some 6, some 7] (fun g => [.agg #[.int .u64 0, .int .u64 0, .int .i64 0, .int .i64 0], .slice (some ⟨ga, 0, none⟩) c ca, .pointer (some ⟨ga, 1, none⟩), .int .i64 (A1 : Int), .int .i64 ((A1 : Int) + 1), undef, .bool true, .int .i64 15, .int .i64 ((A1 : Int) + 1)]) (by kernel_rfl) (by simp) (fun _ _ W => EnV w t c (.slice (some ⟨ga, 0, none⟩) c ca) (.slice (some ⟨gb, 0, none⟩) c cb) W) () (HV.out.below (below_drewN (Below.refl _ _) 1)) ?step115 ?fin115
                case step115 =>
                  intro q o lp g w' a' ho hsz hun hdep hR hS K Q' hK
                  have hq : q < 9 := (List.getElem?_eq_some_iff.mp ho).1
                  match q, ho, hun, hdep, hK, hq with
                  | 0, ho, hun, hdep, hK, _ =>
                    obtain rfl := Option.some.inj ho
                    have hK' := hK () w' (fun _ _ _ _ _ _ => rfl) hR (.agg #[.int .u64 0, .int .u64 0, .int .i64 0, .int .i64 0]) (by simp only [valO, Option.bind_some]; simp only [putAll, Act.put, List.setIfInBounds_toArray, List.set_cons_zero, List.set_cons_succ]; rfl)
                    have x0 := hR.ca 1 HA1.out
                    clear hS hdep hR
                    refine gh_quiet (v := .agg #[.int .u64 0, .int .u64 0, .int .i64 0, .int .i64 0]) ?_ ?_
                    · (simp only [execOp, Act.eval]; go_simp; first | done | (simp; done) | (simp [*]; done) | omega | (simp; omega) | (simp [*]; omega))
                    · exact hK'
                  | 1, ho, hun, hdep, hK, _ =>
                    obtain rfl := Option.some.inj ho
                    have o9 : a'.tmps[9]? = some (.slice (some ⟨ga, 0, none⟩) c ca) := (hS.old 9 (by simp)).trans rfl
                    have hK' := hK () w' (fun _ _ _ _ _ _ => rfl) hR (.slice (some ⟨ga, 0, none⟩) c ca) (by simp only [valO, Option.bind_some]; simp only [putAll, Act.put, List.setIfInBounds_toArray, List.set_cons_zero, List.set_cons_succ]; rfl)
                    have x0 := hR.ca 1 HA1.out
                    clear hS hdep hR
                    refine gh_quiet (v := .slice (some ⟨ga, 0, none⟩) c ca) ?_ ?_
                    · (simp only [execOp, Act.eval, o9]; go_simp; first | done | (simp; done) | (simp [*]; done) | omega | (simp; omega) | (simp [*]; omega))
                    · exact hK'
                  | 2, ho, hun, hdep, hK, _ =>
                    obtain rfl := Option.some.inj ho
                    have d1 : lp.getD 1 false = true := hdep { on := 1, ground := .data } (by simp) rfl
                    have e116 : a'.tmps[116]? = some (.slice (some ⟨ga, 0, none⟩) c ca) := (hS.don 1 _ 116 rfl d1 rfl).trans (by simp only [putAll, Act.put, List.setIfInBounds_toArray, List.set_cons_zero, List.set_cons_succ]; rfl)
                    have hK' := hK () w' (fun _ _ _ _ _ _ => rfl) hR (.pointer (some ⟨ga, 1, none⟩)) (by simp only [valO, Option.bind_some]; simp only [putAll, Act.put, List.setIfInBounds_toArray, List.set_cons_zero, List.set_cons_succ]; rfl)
                    have x0 := hR.ca 1 HA1.out
                    clear hS hdep hR
                    refine gh_quiet (v := .pointer (some ⟨ga, 1, none⟩)) ?_ ?_
                    · (simp only [execOp, Act.eval, e116]; go_simp; first | done | (simp; done) | (simp [*]; done) | omega | (simp; omega) | (simp [*]; omega))
                    · exact hK'
                  | 3, ho, hun, hdep, hK, _ =>
                    obtain rfl := Option.some.inj ho
                    have d2 : lp.getD 2 false = true := hdep { on := 2, ground := .data } (by simp) rfl
                    have e117 : a'.tmps[117]? = some (.pointer (some ⟨ga, 1, none⟩)) := (hS.don 2 _ 117 rfl d2 rfl).trans (by simp only [putAll, Act.put, List.setIfInBounds_toArray, List.set_cons_zero, List.set_cons_succ]; rfl)
                    have hK' := hK () w' (fun _ _ _ _ _ _ => rfl) hR (.int .i64 (A1 : Int)) (by simp only [valO, Option.bind_some]; simp only [putAll, Act.put, List.setIfInBounds_toArray, List.set_cons_zero, List.set_cons_succ]; rfl)
                    have x0 := hR.ca 1 HA1.out
                    clear hS hdep hR
                    refine gh_quiet (v := .int .i64 (A1 : Int)) ?_ ?_
                    · (simp only [execOp, Act.eval, e117]; go_simp; first | done | (simp; done) | (simp [*]; done) | omega | (simp; omega) | (simp [*]; omega))
                    · exact hK'
                  | 4, ho, hun, hdep, hK, _ =>
                    obtain rfl := Option.some.inj ho
                    have d3 : lp.getD 3 false = true := hdep { on := 3, ground := .data } (by simp) rfl
                    have e118 : a'.tmps[118]? = some (.int .i64 (A1 : Int)) := (hS.don 3 _ 118 rfl d3 rfl).trans (by simp only [putAll, Act.put, List.setIfInBounds_toArray, List.set_cons_zero, List.set_cons_succ]; rfl)
                    have hK' := hK () w' (fun _ _ _ _ _ _ => rfl) hR (.int .i64 ((A1 : Int) + 1)) (by simp only [valO, Option.bind_some]; simp only [putAll, Act.put, List.setIfInBounds_toArray, List.set_cons_zero, List.set_cons_succ]; rfl)
                    have x0 := hR.ca 1 HA1.out
                    clear hS hdep hR
                    refine gh_quiet (v := .int .i64 ((A1 : Int) + 1)) ?_ ?_
                    · (simp only [execOp, Act.eval, e118]; go_simp; first | done | (simp; done) | (simp [*]; done) | omega | (simp; omega) | (simp [*]; omega))
                    · exact hK'
                  | 5, ho, hun, hdep, hK, _ =>
                    obtain rfl := Option.some.inj ho
                    have d0 : lp.getD 0 false = true := hdep { on := 0, ground := .data } (by simp) rfl
                    have e115 : a'.tmps[115]? = some (.agg #[.int .u64 0, .int .u64 0, .int .i64 0, .int .i64 0]) := (hS.don 0 _ 115 rfl d0 rfl).trans (by simp only [putAll, Act.put, List.setIfInBounds_toArray, List.set_cons_zero, List.set_cons_succ]; rfl)
                    have o4 : a'.tmps[4]? = some (.pointer (some ⟨w.heap.size, 0, none⟩)) := (hS.old 4 (by simp)).trans rfl
                    have z0 := at_blk hR.res 0 (.int .u64 0) rfl
                    have z1 := at_blk hR.res 1 (.int .u64 0) rfl
                    have z2 := at_blk hR.res 2 (.int .i64 0) rfl
                    have z3 := at_blk hR.res 3 (.int .i64 0) rfl
                    have f0 := fr_blk5 (j := 0) hR.res
                    have f1 := fr_blk5 (j := 1) hR.res
                    have f2 := fr_blk5 (j := 2) hR.res
                    have f3 := fr_blk5 (j := 3) hR.res
                    have hK' := hK () _ (fun _ _ _ _ _ _ => rfl) hR.zero undef rfl
                    clear hS hdep hR
                    unfold Oper.wp
                    simp [execOp, Act.eval, e115, o4, go_sem, z0, z1, z2, z3, f0, f1, f2, f3, Oper.upon]
                    exact hK'
                  | 6, ho, hun, hdep, hK, _ =>
                    obtain rfl := Option.some.inj ho
                    have hK' := hK () w' (fun _ _ _ _ _ _ => rfl) hR (.bool true) (by simp only [valO, Option.bind_some]; simp only [putAll, Act.put, List.setIfInBounds_toArray, List.set_cons_zero, List.set_cons_succ]; rfl)
                    have x0 := hR.ca 1 HA1.out
                    clear hS hdep hR
                    refine gh_quiet (v := .bool true) ?_ ?_
                    · (simp only [execOp, Act.eval]; go_simp; first | done | (simp; done) | (simp [*]; done) | omega | (simp; omega) | (simp [*]; omega))
                    · exact hK'
                  | 7, ho, hun, hdep, hK, _ =>
                    obtain rfl := Option.some.inj ho
                    have hK' := hK () w' (fun _ _ _ _ _ _ => rfl) hR (.int .i64 15) (by simp only [valO, Option.bind_some]; simp only [putAll, Act.put, List.setIfInBounds_toArray, List.set_cons_zero, List.set_cons_succ]; rfl)
                    have x0 := hR.ca 1 HA1.out
                    clear hS hdep hR
                    refine gh_quiet (v := .int .i64 15) ?_ ?_
                    · (simp only [execOp, Act.eval]; go_simp; first | done | (simp; done) | (simp [*]; done) | omega | (simp; omega) | (simp [*]; omega))
                    · exact hK'
                  | 8, ho, hun, hdep, hK, _ =>
                    obtain rfl := Option.some.inj ho
                    have d4 : lp.getD 4 false = true := hdep { on := 4, ground := .data } (by simp) rfl
                    have e119 : a'.tmps[119]? = some (.int .i64 ((A1 : Int) + 1)) := (hS.don 4 _ 119 rfl d4 rfl).trans (by simp only [putAll, Act.put, List.setIfInBounds_toArray, List.set_cons_zero, List.set_cons_succ]; rfl)
                    have hK' := hK () w' (fun _ _ _ _ _ _ => rfl) hR (.int .i64 ((A1 : Int) + 1)) (by simp only [valO, Option.bind_some]; simp only [putAll, Act.put, List.setIfInBounds_toArray, List.set_cons_zero, List.set_cons_succ]; rfl)
                    have x0 := hR.ca 1 HA1.out
                    clear hS hdep hR
                    refine gh_quiet (v := .int .i64 ((A1 : Int) + 1)) ?_ ?_
                    · (simp only [execOp, Act.eval, e119]; go_simp; first | done | (simp; done) | (simp [*]; done) | omega | (simp; omega) | (simp [*]; omega))
                    · exact hK'
                  | n + 9, ho, hun, hdep, hK, hq => exact absurd hq (by omega)
                case fin115 =>
                  intro g W5 hR
                  have z0 := at_blk hR.res 0 (.int .u64 0) rfl
                  have z1 := at_blk hR.res 1 (.int .u64 0) rfl
                  have z2 := at_blk hR.res 2 (.int .i64 0) rfl
                  have z3 := at_blk hR.res 3 (.int .i64 0) rfl
                  have HL := hidR hR.low
                  simp only [putAll, Act.put, List.setIfInBounds_toArray, List.set_cons_zero, List.set_cons_succ]
                  clear hR HV
                  refine wl_nil (P := Tryz.prog) (ops := #[]) ?_
                  go_wp2
                  exact bodyPost_ret (v := .tuple #[.agg #[.int .u64 0, .int .u64 0, .int .i64 0, .int .i64 0], .bool true, .int .i64 15, .int .i64 ((A1 : Int) + 1)]) (by simp [results, Tryz.results26, go_sem, z0, z1, z2, z3]) rfl ⟨HEN.out, HL.out⟩
              · by_cases hc2 : c = 2
                · subst hc2
                  have HEN : Hid (Ending.returned (.tuple #[.agg #[.int .u64 (hI px), .int .u64 (lI px), .int .i64 pn, .int .i64 hv], .bool true, .int .i64 0, .int .i64 0]) = .returned (enV (enR F t))) := hidR (by rw [H4x.out (by simp) (by simp) (by omega)]; rfl)
                  have z0 := at_blk HV.out.res 0 (.int .u64 0) rfl
                  have z1 := at_blk HV.out.res 1 (.int .u64 0) rfl
                  have z2 := at_blk HV.out.res 2 (.int .i64 0) rfl
                  have z3 := at_blk HV.out.res 3 (.int .i64 0) rfl
                  have f0 := fr_blk5 (j := 0) HV.out.res
                  have f1 := fr_blk5 (j := 1) HV.out.res
                  have f2 := fr_blk5 (j := 2) HV.out.res
                  have f3 := fr_blk5 (j := 3) HV.out.res
                  have p0 := at_blk HPN.out 0 (.int .u64 (hI px)) rfl
                  have p1 := at_blk HPN.out 1 (.int .u64 (lI px)) rfl
                  have p2 := at_blk HPN.out 2 (.int .i64 pn) rfl
                  have HL : Hid (Below w.heap.size w ((((W9.setCell ⟨w.heap.size, 0, none⟩ (.int .u64 (hI px))).setCell ⟨w.heap.size, 1, none⟩ (.int .u64 (lI px))).setCell ⟨w.heap.size, 2, none⟩ (.int .i64 pn)).setCell ⟨w.heap.size, 3, none⟩ (.int .i64 hv))) := hidR ((((HV.out.low.setCell (Nat.le_refl _) _).setCell (Nat.le_refl _) _).setCell (Nat.le_refl _) _).setCell (Nat.le_refl _) _)
                  clear HV HPN HNx H2x H3x H4x HKd HcE
                  go_wp2
                  exact bodyPost_ret (v := .tuple #[.agg #[.int .u64 (hI px), .int .u64 (lI px), .int .i64 pn, .int .i64 hv], .bool true, .int .i64 0, .int .i64 0]) (by simp [results, Tryz.results26, go_sem, z0, z1, z2, z3]) rfl ⟨HEN.out, HL.out⟩
                · have hc3 : c = 3 := by omega
                  have hc3b : ((c : Int) == 3) = true := by simp; omega
                  have hc3e : (2 : Int) < (c : Int) := by omega
                  have hc3f : 2 < c := by omega
                  obtain ⟨A2, hA2e⟩ : ∃ A2, A2 = aNw t 2 := ⟨_, rfl⟩
                  have HA2 : Hid ((ats t c)[2]? = some A2) := hidR (by rw [hA2e]; exact ats_get t c 2 (by omega))
                  have hA2b : A2 ≤ t.size := by rw [hA2e]; exact (aNw_bd t 2).2.2
                  have hA3 : IntKind.i64.wrap ((A2 : Int) + 1) = (A2 : Int) + 1 := by rw [IntKind.wrap_i64]; omega
                  have HEN : Hid (Ending.returned (.tuple #[.agg #[.int .u64 0, .int .u64 0, .int .i64 0, .int .i64 0], .bool true, .int .i64 12, .int .i64 ((A2 : Int) + 1)]) = .returned (enV (enR F t))) := hidR (by rw [H3x.out (by simp) hc3 (by omega), enV_z, hA2e])
                  clear H2x H3x H4x HPN HNx hA2e hc3 hc2
                  go_wp2_with fail
                  refine gh_region (γ := Unit) (qpOk 9 9 (by decide) (fun N => by kernel_rfl) (by kernel_rfl) (by kernel_rfl) (by kernel_rfl) (by kernel_rfl)) (by kernel_rfl) (by kernel_rfl) [some 123, some 124, some 125, some 126, some 127, none, some 5, some 6, some 7] (fun g => [.agg #[.int .u64 0, .int .u64 0, .int .i64 0, .int .i64 0], .slice (some ⟨ga, 0, none⟩) c ca, .pointer (some ⟨ga, 2, none⟩), .int .i64 (A2 : Int), .int .i64 ((A2 : Int) + 1), undef, .bool true, .int .i64 12, .int .i64 ((A2 : Int) + 1)]) (by kernel_rfl) (by simp) (fun _ _ W => EnV w t c (.slice (some ⟨ga, 0, none⟩) c ca) (.slice (some ⟨gb, 0, none⟩) c cb) W) () (HV.out.below (below_drewN (Below.refl _ _) 1)) ?step123 ?fin123
                  case step123 =>
                    intro q o lp g w' a' ho hsz hun hdep hR hS K Q' hK
                    have hq : q < 9 := (List.getElem?_eq_some_iff.mp ho).1
                    match q, ho, hun, hdep, hK, hq with
                    | 0, ho, hun, hdep, hK, _ =>
                      obtain rfl := Option.some.inj ho
                      have hK' := hK () w' (fun _ _ _ _ _ _ => rfl) hR (.agg #[.int .u64 0, .int .u64 0, .int .i64 0, .int .i64 0]) (by simp only [valO, Option.bind_some]; simp only [putAll, Act.put, List.setIfInBounds_toArray, List.set_cons_zero, List.set_cons_succ]; rfl)
                      have x0 := hR.ca 2 HA2.out
                      clear hS hdep hR
                      refine gh_quiet (v := .agg #[.int .u64 0, .int .u64 0, .int .i64 0, .int .i64 0]) ?_ ?_
                      · (simp only [execOp, Act.eval]; go_simp; first | done | (simp; done) | (simp [*]; done) | omega | (simp; omega) | (simp [*]; omega))
                      · exact hK'
                    | 1, ho, hun, hdep, hK, _ =>
                      obtain rfl := Option.some.inj ho
                      have o9 : a'.tmps[9]? = some (.slice (some ⟨ga, 0, none⟩) c ca) := (hS.old 9 (by simp)).trans rfl
                      have hK' := hK () w' (fun _ _ _ _ _ _ => rfl) hR (.slice (some ⟨ga, 0, none⟩) c ca) (by simp only [valO, Option.bind_some]; simp only [putAll, Act.put, List.setIfInBounds_toArray, List.set_cons_zero, List.set_cons_succ]; rfl)
                      have x0 := hR.ca 2 HA2.out
                      clear hS hdep hR
                      refine gh_quiet (v := .slice (some ⟨ga, 0, none⟩) c ca) ?_ ?_
                      · (simp only [execOp, Act.eval, o9]; go_simp; first | done | (simp; done) | (simp [*]; done) | omega | (simp; omega) | (simp [*]; omega))
                      · exact hK'
                    | 2, ho, hun, hdep, hK, _ =>
                      obtain rfl := Option.some.inj ho
                      have d1 : lp.getD 1 false = true := hdep { on := 1, ground := .data } (by simp) rfl
                      have e124 : a'.tmps[124]? = some (.slice (some ⟨ga, 0, none⟩) c ca) := (hS.don 1 _ 124 rfl d1 rfl).trans (by simp only [putAll, Act.put, List.setIfInBounds_toArray, List.set_cons_zero, List.set_cons_succ]; rfl)
                      have hK' := hK () w' (fun _ _ _ _ _ _ => rfl) hR (.pointer (some ⟨ga, 2, none⟩)) (by simp only [valO, Option.bind_some]; simp only [putAll, Act.put, List.setIfInBounds_toArray, List.set_cons_zero, List.set_cons_succ]; rfl)
                      have x0 := hR.ca 2 HA2.out
                      clear hS hdep hR
                      refine gh_quiet (v := .pointer (some ⟨ga, 2, none⟩)) ?_ ?_
                      · (simp only [execOp, Act.eval, e124]; go_simp; first | done | (simp; done) | (simp [*]; done) | omega | (simp; omega) | (simp [*]; omega))
                      · exact hK'
                    | 3, ho, hun, hdep, hK, _ =>
                      obtain rfl := Option.some.inj ho
                      have d2 : lp.getD 2 false = true := hdep { on := 2, ground := .data } (by simp) rfl
                      have e125 : a'.tmps[125]? = some (.pointer (some ⟨ga, 2, none⟩)) := (hS.don 2 _ 125 rfl d2 rfl).trans (by simp only [putAll, Act.put, List.setIfInBounds_toArray, List.set_cons_zero, List.set_cons_succ]; rfl)
                      have hK' := hK () w' (fun _ _ _ _ _ _ => rfl) hR (.int .i64 (A2 : Int)) (by simp only [valO, Option.bind_some]; simp only [putAll, Act.put, List.setIfInBounds_toArray, List.set_cons_zero, List.set_cons_succ]; rfl)
                      have x0 := hR.ca 2 HA2.out
                      clear hS hdep hR
                      refine gh_quiet (v := .int .i64 (A2 : Int)) ?_ ?_
                      · (simp only [execOp, Act.eval, e125]; go_simp; first | done | (simp; done) | (simp [*]; done) | omega | (simp; omega) | (simp [*]; omega))
                      · exact hK'
                    | 4, ho, hun, hdep, hK, _ =>
                      obtain rfl := Option.some.inj ho
                      have d3 : lp.getD 3 false = true := hdep { on := 3, ground := .data } (by simp) rfl
                      have e126 : a'.tmps[126]? = some (.int .i64 (A2 : Int)) := (hS.don 3 _ 126 rfl d3 rfl).trans (by simp only [putAll, Act.put, List.setIfInBounds_toArray, List.set_cons_zero, List.set_cons_succ]; rfl)
                      have hK' := hK () w' (fun _ _ _ _ _ _ => rfl) hR (.int .i64 ((A2 : Int) + 1)) (by simp only [valO, Option.bind_some]; simp only [putAll, Act.put, List.setIfInBounds_toArray, List.set_cons_zero, List.set_cons_succ]; rfl)
                      have x0 := hR.ca 2 HA2.out
                      clear hS hdep hR
                      refine gh_quiet (v := .int .i64 ((A2 : Int) + 1)) ?_ ?_
                      · (simp only [execOp, Act.eval, e126]; go_simp; first | done | (simp; done) | (simp [*]; done) | omega | (simp; omega) | (simp [*]; omega))
                      · exact hK'
                    | 5, ho, hun, hdep, hK, _ =>
                      obtain rfl := Option.some.inj ho
                      have d0 : lp.getD 0 false = true := hdep { on := 0, ground := .data } (by simp) rfl
                      have e123 : a'.tmps[123]? = some (.agg #[.int .u64 0, .int .u64 0, .int .i64 0, .int .i64 0]) := (hS.don 0 _ 123 rfl d0 rfl).trans (by simp only [putAll, Act.put, List.setIfInBounds_toArray, List.set_cons_zero, List.set_cons_succ]; rfl)
                      have o4 : a'.tmps[4]? = some (.pointer (some ⟨w.heap.size, 0, none⟩)) := (hS.old 4 (by simp)).trans rfl
                      have z0 := at_blk hR.res 0 (.int .u64 0) rfl
                      have z1 := at_blk hR.res 1 (.int .u64 0) rfl
                      have z2 := at_blk hR.res 2 (.int .i64 0) rfl
                      have z3 := at_blk hR.res 3 (.int .i64 0) rfl
                      have f0 := fr_blk5 (j := 0) hR.res
                      have f1 := fr_blk5 (j := 1) hR.res
                      have f2 := fr_blk5 (j := 2) hR.res
                      have f3 := fr_blk5 (j := 3) hR.res
                      have hK' := hK () _ (fun _ _ _ _ _ _ => rfl) hR.zero undef rfl
                      clear hS hdep hR
                      unfold Oper.wp
                      simp [execOp, Act.eval, e123, o4, go_sem, z0, z1, z2, z3, f0, f1, f2, f3, Oper.upon]
                      exact hK'
                    | 6, ho, hun, hdep, hK, _ =>
                      obtain rfl := Option.some.inj ho
                      have hK' := hK () w' (fun _ _ _ _ _ _ => rfl) hR (.bool true) (by simp only [valO, Option.bind_some]; simp only [putAll, Act.put, List.setIfInBounds_toArray, List.set_cons_zero, List.set_cons_succ]; rfl)
                      have x0 := hR.ca 2 HA2.out
                      clear hS hdep hR
                      refine gh_quiet (v := .bool true) ?_ ?_
                      · (simp only [execOp, Act.eval]; go_simp; first | done | (simp; done) | (simp [*]; done) | omega | (simp; omega) | (simp [*]; omega))
                      · exact hK'
                    | 7, ho, hun, hdep, hK, _ =>
                      obtain rfl := Option.some.inj ho
                      have hK' := hK () w' (fun _ _ _ _ _ _ => rfl) hR (.int .i64 12) (by simp only [valO, Option.bind_some]; simp only [putAll, Act.put, List.setIfInBounds_toArray, List.set_cons_zero, List.set_cons_succ]; rfl)
                      have x0 := hR.ca 2 HA2.out
                      clear hS hdep hR
                      refine gh_quiet (v := .int .i64 12) ?_ ?_
                      · (simp only [execOp, Act.eval]; go_simp; first | done | (simp; done) | (simp [*]; done) | omega | (simp; omega) | (simp [*]; omega))
                      · exact hK'
                    | 8, ho, hun, hdep, hK, _ =>
                      obtain rfl := Option.some.inj ho
                      have d4 : lp.getD 4 false = true := hdep { on := 4, ground := .data } (by simp) rfl
                      have e127 : a'.tmps[127]? = some (.int .i64 ((A2 : Int) + 1)) := (hS.don 4 _ 127 rfl d4 rfl).trans (by simp only [putAll, Act.put, List.setIfInBounds_toArray, List.set_cons_zero, List.set_cons_succ]; rfl)
                      have hK' := hK () w' (fun _ _ _ _ _ _ => rfl) hR (.int .i64 ((A2 : Int) + 1)) (by simp only [valO, Option.bind_some]; simp only [putAll, Act.put, List.setIfInBounds_toArray, List.set_cons_zero, List.set_cons_succ]; rfl)
                      have x0 := hR.ca 2 HA2.out
                      clear hS hdep hR
                      refine gh_quiet (v := .int .i64 ((A2 : Int) + 1)) ?_ ?_
                      · (simp only [execOp, Act.eval, e127]; go_simp; first | done | (simp; done) | (simp [*]; done) | omega | (simp; omega) | (simp [*]; omega))
                      · exact hK'
                    | n + 9, ho, hun, hdep, hK, hq => exact absurd hq (by omega)
                  case fin123 =>
                    intro g W5 hR
                    have z0 := at_blk hR.res 0 (.int .u64 0) rfl
                    have z1 := at_blk hR.res 1 (.int .u64 0) rfl
                    have z2 := at_blk hR.res 2 (.int .i64 0) rfl
                    have z3 := at_blk hR.res 3 (.int .i64 0) rfl
                    have HL := hidR hR.low
                    simp only [putAll, Act.put, List.setIfInBounds_toArray, List.set_cons_zero, List.set_cons_succ]
                    clear hR HV
                    refine wl_nil (P := Tryz.prog) (ops := #[]) ?_
                    go_wp2
                    exact bodyPost_ret (v := .tuple #[.agg #[.int .u64 0, .int .u64 0, .int .i64 0, .int .i64 0], .bool true, .int .i64 12, .int .i64 ((A2 : Int) + 1)]) (by simp [results, Tryz.results26, go_sem, z0, z1, z2, z3]) rfl ⟨HEN.out, HL.out⟩
          · have HEN : Hid (Ending.returned (.tuple #[.agg #[.int .u64 0, .int .u64 0, .int .i64 0, .int .i64 0], .bool true, .int .i64 pe, .int .i64 ((A0 : Int) + 1)]) = .returned (enV (enR F t))) := hidR (by rw [HPx.out hpe, enV_z])
            clear HPx H1x H2x H3x H4x HPN HNx
            go_wp2_with fail
            refine gh_region (γ := Unit) (qpOk 10 10 (by decide) (fun N => by kernel_rfl) (by kernel_rfl) (by kernel_rfl) (by kernel_rfl) (by kernel_rfl)) (by kernel_rfl) (by kernel_rfl) [some 92, some 93, some 94, some 95, some 96, some 97, none, some 5, some 6, some 7] (fun g => [.agg #[.int .u64 0, .int .u64 0, .int .i64 0, .int .i64 0], .int .i64 pe, .slice (some ⟨ga, 0, none⟩) c ca, .pointer (some ⟨ga, 0, none⟩), .int .i64 (A0 : Int), .int .i64 ((A0 : Int) + 1), undef, .bool true, .int .i64 pe, .int .i64 ((A0 : Int) + 1)]) (by kernel_rfl) (by simp) (fun _ _ W => EnV w t c (.slice (some ⟨ga, 0, none⟩) c ca) (.slice (some ⟨gb, 0, none⟩) c cb) W) () (HV.out.below (below_drewN (Below.refl _ _) 1)) ?step92 ?fin92
            case step92 =>
              intro q o lp g w' a' ho hsz hun hdep hR hS K Q' hK
              have hq : q < 10 := (List.getElem?_eq_some_iff.mp ho).1
              match q, ho, hun, hdep, hK, hq with
              | 0, ho, hun, hdep, hK, _ =>
                obtain rfl := Option.some.inj ho
                have hK' := hK () w' (fun _ _ _ _ _ _ => rfl) hR (.agg #[.int .u64 0, .int .u64 0, .int .i64 0, .int .i64 0]) (by simp only [valO, Option.bind_some]; simp only [putAll, Act.put, List.setIfInBounds_toArray, List.set_cons_zero, List.set_cons_succ]; rfl)
                have x0 := hR.ca 0 HA0.out
                clear hS hdep hR
                refine gh_quiet (v := .agg #[.int .u64 0, .int .u64 0, .int .i64 0, .int .i64 0]) ?_ ?_
                · (simp only [execOp, Act.eval]; go_simp; first | done | (simp; done) | (simp [*]; done) | omega | (simp; omega) | (simp [*]; omega))
                · exact hK'
              | 1, ho, hun, hdep, hK, _ =>
                obtain rfl := Option.some.inj ho
                have o14 : a'.tmps[14]? = some (.int .i64 pe) := (hS.old 14 (by simp)).trans rfl
                have hK' := hK () w' (fun _ _ _ _ _ _ => rfl) hR (.int .i64 pe) (by simp only [valO, Option.bind_some]; simp only [putAll, Act.put, List.setIfInBounds_toArray, List.set_cons_zero, List.set_cons_succ]; rfl)
                have x0 := hR.ca 0 HA0.out
                clear hS hdep hR
                refine gh_quiet (v := .int .i64 pe) ?_ ?_
                · (simp only [execOp, Act.eval, o14]; go_simp; first | done | (simp; done) | (simp [*]; done) | omega | (simp; omega) | (simp [*]; omega))
                · exact hK'
              | 2, ho, hun, hdep, hK, _ =>
                obtain rfl := Option.some.inj ho
                have o9 : a'.tmps[9]? = some (.slice (some ⟨ga, 0, none⟩) c ca) := (hS.old 9 (by simp)).trans rfl
                have hK' := hK () w' (fun _ _ _ _ _ _ => rfl) hR (.slice (some ⟨ga, 0, none⟩) c ca) (by simp only [valO, Option.bind_some]; simp only [putAll, Act.put, List.setIfInBounds_toArray, List.set_cons_zero, List.set_cons_succ]; rfl)
                have x0 := hR.ca 0 HA0.out
                clear hS hdep hR
                refine gh_quiet (v := .slice (some ⟨ga, 0, none⟩) c ca) ?_ ?_
                · (simp only [execOp, Act.eval, o9]; go_simp; first | done | (simp; done) | (simp [*]; done) | omega | (simp; omega) | (simp [*]; omega))
                · exact hK'
              | 3, ho, hun, hdep, hK, _ =>
                obtain rfl := Option.some.inj ho
                have d2 : lp.getD 2 false = true := hdep { on := 2, ground := .data } (by simp) rfl
                have e94 : a'.tmps[94]? = some (.slice (some ⟨ga, 0, none⟩) c ca) := (hS.don 2 _ 94 rfl d2 rfl).trans (by simp only [putAll, Act.put, List.setIfInBounds_toArray, List.set_cons_zero, List.set_cons_succ]; rfl)
                have hK' := hK () w' (fun _ _ _ _ _ _ => rfl) hR (.pointer (some ⟨ga, 0, none⟩)) (by simp only [valO, Option.bind_some]; simp only [putAll, Act.put, List.setIfInBounds_toArray, List.set_cons_zero, List.set_cons_succ]; rfl)
                have x0 := hR.ca 0 HA0.out
                clear hS hdep hR
                refine gh_quiet (v := .pointer (some ⟨ga, 0, none⟩)) ?_ ?_
                · (simp only [execOp, Act.eval, e94]; go_simp; first | done | (simp; done) | (simp [*]; done) | omega | (simp; omega) | (simp [*]; omega))
                · exact hK'
              | 4, ho, hun, hdep, hK, _ =>
                obtain rfl := Option.some.inj ho
                have d3 : lp.getD 3 false = true := hdep { on := 3, ground := .data } (by simp) rfl
                have e95 : a'.tmps[95]? = some (.pointer (some ⟨ga, 0, none⟩)) := (hS.don 3 _ 95 rfl d3 rfl).trans (by simp only [putAll, Act.put, List.setIfInBounds_toArray, List.set_cons_zero, List.set_cons_succ]; rfl)
                have hK' := hK () w' (fun _ _ _ _ _ _ => rfl) hR (.int .i64 (A0 : Int)) (by simp only [valO, Option.bind_some]; simp only [putAll, Act.put, List.setIfInBounds_toArray, List.set_cons_zero, List.set_cons_succ]; rfl)
                have x0 := hR.ca 0 HA0.out
                clear hS hdep hR
                refine gh_quiet (v := .int .i64 (A0 : Int)) ?_ ?_
                · (simp only [execOp, Act.eval, e95]; go_simp; first | done | (simp; done) | (simp [*]; done) | omega | (simp; omega) | (simp [*]; omega))
                · exact hK'
              | 5, ho, hun, hdep, hK, _ =>
                obtain rfl := Option.some.inj ho
                have d4 : lp.getD 4 false = true := hdep { on := 4, ground := .data } (by simp) rfl
                have e96 : a'.tmps[96]? = some (.int .i64 (A0 : Int)) := (hS.don 4 _ 96 rfl d4 rfl).trans (by simp only [putAll, Act.put, List.setIfInBounds_toArray, List.set_cons_zero, List.set_cons_succ]; rfl)
                have hK' := hK () w' (fun _ _ _ _ _ _ => rfl) hR (.int .i64 ((A0 : Int) + 1)) (by simp only [valO, Option.bind_some]; simp only [putAll, Act.put, List.setIfInBounds_toArray, List.set_cons_zero, List.set_cons_succ]; rfl)
                have x0 := hR.ca 0 HA0.out
                clear hS hdep hR
                refine gh_quiet (v := .int .i64 ((A0 : Int) + 1)) ?_ ?_
                · (simp only [execOp, Act.eval, e96]; go_simp; first | done | (simp; done) | (simp [*]; done) | omega | (simp; omega) | (simp [*]; omega))
                · exact hK'
              | 6, ho, hun, hdep, hK, _ =>
                obtain rfl := Option.some.inj ho
                have d0 : lp.getD 0 false = true := hdep { on := 0, ground := .data } (by simp) rfl
                have e92 : a'.tmps[92]? = some (.agg #[.int .u64 0, .int .u64 0, .int .i64 0, .int .i64 0]) := (hS.don 0 _ 92 rfl d0 rfl).trans (by simp only [putAll, Act.put, List.setIfInBounds_toArray, List.set_cons_zero, List.set_cons_succ]; rfl)
                have o4 : a'.tmps[4]? = some (.pointer (some ⟨w.heap.size, 0, none⟩)) := (hS.old 4 (by simp)).trans rfl
                have z0 := at_blk hR.res 0 (.int .u64 0) rfl
                have z1 := at_blk hR.res 1 (.int .u64 0) rfl
                have z2 := at_blk hR.res 2 (.int .i64 0) rfl
                have z3 := at_blk hR.res 3 (.int .i64 0) rfl
                have f0 := fr_blk5 (j := 0) hR.res
                have f1 := fr_blk5 (j := 1) hR.res
                have f2 := fr_blk5 (j := 2) hR.res
                have f3 := fr_blk5 (j := 3) hR.res
                have hK' := hK () _ (fun _ _ _ _ _ _ => rfl) hR.zero undef rfl
                clear hS hdep hR
                unfold Oper.wp
                simp [execOp, Act.eval, e92, o4, go_sem, z0, z1, z2, z3, f0, f1, f2, f3, Oper.upon]
                exact hK'
              | 7, ho, hun, hdep, hK, _ =>
                obtain rfl := Option.some.inj ho
                have hK' := hK () w' (fun _ _ _ _ _ _ => rfl) hR (.bool true) (by simp only [valO, Option.bind_some]; simp only [putAll, Act.put, List.setIfInBounds_toArray, List.set_cons_zero, List.set_cons_succ]; rfl)
                have x0 := hR.ca 0 HA0.out
                clear hS hdep hR
                refine gh_quiet (v := .bool true) ?_ ?_
                · (simp only [execOp, Act.eval]; go_simp; first | done | (simp; done) | (simp [*]; done) | omega | (simp; omega) | (simp [*]; omega))
                · exact hK'
              | 8, ho, hun, hdep, hK, _ =>
                obtain rfl := Option.some.inj ho
                have d1 : lp.getD 1 false = true := hdep { on := 1, ground := .data } (by simp) rfl
                have e93 : a'.tmps[93]? = some (.int .i64 pe) := (hS.don 1 _ 93 rfl d1 rfl).trans (by simp only [putAll, Act.put, List.setIfInBounds_toArray, List.set_cons_zero, List.set_cons_succ]; rfl)
                have hK' := hK () w' (fun _ _ _ _ _ _ => rfl) hR (.int .i64 pe) (by simp only [valO, Option.bind_some]; simp only [putAll, Act.put, List.setIfInBounds_toArray, List.set_cons_zero, List.set_cons_succ]; rfl)
                have x0 := hR.ca 0 HA0.out
                clear hS hdep hR
                refine gh_quiet (v := .int .i64 pe) ?_ ?_
                · (simp only [execOp, Act.eval, e93]; go_simp; first | done | (simp; done) | (simp [*]; done) | omega | (simp; omega) | (simp [*]; omega))
                · exact hK'
              | 9, ho, hun, hdep, hK, _ =>
                obtain rfl := Option.some.inj ho
                have d5 : lp.getD 5 false = true := hdep { on := 5, ground := .data } (by simp) rfl
                have e97 : a'.tmps[97]? = some (.int .i64 ((A0 : Int) + 1)) := (hS.don 5 _ 97 rfl d5 rfl).trans (by simp only [putAll, Act.put, List.setIfInBounds_toArray, List.set_cons_zero, List.set_cons_succ]; rfl)
                have hK' := hK () w' (fun _ _ _ _ _ _ => rfl) hR (.int .i64 ((A0 : Int) + 1)) (by simp only [valO, Option.bind_some]; simp only [putAll, Act.put, List.setIfInBounds_toArray, List.set_cons_zero, List.set_cons_succ]; rfl)
                have x0 := hR.ca 0 HA0.out
                clear hS hdep hR
                refine gh_quiet (v := .int .i64 ((A0 : Int) + 1)) ?_ ?_
                · (simp only [execOp, Act.eval, e97]; go_simp; first | done | (simp; done) | (simp [*]; done) | omega | (simp; omega) | (simp [*]; omega))
                · exact hK'
              | n + 10, ho, hun, hdep, hK, hq => exact absurd hq (by omega)
            case fin92 =>
              intro g W5 hR
              have z0 := at_blk hR.res 0 (.int .u64 0) rfl
              have z1 := at_blk hR.res 1 (.int .u64 0) rfl
              have z2 := at_blk hR.res 2 (.int .i64 0) rfl
              have z3 := at_blk hR.res 3 (.int .i64 0) rfl
              have HL := hidR hR.low
              simp only [putAll, Act.put, List.setIfInBounds_toArray, List.set_cons_zero, List.set_cons_succ]
              clear hR HV
              refine wl_nil (P := Tryz.prog) (ops := #[]) ?_
              go_wp2
              exact bodyPost_ret (v := .tuple #[.agg #[.int .u64 0, .int .u64 0, .int .i64 0, .int .i64 0], .bool true, .int .i64 pe, .int .i64 ((A0 : Int) + 1)]) (by simp [results, Tryz.results26, go_sem, z0, z1, z2, z3]) rfl ⟨HEN.out, HL.out⟩
end Go.Proofs.YtmeaikmmhgmgnaaGreat
