/-
  Part 24 of the proof: 3 texts, one behind the other.
-/
import Derived.Test.YtmeaikmmhgmgnaaGreatPart2
import Derived.Deep.AppendLies
import Derived.Deep.RegionHeld3
import Derived.Test.YtmeaikmmhgmgnaaGreatPart21
import Derived.Test.YtmeaikmmhgmgnaaGreatPart23
import Derived.Test.YtmeaikmmhgmgnaaGreatPart9
import Derived.Test.YtmeaikmmhgmgnaaGreatPart10
namespace Go.Proofs.YtmeaikmmhgmgnaaGreat
open Go.RowKit
set_option linter.unusedSimpArgs false
set_option linter.unusedVariables false

def nib (x : BitVec 128) (k : Nat) : Nat := (lv (x >>> (124 - 4 * k))).toNat % 16
def chN (d : Nat) : Nat := if d < 10 then 48 + d else 87 + d
end Go.Proofs.YtmeaikmmhgmgnaaGreat
namespace Go.Proofs.YtmeaikmmhgmgnaaGreat
open Go.RowKit
set_option linter.unusedSimpArgs false
set_option linter.unusedVariables false

def cellsT (x : BitVec 128) (k : Nat) : List Value := (List.range k).map fun j => Value.int .u8 (chN (nib x j) : Int)
theorem own_below {base e size n : Nat} {v : Value} {xs : List Value} {W w' : World} (hb : Below W.heap.size W w') (h : W.ownsRow base e size v n xs) : w'.ownsRow base e size v n xs := by
  refine h.kept (row := none) ⟨hb.os, hb.tape, hb.output, hb.size, fun k hk _ => hb.block k hk⟩ ?_
  cases v.ownBlock with
  | none => exact Or.inl rfl
  | some a => exact Or.inr (by simp)

end Go.Proofs.YtmeaikmmhgmgnaaGreat
namespace Go.Proofs.YtmeaikmmhgmgnaaGreat
open Go.RowKit
set_option linter.unusedSimpArgs false
set_option linter.unusedVariables false

def CR5 (w4 : World) (g o b : Nat) (qx : BitVec 128) (qn : Int) (x : BitVec 128) (pn : Int) (W : World) : Prop := (W.cell? ⟨g, o, none⟩ = some (.int .u64 (hI qx)) ∧ W.cell? ⟨g, o + 1, none⟩ = some (.int .u64 (lI qx)) ∧ W.cell? ⟨g, o + 2, none⟩ = some (.int .i64 qn)) ∧ (W.cell? ⟨b, 0, none⟩ = some (.int .u64 (hI x)) ∧ W.cell? ⟨b, 1, none⟩ = some (.int .u64 (lI x)) ∧ W.cell? ⟨b, 2, none⟩ = some (.int .i64 pn)) ∧ Below w4.heap.size w4 W
theorem CR5.below {w4 W W' : World} {g o b : Nat} {qx x : BitVec 128} {qn pn : Int} (h : CR5 w4 g o b qx qn x pn W) (hb : Below W.heap.size W W') : CR5 w4 g o b qx qn x pn W' := ⟨⟨keepc hb h.1.1, keepc hb h.1.2.1, keepc hb h.1.2.2⟩, ⟨keepc hb h.2.1.1, keepc hb h.2.1.2.1, keepc hb h.2.1.2.2⟩, keepb hb h.2.2⟩
theorem CR5.drew {w4 W : World} {g o b : Nat} {qx x : BitVec 128} {qn pn : Int} (h : CR5 w4 g o b qx qn x pn W) : CR5 w4 g o b qx qn x pn W.drew := h.below (below_drewN (Below.refl _ _) 1)
theorem stopHereW {P : Program} {w : World} {ops : Array Oper} {rest : List Oper} {a : Act} {Q : Exit → Act → World → Prop} {o : Oper} (h : Hid (wpList P ops Q (o :: rest) a w)) : wpList P ops Q (o :: rest) a w := h.out
theorem grown_set2 {w W : World} {r : Option Nat} {g : Nat} (h : w.grownBy W r) (hg : r = some g ∨ w.heap.size ≤ g) (i j : Nat) (u v : Value) : w.grownBy ((W.setCell ⟨g, i, none⟩ u).setCell ⟨g, j, none⟩ v) r := by
  have b : Below 0 W ((W.setCell ⟨g, i, none⟩ u).setCell ⟨g, j, none⟩ v) := ((Below.refl _ _).setCell (Nat.zero_le _) u).setCell (Nat.zero_le _) v
  refine ⟨by rw [b.os, h.os], by rw [b.tape, h.tape], by rw [b.output, h.output], Nat.le_trans h.size b.size, fun z h1 h2 => ?_⟩
  have hne : ¬ z = g := by
    rintro rfl
    rcases hg with q | q
    · exact h2 q.symm
    · omega
  rw [hSet _ hne, hSet _ hne, h.block z h1 h2]
theorem below_grown {w W : World} {r : Option Nat} (h : Below w.heap.size w W) : w.grownBy W r := ⟨h.os, h.tape, h.output, h.size, fun z h1 _ => h.block z h1⟩
def PtR (base : Nat) (v : Value) (S : List Rte) (w : World) (v' : Value) (w' : World) : Prop := w'.ownsRow base 47 4 v' S.length (rowR S) ∧ w.grownBy w' v.ownBlock ∧ (∀ z, v'.ownBlock = some z → v.ownBlock = some z ∨ w.heap.size ≤ z)
theorem set_midR (S : List Rte) (k : Nat) (hk : k ≤ S.length) (d q : Rte) : (S.take k ++ d :: S.drop k).set k q = S.take k ++ q :: S.drop k := by
  rw [List.set_append_right _ _ (by simp; omega)]
  congr 1
  have : k - (S.take k).length = 0 := by simp; omega
  rw [this]
  rfl
theorem mid_backR (S : List Rte) (k : Nat) (hk : k < S.length) : S.take (k + 1) ++ S[k] :: S.drop (k + 1) = S.take k ++ S[k] :: S.drop k := by
  rw [List.take_succ_eq_append_getElem hk, List.append_assoc]
  congr 1
  rw [List.drop_eq_getElem_cons hk]
  rfl
set_option maxRecDepth 20000 in
set_option maxHeartbeats 16000000 in
theorem rset_any (base : Nat) (v : Value) (S : List Rte) (x : BitVec 128) (pn h : Int) (w : World) (hown : w.ownsRow base 47 4 v S.length (rowR S)) (hbs : base ≤ w.heap.size) (hl : S.length ≤ 1000000000) :
    Calls Tryz.prog 27 #[v, .agg #[.int .u64 (hI x), .int .u64 (lI x), .int .i64 pn, .int .i64 h]] w fun e w' => ∃ v', e = .returned v' ∧ PtR base v (setF S ((x, pn), h)) w v' w' := by
  obtain ⟨i0, hi, hz0, hz1, hz2⟩ := info_parts Tryz.infoR
  obtain ⟨k, hk⟩ : ∃ k, k = S.length := ⟨_, rfl⟩
  rw [← hk] at hown hl
  obtain ⟨oo, oc, rfl⟩ := own_form hown
  have hS0 : S.length = k := hk.symm
  have HNX : Hid (Value.ownBlock (.slice oo k oc) ≠ some w.heap.size) := hidR (fun e => by have := (hown.lt _ e).2; omega)
  have HNG : Hid (∀ g, (Value.ownBlock (.slice oo k oc) = some g ∨ w.heap.size + 1 ≤ g) → ¬ w.heap.size = g) := hidR (fun g h e => by
    rcases h with h | h
    · exact HNX.out (by rw [h, e])
    · omega)
  have b0 := bl1 w (.cells #[.int .u64 (hI x), .int .u64 (lI x), .int .i64 pn, .int .i64 h] 47)
  have HO := hidR hown
  have HX : Hid ((w.alloc (.cells #[.int .u64 (hI x), .int .u64 (lI x), .int .i64 pn, .int .i64 h] 47)).heap[w.heap.size]? = some (.cells #[.int .u64 (hI x), .int .u64 (lI x), .int .i64 pn, .int .i64 h] 47)) := hidR Array.getElem?_push_size
  have HB := hidR b0
  have mk0 : IntKind.i64.wrap ((k : Int) + 1 - 1) = (k : Int) := by rw [IntKind.wrap_i64]; omega
  have mk1 : IntKind.i64.wrap (k : Int) = (k : Int) := by rw [IntKind.wrap_i64]; omega
  have h47 : (k + 1) * 32 ≤ 140737488355328 := by omega
  have h63 : k + 1 ≤ maxLen := by unfold maxLen; omega
  obtain ⟨W0, hW0⟩ : ∃ W0, W0 = w.alloc (.cells #[.int .u64 (hI x), .int .u64 (lI x), .int .i64 pn, .int .i64 h] 47) := ⟨_, rfl⟩
  clear hown hk b0
  go_enter Tryz.func27, Tryz.ntmps27
  go_wp2_with fail
  rw [← hW0] at HX HB
  try rw [← hW0]
  go_loopw [5] (fun i w5 => ∃ a : Nat, a ≤ k ∧ i = .int .i64 a ∧ Hid (∀ q ∈ S.drop a, cmR ((x, pn), h) q < 0) ∧ Hid (Below W0.heap.size W0 w5)) (fun i _ => (intOf i).toNat)
  case atStart => exact ⟨k, by omega, rfl, hidR (fun q hq => by rw [List.drop_eq_nil_of_le (by omega)] at hq; cases hq), hidR (by first | exact Below.refl _ _ | (rw [hW0]; exact Below.refl _ _))⟩
  case round =>
    obtain ⟨a, ha, rfl, HQ, HB5⟩ := hrel
    have HBw := hidR (keepb HB5.out HB.out)
    have hsz : W0.heap.size = w.heap.size + 1 := by rw [hW0]; simp
    cases a with
    | zero =>
      have hC := HB5.out.drew
      have hz00 : ((0 : Nat) : Int) = 0 := rfl
      rw [hz00]
      have HP := hidR (setF_zero HQ.out)
      have HXs : Hid (w.heap.size < W0.heap.size) := hidR (by omega)
      clear hz00
      go_wp2_with fail
      refine qw_region (C := fun W => Below W0.heap.size W0 W) (by kernel_rfl) (by kernel_rfl) hC ?_
      clear hC
      refine qw_run (v := .int .i64 0) (by rfl) ?_ ?_
      · (intro w1 hC; clear hC; go_simp; first | done | (simp; done) | (simp [*]; done) | omega | (simp; omega) | (rw [IntKind.wrap_i64]; omega) | (intro hx; omega) | rfl)
      simp only [Act.put, List.setIfInBounds_toArray, List.set_cons_zero, List.set_cons_succ]
      refine qw_run (v := .bool false) (by rfl) ?_ ?_
      · (intro w1 hC; clear hC; go_simp; first | done | (simp; done) | (simp [*]; done) | omega | (simp; omega) | (rw [IntKind.wrap_i64]; omega) | (intro hx; omega) | rfl)
      simp only [Act.put, List.setIfInBounds_toArray, List.set_cons_zero, List.set_cons_succ]
      refine qw_run (v := .bool false) (by rfl) ?_ ?_
      · (intro w1 hC; clear hC; go_simp; first | done | (simp; done) | (simp [*]; done) | omega | (simp; omega) | (rw [IntKind.wrap_i64]; omega) | (intro hx; omega) | rfl)
      simp only [Act.put, List.setIfInBounds_toArray, List.set_cons_zero, List.set_cons_succ]
      refine qw_skip (by rfl) ?_
      simp only [Act.put, List.setIfInBounds_toArray, List.set_cons_zero, List.set_cons_succ]
      refine qw_skip (by rfl) ?_
      simp only [Act.put, List.setIfInBounds_toArray, List.set_cons_zero, List.set_cons_succ]
      refine qw_skip (by rfl) ?_
      simp only [Act.put, List.setIfInBounds_toArray, List.set_cons_zero, List.set_cons_succ]
      refine qw_skip (by rfl) ?_
      simp only [Act.put, List.setIfInBounds_toArray, List.set_cons_zero, List.set_cons_succ]
      refine qw_skip (by rfl) ?_
      simp only [Act.put, List.setIfInBounds_toArray, List.set_cons_zero, List.set_cons_succ]
      refine qw_skip (by rfl) ?_
      simp only [Act.put, List.setIfInBounds_toArray, List.set_cons_zero, List.set_cons_succ]
      refine qw_skip (by rfl) ?_
      simp only [Act.put, List.setIfInBounds_toArray, List.set_cons_zero, List.set_cons_succ]
      refine qw_skip (by rfl) ?_
      simp only [Act.put, List.setIfInBounds_toArray, List.set_cons_zero, List.set_cons_succ]
      refine qw_skip (by rfl) ?_
      simp only [Act.put, List.setIfInBounds_toArray, List.set_cons_zero, List.set_cons_succ]
      refine qw_skip (by rfl) ?_
      simp only [Act.put, List.setIfInBounds_toArray, List.set_cons_zero, List.set_cons_succ]
      refine qw_run (v := .bool false) (by rfl) ?_ ?_
      · (intro w1 hC; clear hC; go_simp; first | done | (simp; done) | (simp [*]; done) | omega | (simp; omega) | (rw [IntKind.wrap_i64]; omega) | (intro hx; omega) | rfl)
      simp only [Act.put, List.setIfInBounds_toArray, List.set_cons_zero, List.set_cons_succ]
      refine qw_nil ?_
      intro W6 hC6
      have HX1 := HX
      clear HX
      have HX : Hid (W6.heap[w.heap.size]? = some (.cells #[.int .u64 (hI x), .int .u64 (lI x), .int .i64 pn, .int .i64 h] 47)) := hidR ((hC6.block _ HXs.out).trans HX1.out)
      have HC6 := hidR hC6
      clear hC6 HB5 HBw HX1
      go_wp2_with fail
      go_quiet (fail)
      have HX1 := HX
      clear HX
      have HX : Hid (W0.heap[w.heap.size]? = some (.cells #[.int .u64 (hI x), .int .u64 (lI x), .int .i64 pn, .int .i64 h] 47)) := hidR ((HC6.out.block _ HXs.out).symm.trans HX1.out)
      have HB7 := hidR (below_drewN HC6.out nq)
      generalize W6.drewN nq = W7 at HB7 ⊢
      have HB7w := hidR (keepb HB7.out HB.out)
      have HO6 := hidR (own_below HB7w.out HO.out)
      have HG6 : Hid (w.grownBy W7 (Value.ownBlock (.slice oo k oc))) := hidR (below_grown HB7w.out)
      have HX6 : Hid (W7.heap[w.heap.size]? = some (.cells #[.int .u64 (hI x), .int .u64 (lI x), .int .i64 pn, .int .i64 h] 47)) := hidR ((HB7.out.block _ (by omega)).trans HX.out)
      have hs7 := HB7.out.size
      clear HC6 HB7 HB7w HO HX HB
      go_wp2_with (at_builtin; apply stopHereW)
      refine (show wpList _ _ _ _ _ _ from ?_)
      refine wpList_append_lies _ rfl _ _ 23 rfl base 47 i0 (.agg #[.int .u64 0, .int .u64 0, .int .i64 0, .int .i64 0]) 4 32 Tryz.underlying23 hi hz0 hz1 hz2 rfl (by decide) _ _ _ rfl (HO6.out.alloc _) ⟨W7.heap.size, 0, none⟩ 1 1 [.int .u64 0, .int .u64 0, .int .i64 0, .int .i64 0] rfl rfl (newsR6 _ _ rfl _ _ _ _ _) (fourR6' _ _ _ _) (by decide) h63 h47 (by have := HG6.out.size; have := hbs; simp; omega) _ rfl ?_
      intro g4 cap4 w7 ho7 hgrow hat hlt4
      have HG7 : Hid (w.grownBy w7 (Value.ownBlock (.slice oo k oc))) := hidR ((HG6.out.trans (World.grownBy_alloc W7 _ _)).trans hgrow)
      have HT7 : Hid ((Value.ownBlock (.slice oo k oc)) = some g4 ∨ w.heap.size + 1 ≤ g4) := hidR (by
        rcases hat with q | q
        · exact .inl q
        · right
          simp at q
          omega)
      have HT8 : Hid ((Value.ownBlock (.slice oo k oc)) = some g4 ∨ w.heap.size ≤ g4) := hidR (by rcases HT7.out with q | q; exact .inl q; exact .inr (by omega))
      have HX7 : Hid (w7.heap[w.heap.size]? = some (.cells #[.int .u64 (hI x), .int .u64 (lI x), .int .i64 pn, .int .i64 h] 47)) := hidR ((hgrow.block _ (by have := blk_lt5 HX6.out; simp; omega) (fun e => HNX.out e.symm)).trans ((bl1 W7 (.cells #[.int .u64 0, .int .u64 0, .int .i64 0, .int .i64 0] 47)).block _ (blk_lt5 HX6.out) |>.trans HX6.out))
      have HO7 : Hid (RwO w7 base g4 cap4 (k + 1) (S.take k ++ ((0#128, 0), 0) :: S.drop k)) := hidR ⟨by simp; omega, by
        rw [List.take_of_length_le (by omega), List.drop_eq_nil_of_le (by omega), rowR_oneE, hI_zero, lI_zero]
        exact ho7⟩
      clear ho7 hgrow hat hlt4 HO6 HG6 HX6
      go_wp2_with fail
      go_loopw [6] (fun i w8 => ∃ (m : Nat) (d : Rte), 0 ≤ m ∧ m ≤ k ∧ i = .int .i64 m ∧ Hid (RwO w8 base g4 cap4 (k + 1) (S.take m ++ d :: S.drop m)) ∧ Hid (w.grownBy w8 (Value.ownBlock (.slice oo k oc))) ∧ Hid (w8.heap[w.heap.size]? = some (.cells #[.int .u64 (hI x), .int .u64 (lI x), .int .i64 pn, .int .i64 h] 47))) (fun i _ => (intOf i).toNat)
      case atStart => exact ⟨k, ((0#128, 0), 0), by omega, by omega, rfl, HO7, HG7, HX7⟩
      case round =>
        clear HO7 HG7 HX7
        obtain ⟨m, d, hm1, hm2, rfl, HO8, HG8, HX8⟩ := hrel
        have hZl : (S.take m ++ d :: S.drop m).length = k + 1 := by simp; omega
        by_cases hmt : 0 < m
        · obtain ⟨j, rfl⟩ : ∃ j, m = j + 1 := ⟨m - 1, by omega⟩
          have hjS : j < S.length := by omega
          obtain ⟨x0, x1, x2, x3⟩ := HO8.out.cells (j := j) (r := S[j]) (by rw [List.getElem?_append_left (by simp; omega), List.getElem?_take, if_pos (by omega)]; exact List.getElem?_eq_getElem hjS)
          obtain ⟨t0, t1, t2, t3⟩ := HO8.out.cells (j := j + 1) (r := d) (by rw [List.getElem?_append_right (by simp; omega)]; simp [Nat.min_eq_left (show j + 1 ≤ S.length by omega)])
          have s0 := HO8.out.free (j := (j + 1) * 4) (by omega)
          have s1 := HO8.out.free (j := (j + 1) * 4 + 1) (by omega)
          have s2 := HO8.out.free (j := (j + 1) * 4 + 2) (by omega)
          have s3 := HO8.out.free (j := (j + 1) * 4 + 3) (by omega)
          have e1 : ((j + 1 : Nat) : Int) = (j : Int) + 1 := by omega
          have m1 : IntKind.i64.wrap ((j : Int) + 1 - 1) = (j : Int) := by rw [IntKind.wrap_i64]; omega
          have m2 : IntKind.i64.wrap (j : Int) = (j : Int) := by rw [IntKind.wrap_i64]; omega
          have i1 : (j : Int) < (k : Int) + 1 := by omega
          have i2 : (j : Int) + 1 < (k : Int) + 1 := by omega
          have i3 : (0 : Int) < (j : Int) + 1 := by omega
          have i5 : j < k + 1 := by omega
          have i6 : j < k := by omega
          have i7 : (j : Int) < (k : Int) := by omega
          have HRn := hidR (HO8.out.set (j := j + 1) (by omega) S[j])
          rw [set_midR S (j + 1) (by omega), mid_backR S j hjS] at HRn
          rw [e1]
          clear e1
          revert HRn
          generalize S[j] = sx at *
          obtain ⟨⟨sx, sn⟩, sh⟩ := sx
          obtain ⟨⟨dx, dn⟩, dh⟩ := d
          intro HRn
          go_wp2
          go_roundw
          case rel =>
            have hne := HNG.out g4 HT7.out
            exact ⟨j, ((sx, sn), sh), by omega, by omega, by go_num, HRn, hidR (grown_set2 (grown_set2 HG8.out HT8.out _ _ _ _) HT8.out _ _ _ _), hidR (by rw [hSet _ hne, hSet _ hne, hSet _ hne, hSet _ hne]; exact HX8.out)⟩
          case measure => first | (simp [intOf]; done) | (simp [intOf]; omega)
        · obtain rfl : m = 0 := by omega
          have v0 := at_blk HX8.out 0 (.int .u64 (hI x)) rfl
          have v1 := at_blk HX8.out 1 (.int .u64 (lI x)) rfl
          have v2 := at_blk HX8.out 2 (.int .i64 pn) rfl
          have v3 := at_blk HX8.out 3 (.int .i64 h) rfl
          obtain ⟨t0, t1, t2, t3⟩ := HO8.out.cells (j := 0) (r := d) (by rw [List.getElem?_append_right (by rw [List.length_take]; omega), List.length_take, Nat.min_eq_left (by omega), Nat.sub_self]; rfl)
          have s0 := HO8.out.free (j := (0) * 4) (by omega)
          have s1 := HO8.out.free (j := (0) * 4 + 1) (by omega)
          have s2 := HO8.out.free (j := (0) * 4 + 2) (by omega)
          have s3 := HO8.out.free (j := (0) * 4 + 3) (by omega)
          have i2 : (0 : Int) < (k : Int) + 1 := by omega
          have i5 : 0 < k + 1 := by omega
          have hRn := HO8.out.set (j := 0) (by omega) ((x, pn), h)
          rw [set_midR S (0) (by omega), HP.out] at hRn
          have hSl : (setF S ((x, pn), h)).length = k + 1 := hRn.1
          have HR : Hid (PtR base (.slice oo k oc) (setF S ((x, pn), h)) w (.slice (some ⟨g4, 0, none⟩) (k + 1) cap4) _) := hidR ⟨by rw [hSl]; exact hRn.2, grown_set2 (grown_set2 HG8.out HT8.out _ _ _ _) HT8.out _ _ _ _, fun z e => by
            have e : g4 = z := by simpa [Value.ownBlock] using e
            rw [← e]; exact HT8.out⟩
          obtain ⟨⟨dx, dn⟩, dh⟩ := d
          clear hRn hSl HO8 HG8 HX8
          go_wp2
          go_ret
          exact ⟨_, rfl, HR.out⟩
    | succ a =>
      have ha2 : a < S.length := by omega
      have ho := own_below HBw.out HO.out
      rcases ho.2 with ⟨e, h⟩ | ⟨g, cap, cur, e, -⟩
      · omega
      · injection e with e1 e2 e3
        subst e1
        subst e3
        clear e2
        have hRo : RwO wr base g oc k S := ⟨hS0, ho⟩
        obtain ⟨x0, x1, x2, x3⟩ := hRo.cells (j := a) (r := S[a]) (List.getElem?_eq_getElem ha2)
        have hXr : wr.heap[w.heap.size]? = some (.cells #[.int .u64 (hI x), .int .u64 (lI x), .int .i64 pn, .int .i64 h] 47) := (HB5.out.block _ (by omega)).trans HX.out
        have u0 := at_blk hXr 0 (.int .u64 (hI x)) rfl
        have u1 := at_blk hXr 1 (.int .u64 (lI x)) rfl
        have u2 := at_blk hXr 2 (.int .i64 pn) rfl
        have KP := fun w => rpcmp_any S[a].1.1 S[a].1.2 x pn w
        have HZ : Hid (0 < pcmpZ S[a].1.1 S[a].1.2 x pn ↔ cmR ((x, pn), h) S[a] < 0) := hidR (by
          have := cm_neg S[a] ((x, pn), h)
          have e : cmR S[a] ((x, pn), h) = pcmpZ S[a].1.1 S[a].1.2 x pn := rfl
          rw [this, e]; omega)
        have HDa : Hid (S.drop a = S[a] :: S.drop (a + 1)) := hidR (List.drop_eq_getElem_cons ha2)
        have HNw : Hid (¬ cmR ((x, pn), h) S[a] < 0 → ((S[a].1.1 == x) && (S[a].1.2 == pn)) = false → S.take (a + 1) ++ ((x, pn), h) :: S.drop (a + 1) = setF S ((x, pn), h)) := hidR (fun h1 h2 => setF_new ha2 HQ.out h1 h2)
        have HOl : Hid (¬ cmR ((x, pn), h) S[a] < 0 → ((S[a].1.1 == x) && (S[a].1.2 == pn)) = true → S.set a ((x, pn), h) = setF S ((x, pn), h)) := hidR (fun h1 h2 => setF_old ha2 HQ.out h1 h2)
        have hCW : CR5 W0 g (a * 4) w.heap.size S[a].1.1 S[a].1.2 x pn wr := ⟨⟨x0, x1, x2⟩, ⟨u0, u1, u2⟩, HB5.out⟩
        have HCW := hidR hCW.drew
        have e1 : ((a + 1 : Nat) : Int) = (a : Int) + 1 := by omega
        have m1 : IntKind.i64.wrap ((a : Int) + 1 - 1) = (a : Int) := by rw [IntKind.wrap_i64]; omega
        have m2 : IntKind.i64.wrap (a : Int) = (a : Int) := by rw [IntKind.wrap_i64]; omega
        have i1 : (a : Int) < (k : Int) := by omega
        have i2 : a < k := by omega
        have i4 : (0 : Int) < (a : Int) + 1 := by omega
        have hE := fun w => eqP_run S[a].1.1 S[a].1.2 x pn w
        have HQa : Hid (S[a]? = some S[a]) := hidR (List.getElem?_eq_getElem ha2)
        rw [e1]
        clear hCW ho x0 x1 x2 x3 u0 u1 u2 e1 HBw hRo hXr
        revert KP HZ HCW hE HDa HNw HOl HQa
        generalize S[a] = qq
        obtain ⟨⟨qx, qn⟩, qh⟩ := qq
        dsimp only
        generalize pcmpZ qx qn x pn = z
        intro KP HZ HDa HNw HOl HCW hE HQa
        obtain ⟨⟨x0, x1, x2⟩, ⟨u0, u1, u2⟩, -⟩ := HCW.out
        go_wp2_with fail
        refine qw_region (C := CR5 W0 g (a * 4) w.heap.size qx qn x pn) (by kernel_rfl) (by kernel_rfl) HCW.out ?_
        clear x0 x1 x2 u0 u1 u2 HCW
        refine qw_run (v := .int .i64 ((a : Int) + 1)) (by rfl) ?_ ?_
        · (intro w1 hC; obtain ⟨⟨x0, x1, x2⟩, ⟨u0, u1, u2⟩, -⟩ := hC; go_simp; first | done | (simp; done) | (simp [*]; done) | omega | (simp; omega) | (rw [IntKind.wrap_i64]; omega) | (intro hx; omega) | rfl)
        simp only [Act.put, List.setIfInBounds_toArray, List.set_cons_zero, List.set_cons_succ]
        refine qw_run (v := .bool true) (by rfl) ?_ ?_
        · (intro w1 hC; obtain ⟨⟨x0, x1, x2⟩, ⟨u0, u1, u2⟩, -⟩ := hC; go_simp; first | done | (simp; done) | (simp [*]; done) | omega | (simp; omega) | (rw [IntKind.wrap_i64]; omega) | (intro hx; omega) | rfl)
        simp only [Act.put, List.setIfInBounds_toArray, List.set_cons_zero, List.set_cons_succ]
        refine qw_run (v := .bool true) (by rfl) ?_ ?_
        · (intro w1 hC; obtain ⟨⟨x0, x1, x2⟩, ⟨u0, u1, u2⟩, -⟩ := hC; go_simp; first | done | (simp; done) | (simp [*]; done) | omega | (simp; omega) | (rw [IntKind.wrap_i64]; omega) | (intro hx; omega) | rfl)
        simp only [Act.put, List.setIfInBounds_toArray, List.set_cons_zero, List.set_cons_succ]
        refine qw_run (v := .slice (some ⟨g, 0, none⟩) k oc) (by rfl) ?_ ?_
        · (intro w1 hC; obtain ⟨⟨x0, x1, x2⟩, ⟨u0, u1, u2⟩, -⟩ := hC; go_simp; first | done | (simp; done) | (simp [*]; done) | omega | (simp; omega) | (rw [IntKind.wrap_i64]; omega) | (intro hx; omega) | rfl)
        simp only [Act.put, List.setIfInBounds_toArray, List.set_cons_zero, List.set_cons_succ]
        refine qw_run (v := .int .i64 ((a : Int) + 1)) (by rfl) ?_ ?_
        · (intro w1 hC; obtain ⟨⟨x0, x1, x2⟩, ⟨u0, u1, u2⟩, -⟩ := hC; go_simp; first | done | (simp; done) | (simp [*]; done) | omega | (simp; omega) | (rw [IntKind.wrap_i64]; omega) | (intro hx; omega) | rfl)
        simp only [Act.put, List.setIfInBounds_toArray, List.set_cons_zero, List.set_cons_succ]
        refine qw_run (v := .int .i64 (a : Int)) (by rfl) ?_ ?_
        · (intro w1 hC; obtain ⟨⟨x0, x1, x2⟩, ⟨u0, u1, u2⟩, -⟩ := hC; go_simp; first | done | (simp; done) | (simp [*]; done) | omega | (simp; omega) | (rw [IntKind.wrap_i64]; omega) | (intro hx; omega) | rfl)
        simp only [Act.put, List.setIfInBounds_toArray, List.set_cons_zero, List.set_cons_succ]
        refine qw_run (v := .pointer (some ⟨g, a * 4, none⟩)) (by rfl) ?_ ?_
        · (intro w1 hC; obtain ⟨⟨x0, x1, x2⟩, ⟨u0, u1, u2⟩, -⟩ := hC; go_simp; first | done | (simp; done) | (simp [*]; done) | omega | (simp; omega) | (rw [IntKind.wrap_i64]; omega) | (intro hx; omega) | rfl)
        simp only [Act.put, List.setIfInBounds_toArray, List.set_cons_zero, List.set_cons_succ]
        refine qw_run (v := .pointer (some ⟨g, a * 4, none⟩)) (by rfl) ?_ ?_
        · (intro w1 hC; obtain ⟨⟨x0, x1, x2⟩, ⟨u0, u1, u2⟩, -⟩ := hC; go_simp; first | done | (simp; done) | (simp [*]; done) | omega | (simp; omega) | (rw [IntKind.wrap_i64]; omega) | (intro hx; omega) | rfl)
        simp only [Act.put, List.setIfInBounds_toArray, List.set_cons_zero, List.set_cons_succ]
        refine qw_run (v := .agg #[.int .u64 (hI qx), .int .u64 (lI qx), .int .i64 qn]) (by rfl) ?_ ?_
        · (intro w1 hC; obtain ⟨⟨x0, x1, x2⟩, ⟨u0, u1, u2⟩, -⟩ := hC; go_simp; first | done | (simp; done) | (simp [*]; done) | omega | (simp; omega) | (rw [IntKind.wrap_i64]; omega) | (intro hx; omega) | rfl)
        simp only [Act.put, List.setIfInBounds_toArray, List.set_cons_zero, List.set_cons_succ]
        refine qw_run (v := .pointer (some ⟨w.heap.size, 0, none⟩)) (by rfl) ?_ ?_
        · (intro w1 hC; obtain ⟨⟨x0, x1, x2⟩, ⟨u0, u1, u2⟩, -⟩ := hC; go_simp; first | done | (simp; done) | (simp [*]; done) | omega | (simp; omega) | (rw [IntKind.wrap_i64]; omega) | (intro hx; omega) | rfl)
        simp only [Act.put, List.setIfInBounds_toArray, List.set_cons_zero, List.set_cons_succ]
        refine qw_run (v := .agg #[.int .u64 (hI x), .int .u64 (lI x), .int .i64 pn]) (by rfl) ?_ ?_
        · (intro w1 hC; obtain ⟨⟨x0, x1, x2⟩, ⟨u0, u1, u2⟩, -⟩ := hC; go_simp; first | done | (simp; done) | (simp [*]; done) | omega | (simp; omega) | (rw [IntKind.wrap_i64]; omega) | (intro hx; omega) | rfl)
        simp only [Act.put, List.setIfInBounds_toArray, List.set_cons_zero, List.set_cons_succ]
        refine qw_call (v := .int .i64 z) (f := 53) (args := #[.agg #[.int .u64 (hI qx), .int .u64 (lI qx), .int .i64 qn], .agg #[.int .u64 (hI x), .int .u64 (lI x), .int .i64 pn]]) (by rfl) ?_ ?_ ?_
        · (intro w1 hC; clear hC; go_simp)
        · exact fun w1 hC => (KP w1).mono fun e w' ⟨he, hb⟩ => ⟨he, hC.below hb⟩
        simp only [Act.put, List.setIfInBounds_toArray, List.set_cons_zero, List.set_cons_succ]
        refine qw_run (v := .bool (decide (0 < z))) (by rfl) ?_ ?_
        · (intro w1 hC; obtain ⟨⟨x0, x1, x2⟩, ⟨u0, u1, u2⟩, -⟩ := hC; go_simp; first | done | (simp; done) | (simp [*]; done) | omega | (simp; omega) | (rw [IntKind.wrap_i64]; omega) | (intro hx; omega) | rfl)
        simp only [Act.put, List.setIfInBounds_toArray, List.set_cons_zero, List.set_cons_succ]
        refine qw_run (v := .bool (decide (0 < z))) (by rfl) ?_ ?_
        · (intro w1 hC; obtain ⟨⟨x0, x1, x2⟩, ⟨u0, u1, u2⟩, -⟩ := hC; go_simp; first | done | (simp; done) | (simp [*]; done) | omega | (simp; omega) | (rw [IntKind.wrap_i64]; omega) | (intro hx; omega) | rfl)
        simp only [Act.put, List.setIfInBounds_toArray, List.set_cons_zero, List.set_cons_succ]
        refine qw_nil ?_
        intro W6 hC6
        obtain ⟨⟨x0, x1, x2⟩, ⟨u0, u1, u2⟩, hC6⟩ := hC6
        have HC6 := hidR hC6
        clear hC6 HB5 KP
        by_cases hz : z ≤ 0
        · have hz' : ¬ 0 < z := by omega
          have hzd : decide (0 < z) = false := by simpa using hz'
          have HZ1 : Hid (¬ cmR ((x, pn), h) ((qx, qn), qh) < 0) := hidR (fun k => hz' (HZ.out.2 k))
          clear HZ
          by_cases hq : ((qx == x) && (qn == pn)) = true
          · rw [hq] at hE
            have HP := hidR (HOl.out (by have := HZ1.out; omega) hq)
            clear HNw HOl HZ1
            go_wp2_with fail
            go_quiet (fail)
            have HB6 := hidR (below_drewN HC6.out nq)
            generalize W6.drewN nq = W7 at HB6 ⊢
            have HB7 := hidR (keepb HB6.out HB.out)
            have hX7 : W7.heap[w.heap.size]? = some (.cells #[.int .u64 (hI x), .int .u64 (lI x), .int .i64 pn, .int .i64 h] 47) := (HB6.out.block _ (by omega)).trans HX.out
            have v0 := at_blk hX7 0 (.int .u64 (hI x)) rfl
            have v1 := at_blk hX7 1 (.int .u64 (lI x)) rfl
            have v2 := at_blk hX7 2 (.int .i64 pn) rfl
            have v3 := at_blk hX7 3 (.int .i64 h) rfl
            have hRo : RwO W7 base g oc k S := ⟨hS0, own_below HB7.out HO.out⟩
            obtain ⟨t0, t1, t2, t3⟩ := hRo.cells (j := a) (r := ((qx, qn), qh)) HQa.out
            have s0 := hRo.free (j := a * 4) (by omega)
            have s1 := hRo.free (j := a * 4 + 1) (by omega)
            have s2 := hRo.free (j := a * 4 + 2) (by omega)
            have s3 := hRo.free (j := a * 4 + 3) (by omega)
            have hRn := hRo.set (j := a) i2 ((x, pn), h)
            rw [HP.out] at hRn
            have hSl : (setF S ((x, pn), h)).length = k := hRn.1
            have hgg : Value.ownBlock (.slice (some ⟨g, 0, none⟩) k oc) = some g := rfl
            have HR : Hid (PtR base (.slice (some ⟨g, 0, none⟩) k oc) (setF S ((x, pn), h)) w (.slice (some ⟨g, 0, none⟩) k oc) _) := hidR ⟨by rw [hSl]; exact hRn.2, grown_set2 (grown_set2 (below_grown HB7.out) (.inl hgg) _ _ _ _) (.inl hgg) _ _ _ _, fun z e => .inl e⟩
            clear HB7 HB6 HC6 x0 x1 x2 u0 u1 u2 hX7 hRo hRn hSl hgg
            go_wp2
            go_ret
            exact ⟨_, rfl, HR.out⟩
          · have hqb : ((qx == x) && (qn == pn)) = false := by simpa using hq
            rw [hqb] at hE
            have HP := hidR (HNw.out (by have := HZ1.out; omega) hqb)
            clear HZ1 HNw HOl
            go_wp2_with fail
            go_quiet (fail)
            clear x0 x1 x2 u0 u1 u2
            have HB7 := hidR (below_drewN HC6.out nq)
            generalize W6.drewN nq = W7 at HB7 ⊢
            have HB7w := hidR (keepb HB7.out HB.out)
            have HO6 := hidR (own_below HB7w.out HO.out)
            have HG6 : Hid (w.grownBy W7 (Value.ownBlock (.slice (some ⟨g, 0, none⟩) k oc))) := hidR (below_grown HB7w.out)
            have HX6 : Hid (W7.heap[w.heap.size]? = some (.cells #[.int .u64 (hI x), .int .u64 (lI x), .int .i64 pn, .int .i64 h] 47)) := hidR ((HB7.out.block _ (by omega)).trans HX.out)
            have hs7 := HB7.out.size
            clear HC6 HB7 HB7w HO HX HB
            go_wp2_with (at_builtin; apply stopHereW)
            refine (show wpList _ _ _ _ _ _ from ?_)
            refine wpList_append_lies _ rfl _ _ 23 rfl base 47 i0 (.agg #[.int .u64 0, .int .u64 0, .int .i64 0, .int .i64 0]) 4 32 Tryz.underlying23 hi hz0 hz1 hz2 rfl (by decide) _ _ _ rfl (HO6.out.alloc _) ⟨W7.heap.size, 0, none⟩ 1 1 [.int .u64 0, .int .u64 0, .int .i64 0, .int .i64 0] rfl rfl (newsR6 _ _ rfl _ _ _ _ _) (fourR6' _ _ _ _) (by decide) h63 h47 (by have := HG6.out.size; have := hbs; simp; omega) _ rfl ?_
            intro g4 cap4 w7 ho7 hgrow hat hlt4
            have HG7 : Hid (w.grownBy w7 (Value.ownBlock (.slice (some ⟨g, 0, none⟩) k oc))) := hidR ((HG6.out.trans (World.grownBy_alloc W7 _ _)).trans hgrow)
            have HT7 : Hid ((Value.ownBlock (.slice (some ⟨g, 0, none⟩) k oc)) = some g4 ∨ w.heap.size + 1 ≤ g4) := hidR (by
              rcases hat with q | q
              · exact .inl q
              · right
                simp at q
                omega)
            have HT8 : Hid ((Value.ownBlock (.slice (some ⟨g, 0, none⟩) k oc)) = some g4 ∨ w.heap.size ≤ g4) := hidR (by rcases HT7.out with q | q; exact .inl q; exact .inr (by omega))
            have HX7 : Hid (w7.heap[w.heap.size]? = some (.cells #[.int .u64 (hI x), .int .u64 (lI x), .int .i64 pn, .int .i64 h] 47)) := hidR ((hgrow.block _ (by have := blk_lt5 HX6.out; simp; omega) (fun e => HNX.out e.symm)).trans ((bl1 W7 (.cells #[.int .u64 0, .int .u64 0, .int .i64 0, .int .i64 0] 47)).block _ (blk_lt5 HX6.out) |>.trans HX6.out))
            have HO7 : Hid (RwO w7 base g4 cap4 (k + 1) (S.take k ++ ((0#128, 0), 0) :: S.drop k)) := hidR ⟨by simp; omega, by
              rw [List.take_of_length_le (by omega), List.drop_eq_nil_of_le (by omega), rowR_oneE, hI_zero, lI_zero]
              exact ho7⟩
            clear ho7 hgrow hat hlt4 HO6 HG6 HX6
            go_wp2_with fail
            go_loopw [6] (fun i w8 => ∃ (m : Nat) (d : Rte), a + 1 ≤ m ∧ m ≤ k ∧ i = .int .i64 m ∧ Hid (RwO w8 base g4 cap4 (k + 1) (S.take m ++ d :: S.drop m)) ∧ Hid (w.grownBy w8 (Value.ownBlock (.slice (some ⟨g, 0, none⟩) k oc))) ∧ Hid (w8.heap[w.heap.size]? = some (.cells #[.int .u64 (hI x), .int .u64 (lI x), .int .i64 pn, .int .i64 h] 47))) (fun i _ => (intOf i).toNat)
            case atStart => exact ⟨k, ((0#128, 0), 0), by omega, by omega, rfl, HO7, HG7, HX7⟩
            case round =>
              clear HO7 HG7 HX7
              obtain ⟨m, d, hm1, hm2, rfl, HO8, HG8, HX8⟩ := hrel
              have hZl : (S.take m ++ d :: S.drop m).length = k + 1 := by simp; omega
              by_cases hmt : a + 1 < m
              · obtain ⟨j, rfl⟩ : ∃ j, m = j + 1 := ⟨m - 1, by omega⟩
                have hjS : j < S.length := by omega
                obtain ⟨x0, x1, x2, x3⟩ := HO8.out.cells (j := j) (r := S[j]) (by rw [List.getElem?_append_left (by simp; omega), List.getElem?_take, if_pos (by omega)]; exact List.getElem?_eq_getElem hjS)
                obtain ⟨t0, t1, t2, t3⟩ := HO8.out.cells (j := j + 1) (r := d) (by rw [List.getElem?_append_right (by simp; omega)]; simp [Nat.min_eq_left (show j + 1 ≤ S.length by omega)])
                have s0 := HO8.out.free (j := (j + 1) * 4) (by omega)
                have s1 := HO8.out.free (j := (j + 1) * 4 + 1) (by omega)
                have s2 := HO8.out.free (j := (j + 1) * 4 + 2) (by omega)
                have s3 := HO8.out.free (j := (j + 1) * 4 + 3) (by omega)
                have e1 : ((j + 1 : Nat) : Int) = (j : Int) + 1 := by omega
                have m1 : IntKind.i64.wrap ((j : Int) + 1 - 1) = (j : Int) := by rw [IntKind.wrap_i64]; omega
                have m2 : IntKind.i64.wrap (j : Int) = (j : Int) := by rw [IntKind.wrap_i64]; omega
                have i1 : (j : Int) < (k : Int) + 1 := by omega
                have i2 : (j : Int) + 1 < (k : Int) + 1 := by omega
                have i3 : (a : Int) + 1 < (j : Int) + 1 := by omega
                have i5 : j < k + 1 := by omega
                have i6 : j < k := by omega
                have i7 : (j : Int) < (k : Int) := by omega
                have HRn := hidR (HO8.out.set (j := j + 1) (by omega) S[j])
                rw [set_midR S (j + 1) (by omega), mid_backR S j hjS] at HRn
                rw [e1]
                clear e1
                revert HRn
                generalize S[j] = sx at *
                obtain ⟨⟨sx, sn⟩, sh⟩ := sx
                obtain ⟨⟨dx, dn⟩, dh⟩ := d
                intro HRn
                go_wp2
                go_roundw
                case rel =>
                  have hne := HNG.out g4 HT7.out
                  exact ⟨j, ((sx, sn), sh), by omega, by omega, by go_num, HRn, hidR (grown_set2 (grown_set2 HG8.out HT8.out _ _ _ _) HT8.out _ _ _ _), hidR (by rw [hSet _ hne, hSet _ hne, hSet _ hne, hSet _ hne]; exact HX8.out)⟩
                case measure => first | (simp [intOf]; done) | (simp [intOf]; omega)
              · obtain rfl : m = a + 1 := by omega
                have v0 := at_blk HX8.out 0 (.int .u64 (hI x)) rfl
                have v1 := at_blk HX8.out 1 (.int .u64 (lI x)) rfl
                have v2 := at_blk HX8.out 2 (.int .i64 pn) rfl
                have v3 := at_blk HX8.out 3 (.int .i64 h) rfl
                obtain ⟨t0, t1, t2, t3⟩ := HO8.out.cells (j := a + 1) (r := d) (by rw [List.getElem?_append_right (by rw [List.length_take]; omega), List.length_take, Nat.min_eq_left (by omega), Nat.sub_self]; rfl)
                have s0 := HO8.out.free (j := (a + 1) * 4) (by omega)
                have s1 := HO8.out.free (j := (a + 1) * 4 + 1) (by omega)
                have s2 := HO8.out.free (j := (a + 1) * 4 + 2) (by omega)
                have s3 := HO8.out.free (j := (a + 1) * 4 + 3) (by omega)
                have i2 : (a : Int) + 1 < (k : Int) + 1 := by omega
                have i5 : a + 1 < k + 1 := by omega
                have hRn := HO8.out.set (j := a + 1) (by omega) ((x, pn), h)
                rw [set_midR S (a + 1) (by omega), HP.out] at hRn
                have hSl : (setF S ((x, pn), h)).length = k + 1 := hRn.1
                have HR : Hid (PtR base (.slice (some ⟨g, 0, none⟩) k oc) (setF S ((x, pn), h)) w (.slice (some ⟨g4, 0, none⟩) (k + 1) cap4) _) := hidR ⟨by rw [hSl]; exact hRn.2, grown_set2 (grown_set2 HG8.out HT8.out _ _ _ _) HT8.out _ _ _ _, fun z e => by
                  have e : g4 = z := by simpa [Value.ownBlock] using e
                  rw [← e]; exact HT8.out⟩
                obtain ⟨⟨dx, dn⟩, dh⟩ := d
                clear hRn hSl HO8 HG8 HX8
                go_wp2
                go_ret
                exact ⟨_, rfl, HR.out⟩
        · have hz' : 0 < z := by omega
          have hzd : decide (0 < z) = true := by simpa using hz'
          have HZ2 := hidR (HZ.out.1 hz')
          clear x0 x1 x2 u0 u1 u2
          go_wp2
          go_roundw
          case rel =>
            refine ⟨a, by omega, by go_num, ?_, HC6⟩
            refine hidR (fun q hq => ?_)
            rw [HDa.out] at hq
            rcases List.mem_cons.mp hq with rfl | hq
            · exact HZ2.out
            · exact HQ.out q hq
          case measure => first | (simp [intOf]; done) | (simp [intOf]; omega)
end Go.Proofs.YtmeaikmmhgmgnaaGreat
