/-
  Part 20 of the proof: 1 texts, one behind the other.
-/
import Derived.Test.YtkgfeegcdohkdaaDoorPart19
/-
  What the call of turnpikeref4's sorted does.
-/
namespace Go.Proofs.YtkgfeegcdohkdaaDoor
open Go.RowKit
set_option linter.unusedSimpArgs false
set_option linter.unusedVariables false

def CQ (w4 : World) (g o b p : Nat) (qx : BitVec 128) (qn : Int) (px : BitVec 128) (pn : Int) (W : World) : Prop := (W.cell? ⟨g, o, none⟩ = some (.int .u64 (hI qx)) ∧ W.cell? ⟨g, o + 1, none⟩ = some (.int .u64 (lI qx)) ∧ W.cell? ⟨g, o + 2, none⟩ = some (.int .i64 qn)) ∧ (W.cell? ⟨b, p, none⟩ = some (.int .u64 (hI px)) ∧ W.cell? ⟨b, p + 1, none⟩ = some (.int .u64 (lI px)) ∧ W.cell? ⟨b, p + 2, none⟩ = some (.int .i64 pn)) ∧ Below w4.heap.size w4 W
theorem CQ.below {w4 W W' : World} {g o b p : Nat} {qx px : BitVec 128} {qn pn : Int} (h : CQ w4 g o b p qx qn px pn W) (hb : Below W.heap.size W W') : CQ w4 g o b p qx qn px pn W' := ⟨⟨keepc hb h.1.1, keepc hb h.1.2.1, keepc hb h.1.2.2⟩, ⟨keepc hb h.2.1.1, keepc hb h.2.1.2.1, keepc hb h.2.1.2.2⟩, keepb hb h.2.2⟩
theorem CQ.drew {w4 W : World} {g o b p : Nat} {qx px : BitVec 128} {qn pn : Int} (h : CQ w4 g o b p qx qn px pn W) : CQ w4 g o b p qx qn px pn W.drew := ⟨h.1, h.2.1, h.2.2.drew⟩
theorem set_mid (S : List (BitVec 128 × Int)) (k : Nat) (hk : k ≤ S.length) (d q : BitVec 128 × Int) : (S.take k ++ d :: S.drop k).set k q = S.take k ++ q :: S.drop k := by
  rw [List.set_append_right _ _ (by simp; omega)]
  congr 1
  have : k - (S.take k).length = 0 := by simp; omega
  rw [this]
  rfl
theorem mid_back (S : List (BitVec 128 × Int)) (k : Nat) (hk : k < S.length) : S.take (k + 1) ++ S[k] :: S.drop (k + 1) = S.take k ++ S[k] :: S.drop k := by
  rw [List.take_succ_eq_append_getElem hk, List.append_assoc]
  congr 1
  rw [List.drop_eq_getElem_cons hk]
  rfl
theorem mid_get (S : List (BitVec 128 × Int)) (k : Nat) (hk : k < S.length) (d : BitVec 128 × Int) (h : k < (S.take (k + 1) ++ d :: S.drop (k + 1)).length) : (S.take (k + 1) ++ d :: S.drop (k + 1))[k] = S[k] := by
  rw [List.getElem_append_left (by simp; omega), List.getElem_take]
theorem stopHereS {P : Program} {w : World} {ops : Array Oper} {rest : List Oper} {a : Act} {Q : Exit → Act → World → Prop} {o : Oper} (h : Hid (wpList P ops Q (o :: rest) a w)) : wpList P ops Q (o :: rest) a w := h.out
set_option maxRecDepth 20000 in
set_option maxHeartbeats 8000000 in
theorem rsorted_any (v : Value) (l : List (BitVec 128 × Int)) (w : World) (hv : Rv w v l) (hl : l.length ≤ 1000000000) :
    Calls Tryd.prog 67 #[v] w fun e w' => (∃ v', e = .returned v' ∧ w'.ownsRow w.heap.size 26 3 v' (sortL l).length (rowP (sortL l))) ∧ Below w.heap.size w w' := by
  obtain ⟨i0, hi, hz0, hz1, hz2⟩ := info_parts Tryd.infoP
  obtain ⟨ao, c, rfl, hv⟩ := hv
  have HV : Hid (l = [] ∨ ∃ b off, ao = some ⟨b, off, none⟩ ∧ ∀ j u, (rowP l)[j]? = some u → w.cell? ⟨b, off + j, none⟩ = some u) := hv
  clear hv
  go_enter Tryd.func67, Tryd.ntmps67
  go_wp2_with fail
  go_loopw [3, 4] (fun ov i wr => ∃ k : Nat, k ≤ l.length ∧ i = .int .i64 k ∧ ∃ S : List (BitVec 128 × Int), S.length = k ∧ Hid (S.Pairwise Le ∧ S.Perm (l.take k)) ∧ Hid (wr.ownsRow w.heap.size 26 3 ov k (rowP S)) ∧ Hid (Below w.heap.size w wr)) (fun _ i _ => l.length - (intOf i).toNat)
  case atStart => exact ⟨0, by omega, rfl, [], rfl, ⟨List.Pairwise.nil, by simp⟩, World.ownsRow_nil _ _ _ _, Below.refl _ _⟩
  case round =>
    obtain ⟨k, hk, rfl, S, hS, HS, HO, HB⟩ := hrel
    by_cases hlt : (k : Int) < (l.length : Int)
    · have hks : k < l.length := by omega
      rcases HV.out with h | ⟨b, off, rfl, hc⟩
      · rw [h] at hks; simp at hks
      · obtain ⟨y0, y1, y2⟩ := rw_cells hc k hks
        have Y : Hid (∀ W, Below wr.heap.size wr W → (W.cell? ⟨b, off + k * 3, none⟩ = some (.int .u64 (hI l[k].1)) ∧ W.cell? ⟨b, off + k * 3 + 1, none⟩ = some (.int .u64 (lI l[k].1)) ∧ W.cell? ⟨b, off + k * 3 + 2, none⟩ = some (.int .i64 l[k].2))) := fun W hb => ⟨keepc hb (keepc HB.out y0), keepc hb (keepc HB.out y1), keepc hb (keepc HB.out y2)⟩
        have Y2 : Hid (∀ W, Below w.heap.size w W → (W.cell? ⟨b, off + k * 3, none⟩ = some (.int .u64 (hI l[k].1)) ∧ W.cell? ⟨b, off + k * 3 + 1, none⟩ = some (.int .u64 (lI l[k].1)) ∧ W.cell? ⟨b, off + k * 3 + 2, none⟩ = some (.int .i64 l[k].2))) := fun W hb => ⟨keepc hb y0, keepc hb y1, keepc hb y2⟩
        have HT : Hid (l.take (k + 1) = l.take k ++ [(l[k].1, l[k].2)]) := List.take_succ_eq_append_getElem hks
        clear y0 y1 y2
        generalize l[k].1 = px at *
        generalize l[k].2 = pn at *
        obtain ⟨oo, oc, rfl⟩ := own_form HO.out
        obtain ⟨W0, hW0⟩ : ∃ W0, W0 = wr := ⟨wr, rfl⟩
        subst hW0
        have mk : IntKind.i64.wrap ((k : Int) + 1) = (k : Int) + 1 := by rw [IntKind.wrap_i64]; omega
        have h47 : (k + 1) * 24 ≤ 140737488355328 := by omega
        have h63 : k + 1 ≤ maxLen := by unfold maxLen; omega
        have mk0 : IntKind.i64.wrap ((k : Int) + 1 - 1) = (k : Int) := by rw [IntKind.wrap_i64]; omega
        have mk1 : IntKind.i64.wrap (k : Int) = (k : Int) := by rw [IntKind.wrap_i64]; omega
        go_wp2_with fail
        go_loopw [5] (fun i w5 => ∃ a : Nat, a ≤ k ∧ i = .int .i64 a ∧ Hid (∀ q ∈ S.drop a, Le (px, pn) q) ∧ Hid (Below W0.heap.size W0 w5)) (fun i _ => (intOf i).toNat)
        case atStart => exact ⟨k, by omega, rfl, (fun q hq => by rw [List.drop_eq_nil_of_le (by omega)] at hq; cases hq), Below.refl _ _⟩
        case round =>
          obtain ⟨a, ha, rfl, HQ, HB5⟩ := hrel
          cases a with
          | zero =>
            have HA1 : Hid (∀ (h : 0 < 0), Le (S[0 - 1]'(by omega)) (px, pn)) := fun h => absurd h (by omega)
            have hC := HB5.out.drew
            have hz00 : ((0 : Nat) : Int) = 0 := rfl
            rw [hz00]
            clear hz00
            go_wp2_with fail
            refine qw_region (C := fun W => Below W0.heap.size W0 W) (by kernel_rfl) (by kernel_rfl) hC ?_
            clear hC
            refine qw_run (v := .int .i64 0) (by rfl) ?_ ?_
            · (intro w1 hC; clear hC; go_simp; first | done | (simp; done) | (simp [*]; done) | omega | (simp; omega) | (rw [IntKind.wrap_i64]; omega) | (intro hx; omega) | rfl)
            simp only [Act.put, List.setIfInBounds_toArray, List.set_cons_zero, List.set_cons_succ]
            refine qw_run (v := .bool false) (by rfl) ?_ ?_
            · (intro w1 hC; clear hC; go_simp; first | done | (simp; done) | (simp [*]; done) | omega | (simp; omega) | (rw [IntKind.wrap_i64]; omega) | (intro hx; omega) | rfl)
            simp only [Act.put, List.setIfInBounds_toArray, List.set_cons_zero, List.set_cons_succ]
            refine qw_run (v := .bool false) (by rfl) ?_ ?_
            · (intro w1 hC; clear hC; go_simp; first | done | (simp; done) | (simp [*]; done) | omega | (simp; omega) | (rw [IntKind.wrap_i64]; omega) | (intro hx; omega) | rfl)
            simp only [Act.put, List.setIfInBounds_toArray, List.set_cons_zero, List.set_cons_succ]
            refine qw_skip (by rfl) ?_
            simp only [Act.put, List.setIfInBounds_toArray, List.set_cons_zero, List.set_cons_succ]
            refine qw_skip (by rfl) ?_
            simp only [Act.put, List.setIfInBounds_toArray, List.set_cons_zero, List.set_cons_succ]
            refine qw_skip (by rfl) ?_
            simp only [Act.put, List.setIfInBounds_toArray, List.set_cons_zero, List.set_cons_succ]
            refine qw_skip (by rfl) ?_
            simp only [Act.put, List.setIfInBounds_toArray, List.set_cons_zero, List.set_cons_succ]
            refine qw_skip (by rfl) ?_
            simp only [Act.put, List.setIfInBounds_toArray, List.set_cons_zero, List.set_cons_succ]
            refine qw_skip (by rfl) ?_
            simp only [Act.put, List.setIfInBounds_toArray, List.set_cons_zero, List.set_cons_succ]
            refine qw_skip (by rfl) ?_
            simp only [Act.put, List.setIfInBounds_toArray, List.set_cons_zero, List.set_cons_succ]
            refine qw_skip (by rfl) ?_
            simp only [Act.put, List.setIfInBounds_toArray, List.set_cons_zero, List.set_cons_succ]
            refine qw_skip (by rfl) ?_
            simp only [Act.put, List.setIfInBounds_toArray, List.set_cons_zero, List.set_cons_succ]
            refine qw_skip (by rfl) ?_
            simp only [Act.put, List.setIfInBounds_toArray, List.set_cons_zero, List.set_cons_succ]
            refine qw_skip (by rfl) ?_
            simp only [Act.put, List.setIfInBounds_toArray, List.set_cons_zero, List.set_cons_succ]
            refine qw_run (v := .bool false) (by rfl) ?_ ?_
            · (intro w1 hC; clear hC; go_simp; first | done | (simp; done) | (simp [*]; done) | omega | (simp; omega) | (rw [IntKind.wrap_i64]; omega) | (intro hx; omega) | rfl)
            simp only [Act.put, List.setIfInBounds_toArray, List.set_cons_zero, List.set_cons_succ]
            refine qw_nil ?_
            intro W6 hC6
            have HC6 := Hid.mk' hC6
            clear hC6 HB5 Y
            have HO6 := Hid.mk' (own_below HC6.out HO.out)
            have HB6 := Hid.mk' (keepb HC6.out HB.out)
            clear HC6 HO HB
            go_wp2_with (at_builtin; apply stopHereS)
            refine (show wpList _ _ _ _ _ _ from ?_)
            refine wpList_append_lies _ rfl _ _ 29 rfl w.heap.size 26 i0 (.agg #[.int .u64 0, .int .u64 0, .int .i64 0]) 3 24 Tryd.underlying29 hi hz0 hz1 hz2 rfl (by decide) _ _ _ rfl (HO6.out.alloc _) ⟨W6.heap.size, 0, none⟩ 1 1 [.int .u64 0, .int .u64 0, .int .i64 0] rfl rfl (newsP _ _ _ _ _) (threeP _ _ _) (by decide) h63 h47 (by have := HB6.out.size; simp; omega) _ rfl ?_
            intro g4 cap4 w7 ho7 hgrow hat hlt4
            have HB7 : Hid (Below w.heap.size w w7) := (HB6.out.alloc HB6.out.size _).grown hgrow (by have := HB6.out.size; simp; omega) (fun z hz => (HO6.out.lt z hz).1)
            have HO7 : Hid (w7.ownsRow w.heap.size 26 3 (.slice (some ⟨g4, 0, none⟩) (k + 1) cap4) (k + 1) (rowP (S.take k ++ (0#128, 0) :: S.drop k))) := by
              show World.ownsRow _ _ _ _ _ _ _
              rw [List.take_of_length_le (by omega), List.drop_eq_nil_of_le (by omega), rowP_one, hI_zero, lI_zero]
              exact ho7
            clear ho7 hgrow hat hlt4 HO6 HB6
            go_wp2_with fail
            go_loopw [6] (fun i w8 => ∃ (m : Nat) (d : BitVec 128 × Int), 0 ≤ m ∧ m ≤ k ∧ i = .int .i64 m ∧ Hid (w8.ownsRow w.heap.size 26 3 (.slice (some ⟨g4, 0, none⟩) (k + 1) cap4) (k + 1) (rowP (S.take m ++ d :: S.drop m))) ∧ Hid (Below w.heap.size w w8)) (fun i _ => (intOf i).toNat)
            case atStart => exact ⟨k, (0#128, 0), by omega, by omega, rfl, HO7, HB7⟩
            case round =>
              clear HO7 HB7
              obtain ⟨m, d, hm1, hm2, rfl, HO8, HB8⟩ := hrel
              have hZl : (S.take m ++ d :: S.drop m).length = k + 1 := by simp; omega
              by_cases hmt : 0 < m
              · obtain ⟨j, rfl⟩ : ∃ j, m = j + 1 := ⟨m - 1, by omega⟩
                have hjS : j < S.length := by omega
                have hjZ : j < (S.take (j + 1) ++ d :: S.drop (j + 1)).length := by omega
                obtain ⟨x0, x1, x2⟩ := row_cells HO8.out hZl.symm j hjZ
                rw [mid_get S j hjS d hjZ] at x0 x1 x2
                obtain ⟨⟨t0, z0⟩, s0⟩ := own_cell HO8.out ((j + 1) * 3) (by omega)
                obtain ⟨⟨t1, z1⟩, s1⟩ := own_cell HO8.out ((j + 1) * 3 + 1) (by omega)
                obtain ⟨⟨t2, z2⟩, s2⟩ := own_cell HO8.out ((j + 1) * 3 + 2) (by omega)
                have e1 : ((j + 1 : Nat) : Int) = (j : Int) + 1 := by omega
                have m1 : IntKind.i64.wrap ((j : Int) + 1 - 1) = (j : Int) := by rw [IntKind.wrap_i64]; omega
                have m2 : IntKind.i64.wrap (j : Int) = (j : Int) := by rw [IntKind.wrap_i64]; omega
                have i1 : (j : Int) < (k : Int) + 1 := by omega
                have i2 : (j : Int) + 1 < (k : Int) + 1 := by omega
                have i3 : 0 < (j : Int) + 1 := by omega
                have i5 : j < k + 1 := by omega
                have i6 : j < k := by omega
                have i7 : (j : Int) < (k : Int) := by omega
                have HSq : Hid (S.take (j + 1) ++ S[j] :: S.drop (j + 1) = S.take j ++ S[j] :: S.drop j) := mid_back S j hjS
                have HSe : Hid (S[j] = (S[j].1, S[j].2)) := rfl
                rw [e1]
                clear e1
                revert HSq HSe
                generalize S[j] = sj at *
                obtain ⟨sx, sn⟩ := sj
                simp only at x0 x1 x2
                intro HSq HSe
                go_wp2
                go_roundw
                case rel =>
                  have t1 := (((HO8.out.stored ((j + 1) * 3) (.int .u64 (hI sx))).1.stored ((j + 1) * 3 + 1) (.int .u64 (lI sx))).1.stored ((j + 1) * 3 + 2) (.int .i64 sn)).1
                  have t2 := rowP_set (S.take (j + 1) ++ d :: S.drop (j + 1)) (j + 1) (sx, sn)
                  rw [if_pos (by omega), set_mid S (j + 1) (by omega), HSq.out] at t2
                  simp only at t2
                  rw [t2] at t1
                  have hg := (HO8.out.lt g4 (by simp [Value.ownBlock])).1
                  exact ⟨j, (sx, sn), by omega, by omega, by go_num, t1, ((HB8.out.setCell hg _).setCell hg _).setCell hg _⟩
                case measure => first | (simp [intOf]; done) | (simp [intOf]; omega)
              · obtain rfl : m = 0 := by omega
                obtain ⟨v0, v1, v2⟩ := Y2.out _ HB8.out
                obtain ⟨⟨t0, z0⟩, s0⟩ := own_cell HO8.out (0 * 3) (by omega)
                obtain ⟨⟨t1, z1⟩, s1⟩ := own_cell HO8.out (0 * 3 + 1) (by omega)
                obtain ⟨⟨t2, z2⟩, s2⟩ := own_cell HO8.out (0 * 3 + 2) (by omega)
                have i2 : 0 < (k : Int) + 1 := by omega
                have i5 : 0 < k + 1 := by omega
                go_wp2
                go_roundw
                case rel =>
                  have t1 := (((HO8.out.stored (0 * 3) (.int .u64 (hI px))).1.stored (0 * 3 + 1) (.int .u64 (lI px))).1.stored (0 * 3 + 2) (.int .i64 pn)).1
                  have t2 := rowP_set (S.take (0) ++ d :: S.drop (0)) (0) (px, pn)
                  rw [if_pos (by omega), set_mid S (0) (by omega)] at t2
                  simp only at t2
                  rw [t2] at t1
                  have hg := (HO8.out.lt g4 (by simp [Value.ownBlock])).1
                  obtain ⟨q1, q2⟩ := ins_ok HS.out.1 (0) (by omega) HQ.out HA1.out
                  refine ⟨k + 1, by omega, by go_num, S.take (0) ++ (px, pn) :: S.drop (0), by simp; omega, ⟨q1, ?_⟩, t1, ((HB8.out.setCell hg _).setCell hg _).setCell hg _⟩
                  rw [HT.out]
                  exact q2.trans (List.Perm.append_right _ HS.out.2)
                case measure => first | (simp [intOf]; done) | (simp [intOf]; omega)
          | succ a =>
            have ha2 : a < S.length := by omega
            have ho := own_below HB5.out HO.out
            rcases ho.2 with ⟨e, h⟩ | ⟨g, cap, cur, e, -⟩
            · omega
            · injection e with e1 e2 e3
              subst e1
              subst e3
              clear e2
              obtain ⟨x0, x1, x2⟩ := row_cells ho hS.symm a ha2
              obtain ⟨u0, u1, u2⟩ := Y.out _ HB5.out
              have KP := fun w => rpcmp_any S[a].1 S[a].2 px pn w
              have HZ : Hid ((pcmpZ S[a].1 S[a].2 px pn ≤ 0 → Le S[a] (px, pn)) ∧ (¬ pcmpZ S[a].1 S[a].2 px pn ≤ 0 → Le (px, pn) S[a])) := by
                refine ⟨fun h => (pcmp_le _ _ _ _).mp h, fun h => ?_⟩
                have h2 : pcmpZ px pn S[a].1 S[a].2 ≤ 0 := by rw [pcmp_neg]; omega
                exact (pcmp_le _ _ _ _).mp h2
              have HDa : Hid (S.drop a = S[a] :: S.drop (a + 1)) := List.drop_eq_getElem_cons ha2
              have hCQ : CQ W0 g (a * 3) b (off + k * 3) S[a].1 S[a].2 px pn wr := ⟨⟨x0, x1, x2⟩, ⟨u0, u1, u2⟩, HB5.out⟩
              have HCQ := Hid.mk' hCQ.drew
              have e1 : ((a + 1 : Nat) : Int) = (a : Int) + 1 := by omega
              have m1 : IntKind.i64.wrap ((a : Int) + 1 - 1) = (a : Int) := by rw [IntKind.wrap_i64]; omega
              have m2 : IntKind.i64.wrap (a : Int) = (a : Int) := by rw [IntKind.wrap_i64]; omega
              have i1 : (a : Int) < (k : Int) := by omega
              have i2 : a < k := by omega
              have i4 : (0 : Int) < (a : Int) + 1 := by omega
              rw [e1]
              clear hCQ ho x0 x1 x2 u0 u1 u2 e1 Y
              revert KP HZ HCQ
              generalize pcmpZ S[a].1 S[a].2 px pn = z
              generalize hqx : S[a].1 = qx
              generalize hqn : S[a].2 = qn
              intro KP HZ HCQ
              clear hqx hqn
              obtain ⟨⟨x0, x1, x2⟩, ⟨u0, u1, u2⟩, -⟩ := HCQ.out
              go_wp2_with fail
              refine qw_region (C := CQ W0 g (a * 3) b (off + k * 3) qx qn px pn) (by kernel_rfl) (by kernel_rfl) HCQ.out ?_
              clear x0 x1 x2 u0 u1 u2 HCQ
              refine qw_run (v := .int .i64 ((a : Int) + 1)) (by rfl) ?_ ?_
              · (intro w1 hC; obtain ⟨⟨x0, x1, x2⟩, ⟨u0, u1, u2⟩, -⟩ := hC; go_simp; first | done | (simp; done) | (simp [*]; done) | omega | (simp; omega) | (rw [IntKind.wrap_i64]; omega) | (intro hx; omega) | rfl)
              simp only [Act.put, List.setIfInBounds_toArray, List.set_cons_zero, List.set_cons_succ]
              refine qw_run (v := .bool true) (by rfl) ?_ ?_
              · (intro w1 hC; obtain ⟨⟨x0, x1, x2⟩, ⟨u0, u1, u2⟩, -⟩ := hC; go_simp; first | done | (simp; done) | (simp [*]; done) | omega | (simp; omega) | (rw [IntKind.wrap_i64]; omega) | (intro hx; omega) | rfl)
              simp only [Act.put, List.setIfInBounds_toArray, List.set_cons_zero, List.set_cons_succ]
              refine qw_run (v := .bool true) (by rfl) ?_ ?_
              · (intro w1 hC; obtain ⟨⟨x0, x1, x2⟩, ⟨u0, u1, u2⟩, -⟩ := hC; go_simp; first | done | (simp; done) | (simp [*]; done) | omega | (simp; omega) | (rw [IntKind.wrap_i64]; omega) | (intro hx; omega) | rfl)
              simp only [Act.put, List.setIfInBounds_toArray, List.set_cons_zero, List.set_cons_succ]
              refine qw_run (v := .slice (some ⟨g, 0, none⟩) k oc) (by rfl) ?_ ?_
              · (intro w1 hC; obtain ⟨⟨x0, x1, x2⟩, ⟨u0, u1, u2⟩, -⟩ := hC; go_simp; first | done | (simp; done) | (simp [*]; done) | omega | (simp; omega) | (rw [IntKind.wrap_i64]; omega) | (intro hx; omega) | rfl)
              simp only [Act.put, List.setIfInBounds_toArray, List.set_cons_zero, List.set_cons_succ]
              refine qw_run (v := .int .i64 ((a : Int) + 1)) (by rfl) ?_ ?_
              · (intro w1 hC; obtain ⟨⟨x0, x1, x2⟩, ⟨u0, u1, u2⟩, -⟩ := hC; go_simp; first | done | (simp; done) | (simp [*]; done) | omega | (simp; omega) | (rw [IntKind.wrap_i64]; omega) | (intro hx; omega) | rfl)
              simp only [Act.put, List.setIfInBounds_toArray, List.set_cons_zero, List.set_cons_succ]
              refine qw_run (v := .int .i64 (a : Int)) (by rfl) ?_ ?_
              · (intro w1 hC; obtain ⟨⟨x0, x1, x2⟩, ⟨u0, u1, u2⟩, -⟩ := hC; go_simp; first | done | (simp; done) | (simp [*]; done) | omega | (simp; omega) | (rw [IntKind.wrap_i64]; omega) | (intro hx; omega) | rfl)
              simp only [Act.put, List.setIfInBounds_toArray, List.set_cons_zero, List.set_cons_succ]
              refine qw_run (v := .pointer (some ⟨g, a * 3, none⟩)) (by rfl) ?_ ?_
              · (intro w1 hC; obtain ⟨⟨x0, x1, x2⟩, ⟨u0, u1, u2⟩, -⟩ := hC; go_simp; first | done | (simp; done) | (simp [*]; done) | omega | (simp; omega) | (rw [IntKind.wrap_i64]; omega) | (intro hx; omega) | rfl)
              simp only [Act.put, List.setIfInBounds_toArray, List.set_cons_zero, List.set_cons_succ]
              refine qw_run (v := .agg #[.int .u64 (hI qx), .int .u64 (lI qx), .int .i64 qn]) (by rfl) ?_ ?_
              · (intro w1 hC; obtain ⟨⟨x0, x1, x2⟩, ⟨u0, u1, u2⟩, -⟩ := hC; go_simp; first | done | (simp; done) | (simp [*]; done) | omega | (simp; omega) | (rw [IntKind.wrap_i64]; omega) | (intro hx; omega) | rfl)
              simp only [Act.put, List.setIfInBounds_toArray, List.set_cons_zero, List.set_cons_succ]
              refine qw_run (v := .slice (some ⟨b, off, none⟩) l.length c) (by rfl) ?_ ?_
              · (intro w1 hC; obtain ⟨⟨x0, x1, x2⟩, ⟨u0, u1, u2⟩, -⟩ := hC; go_simp; first | done | (simp; done) | (simp [*]; done) | omega | (simp; omega) | (rw [IntKind.wrap_i64]; omega) | (intro hx; omega) | rfl)
              simp only [Act.put, List.setIfInBounds_toArray, List.set_cons_zero, List.set_cons_succ]
              refine qw_run (v := .int .i64 (k : Int)) (by rfl) ?_ ?_
              · (intro w1 hC; obtain ⟨⟨x0, x1, x2⟩, ⟨u0, u1, u2⟩, -⟩ := hC; go_simp; first | done | (simp; done) | (simp [*]; done) | omega | (simp; omega) | (rw [IntKind.wrap_i64]; omega) | (intro hx; omega) | rfl)
              simp only [Act.put, List.setIfInBounds_toArray, List.set_cons_zero, List.set_cons_succ]
              refine qw_run (v := .pointer (some ⟨b, off + k * 3, none⟩)) (by rfl) ?_ ?_
              · (intro w1 hC; obtain ⟨⟨x0, x1, x2⟩, ⟨u0, u1, u2⟩, -⟩ := hC; go_simp; first | done | (simp; done) | (simp [*]; done) | omega | (simp; omega) | (rw [IntKind.wrap_i64]; omega) | (intro hx; omega) | rfl)
              simp only [Act.put, List.setIfInBounds_toArray, List.set_cons_zero, List.set_cons_succ]
              refine qw_run (v := .agg #[.int .u64 (hI px), .int .u64 (lI px), .int .i64 pn]) (by rfl) ?_ ?_
              · (intro w1 hC; obtain ⟨⟨x0, x1, x2⟩, ⟨u0, u1, u2⟩, -⟩ := hC; go_simp; first | done | (simp; done) | (simp [*]; done) | omega | (simp; omega) | (rw [IntKind.wrap_i64]; omega) | (intro hx; omega) | rfl)
              simp only [Act.put, List.setIfInBounds_toArray, List.set_cons_zero, List.set_cons_succ]
              refine qw_call (v := .int .i64 z) (f := 36) (args := #[.agg #[.int .u64 (hI qx), .int .u64 (lI qx), .int .i64 qn], .agg #[.int .u64 (hI px), .int .u64 (lI px), .int .i64 pn]]) (by rfl) ?_ ?_ ?_
              · (intro w1 hC; clear hC; go_simp)
              · exact fun w1 hC => (KP w1).mono fun e w' ⟨he, hb⟩ => ⟨he, hC.below hb⟩
              simp only [Act.put, List.setIfInBounds_toArray, List.set_cons_zero, List.set_cons_succ]
              refine qw_run (v := .bool (decide (0 < z))) (by rfl) ?_ ?_
              · (intro w1 hC; obtain ⟨⟨x0, x1, x2⟩, ⟨u0, u1, u2⟩, -⟩ := hC; go_simp; first | done | (simp; done) | (simp [*]; done) | omega | (simp; omega) | (rw [IntKind.wrap_i64]; omega) | (intro hx; omega) | rfl)
              simp only [Act.put, List.setIfInBounds_toArray, List.set_cons_zero, List.set_cons_succ]
              refine qw_run (v := .bool (decide (0 < z))) (by rfl) ?_ ?_
              · (intro w1 hC; obtain ⟨⟨x0, x1, x2⟩, ⟨u0, u1, u2⟩, -⟩ := hC; go_simp; first | done | (simp; done) | (simp [*]; done) | omega | (simp; omega) | (rw [IntKind.wrap_i64]; omega) | (intro hx; omega) | rfl)
              simp only [Act.put, List.setIfInBounds_toArray, List.set_cons_zero, List.set_cons_succ]
              refine qw_nil ?_
              intro W6 hC6
              have HC6 := Hid.mk' hC6.2.2
              clear hC6 HB5 KP
              by_cases hz : z ≤ 0
              · have hz' : ¬ 0 < z := by omega
                have HA1 : Hid (∀ (h : 0 < a + 1), Le (S[a + 1 - 1]'(by omega)) (px, pn)) := fun h => HZ.out.1 hz
                clear HZ
                have HO6 := Hid.mk' (own_below HC6.out HO.out)
                have HB6 := Hid.mk' (keepb HC6.out HB.out)
                clear HC6 HO HB
                go_wp2_with (at_builtin; apply stopHereS)
                refine (show wpList _ _ _ _ _ _ from ?_)
                refine wpList_append_lies _ rfl _ _ 29 rfl w.heap.size 26 i0 (.agg #[.int .u64 0, .int .u64 0, .int .i64 0]) 3 24 Tryd.underlying29 hi hz0 hz1 hz2 rfl (by decide) _ _ _ rfl (HO6.out.alloc _) ⟨W6.heap.size, 0, none⟩ 1 1 [.int .u64 0, .int .u64 0, .int .i64 0] rfl rfl (newsP _ _ _ _ _) (threeP _ _ _) (by decide) h63 h47 (by have := HB6.out.size; simp; omega) _ rfl ?_
                intro g4 cap4 w7 ho7 hgrow hat hlt4
                have HB7 : Hid (Below w.heap.size w w7) := (HB6.out.alloc HB6.out.size _).grown hgrow (by have := HB6.out.size; simp; omega) (fun z hz => (HO6.out.lt z hz).1)
                have HO7 : Hid (w7.ownsRow w.heap.size 26 3 (.slice (some ⟨g4, 0, none⟩) (k + 1) cap4) (k + 1) (rowP (S.take k ++ (0#128, 0) :: S.drop k))) := by
                  show World.ownsRow _ _ _ _ _ _ _
                  rw [List.take_of_length_le (by omega), List.drop_eq_nil_of_le (by omega), rowP_one, hI_zero, lI_zero]
                  exact ho7
                clear ho7 hgrow hat hlt4 HO6 HB6
                go_wp2_with fail
                go_loopw [6] (fun i w8 => ∃ (m : Nat) (d : BitVec 128 × Int), (a + 1) ≤ m ∧ m ≤ k ∧ i = .int .i64 m ∧ Hid (w8.ownsRow w.heap.size 26 3 (.slice (some ⟨g4, 0, none⟩) (k + 1) cap4) (k + 1) (rowP (S.take m ++ d :: S.drop m))) ∧ Hid (Below w.heap.size w w8)) (fun i _ => (intOf i).toNat)
                case atStart => exact ⟨k, (0#128, 0), by omega, by omega, rfl, HO7, HB7⟩
                case round =>
                  clear HO7 HB7
                  obtain ⟨m, d, hm1, hm2, rfl, HO8, HB8⟩ := hrel
                  have hZl : (S.take m ++ d :: S.drop m).length = k + 1 := by simp; omega
                  by_cases hmt : (a + 1) < m
                  · obtain ⟨j, rfl⟩ : ∃ j, m = j + 1 := ⟨m - 1, by omega⟩
                    have hjS : j < S.length := by omega
                    have hjZ : j < (S.take (j + 1) ++ d :: S.drop (j + 1)).length := by omega
                    obtain ⟨x0, x1, x2⟩ := row_cells HO8.out hZl.symm j hjZ
                    rw [mid_get S j hjS d hjZ] at x0 x1 x2
                    obtain ⟨⟨t0, z0⟩, s0⟩ := own_cell HO8.out ((j + 1) * 3) (by omega)
                    obtain ⟨⟨t1, z1⟩, s1⟩ := own_cell HO8.out ((j + 1) * 3 + 1) (by omega)
                    obtain ⟨⟨t2, z2⟩, s2⟩ := own_cell HO8.out ((j + 1) * 3 + 2) (by omega)
                    have e1 : ((j + 1 : Nat) : Int) = (j : Int) + 1 := by omega
                    have m1 : IntKind.i64.wrap ((j : Int) + 1 - 1) = (j : Int) := by rw [IntKind.wrap_i64]; omega
                    have m2 : IntKind.i64.wrap (j : Int) = (j : Int) := by rw [IntKind.wrap_i64]; omega
                    have i1 : (j : Int) < (k : Int) + 1 := by omega
                    have i2 : (j : Int) + 1 < (k : Int) + 1 := by omega
                    have i3 : ((a : Int) + 1) < (j : Int) + 1 := by omega
                    have i5 : j < k + 1 := by omega
                    have i6 : j < k := by omega
                    have i7 : (j : Int) < (k : Int) := by omega
                    have HSq : Hid (S.take (j + 1) ++ S[j] :: S.drop (j + 1) = S.take j ++ S[j] :: S.drop j) := mid_back S j hjS
                    have HSe : Hid (S[j] = (S[j].1, S[j].2)) := rfl
                    rw [e1]
                    clear e1
                    revert HSq HSe
                    generalize S[j] = sj at *
                    obtain ⟨sx, sn⟩ := sj
                    simp only at x0 x1 x2
                    intro HSq HSe
                    go_wp2
                    go_roundw
                    case rel =>
                      have t1 := (((HO8.out.stored ((j + 1) * 3) (.int .u64 (hI sx))).1.stored ((j + 1) * 3 + 1) (.int .u64 (lI sx))).1.stored ((j + 1) * 3 + 2) (.int .i64 sn)).1
                      have t2 := rowP_set (S.take (j + 1) ++ d :: S.drop (j + 1)) (j + 1) (sx, sn)
                      rw [if_pos (by omega), set_mid S (j + 1) (by omega), HSq.out] at t2
                      simp only at t2
                      rw [t2] at t1
                      have hg := (HO8.out.lt g4 (by simp [Value.ownBlock])).1
                      exact ⟨j, (sx, sn), by omega, by omega, by go_num, t1, ((HB8.out.setCell hg _).setCell hg _).setCell hg _⟩
                    case measure => first | (simp [intOf]; done) | (simp [intOf]; omega)
                  · obtain rfl : m = (a + 1) := by omega
                    obtain ⟨v0, v1, v2⟩ := Y2.out _ HB8.out
                    obtain ⟨⟨t0, z0⟩, s0⟩ := own_cell HO8.out ((a + 1) * 3) (by omega)
                    obtain ⟨⟨t1, z1⟩, s1⟩ := own_cell HO8.out ((a + 1) * 3 + 1) (by omega)
                    obtain ⟨⟨t2, z2⟩, s2⟩ := own_cell HO8.out ((a + 1) * 3 + 2) (by omega)
                    have i2 : ((a : Int) + 1) < (k : Int) + 1 := by omega
                    have i5 : (a + 1) < k + 1 := by omega
                    go_wp2
                    go_roundw
                    case rel =>
                      have t1 := (((HO8.out.stored ((a + 1) * 3) (.int .u64 (hI px))).1.stored ((a + 1) * 3 + 1) (.int .u64 (lI px))).1.stored ((a + 1) * 3 + 2) (.int .i64 pn)).1
                      have t2 := rowP_set (S.take ((a + 1)) ++ d :: S.drop ((a + 1))) ((a + 1)) (px, pn)
                      rw [if_pos (by omega), set_mid S ((a + 1)) (by omega)] at t2
                      simp only at t2
                      rw [t2] at t1
                      have hg := (HO8.out.lt g4 (by simp [Value.ownBlock])).1
                      obtain ⟨q1, q2⟩ := ins_ok HS.out.1 ((a + 1)) (by omega) HQ.out HA1.out
                      refine ⟨k + 1, by omega, by go_num, S.take ((a + 1)) ++ (px, pn) :: S.drop ((a + 1)), by simp; omega, ⟨q1, ?_⟩, t1, ((HB8.out.setCell hg _).setCell hg _).setCell hg _⟩
                      rw [HT.out]
                      exact q2.trans (List.Perm.append_right _ HS.out.2)
                    case measure => first | (simp [intOf]; done) | (simp [intOf]; omega)
              · have hz' : 0 < z := by omega
                go_wp2
                go_roundw
                case rel =>
                  refine ⟨a, by omega, by go_num, ?_, HC6⟩
                  intro q hq
                  rw [HDa.out] at hq
                  rcases List.mem_cons.mp hq with rfl | hq
                  · exact HZ.out.2 (by omega)
                  · exact HQ.out q hq
                case measure => first | (simp [intOf]; done) | (simp [intOf]; omega)
    · have hd0 : ¬ k < l.length := by omega
      have HE : Hid (S = sortL l) := by
        show _ = _
        refine sortL_unique l S HS.out.1 ?_
        have := HS.out.2
        rwa [List.take_of_length_le (by omega)] at this
      have HL : Hid ((sortL l).length = k) := by show _ = _; rw [← HE.out]; exact hS
      go_wp2
      go_ret
      refine ⟨⟨_, rfl, ?_⟩, HB.out⟩
      rw [HL.out, ← HE.out]
      exact HO.out
end Go.Proofs.YtkgfeegcdohkdaaDoor
