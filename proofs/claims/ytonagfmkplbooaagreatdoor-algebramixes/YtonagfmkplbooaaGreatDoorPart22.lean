/-
  Part 22 of the proof: 2 texts, one behind the other.
-/
import Derived.Test.YtonagfmkplbooaaGreatDoorPart21
import Derived.Test.YtonagfmkplbooaaGreatDoorPart2
import Derived.Test.YtonagfmkplbooaaGreatDoorPart9
import Derived.Test.YtonagfmkplbooaaGreatDoorPart6
import Derived.Deep.RegionHeld3
import Derived.Test.YtonagfmkplbooaaGreatDoorPart5
/-
  What the call of turnpikeref6's put does.
-/
namespace Go.Proofs.YtonagfmkplbooaaGreatDoor
open Go.RowKit
set_option linter.unusedSimpArgs false
set_option linter.unusedVariables false

def CW (w4 : World) (g o b : Nat) (qx x : BitVec 128) (W : World) : Prop := (W.cell? ⟨g, o, none⟩ = some (.int .u64 (hI qx)) ∧ W.cell? ⟨g, o + 1, none⟩ = some (.int .u64 (lI qx))) ∧ (W.cell? ⟨b, 0, none⟩ = some (.int .u64 (hI x)) ∧ W.cell? ⟨b, 1, none⟩ = some (.int .u64 (lI x))) ∧ Below w4.heap.size w4 W
theorem CW.below {w4 W W' : World} {g o b : Nat} {qx x : BitVec 128} (h : CW w4 g o b qx x W) (hb : Below W.heap.size W W') : CW w4 g o b qx x W' := ⟨⟨keepc hb h.1.1, keepc hb h.1.2⟩, ⟨keepc hb h.2.1.1, keepc hb h.2.1.2⟩, keepb hb h.2.2⟩
theorem CW.drew {w4 W : World} {g o b : Nat} {qx x : BitVec 128} (h : CW w4 g o b qx x W) : CW w4 g o b qx x W.drew := h.below (below_drewN (Below.refl _ _) 1)
theorem stopHereW {P : Program} {w : World} {ops : Array Oper} {rest : List Oper} {a : Act} {Q : Exit → Act → World → Prop} {o : Oper} (h : Hid (wpList P ops Q (o :: rest) a w)) : wpList P ops Q (o :: rest) a w := h.out
theorem grown_set2 {w W : World} {r : Option Nat} {g : Nat} (h : w.grownBy W r) (hg : r = some g ∨ w.heap.size ≤ g) (i j : Nat) (u v : Value) : w.grownBy ((W.setCell ⟨g, i, none⟩ u).setCell ⟨g, j, none⟩ v) r := by
  have b : Below 0 W ((W.setCell ⟨g, i, none⟩ u).setCell ⟨g, j, none⟩ v) := ((Below.refl _ _).setCell (Nat.zero_le _) u).setCell (Nat.zero_le _) v
  refine ⟨by rw [b.os, h.os], by rw [b.tape, h.tape], by rw [b.output, h.output], Nat.le_trans h.size b.size, fun z h1 h2 => ?_⟩
  have hne : ¬ z = g := by
    rintro rfl
    rcases hg with q | q
    · exact h2 q.symm
    · omega
  rw [hSet _ hne, hSet _ hne, h.block z h1 h2]
theorem below_grown {w W : World} {r : Option Nat} (h : Below w.heap.size w W) : w.grownBy W r := ⟨h.os, h.tape, h.output, h.size, fun z h1 _ => h.block z h1⟩
set_option maxRecDepth 20000 in
set_option maxHeartbeats 16000000 in
theorem rput_any (base : Nat) (v : Value) (S : List (BitVec 128)) (x : BitVec 128) (w : World) (hown : w.ownsRow base 27 2 v S.length (rowW S)) (hbs : base ≤ w.heap.size) (hl : S.length ≤ 1000000000) (hS : S.Pairwise (fun a b => a.toNat < b.toNat)) :
    Calls Tryz.prog 49 #[v, .agg #[.int .u64 (hI x), .int .u64 (lI x)]] w fun e w' => ∃ v' T, e = .returned v' ∧ PutS S x T ∧ PtO base v T w v' w' := by
  obtain ⟨i0, hi, hz0, hz1, hz2⟩ := info_parts Tryz.infoWd
  have HSS := hidR hS
  obtain ⟨k, hk⟩ : ∃ k, k = S.length := ⟨_, rfl⟩
  rw [← hk] at hown hl
  obtain ⟨oo, oc, rfl⟩ := own_form hown
  have hS0 : S.length = k := hk.symm
  have HNX : Hid (Value.ownBlock (.slice oo k oc) ≠ some w.heap.size) := hidR (fun e => by have := (hown.lt _ e).2; omega)
  have HNG : Hid (∀ g, (Value.ownBlock (.slice oo k oc) = some g ∨ w.heap.size + 1 ≤ g) → ¬ w.heap.size = g) := hidR (fun g h e => by
    rcases h with h | h
    · exact HNX.out (by rw [h, e])
    · omega)
  have b0 := bl1 w (.cells #[.int .u64 (hI x), .int .u64 (lI x)] 27)
  have HO := hidR hown
  have HX := hidR (at_new w w.heap.size x 27 rfl)
  have HB := hidR b0
  have mk0 : IntKind.i64.wrap ((k : Int) + 1 - 1) = (k : Int) := by rw [IntKind.wrap_i64]; omega
  have mk1 : IntKind.i64.wrap (k : Int) = (k : Int) := by rw [IntKind.wrap_i64]; omega
  have h47 : (k + 1) * 16 ≤ 140737488355328 := by omega
  have h63 : k + 1 ≤ maxLen := by unfold maxLen; omega
  obtain ⟨W0, hW0⟩ : ∃ W0, W0 = w.alloc (.cells #[.int .u64 (hI x), .int .u64 (lI x)] 27) := ⟨_, rfl⟩
  clear hown hk b0 hS
  go_enter Tryz.func49, Tryz.ntmps49
  go_wp2_with fail
  rw [← hW0] at HX HB
  try rw [← hW0]
  go_loopw [5] (fun i w5 => ∃ a : Nat, a ≤ k ∧ i = .int .i64 a ∧ Hid (∀ q ∈ S.drop a, x.toNat < q.toNat) ∧ Hid (Below W0.heap.size W0 w5)) (fun i _ => (intOf i).toNat)
  case atStart => exact ⟨k, by omega, rfl, hidR (fun q hq => by rw [List.drop_eq_nil_of_le (by omega)] at hq; cases hq), hidR (by first | exact Below.refl _ _ | (rw [hW0]; exact Below.refl _ _))⟩
  case round =>
    obtain ⟨a, ha, rfl, HQ, HB5⟩ := hrel
    have HBw := hidR (keepb HB5.out HB.out)
    have hsz : W0.heap.size = w.heap.size + 1 := by rw [hW0]; simp
    cases a with
    | zero =>
      have HA1 : Hid (∀ (h : 0 < 0), (S[0 - 1]'(by omega)).toNat < x.toNat) := hidR (fun h => absurd h (by omega))
      have hC := HB5.out.drew
      have hz00 : ((0 : Nat) : Int) = 0 := rfl
      rw [hz00]
      clear hz00
      go_wp2_with fail
      refine qw_region (C := fun W => Below W0.heap.size W0 W) (by kernel_rfl) (by kernel_rfl) hC ?_
      clear hC
      refine qw_run (v := .int .i64 0) (by rfl) ?_ ?_
      · (intro w1 hC; clear hC; go_simp; first | done | (simp; done) | (simp [*]; done) | omega | (simp; omega) | (rw [IntKind.wrap_i64]; omega) | (intro hx; omega) | rfl)
      simp only [Act.put, List.setIfInBounds_toArray, List.set_cons_zero, List.set_cons_succ]
      refine qw_run (v := .bool false) (by rfl) ?_ ?_
      · (intro w1 hC; clear hC; go_simp; first | done | (simp; done) | (simp [*]; done) | omega | (simp; omega) | (rw [IntKind.wrap_i64]; omega) | (intro hx; omega) | rfl)
      simp only [Act.put, List.setIfInBounds_toArray, List.set_cons_zero, List.set_cons_succ]
      refine qw_run (v := .bool false) (by rfl) ?_ ?_
      · (intro w1 hC; clear hC; go_simp; first | done | (simp; done) | (simp [*]; done) | omega | (simp; omega) | (rw [IntKind.wrap_i64]; omega) | (intro hx; omega) | rfl)
      simp only [Act.put, List.setIfInBounds_toArray, List.set_cons_zero, List.set_cons_succ]
      refine qw_skip (by rfl) ?_
      simp only [Act.put, List.setIfInBounds_toArray, List.set_cons_zero, List.set_cons_succ]
      refine qw_skip (by rfl) ?_
      simp only [Act.put, List.setIfInBounds_toArray, List.set_cons_zero, List.set_cons_succ]
      refine qw_skip (by rfl) ?_
      simp only [Act.put, List.setIfInBounds_toArray, List.set_cons_zero, List.set_cons_succ]
      refine qw_skip (by rfl) ?_
      simp only [Act.put, List.setIfInBounds_toArray, List.set_cons_zero, List.set_cons_succ]
      refine qw_skip (by rfl) ?_
      simp only [Act.put, List.setIfInBounds_toArray, List.set_cons_zero, List.set_cons_succ]
      refine qw_skip (by rfl) ?_
      simp only [Act.put, List.setIfInBounds_toArray, List.set_cons_zero, List.set_cons_succ]
      refine qw_skip (by rfl) ?_
      simp only [Act.put, List.setIfInBounds_toArray, List.set_cons_zero, List.set_cons_succ]
      refine qw_skip (by rfl) ?_
      simp only [Act.put, List.setIfInBounds_toArray, List.set_cons_zero, List.set_cons_succ]
      refine qw_run (v := .bool false) (by rfl) ?_ ?_
      · (intro w1 hC; clear hC; go_simp; first | done | (simp; done) | (simp [*]; done) | omega | (simp; omega) | (rw [IntKind.wrap_i64]; omega) | (intro hx; omega) | rfl)
      simp only [Act.put, List.setIfInBounds_toArray, List.set_cons_zero, List.set_cons_succ]
      refine qw_nil ?_
      intro W6 hC6
      have HC6 := hidR hC6
      clear hC6 HB5 HBw
      go_wp2_with fail
      go_quiet (fail)
      have HB7 := hidR (below_drewN HC6.out nq)
      generalize W6.drewN nq = W7 at HB7 ⊢
      have HB7w := hidR (keepb HB7.out HB.out)
      have HO6 := hidR (own_below HB7w.out HO.out)
      have HG6 : Hid (w.grownBy W7 (Value.ownBlock (.slice oo k oc))) := hidR (below_grown HB7w.out)
      have HX6 := hidR (HX.out.below HB7.out)
      have hs7 := HB7.out.size
      clear HC6 HB7 HB7w HO HX HB
      go_wp2_with (at_builtin; apply stopHereW)
      refine (show wpList _ _ _ _ _ _ from ?_)
      refine wpList_append_lies _ rfl _ _ 57 rfl base 27 i0 (.agg #[.int .u64 0, .int .u64 0]) 2 16 Tryz.underlying57 hi hz0 hz1 hz2 rfl (by decide) _ _ _ rfl (HO6.out.alloc _) ⟨W7.heap.size, 0, none⟩ 1 1 [.int .u64 0, .int .u64 0] rfl rfl (newsWd _ _ _ _) (twoW _ _) (by decide) h63 h47 (by have := HG6.out.size; have := hbs; simp; omega) _ rfl ?_
      intro g4 cap4 w7 ho7 hgrow hat hlt4
      have HG7 : Hid (w.grownBy w7 (Value.ownBlock (.slice oo k oc))) := hidR ((HG6.out.trans (World.grownBy_alloc W7 _ _)).trans hgrow)
      have HT7 : Hid ((Value.ownBlock (.slice oo k oc)) = some g4 ∨ w.heap.size + 1 ≤ g4) := hidR (by
        rcases hat with q | q
        · exact .inl q
        · right
          simp at q
          omega)
      have HT8 : Hid ((Value.ownBlock (.slice oo k oc)) = some g4 ∨ w.heap.size ≤ g4) := hidR (by rcases HT7.out with q | q; exact .inl q; exact .inr (by omega))
      have HX7 := hidR ((HX6.out.below (bl1 W7 (.cells #[.int .u64 0, .int .u64 0] 27))).heap (hgrow.block _ (by have := HX6.out.2.2.2.2; simp; omega) (fun e => HNX.out e.symm)) hgrow.size)
      have HO7 : Hid (w7.ownsRow base 27 2 (.slice (some ⟨g4, 0, none⟩) (k + 1) cap4) (k + 1) (rowW (S.take k ++ 0#128 :: S.drop k))) := hidR (by
        rw [List.take_of_length_le (by omega), List.drop_eq_nil_of_le (by omega), rowW_one, hI_zero, lI_zero]
        exact ho7)
      clear ho7 hgrow hat hlt4 HO6 HG6 HX6
      go_wp2_with fail
      go_loopw [6] (fun i w8 => ∃ (m : Nat) (d : BitVec 128), 0 ≤ m ∧ m ≤ k ∧ i = .int .i64 m ∧ Hid (w8.ownsRow base 27 2 (.slice (some ⟨g4, 0, none⟩) (k + 1) cap4) (k + 1) (rowW (S.take m ++ d :: S.drop m))) ∧ Hid (w.grownBy w8 (Value.ownBlock (.slice oo k oc))) ∧ Hid (At w8 w.heap.size x)) (fun i _ => (intOf i).toNat)
      case atStart => exact ⟨k, 0#128, by omega, by omega, rfl, HO7, HG7, HX7⟩
      case round =>
        clear HO7 HG7 HX7
        obtain ⟨m, d, hm1, hm2, rfl, HO8, HG8, HX8⟩ := hrel
        have hZl : (S.take m ++ d :: S.drop m).length = k + 1 := by simp; omega
        by_cases hmt : 0 < m
        · obtain ⟨j, rfl⟩ : ∃ j, m = j + 1 := ⟨m - 1, by omega⟩
          have hjS : j < S.length := by omega
          have hjZ : j < (S.take (j + 1) ++ d :: S.drop (j + 1)).length := by omega
          obtain ⟨x0, x1⟩ := ownW_cells HO8.out j hjZ
          rw [mid_getW S j hjS d hjZ] at x0 x1
          obtain ⟨⟨t0, z0⟩, s0⟩ := own_cell6 HO8.out ((j + 1) * 2) (by omega)
          obtain ⟨⟨t1, z1⟩, s1⟩ := own_cell6 HO8.out ((j + 1) * 2 + 1) (by omega)
          have e1 : ((j + 1 : Nat) : Int) = (j : Int) + 1 := by omega
          have m1 : IntKind.i64.wrap ((j : Int) + 1 - 1) = (j : Int) := by rw [IntKind.wrap_i64]; omega
          have m2 : IntKind.i64.wrap (j : Int) = (j : Int) := by rw [IntKind.wrap_i64]; omega
          have i1 : (j : Int) < (k : Int) + 1 := by omega
          have i2 : (j : Int) + 1 < (k : Int) + 1 := by omega
          have i3 : 0 < (j : Int) + 1 := by omega
          have i5 : j < k + 1 := by omega
          have i6 : j < k := by omega
          have i7 : (j : Int) < (k : Int) := by omega
          have HSq : Hid (S.take (j + 1) ++ S[j] :: S.drop (j + 1) = S.take j ++ S[j] :: S.drop j) := hidR (mid_backW S j hjS)
          rw [e1]
          clear e1
          revert HSq
          generalize S[j] = sx at *
          intro HSq
          go_wp2
          go_roundw
          case rel =>
            have r1 := HO8.out.stored ((j + 1) * 2) (.int .u64 (hI sx))
            have r2 := r1.1.stored ((j + 1) * 2 + 1) (.int .u64 (lI sx))
            have t2 := rowW_set (S.take (j + 1) ++ d :: S.drop (j + 1)) (j + 1) sx
            rw [if_pos (by omega), set_midW S (j + 1) (by omega), HSq.out] at t2
            have t1 := r2.1
            rw [t2] at t1
            have hne := HNG.out g4 HT7.out
            exact ⟨j, sx, by omega, by omega, by go_num, hidR t1, hidR (grown_set2 HG8.out (HT8.out) _ _ _ _), hidR (HX8.out.heap (by rw [hSet _ hne, hSet _ hne]) (by have := (bset2 (C := g4) (Below.refl 0 wr) (Nat.zero_le _) (.int .u64 (hI sx)) (.int .u64 (lI sx))).size; simp))⟩
          case measure => first | (simp [intOf]; done) | (simp [intOf]; omega)
        · obtain rfl : m = 0 := by omega
          obtain ⟨v0, v1, -⟩ := HX8.out
          obtain ⟨⟨t0, z0⟩, s0⟩ := own_cell6 HO8.out (0 * 2) (by omega)
          obtain ⟨⟨t1, z1⟩, s1⟩ := own_cell6 HO8.out (0 * 2 + 1) (by omega)
          have i2 : 0 < (k : Int) + 1 := by omega
          have i5 : 0 < k + 1 := by omega
          have r1 := HO8.out.stored (0 * 2) (.int .u64 (hI x))
          have r2 := r1.1.stored (0 * 2 + 1) (.int .u64 (lI x))
          have t2 := rowW_set (S.take (0) ++ d :: S.drop (0)) (0) x
          rw [if_pos (by omega), set_midW S (0) (by omega)] at t2
          have t1' := r2.1
          rw [t2] at t1'
          have HR : Hid (PtO base (.slice oo k oc) (S.take (0) ++ x :: S.drop (0)) w (.slice (some ⟨g4, 0, none⟩) (k + 1) cap4) _) := hidR ⟨by rw [show (S.take (0) ++ x :: S.drop (0)).length = k + 1 by simp; omega]; exact t1', grown_set2 HG8.out (HT8.out) _ _ _ _, fun z e => by
            have e : g4 = z := by simpa [Value.ownBlock] using e
            rw [← e]; exact HT8.out⟩
          have HP := hidR (put_new S x HSS.out (0) (by omega) HQ.out HA1.out)
          clear r1 r2 t2 t1' HO8 HG8 HX8
          go_wp2
          go_ret
          exact ⟨_, _, rfl, HP.out, HR.out⟩
    | succ a =>
      have ha2 : a < S.length := by omega
      have ho := own_below HBw.out HO.out
      rcases ho.2 with ⟨e, h⟩ | ⟨g, cap, cur, e, -⟩
      · omega
      · injection e with e1 e2 e3
        subst e1
        subst e3
        clear e2
        obtain ⟨x0, x1⟩ := ownW_cells ho a ha2
        obtain ⟨u0, u1, -⟩ := HX.out.below HB5.out
        have KP := fun w => rcmp_any S[a] x w
        have HZ : Hid ((cmpZ S[a] x ≤ 0 → S[a].toNat < x.toNat ∨ S[a] = x) ∧ (¬ cmpZ S[a] x ≤ 0 → x.toNat < S[a].toNat)) := hidR (by
          rcases cmpZ_ways S[a] x with ⟨h, e⟩ | ⟨h, e⟩ | ⟨h, e⟩
          · exact ⟨fun _ => .inl h, fun q => absurd (by rw [e]; decide) q⟩
          · exact ⟨fun _ => .inr h, fun q => absurd (by rw [e]; decide) q⟩
          · exact ⟨fun q => by rw [e] at q; omega, fun _ => h⟩)
        have HDa : Hid (S.drop a = S[a] :: S.drop (a + 1)) := hidR (List.drop_eq_getElem_cons ha2)
        have HMa : Hid (S[a] ∈ S) := hidR (List.getElem_mem ha2)
        have hCW : CW W0 g (a * 2) w.heap.size S[a] x wr := ⟨⟨x0, x1⟩, ⟨u0, u1⟩, HB5.out⟩
        have HCW := hidR hCW.drew
        have e1 : ((a + 1 : Nat) : Int) = (a : Int) + 1 := by omega
        have m1 : IntKind.i64.wrap ((a : Int) + 1 - 1) = (a : Int) := by rw [IntKind.wrap_i64]; omega
        have m2 : IntKind.i64.wrap (a : Int) = (a : Int) := by rw [IntKind.wrap_i64]; omega
        have i1 : (a : Int) < (k : Int) := by omega
        have i2 : a < k := by omega
        have i4 : (0 : Int) < (a : Int) + 1 := by omega
        have hE := fun w => eqW_run S[a] x w
        rw [e1]
        have HSa : Hid (∀ (h : 0 < a + 1), S[a + 1 - 1]'(by omega) = S[a]) := hidR (fun _ => rfl)
        clear hCW ho x0 x1 u0 u1 e1 HBw
        revert KP HZ HCW hE HDa HMa HSa
        generalize cmpZ S[a] x = z
        generalize S[a] = qx
        intro KP HZ HDa HMa HCW hE HSa
        obtain ⟨⟨x0, x1⟩, ⟨u0, u1⟩, -⟩ := HCW.out
        go_wp2_with fail
        refine qw_region (C := CW W0 g (a * 2) w.heap.size qx x) (by kernel_rfl) (by kernel_rfl) HCW.out ?_
        clear x0 x1 u0 u1 HCW
        refine qw_run (v := .int .i64 ((a : Int) + 1)) (by rfl) ?_ ?_
        · (intro w1 hC; obtain ⟨⟨x0, x1⟩, ⟨u0, u1⟩, -⟩ := hC; go_simp; first | done | (simp; done) | (simp [*]; done) | omega | (simp; omega) | (rw [IntKind.wrap_i64]; omega) | (intro hx; omega) | rfl)
        simp only [Act.put, List.setIfInBounds_toArray, List.set_cons_zero, List.set_cons_succ]
        refine qw_run (v := .bool true) (by rfl) ?_ ?_
        · (intro w1 hC; obtain ⟨⟨x0, x1⟩, ⟨u0, u1⟩, -⟩ := hC; go_simp; first | done | (simp; done) | (simp [*]; done) | omega | (simp; omega) | (rw [IntKind.wrap_i64]; omega) | (intro hx; omega) | rfl)
        simp only [Act.put, List.setIfInBounds_toArray, List.set_cons_zero, List.set_cons_succ]
        refine qw_run (v := .bool true) (by rfl) ?_ ?_
        · (intro w1 hC; obtain ⟨⟨x0, x1⟩, ⟨u0, u1⟩, -⟩ := hC; go_simp; first | done | (simp; done) | (simp [*]; done) | omega | (simp; omega) | (rw [IntKind.wrap_i64]; omega) | (intro hx; omega) | rfl)
        simp only [Act.put, List.setIfInBounds_toArray, List.set_cons_zero, List.set_cons_succ]
        refine qw_run (v := .slice (some ⟨g, 0, none⟩) k oc) (by rfl) ?_ ?_
        · (intro w1 hC; obtain ⟨⟨x0, x1⟩, ⟨u0, u1⟩, -⟩ := hC; go_simp; first | done | (simp; done) | (simp [*]; done) | omega | (simp; omega) | (rw [IntKind.wrap_i64]; omega) | (intro hx; omega) | rfl)
        simp only [Act.put, List.setIfInBounds_toArray, List.set_cons_zero, List.set_cons_succ]
        refine qw_run (v := .int .i64 ((a : Int) + 1)) (by rfl) ?_ ?_
        · (intro w1 hC; obtain ⟨⟨x0, x1⟩, ⟨u0, u1⟩, -⟩ := hC; go_simp; first | done | (simp; done) | (simp [*]; done) | omega | (simp; omega) | (rw [IntKind.wrap_i64]; omega) | (intro hx; omega) | rfl)
        simp only [Act.put, List.setIfInBounds_toArray, List.set_cons_zero, List.set_cons_succ]
        refine qw_run (v := .int .i64 (a : Int)) (by rfl) ?_ ?_
        · (intro w1 hC; obtain ⟨⟨x0, x1⟩, ⟨u0, u1⟩, -⟩ := hC; go_simp; first | done | (simp; done) | (simp [*]; done) | omega | (simp; omega) | (rw [IntKind.wrap_i64]; omega) | (intro hx; omega) | rfl)
        simp only [Act.put, List.setIfInBounds_toArray, List.set_cons_zero, List.set_cons_succ]
        refine qw_run (v := .pointer (some ⟨g, a * 2, none⟩)) (by rfl) ?_ ?_
        · (intro w1 hC; obtain ⟨⟨x0, x1⟩, ⟨u0, u1⟩, -⟩ := hC; go_simp; first | done | (simp; done) | (simp [*]; done) | omega | (simp; omega) | (rw [IntKind.wrap_i64]; omega) | (intro hx; omega) | rfl)
        simp only [Act.put, List.setIfInBounds_toArray, List.set_cons_zero, List.set_cons_succ]
        refine qw_run (v := .agg #[.int .u64 (hI qx), .int .u64 (lI qx)]) (by rfl) ?_ ?_
        · (intro w1 hC; obtain ⟨⟨x0, x1⟩, ⟨u0, u1⟩, -⟩ := hC; go_simp; first | done | (simp; done) | (simp [*]; done) | omega | (simp; omega) | (rw [IntKind.wrap_i64]; omega) | (intro hx; omega) | rfl)
        simp only [Act.put, List.setIfInBounds_toArray, List.set_cons_zero, List.set_cons_succ]
        refine qw_run (v := .agg #[.int .u64 (hI x), .int .u64 (lI x)]) (by rfl) ?_ ?_
        · (intro w1 hC; obtain ⟨⟨x0, x1⟩, ⟨u0, u1⟩, -⟩ := hC; go_simp; first | done | (simp; done) | (simp [*]; done) | omega | (simp; omega) | (rw [IntKind.wrap_i64]; omega) | (intro hx; omega) | rfl)
        simp only [Act.put, List.setIfInBounds_toArray, List.set_cons_zero, List.set_cons_succ]
        refine qw_call (v := .int .i64 z) (f := 72) (args := #[.agg #[.int .u64 (hI qx), .int .u64 (lI qx)], .agg #[.int .u64 (hI x), .int .u64 (lI x)]]) (by rfl) ?_ ?_ ?_
        · (intro w1 hC; clear hC; go_simp)
        · exact fun w1 hC => (KP w1).mono fun e w' ⟨he, hb⟩ => ⟨he, hC.below hb⟩
        simp only [Act.put, List.setIfInBounds_toArray, List.set_cons_zero, List.set_cons_succ]
        refine qw_run (v := .bool (decide (0 < z))) (by rfl) ?_ ?_
        · (intro w1 hC; obtain ⟨⟨x0, x1⟩, ⟨u0, u1⟩, -⟩ := hC; go_simp; first | done | (simp; done) | (simp [*]; done) | omega | (simp; omega) | (rw [IntKind.wrap_i64]; omega) | (intro hx; omega) | rfl)
        simp only [Act.put, List.setIfInBounds_toArray, List.set_cons_zero, List.set_cons_succ]
        refine qw_run (v := .bool (decide (0 < z))) (by rfl) ?_ ?_
        · (intro w1 hC; obtain ⟨⟨x0, x1⟩, ⟨u0, u1⟩, -⟩ := hC; go_simp; first | done | (simp; done) | (simp [*]; done) | omega | (simp; omega) | (rw [IntKind.wrap_i64]; omega) | (intro hx; omega) | rfl)
        simp only [Act.put, List.setIfInBounds_toArray, List.set_cons_zero, List.set_cons_succ]
        refine qw_nil ?_
        intro W6 hC6
        obtain ⟨⟨x0, x1⟩, ⟨u0, u1⟩, hC6⟩ := hC6
        have HC6 := hidR hC6
        clear hC6 HB5 KP
        by_cases hz : z ≤ 0
        · have hz' : ¬ 0 < z := by omega
          have hzd : decide (0 < z) = false := by simpa using hz'
          have HZ1 := hidR (HZ.out.1 hz)
          clear HZ
          by_cases hq : qx = x
          · have hqb : (qx == x) = true := by simpa using hq
            rw [hqb] at hE
            go_wp2_with fail
            go_quiet (fail)
            have HB7 := hidR (keepb (below_drewN HC6.out nq) HB.out)
            have HP := hidR (put_there S x HSS.out (by rw [← hq]; exact HMa.out))
            have HR : Hid (PtO base (.slice (some ⟨g, 0, none⟩) k oc) S w (.slice (some ⟨g, 0, none⟩) k oc) (W6.drewN nq)) := hidR ⟨by rw [hS0]; exact own_below HB7.out HO.out, below_grown HB7.out, fun z e => .inl e⟩
            clear HB7 HC6 x0 x1 u0 u1
            go_wp2
            go_ret
            exact ⟨_, _, rfl, HP.out, HR.out⟩
          · have hqb : (qx == x) = false := by simpa using hq
            rw [hqb] at hE
            have HA1 : Hid (∀ (h : 0 < a + 1), (S[a + 1 - 1]'(by omega)).toNat < x.toNat) := hidR (fun h => by
              rw [HSa.out h]
              rcases HZ1.out with q | q
              · exact q
              · exact absurd q hq)
            clear HZ1
            go_wp2_with fail
            go_quiet (fail)
            clear x0 x1 u0 u1
            have HB7 := hidR (below_drewN HC6.out nq)
            generalize W6.drewN nq = W7 at HB7 ⊢
            have HB7w := hidR (keepb HB7.out HB.out)
            have HO6 := hidR (own_below HB7w.out HO.out)
            have HG6 : Hid (w.grownBy W7 (Value.ownBlock (.slice (some ⟨g, 0, none⟩) k oc))) := hidR (below_grown HB7w.out)
            have HX6 := hidR (HX.out.below HB7.out)
            have hs7 := HB7.out.size
            clear HC6 HB7 HB7w HO HX HB
            go_wp2_with (at_builtin; apply stopHereW)
            refine (show wpList _ _ _ _ _ _ from ?_)
            refine wpList_append_lies _ rfl _ _ 57 rfl base 27 i0 (.agg #[.int .u64 0, .int .u64 0]) 2 16 Tryz.underlying57 hi hz0 hz1 hz2 rfl (by decide) _ _ _ rfl (HO6.out.alloc _) ⟨W7.heap.size, 0, none⟩ 1 1 [.int .u64 0, .int .u64 0] rfl rfl (newsWd _ _ _ _) (twoW _ _) (by decide) h63 h47 (by have := HG6.out.size; have := hbs; simp; omega) _ rfl ?_
            intro g4 cap4 w7 ho7 hgrow hat hlt4
            have HG7 : Hid (w.grownBy w7 (Value.ownBlock (.slice (some ⟨g, 0, none⟩) k oc))) := hidR ((HG6.out.trans (World.grownBy_alloc W7 _ _)).trans hgrow)
            have HT7 : Hid ((Value.ownBlock (.slice (some ⟨g, 0, none⟩) k oc)) = some g4 ∨ w.heap.size + 1 ≤ g4) := hidR (by
              rcases hat with q | q
              · exact .inl q
              · right
                simp at q
                omega)
            have HT8 : Hid ((Value.ownBlock (.slice (some ⟨g, 0, none⟩) k oc)) = some g4 ∨ w.heap.size ≤ g4) := hidR (by rcases HT7.out with q | q; exact .inl q; exact .inr (by omega))
            have HX7 := hidR ((HX6.out.below (bl1 W7 (.cells #[.int .u64 0, .int .u64 0] 27))).heap (hgrow.block _ (by have := HX6.out.2.2.2.2; simp; omega) (fun e => HNX.out e.symm)) hgrow.size)
            have HO7 : Hid (w7.ownsRow base 27 2 (.slice (some ⟨g4, 0, none⟩) (k + 1) cap4) (k + 1) (rowW (S.take k ++ 0#128 :: S.drop k))) := hidR (by
              rw [List.take_of_length_le (by omega), List.drop_eq_nil_of_le (by omega), rowW_one, hI_zero, lI_zero]
              exact ho7)
            clear ho7 hgrow hat hlt4 HO6 HG6 HX6
            go_wp2_with fail
            go_loopw [6] (fun i w8 => ∃ (m : Nat) (d : BitVec 128), (a + 1) ≤ m ∧ m ≤ k ∧ i = .int .i64 m ∧ Hid (w8.ownsRow base 27 2 (.slice (some ⟨g4, 0, none⟩) (k + 1) cap4) (k + 1) (rowW (S.take m ++ d :: S.drop m))) ∧ Hid (w.grownBy w8 (Value.ownBlock (.slice (some ⟨g, 0, none⟩) k oc))) ∧ Hid (At w8 w.heap.size x)) (fun i _ => (intOf i).toNat)
            case atStart => exact ⟨k, 0#128, by omega, by omega, rfl, HO7, HG7, HX7⟩
            case round =>
              clear HO7 HG7 HX7
              obtain ⟨m, d, hm1, hm2, rfl, HO8, HG8, HX8⟩ := hrel
              have hZl : (S.take m ++ d :: S.drop m).length = k + 1 := by simp; omega
              by_cases hmt : (a + 1) < m
              · obtain ⟨j, rfl⟩ : ∃ j, m = j + 1 := ⟨m - 1, by omega⟩
                have hjS : j < S.length := by omega
                have hjZ : j < (S.take (j + 1) ++ d :: S.drop (j + 1)).length := by omega
                obtain ⟨x0, x1⟩ := ownW_cells HO8.out j hjZ
                rw [mid_getW S j hjS d hjZ] at x0 x1
                obtain ⟨⟨t0, z0⟩, s0⟩ := own_cell6 HO8.out ((j + 1) * 2) (by omega)
                obtain ⟨⟨t1, z1⟩, s1⟩ := own_cell6 HO8.out ((j + 1) * 2 + 1) (by omega)
                have e1 : ((j + 1 : Nat) : Int) = (j : Int) + 1 := by omega
                have m1 : IntKind.i64.wrap ((j : Int) + 1 - 1) = (j : Int) := by rw [IntKind.wrap_i64]; omega
                have m2 : IntKind.i64.wrap (j : Int) = (j : Int) := by rw [IntKind.wrap_i64]; omega
                have i1 : (j : Int) < (k : Int) + 1 := by omega
                have i2 : (j : Int) + 1 < (k : Int) + 1 := by omega
                have i3 : ((a : Int) + 1) < (j : Int) + 1 := by omega
                have i5 : j < k + 1 := by omega
                have i6 : j < k := by omega
                have i7 : (j : Int) < (k : Int) := by omega
                have HSq : Hid (S.take (j + 1) ++ S[j] :: S.drop (j + 1) = S.take j ++ S[j] :: S.drop j) := hidR (mid_backW S j hjS)
                rw [e1]
                clear e1
                revert HSq
                generalize S[j] = sx at *
                intro HSq
                go_wp2
                go_roundw
                case rel =>
                  have r1 := HO8.out.stored ((j + 1) * 2) (.int .u64 (hI sx))
                  have r2 := r1.1.stored ((j + 1) * 2 + 1) (.int .u64 (lI sx))
                  have t2 := rowW_set (S.take (j + 1) ++ d :: S.drop (j + 1)) (j + 1) sx
                  rw [if_pos (by omega), set_midW S (j + 1) (by omega), HSq.out] at t2
                  have t1 := r2.1
                  rw [t2] at t1
                  have hne := HNG.out g4 HT7.out
                  exact ⟨j, sx, by omega, by omega, by go_num, hidR t1, hidR (grown_set2 HG8.out (HT8.out) _ _ _ _), hidR (HX8.out.heap (by rw [hSet _ hne, hSet _ hne]) (by have := (bset2 (C := g4) (Below.refl 0 wr) (Nat.zero_le _) (.int .u64 (hI sx)) (.int .u64 (lI sx))).size; simp))⟩
                case measure => first | (simp [intOf]; done) | (simp [intOf]; omega)
              · obtain rfl : m = (a + 1) := by omega
                obtain ⟨v0, v1, -⟩ := HX8.out
                obtain ⟨⟨t0, z0⟩, s0⟩ := own_cell6 HO8.out ((a + 1) * 2) (by omega)
                obtain ⟨⟨t1, z1⟩, s1⟩ := own_cell6 HO8.out ((a + 1) * 2 + 1) (by omega)
                have i2 : ((a : Int) + 1) < (k : Int) + 1 := by omega
                have i5 : (a + 1) < k + 1 := by omega
                have r1 := HO8.out.stored ((a + 1) * 2) (.int .u64 (hI x))
                have r2 := r1.1.stored ((a + 1) * 2 + 1) (.int .u64 (lI x))
                have t2 := rowW_set (S.take ((a + 1)) ++ d :: S.drop ((a + 1))) ((a + 1)) x
                rw [if_pos (by omega), set_midW S ((a + 1)) (by omega)] at t2
                have t1' := r2.1
                rw [t2] at t1'
                have HR : Hid (PtO base (.slice (some ⟨g, 0, none⟩) k oc) (S.take ((a + 1)) ++ x :: S.drop ((a + 1))) w (.slice (some ⟨g4, 0, none⟩) (k + 1) cap4) _) := hidR ⟨by rw [show (S.take ((a + 1)) ++ x :: S.drop ((a + 1))).length = k + 1 by simp; omega]; exact t1', grown_set2 HG8.out (HT8.out) _ _ _ _, fun z e => by
                  have e : g4 = z := by simpa [Value.ownBlock] using e
                  rw [← e]; exact HT8.out⟩
                have HP := hidR (put_new S x HSS.out ((a + 1)) (by omega) HQ.out HA1.out)
                clear r1 r2 t2 t1' HO8 HG8 HX8
                go_wp2
                go_ret
                exact ⟨_, _, rfl, HP.out, HR.out⟩
        · have hz' : 0 < z := by omega
          have hzd : decide (0 < z) = true := by simpa using hz'
          clear x0 x1 u0 u1
          go_wp2
          go_roundw
          case rel =>
            refine ⟨a, by omega, by go_num, ?_, HC6⟩
            refine hidR (fun q hq => ?_)
            rw [HDa.out] at hq
            rcases List.mem_cons.mp hq with rfl | hq
            · exact HZ.out.2 (by omega)
            · exact HQ.out q hq
          case measure => first | (simp [intOf]; done) | (simp [intOf]; omega)
end Go.Proofs.YtonagfmkplbooaaGreatDoor
/-
  What the calls of turnpikeref2's Next and Prev do.
-/
namespace Go.Proofs.YtonagfmkplbooaaGreatDoor
open Go.RowKit
set_option linter.unusedSimpArgs false
set_option linter.unusedVariables false

set_option maxHeartbeats 4000000 in
theorem rnext_yes (F : Int) (x m y z : BitVec 128) (ov : Bool) (w : World) (q : (hI x == hI m) = false ∨ (hI x == hI m) = true ∧ (lI x == lI m) = false)
    (KR : ∀ w, Calls Tryz.prog 74 #[.int .i64 F, .agg #[.int .u64 (hI x), .int .u64 (lI x)]] w fun e w' => e = .returned (.int .i64 0) ∧ Below w.heap.size w w')
    (KK : ∀ w, Calls Tryz.prog 48 #[.int .i64 F] w fun e w' => e = .returned (.agg #[.int .u64 (hI m), .int .u64 (lI m)]) ∧ Below w.heap.size w w')
    (KS : ∀ w, Calls Tryz.prog 76 #[.int .i64 F] w fun e w' => e = .returned (.agg #[.int .u64 (hI y), .int .u64 (lI y)]) ∧ Below w.heap.size w w')
    (KM : ∀ w, Calls Tryz.prog 75 #[.agg #[.int .u64 (hI x), .int .u64 (lI x)], .agg #[.int .u64 (hI y), .int .u64 (lI y)]] w fun e w' => e = .returned (.tuple #[.agg #[.int .u64 (hI z), .int .u64 (lI z)], .bool ov]) ∧ Below w.heap.size w w') :
    Calls Tryz.prog 50 #[.int .i64 F, .agg #[.int .u64 (hI x), .int .u64 (lI x)]] w fun e w' => e = .returned (.tuple #[.agg #[.int .u64 (hI z), .int .u64 (lI z)], .bool true]) ∧ Below w.heap.size w w' := by
  have kB := (bl2 w (.cells #[.int .u64 (hI x), .int .u64 (lI x)] 27) (.cells #[.int .u64 0, .int .u64 0] 27)).drew
  rcases q with q1 | ⟨q1, q2⟩
  all_goals
    go_enter Tryz.func50, Tryz.ntmps50
    go_wp2_with fail
    refine q_region (C := (fun w' => w'.cell? ⟨w.heap.size, 0, none⟩ = some (.int .u64 (hI x)) ∧ w'.cell? ⟨w.heap.size, 1, none⟩ = some (.int .u64 (lI x)) ∧ w'.cell? ⟨w.heap.size + 1, 0, none⟩ = some (.int .u64 0) ∧ w'.cell? ⟨w.heap.size + 1, 1, none⟩ = some (.int .u64 0) ∧ w'.frozen? ⟨w.heap.size + 1, 0, none⟩ = false ∧ w'.frozen? ⟨w.heap.size + 1, 1, none⟩ = false ∧ Below w.heap.size w w')) (by kernel_rfl) (by kernel_rfl) ⟨by simp [go_sem], by simp [go_sem], by simp [go_sem], by simp [go_sem], by simp [go_sem], by simp [go_sem], kB⟩ ?_
    clear kB
    refine q_run (v := .int .i64 F) (by rfl) ?_ ?_
    · (intro w1 hC; obtain ⟨c1, c2, c3, c4, c5, c6, c7⟩ := hC; go_simp; first | done | (simp; done) | (simp [*]; done) | (simp; omega) | rfl)
    simp only [Act.put, List.setIfInBounds_toArray, List.set_cons_zero, List.set_cons_succ]
    refine q_run (v := .agg #[.int .u64 (hI x), .int .u64 (lI x)]) (by rfl) ?_ ?_
    · (intro w1 hC; obtain ⟨c1, c2, c3, c4, c5, c6, c7⟩ := hC; go_simp; first | done | (simp; done) | (simp [*]; done) | (simp; omega) | rfl)
    simp only [Act.put, List.setIfInBounds_toArray, List.set_cons_zero, List.set_cons_succ]
    refine q_call (v := .int .i64 0) (f := 74) (args := #[.int .i64 F, .agg #[.int .u64 (hI x), .int .u64 (lI x)]]) (by rfl) ?_ ?_ ?_
    · (intro w1 hC; obtain ⟨c1, c2, c3, c4, c5, c6, c7⟩ := hC; go_simp)
    · exact fun w1 hC => (KR w1).mono fun e w' ⟨he, hb⟩ => ⟨he, keepc hb hC.1, keepc hb hC.2.1, keepc hb hC.2.2.1, keepc hb hC.2.2.2.1, keepf hb hC.2.2.1 hC.2.2.2.2.1, keepf hb hC.2.2.2.1 hC.2.2.2.2.2.1, keepb hb hC.2.2.2.2.2.2⟩
    simp only [Act.put, List.setIfInBounds_toArray, List.set_cons_zero, List.set_cons_succ]
    refine q_run (v := .bool false) (by rfl) ?_ ?_
    · (intro w1 hC; obtain ⟨c1, c2, c3, c4, c5, c6, c7⟩ := hC; go_simp; first | done | (simp; done) | (simp [*]; done) | (simp; omega) | rfl)
    simp only [Act.put, List.setIfInBounds_toArray, List.set_cons_zero, List.set_cons_succ]
    refine q_run (v := .bool false) (by rfl) ?_ ?_
    · (intro w1 hC; obtain ⟨c1, c2, c3, c4, c5, c6, c7⟩ := hC; go_simp; first | done | (simp; done) | (simp [*]; done) | (simp; omega) | rfl)
    simp only [Act.put, List.setIfInBounds_toArray, List.set_cons_zero, List.set_cons_succ]
    refine q_run (v := .agg #[.int .u64 (hI x), .int .u64 (lI x)]) (by rfl) ?_ ?_
    · (intro w1 hC; obtain ⟨c1, c2, c3, c4, c5, c6, c7⟩ := hC; go_simp; first | done | (simp; done) | (simp [*]; done) | (simp; omega) | rfl)
    simp only [Act.put, List.setIfInBounds_toArray, List.set_cons_zero, List.set_cons_succ]
    refine q_run (v := .int .i64 F) (by rfl) ?_ ?_
    · (intro w1 hC; obtain ⟨c1, c2, c3, c4, c5, c6, c7⟩ := hC; go_simp; first | done | (simp; done) | (simp [*]; done) | (simp; omega) | rfl)
    simp only [Act.put, List.setIfInBounds_toArray, List.set_cons_zero, List.set_cons_succ]
    refine q_call (v := .agg #[.int .u64 (hI m), .int .u64 (lI m)]) (f := 48) (args := #[.int .i64 F]) (by rfl) ?_ ?_ ?_
    · (intro w1 hC; obtain ⟨c1, c2, c3, c4, c5, c6, c7⟩ := hC; go_simp)
    · exact fun w1 hC => (KK w1).mono fun e w' ⟨he, hb⟩ => ⟨he, keepc hb hC.1, keepc hb hC.2.1, keepc hb hC.2.2.1, keepc hb hC.2.2.2.1, keepf hb hC.2.2.1 hC.2.2.2.2.1, keepf hb hC.2.2.2.1 hC.2.2.2.2.2.1, keepb hb hC.2.2.2.2.2.2⟩
    simp only [Act.put, List.setIfInBounds_toArray, List.set_cons_zero, List.set_cons_succ]
    refine q_run (v := .bool false) (by rfl) ?_ ?_
    · (intro w1 hC; obtain ⟨c1, c2, c3, c4, c5, c6, c7⟩ := hC; go_simp; first | done | (simp; done) | (simp [*]; done) | (simp; omega) | rfl)
    simp only [Act.put, List.setIfInBounds_toArray, List.set_cons_zero, List.set_cons_succ]
    refine q_run (v := .bool false) (by rfl) ?_ ?_
    · (intro w1 hC; obtain ⟨c1, c2, c3, c4, c5, c6, c7⟩ := hC; go_simp; first | done | (simp; done) | (simp [*]; done) | (simp; omega) | rfl)
    simp only [Act.put, List.setIfInBounds_toArray, List.set_cons_zero, List.set_cons_succ]
    refine wpQuiet_nil ?_
    intro w1 hC
    obtain ⟨x0, x1, o0, o1, o2, o3, kB⟩ := hC
    have hZ : At w1 (w.heap.size + 1) 0#128 := ⟨by rw [hI_zero]; exact o0, by rw [lI_zero]; exact o1, o2, o3, cell_in o0⟩
    have z4 := cell_in o0
    have x4 := cell_in x0
    have n1 : ¬ w1.heap.size = w.heap.size := by omega
    clear o0 o1 o2 o3
    go_wp2_with fail
    rename_i Q' K hK
    have tail : ∀ (N : Nat) (W : World), At W N z → At W (w.heap.size + 1) 0#128 → Below w.heap.size w W → ¬ N = w.heap.size + 1 → (Exit.then K Q') .normal { tmps := #[.int .i64 F, .agg #[.int .u64 (hI x), .int .u64 (lI x)], undef, .pointer (some ⟨w.heap.size, 0, none⟩), .pointer (some ⟨w.heap.size + 1, 0, none⟩), .bool false, .pointer (some ⟨N, 0, none⟩), .bool ov, .int .i64 F, .agg #[.int .u64 (hI x), .int .u64 (lI x)], .int .i64 0, .bool false, .bool false, .agg #[.int .u64 (hI x), .int .u64 (lI x)], .int .i64 F, .agg #[.int .u64 (hI m), .int .u64 (lI m)], .bool false, .bool false, undef, .tuple #[.agg #[.int .u64 (hI z), .int .u64 (lI z)], .bool ov], .agg #[.int .u64 (hI x), .int .u64 (lI x)], .int .i64 F, .agg #[.int .u64 (hI y), .int .u64 (lI y)], .tuple #[.agg #[.int .u64 (hI z), .int .u64 (lI z)], .bool ov], .agg #[.int .u64 (hI z), .int .u64 (lI z)], .bool ov, undef], defers := [] } W := by
      intro N W hN hZ' hB' hn
      obtain ⟨a0, a1, a2, a3, a4⟩ := hN
      obtain ⟨b0, b1, b2, b3, b4⟩ := hZ'
      clear x0 x1 x4 hZ KR KK KS KM
      go_wp2
      exact bodyPost_ret (v := .tuple #[.agg #[.int .u64 (hI z), .int .u64 (lI z)], .bool true]) (by simp [results, Tryz.results50, go_sem, *]) rfl ⟨rfl, bset2 hB' (by omega) _ _⟩
    go_region_with (first | (go_at_call 76; refine (KS _).mono ?_; rintro e w2 ⟨rfl, hb2⟩; have p0 : w2.cell? ⟨w.heap.size, 0, none⟩ = some (.int .u64 (hI x)) := keepc hb2 (by simp [go_sem, *]); have p1 : w2.cell? ⟨w.heap.size, 1, none⟩ = some (.int .u64 (lI x)) := keepc hb2 (by simp [go_sem, *]); have n3 : ¬ w2.heap.size = w.heap.size := (fun e => by have := cell_in p0; omega); have l3 := cell_in p0; (try (refine (fun (c0 : w2.cell? ⟨w1.heap.size, 0, none⟩ = some (.int .u64 0)) => ?_) (keepc hb2 ?_); rotate_left; (focus (simp [go_sem]; done)))); (try (refine (fun (c1 : w2.cell? ⟨w1.heap.size, 1, none⟩ = some (.int .u64 0)) => ?_) (keepc hb2 ?_); rotate_left; (focus (simp [go_sem]; done)))); (try (refine (fun (g0 : w2.frozen? ⟨w1.heap.size, 0, none⟩ = false) => ?_) (keepf hb2 (v := .int .u64 0) ?_ ?_); rotate_left; (focus (simp [go_sem]; done)); (focus (simp [go_sem]; done)))); (try (refine (fun (g1 : w2.frozen? ⟨w1.heap.size, 1, none⟩ = false) => ?_) (keepf hb2 (v := .int .u64 0) ?_ ?_); rotate_left; (focus (simp [go_sem]; done)); (focus (simp [go_sem]; done)))); have hZ2 : At w2 (w.heap.size + 1) 0#128 := At.below (by first | exact hZ.drew | exact (hZ.below (bl1 _ _)).drew | exact hZ | exact hZ.below (bl1 _ _)) hb2; have kB2 : Below w.heap.size w w2 := keepb hb2 (by first | exact kB.drew | exact (kB.alloc (by omega) _).drew | exact kB | exact kB.alloc (by omega) _)) | (go_at_call 75; refine (KM _).mono ?_; rintro e w3 ⟨rfl, hb3⟩; (try (have d0 := keepc hb3 c0; have d1 := keepc hb3 c1; have e0 := keepf hb3 c0 g0; have e1 := keepf hb3 c1 g1)); (try (refine (fun (d2 : w3.cell? ⟨w2.heap.size, 0, none⟩ = some (.int .u64 0)) => ?_) (keepc hb3 ?_); rotate_left; (focus (simp [go_sem]; done)))); (try (refine (fun (d3 : w3.cell? ⟨w2.heap.size, 1, none⟩ = some (.int .u64 0)) => ?_) (keepc hb3 ?_); rotate_left; (focus (simp [go_sem]; done)))); (try (refine (fun (e2 : w3.frozen? ⟨w2.heap.size, 0, none⟩ = false) => ?_) (keepf hb3 (v := .int .u64 0) ?_ ?_); rotate_left; (focus (simp [go_sem]; done)); (focus (simp [go_sem]; done)))); (try (refine (fun (e3 : w3.frozen? ⟨w2.heap.size, 1, none⟩ = false) => ?_) (keepf hb3 (v := .int .u64 0) ?_ ?_); rotate_left; (focus (simp [go_sem]; done)); (focus (simp [go_sem]; done)))); have hZ3 : At w3 (w.heap.size + 1) 0#128 := At.below (by first | exact hZ2 | exact hZ2.below (bl1 _ _)) hb3; have kB3 : Below w.heap.size w w3 := keepb hb3 (by first | exact kB2 | exact kB2.alloc kB2.size _)))
    all_goals
      have z5 := hZ3.2.2.2.2
      have z6 := hZ2.2.2.2.2
    all_goals first
      | exact tail w3.heap.size _ (at_new w3 w3.heap.size z _ rfl) (hZ3.below (bl1 _ _)) (kB3.alloc kB3.size _) (Nat.ne_of_gt z5)
      | exact tail w2.heap.size _ (at_zero d2 d3 e2 e3 z) (hZ3.other _ _ (Nat.ne_of_lt z6)) (bset2 kB3 kB2.size _ _) (Nat.ne_of_gt z6)
      | exact tail w1.heap.size _ (at_zero d0 d1 e0 e1 z) (hZ3.other _ _ (Nat.ne_of_lt z4)) (bset2 kB3 kB.size _ _) (Nat.ne_of_gt z4)
end Go.Proofs.YtonagfmkplbooaaGreatDoor
