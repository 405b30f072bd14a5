/-
  Part 21 of the proof: 2 texts, one behind the other.
-/
import Derived.Test.YtmkjlcfoedglmaaDoorPart20
import Derived.Test.YtmkjlcfoedglmaaDoorPart12
import Derived.Test.YtmkjlcfoedglmaaDoorRows
import Derived.ProofKit
import Derived.Lib.SmallJoins
/-
  The law AlgebraApart: in a table of segments no prefix lies within another one.
-/
namespace Go.Proofs.YtmkjlcfoedglmaaDoor
open Go.RowKit
set_option linter.unusedSimpArgs false
set_option linter.unusedVariables false

theorem eqRt_run (x : BitVec 128) (n h : Int) (y : BitVec 128) (m k : Int) (w : World) :
    (Op.equalIn 10000 53 (.agg #[.int .u64 (hI x), .int .u64 (lI x), .int .i64 n, .int .i64 h]) (.agg #[.int .u64 (hI y), .int .u64 (lI y), .int .i64 m, .int .i64 k])).run Tryd.prog w = .ok ((x == y) && (n == m) && (h == k)) w := by
  rcases eqw x y with ⟨q1, q2, q3⟩ | ⟨q1, q3⟩ | ⟨q1, q2, q3⟩
  all_goals
    rw [q3]
    go_simp
    try simp [*]
    try (by_cases e : n = m <;> simp [e] <;> by_cases e2 : h = k <;> simp [e2])
theorem right_tab6 {F : Int} {l : List Rte} (h : RightT F l) (z : Int) (hz : TabE F l z) : z = 0 := by
  rcases hz.2 h.2.1 with ⟨_, q⟩ | ⟨q, _⟩
  · exact q
  · exact absurd h.2.2 q
theorem rightT_tab6 {F : Int} {l : List Rte} (h : RightT F l) : TabE F l 0 := ⟨fun q => absurd h.2.1 q, fun _ => .inl ⟨h.2.2, rfl⟩⟩
theorem own_bel6 {w w' : World} {base e size n : Nat} {v : Value} {xs : List Value} (h : w.ownsRow base e size v n xs) (hb : Below w.heap.size w w') : w'.ownsRow base e size v n xs := own_heap h (fun g q => hb.block g (h.lt g q).2)
def NgbL (R : List Rte) : Prop := ∀ j (hj : j + 1 < R.length), Ngb R[j] R[j + 1]
/-- Two neighbours of a table's row. -/
def CA (w6 : World) (T1 g j n c : Nat) (F : Int) (ax : BitVec 128) (an ah : Int) (bx : BitVec 128) (bn bh : Int) (W : World) : Prop := (W.cell? ⟨g, j * 4, none⟩ = some (.int .u64 (hI ax)) ∧ W.cell? ⟨g, j * 4 + 1, none⟩ = some (.int .u64 (lI ax)) ∧ W.cell? ⟨g, j * 4 + 2, none⟩ = some (.int .i64 an) ∧ W.cell? ⟨g, j * 4 + 3, none⟩ = some (.int .i64 ah)) ∧ (W.cell? ⟨g, (j + 1) * 4, none⟩ = some (.int .u64 (hI bx)) ∧ W.cell? ⟨g, (j + 1) * 4 + 1, none⟩ = some (.int .u64 (lI bx)) ∧ W.cell? ⟨g, (j + 1) * 4 + 2, none⟩ = some (.int .i64 bn) ∧ W.cell? ⟨g, (j + 1) * 4 + 3, none⟩ = some (.int .i64 bh)) ∧ AtT W T1 F (.slice (some ⟨g, 0, none⟩) n c) ∧ Below w6.heap.size w6 W
theorem CA.below {w6 : World} {T1 g j n c : Nat} {F : Int} {ax : BitVec 128} {an ah : Int} {bx : BitVec 128} {bn bh : Int} {W W' : World} (k : CA w6 T1 g j n c F ax an ah bx bn bh W) (hb : Below W.heap.size W W') : CA w6 T1 g j n c F ax an ah bx bn bh W' := ⟨⟨keepc hb k.1.1, keepc hb k.1.2.1, keepc hb k.1.2.2.1, keepc hb k.1.2.2.2⟩, ⟨keepc hb k.2.1.1, keepc hb k.2.1.2.1, keepc hb k.2.1.2.2.1, keepc hb k.2.1.2.2.2⟩, k.2.2.1.below hb, keepb hb k.2.2.2⟩
theorem CA.drewN {w6 : World} {T1 g j n c : Nat} {F : Int} {ax : BitVec 128} {an ah : Int} {bx : BitVec 128} {bn bh : Int} {W : World} (k : CA w6 T1 g j n c F ax an ah bx bn bh W) : CA w6 T1 g j n c F ax an ah bx bn bh W.drew := k.below (below_drewN (Below.refl _ _) 1)
def CB (w6 : World) (T1 g j n c S : Nat) (F : Int) (ax : BitVec 128) (an ah : Int) (bx : BitVec 128) (bn bh : Int) (sx : BitVec 128) (sn : Int) (W : World) : Prop := CA w6 T1 g j n c F ax an ah bx bn bh W ∧ AtP W S sx sn
theorem CB.below {w6 : World} {T1 g j n c S : Nat} {F : Int} {ax : BitVec 128} {an ah : Int} {bx : BitVec 128} {bn bh : Int} {sx : BitVec 128} {sn : Int} {W W' : World} (k : CB w6 T1 g j n c S F ax an ah bx bn bh sx sn W) (hb : Below W.heap.size W W') : CB w6 T1 g j n c S F ax an ah bx bn bh sx sn W' := ⟨k.1.below hb, k.2.below hb⟩
theorem CB.drewN {w6 : World} {T1 g j n c S : Nat} {F : Int} {ax : BitVec 128} {an ah : Int} {bx : BitVec 128} {bn bh : Int} {sx : BitVec 128} {sn : Int} {W : World} (k : CB w6 T1 g j n c S F ax an ah bx bn bh sx sn W) : CB w6 T1 g j n c S F ax an ah bx bn bh sx sn W.drew := k.below (below_drewN (Below.refl _ _) 1)
set_option maxRecDepth 40000 in
set_option maxHeartbeats 32000000 in
theorem algebraApart_any (F : Int) (v : Value) (l : List Rte) (w : World) (hT : Tab w) (hv : RwR w v l) :
    Calls Tryd.prog 4 #[.agg #[.int .i64 F, v]] w fun e w' => e = .returned (.bool true) ∧ Below w.heap.size w w' := by
  have KK := fun w => known6_any w
  have HU0 := hidR (att_new w w.heap.size F v 24 rfl)
  have HV0 := hidR (hv.below (bl1 w (.cells #[.int .i64 F, v] 24)))
  have HT0 := hidR (hT.keep (bl1 w (.cells #[.int .i64 F, v] 24)))
  have HW0 := hidR (bl1 w (.cells #[.int .i64 F, v] 24))
  obtain ⟨ao, c, e, -⟩ := id hv
  have K1 : ∀ W, RwR W v l → RightT F l → Calls Tryd.prog 9 #[.agg #[.int .i64 F, v]] W fun e w' => (∃ v', e = .returned (.tuple #[v', .int .i64 0]) ∧ w'.ownsRow W.heap.size 39 5 v' (swp F l).length (rowG (swp F l))) ∧ Below W.heap.size W w' := fun W h hR => by
    refine (segs_any F v l W h).mono ?_
    rintro e w' ⟨⟨z, v', hz, rfl, h1, -⟩, hb⟩
    have := right_tab6 hR z hz
    subst this
    exact ⟨⟨v', rfl, h1 rfl⟩, hb⟩
  have KR := fun W (h : RwR W v l) => rightT_any F v l W h
  have K2 : ∀ W v', Tab W → RwG W v' (swp F l) → RightT F l → Calls Tryd.prog 14 #[.int .i64 F, v'] W fun e w' => (∃ v2, e = .returned (.tuple #[.agg #[.int .i64 F, v2], .int .i64 0]) ∧ w'.ownsRow W.heap.size 53 4 v2 (covR F (swp F l)).length (rowR (covR F (swp F l)))) ∧ Below W.heap.size W w' := fun W v' hT h hR => by
    have hn := hR.1
    obtain ⟨e1, e2, e3, -, -⟩ := tab_segs F l (rightT_tab6 hR) (by omega)
    have k := table6_any F v' (swp F l) W hT h (by have := swp_len F l; omega)
    rw [e1, e2, e3] at k
    exact k
  have HG : Hid (RightT F l → (covR F (swp F l)).length ≤ 1048576 ∧ NgbL (covR F (swp F l))) := hidR (fun hR => by
    have hn := hR.1
    obtain ⟨e1, e2, e3, hf, e4⟩ := tab_segs F l (rightT_tab6 hR) (by omega)
    obtain ⟨_, _, hL, hO⟩ := tab_ok (rightT_tab6 hR)
    have ok := swp_fits F hf l hL hO (by omega)
    unfold okL at ok
    exact ⟨by simpa using ok, fun j hj => covR_ngb F hf _ e4 j hj⟩)
  subst e
  clear hT hv
  generalize hw0 : w.alloc (.cells #[.int .i64 F, .slice ao l.length c] 24) = w0 at *
  go_enter Tryd.func4, Tryd.ntmps4
  go_wp2_with fail
  try rw [hw0]
  clear hw0
  refine (KK _).mono ?_
  rintro e w1 ⟨rfl, hb⟩
  have HB1 := hidR hb
  clear KK hb
  obtain ⟨t0, t1⟩ := HU0.out.below HB1.out
  have KR1 := KR w1 (HV0.out.below HB1.out)
  go_wp2_with fail
  refine KR1.mono ?_
  rintro e w2 ⟨⟨r, hr, rfl⟩, hb⟩
  have HB2 := hidR (keepb hb HB1.out)
  have HRt := hidR hr
  clear KR KR1 hb hr t0 t1 HB1
  cases r with
  | false =>
    go_wp2
    go_ret
    exact ⟨rfl, keepb HB2.out HW0.out⟩
  | true =>
    have hR := HRt.out rfl
    have hG := HG.out hR
    have K1 := fun W h => K1 W h hR
    have K2 := fun W v' hT h => K2 W v' hT h hR
    clear HRt HG hR
    revert K1 K2 hG
    generalize covR F (swp F l) = R
    generalize swp F l = S
    intro hG K1 K2
    have hRl := hG.1
    have HN := hidR hG.2
    clear hG
    obtain ⟨t0, t1⟩ := HU0.out.below HB2.out
    have K1' := K1 w2 (HV0.out.below HB2.out)
    go_wp2_with fail
    refine K1'.mono ?_
    rintro e w3 ⟨⟨va, rfl, ha⟩, hb⟩
    have HB3 := hidR (keepb hb HB2.out)
    obtain ⟨aa, ca, rfl⟩ := own_form ha
    have K2' := K2 w3 (.slice aa S.length ca) (HT0.out.keep HB3.out) (own_rwg ha)
    clear K1' ha hb t0 t1 K1 K2
    obtain ⟨t0, t1⟩ := HU0.out.below HB3.out
    go_wp2_with fail
    refine K2'.mono ?_
    rintro e w4 ⟨⟨vu, rfl, ha⟩, hb⟩
    obtain ⟨au, cu, rfl⟩ := own_form ha
    have b6 := bl1 w4 (.cells #[.int .i64 F, .slice au R.length cu] 24)
    have HB5 := hidR (keepb b6 (keepb hb HB3.out))
    have HU5 := hidR (own_bel6 ha b6)
    have HA5 := hidR (att_new w4 w4.heap.size F (.slice au R.length cu) 24 rfl)
    clear K2' ha hb t0 t1 b6 HB3 HB2
    generalize hw5 : w4.alloc (.cells #[.int .i64 F, .slice au R.length cu] 24) = w5 at *
    generalize hT1 : w4.heap.size = T1 at *
    go_wp2_with fail
    try rw [hw5]
    try rw [hT1]
    go_loopw [7] (fun i wr => ∃ k : Nat, 1 ≤ k ∧ (k ≤ R.length ∨ k = 1) ∧ i = .int .i64 k ∧ Hid (AtT wr T1 F (.slice au R.length cu)) ∧ Hid (Below w5.heap.size w5 wr)) (fun i _ => R.length - (intOf i).toNat)
    case atStart => exact ⟨1, by omega, by omega, rfl, HA5, hidR (Below.refl _ _)⟩
    case round =>
      clear HA5
      obtain ⟨k5, hk5, hk6, rfl, HA, HB⟩ := hrel
      obtain ⟨t0, t1⟩ := HA.out
      by_cases hlt : (k5 : Int) < (R.length : Int)
      · obtain ⟨j, rfl⟩ : ∃ j, k5 = j + 1 := ⟨k5 - 1, by omega⟩
        have hj : j + 1 < R.length := by omega
        have i3 : j < R.length := by omega
        rcases (own_bel6 HU5.out HB.out).2 with ⟨e, h⟩ | ⟨g, cap, cur, e, -⟩
        · omega
        · injection e with e1 e2 e3
          subst e1
          clear e2 e3
          have hC : CA w5 T1 g j R.length cu F R[j].1.1 R[j].1.2 R[j].2 R[j + 1].1.1 R[j + 1].1.2 R[j + 1].2 wr := ⟨ownR_cells (own_bel6 HU5.out HB.out) j i3, ownR_cells (own_bel6 HU5.out HB.out) (j + 1) hj, HA.out, HB.out⟩
          obtain ⟨ad1, ad2, ad3, ad4, ad5, ad6⟩ := HN.out j hj
          have KB := fun w => rsib_any R[j + 1].1.1 R[j + 1].1.2 w ad4 ad5
          rw [ad6] at KB
          have KP := fun w => rpcmp_any R[j].1.1 R[j].1.2 R[j + 1].1.1 R[j + 1].1.2 w
          have KW := fun w => rwithin_any R[j + 1].1.1 R[j + 1].1.2 R[j].1.1 R[j].1.2 w
          rw [ad2] at KW
          have hEq := fun w => eqRt_run R[j].1.1 R[j].1.2 R[j].2 (sibV R[j + 1].1.1 R[j + 1].1.2) (sibN R[j + 1].1.2) R[j + 1].2 w
          have e1 : ((j + 1 : Nat) : Int) = (j : Int) + 1 := by omega
          have m1 : IntKind.i64.wrap ((j : Int) + 1 - 1) = (j : Int) := by rw [IntKind.wrap_i64]; omega
          have m2 : IntKind.i64.wrap (j : Int) = (j : Int) := by rw [IntKind.wrap_i64]; omega
          have mk : IntKind.i64.wrap ((j : Int) + 1 + 1) = (j : Int) + 1 + 1 := by rw [IntKind.wrap_i64]; omega
          have i1 : (j : Int) < (R.length : Int) := by omega
          have i2 : (j : Int) + 1 < (R.length : Int) := by omega
          have HC := hidR hC
          rw [e1]
          clear hC ad2 ad4 ad5 ad6 e1 HA HB
          revert KB ad1 ad3 KP KW hEq HC
          generalize sibV R[j + 1].1.1 R[j + 1].1.2 = sx
          generalize sibN R[j + 1].1.2 = sn
          generalize pcmpZ R[j].1.1 R[j].1.2 R[j + 1].1.1 R[j + 1].1.2 = z
          generalize R[j].1.1 = ax
          generalize R[j].1.2 = an
          generalize R[j].2 = ah
          generalize R[j + 1].1.1 = bx
          generalize R[j + 1].1.2 = bn
          generalize R[j + 1].2 = bh
          intro ad1 ad3 KB KP KW hEq HC
          have hz : ¬ 0 ≤ z := by omega
          go_wp2_with fail
          refine qw_region (C := CA w5 T1 g j R.length cu F ax an ah bx bn bh) (by kernel_rfl) (by kernel_rfl) HC.out.drewN ?_
          clear HC t0 t1
          refine qw_run (v := .pointer (some ⟨T1, 1, none⟩)) (by rfl) ?_ ?_
          · (intro w1 hC; obtain ⟨⟨x0, x1, x2, x3⟩, ⟨u0, u1, u2, u3⟩, ⟨t0, t1⟩, -⟩ := hC; go_simp; first | done | (simp; done) | (simp [*]; done) | omega | (simp; omega) | (rw [IntKind.wrap_i64]; omega) | (intro hx; omega) | rfl)
          simp only [Act.put, List.setIfInBounds_toArray, List.set_cons_zero, List.set_cons_succ]
          refine qw_run (v := .slice (some ⟨g, 0, none⟩) R.length cu) (by rfl) ?_ ?_
          · (intro w1 hC; obtain ⟨⟨x0, x1, x2, x3⟩, ⟨u0, u1, u2, u3⟩, ⟨t0, t1⟩, -⟩ := hC; go_simp; first | done | (simp; done) | (simp [*]; done) | omega | (simp; omega) | (rw [IntKind.wrap_i64]; omega) | (intro hx; omega) | rfl)
          simp only [Act.put, List.setIfInBounds_toArray, List.set_cons_zero, List.set_cons_succ]
          refine qw_run (v := .int .i64 ((j : Int) + 1)) (by rfl) ?_ ?_
          · (intro w1 hC; obtain ⟨⟨x0, x1, x2, x3⟩, ⟨u0, u1, u2, u3⟩, ⟨t0, t1⟩, -⟩ := hC; go_simp; first | done | (simp; done) | (simp [*]; done) | omega | (simp; omega) | (rw [IntKind.wrap_i64]; omega) | (intro hx; omega) | rfl)
          simp only [Act.put, List.setIfInBounds_toArray, List.set_cons_zero, List.set_cons_succ]
          refine qw_run (v := .int .i64 (j : Int)) (by rfl) ?_ ?_
          · (intro w1 hC; obtain ⟨⟨x0, x1, x2, x3⟩, ⟨u0, u1, u2, u3⟩, ⟨t0, t1⟩, -⟩ := hC; go_simp; first | done | (simp; done) | (simp [*]; done) | omega | (simp; omega) | (rw [IntKind.wrap_i64]; omega) | (intro hx; omega) | rfl)
          simp only [Act.put, List.setIfInBounds_toArray, List.set_cons_zero, List.set_cons_succ]
          refine qw_run (v := .pointer (some ⟨g, j * 4, none⟩)) (by rfl) ?_ ?_
          · (intro w1 hC; obtain ⟨⟨x0, x1, x2, x3⟩, ⟨u0, u1, u2, u3⟩, ⟨t0, t1⟩, -⟩ := hC; go_simp; first | done | (simp; done) | (simp [*]; done) | omega | (simp; omega) | (rw [IntKind.wrap_i64]; omega) | (intro hx; omega) | rfl)
          simp only [Act.put, List.setIfInBounds_toArray, List.set_cons_zero, List.set_cons_succ]
          refine qw_run (v := .pointer (some ⟨g, j * 4, none⟩)) (by rfl) ?_ ?_
          · (intro w1 hC; obtain ⟨⟨x0, x1, x2, x3⟩, ⟨u0, u1, u2, u3⟩, ⟨t0, t1⟩, -⟩ := hC; go_simp; first | done | (simp; done) | (simp [*]; done) | omega | (simp; omega) | (rw [IntKind.wrap_i64]; omega) | (intro hx; omega) | rfl)
          simp only [Act.put, List.setIfInBounds_toArray, List.set_cons_zero, List.set_cons_succ]
          refine qw_run (v := .agg #[.int .u64 (hI ax), .int .u64 (lI ax), .int .i64 an]) (by rfl) ?_ ?_
          · (intro w1 hC; obtain ⟨⟨x0, x1, x2, x3⟩, ⟨u0, u1, u2, u3⟩, ⟨t0, t1⟩, -⟩ := hC; go_simp; first | done | (simp; done) | (simp [*]; done) | omega | (simp; omega) | (rw [IntKind.wrap_i64]; omega) | (intro hx; omega) | rfl)
          simp only [Act.put, List.setIfInBounds_toArray, List.set_cons_zero, List.set_cons_succ]
          refine qw_run (v := .pointer (some ⟨T1, 1, none⟩)) (by rfl) ?_ ?_
          · (intro w1 hC; obtain ⟨⟨x0, x1, x2, x3⟩, ⟨u0, u1, u2, u3⟩, ⟨t0, t1⟩, -⟩ := hC; go_simp; first | done | (simp; done) | (simp [*]; done) | omega | (simp; omega) | (rw [IntKind.wrap_i64]; omega) | (intro hx; omega) | rfl)
          simp only [Act.put, List.setIfInBounds_toArray, List.set_cons_zero, List.set_cons_succ]
          refine qw_run (v := .slice (some ⟨g, 0, none⟩) R.length cu) (by rfl) ?_ ?_
          · (intro w1 hC; obtain ⟨⟨x0, x1, x2, x3⟩, ⟨u0, u1, u2, u3⟩, ⟨t0, t1⟩, -⟩ := hC; go_simp; first | done | (simp; done) | (simp [*]; done) | omega | (simp; omega) | (rw [IntKind.wrap_i64]; omega) | (intro hx; omega) | rfl)
          simp only [Act.put, List.setIfInBounds_toArray, List.set_cons_zero, List.set_cons_succ]
          refine qw_run (v := .int .i64 ((j : Int) + 1)) (by rfl) ?_ ?_
          · (intro w1 hC; obtain ⟨⟨x0, x1, x2, x3⟩, ⟨u0, u1, u2, u3⟩, ⟨t0, t1⟩, -⟩ := hC; go_simp; first | done | (simp; done) | (simp [*]; done) | omega | (simp; omega) | (rw [IntKind.wrap_i64]; omega) | (intro hx; omega) | rfl)
          simp only [Act.put, List.setIfInBounds_toArray, List.set_cons_zero, List.set_cons_succ]
          refine qw_run (v := .pointer (some ⟨g, (j + 1) * 4, none⟩)) (by rfl) ?_ ?_
          · (intro w1 hC; obtain ⟨⟨x0, x1, x2, x3⟩, ⟨u0, u1, u2, u3⟩, ⟨t0, t1⟩, -⟩ := hC; go_simp; first | done | (simp; done) | (simp [*]; done) | omega | (simp; omega) | (rw [IntKind.wrap_i64]; omega) | (intro hx; omega) | rfl)
          simp only [Act.put, List.setIfInBounds_toArray, List.set_cons_zero, List.set_cons_succ]
          refine qw_run (v := .pointer (some ⟨g, (j + 1) * 4, none⟩)) (by rfl) ?_ ?_
          · (intro w1 hC; obtain ⟨⟨x0, x1, x2, x3⟩, ⟨u0, u1, u2, u3⟩, ⟨t0, t1⟩, -⟩ := hC; go_simp; first | done | (simp; done) | (simp [*]; done) | omega | (simp; omega) | (rw [IntKind.wrap_i64]; omega) | (intro hx; omega) | rfl)
          simp only [Act.put, List.setIfInBounds_toArray, List.set_cons_zero, List.set_cons_succ]
          refine qw_run (v := .agg #[.int .u64 (hI bx), .int .u64 (lI bx), .int .i64 bn]) (by rfl) ?_ ?_
          · (intro w1 hC; obtain ⟨⟨x0, x1, x2, x3⟩, ⟨u0, u1, u2, u3⟩, ⟨t0, t1⟩, -⟩ := hC; go_simp; first | done | (simp; done) | (simp [*]; done) | omega | (simp; omega) | (rw [IntKind.wrap_i64]; omega) | (intro hx; omega) | rfl)
          simp only [Act.put, List.setIfInBounds_toArray, List.set_cons_zero, List.set_cons_succ]
          refine qw_call (v := .int .i64 z) (f := 17) (args := #[.agg #[.int .u64 (hI ax), .int .u64 (lI ax), .int .i64 an], .agg #[.int .u64 (hI bx), .int .u64 (lI bx), .int .i64 bn]]) (by rfl) ?_ ?_ ?_
          · (intro w1 hC; clear hC; go_simp)
          · exact fun w1 hC => (KP w1).mono fun e w' ⟨he, hb⟩ => ⟨he, hC.below hb⟩
          simp only [Act.put, List.setIfInBounds_toArray, List.set_cons_zero, List.set_cons_succ]
          refine qw_run (v := .bool false) (by rfl) ?_ ?_
          · (intro w1 hC; obtain ⟨⟨x0, x1, x2, x3⟩, ⟨u0, u1, u2, u3⟩, ⟨t0, t1⟩, -⟩ := hC; go_simp; first | done | (simp; done) | (simp [*]; done) | omega | (simp; omega) | (rw [IntKind.wrap_i64]; omega) | (intro hx; omega) | rfl)
          simp only [Act.put, List.setIfInBounds_toArray, List.set_cons_zero, List.set_cons_succ]
          refine qw_run (v := .bool false) (by rfl) ?_ ?_
          · (intro w1 hC; obtain ⟨⟨x0, x1, x2, x3⟩, ⟨u0, u1, u2, u3⟩, ⟨t0, t1⟩, -⟩ := hC; go_simp; first | done | (simp; done) | (simp [*]; done) | omega | (simp; omega) | (rw [IntKind.wrap_i64]; omega) | (intro hx; omega) | rfl)
          simp only [Act.put, List.setIfInBounds_toArray, List.set_cons_zero, List.set_cons_succ]
          refine qw_run (v := .pointer (some ⟨T1, 1, none⟩)) (by rfl) ?_ ?_
          · (intro w1 hC; obtain ⟨⟨x0, x1, x2, x3⟩, ⟨u0, u1, u2, u3⟩, ⟨t0, t1⟩, -⟩ := hC; go_simp; first | done | (simp; done) | (simp [*]; done) | omega | (simp; omega) | (rw [IntKind.wrap_i64]; omega) | (intro hx; omega) | rfl)
          simp only [Act.put, List.setIfInBounds_toArray, List.set_cons_zero, List.set_cons_succ]
          refine qw_run (v := .slice (some ⟨g, 0, none⟩) R.length cu) (by rfl) ?_ ?_
          · (intro w1 hC; obtain ⟨⟨x0, x1, x2, x3⟩, ⟨u0, u1, u2, u3⟩, ⟨t0, t1⟩, -⟩ := hC; go_simp; first | done | (simp; done) | (simp [*]; done) | omega | (simp; omega) | (rw [IntKind.wrap_i64]; omega) | (intro hx; omega) | rfl)
          simp only [Act.put, List.setIfInBounds_toArray, List.set_cons_zero, List.set_cons_succ]
          refine qw_run (v := .int .i64 ((j : Int) + 1)) (by rfl) ?_ ?_
          · (intro w1 hC; obtain ⟨⟨x0, x1, x2, x3⟩, ⟨u0, u1, u2, u3⟩, ⟨t0, t1⟩, -⟩ := hC; go_simp; first | done | (simp; done) | (simp [*]; done) | omega | (simp; omega) | (rw [IntKind.wrap_i64]; omega) | (intro hx; omega) | rfl)
          simp only [Act.put, List.setIfInBounds_toArray, List.set_cons_zero, List.set_cons_succ]
          refine qw_run (v := .pointer (some ⟨g, (j + 1) * 4, none⟩)) (by rfl) ?_ ?_
          · (intro w1 hC; obtain ⟨⟨x0, x1, x2, x3⟩, ⟨u0, u1, u2, u3⟩, ⟨t0, t1⟩, -⟩ := hC; go_simp; first | done | (simp; done) | (simp [*]; done) | omega | (simp; omega) | (rw [IntKind.wrap_i64]; omega) | (intro hx; omega) | rfl)
          simp only [Act.put, List.setIfInBounds_toArray, List.set_cons_zero, List.set_cons_succ]
          refine qw_run (v := .pointer (some ⟨g, (j + 1) * 4, none⟩)) (by rfl) ?_ ?_
          · (intro w1 hC; obtain ⟨⟨x0, x1, x2, x3⟩, ⟨u0, u1, u2, u3⟩, ⟨t0, t1⟩, -⟩ := hC; go_simp; first | done | (simp; done) | (simp [*]; done) | omega | (simp; omega) | (rw [IntKind.wrap_i64]; omega) | (intro hx; omega) | rfl)
          simp only [Act.put, List.setIfInBounds_toArray, List.set_cons_zero, List.set_cons_succ]
          refine qw_run (v := .agg #[.int .u64 (hI bx), .int .u64 (lI bx), .int .i64 bn]) (by rfl) ?_ ?_
          · (intro w1 hC; obtain ⟨⟨x0, x1, x2, x3⟩, ⟨u0, u1, u2, u3⟩, ⟨t0, t1⟩, -⟩ := hC; go_simp; first | done | (simp; done) | (simp [*]; done) | omega | (simp; omega) | (rw [IntKind.wrap_i64]; omega) | (intro hx; omega) | rfl)
          simp only [Act.put, List.setIfInBounds_toArray, List.set_cons_zero, List.set_cons_succ]
          refine qw_run (v := .pointer (some ⟨T1, 1, none⟩)) (by rfl) ?_ ?_
          · (intro w1 hC; obtain ⟨⟨x0, x1, x2, x3⟩, ⟨u0, u1, u2, u3⟩, ⟨t0, t1⟩, -⟩ := hC; go_simp; first | done | (simp; done) | (simp [*]; done) | omega | (simp; omega) | (rw [IntKind.wrap_i64]; omega) | (intro hx; omega) | rfl)
          simp only [Act.put, List.setIfInBounds_toArray, List.set_cons_zero, List.set_cons_succ]
          refine qw_run (v := .slice (some ⟨g, 0, none⟩) R.length cu) (by rfl) ?_ ?_
          · (intro w1 hC; obtain ⟨⟨x0, x1, x2, x3⟩, ⟨u0, u1, u2, u3⟩, ⟨t0, t1⟩, -⟩ := hC; go_simp; first | done | (simp; done) | (simp [*]; done) | omega | (simp; omega) | (rw [IntKind.wrap_i64]; omega) | (intro hx; omega) | rfl)
          simp only [Act.put, List.setIfInBounds_toArray, List.set_cons_zero, List.set_cons_succ]
          refine qw_run (v := .int .i64 ((j : Int) + 1)) (by rfl) ?_ ?_
          · (intro w1 hC; obtain ⟨⟨x0, x1, x2, x3⟩, ⟨u0, u1, u2, u3⟩, ⟨t0, t1⟩, -⟩ := hC; go_simp; first | done | (simp; done) | (simp [*]; done) | omega | (simp; omega) | (rw [IntKind.wrap_i64]; omega) | (intro hx; omega) | rfl)
          simp only [Act.put, List.setIfInBounds_toArray, List.set_cons_zero, List.set_cons_succ]
          refine qw_run (v := .int .i64 (j : Int)) (by rfl) ?_ ?_
          · (intro w1 hC; obtain ⟨⟨x0, x1, x2, x3⟩, ⟨u0, u1, u2, u3⟩, ⟨t0, t1⟩, -⟩ := hC; go_simp; first | done | (simp; done) | (simp [*]; done) | omega | (simp; omega) | (rw [IntKind.wrap_i64]; omega) | (intro hx; omega) | rfl)
          simp only [Act.put, List.setIfInBounds_toArray, List.set_cons_zero, List.set_cons_succ]
          refine qw_run (v := .pointer (some ⟨g, j * 4, none⟩)) (by rfl) ?_ ?_
          · (intro w1 hC; obtain ⟨⟨x0, x1, x2, x3⟩, ⟨u0, u1, u2, u3⟩, ⟨t0, t1⟩, -⟩ := hC; go_simp; first | done | (simp; done) | (simp [*]; done) | omega | (simp; omega) | (rw [IntKind.wrap_i64]; omega) | (intro hx; omega) | rfl)
          simp only [Act.put, List.setIfInBounds_toArray, List.set_cons_zero, List.set_cons_succ]
          refine qw_run (v := .pointer (some ⟨g, j * 4, none⟩)) (by rfl) ?_ ?_
          · (intro w1 hC; obtain ⟨⟨x0, x1, x2, x3⟩, ⟨u0, u1, u2, u3⟩, ⟨t0, t1⟩, -⟩ := hC; go_simp; first | done | (simp; done) | (simp [*]; done) | omega | (simp; omega) | (rw [IntKind.wrap_i64]; omega) | (intro hx; omega) | rfl)
          simp only [Act.put, List.setIfInBounds_toArray, List.set_cons_zero, List.set_cons_succ]
          refine qw_run (v := .agg #[.int .u64 (hI ax), .int .u64 (lI ax), .int .i64 an]) (by rfl) ?_ ?_
          · (intro w1 hC; obtain ⟨⟨x0, x1, x2, x3⟩, ⟨u0, u1, u2, u3⟩, ⟨t0, t1⟩, -⟩ := hC; go_simp; first | done | (simp; done) | (simp [*]; done) | omega | (simp; omega) | (rw [IntKind.wrap_i64]; omega) | (intro hx; omega) | rfl)
          simp only [Act.put, List.setIfInBounds_toArray, List.set_cons_zero, List.set_cons_succ]
          refine qw_call (v := .bool false) (f := 18) (args := #[.agg #[.int .u64 (hI bx), .int .u64 (lI bx), .int .i64 bn], .agg #[.int .u64 (hI ax), .int .u64 (lI ax), .int .i64 an]]) (by rfl) ?_ ?_ ?_
          · (intro w1 hC; clear hC; go_simp)
          · exact fun w1 hC => (KW w1).mono fun e w' ⟨he, hb⟩ => ⟨he, hC.below hb⟩
          simp only [Act.put, List.setIfInBounds_toArray, List.set_cons_zero, List.set_cons_succ]
          refine qw_run (v := .bool false) (by rfl) ?_ ?_
          · (intro w1 hC; obtain ⟨⟨x0, x1, x2, x3⟩, ⟨u0, u1, u2, u3⟩, ⟨t0, t1⟩, -⟩ := hC; go_simp; first | done | (simp; done) | (simp [*]; done) | omega | (simp; omega) | (rw [IntKind.wrap_i64]; omega) | (intro hx; omega) | rfl)
          simp only [Act.put, List.setIfInBounds_toArray, List.set_cons_zero, List.set_cons_succ]
          refine qw_nil ?_
          intro W9 hC9
          have HC9 := hidR hC9
          clear hC9 KP KW ad1
          obtain ⟨-, ⟨u0, u1, u2, u3⟩, ⟨t0, t1⟩, -⟩ := HC9.out
          go_wp2_with fail
          refine (KB _).mono ?_
          rintro e W10 ⟨rfl, hb⟩
          have b10 := bl1 W10 (.cells #[.int .u64 (hI sx), .int .u64 (lI sx), .int .i64 sn] 31)
          have HC10 : Hid (CB w5 T1 g j R.length cu W10.heap.size F ax an ah bx bn bh sx sn (W10.alloc (.cells #[.int .u64 (hI sx), .int .u64 (lI sx), .int .i64 sn] 31))) := hidR ⟨(HC9.out.below hb).below b10, atp_new W10 W10.heap.size sx sn 31 rfl⟩
          clear hb b10 HC9 KB u0 u1 u2 u3 t0 t1
          generalize hW11 : W10.alloc (.cells #[.int .u64 (hI sx), .int .u64 (lI sx), .int .i64 sn] 31) = W11 at *
          generalize hS : W10.heap.size = S0 at *
          cases hth : decide (0 < bn) with
          | true =>
            rw [ad3 (by simpa using hth)] at hEq
            clear ad3
            go_wp2_with fail
            try rw [hW11]
            try rw [hS]
            refine qw_region (C := CB w5 T1 g j R.length cu S0 F ax an ah bx bn bh sx sn) (by kernel_rfl) (by kernel_rfl) HC10.out.drewN ?_
            clear HC10
            refine qw_run (v := .bool true) (by rfl) ?_ ?_
            · (intro w1 hC; obtain ⟨⟨⟨x0, x1, x2, x3⟩, ⟨u0, u1, u2, u3⟩, ⟨t0, t1⟩, -⟩, s0, s1, s2, -, -, -⟩ := hC; go_simp; first | done | (simp; done) | (simp [*]; done) | omega | (simp; omega) | (rw [IntKind.wrap_i64]; omega) | (intro hx; omega) | rfl)
            simp only [Act.put, List.setIfInBounds_toArray, List.set_cons_zero, List.set_cons_succ]
            refine qw_run (v := .bool true) (by rfl) ?_ ?_
            · (intro w1 hC; obtain ⟨⟨⟨x0, x1, x2, x3⟩, ⟨u0, u1, u2, u3⟩, ⟨t0, t1⟩, -⟩, s0, s1, s2, -, -, -⟩ := hC; go_simp; first | done | (simp; done) | (simp [*]; done) | omega | (simp; omega) | (rw [IntKind.wrap_i64]; omega) | (intro hx; omega) | rfl)
            simp only [Act.put, List.setIfInBounds_toArray, List.set_cons_zero, List.set_cons_succ]
            refine qw_run (v := .pointer (some ⟨T1, 1, none⟩)) (by rfl) ?_ ?_
            · (intro w1 hC; obtain ⟨⟨⟨x0, x1, x2, x3⟩, ⟨u0, u1, u2, u3⟩, ⟨t0, t1⟩, -⟩, s0, s1, s2, -, -, -⟩ := hC; go_simp; first | done | (simp; done) | (simp [*]; done) | omega | (simp; omega) | (rw [IntKind.wrap_i64]; omega) | (intro hx; omega) | rfl)
            simp only [Act.put, List.setIfInBounds_toArray, List.set_cons_zero, List.set_cons_succ]
            refine qw_run (v := .slice (some ⟨g, 0, none⟩) R.length cu) (by rfl) ?_ ?_
            · (intro w1 hC; obtain ⟨⟨⟨x0, x1, x2, x3⟩, ⟨u0, u1, u2, u3⟩, ⟨t0, t1⟩, -⟩, s0, s1, s2, -, -, -⟩ := hC; go_simp; first | done | (simp; done) | (simp [*]; done) | omega | (simp; omega) | (rw [IntKind.wrap_i64]; omega) | (intro hx; omega) | rfl)
            simp only [Act.put, List.setIfInBounds_toArray, List.set_cons_zero, List.set_cons_succ]
            refine qw_run (v := .int .i64 ((j : Int) + 1)) (by rfl) ?_ ?_
            · (intro w1 hC; obtain ⟨⟨⟨x0, x1, x2, x3⟩, ⟨u0, u1, u2, u3⟩, ⟨t0, t1⟩, -⟩, s0, s1, s2, -, -, -⟩ := hC; go_simp; first | done | (simp; done) | (simp [*]; done) | omega | (simp; omega) | (rw [IntKind.wrap_i64]; omega) | (intro hx; omega) | rfl)
            simp only [Act.put, List.setIfInBounds_toArray, List.set_cons_zero, List.set_cons_succ]
            refine qw_run (v := .int .i64 (j : Int)) (by rfl) ?_ ?_
            · (intro w1 hC; obtain ⟨⟨⟨x0, x1, x2, x3⟩, ⟨u0, u1, u2, u3⟩, ⟨t0, t1⟩, -⟩, s0, s1, s2, -, -, -⟩ := hC; go_simp; first | done | (simp; done) | (simp [*]; done) | omega | (simp; omega) | (rw [IntKind.wrap_i64]; omega) | (intro hx; omega) | rfl)
            simp only [Act.put, List.setIfInBounds_toArray, List.set_cons_zero, List.set_cons_succ]
            refine qw_run (v := .pointer (some ⟨g, j * 4, none⟩)) (by rfl) ?_ ?_
            · (intro w1 hC; obtain ⟨⟨⟨x0, x1, x2, x3⟩, ⟨u0, u1, u2, u3⟩, ⟨t0, t1⟩, -⟩, s0, s1, s2, -, -, -⟩ := hC; go_simp; first | done | (simp; done) | (simp [*]; done) | omega | (simp; omega) | (rw [IntKind.wrap_i64]; omega) | (intro hx; omega) | rfl)
            simp only [Act.put, List.setIfInBounds_toArray, List.set_cons_zero, List.set_cons_succ]
            refine qw_run (v := .agg #[.int .u64 (hI ax), .int .u64 (lI ax), .int .i64 an, .int .i64 ah]) (by rfl) ?_ ?_
            · (intro w1 hC; obtain ⟨⟨⟨x0, x1, x2, x3⟩, ⟨u0, u1, u2, u3⟩, ⟨t0, t1⟩, -⟩, s0, s1, s2, -, -, -⟩ := hC; go_simp; first | done | (simp; done) | (simp [*]; done) | omega | (simp; omega) | (rw [IntKind.wrap_i64]; omega) | (intro hx; omega) | rfl)
            simp only [Act.put, List.setIfInBounds_toArray, List.set_cons_zero, List.set_cons_succ]
            refine qw_run (v := .agg #[.int .u64 (hI sx), .int .u64 (lI sx), .int .i64 sn]) (by rfl) ?_ ?_
            · (intro w1 hC; obtain ⟨⟨⟨x0, x1, x2, x3⟩, ⟨u0, u1, u2, u3⟩, ⟨t0, t1⟩, -⟩, s0, s1, s2, -, -, -⟩ := hC; go_simp; first | done | (simp; done) | (simp [*]; done) | omega | (simp; omega) | (rw [IntKind.wrap_i64]; omega) | (intro hx; omega) | rfl)
            simp only [Act.put, List.setIfInBounds_toArray, List.set_cons_zero, List.set_cons_succ]
            refine qw_run (v := .pointer (some ⟨T1, 1, none⟩)) (by rfl) ?_ ?_
            · (intro w1 hC; obtain ⟨⟨⟨x0, x1, x2, x3⟩, ⟨u0, u1, u2, u3⟩, ⟨t0, t1⟩, -⟩, s0, s1, s2, -, -, -⟩ := hC; go_simp; first | done | (simp; done) | (simp [*]; done) | omega | (simp; omega) | (rw [IntKind.wrap_i64]; omega) | (intro hx; omega) | rfl)
            simp only [Act.put, List.setIfInBounds_toArray, List.set_cons_zero, List.set_cons_succ]
            refine qw_run (v := .slice (some ⟨g, 0, none⟩) R.length cu) (by rfl) ?_ ?_
            · (intro w1 hC; obtain ⟨⟨⟨x0, x1, x2, x3⟩, ⟨u0, u1, u2, u3⟩, ⟨t0, t1⟩, -⟩, s0, s1, s2, -, -, -⟩ := hC; go_simp; first | done | (simp; done) | (simp [*]; done) | omega | (simp; omega) | (rw [IntKind.wrap_i64]; omega) | (intro hx; omega) | rfl)
            simp only [Act.put, List.setIfInBounds_toArray, List.set_cons_zero, List.set_cons_succ]
            refine qw_run (v := .int .i64 ((j : Int) + 1)) (by rfl) ?_ ?_
            · (intro w1 hC; obtain ⟨⟨⟨x0, x1, x2, x3⟩, ⟨u0, u1, u2, u3⟩, ⟨t0, t1⟩, -⟩, s0, s1, s2, -, -, -⟩ := hC; go_simp; first | done | (simp; done) | (simp [*]; done) | omega | (simp; omega) | (rw [IntKind.wrap_i64]; omega) | (intro hx; omega) | rfl)
            simp only [Act.put, List.setIfInBounds_toArray, List.set_cons_zero, List.set_cons_succ]
            refine qw_run (v := .pointer (some ⟨g, (j + 1) * 4, none⟩)) (by rfl) ?_ ?_
            · (intro w1 hC; obtain ⟨⟨⟨x0, x1, x2, x3⟩, ⟨u0, u1, u2, u3⟩, ⟨t0, t1⟩, -⟩, s0, s1, s2, -, -, -⟩ := hC; go_simp; first | done | (simp; done) | (simp [*]; done) | omega | (simp; omega) | (rw [IntKind.wrap_i64]; omega) | (intro hx; omega) | rfl)
            simp only [Act.put, List.setIfInBounds_toArray, List.set_cons_zero, List.set_cons_succ]
            refine qw_run (v := .pointer (some ⟨g, (j + 1) * 4 + 3, none⟩)) (by rfl) ?_ ?_
            · (intro w1 hC; obtain ⟨⟨⟨x0, x1, x2, x3⟩, ⟨u0, u1, u2, u3⟩, ⟨t0, t1⟩, -⟩, s0, s1, s2, -, -, -⟩ := hC; go_simp; first | done | (simp; done) | (simp [*]; done) | omega | (simp; omega) | (rw [IntKind.wrap_i64]; omega) | (intro hx; omega) | rfl)
            simp only [Act.put, List.setIfInBounds_toArray, List.set_cons_zero, List.set_cons_succ]
            refine qw_run (v := .int .i64 bh) (by rfl) ?_ ?_
            · (intro w1 hC; obtain ⟨⟨⟨x0, x1, x2, x3⟩, ⟨u0, u1, u2, u3⟩, ⟨t0, t1⟩, -⟩, s0, s1, s2, -, -, -⟩ := hC; go_simp; first | done | (simp; done) | (simp [*]; done) | omega | (simp; omega) | (rw [IntKind.wrap_i64]; omega) | (intro hx; omega) | rfl)
            simp only [Act.put, List.setIfInBounds_toArray, List.set_cons_zero, List.set_cons_succ]
            refine qw_run (v := .agg #[.int .u64 (hI sx), .int .u64 (lI sx), .int .i64 sn, .int .i64 bh]) (by rfl) ?_ ?_
            · (intro w1 hC; obtain ⟨⟨⟨x0, x1, x2, x3⟩, ⟨u0, u1, u2, u3⟩, ⟨t0, t1⟩, -⟩, s0, s1, s2, -, -, -⟩ := hC; go_simp; first | done | (simp; done) | (simp [*]; done) | omega | (simp; omega) | (rw [IntKind.wrap_i64]; omega) | (intro hx; omega) | rfl)
            simp only [Act.put, List.setIfInBounds_toArray, List.set_cons_zero, List.set_cons_succ]
            refine qw_run (v := .bool false) (by rfl) ?_ ?_
            · (intro w1 hC; obtain ⟨⟨⟨x0, x1, x2, x3⟩, ⟨u0, u1, u2, u3⟩, ⟨t0, t1⟩, -⟩, s0, s1, s2, -, -, -⟩ := hC; go_simp; first | done | (simp; done) | (simp [*]; done) | omega | (simp; omega) | (rw [IntKind.wrap_i64]; omega) | (intro hx; omega) | rfl)
            simp only [Act.put, List.setIfInBounds_toArray, List.set_cons_zero, List.set_cons_succ]
            refine qw_run (v := .bool false) (by rfl) ?_ ?_
            · (intro w1 hC; obtain ⟨⟨⟨x0, x1, x2, x3⟩, ⟨u0, u1, u2, u3⟩, ⟨t0, t1⟩, -⟩, s0, s1, s2, -, -, -⟩ := hC; go_simp; first | done | (simp; done) | (simp [*]; done) | omega | (simp; omega) | (rw [IntKind.wrap_i64]; omega) | (intro hx; omega) | rfl)
            simp only [Act.put, List.setIfInBounds_toArray, List.set_cons_zero, List.set_cons_succ]
            refine qw_nil ?_
            intro W12 hC12
            have HA12 := hidR hC12.1.2.2.1
            have HB12 := hidR hC12.1.2.2.2
            clear hC12 hEq
            go_wp2
            go_roundw
            case rel => exact ⟨j + 1 + 1, by omega, by omega, by simp, HA12, HB12⟩
            case measure => simp [intOf]; omega
          | false =>
            clear ad3 hEq
            go_wp2_with fail
            try rw [hW11]
            try rw [hS]
            refine qw_region (C := CB w5 T1 g j R.length cu S0 F ax an ah bx bn bh sx sn) (by kernel_rfl) (by kernel_rfl) HC10.out.drewN ?_
            clear HC10
            refine qw_run (v := .bool false) (by rfl) ?_ ?_
            · (intro w1 hC; obtain ⟨⟨⟨x0, x1, x2, x3⟩, ⟨u0, u1, u2, u3⟩, ⟨t0, t1⟩, -⟩, s0, s1, s2, -, -, -⟩ := hC; go_simp; first | done | (simp; done) | (simp [*]; done) | omega | (simp; omega) | (rw [IntKind.wrap_i64]; omega) | (intro hx; omega) | rfl)
            simp only [Act.put, List.setIfInBounds_toArray, List.set_cons_zero, List.set_cons_succ]
            refine qw_run (v := .bool false) (by rfl) ?_ ?_
            · (intro w1 hC; obtain ⟨⟨⟨x0, x1, x2, x3⟩, ⟨u0, u1, u2, u3⟩, ⟨t0, t1⟩, -⟩, s0, s1, s2, -, -, -⟩ := hC; go_simp; first | done | (simp; done) | (simp [*]; done) | omega | (simp; omega) | (rw [IntKind.wrap_i64]; omega) | (intro hx; omega) | rfl)
            simp only [Act.put, List.setIfInBounds_toArray, List.set_cons_zero, List.set_cons_succ]
            refine qw_skip (by rfl) ?_
            simp only [Act.put, List.setIfInBounds_toArray, List.set_cons_zero, List.set_cons_succ]
            refine qw_skip (by rfl) ?_
            simp only [Act.put, List.setIfInBounds_toArray, List.set_cons_zero, List.set_cons_succ]
            refine qw_skip (by rfl) ?_
            simp only [Act.put, List.setIfInBounds_toArray, List.set_cons_zero, List.set_cons_succ]
            refine qw_skip (by rfl) ?_
            simp only [Act.put, List.setIfInBounds_toArray, List.set_cons_zero, List.set_cons_succ]
            refine qw_skip (by rfl) ?_
            simp only [Act.put, List.setIfInBounds_toArray, List.set_cons_zero, List.set_cons_succ]
            refine qw_skip (by rfl) ?_
            simp only [Act.put, List.setIfInBounds_toArray, List.set_cons_zero, List.set_cons_succ]
            refine qw_skip (by rfl) ?_
            simp only [Act.put, List.setIfInBounds_toArray, List.set_cons_zero, List.set_cons_succ]
            refine qw_skip (by rfl) ?_
            simp only [Act.put, List.setIfInBounds_toArray, List.set_cons_zero, List.set_cons_succ]
            refine qw_skip (by rfl) ?_
            simp only [Act.put, List.setIfInBounds_toArray, List.set_cons_zero, List.set_cons_succ]
            refine qw_skip (by rfl) ?_
            simp only [Act.put, List.setIfInBounds_toArray, List.set_cons_zero, List.set_cons_succ]
            refine qw_skip (by rfl) ?_
            simp only [Act.put, List.setIfInBounds_toArray, List.set_cons_zero, List.set_cons_succ]
            refine qw_skip (by rfl) ?_
            simp only [Act.put, List.setIfInBounds_toArray, List.set_cons_zero, List.set_cons_succ]
            refine qw_skip (by rfl) ?_
            simp only [Act.put, List.setIfInBounds_toArray, List.set_cons_zero, List.set_cons_succ]
            refine qw_skip (by rfl) ?_
            simp only [Act.put, List.setIfInBounds_toArray, List.set_cons_zero, List.set_cons_succ]
            refine qw_skip (by rfl) ?_
            simp only [Act.put, List.setIfInBounds_toArray, List.set_cons_zero, List.set_cons_succ]
            refine qw_run (v := .bool false) (by rfl) ?_ ?_
            · (intro w1 hC; obtain ⟨⟨⟨x0, x1, x2, x3⟩, ⟨u0, u1, u2, u3⟩, ⟨t0, t1⟩, -⟩, s0, s1, s2, -, -, -⟩ := hC; go_simp; first | done | (simp; done) | (simp [*]; done) | omega | (simp; omega) | (rw [IntKind.wrap_i64]; omega) | (intro hx; omega) | rfl)
            simp only [Act.put, List.setIfInBounds_toArray, List.set_cons_zero, List.set_cons_succ]
            refine qw_nil ?_
            intro W12 hC12
            have HA12 := hidR hC12.1.2.2.1
            have HB12 := hidR hC12.1.2.2.2
            clear hC12
            go_wp2
            go_roundw
            case rel => exact ⟨j + 1 + 1, by omega, by omega, by simp, HA12, HB12⟩
            case measure => simp [intOf]; omega
      · have hd5 : ¬ k5 < R.length := by omega
        clear HU5 HN
        go_wp2
        go_ret
        exact ⟨rfl, keepb (keepb HB.out HB5.out) HW0.out⟩
end Go.Proofs.YtmkjlcfoedglmaaDoor
/-
  How a prefix that is handed in reads as data.
-/
namespace Go.Proofs.YtmkjlcfoedglmaaDoor
open Go.ChangeShapes Go.WideShapes Go.ChangeAt Go.RowKit Go.Joins
set_option linter.unusedSimpArgs false
set_option linter.unusedVariables false

theorem Tryd.cellsW : Tryd.prog.cellsOf 27 = 2 := by kernel_rfl
theorem Tryd.cellsP : Tryd.prog.cellsOf 31 = 3 := by kernel_rfl
theorem Tryd.cellsI : Tryd.prog.cellsOf 3 = 1 := by kernel_rfl
theorem Tryd.cellsU : Tryd.prog.cellsOf 25 = 1 := by kernel_rfl
section
variable {H : Type} {enc : TypeId × Value → H} {w : World} {base : Nat} {spare : Nat → Bool} {held : Bool}
set_option maxRecDepth 100000 in
theorem open_pfx {r : Reach} {b0 : Nat} {v : Value} {d : DataW H} {p : List MemPlace} (hv : Value.okWide Tryd.prog w r b0 31 v) (h : DataW.Trod enc Tryd.prog w base spare held 31 v d p) :
    ∃ a b n : Int, v = .agg #[.int .u64 a, .int .u64 b, .int .i64 n] ∧ d = .agg [.agg [.lit (.int .u64 a), .lit (.int .u64 b)], .lit (.int .i64 n)] ∧ p = [] ∧ (Lit.int .u64 a).wf = true ∧ (Lit.int .u64 b).wf = true ∧ (Lit.int .i64 n).wf = true := by
  obtain ⟨cs, rfl, hsz⟩ := okWide_struct Tryd.underlying31 hv
  obtain ⟨c0, c1, c2, rfl⟩ := array3 (hsz.trans Tryd.cellsP)
  obtain ⟨fuel, hf⟩ := h
  obtain ⟨y0, y1, n, hx, _, h0, h1⟩ := trod_struct2 Tryd.underlying31 hf
  have h0' : DataW.trod enc Tryd.prog w base spare held n 27 [c0, c1] = some y0 := by simpa [Value.cells, Tryd.cellsW] using h0
  have h1' : DataW.trod enc Tryd.prog w base spare held n 3 [c2] = some y1 := by simpa [Value.cells, Tryd.cellsI] using h1
  obtain ⟨u0, u1, m, hu, _, g0, g1⟩ := trod_struct2 Tryd.underlying27 h0'
  have g0' : DataW.trod enc Tryd.prog w base spare held m 25 [c0] = some u0 := by simpa [Value.cells, Tryd.cellsU] using g0
  have g1' : DataW.trod enc Tryd.prog w base spare held m 25 [c1] = some u1 := by simpa [Value.cells, Tryd.cellsU] using g1
  obtain ⟨a, ea, rfl, wa⟩ := DataW.trod_int Tryd.underlying25 g0'
  obtain ⟨b, eb, rfl, wb⟩ := DataW.trod_int Tryd.underlying25 g1'
  obtain ⟨k, ek, rfl, wk⟩ := DataW.trod_int Tryd.underlying3 h1'
  simp at ea eb ek
  subst ea eb ek hu
  simp only [Prod.mk.injEq] at hx
  exact ⟨a, b, k, rfl, hx.1, by simpa using hx.2, wa, wb, wk⟩
set_option maxRecDepth 100000 in
theorem shut_pfx {a b n : Int} (wa : (Lit.int .u64 a).wf = true) (wb : (Lit.int .u64 b).wf = true) (wn : (Lit.int .i64 n).wf = true) :
    DataW.Trod enc Tryd.prog w base spare held 31 (.agg #[.int .u64 a, .int .u64 b, .int .i64 n]) (.agg [.agg [.lit (.int .u64 a), .lit (.int .u64 b)], .lit (.int .i64 n)]) [] := by
  have f : ∀ {z : Int}, (Lit.int .u64 z).wf = true → DataW.trod enc Tryd.prog w base spare held 1 25 [.int .u64 z] = some (.lit (.int .u64 z), []) := fun hz => by simp [DataW.trod, Tryd.underlying25, hz]
  have g : DataW.trod enc Tryd.prog w base spare held 2 3 [.int .i64 n] = some (.lit (.int .i64 n), []) := by simp [DataW.trod, Tryd.underlying3, wn]
  have s : DataW.trod enc Tryd.prog w base spare held 2 27 [.int .u64 a, .int .u64 b] = some (.agg [.lit (.int .u64 a), .lit (.int .u64 b)], []) := by
    have := trod_struct2_mk (enc := enc) (w := w) (base := base) (spare := spare) (held := held) (n := 1) (cs := [.int .u64 a, .int .u64 b]) Tryd.underlying27 (by simp [Tryd.cellsW]) (by simpa [Tryd.cellsU] using f wa) (by simpa [Tryd.cellsU] using f wb)
    simpa using this
  have := trod_struct2_mk (enc := enc) (w := w) (base := base) (spare := spare) (held := held) (n := 2) (cs := [.int .u64 a, .int .u64 b, .int .i64 n]) Tryd.underlying31 (by simp [Tryd.cellsP]) (by simpa [Tryd.cellsW] using s) (by simpa [Tryd.cellsI] using g)
  exact ⟨3, by simpa [Value.cells] using this⟩
end
end Go.Proofs.YtmkjlcfoedglmaaDoor
