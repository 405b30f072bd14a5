/-
  Part 24 of the proof: 1 texts, one behind the other.
-/
import Derived.Test.YtmkjlcfoedglmabPart23
import Derived.Test.YtmkjlcfoedglmabPart21
import Derived.Test.YtmkjlcfoedglmabPart22
/-
  The law AlgebraFirst: two tables, an address.
-/
namespace Go.Proofs.Ytmkjlcfoedglmab
open Go.RowKit
set_option linter.unusedSimpArgs false
set_option linter.unusedVariables false

theorem al_self : ∀ (L : List Sg), ∀ e ∈ al L L, e.2.1 = e.2.2
  | [], e, he => by rw [al] at he; cases he
  | s :: L, e, he => by
    rw [al, if_neg (by omega), if_pos rfl] at he
    rcases List.mem_cons.mp he with q | q
    · rw [q]
    · exact al_self L e q
/-- Two tables lead alike just where their segments are the same. -/
theorem same_segs {F : Int} {l m : List Rte} (z1 : TabE F l 0) (z2 : TabE F m 0) : (frs (al (swp F l) (swp F m))).isSome = !decide (swp F l = swp F m) ∧ Unl F (fun x => look x 0 l) (fun x => look x 0 m) (frs (al (swp F l) (swp F m))) := by
  obtain ⟨hf, n1, hL, hO⟩ := tab_ok z1
  obtain ⟨-, n2, hM, hO2⟩ := tab_ok z2
  obtain ⟨a1, a2⟩ := swp_right F hf l hL hO
  obtain ⟨b1, b2⟩ := swp_right F hf m hM hO2
  have hc := al_all F _ _ _ _ a1 b1 a2 b2
  have hu := chn_unl F _ _ _ _ hc (fun z _ hz => by simp at hz)
  refine ⟨?_, hu⟩
  by_cases h : swp F l = swp F m
  · rw [decide_eq_true h, h, frs_none _ (al_self _)]
    rfl
  · rw [decide_eq_false h]
    cases ho : frs (al (swp F l) (swp F m)) with
    | some a => rfl
    | none =>
      rw [ho] at hu
      exfalso
      refine h (segs_unique F (fun x => look x 0 l) _ _ none none a1 b1 rfl rfl a2 ?_)
      intro s hs x hx h1 h2
      rw [b2 s hs x hx h1 h2]
      exact (hu x hx).symm
theorem right_mask (F : Int) (hf : fam F = true) (x : BitVec 128) : rightE F (x &&& maskW F) = 0 := by
  refine right_of F _ hf ?_
  unfold cutW
  rw [BitVec.and_assoc, BitVec.and_self]
theorem rightT_tab {F : Int} {l : List Rte} (h : RightT F l) : TabE F l 0 := ⟨fun q => absurd h.2.1 q, fun _ => .inl ⟨h.2.2, rfl⟩⟩
def FC (w1 : World) (T0 N : Nat) (F : Int) (v u : Value) (x pt : BitVec 128) (W : World) : Prop := AtT W T0 F v ∧ AtT W (T0 + 1) F u ∧ (W.cell? ⟨T0 + 2, 0, none⟩ = some (.int .u64 (hI x)) ∧ W.cell? ⟨T0 + 2, 1, none⟩ = some (.int .u64 (lI x))) ∧ (W.cell? ⟨N, 0, none⟩ = some (.int .u64 (hI pt)) ∧ W.cell? ⟨N, 1, none⟩ = some (.int .u64 (lI pt))) ∧ Below w1.heap.size w1 W
theorem FC.below {w1 : World} {T0 N : Nat} {F : Int} {v u : Value} {x pt : BitVec 128} {W W' : World} (k : FC w1 T0 N F v u x pt W) (hb : Below W.heap.size W W') : FC w1 T0 N F v u x pt W' := ⟨k.1.below hb, k.2.1.below hb, ⟨keepc hb k.2.2.1.1, keepc hb k.2.2.1.2⟩, ⟨keepc hb k.2.2.2.1.1, keepc hb k.2.2.2.1.2⟩, keepb hb k.2.2.2.2⟩
set_option maxRecDepth 20000 in
set_option maxHeartbeats 16000000 in
theorem algebraFirst_any (F : Int) (v : Value) (l : List Rte) (G : Int) (u : Value) (m : List Rte) (xw : BitVec 128) (w : World) (hv : RwR w v l) (hu : RwR w u m) :
    Calls Try.prog 3 #[.agg #[.int .i64 F, v], .agg #[.int .i64 G, u], .agg #[.int .u64 (hI xw), .int .u64 (lI xw)]] w fun e w' => e = .returned (.bool true) ∧ Below w.heap.size w w' := by
  have KK := fun w => known6_any w
  have q1 := bl1 w (.cells #[.int .i64 F, v] 24)
  have q2 := bl1 (w.alloc (.cells #[.int .i64 F, v] 24)) (.cells #[.int .i64 G, u] 24)
  have q3 := bl1 ((w.alloc (.cells #[.int .i64 F, v] 24)).alloc (.cells #[.int .i64 G, u] 24)) (.cells #[.int .u64 (hI xw), .int .u64 (lI xw)] 27)
  have HT := hidR (((att_new w w.heap.size F v 24 rfl).below q2).below q3)
  have HU := hidR ((att_new (w.alloc (.cells #[.int .i64 F, v] 24)) (w.heap.size + 1) G u 24 (by simp)).below q3)
  have HX := hidR (at_new ((w.alloc (.cells #[.int .i64 F, v] 24)).alloc (.cells #[.int .i64 G, u] 24)) (w.heap.size + 2) xw 27 (by simp))
  have HB := hidR (keepb q3 (keepb q2 q1))
  have HV := hidR (And.intro hv hu)
  obtain ⟨ao, c, rfl, -⟩ := hv
  obtain ⟨bo, d, rfl, -⟩ := hu
  clear q1 q2 q3
  go_enter Try.func3, Try.ntmps3
  go_wp2_with fail
  refine (KK _).mono ?_
  rintro e w1 ⟨rfl, hb⟩
  have HB1 := hidR (keepb hb HB.out)
  have HT1 := hidR (HT.out.below hb)
  have HU1 := hidR (HU.out.below hb)
  have HX1 := hidR (HX.out.below hb)
  clear KK hb HB HT HU HX
  obtain ⟨t0, t1⟩ := HT1.out
  obtain ⟨y0, y1⟩ := HU1.out
  have K1 := rightT_any F (.slice ao l.length c) l w1 (HV.out.1.below HB1.out)
  go_wp2_with fail
  refine K1.mono ?_
  rintro e w2 ⟨⟨r1, hr1, rfl⟩, hb⟩
  have HB2 := hidR (keepb hb HB1.out)
  have HT2 := hidR (HT1.out.below hb)
  have HU2 := hidR (HU1.out.below hb)
  have HX2 := hidR (HX1.out.below hb)
  clear K1 hb HB1 HT1 HU1 HX1 t0 t1 y0 y1
  obtain ⟨t0, t1⟩ := HT2.out
  obtain ⟨y0, y1⟩ := HU2.out
  cases r1 with
  | false =>
    go_wp2
    go_ret
    exact ⟨rfl, HB2.out⟩
  | true =>
    have HR1 := hidR (hr1 rfl)
    clear hr1
    have K2 := rightT_any G (.slice bo m.length d) m w2 (HV.out.2.below HB2.out)
    go_wp2_with fail
    refine K2.mono ?_
    rintro e w3 ⟨⟨r2, hr2, rfl⟩, hb⟩
    have HB3 := hidR (keepb hb HB2.out)
    have HT3 := hidR (HT2.out.below hb)
    have HU3 := hidR (HU2.out.below hb)
    have HX3 := hidR (HX2.out.below hb)
    clear K2 hb HB2 HT2 HU2 HX2 t0 t1 y0 y1
    obtain ⟨t0, t1⟩ := HT3.out
    obtain ⟨y0, y1⟩ := HU3.out
    cases r2 with
    | false =>
      go_wp2
      go_ret
      exact ⟨rfl, HB3.out⟩
    | true =>
      have HR2 := hidR (hr2 rfl)
      clear hr2
      by_cases hFG : F = G
      · subst hFG
        have dFG : (F != F) = false := by simp
        obtain ⟨hf, n1, hL, hO⟩ := tab_ok (rightT_tab HR1.out)
        obtain ⟨-, n2, hM, hO2⟩ := tab_ok (rightT_tab HR2.out)
        have hF0 : 0 ≤ F ∧ F ≤ 128 := by rcases fam_ways F hf with rfl | rfl <;> decide
        have KF := fun w => Fitted_zero F xw w hF0.1 hF0.2
        have HRX := hidR (right_mask F hf xw)
        have HLK : Hid (∀ W x, Below w.heap.size w W → (Calls Try.prog 11 #[.agg #[.int .i64 F, .slice ao l.length c], .agg #[.int .u64 (hI x), .int .u64 (lI x)]] W fun e w' => e = .returned (.int .i64 (look x 0 l)) ∧ Below W.heap.size W w') ∧ (Calls Try.prog 11 #[.agg #[.int .i64 F, .slice bo m.length d], .agg #[.int .u64 (hI x), .int .u64 (lI x)]] W fun e w' => e = .returned (.int .i64 (look x 0 m)) ∧ Below W.heap.size W w')) := hidR (fun W x hb => by
          have k1 := rlookup_any F x (.slice ao l.length c) l W (HV.out.1.below hb) (by omega) (ro_cells hf hL)
          have k2 := rlookup_any F x (.slice bo m.length d) m W (HV.out.2.below hb) (by omega) (ro_cells hf hM)
          rw [mat_eq_look F x l hL hO] at k1
          rw [mat_eq_look F x m hM hO2] at k2
          exact ⟨k1, k2⟩)
        obtain ⟨sg1, sg2⟩ := same_segs (rightT_tab HR1.out) (rightT_tab HR2.out)
        have HSG := hidR (And.intro sg1 sg2)
        have hlF : (swp F l).length ≤ 1000000000 ∧ (swp F m).length ≤ 1000000000 := by have := swp_len F l; have := swp_len F m; omega
        have HLF := hidR hlF
        clear hf hL hO hM hO2 sg1 sg2 hlF hF0
        revert KF HRX
        generalize xw &&& maskW F = x
        intro KF HRX
        obtain ⟨z0, z1, -⟩ := HX3.out
        go_wp2_with fail
        refine (KF _).mono ?_
        rintro e w4 ⟨rfl, hb⟩
        have HX4 := HX3.out.below hb
        have HT4 := HT3.out.below hb
        have HU4 := HU3.out.below hb
        have hne1 : ¬ w.heap.size = w.heap.size + 2 := by omega
        have hne2 : ¬ w.heap.size + 1 = w.heap.size + 2 := by omega
        have HX5 := hidR (HX4.setE x)
        have HB5 := hidR (bset2 (C := w.heap.size + 2) (keepb hb HB3.out) (by omega) (.int .u64 (hI x)) (.int .u64 (lI x)))
        have e1 : ((w4.setCell ⟨w.heap.size + 2, 0, none⟩ (.int .u64 (hI x))).setCell ⟨w.heap.size + 2, 1, none⟩ (.int .u64 (lI x))).heap[w.heap.size]? = w4.heap[w.heap.size]? := by rw [hSet _ hne1, hSet _ hne1]
        have e2 : ((w4.setCell ⟨w.heap.size + 2, 0, none⟩ (.int .u64 (hI x))).setCell ⟨w.heap.size + 2, 1, none⟩ (.int .u64 (lI x))).heap[w.heap.size + 1]? = w4.heap[w.heap.size + 1]? := by rw [hSet _ hne2, hSet _ hne2]
        have HT5 : Hid (AtT ((w4.setCell ⟨w.heap.size + 2, 0, none⟩ (.int .u64 (hI x))).setCell ⟨w.heap.size + 2, 1, none⟩ (.int .u64 (lI x))) w.heap.size F (.slice ao l.length c)) := hidR ⟨by rw [cellH e1]; exact HT4.1, by rw [cellH e1]; exact HT4.2⟩
        have HU5 : Hid (AtT ((w4.setCell ⟨w.heap.size + 2, 0, none⟩ (.int .u64 (hI x))).setCell ⟨w.heap.size + 2, 1, none⟩ (.int .u64 (lI x))) (w.heap.size + 1) F (.slice bo m.length d)) := hidR ⟨by rw [cellH e2]; exact HU4.1, by rw [cellH e2]; exact HU4.2⟩
        obtain ⟨a0, a1, a2, a3, -⟩ := HX4
        clear KF hb e1 e2 hne1 hne2 HT4 HU4 HX3 HT3 HU3 HB3 t0 t1 y0 y1 z0 z1
        revert HX5 HB5 HT5 HU5
        generalize hw5 : (w4.setCell ⟨w.heap.size + 2, 0, none⟩ (.int .u64 (hI x))).setCell ⟨w.heap.size + 2, 1, none⟩ (.int .u64 (lI x)) = w5
        intro HX5 HB5 HT5 HU5
        have K3 := segs_any F (.slice ao l.length c) l w5 (HV.out.1.below HB5.out)
        obtain ⟨t0, t1⟩ := HT5.out
        obtain ⟨y0, y1⟩ := HU5.out
        go_wp2_with fail
        try rw [hw5]
        refine K3.mono ?_
        rintro e w6 ⟨⟨z, va, hz, rfl, hz1, -⟩, hb⟩
        obtain rfl := tabE_one hz (rightT_tab HR1.out)
        have HA6 := hidR (own_rwg (hz1 rfl))
        have HB6 := hidR (keepb hb HB5.out)
        have HT6 := hidR (HT5.out.below hb)
        have HU6 := hidR (HU5.out.below hb)
        have HX6 := hidR (HX5.out.below hb)
        clear K3 hb hz hz1 HB5 HT5 HU5 HX5 t0 t1 y0 y1 a0 a1 a2 a3 hw5
        obtain ⟨t0, t1⟩ := HT6.out
        obtain ⟨y0, y1⟩ := HU6.out
        have K4 := segs_any F (.slice bo m.length d) m w6 (HV.out.2.below HB6.out)
        go_wp2_with fail
        refine K4.mono ?_
        rintro e w7 ⟨⟨z, vb, hz, rfl, hz1, -⟩, hb⟩
        obtain rfl := tabE_one hz (rightT_tab HR2.out)
        have HD7 := hidR (own_rwg (hz1 rfl))
        have HA7 := hidR (HA6.out.below hb)
        have HB7 := hidR (keepb hb HB6.out)
        have HT7 := hidR (HT6.out.below hb)
        have HU7 := hidR (HU6.out.below hb)
        have HX7 := hidR (HX6.out.below hb)
        clear K4 hb hz hz1 HB6 HT6 HU6 HX6 HA6 t0 t1 y0 y1
        obtain ⟨t0, t1⟩ := HT7.out
        obtain ⟨y0, y1⟩ := HU7.out
        have K5 := equal_any F (.slice ao l.length c) l F (.slice bo m.length d) m w7 (HV.out.1.below HB7.out) (HV.out.2.below HB7.out)
        go_wp2_with fail
        refine K5.mono ?_
        rintro e w8 ⟨⟨z, o1, hz, h1, -, rfl⟩, hb⟩
        have ez : z = 0 := twoE_one hz ⟨0, rightT_tab HR1.out, .inr ⟨rfl, 0, rightT_tab HR2.out, .inr ⟨rfl, .inr ⟨rfl, rfl⟩⟩⟩⟩
        subst ez
        have eo := h1 rfl
        have HD8 := hidR (HD7.out.below hb)
        have HA8 := hidR (HA7.out.below hb)
        have HB8 := hidR (keepb hb HB7.out)
        have HT8 := hidR (HT7.out.below hb)
        have HU8 := hidR (HU7.out.below hb)
        have HX8 := hidR (HX7.out.below hb)
        have es : (decide ((0 : Int) = 0) && !o1.isSome) = decide (swp F l = swp F m) := by rw [eo, HSG.out.1]; simp
        rw [es]
        clear K5 hb hz h1 HB7 HT7 HU7 HX7 HA7 HD7 t0 t1 y0 y1 eo es
        obtain ⟨t0, t1⟩ := HT8.out
        obtain ⟨y0, y1⟩ := HU8.out
        have K6 := unlike_any F (.slice ao l.length c) l F (.slice bo m.length d) m w8 (HV.out.1.below HB8.out) (HV.out.2.below HB8.out)
        go_wp2_with fail
        refine K6.mono ?_
        rintro e w9 ⟨⟨z, o, hz, h1, -, rfl⟩, hb⟩
        have ez : z = 0 := twoE_one hz ⟨0, rightT_tab HR1.out, .inr ⟨rfl, 0, rightT_tab HR2.out, .inr ⟨rfl, .inr ⟨rfl, rfl⟩⟩⟩⟩
        subst ez
        have eo := h1 rfl
        have HSG2 : Hid (o.isSome = !decide (swp F l = swp F m) ∧ Unl F (fun x => look x 0 l) (fun x => look x 0 m) o) := hidR (by rw [eo]; exact HSG.out)
        have b9 := bl1 w9 (.cells #[.int .u64 (hI (o.getD 0#128)), .int .u64 (lI (o.getD 0#128))] 27)
        have HD9 := hidR ((HD8.out.below hb).below b9)
        have HA9 := hidR ((HA8.out.below hb).below b9)
        have HB9 := hidR (keepb b9 (keepb hb HB8.out))
        have HT9 := hidR ((HT8.out.below hb).below b9)
        have HU9 := hidR ((HU8.out.below hb).below b9)
        have HX9 := hidR ((HX8.out.below hb).below b9)
        have HP9 := hidR (at_new w9 w9.heap.size (o.getD 0#128) 27 rfl)
        have K7 := sameSegs2_any va vb (swp F l) (swp F m) _ HA9.out HD9.out HLF.out.1 HLF.out.2
        obtain ⟨aa, ca, rfl, -⟩ := id HA9.out
        obtain ⟨ab, cb, rfl, -⟩ := id HD9.out
        clear K6 hb hz h1 b9 HB8 HT8 HU8 HX8 HA8 HD8 t0 t1 y0 y1 eo HSG
        generalize decide (swp F l = swp F m) = same at *
        go_wp2_with fail
        refine K7.mono ?_
        rintro e w10 ⟨rfl, hb⟩
        have hse : (same != same) = false := by simp
        have HBw := hidR (keepb hb HB9.out)
        have HP10 := HP9.out.below hb
        have HX10 := HX9.out.below hb
        have HC0 : Hid (FC w10 w.heap.size w9.heap.size F (.slice ao l.length c) (.slice bo m.length d) x (o.getD 0#128) w10) := hidR ⟨HT9.out.below hb, HU9.out.below hb, ⟨HX10.1, HX10.2.1⟩, ⟨HP10.1, HP10.2.1⟩, Below.refl _ _⟩
        clear K7 hb HB9 HT9 HU9 HX9 HP9 HA9 HD9 HP10 HX10
        cases same with
        | true =>
          obtain ⟨hs1, hs2⟩ := HSG2.out
          have ho : o = none := by cases o with | none => rfl | some a => simp at hs1
          subst ho
          have HEq : Hid (look x 0 l = look x 0 m) := hidR (hs2 x HRX.out)
          have KA : Hid (∀ W, Below w10.heap.size w10 W → Calls Try.prog 11 #[.agg #[.int .i64 F, .slice ao l.length c], .agg #[.int .u64 (hI x), .int .u64 (lI x)]] W fun e w' => e = .returned (.int .i64 (look x 0 l)) ∧ Below W.heap.size W w') := hidR (fun W hb => (HLK.out W x (keepb hb HBw.out)).1)
          have KB : Hid (∀ W, Below w10.heap.size w10 W → Calls Try.prog 11 #[.agg #[.int .i64 F, .slice bo m.length d], .agg #[.int .u64 (hI x), .int .u64 (lI x)]] W fun e w' => e = .returned (.int .i64 (look x 0 l)) ∧ Below W.heap.size W w') := hidR (fun W hb => by rw [HEq.out]; exact (HLK.out W x (keepb hb HBw.out)).2)
          have HC : Hid (FC w10 w.heap.size w9.heap.size F (.slice ao l.length c) (.slice bo m.length d) x 0#128 w10) := HC0
          have hEZ : ∀ w, (Op.equalIn 10000 27 (.agg #[.int .u64 0, .int .u64 0]) (.agg #[.int .u64 0, .int .u64 0])).run Try.prog w = .ok true w := fun w => by have := eqW_run 0#128 0#128 w; simpa [hI_zero, lI_zero] using this
          have h00 : hI 0#128 = 0 := hI_zero
          have l00 : lI 0#128 = 0 := lI_zero
          simp only [Option.getD_none, Option.isSome_none]
          clear hs1 hs2 HSG2 HLK HC0 HEq
          generalize look x 0 l = fx at *
          go_wp2_with fail
          refine qw_region (C := FC w10 w.heap.size w9.heap.size F (.slice ao l.length c) (.slice bo m.length d) x 0#128) (by kernel_rfl) (by kernel_rfl) (HC.out.below (below_drewN (Below.refl _ _) 1)) ?_
          clear HC
          refine qw_run (v := .agg #[.int .u64 0, .int .u64 0]) (by rfl) ?_ ?_
          · (intro w1 hC; obtain ⟨⟨t0, t1⟩, ⟨y0, y1⟩, ⟨x0, x1⟩, ⟨p0, p1⟩, -⟩ := hC; go_simp; first | done | (simp; done) | (simp [*]; done) | omega | (simp; omega) | (rw [IntKind.wrap_i64]; omega) | (intro hx; omega) | rfl)
          simp only [Act.put, List.setIfInBounds_toArray, List.set_cons_zero, List.set_cons_succ]
          refine qw_run (v := .agg #[.int .u64 0, .int .u64 0]) (by rfl) ?_ ?_
          · (intro w1 hC; obtain ⟨⟨t0, t1⟩, ⟨y0, y1⟩, ⟨x0, x1⟩, ⟨p0, p1⟩, -⟩ := hC; go_simp; first | done | (simp; done) | (simp [*]; done) | omega | (simp; omega) | (rw [IntKind.wrap_i64]; omega) | (intro hx; omega) | rfl)
          simp only [Act.put, List.setIfInBounds_toArray, List.set_cons_zero, List.set_cons_succ]
          refine qw_run (v := .bool true) (by rfl) ?_ ?_
          · (intro w1 hC; obtain ⟨⟨t0, t1⟩, ⟨y0, y1⟩, ⟨x0, x1⟩, ⟨p0, p1⟩, -⟩ := hC; go_simp; first | done | (simp; done) | (simp [*]; done) | omega | (simp; omega) | (rw [IntKind.wrap_i64]; omega) | (intro hx; omega) | rfl)
          simp only [Act.put, List.setIfInBounds_toArray, List.set_cons_zero, List.set_cons_succ]
          refine qw_run (v := .bool true) (by rfl) ?_ ?_
          · (intro w1 hC; obtain ⟨⟨t0, t1⟩, ⟨y0, y1⟩, ⟨x0, x1⟩, ⟨p0, p1⟩, -⟩ := hC; go_simp; first | done | (simp; done) | (simp [*]; done) | omega | (simp; omega) | (rw [IntKind.wrap_i64]; omega) | (intro hx; omega) | rfl)
          simp only [Act.put, List.setIfInBounds_toArray, List.set_cons_zero, List.set_cons_succ]
          refine qw_run (v := .agg #[.int .i64 F, .slice ao l.length c]) (by rfl) ?_ ?_
          · (intro w1 hC; obtain ⟨⟨t0, t1⟩, ⟨y0, y1⟩, ⟨x0, x1⟩, ⟨p0, p1⟩, -⟩ := hC; go_simp; first | done | (simp; done) | (simp [*]; done) | omega | (simp; omega) | (rw [IntKind.wrap_i64]; omega) | (intro hx; omega) | rfl)
          simp only [Act.put, List.setIfInBounds_toArray, List.set_cons_zero, List.set_cons_succ]
          refine qw_run (v := .agg #[.int .u64 (hI x), .int .u64 (lI x)]) (by rfl) ?_ ?_
          · (intro w1 hC; obtain ⟨⟨t0, t1⟩, ⟨y0, y1⟩, ⟨x0, x1⟩, ⟨p0, p1⟩, -⟩ := hC; go_simp; first | done | (simp; done) | (simp [*]; done) | omega | (simp; omega) | (rw [IntKind.wrap_i64]; omega) | (intro hx; omega) | rfl)
          simp only [Act.put, List.setIfInBounds_toArray, List.set_cons_zero, List.set_cons_succ]
          refine qw_call (v := .int .i64 fx) (f := 11) (args := #[.agg #[.int .i64 F, .slice ao l.length c], .agg #[.int .u64 (hI x), .int .u64 (lI x)]]) (by rfl) ?_ ?_ ?_
          · (intro w1 hC; clear hC; go_simp)
          · exact fun w1 hC => (KA.out w1 hC.2.2.2.2).mono fun e w' ⟨he, hb⟩ => ⟨he, hC.below hb⟩
          simp only [Act.put, List.setIfInBounds_toArray, List.set_cons_zero, List.set_cons_succ]
          refine qw_run (v := .agg #[.int .i64 F, .slice bo m.length d]) (by rfl) ?_ ?_
          · (intro w1 hC; obtain ⟨⟨t0, t1⟩, ⟨y0, y1⟩, ⟨x0, x1⟩, ⟨p0, p1⟩, -⟩ := hC; go_simp; first | done | (simp; done) | (simp [*]; done) | omega | (simp; omega) | (rw [IntKind.wrap_i64]; omega) | (intro hx; omega) | rfl)
          simp only [Act.put, List.setIfInBounds_toArray, List.set_cons_zero, List.set_cons_succ]
          refine qw_run (v := .agg #[.int .u64 (hI x), .int .u64 (lI x)]) (by rfl) ?_ ?_
          · (intro w1 hC; obtain ⟨⟨t0, t1⟩, ⟨y0, y1⟩, ⟨x0, x1⟩, ⟨p0, p1⟩, -⟩ := hC; go_simp; first | done | (simp; done) | (simp [*]; done) | omega | (simp; omega) | (rw [IntKind.wrap_i64]; omega) | (intro hx; omega) | rfl)
          simp only [Act.put, List.setIfInBounds_toArray, List.set_cons_zero, List.set_cons_succ]
          refine qw_call (v := .int .i64 fx) (f := 11) (args := #[.agg #[.int .i64 F, .slice bo m.length d], .agg #[.int .u64 (hI x), .int .u64 (lI x)]]) (by rfl) ?_ ?_ ?_
          · (intro w1 hC; clear hC; go_simp)
          · exact fun w1 hC => (KB.out w1 hC.2.2.2.2).mono fun e w' ⟨he, hb⟩ => ⟨he, hC.below hb⟩
          simp only [Act.put, List.setIfInBounds_toArray, List.set_cons_zero, List.set_cons_succ]
          refine qw_run (v := .bool true) (by rfl) ?_ ?_
          · (intro w1 hC; obtain ⟨⟨t0, t1⟩, ⟨y0, y1⟩, ⟨x0, x1⟩, ⟨p0, p1⟩, -⟩ := hC; go_simp; first | done | (simp; done) | (simp [*]; done) | omega | (simp; omega) | (rw [IntKind.wrap_i64]; omega) | (intro hx; omega) | rfl)
          simp only [Act.put, List.setIfInBounds_toArray, List.set_cons_zero, List.set_cons_succ]
          refine qw_run (v := .bool true) (by rfl) ?_ ?_
          · (intro w1 hC; obtain ⟨⟨t0, t1⟩, ⟨y0, y1⟩, ⟨x0, x1⟩, ⟨p0, p1⟩, -⟩ := hC; go_simp; first | done | (simp; done) | (simp [*]; done) | omega | (simp; omega) | (rw [IntKind.wrap_i64]; omega) | (intro hx; omega) | rfl)
          simp only [Act.put, List.setIfInBounds_toArray, List.set_cons_zero, List.set_cons_succ]
          refine qw_run (v := .bool true) (by rfl) ?_ ?_
          · (intro w1 hC; obtain ⟨⟨t0, t1⟩, ⟨y0, y1⟩, ⟨x0, x1⟩, ⟨p0, p1⟩, -⟩ := hC; go_simp; first | done | (simp; done) | (simp [*]; done) | omega | (simp; omega) | (rw [IntKind.wrap_i64]; omega) | (intro hx; omega) | rfl)
          simp only [Act.put, List.setIfInBounds_toArray, List.set_cons_zero, List.set_cons_succ]
          refine qw_nil ?_
          intro W6 hC6
          have HB6 := hidR (keepb hC6.2.2.2.2 HBw.out)
          clear hC6
          go_wp2
          go_ret
          exact ⟨rfl, HB6.out⟩
        | false =>
          obtain ⟨hs1, hs2⟩ := HSG2.out
          obtain ⟨pt, ho⟩ : ∃ pt, o = some pt := by cases o with | none => simp at hs1 | some a => exact ⟨a, rfl⟩
          subst ho
          obtain ⟨hp1, hp2, hp3⟩ := hs2
          have KAt : Hid (∀ W, Below w10.heap.size w10 W → Calls Try.prog 11 #[.agg #[.int .i64 F, .slice ao l.length c], .agg #[.int .u64 (hI pt), .int .u64 (lI pt)]] W fun e w' => e = .returned (.int .i64 (look pt 0 l)) ∧ Below W.heap.size W w') := hidR (fun W hb => (HLK.out W pt (keepb hb HBw.out)).1)
          have KBt : Hid (∀ W, Below w10.heap.size w10 W → Calls Try.prog 11 #[.agg #[.int .i64 F, .slice bo m.length d], .agg #[.int .u64 (hI pt), .int .u64 (lI pt)]] W fun e w' => e = .returned (.int .i64 (look pt 0 m)) ∧ Below W.heap.size W w') := hidR (fun W hb => (HLK.out W pt (keepb hb HBw.out)).2)
          have hne : (look pt 0 l != look pt 0 m) = true := by simpa using hp2
          have KC := fun w => rcmp_any x pt w
          have HC : Hid (FC w10 w.heap.size w9.heap.size F (.slice ao l.length c) (.slice bo m.length d) x pt w10) := HC0
          simp only [Option.getD_some, Option.isSome_some]
          by_cases hcz : 0 ≤ cmpZ x pt
          · have dcz : decide (0 ≤ cmpZ x pt) = true := by simpa using hcz
            clear hs1 hp1 hp2 hp3 HSG2 HLK HC0 hcz
            generalize look pt 0 l = fa at *
            generalize look pt 0 m = fb at *
            generalize cmpZ x pt = cz at *
            go_wp2_with fail
            refine qw_region (C := FC w10 w.heap.size w9.heap.size F (.slice ao l.length c) (.slice bo m.length d) x pt) (by kernel_rfl) (by kernel_rfl) (HC.out.below (below_drewN (Below.refl _ _) 1)) ?_
            clear HC
            refine qw_run (v := .agg #[.int .i64 F, .slice ao l.length c]) (by rfl) ?_ ?_
            · (intro w1 hC; obtain ⟨⟨t0, t1⟩, ⟨y0, y1⟩, ⟨x0, x1⟩, ⟨p0, p1⟩, -⟩ := hC; go_simp; first | done | (simp; done) | (simp [*]; done) | omega | (simp; omega) | (rw [IntKind.wrap_i64]; omega) | (intro hx; omega) | rfl)
            simp only [Act.put, List.setIfInBounds_toArray, List.set_cons_zero, List.set_cons_succ]
            refine qw_run (v := .agg #[.int .u64 (hI pt), .int .u64 (lI pt)]) (by rfl) ?_ ?_
            · (intro w1 hC; obtain ⟨⟨t0, t1⟩, ⟨y0, y1⟩, ⟨x0, x1⟩, ⟨p0, p1⟩, -⟩ := hC; go_simp; first | done | (simp; done) | (simp [*]; done) | omega | (simp; omega) | (rw [IntKind.wrap_i64]; omega) | (intro hx; omega) | rfl)
            simp only [Act.put, List.setIfInBounds_toArray, List.set_cons_zero, List.set_cons_succ]
            refine qw_call (v := .int .i64 fa) (f := 11) (args := #[.agg #[.int .i64 F, .slice ao l.length c], .agg #[.int .u64 (hI pt), .int .u64 (lI pt)]]) (by rfl) ?_ ?_ ?_
            · (intro w1 hC; clear hC; go_simp)
            · exact fun w1 hC => (KAt.out w1 hC.2.2.2.2).mono fun e w' ⟨he, hb⟩ => ⟨he, hC.below hb⟩
            simp only [Act.put, List.setIfInBounds_toArray, List.set_cons_zero, List.set_cons_succ]
            refine qw_run (v := .agg #[.int .i64 F, .slice bo m.length d]) (by rfl) ?_ ?_
            · (intro w1 hC; obtain ⟨⟨t0, t1⟩, ⟨y0, y1⟩, ⟨x0, x1⟩, ⟨p0, p1⟩, -⟩ := hC; go_simp; first | done | (simp; done) | (simp [*]; done) | omega | (simp; omega) | (rw [IntKind.wrap_i64]; omega) | (intro hx; omega) | rfl)
            simp only [Act.put, List.setIfInBounds_toArray, List.set_cons_zero, List.set_cons_succ]
            refine qw_run (v := .agg #[.int .u64 (hI pt), .int .u64 (lI pt)]) (by rfl) ?_ ?_
            · (intro w1 hC; obtain ⟨⟨t0, t1⟩, ⟨y0, y1⟩, ⟨x0, x1⟩, ⟨p0, p1⟩, -⟩ := hC; go_simp; first | done | (simp; done) | (simp [*]; done) | omega | (simp; omega) | (rw [IntKind.wrap_i64]; omega) | (intro hx; omega) | rfl)
            simp only [Act.put, List.setIfInBounds_toArray, List.set_cons_zero, List.set_cons_succ]
            refine qw_call (v := .int .i64 fb) (f := 11) (args := #[.agg #[.int .i64 F, .slice bo m.length d], .agg #[.int .u64 (hI pt), .int .u64 (lI pt)]]) (by rfl) ?_ ?_ ?_
            · (intro w1 hC; clear hC; go_simp)
            · exact fun w1 hC => (KBt.out w1 hC.2.2.2.2).mono fun e w' ⟨he, hb⟩ => ⟨he, hC.below hb⟩
            simp only [Act.put, List.setIfInBounds_toArray, List.set_cons_zero, List.set_cons_succ]
            refine qw_run (v := .bool true) (by rfl) ?_ ?_
            · (intro w1 hC; obtain ⟨⟨t0, t1⟩, ⟨y0, y1⟩, ⟨x0, x1⟩, ⟨p0, p1⟩, -⟩ := hC; go_simp; first | done | (simp; done) | (simp [*]; done) | omega | (simp; omega) | (rw [IntKind.wrap_i64]; omega) | (intro hx; omega) | rfl)
            simp only [Act.put, List.setIfInBounds_toArray, List.set_cons_zero, List.set_cons_succ]
            refine qw_run (v := .bool true) (by rfl) ?_ ?_
            · (intro w1 hC; obtain ⟨⟨t0, t1⟩, ⟨y0, y1⟩, ⟨x0, x1⟩, ⟨p0, p1⟩, -⟩ := hC; go_simp; first | done | (simp; done) | (simp [*]; done) | omega | (simp; omega) | (rw [IntKind.wrap_i64]; omega) | (intro hx; omega) | rfl)
            simp only [Act.put, List.setIfInBounds_toArray, List.set_cons_zero, List.set_cons_succ]
            refine qw_run (v := .agg #[.int .u64 (hI x), .int .u64 (lI x)]) (by rfl) ?_ ?_
            · (intro w1 hC; obtain ⟨⟨t0, t1⟩, ⟨y0, y1⟩, ⟨x0, x1⟩, ⟨p0, p1⟩, -⟩ := hC; go_simp; first | done | (simp; done) | (simp [*]; done) | omega | (simp; omega) | (rw [IntKind.wrap_i64]; omega) | (intro hx; omega) | rfl)
            simp only [Act.put, List.setIfInBounds_toArray, List.set_cons_zero, List.set_cons_succ]
            refine qw_run (v := .agg #[.int .u64 (hI pt), .int .u64 (lI pt)]) (by rfl) ?_ ?_
            · (intro w1 hC; obtain ⟨⟨t0, t1⟩, ⟨y0, y1⟩, ⟨x0, x1⟩, ⟨p0, p1⟩, -⟩ := hC; go_simp; first | done | (simp; done) | (simp [*]; done) | omega | (simp; omega) | (rw [IntKind.wrap_i64]; omega) | (intro hx; omega) | rfl)
            simp only [Act.put, List.setIfInBounds_toArray, List.set_cons_zero, List.set_cons_succ]
            refine qw_call (v := .int .i64 cz) (f := 12) (args := #[.agg #[.int .u64 (hI x), .int .u64 (lI x)], .agg #[.int .u64 (hI pt), .int .u64 (lI pt)]]) (by rfl) ?_ ?_ ?_
            · (intro w1 hC; clear hC; go_simp)
            · exact fun w1 hC => (KC w1).mono fun e w' ⟨he, hb⟩ => ⟨he, hC.below hb⟩
            simp only [Act.put, List.setIfInBounds_toArray, List.set_cons_zero, List.set_cons_succ]
            refine qw_run (v := .bool true) (by rfl) ?_ ?_
            · (intro w1 hC; obtain ⟨⟨t0, t1⟩, ⟨y0, y1⟩, ⟨x0, x1⟩, ⟨p0, p1⟩, -⟩ := hC; go_simp; first | done | (simp; done) | (simp [*]; done) | omega | (simp; omega) | (rw [IntKind.wrap_i64]; omega) | (intro hx; omega) | rfl)
            simp only [Act.put, List.setIfInBounds_toArray, List.set_cons_zero, List.set_cons_succ]
            refine qw_run (v := .bool true) (by rfl) ?_ ?_
            · (intro w1 hC; obtain ⟨⟨t0, t1⟩, ⟨y0, y1⟩, ⟨x0, x1⟩, ⟨p0, p1⟩, -⟩ := hC; go_simp; first | done | (simp; done) | (simp [*]; done) | omega | (simp; omega) | (rw [IntKind.wrap_i64]; omega) | (intro hx; omega) | rfl)
            simp only [Act.put, List.setIfInBounds_toArray, List.set_cons_zero, List.set_cons_succ]
            refine qw_skip (by rfl) ?_
            simp only [Act.put, List.setIfInBounds_toArray, List.set_cons_zero, List.set_cons_succ]
            refine qw_skip (by rfl) ?_
            simp only [Act.put, List.setIfInBounds_toArray, List.set_cons_zero, List.set_cons_succ]
            refine qw_skip (by rfl) ?_
            simp only [Act.put, List.setIfInBounds_toArray, List.set_cons_zero, List.set_cons_succ]
            refine qw_skip (by rfl) ?_
            simp only [Act.put, List.setIfInBounds_toArray, List.set_cons_zero, List.set_cons_succ]
            refine qw_skip (by rfl) ?_
            simp only [Act.put, List.setIfInBounds_toArray, List.set_cons_zero, List.set_cons_succ]
            refine qw_skip (by rfl) ?_
            simp only [Act.put, List.setIfInBounds_toArray, List.set_cons_zero, List.set_cons_succ]
            refine qw_skip (by rfl) ?_
            simp only [Act.put, List.setIfInBounds_toArray, List.set_cons_zero, List.set_cons_succ]
            refine qw_run (v := .bool true) (by rfl) ?_ ?_
            · (intro w1 hC; obtain ⟨⟨t0, t1⟩, ⟨y0, y1⟩, ⟨x0, x1⟩, ⟨p0, p1⟩, -⟩ := hC; go_simp; first | done | (simp; done) | (simp [*]; done) | omega | (simp; omega) | (rw [IntKind.wrap_i64]; omega) | (intro hx; omega) | rfl)
            simp only [Act.put, List.setIfInBounds_toArray, List.set_cons_zero, List.set_cons_succ]
            refine qw_run (v := .bool true) (by rfl) ?_ ?_
            · (intro w1 hC; obtain ⟨⟨t0, t1⟩, ⟨y0, y1⟩, ⟨x0, x1⟩, ⟨p0, p1⟩, -⟩ := hC; go_simp; first | done | (simp; done) | (simp [*]; done) | omega | (simp; omega) | (rw [IntKind.wrap_i64]; omega) | (intro hx; omega) | rfl)
            simp only [Act.put, List.setIfInBounds_toArray, List.set_cons_zero, List.set_cons_succ]
            refine qw_run (v := .bool true) (by rfl) ?_ ?_
            · (intro w1 hC; obtain ⟨⟨t0, t1⟩, ⟨y0, y1⟩, ⟨x0, x1⟩, ⟨p0, p1⟩, -⟩ := hC; go_simp; first | done | (simp; done) | (simp [*]; done) | omega | (simp; omega) | (rw [IntKind.wrap_i64]; omega) | (intro hx; omega) | rfl)
            simp only [Act.put, List.setIfInBounds_toArray, List.set_cons_zero, List.set_cons_succ]
            refine qw_nil ?_
            intro W6 hC6
            have HB6 := hidR (keepb hC6.2.2.2.2 HBw.out)
            clear hC6
            go_wp2
            go_ret
            exact ⟨rfl, HB6.out⟩
          · have dcz : decide (0 ≤ cmpZ x pt) = false := by simpa using hcz
            have HEq : Hid (look x 0 l = look x 0 m) := hidR (hp3 x HRX.out (by
              rcases cmpZ_ways x pt with ⟨h, e⟩ | ⟨h, e⟩ | ⟨h, e⟩
              · exact h
              · rw [e] at hcz; omega
              · rw [e] at hcz; omega))
            have KA : Hid (∀ W, Below w10.heap.size w10 W → Calls Try.prog 11 #[.agg #[.int .i64 F, .slice ao l.length c], .agg #[.int .u64 (hI x), .int .u64 (lI x)]] W fun e w' => e = .returned (.int .i64 (look x 0 l)) ∧ Below W.heap.size W w') := hidR (fun W hb => (HLK.out W x (keepb hb HBw.out)).1)
            have KB : Hid (∀ W, Below w10.heap.size w10 W → Calls Try.prog 11 #[.agg #[.int .i64 F, .slice bo m.length d], .agg #[.int .u64 (hI x), .int .u64 (lI x)]] W fun e w' => e = .returned (.int .i64 (look x 0 l)) ∧ Below W.heap.size W w') := hidR (fun W hb => by rw [HEq.out]; exact (HLK.out W x (keepb hb HBw.out)).2)
            clear hs1 hp1 hp2 hp3 HSG2 HLK HC0 hcz HEq
            generalize look pt 0 l = fa at *
            generalize look pt 0 m = fb at *
            generalize look x 0 l = fx at *
            generalize cmpZ x pt = cz at *
            go_wp2_with fail
            refine qw_region (C := FC w10 w.heap.size w9.heap.size F (.slice ao l.length c) (.slice bo m.length d) x pt) (by kernel_rfl) (by kernel_rfl) (HC.out.below (below_drewN (Below.refl _ _) 1)) ?_
            clear HC
            refine qw_run (v := .agg #[.int .i64 F, .slice ao l.length c]) (by rfl) ?_ ?_
            · (intro w1 hC; obtain ⟨⟨t0, t1⟩, ⟨y0, y1⟩, ⟨x0, x1⟩, ⟨p0, p1⟩, -⟩ := hC; go_simp; first | done | (simp; done) | (simp [*]; done) | omega | (simp; omega) | (rw [IntKind.wrap_i64]; omega) | (intro hx; omega) | rfl)
            simp only [Act.put, List.setIfInBounds_toArray, List.set_cons_zero, List.set_cons_succ]
            refine qw_run (v := .agg #[.int .u64 (hI pt), .int .u64 (lI pt)]) (by rfl) ?_ ?_
            · (intro w1 hC; obtain ⟨⟨t0, t1⟩, ⟨y0, y1⟩, ⟨x0, x1⟩, ⟨p0, p1⟩, -⟩ := hC; go_simp; first | done | (simp; done) | (simp [*]; done) | omega | (simp; omega) | (rw [IntKind.wrap_i64]; omega) | (intro hx; omega) | rfl)
            simp only [Act.put, List.setIfInBounds_toArray, List.set_cons_zero, List.set_cons_succ]
            refine qw_call (v := .int .i64 fa) (f := 11) (args := #[.agg #[.int .i64 F, .slice ao l.length c], .agg #[.int .u64 (hI pt), .int .u64 (lI pt)]]) (by rfl) ?_ ?_ ?_
            · (intro w1 hC; clear hC; go_simp)
            · exact fun w1 hC => (KAt.out w1 hC.2.2.2.2).mono fun e w' ⟨he, hb⟩ => ⟨he, hC.below hb⟩
            simp only [Act.put, List.setIfInBounds_toArray, List.set_cons_zero, List.set_cons_succ]
            refine qw_run (v := .agg #[.int .i64 F, .slice bo m.length d]) (by rfl) ?_ ?_
            · (intro w1 hC; obtain ⟨⟨t0, t1⟩, ⟨y0, y1⟩, ⟨x0, x1⟩, ⟨p0, p1⟩, -⟩ := hC; go_simp; first | done | (simp; done) | (simp [*]; done) | omega | (simp; omega) | (rw [IntKind.wrap_i64]; omega) | (intro hx; omega) | rfl)
            simp only [Act.put, List.setIfInBounds_toArray, List.set_cons_zero, List.set_cons_succ]
            refine qw_run (v := .agg #[.int .u64 (hI pt), .int .u64 (lI pt)]) (by rfl) ?_ ?_
            · (intro w1 hC; obtain ⟨⟨t0, t1⟩, ⟨y0, y1⟩, ⟨x0, x1⟩, ⟨p0, p1⟩, -⟩ := hC; go_simp; first | done | (simp; done) | (simp [*]; done) | omega | (simp; omega) | (rw [IntKind.wrap_i64]; omega) | (intro hx; omega) | rfl)
            simp only [Act.put, List.setIfInBounds_toArray, List.set_cons_zero, List.set_cons_succ]
            refine qw_call (v := .int .i64 fb) (f := 11) (args := #[.agg #[.int .i64 F, .slice bo m.length d], .agg #[.int .u64 (hI pt), .int .u64 (lI pt)]]) (by rfl) ?_ ?_ ?_
            · (intro w1 hC; clear hC; go_simp)
            · exact fun w1 hC => (KBt.out w1 hC.2.2.2.2).mono fun e w' ⟨he, hb⟩ => ⟨he, hC.below hb⟩
            simp only [Act.put, List.setIfInBounds_toArray, List.set_cons_zero, List.set_cons_succ]
            refine qw_run (v := .bool true) (by rfl) ?_ ?_
            · (intro w1 hC; obtain ⟨⟨t0, t1⟩, ⟨y0, y1⟩, ⟨x0, x1⟩, ⟨p0, p1⟩, -⟩ := hC; go_simp; first | done | (simp; done) | (simp [*]; done) | omega | (simp; omega) | (rw [IntKind.wrap_i64]; omega) | (intro hx; omega) | rfl)
            simp only [Act.put, List.setIfInBounds_toArray, List.set_cons_zero, List.set_cons_succ]
            refine qw_run (v := .bool true) (by rfl) ?_ ?_
            · (intro w1 hC; obtain ⟨⟨t0, t1⟩, ⟨y0, y1⟩, ⟨x0, x1⟩, ⟨p0, p1⟩, -⟩ := hC; go_simp; first | done | (simp; done) | (simp [*]; done) | omega | (simp; omega) | (rw [IntKind.wrap_i64]; omega) | (intro hx; omega) | rfl)
            simp only [Act.put, List.setIfInBounds_toArray, List.set_cons_zero, List.set_cons_succ]
            refine qw_run (v := .agg #[.int .u64 (hI x), .int .u64 (lI x)]) (by rfl) ?_ ?_
            · (intro w1 hC; obtain ⟨⟨t0, t1⟩, ⟨y0, y1⟩, ⟨x0, x1⟩, ⟨p0, p1⟩, -⟩ := hC; go_simp; first | done | (simp; done) | (simp [*]; done) | omega | (simp; omega) | (rw [IntKind.wrap_i64]; omega) | (intro hx; omega) | rfl)
            simp only [Act.put, List.setIfInBounds_toArray, List.set_cons_zero, List.set_cons_succ]
            refine qw_run (v := .agg #[.int .u64 (hI pt), .int .u64 (lI pt)]) (by rfl) ?_ ?_
            · (intro w1 hC; obtain ⟨⟨t0, t1⟩, ⟨y0, y1⟩, ⟨x0, x1⟩, ⟨p0, p1⟩, -⟩ := hC; go_simp; first | done | (simp; done) | (simp [*]; done) | omega | (simp; omega) | (rw [IntKind.wrap_i64]; omega) | (intro hx; omega) | rfl)
            simp only [Act.put, List.setIfInBounds_toArray, List.set_cons_zero, List.set_cons_succ]
            refine qw_call (v := .int .i64 cz) (f := 12) (args := #[.agg #[.int .u64 (hI x), .int .u64 (lI x)], .agg #[.int .u64 (hI pt), .int .u64 (lI pt)]]) (by rfl) ?_ ?_ ?_
            · (intro w1 hC; clear hC; go_simp)
            · exact fun w1 hC => (KC w1).mono fun e w' ⟨he, hb⟩ => ⟨he, hC.below hb⟩
            simp only [Act.put, List.setIfInBounds_toArray, List.set_cons_zero, List.set_cons_succ]
            refine qw_run (v := .bool false) (by rfl) ?_ ?_
            · (intro w1 hC; obtain ⟨⟨t0, t1⟩, ⟨y0, y1⟩, ⟨x0, x1⟩, ⟨p0, p1⟩, -⟩ := hC; go_simp; first | done | (simp; done) | (simp [*]; done) | omega | (simp; omega) | (rw [IntKind.wrap_i64]; omega) | (intro hx; omega) | rfl)
            simp only [Act.put, List.setIfInBounds_toArray, List.set_cons_zero, List.set_cons_succ]
            refine qw_run (v := .bool false) (by rfl) ?_ ?_
            · (intro w1 hC; obtain ⟨⟨t0, t1⟩, ⟨y0, y1⟩, ⟨x0, x1⟩, ⟨p0, p1⟩, -⟩ := hC; go_simp; first | done | (simp; done) | (simp [*]; done) | omega | (simp; omega) | (rw [IntKind.wrap_i64]; omega) | (intro hx; omega) | rfl)
            simp only [Act.put, List.setIfInBounds_toArray, List.set_cons_zero, List.set_cons_succ]
            refine qw_run (v := .agg #[.int .i64 F, .slice ao l.length c]) (by rfl) ?_ ?_
            · (intro w1 hC; obtain ⟨⟨t0, t1⟩, ⟨y0, y1⟩, ⟨x0, x1⟩, ⟨p0, p1⟩, -⟩ := hC; go_simp; first | done | (simp; done) | (simp [*]; done) | omega | (simp; omega) | (rw [IntKind.wrap_i64]; omega) | (intro hx; omega) | rfl)
            simp only [Act.put, List.setIfInBounds_toArray, List.set_cons_zero, List.set_cons_succ]
            refine qw_run (v := .agg #[.int .u64 (hI x), .int .u64 (lI x)]) (by rfl) ?_ ?_
            · (intro w1 hC; obtain ⟨⟨t0, t1⟩, ⟨y0, y1⟩, ⟨x0, x1⟩, ⟨p0, p1⟩, -⟩ := hC; go_simp; first | done | (simp; done) | (simp [*]; done) | omega | (simp; omega) | (rw [IntKind.wrap_i64]; omega) | (intro hx; omega) | rfl)
            simp only [Act.put, List.setIfInBounds_toArray, List.set_cons_zero, List.set_cons_succ]
            refine qw_call (v := .int .i64 fx) (f := 11) (args := #[.agg #[.int .i64 F, .slice ao l.length c], .agg #[.int .u64 (hI x), .int .u64 (lI x)]]) (by rfl) ?_ ?_ ?_
            · (intro w1 hC; clear hC; go_simp)
            · exact fun w1 hC => (KA.out w1 hC.2.2.2.2).mono fun e w' ⟨he, hb⟩ => ⟨he, hC.below hb⟩
            simp only [Act.put, List.setIfInBounds_toArray, List.set_cons_zero, List.set_cons_succ]
            refine qw_run (v := .agg #[.int .i64 F, .slice bo m.length d]) (by rfl) ?_ ?_
            · (intro w1 hC; obtain ⟨⟨t0, t1⟩, ⟨y0, y1⟩, ⟨x0, x1⟩, ⟨p0, p1⟩, -⟩ := hC; go_simp; first | done | (simp; done) | (simp [*]; done) | omega | (simp; omega) | (rw [IntKind.wrap_i64]; omega) | (intro hx; omega) | rfl)
            simp only [Act.put, List.setIfInBounds_toArray, List.set_cons_zero, List.set_cons_succ]
            refine qw_run (v := .agg #[.int .u64 (hI x), .int .u64 (lI x)]) (by rfl) ?_ ?_
            · (intro w1 hC; obtain ⟨⟨t0, t1⟩, ⟨y0, y1⟩, ⟨x0, x1⟩, ⟨p0, p1⟩, -⟩ := hC; go_simp; first | done | (simp; done) | (simp [*]; done) | omega | (simp; omega) | (rw [IntKind.wrap_i64]; omega) | (intro hx; omega) | rfl)
            simp only [Act.put, List.setIfInBounds_toArray, List.set_cons_zero, List.set_cons_succ]
            refine qw_call (v := .int .i64 fx) (f := 11) (args := #[.agg #[.int .i64 F, .slice bo m.length d], .agg #[.int .u64 (hI x), .int .u64 (lI x)]]) (by rfl) ?_ ?_ ?_
            · (intro w1 hC; clear hC; go_simp)
            · exact fun w1 hC => (KB.out w1 hC.2.2.2.2).mono fun e w' ⟨he, hb⟩ => ⟨he, hC.below hb⟩
            simp only [Act.put, List.setIfInBounds_toArray, List.set_cons_zero, List.set_cons_succ]
            refine qw_run (v := .bool true) (by rfl) ?_ ?_
            · (intro w1 hC; obtain ⟨⟨t0, t1⟩, ⟨y0, y1⟩, ⟨x0, x1⟩, ⟨p0, p1⟩, -⟩ := hC; go_simp; first | done | (simp; done) | (simp [*]; done) | omega | (simp; omega) | (rw [IntKind.wrap_i64]; omega) | (intro hx; omega) | rfl)
            simp only [Act.put, List.setIfInBounds_toArray, List.set_cons_zero, List.set_cons_succ]
            refine qw_run (v := .bool true) (by rfl) ?_ ?_
            · (intro w1 hC; obtain ⟨⟨t0, t1⟩, ⟨y0, y1⟩, ⟨x0, x1⟩, ⟨p0, p1⟩, -⟩ := hC; go_simp; first | done | (simp; done) | (simp [*]; done) | omega | (simp; omega) | (rw [IntKind.wrap_i64]; omega) | (intro hx; omega) | rfl)
            simp only [Act.put, List.setIfInBounds_toArray, List.set_cons_zero, List.set_cons_succ]
            refine qw_run (v := .bool true) (by rfl) ?_ ?_
            · (intro w1 hC; obtain ⟨⟨t0, t1⟩, ⟨y0, y1⟩, ⟨x0, x1⟩, ⟨p0, p1⟩, -⟩ := hC; go_simp; first | done | (simp; done) | (simp [*]; done) | omega | (simp; omega) | (rw [IntKind.wrap_i64]; omega) | (intro hx; omega) | rfl)
            simp only [Act.put, List.setIfInBounds_toArray, List.set_cons_zero, List.set_cons_succ]
            refine qw_run (v := .bool true) (by rfl) ?_ ?_
            · (intro w1 hC; obtain ⟨⟨t0, t1⟩, ⟨y0, y1⟩, ⟨x0, x1⟩, ⟨p0, p1⟩, -⟩ := hC; go_simp; first | done | (simp; done) | (simp [*]; done) | omega | (simp; omega) | (rw [IntKind.wrap_i64]; omega) | (intro hx; omega) | rfl)
            simp only [Act.put, List.setIfInBounds_toArray, List.set_cons_zero, List.set_cons_succ]
            refine qw_nil ?_
            intro W6 hC6
            have HB6 := hidR (keepb hC6.2.2.2.2 HBw.out)
            clear hC6
            go_wp2
            go_ret
            exact ⟨rfl, HB6.out⟩
      · have dFG : (F != G) = true := by simpa using hFG
        go_wp2
        go_ret
        exact ⟨rfl, HB3.out⟩
end Go.Proofs.Ytmkjlcfoedglmab
