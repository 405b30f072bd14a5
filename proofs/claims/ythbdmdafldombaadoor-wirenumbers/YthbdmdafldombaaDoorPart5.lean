/-
  Part 5 of the proof: 1 texts, one behind the other.
-/
import Derived.Test.YthbdmdafldombaaDoorPart3
import Derived.Test.YthbdmdafldombaaDoorPart4
import Derived.Test.YthbdmdafldombaaDoorPart2
import Derived.BigGuard
import Derived.BigCall
namespace Go.Proofs.YthbdmdafldombaaDoor
open Go.RowKit
set_option linter.unusedSimpArgs false
set_option linter.unusedVariables false

theorem ex13n {P : Program} {w : World} {s : Sem Value} {v : Value} (h : s.run P w = .ok v w) : (do pure (Next.value (← s)) : Sem Next).run P w = .ok (.value v) w := by
  simp only [Sem.run_bind, h, Sem.run_pure, Result.andThen_ok]
theorem hf_below {w w' : World} (h : Hf w) (hb : Below w.heap.size w w') : Hf w' := fun j hj => keepc hb (h j hj)
structure SW (P : Program) (ops : Array Oper) (Q : Exit → Act → World → Prop) (l : List Oper) (a : Act) (w : World) : Prop where
  out : wpList P ops Q l a w
theorem sw_run {P : Program} {ops : Array Oper} {Q : Exit → Act → World → Prop} {a : Act} {o : Oper} {rest : List Oper} {w : World} {v : Value}
    (hw : Region.wanted o (yielded ops a.tmps) = true) (h : (execOp a.eval o).run P w = .ok (.value v) w) (k : SW P ops Q rest (a.put o.dst v) w) : SW P ops Q (o :: rest) a w :=
  ⟨wpList_step fun K hK => by rw [if_pos hw]; unfold Oper.wp; rw [h]; exact hK _ _ k.out⟩
theorem sw_skip {P : Program} {ops : Array Oper} {Q : Exit → Act → World → Prop} {a : Act} {o : Oper} {rest : List Oper} {w : World}
    (hw : Region.wanted o (yielded ops a.tmps) = false) (k : SW P ops Q rest (a.put o.dst undef) w) : SW P ops Q (o :: rest) a w :=
  ⟨wpList_skip hw k.out⟩
theorem sw_nil {P : Program} {ops : Array Oper} {Q : Exit → Act → World → Prop} {a : Act} {w : World} (h : wpList P ops Q [] a w) : SW P ops Q [] a w := ⟨h⟩
theorem lent_row {W : World} {g : Nat} {l : List Nat} (h : RwX cB W (.slice (some ⟨g, 0, none⟩) (l.length + 9) (l.length + 9)) (mkZ l 9)) : RowA W 1 (.slice (some ⟨g, 0, none⟩) l.length (l.length + 9)) l.length (l.map cB) ∧ RwX cB W (.slice (some ⟨g, 0, none⟩) l.length (l.length + 9)) l := by
  obtain ⟨ao, c, e, hc, h⟩ := h
  injection e with e1 e2 e3
  subst e1 e3
  rcases h with h | ⟨b, off, e, h⟩
  · have := congrArg List.length h
    rw [mkZ_len l 9 (by omega)] at this
    simp at this
  · injection e with e
    injection e with e1 e2
    subst e1 e2
    refine ⟨⟨by simp, _, _, rfl, by omega, .inr ⟨_, rfl, fun j u hj => ?_⟩⟩, ⟨_, _, rfl, by omega, .inr ⟨_, _, rfl, fun j x hj => h j x (mkZ_lo l j x hj)⟩⟩⟩
    rw [List.getElem?_map] at hj
    cases hx : l[j]? with
    | none => rw [hx] at hj; cases hj
    | some x =>
      rw [hx] at hj
      simp at hj
      rw [addA, h j x (mkZ_lo l j x hx), hj]
theorem gt_parts (l : List Nat) (hx : ∀ b ∈ l, b < 256) (n : Int) (k : Nat) (hk : k = 2 ∨ k = 4) :
    (gtE l n k = 0 ∧ decide (0 ≤ n ∧ n ≤ (l.length : Int) - k) = true ∧ gtN l n k < 256 ^ k) ∨ (gtE l n k = 30 ∧ decide (0 ≤ n ∧ n ≤ (l.length : Int) - k) = false ∧ gtN l n k = 0) := by
  unfold gtE gtN
  by_cases h : 0 ≤ n ∧ n ≤ (l.length : Int) - (k : Int)
  · rw [if_pos h, if_pos h, decide_eq_true h]
    have h2 := numN_lt ((l.drop n.toNat).take k) (fun x hx' => hx x (List.mem_of_mem_drop (List.mem_of_mem_take hx')))
    have h3 : ((l.drop n.toNat).take k).length ≤ k := by rw [List.length_take]; omega
    exact .inl ⟨rfl, rfl, Nat.lt_of_lt_of_le h2 (Nat.pow_le_pow_right (by omega) h3)⟩
  · rw [if_neg h, if_neg h, decide_eq_false h]
    exact .inr ⟨rfl, rfl, rfl⟩
set_option maxRecDepth 100000 in
set_option maxHeartbeats 16000000 in
theorem wireNumbers_any (v : Value) (l : List Nat) (x : BitVec 32) (n : Int) (w : World) (hA : RowA w 1 v l.length (l.map cB)) (hv : RwX cB w v l) (hl : l.length * 1 ≤ 140737488351232) (hx : ∀ b ∈ l, b < 256) (hn0 : -9223372036854775808 ≤ n) (hn1 : n ≤ 9223372036854775807) (hT : Hf w) :
    Calls Tryd.prog 3 #[v, .int .u32 (uI x), .int .i64 n] w fun e w' => e = .returned (.bool true) ∧ Below w.heap.size w w' := by
  obtain ⟨i0, hi, hz0, hz1, hz2⟩ := info13 Tryd.infoB13
  have hxl := x.isLt
  rw [uI_eq]
  obtain ⟨m, hme⟩ : ∃ m, m = x.toNat := ⟨_, rfl⟩
  rw [← hme] at hxl ⊢
  obtain ⟨q, hq⟩ : ∃ q, q = m % 65536 := ⟨_, rfl⟩
  have hql : q < 65536 := by omega
  obtain ⟨vo, vc, hvf, -⟩ := id hv
  have HT := hid13 hT
  have HA := hid13 hA
  have HV := hid13 hv
  have HL : Hid (l.length ≤ 140737488351232) := by show _ ≤ _; omega
  have HX := hid13 hx
  have HI := hid13 (And.intro hn0 hn1)
  have HQ : Hid (q < 65536 ∧ m < 4294967296 ∧ q = m % 65536) := ⟨hql, hxl, hq⟩
  obtain ⟨N, hN⟩ : ∃ N : Int, N = (m : Int) := ⟨_, rfl⟩
  obtain ⟨p, hp⟩ : ∃ p : Int, p = (q : Int) := ⟨_, rfl⟩
  have hN0 : 0 ≤ N := by omega
  have hN1 : N < 4294967296 := by omega
  have hp0 : 0 ≤ p := by omega
  have hp1 : p < 65536 := by omega
  have hpe : IntKind.u16.wrap N = p := by simp [IntKind.wrap, IntKind.bits, IntKind.signed]; omega
  have HK : Hid (N = (m : Int) ∧ p = (q : Int)) := ⟨hN, hp⟩
  rw [← hN]
  subst hvf
  have hl0 : (l.length : Int) ≤ 140737488351232 := by omega
  obtain ⟨X2, hX2⟩ : ∃ X : Int, X = ((gtN l n 2 : Nat) : Int) := ⟨_, rfl⟩
  obtain ⟨X4, hX4⟩ : ∃ X : Int, X = ((gtN l n 4 : Nat) : Int) := ⟨_, rfl⟩
  obtain ⟨E2, hE2⟩ : ∃ X : Int, X = gtE l n 2 := ⟨_, rfl⟩
  obtain ⟨E4, hE4⟩ : ∃ X : Int, X = gtE l n 4 := ⟨_, rfl⟩
  obtain ⟨G2, hG2⟩ : ∃ X : Bool, X = decide (0 ≤ n ∧ n ≤ (l.length : Int) - ((2 : Nat) : Int)) := ⟨_, rfl⟩
  obtain ⟨G4, hG4⟩ : ∃ X : Bool, X = decide (0 ≤ n ∧ n ≤ (l.length : Int) - ((4 : Nat) : Int)) := ⟨_, rfl⟩
  have F2 : Hid ((E2 = 0 ∧ G2 = true ∧ 0 ≤ X2 ∧ X2 < 65536) ∨ (E2 = 30 ∧ G2 = false ∧ X2 = 0)) := by
    rcases gt_parts l HX.out n 2 (.inl rfl) with ⟨a, b, c⟩ | ⟨a, b, c⟩
    · exact .inl ⟨by rw [hE2, a], by rw [hG2]; exact b, by omega, by omega⟩
    · exact .inr ⟨by rw [hE2, a], by rw [hG2]; exact b, by rw [hX2, c]; rfl⟩
  have F4 : Hid ((E4 = 0 ∧ G4 = true) ∨ (E4 = 30 ∧ G4 = false ∧ X4 = 0)) := by
    rcases gt_parts l HX.out n 4 (.inr rfl) with ⟨a, b, c⟩ | ⟨a, b, c⟩
    · exact .inl ⟨by rw [hE4, a], by rw [hG4]; exact b⟩
    · exact .inr ⟨by rw [hE4, a], by rw [hG4]; exact b, by rw [hX4, c]; rfl⟩
  have HG24 : Hid (G4 = true → G2 = true) := by
    intro h
    rw [hG4] at h
    rw [hG2]
    have := of_decide_eq_true h
    exact decide_eq_true ⟨this.1, by omega⟩
  have HG : Hid ((X2 = ((gtN l n 2 : Nat) : Int) ∧ E2 = gtE l n 2 ∧ G2 = decide (0 ≤ n ∧ n ≤ (l.length : Int) - ((2 : Nat) : Int))) ∧ (X4 = ((gtN l n 4 : Nat) : Int) ∧ E4 = gtE l n 4 ∧ G4 = decide (0 ≤ n ∧ n ≤ (l.length : Int) - ((4 : Nat) : Int)))) := ⟨⟨hX2, hE2, hG2⟩, hX4, hE4, hG4⟩
  clear hT hA hv hl hx hxl hme hq hql hN hp hn0 hn1 hX2 hX4 hE2 hE4 hG2 hG4
  go_enter Tryd.func3, Tryd.ntmps3
  go_wp2_with fail
  refine (lend13 _ l w HA.out (by have := HL.out; omega)).mono ?_
  rintro e w1 ⟨rfl, ho1, hb1⟩
  have hlen9 : (mkZ l 9).length = l.length + 9 := mkZ_len l 9 (by omega)
  have HM1 : Hid (RwX cB w1 (.slice (some ⟨w.heap.size, 0, none⟩) (l.length + 9) (l.length + 9)) (mkZ l 9)) := by
    refine own_rwx (base := w.heap.size) (e := 5) ?_
    rw [hlen9]; exact ho1
  have HB1 := hid13 hb1
  have K2 := put16_any _ l q w1 (lent_row HM1.out).1 (by have := HL.out; omega) HQ.out.1
  rw [← HK.out.2] at K2
  clear ho1 hb1 hlen9
  go_wp2_with fail
  refine K2.mono ?_
  rintro e w2 ⟨va, rfl, ho2, hb2⟩
  have HM2 := hid13 (HM1.out.below hb2)
  have HP2 := hid13 (own_rwx ho2)
  have HB2 := hid13 (keepb hb2 HB1.out)
  have K3 := put32_any _ l m w2 (lent_row HM2.out).1 (by have := HL.out; omega) HQ.out.2.1
  rw [← HK.out.1] at K3
  clear ho2 hb2 K2 HM1 HB1
  go_wp2_with fail
  refine K3.mono ?_
  rintro e w3 ⟨vq, rfl, ho3, hb3⟩
  have HM3 := hid13 (HM2.out.below hb3)
  have HP3 := hid13 (HP2.out.below hb3)
  have HQ3 := hid13 (own_rwx ho3)
  have HB3 := hid13 (keepb hb3 HB2.out)
  have K4 := get16_any _ l n w3 (lent_row HM3.out).2 (by have := HL.out; omega) HX.out HI.out.1 HI.out.2
  rw [← HG.out.1.1, ← HG.out.1.2.1] at K4
  clear ho3 hb3 K3 HM2 HP2 HB2
  go_wp2_with fail
  refine K4.mono ?_
  rintro e w4 ⟨rfl, hb4⟩
  have HM4 := hid13 (HM3.out.below hb4)
  have HP4 := hid13 (HP3.out.below hb4)
  have HQ4 := hid13 (HQ3.out.below hb4)
  have HB4 := hid13 (keepb hb4 HB3.out)
  have K5 := get32_any _ l n w4 (lent_row HM4.out).2 (by have := HL.out; omega) HX.out HI.out.1 HI.out.2
  rw [← HG.out.2.1, ← HG.out.2.2.1] at K5
  clear hb4 K4 HM3 HP3 HQ3 HB3
  go_wp2_with fail
  refine K5.mono ?_
  rintro e w5 ⟨rfl, hb5⟩
  have HM5 := hid13 (HM4.out.below hb5)
  have HP5 := hid13 (HP4.out.below hb5)
  have HQ5 := hid13 (HQ4.out.below hb5)
  have HB5 := hid13 (keepb hb5 HB4.out)
  have K6 := rget13 _ l n 2 2 rfl (by omega) (by omega) w5 (HV.out.below HB5.out) (by have := HL.out; omega) HX.out HI.out.1 HI.out.2
  rw [← HG.out.1.1, ← HG.out.1.2.2] at K6
  have K7 := rget13 _ l n 4 4 rfl (by omega) (by omega) w5 (HV.out.below HB5.out) (by have := HL.out; omega) HX.out HI.out.1 HI.out.2
  rw [← HG.out.2.1, ← HG.out.2.2.2] at K7
  clear hb5 K5 HM4 HP4 HQ4 HB4 HG HI
  go_wp2_with fail
  refine K6.mono ?_
  rintro e w6 ⟨rfl, hw6⟩
  replace hw6 := hw6.symm
  subst hw6
  clear K6
  go_wp2_with fail
  refine K7.mono ?_
  rintro e w7 ⟨rfl, hw7⟩
  replace hw7 := hw7.symm
  subst hw7
  clear K7
  go_wp2_with fail
  refine (kept13 _ w.heap.size l w5 (HV.out.below HB5.out) HM5.out (by have := HL.out; omega)).mono ?_
  rintro e w8 ⟨rfl, hb8⟩
  have HP8 := hid13 (HP5.out.below hb8)
  have HQ8 := hid13 (HQ5.out.below hb8)
  have HB8 := hid13 (keepb hb8 HB5.out)
  have HA8 := hid13 (HA.out.below HB8.out)
  have h63 : Hid (0 + l.length ≤ maxLen) := by have := HL.out; show _ ≤ _; unfold maxLen; omega
  have h47 : Hid ((0 + l.length) * 1 ≤ 140737488355328) := by have := HL.out; show _ ≤ _; omega
  clear hb8 HP5 HQ5 HB5 HM5 HA HV
  go_wp2_with (at_builtin; apply stopHere9)
  refine (show wpList _ _ _ _ _ _ from ?_)
  refine wpList_append_rowA rfl _ _ 22 rfl w8.heap.size 5 i0 (.int .u8 0) 1 1 Tryd.underlying22 hi hz0 hz1 hz2 rfl (by decide) _ 0 [] rfl (World.ownsRow_nil _ _ _ _) _ l.length (l.map cB) rfl HA8.out (cB_one l) h63.out h47.out (Nat.le_refl _) ?_
  intro ao9 cap9 w9 ho9 hgrow
  rw [Nat.zero_add] at ho9 ⊢
  have hb9 : Below w8.heap.size w8 w9 := (Below.refl _ _).grown hgrow (Nat.le_refl _) (fun z e => by cases e)
  have HB9 := hid13 (keepb hb9 HB8.out)
  have HP9 := hid13 (HP8.out.below hb9)
  have HQ9 := hid13 (HQ8.out.below hb9)
  have HD9 : Hid (RowA w9 1 (.slice ao9 l.length l.length) l.length (l.map cB)) := by
    obtain ⟨h1, ao', c', e, hc, h2⟩ := own_rowA ho9
    injection e with e1 e2 e3
    subst e1
    refine ⟨h1, _, _, rfl, Nat.le_refl _, ?_⟩
    rcases h2 with ⟨a, -, c⟩ | h2
    · exact .inl ⟨a, c, c⟩
    · exact .inr h2
  have hcap : (l.length : Int) ≤ (cap9 : Int) := by
    obtain ⟨-, ao', c', e, hc, -⟩ := own_rowA ho9
    injection e with e1 e2 e3
    omega
  have K10 := rput13 ao9 l m 2 2 rfl (by omega) (by omega) w9 HD9.out (by have := HL.out; omega) HQ.out.2.1
  rw [← HK.out.1] at K10
  clear hgrow ho9 hb9 HB8 HP8 HQ8 HA8 h63 h47
  go_wp2_with fail
  refine K10.mono ?_
  rintro e w10 ⟨vp, rfl, ho10, hb10⟩
  have HBB : Hid (∀ b ∈ l ++ lastB m 2, b < 256) := by
    intro b hb
    rcases List.mem_append.1 hb with hb | hb
    · exact HX.out b hb
    · rw [lastB_two] at hb; exact by2_lt _ (by omega) b hb
  have HB10 := hid13 (keepb hb10 HB9.out)
  have HP10 := hid13 (HP9.out.below hb10)
  have HQ10 := hid13 (HQ9.out.below hb10)
  have HD10 := hid13 (HD9.out.below hb10)
  have r10 := conv13 (own_rwx ho10) HBB.out
  have K11 := rput13 ao9 l m 4 4 rfl (by omega) (by omega) w10 HD10.out (by have := HL.out; omega) HQ.out.2.1
  rw [← HK.out.1] at K11
  clear ho10 hb10 K10 HB9 HP9 HQ9 HD9 HBB
  go_wp2_with fail
  refine K11.mono ?_
  rintro e w11 ⟨vr, rfl, ho11, hb11⟩
  have HBB : Hid (∀ b ∈ l ++ lastB m 4, b < 256) := by
    intro b hb
    rcases List.mem_append.1 hb with hb | hb
    · exact HX.out b hb
    · rw [lastB_four m HQ.out.2.1] at hb; exact by4_lt _ HQ.out.2.1 b hb
  have HB11 := hid13 (keepb hb11 HB10.out)
  have HP11 := hid13 (HP10.out.below hb11)
  have HQ11 := hid13 (HQ10.out.below hb11)
  have r11 := conv13 (own_rwx ho11) HBB.out
  clear ho11 hb11 K11 HB10 HP10 HQ10 HD10 r10
  go_wp2_with fail
  refine (known13 _ (hf_below HT.out HB11.out)).mono ?_
  rintro e w12 ⟨rfl, hb12⟩
  have HB12 := hid13 (keepb hb12 HB11.out)
  have r12 := conv13 (HP11.out.below hb12) (fun b hb => by
    rcases List.mem_append.1 hb with hb | hb
    · exact HX.out b hb
    · exact by2_lt q HQ.out.1 b hb)
  have r13 := conv13 (HQ11.out.below hb12) (fun b hb => by
    rcases List.mem_append.1 hb with hb | hb
    · exact HX.out b hb
    · exact by4_lt m HQ.out.2.1 b hb)
  have e2 : lastB m 2 = by2 q := by rw [lastB_two, HQ.out.2.2]
  have e4 : lastB m 4 = by4 m := lastB_four m HQ.out.2.1
  rw [e2, e4]
  generalize bsA (l ++ by2 q) = S2 at r12
  generalize bsA (l ++ by4 m) = S4 at r13
  clear hb12 HB11 HP11 HQ11 HT r11 e2 e4 HL HX HQ HK hpe hcap
  rcases F2.out with ⟨rfl, rfl, h1, h2⟩ | ⟨rfl, rfl, rfl⟩ <;> rcases F4.out with ⟨rfl, rfl⟩ | ⟨rfl, rfl, rfl⟩
  · clear F2 F4 hN0 hN1 hp0 hp1 hl0 hi hz0 hz1 hz2 HBB
    have hw32 : IntKind.u32.wrap X2 = X2 := by simp [IntKind.wrap, IntKind.bits, IntKind.signed]; omega
    clear h1 h2
    dsimp only
    rename_i hK
    refine hK _ _ ?_
    refine SW.out ?_
    refine sw_run (v := .bool true) (by rfl) (by (go_simp; first | done | (simp; done) | (simp [*]; done) | omega | (simp; omega) | rfl)) ?_
    simp only [Act.put, List.setIfInBounds_toArray, List.set_cons_zero, List.set_cons_succ]
    refine sw_run (v := .bool true) (by rfl) (by (go_simp; first | done | (simp; done) | (simp [*]; done) | omega | (simp; omega) | rfl)) ?_
    simp only [Act.put, List.setIfInBounds_toArray, List.set_cons_zero, List.set_cons_succ]
    refine sw_run (v := .bool true) (by rfl) (by (go_simp; first | done | (simp; done) | (simp [*]; done) | omega | (simp; omega) | rfl)) ?_
    simp only [Act.put, List.setIfInBounds_toArray, List.set_cons_zero, List.set_cons_succ]
    refine sw_run (v := .bool true) (by rfl) (by (go_simp; first | done | (simp; done) | (simp [*]; done) | omega | (simp; omega) | rfl)) ?_
    simp only [Act.put, List.setIfInBounds_toArray, List.set_cons_zero, List.set_cons_succ]
    refine sw_run (v := va) (by rfl) (by (go_simp; first | done | (simp; done) | (simp [*]; done) | omega | (simp; omega) | rfl)) ?_
    simp only [Act.put, List.setIfInBounds_toArray, List.set_cons_zero, List.set_cons_succ]
    refine sw_run (v := .string S2) (by rfl) (by exact ex13n r12) ?_
    simp only [Act.put, List.setIfInBounds_toArray, List.set_cons_zero, List.set_cons_succ]
    refine sw_run (v := .string S2) (by rfl) (by (go_simp; first | done | (simp; done) | (simp [*]; done) | omega | (simp; omega) | rfl)) ?_
    simp only [Act.put, List.setIfInBounds_toArray, List.set_cons_zero, List.set_cons_succ]
    refine sw_run (v := .bool true) (by rfl) (by (go_simp; first | done | (simp; done) | (simp [*]; done) | omega | (simp; omega) | rfl)) ?_
    simp only [Act.put, List.setIfInBounds_toArray, List.set_cons_zero, List.set_cons_succ]
    refine sw_run (v := .bool true) (by rfl) (by (go_simp; first | done | (simp; done) | (simp [*]; done) | omega | (simp; omega) | rfl)) ?_
    simp only [Act.put, List.setIfInBounds_toArray, List.set_cons_zero, List.set_cons_succ]
    refine sw_run (v := .bool true) (by rfl) (by (go_simp; first | done | (simp; done) | (simp [*]; done) | omega | (simp; omega) | rfl)) ?_
    simp only [Act.put, List.setIfInBounds_toArray, List.set_cons_zero, List.set_cons_succ]
    refine sw_run (v := vq) (by rfl) (by (go_simp; first | done | (simp; done) | (simp [*]; done) | omega | (simp; omega) | rfl)) ?_
    simp only [Act.put, List.setIfInBounds_toArray, List.set_cons_zero, List.set_cons_succ]
    refine sw_run (v := .string S4) (by rfl) (by exact ex13n r13) ?_
    simp only [Act.put, List.setIfInBounds_toArray, List.set_cons_zero, List.set_cons_succ]
    refine sw_run (v := .string S4) (by rfl) (by (go_simp; first | done | (simp; done) | (simp [*]; done) | omega | (simp; omega) | rfl)) ?_
    simp only [Act.put, List.setIfInBounds_toArray, List.set_cons_zero, List.set_cons_succ]
    refine sw_run (v := .bool true) (by rfl) (by (go_simp; first | done | (simp; done) | (simp [*]; done) | omega | (simp; omega) | rfl)) ?_
    simp only [Act.put, List.setIfInBounds_toArray, List.set_cons_zero, List.set_cons_succ]
    refine sw_run (v := .bool true) (by rfl) (by (go_simp; first | done | (simp; done) | (simp [*]; done) | omega | (simp; omega) | rfl)) ?_
    simp only [Act.put, List.setIfInBounds_toArray, List.set_cons_zero, List.set_cons_succ]
    refine sw_run (v := .bool true) (by rfl) (by (go_simp; first | done | (simp; done) | (simp [*]; done) | omega | (simp; omega) | rfl)) ?_
    simp only [Act.put, List.setIfInBounds_toArray, List.set_cons_zero, List.set_cons_succ]
    refine sw_run (v := .int .i64 0) (by rfl) (by (go_simp; first | done | (simp; done) | (simp [*]; done) | omega | (simp; omega) | rfl)) ?_
    simp only [Act.put, List.setIfInBounds_toArray, List.set_cons_zero, List.set_cons_succ]
    refine sw_run (v := .bool true) (by rfl) (by (go_simp; first | done | (simp; done) | (simp [*]; done) | omega | (simp; omega) | rfl)) ?_
    simp only [Act.put, List.setIfInBounds_toArray, List.set_cons_zero, List.set_cons_succ]
    refine sw_run (v := .bool true) (by rfl) (by (go_simp; first | done | (simp; done) | (simp [*]; done) | omega | (simp; omega) | rfl)) ?_
    simp only [Act.put, List.setIfInBounds_toArray, List.set_cons_zero, List.set_cons_succ]
    refine sw_run (v := .bool true) (by rfl) (by (go_simp; first | done | (simp; done) | (simp [*]; done) | omega | (simp; omega) | rfl)) ?_
    simp only [Act.put, List.setIfInBounds_toArray, List.set_cons_zero, List.set_cons_succ]
    refine sw_run (v := .bool true) (by rfl) (by (go_simp; first | done | (simp; done) | (simp [*]; done) | omega | (simp; omega) | rfl)) ?_
    simp only [Act.put, List.setIfInBounds_toArray, List.set_cons_zero, List.set_cons_succ]
    refine sw_run (v := .bool true) (by rfl) (by (go_simp; first | done | (simp; done) | (simp [*]; done) | omega | (simp; omega) | rfl)) ?_
    simp only [Act.put, List.setIfInBounds_toArray, List.set_cons_zero, List.set_cons_succ]
    refine sw_run (v := .int .i64 0) (by rfl) (by (go_simp; first | done | (simp; done) | (simp [*]; done) | omega | (simp; omega) | rfl)) ?_
    simp only [Act.put, List.setIfInBounds_toArray, List.set_cons_zero, List.set_cons_succ]
    refine sw_run (v := .bool true) (by rfl) (by (go_simp; first | done | (simp; done) | (simp [*]; done) | omega | (simp; omega) | rfl)) ?_
    simp only [Act.put, List.setIfInBounds_toArray, List.set_cons_zero, List.set_cons_succ]
    refine sw_run (v := .bool true) (by rfl) (by (go_simp; first | done | (simp; done) | (simp [*]; done) | omega | (simp; omega) | rfl)) ?_
    simp only [Act.put, List.setIfInBounds_toArray, List.set_cons_zero, List.set_cons_succ]
    refine sw_run (v := .bool true) (by rfl) (by (go_simp; first | done | (simp; done) | (simp [*]; done) | omega | (simp; omega) | rfl)) ?_
    simp only [Act.put, List.setIfInBounds_toArray, List.set_cons_zero, List.set_cons_succ]
    refine sw_run (v := .bool true) (by rfl) (by (go_simp; first | done | (simp; done) | (simp [*]; done) | omega | (simp; omega) | rfl)) ?_
    simp only [Act.put, List.setIfInBounds_toArray, List.set_cons_zero, List.set_cons_succ]
    refine sw_run (v := .bool true) (by rfl) (by (go_simp; first | done | (simp; done) | (simp [*]; done) | omega | (simp; omega) | rfl)) ?_
    simp only [Act.put, List.setIfInBounds_toArray, List.set_cons_zero, List.set_cons_succ]
    refine sw_run (v := .bool true) (by rfl) (by (go_simp; first | done | (simp; done) | (simp [*]; done) | omega | (simp; omega) | rfl)) ?_
    simp only [Act.put, List.setIfInBounds_toArray, List.set_cons_zero, List.set_cons_succ]
    refine sw_run (v := .bool true) (by rfl) (by (go_simp; first | done | (simp; done) | (simp [*]; done) | omega | (simp; omega) | rfl)) ?_
    simp only [Act.put, List.setIfInBounds_toArray, List.set_cons_zero, List.set_cons_succ]
    refine sw_skip (by rfl) ?_
    simp only [Act.put, List.setIfInBounds_toArray, List.set_cons_zero, List.set_cons_succ]
    refine sw_skip (by rfl) ?_
    simp only [Act.put, List.setIfInBounds_toArray, List.set_cons_zero, List.set_cons_succ]
    refine sw_skip (by rfl) ?_
    simp only [Act.put, List.setIfInBounds_toArray, List.set_cons_zero, List.set_cons_succ]
    refine sw_skip (by rfl) ?_
    simp only [Act.put, List.setIfInBounds_toArray, List.set_cons_zero, List.set_cons_succ]
    refine sw_skip (by rfl) ?_
    simp only [Act.put, List.setIfInBounds_toArray, List.set_cons_zero, List.set_cons_succ]
    refine sw_skip (by rfl) ?_
    simp only [Act.put, List.setIfInBounds_toArray, List.set_cons_zero, List.set_cons_succ]
    refine sw_run (v := .bool true) (by rfl) (by (go_simp; first | done | (simp; done) | (simp [*]; done) | omega | (simp; omega) | rfl)) ?_
    simp only [Act.put, List.setIfInBounds_toArray, List.set_cons_zero, List.set_cons_succ]
    refine sw_run (v := .bool true) (by rfl) (by (go_simp; first | done | (simp; done) | (simp [*]; done) | omega | (simp; omega) | rfl)) ?_
    simp only [Act.put, List.setIfInBounds_toArray, List.set_cons_zero, List.set_cons_succ]
    refine sw_run (v := .bool true) (by rfl) (by (go_simp; first | done | (simp; done) | (simp [*]; done) | omega | (simp; omega) | rfl)) ?_
    simp only [Act.put, List.setIfInBounds_toArray, List.set_cons_zero, List.set_cons_succ]
    refine sw_run (v := .bool true) (by rfl) (by (go_simp; first | done | (simp; done) | (simp [*]; done) | omega | (simp; omega) | rfl)) ?_
    simp only [Act.put, List.setIfInBounds_toArray, List.set_cons_zero, List.set_cons_succ]
    refine sw_run (v := .bool true) (by rfl) (by (go_simp; first | done | (simp; done) | (simp [*]; done) | omega | (simp; omega) | rfl)) ?_
    simp only [Act.put, List.setIfInBounds_toArray, List.set_cons_zero, List.set_cons_succ]
    refine sw_skip (by rfl) ?_
    simp only [Act.put, List.setIfInBounds_toArray, List.set_cons_zero, List.set_cons_succ]
    refine sw_skip (by rfl) ?_
    simp only [Act.put, List.setIfInBounds_toArray, List.set_cons_zero, List.set_cons_succ]
    refine sw_skip (by rfl) ?_
    simp only [Act.put, List.setIfInBounds_toArray, List.set_cons_zero, List.set_cons_succ]
    refine sw_skip (by rfl) ?_
    simp only [Act.put, List.setIfInBounds_toArray, List.set_cons_zero, List.set_cons_succ]
    refine sw_skip (by rfl) ?_
    simp only [Act.put, List.setIfInBounds_toArray, List.set_cons_zero, List.set_cons_succ]
    refine sw_skip (by rfl) ?_
    simp only [Act.put, List.setIfInBounds_toArray, List.set_cons_zero, List.set_cons_succ]
    refine sw_run (v := .bool true) (by rfl) (by (go_simp; first | done | (simp; done) | (simp [*]; done) | omega | (simp; omega) | rfl)) ?_
    simp only [Act.put, List.setIfInBounds_toArray, List.set_cons_zero, List.set_cons_succ]
    refine sw_run (v := .bool true) (by rfl) (by (go_simp; first | done | (simp; done) | (simp [*]; done) | omega | (simp; omega) | rfl)) ?_
    simp only [Act.put, List.setIfInBounds_toArray, List.set_cons_zero, List.set_cons_succ]
    refine sw_run (v := .bool true) (by rfl) (by (go_simp; first | done | (simp; done) | (simp [*]; done) | omega | (simp; omega) | rfl)) ?_
    simp only [Act.put, List.setIfInBounds_toArray, List.set_cons_zero, List.set_cons_succ]
    refine sw_run (v := .bool true) (by rfl) (by (go_simp; first | done | (simp; done) | (simp [*]; done) | omega | (simp; omega) | rfl)) ?_
    simp only [Act.put, List.setIfInBounds_toArray, List.set_cons_zero, List.set_cons_succ]
    refine sw_run (v := .bool false) (by rfl) (by (go_simp; first | done | (simp; done) | (simp [*]; done) | omega | (simp; omega) | rfl)) ?_
    simp only [Act.put, List.setIfInBounds_toArray, List.set_cons_zero, List.set_cons_succ]
    refine sw_run (v := .bool false) (by rfl) (by (go_simp; first | done | (simp; done) | (simp [*]; done) | omega | (simp; omega) | rfl)) ?_
    simp only [Act.put, List.setIfInBounds_toArray, List.set_cons_zero, List.set_cons_succ]
    refine sw_run (v := .int .u16 X2) (by rfl) (by (go_simp; first | done | (simp; done) | (simp [*]; done) | omega | (simp; omega) | rfl)) ?_
    simp only [Act.put, List.setIfInBounds_toArray, List.set_cons_zero, List.set_cons_succ]
    refine sw_run (v := .int .u32 X2) (by rfl) (by (go_simp; first | done | (simp; done) | (simp [*]; done) | omega | (simp; omega) | rfl)) ?_
    simp only [Act.put, List.setIfInBounds_toArray, List.set_cons_zero, List.set_cons_succ]
    refine sw_run (v := .int .u32 X2) (by rfl) (by (go_simp; first | done | (simp; done) | (simp [*]; done) | omega | (simp; omega) | rfl)) ?_
    simp only [Act.put, List.setIfInBounds_toArray, List.set_cons_zero, List.set_cons_succ]
    refine sw_run (v := .bool true) (by rfl) (by (go_simp; first | done | (simp; done) | (simp [*]; done) | omega | (simp; omega) | rfl)) ?_
    simp only [Act.put, List.setIfInBounds_toArray, List.set_cons_zero, List.set_cons_succ]
    refine sw_run (v := .bool true) (by rfl) (by (go_simp; first | done | (simp; done) | (simp [*]; done) | omega | (simp; omega) | rfl)) ?_
    simp only [Act.put, List.setIfInBounds_toArray, List.set_cons_zero, List.set_cons_succ]
    refine sw_run (v := .bool true) (by rfl) (by (go_simp; first | done | (simp; done) | (simp [*]; done) | omega | (simp; omega) | rfl)) ?_
    simp only [Act.put, List.setIfInBounds_toArray, List.set_cons_zero, List.set_cons_succ]
    refine sw_run (v := .bool true) (by rfl) (by (go_simp; first | done | (simp; done) | (simp [*]; done) | omega | (simp; omega) | rfl)) ?_
    simp only [Act.put, List.setIfInBounds_toArray, List.set_cons_zero, List.set_cons_succ]
    refine sw_run (v := .bool true) (by rfl) (by (go_simp; first | done | (simp; done) | (simp [*]; done) | omega | (simp; omega) | rfl)) ?_
    simp only [Act.put, List.setIfInBounds_toArray, List.set_cons_zero, List.set_cons_succ]
    refine sw_run (v := .bool false) (by rfl) (by (go_simp; first | done | (simp; done) | (simp [*]; done) | omega | (simp; omega) | rfl)) ?_
    simp only [Act.put, List.setIfInBounds_toArray, List.set_cons_zero, List.set_cons_succ]
    refine sw_run (v := .bool false) (by rfl) (by (go_simp; first | done | (simp; done) | (simp [*]; done) | omega | (simp; omega) | rfl)) ?_
    simp only [Act.put, List.setIfInBounds_toArray, List.set_cons_zero, List.set_cons_succ]
    refine sw_run (v := .int .u32 X4) (by rfl) (by (go_simp; first | done | (simp; done) | (simp [*]; done) | omega | (simp; omega) | rfl)) ?_
    simp only [Act.put, List.setIfInBounds_toArray, List.set_cons_zero, List.set_cons_succ]
    refine sw_run (v := .int .u32 X4) (by rfl) (by (go_simp; first | done | (simp; done) | (simp [*]; done) | omega | (simp; omega) | rfl)) ?_
    simp only [Act.put, List.setIfInBounds_toArray, List.set_cons_zero, List.set_cons_succ]
    refine sw_run (v := .bool true) (by rfl) (by (go_simp; first | done | (simp; done) | (simp [*]; done) | omega | (simp; omega) | rfl)) ?_
    simp only [Act.put, List.setIfInBounds_toArray, List.set_cons_zero, List.set_cons_succ]
    refine sw_run (v := .bool true) (by rfl) (by (go_simp; first | done | (simp; done) | (simp [*]; done) | omega | (simp; omega) | rfl)) ?_
    simp only [Act.put, List.setIfInBounds_toArray, List.set_cons_zero, List.set_cons_succ]
    refine sw_run (v := .bool true) (by rfl) (by (go_simp; first | done | (simp; done) | (simp [*]; done) | omega | (simp; omega) | rfl)) ?_
    simp only [Act.put, List.setIfInBounds_toArray, List.set_cons_zero, List.set_cons_succ]
    refine sw_run (v := .bool true) (by rfl) (by (go_simp; first | done | (simp; done) | (simp [*]; done) | omega | (simp; omega) | rfl)) ?_
    simp only [Act.put, List.setIfInBounds_toArray, List.set_cons_zero, List.set_cons_succ]
    refine sw_nil ?_
    go_wp2 <;> (go_ret; exact ⟨rfl, HB12.out⟩)
  · clear F2 F4 hN0 hN1 hp0 hp1 hl0 hi hz0 hz1 hz2 HBB
    have hw32 : IntKind.u32.wrap X2 = X2 := by simp [IntKind.wrap, IntKind.bits, IntKind.signed]; omega
    clear h1 h2
    dsimp only
    rename_i hK
    refine hK _ _ ?_
    refine SW.out ?_
    refine sw_run (v := .bool true) (by rfl) (by (go_simp; first | done | (simp; done) | (simp [*]; done) | omega | (simp; omega) | rfl)) ?_
    simp only [Act.put, List.setIfInBounds_toArray, List.set_cons_zero, List.set_cons_succ]
    refine sw_run (v := .bool true) (by rfl) (by (go_simp; first | done | (simp; done) | (simp [*]; done) | omega | (simp; omega) | rfl)) ?_
    simp only [Act.put, List.setIfInBounds_toArray, List.set_cons_zero, List.set_cons_succ]
    refine sw_run (v := .bool true) (by rfl) (by (go_simp; first | done | (simp; done) | (simp [*]; done) | omega | (simp; omega) | rfl)) ?_
    simp only [Act.put, List.setIfInBounds_toArray, List.set_cons_zero, List.set_cons_succ]
    refine sw_run (v := .bool true) (by rfl) (by (go_simp; first | done | (simp; done) | (simp [*]; done) | omega | (simp; omega) | rfl)) ?_
    simp only [Act.put, List.setIfInBounds_toArray, List.set_cons_zero, List.set_cons_succ]
    refine sw_run (v := va) (by rfl) (by (go_simp; first | done | (simp; done) | (simp [*]; done) | omega | (simp; omega) | rfl)) ?_
    simp only [Act.put, List.setIfInBounds_toArray, List.set_cons_zero, List.set_cons_succ]
    refine sw_run (v := .string S2) (by rfl) (by exact ex13n r12) ?_
    simp only [Act.put, List.setIfInBounds_toArray, List.set_cons_zero, List.set_cons_succ]
    refine sw_run (v := .string S2) (by rfl) (by (go_simp; first | done | (simp; done) | (simp [*]; done) | omega | (simp; omega) | rfl)) ?_
    simp only [Act.put, List.setIfInBounds_toArray, List.set_cons_zero, List.set_cons_succ]
    refine sw_run (v := .bool true) (by rfl) (by (go_simp; first | done | (simp; done) | (simp [*]; done) | omega | (simp; omega) | rfl)) ?_
    simp only [Act.put, List.setIfInBounds_toArray, List.set_cons_zero, List.set_cons_succ]
    refine sw_run (v := .bool true) (by rfl) (by (go_simp; first | done | (simp; done) | (simp [*]; done) | omega | (simp; omega) | rfl)) ?_
    simp only [Act.put, List.setIfInBounds_toArray, List.set_cons_zero, List.set_cons_succ]
    refine sw_run (v := .bool true) (by rfl) (by (go_simp; first | done | (simp; done) | (simp [*]; done) | omega | (simp; omega) | rfl)) ?_
    simp only [Act.put, List.setIfInBounds_toArray, List.set_cons_zero, List.set_cons_succ]
    refine sw_run (v := vq) (by rfl) (by (go_simp; first | done | (simp; done) | (simp [*]; done) | omega | (simp; omega) | rfl)) ?_
    simp only [Act.put, List.setIfInBounds_toArray, List.set_cons_zero, List.set_cons_succ]
    refine sw_run (v := .string S4) (by rfl) (by exact ex13n r13) ?_
    simp only [Act.put, List.setIfInBounds_toArray, List.set_cons_zero, List.set_cons_succ]
    refine sw_run (v := .string S4) (by rfl) (by (go_simp; first | done | (simp; done) | (simp [*]; done) | omega | (simp; omega) | rfl)) ?_
    simp only [Act.put, List.setIfInBounds_toArray, List.set_cons_zero, List.set_cons_succ]
    refine sw_run (v := .bool true) (by rfl) (by (go_simp; first | done | (simp; done) | (simp [*]; done) | omega | (simp; omega) | rfl)) ?_
    simp only [Act.put, List.setIfInBounds_toArray, List.set_cons_zero, List.set_cons_succ]
    refine sw_run (v := .bool true) (by rfl) (by (go_simp; first | done | (simp; done) | (simp [*]; done) | omega | (simp; omega) | rfl)) ?_
    simp only [Act.put, List.setIfInBounds_toArray, List.set_cons_zero, List.set_cons_succ]
    refine sw_run (v := .bool true) (by rfl) (by (go_simp; first | done | (simp; done) | (simp [*]; done) | omega | (simp; omega) | rfl)) ?_
    simp only [Act.put, List.setIfInBounds_toArray, List.set_cons_zero, List.set_cons_succ]
    refine sw_run (v := .int .i64 0) (by rfl) (by (go_simp; first | done | (simp; done) | (simp [*]; done) | omega | (simp; omega) | rfl)) ?_
    simp only [Act.put, List.setIfInBounds_toArray, List.set_cons_zero, List.set_cons_succ]
    refine sw_run (v := .bool true) (by rfl) (by (go_simp; first | done | (simp; done) | (simp [*]; done) | omega | (simp; omega) | rfl)) ?_
    simp only [Act.put, List.setIfInBounds_toArray, List.set_cons_zero, List.set_cons_succ]
    refine sw_run (v := .bool true) (by rfl) (by (go_simp; first | done | (simp; done) | (simp [*]; done) | omega | (simp; omega) | rfl)) ?_
    simp only [Act.put, List.setIfInBounds_toArray, List.set_cons_zero, List.set_cons_succ]
    refine sw_run (v := .bool true) (by rfl) (by (go_simp; first | done | (simp; done) | (simp [*]; done) | omega | (simp; omega) | rfl)) ?_
    simp only [Act.put, List.setIfInBounds_toArray, List.set_cons_zero, List.set_cons_succ]
    refine sw_run (v := .bool true) (by rfl) (by (go_simp; first | done | (simp; done) | (simp [*]; done) | omega | (simp; omega) | rfl)) ?_
    simp only [Act.put, List.setIfInBounds_toArray, List.set_cons_zero, List.set_cons_succ]
    refine sw_run (v := .bool true) (by rfl) (by (go_simp; first | done | (simp; done) | (simp [*]; done) | omega | (simp; omega) | rfl)) ?_
    simp only [Act.put, List.setIfInBounds_toArray, List.set_cons_zero, List.set_cons_succ]
    refine sw_run (v := .int .i64 30) (by rfl) (by (go_simp; first | done | (simp; done) | (simp [*]; done) | omega | (simp; omega) | rfl)) ?_
    simp only [Act.put, List.setIfInBounds_toArray, List.set_cons_zero, List.set_cons_succ]
    refine sw_run (v := .bool false) (by rfl) (by (go_simp; first | done | (simp; done) | (simp [*]; done) | omega | (simp; omega) | rfl)) ?_
    simp only [Act.put, List.setIfInBounds_toArray, List.set_cons_zero, List.set_cons_succ]
    refine sw_run (v := .bool false) (by rfl) (by (go_simp; first | done | (simp; done) | (simp [*]; done) | omega | (simp; omega) | rfl)) ?_
    simp only [Act.put, List.setIfInBounds_toArray, List.set_cons_zero, List.set_cons_succ]
    refine sw_run (v := .bool true) (by rfl) (by (go_simp; first | done | (simp; done) | (simp [*]; done) | omega | (simp; omega) | rfl)) ?_
    simp only [Act.put, List.setIfInBounds_toArray, List.set_cons_zero, List.set_cons_succ]
    refine sw_run (v := .bool true) (by rfl) (by (go_simp; first | done | (simp; done) | (simp [*]; done) | omega | (simp; omega) | rfl)) ?_
    simp only [Act.put, List.setIfInBounds_toArray, List.set_cons_zero, List.set_cons_succ]
    refine sw_run (v := .bool true) (by rfl) (by (go_simp; first | done | (simp; done) | (simp [*]; done) | omega | (simp; omega) | rfl)) ?_
    simp only [Act.put, List.setIfInBounds_toArray, List.set_cons_zero, List.set_cons_succ]
    refine sw_run (v := .bool true) (by rfl) (by (go_simp; first | done | (simp; done) | (simp [*]; done) | omega | (simp; omega) | rfl)) ?_
    simp only [Act.put, List.setIfInBounds_toArray, List.set_cons_zero, List.set_cons_succ]
    refine sw_run (v := .bool true) (by rfl) (by (go_simp; first | done | (simp; done) | (simp [*]; done) | omega | (simp; omega) | rfl)) ?_
    simp only [Act.put, List.setIfInBounds_toArray, List.set_cons_zero, List.set_cons_succ]
    refine sw_skip (by rfl) ?_
    simp only [Act.put, List.setIfInBounds_toArray, List.set_cons_zero, List.set_cons_succ]
    refine sw_skip (by rfl) ?_
    simp only [Act.put, List.setIfInBounds_toArray, List.set_cons_zero, List.set_cons_succ]
    refine sw_skip (by rfl) ?_
    simp only [Act.put, List.setIfInBounds_toArray, List.set_cons_zero, List.set_cons_succ]
    refine sw_skip (by rfl) ?_
    simp only [Act.put, List.setIfInBounds_toArray, List.set_cons_zero, List.set_cons_succ]
    refine sw_skip (by rfl) ?_
    simp only [Act.put, List.setIfInBounds_toArray, List.set_cons_zero, List.set_cons_succ]
    refine sw_skip (by rfl) ?_
    simp only [Act.put, List.setIfInBounds_toArray, List.set_cons_zero, List.set_cons_succ]
    refine sw_run (v := .bool true) (by rfl) (by (go_simp; first | done | (simp; done) | (simp [*]; done) | omega | (simp; omega) | rfl)) ?_
    simp only [Act.put, List.setIfInBounds_toArray, List.set_cons_zero, List.set_cons_succ]
    refine sw_run (v := .bool true) (by rfl) (by (go_simp; first | done | (simp; done) | (simp [*]; done) | omega | (simp; omega) | rfl)) ?_
    simp only [Act.put, List.setIfInBounds_toArray, List.set_cons_zero, List.set_cons_succ]
    refine sw_run (v := .bool true) (by rfl) (by (go_simp; first | done | (simp; done) | (simp [*]; done) | omega | (simp; omega) | rfl)) ?_
    simp only [Act.put, List.setIfInBounds_toArray, List.set_cons_zero, List.set_cons_succ]
    refine sw_run (v := .bool false) (by rfl) (by (go_simp; first | done | (simp; done) | (simp [*]; done) | omega | (simp; omega) | rfl)) ?_
    simp only [Act.put, List.setIfInBounds_toArray, List.set_cons_zero, List.set_cons_succ]
    refine sw_run (v := .bool false) (by rfl) (by (go_simp; first | done | (simp; done) | (simp [*]; done) | omega | (simp; omega) | rfl)) ?_
    simp only [Act.put, List.setIfInBounds_toArray, List.set_cons_zero, List.set_cons_succ]
    refine sw_run (v := .int .i64 30) (by rfl) (by (go_simp; first | done | (simp; done) | (simp [*]; done) | omega | (simp; omega) | rfl)) ?_
    simp only [Act.put, List.setIfInBounds_toArray, List.set_cons_zero, List.set_cons_succ]
    refine sw_run (v := .bool true) (by rfl) (by (go_simp; first | done | (simp; done) | (simp [*]; done) | omega | (simp; omega) | rfl)) ?_
    simp only [Act.put, List.setIfInBounds_toArray, List.set_cons_zero, List.set_cons_succ]
    refine sw_run (v := .bool true) (by rfl) (by (go_simp; first | done | (simp; done) | (simp [*]; done) | omega | (simp; omega) | rfl)) ?_
    simp only [Act.put, List.setIfInBounds_toArray, List.set_cons_zero, List.set_cons_succ]
    refine sw_run (v := .int .u32 0) (by rfl) (by (go_simp; first | done | (simp; done) | (simp [*]; done) | omega | (simp; omega) | rfl)) ?_
    simp only [Act.put, List.setIfInBounds_toArray, List.set_cons_zero, List.set_cons_succ]
    refine sw_run (v := .bool true) (by rfl) (by (go_simp; first | done | (simp; done) | (simp [*]; done) | omega | (simp; omega) | rfl)) ?_
    simp only [Act.put, List.setIfInBounds_toArray, List.set_cons_zero, List.set_cons_succ]
    refine sw_run (v := .bool true) (by rfl) (by (go_simp; first | done | (simp; done) | (simp [*]; done) | omega | (simp; omega) | rfl)) ?_
    simp only [Act.put, List.setIfInBounds_toArray, List.set_cons_zero, List.set_cons_succ]
    refine sw_run (v := .bool true) (by rfl) (by (go_simp; first | done | (simp; done) | (simp [*]; done) | omega | (simp; omega) | rfl)) ?_
    simp only [Act.put, List.setIfInBounds_toArray, List.set_cons_zero, List.set_cons_succ]
    refine sw_run (v := .bool true) (by rfl) (by (go_simp; first | done | (simp; done) | (simp [*]; done) | omega | (simp; omega) | rfl)) ?_
    simp only [Act.put, List.setIfInBounds_toArray, List.set_cons_zero, List.set_cons_succ]
    refine sw_run (v := .bool true) (by rfl) (by (go_simp; first | done | (simp; done) | (simp [*]; done) | omega | (simp; omega) | rfl)) ?_
    simp only [Act.put, List.setIfInBounds_toArray, List.set_cons_zero, List.set_cons_succ]
    refine sw_run (v := .bool true) (by rfl) (by (go_simp; first | done | (simp; done) | (simp [*]; done) | omega | (simp; omega) | rfl)) ?_
    simp only [Act.put, List.setIfInBounds_toArray, List.set_cons_zero, List.set_cons_succ]
    refine sw_run (v := .bool false) (by rfl) (by (go_simp; first | done | (simp; done) | (simp [*]; done) | omega | (simp; omega) | rfl)) ?_
    simp only [Act.put, List.setIfInBounds_toArray, List.set_cons_zero, List.set_cons_succ]
    refine sw_run (v := .bool false) (by rfl) (by (go_simp; first | done | (simp; done) | (simp [*]; done) | omega | (simp; omega) | rfl)) ?_
    simp only [Act.put, List.setIfInBounds_toArray, List.set_cons_zero, List.set_cons_succ]
    refine sw_run (v := .int .u16 X2) (by rfl) (by (go_simp; first | done | (simp; done) | (simp [*]; done) | omega | (simp; omega) | rfl)) ?_
    simp only [Act.put, List.setIfInBounds_toArray, List.set_cons_zero, List.set_cons_succ]
    refine sw_run (v := .int .u32 X2) (by rfl) (by (go_simp; first | done | (simp; done) | (simp [*]; done) | omega | (simp; omega) | rfl)) ?_
    simp only [Act.put, List.setIfInBounds_toArray, List.set_cons_zero, List.set_cons_succ]
    refine sw_run (v := .int .u32 X2) (by rfl) (by (go_simp; first | done | (simp; done) | (simp [*]; done) | omega | (simp; omega) | rfl)) ?_
    simp only [Act.put, List.setIfInBounds_toArray, List.set_cons_zero, List.set_cons_succ]
    refine sw_run (v := .bool true) (by rfl) (by (go_simp; first | done | (simp; done) | (simp [*]; done) | omega | (simp; omega) | rfl)) ?_
    simp only [Act.put, List.setIfInBounds_toArray, List.set_cons_zero, List.set_cons_succ]
    refine sw_run (v := .bool true) (by rfl) (by (go_simp; first | done | (simp; done) | (simp [*]; done) | omega | (simp; omega) | rfl)) ?_
    simp only [Act.put, List.setIfInBounds_toArray, List.set_cons_zero, List.set_cons_succ]
    refine sw_run (v := .bool true) (by rfl) (by (go_simp; first | done | (simp; done) | (simp [*]; done) | omega | (simp; omega) | rfl)) ?_
    simp only [Act.put, List.setIfInBounds_toArray, List.set_cons_zero, List.set_cons_succ]
    refine sw_run (v := .bool true) (by rfl) (by (go_simp; first | done | (simp; done) | (simp [*]; done) | omega | (simp; omega) | rfl)) ?_
    simp only [Act.put, List.setIfInBounds_toArray, List.set_cons_zero, List.set_cons_succ]
    refine sw_run (v := .bool false) (by rfl) (by (go_simp; first | done | (simp; done) | (simp [*]; done) | omega | (simp; omega) | rfl)) ?_
    simp only [Act.put, List.setIfInBounds_toArray, List.set_cons_zero, List.set_cons_succ]
    refine sw_run (v := .bool true) (by rfl) (by (go_simp; first | done | (simp; done) | (simp [*]; done) | omega | (simp; omega) | rfl)) ?_
    simp only [Act.put, List.setIfInBounds_toArray, List.set_cons_zero, List.set_cons_succ]
    refine sw_run (v := .bool true) (by rfl) (by (go_simp; first | done | (simp; done) | (simp [*]; done) | omega | (simp; omega) | rfl)) ?_
    simp only [Act.put, List.setIfInBounds_toArray, List.set_cons_zero, List.set_cons_succ]
    refine sw_skip (by rfl) ?_
    simp only [Act.put, List.setIfInBounds_toArray, List.set_cons_zero, List.set_cons_succ]
    refine sw_skip (by rfl) ?_
    simp only [Act.put, List.setIfInBounds_toArray, List.set_cons_zero, List.set_cons_succ]
    refine sw_skip (by rfl) ?_
    simp only [Act.put, List.setIfInBounds_toArray, List.set_cons_zero, List.set_cons_succ]
    refine sw_run (v := .bool true) (by rfl) (by (go_simp; first | done | (simp; done) | (simp [*]; done) | omega | (simp; omega) | rfl)) ?_
    simp only [Act.put, List.setIfInBounds_toArray, List.set_cons_zero, List.set_cons_succ]
    refine sw_run (v := .bool true) (by rfl) (by (go_simp; first | done | (simp; done) | (simp [*]; done) | omega | (simp; omega) | rfl)) ?_
    simp only [Act.put, List.setIfInBounds_toArray, List.set_cons_zero, List.set_cons_succ]
    refine sw_run (v := .bool true) (by rfl) (by (go_simp; first | done | (simp; done) | (simp [*]; done) | omega | (simp; omega) | rfl)) ?_
    simp only [Act.put, List.setIfInBounds_toArray, List.set_cons_zero, List.set_cons_succ]
    refine sw_nil ?_
    go_wp2 <;> (go_ret; exact ⟨rfl, HB12.out⟩)
  · exact absurd (HG24.out rfl) (by decide)
  · clear F2 F4 hN0 hN1 hp0 hp1 hl0 hi hz0 hz1 hz2 HBB
    go_wp2 <;> (go_ret; exact ⟨rfl, HB12.out⟩)
end Go.Proofs.YthbdmdafldombaaDoor
