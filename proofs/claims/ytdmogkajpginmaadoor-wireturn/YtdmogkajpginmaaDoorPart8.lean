/-
  Part 8 of the proof: 1 texts, one behind the other.
-/
import Derived.Test.YtdmogkajpginmaaDoorPart4
import Derived.Test.YtdmogkajpginmaaDoorPart6
import Derived.Test.YtdmogkajpginmaaDoorPart7
/-
  The law WireTurn.
-/
namespace Go.Proofs.YtdmogkajpginmaaDoor
open Go.RowKit
set_option linter.unusedSimpArgs false
set_option linter.unusedVariables false

theorem gh_quietT {P : Program} {o : Oper} {a' : Act} {w' : World} {K : Act → World → Prop} {Q' : Exit → Act → World → Prop} {v : Value} (hr : (execOp a'.eval o).run P w' = .ok (.value v) w') (hK : K (a'.put o.dst v) w') : o.wp P a' w' K Q' := by
  unfold Oper.wp Oper.upon
  rw [hr]
  exact hK
theorem gh_sameT {x y : Array Value} {d s : Nat} (h : x.toList.eraseIdx d = y.toList.eraseIdx d) (hs : s ≠ d) : x[s]? = y[s]? := by
  have := erase_get _ _ d s h hs
  simpa using this
theorem Slt.oldT {l : List Oper} {a A : Act} {lp : Array Bool} {a' : Act} (h : Slt l a A lp a') (s : Nat) (hs : ∀ o ∈ l, o.dst ≠ some s) : a'.tmps[s]? = a.tmps[s]? := h.oth s (fun k o hk _ => hs o (List.mem_of_getElem? hk))
theorem wl_nilT {P : Program} {ops : Array Oper} {Q : Exit → Act → World → Prop} {a : Act} {w : World} (h : wpList P ops Q [] a w) : Q .normal a w := h
/-- What is known in the region of the turned bit. -/
structure R8 (E E2 : World → Prop) (f5 f11 : Bool) (X : World) : Prop where
  e : f11 = false → E X
  a : f11 = true → E2 X
  d : f11 = true → f5 = true
/-- What is known in a region that makes two rows. -/
structure R10 (E : World → Prop) (E1 E2 : Nat → World → Prop) (f3 f8 : Bool) (g : Nat × Nat) (X : World) : Prop where
  e : E X
  a : f3 = true → E1 g.1 X
  b : f8 = true → E2 g.2 X
theorem exT {P : Program} {w : World} {s : Sem Value} {v : Value} (h : s.run P w = .ok v w) : (do pure (Next.value (← s)) : Sem Next).run P w = .ok (.value v) w := by
  simp only [Sem.run_bind, h, Sem.run_pure, Result.andThen_ok]
set_option maxRecDepth 100000 in
set_option maxHeartbeats 32000000 in
theorem wireTurn_any (v : Value) (l : List Nat) (at_ bit cut : Int) (w : World) (hA : RowA w 1 v l.length (l.map cB)) (hv : RwX cB w v l) (hl : l.length * 1 ≤ 140737488351232) (hx : ∀ b ∈ l, b < 256) (a0 : -9223372036854775808 ≤ at_) (a1 : at_ ≤ 9223372036854775807) (b0 : -9223372036854775808 ≤ bit) (b1 : bit ≤ 9223372036854775807) (c0 : -9223372036854775808 ≤ cut) (c1 : cut ≤ 9223372036854775807) (hT : Hf w) :
    Calls Tryd.prog 4 #[v, .int .i64 at_, .int .i64 bit, .int .i64 cut] w fun e w' => e = .returned (.bool true) ∧ Below w.heap.size w w' := by
  obtain ⟨i0, hi, hz0, hz1, hz2⟩ := info13 Tryd.infoB13
  obtain ⟨vo, vc0, hvv, hvc, -⟩ := id hv
  have HV := hid13 hA
  have HVx := hid13 hv
  have HX := hid13 hx
  have HT := hid13 hT
  have HL : Hid (l.length ≤ 9223372036854775806 ∧ l.length ≤ vc0) := ⟨by omega, hvc⟩
  subst hvv
  clear hA hv hl hx hT hvc a0 a1 b0 b1 c0 c1
  go_enter Tryd.func4, Tryd.ntmps4
  go_wp2_with fail
  refine (known13 _ HT.out).mono ?_
  rintro e w2 ⟨rfl, hb2⟩
  have HB2 := hid13 hb2
  clear hb2
  obtain ⟨S0, hS0⟩ : ∃ S : Int, S = uI (crS l) := ⟨_, rfl⟩
  have KS : Hid (∀ (W : World) (N : Nat), Below w.heap.size w W → W.cell? ⟨N, 0, none⟩ = some (.slice vo l.length vc0) → Calls Tryd.prog 9 #[.slice (some ⟨N, 0, none⟩) 1 1] W fun e w' => e = .returned (.int .u32 S0) ∧ w' = W) := by
    intro W N hB hc
    rw [hS0]
    exact sum_one hc (HVx.out.below hB) HL.out.1 HX.out (HT.out.below hB)
  by_cases h0 : (l.length : Int) = 0 ∨ (65536 : Int) < (l.length : Int)
  · have q3 := bl1 w2 (.cells #[.slice vo l.length vc0, .slice none 0 0] 24)
    have HB3 := hid13 (keepb q3 HB2.out)
    have K3 := sum_two (W := w2.alloc (.cells #[.slice vo l.length vc0, .slice none 0 0] 24)) (N := w2.heap.size) (v := .slice vo l.length vc0) (u := .slice none 0 0) (l := l) (m := []) (by simp [go_sem]) (by simp [go_sem]) (HVx.out.below HB3.out) ⟨_, _, rfl, Nat.le_refl _, .inl rfl⟩ HL.out.1 (by decide) HX.out (by intro b hb; cases hb) (HT.out.below HB3.out)
    rw [List.append_nil, ← hS0] at K3
    clear q3
    have fin : ∀ (W : World), Below w.heap.size w W → Calls Tryd.prog 9 #[.slice (some ⟨W.heap.size, 0, none⟩) 1 1] (W.alloc (.cells #[.slice vo l.length vc0] 24)) fun e w' => e = .returned (.int .u32 S0) ∧ w' = W.alloc (.cells #[.slice vo l.length vc0] 24) := fun W hW => KS.out _ _ (keepb (bl1 W _) hW) (by simp [go_sem])
    have HFn := hid13 fin
    clear fin hS0
    by_cases h1 : (l.length : Int) = 0
    · obtain rfl : l = [] := List.length_eq_zero_iff.1 (by omega)
      simp only [List.length_nil] at K3 HFn HB3 ⊢
      clear h0 h1
      go_wp2_with fail
      refine K3.mono ?_
      rintro e w4 ⟨rfl, hw4⟩
      rw [← hw4] at HB3
      have K5 := HFn.out w4 HB3.out
      have HB5 := hid13 (keepb (bl1 w4 (.cells #[.slice vo 0 vc0] 24)) HB3.out)
      clear K3 hw4
      go_wp2_with fail
      refine K5.mono ?_
      rintro e w6 ⟨rfl, hw6⟩
      rw [← hw6] at HB5
      clear K5 hw6
      go_wp2
      go_ret
      exact ⟨rfl, HB5.out⟩
    · have h2 : (65536 : Int) < (l.length : Int) := by omega
      have hnl : ¬ l = [] := by rintro rfl; exact h1 rfl
      clear h0
      go_wp2_with fail
      refine K3.mono ?_
      rintro e w4 ⟨rfl, hw4⟩
      rw [← hw4] at HB3
      have K5 := HFn.out w4 HB3.out
      have HB5 := hid13 (keepb (bl1 w4 (.cells #[.slice vo l.length vc0] 24)) HB3.out)
      clear K3 hw4
      go_wp2_with fail
      refine K5.mono ?_
      rintro e w6 ⟨rfl, hw6⟩
      rw [← hw6] at HB5
      clear K5 hw6
      go_wp2
      go_ret
      exact ⟨rfl, HB5.out⟩
  have h1 : ¬ (l.length : Int) = 0 := fun h => h0 (.inl h)
  have h2 : ¬ (65536 : Int) < (l.length : Int) := fun h => h0 (.inr h)
  have hnl : ¬ l = [] := by rintro rfl; exact h1 rfl
  have HLl : Hid (0 < l.length ∧ l.length ≤ 65536) := ⟨by omega, by omega⟩
  have q3 := bl1 w2 (.cells #[.slice vo l.length vc0] 24)
  have HB3 := hid13 (keepb q3 HB2.out)
  have K3 := KS.out _ w2.heap.size HB3.out (by simp [go_sem])
  have HS0 := hid13 hS0
  clear h0 q3 hS0
  go_wp2_with fail
  · exfalso
    first
    | omega
    | (rename_i hq _ _; rcases hq with q | q; exact hnl q; omega)
    | (rename_i hq; rcases hq with q | q; exact hnl q; omega)
    | (simp_all; omega)
    | (simp_all)
  refine K3.mono ?_
  rintro e w4 ⟨rfl, hw4⟩
  rw [← hw4] at HB3
  have q5 := bl1 w4 (.cells #[] 5)
  have HR5 := hid13 ((HV.out.below HB3.out).below q5)
  have HO5 : Hid ((w4.alloc (.cells #[] 5)).ownsRow w4.heap.size 5 1 (.slice (some ⟨w4.heap.size, 0, none⟩) 0 0) 0 []) := World.ownsRow_made w4 #[] 0 (Nat.le_refl _) (by unfold maxLen; omega) (by simp)
  clear K3 hw4
  go_wp2_with (at_builtin; apply stopHere9)
  refine (show wpList _ _ _ _ _ _ from ?_)
  refine wpList_append_rowA rfl _ _ 24 rfl w4.heap.size 5 i0 (.int .u8 0) 1 1 Tryd.underlying24 hi hz0 hz1 hz2 rfl (by decide) _ 0 [] rfl HO5.out _ l.length (l.map cB) rfl HR5.out (cB_one l) (by have := HLl.out; unfold maxLen; omega) (by have := HLl.out; omega) q5.size ?_
  intro ao6 c6 w6 hO6 hg6
  rw [Nat.zero_add, List.nil_append] at hO6
  rw [Nat.zero_add]
  have hB6 : Below w4.heap.size w4 w6 := q5.grown hg6 q5.size (fun z hz => (HO5.out.lt z hz).1)
  have HB6 := hid13 (keepb hB6 HB3.out)
  obtain ⟨gc, cg, hcf, -, -⟩ := hO6.form HLl.out.1
  injection hcf with e1 e2 e3
  subst e1 e3
  have HO6 := hid13 hO6
  have HBs : Hid (w.heap.size ≤ w4.heap.size) := HB3.out.size
  obtain ⟨bs, hbs⟩ : ∃ b, b = w4.heap.size := ⟨_, rfl⟩
  rw [← hbs] at HO6 HBs
  have W1 := wthT_in at_ (l.length : Int) (by have := HLl.out; omega)
  obtain ⟨i, hi1⟩ : ∃ i : Nat, wthT at_ (l.length : Int) = (i : Int) := ⟨_, (Int.toNat_of_nonneg W1.1).symm⟩
  have W2 := wthT_in bit 8 (by omega)
  obtain ⟨t, ht1⟩ : ∃ t : Nat, wthT bit 8 = (t : Int) := ⟨_, (Int.toNat_of_nonneg W2.1).symm⟩
  have W3 := wthT_in cut ((l.length : Int) + 1) (by have := HLl.out; omega)
  obtain ⟨k, hk1⟩ : ∃ k : Nat, wthT cut ((l.length : Int) + 1) = (k : Int) := ⟨_, (Int.toNat_of_nonneg W3.1).symm⟩
  rw [hi1] at W1
  rw [ht1] at W2
  rw [hk1] at W3
  have KI := fun W => within13T at_ (l.length : Int) (by have := HLl.out; omega) (by have := HLl.out; omega) W
  have KT := fun W => within13T bit 8 (by omega) (by omega) W
  have KK := fun W => within13T cut ((l.length : Int) + 1) (by have := HLl.out; omega) (by have := HLl.out; omega) W
  rw [hi1] at KI
  rw [ht1] at KT
  rw [hk1] at KK
  have HKT := hid13 KT
  have HKK := hid13 KK
  have hik : i < l.length := by omega
  have hkl : k ≤ l.length := by omega
  have htl : t < 8 := by omega
  have hii : (i : Int) < (l.length : Int) := by omega
  obtain ⟨y0, hy0⟩ : ∃ y, l[i]? = some y := ⟨_, List.getElem?_eq_getElem hik⟩
  obtain ⟨Z, hZ⟩ : ∃ Z : Nat, Z = 2 ^ t := ⟨_, rfl⟩
  have ht8 := turn8 y0 t (HX.out y0 (List.mem_of_getElem? hy0)) htl
  have hsh := sh8u t htl
  rw [← hZ] at ht8 hsh
  obtain ⟨y, hy⟩ : ∃ y : Nat, y = y0 ^^^ Z := ⟨_, rfl⟩
  rw [← hy] at ht8
  have hxo := ht8.1
  have hap := set_apart l i y0 y hy0
  have HNe : Hid (crS (l.set i y) ≠ crS l) := by
    show _ ≠ _
    rw [hap.2]
    conv => rhs; rw [hap.1]
    exact crS_turn _ _ y y0 ht8.2.1 (HX.out y0 (List.mem_of_getElem? hy0)) ht8.2.2
  have HXc : Hid (∀ b ∈ l.set i y, b < 256) := by
    intro b hb
    rcases List.mem_or_eq_of_mem_set hb with q | q
    · exact HX.out b q
    · rw [q]; exact ht8.2.1
  have HI : Hid (l[i]? = some y0 ∧ i < l.length ∧ k ≤ l.length) := ⟨hy0, hik, hkl⟩
  have hk1i : (k : Int) ≤ (l.length : Int) := by omega
  have mk1 : IntKind.i64.wrap ((l.length : Int) + 1) = (l.length : Int) + 1 := by rw [IntKind.wrap_i64]; have := HLl.out; omega
  clear hO6 hg6 hB6 q5 HR5 HO5 e2 hbs hi1 ht1 hk1 W1 W2 W3 KT KK hik hkl htl hy0 hZ ht8 hy hap HV
  go_wp2_with (go_at_call 12; refine (KI _).mono ?_; rintro e w7 ⟨rfl, hw7⟩; replace hw7 := hw7.symm; subst hw7)
  refine gh_region (γ := Unit) (qpOk 12 12 (by decide) (fun N => by kernel_rfl) (by kernel_rfl) (by kernel_rfl) (by kernel_rfl) (by kernel_rfl)) (by kernel_rfl) (by kernel_rfl) [some 42, some 43, some 44, some 45, some 46, some 47, some 48, some 49, some 50, some 51, some 52, none] (fun g => [.slice (some ⟨gc, 0, none⟩) l.length c6, .int .i64 (i : Int), .slice (some ⟨gc, 0, none⟩) l.length c6, .int .i64 (i : Int), .pointer (some ⟨gc, i, none⟩), .int .u8 (y0 : Int), .int .i64 bit, .int .i64 (t : Int), .int .u8 (Z : Int), .int .u8 (y : Int), .pointer (some ⟨gc, i, none⟩), undef]) (by kernel_rfl) (by simp) (fun lp g X => R8 (fun X => X.ownsRow bs 5 1 (.slice (some ⟨gc, 0, none⟩) l.length c6) l.length (l.map cB) ∧ Below w.heap.size w X) (fun X => X.ownsRow bs 5 1 (.slice (some ⟨gc, 0, none⟩) l.length c6) l.length ((l.set i y).map cB) ∧ Below w.heap.size w X) (lp.getD 5 false) (lp.getD 11 false) X) () ⟨fun _ => ⟨own_b13 (below_drewN (Below.refl _ _) 1) HO6.out, HB6.out.drew⟩, fun h => (by simp at h), fun h => (by simp at h)⟩ ?step8 ?fin8
  case step8 =>
    intro q o lp g w' a' ho hsz hun hdep hR hS K Q' hK
    have hfl : ∀ j, j ≠ q → (lp.setIfInBounds q true).getD j false = lp.getD j false := fun j hj => by rw [Array.getD_eq_getD_getElem?, Array.getD_eq_getD_getElem?, Array.getElem?_setIfInBounds_ne (by omega)]
    have hq : q < 12 := (List.getElem?_eq_some_iff.mp ho).1
    match q, ho, hun, hdep, hK, hfl, hq with
    | 0, ho, hun, hdep, hK, hfl, _ =>
      obtain rfl := Option.some.inj ho
      have o10 : a'.tmps[10]? = some (.slice (some ⟨gc, 0, none⟩) l.length c6) := (hS.oldT 10 (by simp)).trans rfl
      have hK' := hK g w' (fun _ _ _ _ _ _ => rfl) (by rw [hfl 5 (by decide), hfl 11 (by decide)]; exact hR) (.slice (some ⟨gc, 0, none⟩) l.length c6) (by simp only [valO, Option.bind_some]; (try simp only [putAll, Act.put, List.setIfInBounds_toArray, List.set_cons_zero, List.set_cons_succ]); (try rfl))
      clear hS hdep hR
      refine gh_quietT (v := .slice (some ⟨gc, 0, none⟩) l.length c6) ?_ ?_
      · (simp only [execOp, Act.eval, o10]; go_simp; first | done | (simp; done) | (simp [*]; done) | omega | (rw [IntKind.wrap_i64]; omega))
      · exact hK'
    | 1, ho, hun, hdep, hK, hfl, _ =>
      obtain rfl := Option.some.inj ho
      have o11 : a'.tmps[11]? = some (.int .i64 (i : Int)) := (hS.oldT 11 (by simp)).trans rfl
      have hK' := hK g w' (fun _ _ _ _ _ _ => rfl) (by rw [hfl 5 (by decide), hfl 11 (by decide)]; exact hR) (.int .i64 (i : Int)) (by simp only [valO, Option.bind_some]; (try simp only [putAll, Act.put, List.setIfInBounds_toArray, List.set_cons_zero, List.set_cons_succ]); (try rfl))
      clear hS hdep hR
      refine gh_quietT (v := .int .i64 (i : Int)) ?_ ?_
      · (simp only [execOp, Act.eval, o11]; go_simp; first | done | (simp; done) | (simp [*]; done) | omega | (rw [IntKind.wrap_i64]; omega))
      · exact hK'
    | 2, ho, hun, hdep, hK, hfl, _ =>
      obtain rfl := Option.some.inj ho
      have o10 : a'.tmps[10]? = some (.slice (some ⟨gc, 0, none⟩) l.length c6) := (hS.oldT 10 (by simp)).trans rfl
      have hK' := hK g w' (fun _ _ _ _ _ _ => rfl) (by rw [hfl 5 (by decide), hfl 11 (by decide)]; exact hR) (.slice (some ⟨gc, 0, none⟩) l.length c6) (by simp only [valO, Option.bind_some]; (try simp only [putAll, Act.put, List.setIfInBounds_toArray, List.set_cons_zero, List.set_cons_succ]); (try rfl))
      clear hS hdep hR
      refine gh_quietT (v := .slice (some ⟨gc, 0, none⟩) l.length c6) ?_ ?_
      · (simp only [execOp, Act.eval, o10]; go_simp; first | done | (simp; done) | (simp [*]; done) | omega | (rw [IntKind.wrap_i64]; omega))
      · exact hK'
    | 3, ho, hun, hdep, hK, hfl, _ =>
      obtain rfl := Option.some.inj ho
      have o11 : a'.tmps[11]? = some (.int .i64 (i : Int)) := (hS.oldT 11 (by simp)).trans rfl
      have hK' := hK g w' (fun _ _ _ _ _ _ => rfl) (by rw [hfl 5 (by decide), hfl 11 (by decide)]; exact hR) (.int .i64 (i : Int)) (by simp only [valO, Option.bind_some]; (try simp only [putAll, Act.put, List.setIfInBounds_toArray, List.set_cons_zero, List.set_cons_succ]); (try rfl))
      clear hS hdep hR
      refine gh_quietT (v := .int .i64 (i : Int)) ?_ ?_
      · (simp only [execOp, Act.eval, o11]; go_simp; first | done | (simp; done) | (simp [*]; done) | omega | (rw [IntKind.wrap_i64]; omega))
      · exact hK'
    | 4, ho, hun, hdep, hK, hfl, _ =>
      obtain rfl := Option.some.inj ho
      have d2 : lp.getD 2 false = true := hdep { on := 2, ground := .data } (by simp) rfl
      have e44 : a'.tmps[44]? = some (.slice (some ⟨gc, 0, none⟩) l.length c6) := (hS.don 2 _ 44 rfl d2 rfl).trans (by simp only [putAll, Act.put, List.setIfInBounds_toArray, List.set_cons_zero, List.set_cons_succ]; rfl)
      have d3 : lp.getD 3 false = true := hdep { on := 3, ground := .data } (by simp) rfl
      have e45 : a'.tmps[45]? = some (.int .i64 (i : Int)) := (hS.don 3 _ 45 rfl d3 rfl).trans (by simp only [putAll, Act.put, List.setIfInBounds_toArray, List.set_cons_zero, List.set_cons_succ]; rfl)
      have hK' := hK g w' (fun _ _ _ _ _ _ => rfl) (by rw [hfl 5 (by decide), hfl 11 (by decide)]; exact hR) (.pointer (some ⟨gc, i, none⟩)) (by simp only [valO, Option.bind_some]; (try simp only [putAll, Act.put, List.setIfInBounds_toArray, List.set_cons_zero, List.set_cons_succ]); (try rfl))
      clear hS hdep hR
      refine gh_quietT (v := .pointer (some ⟨gc, i, none⟩)) ?_ ?_
      · (simp only [execOp, Act.eval, e44, e45]; go_simp; first | done | (simp; done) | (simp [*]; done) | omega | (rw [IntKind.wrap_i64]; omega))
      · exact hK'
    | 5, ho, hun, hdep, hK, hfl, _ =>
      obtain rfl := Option.some.inj ho
      have d4 : lp.getD 4 false = true := hdep { on := 4, ground := .data } (by simp) rfl
      have e46 : a'.tmps[46]? = some (.pointer (some ⟨gc, i, none⟩)) := (hS.don 4 _ 46 rfl d4 rfl).trans (by simp only [putAll, Act.put, List.setIfInBounds_toArray, List.set_cons_zero, List.set_cons_succ]; rfl)
      have hf : lp.getD 11 false = false := by
        cases h : lp.getD 11 false
        · rfl
        · have := hR.d h; rw [hun] at this; cases this
      have x0 : w'.cell? ⟨gc, i, none⟩ = some (.int .u8 (y0 : Int)) := by
        rw [(hR.e hf).1.cellAt i (by have := HI.out; omega), List.getElem?_map, HI.out.1]
        rfl
      have hK' := hK g w' (fun _ _ _ _ _ _ => rfl) (by rw [hfl 11 (by decide), getD_set_same (by rw [hsz]; decide)]; exact ⟨hR.e, hR.a, fun _ => rfl⟩) (.int .u8 (y0 : Int)) (by simp only [valO, Option.bind_some]; (try simp only [putAll, Act.put, List.setIfInBounds_toArray, List.set_cons_zero, List.set_cons_succ]); (try rfl))
      clear hS hdep hR
      refine gh_quietT (v := .int .u8 (y0 : Int)) ?_ ?_
      · (simp only [execOp, Act.eval, e46]; go_simp; first | done | (simp; done) | (simp [*]; done) | omega | (rw [IntKind.wrap_i64]; omega))
      · exact hK'
    | 6, ho, hun, hdep, hK, hfl, _ =>
      obtain rfl := Option.some.inj ho
      have o2 : a'.tmps[2]? = some (.int .i64 bit) := (hS.oldT 2 (by simp)).trans rfl
      have hK' := hK g w' (fun _ _ _ _ _ _ => rfl) (by rw [hfl 5 (by decide), hfl 11 (by decide)]; exact hR) (.int .i64 bit) (by simp only [valO, Option.bind_some]; (try simp only [putAll, Act.put, List.setIfInBounds_toArray, List.set_cons_zero, List.set_cons_succ]); (try rfl))
      clear hS hdep hR
      refine gh_quietT (v := .int .i64 bit) ?_ ?_
      · (simp only [execOp, Act.eval, o2]; go_simp; first | done | (simp; done) | (simp [*]; done) | omega | (rw [IntKind.wrap_i64]; omega))
      · exact hK'
    | 7, ho, hun, hdep, hK, hfl, _ =>
      obtain rfl := Option.some.inj ho
      have d6 : lp.getD 6 false = true := hdep { on := 6, ground := .data } (by simp) rfl
      have e48 : a'.tmps[48]? = some (.int .i64 bit) := (hS.don 6 _ 48 rfl d6 rfl).trans (by simp only [putAll, Act.put, List.setIfInBounds_toArray, List.set_cons_zero, List.set_cons_succ]; rfl)
      have KC := HKT.out w'
      clear hdep
      unfold Oper.wp
      simp only [execOp, Act.eval]
      simp [go_sem, e48, Oper.upon]
      refine KC.mono ?_
      rintro e W2 ⟨rfl, hw2⟩
      replace hw2 := hw2.symm
      subst hw2
      exact hK g w' (fun _ _ _ _ _ _ => rfl) (by rw [hfl 5 (by decide), hfl 11 (by decide)]; exact hR) _ (by simp only [valO, Option.bind_some]; simp only [putAll, Act.put, List.setIfInBounds_toArray, List.set_cons_zero, List.set_cons_succ]; rfl)
    | 8, ho, hun, hdep, hK, hfl, _ =>
      obtain rfl := Option.some.inj ho
      have d7 : lp.getD 7 false = true := hdep { on := 7, ground := .data } (by simp) rfl
      have e49 : a'.tmps[49]? = some (.int .i64 (t : Int)) := (hS.don 7 _ 49 rfl d7 rfl).trans (by simp only [putAll, Act.put, List.setIfInBounds_toArray, List.set_cons_zero, List.set_cons_succ]; rfl)
      have hK' := hK g w' (fun _ _ _ _ _ _ => rfl) (by rw [hfl 5 (by decide), hfl 11 (by decide)]; exact hR) (.int .u8 (Z : Int)) (by simp only [valO, Option.bind_some]; (try simp only [putAll, Act.put, List.setIfInBounds_toArray, List.set_cons_zero, List.set_cons_succ]); (try rfl))
      clear hS hdep hR
      refine gh_quietT (v := .int .u8 (Z : Int)) ?_ ?_
      · (simp only [execOp, Act.eval, e49]; go_simp; first | done | (simp; done) | (simp [*]; done) | omega | (rw [IntKind.wrap_i64]; omega))
      · exact hK'
    | 9, ho, hun, hdep, hK, hfl, _ =>
      obtain rfl := Option.some.inj ho
      have d5 : lp.getD 5 false = true := hdep { on := 5, ground := .data } (by simp) rfl
      have e47 : a'.tmps[47]? = some (.int .u8 (y0 : Int)) := (hS.don 5 _ 47 rfl d5 rfl).trans (by simp only [putAll, Act.put, List.setIfInBounds_toArray, List.set_cons_zero, List.set_cons_succ]; rfl)
      have d8 : lp.getD 8 false = true := hdep { on := 8, ground := .data } (by simp) rfl
      have e50 : a'.tmps[50]? = some (.int .u8 (Z : Int)) := (hS.don 8 _ 50 rfl d8 rfl).trans (by simp only [putAll, Act.put, List.setIfInBounds_toArray, List.set_cons_zero, List.set_cons_succ]; rfl)
      have hK' := hK g w' (fun _ _ _ _ _ _ => rfl) (by rw [hfl 5 (by decide), hfl 11 (by decide)]; exact hR) (.int .u8 (y : Int)) (by simp only [valO, Option.bind_some]; (try simp only [putAll, Act.put, List.setIfInBounds_toArray, List.set_cons_zero, List.set_cons_succ]); (try rfl))
      clear hS hdep hR
      refine gh_quietT (v := .int .u8 (y : Int)) ?_ ?_
      · (simp only [execOp, Act.eval, e47, e50]; go_simp; first | done | (simp; done) | (simp [*]; done) | omega | (rw [IntKind.wrap_i64]; omega))
      · exact hK'
    | 10, ho, hun, hdep, hK, hfl, _ =>
      obtain rfl := Option.some.inj ho
      have d0 : lp.getD 0 false = true := hdep { on := 0, ground := .data } (by simp) rfl
      have e42 : a'.tmps[42]? = some (.slice (some ⟨gc, 0, none⟩) l.length c6) := (hS.don 0 _ 42 rfl d0 rfl).trans (by simp only [putAll, Act.put, List.setIfInBounds_toArray, List.set_cons_zero, List.set_cons_succ]; rfl)
      have d1 : lp.getD 1 false = true := hdep { on := 1, ground := .data } (by simp) rfl
      have e43 : a'.tmps[43]? = some (.int .i64 (i : Int)) := (hS.don 1 _ 43 rfl d1 rfl).trans (by simp only [putAll, Act.put, List.setIfInBounds_toArray, List.set_cons_zero, List.set_cons_succ]; rfl)
      have hK' := hK g w' (fun _ _ _ _ _ _ => rfl) (by rw [hfl 5 (by decide), hfl 11 (by decide)]; exact hR) (.pointer (some ⟨gc, i, none⟩)) (by simp only [valO, Option.bind_some]; (try simp only [putAll, Act.put, List.setIfInBounds_toArray, List.set_cons_zero, List.set_cons_succ]); (try rfl))
      clear hS hdep hR
      refine gh_quietT (v := .pointer (some ⟨gc, i, none⟩)) ?_ ?_
      · (simp only [execOp, Act.eval, e42, e43]; go_simp; first | done | (simp; done) | (simp [*]; done) | omega | (rw [IntKind.wrap_i64]; omega))
      · exact hK'
    | 11, ho, hun, hdep, hK, hfl, _ =>
      obtain rfl := Option.some.inj ho
      have d10 : lp.getD 10 false = true := hdep { on := 10, ground := .data } (by simp) rfl
      have e52 : a'.tmps[52]? = some (.pointer (some ⟨gc, i, none⟩)) := (hS.don 10 _ 52 rfl d10 rfl).trans (by simp only [putAll, Act.put, List.setIfInBounds_toArray, List.set_cons_zero, List.set_cons_succ]; rfl)
      have d9 : lp.getD 9 false = true := hdep { on := 9, ground := .data } (by simp) rfl
      have e51 : a'.tmps[51]? = some (.int .u8 (y : Int)) := (hS.don 9 _ 51 rfl d9 rfl).trans (by simp only [putAll, Act.put, List.setIfInBounds_toArray, List.set_cons_zero, List.set_cons_succ]; rfl)
      have d5 : lp.getD 5 false = true := hdep { on := 5, ground := .phase } (by simp) rfl
      obtain ⟨r1, r2⟩ := hR.e hun
      have x0 : w'.cell? ⟨gc, i, none⟩ = some (.int .u8 (y0 : Int)) := by
        rw [r1.cellAt i (by have := HI.out; omega), List.getElem?_map, HI.out.1]
        rfl
      have x1 := r1.frozenAt i
      have r3 := (r1.stored i (.int .u8 (y : Int))).1
      have r4 : (fun X => X.ownsRow bs 5 1 (.slice (some ⟨gc, 0, none⟩) l.length c6) l.length ((l.set i y).map cB) ∧ Below w.heap.size w X) (w'.setCell ⟨gc, i, none⟩ (.int .u8 (y : Int))) := ⟨by rw [List.map_set]; exact r3, r2.setCell (p := ⟨gc, i, none⟩) (by show w.heap.size ≤ gc; have h3 := (r1.lt gc rfl).1; have h4 := HBs.out; omega) _⟩
      have hK' := hK g (w'.setCell ⟨gc, i, none⟩ (.int .u8 (y : Int))) (fun _ _ _ _ _ _ => rfl) (by rw [hfl 5 (by decide), getD_set_same (by rw [hsz]; decide)]; exact ⟨fun h => (by cases h), fun _ => r4, fun _ => d5⟩) undef (by simp only [valO, Option.bind_none]; rfl)
      clear hS hdep hR hK r1 r2 r3 r4
      unfold Oper.wp
      simp [execOp, Act.eval, e52, e51, Oper.upon, go_sem, x0, x1]
      exact hK'
    | n + 12, ho, hun, hdep, hK, hfl, hq => exact absurd hq (by omega)
  case fin8 =>
    intro g V8 hR
    obtain ⟨r1, r2⟩ := hR.a (by simp)
    have HO8 := hid13 r1
    have HB8 := hid13 r2
    simp only [putAll, Act.put, List.setIfInBounds_toArray, List.set_cons_zero, List.set_cons_succ]
    clear hR r1 r2 HO6 HB6
    refine wl_nilT (P := Tryd.prog) (ops := #[]) ?_
    have hkc : (k : Int) ≤ (vc0 : Int) := by have := HI.out; have := HL.out; omega
    obtain ⟨vdo, hvdo⟩ : ∃ o : Option Addr, o = (if vc0 = k then vo else vo.map (·.add (k * 1))) := ⟨_, rfl⟩
    obtain ⟨nd, hnd⟩ : ∃ n : Nat, n = l.length - k := ⟨_, rfl⟩
    obtain ⟨vdc, hvdc⟩ : ∃ n : Nat, n = vc0 - k := ⟨_, rfl⟩
    have HSl : Hid (∀ W, Sem.run Tryd.prog (Instr.sliceAt 24 (.slice vo l.length vc0) (some (.int .i64 k)) none none) W = .ok (.slice vdo nd vdc) W) := by intro W; rw [hvdo, hnd, hvdc]; exact run_slice_from (P := Tryd.prog) (w := W) Tryd.underlying24 hi hz1 vo l.length vc0 k HI.out.2.2
    have HSt : Hid (∀ W, Sem.run Tryd.prog (Instr.sliceAt 24 (.slice vo l.length vc0) none (some (.int .i64 k)) none) W = .ok (.slice vo k vc0) W) := by intro W; exact run_slice_to (P := Tryd.prog) (w := W) Tryd.underlying24 hi vo l.length vc0 k (by have := HI.out; have := HL.out; omega)
    have HRa : Hid (∀ W, Below w.heap.size w W → RwX cB W (.slice vo k vc0) (l.take k)) := by
      intro W hB
      have h : RwX cB W (.slice vo l.length vc0) (l.take k ++ l.drop k) := by rw [List.take_append_drop]; exact HVx.out.below hB
      have h2 := rwx_take h
      rw [List.length_take, Nat.min_eq_left HI.out.2.2] at h2
      exact h2
    have HRd : Hid (∀ W, Below w.heap.size w W → RwX cB W (.slice vdo nd vdc) (l.drop k)) := by
      intro W hB
      rw [hvdo, hnd, hvdc]
      exact rwx_from (HVx.out.below hB) HI.out.2.2
    have hxa : ∀ b ∈ l.take k, b < 256 := fun b hb => HX.out b (List.mem_of_mem_take hb)
    have hxd : ∀ b ∈ l.drop k, b < 256 := fun b hb => HX.out b (List.mem_of_mem_drop hb)
    have hla : (l.take k).length ≤ 9223372036854775806 := by rw [List.length_take]; have := HLl.out; omega
    have hld : (l.drop k).length ≤ 9223372036854775806 := by rw [List.length_drop]; have := HLl.out; omega
    obtain ⟨Sa, hSa⟩ : ∃ S : Int, S = uI (crS (l.take k)) := ⟨_, rfl⟩
    obtain ⟨Sd, hSd⟩ : ∃ S : Int, S = uI (crS (l.drop k)) := ⟨_, rfl⟩
    obtain ⟨Sc, hSc⟩ : ∃ S : Int, S = uI (crS (l.set i y)) := ⟨_, rfl⟩
    have hSne : ¬ Sc = S0 := by
      rw [hSc, HS0.out]
      intro e
      exact HNe.out (uI_inj e)
    have K63 : Hid (∀ (W : World) (N : Nat), Below w.heap.size w W → W.cell? ⟨N, 0, none⟩ = some (.slice vo k vc0) → Calls Tryd.prog 9 #[.slice (some ⟨N, 0, none⟩) 1 1] W fun e w' => e = .returned (.int .u32 Sa) ∧ w' = W) := by
      intro W N hB hc
      rw [hSa]
      exact sum_one hc (HRa.out W hB) hla hxa (HT.out.below hB)
    have K68 : Hid (∀ (W : World) (N : Nat), Below w.heap.size w W → W.cell? ⟨N, 0, none⟩ = some (.slice vdo nd vdc) → Calls Tryd.prog 9 #[.slice (some ⟨N, 0, none⟩) 1 1] W fun e w' => e = .returned (.int .u32 Sd) ∧ w' = W) := by
      intro W N hB hc
      rw [hSd]
      exact sum_one hc (HRd.out W hB) hld hxd (HT.out.below hB)
    have K73 : Hid (∀ W : World, Calls Tryd.prog 13 #[.int .u32 Sa, .int .u32 Sd, .int .i64 (nd : Int)] W fun e w' => e = .returned (.tuple #[.int .u32 S0, .int .i64 0]) ∧ w' = W) := by
      intro W
      have h := join_any (crS (l.take k)) (crS (l.drop k)) (nd : Int) (by have := HLl.out; omega) W
      have e1 : jnU (crS (l.take k)) (crS (l.drop k)) (nd : Int) = crS l := by
        unfold jnU
        rw [if_neg (by omega), Int.toNat_natCast]
        have h2 := crS_join (l.take k) (l.drop k)
        rw [List.take_append_drop, List.length_drop, ← hnd] at h2
        exact h2.symm
      have e2 : jnE (nd : Int) = 0 := by unfold jnE; rw [if_neg (by omega)]
      rw [e1, e2, ← hSa, ← hSd, ← HS0.out] at h
      exact h
    have K78 : Hid (∀ (W : World) (N : Nat), Below w.heap.size w W → W.ownsRow bs 5 1 (.slice (some ⟨gc, 0, none⟩) l.length c6) l.length ((l.set i y).map cB) → W.cell? ⟨N, 0, none⟩ = some (.slice (some ⟨gc, 0, none⟩) l.length c6) → Calls Tryd.prog 9 #[.slice (some ⟨N, 0, none⟩) 1 1] W fun e w' => e = .returned (.int .u32 Sc) ∧ w' = W) := by
      intro W N hB ho hc
      rw [hSc]
      have h2 : W.ownsRow bs 5 1 (.slice (some ⟨gc, 0, none⟩) l.length c6) (l.set i y).length ((l.set i y).map cB) := by rw [List.length_set]; exact ho
      exact sum_one hc (own_rwx h2) (by rw [List.length_set]; exact HL.out.1) HXc.out (HT.out.below hB)
    have K89 : Hid (∀ (W : World) (N : Nat), Below w.heap.size w W → W.cell? ⟨N, 0, none⟩ = some (.slice vo k vc0) → W.cell? ⟨N, 1, none⟩ = some (.slice vdo nd vdc) → Calls Tryd.prog 9 #[.slice (some ⟨N, 0, none⟩) 2 2] W fun e w' => e = .returned (.int .u32 S0) ∧ w' = W) := by
      intro W N hB hc hd
      have h := sum_two hc hd (HRa.out W hB) (HRd.out W hB) hla hld hxa hxd (HT.out.below hB)
      rw [List.take_append_drop, ← HS0.out] at h
      exact h
    have md : IntKind.i64.wrap ((l.length : Int) - (k : Int)) = (nd : Int) := by rw [IntKind.wrap_i64]; have := HI.out; have := HLl.out; omega
    clear hvdo hvdc hxa hxd hla hld hSa hSd hSc hnd KI hsh hxo
    go_wp2_with (go_at_call 12; refine (HKK.out _).mono ?_; rintro e w9 ⟨rfl, hw9⟩; replace hw9 := hw9.symm; subst hw9)
    refine gh_region (γ := Nat × Nat) (qpOk 20 20 (by decide) (fun N => by kernel_rfl) (by kernel_rfl) (by kernel_rfl) (by kernel_rfl) (by kernel_rfl)) (by kernel_rfl) (by kernel_rfl) [some 59, some 60, some 61, some 62, some 63, some 64, some 65, some 66, some 67, some 68, some 69, some 70, some 71, some 72, some 73, some 58, some 74, some 75, some 13, some 14] (fun g => [.slice vo l.length vc0, .int .i64 (k : Int), .slice vo k vc0, .slice (some ⟨g.1, 0, none⟩) 1 1, .int .u32 Sa, .slice vo l.length vc0, .int .i64 (k : Int), .slice vdo nd vdc, .slice (some ⟨g.2, 0, none⟩) 1 1, .int .u32 Sd, .slice vo l.length vc0, .int .i64 (l.length : Int), .int .i64 (k : Int), .int .i64 (nd : Int), .tuple #[.int .u32 S0, .int .i64 0], .tuple #[.int .u32 S0, .int .i64 0], .int .u32 S0, .int .i64 0, .int .u32 S0, .int .i64 0]) (by kernel_rfl) (by simp) (fun lp g X => R10 (fun X => Below w.heap.size w X ∧ X.ownsRow bs 5 1 (.slice (some ⟨gc, 0, none⟩) l.length c6) l.length ((l.set i y).map cB)) (fun N X => X.cell? ⟨N, 0, none⟩ = some (.slice vo k vc0)) (fun N X => X.cell? ⟨N, 0, none⟩ = some (.slice vdo nd vdc)) (lp.getD 3 false) (lp.getD 8 false) g X) (0, 0) ⟨⟨HB8.out.drew, own_b13 (below_drewN (Below.refl _ _) 1) HO8.out⟩, fun h => (by simp at h), fun h => (by simp at h)⟩ ?step10 ?fin10
    case step10 =>
      intro q o lp g w' a' ho hsz hun hdep hR hS K Q' hK
      have hfl : ∀ j, j ≠ q → (lp.setIfInBounds q true).getD j false = lp.getD j false := fun j hj => by rw [Array.getD_eq_getD_getElem?, Array.getD_eq_getD_getElem?, Array.getElem?_setIfInBounds_ne (by omega)]
      have hq : q < 20 := (List.getElem?_eq_some_iff.mp ho).1
      match q, ho, hun, hdep, hK, hfl, hq with
      | 0, ho, hun, hdep, hK, hfl, _ =>
        obtain rfl := Option.some.inj ho
        have o0 : a'.tmps[0]? = some (.slice vo l.length vc0) := (hS.oldT 0 (by simp)).trans rfl
        have hK' := hK g w' (fun _ _ _ _ _ _ => rfl) (by rw [hfl 3 (by decide), hfl 8 (by decide)]; exact hR) (.slice vo l.length vc0) (by simp only [valO, Option.bind_some]; (try simp only [putAll, Act.put, List.setIfInBounds_toArray, List.set_cons_zero, List.set_cons_succ]); (try rfl))
        clear hS hdep hR
        refine gh_quietT (v := .slice vo l.length vc0) ?_ ?_
        · (simp only [execOp, Act.eval, o0]; go_simp; first | done | (simp; done) | (simp [*]; done) | omega | (rw [IntKind.wrap_i64]; omega))
        · exact hK'
      | 1, ho, hun, hdep, hK, hfl, _ =>
        obtain rfl := Option.some.inj ho
        have o12 : a'.tmps[12]? = some (.int .i64 (k : Int)) := (hS.oldT 12 (by simp)).trans rfl
        have hK' := hK g w' (fun _ _ _ _ _ _ => rfl) (by rw [hfl 3 (by decide), hfl 8 (by decide)]; exact hR) (.int .i64 (k : Int)) (by simp only [valO, Option.bind_some]; (try simp only [putAll, Act.put, List.setIfInBounds_toArray, List.set_cons_zero, List.set_cons_succ]); (try rfl))
        clear hS hdep hR
        refine gh_quietT (v := .int .i64 (k : Int)) ?_ ?_
        · (simp only [execOp, Act.eval, o12]; go_simp; first | done | (simp; done) | (simp [*]; done) | omega | (rw [IntKind.wrap_i64]; omega))
        · exact hK'
      | 2, ho, hun, hdep, hK, hfl, _ =>
        obtain rfl := Option.some.inj ho
        have d0 : lp.getD 0 false = true := hdep { on := 0, ground := .data } (by simp) rfl
        have e59 : a'.tmps[59]? = some (.slice vo l.length vc0) := (hS.don 0 _ 59 rfl d0 rfl).trans (by simp only [putAll, Act.put, List.setIfInBounds_toArray, List.set_cons_zero, List.set_cons_succ]; rfl)
        have d1 : lp.getD 1 false = true := hdep { on := 1, ground := .data } (by simp) rfl
        have e60 : a'.tmps[60]? = some (.int .i64 (k : Int)) := (hS.don 1 _ 60 rfl d1 rfl).trans (by simp only [putAll, Act.put, List.setIfInBounds_toArray, List.set_cons_zero, List.set_cons_succ]; rfl)
        have hK' := hK g w' (fun _ _ _ _ _ _ => rfl) (by rw [hfl 3 (by decide), hfl 8 (by decide)]; exact hR) (.slice vo k vc0) (by simp only [valO, Option.bind_some]; simp only [putAll, Act.put, List.setIfInBounds_toArray, List.set_cons_zero, List.set_cons_succ]; rfl)
        clear hS hdep hR
        refine gh_quietT (v := .slice vo k vc0) ?_ ?_
        · (simp only [execOp, Act.eval, Option.map_some, Option.map_none, Array.getD_eq_getD_getElem?, e59, e60, Option.getD_some]; exact exT (HSt.out w'))
        · exact hK'
      | 3, ho, hun, hdep, hK, hfl, _ =>
        obtain rfl := Option.some.inj ho
        have d2 : lp.getD 2 false = true := hdep { on := 2, ground := .data } (by simp) rfl
        have e61 : a'.tmps[61]? = some (.slice vo k vc0) := (hS.don 2 _ 61 rfl d2 rfl).trans (by simp only [putAll, Act.put, List.setIfInBounds_toArray, List.set_cons_zero, List.set_cons_succ]; rfl)
        have q := bl1 w' (.cells #[.slice vo k vc0] 24)
        have hK' := hK (w'.heap.size, g.2) (w'.alloc (.cells #[.slice vo k vc0] 24)) (fun k' ok s hk hl hd => gh_sameT (d := 62) (s := s) (by simp only [putAll, Act.put, List.setIfInBounds_toArray, List.set_cons_zero, List.set_cons_succ]; rfl) (by rintro rfl; have := dstG_of (by kernel_rfl) k' 3 ok _ 62 hk rfl hd rfl; subst this; rw [hun] at hl; cases hl)) (by rw [hfl 8 (by decide), getD_set_same (by rw [hsz]; decide)]; exact ⟨⟨keepb q hR.e.1, own_b13 q hR.e.2⟩, fun _ => (by simp [go_sem]), fun h => keepc q (hR.b h)⟩) (.slice (some ⟨w'.heap.size, 0, none⟩) 1 1) (by simp only [valO, Option.bind_some]; simp only [putAll, Act.put, List.setIfInBounds_toArray, List.set_cons_zero, List.set_cons_succ]; rfl)
        clear hS hdep hR hK
        unfold Oper.wp
        simp only [execOp, Act.eval, Array.getD_eq_getD_getElem?]
        simp [go_sem, e61, Oper.upon]
        exact hK'
      | 4, ho, hun, hdep, hK, hfl, _ =>
        obtain rfl := Option.some.inj ho
        have d3 : lp.getD 3 false = true := hdep { on := 3, ground := .data } (by simp) rfl
        have e62 : a'.tmps[62]? = some (.slice (some ⟨g.1, 0, none⟩) 1 1) := (hS.don 3 _ 62 rfl d3 rfl).trans (by simp only [putAll, Act.put, List.setIfInBounds_toArray, List.set_cons_zero, List.set_cons_succ]; rfl)
        have KC := K63.out w' g.1 hR.e.1 (hR.a d3)
        clear hdep
        unfold Oper.wp
        simp only [execOp, Act.eval]
        simp [go_sem, e62, Oper.upon]
        refine KC.mono ?_
        rintro e W2 ⟨rfl, hw2⟩
        replace hw2 := hw2.symm
        subst hw2
        exact hK g w' (fun _ _ _ _ _ _ => rfl) (by rw [hfl 3 (by decide), hfl 8 (by decide)]; exact hR) _ (by simp only [valO, Option.bind_some]; simp only [putAll, Act.put, List.setIfInBounds_toArray, List.set_cons_zero, List.set_cons_succ]; rfl)
      | 5, ho, hun, hdep, hK, hfl, _ =>
        obtain rfl := Option.some.inj ho
        have o0 : a'.tmps[0]? = some (.slice vo l.length vc0) := (hS.oldT 0 (by simp)).trans rfl
        have hK' := hK g w' (fun _ _ _ _ _ _ => rfl) (by rw [hfl 3 (by decide), hfl 8 (by decide)]; exact hR) (.slice vo l.length vc0) (by simp only [valO, Option.bind_some]; (try simp only [putAll, Act.put, List.setIfInBounds_toArray, List.set_cons_zero, List.set_cons_succ]); (try rfl))
        clear hS hdep hR
        refine gh_quietT (v := .slice vo l.length vc0) ?_ ?_
        · (simp only [execOp, Act.eval, o0]; go_simp; first | done | (simp; done) | (simp [*]; done) | omega | (rw [IntKind.wrap_i64]; omega))
        · exact hK'
      | 6, ho, hun, hdep, hK, hfl, _ =>
        obtain rfl := Option.some.inj ho
        have o12 : a'.tmps[12]? = some (.int .i64 (k : Int)) := (hS.oldT 12 (by simp)).trans rfl
        have hK' := hK g w' (fun _ _ _ _ _ _ => rfl) (by rw [hfl 3 (by decide), hfl 8 (by decide)]; exact hR) (.int .i64 (k : Int)) (by simp only [valO, Option.bind_some]; (try simp only [putAll, Act.put, List.setIfInBounds_toArray, List.set_cons_zero, List.set_cons_succ]); (try rfl))
        clear hS hdep hR
        refine gh_quietT (v := .int .i64 (k : Int)) ?_ ?_
        · (simp only [execOp, Act.eval, o12]; go_simp; first | done | (simp; done) | (simp [*]; done) | omega | (rw [IntKind.wrap_i64]; omega))
        · exact hK'
      | 7, ho, hun, hdep, hK, hfl, _ =>
        obtain rfl := Option.some.inj ho
        have d5 : lp.getD 5 false = true := hdep { on := 5, ground := .data } (by simp) rfl
        have e64 : a'.tmps[64]? = some (.slice vo l.length vc0) := (hS.don 5 _ 64 rfl d5 rfl).trans (by simp only [putAll, Act.put, List.setIfInBounds_toArray, List.set_cons_zero, List.set_cons_succ]; rfl)
        have d6 : lp.getD 6 false = true := hdep { on := 6, ground := .data } (by simp) rfl
        have e65 : a'.tmps[65]? = some (.int .i64 (k : Int)) := (hS.don 6 _ 65 rfl d6 rfl).trans (by simp only [putAll, Act.put, List.setIfInBounds_toArray, List.set_cons_zero, List.set_cons_succ]; rfl)
        have hK' := hK g w' (fun _ _ _ _ _ _ => rfl) (by rw [hfl 3 (by decide), hfl 8 (by decide)]; exact hR) (.slice vdo nd vdc) (by simp only [valO, Option.bind_some]; simp only [putAll, Act.put, List.setIfInBounds_toArray, List.set_cons_zero, List.set_cons_succ]; rfl)
        clear hS hdep hR
        refine gh_quietT (v := .slice vdo nd vdc) ?_ ?_
        · (simp only [execOp, Act.eval, Option.map_some, Option.map_none, Array.getD_eq_getD_getElem?, e64, e65, Option.getD_some]; exact exT (HSl.out w'))
        · exact hK'
      | 8, ho, hun, hdep, hK, hfl, _ =>
        obtain rfl := Option.some.inj ho
        have d7 : lp.getD 7 false = true := hdep { on := 7, ground := .data } (by simp) rfl
        have e66 : a'.tmps[66]? = some (.slice vdo nd vdc) := (hS.don 7 _ 66 rfl d7 rfl).trans (by simp only [putAll, Act.put, List.setIfInBounds_toArray, List.set_cons_zero, List.set_cons_succ]; rfl)
        have q := bl1 w' (.cells #[.slice vdo nd vdc] 24)
        have hK' := hK (g.1, w'.heap.size) (w'.alloc (.cells #[.slice vdo nd vdc] 24)) (fun k' ok s hk hl hd => gh_sameT (d := 67) (s := s) (by simp only [putAll, Act.put, List.setIfInBounds_toArray, List.set_cons_zero, List.set_cons_succ]; rfl) (by rintro rfl; have := dstG_of (by kernel_rfl) k' 8 ok _ 67 hk rfl hd rfl; subst this; rw [hun] at hl; cases hl)) (by rw [hfl 3 (by decide), getD_set_same (by rw [hsz]; decide)]; exact ⟨⟨keepb q hR.e.1, own_b13 q hR.e.2⟩, fun h => keepc q (hR.a h), fun _ => (by simp [go_sem])⟩) (.slice (some ⟨w'.heap.size, 0, none⟩) 1 1) (by simp only [valO, Option.bind_some]; simp only [putAll, Act.put, List.setIfInBounds_toArray, List.set_cons_zero, List.set_cons_succ]; rfl)
        clear hS hdep hR hK
        unfold Oper.wp
        simp only [execOp, Act.eval, Array.getD_eq_getD_getElem?]
        simp [go_sem, e66, Oper.upon]
        exact hK'
      | 9, ho, hun, hdep, hK, hfl, _ =>
        obtain rfl := Option.some.inj ho
        have d8 : lp.getD 8 false = true := hdep { on := 8, ground := .data } (by simp) rfl
        have e67 : a'.tmps[67]? = some (.slice (some ⟨g.2, 0, none⟩) 1 1) := (hS.don 8 _ 67 rfl d8 rfl).trans (by simp only [putAll, Act.put, List.setIfInBounds_toArray, List.set_cons_zero, List.set_cons_succ]; rfl)
        have KC := K68.out w' g.2 hR.e.1 (hR.b d8)
        clear hdep
        unfold Oper.wp
        simp only [execOp, Act.eval]
        simp [go_sem, e67, Oper.upon]
        refine KC.mono ?_
        rintro e W2 ⟨rfl, hw2⟩
        replace hw2 := hw2.symm
        subst hw2
        exact hK g w' (fun _ _ _ _ _ _ => rfl) (by rw [hfl 3 (by decide), hfl 8 (by decide)]; exact hR) _ (by simp only [valO, Option.bind_some]; simp only [putAll, Act.put, List.setIfInBounds_toArray, List.set_cons_zero, List.set_cons_succ]; rfl)
      | 10, ho, hun, hdep, hK, hfl, _ =>
        obtain rfl := Option.some.inj ho
        have o0 : a'.tmps[0]? = some (.slice vo l.length vc0) := (hS.oldT 0 (by simp)).trans rfl
        have hK' := hK g w' (fun _ _ _ _ _ _ => rfl) (by rw [hfl 3 (by decide), hfl 8 (by decide)]; exact hR) (.slice vo l.length vc0) (by simp only [valO, Option.bind_some]; (try simp only [putAll, Act.put, List.setIfInBounds_toArray, List.set_cons_zero, List.set_cons_succ]); (try rfl))
        clear hS hdep hR
        refine gh_quietT (v := .slice vo l.length vc0) ?_ ?_
        · (simp only [execOp, Act.eval, o0]; go_simp; first | done | (simp; done) | (simp [*]; done) | omega | (rw [IntKind.wrap_i64]; omega))
        · exact hK'
      | 11, ho, hun, hdep, hK, hfl, _ =>
        obtain rfl := Option.some.inj ho
        have d10 : lp.getD 10 false = true := hdep { on := 10, ground := .data } (by simp) rfl
        have e69 : a'.tmps[69]? = some (.slice vo l.length vc0) := (hS.don 10 _ 69 rfl d10 rfl).trans (by simp only [putAll, Act.put, List.setIfInBounds_toArray, List.set_cons_zero, List.set_cons_succ]; rfl)
        have hK' := hK g w' (fun _ _ _ _ _ _ => rfl) (by rw [hfl 3 (by decide), hfl 8 (by decide)]; exact hR) (.int .i64 (l.length : Int)) (by simp only [valO, Option.bind_some]; (try simp only [putAll, Act.put, List.setIfInBounds_toArray, List.set_cons_zero, List.set_cons_succ]); (try rfl))
        clear hS hdep hR
        refine gh_quietT (v := .int .i64 (l.length : Int)) ?_ ?_
        · (simp only [execOp, Act.eval, e69]; go_simp; first | done | (simp; done) | (simp [*]; done) | omega | (rw [IntKind.wrap_i64]; omega))
        · exact hK'
      | 12, ho, hun, hdep, hK, hfl, _ =>
        obtain rfl := Option.some.inj ho
        have o12 : a'.tmps[12]? = some (.int .i64 (k : Int)) := (hS.oldT 12 (by simp)).trans rfl
        have hK' := hK g w' (fun _ _ _ _ _ _ => rfl) (by rw [hfl 3 (by decide), hfl 8 (by decide)]; exact hR) (.int .i64 (k : Int)) (by simp only [valO, Option.bind_some]; (try simp only [putAll, Act.put, List.setIfInBounds_toArray, List.set_cons_zero, List.set_cons_succ]); (try rfl))
        clear hS hdep hR
        refine gh_quietT (v := .int .i64 (k : Int)) ?_ ?_
        · (simp only [execOp, Act.eval, o12]; go_simp; first | done | (simp; done) | (simp [*]; done) | omega | (rw [IntKind.wrap_i64]; omega))
        · exact hK'
      | 13, ho, hun, hdep, hK, hfl, _ =>
        obtain rfl := Option.some.inj ho
        have d11 : lp.getD 11 false = true := hdep { on := 11, ground := .data } (by simp) rfl
        have e70 : a'.tmps[70]? = some (.int .i64 (l.length : Int)) := (hS.don 11 _ 70 rfl d11 rfl).trans (by simp only [putAll, Act.put, List.setIfInBounds_toArray, List.set_cons_zero, List.set_cons_succ]; rfl)
        have d12 : lp.getD 12 false = true := hdep { on := 12, ground := .data } (by simp) rfl
        have e71 : a'.tmps[71]? = some (.int .i64 (k : Int)) := (hS.don 12 _ 71 rfl d12 rfl).trans (by simp only [putAll, Act.put, List.setIfInBounds_toArray, List.set_cons_zero, List.set_cons_succ]; rfl)
        have hK' := hK g w' (fun _ _ _ _ _ _ => rfl) (by rw [hfl 3 (by decide), hfl 8 (by decide)]; exact hR) (.int .i64 (nd : Int)) (by simp only [valO, Option.bind_some]; (try simp only [putAll, Act.put, List.setIfInBounds_toArray, List.set_cons_zero, List.set_cons_succ]); (try rfl))
        clear hS hdep hR
        refine gh_quietT (v := .int .i64 (nd : Int)) ?_ ?_
        · (simp only [execOp, Act.eval, e70, e71]; go_simp; first | done | (simp; done) | (simp [*]; done) | omega | (rw [IntKind.wrap_i64]; omega))
        · exact hK'
      | 14, ho, hun, hdep, hK, hfl, _ =>
        obtain rfl := Option.some.inj ho
        have d4 : lp.getD 4 false = true := hdep { on := 4, ground := .data } (by simp) rfl
        have e63 : a'.tmps[63]? = some (.int .u32 Sa) := (hS.don 4 _ 63 rfl d4 rfl).trans (by simp only [putAll, Act.put, List.setIfInBounds_toArray, List.set_cons_zero, List.set_cons_succ]; rfl)
        have d9 : lp.getD 9 false = true := hdep { on := 9, ground := .data } (by simp) rfl
        have e68 : a'.tmps[68]? = some (.int .u32 Sd) := (hS.don 9 _ 68 rfl d9 rfl).trans (by simp only [putAll, Act.put, List.setIfInBounds_toArray, List.set_cons_zero, List.set_cons_succ]; rfl)
        have d13 : lp.getD 13 false = true := hdep { on := 13, ground := .data } (by simp) rfl
        have e72 : a'.tmps[72]? = some (.int .i64 (nd : Int)) := (hS.don 13 _ 72 rfl d13 rfl).trans (by simp only [putAll, Act.put, List.setIfInBounds_toArray, List.set_cons_zero, List.set_cons_succ]; rfl)
        have KC := K73.out w'
        clear hdep
        unfold Oper.wp
        simp only [execOp, Act.eval]
        simp [go_sem, e63, e68, e72, Oper.upon]
        refine KC.mono ?_
        rintro e W2 ⟨rfl, hw2⟩
        replace hw2 := hw2.symm
        subst hw2
        exact hK g w' (fun _ _ _ _ _ _ => rfl) (by rw [hfl 3 (by decide), hfl 8 (by decide)]; exact hR) _ (by simp only [valO, Option.bind_some]; simp only [putAll, Act.put, List.setIfInBounds_toArray, List.set_cons_zero, List.set_cons_succ]; rfl)
      | 15, ho, hun, hdep, hK, hfl, _ =>
        obtain rfl := Option.some.inj ho
        have d14 : lp.getD 14 false = true := hdep { on := 14, ground := .data } (by simp) rfl
        have e73 : a'.tmps[73]? = some (.tuple #[.int .u32 S0, .int .i64 0]) := (hS.don 14 _ 73 rfl d14 rfl).trans (by simp only [putAll, Act.put, List.setIfInBounds_toArray, List.set_cons_zero, List.set_cons_succ]; rfl)
        have hK' := hK g w' (fun _ _ _ _ _ _ => rfl) (by rw [hfl 3 (by decide), hfl 8 (by decide)]; exact hR) (.tuple #[.int .u32 S0, .int .i64 0]) (by simp only [valO, Option.bind_some]; (try simp only [putAll, Act.put, List.setIfInBounds_toArray, List.set_cons_zero, List.set_cons_succ]); (try rfl))
        clear hS hdep hR
        refine gh_quietT (v := .tuple #[.int .u32 S0, .int .i64 0]) ?_ ?_
        · (simp only [execOp, Act.eval, e73]; go_simp; first | done | (simp; done) | (simp [*]; done) | omega | (rw [IntKind.wrap_i64]; omega))
        · exact hK'
      | 16, ho, hun, hdep, hK, hfl, _ =>
        obtain rfl := Option.some.inj ho
        have d15 : lp.getD 15 false = true := hdep { on := 15, ground := .data } (by simp) rfl
        have e58 : a'.tmps[58]? = some (.tuple #[.int .u32 S0, .int .i64 0]) := (hS.don 15 _ 58 rfl d15 rfl).trans (by simp only [putAll, Act.put, List.setIfInBounds_toArray, List.set_cons_zero, List.set_cons_succ]; rfl)
        have hK' := hK g w' (fun _ _ _ _ _ _ => rfl) (by rw [hfl 3 (by decide), hfl 8 (by decide)]; exact hR) (.int .u32 S0) (by simp only [valO, Option.bind_some]; (try simp only [putAll, Act.put, List.setIfInBounds_toArray, List.set_cons_zero, List.set_cons_succ]); (try rfl))
        clear hS hdep hR
        refine gh_quietT (v := .int .u32 S0) ?_ ?_
        · (simp only [execOp, Act.eval, e58]; go_simp; first | done | (simp; done) | (simp [*]; done) | omega | (rw [IntKind.wrap_i64]; omega))
        · exact hK'
      | 17, ho, hun, hdep, hK, hfl, _ =>
        obtain rfl := Option.some.inj ho
        have d15 : lp.getD 15 false = true := hdep { on := 15, ground := .data } (by simp) rfl
        have e58 : a'.tmps[58]? = some (.tuple #[.int .u32 S0, .int .i64 0]) := (hS.don 15 _ 58 rfl d15 rfl).trans (by simp only [putAll, Act.put, List.setIfInBounds_toArray, List.set_cons_zero, List.set_cons_succ]; rfl)
        have hK' := hK g w' (fun _ _ _ _ _ _ => rfl) (by rw [hfl 3 (by decide), hfl 8 (by decide)]; exact hR) (.int .i64 0) (by simp only [valO, Option.bind_some]; (try simp only [putAll, Act.put, List.setIfInBounds_toArray, List.set_cons_zero, List.set_cons_succ]); (try rfl))
        clear hS hdep hR
        refine gh_quietT (v := .int .i64 0) ?_ ?_
        · (simp only [execOp, Act.eval, e58]; go_simp; first | done | (simp; done) | (simp [*]; done) | omega | (rw [IntKind.wrap_i64]; omega))
        · exact hK'
      | 18, ho, hun, hdep, hK, hfl, _ =>
        obtain rfl := Option.some.inj ho
        have d16 : lp.getD 16 false = true := hdep { on := 16, ground := .data } (by simp) rfl
        have e74 : a'.tmps[74]? = some (.int .u32 S0) := (hS.don 16 _ 74 rfl d16 rfl).trans (by simp only [putAll, Act.put, List.setIfInBounds_toArray, List.set_cons_zero, List.set_cons_succ]; rfl)
        have hK' := hK g w' (fun _ _ _ _ _ _ => rfl) (by rw [hfl 3 (by decide), hfl 8 (by decide)]; exact hR) (.int .u32 S0) (by simp only [valO, Option.bind_some]; (try simp only [putAll, Act.put, List.setIfInBounds_toArray, List.set_cons_zero, List.set_cons_succ]); (try rfl))
        clear hS hdep hR
        refine gh_quietT (v := .int .u32 S0) ?_ ?_
        · (simp only [execOp, Act.eval, e74]; go_simp; first | done | (simp; done) | (simp [*]; done) | omega | (rw [IntKind.wrap_i64]; omega))
        · exact hK'
      | 19, ho, hun, hdep, hK, hfl, _ =>
        obtain rfl := Option.some.inj ho
        have d17 : lp.getD 17 false = true := hdep { on := 17, ground := .data } (by simp) rfl
        have e75 : a'.tmps[75]? = some (.int .i64 0) := (hS.don 17 _ 75 rfl d17 rfl).trans (by simp only [putAll, Act.put, List.setIfInBounds_toArray, List.set_cons_zero, List.set_cons_succ]; rfl)
        have hK' := hK g w' (fun _ _ _ _ _ _ => rfl) (by rw [hfl 3 (by decide), hfl 8 (by decide)]; exact hR) (.int .i64 0) (by simp only [valO, Option.bind_some]; (try simp only [putAll, Act.put, List.setIfInBounds_toArray, List.set_cons_zero, List.set_cons_succ]); (try rfl))
        clear hS hdep hR
        refine gh_quietT (v := .int .i64 0) ?_ ?_
        · (simp only [execOp, Act.eval, e75]; go_simp; first | done | (simp; done) | (simp [*]; done) | omega | (rw [IntKind.wrap_i64]; omega))
        · exact hK'
      | n + 20, ho, hun, hdep, hK, hfl, hq => exact absurd hq (by omega)
    case fin10 =>
      intro g V10 hR
      have HB10 := hid13 hR.e.1
      have HO10 := hid13 hR.e.2
      simp only [putAll, Act.put, List.setIfInBounds_toArray, List.set_cons_zero, List.set_cons_succ]
      clear hR HB8 HO8 K63 K68 K73
      refine wl_nilT (P := Tryd.prog) (ops := #[]) ?_
      go_wp2_with fail
      refine gh_regionG (γ := Nat × Nat) (qpOk 27 27 (by decide) (fun N => by kernel_rfl) (by kernel_rfl) (by kernel_rfl) (by kernel_rfl) (by kernel_rfl)) [(5, 81, true), (17, 93, true), (21, 97, true)] (by kernel_rfl) (by kernel_rfl) [some 76, some 77, some 78, some 79, some 80, some 81, some 82, some 83, some 84, some 85, some 86, some 87, some 88, some 89, some 90, some 91, some 92, some 93, some 94, some 95, some 96, some 97, some 98, some 99, some 100, some 101, some 8] (fun g => [.slice (some ⟨gc, 0, none⟩) l.length c6, .slice (some ⟨g.1, 0, none⟩) 1 1, .int .u32 Sc, .int .u32 S0, .bool true, .bool true, .slice vo l.length vc0, .int .i64 (k : Int), .slice vo k vc0, .slice vo l.length vc0, .int .i64 (k : Int), .slice vdo nd vdc, .slice (some ⟨g.2, 0, none⟩) 2 2, .int .u32 S0, .int .u32 S0, .bool true, .bool true, .bool true, .int .i64 0, .bool true, .bool true, .bool true, .int .u32 S0, .int .u32 S0, .bool true, .bool true, .bool true]) (by kernel_rfl) (by simp) (by intro g x hx; simp only [List.mem_cons, List.mem_nil_iff, or_false] at hx; rcases hx with rfl | rfl | rfl <;> (simp only [putAll, Act.put, List.setIfInBounds_toArray, List.set_cons_zero, List.set_cons_succ]; rfl)) (fun lp g X => R10 (fun X => Below w.heap.size w X ∧ X.ownsRow bs 5 1 (.slice (some ⟨gc, 0, none⟩) l.length c6) l.length ((l.set i y).map cB)) (fun N X => X.cell? ⟨N, 0, none⟩ = some (.slice (some ⟨gc, 0, none⟩) l.length c6)) (fun N X => X.cell? ⟨N, 0, none⟩ = some (.slice vo k vc0) ∧ X.cell? ⟨N, 1, none⟩ = some (.slice vdo nd vdc)) (lp.getD 1 false) (lp.getD 12 false) g X) (0, 0) ⟨⟨HB10.out.drew, own_b13 (below_drewN (Below.refl _ _) 1) HO10.out⟩, fun h => (by simp at h), fun h => (by simp at h)⟩ ?step11 ?fin11
      case step11 =>
        intro q o lp g w' a' ho hsz hun hdep hR hS K Q' hK
        have hfl : ∀ j, j ≠ q → (lp.setIfInBounds q true).getD j false = lp.getD j false := fun j hj => by rw [Array.getD_eq_getD_getElem?, Array.getD_eq_getD_getElem?, Array.getElem?_setIfInBounds_ne (by omega)]
        have hq : q < 27 := (List.getElem?_eq_some_iff.mp ho).1
        match q, ho, hun, hdep, hK, hfl, hq with
        | 0, ho, hun, hdep, hK, hfl, _ =>
          obtain rfl := Option.some.inj ho
          have o10 : a'.tmps[10]? = some (.slice (some ⟨gc, 0, none⟩) l.length c6) := (hS.oldT 10 (by simp)).trans rfl
          have hK' := hK g w' (fun _ _ _ _ _ _ => rfl) (by rw [hfl 1 (by decide), hfl 12 (by decide)]; exact hR) (.slice (some ⟨gc, 0, none⟩) l.length c6) (by simp only [valO, Option.bind_some]; (try simp only [putAll, Act.put, List.setIfInBounds_toArray, List.set_cons_zero, List.set_cons_succ]); (try rfl))
          clear hS hdep hR
          refine gh_quietT (v := .slice (some ⟨gc, 0, none⟩) l.length c6) ?_ ?_
          · (simp only [execOp, Act.eval, o10]; go_simp; first | done | (simp; done) | (simp [*]; done) | omega | (rw [IntKind.wrap_i64]; omega))
          · exact hK'
        | 1, ho, hun, hdep, hK, hfl, _ =>
          obtain rfl := Option.some.inj ho
          have d0 : lp.getD 0 false = true := hdep { on := 0, ground := .data } (by simp) rfl
          have e76 : a'.tmps[76]? = some (.slice (some ⟨gc, 0, none⟩) l.length c6) := (hS.don 0 _ 76 rfl d0 rfl).trans (by simp only [putAll, Act.put, List.setIfInBounds_toArray, List.set_cons_zero, List.set_cons_succ]; rfl)
          have q := bl1 w' (.cells #[.slice (some ⟨gc, 0, none⟩) l.length c6] 24)
          have hK' := hK (w'.heap.size, g.2) (w'.alloc (.cells #[.slice (some ⟨gc, 0, none⟩) l.length c6] 24)) (fun k' ok s hk hl hd => gh_sameT (d := 77) (s := s) (by simp only [putAll, Act.put, List.setIfInBounds_toArray, List.set_cons_zero, List.set_cons_succ]; rfl) (by rintro rfl; have := dstG_of (by kernel_rfl) k' 1 ok _ 77 hk rfl hd rfl; subst this; rw [hun] at hl; cases hl)) (by rw [hfl 12 (by decide), getD_set_same (by rw [hsz]; decide)]; exact ⟨⟨keepb q hR.e.1, own_b13 q hR.e.2⟩, fun _ => (by simp [go_sem]), fun h => ⟨keepc q (hR.b h).1, keepc q (hR.b h).2⟩⟩) (.slice (some ⟨w'.heap.size, 0, none⟩) 1 1) (by simp only [valO, Option.bind_some]; simp only [putAll, Act.put, List.setIfInBounds_toArray, List.set_cons_zero, List.set_cons_succ]; rfl)
          clear hS hdep hR hK
          unfold Oper.wp
          simp only [execOp, Act.eval, Array.getD_eq_getD_getElem?]
          simp [go_sem, e76, Oper.upon]
          exact hK'
        | 2, ho, hun, hdep, hK, hfl, _ =>
          obtain rfl := Option.some.inj ho
          have d1 : lp.getD 1 false = true := hdep { on := 1, ground := .data } (by simp) rfl
          have e77 : a'.tmps[77]? = some (.slice (some ⟨g.1, 0, none⟩) 1 1) := (hS.don 1 _ 77 rfl d1 rfl).trans (by simp only [putAll, Act.put, List.setIfInBounds_toArray, List.set_cons_zero, List.set_cons_succ]; rfl)
          have KC := K78.out w' g.1 hR.e.1 hR.e.2 (hR.a d1)
          clear hdep
          unfold Oper.wp
          simp only [execOp, Act.eval]
          simp [go_sem, e77, Oper.upon]
          refine KC.mono ?_
          rintro e W2 ⟨rfl, hw2⟩
          replace hw2 := hw2.symm
          subst hw2
          exact hK g w' (fun _ _ _ _ _ _ => rfl) (by rw [hfl 1 (by decide), hfl 12 (by decide)]; exact hR) _ (by simp only [valO, Option.bind_some]; simp only [putAll, Act.put, List.setIfInBounds_toArray, List.set_cons_zero, List.set_cons_succ]; rfl)
        | 3, ho, hun, hdep, hK, hfl, _ =>
          obtain rfl := Option.some.inj ho
          have o9 : a'.tmps[9]? = some (.int .u32 S0) := (hS.oldT 9 (by simp)).trans rfl
          have hK' := hK g w' (fun _ _ _ _ _ _ => rfl) (by rw [hfl 1 (by decide), hfl 12 (by decide)]; exact hR) (.int .u32 S0) (by simp only [valO, Option.bind_some]; (try simp only [putAll, Act.put, List.setIfInBounds_toArray, List.set_cons_zero, List.set_cons_succ]); (try rfl))
          clear hS hdep hR
          refine gh_quietT (v := .int .u32 S0) ?_ ?_
          · (simp only [execOp, Act.eval, o9]; go_simp; first | done | (simp; done) | (simp [*]; done) | omega | (rw [IntKind.wrap_i64]; omega))
          · exact hK'
        | 4, ho, hun, hdep, hK, hfl, _ =>
          obtain rfl := Option.some.inj ho
          have d2 : lp.getD 2 false = true := hdep { on := 2, ground := .data } (by simp) rfl
          have e78 : a'.tmps[78]? = some (.int .u32 Sc) := (hS.don 2 _ 78 rfl d2 rfl).trans (by simp only [putAll, Act.put, List.setIfInBounds_toArray, List.set_cons_zero, List.set_cons_succ]; rfl)
          have d3 : lp.getD 3 false = true := hdep { on := 3, ground := .data } (by simp) rfl
          have e79 : a'.tmps[79]? = some (.int .u32 S0) := (hS.don 3 _ 79 rfl d3 rfl).trans (by simp only [putAll, Act.put, List.setIfInBounds_toArray, List.set_cons_zero, List.set_cons_succ]; rfl)
          have hK' := hK g w' (fun _ _ _ _ _ _ => rfl) (by rw [hfl 1 (by decide), hfl 12 (by decide)]; exact hR) (.bool true) (by simp only [valO, Option.bind_some]; (try simp only [putAll, Act.put, List.setIfInBounds_toArray, List.set_cons_zero, List.set_cons_succ]); (try rfl))
          clear hS hdep hR
          refine gh_quietT (v := .bool true) ?_ ?_
          · (simp only [execOp, Act.eval, e78, e79]; go_simp; first | done | (simp; done) | (simp [*]; done) | omega | (rw [IntKind.wrap_i64]; omega))
          · exact hK'
        | 5, ho, hun, hdep, hK, hfl, _ =>
          obtain rfl := Option.some.inj ho
          have d4 : lp.getD 4 false = true := hdep { on := 4, ground := .data } (by simp) rfl
          have e80 : a'.tmps[80]? = some (.bool true) := (hS.don 4 _ 80 rfl d4 rfl).trans (by simp only [putAll, Act.put, List.setIfInBounds_toArray, List.set_cons_zero, List.set_cons_succ]; rfl)
          have hK' := hK g w' (fun _ _ _ _ _ _ => rfl) (by rw [hfl 1 (by decide), hfl 12 (by decide)]; exact hR) (.bool true) (by simp only [valO, Option.bind_some]; (try simp only [putAll, Act.put, List.setIfInBounds_toArray, List.set_cons_zero, List.set_cons_succ]); (try rfl))
          clear hS hdep hR
          refine gh_quietT (v := .bool true) ?_ ?_
          · (simp only [execOp, Act.eval, e80]; go_simp; first | done | (simp; done) | (simp [*]; done) | omega | (rw [IntKind.wrap_i64]; omega))
          · exact hK'
        | 6, ho, hun, hdep, hK, hfl, _ =>
          obtain rfl := Option.some.inj ho
          have o0 : a'.tmps[0]? = some (.slice vo l.length vc0) := (hS.oldT 0 (by simp)).trans rfl
          have hK' := hK g w' (fun _ _ _ _ _ _ => rfl) (by rw [hfl 1 (by decide), hfl 12 (by decide)]; exact hR) (.slice vo l.length vc0) (by simp only [valO, Option.bind_some]; (try simp only [putAll, Act.put, List.setIfInBounds_toArray, List.set_cons_zero, List.set_cons_succ]); (try rfl))
          clear hS hdep hR
          refine gh_quietT (v := .slice vo l.length vc0) ?_ ?_
          · (simp only [execOp, Act.eval, o0]; go_simp; first | done | (simp; done) | (simp [*]; done) | omega | (rw [IntKind.wrap_i64]; omega))
          · exact hK'
        | 7, ho, hun, hdep, hK, hfl, _ =>
          obtain rfl := Option.some.inj ho
          have o12 : a'.tmps[12]? = some (.int .i64 (k : Int)) := (hS.oldT 12 (by simp)).trans rfl
          have hK' := hK g w' (fun _ _ _ _ _ _ => rfl) (by rw [hfl 1 (by decide), hfl 12 (by decide)]; exact hR) (.int .i64 (k : Int)) (by simp only [valO, Option.bind_some]; (try simp only [putAll, Act.put, List.setIfInBounds_toArray, List.set_cons_zero, List.set_cons_succ]); (try rfl))
          clear hS hdep hR
          refine gh_quietT (v := .int .i64 (k : Int)) ?_ ?_
          · (simp only [execOp, Act.eval, o12]; go_simp; first | done | (simp; done) | (simp [*]; done) | omega | (rw [IntKind.wrap_i64]; omega))
          · exact hK'
        | 8, ho, hun, hdep, hK, hfl, _ =>
          obtain rfl := Option.some.inj ho
          have d6 : lp.getD 6 false = true := hdep { on := 6, ground := .data } (by simp) rfl
          have e82 : a'.tmps[82]? = some (.slice vo l.length vc0) := (hS.don 6 _ 82 rfl d6 rfl).trans (by simp only [putAll, Act.put, List.setIfInBounds_toArray, List.set_cons_zero, List.set_cons_succ]; rfl)
          have d7 : lp.getD 7 false = true := hdep { on := 7, ground := .data } (by simp) rfl
          have e83 : a'.tmps[83]? = some (.int .i64 (k : Int)) := (hS.don 7 _ 83 rfl d7 rfl).trans (by simp only [putAll, Act.put, List.setIfInBounds_toArray, List.set_cons_zero, List.set_cons_succ]; rfl)
          have hK' := hK g w' (fun _ _ _ _ _ _ => rfl) (by rw [hfl 1 (by decide), hfl 12 (by decide)]; exact hR) (.slice vo k vc0) (by simp only [valO, Option.bind_some]; simp only [putAll, Act.put, List.setIfInBounds_toArray, List.set_cons_zero, List.set_cons_succ]; rfl)
          clear hS hdep hR
          refine gh_quietT (v := .slice vo k vc0) ?_ ?_
          · (simp only [execOp, Act.eval, Option.map_some, Option.map_none, Array.getD_eq_getD_getElem?, e82, e83, Option.getD_some]; exact exT (HSt.out w'))
          · exact hK'
        | 9, ho, hun, hdep, hK, hfl, _ =>
          obtain rfl := Option.some.inj ho
          have o0 : a'.tmps[0]? = some (.slice vo l.length vc0) := (hS.oldT 0 (by simp)).trans rfl
          have hK' := hK g w' (fun _ _ _ _ _ _ => rfl) (by rw [hfl 1 (by decide), hfl 12 (by decide)]; exact hR) (.slice vo l.length vc0) (by simp only [valO, Option.bind_some]; (try simp only [putAll, Act.put, List.setIfInBounds_toArray, List.set_cons_zero, List.set_cons_succ]); (try rfl))
          clear hS hdep hR
          refine gh_quietT (v := .slice vo l.length vc0) ?_ ?_
          · (simp only [execOp, Act.eval, o0]; go_simp; first | done | (simp; done) | (simp [*]; done) | omega | (rw [IntKind.wrap_i64]; omega))
          · exact hK'
        | 10, ho, hun, hdep, hK, hfl, _ =>
          obtain rfl := Option.some.inj ho
          have o12 : a'.tmps[12]? = some (.int .i64 (k : Int)) := (hS.oldT 12 (by simp)).trans rfl
          have hK' := hK g w' (fun _ _ _ _ _ _ => rfl) (by rw [hfl 1 (by decide), hfl 12 (by decide)]; exact hR) (.int .i64 (k : Int)) (by simp only [valO, Option.bind_some]; (try simp only [putAll, Act.put, List.setIfInBounds_toArray, List.set_cons_zero, List.set_cons_succ]); (try rfl))
          clear hS hdep hR
          refine gh_quietT (v := .int .i64 (k : Int)) ?_ ?_
          · (simp only [execOp, Act.eval, o12]; go_simp; first | done | (simp; done) | (simp [*]; done) | omega | (rw [IntKind.wrap_i64]; omega))
          · exact hK'
        | 11, ho, hun, hdep, hK, hfl, _ =>
          obtain rfl := Option.some.inj ho
          have d9 : lp.getD 9 false = true := hdep { on := 9, ground := .data } (by simp) rfl
          have e85 : a'.tmps[85]? = some (.slice vo l.length vc0) := (hS.don 9 _ 85 rfl d9 rfl).trans (by simp only [putAll, Act.put, List.setIfInBounds_toArray, List.set_cons_zero, List.set_cons_succ]; rfl)
          have d10 : lp.getD 10 false = true := hdep { on := 10, ground := .data } (by simp) rfl
          have e86 : a'.tmps[86]? = some (.int .i64 (k : Int)) := (hS.don 10 _ 86 rfl d10 rfl).trans (by simp only [putAll, Act.put, List.setIfInBounds_toArray, List.set_cons_zero, List.set_cons_succ]; rfl)
          have hK' := hK g w' (fun _ _ _ _ _ _ => rfl) (by rw [hfl 1 (by decide), hfl 12 (by decide)]; exact hR) (.slice vdo nd vdc) (by simp only [valO, Option.bind_some]; simp only [putAll, Act.put, List.setIfInBounds_toArray, List.set_cons_zero, List.set_cons_succ]; rfl)
          clear hS hdep hR
          refine gh_quietT (v := .slice vdo nd vdc) ?_ ?_
          · (simp only [execOp, Act.eval, Option.map_some, Option.map_none, Array.getD_eq_getD_getElem?, e85, e86, Option.getD_some]; exact exT (HSl.out w'))
          · exact hK'
        | 12, ho, hun, hdep, hK, hfl, _ =>
          obtain rfl := Option.some.inj ho
          have d8 : lp.getD 8 false = true := hdep { on := 8, ground := .data } (by simp) rfl
          have e84 : a'.tmps[84]? = some (.slice vo k vc0) := (hS.don 8 _ 84 rfl d8 rfl).trans (by simp only [putAll, Act.put, List.setIfInBounds_toArray, List.set_cons_zero, List.set_cons_succ]; rfl)
          have d11 : lp.getD 11 false = true := hdep { on := 11, ground := .data } (by simp) rfl
          have e87 : a'.tmps[87]? = some (.slice vdo nd vdc) := (hS.don 11 _ 87 rfl d11 rfl).trans (by simp only [putAll, Act.put, List.setIfInBounds_toArray, List.set_cons_zero, List.set_cons_succ]; rfl)
          have q := bl1 w' (.cells #[.slice vo k vc0, .slice vdo nd vdc] 24)
          have hK' := hK (g.1, w'.heap.size) (w'.alloc (.cells #[.slice vo k vc0, .slice vdo nd vdc] 24)) (fun k' ok s hk hl hd => gh_sameT (d := 88) (s := s) (by simp only [putAll, Act.put, List.setIfInBounds_toArray, List.set_cons_zero, List.set_cons_succ]; rfl) (by rintro rfl; have := dstG_of (by kernel_rfl) k' 12 ok _ 88 hk rfl hd rfl; subst this; rw [hun] at hl; cases hl)) (by rw [hfl 1 (by decide), getD_set_same (by rw [hsz]; decide)]; exact ⟨⟨keepb q hR.e.1, own_b13 q hR.e.2⟩, fun h => keepc q (hR.a h), fun _ => (by simp [go_sem])⟩) (.slice (some ⟨w'.heap.size, 0, none⟩) 2 2) (by simp only [valO, Option.bind_some]; simp only [putAll, Act.put, List.setIfInBounds_toArray, List.set_cons_zero, List.set_cons_succ]; rfl)
          clear hS hdep hR hK
          unfold Oper.wp
          simp only [execOp, Act.eval, Array.getD_eq_getD_getElem?]
          simp [go_sem, e84, e87, Oper.upon]
          exact hK'
        | 13, ho, hun, hdep, hK, hfl, _ =>
          obtain rfl := Option.some.inj ho
          have d12 : lp.getD 12 false = true := hdep { on := 12, ground := .data } (by simp) rfl
          have e88 : a'.tmps[88]? = some (.slice (some ⟨g.2, 0, none⟩) 2 2) := (hS.don 12 _ 88 rfl d12 rfl).trans (by simp only [putAll, Act.put, List.setIfInBounds_toArray, List.set_cons_zero, List.set_cons_succ]; rfl)
          have KC := K89.out w' g.2 hR.e.1 (hR.b d12).1 (hR.b d12).2
          clear hdep
          unfold Oper.wp
          simp only [execOp, Act.eval]
          simp [go_sem, e88, Oper.upon]
          refine KC.mono ?_
          rintro e W2 ⟨rfl, hw2⟩
          replace hw2 := hw2.symm
          subst hw2
          exact hK g w' (fun _ _ _ _ _ _ => rfl) (by rw [hfl 1 (by decide), hfl 12 (by decide)]; exact hR) _ (by simp only [valO, Option.bind_some]; simp only [putAll, Act.put, List.setIfInBounds_toArray, List.set_cons_zero, List.set_cons_succ]; rfl)
        | 14, ho, hun, hdep, hK, hfl, _ =>
          obtain rfl := Option.some.inj ho
          have o9 : a'.tmps[9]? = some (.int .u32 S0) := (hS.oldT 9 (by simp)).trans rfl
          have hK' := hK g w' (fun _ _ _ _ _ _ => rfl) (by rw [hfl 1 (by decide), hfl 12 (by decide)]; exact hR) (.int .u32 S0) (by simp only [valO, Option.bind_some]; (try simp only [putAll, Act.put, List.setIfInBounds_toArray, List.set_cons_zero, List.set_cons_succ]); (try rfl))
          clear hS hdep hR
          refine gh_quietT (v := .int .u32 S0) ?_ ?_
          · (simp only [execOp, Act.eval, o9]; go_simp; first | done | (simp; done) | (simp [*]; done) | omega | (rw [IntKind.wrap_i64]; omega))
          · exact hK'
        | 15, ho, hun, hdep, hK, hfl, _ =>
          obtain rfl := Option.some.inj ho
          have d13 : lp.getD 13 false = true := hdep { on := 13, ground := .data } (by simp) rfl
          have e89 : a'.tmps[89]? = some (.int .u32 S0) := (hS.don 13 _ 89 rfl d13 rfl).trans (by simp only [putAll, Act.put, List.setIfInBounds_toArray, List.set_cons_zero, List.set_cons_succ]; rfl)
          have d14 : lp.getD 14 false = true := hdep { on := 14, ground := .data } (by simp) rfl
          have e90 : a'.tmps[90]? = some (.int .u32 S0) := (hS.don 14 _ 90 rfl d14 rfl).trans (by simp only [putAll, Act.put, List.setIfInBounds_toArray, List.set_cons_zero, List.set_cons_succ]; rfl)
          have hK' := hK g w' (fun _ _ _ _ _ _ => rfl) (by rw [hfl 1 (by decide), hfl 12 (by decide)]; exact hR) (.bool true) (by simp only [valO, Option.bind_some]; (try simp only [putAll, Act.put, List.setIfInBounds_toArray, List.set_cons_zero, List.set_cons_succ]); (try rfl))
          clear hS hdep hR
          refine gh_quietT (v := .bool true) ?_ ?_
          · (simp only [execOp, Act.eval, e89, e90]; go_simp; first | done | (simp; done) | (simp [*]; done) | omega | (rw [IntKind.wrap_i64]; omega))
          · exact hK'
        | 16, ho, hun, hdep, hK, hfl, _ =>
          obtain rfl := Option.some.inj ho
          have d5 : lp.getD 5 false = true := hdep { on := 5, ground := .data } (by simp) rfl
          have e81 : a'.tmps[81]? = some (.bool true) := (hS.don 5 _ 81 rfl d5 rfl).trans (by simp only [putAll, Act.put, List.setIfInBounds_toArray, List.set_cons_zero, List.set_cons_succ]; rfl)
          have d15 : lp.getD 15 false = true := hdep { on := 15, ground := .data } (by simp) rfl
          have e91 : a'.tmps[91]? = some (.bool true) := (hS.don 15 _ 91 rfl d15 rfl).trans (by simp only [putAll, Act.put, List.setIfInBounds_toArray, List.set_cons_zero, List.set_cons_succ]; rfl)
          have hK' := hK g w' (fun _ _ _ _ _ _ => rfl) (by rw [hfl 1 (by decide), hfl 12 (by decide)]; exact hR) (.bool true) (by simp only [valO, Option.bind_some]; (try simp only [putAll, Act.put, List.setIfInBounds_toArray, List.set_cons_zero, List.set_cons_succ]); (try rfl))
          clear hS hdep hR
          refine gh_quietT (v := .bool true) ?_ ?_
          · (simp only [execOp, Act.eval, e81, e91]; go_simp; first | done | (simp; done) | (simp [*]; done) | omega | (rw [IntKind.wrap_i64]; omega))
          · exact hK'
        | 17, ho, hun, hdep, hK, hfl, _ =>
          obtain rfl := Option.some.inj ho
          have d16 : lp.getD 16 false = true := hdep { on := 16, ground := .data } (by simp) rfl
          have e92 : a'.tmps[92]? = some (.bool true) := (hS.don 16 _ 92 rfl d16 rfl).trans (by simp only [putAll, Act.put, List.setIfInBounds_toArray, List.set_cons_zero, List.set_cons_succ]; rfl)
          have hK' := hK g w' (fun _ _ _ _ _ _ => rfl) (by rw [hfl 1 (by decide), hfl 12 (by decide)]; exact hR) (.bool true) (by simp only [valO, Option.bind_some]; (try simp only [putAll, Act.put, List.setIfInBounds_toArray, List.set_cons_zero, List.set_cons_succ]); (try rfl))
          clear hS hdep hR
          refine gh_quietT (v := .bool true) ?_ ?_
          · (simp only [execOp, Act.eval, e92]; go_simp; first | done | (simp; done) | (simp [*]; done) | omega | (rw [IntKind.wrap_i64]; omega))
          · exact hK'
        | 18, ho, hun, hdep, hK, hfl, _ =>
          obtain rfl := Option.some.inj ho
          have o14 : a'.tmps[14]? = some (.int .i64 0) := (hS.oldT 14 (by simp)).trans rfl
          have hK' := hK g w' (fun _ _ _ _ _ _ => rfl) (by rw [hfl 1 (by decide), hfl 12 (by decide)]; exact hR) (.int .i64 0) (by simp only [valO, Option.bind_some]; (try simp only [putAll, Act.put, List.setIfInBounds_toArray, List.set_cons_zero, List.set_cons_succ]); (try rfl))
          clear hS hdep hR
          refine gh_quietT (v := .int .i64 0) ?_ ?_
          · (simp only [execOp, Act.eval, o14]; go_simp; first | done | (simp; done) | (simp [*]; done) | omega | (rw [IntKind.wrap_i64]; omega))
          · exact hK'
        | 19, ho, hun, hdep, hK, hfl, _ =>
          obtain rfl := Option.some.inj ho
          have d18 : lp.getD 18 false = true := hdep { on := 18, ground := .data } (by simp) rfl
          have e94 : a'.tmps[94]? = some (.int .i64 0) := (hS.don 18 _ 94 rfl d18 rfl).trans (by simp only [putAll, Act.put, List.setIfInBounds_toArray, List.set_cons_zero, List.set_cons_succ]; rfl)
          have hK' := hK g w' (fun _ _ _ _ _ _ => rfl) (by rw [hfl 1 (by decide), hfl 12 (by decide)]; exact hR) (.bool true) (by simp only [valO, Option.bind_some]; (try simp only [putAll, Act.put, List.setIfInBounds_toArray, List.set_cons_zero, List.set_cons_succ]); (try rfl))
          clear hS hdep hR
          refine gh_quietT (v := .bool true) ?_ ?_
          · (simp only [execOp, Act.eval, e94]; go_simp; first | done | (simp; done) | (simp [*]; done) | omega | (rw [IntKind.wrap_i64]; omega))
          · exact hK'
        | 20, ho, hun, hdep, hK, hfl, _ =>
          obtain rfl := Option.some.inj ho
          have d17 : lp.getD 17 false = true := hdep { on := 17, ground := .data } (by simp) rfl
          have e93 : a'.tmps[93]? = some (.bool true) := (hS.don 17 _ 93 rfl d17 rfl).trans (by simp only [putAll, Act.put, List.setIfInBounds_toArray, List.set_cons_zero, List.set_cons_succ]; rfl)
          have d19 : lp.getD 19 false = true := hdep { on := 19, ground := .data } (by simp) rfl
          have e95 : a'.tmps[95]? = some (.bool true) := (hS.don 19 _ 95 rfl d19 rfl).trans (by simp only [putAll, Act.put, List.setIfInBounds_toArray, List.set_cons_zero, List.set_cons_succ]; rfl)
          have hK' := hK g w' (fun _ _ _ _ _ _ => rfl) (by rw [hfl 1 (by decide), hfl 12 (by decide)]; exact hR) (.bool true) (by simp only [valO, Option.bind_some]; (try simp only [putAll, Act.put, List.setIfInBounds_toArray, List.set_cons_zero, List.set_cons_succ]); (try rfl))
          clear hS hdep hR
          refine gh_quietT (v := .bool true) ?_ ?_
          · (simp only [execOp, Act.eval, e93, e95]; go_simp; first | done | (simp; done) | (simp [*]; done) | omega | (rw [IntKind.wrap_i64]; omega))
          · exact hK'
        | 21, ho, hun, hdep, hK, hfl, _ =>
          obtain rfl := Option.some.inj ho
          have d20 : lp.getD 20 false = true := hdep { on := 20, ground := .data } (by simp) rfl
          have e96 : a'.tmps[96]? = some (.bool true) := (hS.don 20 _ 96 rfl d20 rfl).trans (by simp only [putAll, Act.put, List.setIfInBounds_toArray, List.set_cons_zero, List.set_cons_succ]; rfl)
          have hK' := hK g w' (fun _ _ _ _ _ _ => rfl) (by rw [hfl 1 (by decide), hfl 12 (by decide)]; exact hR) (.bool true) (by simp only [valO, Option.bind_some]; (try simp only [putAll, Act.put, List.setIfInBounds_toArray, List.set_cons_zero, List.set_cons_succ]); (try rfl))
          clear hS hdep hR
          refine gh_quietT (v := .bool true) ?_ ?_
          · (simp only [execOp, Act.eval, e96]; go_simp; first | done | (simp; done) | (simp [*]; done) | omega | (rw [IntKind.wrap_i64]; omega))
          · exact hK'
        | 22, ho, hun, hdep, hK, hfl, _ =>
          obtain rfl := Option.some.inj ho
          have o13 : a'.tmps[13]? = some (.int .u32 S0) := (hS.oldT 13 (by simp)).trans rfl
          have hK' := hK g w' (fun _ _ _ _ _ _ => rfl) (by rw [hfl 1 (by decide), hfl 12 (by decide)]; exact hR) (.int .u32 S0) (by simp only [valO, Option.bind_some]; (try simp only [putAll, Act.put, List.setIfInBounds_toArray, List.set_cons_zero, List.set_cons_succ]); (try rfl))
          clear hS hdep hR
          refine gh_quietT (v := .int .u32 S0) ?_ ?_
          · (simp only [execOp, Act.eval, o13]; go_simp; first | done | (simp; done) | (simp [*]; done) | omega | (rw [IntKind.wrap_i64]; omega))
          · exact hK'
        | 23, ho, hun, hdep, hK, hfl, _ =>
          obtain rfl := Option.some.inj ho
          have o9 : a'.tmps[9]? = some (.int .u32 S0) := (hS.oldT 9 (by simp)).trans rfl
          have hK' := hK g w' (fun _ _ _ _ _ _ => rfl) (by rw [hfl 1 (by decide), hfl 12 (by decide)]; exact hR) (.int .u32 S0) (by simp only [valO, Option.bind_some]; (try simp only [putAll, Act.put, List.setIfInBounds_toArray, List.set_cons_zero, List.set_cons_succ]); (try rfl))
          clear hS hdep hR
          refine gh_quietT (v := .int .u32 S0) ?_ ?_
          · (simp only [execOp, Act.eval, o9]; go_simp; first | done | (simp; done) | (simp [*]; done) | omega | (rw [IntKind.wrap_i64]; omega))
          · exact hK'
        | 24, ho, hun, hdep, hK, hfl, _ =>
          obtain rfl := Option.some.inj ho
          have d22 : lp.getD 22 false = true := hdep { on := 22, ground := .data } (by simp) rfl
          have e98 : a'.tmps[98]? = some (.int .u32 S0) := (hS.don 22 _ 98 rfl d22 rfl).trans (by simp only [putAll, Act.put, List.setIfInBounds_toArray, List.set_cons_zero, List.set_cons_succ]; rfl)
          have d23 : lp.getD 23 false = true := hdep { on := 23, ground := .data } (by simp) rfl
          have e99 : a'.tmps[99]? = some (.int .u32 S0) := (hS.don 23 _ 99 rfl d23 rfl).trans (by simp only [putAll, Act.put, List.setIfInBounds_toArray, List.set_cons_zero, List.set_cons_succ]; rfl)
          have hK' := hK g w' (fun _ _ _ _ _ _ => rfl) (by rw [hfl 1 (by decide), hfl 12 (by decide)]; exact hR) (.bool true) (by simp only [valO, Option.bind_some]; (try simp only [putAll, Act.put, List.setIfInBounds_toArray, List.set_cons_zero, List.set_cons_succ]); (try rfl))
          clear hS hdep hR
          refine gh_quietT (v := .bool true) ?_ ?_
          · (simp only [execOp, Act.eval, e98, e99]; go_simp; first | done | (simp; done) | (simp [*]; done) | omega | (rw [IntKind.wrap_i64]; omega))
          · exact hK'
        | 25, ho, hun, hdep, hK, hfl, _ =>
          obtain rfl := Option.some.inj ho
          have d21 : lp.getD 21 false = true := hdep { on := 21, ground := .data } (by simp) rfl
          have e97 : a'.tmps[97]? = some (.bool true) := (hS.don 21 _ 97 rfl d21 rfl).trans (by simp only [putAll, Act.put, List.setIfInBounds_toArray, List.set_cons_zero, List.set_cons_succ]; rfl)
          have d24 : lp.getD 24 false = true := hdep { on := 24, ground := .data } (by simp) rfl
          have e100 : a'.tmps[100]? = some (.bool true) := (hS.don 24 _ 100 rfl d24 rfl).trans (by simp only [putAll, Act.put, List.setIfInBounds_toArray, List.set_cons_zero, List.set_cons_succ]; rfl)
          have hK' := hK g w' (fun _ _ _ _ _ _ => rfl) (by rw [hfl 1 (by decide), hfl 12 (by decide)]; exact hR) (.bool true) (by simp only [valO, Option.bind_some]; (try simp only [putAll, Act.put, List.setIfInBounds_toArray, List.set_cons_zero, List.set_cons_succ]); (try rfl))
          clear hS hdep hR
          refine gh_quietT (v := .bool true) ?_ ?_
          · (simp only [execOp, Act.eval, e97, e100]; go_simp; first | done | (simp; done) | (simp [*]; done) | omega | (rw [IntKind.wrap_i64]; omega))
          · exact hK'
        | 26, ho, hun, hdep, hK, hfl, _ =>
          obtain rfl := Option.some.inj ho
          have d25 : lp.getD 25 false = true := hdep { on := 25, ground := .data } (by simp) rfl
          have e101 : a'.tmps[101]? = some (.bool true) := (hS.don 25 _ 101 rfl d25 rfl).trans (by simp only [putAll, Act.put, List.setIfInBounds_toArray, List.set_cons_zero, List.set_cons_succ]; rfl)
          have hK' := hK g w' (fun _ _ _ _ _ _ => rfl) (by rw [hfl 1 (by decide), hfl 12 (by decide)]; exact hR) (.bool true) (by simp only [valO, Option.bind_some]; (try simp only [putAll, Act.put, List.setIfInBounds_toArray, List.set_cons_zero, List.set_cons_succ]); (try rfl))
          clear hS hdep hR
          refine gh_quietT (v := .bool true) ?_ ?_
          · (simp only [execOp, Act.eval, e101]; go_simp; first | done | (simp; done) | (simp [*]; done) | omega | (rw [IntKind.wrap_i64]; omega))
          · exact hK'
        | n + 27, ho, hun, hdep, hK, hfl, hq => exact absurd hq (by omega)
      case fin11 =>
        intro g V11 hR
        have HB11 := hid13 hR.e.1
        simp only [putAll, Act.put, List.setIfInBounds_toArray, List.set_cons_zero, List.set_cons_succ]
        clear hR HB10 HO10
        refine wl_nilT (P := Tryd.prog) (ops := #[]) ?_
        go_wp2
        go_ret
        exact ⟨rfl, HB11.out⟩
end Go.Proofs.YtdmogkajpginmaaDoor
