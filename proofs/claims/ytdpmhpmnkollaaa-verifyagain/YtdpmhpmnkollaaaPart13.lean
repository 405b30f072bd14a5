/-
  Part 13 of the proof: 1 texts, one behind the other.
-/
import Derived.Test.YtdpmhpmnkollaaaPart11
import Derived.Test.YtdpmhpmnkollaaaPart4
namespace Go.Proofs.Ytdpmhpmnkollaaa
open Go.RowKit
set_option linter.unusedSimpArgs false
set_option linter.unusedVariables false

theorem make0_18 (w : World) (j0 : TypeInfo) (ji : Try.prog.info? 135 = some j0) (jz0 : j0.zero = some (.agg #[.bool false, .int .i64 0])) (jz1 : j0.size = 2) (jz2 : j0.bytes = 16) (M : Nat) (hM : M ≤ 100000000) :
    ∃ cur, (Instr.makeSlice 109 (.int .i64 0) (.int .i64 (M : Int))).run Try.prog w = .ok (.slice (some ⟨w.heap.size, 0, none⟩) 0 M) (w.alloc (.cells cur 135)) ∧ cur.size = M * 2 := by
  have hr := run_make (P := Try.prog) w 109 135 j0 _ Try.underlying109 ji jz0 .i64 .i64 0 (M : Int) (by omega) (by omega) (by rw [jz2]; omega) (by omega)
  simp only [Int.toNat_natCast, Int.toNat_zero] at hr
  exact ⟨_, hr, by rw [size_madeCells, jz1]⟩
structure RK (R A : World → Prop) (C E : Nat → World → Prop) (mk st : Bool) (g : Nat) (X : World) : Prop where
  r : R X
  a : mk = false → A X
  c : mk = true → st = false → C g X
  e : st = true → E g X
  p : st = true → mk = true
set_option maxRecDepth 20000 in
set_option maxHeartbeats 16000000 in
theorem index_any18 (w : World) (base G : Nat) (co : Option Addr) (cl cc : Nat) (a l : Int) (vb : Value) (L : List Bv) (P : List PB) (h : RdR w base G (.slice co cl cc) a l vb L P) (k : Nat) (p : PB) (hk : L.length = k + 1) (hp : P[k]? = some p) (O N : Int) (v : Value) (m : List (BitVec 32)) (hv : w.ownsRow base 96 1 v m.length (m.map cU)) (hm : m.length ≤ 524288) (hl : L.length ≤ 2000000) (ha : 0 ≤ a ∧ a ≤ (cl : Int) / 4) (hcl : cl ≤ 1000000000) :
    Calls Try.prog 104 #[.pointer (some ⟨G, 0, none⟩), .agg #[.int .i64 O, .int .i64 N, v]] w fun e w' => (N ≠ p.t → e = .returned (.int .i64 25) ∧ RdQ w' base G (.slice co cl cc) a l P) ∧ (N = p.t → e = .returned (.int .i64 0) ∧ RdQ w' base G (.slice co cl cc) a (sumW m m.length : Nat) (P.set k { p with m := m, es := [] })) ∧ Below base w w' ∧ Kt w w' := by
  obtain ⟨j0, ji, jz0, jz1, jz2⟩ := info13 Try.infoE18
  obtain ⟨y, hy, hyo⟩ := h.b.get hp
  obtain ⟨g0, bc, hvb, -⟩ := own_some18 h.b.o (by omega)
  rw [hk] at hvb
  subst hvb
  obtain ⟨so, sc, hvs⟩ := own_form hv
  subst hvs
  obtain ⟨Wb, hWb⟩ : ∃ Wb, Wb = w.alloc (.cells #[.int .i64 O, .int .i64 N, .slice so m.length sc] 67) := ⟨_, rfl⟩
  have q0 := bl1 w (.cells #[.int .i64 O, .int .i64 N, .slice so m.length sc] 67)
  rw [← hWb] at q0
  have hbs : base ≤ w.heap.size := Nat.le_of_lt (Nat.lt_of_le_of_lt h.bG (lt_16 h.g))
  have hA0 := h.below q0
  have KL := last_any18 G g0 (k + 1) bc Wb hA0.c2 (by omega) (by omega)
  rw [Nat.add_sub_cancel] at KL
  have HBx : Hid (∀ X, Kt Wb X → X.cell? ⟨w.heap.size, 1, none⟩ = some (.int .i64 N) ∧ X.cell? ⟨w.heap.size, 2, none⟩ = some (.slice so m.length sc)) := hid13 (fun X hX => by
    have := hX.2 w.heap.size _ _ _ (by rw [hWb]; exact new_16 _ _) (by unfold vTy; decide)
    exact ⟨at_16 this 1 _ rfl, at_16 this 2 _ rfl⟩)
  have HWb0 : Hid (Wb.heap[w.heap.size]? = some (.cells #[.int .i64 O, .int .i64 N, .slice so m.length sc] 67)) := by rw [hWb]; exact new_16 _ _
  have HA0 := hid13 hA0
  have HV := hid13 (own_b13 q0 hv)
  have HQ0 : Hid (Below base w Wb ∧ Kt w Wb) := ⟨q0.mono hbs, Kt.below q0⟩
  have HY : Hid (L[k]? = some y ∧ P[k]? = some p ∧ L.length = k + 1 ∧ y.t = p.t) := ⟨hy, hp, hk, hyo.2.1⟩
  have HN : Hid (L.length ≤ 2000000 ∧ m.length ≤ 524288 ∧ 0 ≤ a ∧ a ≤ (cl : Int) / 4 ∧ cl ≤ 1000000000) := ⟨hl, hm, ha.1, ha.2, hcl⟩
  have HRd : Hid (∀ X L' P' l', RdR X base G (.slice co cl cc) a l' (.slice (some ⟨g0, 0, none⟩) (k + 1) bc) L' P' → ∀ y', L'[k]? = some y' → L'.length = k + 1 → X.cell? ⟨g0, k * 4 + 1, none⟩ = some (.int .i64 y'.t) ∧ X.cell? ⟨g0, k * 4 + 2, none⟩ = some y'.vs ∧ X.cell? ⟨g0, k * 4 + 3, none⟩ = some y'.ve ∧ X.frozen? ⟨g0, k * 4 + 2, none⟩ = false ∧ X.frozen? ⟨g0, k * 4 + 3, none⟩ = false) := hid13 (fun X L' P' l' hX y' hy' hk' => by
    have o1 := hX.b.o
    rw [hk'] at o1
    obtain ⟨-, r1, r2, r3⟩ := rowB8_get L' k y' hy'
    exact ⟨(own_at18 o1 r1).1, (own_at18 o1 r2).1, (own_at18 o1 r3).1, (own_at18 o1 r2).2, (own_at18 o1 r3).2⟩)
  obtain ⟨pt, hpt⟩ : ∃ pt, pt = p.t := ⟨_, rfl⟩
  rw [← hpt] at HY ⊢
  have HPt := hid13 hpt
  obtain ⟨S, hS⟩ : ∃ S, S = sumW m m.length := ⟨_, rfl⟩
  rw [← hS]
  have HSm := hid13 hS
  clear h hl hm ha hcl hv hy hyo hk hp hbs q0 hA0 hpt hS
  go_enter Try.func104, Try.ntmps104
  go_wp2_with fail
  rw [← hWb]
  refine KL.mono ?_
  rintro e W1 ⟨rfl, hb1⟩
  have HA1 := hid13 (HA0.out.below hb1)
  have HV1 := hid13 (own_b13 hb1 HV.out)
  have HKb1 := hid13 (Kt.below hb1)
  have HB1 : Hid (Below base w W1 ∧ Kt w W1) := ⟨HQ0.out.1.trans (hb1.mono (Nat.le_of_lt (Nat.lt_of_le_of_lt HA0.out.bG (lt_16 HA0.out.g)))), HQ0.out.2.trans (Kt.below hb1)⟩
  obtain ⟨x1, x2⟩ := HBx.out _ HKb1.out
  obtain ⟨c1, c2, c3, f2, f3⟩ := HRd.out _ _ _ _ HA1.out y HY.out.1 HY.out.2.2.1
  rw [HY.out.2.2.2] at c1
  have x1' : W1.drew.cell? ⟨w.heap.size, 1, none⟩ = some (.int .i64 N) := x1
  have c1' : W1.drew.cell? ⟨g0, k * 4 + 1, none⟩ = some (.int .i64 pt) := c1
  have HA2 := hid13 (HA1.out.below (W' := W1.drew) ((Below.refl _ _).drew))
  have HV2 := hid13 (own_b13 (W := W1) (w' := W1.drew) ((Below.refl _ _).drew) HV1.out)
  have HKb2 : Hid (Kt Wb W1.drew) := HKb1.out.trans (Kt.below ((Below.refl _ _).drew))
  have HB2 : Hid (Below base w W1.drew ∧ Kt w W1.drew) := ⟨HB1.out.1.drew, HB1.out.2.trans (Kt.below ((Below.refl _ _).drew))⟩
  clear KL hb1 HA0 HV HQ0 HA1 HV1 HKb1 HB1 c3 f3 hWb
  obtain ⟨c0', c2', c3', f2', f3'⟩ := HRd.out _ _ _ _ HA2.out y HY.out.1 HY.out.2.2.1
  obtain ⟨-, x2'⟩ := HBx.out _ HKb2.out
  clear c0' c3' f3'
  by_cases hNt : N = pt
  · subst hNt
    obtain ⟨cs0, hcs0⟩ := own_typed18 HA2.out.b.o g0 rfl
    have hKs : Kt W1.drew (W1.drew.setCell ⟨g0, k * 4 + 2, none⟩ (.slice so m.length sc)) := Kt.set hcs0 (.inr (.inl rfl)) _
    have hR3 : RdR (W1.drew.setCell ⟨g0, k * 4 + 2, none⟩ (.slice so m.length sc)) base G (.slice co cl cc) a l (.slice (some ⟨g0, 0, none⟩) (k + 1) bc) (L.set k { y with vs := .slice so m.length sc }) (P.set k { p with m := m }) := ⟨(far_16 (fun q => by have := HA2.out.g; rw [q, hcs0] at this; injection this with this; injection this with _ h3 _; exact absurd h3 (by decide))).trans HA2.out.g, HA2.out.b.slots HY.out.1 HY.out.2.1 HV2.out, HA2.out.bG⟩
    have x3 := (HBx.out _ (HKb2.out.trans hKs)).2
    have KO := ones_any (.slice so m.length sc) m _ (by have := hR3.b.m k _ _ (List.getElem?_set_self (by have := HY.out.2.2.1; omega)) (List.getElem?_set_self (by rw [← HA2.out.b.l]; have := HY.out.2.2.1; omega)); exact own_rwx this.2.2.1) (by have := HN.out; omega)
    have HK3 := hid13 (HKb2.out.trans hKs)
    have HB3 : Hid (Below base w (W1.drew.setCell ⟨g0, k * 4 + 2, none⟩ (.slice so m.length sc)) ∧ Kt w (W1.drew.setCell ⟨g0, k * 4 + 2, none⟩ (.slice so m.length sc))) := ⟨HB2.out.1.setCell (p := ⟨g0, k * 4 + 2, none⟩) (HA2.out.b.o.lt g0 rfl).1 _, HB2.out.2.trans hKs⟩
    have HR3 := hid13 hR3
    rw [← HSm.out] at KO
    have HSb : Hid (S ≤ 32 * 524288) := hid13 (by rw [HSm.out]; have := sumW_le m m.length; have := HN.out; omega)
    have hne1 : ¬ w.heap.size = g0 := fun q => by
      have := HA2.out.b.o.lt g0 rfl
      have h9 := HKb2.out.2 w.heap.size _ _ _ HWb0.out (by unfold vTy; decide)
      rw [q, hcs0] at h9
      injection h9 with h9
      injection h9 with _ h3 _
      exact absurd h3 (by decide)
    have hne2 : ¬ g0 = w.heap.size := fun q => hne1 q.symm
    clear hKs hR3 hcs0 HKb2 HB2 HA2 HV2
    go_wp2
    go_region
    go_wp2_with fail
    refine KO.mono ?_
    rintro e W4 ⟨rfl, hb4⟩
    obtain ⟨W3, hW3⟩ : ∃ W3, W3 = W1.drew.setCell ⟨g0, k * 4 + 2, none⟩ (.slice so m.length sc) := ⟨_, rfl⟩
    rw [← hW3] at HR3 HB3 HK3 hb4
    have hR4 := HR3.out.below hb4
    have d3 := hR4.c3
    have df3 := fr_16 (j := 3) hR4.g
    have HR5 := hid13 (hR4.s3 (S : Int))
    have hbz : base ≤ W3.heap.size := Nat.le_of_lt (Nat.lt_of_le_of_lt HR3.out.bG (lt_16 HR3.out.g))
    have HB5 : Hid (Below base w (W4.setCell ⟨G, 3, none⟩ (.int .i64 (S : Int))) ∧ Kt w (W4.setCell ⟨G, 3, none⟩ (.int .i64 (S : Int)))) := ⟨hR4.bs (HB3.out.1.trans (hb4.mono hbz)) 3 _, (HB3.out.2.trans (Kt.below hb4)).trans (hR4.ks 3 _)⟩
    obtain ⟨qq, hqq⟩ : ∃ qq : Nat, qq = cl / 4 := ⟨_, rfl⟩
    obtain ⟨M, hM⟩ : ∃ M : Nat, (M : Int) = min (S : Int) ((qq : Int) - a) := ⟨(min (S : Int) ((qq : Int) - a)).toNat, by have := HN.out; omega⟩
    have HM : Hid (M ≤ 100000000) := hid13 (by have := HSb.out; show M ≤ _; omega)
    have mq : (cl : Int).tdiv 4 = (qq : Int) := by rw [Int.tdiv_eq_ediv_of_nonneg (by omega)]; omega
    have mq2 : (cl : Int) / 4 = (qq : Int) := by omega
    have mq3 : IntKind.i64.wrap (qq : Int) = (qq : Int) := by rw [IntKind.wrap_i64]; have := HN.out; omega
    have mq4 : IntKind.i64.wrap ((qq : Int) - a) = (qq : Int) - a := by rw [IntKind.wrap_i64]; have := HN.out; omega
    have mn := min_16 (S : Int) ((qq : Int) - a)
    rw [← hM] at mn
    clear x1 c1 x1' c1' c2' f2' x2' x3 c2 f2 x2 KO HR3 HB3 HK3 hb4 hR4 hbz hqq hM hW3
    go_wp2_with fail
    obtain ⟨W5, hW5⟩ : ∃ W5, W5 = W4.setCell ⟨G, 3, none⟩ (.int .i64 (S : Int)) := ⟨_, rfl⟩
    rw [← hW5] at HR5 HB5 ⊢
    clear d3 df3 hW5
    have HR0 : Hid (RK (fun X => X.cell? ⟨G, 0, none⟩ = some (.slice co cl cc) ∧ X.cell? ⟨G, 1, none⟩ = some (.int .i64 a) ∧ X.cell? ⟨G, 3, none⟩ = some (.int .i64 (S : Int))) (fun X => RdR X base G (.slice co cl cc) a (S : Int) (.slice (some ⟨g0, 0, none⟩) (k + 1) bc) (L.set k { y with vs := .slice so m.length sc }) (P.set k { p with m := m }) ∧ Below base w X ∧ Kt w X) (fun g X => ∃ X0 cur, RdR X0 base G (.slice co cl cc) a (S : Int) (.slice (some ⟨g0, 0, none⟩) (k + 1) bc) (L.set k { y with vs := .slice so m.length sc }) (P.set k { p with m := m }) ∧ Below base w X0 ∧ Kt w X0 ∧ X = X0.alloc (.cells cur 135) ∧ g = X0.heap.size ∧ cur.size = M * 2) (fun g X => RdQ X base G (.slice co cl cc) a (S : Int) (P.set k { p with m := m, es := [] }) ∧ Below base w X ∧ Kt w X) false false 0 W5.drew) := by
      have hd := HR5.out.below (W' := W5.drew) ((Below.refl _ _).drew)
      exact ⟨⟨hd.c0, hd.c1, hd.c3⟩, fun _ => ⟨hd, HB5.out.1.drew, HB5.out.2.trans (Kt.below ((Below.refl _ _).drew))⟩, fun q => (by cases q), fun q => (by cases q), fun q => (by cases q)⟩
    clear HR5 HB5
    refine gh_region (γ := Nat) (qpOk 21 21 (by decide) (fun N => by kernel_rfl) (by kernel_rfl) (by kernel_rfl) (by kernel_rfl) (by kernel_rfl)) (by kernel_rfl) (by kernel_rfl) [some 26, some 27, some 28, some 29, some 30, some 31, some 32, some 33, some 34, some 35, some 36, some 37, some 38, some 39, some 40, some 41, some 42, some 43, some 44, some 45, none] (fun g => [.pointer (some ⟨g0, k * 4, none⟩), .pointer (some ⟨G, 0, none⟩), .pointer (some ⟨G, 0, none⟩), .pointer (some ⟨G, 3, none⟩), .int .i64 (S : Int), .pointer (some ⟨G, 0, none⟩), .pointer (some ⟨G, 0, none⟩), .pointer (some ⟨G, 0, none⟩), .slice co cl cc, .int .i64 (cl : Int), .int .i64 (qq : Int), .pointer (some ⟨G, 0, none⟩), .pointer (some ⟨G, 0, none⟩), .pointer (some ⟨G, 1, none⟩), .int .i64 a, .int .i64 ((qq : Int) - a), .int .i64 (M : Int), .slice (some ⟨g, 0, none⟩) 0 M, .pointer (some ⟨g0, k * 4, none⟩), .pointer (some ⟨g0, k * 4 + 3, none⟩), undef]) (by kernel_rfl) (by simp) (fun lp g X => RK (fun X => X.cell? ⟨G, 0, none⟩ = some (.slice co cl cc) ∧ X.cell? ⟨G, 1, none⟩ = some (.int .i64 a) ∧ X.cell? ⟨G, 3, none⟩ = some (.int .i64 (S : Int))) (fun X => RdR X base G (.slice co cl cc) a (S : Int) (.slice (some ⟨g0, 0, none⟩) (k + 1) bc) (L.set k { y with vs := .slice so m.length sc }) (P.set k { p with m := m }) ∧ Below base w X ∧ Kt w X) (fun g X => ∃ X0 cur, RdR X0 base G (.slice co cl cc) a (S : Int) (.slice (some ⟨g0, 0, none⟩) (k + 1) bc) (L.set k { y with vs := .slice so m.length sc }) (P.set k { p with m := m }) ∧ Below base w X0 ∧ Kt w X0 ∧ X = X0.alloc (.cells cur 135) ∧ g = X0.heap.size ∧ cur.size = M * 2) (fun g X => RdQ X base G (.slice co cl cc) a (S : Int) (P.set k { p with m := m, es := [] }) ∧ Below base w X ∧ Kt w X) (lp.getD 17 false) (lp.getD 20 false) g X) 0 HR0.out ?step6 ?fin6
    case step6 =>
      intro q o lp g w' a' ho hsz hun hdep hR hS K Q' hK
      have hfl : ∀ j, j ≠ q → (lp.setIfInBounds q true).getD j false = lp.getD j false := fun j hj => by rw [Array.getD_eq_getD_getElem?, Array.getD_eq_getD_getElem?, Array.getElem?_setIfInBounds_ne (by omega)]
      have hq : q < 21 := (List.getElem?_eq_some_iff.mp ho).1
      match q, ho, hun, hdep, hK, hfl, hq with
      | 0, ho, hun, hdep, hK, hfl, _ =>
        obtain rfl := Option.some.inj ho
        have o5 : a'.tmps[5]? = some (.pointer (some ⟨g0, k * 4, none⟩)) := (hS.old14 5 (by simp)).trans rfl
        have hK' := hK g w' (fun _ _ _ _ _ _ => rfl) (by rw [hfl 17 (by decide), hfl 20 (by decide)]; exact hR) (.pointer (some ⟨g0, k * 4, none⟩)) (by simp only [valO, Option.bind_some]; (try simp only [putAll, Act.put, List.setIfInBounds_toArray, List.set_cons_zero, List.set_cons_succ]); (try rfl))
        clear hS hdep hR
        refine gh_quiet14 (v := .pointer (some ⟨g0, k * 4, none⟩)) ?_ ?_
        · (simp only [execOp, Act.eval, o5]; go_simp; first | done | (simp; done) | (simp [*]; done) | omega | (rw [IntKind.wrap_i64]; omega))
        · exact hK'
      | 1, ho, hun, hdep, hK, hfl, _ =>
        obtain rfl := Option.some.inj ho
        have o0 : a'.tmps[0]? = some (.pointer (some ⟨G, 0, none⟩)) := (hS.old14 0 (by simp)).trans rfl
        have hK' := hK g w' (fun _ _ _ _ _ _ => rfl) (by rw [hfl 17 (by decide), hfl 20 (by decide)]; exact hR) (.pointer (some ⟨G, 0, none⟩)) (by simp only [valO, Option.bind_some]; (try simp only [putAll, Act.put, List.setIfInBounds_toArray, List.set_cons_zero, List.set_cons_succ]); (try rfl))
        clear hS hdep hR
        refine gh_quiet14 (v := .pointer (some ⟨G, 0, none⟩)) ?_ ?_
        · (simp only [execOp, Act.eval, o0]; go_simp; first | done | (simp; done) | (simp [*]; done) | omega | (rw [IntKind.wrap_i64]; omega))
        · exact hK'
      | 2, ho, hun, hdep, hK, hfl, _ =>
        obtain rfl := Option.some.inj ho
        have d1 : lp.getD 1 false = true := hdep { on := 1, ground := .data } (by simp) rfl
        have e27 : a'.tmps[27]? = some (.pointer (some ⟨G, 0, none⟩)) := (hS.don 1 _ 27 rfl d1 rfl).trans (by simp only [putAll, Act.put, List.setIfInBounds_toArray, List.set_cons_zero, List.set_cons_succ]; rfl)
        have hK' := hK g w' (fun _ _ _ _ _ _ => rfl) (by rw [hfl 17 (by decide), hfl 20 (by decide)]; exact hR) (.pointer (some ⟨G, 0, none⟩)) (by simp only [valO, Option.bind_some]; (try simp only [putAll, Act.put, List.setIfInBounds_toArray, List.set_cons_zero, List.set_cons_succ]); (try rfl))
        clear hS hdep hR
        refine gh_quiet14 (v := .pointer (some ⟨G, 0, none⟩)) ?_ ?_
        · (simp only [execOp, Act.eval, e27]; go_simp; first | done | (simp; done) | (simp [*]; done) | omega | (rw [IntKind.wrap_i64]; omega))
        · exact hK'
      | 3, ho, hun, hdep, hK, hfl, _ =>
        obtain rfl := Option.some.inj ho
        have d2 : lp.getD 2 false = true := hdep { on := 2, ground := .data } (by simp) rfl
        have e28 : a'.tmps[28]? = some (.pointer (some ⟨G, 0, none⟩)) := (hS.don 2 _ 28 rfl d2 rfl).trans (by simp only [putAll, Act.put, List.setIfInBounds_toArray, List.set_cons_zero, List.set_cons_succ]; rfl)
        have hK' := hK g w' (fun _ _ _ _ _ _ => rfl) (by rw [hfl 17 (by decide), hfl 20 (by decide)]; exact hR) (.pointer (some ⟨G, 3, none⟩)) (by simp only [valO, Option.bind_some]; (try simp only [putAll, Act.put, List.setIfInBounds_toArray, List.set_cons_zero, List.set_cons_succ]); (try rfl))
        clear hS hdep hR
        refine gh_quiet14 (v := .pointer (some ⟨G, 3, none⟩)) ?_ ?_
        · (simp only [execOp, Act.eval, e28]; go_simp; first | done | (simp; done) | (simp [*]; done) | omega | (rw [IntKind.wrap_i64]; omega))
        · exact hK'
      | 4, ho, hun, hdep, hK, hfl, _ =>
        obtain rfl := Option.some.inj ho
        have d3 : lp.getD 3 false = true := hdep { on := 3, ground := .data } (by simp) rfl
        have e29 : a'.tmps[29]? = some (.pointer (some ⟨G, 3, none⟩)) := (hS.don 3 _ 29 rfl d3 rfl).trans (by simp only [putAll, Act.put, List.setIfInBounds_toArray, List.set_cons_zero, List.set_cons_succ]; rfl)
        have k1 := hR.r.2.2
        have hK' := hK g w' (fun _ _ _ _ _ _ => rfl) (by rw [hfl 17 (by decide), hfl 20 (by decide)]; exact hR) (.int .i64 (S : Int)) (by simp only [valO, Option.bind_some]; (try simp only [putAll, Act.put, List.setIfInBounds_toArray, List.set_cons_zero, List.set_cons_succ]); (try rfl))
        clear hS hdep hR
        refine gh_quiet14 (v := .int .i64 (S : Int)) ?_ ?_
        · (simp only [execOp, Act.eval, e29]; go_simp; first | done | (simp; done) | (simp [*]; done) | omega | (rw [IntKind.wrap_i64]; omega))
        · exact hK'
      | 5, ho, hun, hdep, hK, hfl, _ =>
        obtain rfl := Option.some.inj ho
        have o0 : a'.tmps[0]? = some (.pointer (some ⟨G, 0, none⟩)) := (hS.old14 0 (by simp)).trans rfl
        have hK' := hK g w' (fun _ _ _ _ _ _ => rfl) (by rw [hfl 17 (by decide), hfl 20 (by decide)]; exact hR) (.pointer (some ⟨G, 0, none⟩)) (by simp only [valO, Option.bind_some]; (try simp only [putAll, Act.put, List.setIfInBounds_toArray, List.set_cons_zero, List.set_cons_succ]); (try rfl))
        clear hS hdep hR
        refine gh_quiet14 (v := .pointer (some ⟨G, 0, none⟩)) ?_ ?_
        · (simp only [execOp, Act.eval, o0]; go_simp; first | done | (simp; done) | (simp [*]; done) | omega | (rw [IntKind.wrap_i64]; omega))
        · exact hK'
      | 6, ho, hun, hdep, hK, hfl, _ =>
        obtain rfl := Option.some.inj ho
        have d5 : lp.getD 5 false = true := hdep { on := 5, ground := .data } (by simp) rfl
        have e31 : a'.tmps[31]? = some (.pointer (some ⟨G, 0, none⟩)) := (hS.don 5 _ 31 rfl d5 rfl).trans (by simp only [putAll, Act.put, List.setIfInBounds_toArray, List.set_cons_zero, List.set_cons_succ]; rfl)
        have hK' := hK g w' (fun _ _ _ _ _ _ => rfl) (by rw [hfl 17 (by decide), hfl 20 (by decide)]; exact hR) (.pointer (some ⟨G, 0, none⟩)) (by simp only [valO, Option.bind_some]; (try simp only [putAll, Act.put, List.setIfInBounds_toArray, List.set_cons_zero, List.set_cons_succ]); (try rfl))
        clear hS hdep hR
        refine gh_quiet14 (v := .pointer (some ⟨G, 0, none⟩)) ?_ ?_
        · (simp only [execOp, Act.eval, e31]; go_simp; first | done | (simp; done) | (simp [*]; done) | omega | (rw [IntKind.wrap_i64]; omega))
        · exact hK'
      | 7, ho, hun, hdep, hK, hfl, _ =>
        obtain rfl := Option.some.inj ho
        have d6 : lp.getD 6 false = true := hdep { on := 6, ground := .data } (by simp) rfl
        have e32 : a'.tmps[32]? = some (.pointer (some ⟨G, 0, none⟩)) := (hS.don 6 _ 32 rfl d6 rfl).trans (by simp only [putAll, Act.put, List.setIfInBounds_toArray, List.set_cons_zero, List.set_cons_succ]; rfl)
        have hK' := hK g w' (fun _ _ _ _ _ _ => rfl) (by rw [hfl 17 (by decide), hfl 20 (by decide)]; exact hR) (.pointer (some ⟨G, 0, none⟩)) (by simp only [valO, Option.bind_some]; (try simp only [putAll, Act.put, List.setIfInBounds_toArray, List.set_cons_zero, List.set_cons_succ]); (try rfl))
        clear hS hdep hR
        refine gh_quiet14 (v := .pointer (some ⟨G, 0, none⟩)) ?_ ?_
        · (simp only [execOp, Act.eval, e32]; go_simp; first | done | (simp; done) | (simp [*]; done) | omega | (rw [IntKind.wrap_i64]; omega))
        · exact hK'
      | 8, ho, hun, hdep, hK, hfl, _ =>
        obtain rfl := Option.some.inj ho
        have d7 : lp.getD 7 false = true := hdep { on := 7, ground := .data } (by simp) rfl
        have e33 : a'.tmps[33]? = some (.pointer (some ⟨G, 0, none⟩)) := (hS.don 7 _ 33 rfl d7 rfl).trans (by simp only [putAll, Act.put, List.setIfInBounds_toArray, List.set_cons_zero, List.set_cons_succ]; rfl)
        have k1 := hR.r.1
        have hK' := hK g w' (fun _ _ _ _ _ _ => rfl) (by rw [hfl 17 (by decide), hfl 20 (by decide)]; exact hR) (.slice co cl cc) (by simp only [valO, Option.bind_some]; (try simp only [putAll, Act.put, List.setIfInBounds_toArray, List.set_cons_zero, List.set_cons_succ]); (try rfl))
        clear hS hdep hR
        refine gh_quiet14 (v := .slice co cl cc) ?_ ?_
        · (simp only [execOp, Act.eval, e33]; go_simp; first | done | (simp; done) | (simp [*]; done) | omega | (rw [IntKind.wrap_i64]; omega))
        · exact hK'
      | 9, ho, hun, hdep, hK, hfl, _ =>
        obtain rfl := Option.some.inj ho
        have d8 : lp.getD 8 false = true := hdep { on := 8, ground := .data } (by simp) rfl
        have e34 : a'.tmps[34]? = some (.slice co cl cc) := (hS.don 8 _ 34 rfl d8 rfl).trans (by simp only [putAll, Act.put, List.setIfInBounds_toArray, List.set_cons_zero, List.set_cons_succ]; rfl)
        have hK' := hK g w' (fun _ _ _ _ _ _ => rfl) (by rw [hfl 17 (by decide), hfl 20 (by decide)]; exact hR) (.int .i64 (cl : Int)) (by simp only [valO, Option.bind_some]; (try simp only [putAll, Act.put, List.setIfInBounds_toArray, List.set_cons_zero, List.set_cons_succ]); (try rfl))
        clear hS hdep hR
        refine gh_quiet14 (v := .int .i64 (cl : Int)) ?_ ?_
        · (simp only [execOp, Act.eval, e34]; go_simp; first | done | (simp; done) | (simp [*]; done) | omega | (rw [IntKind.wrap_i64]; omega))
        · exact hK'
      | 10, ho, hun, hdep, hK, hfl, _ =>
        obtain rfl := Option.some.inj ho
        have d9 : lp.getD 9 false = true := hdep { on := 9, ground := .data } (by simp) rfl
        have e35 : a'.tmps[35]? = some (.int .i64 (cl : Int)) := (hS.don 9 _ 35 rfl d9 rfl).trans (by simp only [putAll, Act.put, List.setIfInBounds_toArray, List.set_cons_zero, List.set_cons_succ]; rfl)
        have hK' := hK g w' (fun _ _ _ _ _ _ => rfl) (by rw [hfl 17 (by decide), hfl 20 (by decide)]; exact hR) (.int .i64 (qq : Int)) (by simp only [valO, Option.bind_some]; (try simp only [putAll, Act.put, List.setIfInBounds_toArray, List.set_cons_zero, List.set_cons_succ]); (try rfl))
        clear hS hdep hR
        refine gh_quiet14 (v := .int .i64 (qq : Int)) ?_ ?_
        · (simp only [execOp, Act.eval, e35]; go_simp; first | done | (simp; done) | (simp [*]; done) | omega | (rw [IntKind.wrap_i64]; omega))
        · exact hK'
      | 11, ho, hun, hdep, hK, hfl, _ =>
        obtain rfl := Option.some.inj ho
        have o0 : a'.tmps[0]? = some (.pointer (some ⟨G, 0, none⟩)) := (hS.old14 0 (by simp)).trans rfl
        have hK' := hK g w' (fun _ _ _ _ _ _ => rfl) (by rw [hfl 17 (by decide), hfl 20 (by decide)]; exact hR) (.pointer (some ⟨G, 0, none⟩)) (by simp only [valO, Option.bind_some]; (try simp only [putAll, Act.put, List.setIfInBounds_toArray, List.set_cons_zero, List.set_cons_succ]); (try rfl))
        clear hS hdep hR
        refine gh_quiet14 (v := .pointer (some ⟨G, 0, none⟩)) ?_ ?_
        · (simp only [execOp, Act.eval, o0]; go_simp; first | done | (simp; done) | (simp [*]; done) | omega | (rw [IntKind.wrap_i64]; omega))
        · exact hK'
      | 12, ho, hun, hdep, hK, hfl, _ =>
        obtain rfl := Option.some.inj ho
        have d11 : lp.getD 11 false = true := hdep { on := 11, ground := .data } (by simp) rfl
        have e37 : a'.tmps[37]? = some (.pointer (some ⟨G, 0, none⟩)) := (hS.don 11 _ 37 rfl d11 rfl).trans (by simp only [putAll, Act.put, List.setIfInBounds_toArray, List.set_cons_zero, List.set_cons_succ]; rfl)
        have hK' := hK g w' (fun _ _ _ _ _ _ => rfl) (by rw [hfl 17 (by decide), hfl 20 (by decide)]; exact hR) (.pointer (some ⟨G, 0, none⟩)) (by simp only [valO, Option.bind_some]; (try simp only [putAll, Act.put, List.setIfInBounds_toArray, List.set_cons_zero, List.set_cons_succ]); (try rfl))
        clear hS hdep hR
        refine gh_quiet14 (v := .pointer (some ⟨G, 0, none⟩)) ?_ ?_
        · (simp only [execOp, Act.eval, e37]; go_simp; first | done | (simp; done) | (simp [*]; done) | omega | (rw [IntKind.wrap_i64]; omega))
        · exact hK'
      | 13, ho, hun, hdep, hK, hfl, _ =>
        obtain rfl := Option.some.inj ho
        have d12 : lp.getD 12 false = true := hdep { on := 12, ground := .data } (by simp) rfl
        have e38 : a'.tmps[38]? = some (.pointer (some ⟨G, 0, none⟩)) := (hS.don 12 _ 38 rfl d12 rfl).trans (by simp only [putAll, Act.put, List.setIfInBounds_toArray, List.set_cons_zero, List.set_cons_succ]; rfl)
        have hK' := hK g w' (fun _ _ _ _ _ _ => rfl) (by rw [hfl 17 (by decide), hfl 20 (by decide)]; exact hR) (.pointer (some ⟨G, 1, none⟩)) (by simp only [valO, Option.bind_some]; (try simp only [putAll, Act.put, List.setIfInBounds_toArray, List.set_cons_zero, List.set_cons_succ]); (try rfl))
        clear hS hdep hR
        refine gh_quiet14 (v := .pointer (some ⟨G, 1, none⟩)) ?_ ?_
        · (simp only [execOp, Act.eval, e38]; go_simp; first | done | (simp; done) | (simp [*]; done) | omega | (rw [IntKind.wrap_i64]; omega))
        · exact hK'
      | 14, ho, hun, hdep, hK, hfl, _ =>
        obtain rfl := Option.some.inj ho
        have d13 : lp.getD 13 false = true := hdep { on := 13, ground := .data } (by simp) rfl
        have e39 : a'.tmps[39]? = some (.pointer (some ⟨G, 1, none⟩)) := (hS.don 13 _ 39 rfl d13 rfl).trans (by simp only [putAll, Act.put, List.setIfInBounds_toArray, List.set_cons_zero, List.set_cons_succ]; rfl)
        have k1 := hR.r.2.1
        have hK' := hK g w' (fun _ _ _ _ _ _ => rfl) (by rw [hfl 17 (by decide), hfl 20 (by decide)]; exact hR) (.int .i64 a) (by simp only [valO, Option.bind_some]; (try simp only [putAll, Act.put, List.setIfInBounds_toArray, List.set_cons_zero, List.set_cons_succ]); (try rfl))
        clear hS hdep hR
        refine gh_quiet14 (v := .int .i64 a) ?_ ?_
        · (simp only [execOp, Act.eval, e39]; go_simp; first | done | (simp; done) | (simp [*]; done) | omega | (rw [IntKind.wrap_i64]; omega))
        · exact hK'
      | 15, ho, hun, hdep, hK, hfl, _ =>
        obtain rfl := Option.some.inj ho
        have d10 : lp.getD 10 false = true := hdep { on := 10, ground := .data } (by simp) rfl
        have e36 : a'.tmps[36]? = some (.int .i64 (qq : Int)) := (hS.don 10 _ 36 rfl d10 rfl).trans (by simp only [putAll, Act.put, List.setIfInBounds_toArray, List.set_cons_zero, List.set_cons_succ]; rfl)
        have d14 : lp.getD 14 false = true := hdep { on := 14, ground := .data } (by simp) rfl
        have e40 : a'.tmps[40]? = some (.int .i64 a) := (hS.don 14 _ 40 rfl d14 rfl).trans (by simp only [putAll, Act.put, List.setIfInBounds_toArray, List.set_cons_zero, List.set_cons_succ]; rfl)
        have hK' := hK g w' (fun _ _ _ _ _ _ => rfl) (by rw [hfl 17 (by decide), hfl 20 (by decide)]; exact hR) (.int .i64 ((qq : Int) - a)) (by simp only [valO, Option.bind_some]; (try simp only [putAll, Act.put, List.setIfInBounds_toArray, List.set_cons_zero, List.set_cons_succ]); (try rfl))
        clear hS hdep hR
        refine gh_quiet14 (v := .int .i64 ((qq : Int) - a)) ?_ ?_
        · (simp only [execOp, Act.eval, e36, e40]; go_simp; first | done | (simp; done) | (simp [*]; done) | omega | (rw [IntKind.wrap_i64]; omega))
        · exact hK'
      | 16, ho, hun, hdep, hK, hfl, _ =>
        obtain rfl := Option.some.inj ho
        have d4 : lp.getD 4 false = true := hdep { on := 4, ground := .data } (by simp) rfl
        have e30 : a'.tmps[30]? = some (.int .i64 (S : Int)) := (hS.don 4 _ 30 rfl d4 rfl).trans (by simp only [putAll, Act.put, List.setIfInBounds_toArray, List.set_cons_zero, List.set_cons_succ]; rfl)
        have d15 : lp.getD 15 false = true := hdep { on := 15, ground := .data } (by simp) rfl
        have e41 : a'.tmps[41]? = some (.int .i64 ((qq : Int) - a)) := (hS.don 15 _ 41 rfl d15 rfl).trans (by simp only [putAll, Act.put, List.setIfInBounds_toArray, List.set_cons_zero, List.set_cons_succ]; rfl)
        have hK' := hK g w' (fun _ _ _ _ _ _ => rfl) (by rw [hfl 17 (by decide), hfl 20 (by decide)]; exact hR) (.int .i64 (M : Int)) (by simp only [valO, Option.bind_some]; (try simp only [putAll, Act.put, List.setIfInBounds_toArray, List.set_cons_zero, List.set_cons_succ]); (try rfl))
        clear hS hdep hR
        refine gh_quiet14 (v := .int .i64 (M : Int)) ?_ ?_
        · (simp only [execOp, Act.eval, e30, e41]; go_simp; first | done | (simp; done) | (simp [*]; done) | omega | (rw [IntKind.wrap_i64]; omega))
        · exact hK'
      | 17, ho, hun, hdep, hK, hfl, _ =>
        obtain rfl := Option.some.inj ho
        have d16 : lp.getD 16 false = true := hdep { on := 16, ground := .data } (by simp) rfl
        have e42 : a'.tmps[42]? = some (.int .i64 (M : Int)) := (hS.don 16 _ 42 rfl d16 rfl).trans (by simp only [putAll, Act.put, List.setIfInBounds_toArray, List.set_cons_zero, List.set_cons_succ]; rfl)
        obtain ⟨a1, a2, a3⟩ := hR.a hun
        have hst : lp.getD 20 false = false := by
          cases h : lp.getD 20 false with
          | false => rfl
          | true => have := hR.p h; rw [hun] at this; cases this
        obtain ⟨cur, hrun, hcs⟩ := make0_18 w' j0 ji jz0 jz1 jz2 M HM.out
        have q := bl1 w' (.cells cur 135)
        have hd := a1.below q
        have hK' := hK w'.heap.size (w'.alloc (.cells cur 135)) (fun k' ok s hk hl hd => gh_same14 (d := 43) (s := s) (by simp only [putAll, Act.put, List.setIfInBounds_toArray, List.set_cons_zero, List.set_cons_succ]; rfl) (by rintro rfl; have := dstG_of (by kernel_rfl) k' 17 ok _ 43 hk rfl hd rfl; subst this; rw [hun] at hl; cases hl)) (by rw [hfl 20 (by decide), getD_set_same (by rw [hsz]; decide)]; exact ⟨⟨hd.c0, hd.c1, hd.c3⟩, fun q => (by cases q), fun _ _ => ⟨w', cur, a1, a2, a3, rfl, rfl, hcs⟩, fun q => (by rw [hst] at q; cases q), fun _ => rfl⟩) (.slice (some ⟨w'.heap.size, 0, none⟩) 0 M) (by simp only [valO, Option.bind_some]; simp only [putAll, Act.put, List.setIfInBounds_toArray, List.set_cons_zero, List.set_cons_succ]; rfl)
        clear hS hdep hR hK a1 a2 a3 q hd
        unfold Oper.wp
        simp only [execOp, Act.eval, Array.getD_eq_getD_getElem?]
        simp [go_sem, e42, Oper.upon, hrun]
        exact hK'
      | 18, ho, hun, hdep, hK, hfl, _ =>
        obtain rfl := Option.some.inj ho
        have d0 : lp.getD 0 false = true := hdep { on := 0, ground := .data } (by simp) rfl
        have e26 : a'.tmps[26]? = some (.pointer (some ⟨g0, k * 4, none⟩)) := (hS.don 0 _ 26 rfl d0 rfl).trans (by simp only [putAll, Act.put, List.setIfInBounds_toArray, List.set_cons_zero, List.set_cons_succ]; rfl)
        have hK' := hK g w' (fun _ _ _ _ _ _ => rfl) (by rw [hfl 17 (by decide), hfl 20 (by decide)]; exact hR) (.pointer (some ⟨g0, k * 4, none⟩)) (by simp only [valO, Option.bind_some]; (try simp only [putAll, Act.put, List.setIfInBounds_toArray, List.set_cons_zero, List.set_cons_succ]); (try rfl))
        clear hS hdep hR
        refine gh_quiet14 (v := .pointer (some ⟨g0, k * 4, none⟩)) ?_ ?_
        · (simp only [execOp, Act.eval, e26]; go_simp; first | done | (simp; done) | (simp [*]; done) | omega | (rw [IntKind.wrap_i64]; omega))
        · exact hK'
      | 19, ho, hun, hdep, hK, hfl, _ =>
        obtain rfl := Option.some.inj ho
        have d18 : lp.getD 18 false = true := hdep { on := 18, ground := .data } (by simp) rfl
        have e44 : a'.tmps[44]? = some (.pointer (some ⟨g0, k * 4, none⟩)) := (hS.don 18 _ 44 rfl d18 rfl).trans (by simp only [putAll, Act.put, List.setIfInBounds_toArray, List.set_cons_zero, List.set_cons_succ]; rfl)
        have hK' := hK g w' (fun _ _ _ _ _ _ => rfl) (by rw [hfl 17 (by decide), hfl 20 (by decide)]; exact hR) (.pointer (some ⟨g0, k * 4 + 3, none⟩)) (by simp only [valO, Option.bind_some]; (try simp only [putAll, Act.put, List.setIfInBounds_toArray, List.set_cons_zero, List.set_cons_succ]); (try rfl))
        clear hS hdep hR
        refine gh_quiet14 (v := .pointer (some ⟨g0, k * 4 + 3, none⟩)) ?_ ?_
        · (simp only [execOp, Act.eval, e44]; go_simp; first | done | (simp; done) | (simp [*]; done) | omega | (rw [IntKind.wrap_i64]; omega))
        · exact hK'
      | 20, ho, hun, hdep, hK, hfl, _ =>
        obtain rfl := Option.some.inj ho
        have d19 : lp.getD 19 false = true := hdep { on := 19, ground := .data } (by simp) rfl
        have e45 : a'.tmps[45]? = some (.pointer (some ⟨g0, k * 4 + 3, none⟩)) := (hS.don 19 _ 45 rfl d19 rfl).trans (by simp only [putAll, Act.put, List.setIfInBounds_toArray, List.set_cons_zero, List.set_cons_succ]; rfl)
        have d17 : lp.getD 17 false = true := hdep { on := 17, ground := .data } (by simp) rfl
        have e43 : a'.tmps[43]? = some (.slice (some ⟨g, 0, none⟩) 0 M) := (hS.don 17 _ 43 rfl d17 rfl).trans (by simp only [putAll, Act.put, List.setIfInBounds_toArray, List.set_cons_zero, List.set_cons_succ]; rfl)
        obtain ⟨X0, cur, b1, b2, b3, b4, b5, b6⟩ := hR.c d17 hun
        have q := bl1 X0 (.cells cur 135)
        rw [← b4] at q
        have hbz : base ≤ X0.heap.size := Nat.le_of_lt (Nat.lt_of_le_of_lt b1.bG (lt_16 b1.g))
        have hd := b1.below q
        obtain ⟨cs, hcs⟩ := own_typed18 hd.b.o g0 rfl
        have hL3 : (L.set k { y with vs := .slice so m.length sc })[k]? = some { y with vs := .slice so m.length sc } := List.getElem?_set_self (by have := HY.out.2.2.1; omega)
        have hP3 : (P.set k { p with m := m })[k]? = some { p with m := m } := List.getElem?_set_self (by have := b1.b.l; rw [List.length_set, List.length_set] at this; have := HY.out.2.2.1; omega)
        have ho : w'.ownsRow base 135 2 (.slice (some ⟨g, 0, none⟩) 0 M) 0 [] := by rw [b4, b5]; exact World.ownsRow_made X0 cur M hbz (by unfold maxLen; have := HM.out; omega) b6
        have hbe := BsV.ents b1.b hL3 hP3 (W := w') (by rw [b4]; exact World.grownBy_alloc _ _ _) (ve := .slice (some ⟨g, 0, none⟩) 0 M) (es := []) ho (fun z e => by
          have : g = z := by simpa [Value.ownBlock] using e
          subst this; exact .inr (by omega))
        rw [List.set_set, List.set_set] at hbe
        have hN : RdR (w'.setCell ⟨g0, k * 4 + 3, none⟩ (.slice (some ⟨g, 0, none⟩) 0 M)) base G (.slice co cl cc) a (S : Int) (.slice (some ⟨g0, 0, none⟩) (k + 1) bc) _ (P.set k { p with m := m, es := [] }) := ⟨(far_16 (fun q => by have := hd.g; rw [q, hcs] at this; injection this with this; injection this with _ h3 _; exact absurd h3 (by decide))).trans hd.g, hbe, b1.bG⟩
        obtain ⟨-, -, c3, -, f3⟩ := HRd.out _ _ _ _ hd _ hL3 (by rw [List.length_set]; exact HY.out.2.2.1)
        have hK' := hK g (w'.setCell ⟨g0, k * 4 + 3, none⟩ (.slice (some ⟨g, 0, none⟩) 0 M)) (fun _ _ _ _ _ _ => rfl) (by rw [hfl 17 (by decide), getD_set_same (by rw [hsz]; decide)]; exact ⟨⟨hN.c0, hN.c1, hN.c3⟩, fun q => (by rw [d17] at q; cases q), fun _ q => (by cases q), fun _ => ⟨⟨_, _, hN⟩, (b2.trans (q.mono hbz)).setCell (p := ⟨g0, k * 4 + 3, none⟩) (hd.b.o.lt g0 rfl).1 _, (b3.trans (Kt.below q)).trans (Kt.set hcs (.inr (.inl rfl)) _)⟩, fun _ => d17⟩) undef rfl
        clear hS hdep hR hK b1 b2 b3 b4 b5 b6 hN hd hcs hbe ho hL3 hP3 q
        unfold Oper.wp
        simp only [execOp, Act.eval, Array.getD_eq_getD_getElem?]
        simp [go_sem, e45, e43, c3, f3, Oper.upon]
        exact hK'
      | n + 21, ho, hun, hdep, hK, hfl, hq => exact absurd hq (by omega)
    case fin6 =>
      intro g V8 hR
      have HF := hid13 (hR.e (by simp))
      simp only [putAll, Act.put, List.setIfInBounds_toArray, List.set_cons_zero, List.set_cons_succ]
      clear hR HR0
      go_wp2
      exact bodyPost_ret (v := .int .i64 0) (by simp [results, Try.results104, go_sem]) rfl (by first | exact ⟨fun q => absurd rfl q, fun _ => ⟨rfl, HF.out.1⟩, HF.out.2⟩ | exact ⟨⟨rfl, by have h9 := HF.out.1; rw [← HPt.out] at h9; exact h9⟩, HF.out.2⟩)
  · have hne : (N != pt) = true := by simpa using hNt
    have HNt := hid13 hNt
    clear hNt
    go_wp2
    go_region
    go_wp2
    exact bodyPost_ret (v := .int .i64 25) (by simp [results, Try.results104, go_sem]) rfl ⟨fun _ => ⟨rfl, _, _, HA2.out⟩, fun q => absurd q HNt.out, HB2.out⟩
end Go.Proofs.Ytdpmhpmnkollaaa
