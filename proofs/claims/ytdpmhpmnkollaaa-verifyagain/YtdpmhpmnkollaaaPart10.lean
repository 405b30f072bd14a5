/-
  Part 10 of the proof: 1 texts, one behind the other.
-/
import Derived.Test.YtdpmhpmnkollaaaPart9
import Derived.Test.YtdpmhpmnkollaaaPart1
namespace Go.Proofs.Ytdpmhpmnkollaaa
open Go.RowKit
set_option linter.unusedSimpArgs false
set_option linter.unusedVariables false

theorem eqE_run18 (a a' : Bool) (b b' : Int) (w : World) :
    (Op.equalIn 10000 135 (.agg #[.bool a, .int .i64 b]) (.agg #[.bool a', .int .i64 b'])).run Try.prog w = .ok ((a == a') && (b == b')) w := by
  by_cases h1 : a = a' <;> by_cases h2 : b = b' <;> go_simp <;> simp [*]
theorem Try.infoE18 : (Try.prog.info? 135).map (fun i => (i.zero, i.size, i.bytes)) = some (some (.agg #[.bool false, .int .i64 0]), 2, 16) := by kernel_rfl
theorem news_two18 (w : World) (a b : Value) (T : TypeId) : ∀ j u, [a, b][j]? = some u → (w.alloc (.cells #[a, b] T)).cell? ((⟨w.heap.size, 0, none⟩ : Addr).add j) = some u := by
  intro j u hj
  match j, hj with
  | 0, hj => simp at hj; subst hj; simp [go_sem, Addr.add]
  | 1, hj => simp at hj; subst hj; simp [go_sem, Addr.add]
  | n + 2, hj => simp at hj
structure RG2 (A : World → Prop) (D : Nat → World → Prop) (C E : Nat → Nat → World → Prop) (R : World → Prop) (l2 ld bd ap st : Bool) (g : Nat × (Nat × Nat)) (X : World) : Prop where
  g1 : RG A D C E R ld bd ap st g X
  q : bd = true → l2 = true
section
variable {A : World → Prop} {D : Nat → World → Prop} {C E : Nat → Nat → World → Prop} {R : World → Prop} {l2 ld bd ap st : Bool} {g : Nat × (Nat × Nat)} {X X' : World}
theorem RG2.setld (h : RG2 A D C E R l2 ld bd ap st g X) : RG2 A D C E R l2 true bd ap st g X := ⟨h.1.setld, h.2⟩
theorem RG2.setl2 (h : RG2 A D C E R l2 ld bd ap st g X) : RG2 A D C E R true ld bd ap st g X := ⟨h.1, fun _ => rfl⟩
theorem RG2.nld (h : RG2 A D C E R l2 ld bd ap st g X) (hl : ld = false) : A X := h.1.nld hl
theorem RG2.nbd (h : RG2 A D C E R l2 ld bd ap st g X) (hl : bd = false) : A X := h.1.nbd hl
theorem RG2.a2 (h : RG2 A D C E R l2 ld bd ap st g X) (hl : l2 = false) : A X := h.1.nbd (by
  cases q : bd with
  | false => rfl
  | true => have := h.2 q; rw [hl] at this; cases this)
theorem RG2.build2 (h : RG2 A D C E R l2 ld bd ap st g X) (hbd : bd = false) (h2 : l2 = true) {z : Nat} (ha : A X') (hd : D z X') (hr : R X' := by trivial) : RG2 A D C E R l2 ld true ap st (z, g.2) X' := ⟨h.1.build hbd hr ha hd, fun _ => h2⟩
theorem RG2.app2 (h : RG2 A D C E R l2 ld bd ap st g X) (hap : ap = false) (hld : ld = true) (hbd : bd = true) {gg cap : Nat} (hr : R X') (hc : C gg cap X') : RG2 A D C E R l2 ld bd true st (g.1, (gg, cap)) X' := ⟨h.1.app hap hld hbd hr hc, h.2⟩
theorem RG2.sto2 (h : RG2 A D C E R l2 ld bd ap st g X) (hap : ap = true) (hr : R X') (he : E g.2.1 g.2.2 X') : RG2 A D C E R l2 ld bd ap true g X' := ⟨h.1.sto hap hr he, h.2⟩
end
def entE (p : PB) (x : Bool × Int) : Int := if p.es.getLast? = some x then 25 else 0
def entL (p : PB) (x : Bool × Int) (l : Int) : Int := if p.es.getLast? = some x then l else l - 1
def entP (P : List PB) (k : Nat) (p : PB) (x : Bool × Int) : List PB := if p.es.getLast? = some x then P else P.set k { p with es := p.es ++ [x] }
def EtA (w : World) (base G : Nat) (vc : Value) (a l : Int) (vb : Value) (L : List Bv) (P : List PB) (xb : Bool) (xn : Int) (X : World) : Prop := RdR X base G vc a l vb L P ∧ Below base w X ∧ Kt w X ∧ X.cell? ⟨w.heap.size, 0, none⟩ = some (.bool xb) ∧ X.cell? ⟨w.heap.size, 1, none⟩ = some (.int .i64 xn)
theorem EtA.below {w : World} {base G : Nat} {vc : Value} {a l : Int} {vb : Value} {L : List Bv} {P : List PB} {xb : Bool} {xn : Int} {X X' : World} (h : EtA w base G vc a l vb L P xb xn X) (hb : Below X.heap.size X X') : EtA w base G vc a l vb L P xb xn X' :=
  ⟨h.1.below hb, h.2.1.trans (hb.mono (Nat.le_of_lt (Nat.lt_of_le_of_lt h.1.bG (lt_16 h.1.g)))), h.2.2.1.trans (Kt.below hb), keepc hb h.2.2.2.1, keepc hb h.2.2.2.2⟩
def EtC (w : World) (base G : Nat) (vc : Value) (a l : Int) (vb : Value) (L : List Bv) (P : List PB) (ve : Value) (es : List (Bool × Int)) (x : Bool × Int) (g c : Nat) (X : World) : Prop := (∃ X0, RdR X0 base G vc a l vb L P ∧ X0.grownBy X ve.ownBlock ∧ X.ownsRow base 135 2 (.slice (some ⟨g, 0, none⟩) (es.length + 1) c) (es.length + 1) (rowE8 (es ++ [x])) ∧ (ve.ownBlock = some g ∨ X0.heap.size ≤ g)) ∧ Below base w X ∧ Kt w X
def EtE (w : World) (base G : Nat) (vc : Value) (a l : Int) (P : List PB) (k : Nat) (p : PB) (x : Bool × Int) (g c : Nat) (X : World) : Prop := RdQ X base G vc a l (P.set k { p with es := p.es ++ [x] }) ∧ Below base w X ∧ Kt w X
set_option maxRecDepth 20000 in
set_option maxHeartbeats 16000000 in
theorem entry_any18 (w : World) (base G : Nat) (vc : Value) (a l : Int) (vb : Value) (L : List Bv) (P : List PB) (h : RdR w base G vc a l vb L P) (k : Nat) (p : PB) (hk : L.length = k + 1) (hp : P[k]? = some p) (xb : Bool) (xn : Int) (hl : L.length ≤ 2000000) (he : p.es.length ≤ 2000000) (hw : -1000000000000 ≤ l ∧ l ≤ 1000000000000) :
    Calls Try.prog 124 #[.pointer (some ⟨G, 0, none⟩), .agg #[.bool xb, .int .i64 xn]] w fun e w' => e = .returned (.int .i64 (entE p (xb, xn))) ∧ RdQ w' base G vc a (entL p (xb, xn) l) (entP P k p (xb, xn)) ∧ Below base w w' ∧ Kt w w' := by
  obtain ⟨j0, ji, jz0, jz1, jz2⟩ := info13 Try.infoE18
  obtain ⟨y, hy, hyo⟩ := h.b.get hp
  obtain ⟨g0, bc, hvb, -⟩ := own_some18 h.b.o (by omega)
  rw [hk] at hvb
  subst hvb
  obtain ⟨eo, ec, hve⟩ := own_form hyo.2.2.2
  obtain ⟨Wb, hWb⟩ : ∃ Wb, Wb = w.alloc (.cells #[.bool xb, .int .i64 xn] 135) := ⟨_, rfl⟩
  have q0 := bl1 w (.cells #[.bool xb, .int .i64 xn] 135)
  rw [← hWb] at q0
  have hbs : base ≤ w.heap.size := Nat.le_of_lt (Nat.lt_of_le_of_lt h.bG (lt_16 h.g))
  have hA0 : EtA w base G vc a l (.slice (some ⟨g0, 0, none⟩) (k + 1) bc) L P xb xn Wb := ⟨h.below q0, q0.mono hbs, Kt.below q0, by rw [hWb]; simp [go_sem], by rw [hWb]; simp [go_sem]⟩
  have KL := last_any18 G g0 (k + 1) bc Wb hA0.1.c2 (by omega) (by omega)
  rw [Nat.add_sub_cancel] at KL
  have HA0 := hid13 hA0
  have HY : Hid (L[k]? = some y ∧ P[k]? = some p ∧ L.length = k + 1 ∧ y.ve = .slice eo p.es.length ec) := ⟨hy, hp, hk, hve⟩
  have HL : Hid (L.length ≤ 2000000 ∧ p.es.length ≤ 2000000) := ⟨hl, he⟩
  have HR1 : Hid (∀ X, RdR X base G vc a l (.slice (some ⟨g0, 0, none⟩) (k + 1) bc) L P → X.cell? ⟨g0, k * 4 + 3, none⟩ = some (.slice eo p.es.length ec) ∧ X.frozen? ⟨g0, k * 4 + 3, none⟩ = false ∧ X.ownsRow base 135 2 (.slice eo p.es.length ec) p.es.length (rowE8 p.es) ∧ (Value.ownBlock (.slice eo p.es.length ec) ≠ some g0) ∧ (Value.ownBlock (.slice eo p.es.length ec) ≠ some G)) := hid13 (fun X hX => by
    have o1 := hX.b.o
    rw [hk] at o1
    have hg3 := (rowB8_get L k y hy).2.2.2
    obtain ⟨c1, c2⟩ := own_at18 o1 hg3
    have hm := (hX.b.m k y p hy hp).2.2.2
    rw [hve] at c1 hm
    obtain ⟨cs, hcs⟩ := own_typed18 hX.b.o g0 rfl
    exact ⟨c1, c2, hm, own_not18 hm hcs (by decide), own_not18 hm hX.g (by decide)⟩)
  obtain ⟨b1, b2, b3, -⟩ := HR1.out _ hA0.1
  obtain ⟨es, hes⟩ : ∃ es, es = p.es := ⟨_, rfl⟩
  rw [← hes] at HY HL HR1 b1
  have HS := hid13 hes
  obtain ⟨Er, hEr⟩ : ∃ Er, Er = entE p (xb, xn) := ⟨_, rfl⟩
  obtain ⟨Lr, hLr⟩ : ∃ Lr, Lr = entL p (xb, xn) l := ⟨_, rfl⟩
  obtain ⟨Pr, hPr⟩ : ∃ Pr, Pr = entP P k p (xb, xn) := ⟨_, rfl⟩
  rw [← hEr, ← hLr, ← hPr]
  have HE : Hid (Er = entE p (xb, xn) ∧ Lr = entL p (xb, xn) l ∧ Pr = entP P k p (xb, xn)) := ⟨hEr, hLr, hPr⟩
  have mw : IntKind.i64.wrap (l - 1) = l - 1 := by rw [IntKind.wrap_i64]; omega
  clear h hl he hw hy hyo hk hp hve hes hEr hLr hPr hbs q0 b2 b3 hA0
  go_enter Try.func124, Try.ntmps124
  go_wp2_with fail
  rw [← hWb]
  refine KL.mono ?_
  rintro e W1 ⟨rfl, hb1⟩
  have HA1 := hid13 (HA0.out.below hb1)
  clear KL HA0 hb1 b1 hWb
  obtain ⟨c3, f3, o3, n3, m3⟩ := HR1.out _ HA1.out.1
  obtain ⟨-, -, -, x0, x1⟩ := HA1.out
  have HTest : Hid (∀ sm : Bool, (es.getLast? = some (xb, xn) ↔ sm = true) → (sm = true → Er = 25 ∧ Lr = l ∧ Pr = P) ∧ (sm = false → Er = 0 ∧ Lr = l - 1 ∧ Pr = P.set k { p with es := p.es ++ [(xb, xn)] })) := hid13 (fun sm hs => by
    obtain ⟨q1, q2, q3⟩ := HE.out
    unfold entE at q1
    unfold entL at q2
    unfold entP at q3
    rw [← HS.out] at q1 q2 q3
    refine ⟨fun e => ?_, fun e => ?_⟩
    · have := hs.2 e
      rw [if_pos this] at q1 q2 q3
      exact ⟨q1, q2, q3⟩
    · have : ¬ es.getLast? = some (xb, xn) := fun q => by have := hs.1 q; rw [e] at this; cases this
      rw [if_neg this] at q1 q2 q3
      exact ⟨q1, q2, by rw [q3, HS.out]⟩)
  have HO3 := hid13 o3
  clear o3 n3 m3 f3 HE
  go_wp2_with fail
  by_cases h0 : es = []
  · have m0 : ¬ (0 : Int) < (es.length : Int) := by rw [h0]; simp
    have HN0 := hid13 h0
    clear h0
    have HA2 := hid13 (HA1.out.below (X' := W1.drew) ((Below.refl _ _).drew))
    obtain ⟨W2, hW2⟩ : ∃ W2, W2 = W1.drew := ⟨_, rfl⟩
    rw [← hW2] at HA2
    clear HA1 HO3
    refine qw_region (C := fun X => X = W2) (by kernel_rfl) (by kernel_rfl) hW2.symm ?_
    clear hW2
    refine qw_run (v := .int .i64 (es.length : Int)) (by rfl) ?_ ?_
    · (intro w9 hC; subst hC; go_simp; first | done | (simp; done) | (simp [*]; done) | omega | (simp; omega) | (rw [IntKind.wrap_i64]; omega) | (intro hx; omega) | rfl)
    simp only [Act.put, List.setIfInBounds_toArray, List.set_cons_zero, List.set_cons_succ]
    refine qw_run (v := .bool false) (by rfl) ?_ ?_
    · (intro w9 hC; subst hC; go_simp; first | done | (simp; done) | (simp [*]; done) | omega | (simp; omega) | (rw [IntKind.wrap_i64]; omega) | (intro hx; omega) | rfl | exact HN0.out)
    simp only [Act.put, List.setIfInBounds_toArray, List.set_cons_zero, List.set_cons_succ]
    refine qw_run (v := .bool false) (by rfl) ?_ ?_
    · (intro w9 hC; subst hC; go_simp; first | done | (simp; done) | (simp [*]; done) | omega | (simp; omega) | (rw [IntKind.wrap_i64]; omega) | (intro hx; omega) | rfl)
    simp only [Act.put, List.setIfInBounds_toArray, List.set_cons_zero, List.set_cons_succ]
    refine qw_skip (by rfl) ?_
    simp only [Act.put, List.setIfInBounds_toArray, List.set_cons_zero, List.set_cons_succ]
    refine qw_skip (by rfl) ?_
    simp only [Act.put, List.setIfInBounds_toArray, List.set_cons_zero, List.set_cons_succ]
    refine qw_skip (by rfl) ?_
    simp only [Act.put, List.setIfInBounds_toArray, List.set_cons_zero, List.set_cons_succ]
    refine qw_skip (by rfl) ?_
    simp only [Act.put, List.setIfInBounds_toArray, List.set_cons_zero, List.set_cons_succ]
    refine qw_skip (by rfl) ?_
    simp only [Act.put, List.setIfInBounds_toArray, List.set_cons_zero, List.set_cons_succ]
    refine qw_skip (by rfl) ?_
    simp only [Act.put, List.setIfInBounds_toArray, List.set_cons_zero, List.set_cons_succ]
    refine qw_skip (by rfl) ?_
    simp only [Act.put, List.setIfInBounds_toArray, List.set_cons_zero, List.set_cons_succ]
    refine qw_skip (by rfl) ?_
    simp only [Act.put, List.setIfInBounds_toArray, List.set_cons_zero, List.set_cons_succ]
    refine qw_skip (by rfl) ?_
    simp only [Act.put, List.setIfInBounds_toArray, List.set_cons_zero, List.set_cons_succ]
    refine qw_skip (by rfl) ?_
    simp only [Act.put, List.setIfInBounds_toArray, List.set_cons_zero, List.set_cons_succ]
    refine qw_run (v := .bool false) (by rfl) ?_ ?_
    · (intro w9 hC; subst hC; go_simp; first | done | (simp; done) | (simp [*]; done) | omega | (simp; omega) | (rw [IntKind.wrap_i64]; omega) | (intro hx; omega) | rfl)
    simp only [Act.put, List.setIfInBounds_toArray, List.set_cons_zero, List.set_cons_succ]
    refine qw_nil ?_
    try simp only [putAll, Act.put, List.setIfInBounds_toArray, List.set_cons_zero, List.set_cons_succ]
    intro w9 hC
    replace hC := hC.symm
    subst hC
    clear m0
    have HO3 := hid13 (True.intro)
    have HQ := hid13 ((HTest.out false (by rw [HN0.out]; simp)).2 rfl)
    clear HTest
    have HR0 : Hid (RG2 (EtA w base G vc a l (.slice (some ⟨g0, 0, none⟩) (k + 1) bc) L P xb xn) (NwD [.bool xb, .int .i64 xn]) (EtC w base G vc a l (.slice (some ⟨g0, 0, none⟩) (k + 1) bc) L P (.slice eo es.length ec) es (xb, xn)) (EtE w base G vc a l P k p (xb, xn)) (fun _ => True) false false false false false (0, (0, 0)) W2.drew) := ⟨RG.start trivial (HA2.out.below ((Below.refl _ _).drew)), fun q => (by cases q)⟩
    clear HA2 HO3
    go_wp2_with fail
    refine gh_region (γ := Nat × (Nat × Nat)) (qpOk 11 11 (by decide) (fun N => by kernel_rfl) (by kernel_rfl) (by kernel_rfl) (by kernel_rfl) (by kernel_rfl)) (by kernel_rfl) (by kernel_rfl) [some 28, some 29, some 30, some 31, some 32, some 33, some 34, some 35, some 36, some 37, none] (fun g => [.pointer (some ⟨g0, k * 4, none⟩), .pointer (some ⟨g0, k * 4, none⟩), .pointer (some ⟨g0, k * 4, none⟩), .pointer (some ⟨g0, k * 4 + 3, none⟩), .slice eo es.length ec, .agg #[.bool xb, .int .i64 xn], .slice (some ⟨g.1, 0, none⟩) 1 1, .slice (some ⟨g.2.1, 0, none⟩) (es.length + 1) g.2.2, .pointer (some ⟨g0, k * 4, none⟩), .pointer (some ⟨g0, k * 4 + 3, none⟩), undef]) (by kernel_rfl) (by simp) (fun lp g X => RG2 (EtA w base G vc a l (.slice (some ⟨g0, 0, none⟩) (k + 1) bc) L P xb xn) (NwD [.bool xb, .int .i64 xn]) (EtC w base G vc a l (.slice (some ⟨g0, 0, none⟩) (k + 1) bc) L P (.slice eo es.length ec) es (xb, xn)) (EtE w base G vc a l P k p (xb, xn)) (fun _ => True) (lp.getD 5 false) (lp.getD 4 false) (lp.getD 6 false) (lp.getD 7 false) (lp.getD 10 false) g X) (0, (0, 0)) HR0.out ?step5 ?fin5
    case step5 =>
      intro q o lp g w' a' ho hsz hun hdep hR hS K Q' hK
      have hfl : ∀ j, j ≠ q → (lp.setIfInBounds q true).getD j false = lp.getD j false := fun j hj => by rw [Array.getD_eq_getD_getElem?, Array.getD_eq_getD_getElem?, Array.getElem?_setIfInBounds_ne (by omega)]
      have hq : q < 11 := (List.getElem?_eq_some_iff.mp ho).1
      match q, ho, hun, hdep, hK, hfl, hq with
      | 0, ho, hun, hdep, hK, hfl, _ =>
        obtain rfl := Option.some.inj ho
        have o5 : a'.tmps[5]? = some (.pointer (some ⟨g0, k * 4, none⟩)) := (hS.old14 5 (by simp)).trans rfl
        have hK' := hK g w' (fun _ _ _ _ _ _ => rfl) (by rw [hfl 5 (by decide), hfl 4 (by decide), hfl 6 (by decide), hfl 7 (by decide), hfl 10 (by decide)]; exact hR) (.pointer (some ⟨g0, k * 4, none⟩)) (by simp only [valO, Option.bind_some]; (try simp only [putAll, Act.put, List.setIfInBounds_toArray, List.set_cons_zero, List.set_cons_succ]); (try rfl))
        clear hS hdep hR
        refine gh_quiet14 (v := .pointer (some ⟨g0, k * 4, none⟩)) ?_ ?_
        · (simp only [execOp, Act.eval, o5]; go_simp; first | done | (simp; done) | (simp [*]; done) | omega | (rw [IntKind.wrap_i64]; omega))
        · exact hK'
      | 1, ho, hun, hdep, hK, hfl, _ =>
        obtain rfl := Option.some.inj ho
        have o5 : a'.tmps[5]? = some (.pointer (some ⟨g0, k * 4, none⟩)) := (hS.old14 5 (by simp)).trans rfl
        have hK' := hK g w' (fun _ _ _ _ _ _ => rfl) (by rw [hfl 5 (by decide), hfl 4 (by decide), hfl 6 (by decide), hfl 7 (by decide), hfl 10 (by decide)]; exact hR) (.pointer (some ⟨g0, k * 4, none⟩)) (by simp only [valO, Option.bind_some]; (try simp only [putAll, Act.put, List.setIfInBounds_toArray, List.set_cons_zero, List.set_cons_succ]); (try rfl))
        clear hS hdep hR
        refine gh_quiet14 (v := .pointer (some ⟨g0, k * 4, none⟩)) ?_ ?_
        · (simp only [execOp, Act.eval, o5]; go_simp; first | done | (simp; done) | (simp [*]; done) | omega | (rw [IntKind.wrap_i64]; omega))
        · exact hK'
      | 2, ho, hun, hdep, hK, hfl, _ =>
        obtain rfl := Option.some.inj ho
        have d1 : lp.getD 1 false = true := hdep { on := 1, ground := .data } (by simp) rfl
        have e29 : a'.tmps[29]? = some (.pointer (some ⟨g0, k * 4, none⟩)) := (hS.don 1 _ 29 rfl d1 rfl).trans (by simp only [putAll, Act.put, List.setIfInBounds_toArray, List.set_cons_zero, List.set_cons_succ]; rfl)
        have hK' := hK g w' (fun _ _ _ _ _ _ => rfl) (by rw [hfl 5 (by decide), hfl 4 (by decide), hfl 6 (by decide), hfl 7 (by decide), hfl 10 (by decide)]; exact hR) (.pointer (some ⟨g0, k * 4, none⟩)) (by simp only [valO, Option.bind_some]; (try simp only [putAll, Act.put, List.setIfInBounds_toArray, List.set_cons_zero, List.set_cons_succ]); (try rfl))
        clear hS hdep hR
        refine gh_quiet14 (v := .pointer (some ⟨g0, k * 4, none⟩)) ?_ ?_
        · (simp only [execOp, Act.eval, e29]; go_simp; first | done | (simp; done) | (simp [*]; done) | omega | (rw [IntKind.wrap_i64]; omega))
        · exact hK'
      | 3, ho, hun, hdep, hK, hfl, _ =>
        obtain rfl := Option.some.inj ho
        have d2 : lp.getD 2 false = true := hdep { on := 2, ground := .data } (by simp) rfl
        have e30 : a'.tmps[30]? = some (.pointer (some ⟨g0, k * 4, none⟩)) := (hS.don 2 _ 30 rfl d2 rfl).trans (by simp only [putAll, Act.put, List.setIfInBounds_toArray, List.set_cons_zero, List.set_cons_succ]; rfl)
        have hK' := hK g w' (fun _ _ _ _ _ _ => rfl) (by rw [hfl 5 (by decide), hfl 4 (by decide), hfl 6 (by decide), hfl 7 (by decide), hfl 10 (by decide)]; exact hR) (.pointer (some ⟨g0, k * 4 + 3, none⟩)) (by simp only [valO, Option.bind_some]; (try simp only [putAll, Act.put, List.setIfInBounds_toArray, List.set_cons_zero, List.set_cons_succ]); (try rfl))
        clear hS hdep hR
        refine gh_quiet14 (v := .pointer (some ⟨g0, k * 4 + 3, none⟩)) ?_ ?_
        · (simp only [execOp, Act.eval, e30]; go_simp; first | done | (simp; done) | (simp [*]; done) | omega | (rw [IntKind.wrap_i64]; omega))
        · exact hK'
      | 4, ho, hun, hdep, hK, hfl, _ =>
        obtain rfl := Option.some.inj ho
        have d3 : lp.getD 3 false = true := hdep { on := 3, ground := .data } (by simp) rfl
        have e31 : a'.tmps[31]? = some (.pointer (some ⟨g0, k * 4 + 3, none⟩)) := (hS.don 3 _ 31 rfl d3 rfl).trans (by simp only [putAll, Act.put, List.setIfInBounds_toArray, List.set_cons_zero, List.set_cons_succ]; rfl)
        have k1 := (HR1.out _ (hR.nld hun).1).1
        have hK' := hK g w' (fun _ _ _ _ _ _ => rfl) (by rw [hfl 5 (by decide), hfl 6 (by decide), hfl 7 (by decide), hfl 10 (by decide), getD_set_same (by rw [hsz]; decide)]; exact hR.setld) (.slice eo es.length ec) (by simp only [valO, Option.bind_some]; (try simp only [putAll, Act.put, List.setIfInBounds_toArray, List.set_cons_zero, List.set_cons_succ]); (try rfl))
        clear hS hdep hR
        refine gh_quiet14 (v := .slice eo es.length ec) ?_ ?_
        · (simp only [execOp, Act.eval, e31]; go_simp; first | done | (simp; done) | (simp [*]; done) | omega | (rw [IntKind.wrap_i64]; omega))
        · exact hK'
      | 5, ho, hun, hdep, hK, hfl, _ =>
        obtain rfl := Option.some.inj ho
        have o3 : a'.tmps[3]? = some (.pointer (some ⟨w.heap.size, 0, none⟩)) := (hS.old14 3 (by simp)).trans rfl
        have k0 := hR.a2 hun
        have k1 := k0.2.2.2.1
        have k2 := k0.2.2.2.2
        clear k0
        have hK' := hK g w' (fun _ _ _ _ _ _ => rfl) (by rw [hfl 4 (by decide), hfl 6 (by decide), hfl 7 (by decide), hfl 10 (by decide), getD_set_same (by rw [hsz]; decide)]; exact hR.setl2) (.agg #[.bool xb, .int .i64 xn]) (by simp only [valO, Option.bind_some]; (try simp only [putAll, Act.put, List.setIfInBounds_toArray, List.set_cons_zero, List.set_cons_succ]); (try rfl))
        clear hS hdep hR
        refine gh_quiet14 (v := .agg #[.bool xb, .int .i64 xn]) ?_ ?_
        · (simp only [execOp, Act.eval, o3]; go_simp; first | done | (simp; done) | (simp [*]; done) | omega | (rw [IntKind.wrap_i64]; omega))
        · exact hK'
      | 6, ho, hun, hdep, hK, hfl, _ =>
        obtain rfl := Option.some.inj ho
        have d5 : lp.getD 5 false = true := hdep { on := 5, ground := .data } (by simp) rfl
        have e33 : a'.tmps[33]? = some (.agg #[.bool xb, .int .i64 xn]) := (hS.don 5 _ 33 rfl d5 rfl).trans (by simp only [putAll, Act.put, List.setIfInBounds_toArray, List.set_cons_zero, List.set_cons_succ]; rfl)
        have aA := hR.nbd hun
        have q := bl1 w' (.cells #[.bool xb, .int .i64 xn] 135)
        have hK' := hK (w'.heap.size, g.2) (w'.alloc (.cells #[.bool xb, .int .i64 xn] 135)) (fun k' ok s hk hl hd => gh_same14 (d := 34) (s := s) (by simp only [putAll, Act.put, List.setIfInBounds_toArray, List.set_cons_zero, List.set_cons_succ]; rfl) (by rintro rfl; have := dstG_of (by kernel_rfl) k' 6 ok _ 34 hk rfl hd rfl; subst this; rw [hun] at hl; cases hl)) (by rw [hfl 5 (by decide), hfl 4 (by decide), hfl 7 (by decide), hfl 10 (by decide), getD_set_same (by rw [hsz]; decide)]; exact hR.build2 hun d5 (aA.below q) (news_two18 w' _ _ _)) (.slice (some ⟨w'.heap.size, 0, none⟩) 1 1) (by simp only [valO, Option.bind_some]; simp only [putAll, Act.put, List.setIfInBounds_toArray, List.set_cons_zero, List.set_cons_succ]; rfl)
        clear hS hdep hR hK aA q
        unfold Oper.wp
        simp only [execOp, Act.eval, Array.getD_eq_getD_getElem?]
        simp [go_sem, e33, Oper.upon]
        exact hK'
      | 7, ho, hun, hdep, hK, hfl, _ =>
        obtain rfl := Option.some.inj ho
        have d4 : lp.getD 4 false = true := hdep { on := 4, ground := .data } (by simp) rfl
        have e32 : a'.tmps[32]? = some (.slice eo es.length ec) := (hS.don 4 _ 32 rfl d4 rfl).trans (by simp only [putAll, Act.put, List.setIfInBounds_toArray, List.set_cons_zero, List.set_cons_succ]; rfl)
        have d6 : lp.getD 6 false = true := hdep { on := 6, ground := .data } (by simp) rfl
        have e34 : a'.tmps[34]? = some (.slice (some ⟨g.1, 0, none⟩) 1 1) := (hS.don 6 _ 34 rfl d6 rfl).trans (by simp only [putAll, Act.put, List.setIfInBounds_toArray, List.set_cons_zero, List.set_cons_succ]; rfl)
        have aA := hR.1.a hun
        have hN := hR.1.d d6 hun
        obtain ⟨-, -, oo, nn, mm⟩ := HR1.out _ aA.1
        refine wp_append_lies w' (.tmp 32) (.tmp 34) 109 rfl base 135 j0 (.agg #[.bool false, .int .i64 0]) 2 16 Try.underlying109 ji jz0 jz1 jz2 rfl (by decide) (.slice eo es.length ec) es.length (rowE8 es) (by simp [Act.eval, e32]) oo ⟨g.1, 0, none⟩ 1 1 [.bool xb, .int .i64 xn] (by simp [Act.eval, e34]) rfl hN (by intro u hu; simp at hu; rcases hu with rfl | rfl <;> rfl) (by decide) (by unfold maxLen; have := HL.out; omega) (by have := HL.out; omega) (Nat.le_of_lt (Nat.lt_of_le_of_lt aA.1.bG (lt_16 aA.1.g))) _ rfl ?_
        intro gg cap W5 ho hg hat _
        rw [← rowE8_app es (xb, xn)] at ho
        exact hK (g.1, (gg, cap)) W5 (fun k' ok s hk hl hd => gh_same14 (d := 35) (s := s) (by simp only [putAll, Act.put, List.setIfInBounds_toArray, List.set_cons_zero, List.set_cons_succ]; rfl) (by rintro rfl; have := dstG_of (by kernel_rfl) k' 7 ok _ 35 hk rfl hd rfl; subst this; rw [hun] at hl; cases hl)) (by rw [hfl 5 (by decide), hfl 4 (by decide), hfl 6 (by decide), hfl 10 (by decide), getD_set_same (by rw [hsz]; decide)]; exact hR.app2 hun d4 d6 trivial ⟨⟨w', aA.1, hg, ho, hat.imp id (fun e => by omega)⟩, aA.2.1.grown hg (Nat.le_of_lt (Nat.lt_of_le_of_lt aA.1.bG (lt_16 aA.1.g))) (fun z e => (oo.lt z e).1), aA.2.2.1.trans (Kt.grown oo (.inr (.inr rfl)) hg)⟩) _ (by simp only [valO, Option.bind_some]; simp only [putAll, Act.put, List.setIfInBounds_toArray, List.set_cons_zero, List.set_cons_succ]; rfl)
      | 8, ho, hun, hdep, hK, hfl, _ =>
        obtain rfl := Option.some.inj ho
        have d0 : lp.getD 0 false = true := hdep { on := 0, ground := .data } (by simp) rfl
        have e28 : a'.tmps[28]? = some (.pointer (some ⟨g0, k * 4, none⟩)) := (hS.don 0 _ 28 rfl d0 rfl).trans (by simp only [putAll, Act.put, List.setIfInBounds_toArray, List.set_cons_zero, List.set_cons_succ]; rfl)
        have hK' := hK g w' (fun _ _ _ _ _ _ => rfl) (by rw [hfl 5 (by decide), hfl 4 (by decide), hfl 6 (by decide), hfl 7 (by decide), hfl 10 (by decide)]; exact hR) (.pointer (some ⟨g0, k * 4, none⟩)) (by simp only [valO, Option.bind_some]; (try simp only [putAll, Act.put, List.setIfInBounds_toArray, List.set_cons_zero, List.set_cons_succ]); (try rfl))
        clear hS hdep hR
        refine gh_quiet14 (v := .pointer (some ⟨g0, k * 4, none⟩)) ?_ ?_
        · (simp only [execOp, Act.eval, e28]; go_simp; first | done | (simp; done) | (simp [*]; done) | omega | (rw [IntKind.wrap_i64]; omega))
        · exact hK'
      | 9, ho, hun, hdep, hK, hfl, _ =>
        obtain rfl := Option.some.inj ho
        have d8 : lp.getD 8 false = true := hdep { on := 8, ground := .data } (by simp) rfl
        have e36 : a'.tmps[36]? = some (.pointer (some ⟨g0, k * 4, none⟩)) := (hS.don 8 _ 36 rfl d8 rfl).trans (by simp only [putAll, Act.put, List.setIfInBounds_toArray, List.set_cons_zero, List.set_cons_succ]; rfl)
        have hK' := hK g w' (fun _ _ _ _ _ _ => rfl) (by rw [hfl 5 (by decide), hfl 4 (by decide), hfl 6 (by decide), hfl 7 (by decide), hfl 10 (by decide)]; exact hR) (.pointer (some ⟨g0, k * 4 + 3, none⟩)) (by simp only [valO, Option.bind_some]; (try simp only [putAll, Act.put, List.setIfInBounds_toArray, List.set_cons_zero, List.set_cons_succ]); (try rfl))
        clear hS hdep hR
        refine gh_quiet14 (v := .pointer (some ⟨g0, k * 4 + 3, none⟩)) ?_ ?_
        · (simp only [execOp, Act.eval, e36]; go_simp; first | done | (simp; done) | (simp [*]; done) | omega | (rw [IntKind.wrap_i64]; omega))
        · exact hK'
      | 10, ho, hun, hdep, hK, hfl, _ =>
        obtain rfl := Option.some.inj ho
        have d9 : lp.getD 9 false = true := hdep { on := 9, ground := .data } (by simp) rfl
        have e37 : a'.tmps[37]? = some (.pointer (some ⟨g0, k * 4 + 3, none⟩)) := (hS.don 9 _ 37 rfl d9 rfl).trans (by simp only [putAll, Act.put, List.setIfInBounds_toArray, List.set_cons_zero, List.set_cons_succ]; rfl)
        have d7 : lp.getD 7 false = true := hdep { on := 7, ground := .data } (by simp) rfl
        have e35 : a'.tmps[35]? = some (.slice (some ⟨g.2.1, 0, none⟩) (es.length + 1) g.2.2) := (hS.don 7 _ 35 rfl d7 rfl).trans (by simp only [putAll, Act.put, List.setIfInBounds_toArray, List.set_cons_zero, List.set_cons_succ]; rfl)
        obtain ⟨⟨X0, b1, b2, b3, b4⟩, a2, a3⟩ := hR.1.c d7 hun
        obtain ⟨-, -, oo, nn, mm⟩ := HR1.out _ b1
        have hGe : w'.heap[G]? = some (.cells #[vc, .int .i64 a, .slice (some ⟨g0, 0, none⟩) (k + 1) bc, .int .i64 l] 127) := (b2.block G (lt_16 b1.g) (fun q => mm q.symm)).trans b1.g
        obtain ⟨cs, hcs⟩ := own_typed18 b1.b.o g0 rfl
        have hcs' : w'.heap[g0]? = some (.cells cs 111) := (b2.block g0 (lt_16 hcs) (fun q => nn q.symm)).trans hcs
        have hYv := HY.out.2.2.2
        have hbe := BsV.ents b1.b HY.out.1 HY.out.2.1 (by rw [hYv]; exact b2) (ve := .slice (some ⟨g.2.1, 0, none⟩) (es.length + 1) g.2.2) (es := es ++ [(xb, xn)]) (by rw [List.length_append]; exact b3) (fun z e => by
          have : g.2.1 = z := by simpa [Value.ownBlock] using e
          subst this; rw [hYv]; exact b4)
        have hN : RdR (w'.setCell ⟨g0, k * 4 + 3, none⟩ (.slice (some ⟨g.2.1, 0, none⟩) (es.length + 1) g.2.2)) base G vc a l (.slice (some ⟨g0, 0, none⟩) (k + 1) bc) _ (P.set k { p with es := p.es ++ [(xb, xn)] }) := ⟨(far_16 (fun q => by subst q; rw [hGe] at hcs'; injection hcs' with hcs'; injection hcs' with _ h3 _; exact absurd h3 (by decide))).trans hGe, by rw [← HS.out]; exact hbe, b1.bG⟩
        obtain ⟨cs0, hcs0⟩ : ∃ u, w'.cell? ⟨g0, k * 4 + 3, none⟩ = some u := ⟨_, by
          have := (HR1.out _ b1).1
          rw [← World.cell?_of_block (w := X0) (w' := w') (a := ⟨g0, k * 4 + 3, none⟩) (b2.block g0 (lt_16 hcs) (fun q => nn q.symm))] at this
          exact this⟩
        have kf := fr_16 (j := k * 4 + 3) hcs'
        have hK' := hK g (w'.setCell ⟨g0, k * 4 + 3, none⟩ (.slice (some ⟨g.2.1, 0, none⟩) (es.length + 1) g.2.2)) (fun _ _ _ _ _ _ => rfl) (by rw [hfl 5 (by decide), hfl 4 (by decide), hfl 6 (by decide), hfl 7 (by decide), getD_set_same (by rw [hsz]; decide)]; exact hR.sto2 d7 trivial ⟨⟨_, _, hN⟩, a2.setCell (p := ⟨g0, k * 4 + 3, none⟩) (b1.b.o.lt g0 rfl).1 _, a3.trans (Kt.set hcs' (.inr (.inl rfl)) _)⟩) undef rfl
        clear hS hdep hR hK b1 b2 b3 b4 hN a2 a3 hGe hcs hcs' oo nn mm hbe hYv
        unfold Oper.wp
        simp only [execOp, Act.eval, Array.getD_eq_getD_getElem?]
        simp [go_sem, e37, e35, hcs0, kf, Oper.upon]
        exact hK'
      | n + 11, ho, hun, hdep, hK, hfl, hq => exact absurd hq (by omega)
    case fin5 =>
      intro g V8 hR
      have HF := hid13 (hR.1.e (by simp))
      simp only [putAll, Act.put, List.setIfInBounds_toArray, List.set_cons_zero, List.set_cons_succ]
      clear hR HR0
      obtain ⟨vb8, L8, h8⟩ := HF.out.1
      have c3 := h8.c3
      have f3 := fr_16 (j := 3) h8.g
      have HF2 := hid13 (And.intro (RdR.s3 h8 (l - 1)) (And.intro (RdR.bs h8 HF.out.2.1 3 (.int .i64 (l - 1))) (HF.out.2.2.trans (h8.ks 3 (.int .i64 (l - 1))))))
      clear h8 HF
      go_wp2
      exact bodyPost_ret (v := .int .i64 0) (by simp [results, Try.results124, go_sem]) rfl ⟨by rw [HQ.out.1], by rw [HQ.out.2.1, HQ.out.2.2]; exact ⟨_, _, HF2.out.1⟩, HF2.out.2.1, HF2.out.2.2⟩
  · obtain ⟨eb, en, hla⟩ : ∃ eb en, es.getLast? = some (eb, en) := by
      cases hq : es.getLast? with
      | none => exact absurd (List.getLast?_eq_none_iff.mp hq) h0
      | some e => exact ⟨e.1, e.2, rfl⟩
    have hpos : 0 < es.length := List.length_pos_iff.mpr h0
    obtain ⟨eg, ec', hee, -⟩ := own_some18 HO3.out hpos
    have hgl : es[es.length - 1]? = some (eb, en) := by rw [← hla, List.getLast?_eq_getElem?]
    injection hee with he1 he2 he3
    subst he1 he3
    have hoo := HO3.out
    obtain ⟨r1, r2⟩ := rowE8_get es _ _ hgl
    have c4 := (own_at18 hoo r1).1
    have c5 := (own_at18 hoo r2).1
    dsimp only at c4 c5
    have m1 : IntKind.i64.wrap ((es.length : Int) - 1) = (es.length : Int) - 1 := by rw [IntKind.wrap_i64]; have := HL.out; omega
    have m2 : ((es.length : Int) - 1).toNat = es.length - 1 := by omega
    have m3 : (0 : Int) ≤ (es.length : Int) - 1 := by omega
    have m4 : (es.length : Int) - 1 < (es.length : Int) := by omega
    have m5 : (0 : Int) < (es.length : Int) := by omega
    have hq := eqE_run18 eb xb en xn
    have HA2 := hid13 (HA1.out.below (X' := W1.drew) ((Below.refl _ _).drew))
    obtain ⟨W2, hW2⟩ : ∃ W2, W2 = W1.drew := ⟨_, rfl⟩
    rw [← hW2] at HA2
    have z3 : W2.cell? ⟨g0, k * 4 + 3, none⟩ = some (.slice (some ⟨eg, 0, none⟩) es.length ec) := by rw [hW2]; exact c3
    have z4 : W2.cell? ⟨eg, (es.length - 1) * 2, none⟩ = some (.bool eb) := by rw [hW2]; exact c4
    have z5 : W2.cell? ⟨eg, (es.length - 1) * 2 + 1, none⟩ = some (.int .i64 en) := by rw [hW2]; exact c5
    have z0 : W2.cell? ⟨w.heap.size, 0, none⟩ = some (.bool xb) := by rw [hW2]; exact x0
    have z1 : W2.cell? ⟨w.heap.size, 1, none⟩ = some (.int .i64 xn) := by rw [hW2]; exact x1
    have HLa := hid13 hla
    clear HA1 r1 r2 hgl hoo c3 c4 c5 x0 x1 he2 hla
    refine qw_region (C := fun X => X = W2) (by kernel_rfl) (by kernel_rfl) hW2.symm ?_
    clear hW2
    refine qw_run (v := .int .i64 (es.length : Int)) (by rfl) ?_ ?_
    · (intro w9 hC; subst hC; go_simp; first | done | (simp; done) | (simp [*]; done) | omega | (simp; omega) | (rw [IntKind.wrap_i64]; omega) | (intro hx; omega) | rfl)
    simp only [Act.put, List.setIfInBounds_toArray, List.set_cons_zero, List.set_cons_succ]
    refine qw_run (v := .bool true) (by rfl) ?_ ?_
    · (intro w9 hC; subst hC; go_simp; first | done | (simp; done) | (simp [*]; done) | omega | (simp; omega) | (rw [IntKind.wrap_i64]; omega) | (intro hx; omega) | rfl)
    simp only [Act.put, List.setIfInBounds_toArray, List.set_cons_zero, List.set_cons_succ]
    refine qw_run (v := .bool true) (by rfl) ?_ ?_
    · (intro w9 hC; subst hC; go_simp; first | done | (simp; done) | (simp [*]; done) | omega | (simp; omega) | (rw [IntKind.wrap_i64]; omega) | (intro hx; omega) | rfl)
    simp only [Act.put, List.setIfInBounds_toArray, List.set_cons_zero, List.set_cons_succ]
    refine qw_run (v := .pointer (some ⟨g0, k * 4, none⟩)) (by rfl) ?_ ?_
    · (intro w9 hC; subst hC; go_simp; first | done | (simp; done) | (simp [*]; done) | omega | (simp; omega) | (rw [IntKind.wrap_i64]; omega) | (intro hx; omega) | rfl)
    simp only [Act.put, List.setIfInBounds_toArray, List.set_cons_zero, List.set_cons_succ]
    refine qw_run (v := .pointer (some ⟨g0, k * 4, none⟩)) (by rfl) ?_ ?_
    · (intro w9 hC; subst hC; go_simp; first | done | (simp; done) | (simp [*]; done) | omega | (simp; omega) | (rw [IntKind.wrap_i64]; omega) | (intro hx; omega) | rfl)
    simp only [Act.put, List.setIfInBounds_toArray, List.set_cons_zero, List.set_cons_succ]
    refine qw_run (v := .pointer (some ⟨g0, k * 4 + 3, none⟩)) (by rfl) ?_ ?_
    · (intro w9 hC; subst hC; go_simp; first | done | (simp; done) | (simp [*]; done) | omega | (simp; omega) | (rw [IntKind.wrap_i64]; omega) | (intro hx; omega) | rfl)
    simp only [Act.put, List.setIfInBounds_toArray, List.set_cons_zero, List.set_cons_succ]
    refine qw_run (v := .slice (some ⟨eg, 0, none⟩) es.length ec) (by rfl) ?_ ?_
    · (intro w9 hC; subst hC; go_simp; first | done | (simp; done) | (simp [*]; done) | omega | (simp; omega) | (rw [IntKind.wrap_i64]; omega) | (intro hx; omega) | rfl)
    simp only [Act.put, List.setIfInBounds_toArray, List.set_cons_zero, List.set_cons_succ]
    refine qw_run (v := .int .i64 (es.length : Int)) (by rfl) ?_ ?_
    · (intro w9 hC; subst hC; go_simp; first | done | (simp; done) | (simp [*]; done) | omega | (simp; omega) | (rw [IntKind.wrap_i64]; omega) | (intro hx; omega) | rfl)
    simp only [Act.put, List.setIfInBounds_toArray, List.set_cons_zero, List.set_cons_succ]
    refine qw_run (v := .int .i64 ((es.length : Int) - 1)) (by rfl) ?_ ?_
    · (intro w9 hC; subst hC; go_simp; first | done | (simp; done) | (simp [*]; done) | omega | (simp; omega) | (rw [IntKind.wrap_i64]; omega) | (intro hx; omega) | rfl)
    simp only [Act.put, List.setIfInBounds_toArray, List.set_cons_zero, List.set_cons_succ]
    refine qw_run (v := .pointer (some ⟨eg, (es.length - 1) * 2, none⟩)) (by rfl) ?_ ?_
    · (intro w9 hC; subst hC; go_simp; first | done | (simp; done) | (simp [*]; done) | omega | (simp; omega) | (rw [IntKind.wrap_i64]; omega) | (intro hx; omega) | rfl)
    simp only [Act.put, List.setIfInBounds_toArray, List.set_cons_zero, List.set_cons_succ]
    refine qw_run (v := .agg #[.bool eb, .int .i64 en]) (by rfl) ?_ ?_
    · (intro w9 hC; subst hC; go_simp; first | done | (simp; done) | (simp [*]; done) | omega | (simp; omega) | (rw [IntKind.wrap_i64]; omega) | (intro hx; omega) | rfl)
    simp only [Act.put, List.setIfInBounds_toArray, List.set_cons_zero, List.set_cons_succ]
    refine qw_run (v := .agg #[.bool xb, .int .i64 xn]) (by rfl) ?_ ?_
    · (intro w9 hC; subst hC; go_simp; first | done | (simp; done) | (simp [*]; done) | omega | (simp; omega) | (rw [IntKind.wrap_i64]; omega) | (intro hx; omega) | rfl)
    simp only [Act.put, List.setIfInBounds_toArray, List.set_cons_zero, List.set_cons_succ]
    refine qw_run (v := .bool ((eb == xb) && (en == xn))) (by rfl) ?_ ?_
    · (intro w9 hC; subst hC; go_simp; first | done | (simp; done) | (simp [*]; done) | omega | (simp; omega) | (rw [IntKind.wrap_i64]; omega) | (intro hx; omega) | rfl)
    simp only [Act.put, List.setIfInBounds_toArray, List.set_cons_zero, List.set_cons_succ]
    refine qw_run (v := .bool ((eb == xb) && (en == xn))) (by rfl) ?_ ?_
    · (intro w9 hC; subst hC; go_simp; first | done | (simp; done) | (simp [*]; done) | omega | (simp; omega) | (rw [IntKind.wrap_i64]; omega) | (intro hx; omega) | rfl)
    simp only [Act.put, List.setIfInBounds_toArray, List.set_cons_zero, List.set_cons_succ]
    refine qw_nil ?_
    try simp only [putAll, Act.put, List.setIfInBounds_toArray, List.set_cons_zero, List.set_cons_succ]
    intro w9 hC
    replace hC := hC.symm
    subst hC
    clear m1 m2 m3 m4 m5 hq z0 z1 z3 z4 z5 h0
    have hsm : es.getLast? = some (xb, xn) ↔ ((eb == xb) && (en == xn)) = true := by
      rw [HLa.out]
      simp
    obtain ⟨sm, hsm2⟩ : ∃ sm, sm = ((eb == xb) && (en == xn)) := ⟨_, rfl⟩
    rw [← hsm2] at hsm ⊢
    have HSm := hid13 hsm
    clear hsm hsm2
    cases sm with
    | true =>
      have HQ := hid13 ((HTest.out true HSm.out).1 rfl)
      clear HTest HO3
      clear HSm
      go_wp2
      exact bodyPost_ret (v := .int .i64 25) (by simp [results, Try.results124, go_sem]) rfl ⟨by rw [HQ.out.1], by rw [HQ.out.2.1, HQ.out.2.2]; exact ⟨_, _, HA2.out.1⟩, HA2.out.2.1, HA2.out.2.2.1⟩
    | false =>
      have HQ := hid13 ((HTest.out false HSm.out).2 rfl)
      clear HTest
      have HR0 : Hid (RG2 (EtA w base G vc a l (.slice (some ⟨g0, 0, none⟩) (k + 1) bc) L P xb xn) (NwD [.bool xb, .int .i64 xn]) (EtC w base G vc a l (.slice (some ⟨g0, 0, none⟩) (k + 1) bc) L P (.slice (some ⟨eg, 0, none⟩) es.length ec) es (xb, xn)) (EtE w base G vc a l P k p (xb, xn)) (fun _ => True) false false false false false (0, (0, 0)) W2.drew) := ⟨RG.start trivial (HA2.out.below ((Below.refl _ _).drew)), fun q => (by cases q)⟩
      clear HA2 HO3
      go_wp2_with fail
      refine gh_region (γ := Nat × (Nat × Nat)) (qpOk 11 11 (by decide) (fun N => by kernel_rfl) (by kernel_rfl) (by kernel_rfl) (by kernel_rfl) (by kernel_rfl)) (by kernel_rfl) (by kernel_rfl) [some 28, some 29, some 30, some 31, some 32, some 33, some 34, some 35, some 36, some 37, none] (fun g => [.pointer (some ⟨g0, k * 4, none⟩), .pointer (some ⟨g0, k * 4, none⟩), .pointer (some ⟨g0, k * 4, none⟩), .pointer (some ⟨g0, k * 4 + 3, none⟩), .slice (some ⟨eg, 0, none⟩) es.length ec, .agg #[.bool xb, .int .i64 xn], .slice (some ⟨g.1, 0, none⟩) 1 1, .slice (some ⟨g.2.1, 0, none⟩) (es.length + 1) g.2.2, .pointer (some ⟨g0, k * 4, none⟩), .pointer (some ⟨g0, k * 4 + 3, none⟩), undef]) (by kernel_rfl) (by simp) (fun lp g X => RG2 (EtA w base G vc a l (.slice (some ⟨g0, 0, none⟩) (k + 1) bc) L P xb xn) (NwD [.bool xb, .int .i64 xn]) (EtC w base G vc a l (.slice (some ⟨g0, 0, none⟩) (k + 1) bc) L P (.slice (some ⟨eg, 0, none⟩) es.length ec) es (xb, xn)) (EtE w base G vc a l P k p (xb, xn)) (fun _ => True) (lp.getD 5 false) (lp.getD 4 false) (lp.getD 6 false) (lp.getD 7 false) (lp.getD 10 false) g X) (0, (0, 0)) HR0.out ?step5 ?fin5
      case step5 =>
        intro q o lp g w' a' ho hsz hun hdep hR hS K Q' hK
        have hfl : ∀ j, j ≠ q → (lp.setIfInBounds q true).getD j false = lp.getD j false := fun j hj => by rw [Array.getD_eq_getD_getElem?, Array.getD_eq_getD_getElem?, Array.getElem?_setIfInBounds_ne (by omega)]
        have hq : q < 11 := (List.getElem?_eq_some_iff.mp ho).1
        match q, ho, hun, hdep, hK, hfl, hq with
        | 0, ho, hun, hdep, hK, hfl, _ =>
          obtain rfl := Option.some.inj ho
          have o5 : a'.tmps[5]? = some (.pointer (some ⟨g0, k * 4, none⟩)) := (hS.old14 5 (by simp)).trans rfl
          have hK' := hK g w' (fun _ _ _ _ _ _ => rfl) (by rw [hfl 5 (by decide), hfl 4 (by decide), hfl 6 (by decide), hfl 7 (by decide), hfl 10 (by decide)]; exact hR) (.pointer (some ⟨g0, k * 4, none⟩)) (by simp only [valO, Option.bind_some]; (try simp only [putAll, Act.put, List.setIfInBounds_toArray, List.set_cons_zero, List.set_cons_succ]); (try rfl))
          clear hS hdep hR
          refine gh_quiet14 (v := .pointer (some ⟨g0, k * 4, none⟩)) ?_ ?_
          · (simp only [execOp, Act.eval, o5]; go_simp; first | done | (simp; done) | (simp [*]; done) | omega | (rw [IntKind.wrap_i64]; omega))
          · exact hK'
        | 1, ho, hun, hdep, hK, hfl, _ =>
          obtain rfl := Option.some.inj ho
          have o5 : a'.tmps[5]? = some (.pointer (some ⟨g0, k * 4, none⟩)) := (hS.old14 5 (by simp)).trans rfl
          have hK' := hK g w' (fun _ _ _ _ _ _ => rfl) (by rw [hfl 5 (by decide), hfl 4 (by decide), hfl 6 (by decide), hfl 7 (by decide), hfl 10 (by decide)]; exact hR) (.pointer (some ⟨g0, k * 4, none⟩)) (by simp only [valO, Option.bind_some]; (try simp only [putAll, Act.put, List.setIfInBounds_toArray, List.set_cons_zero, List.set_cons_succ]); (try rfl))
          clear hS hdep hR
          refine gh_quiet14 (v := .pointer (some ⟨g0, k * 4, none⟩)) ?_ ?_
          · (simp only [execOp, Act.eval, o5]; go_simp; first | done | (simp; done) | (simp [*]; done) | omega | (rw [IntKind.wrap_i64]; omega))
          · exact hK'
        | 2, ho, hun, hdep, hK, hfl, _ =>
          obtain rfl := Option.some.inj ho
          have d1 : lp.getD 1 false = true := hdep { on := 1, ground := .data } (by simp) rfl
          have e29 : a'.tmps[29]? = some (.pointer (some ⟨g0, k * 4, none⟩)) := (hS.don 1 _ 29 rfl d1 rfl).trans (by simp only [putAll, Act.put, List.setIfInBounds_toArray, List.set_cons_zero, List.set_cons_succ]; rfl)
          have hK' := hK g w' (fun _ _ _ _ _ _ => rfl) (by rw [hfl 5 (by decide), hfl 4 (by decide), hfl 6 (by decide), hfl 7 (by decide), hfl 10 (by decide)]; exact hR) (.pointer (some ⟨g0, k * 4, none⟩)) (by simp only [valO, Option.bind_some]; (try simp only [putAll, Act.put, List.setIfInBounds_toArray, List.set_cons_zero, List.set_cons_succ]); (try rfl))
          clear hS hdep hR
          refine gh_quiet14 (v := .pointer (some ⟨g0, k * 4, none⟩)) ?_ ?_
          · (simp only [execOp, Act.eval, e29]; go_simp; first | done | (simp; done) | (simp [*]; done) | omega | (rw [IntKind.wrap_i64]; omega))
          · exact hK'
        | 3, ho, hun, hdep, hK, hfl, _ =>
          obtain rfl := Option.some.inj ho
          have d2 : lp.getD 2 false = true := hdep { on := 2, ground := .data } (by simp) rfl
          have e30 : a'.tmps[30]? = some (.pointer (some ⟨g0, k * 4, none⟩)) := (hS.don 2 _ 30 rfl d2 rfl).trans (by simp only [putAll, Act.put, List.setIfInBounds_toArray, List.set_cons_zero, List.set_cons_succ]; rfl)
          have hK' := hK g w' (fun _ _ _ _ _ _ => rfl) (by rw [hfl 5 (by decide), hfl 4 (by decide), hfl 6 (by decide), hfl 7 (by decide), hfl 10 (by decide)]; exact hR) (.pointer (some ⟨g0, k * 4 + 3, none⟩)) (by simp only [valO, Option.bind_some]; (try simp only [putAll, Act.put, List.setIfInBounds_toArray, List.set_cons_zero, List.set_cons_succ]); (try rfl))
          clear hS hdep hR
          refine gh_quiet14 (v := .pointer (some ⟨g0, k * 4 + 3, none⟩)) ?_ ?_
          · (simp only [execOp, Act.eval, e30]; go_simp; first | done | (simp; done) | (simp [*]; done) | omega | (rw [IntKind.wrap_i64]; omega))
          · exact hK'
        | 4, ho, hun, hdep, hK, hfl, _ =>
          obtain rfl := Option.some.inj ho
          have d3 : lp.getD 3 false = true := hdep { on := 3, ground := .data } (by simp) rfl
          have e31 : a'.tmps[31]? = some (.pointer (some ⟨g0, k * 4 + 3, none⟩)) := (hS.don 3 _ 31 rfl d3 rfl).trans (by simp only [putAll, Act.put, List.setIfInBounds_toArray, List.set_cons_zero, List.set_cons_succ]; rfl)
          have k1 := (HR1.out _ (hR.nld hun).1).1
          have hK' := hK g w' (fun _ _ _ _ _ _ => rfl) (by rw [hfl 5 (by decide), hfl 6 (by decide), hfl 7 (by decide), hfl 10 (by decide), getD_set_same (by rw [hsz]; decide)]; exact hR.setld) (.slice (some ⟨eg, 0, none⟩) es.length ec) (by simp only [valO, Option.bind_some]; (try simp only [putAll, Act.put, List.setIfInBounds_toArray, List.set_cons_zero, List.set_cons_succ]); (try rfl))
          clear hS hdep hR
          refine gh_quiet14 (v := .slice (some ⟨eg, 0, none⟩) es.length ec) ?_ ?_
          · (simp only [execOp, Act.eval, e31]; go_simp; first | done | (simp; done) | (simp [*]; done) | omega | (rw [IntKind.wrap_i64]; omega))
          · exact hK'
        | 5, ho, hun, hdep, hK, hfl, _ =>
          obtain rfl := Option.some.inj ho
          have o3 : a'.tmps[3]? = some (.pointer (some ⟨w.heap.size, 0, none⟩)) := (hS.old14 3 (by simp)).trans rfl
          have k0 := hR.a2 hun
          have k1 := k0.2.2.2.1
          have k2 := k0.2.2.2.2
          clear k0
          have hK' := hK g w' (fun _ _ _ _ _ _ => rfl) (by rw [hfl 4 (by decide), hfl 6 (by decide), hfl 7 (by decide), hfl 10 (by decide), getD_set_same (by rw [hsz]; decide)]; exact hR.setl2) (.agg #[.bool xb, .int .i64 xn]) (by simp only [valO, Option.bind_some]; (try simp only [putAll, Act.put, List.setIfInBounds_toArray, List.set_cons_zero, List.set_cons_succ]); (try rfl))
          clear hS hdep hR
          refine gh_quiet14 (v := .agg #[.bool xb, .int .i64 xn]) ?_ ?_
          · (simp only [execOp, Act.eval, o3]; go_simp; first | done | (simp; done) | (simp [*]; done) | omega | (rw [IntKind.wrap_i64]; omega))
          · exact hK'
        | 6, ho, hun, hdep, hK, hfl, _ =>
          obtain rfl := Option.some.inj ho
          have d5 : lp.getD 5 false = true := hdep { on := 5, ground := .data } (by simp) rfl
          have e33 : a'.tmps[33]? = some (.agg #[.bool xb, .int .i64 xn]) := (hS.don 5 _ 33 rfl d5 rfl).trans (by simp only [putAll, Act.put, List.setIfInBounds_toArray, List.set_cons_zero, List.set_cons_succ]; rfl)
          have aA := hR.nbd hun
          have q := bl1 w' (.cells #[.bool xb, .int .i64 xn] 135)
          have hK' := hK (w'.heap.size, g.2) (w'.alloc (.cells #[.bool xb, .int .i64 xn] 135)) (fun k' ok s hk hl hd => gh_same14 (d := 34) (s := s) (by simp only [putAll, Act.put, List.setIfInBounds_toArray, List.set_cons_zero, List.set_cons_succ]; rfl) (by rintro rfl; have := dstG_of (by kernel_rfl) k' 6 ok _ 34 hk rfl hd rfl; subst this; rw [hun] at hl; cases hl)) (by rw [hfl 5 (by decide), hfl 4 (by decide), hfl 7 (by decide), hfl 10 (by decide), getD_set_same (by rw [hsz]; decide)]; exact hR.build2 hun d5 (aA.below q) (news_two18 w' _ _ _)) (.slice (some ⟨w'.heap.size, 0, none⟩) 1 1) (by simp only [valO, Option.bind_some]; simp only [putAll, Act.put, List.setIfInBounds_toArray, List.set_cons_zero, List.set_cons_succ]; rfl)
          clear hS hdep hR hK aA q
          unfold Oper.wp
          simp only [execOp, Act.eval, Array.getD_eq_getD_getElem?]
          simp [go_sem, e33, Oper.upon]
          exact hK'
        | 7, ho, hun, hdep, hK, hfl, _ =>
          obtain rfl := Option.some.inj ho
          have d4 : lp.getD 4 false = true := hdep { on := 4, ground := .data } (by simp) rfl
          have e32 : a'.tmps[32]? = some (.slice (some ⟨eg, 0, none⟩) es.length ec) := (hS.don 4 _ 32 rfl d4 rfl).trans (by simp only [putAll, Act.put, List.setIfInBounds_toArray, List.set_cons_zero, List.set_cons_succ]; rfl)
          have d6 : lp.getD 6 false = true := hdep { on := 6, ground := .data } (by simp) rfl
          have e34 : a'.tmps[34]? = some (.slice (some ⟨g.1, 0, none⟩) 1 1) := (hS.don 6 _ 34 rfl d6 rfl).trans (by simp only [putAll, Act.put, List.setIfInBounds_toArray, List.set_cons_zero, List.set_cons_succ]; rfl)
          have aA := hR.1.a hun
          have hN := hR.1.d d6 hun
          obtain ⟨-, -, oo, nn, mm⟩ := HR1.out _ aA.1
          refine wp_append_lies w' (.tmp 32) (.tmp 34) 109 rfl base 135 j0 (.agg #[.bool false, .int .i64 0]) 2 16 Try.underlying109 ji jz0 jz1 jz2 rfl (by decide) (.slice (some ⟨eg, 0, none⟩) es.length ec) es.length (rowE8 es) (by simp [Act.eval, e32]) oo ⟨g.1, 0, none⟩ 1 1 [.bool xb, .int .i64 xn] (by simp [Act.eval, e34]) rfl hN (by intro u hu; simp at hu; rcases hu with rfl | rfl <;> rfl) (by decide) (by unfold maxLen; have := HL.out; omega) (by have := HL.out; omega) (Nat.le_of_lt (Nat.lt_of_le_of_lt aA.1.bG (lt_16 aA.1.g))) _ rfl ?_
          intro gg cap W5 ho hg hat _
          rw [← rowE8_app es (xb, xn)] at ho
          exact hK (g.1, (gg, cap)) W5 (fun k' ok s hk hl hd => gh_same14 (d := 35) (s := s) (by simp only [putAll, Act.put, List.setIfInBounds_toArray, List.set_cons_zero, List.set_cons_succ]; rfl) (by rintro rfl; have := dstG_of (by kernel_rfl) k' 7 ok _ 35 hk rfl hd rfl; subst this; rw [hun] at hl; cases hl)) (by rw [hfl 5 (by decide), hfl 4 (by decide), hfl 6 (by decide), hfl 10 (by decide), getD_set_same (by rw [hsz]; decide)]; exact hR.app2 hun d4 d6 trivial ⟨⟨w', aA.1, hg, ho, hat.imp id (fun e => by omega)⟩, aA.2.1.grown hg (Nat.le_of_lt (Nat.lt_of_le_of_lt aA.1.bG (lt_16 aA.1.g))) (fun z e => (oo.lt z e).1), aA.2.2.1.trans (Kt.grown oo (.inr (.inr rfl)) hg)⟩) _ (by simp only [valO, Option.bind_some]; simp only [putAll, Act.put, List.setIfInBounds_toArray, List.set_cons_zero, List.set_cons_succ]; rfl)
        | 8, ho, hun, hdep, hK, hfl, _ =>
          obtain rfl := Option.some.inj ho
          have d0 : lp.getD 0 false = true := hdep { on := 0, ground := .data } (by simp) rfl
          have e28 : a'.tmps[28]? = some (.pointer (some ⟨g0, k * 4, none⟩)) := (hS.don 0 _ 28 rfl d0 rfl).trans (by simp only [putAll, Act.put, List.setIfInBounds_toArray, List.set_cons_zero, List.set_cons_succ]; rfl)
          have hK' := hK g w' (fun _ _ _ _ _ _ => rfl) (by rw [hfl 5 (by decide), hfl 4 (by decide), hfl 6 (by decide), hfl 7 (by decide), hfl 10 (by decide)]; exact hR) (.pointer (some ⟨g0, k * 4, none⟩)) (by simp only [valO, Option.bind_some]; (try simp only [putAll, Act.put, List.setIfInBounds_toArray, List.set_cons_zero, List.set_cons_succ]); (try rfl))
          clear hS hdep hR
          refine gh_quiet14 (v := .pointer (some ⟨g0, k * 4, none⟩)) ?_ ?_
          · (simp only [execOp, Act.eval, e28]; go_simp; first | done | (simp; done) | (simp [*]; done) | omega | (rw [IntKind.wrap_i64]; omega))
          · exact hK'
        | 9, ho, hun, hdep, hK, hfl, _ =>
          obtain rfl := Option.some.inj ho
          have d8 : lp.getD 8 false = true := hdep { on := 8, ground := .data } (by simp) rfl
          have e36 : a'.tmps[36]? = some (.pointer (some ⟨g0, k * 4, none⟩)) := (hS.don 8 _ 36 rfl d8 rfl).trans (by simp only [putAll, Act.put, List.setIfInBounds_toArray, List.set_cons_zero, List.set_cons_succ]; rfl)
          have hK' := hK g w' (fun _ _ _ _ _ _ => rfl) (by rw [hfl 5 (by decide), hfl 4 (by decide), hfl 6 (by decide), hfl 7 (by decide), hfl 10 (by decide)]; exact hR) (.pointer (some ⟨g0, k * 4 + 3, none⟩)) (by simp only [valO, Option.bind_some]; (try simp only [putAll, Act.put, List.setIfInBounds_toArray, List.set_cons_zero, List.set_cons_succ]); (try rfl))
          clear hS hdep hR
          refine gh_quiet14 (v := .pointer (some ⟨g0, k * 4 + 3, none⟩)) ?_ ?_
          · (simp only [execOp, Act.eval, e36]; go_simp; first | done | (simp; done) | (simp [*]; done) | omega | (rw [IntKind.wrap_i64]; omega))
          · exact hK'
        | 10, ho, hun, hdep, hK, hfl, _ =>
          obtain rfl := Option.some.inj ho
          have d9 : lp.getD 9 false = true := hdep { on := 9, ground := .data } (by simp) rfl
          have e37 : a'.tmps[37]? = some (.pointer (some ⟨g0, k * 4 + 3, none⟩)) := (hS.don 9 _ 37 rfl d9 rfl).trans (by simp only [putAll, Act.put, List.setIfInBounds_toArray, List.set_cons_zero, List.set_cons_succ]; rfl)
          have d7 : lp.getD 7 false = true := hdep { on := 7, ground := .data } (by simp) rfl
          have e35 : a'.tmps[35]? = some (.slice (some ⟨g.2.1, 0, none⟩) (es.length + 1) g.2.2) := (hS.don 7 _ 35 rfl d7 rfl).trans (by simp only [putAll, Act.put, List.setIfInBounds_toArray, List.set_cons_zero, List.set_cons_succ]; rfl)
          obtain ⟨⟨X0, b1, b2, b3, b4⟩, a2, a3⟩ := hR.1.c d7 hun
          obtain ⟨-, -, oo, nn, mm⟩ := HR1.out _ b1
          have hGe : w'.heap[G]? = some (.cells #[vc, .int .i64 a, .slice (some ⟨g0, 0, none⟩) (k + 1) bc, .int .i64 l] 127) := (b2.block G (lt_16 b1.g) (fun q => mm q.symm)).trans b1.g
          obtain ⟨cs, hcs⟩ := own_typed18 b1.b.o g0 rfl
          have hcs' : w'.heap[g0]? = some (.cells cs 111) := (b2.block g0 (lt_16 hcs) (fun q => nn q.symm)).trans hcs
          have hYv := HY.out.2.2.2
          have hbe := BsV.ents b1.b HY.out.1 HY.out.2.1 (by rw [hYv]; exact b2) (ve := .slice (some ⟨g.2.1, 0, none⟩) (es.length + 1) g.2.2) (es := es ++ [(xb, xn)]) (by rw [List.length_append]; exact b3) (fun z e => by
            have : g.2.1 = z := by simpa [Value.ownBlock] using e
            subst this; rw [hYv]; exact b4)
          have hN : RdR (w'.setCell ⟨g0, k * 4 + 3, none⟩ (.slice (some ⟨g.2.1, 0, none⟩) (es.length + 1) g.2.2)) base G vc a l (.slice (some ⟨g0, 0, none⟩) (k + 1) bc) _ (P.set k { p with es := p.es ++ [(xb, xn)] }) := ⟨(far_16 (fun q => by subst q; rw [hGe] at hcs'; injection hcs' with hcs'; injection hcs' with _ h3 _; exact absurd h3 (by decide))).trans hGe, by rw [← HS.out]; exact hbe, b1.bG⟩
          obtain ⟨cs0, hcs0⟩ : ∃ u, w'.cell? ⟨g0, k * 4 + 3, none⟩ = some u := ⟨_, by
            have := (HR1.out _ b1).1
            rw [← World.cell?_of_block (w := X0) (w' := w') (a := ⟨g0, k * 4 + 3, none⟩) (b2.block g0 (lt_16 hcs) (fun q => nn q.symm))] at this
            exact this⟩
          have kf := fr_16 (j := k * 4 + 3) hcs'
          have hK' := hK g (w'.setCell ⟨g0, k * 4 + 3, none⟩ (.slice (some ⟨g.2.1, 0, none⟩) (es.length + 1) g.2.2)) (fun _ _ _ _ _ _ => rfl) (by rw [hfl 5 (by decide), hfl 4 (by decide), hfl 6 (by decide), hfl 7 (by decide), getD_set_same (by rw [hsz]; decide)]; exact hR.sto2 d7 trivial ⟨⟨_, _, hN⟩, a2.setCell (p := ⟨g0, k * 4 + 3, none⟩) (b1.b.o.lt g0 rfl).1 _, a3.trans (Kt.set hcs' (.inr (.inl rfl)) _)⟩) undef rfl
          clear hS hdep hR hK b1 b2 b3 b4 hN a2 a3 hGe hcs hcs' oo nn mm hbe hYv
          unfold Oper.wp
          simp only [execOp, Act.eval, Array.getD_eq_getD_getElem?]
          simp [go_sem, e37, e35, hcs0, kf, Oper.upon]
          exact hK'
        | n + 11, ho, hun, hdep, hK, hfl, hq => exact absurd hq (by omega)
      case fin5 =>
        intro g V8 hR
        have HF := hid13 (hR.1.e (by simp))
        simp only [putAll, Act.put, List.setIfInBounds_toArray, List.set_cons_zero, List.set_cons_succ]
        clear hR HR0
        obtain ⟨vb8, L8, h8⟩ := HF.out.1
        have c3 := h8.c3
        have f3 := fr_16 (j := 3) h8.g
        have HF2 := hid13 (And.intro (RdR.s3 h8 (l - 1)) (And.intro (RdR.bs h8 HF.out.2.1 3 (.int .i64 (l - 1))) (HF.out.2.2.trans (h8.ks 3 (.int .i64 (l - 1))))))
        clear h8 HF
        go_wp2
        exact bodyPost_ret (v := .int .i64 0) (by simp [results, Try.results124, go_sem]) rfl ⟨by rw [HQ.out.1], by rw [HQ.out.2.1, HQ.out.2.2]; exact ⟨_, _, HF2.out.1⟩, HF2.out.2.1, HF2.out.2.2⟩
end Go.Proofs.Ytdpmhpmnkollaaa
