/-
  Part 9 of the proof: 1 texts, one behind the other.
-/
import Derived.Test.YtdpmhpmnkollaaaPart8
namespace Go.Proofs.Ytdpmhpmnkollaaa
open Go.RowKit
set_option linter.unusedSimpArgs false
set_option linter.unusedVariables false

structure RG (A : World → Prop) (D : Nat → World → Prop) (C E : Nat → Nat → World → Prop) (R : World → Prop) (ld bd ap st : Bool) (g : Nat × (Nat × Nat)) (X : World) : Prop where
  r : R X
  a : ap = false → A X
  d : bd = true → ap = false → D g.1 X
  c : ap = true → st = false → C g.2.1 g.2.2 X
  e : st = true → E g.2.1 g.2.2 X
  p1 : ap = true → bd = true
  p2 : st = true → ap = true
  p3 : ap = true → ld = true
section
variable {A : World → Prop} {D : Nat → World → Prop} {C E : Nat → Nat → World → Prop} {R : World → Prop} {ld bd ap st : Bool} {g : Nat × (Nat × Nat)} {X X' : World}
theorem RG.setld (h : RG A D C E R ld bd ap st g X) : RG A D C E R true bd ap st g X := ⟨h.r, h.a, h.d, h.c, h.e, h.p1, h.p2, fun _ => rfl⟩
theorem RG.nld (h : RG A D C E R ld bd ap st g X) (hl : ld = false) : A X := h.a (by
  cases q : ap with
  | false => rfl
  | true => have := h.p3 q; rw [hl] at this; cases this)
theorem RG.nbd (h : RG A D C E R ld bd ap st g X) (hl : bd = false) : A X := h.a (by
  cases q : ap with
  | false => rfl
  | true => have := h.p1 q; rw [hl] at this; cases this)
theorem RG.build (h : RG A D C E R ld bd ap st g X) (hbd : bd = false) {z : Nat} (hr : R X') (ha : A X') (hd : D z X') : RG A D C E R ld true ap st (z, g.2) X' :=
  have hap : ap = false := by
    cases q : ap with
    | false => rfl
    | true => have := h.p1 q; rw [hbd] at this; cases this
  ⟨hr, fun _ => ha, fun _ _ => hd, fun q => (by rw [hap] at q; cases q), fun q => (by have := h.p2 q; rw [hap] at this; cases this), fun _ => rfl, h.p2, h.p3⟩
theorem RG.app (h : RG A D C E R ld bd ap st g X) (hap : ap = false) (hld : ld = true) (hbd : bd = true) {gg cap : Nat} (hr : R X') (hc : C gg cap X') : RG A D C E R ld bd true st (g.1, (gg, cap)) X' :=
  have hs : st = false := by
    cases q : st with
    | false => rfl
    | true => have := h.p2 q; rw [hap] at this; cases this
  ⟨hr, fun q => (by cases q), fun _ q => (by cases q), fun _ _ => hc, fun q => (by rw [hs] at q; cases q), fun _ => hbd, fun _ => rfl, fun _ => hld⟩
theorem RG.sto (h : RG A D C E R ld bd ap st g X) (hap : ap = true) (hr : R X') (he : E g.2.1 g.2.2 X') : RG A D C E R ld bd ap true g X' :=
  ⟨hr, fun q => (by rw [hap] at q; cases q), fun _ q => (by rw [hap] at q; cases q), fun _ q => (by cases q), fun _ => he, h.p1, fun _ => hap, h.p3⟩
theorem RG.start (hr : R X) (ha : A X) : RG A D C E R false false false false g X := ⟨hr, fun _ => ha, fun q => (by cases q), fun q => (by cases q), fun q => (by cases q), fun q => (by cases q), fun q => (by cases q), fun q => (by cases q)⟩
end
theorem Try.infoB18 : (Try.prog.info? 111).map (fun i => (i.zero, i.size, i.bytes)) = some (some (.agg #[.int .i64 0, .int .i64 0, .slice none 0 0, .slice none 0 0]), 4, 64) := by kernel_rfl
theorem news_four18 (w : World) (a b c d : Value) (T : TypeId) : ∀ j u, [a, b, c, d][j]? = some u → (w.alloc (.cells #[a, b, c, d] T)).cell? ((⟨w.heap.size, 0, none⟩ : Addr).add j) = some u := by
  intro j u hj
  match j, hj with
  | 0, hj => simp at hj; subst hj; simp [go_sem, Addr.add]
  | 1, hj => simp at hj; subst hj; simp [go_sem, Addr.add]
  | 2, hj => simp at hj; subst hj; simp [go_sem, Addr.add]
  | 3, hj => simp at hj; subst hj; simp [go_sem, Addr.add]
  | n + 4, hj => simp at hj
def NwD (xs : List Value) (z : Nat) (X : World) : Prop := ∀ j u, xs[j]? = some u → X.cell? ((⟨z, 0, none⟩ : Addr).add j) = some u
theorem NwD.below {xs : List Value} {z : Nat} {X X' : World} (h : NwD xs z X) (hb : Below X.heap.size X X') : NwD xs z X' := fun j u hj => by
  have := h j u hj
  rw [addA] at this ⊢
  exact keepc hb this
set_option maxRecDepth 20000 in
set_option maxHeartbeats 16000000 in
theorem extract_any18 (w : World) (base G : Nat) (vc : Value) (a l : Int) (vb : Value) (L : List Bv) (P : List PB) (h : RdR w base G vc a l vb L P) (O N : Int) (v : Value) (hl : L.length ≤ 2000000) :
    Calls Try.prog 103 #[.pointer (some ⟨G, 0, none⟩), .agg #[.int .i64 O, .int .i64 N, v]] w fun e w' => e = .returned (.int .i64 0) ∧ RdQ w' base G vc a l (P ++ [⟨a, N, [], []⟩]) ∧ Below base w w' ∧ Kt w w' := by
  obtain ⟨j0, ji, jz0, jz1, jz2⟩ := info13 Try.infoB18
  obtain ⟨bo, bc, hvb⟩ := own_form h.b.o
  subst hvb
  obtain ⟨Wb, hWb⟩ : ∃ Wb, Wb = w.alloc (.cells #[.int .i64 O, .int .i64 N, v] 67) := ⟨_, rfl⟩
  have q0 := bl1 w (.cells #[.int .i64 O, .int .i64 N, v] 67)
  rw [← hWb] at q0
  have hW1 : Wb.cell? ⟨w.heap.size, 1, none⟩ = some (.int .i64 N) := by rw [hWb]; simp [go_sem]
  have hbs : base ≤ w.heap.size := Nat.le_of_lt (Nat.lt_of_le_of_lt h.bG (lt_16 h.g))
  have HR0 : Hid (RG (fun X => RdR X base G vc a l (.slice bo L.length bc) L P ∧ Below base w X ∧ Kt Wb X) (NwD [.int .i64 a, .int .i64 N, .slice none 0 0, .slice none 0 0]) (fun g c X => (∃ X0, RdR X0 base G vc a l (.slice bo L.length bc) L P ∧ X0.grownBy X (Value.ownBlock (.slice bo L.length bc)) ∧ X.ownsRow base 111 4 (.slice (some ⟨g, 0, none⟩) (L.length + 1) c) (L.length + 1) (rowB8 L ++ [.int .i64 a, .int .i64 N, .slice none 0 0, .slice none 0 0])) ∧ Below base w X ∧ Kt Wb X) (fun g c X => RdQ X base G vc a l (P ++ [⟨a, N, [], []⟩]) ∧ Below base w X ∧ Kt Wb X) (fun X => X.cell? ⟨G, 1, none⟩ = some (.int .i64 a) ∧ X.cell? ⟨w.heap.size, 1, none⟩ = some (.int .i64 N)) false false false false (0, (0, 0)) Wb.drew) := by
    have q1 : Below w.heap.size w Wb.drew := q0.drew
    refine RG.start ⟨(h.below q1).c1, hW1⟩ ⟨h.below q1, q1.mono hbs, Kt.below ((Below.refl _ _).drew)⟩
  have HL : Hid (L.length ≤ 2000000) := hl
  have HBx : Hid (∀ X, Kt Wb X → X.cell? ⟨w.heap.size, 1, none⟩ = some (.int .i64 N)) := hid13 (fun X hX => at_16 (hX.2 _ _ _ _ (by rw [hWb]; exact new_16 _ _) (by unfold vTy; decide)) 1 _ rfl)
  have HK0 : Hid (Kt w Wb) := Kt.below q0
  clear h hl q0 hW1 hbs
  go_enter Try.func103, Try.ntmps103
  go_wp2_with fail
  rw [← hWb]
  clear hWb
  refine gh_region (γ := Nat × (Nat × Nat)) (qpOk 17 17 (by decide) (fun N => by kernel_rfl) (by kernel_rfl) (by kernel_rfl) (by kernel_rfl) (by kernel_rfl)) (by kernel_rfl) (by kernel_rfl) [some 5, some 6, some 7, some 8, some 9, some 10, some 11, some 12, some 13, some 14, some 15, some 16, some 17, some 18, some 19, some 20, none] (fun g => [.pointer (some ⟨G, 0, none⟩), .pointer (some ⟨G, 0, none⟩), .pointer (some ⟨G, 0, none⟩), .pointer (some ⟨G, 2, none⟩), .slice bo L.length bc, .pointer (some ⟨G, 0, none⟩), .pointer (some ⟨G, 0, none⟩), .pointer (some ⟨G, 1, none⟩), .int .i64 a, .pointer (some ⟨w.heap.size, 1, none⟩), .int .i64 N, .agg #[.int .i64 a, .int .i64 N, .slice none 0 0, .slice none 0 0], .slice (some ⟨g.1, 0, none⟩) 1 1, .slice (some ⟨g.2.1, 0, none⟩) (L.length + 1) g.2.2, .pointer (some ⟨G, 0, none⟩), .pointer (some ⟨G, 2, none⟩), undef]) (by kernel_rfl) (by simp) (fun lp g X => RG (fun X => RdR X base G vc a l (.slice bo L.length bc) L P ∧ Below base w X ∧ Kt Wb X) (NwD [.int .i64 a, .int .i64 N, .slice none 0 0, .slice none 0 0]) (fun g c X => (∃ X0, RdR X0 base G vc a l (.slice bo L.length bc) L P ∧ X0.grownBy X (Value.ownBlock (.slice bo L.length bc)) ∧ X.ownsRow base 111 4 (.slice (some ⟨g, 0, none⟩) (L.length + 1) c) (L.length + 1) (rowB8 L ++ [.int .i64 a, .int .i64 N, .slice none 0 0, .slice none 0 0])) ∧ Below base w X ∧ Kt Wb X) (fun g c X => RdQ X base G vc a l (P ++ [⟨a, N, [], []⟩]) ∧ Below base w X ∧ Kt Wb X) (fun X => X.cell? ⟨G, 1, none⟩ = some (.int .i64 a) ∧ X.cell? ⟨w.heap.size, 1, none⟩ = some (.int .i64 N)) (lp.getD 4 false) (lp.getD 12 false) (lp.getD 13 false) (lp.getD 16 false) g X) (0, (0, 0)) HR0.out ?step1 ?fin1
  case step1 =>
    intro q o lp g w' a' ho hsz hun hdep hR hS K Q' hK
    have hfl : ∀ j, j ≠ q → (lp.setIfInBounds q true).getD j false = lp.getD j false := fun j hj => by rw [Array.getD_eq_getD_getElem?, Array.getD_eq_getD_getElem?, Array.getElem?_setIfInBounds_ne (by omega)]
    have hq : q < 17 := (List.getElem?_eq_some_iff.mp ho).1
    match q, ho, hun, hdep, hK, hfl, hq with
    | 0, ho, hun, hdep, hK, hfl, _ =>
      obtain rfl := Option.some.inj ho
      have o0 : a'.tmps[0]? = some (.pointer (some ⟨G, 0, none⟩)) := (hS.old14 0 (by simp)).trans rfl
      have hK' := hK g w' (fun _ _ _ _ _ _ => rfl) (by rw [hfl 4 (by decide), hfl 12 (by decide), hfl 13 (by decide), hfl 16 (by decide)]; exact hR) (.pointer (some ⟨G, 0, none⟩)) (by simp only [valO, Option.bind_some]; (try simp only [putAll, Act.put, List.setIfInBounds_toArray, List.set_cons_zero, List.set_cons_succ]); (try rfl))
      clear hS hdep hR
      refine gh_quiet14 (v := .pointer (some ⟨G, 0, none⟩)) ?_ ?_
      · (simp only [execOp, Act.eval, o0]; go_simp; first | done | (simp; done) | (simp [*]; done) | omega | (rw [IntKind.wrap_i64]; omega))
      · exact hK'
    | 1, ho, hun, hdep, hK, hfl, _ =>
      obtain rfl := Option.some.inj ho
      have o0 : a'.tmps[0]? = some (.pointer (some ⟨G, 0, none⟩)) := (hS.old14 0 (by simp)).trans rfl
      have hK' := hK g w' (fun _ _ _ _ _ _ => rfl) (by rw [hfl 4 (by decide), hfl 12 (by decide), hfl 13 (by decide), hfl 16 (by decide)]; exact hR) (.pointer (some ⟨G, 0, none⟩)) (by simp only [valO, Option.bind_some]; (try simp only [putAll, Act.put, List.setIfInBounds_toArray, List.set_cons_zero, List.set_cons_succ]); (try rfl))
      clear hS hdep hR
      refine gh_quiet14 (v := .pointer (some ⟨G, 0, none⟩)) ?_ ?_
      · (simp only [execOp, Act.eval, o0]; go_simp; first | done | (simp; done) | (simp [*]; done) | omega | (rw [IntKind.wrap_i64]; omega))
      · exact hK'
    | 2, ho, hun, hdep, hK, hfl, _ =>
      obtain rfl := Option.some.inj ho
      have d1 : lp.getD 1 false = true := hdep { on := 1, ground := .data } (by simp) rfl
      have e6 : a'.tmps[6]? = some (.pointer (some ⟨G, 0, none⟩)) := (hS.don 1 _ 6 rfl d1 rfl).trans (by simp only [putAll, Act.put, List.setIfInBounds_toArray, List.set_cons_zero, List.set_cons_succ]; rfl)
      have hK' := hK g w' (fun _ _ _ _ _ _ => rfl) (by rw [hfl 4 (by decide), hfl 12 (by decide), hfl 13 (by decide), hfl 16 (by decide)]; exact hR) (.pointer (some ⟨G, 0, none⟩)) (by simp only [valO, Option.bind_some]; (try simp only [putAll, Act.put, List.setIfInBounds_toArray, List.set_cons_zero, List.set_cons_succ]); (try rfl))
      clear hS hdep hR
      refine gh_quiet14 (v := .pointer (some ⟨G, 0, none⟩)) ?_ ?_
      · (simp only [execOp, Act.eval, e6]; go_simp; first | done | (simp; done) | (simp [*]; done) | omega | (rw [IntKind.wrap_i64]; omega))
      · exact hK'
    | 3, ho, hun, hdep, hK, hfl, _ =>
      obtain rfl := Option.some.inj ho
      have d2 : lp.getD 2 false = true := hdep { on := 2, ground := .data } (by simp) rfl
      have e7 : a'.tmps[7]? = some (.pointer (some ⟨G, 0, none⟩)) := (hS.don 2 _ 7 rfl d2 rfl).trans (by simp only [putAll, Act.put, List.setIfInBounds_toArray, List.set_cons_zero, List.set_cons_succ]; rfl)
      have hK' := hK g w' (fun _ _ _ _ _ _ => rfl) (by rw [hfl 4 (by decide), hfl 12 (by decide), hfl 13 (by decide), hfl 16 (by decide)]; exact hR) (.pointer (some ⟨G, 2, none⟩)) (by simp only [valO, Option.bind_some]; (try simp only [putAll, Act.put, List.setIfInBounds_toArray, List.set_cons_zero, List.set_cons_succ]); (try rfl))
      clear hS hdep hR
      refine gh_quiet14 (v := .pointer (some ⟨G, 2, none⟩)) ?_ ?_
      · (simp only [execOp, Act.eval, e7]; go_simp; first | done | (simp; done) | (simp [*]; done) | omega | (rw [IntKind.wrap_i64]; omega))
      · exact hK'
    | 4, ho, hun, hdep, hK, hfl, _ =>
      obtain rfl := Option.some.inj ho
      have d3 : lp.getD 3 false = true := hdep { on := 3, ground := .data } (by simp) rfl
      have e8 : a'.tmps[8]? = some (.pointer (some ⟨G, 2, none⟩)) := (hS.don 3 _ 8 rfl d3 rfl).trans (by simp only [putAll, Act.put, List.setIfInBounds_toArray, List.set_cons_zero, List.set_cons_succ]; rfl)
      have k1 := (hR.nld hun).1.c2
      have hK' := hK g w' (fun _ _ _ _ _ _ => rfl) (by rw [hfl 12 (by decide), hfl 13 (by decide), hfl 16 (by decide), getD_set_same (by rw [hsz]; decide)]; exact hR.setld) (.slice bo L.length bc) (by simp only [valO, Option.bind_some]; (try simp only [putAll, Act.put, List.setIfInBounds_toArray, List.set_cons_zero, List.set_cons_succ]); (try rfl))
      clear hS hdep hR
      refine gh_quiet14 (v := .slice bo L.length bc) ?_ ?_
      · (simp only [execOp, Act.eval, e8]; go_simp; first | done | (simp; done) | (simp [*]; done) | omega | (rw [IntKind.wrap_i64]; omega))
      · exact hK'
    | 5, ho, hun, hdep, hK, hfl, _ =>
      obtain rfl := Option.some.inj ho
      have o0 : a'.tmps[0]? = some (.pointer (some ⟨G, 0, none⟩)) := (hS.old14 0 (by simp)).trans rfl
      have hK' := hK g w' (fun _ _ _ _ _ _ => rfl) (by rw [hfl 4 (by decide), hfl 12 (by decide), hfl 13 (by decide), hfl 16 (by decide)]; exact hR) (.pointer (some ⟨G, 0, none⟩)) (by simp only [valO, Option.bind_some]; (try simp only [putAll, Act.put, List.setIfInBounds_toArray, List.set_cons_zero, List.set_cons_succ]); (try rfl))
      clear hS hdep hR
      refine gh_quiet14 (v := .pointer (some ⟨G, 0, none⟩)) ?_ ?_
      · (simp only [execOp, Act.eval, o0]; go_simp; first | done | (simp; done) | (simp [*]; done) | omega | (rw [IntKind.wrap_i64]; omega))
      · exact hK'
    | 6, ho, hun, hdep, hK, hfl, _ =>
      obtain rfl := Option.some.inj ho
      have d5 : lp.getD 5 false = true := hdep { on := 5, ground := .data } (by simp) rfl
      have e10 : a'.tmps[10]? = some (.pointer (some ⟨G, 0, none⟩)) := (hS.don 5 _ 10 rfl d5 rfl).trans (by simp only [putAll, Act.put, List.setIfInBounds_toArray, List.set_cons_zero, List.set_cons_succ]; rfl)
      have hK' := hK g w' (fun _ _ _ _ _ _ => rfl) (by rw [hfl 4 (by decide), hfl 12 (by decide), hfl 13 (by decide), hfl 16 (by decide)]; exact hR) (.pointer (some ⟨G, 0, none⟩)) (by simp only [valO, Option.bind_some]; (try simp only [putAll, Act.put, List.setIfInBounds_toArray, List.set_cons_zero, List.set_cons_succ]); (try rfl))
      clear hS hdep hR
      refine gh_quiet14 (v := .pointer (some ⟨G, 0, none⟩)) ?_ ?_
      · (simp only [execOp, Act.eval, e10]; go_simp; first | done | (simp; done) | (simp [*]; done) | omega | (rw [IntKind.wrap_i64]; omega))
      · exact hK'
    | 7, ho, hun, hdep, hK, hfl, _ =>
      obtain rfl := Option.some.inj ho
      have d6 : lp.getD 6 false = true := hdep { on := 6, ground := .data } (by simp) rfl
      have e11 : a'.tmps[11]? = some (.pointer (some ⟨G, 0, none⟩)) := (hS.don 6 _ 11 rfl d6 rfl).trans (by simp only [putAll, Act.put, List.setIfInBounds_toArray, List.set_cons_zero, List.set_cons_succ]; rfl)
      have hK' := hK g w' (fun _ _ _ _ _ _ => rfl) (by rw [hfl 4 (by decide), hfl 12 (by decide), hfl 13 (by decide), hfl 16 (by decide)]; exact hR) (.pointer (some ⟨G, 1, none⟩)) (by simp only [valO, Option.bind_some]; (try simp only [putAll, Act.put, List.setIfInBounds_toArray, List.set_cons_zero, List.set_cons_succ]); (try rfl))
      clear hS hdep hR
      refine gh_quiet14 (v := .pointer (some ⟨G, 1, none⟩)) ?_ ?_
      · (simp only [execOp, Act.eval, e11]; go_simp; first | done | (simp; done) | (simp [*]; done) | omega | (rw [IntKind.wrap_i64]; omega))
      · exact hK'
    | 8, ho, hun, hdep, hK, hfl, _ =>
      obtain rfl := Option.some.inj ho
      have d7 : lp.getD 7 false = true := hdep { on := 7, ground := .data } (by simp) rfl
      have e12 : a'.tmps[12]? = some (.pointer (some ⟨G, 1, none⟩)) := (hS.don 7 _ 12 rfl d7 rfl).trans (by simp only [putAll, Act.put, List.setIfInBounds_toArray, List.set_cons_zero, List.set_cons_succ]; rfl)
      have k1 := hR.r.1
      have hK' := hK g w' (fun _ _ _ _ _ _ => rfl) (by rw [hfl 4 (by decide), hfl 12 (by decide), hfl 13 (by decide), hfl 16 (by decide)]; exact hR) (.int .i64 a) (by simp only [valO, Option.bind_some]; (try simp only [putAll, Act.put, List.setIfInBounds_toArray, List.set_cons_zero, List.set_cons_succ]); (try rfl))
      clear hS hdep hR
      refine gh_quiet14 (v := .int .i64 a) ?_ ?_
      · (simp only [execOp, Act.eval, e12]; go_simp; first | done | (simp; done) | (simp [*]; done) | omega | (rw [IntKind.wrap_i64]; omega))
      · exact hK'
    | 9, ho, hun, hdep, hK, hfl, _ =>
      obtain rfl := Option.some.inj ho
      have o3 : a'.tmps[3]? = some (.pointer (some ⟨w.heap.size, 0, none⟩)) := (hS.old14 3 (by simp)).trans rfl
      have hK' := hK g w' (fun _ _ _ _ _ _ => rfl) (by rw [hfl 4 (by decide), hfl 12 (by decide), hfl 13 (by decide), hfl 16 (by decide)]; exact hR) (.pointer (some ⟨w.heap.size, 1, none⟩)) (by simp only [valO, Option.bind_some]; (try simp only [putAll, Act.put, List.setIfInBounds_toArray, List.set_cons_zero, List.set_cons_succ]); (try rfl))
      clear hS hdep hR
      refine gh_quiet14 (v := .pointer (some ⟨w.heap.size, 1, none⟩)) ?_ ?_
      · (simp only [execOp, Act.eval, o3]; go_simp; first | done | (simp; done) | (simp [*]; done) | omega | (rw [IntKind.wrap_i64]; omega))
      · exact hK'
    | 10, ho, hun, hdep, hK, hfl, _ =>
      obtain rfl := Option.some.inj ho
      have d9 : lp.getD 9 false = true := hdep { on := 9, ground := .data } (by simp) rfl
      have e14 : a'.tmps[14]? = some (.pointer (some ⟨w.heap.size, 1, none⟩)) := (hS.don 9 _ 14 rfl d9 rfl).trans (by simp only [putAll, Act.put, List.setIfInBounds_toArray, List.set_cons_zero, List.set_cons_succ]; rfl)
      have k1 := hR.r.2
      have hK' := hK g w' (fun _ _ _ _ _ _ => rfl) (by rw [hfl 4 (by decide), hfl 12 (by decide), hfl 13 (by decide), hfl 16 (by decide)]; exact hR) (.int .i64 N) (by simp only [valO, Option.bind_some]; (try simp only [putAll, Act.put, List.setIfInBounds_toArray, List.set_cons_zero, List.set_cons_succ]); (try rfl))
      clear hS hdep hR
      refine gh_quiet14 (v := .int .i64 N) ?_ ?_
      · (simp only [execOp, Act.eval, e14]; go_simp; first | done | (simp; done) | (simp [*]; done) | omega | (rw [IntKind.wrap_i64]; omega))
      · exact hK'
    | 11, ho, hun, hdep, hK, hfl, _ =>
      obtain rfl := Option.some.inj ho
      have d8 : lp.getD 8 false = true := hdep { on := 8, ground := .data } (by simp) rfl
      have e13 : a'.tmps[13]? = some (.int .i64 a) := (hS.don 8 _ 13 rfl d8 rfl).trans (by simp only [putAll, Act.put, List.setIfInBounds_toArray, List.set_cons_zero, List.set_cons_succ]; rfl)
      have d10 : lp.getD 10 false = true := hdep { on := 10, ground := .data } (by simp) rfl
      have e15 : a'.tmps[15]? = some (.int .i64 N) := (hS.don 10 _ 15 rfl d10 rfl).trans (by simp only [putAll, Act.put, List.setIfInBounds_toArray, List.set_cons_zero, List.set_cons_succ]; rfl)
      have hK' := hK g w' (fun _ _ _ _ _ _ => rfl) (by rw [hfl 4 (by decide), hfl 12 (by decide), hfl 13 (by decide), hfl 16 (by decide)]; exact hR) (.agg #[.int .i64 a, .int .i64 N, .slice none 0 0, .slice none 0 0]) (by simp only [valO, Option.bind_some]; (try simp only [putAll, Act.put, List.setIfInBounds_toArray, List.set_cons_zero, List.set_cons_succ]); (try rfl))
      clear hS hdep hR
      refine gh_quiet14 (v := .agg #[.int .i64 a, .int .i64 N, .slice none 0 0, .slice none 0 0]) ?_ ?_
      · (simp only [execOp, Act.eval, e13, e15]; go_simp; first | done | (simp; done) | (simp [*]; done) | omega | (rw [IntKind.wrap_i64]; omega))
      · exact hK'
    | 12, ho, hun, hdep, hK, hfl, _ =>
      obtain rfl := Option.some.inj ho
      have d11 : lp.getD 11 false = true := hdep { on := 11, ground := .data } (by simp) rfl
      have e16 : a'.tmps[16]? = some (.agg #[.int .i64 a, .int .i64 N, .slice none 0 0, .slice none 0 0]) := (hS.don 11 _ 16 rfl d11 rfl).trans (by simp only [putAll, Act.put, List.setIfInBounds_toArray, List.set_cons_zero, List.set_cons_succ]; rfl)
      obtain ⟨a1, a2, a3⟩ := hR.nbd hun
      have q := bl1 w' (.cells #[.int .i64 a, .int .i64 N, .slice none 0 0, .slice none 0 0] 111)
      have hbz : base ≤ w'.heap.size := Nat.le_of_lt (Nat.lt_of_le_of_lt a1.bG (lt_16 a1.g))
      have hK' := hK (w'.heap.size, g.2) (w'.alloc (.cells #[.int .i64 a, .int .i64 N, .slice none 0 0, .slice none 0 0] 111)) (fun k' ok s hk hl hd => gh_same14 (d := 17) (s := s) (by simp only [putAll, Act.put, List.setIfInBounds_toArray, List.set_cons_zero, List.set_cons_succ]; rfl) (by rintro rfl; have := dstG_of (by kernel_rfl) k' 12 ok _ 17 hk rfl hd rfl; subst this; rw [hun] at hl; cases hl)) (by rw [hfl 4 (by decide), hfl 13 (by decide), hfl 16 (by decide), getD_set_same (by rw [hsz]; decide)]; exact hR.build hun ⟨keepc q hR.r.1, keepc q hR.r.2⟩ ⟨a1.below q, a2.trans (q.mono hbz), a3.trans (Kt.below q)⟩ (news_four18 w' _ _ _ _ _)) (.slice (some ⟨w'.heap.size, 0, none⟩) 1 1) (by simp only [valO, Option.bind_some]; simp only [putAll, Act.put, List.setIfInBounds_toArray, List.set_cons_zero, List.set_cons_succ]; rfl)
      clear hS hdep hR hK a1 a2 a3 q
      unfold Oper.wp
      simp only [execOp, Act.eval, Array.getD_eq_getD_getElem?]
      simp [go_sem, e16, Oper.upon]
      exact hK'
    | 13, ho, hun, hdep, hK, hfl, _ =>
      obtain rfl := Option.some.inj ho
      have d4 : lp.getD 4 false = true := hdep { on := 4, ground := .data } (by simp) rfl
      have e9 : a'.tmps[9]? = some (.slice bo L.length bc) := (hS.don 4 _ 9 rfl d4 rfl).trans (by simp only [putAll, Act.put, List.setIfInBounds_toArray, List.set_cons_zero, List.set_cons_succ]; rfl)
      have d12 : lp.getD 12 false = true := hdep { on := 12, ground := .data } (by simp) rfl
      have e17 : a'.tmps[17]? = some (.slice (some ⟨g.1, 0, none⟩) 1 1) := (hS.don 12 _ 17 rfl d12 rfl).trans (by simp only [putAll, Act.put, List.setIfInBounds_toArray, List.set_cons_zero, List.set_cons_succ]; rfl)
      obtain ⟨a1, a2, a3⟩ := hR.a hun
      have hN := hR.d d12 hun
      refine wp_append_lies w' (.tmp 9) (.tmp 17) 79 rfl base 111 j0 (.agg #[.int .i64 0, .int .i64 0, .slice none 0 0, .slice none 0 0]) 4 64 Try.underlying79 ji jz0 jz1 jz2 rfl (by decide) (.slice bo L.length bc) L.length (rowB8 L) (by simp [Act.eval, e9]) a1.b.o ⟨g.1, 0, none⟩ 1 1 [.int .i64 a, .int .i64 N, .slice none 0 0, .slice none 0 0] (by simp [Act.eval, e17]) rfl hN (by intro u hu; simp at hu; rcases hu with rfl | rfl | rfl <;> rfl) (by decide) (by unfold maxLen; have := HL.out; omega) (by have := HL.out; omega) (Nat.le_of_lt (Nat.lt_of_le_of_lt a1.bG (lt_16 a1.g))) _ rfl ?_
      intro gg cap W5 ho hg hat _
      have hGn : Value.ownBlock (.slice bo L.length bc) ≠ some G := own_not18 a1.b.o a1.g (by decide)
      have hGe : W5.heap[G]? = w'.heap[G]? := hg.block G (lt_16 a1.g) (fun q => hGn q.symm)
      have hk1 := Kt.grown a1.b.o (.inr (.inl rfl)) hg
      have hbw : Below base w W5 := a2.grown hg (Nat.le_of_lt (Nat.lt_of_le_of_lt a1.bG (lt_16 a1.g))) (fun z e => (a1.b.o.lt z e).1)
      have hr2 : W5.cell? ⟨w.heap.size, 1, none⟩ = some (.int .i64 N) := HBx.out W5 (a3.trans hk1)
      exact hK (g.1, (gg, cap)) W5 (fun k' ok s hk hl hd => gh_same14 (d := 18) (s := s) (by simp only [putAll, Act.put, List.setIfInBounds_toArray, List.set_cons_zero, List.set_cons_succ]; rfl) (by rintro rfl; have := dstG_of (by kernel_rfl) k' 13 ok _ 18 hk rfl hd rfl; subst this; rw [hun] at hl; cases hl)) (by rw [hfl 4 (by decide), hfl 12 (by decide), hfl 16 (by decide), getD_set_same (by rw [hsz]; decide)]; exact hR.app hun d4 d12 ⟨by rw [World.cell?_of_block (w := w') hGe]; exact a1.c1, hr2⟩ ⟨⟨w', a1, hg, ho⟩, hbw, a3.trans hk1⟩) _ (by simp only [valO, Option.bind_some]; simp only [putAll, Act.put, List.setIfInBounds_toArray, List.set_cons_zero, List.set_cons_succ]; rfl)
    | 14, ho, hun, hdep, hK, hfl, _ =>
      obtain rfl := Option.some.inj ho
      have d0 : lp.getD 0 false = true := hdep { on := 0, ground := .data } (by simp) rfl
      have e5 : a'.tmps[5]? = some (.pointer (some ⟨G, 0, none⟩)) := (hS.don 0 _ 5 rfl d0 rfl).trans (by simp only [putAll, Act.put, List.setIfInBounds_toArray, List.set_cons_zero, List.set_cons_succ]; rfl)
      have hK' := hK g w' (fun _ _ _ _ _ _ => rfl) (by rw [hfl 4 (by decide), hfl 12 (by decide), hfl 13 (by decide), hfl 16 (by decide)]; exact hR) (.pointer (some ⟨G, 0, none⟩)) (by simp only [valO, Option.bind_some]; (try simp only [putAll, Act.put, List.setIfInBounds_toArray, List.set_cons_zero, List.set_cons_succ]); (try rfl))
      clear hS hdep hR
      refine gh_quiet14 (v := .pointer (some ⟨G, 0, none⟩)) ?_ ?_
      · (simp only [execOp, Act.eval, e5]; go_simp; first | done | (simp; done) | (simp [*]; done) | omega | (rw [IntKind.wrap_i64]; omega))
      · exact hK'
    | 15, ho, hun, hdep, hK, hfl, _ =>
      obtain rfl := Option.some.inj ho
      have d14 : lp.getD 14 false = true := hdep { on := 14, ground := .data } (by simp) rfl
      have e19 : a'.tmps[19]? = some (.pointer (some ⟨G, 0, none⟩)) := (hS.don 14 _ 19 rfl d14 rfl).trans (by simp only [putAll, Act.put, List.setIfInBounds_toArray, List.set_cons_zero, List.set_cons_succ]; rfl)
      have hK' := hK g w' (fun _ _ _ _ _ _ => rfl) (by rw [hfl 4 (by decide), hfl 12 (by decide), hfl 13 (by decide), hfl 16 (by decide)]; exact hR) (.pointer (some ⟨G, 2, none⟩)) (by simp only [valO, Option.bind_some]; (try simp only [putAll, Act.put, List.setIfInBounds_toArray, List.set_cons_zero, List.set_cons_succ]); (try rfl))
      clear hS hdep hR
      refine gh_quiet14 (v := .pointer (some ⟨G, 2, none⟩)) ?_ ?_
      · (simp only [execOp, Act.eval, e19]; go_simp; first | done | (simp; done) | (simp [*]; done) | omega | (rw [IntKind.wrap_i64]; omega))
      · exact hK'
    | 16, ho, hun, hdep, hK, hfl, _ =>
      obtain rfl := Option.some.inj ho
      have d15 : lp.getD 15 false = true := hdep { on := 15, ground := .data } (by simp) rfl
      have e20 : a'.tmps[20]? = some (.pointer (some ⟨G, 2, none⟩)) := (hS.don 15 _ 20 rfl d15 rfl).trans (by simp only [putAll, Act.put, List.setIfInBounds_toArray, List.set_cons_zero, List.set_cons_succ]; rfl)
      have d13 : lp.getD 13 false = true := hdep { on := 13, ground := .data } (by simp) rfl
      have e18 : a'.tmps[18]? = some (.slice (some ⟨g.2.1, 0, none⟩) (L.length + 1) g.2.2) := (hS.don 13 _ 18 rfl d13 rfl).trans (by simp only [putAll, Act.put, List.setIfInBounds_toArray, List.set_cons_zero, List.set_cons_succ]; rfl)
      obtain ⟨⟨X0, b1, b2, b3⟩, a2, a3⟩ := hR.c d13 hun
      have hGn : Value.ownBlock (.slice bo L.length bc) ≠ some G := own_not18 b1.b.o b1.g (by decide)
      have hGe : w'.heap[G]? = some (.cells #[vc, .int .i64 a, .slice bo L.length bc, .int .i64 l] 127) := (b2.block G (lt_16 b1.g) (fun q => hGn q.symm)).trans b1.g
      have hN : RdR (w'.setCell ⟨G, 2, none⟩ (.slice (some ⟨g.2.1, 0, none⟩) (L.length + 1) g.2.2)) base G vc a l (.slice (some ⟨g.2.1, 0, none⟩) (L.length + 1) g.2.2) (L ++ [⟨a, N, .slice none 0 0, .slice none 0 0⟩]) (P ++ [⟨a, N, [], []⟩]) := ⟨by rw [set_16 hGe]; rfl, (b1.b.push b2 a N b3).far hGe (by decide) (by decide) (by decide) _, b1.bG⟩
      have hk := a3.trans (Kt.set hGe (.inl rfl) (.slice (some ⟨g.2.1, 0, none⟩) (L.length + 1) g.2.2) (o := 2))
      have k1 := at_16 hGe 2 _ rfl
      have kf := fr_16 (j := 2) hGe
      have hK' := hK g (w'.setCell ⟨G, 2, none⟩ (.slice (some ⟨g.2.1, 0, none⟩) (L.length + 1) g.2.2)) (fun _ _ _ _ _ _ => rfl) (by rw [hfl 4 (by decide), hfl 12 (by decide), hfl 13 (by decide), getD_set_same (by rw [hsz]; decide)]; exact hR.sto d13 ⟨hN.c1, HBx.out _ hk⟩ ⟨⟨_, _, hN⟩, a2.setCell (p := ⟨G, 2, none⟩) b1.bG _, hk⟩) undef rfl
      clear hS hdep hR hK b1 b2 b3 hN a2 a3 hk hGe hGn
      unfold Oper.wp
      simp only [execOp, Act.eval, Array.getD_eq_getD_getElem?]
      simp [go_sem, e20, e18, k1, kf, Oper.upon]
      exact hK'
    | n + 17, ho, hun, hdep, hK, hfl, hq => exact absurd hq (by omega)
  case fin1 =>
    intro g V8 hR
    obtain ⟨e1, e2, e3⟩ := hR.e (by simp)
    simp only [putAll, Act.put, List.setIfInBounds_toArray, List.set_cons_zero, List.set_cons_succ]
    have HF := hid13 (And.intro e1 (And.intro e2 (HK0.out.trans e3)))
    clear hR e1 e2 e3 HR0
    go_wp2
    exact bodyPost_ret (v := .int .i64 0) (by simp [results, Try.results103, go_sem]) rfl ⟨rfl, HF.out⟩
end Go.Proofs.Ytdpmhpmnkollaaa
