/-
  Part 11 of the proof: 2 texts, one behind the other.
-/
import Derived.Test.YtdpmhpmnkollaaaPart10
import Derived.Test.YtdpmhpmnkollaaaPart1
import Derived.Test.YtdpmhpmnkollaaaPart4
namespace Go.Proofs.Ytdpmhpmnkollaaa
open Go.RowKit
set_option linter.unusedSimpArgs false
set_option linter.unusedVariables false

structure RC (R A E : World → Prop) (cl : Bool) (X : World) : Prop where
  r : R X
  a : cl = false → A X
  e : cl = true → E X
theorem RC.start {R A E : World → Prop} {X : World} (hr : R X) (ha : A X) : RC R A E false X := ⟨hr, fun _ => ha, fun q => (by cases q)⟩
theorem RC.fin {R A E : World → Prop} {cl : Bool} {X : World} (hr : R X) (he : E X) : cl = true → RC R A E cl X := fun h => ⟨hr, fun q => (by rw [h] at q; cases q), fun _ => he⟩
set_option maxRecDepth 20000 in
set_option maxHeartbeats 16000000 in
theorem answer_any18 (w : World) (base G : Nat) (vc : Value) (a l : Int) (vb : Value) (L : List Bv) (P : List PB) (h : RdR w base G vc a l vb L P) (k : Nat) (p : PB) (hk : L.length = k + 1) (hp : P[k]? = some p) (O N : Int) (v : Value) (hl : L.length ≤ 2000000) (he : p.es.length ≤ 2000000) (hw : -1000000000000 ≤ l ∧ l ≤ 1000000000000) :
    Calls Try.prog 106 #[.pointer (some ⟨G, 0, none⟩), .agg #[.int .i64 O, .int .i64 N, v]] w fun e w' => e = .returned (.int .i64 (entE p (false, N))) ∧ RdQ w' base G vc a (entL p (false, N) l) (entP P k p (false, N)) ∧ Below base w w' ∧ Kt w w' := by
  obtain ⟨Wb, hWb⟩ : ∃ Wb, Wb = w.alloc (.cells #[.int .i64 O, .int .i64 N, v] 67) := ⟨_, rfl⟩
  have q0 := bl1 w (.cells #[.int .i64 O, .int .i64 N, v] 67)
  rw [← hWb] at q0
  have hbs : base ≤ w.heap.size := Nat.le_of_lt (Nat.lt_of_le_of_lt h.bG (lt_16 h.g))
  have KE := entry_any18 Wb base G vc a l vb L P (h.below q0) k p hk hp false N hl he hw
  have HQ : Hid (Below base w Wb ∧ Kt w Wb) := ⟨q0.mono hbs, Kt.below q0⟩
  generalize entE p (false, N) = Er at *
  generalize entL p (false, N) l = Lr at *
  generalize entP P k p (false, N) = Pr at *
  clear h hl he hw hk hp hbs q0
  go_enter Try.func106, Try.ntmps106
  go_wp2_with fail
  rw [← hWb]
  refine KE.mono ?_
  rintro e W1 ⟨rfl, h1, h2, h3⟩
  have HF := hid13 (And.intro h1 (And.intro (HQ.out.1.trans h2) (HQ.out.2.trans h3)))
  clear h1 h2 h3 KE
  go_wp2
  exact bodyPost_ret (v := .int .i64 Er) (by simp [results, Try.results106, go_sem]) rfl ⟨rfl, HF.out⟩
set_option maxRecDepth 20000 in
set_option maxHeartbeats 16000000 in
theorem jump_any18 (w : World) (base G : Nat) (vc : Value) (a l : Int) (vb : Value) (L : List Bv) (P : List PB) (h : RdR w base G vc a l vb L P) (k : Nat) (p : PB) (hk : L.length = k + 1) (hp : P[k]? = some p) (O N : Int) (v : Value) (hl : L.length ≤ 2000000) (he : p.es.length ≤ 2000000) (hw : -1000000000000 ≤ l ∧ l ≤ 1000000000000) (hN : -1000000000000 ≤ a + N ∧ a + N ≤ 1000000000000) :
    Calls Try.prog 105 #[.pointer (some ⟨G, 0, none⟩), .agg #[.int .i64 O, .int .i64 N, v]] w fun e w' => e = .returned (.int .i64 (entE p (true, a + N))) ∧ RdQ w' base G vc a (entL p (true, a + N) l) (entP P k p (true, a + N)) ∧ Below base w w' ∧ Kt w w' := by
  obtain ⟨Wb, hWb⟩ : ∃ Wb, Wb = w.alloc (.cells #[.int .i64 O, .int .i64 N, v] 67) := ⟨_, rfl⟩
  have q0 := bl1 w (.cells #[.int .i64 O, .int .i64 N, v] 67)
  rw [← hWb] at q0
  have hbs : base ≤ w.heap.size := Nat.le_of_lt (Nat.lt_of_le_of_lt h.bG (lt_16 h.g))
  have KE := fun X (hX : RdR X base G vc a l vb L P) => entry_any18 X base G vc a l vb L P hX k p hk hp true (a + N) hl he hw
  have HBx : Hid (∀ X, Kt Wb X → X.cell? ⟨w.heap.size, 1, none⟩ = some (.int .i64 N)) := hid13 (fun X hX => at_16 (hX.2 _ _ _ _ (by rw [hWb]; exact new_16 _ _) (by unfold vTy; decide)) 1 _ rfl)
  generalize entE p (true, a + N) = Er at *
  generalize entL p (true, a + N) l = Lr at *
  generalize entP P k p (true, a + N) = Pr at *
  have HR0 : Hid (RC (fun X => X.cell? ⟨G, 1, none⟩ = some (.int .i64 a) ∧ X.cell? ⟨w.heap.size, 1, none⟩ = some (.int .i64 N)) (fun X => RdR X base G vc a l vb L P ∧ Below base w X ∧ Kt Wb X) (fun X => RdQ X base G vc a Lr Pr ∧ Below base w X ∧ Kt Wb X) false Wb.drew) := by
    have q1 : Below w.heap.size w Wb.drew := q0.drew
    exact RC.start ⟨(h.below q1).c1, HBx.out _ (Kt.below ((Below.refl _ _).drew))⟩ ⟨h.below q1, q1.mono hbs, Kt.below ((Below.refl _ _).drew)⟩
  have HK0 : Hid (Kt w Wb) := Kt.below q0
  have mw : IntKind.i64.wrap (a + N) = a + N := by rw [IntKind.wrap_i64]; omega
  have HKE := hid13 KE
  clear h hl he hw hk hp hbs q0 hN KE
  go_enter Try.func105, Try.ntmps105
  go_wp2_with fail
  rw [← hWb]
  clear hWb
  refine gh_region (γ := Unit) (qpOk 11 11 (by decide) (fun N => by kernel_rfl) (by kernel_rfl) (by kernel_rfl) (by kernel_rfl) (by kernel_rfl)) (by kernel_rfl) (by kernel_rfl) [some 5, some 6, some 7, some 8, some 9, some 10, some 11, some 12, some 13, some 14, some 4] (fun g => [.pointer (some ⟨G, 0, none⟩), .pointer (some ⟨G, 0, none⟩), .pointer (some ⟨G, 0, none⟩), .pointer (some ⟨G, 1, none⟩), .int .i64 a, .pointer (some ⟨w.heap.size, 1, none⟩), .int .i64 N, .int .i64 (a + N), .agg #[.bool true, .int .i64 (a + N)], .int .i64 Er, .int .i64 Er]) (by kernel_rfl) (by simp) (fun lp g X => RC (fun X => X.cell? ⟨G, 1, none⟩ = some (.int .i64 a) ∧ X.cell? ⟨w.heap.size, 1, none⟩ = some (.int .i64 N)) (fun X => RdR X base G vc a l vb L P ∧ Below base w X ∧ Kt Wb X) (fun X => RdQ X base G vc a Lr Pr ∧ Below base w X ∧ Kt Wb X) (lp.getD 9 false) X) () HR0.out ?step1 ?fin1
  case step1 =>
    intro q o lp g w' a' ho hsz hun hdep hR hS K Q' hK
    have hfl : ∀ j, j ≠ q → (lp.setIfInBounds q true).getD j false = lp.getD j false := fun j hj => by rw [Array.getD_eq_getD_getElem?, Array.getD_eq_getD_getElem?, Array.getElem?_setIfInBounds_ne (by omega)]
    have hq : q < 11 := (List.getElem?_eq_some_iff.mp ho).1
    match q, ho, hun, hdep, hK, hfl, hq with
    | 0, ho, hun, hdep, hK, hfl, _ =>
      obtain rfl := Option.some.inj ho
      have o0 : a'.tmps[0]? = some (.pointer (some ⟨G, 0, none⟩)) := (hS.old14 0 (by simp)).trans rfl
      have hK' := hK g w' (fun _ _ _ _ _ _ => rfl) (by rw [hfl 9 (by decide)]; exact hR) (.pointer (some ⟨G, 0, none⟩)) (by simp only [valO, Option.bind_some]; (try simp only [putAll, Act.put, List.setIfInBounds_toArray, List.set_cons_zero, List.set_cons_succ]); (try rfl))
      clear hS hdep hR
      refine gh_quiet14 (v := .pointer (some ⟨G, 0, none⟩)) ?_ ?_
      · (simp only [execOp, Act.eval, o0]; go_simp; first | done | (simp; done) | (simp [*]; done) | omega | (rw [IntKind.wrap_i64]; omega))
      · exact hK'
    | 1, ho, hun, hdep, hK, hfl, _ =>
      obtain rfl := Option.some.inj ho
      have o0 : a'.tmps[0]? = some (.pointer (some ⟨G, 0, none⟩)) := (hS.old14 0 (by simp)).trans rfl
      have hK' := hK g w' (fun _ _ _ _ _ _ => rfl) (by rw [hfl 9 (by decide)]; exact hR) (.pointer (some ⟨G, 0, none⟩)) (by simp only [valO, Option.bind_some]; (try simp only [putAll, Act.put, List.setIfInBounds_toArray, List.set_cons_zero, List.set_cons_succ]); (try rfl))
      clear hS hdep hR
      refine gh_quiet14 (v := .pointer (some ⟨G, 0, none⟩)) ?_ ?_
      · (simp only [execOp, Act.eval, o0]; go_simp; first | done | (simp; done) | (simp [*]; done) | omega | (rw [IntKind.wrap_i64]; omega))
      · exact hK'
    | 2, ho, hun, hdep, hK, hfl, _ =>
      obtain rfl := Option.some.inj ho
      have d1 : lp.getD 1 false = true := hdep { on := 1, ground := .data } (by simp) rfl
      have e6 : a'.tmps[6]? = some (.pointer (some ⟨G, 0, none⟩)) := (hS.don 1 _ 6 rfl d1 rfl).trans (by simp only [putAll, Act.put, List.setIfInBounds_toArray, List.set_cons_zero, List.set_cons_succ]; rfl)
      have hK' := hK g w' (fun _ _ _ _ _ _ => rfl) (by rw [hfl 9 (by decide)]; exact hR) (.pointer (some ⟨G, 0, none⟩)) (by simp only [valO, Option.bind_some]; (try simp only [putAll, Act.put, List.setIfInBounds_toArray, List.set_cons_zero, List.set_cons_succ]); (try rfl))
      clear hS hdep hR
      refine gh_quiet14 (v := .pointer (some ⟨G, 0, none⟩)) ?_ ?_
      · (simp only [execOp, Act.eval, e6]; go_simp; first | done | (simp; done) | (simp [*]; done) | omega | (rw [IntKind.wrap_i64]; omega))
      · exact hK'
    | 3, ho, hun, hdep, hK, hfl, _ =>
      obtain rfl := Option.some.inj ho
      have d2 : lp.getD 2 false = true := hdep { on := 2, ground := .data } (by simp) rfl
      have e7 : a'.tmps[7]? = some (.pointer (some ⟨G, 0, none⟩)) := (hS.don 2 _ 7 rfl d2 rfl).trans (by simp only [putAll, Act.put, List.setIfInBounds_toArray, List.set_cons_zero, List.set_cons_succ]; rfl)
      have hK' := hK g w' (fun _ _ _ _ _ _ => rfl) (by rw [hfl 9 (by decide)]; exact hR) (.pointer (some ⟨G, 1, none⟩)) (by simp only [valO, Option.bind_some]; (try simp only [putAll, Act.put, List.setIfInBounds_toArray, List.set_cons_zero, List.set_cons_succ]); (try rfl))
      clear hS hdep hR
      refine gh_quiet14 (v := .pointer (some ⟨G, 1, none⟩)) ?_ ?_
      · (simp only [execOp, Act.eval, e7]; go_simp; first | done | (simp; done) | (simp [*]; done) | omega | (rw [IntKind.wrap_i64]; omega))
      · exact hK'
    | 4, ho, hun, hdep, hK, hfl, _ =>
      obtain rfl := Option.some.inj ho
      have d3 : lp.getD 3 false = true := hdep { on := 3, ground := .data } (by simp) rfl
      have e8 : a'.tmps[8]? = some (.pointer (some ⟨G, 1, none⟩)) := (hS.don 3 _ 8 rfl d3 rfl).trans (by simp only [putAll, Act.put, List.setIfInBounds_toArray, List.set_cons_zero, List.set_cons_succ]; rfl)
      have k1 := hR.r.1
      have hK' := hK g w' (fun _ _ _ _ _ _ => rfl) (by rw [hfl 9 (by decide)]; exact hR) (.int .i64 a) (by simp only [valO, Option.bind_some]; (try simp only [putAll, Act.put, List.setIfInBounds_toArray, List.set_cons_zero, List.set_cons_succ]); (try rfl))
      clear hS hdep hR
      refine gh_quiet14 (v := .int .i64 a) ?_ ?_
      · (simp only [execOp, Act.eval, e8]; go_simp; first | done | (simp; done) | (simp [*]; done) | omega | (rw [IntKind.wrap_i64]; omega))
      · exact hK'
    | 5, ho, hun, hdep, hK, hfl, _ =>
      obtain rfl := Option.some.inj ho
      have o3 : a'.tmps[3]? = some (.pointer (some ⟨w.heap.size, 0, none⟩)) := (hS.old14 3 (by simp)).trans rfl
      have hK' := hK g w' (fun _ _ _ _ _ _ => rfl) (by rw [hfl 9 (by decide)]; exact hR) (.pointer (some ⟨w.heap.size, 1, none⟩)) (by simp only [valO, Option.bind_some]; (try simp only [putAll, Act.put, List.setIfInBounds_toArray, List.set_cons_zero, List.set_cons_succ]); (try rfl))
      clear hS hdep hR
      refine gh_quiet14 (v := .pointer (some ⟨w.heap.size, 1, none⟩)) ?_ ?_
      · (simp only [execOp, Act.eval, o3]; go_simp; first | done | (simp; done) | (simp [*]; done) | omega | (rw [IntKind.wrap_i64]; omega))
      · exact hK'
    | 6, ho, hun, hdep, hK, hfl, _ =>
      obtain rfl := Option.some.inj ho
      have d5 : lp.getD 5 false = true := hdep { on := 5, ground := .data } (by simp) rfl
      have e10 : a'.tmps[10]? = some (.pointer (some ⟨w.heap.size, 1, none⟩)) := (hS.don 5 _ 10 rfl d5 rfl).trans (by simp only [putAll, Act.put, List.setIfInBounds_toArray, List.set_cons_zero, List.set_cons_succ]; rfl)
      have k1 := hR.r.2
      have hK' := hK g w' (fun _ _ _ _ _ _ => rfl) (by rw [hfl 9 (by decide)]; exact hR) (.int .i64 N) (by simp only [valO, Option.bind_some]; (try simp only [putAll, Act.put, List.setIfInBounds_toArray, List.set_cons_zero, List.set_cons_succ]); (try rfl))
      clear hS hdep hR
      refine gh_quiet14 (v := .int .i64 N) ?_ ?_
      · (simp only [execOp, Act.eval, e10]; go_simp; first | done | (simp; done) | (simp [*]; done) | omega | (rw [IntKind.wrap_i64]; omega))
      · exact hK'
    | 7, ho, hun, hdep, hK, hfl, _ =>
      obtain rfl := Option.some.inj ho
      have d4 : lp.getD 4 false = true := hdep { on := 4, ground := .data } (by simp) rfl
      have e9 : a'.tmps[9]? = some (.int .i64 a) := (hS.don 4 _ 9 rfl d4 rfl).trans (by simp only [putAll, Act.put, List.setIfInBounds_toArray, List.set_cons_zero, List.set_cons_succ]; rfl)
      have d6 : lp.getD 6 false = true := hdep { on := 6, ground := .data } (by simp) rfl
      have e11 : a'.tmps[11]? = some (.int .i64 N) := (hS.don 6 _ 11 rfl d6 rfl).trans (by simp only [putAll, Act.put, List.setIfInBounds_toArray, List.set_cons_zero, List.set_cons_succ]; rfl)
      have hK' := hK g w' (fun _ _ _ _ _ _ => rfl) (by rw [hfl 9 (by decide)]; exact hR) (.int .i64 (a + N)) (by simp only [valO, Option.bind_some]; (try simp only [putAll, Act.put, List.setIfInBounds_toArray, List.set_cons_zero, List.set_cons_succ]); (try rfl))
      clear hS hdep hR
      refine gh_quiet14 (v := .int .i64 (a + N)) ?_ ?_
      · (simp only [execOp, Act.eval, e9, e11]; go_simp; first | done | (simp; done) | (simp [*]; done) | omega | (rw [IntKind.wrap_i64]; omega))
      · exact hK'
    | 8, ho, hun, hdep, hK, hfl, _ =>
      obtain rfl := Option.some.inj ho
      have d7 : lp.getD 7 false = true := hdep { on := 7, ground := .data } (by simp) rfl
      have e12 : a'.tmps[12]? = some (.int .i64 (a + N)) := (hS.don 7 _ 12 rfl d7 rfl).trans (by simp only [putAll, Act.put, List.setIfInBounds_toArray, List.set_cons_zero, List.set_cons_succ]; rfl)
      have hK' := hK g w' (fun _ _ _ _ _ _ => rfl) (by rw [hfl 9 (by decide)]; exact hR) (.agg #[.bool true, .int .i64 (a + N)]) (by simp only [valO, Option.bind_some]; (try simp only [putAll, Act.put, List.setIfInBounds_toArray, List.set_cons_zero, List.set_cons_succ]); (try rfl))
      clear hS hdep hR
      refine gh_quiet14 (v := .agg #[.bool true, .int .i64 (a + N)]) ?_ ?_
      · (simp only [execOp, Act.eval, e12]; go_simp; first | done | (simp; done) | (simp [*]; done) | omega | (rw [IntKind.wrap_i64]; omega))
      · exact hK'
    | 9, ho, hun, hdep, hK, hfl, _ =>
      obtain rfl := Option.some.inj ho
      have d0 : lp.getD 0 false = true := hdep { on := 0, ground := .data } (by simp) rfl
      have e5 : a'.tmps[5]? = some (.pointer (some ⟨G, 0, none⟩)) := (hS.don 0 _ 5 rfl d0 rfl).trans (by simp only [putAll, Act.put, List.setIfInBounds_toArray, List.set_cons_zero, List.set_cons_succ]; rfl)
      have d8 : lp.getD 8 false = true := hdep { on := 8, ground := .data } (by simp) rfl
      have e13 : a'.tmps[13]? = some (.agg #[.bool true, .int .i64 (a + N)]) := (hS.don 8 _ 13 rfl d8 rfl).trans (by simp only [putAll, Act.put, List.setIfInBounds_toArray, List.set_cons_zero, List.set_cons_succ]; rfl)
      obtain ⟨a1, a2, a3⟩ := hR.a hun
      have KC := HKE.out w' a1
      clear hdep
      unfold Oper.wp
      simp only [execOp, Act.eval, Array.getD_eq_getD_getElem?]
      simp [go_sem, e5, e13, Oper.upon]
      refine KC.mono ?_
      rintro e W2 ⟨rfl, r1, r2, r3⟩
      obtain ⟨vb2, L2, r1'⟩ := id r1
      exact hK g W2 (fun _ _ _ _ _ _ => rfl) (by rw [getD_set_same (by rw [hsz]; decide)]; exact RC.fin ⟨r1'.c1, HBx.out _ (a3.trans r3)⟩ ⟨r1, a2.trans r2, a3.trans r3⟩ rfl) _ (by simp only [valO, Option.bind_some]; simp only [putAll, Act.put, List.setIfInBounds_toArray, List.set_cons_zero, List.set_cons_succ]; rfl)
    | 10, ho, hun, hdep, hK, hfl, _ =>
      obtain rfl := Option.some.inj ho
      have d9 : lp.getD 9 false = true := hdep { on := 9, ground := .data } (by simp) rfl
      have e14 : a'.tmps[14]? = some (.int .i64 Er) := (hS.don 9 _ 14 rfl d9 rfl).trans (by simp only [putAll, Act.put, List.setIfInBounds_toArray, List.set_cons_zero, List.set_cons_succ]; rfl)
      have hK' := hK g w' (fun _ _ _ _ _ _ => rfl) (by rw [hfl 9 (by decide)]; exact hR) (.int .i64 Er) (by simp only [valO, Option.bind_some]; (try simp only [putAll, Act.put, List.setIfInBounds_toArray, List.set_cons_zero, List.set_cons_succ]); (try rfl))
      clear hS hdep hR
      refine gh_quiet14 (v := .int .i64 Er) ?_ ?_
      · (simp only [execOp, Act.eval, e14]; go_simp; first | done | (simp; done) | (simp [*]; done) | omega | (rw [IntKind.wrap_i64]; omega))
      · exact hK'
    | n + 11, ho, hun, hdep, hK, hfl, hq => exact absurd hq (by omega)
  case fin1 =>
    intro g V8 hR
    obtain ⟨e1, e2, e3⟩ := hR.e (by simp)
    simp only [putAll, Act.put, List.setIfInBounds_toArray, List.set_cons_zero, List.set_cons_succ]
    have HF := hid13 (And.intro e1 (And.intro e2 (HK0.out.trans e3)))
    clear hR e1 e2 e3 HR0
    go_wp2
    exact bodyPost_ret (v := .int .i64 Er) (by simp [results, Try.results105, go_sem]) rfl ⟨rfl, HF.out⟩
end Go.Proofs.Ytdpmhpmnkollaaa
namespace Go.Proofs.Ytdpmhpmnkollaaa
open Go.RowKit Go.Shelf
set_option linter.unusedSimpArgs false
set_option linter.unusedVariables false

section
variable {P : Program}
theorem qpw_any {l : List Oper} (m : Nat) (ok : QpOk l m m) {C : World → Prop} {Q : Exit → Act → World → Prop} {a : Act} {w : World} (ds : List (Option Tmp)) (vals : List Value)
    (hC : C w) (hwalk : QW P (l.take m).toArray C (fun a' => a' = putAll a ds vals) (l.take m) a) (hpost : ∀ w, C w → wpList P l.toArray Q (l.drop m) (putAll a ds vals) w) : wpAny P .any l.toArray Q l.toArray.size (Array.replicate l.toArray.size false) a w := by
  have hml := ok.ml
  have hlen : (l.take m).length = m := by rw [List.length_take]; omega
  have any : wpAnyQ P .any (l.take m).toArray C (fun a' => a' = putAll a ds vals) m (Array.replicate m false) a := by
    have hB := ok.lex undef
    rw [rep_out _ _ _ (by omega)] at hB
    simp only [Region.lexB, Bool.and_eq_true] at hB
    have := wpAnyQ_lex (C := C) (md := .any) hB.1 (l.take m) 0 (Array.replicate m false) a (by simp) (by have := hB.2; simpa [hlen, hml] using this) hwalk.out
    rwa [hlen] at this
  have hu : unl (Array.replicate m false) = m := by unfold unl; simp
  have main := done_any (P := P) (N := undef) ok hpost m (Array.replicate m false) a w (by simp) hu (fun q => absurd q (Nat.lt_irrefl _)) hC (by rw [rep_out _ _ _ (by omega)]; exact any)
  have e1 : m + (l.length - m) = l.toArray.size := by simp; omega
  have e2 : Array.replicate m false ++ Array.replicate (l.length - m) false = Array.replicate l.toArray.size false := by
    rw [Array.replicate_append_replicate]; congr 1
  rw [e1, e2] at main
  exact main
theorem qpw_region {id : Nat} {l : List Oper} (m : Nat) (ok : QpOk l m m) {C : World → Prop} {Q : Exit → Act → World → Prop} {a : Act} {w : World} (ds : List (Option Tmp)) (vals : List Value) (hm : P.follows .mixedOrders = true)
    (hC : C w.drew) (hwalk : QW P (l.take m).toArray C (fun a' => a' = putAll a ds vals) (l.take m) a) (hpost : ∀ w, C w → wpList P l.toArray Q (l.drop m) (putAll a ds vals) w) : (Code.region id l.toArray true).wp P Q a w :=
  wp_region_any hm (qpw_any m ok ds vals hC hwalk hpost)
end
theorem max_16 (a b : Int) (w : World) : (Builtin.max_ #[3, 3] 3 #[.int .i64 a, .int .i64 b]).run Try.prog w = .ok (.int .i64 (max a b)) w := by
  by_cases h : a ≤ b
  · rw [Int.max_eq_right h]
    by_cases h2 : a = b
    · subst h2; go_simp
    · have h3 : a < b := by omega
      go_simp
      try simp [*]
  · rw [Int.max_eq_left (by omega)]
    have h3 : ¬ a < b := by omega
    go_simp
    try simp [*]
theorem min_16 (a b : Int) (w : World) : (Builtin.min_ #[3, 3] 3 #[.int .i64 a, .int .i64 b]).run Try.prog w = .ok (.int .i64 (min a b)) w := by
  by_cases h : a ≤ b
  · rw [Int.min_eq_left h]
    by_cases h2 : a = b
    · subst h2; go_simp
    · have h3 : a < b := by omega
      go_simp
      try simp [*]
      try omega
  · rw [Int.min_eq_right (by omega)]
    have h3 : ¬ a < b := by omega
    have h4 : b < a := by omega
    go_simp
    try simp [*]
end Go.Proofs.Ytdpmhpmnkollaaa
