/-
  Part 14 of the proof: 3 texts, one behind the other.
-/
import Derived.Test.YtdpmhpmnkollaaaPart13
import Derived.Test.YtdpmhpmnkollaaaPart4
namespace Go.Proofs.Ytdpmhpmnkollaaa
open Go.RowKit
set_option linter.unusedSimpArgs false
set_option linter.unusedVariables false

def rlV : Option Nat → Value
  | none => .nilFunc
  | some f => .func (.func f) #[] #[]
theorem rlnil18 (W : World) : (binOp BinOp.eql 157 .nilFunc .nilFunc).run Try.prog W = .ok (.bool true) W := by kernel_rfl
set_option maxRecDepth 100000 in
theorem rlsome18 (f : Nat) (W : World) : (binOp BinOp.eql 157 (.func (.func f) #[] #[]) .nilFunc).run Try.prog W = .ok (.bool false) W := by kernel_rfl
structure RT8 (Wb : World) (M : List (BitVec 32)) (o : Nat) (N : Int) (cl mv ex al st : Bool) (g : Value × Nat) (X : World) : Prop where
  r : Below Wb.heap.size Wb X
  d : cl = true → X.ownsRow Wb.heap.size 96 1 g.1 M.length (M.map cU)
  l : al = true → st = false → X.heap[g.2]? = some (.cells #[.int .i64 0, .int .i64 0, .slice none 0 0] 67) ∧ Wb.heap.size ≤ g.2
  s : st = true → X.heap[g.2]? = some (.cells #[.int .i64 (o : Int), .int .i64 N, g.1] 67) ∧ Wb.heap.size ≤ g.2
  p1 : st = true → cl = true
  p2 : st = true → al = true
  p3 : mv = true → cl = true
  p4 : ex = true → cl = true
def TkQ (E Z op a l : Int) (P : List PB) (rs : List (Option Nat)) (T : Nat → Int → Int → List PB → Prop) (Q : Int → Int → List PB → Prop) (e : Ending) : Prop :=
  (E ≠ 0 ∧ e = .returned (.int .i64 E) ∧ Q a l P) ∨ (E = 0 ∧ ∃ o : Nat, op = (o : Int) ∧ ((rs[o]? = some none ∧ e = .returned (.int .i64 24) ∧ Q a l P) ∨ ∃ f er l' P', rs[o]? = some (some f) ∧ T f er l' P' ∧ e = .returned (.int .i64 er) ∧ Q (if er = 0 then a + Z else a) l' P'))
theorem TkQ.no {E Z op a l : Int} {P : List PB} {rs : List (Option Nat)} {T : Nat → Int → Int → List PB → Prop} {Q : Int → Int → List PB → Prop} (h : E ≠ 0) (hq : Q a l P) : TkQ E Z op a l P rs T Q (.returned (.int .i64 E)) := .inl ⟨h, rfl, hq⟩
theorem TkQ.nil {Z a l : Int} {o : Nat} {P : List PB} {rs : List (Option Nat)} {T : Nat → Int → Int → List PB → Prop} {Q : Int → Int → List PB → Prop} (h : rs[o]? = some none) (hq : Q a l P) : TkQ 0 Z (o : Int) a l P rs T Q (.returned (.int .i64 24)) := .inr ⟨rfl, o, rfl, .inl ⟨h, rfl, hq⟩⟩
theorem TkQ.fn {Z a l l' er : Int} {o f : Nat} {P P' : List PB} {rs : List (Option Nat)} {T : Nat → Int → Int → List PB → Prop} {Q : Int → Int → List PB → Prop} (h : rs[o]? = some (some f)) (ht : T f er l' P') (hq : Q (if er = 0 then a + Z else a) l' P') : TkQ 0 Z (o : Int) a l P rs T Q (.returned (.int .i64 er)) := .inr ⟨rfl, o, rfl, .inr ⟨f, er, l', P', h, ht, rfl, hq⟩⟩
set_option maxRecDepth 20000 in
set_option maxHeartbeats 16000000 in
theorem take_any18 (w : World) (base G : Nat) (co : Option Addr) (cl cc : Nat) (lb : List Nat) (hcode : RwX cB w (.slice co cl cc) lb) (hlb : lb.length ≤ 100000000) (hxb : ∀ b ∈ lb, b < 256) (a l : Int) (vb : Value) (L : List Bv) (P : List PB) (h : RdR w base G (.slice co cl cc) a l vb L P) (ha : 0 ≤ a ∧ a ≤ 1000000000) (r0 r1 r2 r3 r4 : Option Nat) (T : Nat → Int → Int → List PB → Prop)
    (hT : ∀ (o f : Nat), dcE lb a = 0 → (dcI lb a).op = (o : Int) → [r0, r1, r2, r3, r4][o]? = some (some f) → ∀ X v, RdR X base G (.slice co cl cc) a l vb L P → X.ownsRow base 96 1 v (dcI lb a).m.length ((dcI lb a).m.map cU) → Calls Try.prog f #[.pointer (some ⟨G, 0, none⟩), .agg #[.int .i64 (dcI lb a).op, .int .i64 (dcI lb a).n, v]] X fun e w' => ∃ er l' P', e = .returned (.int .i64 er) ∧ T f er l' P' ∧ RdQ w' base G (.slice co cl cc) a l' P' ∧ Below base X w' ∧ Kt X w')
    (hcf : ∀ (o f : Nat), [r0, r1, r2, r3, r4][o]? = some (some f) → ∀ (args : Array Value) (X : World), (callFunc f args).run Try.prog X = .ok (.enter f args) X)
    (hop : dcE lb a = 0 → ∃ o : Nat, (dcI lb a).op = (o : Int) ∧ o < 5) (hz : dcZ lb a ≤ 1000000 ∧ 0 ≤ dcZ lb a) :
    Calls Try.prog 84 #[.pointer (some ⟨G, 0, none⟩), .agg #[rlV r0, rlV r1, rlV r2, rlV r3, rlV r4]] w fun e w' => TkQ (dcE lb a) (dcZ lb a) (dcI lb a).op a l P [r0, r1, r2, r3, r4] T (fun a l P => RdQ w' base G (.slice co cl cc) a l P) e ∧ Below base w w' ∧ Kt w w' := by
  obtain ⟨Wb, hWb⟩ : ∃ Wb, Wb = w.alloc (.cells #[rlV r0, rlV r1, rlV r2, rlV r3, rlV r4] 158) := ⟨_, rfl⟩
  have q0 := bl1 w (.cells #[rlV r0, rlV r1, rlV r2, rlV r3, rlV r4] 158)
  rw [← hWb] at q0
  have hbs : base ≤ w.heap.size := Nat.le_of_lt (Nat.lt_of_le_of_lt h.bG (lt_16 h.g))
  have HWb0 : Hid (Wb.heap[w.heap.size]? = some (.cells #[rlV r0, rlV r1, rlV r2, rlV r3, rlV r4] 158)) := by rw [hWb]; exact new_16 _ _
  have HR := hid13 (h.below q0)
  have HQ0 : Hid (Below base w Wb ∧ Kt w Wb ∧ base ≤ Wb.heap.size) := ⟨q0.mono hbs, Kt.below q0, Nat.le_trans hbs q0.size⟩
  have HC := hid13 (hcode.below q0)
  have HDc : Hid (∀ X, RwX cB X (.slice co cl cc) lb → Calls Try.prog 47 #[.slice co cl cc, .int .i64 a] X fun e w' => ∃ v', e = .returned (.tuple #[.agg #[.int .i64 (dcI lb a).op, .int .i64 (dcI lb a).n, v'], .int .i64 (dcZ lb a), .int .i64 (dcE lb a)]) ∧ w'.ownsRow X.heap.size 96 1 v' (dcI lb a).m.length ((dcI lb a).m.map cU) ∧ Below X.heap.size X w') := hid13 (fun X hX => decode_any (.slice co cl cc) lb a X hX (by omega) hxb)
  obtain ⟨o, ho⟩ : ∃ o : Nat, (dcI lb a).op = (o : Int) ∧ (dcE lb a = 0 → o < 5) := by
    by_cases h0 : dcE lb a = 0
    · obtain ⟨o, h1, h2⟩ := hop h0
      exact ⟨o, h1, fun _ => h2⟩
    · refine ⟨0, ?_, fun q => absurd q h0⟩
      unfold dcI
      rw [if_neg h0]; rfl
  have HO := hid13 ho
  have HT := hid13 hT
  have HCf := hid13 hcf
  obtain ⟨E, hE⟩ : ∃ E, E = dcE lb a := ⟨_, rfl⟩
  obtain ⟨N, hN⟩ : ∃ N, N = (dcI lb a).n := ⟨_, rfl⟩
  obtain ⟨M, hM⟩ : ∃ M, M = (dcI lb a).m := ⟨_, rfl⟩
  obtain ⟨Z, hZ⟩ : ∃ Z, Z = dcZ lb a := ⟨_, rfl⟩
  rw [← hE, ← hZ, ho.1]
  rw [ho.1, ← hE, ← hN, ← hM, ← hZ] at HDc
  rw [← hE, ← hN, ← hM, ho.1] at HT
  rw [← hE, ho.1] at HO
  have mz : IntKind.i64.wrap (a + Z) = a + Z := by rw [IntKind.wrap_i64, hZ]; omega
  have HR0 : Hid (RT8 Wb M o N false false false false false (undef, 0) Wb.drew) := ⟨(Below.refl _ _).drew, fun q => (by cases q), fun q => (by cases q), fun q => (by cases q), fun q => (by cases q), fun q => (by cases q), fun q => (by cases q), fun q => (by cases q)⟩
  clear h hbs hcode hlb hxb hT hcf hop hz ho hE hN hM hZ q0 ha
  go_enter Try.func84, Try.ntmps84
  go_wp2_with fail
  rw [← hWb]
  clear hWb
  refine gh_region (γ := Value × Nat) (qpOk 17 17 (by decide) (fun N => by kernel_rfl) (by kernel_rfl) (by kernel_rfl) (by kernel_rfl) (by kernel_rfl)) (by kernel_rfl) (by kernel_rfl) [some 11, some 12, some 13, some 14, some 15, some 16, some 17, some 18, some 19, some 10, some 20, some 21, some 22, some 5, none, some 6, some 7] (fun g => [.pointer (some ⟨G, 0, none⟩), .pointer (some ⟨G, 0, none⟩), .pointer (some ⟨G, 0, none⟩), .slice co cl cc, .pointer (some ⟨G, 0, none⟩), .pointer (some ⟨G, 0, none⟩), .pointer (some ⟨G, 1, none⟩), .int .i64 a, .tuple #[.agg #[.int .i64 (o : Int), .int .i64 N, g.1], .int .i64 Z, .int .i64 E], .tuple #[.agg #[.int .i64 (o : Int), .int .i64 N, g.1], .int .i64 Z, .int .i64 E], .agg #[.int .i64 (o : Int), .int .i64 N, g.1], .int .i64 Z, .int .i64 E, .pointer (some ⟨g.2, 0, none⟩), undef, .int .i64 Z, .int .i64 E]) (by kernel_rfl) (by simp) (fun lp g X => RT8 Wb M o N (lp.getD 8 false) (lp.getD 9 false) (lp.getD 10 false) (lp.getD 13 false) (lp.getD 14 false) g X) (undef, 0) HR0.out ?step1 ?fin1
  case step1 =>
    intro q o lp g w' a' ho hsz hun hdep hR hS K Q' hK
    have hfl : ∀ j, j ≠ q → (lp.setIfInBounds q true).getD j false = lp.getD j false := fun j hj => by rw [Array.getD_eq_getD_getElem?, Array.getD_eq_getD_getElem?, Array.getElem?_setIfInBounds_ne (by omega)]
    have hq : q < 17 := (List.getElem?_eq_some_iff.mp ho).1
    match q, ho, hun, hdep, hK, hfl, hq with
    | 0, ho, hun, hdep, hK, hfl, _ =>
      obtain rfl := Option.some.inj ho
      have o0 : a'.tmps[0]? = some (.pointer (some ⟨G, 0, none⟩)) := (hS.old14 0 (by simp)).trans rfl
      have hK' := hK g w' (fun _ _ _ _ _ _ => rfl) (by rw [hfl 8 (by decide), hfl 9 (by decide), hfl 10 (by decide), hfl 13 (by decide), hfl 14 (by decide)]; exact hR) (.pointer (some ⟨G, 0, none⟩)) (by simp only [valO, Option.bind_some]; (try simp only [putAll, Act.put, List.setIfInBounds_toArray, List.set_cons_zero, List.set_cons_succ]); (try rfl))
      clear hS hdep hR
      refine gh_quiet14 (v := .pointer (some ⟨G, 0, none⟩)) ?_ ?_
      · (simp only [execOp, Act.eval, o0]; go_simp; first | done | (simp; done) | (simp [*]; done) | omega | (rw [IntKind.wrap_i64]; omega))
      · exact hK'
    | 1, ho, hun, hdep, hK, hfl, _ =>
      obtain rfl := Option.some.inj ho
      have d0 : lp.getD 0 false = true := hdep { on := 0, ground := .data } (by simp) rfl
      have e11 : a'.tmps[11]? = some (.pointer (some ⟨G, 0, none⟩)) := (hS.don 0 _ 11 rfl d0 rfl).trans (by simp only [putAll, Act.put, List.setIfInBounds_toArray, List.set_cons_zero, List.set_cons_succ]; rfl)
      have hK' := hK g w' (fun _ _ _ _ _ _ => rfl) (by rw [hfl 8 (by decide), hfl 9 (by decide), hfl 10 (by decide), hfl 13 (by decide), hfl 14 (by decide)]; exact hR) (.pointer (some ⟨G, 0, none⟩)) (by simp only [valO, Option.bind_some]; (try simp only [putAll, Act.put, List.setIfInBounds_toArray, List.set_cons_zero, List.set_cons_succ]); (try rfl))
      clear hS hdep hR
      refine gh_quiet14 (v := .pointer (some ⟨G, 0, none⟩)) ?_ ?_
      · (simp only [execOp, Act.eval, e11]; go_simp; first | done | (simp; done) | (simp [*]; done) | omega | (rw [IntKind.wrap_i64]; omega))
      · exact hK'
    | 2, ho, hun, hdep, hK, hfl, _ =>
      obtain rfl := Option.some.inj ho
      have d1 : lp.getD 1 false = true := hdep { on := 1, ground := .data } (by simp) rfl
      have e12 : a'.tmps[12]? = some (.pointer (some ⟨G, 0, none⟩)) := (hS.don 1 _ 12 rfl d1 rfl).trans (by simp only [putAll, Act.put, List.setIfInBounds_toArray, List.set_cons_zero, List.set_cons_succ]; rfl)
      have hK' := hK g w' (fun _ _ _ _ _ _ => rfl) (by rw [hfl 8 (by decide), hfl 9 (by decide), hfl 10 (by decide), hfl 13 (by decide), hfl 14 (by decide)]; exact hR) (.pointer (some ⟨G, 0, none⟩)) (by simp only [valO, Option.bind_some]; (try simp only [putAll, Act.put, List.setIfInBounds_toArray, List.set_cons_zero, List.set_cons_succ]); (try rfl))
      clear hS hdep hR
      refine gh_quiet14 (v := .pointer (some ⟨G, 0, none⟩)) ?_ ?_
      · (simp only [execOp, Act.eval, e12]; go_simp; first | done | (simp; done) | (simp [*]; done) | omega | (rw [IntKind.wrap_i64]; omega))
      · exact hK'
    | 3, ho, hun, hdep, hK, hfl, _ =>
      obtain rfl := Option.some.inj ho
      have d2 : lp.getD 2 false = true := hdep { on := 2, ground := .data } (by simp) rfl
      have e13 : a'.tmps[13]? = some (.pointer (some ⟨G, 0, none⟩)) := (hS.don 2 _ 13 rfl d2 rfl).trans (by simp only [putAll, Act.put, List.setIfInBounds_toArray, List.set_cons_zero, List.set_cons_succ]; rfl)
      have k1 := (HR.out.below hR.r).c0
      have hK' := hK g w' (fun _ _ _ _ _ _ => rfl) (by rw [hfl 8 (by decide), hfl 9 (by decide), hfl 10 (by decide), hfl 13 (by decide), hfl 14 (by decide)]; exact hR) (.slice co cl cc) (by simp only [valO, Option.bind_some]; (try simp only [putAll, Act.put, List.setIfInBounds_toArray, List.set_cons_zero, List.set_cons_succ]); (try rfl))
      clear hS hdep hR
      refine gh_quiet14 (v := .slice co cl cc) ?_ ?_
      · (simp only [execOp, Act.eval, e13]; go_simp; first | done | (simp; done) | (simp [*]; done) | omega | (rw [IntKind.wrap_i64]; omega))
      · exact hK'
    | 4, ho, hun, hdep, hK, hfl, _ =>
      obtain rfl := Option.some.inj ho
      have o0 : a'.tmps[0]? = some (.pointer (some ⟨G, 0, none⟩)) := (hS.old14 0 (by simp)).trans rfl
      have hK' := hK g w' (fun _ _ _ _ _ _ => rfl) (by rw [hfl 8 (by decide), hfl 9 (by decide), hfl 10 (by decide), hfl 13 (by decide), hfl 14 (by decide)]; exact hR) (.pointer (some ⟨G, 0, none⟩)) (by simp only [valO, Option.bind_some]; (try simp only [putAll, Act.put, List.setIfInBounds_toArray, List.set_cons_zero, List.set_cons_succ]); (try rfl))
      clear hS hdep hR
      refine gh_quiet14 (v := .pointer (some ⟨G, 0, none⟩)) ?_ ?_
      · (simp only [execOp, Act.eval, o0]; go_simp; first | done | (simp; done) | (simp [*]; done) | omega | (rw [IntKind.wrap_i64]; omega))
      · exact hK'
    | 5, ho, hun, hdep, hK, hfl, _ =>
      obtain rfl := Option.some.inj ho
      have d4 : lp.getD 4 false = true := hdep { on := 4, ground := .data } (by simp) rfl
      have e15 : a'.tmps[15]? = some (.pointer (some ⟨G, 0, none⟩)) := (hS.don 4 _ 15 rfl d4 rfl).trans (by simp only [putAll, Act.put, List.setIfInBounds_toArray, List.set_cons_zero, List.set_cons_succ]; rfl)
      have hK' := hK g w' (fun _ _ _ _ _ _ => rfl) (by rw [hfl 8 (by decide), hfl 9 (by decide), hfl 10 (by decide), hfl 13 (by decide), hfl 14 (by decide)]; exact hR) (.pointer (some ⟨G, 0, none⟩)) (by simp only [valO, Option.bind_some]; (try simp only [putAll, Act.put, List.setIfInBounds_toArray, List.set_cons_zero, List.set_cons_succ]); (try rfl))
      clear hS hdep hR
      refine gh_quiet14 (v := .pointer (some ⟨G, 0, none⟩)) ?_ ?_
      · (simp only [execOp, Act.eval, e15]; go_simp; first | done | (simp; done) | (simp [*]; done) | omega | (rw [IntKind.wrap_i64]; omega))
      · exact hK'
    | 6, ho, hun, hdep, hK, hfl, _ =>
      obtain rfl := Option.some.inj ho
      have d5 : lp.getD 5 false = true := hdep { on := 5, ground := .data } (by simp) rfl
      have e16 : a'.tmps[16]? = some (.pointer (some ⟨G, 0, none⟩)) := (hS.don 5 _ 16 rfl d5 rfl).trans (by simp only [putAll, Act.put, List.setIfInBounds_toArray, List.set_cons_zero, List.set_cons_succ]; rfl)
      have hK' := hK g w' (fun _ _ _ _ _ _ => rfl) (by rw [hfl 8 (by decide), hfl 9 (by decide), hfl 10 (by decide), hfl 13 (by decide), hfl 14 (by decide)]; exact hR) (.pointer (some ⟨G, 1, none⟩)) (by simp only [valO, Option.bind_some]; (try simp only [putAll, Act.put, List.setIfInBounds_toArray, List.set_cons_zero, List.set_cons_succ]); (try rfl))
      clear hS hdep hR
      refine gh_quiet14 (v := .pointer (some ⟨G, 1, none⟩)) ?_ ?_
      · (simp only [execOp, Act.eval, e16]; go_simp; first | done | (simp; done) | (simp [*]; done) | omega | (rw [IntKind.wrap_i64]; omega))
      · exact hK'
    | 7, ho, hun, hdep, hK, hfl, _ =>
      obtain rfl := Option.some.inj ho
      have d6 : lp.getD 6 false = true := hdep { on := 6, ground := .data } (by simp) rfl
      have e17 : a'.tmps[17]? = some (.pointer (some ⟨G, 1, none⟩)) := (hS.don 6 _ 17 rfl d6 rfl).trans (by simp only [putAll, Act.put, List.setIfInBounds_toArray, List.set_cons_zero, List.set_cons_succ]; rfl)
      have k1 := (HR.out.below hR.r).c1
      have hK' := hK g w' (fun _ _ _ _ _ _ => rfl) (by rw [hfl 8 (by decide), hfl 9 (by decide), hfl 10 (by decide), hfl 13 (by decide), hfl 14 (by decide)]; exact hR) (.int .i64 a) (by simp only [valO, Option.bind_some]; (try simp only [putAll, Act.put, List.setIfInBounds_toArray, List.set_cons_zero, List.set_cons_succ]); (try rfl))
      clear hS hdep hR
      refine gh_quiet14 (v := .int .i64 a) ?_ ?_
      · (simp only [execOp, Act.eval, e17]; go_simp; first | done | (simp; done) | (simp [*]; done) | omega | (rw [IntKind.wrap_i64]; omega))
      · exact hK'
    | 8, ho, hun, hdep, hK, hfl, _ =>
      obtain rfl := Option.some.inj ho
      have d3 : lp.getD 3 false = true := hdep { on := 3, ground := .data } (by simp) rfl
      have e14 : a'.tmps[14]? = some (.slice co cl cc) := (hS.don 3 _ 14 rfl d3 rfl).trans (by simp only [putAll, Act.put, List.setIfInBounds_toArray, List.set_cons_zero, List.set_cons_succ]; rfl)
      have d7 : lp.getD 7 false = true := hdep { on := 7, ground := .data } (by simp) rfl
      have e18 : a'.tmps[18]? = some (.int .i64 a) := (hS.don 7 _ 18 rfl d7 rfl).trans (by simp only [putAll, Act.put, List.setIfInBounds_toArray, List.set_cons_zero, List.set_cons_succ]; rfl)
      have hst : lp.getD 14 false = false := by
        cases h : lp.getD 14 false with
        | false => rfl
        | true => have := hR.p1 h; rw [hun] at this; cases this
      have KC := HDc.out w' (HC.out.below hR.r)
      clear hdep
      unfold Oper.wp
      simp only [execOp, Act.eval, Array.getD_eq_getD_getElem?]
      simp [go_sem, e14, e18, Oper.upon]
      refine KC.mono ?_
      rintro e W2 ⟨v2, rfl, ho2, hb⟩
      exact hK (v2, g.2) W2 (fun k' ok s hk hl hd => gh_same18 (d := 19) (e := 10) (f := 20) (s := s) (by simp only [putAll, Act.put, List.setIfInBounds_toArray, List.set_cons_zero, List.set_cons_succ]; rfl) (by rintro rfl; have := dstG_of (by kernel_rfl) k' 8 ok _ 19 hk rfl hd rfl; subst this; rw [hun] at hl; cases hl) (by rintro rfl; have := dstG_of (by kernel_rfl) k' 9 ok _ 10 hk rfl hd rfl; subst this; have := hR.p3 hl; rw [hun] at this; cases this) (by rintro rfl; have := dstG_of (by kernel_rfl) k' 10 ok _ 20 hk rfl hd rfl; subst this; have := hR.p4 hl; rw [hun] at this; cases this)) (by rw [hfl 9 (by decide), hfl 10 (by decide), hfl 13 (by decide), hfl 14 (by decide), getD_set_same (by rw [hsz]; decide)]; exact ⟨keepb hb hR.r, fun _ => own_base16 ho2 hR.r.size, fun q1 q2 => ⟨(hb.block _ (lt_16 (hR.l q1 q2).1)).trans (hR.l q1 q2).1, (hR.l q1 q2).2⟩, fun q => (by rw [hst] at q; cases q), fun _ => rfl, hR.p2, fun _ => rfl, fun _ => rfl⟩) _ (by simp only [valO, Option.bind_some]; simp only [putAll, Act.put, List.setIfInBounds_toArray, List.set_cons_zero, List.set_cons_succ]; rfl)
    | 9, ho, hun, hdep, hK, hfl, _ =>
      obtain rfl := Option.some.inj ho
      have d8 : lp.getD 8 false = true := hdep { on := 8, ground := .data } (by simp) rfl
      have e19 : a'.tmps[19]? = some (.tuple #[.agg #[.int .i64 (o : Int), .int .i64 N, g.1], .int .i64 Z, .int .i64 E]) := (hS.don 8 _ 19 rfl d8 rfl).trans (by simp only [putAll, Act.put, List.setIfInBounds_toArray, List.set_cons_zero, List.set_cons_succ]; rfl)
      have hK' := hK g w' (fun _ _ _ _ _ _ => rfl) (by rw [hfl 8 (by decide), hfl 10 (by decide), hfl 13 (by decide), hfl 14 (by decide), getD_set_same (by rw [hsz]; decide)]; exact ⟨hR.r, hR.d, hR.l, hR.s, hR.p1, hR.p2, fun _ => d8, hR.p4⟩) (.tuple #[.agg #[.int .i64 (o : Int), .int .i64 N, g.1], .int .i64 Z, .int .i64 E]) (by simp only [valO, Option.bind_some]; (try simp only [putAll, Act.put, List.setIfInBounds_toArray, List.set_cons_zero, List.set_cons_succ]); (try rfl))
      clear hS hdep hR
      refine gh_quiet14 (v := .tuple #[.agg #[.int .i64 (o : Int), .int .i64 N, g.1], .int .i64 Z, .int .i64 E]) ?_ ?_
      · (simp only [execOp, Act.eval, e19]; go_simp; first | done | (simp; done) | (simp [*]; done) | omega | (rw [IntKind.wrap_i64]; omega))
      · exact hK'
    | 10, ho, hun, hdep, hK, hfl, _ =>
      obtain rfl := Option.some.inj ho
      have d9 : lp.getD 9 false = true := hdep { on := 9, ground := .data } (by simp) rfl
      have e10 : a'.tmps[10]? = some (.tuple #[.agg #[.int .i64 (o : Int), .int .i64 N, g.1], .int .i64 Z, .int .i64 E]) := (hS.don 9 _ 10 rfl d9 rfl).trans (by simp only [putAll, Act.put, List.setIfInBounds_toArray, List.set_cons_zero, List.set_cons_succ]; rfl)
      have hK' := hK g w' (fun _ _ _ _ _ _ => rfl) (by rw [hfl 8 (by decide), hfl 9 (by decide), hfl 13 (by decide), hfl 14 (by decide), getD_set_same (by rw [hsz]; decide)]; exact ⟨hR.r, hR.d, hR.l, hR.s, hR.p1, hR.p2, hR.p3, fun _ => hR.p3 d9⟩) (.agg #[.int .i64 (o : Int), .int .i64 N, g.1]) (by simp only [valO, Option.bind_some]; (try simp only [putAll, Act.put, List.setIfInBounds_toArray, List.set_cons_zero, List.set_cons_succ]); (try rfl))
      clear hS hdep hR
      refine gh_quiet14 (v := .agg #[.int .i64 (o : Int), .int .i64 N, g.1]) ?_ ?_
      · (simp only [execOp, Act.eval, e10]; go_simp; first | done | (simp; done) | (simp [*]; done) | omega | (rw [IntKind.wrap_i64]; omega))
      · exact hK'
    | 11, ho, hun, hdep, hK, hfl, _ =>
      obtain rfl := Option.some.inj ho
      have d9 : lp.getD 9 false = true := hdep { on := 9, ground := .data } (by simp) rfl
      have e10 : a'.tmps[10]? = some (.tuple #[.agg #[.int .i64 (o : Int), .int .i64 N, g.1], .int .i64 Z, .int .i64 E]) := (hS.don 9 _ 10 rfl d9 rfl).trans (by simp only [putAll, Act.put, List.setIfInBounds_toArray, List.set_cons_zero, List.set_cons_succ]; rfl)
      have hK' := hK g w' (fun _ _ _ _ _ _ => rfl) (by rw [hfl 8 (by decide), hfl 9 (by decide), hfl 10 (by decide), hfl 13 (by decide), hfl 14 (by decide)]; exact hR) (.int .i64 Z) (by simp only [valO, Option.bind_some]; (try simp only [putAll, Act.put, List.setIfInBounds_toArray, List.set_cons_zero, List.set_cons_succ]); (try rfl))
      clear hS hdep hR
      refine gh_quiet14 (v := .int .i64 Z) ?_ ?_
      · (simp only [execOp, Act.eval, e10]; go_simp; first | done | (simp; done) | (simp [*]; done) | omega | (rw [IntKind.wrap_i64]; omega))
      · exact hK'
    | 12, ho, hun, hdep, hK, hfl, _ =>
      obtain rfl := Option.some.inj ho
      have d9 : lp.getD 9 false = true := hdep { on := 9, ground := .data } (by simp) rfl
      have e10 : a'.tmps[10]? = some (.tuple #[.agg #[.int .i64 (o : Int), .int .i64 N, g.1], .int .i64 Z, .int .i64 E]) := (hS.don 9 _ 10 rfl d9 rfl).trans (by simp only [putAll, Act.put, List.setIfInBounds_toArray, List.set_cons_zero, List.set_cons_succ]; rfl)
      have hK' := hK g w' (fun _ _ _ _ _ _ => rfl) (by rw [hfl 8 (by decide), hfl 9 (by decide), hfl 10 (by decide), hfl 13 (by decide), hfl 14 (by decide)]; exact hR) (.int .i64 E) (by simp only [valO, Option.bind_some]; (try simp only [putAll, Act.put, List.setIfInBounds_toArray, List.set_cons_zero, List.set_cons_succ]); (try rfl))
      clear hS hdep hR
      refine gh_quiet14 (v := .int .i64 E) ?_ ?_
      · (simp only [execOp, Act.eval, e10]; go_simp; first | done | (simp; done) | (simp [*]; done) | omega | (rw [IntKind.wrap_i64]; omega))
      · exact hK'
    | 13, ho, hun, hdep, hK, hfl, _ =>
      obtain rfl := Option.some.inj ho
      have hst : lp.getD 14 false = false := by
        cases h : lp.getD 14 false with
        | false => rfl
        | true => have := hR.p2 h; rw [hun] at this; cases this
      have q := bl1 w' (.cells #[.int .i64 0, .int .i64 0, .slice none 0 0] 67)
      have hK' := hK (g.1, w'.heap.size) (w'.alloc (.cells #[.int .i64 0, .int .i64 0, .slice none 0 0] 67)) (fun k' ok s hk hl hd => gh_same14 (d := 5) (s := s) (by simp only [putAll, Act.put, List.setIfInBounds_toArray, List.set_cons_zero, List.set_cons_succ]; rfl) (by rintro rfl; have := dstG_of (by kernel_rfl) k' 13 ok _ 5 hk rfl hd rfl; subst this; rw [hun] at hl; cases hl)) (by rw [hfl 8 (by decide), hfl 9 (by decide), hfl 10 (by decide), hfl 14 (by decide), getD_set_same (by rw [hsz]; decide)]; exact ⟨keepb q hR.r, fun h1 => own_b13 q (hR.d h1), fun _ _ => ⟨new_16 _ _, hR.r.size⟩, fun h1 => (by rw [hst] at h1; cases h1), hR.p1, fun _ => rfl, hR.p3, hR.p4⟩) (.pointer (some ⟨w'.heap.size, 0, none⟩)) (by simp only [valO, Option.bind_some]; simp only [putAll, Act.put, List.setIfInBounds_toArray, List.set_cons_zero, List.set_cons_succ]; rfl)
      clear hS hdep hR hK q
      unfold Oper.wp
      simp only [execOp, Act.eval, Array.getD_eq_getD_getElem?]
      simp [go_sem, Oper.upon]
      exact hK'
    | 14, ho, hun, hdep, hK, hfl, _ =>
      obtain rfl := Option.some.inj ho
      have d13 : lp.getD 13 false = true := hdep { on := 13, ground := .data } (by simp) rfl
      have e5 : a'.tmps[5]? = some (.pointer (some ⟨g.2, 0, none⟩)) := (hS.don 13 _ 5 rfl d13 rfl).trans (by simp only [putAll, Act.put, List.setIfInBounds_toArray, List.set_cons_zero, List.set_cons_succ]; rfl)
      have d10 : lp.getD 10 false = true := hdep { on := 10, ground := .data } (by simp) rfl
      have e20 : a'.tmps[20]? = some (.agg #[.int .i64 (o : Int), .int .i64 N, g.1]) := (hS.don 10 _ 20 rfl d10 rfl).trans (by simp only [putAll, Act.put, List.setIfInBounds_toArray, List.set_cons_zero, List.set_cons_succ]; rfl)
      have hcl := hR.p4 d10
      obtain ⟨l1, l2⟩ := hR.l d13 hun
      have k0 := at_16 l1 0 _ rfl
      have k1 := at_16 l1 1 _ rfl
      have k2 := at_16 l1 2 _ rfl
      have f0 := fr_16 (j := 0) l1
      have f1 := fr_16 (j := 1) l1
      have f2 := fr_16 (j := 2) l1
      obtain ⟨sa, sc, hsv⟩ := own_form (hR.d hcl)
      have hnb : g.1.ownBlock ≠ some g.2 := own_not18 (hR.d hcl) l1 (by decide)
      have hK' := hK g (((w'.setCell ⟨g.2, 0, none⟩ (.int .i64 (o : Int))).setCell ⟨g.2, 1, none⟩ (.int .i64 N)).setCell ⟨g.2, 2, none⟩ g.1) (fun _ _ _ _ _ _ => rfl) (by rw [hfl 8 (by decide), hfl 9 (by decide), hfl 10 (by decide), hfl 13 (by decide), getD_set_same (by rw [hsz]; decide)]; exact ⟨((hR.r.setCell (p := ⟨g.2, 0, none⟩) l2 _).setCell (p := ⟨g.2, 1, none⟩) l2 _).setCell (p := ⟨g.2, 2, none⟩) l2 _, fun _ => own_put3 (hR.d hcl) hnb _ _ _, fun _ q => (by cases q), fun _ => ⟨by rw [set_16 (set_16 (set_16 l1 _) _) _]; rfl, l2⟩, fun _ => hcl, fun _ => d13, hR.p3, hR.p4⟩) undef rfl
      rw [hsv] at hK' e20
      clear hS hdep hR hK l1 l2 hnb
      unfold Oper.wp
      simp only [execOp, Act.eval, Array.getD_eq_getD_getElem?]
      simp [go_sem, e5, e20, k0, k1, k2, f0, f1, f2, Oper.upon]
      exact hK'
    | 15, ho, hun, hdep, hK, hfl, _ =>
      obtain rfl := Option.some.inj ho
      have d11 : lp.getD 11 false = true := hdep { on := 11, ground := .data } (by simp) rfl
      have e21 : a'.tmps[21]? = some (.int .i64 Z) := (hS.don 11 _ 21 rfl d11 rfl).trans (by simp only [putAll, Act.put, List.setIfInBounds_toArray, List.set_cons_zero, List.set_cons_succ]; rfl)
      have hK' := hK g w' (fun _ _ _ _ _ _ => rfl) (by rw [hfl 8 (by decide), hfl 9 (by decide), hfl 10 (by decide), hfl 13 (by decide), hfl 14 (by decide)]; exact hR) (.int .i64 Z) (by simp only [valO, Option.bind_some]; (try simp only [putAll, Act.put, List.setIfInBounds_toArray, List.set_cons_zero, List.set_cons_succ]); (try rfl))
      clear hS hdep hR
      refine gh_quiet14 (v := .int .i64 Z) ?_ ?_
      · (simp only [execOp, Act.eval, e21]; go_simp; first | done | (simp; done) | (simp [*]; done) | omega | (rw [IntKind.wrap_i64]; omega))
      · exact hK'
    | 16, ho, hun, hdep, hK, hfl, _ =>
      obtain rfl := Option.some.inj ho
      have d12 : lp.getD 12 false = true := hdep { on := 12, ground := .data } (by simp) rfl
      have e22 : a'.tmps[22]? = some (.int .i64 E) := (hS.don 12 _ 22 rfl d12 rfl).trans (by simp only [putAll, Act.put, List.setIfInBounds_toArray, List.set_cons_zero, List.set_cons_succ]; rfl)
      have hK' := hK g w' (fun _ _ _ _ _ _ => rfl) (by rw [hfl 8 (by decide), hfl 9 (by decide), hfl 10 (by decide), hfl 13 (by decide), hfl 14 (by decide)]; exact hR) (.int .i64 E) (by simp only [valO, Option.bind_some]; (try simp only [putAll, Act.put, List.setIfInBounds_toArray, List.set_cons_zero, List.set_cons_succ]); (try rfl))
      clear hS hdep hR
      refine gh_quiet14 (v := .int .i64 E) ?_ ?_
      · (simp only [execOp, Act.eval, e22]; go_simp; first | done | (simp; done) | (simp [*]; done) | omega | (rw [IntKind.wrap_i64]; omega))
      · exact hK'
    | n + 17, ho, hun, hdep, hK, hfl, hq => exact absurd hq (by omega)
  case fin1 =>
    intro g W2 hR
    obtain ⟨s1, s2⟩ := hR.s (by simp)
    have s3 := hR.d (by simp)
    simp only [putAll, Act.put, List.setIfInBounds_toArray, List.set_cons_zero, List.set_cons_succ]
    obtain ⟨v2, B⟩ := g
    dsimp only at s1 s2 s3 ⊢
    have HRd := hid13 (HR.out.below hR.r)
    have HOw := hid13 s3
    have HB2 : Hid (Below base w W2 ∧ Kt w W2) := ⟨HQ0.out.1.trans (hR.r.mono HQ0.out.2.2), HQ0.out.2.1.trans (Kt.below hR.r)⟩
    have HBx : Hid (W2.heap[w.heap.size]? = some (.cells #[rlV r0, rlV r1, rlV r2, rlV r3, rlV r4] 158)) := (hR.r.block _ (lt_16 HWb0.out)).trans HWb0.out
    have k0 := at_16 s1 0 _ rfl
    have k1 := at_16 s1 1 _ rfl
    have k2 := at_16 s1 2 _ rfl
    have HS1 := hid13 s1
    clear hR s1 s2 s3 HR0 HR HC HDc HWb0
    by_cases hE0 : E = 0
    · have ho5 := HO.out.2 hE0
      subst hE0
      obtain ⟨ro, hro⟩ : ∃ ro, [r0, r1, r2, r3, r4][o]? = some ro := ⟨[r0, r1, r2, r3, r4][o], by simp [ho5]⟩
      have hcx : W2.cell? ⟨w.heap.size, o, none⟩ = some (rlV ro) := at_16 HBx.out o _ (by
        rw [show #[rlV r0, rlV r1, rlV r2, rlV r3, rlV r4] = ([r0, r1, r2, r3, r4].map rlV).toArray from rfl, List.getElem?_toArray, List.getElem?_map, hro]; rfl)
      have ho6 : (o : Int) < 5 := by omega
      have HRo := hid13 hro
      clear hro ho5
      cases ro with
      | none =>
        have hn := rlnil18
        unfold rlV at hcx
        go_wp2
        exact bodyPost_ret (v := .int .i64 24) (by simp [results, Try.results84, go_sem]) rfl ⟨TkQ.nil HRo.out ⟨_, _, HRd.out⟩, HB2.out⟩
      | some f =>
        have hn := rlsome18 f
        have hcf := HCf.out o f HRo.out
        unfold rlV at hcx
        have KF := HT.out o f rfl rfl HRo.out W2 v2 HRd.out (own_base16 HOw.out HQ0.out.2.2)
        obtain ⟨sa, sc, hsv⟩ := own_form HOw.out
        subst hsv
        go_wp2_with fail
        refine KF.mono ?_
        rintro e W3 ⟨er, l', P', rfl, hT3, hR3, hB3, hK3⟩
        have HB3 : Hid (Below base w W3 ∧ Kt w W3) := ⟨HB2.out.1.trans hB3, HB2.out.2.trans hK3⟩
        have HT3 := hid13 hT3
        have HR3 := hid13 hR3
        obtain ⟨vb3, L3, hR3'⟩ := hR3
        clear hT3 hB3 hK3 KF hcx hn HRd HOw HBx HB2 k0 k1 k2 HS1
        by_cases hz : er = 0
        · subst hz
          have c1 := hR3'.c1
          have f1 := fr_16 (j := 1) hR3'.g
          have HR4 := hid13 (hR3'.s1 (a + Z))
          have HB4 : Hid (Below base w (W3.setCell ⟨G, 1, none⟩ (.int .i64 (a + Z))) ∧ Kt w (W3.setCell ⟨G, 1, none⟩ (.int .i64 (a + Z)))) := ⟨hR3'.bs HB3.out.1 1 _, HB3.out.2.trans (hR3'.ks 1 _)⟩
          clear hR3' HR3
          go_wp2
          exact bodyPost_ret (v := .int .i64 0) (by simp [results, Try.results84, go_sem]) rfl ⟨TkQ.fn HRo.out HT3.out (by rw [if_pos rfl]; exact ⟨_, _, HR4.out⟩), HB4.out⟩
        · have hne : (er != 0) = true := by simpa using hz
          have HZ := hid13 hz
          clear hz hR3'
          go_wp2
          exact bodyPost_ret (v := .int .i64 er) (by simp [results, Try.results84, go_sem]) rfl ⟨TkQ.fn HRo.out HT3.out (by rw [if_neg HZ.out]; exact HR3.out), HB3.out⟩
    · have hne : (E != 0) = true := by simpa using hE0
      have HE0 := hid13 hE0
      clear hE0
      go_wp2
      exact bodyPost_ret (v := .int .i64 E) (by simp [results, Try.results84, go_sem]) rfl ⟨TkQ.no HE0.out ⟨_, _, HRd.out⟩, HB2.out⟩
end Go.Proofs.Ytdpmhpmnkollaaa
namespace Go.Proofs.Ytdpmhpmnkollaaa
open Go.RowKit
set_option linter.unusedSimpArgs false
set_option linter.unusedVariables false
attribute [local go_sem] Oper.semAt_some

def jumps18 (J : Nat → Act → World → Prop) (Q : Exit → Act → World → Prop) : Exit → Act → World → Prop
  | .goto l, a, w => J l a w
  | e, a, w => Q e a w
theorem scope_all18 {P : Program} {a : Act} {w : World} {Q : Exit → Act → World → Prop} {c : Code} (J : Nat → Act → World → Prop) (μ : Nat → Act → World → Nat)
    (first : c.wp P (jumps18 J Q) a w)
    (pass : ∀ l a w, J l a w → ∃ rst, findLabel c l = some rst ∧ rst.wp P (jumps18 (fun l' a' w' => J l' a' w' ∧ μ l' a' w' < μ l a w) Q) a w) : (Code.scope c).wp P Q a w := by
  intro b k cs
  have hg : ∀ l rst, findLabel c l = some rst → gotoIn l (.inScope c :: k) = some (.code rst :: .inScope c :: k) := fun l rst h => by simp [gotoIn, h]
  have key : ∀ n l a w, μ l a w = n → J l a w → ∃ rst, findLabel c l = some rst ∧ ∃ e a' w', Q e a' w' ∧ Arrives P (lone (b.at a (.code rst :: .inScope c :: k)) cs w) b k cs e a' w' := by
    intro n
    induction n using Nat.strongRecOn with
    | _ n ih =>
      intro l a w hn hJ
      obtain ⟨rst, hrst, hp⟩ := pass l a w hJ
      refine ⟨rst, hrst, ?_⟩
      obtain ⟨e, a₁, w₁, hq, harr⟩ := hp b (.inScope c :: k) cs
      cases e with
      | normal => exact ⟨.normal, a₁, w₁, hq, Steps.trans harr (.one step_inScope)⟩
      | exit id => exact ⟨.exit id, a₁, w₁, hq, fun k' hk => harr k' (by simp [exitTo, hk])⟩
      | goto l' =>
        obtain ⟨hJ', hlt⟩ := hq
        obtain ⟨rst2, hr2, e₂, a₂, w₂, hq₂, harr₂⟩ := ih _ (by omega) l' a₁ w₁ rfl hJ'
        exact ⟨e₂, a₂, w₂, hq₂, .of_steps (harr _ (hg l' _ hr2)) harr₂⟩
      | ret => exact ⟨_, a₁, w₁, hq, harr⟩
      | panic ch => exact ⟨_, a₁, w₁, hq, harr⟩
      | outgrown => exact ⟨_, a₁, w₁, hq, harr⟩
  obtain ⟨e, a₁, w₁, hq, harr⟩ := first b (.inScope c :: k) cs
  cases e with
  | normal => exact ⟨.normal, a₁, w₁, hq, .head step_scope (Steps.trans harr (.one step_inScope))⟩
  | exit id => exact ⟨.exit id, a₁, w₁, hq, fun k' hk => .head step_scope (harr k' (by simp [exitTo, hk]))⟩
  | goto l' =>
    obtain ⟨rst2, hr2, e₂, a₂, w₂, hq₂, harr₂⟩ := key _ l' a₁ w₁ rfl hq
    exact ⟨e₂, a₂, w₂, hq₂, .of_steps (.head step_scope (harr _ (hg l' _ hr2))) harr₂⟩
  | ret => exact ⟨_, a₁, w₁, hq, .of_steps (.one step_scope) harr⟩
  | panic ch => exact ⟨_, a₁, w₁, hq, .of_steps (.one step_scope) harr⟩
  | outgrown => exact ⟨_, a₁, w₁, hq, .of_steps (.one step_scope) harr⟩
theorem wp_more18 {P : Program} {c : Code} {a : Act} {w : World} {Q Q' : Exit → Act → World → Prop} (h : c.wp P Q a w) (hq : ∀ e a w, Q e a w → Q' e a w) : c.wp P Q' a w := fun b k cs => by
  obtain ⟨e, a', w', h1, h2⟩ := h b k cs
  exact ⟨e, a', w', hq _ _ _ h1, h2⟩
theorem scope_two18 {P : Program} {a : Act} {w : World} {Q : Exit → Act → World → Prop} {A1 A2 B1 B2 X : Code} (J : Nat → Act → World → Prop) (μ : Nat → Act → World → Nat)
    (hf0 : findLabel (A1.seq (A2.seq ((Code.label 0).seq (B1.seq (B2.seq ((Code.label 1).seq X)))))) 0 = some (Code.skip.seq (B1.seq (B2.seq ((Code.label 1).seq X)))))
    (hf1 : findLabel (A1.seq (A2.seq ((Code.label 0).seq (B1.seq (B2.seq ((Code.label 1).seq X)))))) 1 = some (Code.skip.seq X))
    (pre : A1.wp P (Exit.then (fun a w => A2.wp P (Exit.then (J 0) (fun _ _ _ => False)) a w) (fun _ _ _ => False)) a w)
    (p0 : ∀ a w, J 0 a w → B1.wp P (Exit.then (fun a w' => B2.wp P (Exit.then (fun a' w' => J 1 a' w' ∧ μ 1 a' w' ≤ μ 0 a' w) (fun e a w => e = .ret ∧ Q .ret a w)) a w') (fun e a w => e = .ret ∧ Q .ret a w)) a w)
    (hμ : ∀ a a' w, μ 0 a w = μ 0 a' w)
    (p1 : ∀ a w, J 1 a w → X.wp P (jumps18 (fun l a' w' => (l = 0 ∨ l = 1) ∧ J l a' w' ∧ μ l a' w' < μ 1 a w) Q) a w) :
    (Code.scope (A1.seq (A2.seq ((Code.label 0).seq (B1.seq (B2.seq ((Code.label 1).seq X))))))).wp P Q a w := by
  have P0 : ∀ a w, J 0 a w → (B1.seq (B2.seq ((Code.label 1).seq X))).wp P (jumps18 (fun l a' w' => (l = 0 ∨ l = 1) ∧ J l a' w' ∧ μ l a' w' < μ 0 a w) Q) a w := by
    intro a w h
    refine wp_seq (wp_more18 (p0 a w h) ?_)
    intro e a1 w1 h1
    cases e with
    | normal =>
      refine wp_seq (wp_more18 h1 ?_)
      intro e a2 w2 h2
      cases e with
      | normal =>
        refine wp_seq (wp_label (wp_more18 (p1 a2 w2 h2.1) ?_))
        intro e a3 w3 h3
        cases e with
        | goto l => exact ⟨h3.1, h3.2.1, by have := h3.2.2; have := h2.2; have := hμ a a2 w; omega⟩
        | _ => exact h3
      | ret => exact h2.2
      | _ => exact absurd h2.1 (by simp)
    | ret => exact h1.2
    | _ => exact absurd h1.1 (by simp)
  refine scope_all18 (fun l a w => (l = 0 ∨ l = 1) ∧ J l a w) μ ?_ ?_
  · refine wp_seq (wp_more18 pre ?_)
    intro e a1 w1 h1
    cases e with
    | normal =>
      refine wp_seq (wp_more18 h1 ?_)
      intro e a2 w2 h2
      cases e with
      | normal =>
        refine wp_seq (wp_label (wp_more18 (P0 a2 w2 h2) ?_))
        intro e a3 w3 h3
        cases e with
        | goto l => exact ⟨h3.1, h3.2.1⟩
        | _ => exact h3
      | _ => exact h2.elim
    | _ => exact h1.elim
  · rintro l a w ⟨hl, hJ⟩
    rcases hl with rfl | rfl
    · refine ⟨_, hf0, wp_seq (wp_skip (wp_more18 (P0 a w hJ) ?_))⟩
      intro e a3 w3 h3
      cases e with
      | goto l => exact ⟨⟨h3.1, h3.2.1⟩, h3.2.2⟩
      | _ => exact h3
    · refine ⟨_, hf1, wp_seq (wp_skip (wp_more18 (p1 a w hJ) ?_))⟩
      intro e a3 w3 h3
      cases e with
      | goto l => exact ⟨⟨h3.1, h3.2.1⟩, h3.2.2⟩
      | _ => exact h3
end Go.Proofs.Ytdpmhpmnkollaaa
namespace Go.Proofs.Ytdpmhpmnkollaaa
open Go.RowKit
set_option linter.unusedSimpArgs false
set_option linter.unusedVariables false
theorem storeF_run18 {P : Program} {w : World} {a : Addr} {m : Mode} (f : Fn) (x l : Array Value) : (store a (.func f x l) m).run P w = stored P w a (.func f x l) m := run_store P w a _ m rfl
theorem storeN_run18 {P : Program} {w : World} {a : Addr} {m : Mode} : (store a .nilFunc m).run P w = stored P w a .nilFunc m := run_store P w a _ m rfl
attribute [local go_sem] storeF_run18 storeN_run18
def msA : Array Value := #[rlV none, rlV (some 103), rlV none, rlV none, rlV none, rlV none, rlV none, rlV (some 104), rlV none, rlV none, rlV none, rlV none, rlV none, rlV (some 105), rlV (some 106)]
set_option maxRecDepth 20000 in
set_option maxHeartbeats 4000000 in
theorem mayStand_any18 (w : World) : Calls Try.prog 83 #[] w fun e w' => e = .returned (.agg msA) ∧ Below w.heap.size w w' := by
  unfold msA rlV
  dsimp only
  go_enter Try.func83, Try.ntmps83
  go_wp2
  refine bodyPost_ret (v := .agg #[.nilFunc, .func (.func 103) #[] #[], .nilFunc, .nilFunc, .nilFunc, .nilFunc, .nilFunc, .func (.func 104) #[] #[], .nilFunc, .nilFunc, .nilFunc, .nilFunc, .nilFunc, .func (.func 105) #[] #[], .func (.func 106) #[] #[]]) (by simp [results, Try.results83, go_sem]) rfl ⟨rfl, bl1 _ _⟩
end Go.Proofs.Ytdpmhpmnkollaaa
