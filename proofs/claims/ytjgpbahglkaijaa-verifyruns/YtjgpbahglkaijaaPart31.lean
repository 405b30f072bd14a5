/-
  Part 31 of the proof: 1 texts, one behind the other.
-/
import Derived.Test.YtjgpbahglkaijaaPart30
import Derived.Test.YtjgpbahglkaijaaPart29
import Derived.Test.YtjgpbahglkaijaaPart23
import Derived.Test.YtjgpbahglkaijaaPart12
namespace Go.Proofs.Ytjgpbahglkaijaa
open Go.RowKit
set_option linter.unusedSimpArgs false
set_option linter.unusedVariables false

structure RS9 (w : World) (B : Nat) (F : Int) (vc : Value) (x y : BitVec 128) (q : Rq) (M : List (BitVec 32)) (o N : Int) (cl mv ex al st : Bool) (g : Value × Nat) (X : World) : Prop where
  e : DR w B F vc x y q X
  sz : w.heap.size ≤ X.heap.size
  d : cl = true → X.ownsRow w.heap.size 110 1 g.1 M.length (M.map cU)
  l : al = true → st = false → X.heap[g.2]? = some (.cells #[.int .i64 0, .int .i64 0, .slice none 0 0] 75) ∧ w.heap.size ≤ g.2
  s : st = true → X.heap[g.2]? = some (.cells #[.int .i64 o, .int .i64 N, g.1] 75) ∧ w.heap.size ≤ g.2
  p1 : st = true → cl = true
  p2 : st = true → al = true
  p3 : mv = true → cl = true
  p4 : ex = true → cl = true
structure RX13 (w : World) (B : Nat) (F : Int) (vc : Value) (x y z : BitVec 128) (q : Rq) (G : Nat) (N : Int) (v : Value) (fs : Bool) (X : World) : Prop where
  e0 : fs = false → RV X B F vc x y q
  e1 : fs = true → RV X B F vc x z q
  k : KM B w X
  i : X.heap[G]? = some (.cells #[.int .i64 1, .int .i64 N, v] 75)
theorem RX13.rd {w X : World} {B G : Nat} {F N : Int} {vc v : Value} {x y z : BitVec 128} {q : Rq} {fs : Bool} (h : RX13 w B F vc x y z q G N v fs X) : ∃ y', RV X B F vc x y' q := by
  cases fs with
  | false => exact ⟨_, h.e0 rfl⟩
  | true => exact ⟨_, h.e1 rfl⟩
def StpQ (w : World) (B : Nat) (F : Int) (vc : Value) (x : BitVec 128) (b : Bool) (m : Mc) (r : Ending) (w' : World) : Prop := r = .returned (.bool b) ∧ ∃ y hb, RV w' B F vc x y { rqO m with hb := hb } ∧ (m.en = false → hb = m.hb ∧ (m.hb ≠ 0 → lI y = m.hn)) ∧ KM B w w'
def DRI (w : World) (B : Nat) (F : Int) (vc : Value) (x y : BitVec 128) (q : Rq) (G : Nat) (o N : Int) (v : Value) (W : World) : Prop := DR w B F vc x y q W ∧ W.heap[G]? = some (.cells #[.int .i64 o, .int .i64 N, v] 75)
theorem DRI.below {w W W' : World} {B G : Nat} {F o N : Int} {vc v : Value} {x y : BitVec 128} {q : Rq} (h : DRI w B F vc x y q G o N v W) (hB : B < w.heap.size) (hb : Below W.heap.size W W') : DRI w B F vc x y q G o N v W' := ⟨h.1.below hB hb, (hb.block G (lt_16 h.2)).trans h.2⟩
set_option maxRecDepth 20000 in
set_option maxHeartbeats 32000000 in
theorem rstep_go19 (B : Nat) (F : Int) (vc : Value) (x y : BitVec 128) (m : Mc) (l : List Nat) (w : World) (h : RV w B F vc x y (rqO m)) (hy : m.hb ≠ 0 → lI y = m.hn) (hcb : CB B vc l) (hcode : RwX cB w vc l) (hl : l.length ≤ 100000) (hx : ∀ b ∈ l, b < 256) (hm : MOk F ((l.length / 4 : Nat) : Int) m) (he : m.en = false) :
    Calls Try.prog 38 #[.pointer (some ⟨B, 0, none⟩)] w (StpQ w B F vc x (decide (m.st < (stM F x l m).st)) (stM F x l m)) := by
  unfold StpQ
  have HM := hid13 h
  have HB := hid13 h.lt
  have HC : Hid (∀ X, KM B w X → RwX cB X vc l) := hid13 (fun X hX => rwx_km hcode hcb hX)
  have HOK := hid13 hm
  have HY := hid13 hy
  have HDc : Hid (∀ X, RwX cB X vc l → Calls Try.prog 29 #[vc, .int .i64 m.pl] X fun e w' => ∃ v', e = .returned (.tuple #[.agg #[.int .i64 (dcI l m.pl).op, .int .i64 (dcI l m.pl).n, v'], .int .i64 (dcZ l m.pl), .int .i64 (dcE l m.pl)]) ∧ w'.ownsRow X.heap.size 110 1 v' (dcI l m.pl).m.length ((dcI l m.pl).m.map cU) ∧ Below X.heap.size X w') := hid13 (fun X hX => rdecode14 vc l m.pl X hX hl hx)
  have HSt : Hid ((dcE l m.pl ≠ 0 → stM F x l m = { m with en := true, err := dcE l m.pl }) ∧ (dcE l m.pl = 0 → DcF l m.pl ∧ (doE F m (dcI l m.pl) ≠ 0 → stM F x l m = { m with en := true, err := doE F m (dcI l m.pl) }) ∧ (doE F m (dcI l m.pl) = 0 → Did F x l m))) := ⟨fun q => stM_dc q, fun q => ⟨dcF q, fun q2 => stM_do q q2, fun q2 => did q q2⟩⟩
  have HRk : Hid (dcE l m.pl = 0 → (dcI l m.pl).op = 2 → m.hb = (dcI l m.pl).n → rkE (dcI l m.pl).m m.hn = 0) := hid13 (fun a b c => rk_ok19 hm a b c)
  have HUl := hid13 (dcI_len l m.pl)
  have HZ := hid13 (And.intro (dcZ_bd l m.pl) hl)
  have c15 : w.cell? ⟨B, 15, none⟩ = some (.bool false) := by have := h.c15; rw [show (rqO m).en = m.en from rfl, he] at this; exact this
  obtain ⟨mN, hmN⟩ : ∃ mN, mN = stM F x l m := ⟨_, rfl⟩
  rw [← hmN] at HSt ⊢
  have HmN := hid13 hmN
  obtain ⟨E, hE⟩ : ∃ E, E = dcE l m.pl := ⟨_, rfl⟩
  obtain ⟨o, ho⟩ : ∃ o, o = (dcI l m.pl).op := ⟨_, rfl⟩
  obtain ⟨N, hN⟩ : ∃ N, N = (dcI l m.pl).n := ⟨_, rfl⟩
  obtain ⟨U, hU⟩ : ∃ U, U = (dcI l m.pl).m := ⟨_, rfl⟩
  obtain ⟨Z, hZ⟩ : ∃ Z, Z = dcZ l m.pl := ⟨_, rfl⟩
  rw [← ho, ← hN, ← hU, ← hZ, ← hE] at HDc
  have HEq : Hid (E = dcE l m.pl ∧ o = (dcI l m.pl).op ∧ N = (dcI l m.pl).n ∧ U = (dcI l m.pl).m ∧ Z = dcZ l m.pl) := ⟨hE, ho, hN, hU, hZ⟩
  have hsE : (decide (m.st < m.st)) = false := decide_eq_false (Int.lt_irrefl _)
  have hsT : (decide (m.st < m.st + 1)) = true := decide_eq_true (by omega)
  have HsE := hid13 hsE
  have HsT := hid13 hsT
  have mst : IntKind.i64.wrap (m.st + 1) = m.st + 1 := by rw [IntKind.wrap_i64]; have := hm.s0; have := hm.s1; omega
  have mex : IntKind.i64.wrap (m.ex + 1) = m.ex + 1 := by rw [IntKind.wrap_i64]; have := hm.s1; have := hm.ei; have := hm.e0; have := hm.i0; omega
  have mix : IntKind.i64.wrap (m.ix + 1) = m.ix + 1 := by rw [IntKind.wrap_i64]; have := hm.s1; have := hm.ei; have := hm.e0; have := hm.i0; omega
  have mpl : IntKind.i64.wrap (m.pl + 1) = m.pl + 1 := by rw [IntKind.wrap_i64]; have := hm.p0; have := hm.p1; omega
  have HR0 : Hid (RS9 w B F vc x y (rqO m) U o N false false false false false (undef, 0) w.drew) := ⟨⟨h.below (Below.refl _ _).drew, (KM.refl B w).below h.lt (Below.refl _ _).drew⟩, (Below.refl w.heap.size w).drew.size, fun q => (by cases q), fun q => (by cases q), fun q => (by cases q), fun q => (by cases q), fun q => (by cases q), fun q => (by cases q), fun q => (by cases q)⟩
  have HEn := hid13 he
  clear h hy hcb hcode hl hx hm he hmN hE ho hN hU hZ hsE hsT HM
  go_enter Try.func38, Try.ntmps38
  go_wp2_with fail
  clear c15
  refine gh_region (γ := Value × Nat) (qpOk 17 17 (by decide) (fun N => by kernel_rfl) (by kernel_rfl) (by kernel_rfl) (by kernel_rfl) (by kernel_rfl)) (by kernel_rfl) (by kernel_rfl) [some 14, some 15, some 16, some 17, some 18, some 19, some 20, some 21, some 22, some 13, some 23, some 24, some 25, some 3, none, some 4, some 5] (fun g => [.pointer (some ⟨B, 0, none⟩), .pointer (some ⟨B, 0, none⟩), .pointer (some ⟨B, 1, none⟩), vc, .pointer (some ⟨B, 0, none⟩), .pointer (some ⟨B, 0, none⟩), .pointer (some ⟨B, 4, none⟩), .int .i64 m.pl, .tuple #[.agg #[.int .i64 o, .int .i64 N, g.1], .int .i64 Z, .int .i64 E], .tuple #[.agg #[.int .i64 o, .int .i64 N, g.1], .int .i64 Z, .int .i64 E], .agg #[.int .i64 o, .int .i64 N, g.1], .int .i64 Z, .int .i64 E, .pointer (some ⟨g.2, 0, none⟩), undef, .int .i64 Z, .int .i64 E]) (by kernel_rfl) (by simp) (fun lp g X => RS9 w B F vc x y (rqO m) U o N (lp.getD 8 false) (lp.getD 9 false) (lp.getD 10 false) (lp.getD 13 false) (lp.getD 14 false) g X) (undef, 0) HR0.out ?step3 ?fin3
  case step3 =>
    intro q o lp g w' a' ho hsz hun hdep hR hS K Q' hK
    have hfl : ∀ j, j ≠ q → (lp.setIfInBounds q true).getD j false = lp.getD j false := fun j hj => by rw [Array.getD_eq_getD_getElem?, Array.getD_eq_getD_getElem?, Array.getElem?_setIfInBounds_ne (by omega)]
    have hq : q < 17 := (List.getElem?_eq_some_iff.mp ho).1
    match q, ho, hun, hdep, hK, hfl, hq with
    | 0, ho, hun, hdep, hK, hfl, _ =>
      obtain rfl := Option.some.inj ho
      have o0 : a'.tmps[0]? = some (.pointer (some ⟨B, 0, none⟩)) := (hS.old14 0 (by simp)).trans rfl
      have hK' := hK g w' (fun _ _ _ _ _ _ => rfl) (by rw [hfl 8 (by decide), hfl 9 (by decide), hfl 10 (by decide), hfl 13 (by decide), hfl 14 (by decide)]; exact hR) (.pointer (some ⟨B, 0, none⟩)) (by simp only [valO, Option.bind_some]; (try simp only [putAll, Act.put, List.setIfInBounds_toArray, List.set_cons_zero, List.set_cons_succ]); (try rfl))
      clear hS hdep hR
      refine gh_quiet14 (v := .pointer (some ⟨B, 0, none⟩)) ?_ ?_
      · (simp only [execOp, Act.eval, o0]; go_simp; first | done | (simp; done) | (simp [*]; done) | omega | (rw [IntKind.wrap_i64]; omega))
      · exact hK'
    | 1, ho, hun, hdep, hK, hfl, _ =>
      obtain rfl := Option.some.inj ho
      have d0 : lp.getD 0 false = true := hdep { on := 0, ground := .data } (by simp) rfl
      have e14 : a'.tmps[14]? = some (.pointer (some ⟨B, 0, none⟩)) := (hS.don 0 _ 14 rfl d0 rfl).trans (by simp only [putAll, Act.put, List.setIfInBounds_toArray, List.set_cons_zero, List.set_cons_succ]; rfl)
      have hK' := hK g w' (fun _ _ _ _ _ _ => rfl) (by rw [hfl 8 (by decide), hfl 9 (by decide), hfl 10 (by decide), hfl 13 (by decide), hfl 14 (by decide)]; exact hR) (.pointer (some ⟨B, 0, none⟩)) (by simp only [valO, Option.bind_some]; (try simp only [putAll, Act.put, List.setIfInBounds_toArray, List.set_cons_zero, List.set_cons_succ]); (try rfl))
      clear hS hdep hR
      refine gh_quiet14 (v := .pointer (some ⟨B, 0, none⟩)) ?_ ?_
      · (simp only [execOp, Act.eval, e14]; go_simp; first | done | (simp; done) | (simp [*]; done) | omega | (rw [IntKind.wrap_i64]; omega))
      · exact hK'
    | 2, ho, hun, hdep, hK, hfl, _ =>
      obtain rfl := Option.some.inj ho
      have d1 : lp.getD 1 false = true := hdep { on := 1, ground := .data } (by simp) rfl
      have e15 : a'.tmps[15]? = some (.pointer (some ⟨B, 0, none⟩)) := (hS.don 1 _ 15 rfl d1 rfl).trans (by simp only [putAll, Act.put, List.setIfInBounds_toArray, List.set_cons_zero, List.set_cons_succ]; rfl)
      have hK' := hK g w' (fun _ _ _ _ _ _ => rfl) (by rw [hfl 8 (by decide), hfl 9 (by decide), hfl 10 (by decide), hfl 13 (by decide), hfl 14 (by decide)]; exact hR) (.pointer (some ⟨B, 1, none⟩)) (by simp only [valO, Option.bind_some]; (try simp only [putAll, Act.put, List.setIfInBounds_toArray, List.set_cons_zero, List.set_cons_succ]); (try rfl))
      clear hS hdep hR
      refine gh_quiet14 (v := .pointer (some ⟨B, 1, none⟩)) ?_ ?_
      · (simp only [execOp, Act.eval, e15]; go_simp; first | done | (simp; done) | (simp [*]; done) | omega | (rw [IntKind.wrap_i64]; omega))
      · exact hK'
    | 3, ho, hun, hdep, hK, hfl, _ =>
      obtain rfl := Option.some.inj ho
      have d2 : lp.getD 2 false = true := hdep { on := 2, ground := .data } (by simp) rfl
      have e16 : a'.tmps[16]? = some (.pointer (some ⟨B, 1, none⟩)) := (hS.don 2 _ 16 rfl d2 rfl).trans (by simp only [putAll, Act.put, List.setIfInBounds_toArray, List.set_cons_zero, List.set_cons_succ]; rfl)
      have k1 := hR.e.1.c1
      have hK' := hK g w' (fun _ _ _ _ _ _ => rfl) (by rw [hfl 8 (by decide), hfl 9 (by decide), hfl 10 (by decide), hfl 13 (by decide), hfl 14 (by decide)]; exact hR) (vc) (by simp only [valO, Option.bind_some]; (try simp only [putAll, Act.put, List.setIfInBounds_toArray, List.set_cons_zero, List.set_cons_succ]); (try rfl))
      clear hS hdep hR
      refine gh_quiet14 (v := vc) ?_ ?_
      · (simp only [execOp, Act.eval, e16]; go_simp; first | done | (simp; done) | (simp [*]; done) | omega | (rw [IntKind.wrap_i64]; omega))
      · exact hK'
    | 4, ho, hun, hdep, hK, hfl, _ =>
      obtain rfl := Option.some.inj ho
      have o0 : a'.tmps[0]? = some (.pointer (some ⟨B, 0, none⟩)) := (hS.old14 0 (by simp)).trans rfl
      have hK' := hK g w' (fun _ _ _ _ _ _ => rfl) (by rw [hfl 8 (by decide), hfl 9 (by decide), hfl 10 (by decide), hfl 13 (by decide), hfl 14 (by decide)]; exact hR) (.pointer (some ⟨B, 0, none⟩)) (by simp only [valO, Option.bind_some]; (try simp only [putAll, Act.put, List.setIfInBounds_toArray, List.set_cons_zero, List.set_cons_succ]); (try rfl))
      clear hS hdep hR
      refine gh_quiet14 (v := .pointer (some ⟨B, 0, none⟩)) ?_ ?_
      · (simp only [execOp, Act.eval, o0]; go_simp; first | done | (simp; done) | (simp [*]; done) | omega | (rw [IntKind.wrap_i64]; omega))
      · exact hK'
    | 5, ho, hun, hdep, hK, hfl, _ =>
      obtain rfl := Option.some.inj ho
      have d4 : lp.getD 4 false = true := hdep { on := 4, ground := .data } (by simp) rfl
      have e18 : a'.tmps[18]? = some (.pointer (some ⟨B, 0, none⟩)) := (hS.don 4 _ 18 rfl d4 rfl).trans (by simp only [putAll, Act.put, List.setIfInBounds_toArray, List.set_cons_zero, List.set_cons_succ]; rfl)
      have hK' := hK g w' (fun _ _ _ _ _ _ => rfl) (by rw [hfl 8 (by decide), hfl 9 (by decide), hfl 10 (by decide), hfl 13 (by decide), hfl 14 (by decide)]; exact hR) (.pointer (some ⟨B, 0, none⟩)) (by simp only [valO, Option.bind_some]; (try simp only [putAll, Act.put, List.setIfInBounds_toArray, List.set_cons_zero, List.set_cons_succ]); (try rfl))
      clear hS hdep hR
      refine gh_quiet14 (v := .pointer (some ⟨B, 0, none⟩)) ?_ ?_
      · (simp only [execOp, Act.eval, e18]; go_simp; first | done | (simp; done) | (simp [*]; done) | omega | (rw [IntKind.wrap_i64]; omega))
      · exact hK'
    | 6, ho, hun, hdep, hK, hfl, _ =>
      obtain rfl := Option.some.inj ho
      have d5 : lp.getD 5 false = true := hdep { on := 5, ground := .data } (by simp) rfl
      have e19 : a'.tmps[19]? = some (.pointer (some ⟨B, 0, none⟩)) := (hS.don 5 _ 19 rfl d5 rfl).trans (by simp only [putAll, Act.put, List.setIfInBounds_toArray, List.set_cons_zero, List.set_cons_succ]; rfl)
      have hK' := hK g w' (fun _ _ _ _ _ _ => rfl) (by rw [hfl 8 (by decide), hfl 9 (by decide), hfl 10 (by decide), hfl 13 (by decide), hfl 14 (by decide)]; exact hR) (.pointer (some ⟨B, 4, none⟩)) (by simp only [valO, Option.bind_some]; (try simp only [putAll, Act.put, List.setIfInBounds_toArray, List.set_cons_zero, List.set_cons_succ]); (try rfl))
      clear hS hdep hR
      refine gh_quiet14 (v := .pointer (some ⟨B, 4, none⟩)) ?_ ?_
      · (simp only [execOp, Act.eval, e19]; go_simp; first | done | (simp; done) | (simp [*]; done) | omega | (rw [IntKind.wrap_i64]; omega))
      · exact hK'
    | 7, ho, hun, hdep, hK, hfl, _ =>
      obtain rfl := Option.some.inj ho
      have d6 : lp.getD 6 false = true := hdep { on := 6, ground := .data } (by simp) rfl
      have e20 : a'.tmps[20]? = some (.pointer (some ⟨B, 4, none⟩)) := (hS.don 6 _ 20 rfl d6 rfl).trans (by simp only [putAll, Act.put, List.setIfInBounds_toArray, List.set_cons_zero, List.set_cons_succ]; rfl)
      have k4 : w'.cell? ⟨B, 4, none⟩ = some (.int .i64 m.pl) := hR.e.1.c4
      have hK' := hK g w' (fun _ _ _ _ _ _ => rfl) (by rw [hfl 8 (by decide), hfl 9 (by decide), hfl 10 (by decide), hfl 13 (by decide), hfl 14 (by decide)]; exact hR) (.int .i64 m.pl) (by simp only [valO, Option.bind_some]; (try simp only [putAll, Act.put, List.setIfInBounds_toArray, List.set_cons_zero, List.set_cons_succ]); (try rfl))
      clear hS hdep hR
      refine gh_quiet14 (v := .int .i64 m.pl) ?_ ?_
      · (simp only [execOp, Act.eval, e20]; go_simp; first | done | (simp; done) | (simp [*]; done) | omega | (rw [IntKind.wrap_i64]; omega))
      · exact hK'
    | 8, ho, hun, hdep, hK, hfl, _ =>
      obtain rfl := Option.some.inj ho
      have d3 : lp.getD 3 false = true := hdep { on := 3, ground := .data } (by simp) rfl
      have e17 : a'.tmps[17]? = some (vc) := (hS.don 3 _ 17 rfl d3 rfl).trans (by simp only [putAll, Act.put, List.setIfInBounds_toArray, List.set_cons_zero, List.set_cons_succ]; rfl)
      have d7 : lp.getD 7 false = true := hdep { on := 7, ground := .data } (by simp) rfl
      have e21 : a'.tmps[21]? = some (.int .i64 m.pl) := (hS.don 7 _ 21 rfl d7 rfl).trans (by simp only [putAll, Act.put, List.setIfInBounds_toArray, List.set_cons_zero, List.set_cons_succ]; rfl)
      have hst : lp.getD 14 false = false := by
        cases h : lp.getD 14 false with
        | false => rfl
        | true => have := hR.p1 h; rw [hun] at this; cases this
      have KC := HDc.out w' (HC.out w' hR.e.2)
      clear hdep
      unfold Oper.wp
      simp only [execOp, Act.eval, Array.getD_eq_getD_getElem?]
      simp [go_sem, e17, e21, Oper.upon]
      refine KC.mono ?_
      rintro e W2 ⟨v2, rfl, ho2, hb⟩
      exact hK (v2, g.2) W2 (fun k' ok s hk hl hd => gh_same18 (d := 22) (e := 13) (f := 23) (s := s) (by simp only [putAll, Act.put, List.setIfInBounds_toArray, List.set_cons_zero, List.set_cons_succ]; rfl) (by rintro rfl; have := dstG_of (by kernel_rfl) k' 8 ok _ 22 hk rfl hd rfl; subst this; rw [hun] at hl; cases hl) (by rintro rfl; have := dstG_of (by kernel_rfl) k' 9 ok _ 13 hk rfl hd rfl; subst this; have := hR.p3 hl; rw [hun] at this; cases this) (by rintro rfl; have := dstG_of (by kernel_rfl) k' 10 ok _ 23 hk rfl hd rfl; subst this; have := hR.p4 hl; rw [hun] at this; cases this)) (by rw [hfl 9 (by decide), hfl 10 (by decide), hfl 13 (by decide), hfl 14 (by decide), getD_set_same (by rw [hsz]; decide)]; exact ⟨hR.e.below HB.out hb, Nat.le_trans hR.sz hb.size, fun _ => own_base16 ho2 hR.sz, fun q1 q2 => ⟨(hb.block _ (lt_16 (hR.l q1 q2).1)).trans (hR.l q1 q2).1, (hR.l q1 q2).2⟩, fun q => (by rw [hst] at q; cases q), fun _ => rfl, hR.p2, fun _ => rfl, fun _ => rfl⟩) _ (by simp only [valO, Option.bind_some]; simp only [putAll, Act.put, List.setIfInBounds_toArray, List.set_cons_zero, List.set_cons_succ]; rfl)
    | 9, ho, hun, hdep, hK, hfl, _ =>
      obtain rfl := Option.some.inj ho
      have d8 : lp.getD 8 false = true := hdep { on := 8, ground := .data } (by simp) rfl
      have e22 : a'.tmps[22]? = some (.tuple #[.agg #[.int .i64 o, .int .i64 N, g.1], .int .i64 Z, .int .i64 E]) := (hS.don 8 _ 22 rfl d8 rfl).trans (by simp only [putAll, Act.put, List.setIfInBounds_toArray, List.set_cons_zero, List.set_cons_succ]; rfl)
      have hK' := hK g w' (fun _ _ _ _ _ _ => rfl) (by rw [hfl 8 (by decide), hfl 10 (by decide), hfl 13 (by decide), hfl 14 (by decide), getD_set_same (by rw [hsz]; decide)]; exact ⟨hR.e, hR.sz, hR.d, hR.l, hR.s, hR.p1, hR.p2, fun _ => d8, hR.p4⟩) (.tuple #[.agg #[.int .i64 o, .int .i64 N, g.1], .int .i64 Z, .int .i64 E]) (by simp only [valO, Option.bind_some]; (try simp only [putAll, Act.put, List.setIfInBounds_toArray, List.set_cons_zero, List.set_cons_succ]); (try rfl))
      clear hS hdep hR
      refine gh_quiet14 (v := .tuple #[.agg #[.int .i64 o, .int .i64 N, g.1], .int .i64 Z, .int .i64 E]) ?_ ?_
      · (simp only [execOp, Act.eval, e22]; go_simp; first | done | (simp; done) | (simp [*]; done) | omega | (rw [IntKind.wrap_i64]; omega))
      · exact hK'
    | 10, ho, hun, hdep, hK, hfl, _ =>
      obtain rfl := Option.some.inj ho
      have d9 : lp.getD 9 false = true := hdep { on := 9, ground := .data } (by simp) rfl
      have e13 : a'.tmps[13]? = some (.tuple #[.agg #[.int .i64 o, .int .i64 N, g.1], .int .i64 Z, .int .i64 E]) := (hS.don 9 _ 13 rfl d9 rfl).trans (by simp only [putAll, Act.put, List.setIfInBounds_toArray, List.set_cons_zero, List.set_cons_succ]; rfl)
      have hK' := hK g w' (fun _ _ _ _ _ _ => rfl) (by rw [hfl 8 (by decide), hfl 9 (by decide), hfl 13 (by decide), hfl 14 (by decide), getD_set_same (by rw [hsz]; decide)]; exact ⟨hR.e, hR.sz, hR.d, hR.l, hR.s, hR.p1, hR.p2, hR.p3, fun _ => hR.p3 d9⟩) (.agg #[.int .i64 o, .int .i64 N, g.1]) (by simp only [valO, Option.bind_some]; (try simp only [putAll, Act.put, List.setIfInBounds_toArray, List.set_cons_zero, List.set_cons_succ]); (try rfl))
      clear hS hdep hR
      refine gh_quiet14 (v := .agg #[.int .i64 o, .int .i64 N, g.1]) ?_ ?_
      · (simp only [execOp, Act.eval, e13]; go_simp; first | done | (simp; done) | (simp [*]; done) | omega | (rw [IntKind.wrap_i64]; omega))
      · exact hK'
    | 11, ho, hun, hdep, hK, hfl, _ =>
      obtain rfl := Option.some.inj ho
      have d9 : lp.getD 9 false = true := hdep { on := 9, ground := .data } (by simp) rfl
      have e13 : a'.tmps[13]? = some (.tuple #[.agg #[.int .i64 o, .int .i64 N, g.1], .int .i64 Z, .int .i64 E]) := (hS.don 9 _ 13 rfl d9 rfl).trans (by simp only [putAll, Act.put, List.setIfInBounds_toArray, List.set_cons_zero, List.set_cons_succ]; rfl)
      have hK' := hK g w' (fun _ _ _ _ _ _ => rfl) (by rw [hfl 8 (by decide), hfl 9 (by decide), hfl 10 (by decide), hfl 13 (by decide), hfl 14 (by decide)]; exact hR) (.int .i64 Z) (by simp only [valO, Option.bind_some]; (try simp only [putAll, Act.put, List.setIfInBounds_toArray, List.set_cons_zero, List.set_cons_succ]); (try rfl))
      clear hS hdep hR
      refine gh_quiet14 (v := .int .i64 Z) ?_ ?_
      · (simp only [execOp, Act.eval, e13]; go_simp; first | done | (simp; done) | (simp [*]; done) | omega | (rw [IntKind.wrap_i64]; omega))
      · exact hK'
    | 12, ho, hun, hdep, hK, hfl, _ =>
      obtain rfl := Option.some.inj ho
      have d9 : lp.getD 9 false = true := hdep { on := 9, ground := .data } (by simp) rfl
      have e13 : a'.tmps[13]? = some (.tuple #[.agg #[.int .i64 o, .int .i64 N, g.1], .int .i64 Z, .int .i64 E]) := (hS.don 9 _ 13 rfl d9 rfl).trans (by simp only [putAll, Act.put, List.setIfInBounds_toArray, List.set_cons_zero, List.set_cons_succ]; rfl)
      have hK' := hK g w' (fun _ _ _ _ _ _ => rfl) (by rw [hfl 8 (by decide), hfl 9 (by decide), hfl 10 (by decide), hfl 13 (by decide), hfl 14 (by decide)]; exact hR) (.int .i64 E) (by simp only [valO, Option.bind_some]; (try simp only [putAll, Act.put, List.setIfInBounds_toArray, List.set_cons_zero, List.set_cons_succ]); (try rfl))
      clear hS hdep hR
      refine gh_quiet14 (v := .int .i64 E) ?_ ?_
      · (simp only [execOp, Act.eval, e13]; go_simp; first | done | (simp; done) | (simp [*]; done) | omega | (rw [IntKind.wrap_i64]; omega))
      · exact hK'
    | 13, ho, hun, hdep, hK, hfl, _ =>
      obtain rfl := Option.some.inj ho
      have hst : lp.getD 14 false = false := by
        cases h : lp.getD 14 false with
        | false => rfl
        | true => have := hR.p2 h; rw [hun] at this; cases this
      have q := bl1 w' (.cells #[.int .i64 0, .int .i64 0, .slice none 0 0] 75)
      have hK' := hK (g.1, w'.heap.size) (w'.alloc (.cells #[.int .i64 0, .int .i64 0, .slice none 0 0] 75)) (fun k' ok s hk hl hd => gh_same14 (d := 3) (s := s) (by simp only [putAll, Act.put, List.setIfInBounds_toArray, List.set_cons_zero, List.set_cons_succ]; rfl) (by rintro rfl; have := dstG_of (by kernel_rfl) k' 13 ok _ 3 hk rfl hd rfl; subst this; rw [hun] at hl; cases hl)) (by rw [hfl 8 (by decide), hfl 9 (by decide), hfl 10 (by decide), hfl 14 (by decide), getD_set_same (by rw [hsz]; decide)]; exact ⟨hR.e.below HB.out q, Nat.le_trans hR.sz q.size, fun h1 => own_b13 q (hR.d h1), fun _ _ => ⟨new_16 _ _, hR.sz⟩, fun h1 => (by rw [hst] at h1; cases h1), hR.p1, fun _ => rfl, hR.p3, hR.p4⟩) (.pointer (some ⟨w'.heap.size, 0, none⟩)) (by simp only [valO, Option.bind_some]; simp only [putAll, Act.put, List.setIfInBounds_toArray, List.set_cons_zero, List.set_cons_succ]; rfl)
      clear hS hdep hR hK q
      unfold Oper.wp
      simp only [execOp, Act.eval, Array.getD_eq_getD_getElem?]
      simp [go_sem, Oper.upon]
      exact hK'
    | 14, ho, hun, hdep, hK, hfl, _ =>
      obtain rfl := Option.some.inj ho
      have d13 : lp.getD 13 false = true := hdep { on := 13, ground := .data } (by simp) rfl
      have e3 : a'.tmps[3]? = some (.pointer (some ⟨g.2, 0, none⟩)) := (hS.don 13 _ 3 rfl d13 rfl).trans (by simp only [putAll, Act.put, List.setIfInBounds_toArray, List.set_cons_zero, List.set_cons_succ]; rfl)
      have d10 : lp.getD 10 false = true := hdep { on := 10, ground := .data } (by simp) rfl
      have e23 : a'.tmps[23]? = some (.agg #[.int .i64 o, .int .i64 N, g.1]) := (hS.don 10 _ 23 rfl d10 rfl).trans (by simp only [putAll, Act.put, List.setIfInBounds_toArray, List.set_cons_zero, List.set_cons_succ]; rfl)
      have hcl := hR.p4 d10
      obtain ⟨l1, l2⟩ := hR.l d13 hun
      have k0 := at_16 l1 0 _ rfl
      have k1 := at_16 l1 1 _ rfl
      have k2 := at_16 l1 2 _ rfl
      have f0 := fr_16 (j := 0) l1
      have f1 := fr_16 (j := 1) l1
      have f2 := fr_16 (j := 2) l1
      obtain ⟨sa, sc, hsv⟩ := own_form (hR.d hcl)
      have hnb : g.1.ownBlock ≠ some g.2 := own_not18 (hR.d hcl) l1 (by decide)
      have hMB : B ≠ g.2 := by have h1 := HB.out; omega
      have hK' := hK g (((w'.setCell ⟨g.2, 0, none⟩ (.int .i64 o)).setCell ⟨g.2, 1, none⟩ (.int .i64 N)).setCell ⟨g.2, 2, none⟩ g.1) (fun _ _ _ _ _ _ => rfl) (by rw [hfl 8 (by decide), hfl 9 (by decide), hfl 10 (by decide), hfl 13 (by decide), getD_set_same (by rw [hsz]; decide)]; exact ⟨⟨((hR.e.1.far hMB _).far hMB _).far hMB _, ((hR.e.2.setN HB.out l2 _).setN HB.out l2 _).setN HB.out l2 _⟩, by simpa using hR.sz, fun _ => own_put3 (hR.d hcl) hnb _ _ _, fun _ q => (by cases q), fun _ => ⟨by rw [set_16 (set_16 (set_16 l1 _) _) _]; rfl, l2⟩, fun _ => hcl, fun _ => d13, hR.p3, hR.p4⟩) undef rfl
      rw [hsv] at hK' e23
      clear hS hdep hR hK l1 l2 hnb
      unfold Oper.wp
      simp only [execOp, Act.eval, Array.getD_eq_getD_getElem?]
      simp [go_sem, e3, e23, k0, k1, k2, f0, f1, f2, Oper.upon]
      exact hK'
    | 15, ho, hun, hdep, hK, hfl, _ =>
      obtain rfl := Option.some.inj ho
      have d11 : lp.getD 11 false = true := hdep { on := 11, ground := .data } (by simp) rfl
      have e24 : a'.tmps[24]? = some (.int .i64 Z) := (hS.don 11 _ 24 rfl d11 rfl).trans (by simp only [putAll, Act.put, List.setIfInBounds_toArray, List.set_cons_zero, List.set_cons_succ]; rfl)
      have hK' := hK g w' (fun _ _ _ _ _ _ => rfl) (by rw [hfl 8 (by decide), hfl 9 (by decide), hfl 10 (by decide), hfl 13 (by decide), hfl 14 (by decide)]; exact hR) (.int .i64 Z) (by simp only [valO, Option.bind_some]; (try simp only [putAll, Act.put, List.setIfInBounds_toArray, List.set_cons_zero, List.set_cons_succ]); (try rfl))
      clear hS hdep hR
      refine gh_quiet14 (v := .int .i64 Z) ?_ ?_
      · (simp only [execOp, Act.eval, e24]; go_simp; first | done | (simp; done) | (simp [*]; done) | omega | (rw [IntKind.wrap_i64]; omega))
      · exact hK'
    | 16, ho, hun, hdep, hK, hfl, _ =>
      obtain rfl := Option.some.inj ho
      have d12 : lp.getD 12 false = true := hdep { on := 12, ground := .data } (by simp) rfl
      have e25 : a'.tmps[25]? = some (.int .i64 E) := (hS.don 12 _ 25 rfl d12 rfl).trans (by simp only [putAll, Act.put, List.setIfInBounds_toArray, List.set_cons_zero, List.set_cons_succ]; rfl)
      have hK' := hK g w' (fun _ _ _ _ _ _ => rfl) (by rw [hfl 8 (by decide), hfl 9 (by decide), hfl 10 (by decide), hfl 13 (by decide), hfl 14 (by decide)]; exact hR) (.int .i64 E) (by simp only [valO, Option.bind_some]; (try simp only [putAll, Act.put, List.setIfInBounds_toArray, List.set_cons_zero, List.set_cons_succ]); (try rfl))
      clear hS hdep hR
      refine gh_quiet14 (v := .int .i64 E) ?_ ?_
      · (simp only [execOp, Act.eval, e25]; go_simp; first | done | (simp; done) | (simp [*]; done) | omega | (rw [IntKind.wrap_i64]; omega))
      · exact hK'
    | n + 17, ho, hun, hdep, hK, hfl, hq => exact absurd hq (by omega)
  case fin3 =>
    intro gg W2 hR
    obtain ⟨s1, s2⟩ := hR.s (by simp)
    have s3 := hR.d (by simp)
    simp only [putAll, Act.put, List.setIfInBounds_toArray, List.set_cons_zero, List.set_cons_succ]
    obtain ⟨v2, G⟩ := gg
    dsimp only at s1 s2 s3 ⊢
    have HGB : Hid (G ≠ B) := by have h1 := HB.out; show _ ≠ _; omega
    have HD2 : Hid (DRI w B F vc x y (rqO m) G o N v2 W2) := ⟨hR.e, s1⟩
    have HV2 : Hid (RwX cU W2 v2 U) := own_rwx s3
    have i0 : W2.cell? ⟨G, 0, none⟩ = some (.int .i64 o) := at_16 s1 0 _ rfl
    clear hR s1 s2 s3 HR0 HDc HC
    by_cases hE0 : E = 0
    · have hE1 : dcE l m.pl = 0 := by rw [← HEq.out.1]; exact hE0
      have HS2 := hid13 (HSt.out.2 hE1)
      have HOp : Hid (o = 1 ∨ o = 2 ∨ o = 3 ∨ o = 4) := by have := HS2.out.1.op; rw [← HEq.out.2.1] at this; exact this
      have hbt := HOK.out.b0
      have hN0 : 0 ≤ N := by have := HS2.out.1.n0; rw [HEq.out.2.2.1]; exact this
      have hN1 : N ≤ 16777215 := by have := HS2.out.1.n1; rw [HEq.out.2.2.1]; exact this
      have HfF : Hid ((F = 32 ∨ F = 128) ∧ m.bt ≤ F) := by
        have hen : m.en = false := HEn.out
        exact ⟨HOK.out.f hen, HOK.out.b1 hen⟩
      have mbn : IntKind.i64.wrap (m.bt + N) = m.bt + N := by rw [IntKind.wrap_i64]; have := HfF.out; omega
      have mpn : IntKind.i64.wrap (m.pl + N) = m.pl + N := by rw [IntKind.wrap_i64]; have := HOK.out.p0; have := HOK.out.p1; have := HZ.out.2; omega
      subst hE0
      rcases HOp.out with rfl | rfl | rfl | rfl
      · by_cases hq : F < m.bt + N
        · have hdo : doE F m (dcI l m.pl) = 27 := by
            unfold doE; rw [if_pos HEq.out.2.1.symm, ← HEq.out.2.2.1]; unfold exE; rw [if_pos (by omega)]
          have HN2 := hid13 (HS2.out.2.1 (by rw [hdo]; decide))
          rw [hdo] at HN2
          have K3 := fun X hX => rfail19 B F vc x y (rqO m) 27 X hX
          have k5 : W2.cell? ⟨B, 5, none⟩ = some (.int .i64 m.bt) := HD2.out.1.1.c5
          have k0 := HD2.out.1.1.c0
          have i1 := at_16 HD2.out.2 1 _ rfl
          clear hdo hE1 HSt HRk HS2
          go_wp2_with fail
          go_quiet (fail)
          have HD3 := hid13 (HD2.out.below HB.out (below_drewN (Below.refl _ _) nq))
          go_wp2_with fail
          refine (K3 _ HD3.out.1.1).mono ?_
          rintro e W4 ⟨rfl, h1, h2⟩
          have HF : Hid (RV W4 B F vc x y (rqO mN) ∧ KM B w W4) := ⟨by rw [HN2.out]; exact h1, HD3.out.1.2.trans h2⟩
          clear K3 h1 h2 HD2 HD3 k5 k0 i1 i0
          go_wp2
          refine bodyPost_ret (v := .bool false) (by simp [results, Try.results38, go_sem]) rfl ?_
          refine ⟨by rw [show mN.st = m.st from by rw [HN2.out], HsE.out], ?_⟩
          exact ⟨y, _, HF.out.1, fun q => (by rw [HN2.out] at q; cases q), HF.out.2⟩
        · have hq' : m.bt + N ≤ F := by omega
          obtain ⟨z, hz⟩ : ∃ z, z = readW x m.bt N := ⟨_, rfl⟩
          have hdo : doE F m (dcI l m.pl) = 0 := by
            unfold doE; rw [if_pos HEq.out.2.1.symm, ← HEq.out.2.2.1]; unfold exE; rw [if_neg (by omega)]
          have HN2 : Hid (lI z = fdN x m.bt N ∧ mN = { m with ex := m.ex + 1, bt := m.bt + N, pl := m.pl + 1, hb := N, hn := fdN x m.bt N, st := m.st + 1 }) := by
            have hd := HS2.out.2.2 hdo
            rcases hd with ⟨n', o', hn', -, -, -, e'⟩ | ⟨_, _, o', -⟩ | ⟨_, o', -⟩ | ⟨_, o', -⟩
            · have e2 : mN = { m with ex := m.ex + 1, bt := m.bt + N, pl := m.pl + 1, hb := N, hn := fdN x m.bt N, st := m.st + 1 } := by rw [HmN.out, e', HEq.out.2.2.1, hn']
              exact ⟨by rw [hz]; rfl, e2⟩
            all_goals (rw [← HEq.out.2.1] at o'; exact absurd o' (by decide))
          have KF := fun X => rfield_in x m.bt N X (by unfold fitB; have := HfF.out; simp; omega)
          rw [← hz] at KF
          have k5 : W2.cell? ⟨B, 5, none⟩ = some (.int .i64 m.bt) := HD2.out.1.1.c5
          have k0 := HD2.out.1.1.c0
          have i1 := at_16 HD2.out.2 1 _ rfl
          clear hdo hE1 HSt HRk HS2 hz
          go_wp2_with fail
          go_quiet (fail)
          have HD3 := hid13 (HD2.out.below HB.out (below_drewN (Below.refl _ _) nq))
          clear HD2 k5 k0 i1 i0
          go_wp2_with fail
          have HR13 : Hid (RX13 w B F vc x y z (rqO m) G N v2 false _) := ⟨fun _ => HD3.out.1.1.below (Below.refl _ _).drew, fun q => (by cases q), HD3.out.1.2.below HB.out (Below.refl _ _).drew, ((Below.refl _ _).drew.block _ (lt_16 HD3.out.2)).trans HD3.out.2⟩
          refine gh_region (γ := Unit) (qpOk 18 18 (by decide) (fun N => by kernel_rfl) (by kernel_rfl) (by kernel_rfl) (by kernel_rfl) (by kernel_rfl)) (by kernel_rfl) (by kernel_rfl) [some 50, some 51, some 52, some 53, some 54, some 55, some 56, some 57, some 58, some 59, some 60, some 61, some 49, some 62, some 63, some 64, some 65, none] (fun g => [.pointer (some ⟨B, 0, none⟩), .pointer (some ⟨B, 0, none⟩), .pointer (some ⟨B, 0, none⟩), .pointer (some ⟨B, 2, none⟩), .agg #[.int .u64 (hI x), .int .u64 (lI x)], .pointer (some ⟨B, 0, none⟩), .pointer (some ⟨B, 0, none⟩), .pointer (some ⟨B, 5, none⟩), .int .i64 m.bt, .pointer (some ⟨G, 1, none⟩), .int .i64 N, .tuple #[.agg #[.int .u64 (hI z), .int .u64 (lI z)], .int .i64 0], .tuple #[.agg #[.int .u64 (hI z), .int .u64 (lI z)], .int .i64 0], .agg #[.int .u64 (hI z), .int .u64 (lI z)], .int .i64 0, .pointer (some ⟨B, 0, none⟩), .pointer (some ⟨B, 6, none⟩), undef]) (by kernel_rfl) (by simp) (fun lp g X => RX13 w B F vc x y z (rqO m) G N v2 (lp.getD 17 false) X) () HR13.out ?step13 ?fin13
          case step13 =>
            intro q o lp g w' a' ho hsz hun hdep hR hS K Q' hK
            have hfl : ∀ j, j ≠ q → (lp.setIfInBounds q true).getD j false = lp.getD j false := fun j hj => by rw [Array.getD_eq_getD_getElem?, Array.getD_eq_getD_getElem?, Array.getElem?_setIfInBounds_ne (by omega)]
            have hq : q < 18 := (List.getElem?_eq_some_iff.mp ho).1
            match q, ho, hun, hdep, hK, hfl, hq with
            | 0, ho, hun, hdep, hK, hfl, _ =>
              obtain rfl := Option.some.inj ho
              have o0 : a'.tmps[0]? = some (.pointer (some ⟨B, 0, none⟩)) := (hS.old14 0 (by simp)).trans rfl
              have hK' := hK g w' (fun _ _ _ _ _ _ => rfl) (by rw [hfl 17 (by decide)]; exact hR) (.pointer (some ⟨B, 0, none⟩)) (by simp only [valO, Option.bind_some]; (try simp only [putAll, Act.put, List.setIfInBounds_toArray, List.set_cons_zero, List.set_cons_succ]); (try rfl))
              clear hS hdep hR
              refine gh_quiet14 (v := .pointer (some ⟨B, 0, none⟩)) ?_ ?_
              · (simp only [execOp, Act.eval, o0]; go_simp; first | done | (simp; done) | (simp [*]; done) | omega | (rw [IntKind.wrap_i64]; omega))
              · exact hK'
            | 1, ho, hun, hdep, hK, hfl, _ =>
              obtain rfl := Option.some.inj ho
              have o0 : a'.tmps[0]? = some (.pointer (some ⟨B, 0, none⟩)) := (hS.old14 0 (by simp)).trans rfl
              have hK' := hK g w' (fun _ _ _ _ _ _ => rfl) (by rw [hfl 17 (by decide)]; exact hR) (.pointer (some ⟨B, 0, none⟩)) (by simp only [valO, Option.bind_some]; (try simp only [putAll, Act.put, List.setIfInBounds_toArray, List.set_cons_zero, List.set_cons_succ]); (try rfl))
              clear hS hdep hR
              refine gh_quiet14 (v := .pointer (some ⟨B, 0, none⟩)) ?_ ?_
              · (simp only [execOp, Act.eval, o0]; go_simp; first | done | (simp; done) | (simp [*]; done) | omega | (rw [IntKind.wrap_i64]; omega))
              · exact hK'
            | 2, ho, hun, hdep, hK, hfl, _ =>
              obtain rfl := Option.some.inj ho
              have d1 : lp.getD 1 false = true := hdep { on := 1, ground := .data } (by simp) rfl
              have e51 : a'.tmps[51]? = some (.pointer (some ⟨B, 0, none⟩)) := (hS.don 1 _ 51 rfl d1 rfl).trans (by simp only [putAll, Act.put, List.setIfInBounds_toArray, List.set_cons_zero, List.set_cons_succ]; rfl)
              have hK' := hK g w' (fun _ _ _ _ _ _ => rfl) (by rw [hfl 17 (by decide)]; exact hR) (.pointer (some ⟨B, 0, none⟩)) (by simp only [valO, Option.bind_some]; (try simp only [putAll, Act.put, List.setIfInBounds_toArray, List.set_cons_zero, List.set_cons_succ]); (try rfl))
              clear hS hdep hR
              refine gh_quiet14 (v := .pointer (some ⟨B, 0, none⟩)) ?_ ?_
              · (simp only [execOp, Act.eval, e51]; go_simp; first | done | (simp; done) | (simp [*]; done) | omega | (rw [IntKind.wrap_i64]; omega))
              · exact hK'
            | 3, ho, hun, hdep, hK, hfl, _ =>
              obtain rfl := Option.some.inj ho
              have d2 : lp.getD 2 false = true := hdep { on := 2, ground := .data } (by simp) rfl
              have e52 : a'.tmps[52]? = some (.pointer (some ⟨B, 0, none⟩)) := (hS.don 2 _ 52 rfl d2 rfl).trans (by simp only [putAll, Act.put, List.setIfInBounds_toArray, List.set_cons_zero, List.set_cons_succ]; rfl)
              have hK' := hK g w' (fun _ _ _ _ _ _ => rfl) (by rw [hfl 17 (by decide)]; exact hR) (.pointer (some ⟨B, 2, none⟩)) (by simp only [valO, Option.bind_some]; (try simp only [putAll, Act.put, List.setIfInBounds_toArray, List.set_cons_zero, List.set_cons_succ]); (try rfl))
              clear hS hdep hR
              refine gh_quiet14 (v := .pointer (some ⟨B, 2, none⟩)) ?_ ?_
              · (simp only [execOp, Act.eval, e52]; go_simp; first | done | (simp; done) | (simp [*]; done) | omega | (rw [IntKind.wrap_i64]; omega))
              · exact hK'
            | 4, ho, hun, hdep, hK, hfl, _ =>
              obtain rfl := Option.some.inj ho
              have d3 : lp.getD 3 false = true := hdep { on := 3, ground := .data } (by simp) rfl
              have e53 : a'.tmps[53]? = some (.pointer (some ⟨B, 2, none⟩)) := (hS.don 3 _ 53 rfl d3 rfl).trans (by simp only [putAll, Act.put, List.setIfInBounds_toArray, List.set_cons_zero, List.set_cons_succ]; rfl)
              obtain ⟨yy, hyy⟩ := hR.rd
              have k2 := hyy.c2
              have k3 := hyy.c3
              have k5 : w'.cell? ⟨B, 5, none⟩ = some (.int .i64 m.bt) := hyy.c5
              have i1 := at_16 hR.i 1 _ rfl
              have hK' := hK g w' (fun _ _ _ _ _ _ => rfl) (by rw [hfl 17 (by decide)]; exact hR) (.agg #[.int .u64 (hI x), .int .u64 (lI x)]) (by simp only [valO, Option.bind_some]; (try simp only [putAll, Act.put, List.setIfInBounds_toArray, List.set_cons_zero, List.set_cons_succ]); (try rfl))
              clear hS hdep hR
              refine gh_quiet14 (v := .agg #[.int .u64 (hI x), .int .u64 (lI x)]) ?_ ?_
              · (simp only [execOp, Act.eval, e53]; go_simp; first | done | (simp; done) | (simp [*]; done) | omega | (rw [IntKind.wrap_i64]; omega))
              · exact hK'
            | 5, ho, hun, hdep, hK, hfl, _ =>
              obtain rfl := Option.some.inj ho
              have o0 : a'.tmps[0]? = some (.pointer (some ⟨B, 0, none⟩)) := (hS.old14 0 (by simp)).trans rfl
              have hK' := hK g w' (fun _ _ _ _ _ _ => rfl) (by rw [hfl 17 (by decide)]; exact hR) (.pointer (some ⟨B, 0, none⟩)) (by simp only [valO, Option.bind_some]; (try simp only [putAll, Act.put, List.setIfInBounds_toArray, List.set_cons_zero, List.set_cons_succ]); (try rfl))
              clear hS hdep hR
              refine gh_quiet14 (v := .pointer (some ⟨B, 0, none⟩)) ?_ ?_
              · (simp only [execOp, Act.eval, o0]; go_simp; first | done | (simp; done) | (simp [*]; done) | omega | (rw [IntKind.wrap_i64]; omega))
              · exact hK'
            | 6, ho, hun, hdep, hK, hfl, _ =>
              obtain rfl := Option.some.inj ho
              have d5 : lp.getD 5 false = true := hdep { on := 5, ground := .data } (by simp) rfl
              have e55 : a'.tmps[55]? = some (.pointer (some ⟨B, 0, none⟩)) := (hS.don 5 _ 55 rfl d5 rfl).trans (by simp only [putAll, Act.put, List.setIfInBounds_toArray, List.set_cons_zero, List.set_cons_succ]; rfl)
              have hK' := hK g w' (fun _ _ _ _ _ _ => rfl) (by rw [hfl 17 (by decide)]; exact hR) (.pointer (some ⟨B, 0, none⟩)) (by simp only [valO, Option.bind_some]; (try simp only [putAll, Act.put, List.setIfInBounds_toArray, List.set_cons_zero, List.set_cons_succ]); (try rfl))
              clear hS hdep hR
              refine gh_quiet14 (v := .pointer (some ⟨B, 0, none⟩)) ?_ ?_
              · (simp only [execOp, Act.eval, e55]; go_simp; first | done | (simp; done) | (simp [*]; done) | omega | (rw [IntKind.wrap_i64]; omega))
              · exact hK'
            | 7, ho, hun, hdep, hK, hfl, _ =>
              obtain rfl := Option.some.inj ho
              have d6 : lp.getD 6 false = true := hdep { on := 6, ground := .data } (by simp) rfl
              have e56 : a'.tmps[56]? = some (.pointer (some ⟨B, 0, none⟩)) := (hS.don 6 _ 56 rfl d6 rfl).trans (by simp only [putAll, Act.put, List.setIfInBounds_toArray, List.set_cons_zero, List.set_cons_succ]; rfl)
              have hK' := hK g w' (fun _ _ _ _ _ _ => rfl) (by rw [hfl 17 (by decide)]; exact hR) (.pointer (some ⟨B, 5, none⟩)) (by simp only [valO, Option.bind_some]; (try simp only [putAll, Act.put, List.setIfInBounds_toArray, List.set_cons_zero, List.set_cons_succ]); (try rfl))
              clear hS hdep hR
              refine gh_quiet14 (v := .pointer (some ⟨B, 5, none⟩)) ?_ ?_
              · (simp only [execOp, Act.eval, e56]; go_simp; first | done | (simp; done) | (simp [*]; done) | omega | (rw [IntKind.wrap_i64]; omega))
              · exact hK'
            | 8, ho, hun, hdep, hK, hfl, _ =>
              obtain rfl := Option.some.inj ho
              have d7 : lp.getD 7 false = true := hdep { on := 7, ground := .data } (by simp) rfl
              have e57 : a'.tmps[57]? = some (.pointer (some ⟨B, 5, none⟩)) := (hS.don 7 _ 57 rfl d7 rfl).trans (by simp only [putAll, Act.put, List.setIfInBounds_toArray, List.set_cons_zero, List.set_cons_succ]; rfl)
              obtain ⟨yy, hyy⟩ := hR.rd
              have k2 := hyy.c2
              have k3 := hyy.c3
              have k5 : w'.cell? ⟨B, 5, none⟩ = some (.int .i64 m.bt) := hyy.c5
              have i1 := at_16 hR.i 1 _ rfl
              have hK' := hK g w' (fun _ _ _ _ _ _ => rfl) (by rw [hfl 17 (by decide)]; exact hR) (.int .i64 m.bt) (by simp only [valO, Option.bind_some]; (try simp only [putAll, Act.put, List.setIfInBounds_toArray, List.set_cons_zero, List.set_cons_succ]); (try rfl))
              clear hS hdep hR
              refine gh_quiet14 (v := .int .i64 m.bt) ?_ ?_
              · (simp only [execOp, Act.eval, e57]; go_simp; first | done | (simp; done) | (simp [*]; done) | omega | (rw [IntKind.wrap_i64]; omega))
              · exact hK'
            | 9, ho, hun, hdep, hK, hfl, _ =>
              obtain rfl := Option.some.inj ho
              have o3 : a'.tmps[3]? = some (.pointer (some ⟨G, 0, none⟩)) := (hS.old14 3 (by simp)).trans rfl
              have hK' := hK g w' (fun _ _ _ _ _ _ => rfl) (by rw [hfl 17 (by decide)]; exact hR) (.pointer (some ⟨G, 1, none⟩)) (by simp only [valO, Option.bind_some]; (try simp only [putAll, Act.put, List.setIfInBounds_toArray, List.set_cons_zero, List.set_cons_succ]); (try rfl))
              clear hS hdep hR
              refine gh_quiet14 (v := .pointer (some ⟨G, 1, none⟩)) ?_ ?_
              · (simp only [execOp, Act.eval, o3]; go_simp; first | done | (simp; done) | (simp [*]; done) | omega | (rw [IntKind.wrap_i64]; omega))
              · exact hK'
            | 10, ho, hun, hdep, hK, hfl, _ =>
              obtain rfl := Option.some.inj ho
              have d9 : lp.getD 9 false = true := hdep { on := 9, ground := .data } (by simp) rfl
              have e59 : a'.tmps[59]? = some (.pointer (some ⟨G, 1, none⟩)) := (hS.don 9 _ 59 rfl d9 rfl).trans (by simp only [putAll, Act.put, List.setIfInBounds_toArray, List.set_cons_zero, List.set_cons_succ]; rfl)
              obtain ⟨yy, hyy⟩ := hR.rd
              have k2 := hyy.c2
              have k3 := hyy.c3
              have k5 : w'.cell? ⟨B, 5, none⟩ = some (.int .i64 m.bt) := hyy.c5
              have i1 := at_16 hR.i 1 _ rfl
              have hK' := hK g w' (fun _ _ _ _ _ _ => rfl) (by rw [hfl 17 (by decide)]; exact hR) (.int .i64 N) (by simp only [valO, Option.bind_some]; (try simp only [putAll, Act.put, List.setIfInBounds_toArray, List.set_cons_zero, List.set_cons_succ]); (try rfl))
              clear hS hdep hR
              refine gh_quiet14 (v := .int .i64 N) ?_ ?_
              · (simp only [execOp, Act.eval, e59]; go_simp; first | done | (simp; done) | (simp [*]; done) | omega | (rw [IntKind.wrap_i64]; omega))
              · exact hK'
            | 11, ho, hun, hdep, hK, hfl, _ =>
              obtain rfl := Option.some.inj ho
              have d4 : lp.getD 4 false = true := hdep { on := 4, ground := .data } (by simp) rfl
              have e54 : a'.tmps[54]? = some (.agg #[.int .u64 (hI x), .int .u64 (lI x)]) := (hS.don 4 _ 54 rfl d4 rfl).trans (by simp only [putAll, Act.put, List.setIfInBounds_toArray, List.set_cons_zero, List.set_cons_succ]; rfl)
              have d8 : lp.getD 8 false = true := hdep { on := 8, ground := .data } (by simp) rfl
              have e58 : a'.tmps[58]? = some (.int .i64 m.bt) := (hS.don 8 _ 58 rfl d8 rfl).trans (by simp only [putAll, Act.put, List.setIfInBounds_toArray, List.set_cons_zero, List.set_cons_succ]; rfl)
              have d10 : lp.getD 10 false = true := hdep { on := 10, ground := .data } (by simp) rfl
              have e60 : a'.tmps[60]? = some (.int .i64 N) := (hS.don 10 _ 60 rfl d10 rfl).trans (by simp only [putAll, Act.put, List.setIfInBounds_toArray, List.set_cons_zero, List.set_cons_succ]; rfl)
              have KC := KF w'
              clear hdep
              unfold Oper.wp
              simp only [execOp, Act.eval, Array.getD_eq_getD_getElem?]
              simp [go_sem, e54, e58, e60, Oper.upon]
              refine KC.mono ?_
              rintro e W2 ⟨rfl, hb⟩
              exact hK g W2 (fun _ _ _ _ _ _ => rfl) (by rw [hfl 17 (by decide)]; exact ⟨fun q => (hR.e0 q).below hb, fun q => (hR.e1 q).below hb, hR.k.below HB.out hb, (hb.block _ (lt_16 hR.i)).trans hR.i⟩) _ (by simp only [valO, Option.bind_some]; simp only [putAll, Act.put, List.setIfInBounds_toArray, List.set_cons_zero, List.set_cons_succ]; rfl)
            | 12, ho, hun, hdep, hK, hfl, _ =>
              obtain rfl := Option.some.inj ho
              have d11 : lp.getD 11 false = true := hdep { on := 11, ground := .data } (by simp) rfl
              have e61 : a'.tmps[61]? = some (.tuple #[.agg #[.int .u64 (hI z), .int .u64 (lI z)], .int .i64 0]) := (hS.don 11 _ 61 rfl d11 rfl).trans (by simp only [putAll, Act.put, List.setIfInBounds_toArray, List.set_cons_zero, List.set_cons_succ]; rfl)
              have hK' := hK g w' (fun _ _ _ _ _ _ => rfl) (by rw [hfl 17 (by decide)]; exact hR) (.tuple #[.agg #[.int .u64 (hI z), .int .u64 (lI z)], .int .i64 0]) (by simp only [valO, Option.bind_some]; (try simp only [putAll, Act.put, List.setIfInBounds_toArray, List.set_cons_zero, List.set_cons_succ]); (try rfl))
              clear hS hdep hR
              refine gh_quiet14 (v := .tuple #[.agg #[.int .u64 (hI z), .int .u64 (lI z)], .int .i64 0]) ?_ ?_
              · (simp only [execOp, Act.eval, e61]; go_simp; first | done | (simp; done) | (simp [*]; done) | omega | (rw [IntKind.wrap_i64]; omega))
              · exact hK'
            | 13, ho, hun, hdep, hK, hfl, _ =>
              obtain rfl := Option.some.inj ho
              have d12 : lp.getD 12 false = true := hdep { on := 12, ground := .data } (by simp) rfl
              have e49 : a'.tmps[49]? = some (.tuple #[.agg #[.int .u64 (hI z), .int .u64 (lI z)], .int .i64 0]) := (hS.don 12 _ 49 rfl d12 rfl).trans (by simp only [putAll, Act.put, List.setIfInBounds_toArray, List.set_cons_zero, List.set_cons_succ]; rfl)
              have hK' := hK g w' (fun _ _ _ _ _ _ => rfl) (by rw [hfl 17 (by decide)]; exact hR) (.agg #[.int .u64 (hI z), .int .u64 (lI z)]) (by simp only [valO, Option.bind_some]; (try simp only [putAll, Act.put, List.setIfInBounds_toArray, List.set_cons_zero, List.set_cons_succ]); (try rfl))
              clear hS hdep hR
              refine gh_quiet14 (v := .agg #[.int .u64 (hI z), .int .u64 (lI z)]) ?_ ?_
              · (simp only [execOp, Act.eval, e49]; go_simp; first | done | (simp; done) | (simp [*]; done) | omega | (rw [IntKind.wrap_i64]; omega))
              · exact hK'
            | 14, ho, hun, hdep, hK, hfl, _ =>
              obtain rfl := Option.some.inj ho
              have d12 : lp.getD 12 false = true := hdep { on := 12, ground := .data } (by simp) rfl
              have e49 : a'.tmps[49]? = some (.tuple #[.agg #[.int .u64 (hI z), .int .u64 (lI z)], .int .i64 0]) := (hS.don 12 _ 49 rfl d12 rfl).trans (by simp only [putAll, Act.put, List.setIfInBounds_toArray, List.set_cons_zero, List.set_cons_succ]; rfl)
              have hK' := hK g w' (fun _ _ _ _ _ _ => rfl) (by rw [hfl 17 (by decide)]; exact hR) (.int .i64 0) (by simp only [valO, Option.bind_some]; (try simp only [putAll, Act.put, List.setIfInBounds_toArray, List.set_cons_zero, List.set_cons_succ]); (try rfl))
              clear hS hdep hR
              refine gh_quiet14 (v := .int .i64 0) ?_ ?_
              · (simp only [execOp, Act.eval, e49]; go_simp; first | done | (simp; done) | (simp [*]; done) | omega | (rw [IntKind.wrap_i64]; omega))
              · exact hK'
            | 15, ho, hun, hdep, hK, hfl, _ =>
              obtain rfl := Option.some.inj ho
              have d0 : lp.getD 0 false = true := hdep { on := 0, ground := .data } (by simp) rfl
              have e50 : a'.tmps[50]? = some (.pointer (some ⟨B, 0, none⟩)) := (hS.don 0 _ 50 rfl d0 rfl).trans (by simp only [putAll, Act.put, List.setIfInBounds_toArray, List.set_cons_zero, List.set_cons_succ]; rfl)
              have hK' := hK g w' (fun _ _ _ _ _ _ => rfl) (by rw [hfl 17 (by decide)]; exact hR) (.pointer (some ⟨B, 0, none⟩)) (by simp only [valO, Option.bind_some]; (try simp only [putAll, Act.put, List.setIfInBounds_toArray, List.set_cons_zero, List.set_cons_succ]); (try rfl))
              clear hS hdep hR
              refine gh_quiet14 (v := .pointer (some ⟨B, 0, none⟩)) ?_ ?_
              · (simp only [execOp, Act.eval, e50]; go_simp; first | done | (simp; done) | (simp [*]; done) | omega | (rw [IntKind.wrap_i64]; omega))
              · exact hK'
            | 16, ho, hun, hdep, hK, hfl, _ =>
              obtain rfl := Option.some.inj ho
              have d15 : lp.getD 15 false = true := hdep { on := 15, ground := .data } (by simp) rfl
              have e64 : a'.tmps[64]? = some (.pointer (some ⟨B, 0, none⟩)) := (hS.don 15 _ 64 rfl d15 rfl).trans (by simp only [putAll, Act.put, List.setIfInBounds_toArray, List.set_cons_zero, List.set_cons_succ]; rfl)
              have hK' := hK g w' (fun _ _ _ _ _ _ => rfl) (by rw [hfl 17 (by decide)]; exact hR) (.pointer (some ⟨B, 6, none⟩)) (by simp only [valO, Option.bind_some]; (try simp only [putAll, Act.put, List.setIfInBounds_toArray, List.set_cons_zero, List.set_cons_succ]); (try rfl))
              clear hS hdep hR
              refine gh_quiet14 (v := .pointer (some ⟨B, 6, none⟩)) ?_ ?_
              · (simp only [execOp, Act.eval, e64]; go_simp; first | done | (simp; done) | (simp [*]; done) | omega | (rw [IntKind.wrap_i64]; omega))
              · exact hK'
            | 17, ho, hun, hdep, hK, hfl, _ =>
              obtain rfl := Option.some.inj ho
              have d16 : lp.getD 16 false = true := hdep { on := 16, ground := .data } (by simp) rfl
              have e65 : a'.tmps[65]? = some (.pointer (some ⟨B, 6, none⟩)) := (hS.don 16 _ 65 rfl d16 rfl).trans (by simp only [putAll, Act.put, List.setIfInBounds_toArray, List.set_cons_zero, List.set_cons_succ]; rfl)
              have d13 : lp.getD 13 false = true := hdep { on := 13, ground := .data } (by simp) rfl
              have e62 : a'.tmps[62]? = some (.agg #[.int .u64 (hI z), .int .u64 (lI z)]) := (hS.don 13 _ 62 rfl d13 rfl).trans (by simp only [putAll, Act.put, List.setIfInBounds_toArray, List.set_cons_zero, List.set_cons_succ]; rfl)
              have hv := hR.e0 hun
              have k6 := hv.c6
              have k7 := hv.c7
              have f6 := hv.fr 6
              have f7 := hv.fr 7
              have hK' := hK g ((w'.setCell ⟨B, 6, none⟩ (.int .u64 (hI z))).setCell ⟨B, 7, none⟩ (.int .u64 (lI z))) (fun _ _ _ _ _ _ => rfl) (by rw [getD_set_same (by rw [hsz]; decide)]; exact ⟨fun q => (by cases q), fun _ => hv.sX z, (hR.k.set _).set _, (far_16 HGB.out).trans ((far_16 HGB.out).trans hR.i)⟩) undef rfl
              clear hS hdep hR hK hv
              unfold Oper.wp
              simp only [execOp, Act.eval, Array.getD_eq_getD_getElem?]
              simp [go_sem, e65, e62, k6, k7, f6, f7, Oper.upon]
              exact hK'
            | n + 18, ho, hun, hdep, hK, hfl, hq => exact absurd hq (by omega)
          case fin13 =>
            intro g13 V1 hV1
            have HV : Hid (DRI w B F vc x z (rqO m) G 1 N v2 V1) := ⟨⟨hV1.e1 rfl, hV1.k⟩, hV1.i⟩
            clear hV1
            simp only [putAll, Act.put, List.setIfInBounds_toArray, List.set_cons_zero, List.set_cons_succ]
            go_wp2_with fail
            refine qpw_region 8 (qpOk 8 8 (by decide) (fun N => by kernel_rfl) (by kernel_rfl) (by kernel_rfl) (by kernel_rfl) (by kernel_rfl)) (C := DRI w B F vc x z (rqO m) G 1 N v2) [some 66, some 67, some 68, some 69, some 70, some 71, some 72, some 73] [.pointer (some ⟨B, 0, none⟩), .pointer (some ⟨B, 0, none⟩), .pointer (some ⟨B, 0, none⟩), .pointer (some ⟨B, 5, none⟩), .int .i64 m.bt, .pointer (some ⟨G, 1, none⟩), .int .i64 N, .int .i64 (m.bt + N)] (by kernel_rfl) (HV.out.below HB.out (Below.refl _ _).drew) ?wk14 ?fn14
            case wk14 =>
              dsimp only [List.take]
              refine qw_run (v := .pointer (some ⟨B, 0, none⟩)) (by rfl) ?_ ?_
              · (intro w9 hC; clear hC; go_simp; first | done | (simp; done) | (simp [*]; done) | omega | (simp; omega) | (rw [IntKind.wrap_i64]; omega) | (intro hx; omega) | rfl)
              simp only [Act.put, List.setIfInBounds_toArray, List.set_cons_zero, List.set_cons_succ]
              refine qw_run (v := .pointer (some ⟨B, 0, none⟩)) (by rfl) ?_ ?_
              · (intro w9 hC; clear hC; go_simp; first | done | (simp; done) | (simp [*]; done) | omega | (simp; omega) | (rw [IntKind.wrap_i64]; omega) | (intro hx; omega) | rfl)
              simp only [Act.put, List.setIfInBounds_toArray, List.set_cons_zero, List.set_cons_succ]
              refine qw_run (v := .pointer (some ⟨B, 0, none⟩)) (by rfl) ?_ ?_
              · (intro w9 hC; clear hC; go_simp; first | done | (simp; done) | (simp [*]; done) | omega | (simp; omega) | (rw [IntKind.wrap_i64]; omega) | (intro hx; omega) | rfl)
              simp only [Act.put, List.setIfInBounds_toArray, List.set_cons_zero, List.set_cons_succ]
              refine qw_run (v := .pointer (some ⟨B, 5, none⟩)) (by rfl) ?_ ?_
              · (intro w9 hC; clear hC; go_simp; first | done | (simp; done) | (simp [*]; done) | omega | (simp; omega) | (rw [IntKind.wrap_i64]; omega) | (intro hx; omega) | rfl)
              simp only [Act.put, List.setIfInBounds_toArray, List.set_cons_zero, List.set_cons_succ]
              refine qw_run (v := .int .i64 m.bt) (by rfl) ?_ ?_
              · (intro w9 hC; have k5 : w9.cell? ⟨B, 5, none⟩ = some (.int .i64 m.bt) := hC.1.1.c5; have k4 : w9.cell? ⟨B, 4, none⟩ = some (.int .i64 m.pl) := hC.1.1.c4; have k2 := hC.1.1.c2; have k3 := hC.1.1.c3; have i1 := at_16 hC.2 1 _ rfl; clear hC; go_simp; first | done | (simp; done) | (simp [*]; done) | omega | (simp; omega) | (rw [IntKind.wrap_i64]; omega) | (intro hx; omega) | rfl)
              simp only [Act.put, List.setIfInBounds_toArray, List.set_cons_zero, List.set_cons_succ]
              refine qw_run (v := .pointer (some ⟨G, 1, none⟩)) (by rfl) ?_ ?_
              · (intro w9 hC; clear hC; go_simp; first | done | (simp; done) | (simp [*]; done) | omega | (simp; omega) | (rw [IntKind.wrap_i64]; omega) | (intro hx; omega) | rfl)
              simp only [Act.put, List.setIfInBounds_toArray, List.set_cons_zero, List.set_cons_succ]
              refine qw_run (v := .int .i64 N) (by rfl) ?_ ?_
              · (intro w9 hC; have k5 : w9.cell? ⟨B, 5, none⟩ = some (.int .i64 m.bt) := hC.1.1.c5; have k4 : w9.cell? ⟨B, 4, none⟩ = some (.int .i64 m.pl) := hC.1.1.c4; have k2 := hC.1.1.c2; have k3 := hC.1.1.c3; have i1 := at_16 hC.2 1 _ rfl; clear hC; go_simp; first | done | (simp; done) | (simp [*]; done) | omega | (simp; omega) | (rw [IntKind.wrap_i64]; omega) | (intro hx; omega) | rfl)
              simp only [Act.put, List.setIfInBounds_toArray, List.set_cons_zero, List.set_cons_succ]
              refine qw_run (v := .int .i64 (m.bt + N)) (by rfl) ?_ ?_
              · (intro w9 hC; clear hC; go_simp; first | done | (simp; done) | (simp [*]; done) | omega | (simp; omega) | (rw [IntKind.wrap_i64]; omega) | (intro hx; omega) | rfl)
              simp only [Act.put, List.setIfInBounds_toArray, List.set_cons_zero, List.set_cons_succ]
              refine qw_nil ?_
              first | (simp only [putAll, Act.put, List.setIfInBounds_toArray, List.set_cons_zero, List.set_cons_succ]; done) | (simp only [putAll, Act.put, List.setIfInBounds_toArray, List.set_cons_zero, List.set_cons_succ]; rfl)
            case fn14 =>
              intro X2 hX2
              have HX2 := hid13 hX2
              have k4 : X2.cell? ⟨B, 4, none⟩ = some (.int .i64 m.pl) := hX2.1.1.c4
              have k5 : X2.cell? ⟨B, 5, none⟩ = some (.int .i64 m.bt) := hX2.1.1.c5
              have k8 : X2.cell? ⟨B, 8, none⟩ = some (.int .i64 m.hb) := hX2.1.1.c8
              have k11 : X2.cell? ⟨B, 11, none⟩ = some (.int .i64 m.st) := hX2.1.1.c11
              have k12 : X2.cell? ⟨B, 12, none⟩ = some (.int .i64 m.ex) := hX2.1.1.c12
              have k14 : X2.cell? ⟨B, 14, none⟩ = some (.int .i64 m.bt) := hX2.1.1.c14
              have g4 := hX2.1.1.fr 4
              have g5 := hX2.1.1.fr 5
              have g8 := hX2.1.1.fr 8
              have g11 := hX2.1.1.fr 11
              have g12 := hX2.1.1.fr 12
              have g14 := hX2.1.1.fr 14
              have i1 : X2.cell? ⟨G, 1, none⟩ = some (.int .i64 N) := at_16 hX2.2 1 _ rfl
              have hGB := HGB.out
              have hBG : ¬ B = G := fun q => hGB q.symm
              clear hX2
              simp only [putAll, Act.put, List.setIfInBounds_toArray, List.set_cons_zero, List.set_cons_succ]
              dsimp only [List.drop]
              go_wp2
              refine bodyPost_ret (v := .bool true) (by simp [results, Try.results38, go_sem]) rfl ?_
              refine ⟨by rw [show mN.st = m.st + 1 from by first | rw [HN2.out.2] | rw [HN2.out], HsT.out], ?_⟩
              rw [HN2.out.2]
              exact ⟨z, _, (((((HX2.out.1.1.s5 _).s14 _).s12 _).s4 _).s8 _).s11 _, fun _ => ⟨rfl, fun _ => HN2.out.1⟩, (((((HX2.out.1.2.set _).set _).set _).set _).set _).set _⟩
      · by_cases hq : m.hb = N
        · have hdo : doE F m (dcI l m.pl) = 0 := by
            unfold doE; rw [if_neg (by rw [← HEq.out.2.1]; decide), if_pos HEq.out.2.1.symm]; unfold ixE; rw [if_pos (by rw [← HEq.out.2.2.1]; exact hq)]
            exact HRk.out hE1 HEq.out.2.1.symm (by rw [← HEq.out.2.2.1]; exact hq)
          obtain ⟨R0, hR0⟩ : ∃ R0, R0 = ((rkN U m.hn : Nat) : Int) := ⟨_, rfl⟩
          have hR1 : R0 ≤ m.hn + 1 := by rw [hR0]; exact rkN_le U m.hn HOK.out.n0
          have hR2 : 0 ≤ R0 := by omega
          have hNpos : N ≠ 0 := by
            have := HS2.out.1.nx (by rw [← HEq.out.2.1]; decide) (by rw [← HEq.out.2.1]; decide)
            rw [← HEq.out.2.2.1] at this; omega
          have HYY : Hid (IntKind.i64.wrap (lI y) = m.hn ∧ lI y = m.hn) := by
            have h1 := HY.out (by rw [hq]; exact hNpos)
            refine ⟨?_, h1⟩
            rw [h1, IntKind.wrap_i64]; have := HOK.out.hn24; have := HOK.out.n0; omega
          have HN2 : Hid (mN = { m with ix := m.ix + 1, pl := m.pl + Z + R0 - 1, hb := 0, hn := 0, st := m.st + 1 }) := by
            have hd := HS2.out.2.2 hdo
            rcases hd with ⟨_, o', -⟩ | ⟨z', r', o', -, -, hr', hz', -, -, -, -, e'⟩ | ⟨_, o', -⟩ | ⟨_, o', -⟩
            · rw [← HEq.out.2.1] at o'; exact absurd o' (by decide)
            · show _ = _
              rw [HmN.out, e', HEq.out.2.2.2.2, hR0, HEq.out.2.2.2.1, hr', hz']
            all_goals (rw [← HEq.out.2.1] at o'; exact absurd o' (by decide))
          obtain ⟨uo, uc, hv2, -⟩ := id HV2.out
          subst hv2
          have KRk : ∀ X, RwX cU X (.slice uo U.length uc) U → Calls Try.prog 61 #[.slice uo U.length uc, .int .i64 m.hn] X fun e w' => e = .returned (.tuple #[.int .i64 R0, .int .i64 0]) ∧ Below X.heap.size X w' := by
            intro X hX
            have h9 := HRk.out hE1 HEq.out.2.1.symm (by rw [← HEq.out.2.2.1]; exact hq)
            rw [← HEq.out.2.2.2.1] at h9
            have := rrank13 (.slice uo U.length uc) U m.hn X hX (by rw [HEq.out.2.2.2.1]; have := HUl.out; omega) (by have := HOK.out.n0; omega) (by have := HOK.out.hn24; omega)
            rw [h9, ← hR0] at this
            refine this.mono ?_
            rintro e W9 ⟨rfl, rfl⟩
            exact ⟨rfl, Below.refl _ _⟩
          have ma : IntKind.i64.wrap (m.pl + Z) = m.pl + Z := by rw [IntKind.wrap_i64]; have := HOK.out.p0; have := HOK.out.p1; have := HZ.out; rw [HEq.out.2.2.2.2]; omega
          have mb : IntKind.i64.wrap (m.pl + Z + R0) = m.pl + Z + R0 := by rw [IntKind.wrap_i64]; have := HOK.out.p0; have := HOK.out.p1; have := HZ.out; have := HOK.out.hn24; rw [HEq.out.2.2.2.2]; omega
          have mc : IntKind.i64.wrap (m.pl + Z + R0 - 1) = m.pl + Z + R0 - 1 := by rw [IntKind.wrap_i64]; have := HOK.out.p0; have := HOK.out.p1; have := HZ.out; have := HOK.out.hn24; rw [HEq.out.2.2.2.2]; omega
          have k8 : W2.cell? ⟨B, 8, none⟩ = some (.int .i64 m.hb) := HD2.out.1.1.c8
          have i1 : W2.cell? ⟨G, 1, none⟩ = some (.int .i64 N) := at_16 HD2.out.2 1 _ rfl
          have hq1 : (m.hb != N) = false := by simpa using hq
          clear hdo hE1 HSt HRk HS2 hR0 hq hR1
          go_wp2_with fail
          go_quiet (fail)
          have HD3 := hid13 (HD2.out.below HB.out (below_drewN (Below.refl _ _) nq))
          have HV3 := hid13 (HV2.out.below (below_drewN (Below.refl _ _) nq))
          clear HD2 HV2 k8 i1 i0
          go_wp2_with fail
          refine qw_region (C := (fun X => DRI w B F vc x y (rqO m) G 2 N (.slice uo U.length uc) X ∧ RwX cU X (.slice uo U.length uc) U)) (by kernel_rfl) (by kernel_rfl) ⟨HD3.out.below HB.out (Below.refl _ _).drew, HV3.out.below (Below.refl _ _).drew⟩ ?_
          refine qw_run (v := .pointer (some ⟨G, 2, none⟩)) (by rfl) ?_ ?_
          · (intro w9 hC; clear hC; go_simp; first | done | (simp; done) | (simp [*]; done) | omega | (simp; omega) | (rw [IntKind.wrap_i64]; omega) | (intro hx; omega) | rfl)
          simp only [Act.put, List.setIfInBounds_toArray, List.set_cons_zero, List.set_cons_succ]
          refine qw_run (v := .slice uo U.length uc) (by rfl) ?_ ?_
          · (intro w9 hC; have i2 := at_16 hC.1.2 2 _ rfl; clear hC; go_simp; first | done | (simp; done) | (simp [*]; done) | omega | (simp; omega) | (rw [IntKind.wrap_i64]; omega) | (intro hx; omega) | rfl)
          simp only [Act.put, List.setIfInBounds_toArray, List.set_cons_zero, List.set_cons_succ]
          refine qw_run (v := .pointer (some ⟨B, 0, none⟩)) (by rfl) ?_ ?_
          · (intro w9 hC; clear hC; go_simp; first | done | (simp; done) | (simp [*]; done) | omega | (simp; omega) | (rw [IntKind.wrap_i64]; omega) | (intro hx; omega) | rfl)
          simp only [Act.put, List.setIfInBounds_toArray, List.set_cons_zero, List.set_cons_succ]
          refine qw_run (v := .pointer (some ⟨B, 0, none⟩)) (by rfl) ?_ ?_
          · (intro w9 hC; clear hC; go_simp; first | done | (simp; done) | (simp [*]; done) | omega | (simp; omega) | (rw [IntKind.wrap_i64]; omega) | (intro hx; omega) | rfl)
          simp only [Act.put, List.setIfInBounds_toArray, List.set_cons_zero, List.set_cons_succ]
          refine qw_run (v := .pointer (some ⟨B, 6, none⟩)) (by rfl) ?_ ?_
          · (intro w9 hC; clear hC; go_simp; first | done | (simp; done) | (simp [*]; done) | omega | (simp; omega) | (rw [IntKind.wrap_i64]; omega) | (intro hx; omega) | rfl)
          simp only [Act.put, List.setIfInBounds_toArray, List.set_cons_zero, List.set_cons_succ]
          refine qw_run (v := .pointer (some ⟨B, 7, none⟩)) (by rfl) ?_ ?_
          · (intro w9 hC; clear hC; go_simp; first | done | (simp; done) | (simp [*]; done) | omega | (simp; omega) | (rw [IntKind.wrap_i64]; omega) | (intro hx; omega) | rfl)
          simp only [Act.put, List.setIfInBounds_toArray, List.set_cons_zero, List.set_cons_succ]
          refine qw_run (v := .int .u64 (lI y)) (by rfl) ?_ ?_
          · (intro w9 hC; have k7 := hC.1.1.1.c7; clear hC; go_simp; first | done | (simp; done) | (simp [*]; done) | omega | (simp; omega) | (rw [IntKind.wrap_i64]; omega) | (intro hx; omega) | rfl)
          simp only [Act.put, List.setIfInBounds_toArray, List.set_cons_zero, List.set_cons_succ]
          refine qw_run (v := .int .i64 m.hn) (by rfl) ?_ ?_
          · (intro w9 hC; have hyy := HYY.out.1; clear hC; go_simp; first | done | (simp; done) | (simp [*]; done) | omega | (simp; omega) | (rw [IntKind.wrap_i64]; omega) | (intro hx; omega) | rfl)
          simp only [Act.put, List.setIfInBounds_toArray, List.set_cons_zero, List.set_cons_succ]
          refine qw_call (v := .tuple #[.int .i64 R0, .int .i64 0]) (f := 61) (args := #[.slice uo U.length uc, .int .i64 m.hn]) (by rfl) ?_ ?_ ?_
          · (intro w9 hC; clear hC; go_simp; first | done | (simp; done) | rfl)
          · exact fun w9 hC => (KRk w9 hC.2).mono fun e w' ⟨he, hb⟩ => ⟨he, ⟨hC.1.below HB.out hb, hC.2.below hb⟩⟩
          simp only [Act.put, List.setIfInBounds_toArray, List.set_cons_zero, List.set_cons_succ]
          refine qw_run (v := .tuple #[.int .i64 R0, .int .i64 0]) (by rfl) ?_ ?_
          · (intro w9 hC; clear hC; go_simp; first | done | (simp; done) | (simp [*]; done) | omega | (simp; omega) | (rw [IntKind.wrap_i64]; omega) | (intro hx; omega) | rfl)
          simp only [Act.put, List.setIfInBounds_toArray, List.set_cons_zero, List.set_cons_succ]
          refine qw_run (v := .int .i64 R0) (by rfl) ?_ ?_
          · (intro w9 hC; clear hC; go_simp; first | done | (simp; done) | (simp [*]; done) | omega | (simp; omega) | (rw [IntKind.wrap_i64]; omega) | (intro hx; omega) | rfl)
          simp only [Act.put, List.setIfInBounds_toArray, List.set_cons_zero, List.set_cons_succ]
          refine qw_run (v := .int .i64 0) (by rfl) ?_ ?_
          · (intro w9 hC; clear hC; go_simp; first | done | (simp; done) | (simp [*]; done) | omega | (simp; omega) | (rw [IntKind.wrap_i64]; omega) | (intro hx; omega) | rfl)
          simp only [Act.put, List.setIfInBounds_toArray, List.set_cons_zero, List.set_cons_succ]
          refine qw_run (v := .int .i64 R0) (by rfl) ?_ ?_
          · (intro w9 hC; clear hC; go_simp; first | done | (simp; done) | (simp [*]; done) | omega | (simp; omega) | (rw [IntKind.wrap_i64]; omega) | (intro hx; omega) | rfl)
          simp only [Act.put, List.setIfInBounds_toArray, List.set_cons_zero, List.set_cons_succ]
          refine qw_run (v := .int .i64 0) (by rfl) ?_ ?_
          · (intro w9 hC; clear hC; go_simp; first | done | (simp; done) | (simp [*]; done) | omega | (simp; omega) | (rw [IntKind.wrap_i64]; omega) | (intro hx; omega) | rfl)
          simp only [Act.put, List.setIfInBounds_toArray, List.set_cons_zero, List.set_cons_succ]
          refine qw_nil ?_
          intro X2 hX2
          have HX2 := hid13 hX2.1
          have k4 : X2.cell? ⟨B, 4, none⟩ = some (.int .i64 m.pl) := hX2.1.1.1.c4
          have k8 : X2.cell? ⟨B, 8, none⟩ = some (.int .i64 m.hb) := hX2.1.1.1.c8
          have k11 : X2.cell? ⟨B, 11, none⟩ = some (.int .i64 m.st) := hX2.1.1.1.c11
          have k13 : X2.cell? ⟨B, 13, none⟩ = some (.int .i64 m.ix) := hX2.1.1.1.c13
          have g4 := hX2.1.1.1.fr 4
          have g8 := hX2.1.1.1.fr 8
          have g11 := hX2.1.1.1.fr 11
          have g13 := hX2.1.1.1.fr 13
          clear hX2 HD3 KRk
          go_wp2
          refine bodyPost_ret (v := .bool true) (by simp [results, Try.results38, go_sem]) rfl ?_
          refine ⟨by rw [show mN.st = m.st + 1 from by first | rw [HN2.out.2] | rw [HN2.out], HsT.out], ?_⟩
          rw [HN2.out]
          exact ⟨y, _, (((HX2.out.1.1.s13 _).s4 _).s8 _).s11 _, fun _ => ⟨rfl, fun q => absurd rfl q⟩, (((HX2.out.1.2.set _).set _).set _).set _⟩
        · have hdo : doE F m (dcI l m.pl) = 25 := by
            unfold doE; rw [if_neg (by rw [← HEq.out.2.1]; decide), if_pos HEq.out.2.1.symm]; unfold ixE; rw [if_neg (by rw [← HEq.out.2.2.1]; exact hq)]
          have HN2 := hid13 (HS2.out.2.1 (by rw [hdo]; decide))
          rw [hdo] at HN2
          have K3 := fun X hX => rfail19 B F vc x y (rqO m) 25 X hX
          have k8 : W2.cell? ⟨B, 8, none⟩ = some (.int .i64 m.hb) := HD2.out.1.1.c8
          have i1 : W2.cell? ⟨G, 1, none⟩ = some (.int .i64 N) := at_16 HD2.out.2 1 _ rfl
          have hq1 : (m.hb != N) = true := by simpa using hq
          clear hdo hE1 HSt HRk HS2 hq
          go_wp2_with fail
          go_quiet (fail)
          have HD3 := hid13 (HD2.out.below HB.out (below_drewN (Below.refl _ _) nq))
          go_wp2_with fail
          refine (K3 _ HD3.out.1.1).mono ?_
          rintro e W4 ⟨rfl, h1, h2⟩
          have HF : Hid (RV W4 B F vc x y (rqO mN) ∧ KM B w W4) := ⟨by rw [HN2.out]; exact h1, HD3.out.1.2.trans h2⟩
          clear K3 h1 h2 HD2 HD3 k8 i1 i0
          go_wp2
          refine bodyPost_ret (v := .bool false) (by simp [results, Try.results38, go_sem]) rfl ?_
          refine ⟨by rw [show mN.st = m.st from by rw [HN2.out], HsE.out], ?_⟩
          exact ⟨y, _, HF.out.1, fun q => (by rw [HN2.out] at q; cases q), HF.out.2⟩
      · have hdo : doE F m (dcI l m.pl) = 0 := by
          unfold doE; rw [if_neg (by rw [← HEq.out.2.1]; decide), if_neg (by rw [← HEq.out.2.1]; decide)]
        have HN2 : Hid (mN = { m with pl := m.pl + N, hb := 0, hn := 0, st := m.st + 1 }) := by
          have hd := HS2.out.2.2 hdo
          rcases hd with ⟨_, o', -⟩ | ⟨_, _, o', -⟩ | ⟨n', o', hn', -, -, e'⟩ | ⟨_, o', -⟩
          · rw [← HEq.out.2.1] at o'; exact absurd o' (by decide)
          · rw [← HEq.out.2.1] at o'; exact absurd o' (by decide)
          · show _ = _
            rw [HmN.out, e', HEq.out.2.2.1, hn']
          · rw [← HEq.out.2.1] at o'; exact absurd o' (by decide)
        clear hdo hE1 HSt HRk HS2
        go_wp2_with fail
        clear i0
        refine qpw_region 8 (qpOk 8 8 (by decide) (fun N => by kernel_rfl) (by kernel_rfl) (by kernel_rfl) (by kernel_rfl) (by kernel_rfl)) (C := DRI w B F vc x y (rqO m) G 3 N v2) [some 148, some 149, some 150, some 151, some 152, some 153, some 154, some 155] [.pointer (some ⟨B, 0, none⟩), .pointer (some ⟨B, 0, none⟩), .pointer (some ⟨B, 0, none⟩), .pointer (some ⟨B, 4, none⟩), .int .i64 m.pl, .pointer (some ⟨G, 1, none⟩), .int .i64 N, .int .i64 (m.pl + N)] (by kernel_rfl) (HD2.out.below HB.out (Below.refl _ _).drew) ?wk27 ?fn27
        case wk27 =>
          dsimp only [List.take]
          refine qw_run (v := .pointer (some ⟨B, 0, none⟩)) (by rfl) ?_ ?_
          · (intro w9 hC; clear hC; go_simp; first | done | (simp; done) | (simp [*]; done) | omega | (simp; omega) | (rw [IntKind.wrap_i64]; omega) | (intro hx; omega) | rfl)
          simp only [Act.put, List.setIfInBounds_toArray, List.set_cons_zero, List.set_cons_succ]
          refine qw_run (v := .pointer (some ⟨B, 0, none⟩)) (by rfl) ?_ ?_
          · (intro w9 hC; clear hC; go_simp; first | done | (simp; done) | (simp [*]; done) | omega | (simp; omega) | (rw [IntKind.wrap_i64]; omega) | (intro hx; omega) | rfl)
          simp only [Act.put, List.setIfInBounds_toArray, List.set_cons_zero, List.set_cons_succ]
          refine qw_run (v := .pointer (some ⟨B, 0, none⟩)) (by rfl) ?_ ?_
          · (intro w9 hC; clear hC; go_simp; first | done | (simp; done) | (simp [*]; done) | omega | (simp; omega) | (rw [IntKind.wrap_i64]; omega) | (intro hx; omega) | rfl)
          simp only [Act.put, List.setIfInBounds_toArray, List.set_cons_zero, List.set_cons_succ]
          refine qw_run (v := .pointer (some ⟨B, 4, none⟩)) (by rfl) ?_ ?_
          · (intro w9 hC; clear hC; go_simp; first | done | (simp; done) | (simp [*]; done) | omega | (simp; omega) | (rw [IntKind.wrap_i64]; omega) | (intro hx; omega) | rfl)
          simp only [Act.put, List.setIfInBounds_toArray, List.set_cons_zero, List.set_cons_succ]
          refine qw_run (v := .int .i64 m.pl) (by rfl) ?_ ?_
          · (intro w9 hC; have k5 : w9.cell? ⟨B, 5, none⟩ = some (.int .i64 m.bt) := hC.1.1.c5; have k4 : w9.cell? ⟨B, 4, none⟩ = some (.int .i64 m.pl) := hC.1.1.c4; have k2 := hC.1.1.c2; have k3 := hC.1.1.c3; have i1 := at_16 hC.2 1 _ rfl; clear hC; go_simp; first | done | (simp; done) | (simp [*]; done) | omega | (simp; omega) | (rw [IntKind.wrap_i64]; omega) | (intro hx; omega) | rfl)
          simp only [Act.put, List.setIfInBounds_toArray, List.set_cons_zero, List.set_cons_succ]
          refine qw_run (v := .pointer (some ⟨G, 1, none⟩)) (by rfl) ?_ ?_
          · (intro w9 hC; clear hC; go_simp; first | done | (simp; done) | (simp [*]; done) | omega | (simp; omega) | (rw [IntKind.wrap_i64]; omega) | (intro hx; omega) | rfl)
          simp only [Act.put, List.setIfInBounds_toArray, List.set_cons_zero, List.set_cons_succ]
          refine qw_run (v := .int .i64 N) (by rfl) ?_ ?_
          · (intro w9 hC; have k5 : w9.cell? ⟨B, 5, none⟩ = some (.int .i64 m.bt) := hC.1.1.c5; have k4 : w9.cell? ⟨B, 4, none⟩ = some (.int .i64 m.pl) := hC.1.1.c4; have k2 := hC.1.1.c2; have k3 := hC.1.1.c3; have i1 := at_16 hC.2 1 _ rfl; clear hC; go_simp; first | done | (simp; done) | (simp [*]; done) | omega | (simp; omega) | (rw [IntKind.wrap_i64]; omega) | (intro hx; omega) | rfl)
          simp only [Act.put, List.setIfInBounds_toArray, List.set_cons_zero, List.set_cons_succ]
          refine qw_run (v := .int .i64 (m.pl + N)) (by rfl) ?_ ?_
          · (intro w9 hC; clear hC; go_simp; first | done | (simp; done) | (simp [*]; done) | omega | (simp; omega) | (rw [IntKind.wrap_i64]; omega) | (intro hx; omega) | rfl)
          simp only [Act.put, List.setIfInBounds_toArray, List.set_cons_zero, List.set_cons_succ]
          refine qw_nil ?_
          first | (simp only [putAll, Act.put, List.setIfInBounds_toArray, List.set_cons_zero, List.set_cons_succ]; done) | (simp only [putAll, Act.put, List.setIfInBounds_toArray, List.set_cons_zero, List.set_cons_succ]; rfl)
        case fn27 =>
          intro X2 hX2
          have HX2 := hid13 hX2
          have k4 : X2.cell? ⟨B, 4, none⟩ = some (.int .i64 m.pl) := hX2.1.1.c4
          have k8 : X2.cell? ⟨B, 8, none⟩ = some (.int .i64 m.hb) := hX2.1.1.c8
          have k11 : X2.cell? ⟨B, 11, none⟩ = some (.int .i64 m.st) := hX2.1.1.c11
          have g4 := hX2.1.1.fr 4
          have g8 := hX2.1.1.fr 8
          have g11 := hX2.1.1.fr 11
          clear hX2
          simp only [putAll, Act.put, List.setIfInBounds_toArray, List.set_cons_zero, List.set_cons_succ]
          dsimp only [List.drop]
          go_wp2
          refine bodyPost_ret (v := .bool true) (by simp [results, Try.results38, go_sem]) rfl ?_
          refine ⟨by rw [show mN.st = m.st + 1 from by first | rw [HN2.out.2] | rw [HN2.out], HsT.out], ?_⟩
          rw [HN2.out]
          exact ⟨y, _, ((HX2.out.1.1.s4 _).s8 _).s11 _, fun _ => ⟨rfl, fun q => absurd rfl q⟩, ((HX2.out.1.2.set _).set _).set _⟩
      · have hdo : doE F m (dcI l m.pl) = 0 := by
          unfold doE; rw [if_neg (by rw [← HEq.out.2.1]; decide), if_neg (by rw [← HEq.out.2.1]; decide)]
        have HN2 : Hid (mN = { m with en := true, hop := N, st := m.st + 1 }) := by
          have hd := HS2.out.2.2 hdo
          rcases hd with ⟨_, o', -⟩ | ⟨_, _, o', -⟩ | ⟨_, o', -⟩ | ⟨n', o', hn', -, -, e'⟩
          · rw [← HEq.out.2.1] at o'; exact absurd o' (by decide)
          · rw [← HEq.out.2.1] at o'; exact absurd o' (by decide)
          · rw [← HEq.out.2.1] at o'; exact absurd o' (by decide)
          · show _ = _
            rw [HmN.out, e', HEq.out.2.2.1, hn']
        have i1 : W2.cell? ⟨G, 1, none⟩ = some (.int .i64 N) := at_16 HD2.out.2 1 _ rfl
        have k8 : W2.cell? ⟨B, 8, none⟩ = some (.int .i64 m.hb) := HD2.out.1.1.c8
        have k9 : W2.cell? ⟨B, 9, none⟩ = some (.int .i64 m.hop) := HD2.out.1.1.c9
        have k11 : W2.cell? ⟨B, 11, none⟩ = some (.int .i64 m.st) := HD2.out.1.1.c11
        have k15 : W2.cell? ⟨B, 15, none⟩ = some (.bool m.en) := HD2.out.1.1.c15
        have g8 := HD2.out.1.1.fr 8
        have g9 := HD2.out.1.1.fr 9
        have g11 := HD2.out.1.1.fr 11
        have g15 := HD2.out.1.1.fr 15
        clear hdo hE1 HSt HRk HS2
        go_wp2
        refine bodyPost_ret (v := .bool true) (by simp [results, Try.results38, go_sem]) rfl ?_
        refine ⟨by rw [show mN.st = m.st + 1 from by first | rw [HN2.out.2] | rw [HN2.out], HsT.out], ?_⟩
        rw [HN2.out]
        exact ⟨y, _, (((HD2.out.1.1.s9 _).s15 _).s8 _).s11 _, fun q => (by cases q), (((HD2.out.1.2.set _).set _).set _).set _⟩
    · have hne : (E != 0) = true := by simpa using hE0
      have HN2 : Hid (mN = { m with en := true, err := E }) := by rw [HEq.out.1]; exact HSt.out.1 (by rw [← HEq.out.1]; exact hE0)
      have K3 := fun X hX => rfail19 B F vc x y (rqO m) E X hX
      clear HSt HRk hE0 i0
      go_wp2_with fail
      refine (K3 _ HD2.out.1.1).mono ?_
      rintro e W4 ⟨rfl, h1, h2⟩
      have HF : Hid (RV W4 B F vc x y (rqO mN) ∧ KM B w W4) := ⟨by rw [HN2.out]; exact h1, HD2.out.1.2.trans h2⟩
      clear K3 h1 h2 HD2
      go_wp2
      refine bodyPost_ret (v := .bool false) (by simp [results, Try.results38, go_sem]) rfl ?_
      refine ⟨by rw [show mN.st = m.st from by rw [HN2.out], HsE.out], ?_⟩
      exact ⟨y, _, HF.out.1, fun q => (by rw [HN2.out] at q; cases q), HF.out.2⟩
end Go.Proofs.Ytjgpbahglkaijaa
