/-
  Part 14 of the proof: 6 texts, one behind the other.
-/
import Derived.Test.YtbgoclfifhdonaaPart13
import Derived.Test.YtbgoclfifhdonaaPart5
import Derived.Test.YtbgoclfifhdonaaPart6
namespace Go.Proofs.Ytbgoclfifhdonaa
open Go.RowKit
set_option linter.unusedSimpArgs false
set_option linter.unusedVariables false

def NwQ (w : World) (F : Int) (x : BitVec 128) (l : List Nat) (r : Ending) (w' : World) : Prop := ∃ B vc, r = .returned (.pointer (some ⟨B, 0, none⟩)) ∧ w.heap.size ≤ B ∧ MV w' B F vc x (mc0 (rightE F x)) ∧ w'.ownsRow w.heap.size 5 1 vc l.length (l.map cB) ∧ (∀ g, vc.ownBlock = some g → g < B) ∧ Below w.heap.size w w'
structure RN9 (Wb : World) (b0 : Nat) (F : Int) (x : BitVec 128) (l : List Nat) (cl st as9 : Bool) (g : Value × Nat) (X : World) : Prop where
  lo : Below b0 Wb X
  sz : Wb.heap.size ≤ X.heap.size
  bl : Below Wb.heap.size Wb X
  d : cl = true → X.ownsRow b0 5 1 g.1 l.length (l.map cB) ∧ ∀ z, g.1.ownBlock = some z → z < X.heap.size
  s : st = true → b0 ≤ g.2 ∧ MV X g.2 F g.1 x (mc0 (rightE F x)) ∧ ∀ z, g.1.ownBlock = some z → z < g.2
  p1 : st = true → cl = true
  p2 : as9 = true → st = true
theorem own_lt18 {W : World} {base e size n : Nat} {v : Value} {xs : List Value} (h : W.ownsRow base e size v n xs) (z : Nat) (hz : v.ownBlock = some z) : z < W.heap.size := by
  obtain ⟨cs, h2⟩ := own_typed18 h z hz
  exact lt_16 h2
set_option maxRecDepth 20000 in
set_option maxHeartbeats 8000000 in
theorem new19 (F : Int) (vc : Value) (x : BitVec 128) (l : List Nat) (w : World) (hA : RowA w 1 vc l.length (l.map cB)) (hl : l.length ≤ 16777216) :
    Calls Try.prog 12 #[.int .i64 F, vc, .agg #[.int .u64 (hI x), .int .u64 (lI x)]] w (NwQ w F x l) := by
  obtain ⟨Wb, hWb⟩ : ∃ Wb, Wb = w.alloc (.cells #[.int .u64 (hI x), .int .u64 (lI x)] 25) := ⟨_, rfl⟩
  have q1 := bl1 w (.cells #[.int .u64 (hI x), .int .u64 (lI x)] 25)
  rw [← hWb] at q1
  have HW : Hid (Wb.heap[w.heap.size]? = some (.cells #[.int .u64 (hI x), .int .u64 (lI x)] 25)) := by rw [hWb]; exact new_16 _ _
  have HQ := hid13 q1
  have HSz : Hid (w.heap.size ≤ Wb.heap.size) := q1.size
  have HC : Hid (∀ X, Below Wb.heap.size Wb X → Calls Try.prog 24 #[vc] X fun e w' => ∃ v', e = .returned v' ∧ w'.ownsRow X.heap.size 5 1 v' l.length (l.map cB) ∧ Below X.heap.size X w') := hid13 (fun X hX => clone14 vc l X ((hA.below q1).below hX) (by omega))
  have HSt : Hid (∀ X v, X.ownsRow w.heap.size 5 1 v l.length (l.map cB) → Calls Try.prog 20 #[.int .i64 F, v, .agg #[.int .u64 (hI x), .int .u64 (lI x)]] X (StQ X F v x)) := hid13 (fun X v hv => by
    obtain ⟨ao, c, rfl⟩ := own_form hv
    exact start19 F ao _ c x X)
  unfold NwQ
  have HR0 : Hid (RN9 Wb w.heap.size F x l false false false (undef, 0) Wb.drew) := ⟨(Below.refl _ _).drew, (Below.refl Wb.heap.size Wb).drew.size, (Below.refl _ _).drew, fun q => (by cases q), fun q => (by cases q), fun q => (by cases q), fun q => (by cases q)⟩
  clear hA hl q1
  go_enter Try.func12, Try.ntmps12
  go_wp2_with fail
  rw [← hWb]
  clear hWb
  refine gh_region (γ := Value × Nat) (qpOk 6 6 (by decide) (fun N => by kernel_rfl) (by kernel_rfl) (by kernel_rfl) (by kernel_rfl) (by kernel_rfl)) (by kernel_rfl) (by kernel_rfl) [some 7, some 8, some 9, some 10, some 11, some 6] (fun g => [.int .i64 F, vc, g.1, .agg #[.int .u64 (hI x), .int .u64 (lI x)], .pointer (some ⟨g.2, 0, none⟩), .pointer (some ⟨g.2, 0, none⟩)]) (by kernel_rfl) (by simp) (fun lp g X => RN9 Wb w.heap.size F x l (lp.getD 2 false) (lp.getD 4 false) (lp.getD 5 false) g X) (undef, 0) HR0.out ?step1 ?fin1
  case step1 =>
    intro q o lp g w' a' ho hsz hun hdep hR hS K Q' hK
    have hfl : ∀ j, j ≠ q → (lp.setIfInBounds q true).getD j false = lp.getD j false := fun j hj => by rw [Array.getD_eq_getD_getElem?, Array.getD_eq_getD_getElem?, Array.getElem?_setIfInBounds_ne (by omega)]
    have hq : q < 6 := (List.getElem?_eq_some_iff.mp ho).1
    match q, ho, hun, hdep, hK, hfl, hq with
    | 0, ho, hun, hdep, hK, hfl, _ =>
      obtain rfl := Option.some.inj ho
      have o0 : a'.tmps[0]? = some (.int .i64 F) := (hS.old14 0 (by simp)).trans rfl
      have hK' := hK g w' (fun _ _ _ _ _ _ => rfl) (by rw [hfl 2 (by decide), hfl 4 (by decide), hfl 5 (by decide)]; exact hR) (.int .i64 F) (by simp only [valO, Option.bind_some]; (try simp only [putAll, Act.put, List.setIfInBounds_toArray, List.set_cons_zero, List.set_cons_succ]); (try rfl))
      clear hS hdep hR
      refine gh_quiet14 (v := .int .i64 F) ?_ ?_
      · (simp only [execOp, Act.eval, o0]; go_simp; first | done | (simp; done) | (simp [*]; done) | omega | (rw [IntKind.wrap_i64]; omega))
      · exact hK'
    | 1, ho, hun, hdep, hK, hfl, _ =>
      obtain rfl := Option.some.inj ho
      have o1 : a'.tmps[1]? = some (vc) := (hS.old14 1 (by simp)).trans rfl
      have hK' := hK g w' (fun _ _ _ _ _ _ => rfl) (by rw [hfl 2 (by decide), hfl 4 (by decide), hfl 5 (by decide)]; exact hR) (vc) (by simp only [valO, Option.bind_some]; (try simp only [putAll, Act.put, List.setIfInBounds_toArray, List.set_cons_zero, List.set_cons_succ]); (try rfl))
      clear hS hdep hR
      refine gh_quiet14 (v := vc) ?_ ?_
      · (simp only [execOp, Act.eval, o1]; go_simp; first | done | (simp; done) | (simp [*]; done) | omega | (rw [IntKind.wrap_i64]; omega))
      · exact hK'
    | 2, ho, hun, hdep, hK, hfl, _ =>
      obtain rfl := Option.some.inj ho
      have d1 : lp.getD 1 false = true := hdep { on := 1, ground := .data } (by simp) rfl
      have e8 : a'.tmps[8]? = some (vc) := (hS.don 1 _ 8 rfl d1 rfl).trans (by simp only [putAll, Act.put, List.setIfInBounds_toArray, List.set_cons_zero, List.set_cons_succ]; rfl)
      have hst : lp.getD 4 false = false := by
        cases h : lp.getD 4 false with
        | false => rfl
        | true => have := hR.p1 h; rw [hun] at this; cases this
      have KC := HC.out w' hR.bl
      clear hdep
      unfold Oper.wp
      simp only [execOp, Act.eval, Array.getD_eq_getD_getElem?]
      simp [go_sem, e8, Oper.upon]
      refine KC.mono ?_
      rintro e W2 ⟨v2, rfl, ho2, hb⟩
      exact hK (v2, g.2) W2 (fun k' ok s hk hl hd => gh_same14 (d := 9) (s := s) (by simp only [putAll, Act.put, List.setIfInBounds_toArray, List.set_cons_zero, List.set_cons_succ]; rfl) (by rintro rfl; have := dstG_of (by kernel_rfl) k' 2 ok _ 9 hk rfl hd rfl; subst this; rw [hun] at hl; cases hl)) (by rw [hfl 4 (by decide), hfl 5 (by decide), getD_set_same (by rw [hsz]; decide)]; exact ⟨hR.lo.trans (hb.mono (Nat.le_trans HSz.out hR.sz)), Nat.le_trans hR.sz hb.size, hR.bl.trans (hb.mono hR.sz), fun _ => ⟨own_base16 ho2 (Nat.le_trans HSz.out hR.sz), own_lt18 ho2⟩, fun q => (by rw [hst] at q; cases q), fun _ => rfl, hR.p2⟩) _ (by simp only [valO, Option.bind_some]; simp only [putAll, Act.put, List.setIfInBounds_toArray, List.set_cons_zero, List.set_cons_succ]; rfl)
    | 3, ho, hun, hdep, hK, hfl, _ =>
      obtain rfl := Option.some.inj ho
      have o5 : a'.tmps[5]? = some (.pointer (some ⟨w.heap.size, 0, none⟩)) := (hS.old14 5 (by simp)).trans rfl
      have hw := (hR.bl.block _ (lt_16 HW.out)).trans HW.out
      have z0 := at_16 hw 0 _ rfl
      have z1 := at_16 hw 1 _ rfl
      have hK' := hK g w' (fun _ _ _ _ _ _ => rfl) (by rw [hfl 2 (by decide), hfl 4 (by decide), hfl 5 (by decide)]; exact hR) (.agg #[.int .u64 (hI x), .int .u64 (lI x)]) (by simp only [valO, Option.bind_some]; (try simp only [putAll, Act.put, List.setIfInBounds_toArray, List.set_cons_zero, List.set_cons_succ]); (try rfl))
      clear hS hdep hR
      refine gh_quiet14 (v := .agg #[.int .u64 (hI x), .int .u64 (lI x)]) ?_ ?_
      · (simp only [execOp, Act.eval, o5]; go_simp; first | done | (simp; done) | (simp [*]; done) | omega | (rw [IntKind.wrap_i64]; omega))
      · exact hK'
    | 4, ho, hun, hdep, hK, hfl, _ =>
      obtain rfl := Option.some.inj ho
      have d0 : lp.getD 0 false = true := hdep { on := 0, ground := .data } (by simp) rfl
      have e7 : a'.tmps[7]? = some (.int .i64 F) := (hS.don 0 _ 7 rfl d0 rfl).trans (by simp only [putAll, Act.put, List.setIfInBounds_toArray, List.set_cons_zero, List.set_cons_succ]; rfl)
      have d2 : lp.getD 2 false = true := hdep { on := 2, ground := .data } (by simp) rfl
      have e9 : a'.tmps[9]? = some (g.1) := (hS.don 2 _ 9 rfl d2 rfl).trans (by simp only [putAll, Act.put, List.setIfInBounds_toArray, List.set_cons_zero, List.set_cons_succ]; rfl)
      have d3 : lp.getD 3 false = true := hdep { on := 3, ground := .data } (by simp) rfl
      have e10 : a'.tmps[10]? = some (.agg #[.int .u64 (hI x), .int .u64 (lI x)]) := (hS.don 3 _ 10 rfl d3 rfl).trans (by simp only [putAll, Act.put, List.setIfInBounds_toArray, List.set_cons_zero, List.set_cons_succ]; rfl)
      have KC := HSt.out w' g.1 (hR.d d2).1
      clear hdep
      unfold Oper.wp
      simp only [execOp, Act.eval, Array.getD_eq_getD_getElem?]
      simp [go_sem, e7, e9, e10, Oper.upon]
      refine KC.mono ?_
      rintro e W2 ⟨B2, rfl, hB2, hM2, hb⟩
      exact hK (g.1, B2) W2 (fun k' ok s hk hl hd => gh_same18 (d := 11) (e := 6) (f := 6) (s := s) (by simp only [putAll, Act.put, List.setIfInBounds_toArray, List.set_cons_zero, List.set_cons_succ]; rfl) (by rintro rfl; have := dstG_of (by kernel_rfl) k' 4 ok _ 11 hk rfl hd rfl; subst this; rw [hun] at hl; cases hl) (by rintro rfl; have := dstG_of (by kernel_rfl) k' 5 ok _ 6 hk rfl hd rfl; subst this; have h5 := hR.p2 hl; rw [hun] at h5; cases h5) (by rintro rfl; have := dstG_of (by kernel_rfl) k' 5 ok _ 6 hk rfl hd rfl; subst this; have h5 := hR.p2 hl; rw [hun] at h5; cases h5)) (by rw [hfl 2 (by decide), hfl 5 (by decide), getD_set_same (by rw [hsz]; decide)]; exact ⟨hR.lo.trans (hb.mono (Nat.le_trans HSz.out hR.sz)), Nat.le_trans hR.sz hb.size, hR.bl.trans (hb.mono hR.sz), fun _ => ⟨own_keep18 (hR.d d2).1 (fun z hz => hb.block z ((hR.d d2).2 z hz)), fun z hz => Nat.lt_of_lt_of_le ((hR.d d2).2 z hz) hb.size⟩, fun _ => ⟨Nat.le_trans HSz.out (Nat.le_trans hR.sz hB2), hM2, fun z hz => Nat.lt_of_lt_of_le ((hR.d d2).2 z hz) hB2⟩, fun _ => d2, fun _ => rfl⟩) _ (by simp only [valO, Option.bind_some]; simp only [putAll, Act.put, List.setIfInBounds_toArray, List.set_cons_zero, List.set_cons_succ]; rfl)
    | 5, ho, hun, hdep, hK, hfl, _ =>
      obtain rfl := Option.some.inj ho
      have d4 : lp.getD 4 false = true := hdep { on := 4, ground := .data } (by simp) rfl
      have e11 : a'.tmps[11]? = some (.pointer (some ⟨g.2, 0, none⟩)) := (hS.don 4 _ 11 rfl d4 rfl).trans (by simp only [putAll, Act.put, List.setIfInBounds_toArray, List.set_cons_zero, List.set_cons_succ]; rfl)
      have hK' := hK g w' (fun _ _ _ _ _ _ => rfl) (by rw [hfl 2 (by decide), hfl 4 (by decide), getD_set_same (by rw [hsz]; decide)]; exact ⟨hR.lo, hR.sz, hR.bl, hR.d, hR.s, hR.p1, fun _ => d4⟩) (.pointer (some ⟨g.2, 0, none⟩)) (by simp only [valO, Option.bind_some]; (try simp only [putAll, Act.put, List.setIfInBounds_toArray, List.set_cons_zero, List.set_cons_succ]); (try rfl))
      clear hS hdep hR
      refine gh_quiet14 (v := .pointer (some ⟨g.2, 0, none⟩)) ?_ ?_
      · (simp only [execOp, Act.eval, e11]; go_simp; first | done | (simp; done) | (simp [*]; done) | omega | (rw [IntKind.wrap_i64]; omega))
      · exact hK'
    | n + 6, ho, hun, hdep, hK, hfl, hq => exact absurd hq (by omega)
  case fin1 =>
    intro g X hX
    have h1 := hX.s rfl
    have h2 := hX.d rfl
    have HX := hid13 (And.intro h1 (And.intro h2.1 (HQ.out.trans hX.lo)))
    clear hX h1 h2 HR0 HSt HC HW
    simp only [putAll, Act.put, List.setIfInBounds_toArray, List.set_cons_zero, List.set_cons_succ]
    go_wp2
    go_ret
    exact ⟨g.2, g.1, rfl, HX.out.1.1, HX.out.1.2.1, HX.out.2.1, HX.out.1.2.2, HX.out.2.2⟩
end Go.Proofs.Ytbgoclfifhdonaa
namespace Go.Proofs.Ytbgoclfifhdonaa
open Go.RowKit
set_option linter.unusedSimpArgs false
set_option linter.unusedVariables false

theorem cb_own {W : World} {base e B : Nat} {v : Value} {l : List Nat} (h : W.ownsRow base e 1 v l.length (l.map cB)) (hb : ∀ g, v.ownBlock = some g → g ≠ B) : CB B v l := by
  rcases h.2 with ⟨-, h2⟩ | ⟨g, cap, cur, rfl, -⟩
  · exact .inl (List.length_eq_zero_iff.1 h2)
  · exact .inr ⟨g, 0, cap, l.length, rfl, hb g rfl⟩
structure Ap9 (V : World) (F : Int) (x u : BitVec 128) (l c : List Nat) (B C : Nat) (vb vc : Value) (mB mC : Mc) (W : World) : Prop where
  lo : Below V.heap.size V W
  m : MV W B F vb x mB
  n : MV W C F vc u mC
  r : RwX cB W vb l
  s : RwX cB W vc c
structure Ap9C (V : World) (l c : List Nat) (B C : Nat) (vb vc : Value) : Prop where
  zb : V.heap.size ≤ B
  zc : V.heap.size ≤ C
  bc : B ≠ C
  bb : CB B vb l
  cb : CB C vb l
  cc : CB C vc c
  bv : CB B vc c
theorem Ap9.below {V W W' : World} {F : Int} {x u : BitVec 128} {l c : List Nat} {B C : Nat} {vb vc : Value} {mB mC : Mc} (h : Ap9 V F x u l c B C vb vc mB mC W) (hb : Below W.heap.size W W') : Ap9 V F x u l c B C vb vc mB mC W' :=
  ⟨h.lo.trans (hb.mono h.lo.size), h.m.below hb, h.n.below hb, h.r.below hb, h.s.below hb⟩
theorem Ap9.one {V W W' : World} {F : Int} {x u : BitVec 128} {l c : List Nat} {B C : Nat} {vb vc : Value} {mB mC mB' : Mc} (h : Ap9 V F x u l c B C vb vc mB mC W) (hC : Ap9C V l c B C vb vc) (h1 : MV W' B F vb x mB') (hk : KM B W W') : Ap9 V F x u l c B C vb vc mB' mC W' :=
  ⟨h.lo.trans (hk.lo.mono hC.zb), h1, (hk.ot.2 C h.n.lt (fun q => hC.bc q.symm)).trans h.n, rwx_km h.r hC.bb hk, rwx_km h.s hC.bv hk⟩
theorem Ap9.two {V W W' : World} {F : Int} {x u : BitVec 128} {l c : List Nat} {B C : Nat} {vb vc : Value} {mB mC mC' : Mc} (h : Ap9 V F x u l c B C vb vc mB mC W) (hC : Ap9C V l c B C vb vc) (h1 : MV W' C F vc u mC') (hk : KM C W W') : Ap9 V F x u l c B C vb vc mB mC' W' :=
  ⟨h.lo.trans (hk.lo.mono hC.zc), (hk.ot.2 B h.m.lt hC.bc).trans h.m, h1, rwx_km h.r hC.cb hk, rwx_km h.s hC.cc hk⟩
theorem ptr_nil19 (B : Nat) (w : World) : (binOp BinOp.eql 32 (.pointer (some ⟨B, 0, none⟩)) (.pointer none)).run Try.prog w = .ok (.bool false) w := by
  first | kernel_rfl | (unfold Try.ptrM19; go_simp)
end Go.Proofs.Ytbgoclfifhdonaa
namespace Go.Proofs.Ytbgoclfifhdonaa
open Go.RowKit
set_option linter.unusedSimpArgs false
set_option linter.unusedVariables false

end Go.Proofs.Ytbgoclfifhdonaa
namespace Go.Proofs.Ytbgoclfifhdonaa
open Go.RowKit
set_option linter.unusedSimpArgs false
set_option linter.unusedVariables false

end Go.Proofs.Ytbgoclfifhdonaa
namespace Go.Proofs.Ytbgoclfifhdonaa
open Go.RowKit
set_option linter.unusedSimpArgs false
set_option linter.unusedVariables false

end Go.Proofs.Ytbgoclfifhdonaa
namespace Go.Proofs.Ytbgoclfifhdonaa
open Go.RowKit
set_option linter.unusedSimpArgs false
set_option linter.unusedVariables false

end Go.Proofs.Ytbgoclfifhdonaa
