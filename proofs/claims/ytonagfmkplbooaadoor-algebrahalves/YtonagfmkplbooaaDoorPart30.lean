/-
  Part 30 of the proof: 3 texts, one behind the other.
-/
import Derived.Test.YtonagfmkplbooaaDoorPart13
import Derived.Test.YtonagfmkplbooaaDoorPart5
import Derived.Test.YtonagfmkplbooaaDoorPart2
import Derived.Test.YtonagfmkplbooaaDoorPart22
import Derived.Test.YtonagfmkplbooaaDoorPart23
import Derived.Test.YtonagfmkplbooaaDoorPart24
import Derived.Test.YtonagfmkplbooaaDoorPart27
import Derived.Test.YtonagfmkplbooaaDoorPart29
/-
  What the calls of the law's within, fitted and Fitted of an address do, and of its SameSegs of any two.
-/
namespace Go.Proofs.YtonagfmkplbooaaDoor
open Go.RowKit
set_option linter.unusedSimpArgs false
set_option linter.unusedVariables false

theorem within5_zero (F : Int) (w : World) (h0 : 0 ≤ F) (h1 : F ≤ 128) : Calls Tryd.prog 36 #[.int .i64 0, .int .i64 (F + 1)] w fun e w' => e = .returned (.int .i64 0) ∧ Below w.heap.size w w' := by
  have hne : ¬ (F + 1 = 0) := by omega
  have hm : Int.tmod 0 (F + 1) = 0 := by simp
  go_enter Tryd.func36, Tryd.ntmps36
  go_wp2
  go_ret
  exact ⟨rfl, Below.refl _ _⟩
structure RF (w : World) (x y : BitVec 128) (f9 : Bool) (W : World) : Prop where
  p : AtP W w.heap.size 0#128 0
  x : At W (w.heap.size + 1) x
  r : AtP W (w.heap.size + 2) 0#128 0
  s : if f9 = true then At W (w.heap.size + 3) y else At W (w.heap.size + 3) 0#128
  bel : Below w.heap.size w W
theorem RF.below {w : World} {x y : BitVec 128} {f9 : Bool} {W W' : World} (k : RF w x y f9 W) (hb : Below W.heap.size W W') : RF w x y f9 W' :=
  ⟨k.p.below hb, k.x.below hb, k.r.below hb, (by have := k.s; cases f9 <;> simp at this ⊢ <;> exact this.below hb), keepb hb k.bel⟩
theorem RF.drew {w : World} {x y : BitVec 128} {f9 : Bool} {W : World} (k : RF w x y f9 W) : RF w x y f9 W.drew := k.below (below_drewN (Below.refl _ _) 1)
theorem AtP.set0 {W : World} {B : Nat} (k : AtP W B 0#128 0) : AtP (((W.setCell ⟨B, 0, none⟩ (.int .u64 0)).setCell ⟨B, 1, none⟩ (.int .u64 0)).setCell ⟨B, 2, none⟩ (.int .i64 0)) B 0#128 0 := by
  obtain ⟨c0, c1, c2, f0, f1, f2⟩ := k
  refine ⟨?_, ?_, ?_, ?_, ?_, ?_⟩ <;> simp [go_sem, *, hI_zero, lI_zero]
theorem RF.stP {w : World} {x y : BitVec 128} {f9 : Bool} {W : World} (k : RF w x y f9 W) : RF w x y f9 (((W.setCell ⟨w.heap.size + 2, 0, none⟩ (.int .u64 0)).setCell ⟨w.heap.size + 2, 1, none⟩ (.int .u64 0)).setCell ⟨w.heap.size + 2, 2, none⟩ (.int .i64 0)) := by
  have hsz : W.heap.size ≤ (((W.setCell ⟨w.heap.size + 2, 0, none⟩ (.int .u64 0)).setCell ⟨w.heap.size + 2, 1, none⟩ (.int .u64 0)).setCell ⟨w.heap.size + 2, 2, none⟩ (.int .i64 0)).heap.size := by simp
  have h : ∀ z, z ≠ w.heap.size + 2 → (((W.setCell ⟨w.heap.size + 2, 0, none⟩ (.int .u64 0)).setCell ⟨w.heap.size + 2, 1, none⟩ (.int .u64 0)).setCell ⟨w.heap.size + 2, 2, none⟩ (.int .i64 0)).heap[z]? = W.heap[z]? := fun z hz => by rw [hSet _ hz, hSet _ hz, hSet _ hz]
  refine ⟨k.p.heapE (h _ (by omega)), k.x.heap (h _ (by omega)) hsz, k.r.set0, ?_, ((k.bel.setCell (p := ⟨w.heap.size + 2, 0, none⟩) (by simp) _).setCell (p := ⟨w.heap.size + 2, 1, none⟩) (by simp) _).setCell (p := ⟨w.heap.size + 2, 2, none⟩) (by simp) _⟩
  have := k.s
  cases f9 <;> simp at this ⊢ <;> exact this.heap (h _ (by omega)) hsz
theorem RF.stW {w : World} {x y : BitVec 128} {W : World} (k : RF w x y false W) : RF w x y true ((W.setCell ⟨w.heap.size + 3, 0, none⟩ (.int .u64 (hI y))).setCell ⟨w.heap.size + 3, 1, none⟩ (.int .u64 (lI y))) := by
  have hsz : W.heap.size ≤ ((W.setCell ⟨w.heap.size + 3, 0, none⟩ (.int .u64 (hI y))).setCell ⟨w.heap.size + 3, 1, none⟩ (.int .u64 (lI y))).heap.size := by simp
  have h : ∀ z, z ≠ w.heap.size + 3 → ((W.setCell ⟨w.heap.size + 3, 0, none⟩ (.int .u64 (hI y))).setCell ⟨w.heap.size + 3, 1, none⟩ (.int .u64 (lI y))).heap[z]? = W.heap[z]? := fun z hz => by rw [hSet _ hz, hSet _ hz]
  have hs := k.s
  simp at hs
  exact ⟨k.p.heapE (h _ (by omega)), k.x.heap (h _ (by omega)) hsz, k.r.heapE (h _ (by omega)), by rw [if_pos rfl]; exact hs.setE y, (k.bel.setCell (p := ⟨w.heap.size + 3, 0, none⟩) (by simp) _).setCell (p := ⟨w.heap.size + 3, 1, none⟩) (by simp) _⟩
theorem rf_new (w : World) (x y : BitVec 128) : RF w x y false ((((w.alloc (.cells #[.int .u64 0, .int .u64 0, .int .i64 0] 29)).alloc (.cells #[.int .u64 (hI x), .int .u64 (lI x)] 27)).alloc (.cells #[.int .u64 0, .int .u64 0, .int .i64 0] 29)).alloc (.cells #[.int .u64 0, .int .u64 0] 27)) := by
  have b1 := bl1 w (.cells #[.int .u64 0, .int .u64 0, .int .i64 0] 29)
  have a1 := atp_new w w.heap.size 0#128 0 29 rfl
  rw [hI_zero, lI_zero] at a1
  revert b1 a1
  generalize h1 : w.alloc (.cells #[.int .u64 0, .int .u64 0, .int .i64 0] 29) = w1
  have s1 : w1.heap.size = w.heap.size + 1 := by rw [← h1]; simp
  clear h1
  intro b1 a1
  have b2 := bl1 w1 (.cells #[.int .u64 (hI x), .int .u64 (lI x)] 27)
  have a2 := at_new w1 (w.heap.size + 1) x 27 s1.symm
  revert b2 a2
  generalize h2 : w1.alloc (.cells #[.int .u64 (hI x), .int .u64 (lI x)] 27) = w2
  have s2 : w2.heap.size = w.heap.size + 2 := by rw [← h2]; simp [s1]
  clear h2
  intro b2 a2
  have b3 := bl1 w2 (.cells #[.int .u64 0, .int .u64 0, .int .i64 0] 29)
  have a3 := atp_new w2 (w.heap.size + 2) 0#128 0 29 s2.symm
  rw [hI_zero, lI_zero] at a3
  revert b3 a3
  generalize h3 : w2.alloc (.cells #[.int .u64 0, .int .u64 0, .int .i64 0] 29) = w3
  have s3 : w3.heap.size = w.heap.size + 3 := by rw [← h3]; simp [s2]
  clear h3
  intro b3 a3
  have b4 := bl1 w3 (.cells #[.int .u64 0, .int .u64 0] 27)
  have a4 := at_new w3 (w.heap.size + 3) 0#128 27 s3.symm
  rw [hI_zero, lI_zero] at a4
  exact ⟨((a1.below b2).below b3).below b4, (a2.below b3).below b4, a3.below b4, by simp; exact a4, keepb b4 (keepb b3 (keepb b2 b1))⟩
set_option maxRecDepth 20000 in
set_option maxHeartbeats 8000000 in
theorem fitted_zero (F : Int) (x : BitVec 128) (w : World) (h0 : 0 ≤ F) (h1 : F ≤ 128) :
    Calls Tryd.prog 18 #[.int .i64 F, .agg #[.int .u64 0, .int .u64 0, .int .i64 0], .agg #[.int .u64 (hI x), .int .u64 (lI x)]] w fun e w' => e = .returned (.tuple #[.agg #[.int .u64 0, .int .u64 0, .int .i64 0], .agg #[.int .u64 (hI (x &&& maskW F)), .int .u64 (lI (x &&& maskW F))]]) ∧ Below w.heap.size w w' := by
  have KW := fun w => within5_zero F w h0 h1
  have KC := fun w => rcut_any 0#128 0 w
  have hc : cutW 0#128 0 = 0#128 := by decide +kernel
  rw [hc, hI_zero, lI_zero] at KC
  have KM := fun w => rmask_any F w
  have KA := fun w => rand_any x (maskW F) w
  have HF0 : ∀ y, RF w x y false _ := fun y => rf_new w x y
  have HF1 := hidR (HF0 (x &&& maskW F))
  revert KM KA HF1
  generalize x &&& maskW F = y
  generalize maskW F = mk
  intro KM KA HF1
  have mF : IntKind.i64.wrap (F + 1) = F + 1 := by rw [IntKind.wrap_i64]; omega
  obtain ⟨p0, p1, p2, -, -, -⟩ := HF1.out.p
  simp only [hI_zero, lI_zero] at p0 p1
  clear HF0 hc
  go_enter Tryd.func18, Tryd.ntmps18
  go_wp2_with fail
  refine (KW _).mono ?_
  rintro e w1 ⟨rfl, hb⟩
  have HF := hidR (HF1.out.below hb)
  clear KW hb HF1 p0 p1 p2
  go_wp2_with fail
  refine gh_region (γ := Unit) (qpOk 10 10 (by decide) (fun N => by kernel_rfl) (by kernel_rfl) (by kernel_rfl) (by kernel_rfl) (by kernel_rfl)) (by kernel_rfl) (by kernel_rfl) [some 14, some 15, some 16, some 17, some 18, some 19, some 20, some 21, none, none] (fun g => [.pointer (some ⟨w.heap.size, 0, none⟩), .agg #[.int .u64 0, .int .u64 0], .int .i64 0, .agg #[.int .u64 0, .int .u64 0, .int .i64 0], .agg #[.int .u64 (hI x), .int .u64 (lI x)], .int .i64 F, .agg #[.int .u64 (hI mk), .int .u64 (lI mk)], .agg #[.int .u64 (hI y), .int .u64 (lI y)], undef, undef]) (by kernel_rfl) (by simp) (fun lp g W => RF w x y (lp.getD 9 false) W) () (by simpa using HF.out.drew) ?step ?fin
  case step =>
    intro q o lp g w' a' ho hsz hun hdep hR hS K Q' hK
    have hfl : ∀ j, j ≠ q → (lp.setIfInBounds q true).getD j false = lp.getD j false := fun j hj => by rw [Array.getD_eq_getD_getElem?, Array.getD_eq_getD_getElem?, Array.getElem?_setIfInBounds_ne (by omega)]
    have hq : q < 10 := (List.getElem?_eq_some_iff.mp ho).1
    obtain ⟨p0, p1, p2, -, -, -⟩ := hR.p
    simp only [hI_zero, lI_zero] at p0 p1
    obtain ⟨x0, x1, -⟩ := hR.x
    match q, ho, hun, hdep, hK, hfl, hq with
    | 0, ho, hun, hdep, hK, hfl, _ =>
      obtain rfl := Option.some.inj ho
      have o4 : a'.tmps[4]? = some (.pointer (some ⟨w.heap.size, 0, none⟩)) := (hS.old 4 (by simp)).trans rfl
      have hK' := hK g w' (fun _ _ _ _ _ _ => rfl) (by rw [hfl 9 (by decide)]; exact hR) (.pointer (some ⟨w.heap.size, 0, none⟩)) (by simp only [valO, Option.bind_some]; simp only [putAll, Act.put, List.setIfInBounds_toArray, List.set_cons_zero, List.set_cons_succ]; rfl)
      clear hS hdep hR
      refine gh_quiet (v := .pointer (some ⟨w.heap.size, 0, none⟩)) ?_ ?_
      · (simp only [execOp, Act.eval, o4]; go_simp; first | done | (simp; done) | (simp [*]; done))
      · exact hK'
    | 1, ho, hun, hdep, hK, hfl, _ =>
      obtain rfl := Option.some.inj ho
      have d0 : lp.getD 0 false = true := hdep { on := 0, ground := .data } (by simp) rfl
      have e14 : a'.tmps[14]? = some (.pointer (some ⟨w.heap.size, 0, none⟩)) := (hS.don 0 _ 14 rfl d0 rfl).trans (by simp only [putAll, Act.put, List.setIfInBounds_toArray, List.set_cons_zero, List.set_cons_succ]; rfl)
      have hK' := hK g w' (fun _ _ _ _ _ _ => rfl) (by rw [hfl 9 (by decide)]; exact hR) (.agg #[.int .u64 0, .int .u64 0]) (by simp only [valO, Option.bind_some]; simp only [putAll, Act.put, List.setIfInBounds_toArray, List.set_cons_zero, List.set_cons_succ]; rfl)
      clear hS hdep hR
      refine gh_quiet (v := .agg #[.int .u64 0, .int .u64 0]) ?_ ?_
      · (simp only [execOp, Act.eval, e14]; go_simp; first | done | (simp; done) | (simp [*]; done))
      · exact hK'
    | 2, ho, hun, hdep, hK, hfl, _ =>
      obtain rfl := Option.some.inj ho
      have o8 : a'.tmps[8]? = some (.int .i64 0) := (hS.old 8 (by simp)).trans rfl
      have hK' := hK g w' (fun _ _ _ _ _ _ => rfl) (by rw [hfl 9 (by decide)]; exact hR) (.int .i64 0) (by simp only [valO, Option.bind_some]; simp only [putAll, Act.put, List.setIfInBounds_toArray, List.set_cons_zero, List.set_cons_succ]; rfl)
      clear hS hdep hR
      refine gh_quiet (v := .int .i64 0) ?_ ?_
      · (simp only [execOp, Act.eval, o8]; go_simp; first | done | (simp; done) | (simp [*]; done))
      · exact hK'
    | 3, ho, hun, hdep, hK, hfl, _ =>
      obtain rfl := Option.some.inj ho
      have d1 : lp.getD 1 false = true := hdep { on := 1, ground := .data } (by simp) rfl
      have e15 : a'.tmps[15]? = some (.agg #[.int .u64 0, .int .u64 0]) := (hS.don 1 _ 15 rfl d1 rfl).trans (by simp only [putAll, Act.put, List.setIfInBounds_toArray, List.set_cons_zero, List.set_cons_succ]; rfl)
      have d2 : lp.getD 2 false = true := hdep { on := 2, ground := .data } (by simp) rfl
      have e16 : a'.tmps[16]? = some (.int .i64 0) := (hS.don 2 _ 16 rfl d2 rfl).trans (by simp only [putAll, Act.put, List.setIfInBounds_toArray, List.set_cons_zero, List.set_cons_succ]; rfl)
      have KE := KC w'
      clear hdep
      unfold Oper.wp
      simp only [execOp, Act.eval, e15, e16]
      simp [go_sem, e15, e16, Oper.upon]
      refine KE.mono ?_
      rintro e W2 ⟨rfl, hb2⟩
      exact hK g W2 (fun _ _ _ _ _ _ => rfl) (by rw [hfl 9 (by decide)]; exact hR.below hb2) _ (by simp only [valO, Option.bind_some]; simp only [putAll, Act.put, List.setIfInBounds_toArray, List.set_cons_zero, List.set_cons_succ]; rfl)
    | 4, ho, hun, hdep, hK, hfl, _ =>
      obtain rfl := Option.some.inj ho
      have o5 : a'.tmps[5]? = some (.pointer (some ⟨w.heap.size + 1, 0, none⟩)) := (hS.old 5 (by simp)).trans rfl
      have hK' := hK g w' (fun _ _ _ _ _ _ => rfl) (by rw [hfl 9 (by decide)]; exact hR) (.agg #[.int .u64 (hI x), .int .u64 (lI x)]) (by simp only [valO, Option.bind_some]; simp only [putAll, Act.put, List.setIfInBounds_toArray, List.set_cons_zero, List.set_cons_succ]; rfl)
      clear hS hdep hR
      refine gh_quiet (v := .agg #[.int .u64 (hI x), .int .u64 (lI x)]) ?_ ?_
      · (simp only [execOp, Act.eval, o5]; go_simp; first | done | (simp; done) | (simp [*]; done))
      · exact hK'
    | 5, ho, hun, hdep, hK, hfl, _ =>
      obtain rfl := Option.some.inj ho
      have o0 : a'.tmps[0]? = some (.int .i64 F) := (hS.old 0 (by simp)).trans rfl
      have hK' := hK g w' (fun _ _ _ _ _ _ => rfl) (by rw [hfl 9 (by decide)]; exact hR) (.int .i64 F) (by simp only [valO, Option.bind_some]; simp only [putAll, Act.put, List.setIfInBounds_toArray, List.set_cons_zero, List.set_cons_succ]; rfl)
      clear hS hdep hR
      refine gh_quiet (v := .int .i64 F) ?_ ?_
      · (simp only [execOp, Act.eval, o0]; go_simp; first | done | (simp; done) | (simp [*]; done))
      · exact hK'
    | 6, ho, hun, hdep, hK, hfl, _ =>
      obtain rfl := Option.some.inj ho
      have d5 : lp.getD 5 false = true := hdep { on := 5, ground := .data } (by simp) rfl
      have e19 : a'.tmps[19]? = some (.int .i64 F) := (hS.don 5 _ 19 rfl d5 rfl).trans (by simp only [putAll, Act.put, List.setIfInBounds_toArray, List.set_cons_zero, List.set_cons_succ]; rfl)
      have KE := KM w'
      clear hdep
      unfold Oper.wp
      simp only [execOp, Act.eval, e19]
      simp [go_sem, e19, Oper.upon]
      refine KE.mono ?_
      rintro e W2 ⟨rfl, hb2⟩
      exact hK g W2 (fun _ _ _ _ _ _ => rfl) (by rw [hfl 9 (by decide)]; exact hR.below hb2) _ (by simp only [valO, Option.bind_some]; simp only [putAll, Act.put, List.setIfInBounds_toArray, List.set_cons_zero, List.set_cons_succ]; rfl)
    | 7, ho, hun, hdep, hK, hfl, _ =>
      obtain rfl := Option.some.inj ho
      have d4 : lp.getD 4 false = true := hdep { on := 4, ground := .data } (by simp) rfl
      have e18 : a'.tmps[18]? = some (.agg #[.int .u64 (hI x), .int .u64 (lI x)]) := (hS.don 4 _ 18 rfl d4 rfl).trans (by simp only [putAll, Act.put, List.setIfInBounds_toArray, List.set_cons_zero, List.set_cons_succ]; rfl)
      have d6 : lp.getD 6 false = true := hdep { on := 6, ground := .data } (by simp) rfl
      have e20 : a'.tmps[20]? = some (.agg #[.int .u64 (hI mk), .int .u64 (lI mk)]) := (hS.don 6 _ 20 rfl d6 rfl).trans (by simp only [putAll, Act.put, List.setIfInBounds_toArray, List.set_cons_zero, List.set_cons_succ]; rfl)
      have KE := KA w'
      clear hdep
      unfold Oper.wp
      simp only [execOp, Act.eval, e18, e20]
      simp [go_sem, e18, e20, Oper.upon]
      refine KE.mono ?_
      rintro e W2 ⟨rfl, hb2⟩
      exact hK g W2 (fun _ _ _ _ _ _ => rfl) (by rw [hfl 9 (by decide)]; exact hR.below hb2) _ (by simp only [valO, Option.bind_some]; simp only [putAll, Act.put, List.setIfInBounds_toArray, List.set_cons_zero, List.set_cons_succ]; rfl)
    | 8, ho, hun, hdep, hK, hfl, _ =>
      obtain rfl := Option.some.inj ho
      have d3 : lp.getD 3 false = true := hdep { on := 3, ground := .data } (by simp) rfl
      have e17 : a'.tmps[17]? = some (.agg #[.int .u64 0, .int .u64 0, .int .i64 0]) := (hS.don 3 _ 17 rfl d3 rfl).trans (by simp only [putAll, Act.put, List.setIfInBounds_toArray, List.set_cons_zero, List.set_cons_succ]; rfl)
      have o6 : a'.tmps[6]? = some (.pointer (some ⟨w.heap.size + 2, 0, none⟩)) := (hS.old 6 (by simp)).trans rfl
      obtain ⟨z0, z1, z2, f0, f1, f2⟩ := hR.r
      have hK' := hK g _ (fun _ _ _ _ _ _ => rfl) (by rw [hfl 9 (by decide)]; exact hR.stP) undef rfl
      clear hS hdep hR
      unfold Oper.wp
      simp only [hI_zero, lI_zero] at z0 z1
      simp [execOp, Act.eval, e17, o6, go_sem, z0, z1, z2, f0, f1, f2, Oper.upon]
      exact hK'
    | 9, ho, hun, hdep, hK, hfl, _ =>
      obtain rfl := Option.some.inj ho
      have d7 : lp.getD 7 false = true := hdep { on := 7, ground := .data } (by simp) rfl
      have e21 : a'.tmps[21]? = some (.agg #[.int .u64 (hI y), .int .u64 (lI y)]) := (hS.don 7 _ 21 rfl d7 rfl).trans (by simp only [putAll, Act.put, List.setIfInBounds_toArray, List.set_cons_zero, List.set_cons_succ]; rfl)
      have o7 : a'.tmps[7]? = some (.pointer (some ⟨w.heap.size + 3, 0, none⟩)) := (hS.old 7 (by simp)).trans rfl
      rw [hun] at hR
      have hz := hR.s
      simp only [Bool.false_eq_true, if_false] at hz
      obtain ⟨z0, z1, f0, f1, -⟩ := hz
      have hK' := hK g _ (fun _ _ _ _ _ _ => rfl) (by rw [getD_set_same (by rw [hsz]; decide)]; exact hR.stW) undef rfl
      clear hS hdep hR
      unfold Oper.wp
      simp [execOp, Act.eval, e21, o7, go_sem, z0, z1, f0, f1, Oper.upon]
      exact hK'
    | n + 10, ho, hun, hdep, hK, hfl, hq => exact absurd hq (by omega)
  case fin =>
    intro g W2 hR
    have hR : RF w x y true W2 := by simpa using hR
    obtain ⟨r0, r1, r2, -, -, -⟩ := hR.r
    have hs := hR.s
    simp only [if_true] at hs
    obtain ⟨s0, s1, -⟩ := hs
    have HB := hidR hR.bel
    simp only [hI_zero, lI_zero] at r0 r1
    simp only [putAll, Act.put, List.setIfInBounds_toArray, List.set_cons_zero, List.set_cons_succ]
    clear hR
    refine wl_nil (P := Tryd.prog) (ops := #[]) ?_
    go_wp2
    exact bodyPost_ret (v := .tuple #[.agg #[.int .u64 0, .int .u64 0, .int .i64 0], .agg #[.int .u64 (hI y), .int .u64 (lI y)]]) (by simp [results, Tryd.results18, go_sem, r0, r1, r2, s0, s1]) rfl ⟨rfl, HB.out⟩
set_option maxHeartbeats 4000000 in
theorem Fitted_zero (F : Int) (x : BitVec 128) (w : World) (h0 : 0 ≤ F) (h1 : F ≤ 128) :
    Calls Tryd.prog 8 #[.int .i64 F, .agg #[.int .u64 0, .int .u64 0, .int .i64 0], .agg #[.int .u64 (hI x), .int .u64 (lI x)]] w fun e w' => e = .returned (.tuple #[.agg #[.int .u64 0, .int .u64 0, .int .i64 0], .agg #[.int .u64 (hI (x &&& maskW F)), .int .u64 (lI (x &&& maskW F))]]) ∧ Below w.heap.size w w' := by
  have KF := fun w => fitted_zero F x w h0 h1
  have HF1 := hidR (rf_new w x (x &&& maskW F))
  revert KF HF1
  generalize x &&& maskW F = y
  intro KF HF1
  obtain ⟨p0, p1, p2, -, -, -⟩ := HF1.out.p
  obtain ⟨x0, x1, -⟩ := HF1.out.x
  simp only [hI_zero, lI_zero] at p0 p1
  go_enter Tryd.func8, Tryd.ntmps8
  go_wp2_with fail
  refine (KF _).mono ?_
  rintro e w1 ⟨rfl, hb⟩
  have HF := HF1.out.below hb
  obtain ⟨r0, r1, r2, f0, f1, f2⟩ := HF.r
  have hs := HF.s
  simp only [Bool.false_eq_true, if_false] at hs
  obtain ⟨s0, s1, g0, g1, -⟩ := id hs
  have HG := hidR (HF.stP.stW)
  obtain ⟨k0, k1, k2, -, -, -⟩ := HG.out.r
  have hk := HG.out.s
  simp only [if_true] at hk
  obtain ⟨k3, k4, -⟩ := hk
  simp only [hI_zero, lI_zero] at r0 r1 s0 s1 k0 k1
  clear KF hb HF1 HF p0 p1 p2 x0 x1 hs
  go_wp2
  exact bodyPost_ret (v := .tuple #[.agg #[.int .u64 0, .int .u64 0, .int .i64 0], .agg #[.int .u64 (hI y), .int .u64 (lI y)]]) (by simp [results, Tryd.results8, go_sem, k0, k1, k2, k3, k4]) rfl ⟨rfl, HG.out.bel⟩
theorem eqG2_run (x y : BitVec 128) (h : Int) (x' y' : BitVec 128) (h' : Int) (w : World) :
    (Op.equalIn 10000 52 (.agg #[.int .u64 (hI x), .int .u64 (lI x), .int .u64 (hI y), .int .u64 (lI y), .int .i64 h]) (.agg #[.int .u64 (hI x'), .int .u64 (lI x'), .int .u64 (hI y'), .int .u64 (lI y'), .int .i64 h'])).run Tryd.prog w = .ok ((x == x') && (y == y') && (h == h')) w := by
  rcases eqw x x' with ⟨q1, q2, q3⟩ | ⟨q1, q3⟩ | ⟨q1, q2, q3⟩ <;> rcases eqw y y' with ⟨r1, r2, r3⟩ | ⟨r1, r3⟩ | ⟨r1, r2, r3⟩
  all_goals
    rw [q3, r3]
    go_simp
    try simp [*]
    try (by_cases e : h = h' <;> simp [e])
end Go.Proofs.YtonagfmkplbooaaDoor
/-
  The law AlgebraFirst: two tables, an address.
-/
namespace Go.Proofs.YtonagfmkplbooaaDoor
open Go.RowKit
set_option linter.unusedSimpArgs false
set_option linter.unusedVariables false

theorem al_self : ∀ (L : List Sg), ∀ e ∈ al L L, e.2.1 = e.2.2
  | [], e, he => by rw [al] at he; cases he
  | s :: L, e, he => by
    rw [al, if_neg (by omega), if_pos rfl] at he
    rcases List.mem_cons.mp he with q | q
    · rw [q]
    · exact al_self L e q
/-- Two tables lead alike just where their segments are the same. -/
theorem same_segs {F : Int} {l m : List Rte} (z1 : TabE F l 0) (z2 : TabE F m 0) : (frs (al (swp F l) (swp F m))).isSome = !decide (swp F l = swp F m) ∧ Unl F (fun x => look x 0 l) (fun x => look x 0 m) (frs (al (swp F l) (swp F m))) := by
  obtain ⟨hf, n1, hL, hO⟩ := tab_ok z1
  obtain ⟨-, n2, hM, hO2⟩ := tab_ok z2
  obtain ⟨a1, a2⟩ := swp_right F hf l hL hO
  obtain ⟨b1, b2⟩ := swp_right F hf m hM hO2
  have hc := al_all F _ _ _ _ a1 b1 a2 b2
  have hu := chn_unl F _ _ _ _ hc (fun z _ hz => by simp at hz)
  refine ⟨?_, hu⟩
  by_cases h : swp F l = swp F m
  · rw [decide_eq_true h, h, frs_none _ (al_self _)]
    rfl
  · rw [decide_eq_false h]
    cases ho : frs (al (swp F l) (swp F m)) with
    | some a => rfl
    | none =>
      rw [ho] at hu
      exfalso
      refine h (segs_unique F (fun x => look x 0 l) _ _ none none a1 b1 rfl rfl a2 ?_)
      intro s hs x hx h1 h2
      rw [b2 s hs x hx h1 h2]
      exact (hu x hx).symm
theorem right_mask (F : Int) (hf : fam F = true) (x : BitVec 128) : rightE F (x &&& maskW F) = 0 := by
  refine right_of F _ hf ?_
  unfold cutW
  rw [BitVec.and_assoc, BitVec.and_self]
theorem rightT_tab {F : Int} {l : List Rte} (h : RightT F l) : TabE F l 0 := ⟨fun q => absurd h.2.1 q, fun _ => .inl ⟨h.2.2, rfl⟩⟩
def FC (w1 : World) (T0 N : Nat) (F : Int) (v u : Value) (x pt : BitVec 128) (W : World) : Prop := AtT W T0 F v ∧ AtT W (T0 + 1) F u ∧ (W.cell? ⟨T0 + 2, 0, none⟩ = some (.int .u64 (hI x)) ∧ W.cell? ⟨T0 + 2, 1, none⟩ = some (.int .u64 (lI x))) ∧ (W.cell? ⟨N, 0, none⟩ = some (.int .u64 (hI pt)) ∧ W.cell? ⟨N, 1, none⟩ = some (.int .u64 (lI pt))) ∧ Below w1.heap.size w1 W
theorem FC.below {w1 : World} {T0 N : Nat} {F : Int} {v u : Value} {x pt : BitVec 128} {W W' : World} (k : FC w1 T0 N F v u x pt W) (hb : Below W.heap.size W W') : FC w1 T0 N F v u x pt W' := ⟨k.1.below hb, k.2.1.below hb, ⟨keepc hb k.2.2.1.1, keepc hb k.2.2.1.2⟩, ⟨keepc hb k.2.2.2.1.1, keepc hb k.2.2.2.1.2⟩, keepb hb k.2.2.2.2⟩
end Go.Proofs.YtonagfmkplbooaaDoor
/-
  What the calls of package algebra's Over, Less and Only tell of right tables, and the law's even.
-/
namespace Go.Proofs.YtonagfmkplbooaaDoor
open Go.RowKit
set_option linter.unusedSimpArgs false
set_option linter.unusedVariables false

/-- A call that tells a right table, and no error. -/
def TellsT (w : World) (F : Int) (M : List Rte) (e : Ending) (w' : World) : Prop := (∃ v', e = .returned (.tuple #[.agg #[.int .i64 F, v'], .int .i64 0]) ∧ w'.ownsRow w.heap.size 50 4 v' M.length (rowR M)) ∧ Below w.heap.size w w'
theorem twoE_ok {F : Int} {R S : List Rte} (a : TabE F R 0) (b : TabE F S 0) : TwoE F R F S 0 := ⟨0, a, .inr ⟨rfl, 0, b, .inr ⟨rfl, .inr ⟨rfl, rfl⟩⟩⟩⟩
theorem over_led {F : Int} {rs R S : List Rte} {f g : BitVec 128 → Int} (a : Led F rs f R) (b : Led F rs g S) (hL : ∀ r ∈ rs, Ro F r) (hn : rs.length ≤ 9000) :
    ∃ M, Led F rs (fun x => qOver (f x) (g x)) M ∧ ∀ (v u : Value) (w : World), Tab w → RwR w v R → RwR w u S → Calls Tryd.prog 9 #[.agg #[.int .i64 F, v], .agg #[.int .i64 F, u]] w (TellsT w F M) := by
  obtain ⟨e1, e2, e3, hM⟩ := led_mix qk_over a b hL hn
  refine ⟨_, hM, fun v u w hT hv hu => (over_any F v R F u S w hT hv hu).mono ?_⟩
  rintro e w' ⟨⟨z, v', hz, rfl, hown⟩, hb⟩
  obtain rfl := twoE_one hz (twoE_ok a.tab b.tab)
  rw [OfV, if_pos rfl, e1, e2, e3] at *
  exact ⟨⟨v', rfl, hown⟩, hb⟩
theorem less_led {F : Int} {rs R S : List Rte} {f g : BitVec 128 → Int} (a : Led F rs f R) (b : Led F rs g S) (hL : ∀ r ∈ rs, Ro F r) (hn : rs.length ≤ 9000) :
    ∃ M, Led F rs (fun x => qLess (f x) (g x)) M ∧ ∀ (v u : Value) (w : World), Tab w → RwR w v R → RwR w u S → Calls Tryd.prog 10 #[.agg #[.int .i64 F, v], .agg #[.int .i64 F, u]] w (TellsT w F M) := by
  obtain ⟨e1, e2, e3, hM⟩ := led_mix qk_less a b hL hn
  refine ⟨_, hM, fun v u w hT hv hu => (less_any F v R F u S w hT hv hu).mono ?_⟩
  rintro e w' ⟨⟨z, v', hz, rfl, hown⟩, hb⟩
  obtain rfl := twoE_one hz (twoE_ok a.tab b.tab)
  rw [OfV, if_pos rfl, e1, e2, e3] at *
  exact ⟨⟨v', rfl, hown⟩, hb⟩
theorem only_led {F : Int} {rs R : List Rte} {f : BitVec 128 → Int} {px : BitVec 128} {pn : Int} (a : Led F rs f R) (hp : checkE F px pn = 0) (hm : ((px, pn), 1) ∈ rs) (hL : ∀ r ∈ rs, Ro F r) (hn : rs.length ≤ 9000) :
    ∃ M, Led F rs (fun x => if cutW x pn = px then f x else 0) M ∧ ∀ (v : Value) (w : World), Tab w → RwR w v R → Calls Tryd.prog 11 #[.agg #[.int .i64 F, v], .agg #[.int .u64 (hI px), .int .u64 (lI px), .int .i64 pn]] w (TellsT w F M) := by
  obtain ⟨e1, e2, e3, hM⟩ := led_mix qk_only a (led_table (rs := rs) (one_tab hp) (fun r hr => by simp at hr; rw [hr]; exact hm)) hL hn
  have hfun : (fun x => qOnly (f x) (look x 0 [((px, pn), 1)])) = (fun x => if cutW x pn = px then f x else 0) := funext fun x => only_eq px px pn x (f x)
  rw [hfun] at hM
  refine ⟨_, hM, fun v w hT hv => (only_any F v R px pn w hT hv).mono ?_⟩
  rintro e w' ⟨⟨z, v', hz, rfl, hown⟩, hb⟩
  obtain rfl := onE_one hz ⟨0, a.tab, .inr ⟨rfl, hp.symm⟩⟩
  rw [OnV, if_pos rfl, e1, e2, e3] at *
  exact ⟨⟨v', rfl, hown⟩, hb⟩
set_option maxHeartbeats 4000000 in
theorem even_any {F : Int} {R S : List Rte} (a : TabE F R 0) (b : TabE F S 0) (he : swp F R = swp F S) (v u : Value) (w : World) (hv : RwR w v R) (hu : RwR w u S) :
    Calls Tryd.prog 14 #[.agg #[.int .i64 F, v], .agg #[.int .i64 F, u]] w fun e w' => e = .returned (.bool true) ∧ Below w.heap.size w w' := by
  have q1 := bl1 w (.cells #[.int .i64 F, v] 24)
  have q2 := bl1 (w.alloc (.cells #[.int .i64 F, v] 24)) (.cells #[.int .i64 F, u] 24)
  have HT := hidR ((att_new w w.heap.size F v 24 rfl).below q2)
  have HU := hidR (att_new (w.alloc (.cells #[.int .i64 F, v] 24)) (w.heap.size + 1) F u 24 (by simp))
  have HB := hidR (keepb q2 q1)
  have HO : Hid (frs (al (swp F R) (swp F S)) = none) := hidR (by rw [he]; exact frs_none _ (al_self _))
  have HZ := hidR (twoE_ok a b)
  have K1 := fun W hW => equal_any F v R F u S W (hv.below (W := w) (W' := W) hW) (hu.below hW)
  have K2 := fun W hW => unlike_any F v R F u S W (hv.below (W := w) (W' := W) hW) (hu.below hW)
  have K1' := K1 _ HB.out
  obtain ⟨ao, c, rfl, -⟩ := hv
  obtain ⟨bo, d, rfl, -⟩ := hu
  obtain ⟨t0, t1⟩ := HT.out
  obtain ⟨y0, y1⟩ := HU.out
  clear q1 q2 K1 a b he
  go_enter Tryd.func14, Tryd.ntmps14
  go_wp2_with fail
  refine K1'.mono ?_
  rintro e w1 ⟨⟨z, o, hz, h1, -, rfl⟩, hb⟩
  obtain rfl := twoE_one hz HZ.out
  have eo := (h1 rfl).trans HO.out
  subst eo
  have HB1 := hidR (keepb hb HB.out)
  have HT1 := hidR (HT.out.below hb)
  have HU1 := hidR (HU.out.below hb)
  have K2' := K2 _ HB1.out
  clear K1' K2 hb hz h1 HB HT HU t0 t1 y0 y1
  obtain ⟨t0, t1⟩ := HT1.out
  obtain ⟨y0, y1⟩ := HU1.out
  go_wp2_with fail
  refine K2'.mono ?_
  rintro e w2 ⟨⟨z, o, hz, h1, -, rfl⟩, hb⟩
  obtain rfl := twoE_one hz HZ.out
  have eo := (h1 rfl).trans HO.out
  subst eo
  have HB2 := hidR (keepb (bl1 w2 (.cells #[.int .u64 (hI ((none : Option (BitVec 128)).getD 0#128)), .int .u64 (lI ((none : Option (BitVec 128)).getD 0#128))] 27)) (keepb hb HB1.out))
  clear K2' hb hz h1 HB1 HT1 HU1 t0 t1 y0 y1
  go_wp2
  go_ret
  exact ⟨rfl, HB2.out⟩
end Go.Proofs.YtonagfmkplbooaaDoor
