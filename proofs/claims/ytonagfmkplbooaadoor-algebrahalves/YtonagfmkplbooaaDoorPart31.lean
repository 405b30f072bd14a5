/-
  Part 31 of the proof: 3 texts, one behind the other.
-/
import Derived.Test.YtonagfmkplbooaaDoorPart30
import Derived.Test.YtonagfmkplbooaaDoorPart5
import Derived.Test.YtonagfmkplbooaaDoorPart29
/-
  What the calls of the law's within, fitted and Fitted of any prefix and address do.
-/
namespace Go.Proofs.YtonagfmkplbooaaDoor
open Go.RowKit
set_option linter.unusedSimpArgs false
set_option linter.unusedVariables false

set_option maxHeartbeats 1000000 in
theorem within5_any (a n : Int) (w : World) (h0 : 0 < n) (h1 : n ≤ 9223372036854775807) :
    Calls Tryd.prog 36 #[.int .i64 a, .int .i64 n] w fun e w' => e = .returned (.int .i64 (a % n)) ∧ w' = w := by
  have b1 := Int.emod_nonneg a (b := n) (by omega)
  have b2 := Int.emod_lt_of_pos a h0
  have hn0 : ¬ n = 0 := by omega
  have hnb : (n == 0) = false := by simp; omega
  rcases tmod_ways a n h0 with ⟨c, e⟩ | ⟨c, e⟩
  · have hw : IntKind.i64.wrap (a.tmod n) = a.tmod n := by rw [IntKind.wrap_i64]; omega
    have hw2 : IntKind.i64.wrap (a.tmod n + n) = a.tmod n + n := by rw [IntKind.wrap_i64]; omega
    rw [← e]
    clear e b1 b2
    go_enter Tryd.func36, Tryd.ntmps36
    go_wp2
    go_ret
    exact ⟨rfl, rfl⟩
  · have hw : IntKind.i64.wrap (a.tmod n) = a.tmod n := by rw [IntKind.wrap_i64]; omega
    rw [← e]
    clear e b1 b2
    go_enter Tryd.func36, Tryd.ntmps36
    go_wp2
    go_ret
    exact ⟨rfl, rfl⟩
structure RG (w : World) (px : BitVec 128) (pn : Int) (x cx : BitVec 128) (pk : Int) (y : BitVec 128) (f8 f9 : Bool) (W : World) : Prop where
  p : AtP W w.heap.size px pn
  x : At W (w.heap.size + 1) x
  r : if f8 = true then AtP W (w.heap.size + 2) cx pk else AtP W (w.heap.size + 2) 0#128 0
  s : if f9 = true then At W (w.heap.size + 3) y else At W (w.heap.size + 3) 0#128
  bel : Below w.heap.size w W
section
variable {w : World} {px : BitVec 128} {pn : Int} {x cx : BitVec 128} {pk : Int} {y : BitVec 128} {f8 f9 : Bool} {W W' : World}
theorem RG.below (k : RG w px pn x cx pk y f8 f9 W) (hb : Below W.heap.size W W') : RG w px pn x cx pk y f8 f9 W' :=
  ⟨k.p.below hb, k.x.below hb, (by have := k.r; cases f8 <;> simp at this ⊢ <;> exact this.below hb), (by have := k.s; cases f9 <;> simp at this ⊢ <;> exact this.below hb), keepb hb k.bel⟩
theorem RG.drew (k : RG w px pn x cx pk y f8 f9 W) : RG w px pn x cx pk y f8 f9 W.drew := k.below (below_drewN (Below.refl _ _) 1)
theorem AtP.set3 {B : Nat} (k : AtP W B px pn) (z : BitVec 128) (n : Int) : AtP (((W.setCell ⟨B, 0, none⟩ (.int .u64 (hI z))).setCell ⟨B, 1, none⟩ (.int .u64 (lI z))).setCell ⟨B, 2, none⟩ (.int .i64 n)) B z n := by
  obtain ⟨c0, c1, c2, f0, f1, f2⟩ := k
  refine ⟨?_, ?_, ?_, ?_, ?_, ?_⟩ <;> simp [go_sem, *]
theorem RG.stP (k : RG w px pn x cx pk y false f9 W) : RG w px pn x cx pk y true f9 (((W.setCell ⟨w.heap.size + 2, 0, none⟩ (.int .u64 (hI cx))).setCell ⟨w.heap.size + 2, 1, none⟩ (.int .u64 (lI cx))).setCell ⟨w.heap.size + 2, 2, none⟩ (.int .i64 pk)) := by
  have hsz : W.heap.size ≤ (((W.setCell ⟨w.heap.size + 2, 0, none⟩ (.int .u64 (hI cx))).setCell ⟨w.heap.size + 2, 1, none⟩ (.int .u64 (lI cx))).setCell ⟨w.heap.size + 2, 2, none⟩ (.int .i64 pk)).heap.size := by simp
  have h : ∀ z, z ≠ w.heap.size + 2 → (((W.setCell ⟨w.heap.size + 2, 0, none⟩ (.int .u64 (hI cx))).setCell ⟨w.heap.size + 2, 1, none⟩ (.int .u64 (lI cx))).setCell ⟨w.heap.size + 2, 2, none⟩ (.int .i64 pk)).heap[z]? = W.heap[z]? := fun z hz => by rw [hSet _ hz, hSet _ hz, hSet _ hz]
  have hr := k.r
  simp at hr
  refine ⟨k.p.heapE (h _ (by omega)), k.x.heap (h _ (by omega)) hsz, by rw [if_pos rfl]; exact hr.set3 cx pk, ?_, ((k.bel.setCell (p := ⟨w.heap.size + 2, 0, none⟩) (by simp) _).setCell (p := ⟨w.heap.size + 2, 1, none⟩) (by simp) _).setCell (p := ⟨w.heap.size + 2, 2, none⟩) (by simp) _⟩
  have := k.s
  cases f9 <;> simp at this ⊢ <;> exact this.heap (h _ (by omega)) hsz
theorem RG.stW (k : RG w px pn x cx pk y f8 false W) : RG w px pn x cx pk y f8 true ((W.setCell ⟨w.heap.size + 3, 0, none⟩ (.int .u64 (hI y))).setCell ⟨w.heap.size + 3, 1, none⟩ (.int .u64 (lI y))) := by
  have hsz : W.heap.size ≤ ((W.setCell ⟨w.heap.size + 3, 0, none⟩ (.int .u64 (hI y))).setCell ⟨w.heap.size + 3, 1, none⟩ (.int .u64 (lI y))).heap.size := by simp
  have h : ∀ z, z ≠ w.heap.size + 3 → ((W.setCell ⟨w.heap.size + 3, 0, none⟩ (.int .u64 (hI y))).setCell ⟨w.heap.size + 3, 1, none⟩ (.int .u64 (lI y))).heap[z]? = W.heap[z]? := fun z hz => by rw [hSet _ hz, hSet _ hz]
  have hs := k.s
  simp at hs
  refine ⟨k.p.heapE (h _ (by omega)), k.x.heap (h _ (by omega)) hsz, ?_, by rw [if_pos rfl]; exact hs.setE y, (k.bel.setCell (p := ⟨w.heap.size + 3, 0, none⟩) (by simp) _).setCell (p := ⟨w.heap.size + 3, 1, none⟩) (by simp) _⟩
  have := k.r
  cases f8 <;> simp at this ⊢ <;> exact this.heapE (h _ (by omega))
theorem rg_new (w : World) (px : BitVec 128) (pn : Int) (x cx : BitVec 128) (pk : Int) (y : BitVec 128) : RG w px pn x cx pk y false false ((((w.alloc (.cells #[.int .u64 (hI px), .int .u64 (lI px), .int .i64 pn] 29)).alloc (.cells #[.int .u64 (hI x), .int .u64 (lI x)] 27)).alloc (.cells #[.int .u64 0, .int .u64 0, .int .i64 0] 29)).alloc (.cells #[.int .u64 0, .int .u64 0] 27)) := by
  have b1 := bl1 w (.cells #[.int .u64 (hI px), .int .u64 (lI px), .int .i64 pn] 29)
  have a1 := atp_new w w.heap.size px pn 29 rfl
  revert b1 a1
  generalize h1 : w.alloc (.cells #[.int .u64 (hI px), .int .u64 (lI px), .int .i64 pn] 29) = w1
  have s1 : w1.heap.size = w.heap.size + 1 := by rw [← h1]; simp
  clear h1
  intro b1 a1
  have b2 := bl1 w1 (.cells #[.int .u64 (hI x), .int .u64 (lI x)] 27)
  have a2 := at_new w1 (w.heap.size + 1) x 27 s1.symm
  revert b2 a2
  generalize h2 : w1.alloc (.cells #[.int .u64 (hI x), .int .u64 (lI x)] 27) = w2
  have s2 : w2.heap.size = w.heap.size + 2 := by rw [← h2]; simp [s1]
  clear h2
  intro b2 a2
  have b3 := bl1 w2 (.cells #[.int .u64 0, .int .u64 0, .int .i64 0] 29)
  have a3 := atp_new w2 (w.heap.size + 2) 0#128 0 29 s2.symm
  rw [hI_zero, lI_zero] at a3
  revert b3 a3
  generalize h3 : w2.alloc (.cells #[.int .u64 0, .int .u64 0, .int .i64 0] 29) = w3
  have s3 : w3.heap.size = w.heap.size + 3 := by rw [← h3]; simp [s2]
  clear h3
  intro b3 a3
  have b4 := bl1 w3 (.cells #[.int .u64 0, .int .u64 0] 27)
  have a4 := at_new w3 (w.heap.size + 3) 0#128 27 s3.symm
  rw [hI_zero, lI_zero] at a4
  exact ⟨((a1.below b2).below b3).below b4, (a2.below b3).below b4, by simp; exact a3.below b4, by simp; exact a4, keepb b4 (keepb b3 (keepb b2 b1))⟩
end
set_option maxRecDepth 20000 in
set_option maxHeartbeats 8000000 in
theorem fitted5_any (F : Int) (px : BitVec 128) (pn : Int) (x : BitVec 128) (w : World) (h0 : 0 ≤ F) (h1 : F ≤ 128) :
    Calls Tryd.prog 18 #[.int .i64 F, .agg #[.int .u64 (hI px), .int .u64 (lI px), .int .i64 pn], .agg #[.int .u64 (hI x), .int .u64 (lI x)]] w fun e w' => e = .returned (.tuple #[.agg #[.int .u64 (hI (cutW px (pn % (F + 1)))), .int .u64 (lI (cutW px (pn % (F + 1)))), .int .i64 (pn % (F + 1))], .agg #[.int .u64 (hI (x &&& maskW F)), .int .u64 (lI (x &&& maskW F))]]) ∧ Below w.heap.size w w' := by
  have KW := fun w => within5_any pn (F + 1) w (by omega) (by omega)
  have KC := fun w => rcut_any px (pn % (F + 1)) w
  have KM := fun w => rmask_any F w
  have KA := fun w => rand_any x (maskW F) w
  have HF1 := hidR (rg_new w px pn x (cutW px (pn % (F + 1))) (pn % (F + 1)) (x &&& maskW F))
  revert KW KC KM KA HF1
  generalize x &&& maskW F = y
  generalize maskW F = mk
  generalize cutW px (pn % (F + 1)) = cx
  generalize pn % (F + 1) = pk
  intro KW KC KM KA HF1
  have mF : IntKind.i64.wrap (F + 1) = F + 1 := by rw [IntKind.wrap_i64]; omega
  obtain ⟨p0, p1, p2, -, -, -⟩ := HF1.out.p
  go_enter Tryd.func18, Tryd.ntmps18
  go_wp2_with fail
  refine (KW _).mono ?_
  rintro e w1 ⟨rfl, hb⟩
  have HF := hidR (HF1.out.below (W' := w1) (by rw [hb]; exact Below.refl _ _))
  clear KW hb HF1 p0 p1 p2
  go_wp2_with fail
  refine gh_region (γ := Unit) (qpOk 10 10 (by decide) (fun N => by kernel_rfl) (by kernel_rfl) (by kernel_rfl) (by kernel_rfl) (by kernel_rfl)) (by kernel_rfl) (by kernel_rfl) [some 14, some 15, some 16, some 17, some 18, some 19, some 20, some 21, none, none] (fun g => [.pointer (some ⟨w.heap.size, 0, none⟩), .agg #[.int .u64 (hI px), .int .u64 (lI px)], .int .i64 pk, .agg #[.int .u64 (hI cx), .int .u64 (lI cx), .int .i64 pk], .agg #[.int .u64 (hI x), .int .u64 (lI x)], .int .i64 F, .agg #[.int .u64 (hI mk), .int .u64 (lI mk)], .agg #[.int .u64 (hI y), .int .u64 (lI y)], undef, undef]) (by kernel_rfl) (by simp) (fun lp g W => RG w px pn x cx pk y (lp.getD 8 false) (lp.getD 9 false) W) () (by simpa using HF.out.drew) ?step ?fin
  case step =>
    intro q o lp g w' a' ho hsz hun hdep hR hS K Q' hK
    have hfl : ∀ j, j ≠ q → (lp.setIfInBounds q true).getD j false = lp.getD j false := fun j hj => by rw [Array.getD_eq_getD_getElem?, Array.getD_eq_getD_getElem?, Array.getElem?_setIfInBounds_ne (by omega)]
    have hq : q < 10 := (List.getElem?_eq_some_iff.mp ho).1
    obtain ⟨p0, p1, p2, -, -, -⟩ := hR.p
    obtain ⟨x0, x1, -⟩ := hR.x
    match q, ho, hun, hdep, hK, hfl, hq with
    | 0, ho, hun, hdep, hK, hfl, _ =>
      obtain rfl := Option.some.inj ho
      have o4 : a'.tmps[4]? = some (.pointer (some ⟨w.heap.size, 0, none⟩)) := (hS.old 4 (by simp)).trans rfl
      have hK' := hK g w' (fun _ _ _ _ _ _ => rfl) (by rw [hfl 8 (by decide), hfl 9 (by decide)]; exact hR) (.pointer (some ⟨w.heap.size, 0, none⟩)) (by simp only [valO, Option.bind_some]; simp only [putAll, Act.put, List.setIfInBounds_toArray, List.set_cons_zero, List.set_cons_succ]; rfl)
      clear hS hdep hR
      refine gh_quiet (v := .pointer (some ⟨w.heap.size, 0, none⟩)) ?_ ?_
      · (simp only [execOp, Act.eval, o4]; go_simp; first | done | (simp; done) | (simp [*]; done))
      · exact hK'
    | 1, ho, hun, hdep, hK, hfl, _ =>
      obtain rfl := Option.some.inj ho
      have d0 : lp.getD 0 false = true := hdep { on := 0, ground := .data } (by simp) rfl
      have e14 : a'.tmps[14]? = some (.pointer (some ⟨w.heap.size, 0, none⟩)) := (hS.don 0 _ 14 rfl d0 rfl).trans (by simp only [putAll, Act.put, List.setIfInBounds_toArray, List.set_cons_zero, List.set_cons_succ]; rfl)
      have hK' := hK g w' (fun _ _ _ _ _ _ => rfl) (by rw [hfl 8 (by decide), hfl 9 (by decide)]; exact hR) (.agg #[.int .u64 (hI px), .int .u64 (lI px)]) (by simp only [valO, Option.bind_some]; simp only [putAll, Act.put, List.setIfInBounds_toArray, List.set_cons_zero, List.set_cons_succ]; rfl)
      clear hS hdep hR
      refine gh_quiet (v := .agg #[.int .u64 (hI px), .int .u64 (lI px)]) ?_ ?_
      · (simp only [execOp, Act.eval, e14]; go_simp; first | done | (simp; done) | (simp [*]; done))
      · exact hK'
    | 2, ho, hun, hdep, hK, hfl, _ =>
      obtain rfl := Option.some.inj ho
      have o8 : a'.tmps[8]? = some (.int .i64 pk) := (hS.old 8 (by simp)).trans rfl
      have hK' := hK g w' (fun _ _ _ _ _ _ => rfl) (by rw [hfl 8 (by decide), hfl 9 (by decide)]; exact hR) (.int .i64 pk) (by simp only [valO, Option.bind_some]; simp only [putAll, Act.put, List.setIfInBounds_toArray, List.set_cons_zero, List.set_cons_succ]; rfl)
      clear hS hdep hR
      refine gh_quiet (v := .int .i64 pk) ?_ ?_
      · (simp only [execOp, Act.eval, o8]; go_simp; first | done | (simp; done) | (simp [*]; done))
      · exact hK'
    | 3, ho, hun, hdep, hK, hfl, _ =>
      obtain rfl := Option.some.inj ho
      have d1 : lp.getD 1 false = true := hdep { on := 1, ground := .data } (by simp) rfl
      have e15 : a'.tmps[15]? = some (.agg #[.int .u64 (hI px), .int .u64 (lI px)]) := (hS.don 1 _ 15 rfl d1 rfl).trans (by simp only [putAll, Act.put, List.setIfInBounds_toArray, List.set_cons_zero, List.set_cons_succ]; rfl)
      have d2 : lp.getD 2 false = true := hdep { on := 2, ground := .data } (by simp) rfl
      have e16 : a'.tmps[16]? = some (.int .i64 pk) := (hS.don 2 _ 16 rfl d2 rfl).trans (by simp only [putAll, Act.put, List.setIfInBounds_toArray, List.set_cons_zero, List.set_cons_succ]; rfl)
      have KE := KC w'
      clear hdep
      unfold Oper.wp
      simp only [execOp, Act.eval, e15, e16]
      simp [go_sem, e15, e16, Oper.upon]
      refine KE.mono ?_
      rintro e W2 ⟨rfl, hb2⟩
      exact hK g W2 (fun _ _ _ _ _ _ => rfl) (by rw [hfl 8 (by decide), hfl 9 (by decide)]; exact hR.below hb2) _ (by simp only [valO, Option.bind_some]; simp only [putAll, Act.put, List.setIfInBounds_toArray, List.set_cons_zero, List.set_cons_succ]; rfl)
    | 4, ho, hun, hdep, hK, hfl, _ =>
      obtain rfl := Option.some.inj ho
      have o5 : a'.tmps[5]? = some (.pointer (some ⟨w.heap.size + 1, 0, none⟩)) := (hS.old 5 (by simp)).trans rfl
      have hK' := hK g w' (fun _ _ _ _ _ _ => rfl) (by rw [hfl 8 (by decide), hfl 9 (by decide)]; exact hR) (.agg #[.int .u64 (hI x), .int .u64 (lI x)]) (by simp only [valO, Option.bind_some]; simp only [putAll, Act.put, List.setIfInBounds_toArray, List.set_cons_zero, List.set_cons_succ]; rfl)
      clear hS hdep hR
      refine gh_quiet (v := .agg #[.int .u64 (hI x), .int .u64 (lI x)]) ?_ ?_
      · (simp only [execOp, Act.eval, o5]; go_simp; first | done | (simp; done) | (simp [*]; done))
      · exact hK'
    | 5, ho, hun, hdep, hK, hfl, _ =>
      obtain rfl := Option.some.inj ho
      have o0 : a'.tmps[0]? = some (.int .i64 F) := (hS.old 0 (by simp)).trans rfl
      have hK' := hK g w' (fun _ _ _ _ _ _ => rfl) (by rw [hfl 8 (by decide), hfl 9 (by decide)]; exact hR) (.int .i64 F) (by simp only [valO, Option.bind_some]; simp only [putAll, Act.put, List.setIfInBounds_toArray, List.set_cons_zero, List.set_cons_succ]; rfl)
      clear hS hdep hR
      refine gh_quiet (v := .int .i64 F) ?_ ?_
      · (simp only [execOp, Act.eval, o0]; go_simp; first | done | (simp; done) | (simp [*]; done))
      · exact hK'
    | 6, ho, hun, hdep, hK, hfl, _ =>
      obtain rfl := Option.some.inj ho
      have d5 : lp.getD 5 false = true := hdep { on := 5, ground := .data } (by simp) rfl
      have e19 : a'.tmps[19]? = some (.int .i64 F) := (hS.don 5 _ 19 rfl d5 rfl).trans (by simp only [putAll, Act.put, List.setIfInBounds_toArray, List.set_cons_zero, List.set_cons_succ]; rfl)
      have KE := KM w'
      clear hdep
      unfold Oper.wp
      simp only [execOp, Act.eval, e19]
      simp [go_sem, e19, Oper.upon]
      refine KE.mono ?_
      rintro e W2 ⟨rfl, hb2⟩
      exact hK g W2 (fun _ _ _ _ _ _ => rfl) (by rw [hfl 8 (by decide), hfl 9 (by decide)]; exact hR.below hb2) _ (by simp only [valO, Option.bind_some]; simp only [putAll, Act.put, List.setIfInBounds_toArray, List.set_cons_zero, List.set_cons_succ]; rfl)
    | 7, ho, hun, hdep, hK, hfl, _ =>
      obtain rfl := Option.some.inj ho
      have d4 : lp.getD 4 false = true := hdep { on := 4, ground := .data } (by simp) rfl
      have e18 : a'.tmps[18]? = some (.agg #[.int .u64 (hI x), .int .u64 (lI x)]) := (hS.don 4 _ 18 rfl d4 rfl).trans (by simp only [putAll, Act.put, List.setIfInBounds_toArray, List.set_cons_zero, List.set_cons_succ]; rfl)
      have d6 : lp.getD 6 false = true := hdep { on := 6, ground := .data } (by simp) rfl
      have e20 : a'.tmps[20]? = some (.agg #[.int .u64 (hI mk), .int .u64 (lI mk)]) := (hS.don 6 _ 20 rfl d6 rfl).trans (by simp only [putAll, Act.put, List.setIfInBounds_toArray, List.set_cons_zero, List.set_cons_succ]; rfl)
      have KE := KA w'
      clear hdep
      unfold Oper.wp
      simp only [execOp, Act.eval, e18, e20]
      simp [go_sem, e18, e20, Oper.upon]
      refine KE.mono ?_
      rintro e W2 ⟨rfl, hb2⟩
      exact hK g W2 (fun _ _ _ _ _ _ => rfl) (by rw [hfl 8 (by decide), hfl 9 (by decide)]; exact hR.below hb2) _ (by simp only [valO, Option.bind_some]; simp only [putAll, Act.put, List.setIfInBounds_toArray, List.set_cons_zero, List.set_cons_succ]; rfl)
    | 8, ho, hun, hdep, hK, hfl, _ =>
      obtain rfl := Option.some.inj ho
      have d3 : lp.getD 3 false = true := hdep { on := 3, ground := .data } (by simp) rfl
      have e17 : a'.tmps[17]? = some (.agg #[.int .u64 (hI cx), .int .u64 (lI cx), .int .i64 pk]) := (hS.don 3 _ 17 rfl d3 rfl).trans (by simp only [putAll, Act.put, List.setIfInBounds_toArray, List.set_cons_zero, List.set_cons_succ]; rfl)
      have o6 : a'.tmps[6]? = some (.pointer (some ⟨w.heap.size + 2, 0, none⟩)) := (hS.old 6 (by simp)).trans rfl
      rw [hun] at hR
      have hz := hR.r
      simp only [Bool.false_eq_true, if_false] at hz
      obtain ⟨z0, z1, z2, f0, f1, f2⟩ := hz
      have hK' := hK g _ (fun _ _ _ _ _ _ => rfl) (by rw [hfl 9 (by decide), getD_set_same (by rw [hsz]; decide)]; exact hR.stP) undef rfl
      clear hS hdep hR
      unfold Oper.wp
      simp [execOp, Act.eval, e17, o6, go_sem, z0, z1, z2, f0, f1, f2, Oper.upon]
      exact hK'
    | 9, ho, hun, hdep, hK, hfl, _ =>
      obtain rfl := Option.some.inj ho
      have d7 : lp.getD 7 false = true := hdep { on := 7, ground := .data } (by simp) rfl
      have e21 : a'.tmps[21]? = some (.agg #[.int .u64 (hI y), .int .u64 (lI y)]) := (hS.don 7 _ 21 rfl d7 rfl).trans (by simp only [putAll, Act.put, List.setIfInBounds_toArray, List.set_cons_zero, List.set_cons_succ]; rfl)
      have o7 : a'.tmps[7]? = some (.pointer (some ⟨w.heap.size + 3, 0, none⟩)) := (hS.old 7 (by simp)).trans rfl
      rw [hun] at hR
      have hz := hR.s
      simp only [Bool.false_eq_true, if_false] at hz
      obtain ⟨z0, z1, f0, f1, -⟩ := hz
      have hK' := hK g _ (fun _ _ _ _ _ _ => rfl) (by rw [hfl 8 (by decide), getD_set_same (by rw [hsz]; decide)]; exact hR.stW) undef rfl
      clear hS hdep hR
      unfold Oper.wp
      simp [execOp, Act.eval, e21, o7, go_sem, z0, z1, f0, f1, Oper.upon]
      exact hK'
    | n + 10, ho, hun, hdep, hK, hfl, hq => exact absurd hq (by omega)
  case fin =>
    intro g W2 hR
    have hR : RG w px pn x cx pk y true true W2 := by simpa using hR
    have hr := hR.r
    simp only [if_true] at hr
    obtain ⟨r0, r1, r2, -, -, -⟩ := hr
    have hs := hR.s
    simp only [if_true] at hs
    obtain ⟨s0, s1, -⟩ := hs
    have HB := hidR hR.bel
    simp only [putAll, Act.put, List.setIfInBounds_toArray, List.set_cons_zero, List.set_cons_succ]
    clear hR
    refine wl_nil (P := Tryd.prog) (ops := #[]) ?_
    go_wp2
    exact bodyPost_ret (v := .tuple #[.agg #[.int .u64 (hI cx), .int .u64 (lI cx), .int .i64 pk], .agg #[.int .u64 (hI y), .int .u64 (lI y)]]) (by simp [results, Tryd.results18, go_sem, r0, r1, r2, s0, s1]) rfl ⟨rfl, HB.out⟩

set_option maxHeartbeats 2000000 in
theorem Fitted5_any (F : Int) (px : BitVec 128) (pn : Int) (x : BitVec 128) (w : World) (h0 : 0 ≤ F) (h1 : F ≤ 128) :
    Calls Tryd.prog 8 #[.int .i64 F, .agg #[.int .u64 (hI px), .int .u64 (lI px), .int .i64 pn], .agg #[.int .u64 (hI x), .int .u64 (lI x)]] w fun e w' => e = .returned (.tuple #[.agg #[.int .u64 (hI (cutW px (pn % (F + 1)))), .int .u64 (lI (cutW px (pn % (F + 1)))), .int .i64 (pn % (F + 1))], .agg #[.int .u64 (hI (x &&& maskW F)), .int .u64 (lI (x &&& maskW F))]]) ∧ Below w.heap.size w w' := by
  have KW := fun w => fitted5_any F px pn x w h0 h1
  have HF1 := hidR (rg_new w px pn x (cutW px (pn % (F + 1))) (pn % (F + 1)) (x &&& maskW F))
  revert KW HF1
  generalize x &&& maskW F = y
  generalize cutW px (pn % (F + 1)) = cx
  generalize pn % (F + 1) = pk
  intro KW HF1
  obtain ⟨p0, p1, p2, -, -, -⟩ := HF1.out.p
  obtain ⟨x0, x1, -⟩ := HF1.out.x
  go_enter Tryd.func8, Tryd.ntmps8
  go_wp2_with fail
  refine (KW _).mono ?_
  rintro e w1 ⟨rfl, hb⟩
  have HF := HF1.out.below hb
  have hz := HF.r
  have hz' := HF.s
  simp only [Bool.false_eq_true, if_false] at hz hz'
  obtain ⟨z0, z1, z2, f0, f1, f2⟩ := hz
  obtain ⟨u0, u1, g0, g1, -⟩ := hz'
  have hR := HF.stP.stW
  have hr := hR.r
  have hs := hR.s
  simp only [if_true] at hr hs
  obtain ⟨r0, r1, r2, -, -, -⟩ := hr
  obtain ⟨s0, s1, -⟩ := hs
  have HB := hidR hR.bel
  clear hR HF hb HF1 KW p0 p1 p2 x0 x1
  go_wp2
  exact bodyPost_ret (v := .tuple #[.agg #[.int .u64 (hI cx), .int .u64 (lI cx), .int .i64 pk], .agg #[.int .u64 (hI y), .int .u64 (lI y)]]) (by simp [results, Tryd.results8, go_sem, r0, r1, r2, s0, s1]) rfl ⟨rfl, HB.out⟩
end Go.Proofs.YtonagfmkplbooaaDoor
/-
  Tables in variables, carried along a straight walk.
-/
namespace Go.Proofs.YtonagfmkplbooaaDoor
open Go.RowKit
set_option linter.unusedSimpArgs false
set_option linter.unusedVariables false

/-- Tables in variables, each with its routes. -/
def Kn (W : World) : List (Nat × Int × Value × List Rte) → Prop
  | [] => True
  | e :: L => (AtT W e.1 e.2.1 e.2.2.1 ∧ RwR W e.2.2.1 e.2.2.2) ∧ Kn W L
theorem Kn.below {W W' : World} (hb : Below W.heap.size W W') : ∀ {L : List (Nat × Int × Value × List Rte)}, Kn W L → Kn W' L
  | [], _ => trivial
  | e :: L, h => ⟨⟨h.1.1.below hb, h.1.2.below hb⟩, Kn.below hb h.2⟩
def Kns (w W : World) (L : List (Nat × Int × Value × List Rte)) : Prop := Kn W L ∧ Below w.heap.size w W
theorem Kns.below {w W W' : World} {L : List (Nat × Int × Value × List Rte)} (h : Kns w W L) (hb : Below W.heap.size W W') : Kns w W' L := ⟨Kn.below hb h.1, keepb hb h.2⟩
theorem Kns.new {w W W' : World} {L : List (Nat × Int × Value × List Rte)} {F : Int} {M : List Rte} {v : Value} (h : Kns w W L) (hb : Below W.heap.size W W') (hown : W'.ownsRow W.heap.size 50 4 v M.length (rowR M)) : Kns w (W'.alloc (.cells #[.int .i64 F, v] 24)) ((W'.heap.size, F, v, M) :: L) := by
  have hq := bl1 W' (.cells #[.int .i64 F, v] 24)
  exact ⟨⟨⟨att_new W' W'.heap.size F v 24 rfl, (own_rwr hown).below hq⟩, Kn.below hq (Kn.below hb h.1)⟩, keepb hq (keepb hb h.2)⟩
theorem rwr_nil (W : World) : RwR W (.slice none 0 0) [] := ⟨none, 0, rfl, .inl rfl⟩
theorem Kns.nil6 {w W : World} {L : List (Nat × Int × Value × List Rte)} {F : Int} (h : Kns w W L) : Kns w (W.alloc (.cells #[.int .i64 F, .slice none 0 0] 24)) ((W.heap.size, F, .slice none 0 0, []) :: L) := by
  have hq := bl1 W (.cells #[.int .i64 F, .slice none 0 0] 24)
  exact ⟨⟨⟨att_new W W.heap.size F _ 24 rfl, rwr_nil _⟩, Kn.below hq h.1⟩, keepb hq h.2⟩
theorem lookup_led {F : Int} {rs R : List Rte} {f : BitVec 128 → Int} (k : Led F rs f R) {x : BitVec 128} (hx : rightE F x = 0) (v : Value) (W : World) (hv : RwR W v R) :
    Calls Tryd.prog 12 #[.agg #[.int .i64 F, v], .agg #[.int .u64 (hI x), .int .u64 (lI x)]] W fun e w' => e = .returned (.int .i64 (f x)) ∧ Below W.heap.size W w' := by
  obtain ⟨hf, hn, hL, hO⟩ := tab_ok k.tab
  have h := rlookup_any F x v R W hv (by omega) (ro_cells hf hL)
  rw [mat_eq_look F x R hL hO, k.look x hx] at h
  exact h
theorem led_one {F : Int} {rs R : List Rte} {f g : BitVec 128 → Int} (k : Led F rs f R) (h : f = g) : Led F rs g R := h ▸ k
/-- The rows lie in a world. -/
def KnR (w : World) : List (Nat × Int × Value × List Rte) → Prop
  | [] => True
  | e :: L => RwR w e.2.2.1 e.2.2.2 ∧ KnR w L
/-- The variables are others than these. -/
def KnO (S : Nat → Prop) : List (Nat × Int × Value × List Rte) → Prop
  | [] => True
  | e :: L => ¬ S e.1 ∧ KnO S L
theorem Kn.heap {w W W' : World} {S : Nat → Prop} (hb : Below w.heap.size w W') (hs : ∀ z, ¬ S z → W'.heap[z]? = W.heap[z]?) : ∀ {L : List (Nat × Int × Value × List Rte)}, KnR w L → KnO S L → Kn W L → Kn W' L
  | [], _, _, _ => trivial
  | e :: L, h1, h2, h3 => ⟨⟨⟨by rw [cellH (hs _ h2.1)]; exact h3.1.1.1, by rw [cellH (hs _ h2.1)]; exact h3.1.1.2⟩, h1.1.below hb⟩, Kn.heap hb hs h1.2 h2.2 h3.2⟩
theorem fit_set {w W : World} {L : List (Nat × Int × Value × List Rte)} {P X : Nat} {px : BitVec 128} {pn : Int} {x0 : BitVec 128} (h : Kns w W L) (hP : AtP W P px pn) (hX : At W X x0) (hne : P ≠ X) (hp : w.heap.size ≤ P) (hx : w.heap.size ≤ X) (h1 : KnR w L) (h2 : KnO (fun z => z = P ∨ z = X) L) (cx : BitVec 128) (pk : Int) (y : BitVec 128) :
    Kns w (((((W.setCell ⟨P, 0, none⟩ (.int .u64 (hI cx))).setCell ⟨P, 1, none⟩ (.int .u64 (lI cx))).setCell ⟨P, 2, none⟩ (.int .i64 pk)).setCell ⟨X, 0, none⟩ (.int .u64 (hI y))).setCell ⟨X, 1, none⟩ (.int .u64 (lI y))) L ∧ AtP (((((W.setCell ⟨P, 0, none⟩ (.int .u64 (hI cx))).setCell ⟨P, 1, none⟩ (.int .u64 (lI cx))).setCell ⟨P, 2, none⟩ (.int .i64 pk)).setCell ⟨X, 0, none⟩ (.int .u64 (hI y))).setCell ⟨X, 1, none⟩ (.int .u64 (lI y))) P cx pk ∧ At (((((W.setCell ⟨P, 0, none⟩ (.int .u64 (hI cx))).setCell ⟨P, 1, none⟩ (.int .u64 (lI cx))).setCell ⟨P, 2, none⟩ (.int .i64 pk)).setCell ⟨X, 0, none⟩ (.int .u64 (hI y))).setCell ⟨X, 1, none⟩ (.int .u64 (lI y))) X y := by
  have hb : Below w.heap.size w (((((W.setCell ⟨P, 0, none⟩ (.int .u64 (hI cx))).setCell ⟨P, 1, none⟩ (.int .u64 (lI cx))).setCell ⟨P, 2, none⟩ (.int .i64 pk)).setCell ⟨X, 0, none⟩ (.int .u64 (hI y))).setCell ⟨X, 1, none⟩ (.int .u64 (lI y))) := ((((h.2.setCell (p := ⟨P, 0, none⟩) hp _).setCell (p := ⟨P, 1, none⟩) hp _).setCell (p := ⟨P, 2, none⟩) hp _).setCell (p := ⟨X, 0, none⟩) hx _).setCell (p := ⟨X, 1, none⟩) hx _
  have hs : ∀ z, ¬ (z = P ∨ z = X) → (((((W.setCell ⟨P, 0, none⟩ (.int .u64 (hI cx))).setCell ⟨P, 1, none⟩ (.int .u64 (lI cx))).setCell ⟨P, 2, none⟩ (.int .i64 pk)).setCell ⟨X, 0, none⟩ (.int .u64 (hI y))).setCell ⟨X, 1, none⟩ (.int .u64 (lI y))).heap[z]? = W.heap[z]? := fun z hz => by
    have a : ¬ z = P := fun e => hz (.inl e)
    have b : ¬ z = X := fun e => hz (.inr e)
    rw [hSet _ b, hSet _ b, hSet _ a, hSet _ a, hSet _ a]
  have a := hP.set3 cx pk
  have b := (hX.heap (W' := (((W.setCell ⟨P, 0, none⟩ (.int .u64 (hI cx))).setCell ⟨P, 1, none⟩ (.int .u64 (lI cx))).setCell ⟨P, 2, none⟩ (.int .i64 pk))) (by rw [hSet _ (Ne.symm hne), hSet _ (Ne.symm hne), hSet _ (Ne.symm hne)]) (by simp)).setE y
  exact ⟨⟨Kn.heap hb hs h1 h2 h.1, hb⟩, a.heapE (by rw [hSet _ hne, hSet _ hne]), b⟩
theorem fit_one {w W : World} {L : List (Nat × Int × Value × List Rte)} {P : Nat} {px : BitVec 128} {pn : Int} (h : Kns w W L) (hP : AtP W P px pn) (hp : w.heap.size ≤ P) (h1 : KnR w L) (h2 : KnO (fun z => z = P) L) (cx : BitVec 128) (pk : Int) :
    Kns w (((W.setCell ⟨P, 0, none⟩ (.int .u64 (hI cx))).setCell ⟨P, 1, none⟩ (.int .u64 (lI cx))).setCell ⟨P, 2, none⟩ (.int .i64 pk)) L ∧ AtP (((W.setCell ⟨P, 0, none⟩ (.int .u64 (hI cx))).setCell ⟨P, 1, none⟩ (.int .u64 (lI cx))).setCell ⟨P, 2, none⟩ (.int .i64 pk)) P cx pk := by
  have hb : Below w.heap.size w (((W.setCell ⟨P, 0, none⟩ (.int .u64 (hI cx))).setCell ⟨P, 1, none⟩ (.int .u64 (lI cx))).setCell ⟨P, 2, none⟩ (.int .i64 pk)) := ((h.2.setCell (p := ⟨P, 0, none⟩) hp _).setCell (p := ⟨P, 1, none⟩) hp _).setCell (p := ⟨P, 2, none⟩) hp _
  exact ⟨⟨Kn.heap hb (fun z hz => by rw [hSet _ hz, hSet _ hz, hSet _ hz]) h1 h2 h.1, hb⟩, hP.set3 cx pk⟩
/-- A prefix made right. -/
theorem fitted_rt (F : Int) (hf : fam F = true) (px : BitVec 128) (pn : Int) : Rt F (cutW px (pn % (F + 1))) (pn % (F + 1)) := by
  have h0 : 0 ≤ F := by rcases fam_ways F hf with rfl | rfl <;> decide
  have a := Int.emod_nonneg pn (b := F + 1) (by omega)
  have b := Int.emod_lt_of_pos pn (b := F + 1) (by omega)
  refine ⟨a, by omega, ?_⟩
  unfold cutW
  rw [BitVec.and_assoc, BitVec.and_self]
theorem rt_ro {F : Int} {x : BitVec 128} {n : Int} (h : Rt F x n) : Ro F ((x, n), 1) := ⟨h, show (0 : Int) ≤ 1 by decide, show (1 : Int) ≤ 65535 by decide⟩
end Go.Proofs.YtonagfmkplbooaaDoor
/-
  The law AlgebraHalves: a table, a prefix.
-/
namespace Go.Proofs.YtonagfmkplbooaaDoor
open Go.RowKit
set_option linter.unusedSimpArgs false
set_option linter.unusedVariables false

theorem cut_zero (x : BitVec 128) : cutW x 0 = 0#128 := by
  have : maskW 0 = 0#128 := by decide +kernel
  unfold cutW
  rw [this, BitVec.and_zero]
/-- An address of a prefix is one of its kids'. -/
theorem half_has (F : Int) (hf : fam F = true) (px : BitVec 128) (n : Int) (h : Rt F px n) (hn : n < F) (x : BitVec 128) (hx : rightE F x = 0) : (cutW x n = px ↔ cutW x (n + 1) = px ∨ cutW x (n + 1) = px ||| bit1 n) ∧ ¬ (cutW x (n + 1) = px ∧ cutW x (n + 1) = px ||| bit1 n) := by
  have hF := (fam_bd F hf).2
  have r1 := kid_rtL F px n h hn hF
  have r2 := kid_rtH F px n h hn hF
  have a := hasR_ends F ((px, n), 1) hf (rt_ro h) x hx
  have b := hasR_ends F ((px, n + 1), 1) hf (rt_ro r1) x hx
  have c := hasR_ends F ((px ||| bit1 n, n + 1), 1) hf (rt_ro r2) x hx
  unfold hasR at a b c
  simp only [beq_iff_eq] at a b c
  rw [a, b, c]
  have l1 := last_nat F _ _ r1 hF
  have k := kid_nat F px n h hn hF
  have p := kid_pow n h.1 (by omega)
  rw [p.2] at l1
  have kl := kid_last F px n h hn hF
  have le1 := rt_le F _ _ r1
  have le2 := rt_le F _ _ r2
  have lr : rightE F (lastW F px (n + 1)) = 0 := right_of F _ hf (last_fam F _ _ r1)
  have s : 0 < 2 ^ (128 - F.toNat) := Nat.pow_pos (by decide)
  rw [kl] at le2 ⊢
  have up : (lastW F px (n + 1)).toNat < x.toNat → (px ||| bit1 n).toNat ≤ x.toNat := fun q => by
    obtain ⟨h1, h2, -, -⟩ := next_le F _ x lr hx q
    have := (next_nat F _ h1).1
    omega
  constructor
  · constructor
    · rintro ⟨h1, h2⟩
      by_cases q : x.toNat ≤ (lastW F px (n + 1)).toNat
      · exact .inl ⟨h1, q⟩
      · exact .inr ⟨up (by omega), h2⟩
    · rintro (⟨h1, h2⟩ | ⟨h1, h2⟩)
      · exact ⟨h1, by omega⟩
      · exact ⟨by omega, h2⟩
  · rintro ⟨⟨_, h1⟩, ⟨h2, _⟩⟩
    omega
theorem half_eq (F : Int) (hf : fam F = true) (px : BitVec 128) (n : Int) (h : Rt F px n) (hn : n < F) (x : BitVec 128) (hx : rightE F x = 0) (f : Int) : qOver (if cutW x (n + 1) = px then f else 0) (if cutW x (n + 1) = px ||| bit1 n then f else 0) = if cutW x n = px then f else 0 := by
  obtain ⟨a, b⟩ := half_has F hf px n h hn x hx
  unfold qOver
  by_cases h1 : cutW x (n + 1) = px
  · rw [if_pos h1, if_pos (a.mpr (.inl h1)), if_neg (fun q => b ⟨h1, q⟩)]
    split <;> simp_all
  · by_cases h2 : cutW x (n + 1) = px ||| bit1 n
    · rw [if_neg h1, if_pos h2, if_pos (a.mpr (.inr h2)), if_pos rfl]
    · rw [if_neg h1, if_neg h2, if_pos rfl, if_neg (fun q => (a.mp q).elim h1 h2)]
set_option maxRecDepth 20000 in
set_option maxHeartbeats 16000000 in
theorem algebraHalves_any (F : Int) (va : Value) (l : List Rte) (px : BitVec 128) (pn : Int) (w : World) (hT : Tab w) (hva : RwR w va l) :
    Calls Tryd.prog 5 #[.agg #[.int .i64 F, va], .agg #[.int .u64 (hI px), .int .u64 (lI px), .int .i64 pn]] w fun e w' => e = .returned (.bool true) ∧ Below w.heap.size w w' := by
  have KK := fun w => known6_any w
  have q1 := bl1 w (.cells #[.int .i64 F, va] 24)
  have q2 := bl1 (w.alloc (.cells #[.int .i64 F, va] 24)) (.cells #[.int .u64 (hI px), .int .u64 (lI px), .int .i64 pn] 29)
  have hB := keepb q2 q1
  have H0 : Hid (Kns w ((w.alloc (.cells #[.int .i64 F, va] 24)).alloc (.cells #[.int .u64 (hI px), .int .u64 (lI px), .int .i64 pn] 29)) [(w.heap.size, F, va, l)]) := hidR ⟨⟨⟨(att_new w w.heap.size F va 24 rfl).below q2, hva.below hB⟩, trivial⟩, hB⟩
  have P0 : Hid (AtP ((w.alloc (.cells #[.int .i64 F, va] 24)).alloc (.cells #[.int .u64 (hI px), .int .u64 (lI px), .int .i64 pn] 29)) (w.heap.size + 1) px pn) := hidR (atp_new (w.alloc (.cells #[.int .i64 F, va] 24)) (w.heap.size + 1) px pn 29 (by simp))
  have HTab := hidR hT
  have HV := hidR hva
  obtain ⟨ao, ca, rfl, -⟩ := hva
  clear q1 q2 hB hT
  go_enter Tryd.func5, Tryd.ntmps5
  go_wp2_with fail
  refine (KK _).mono ?_
  rintro e v1 ⟨rfl, hb⟩
  have H1 := hidR (Kns.below H0.out hb)
  have P1 := hidR (P0.out.below hb)
  clear P0
  clear H0
  clear hb
  clear KK
  obtain ⟨t0, s0⟩ := (H1.out.1).1.1
  go_wp2_with fail
  clear t0 s0
  refine (rightT_any F (.slice ao l.length ca) l _ ((H1.out.1).1.2)).mono ?_
  rintro e v2 ⟨⟨r, hr, rfl⟩, hb⟩
  have H2 := hidR (Kns.below H1.out hb)
  have P2 := hidR (P1.out.below hb)
  clear P1
  clear H1
  clear hb
  cases r with
  | false =>
    obtain ⟨t0, s0⟩ := (H2.out.1).1.1
    go_wp2
    go_ret
    exact ⟨rfl, H2.out.2⟩
  | true =>
    have HRa := hidR (hr rfl)
    clear hr
    obtain ⟨hf, n1, hL, hO⟩ := tab_ok (rightT_tab HRa.out)
    have hF0 : 0 ≤ F ∧ F ≤ 128 := by rcases fam_ways F hf with rfl | rfl <;> decide
    have KF := fun w => Fitted5_any F px pn 0#128 w hF0.1 hF0.2
    have hrt := fitted_rt F hf px pn
    revert KF hrt
    generalize cutW px (pn % (F + 1)) = cx
    generalize pn % (F + 1) = pk
    intro KF hrt
    simp only [BitVec.zero_and, hI_zero, lI_zero] at KF
    have hz : Rt F 0#128 0 := ⟨by decide, hF0.1, by unfold cutW; exact BitVec.zero_and⟩
    have A := led_table (rs := l ++ [((0#128, 0), 1)]) (rightT_tab HRa.out) (fun r h => by simp [h])
    obtain ⟨Mo, Ao, Ko⟩ := only_led (px := 0#128) (pn := 0) A (rt_check hf hz) (by simp) (fun r hr => by rcases List.mem_append.mp hr with q | q; exact hL r q; rw [List.mem_singleton] at q; rw [q]; exact rt_ro hz) (by have := HRa.out.1; simp; omega)
    have Eo := even_any Ao.tab A.tab (Ao.eq A (fun x _ => by rw [if_pos (cut_zero x)]))
    simp only [hI_zero, lI_zero] at Ko
    have KI := fun w => rkids_any F cx pk w hrt.1 hF0.2
    have kl : kidL F cx pk = kidL F cx pk := rfl
    have kh := kidH_eq F cx pk hrt hF0.2
    rw [kh] at KI
    have HYes : Hid (pk < F → ∃ Mx My Mz Mb, (∀ (v : Value) (W : World), Tab W → RwR W v l → Calls Tryd.prog 11 #[.agg #[.int .i64 F, v], .agg #[.int .u64 (hI (kidL F cx pk)), .int .u64 (lI (kidL F cx pk)), .int .i64 (kidN F pk)]] W (TellsT W F Mx)) ∧ (∀ (v : Value) (W : World), Tab W → RwR W v l → Calls Tryd.prog 11 #[.agg #[.int .i64 F, v], .agg #[.int .u64 (hI (kidH F cx pk)), .int .u64 (lI (kidH F cx pk)), .int .i64 (kidN F pk)]] W (TellsT W F My)) ∧ (∀ (v : Value) (W : World), Tab W → RwR W v l → Calls Tryd.prog 11 #[.agg #[.int .i64 F, v], .agg #[.int .u64 (hI cx), .int .u64 (lI cx), .int .i64 pk]] W (TellsT W F Mz)) ∧ (∀ (v u : Value) (W : World), Tab W → RwR W v Mx → RwR W u My → Calls Tryd.prog 9 #[.agg #[.int .i64 F, v], .agg #[.int .i64 F, u]] W (TellsT W F Mb)) ∧ (∀ (v u : Value) (W : World), RwR W v Mb → RwR W u Mz → Calls Tryd.prog 14 #[.agg #[.int .i64 F, v], .agg #[.int .i64 F, u]] W fun e w' => e = .returned (.bool true) ∧ Below W.heap.size W w')) := hidR (fun hn => by
      have r1 := kid_rtL F cx pk hrt hn hF0.2
      have r2 := kid_rtH F cx pk hrt hn hF0.2
      have e1 : kidL F cx pk = cx := by unfold kidL; rw [if_neg (by omega)]
      have e2 : kidH F cx pk = cx ||| bit1 pk := by unfold kidH; rw [if_neg (by omega)]
      have e3 : kidN F pk = pk + 1 := by unfold kidN; rw [if_neg (by omega)]
      rw [e1, e2, e3]
      have hro : ∀ r ∈ l ++ [((cx, pk), 1), ((cx, pk + 1), 1), ((cx ||| bit1 pk, pk + 1), 1)], Ro F r := fun r hr => by
        rcases List.mem_append.mp hr with q | q
        · exact hL r q
        · simp only [List.mem_cons, List.not_mem_nil, or_false] at q
          rcases q with q | q | q <;> rw [q]
          · exact rt_ro hrt
          · exact rt_ro r1
          · exact rt_ro r2
      have hrs : (l ++ [((cx, pk), 1), ((cx, pk + 1), 1), ((cx ||| bit1 pk, pk + 1), 1)]).length ≤ 9000 := by have := HRa.out.1; simp; omega
      have A := led_table (rs := l ++ [((cx, pk), 1), ((cx, pk + 1), 1), ((cx ||| bit1 pk, pk + 1), 1)]) (rightT_tab HRa.out) (fun r h => by simp [h])
      obtain ⟨Mx, Ax, Kx⟩ := only_led (px := cx) (pn := pk + 1) A (rt_check hf r1) (by simp) hro hrs
      obtain ⟨My, Ay, Ky⟩ := only_led (px := cx ||| bit1 pk) (pn := pk + 1) A (rt_check hf r2) (by simp) hro hrs
      obtain ⟨Mz, Az, Kz⟩ := only_led (px := cx) (pn := pk) A (rt_check hf hrt) (by simp) hro hrs
      obtain ⟨Mb, Ab, Kb⟩ := over_led Ax Ay hro hrs
      exact ⟨Mx, My, Mz, Mb, Kx, Ky, Kz, Kb, even_any Ab.tab Az.tab (Ab.eq Az (fun x hx => half_eq F hf cx pk hrt hn x hx (look x 0 l)))⟩)
    have hdn : decide (pk < F) = true ∨ decide (pk < F) = false := by cases decide (pk < F) <;> simp
    have HDn : Hid (decide (pk < F) = true → pk < F) := hidR (fun h => of_decide_eq_true h)
    revert KI HYes HDn hdn
    generalize kidL F cx pk = kx
    generalize kidH F cx pk = ky
    generalize kidN F pk = kn
    generalize decide (pk < F) = dd
    intro KI HYes hdn HDn
    clear kl kh hf n1 hL hO hrt hz A Ao hF0
    obtain ⟨t0, s0⟩ := (H2.out.1).1.1
    obtain ⟨p0, p1, p2, -, -, -⟩ := P2.out
    go_wp2_with fail
    clear t0 s0 p0 p1 p2
    refine (KF _).mono ?_
    rintro e v3 ⟨rfl, hb⟩
    have hH := Kns.below H2.out hb
    have hP := P2.out.below hb
    obtain ⟨f1, f2⟩ := fit_one hH hP (by omega) ⟨HV.out, trivial⟩ ⟨by simp, trivial⟩ cx pk
    have Hf := hidR f1
    have Pf := hidR f2
    obtain ⟨z0, z1, z2, g0, g1, g2⟩ := hP
    clear hb hH f1 f2 KF H2 P2
    obtain ⟨t0, s0⟩ := (Hf.out.1).1.1
    go_wp2_with fail
    clear t0 s0
    revert Hf Pf
    generalize (((v3.setCell ⟨w.heap.size + 1, 0, none⟩ (.int .u64 (hI cx))).setCell ⟨w.heap.size + 1, 1, none⟩ (.int .u64 (lI cx))).setCell ⟨w.heap.size + 1, 2, none⟩ (.int .i64 pk)) = Wf
    intro Hf Pf
    clear z0 z1 z2 g0 g1 g2
    refine (Ko _ _ (HTab.out.keep Hf.out.2) ((Hf.out.1).1.2)).mono ?_
    rintro e v4 ⟨⟨u4, rfl, hown⟩, hb⟩
    obtain ⟨a4, c4, rfl⟩ := own_form hown
    have hq := bl1 v4 (.cells #[.int .i64 F, .slice a4 Mo.length c4] 24)
    have H4 := hidR (Kns.new (F := F) (M := Mo) Hf.out hb hown)
    have P4 := hidR ((Pf.out.below hb).below hq)
    clear Pf
    clear Hf hb hown hq
    obtain ⟨t0, s0⟩ := (H4.out.1).1.1
    obtain ⟨t1, s1⟩ := (H4.out.1.2).1.1
    go_wp2_with fail
    clear t0 s0 t1 s1
    revert H4 P4
    generalize v4.alloc (.cells #[.int .i64 F, .slice a4 Mo.length c4] 24) = W4
    generalize v4.heap.size = N4
    intro H4 P4
    refine (Eo _ _ _ ((H4.out.1).1.2) ((H4.out.1.2).1.2)).mono ?_
    rintro e v5 ⟨rfl, hb⟩
    have H5 := hidR (Kns.below H4.out hb)
    have P5 := hidR (P4.out.below hb)
    clear P4
    clear H4
    clear hb
    obtain ⟨t0, s0⟩ := (H5.out.1.2).1.1
    obtain ⟨p0, p1, p2, -, -, -⟩ := P5.out
    go_wp2_with fail
    clear t0 s0 p0 p1 p2
    refine (KI _).mono ?_
    rintro e v6 ⟨rfl, hb⟩
    have H6 := hidR (Kns.below H5.out hb)
    have P6 := hidR (P5.out.below hb)
    clear P5
    clear H5
    clear hb Ko Eo KI
    have b1 := bl1 v6 (.cells #[.int .u64 (hI kx), .int .u64 (lI kx), .int .i64 kn] 29)
    have b2 := bl1 (v6.alloc (.cells #[.int .u64 (hI kx), .int .u64 (lI kx), .int .i64 kn] 29)) (.cells #[.int .u64 (hI ky), .int .u64 (lI ky), .int .i64 kn] 29)
    have Hk := hidR (Kns.below (Kns.below H6.out b1) b2)
    have Pk := hidR ((P6.out.below b1).below b2)
    have Ak := hidR ((atp_new v6 v6.heap.size kx kn 29 rfl).below b2)
    have Bk := hidR (atp_new (v6.alloc (.cells #[.int .u64 (hI kx), .int .u64 (lI kx), .int .i64 kn] 29)) (v6.heap.size + 1) ky kn 29 (by simp))
    clear b1 b2
    rcases hdn with hd | hd
    rotate_left
    · subst hd
      go_wp2
      go_ret
      exact ⟨rfl, Hk.out.2⟩
    obtain ⟨Mx, My, Mz, Mb, Kx, Ky, Kz, Kb, Eb⟩ := HYes.out (HDn.out hd)
    subst hd
    clear HYes HDn
    clear H6 P6
    obtain ⟨t0, s0⟩ := (Hk.out.1.2).1.1
    obtain ⟨p0, p1, p2, -, -, -⟩ := Ak.out
    go_wp2_with fail
    clear t0 s0 p0 p1 p2
    revert Hk Pk Ak Bk
    generalize (v6.alloc (.cells #[.int .u64 (hI kx), .int .u64 (lI kx), .int .i64 kn] 29)).alloc (.cells #[.int .u64 (hI ky), .int .u64 (lI ky), .int .i64 kn] 29) = Wk
    generalize v6.heap.size = Nk
    intro Hk Pk Ak Bk
    refine (Kx _ _ (HTab.out.keep Hk.out.2) ((Hk.out.1.2).1.2)).mono ?_
    rintro e v7 ⟨⟨u7, rfl, hown⟩, hb⟩
    obtain ⟨a7, c7, rfl⟩ := own_form hown
    have hq := bl1 v7 (.cells #[.int .i64 F, .slice a7 Mx.length c7] 24)
    have H7 := hidR (Kns.new (F := F) (M := Mx) Hk.out hb hown)
    have P7 := hidR ((Pk.out.below hb).below hq)
    clear Pk
    have Ak7 := hidR ((Ak.out.below hb).below hq)
    clear Ak
    have Bk7 := hidR ((Bk.out.below hb).below hq)
    clear Bk
    clear Hk hb hown hq
    obtain ⟨t0, s0⟩ := (H7.out.1.2.2).1.1
    obtain ⟨p0, p1, p2, -, -, -⟩ := Bk7.out
    go_wp2_with fail
    clear t0 s0 p0 p1 p2
    revert H7 P7 Ak7 Bk7
    generalize v7.alloc (.cells #[.int .i64 F, .slice a7 Mx.length c7] 24) = W7
    generalize v7.heap.size = N7
    intro H7 P7 Ak7 Bk7
    refine (Ky _ _ (HTab.out.keep H7.out.2) ((H7.out.1.2.2).1.2)).mono ?_
    rintro e v8 ⟨⟨u8, rfl, hown⟩, hb⟩
    obtain ⟨a8, c8, rfl⟩ := own_form hown
    have hq := bl1 v8 (.cells #[.int .i64 F, .slice a8 My.length c8] 24)
    have H8 := hidR (Kns.new (F := F) (M := My) H7.out hb hown)
    have P8 := hidR ((P7.out.below hb).below hq)
    clear P7
    have Ak8 := hidR ((Ak7.out.below hb).below hq)
    clear Ak7
    have Bk8 := hidR ((Bk7.out.below hb).below hq)
    clear Bk7
    clear H7 hb hown hq
    obtain ⟨t0, s0⟩ := (H8.out.1.2.2.2).1.1
    obtain ⟨p0, p1, p2, -, -, -⟩ := P8.out
    go_wp2_with fail
    clear t0 s0 p0 p1 p2
    revert H8 P8 Ak8 Bk8
    generalize v8.alloc (.cells #[.int .i64 F, .slice a8 My.length c8] 24) = W8
    generalize v8.heap.size = N8
    intro H8 P8 Ak8 Bk8
    refine (Kz _ _ (HTab.out.keep H8.out.2) ((H8.out.1.2.2.2).1.2)).mono ?_
    rintro e v9 ⟨⟨u9, rfl, hown⟩, hb⟩
    obtain ⟨a9, c9, rfl⟩ := own_form hown
    have hq := bl1 v9 (.cells #[.int .i64 F, .slice a9 Mz.length c9] 24)
    have H9 := hidR (Kns.new (F := F) (M := Mz) H8.out hb hown)
    have P9 := hidR ((P8.out.below hb).below hq)
    clear P8
    have Ak9 := hidR ((Ak8.out.below hb).below hq)
    clear Ak8
    have Bk9 := hidR ((Bk8.out.below hb).below hq)
    clear Bk8
    clear H8 hb hown hq
    obtain ⟨t0, s0⟩ := (H9.out.1.2.2).1.1
    obtain ⟨t1, s1⟩ := (H9.out.1.2).1.1
    go_wp2_with fail
    clear t0 s0 t1 s1
    revert H9 P9 Ak9 Bk9
    generalize v9.alloc (.cells #[.int .i64 F, .slice a9 Mz.length c9] 24) = W9
    generalize v9.heap.size = N9
    intro H9 P9 Ak9 Bk9
    refine (Kb _ _ _ (HTab.out.keep H9.out.2) ((H9.out.1.2.2).1.2) ((H9.out.1.2).1.2)).mono ?_
    rintro e v10 ⟨⟨u10, rfl, hown⟩, hb⟩
    obtain ⟨a10, c10, rfl⟩ := own_form hown
    have hq := bl1 v10 (.cells #[.int .i64 F, .slice a10 Mb.length c10] 24)
    have H10 := hidR (Kns.new (F := F) (M := Mb) H9.out hb hown)
    have P10 := hidR ((P9.out.below hb).below hq)
    clear P9
    have Ak10 := hidR ((Ak9.out.below hb).below hq)
    clear Ak9
    have Bk10 := hidR ((Bk9.out.below hb).below hq)
    clear Bk9
    clear H9 hb hown hq
    obtain ⟨t0, s0⟩ := (H10.out.1).1.1
    obtain ⟨t1, s1⟩ := (H10.out.1.2).1.1
    go_wp2_with fail
    clear t0 s0 t1 s1
    revert H10 P10 Ak10 Bk10
    generalize v10.alloc (.cells #[.int .i64 F, .slice a10 Mb.length c10] 24) = W10
    generalize v10.heap.size = N10
    intro H10 P10 Ak10 Bk10
    refine (Eb _ _ _ ((H10.out.1).1.2) ((H10.out.1.2).1.2)).mono ?_
    rintro e v11 ⟨rfl, hb⟩
    have H11 := hidR (Kns.below H10.out hb)
    have P11 := hidR (P10.out.below hb)
    clear P10
    have Ak11 := hidR (Ak10.out.below hb)
    clear Ak10
    have Bk11 := hidR (Bk10.out.below hb)
    clear Bk10
    clear H10
    clear hb
    go_wp2
    go_ret
    exact ⟨rfl, H11.out.2⟩
end Go.Proofs.YtonagfmkplbooaaDoor
