/-
  Part 31 of the proof: 3 texts, one behind the other.
-/
import Derived.Test.YtonagfmkplbooaaDoorPart30
import Derived.Test.YtonagfmkplbooaaDoorPart5
import Derived.Test.YtonagfmkplbooaaDoorRows
import Derived.ProofKit
import Derived.Lib.SmallJoins
/-
  What the calls of the law's within, fitted and Fitted of any prefix and address do.
-/
namespace Go.Proofs.YtonagfmkplbooaaDoor
open Go.RowKit
set_option linter.unusedSimpArgs false
set_option linter.unusedVariables false

set_option maxHeartbeats 1000000 in
theorem within5_any (a n : Int) (w : World) (h0 : 0 < n) (h1 : n ≤ 9223372036854775807) :
    Calls Tryd.prog 36 #[.int .i64 a, .int .i64 n] w fun e w' => e = .returned (.int .i64 (a % n)) ∧ w' = w := by
  have b1 := Int.emod_nonneg a (b := n) (by omega)
  have b2 := Int.emod_lt_of_pos a h0
  have hn0 : ¬ n = 0 := by omega
  have hnb : (n == 0) = false := by simp; omega
  rcases tmod_ways a n h0 with ⟨c, e⟩ | ⟨c, e⟩
  · have hw : IntKind.i64.wrap (a.tmod n) = a.tmod n := by rw [IntKind.wrap_i64]; omega
    have hw2 : IntKind.i64.wrap (a.tmod n + n) = a.tmod n + n := by rw [IntKind.wrap_i64]; omega
    rw [← e]
    clear e b1 b2
    go_enter Tryd.func36, Tryd.ntmps36
    go_wp2
    go_ret
    exact ⟨rfl, rfl⟩
  · have hw : IntKind.i64.wrap (a.tmod n) = a.tmod n := by rw [IntKind.wrap_i64]; omega
    rw [← e]
    clear e b1 b2
    go_enter Tryd.func36, Tryd.ntmps36
    go_wp2
    go_ret
    exact ⟨rfl, rfl⟩
structure RG (w : World) (px : BitVec 128) (pn : Int) (x cx : BitVec 128) (pk : Int) (y : BitVec 128) (f8 f9 : Bool) (W : World) : Prop where
  p : AtP W w.heap.size px pn
  x : At W (w.heap.size + 1) x
  r : if f8 = true then AtP W (w.heap.size + 2) cx pk else AtP W (w.heap.size + 2) 0#128 0
  s : if f9 = true then At W (w.heap.size + 3) y else At W (w.heap.size + 3) 0#128
  bel : Below w.heap.size w W
section
variable {w : World} {px : BitVec 128} {pn : Int} {x cx : BitVec 128} {pk : Int} {y : BitVec 128} {f8 f9 : Bool} {W W' : World}
theorem RG.below (k : RG w px pn x cx pk y f8 f9 W) (hb : Below W.heap.size W W') : RG w px pn x cx pk y f8 f9 W' :=
  ⟨k.p.below hb, k.x.below hb, (by have := k.r; cases f8 <;> simp at this ⊢ <;> exact this.below hb), (by have := k.s; cases f9 <;> simp at this ⊢ <;> exact this.below hb), keepb hb k.bel⟩
theorem RG.drew (k : RG w px pn x cx pk y f8 f9 W) : RG w px pn x cx pk y f8 f9 W.drew := k.below (below_drewN (Below.refl _ _) 1)
theorem AtP.set3 {B : Nat} (k : AtP W B px pn) (z : BitVec 128) (n : Int) : AtP (((W.setCell ⟨B, 0, none⟩ (.int .u64 (hI z))).setCell ⟨B, 1, none⟩ (.int .u64 (lI z))).setCell ⟨B, 2, none⟩ (.int .i64 n)) B z n := by
  obtain ⟨c0, c1, c2, f0, f1, f2⟩ := k
  refine ⟨?_, ?_, ?_, ?_, ?_, ?_⟩ <;> simp [go_sem, *]
theorem RG.stP (k : RG w px pn x cx pk y false f9 W) : RG w px pn x cx pk y true f9 (((W.setCell ⟨w.heap.size + 2, 0, none⟩ (.int .u64 (hI cx))).setCell ⟨w.heap.size + 2, 1, none⟩ (.int .u64 (lI cx))).setCell ⟨w.heap.size + 2, 2, none⟩ (.int .i64 pk)) := by
  have hsz : W.heap.size ≤ (((W.setCell ⟨w.heap.size + 2, 0, none⟩ (.int .u64 (hI cx))).setCell ⟨w.heap.size + 2, 1, none⟩ (.int .u64 (lI cx))).setCell ⟨w.heap.size + 2, 2, none⟩ (.int .i64 pk)).heap.size := by simp
  have h : ∀ z, z ≠ w.heap.size + 2 → (((W.setCell ⟨w.heap.size + 2, 0, none⟩ (.int .u64 (hI cx))).setCell ⟨w.heap.size + 2, 1, none⟩ (.int .u64 (lI cx))).setCell ⟨w.heap.size + 2, 2, none⟩ (.int .i64 pk)).heap[z]? = W.heap[z]? := fun z hz => by rw [hSet _ hz, hSet _ hz, hSet _ hz]
  have hr := k.r
  simp at hr
  refine ⟨k.p.heapE (h _ (by omega)), k.x.heap (h _ (by omega)) hsz, by rw [if_pos rfl]; exact hr.set3 cx pk, ?_, ((k.bel.setCell (p := ⟨w.heap.size + 2, 0, none⟩) (by simp) _).setCell (p := ⟨w.heap.size + 2, 1, none⟩) (by simp) _).setCell (p := ⟨w.heap.size + 2, 2, none⟩) (by simp) _⟩
  have := k.s
  cases f9 <;> simp at this ⊢ <;> exact this.heap (h _ (by omega)) hsz
theorem RG.stW (k : RG w px pn x cx pk y f8 false W) : RG w px pn x cx pk y f8 true ((W.setCell ⟨w.heap.size + 3, 0, none⟩ (.int .u64 (hI y))).setCell ⟨w.heap.size + 3, 1, none⟩ (.int .u64 (lI y))) := by
  have hsz : W.heap.size ≤ ((W.setCell ⟨w.heap.size + 3, 0, none⟩ (.int .u64 (hI y))).setCell ⟨w.heap.size + 3, 1, none⟩ (.int .u64 (lI y))).heap.size := by simp
  have h : ∀ z, z ≠ w.heap.size + 3 → ((W.setCell ⟨w.heap.size + 3, 0, none⟩ (.int .u64 (hI y))).setCell ⟨w.heap.size + 3, 1, none⟩ (.int .u64 (lI y))).heap[z]? = W.heap[z]? := fun z hz => by rw [hSet _ hz, hSet _ hz]
  have hs := k.s
  simp at hs
  refine ⟨k.p.heapE (h _ (by omega)), k.x.heap (h _ (by omega)) hsz, ?_, by rw [if_pos rfl]; exact hs.setE y, (k.bel.setCell (p := ⟨w.heap.size + 3, 0, none⟩) (by simp) _).setCell (p := ⟨w.heap.size + 3, 1, none⟩) (by simp) _⟩
  have := k.r
  cases f8 <;> simp at this ⊢ <;> exact this.heapE (h _ (by omega))
theorem rg_new (w : World) (px : BitVec 128) (pn : Int) (x cx : BitVec 128) (pk : Int) (y : BitVec 128) : RG w px pn x cx pk y false false ((((w.alloc (.cells #[.int .u64 (hI px), .int .u64 (lI px), .int .i64 pn] 29)).alloc (.cells #[.int .u64 (hI x), .int .u64 (lI x)] 27)).alloc (.cells #[.int .u64 0, .int .u64 0, .int .i64 0] 29)).alloc (.cells #[.int .u64 0, .int .u64 0] 27)) := by
  have b1 := bl1 w (.cells #[.int .u64 (hI px), .int .u64 (lI px), .int .i64 pn] 29)
  have a1 := atp_new w w.heap.size px pn 29 rfl
  revert b1 a1
  generalize h1 : w.alloc (.cells #[.int .u64 (hI px), .int .u64 (lI px), .int .i64 pn] 29) = w1
  have s1 : w1.heap.size = w.heap.size + 1 := by rw [← h1]; simp
  clear h1
  intro b1 a1
  have b2 := bl1 w1 (.cells #[.int .u64 (hI x), .int .u64 (lI x)] 27)
  have a2 := at_new w1 (w.heap.size + 1) x 27 s1.symm
  revert b2 a2
  generalize h2 : w1.alloc (.cells #[.int .u64 (hI x), .int .u64 (lI x)] 27) = w2
  have s2 : w2.heap.size = w.heap.size + 2 := by rw [← h2]; simp [s1]
  clear h2
  intro b2 a2
  have b3 := bl1 w2 (.cells #[.int .u64 0, .int .u64 0, .int .i64 0] 29)
  have a3 := atp_new w2 (w.heap.size + 2) 0#128 0 29 s2.symm
  rw [hI_zero, lI_zero] at a3
  revert b3 a3
  generalize h3 : w2.alloc (.cells #[.int .u64 0, .int .u64 0, .int .i64 0] 29) = w3
  have s3 : w3.heap.size = w.heap.size + 3 := by rw [← h3]; simp [s2]
  clear h3
  intro b3 a3
  have b4 := bl1 w3 (.cells #[.int .u64 0, .int .u64 0] 27)
  have a4 := at_new w3 (w.heap.size + 3) 0#128 27 s3.symm
  rw [hI_zero, lI_zero] at a4
  exact ⟨((a1.below b2).below b3).below b4, (a2.below b3).below b4, by simp; exact a3.below b4, by simp; exact a4, keepb b4 (keepb b3 (keepb b2 b1))⟩
end
set_option maxRecDepth 20000 in
set_option maxHeartbeats 8000000 in
theorem fitted5_any (F : Int) (px : BitVec 128) (pn : Int) (x : BitVec 128) (w : World) (h0 : 0 ≤ F) (h1 : F ≤ 128) :
    Calls Tryd.prog 18 #[.int .i64 F, .agg #[.int .u64 (hI px), .int .u64 (lI px), .int .i64 pn], .agg #[.int .u64 (hI x), .int .u64 (lI x)]] w fun e w' => e = .returned (.tuple #[.agg #[.int .u64 (hI (cutW px (pn % (F + 1)))), .int .u64 (lI (cutW px (pn % (F + 1)))), .int .i64 (pn % (F + 1))], .agg #[.int .u64 (hI (x &&& maskW F)), .int .u64 (lI (x &&& maskW F))]]) ∧ Below w.heap.size w w' := by
  have KW := fun w => within5_any pn (F + 1) w (by omega) (by omega)
  have KC := fun w => rcut_any px (pn % (F + 1)) w
  have KM := fun w => rmask_any F w
  have KA := fun w => rand_any x (maskW F) w
  have HF1 := hidR (rg_new w px pn x (cutW px (pn % (F + 1))) (pn % (F + 1)) (x &&& maskW F))
  revert KW KC KM KA HF1
  generalize x &&& maskW F = y
  generalize maskW F = mk
  generalize cutW px (pn % (F + 1)) = cx
  generalize pn % (F + 1) = pk
  intro KW KC KM KA HF1
  have mF : IntKind.i64.wrap (F + 1) = F + 1 := by rw [IntKind.wrap_i64]; omega
  obtain ⟨p0, p1, p2, -, -, -⟩ := HF1.out.p
  go_enter Tryd.func18, Tryd.ntmps18
  go_wp2_with fail
  refine (KW _).mono ?_
  rintro e w1 ⟨rfl, hb⟩
  have HF := hidR (HF1.out.below (W' := w1) (by rw [hb]; exact Below.refl _ _))
  clear KW hb HF1 p0 p1 p2
  go_wp2_with fail
  refine gh_region (γ := Unit) (qpOk 10 10 (by decide) (fun N => by kernel_rfl) (by kernel_rfl) (by kernel_rfl) (by kernel_rfl) (by kernel_rfl)) (by kernel_rfl) (by kernel_rfl) [some 14, some 15, some 16, some 17, some 18, some 19, some 20, some 21, none, none] (fun g => [.pointer (some ⟨w.heap.size, 0, none⟩), .agg #[.int .u64 (hI px), .int .u64 (lI px)], .int .i64 pk, .agg #[.int .u64 (hI cx), .int .u64 (lI cx), .int .i64 pk], .agg #[.int .u64 (hI x), .int .u64 (lI x)], .int .i64 F, .agg #[.int .u64 (hI mk), .int .u64 (lI mk)], .agg #[.int .u64 (hI y), .int .u64 (lI y)], undef, undef]) (by kernel_rfl) (by simp) (fun lp g W => RG w px pn x cx pk y (lp.getD 8 false) (lp.getD 9 false) W) () (by simpa using HF.out.drew) ?step ?fin
  case step =>
    intro q o lp g w' a' ho hsz hun hdep hR hS K Q' hK
    have hfl : ∀ j, j ≠ q → (lp.setIfInBounds q true).getD j false = lp.getD j false := fun j hj => by rw [Array.getD_eq_getD_getElem?, Array.getD_eq_getD_getElem?, Array.getElem?_setIfInBounds_ne (by omega)]
    have hq : q < 10 := (List.getElem?_eq_some_iff.mp ho).1
    obtain ⟨p0, p1, p2, -, -, -⟩ := hR.p
    obtain ⟨x0, x1, -⟩ := hR.x
    match q, ho, hun, hdep, hK, hfl, hq with
    | 0, ho, hun, hdep, hK, hfl, _ =>
      obtain rfl := Option.some.inj ho
      have o4 : a'.tmps[4]? = some (.pointer (some ⟨w.heap.size, 0, none⟩)) := (hS.old 4 (by simp)).trans rfl
      have hK' := hK g w' (fun _ _ _ _ _ _ => rfl) (by rw [hfl 8 (by decide), hfl 9 (by decide)]; exact hR) (.pointer (some ⟨w.heap.size, 0, none⟩)) (by simp only [valO, Option.bind_some]; simp only [putAll, Act.put, List.setIfInBounds_toArray, List.set_cons_zero, List.set_cons_succ]; rfl)
      clear hS hdep hR
      refine gh_quiet (v := .pointer (some ⟨w.heap.size, 0, none⟩)) ?_ ?_
      · (simp only [execOp, Act.eval, o4]; go_simp; first | done | (simp; done) | (simp [*]; done))
      · exact hK'
    | 1, ho, hun, hdep, hK, hfl, _ =>
      obtain rfl := Option.some.inj ho
      have d0 : lp.getD 0 false = true := hdep { on := 0, ground := .data } (by simp) rfl
      have e14 : a'.tmps[14]? = some (.pointer (some ⟨w.heap.size, 0, none⟩)) := (hS.don 0 _ 14 rfl d0 rfl).trans (by simp only [putAll, Act.put, List.setIfInBounds_toArray, List.set_cons_zero, List.set_cons_succ]; rfl)
      have hK' := hK g w' (fun _ _ _ _ _ _ => rfl) (by rw [hfl 8 (by decide), hfl 9 (by decide)]; exact hR) (.agg #[.int .u64 (hI px), .int .u64 (lI px)]) (by simp only [valO, Option.bind_some]; simp only [putAll, Act.put, List.setIfInBounds_toArray, List.set_cons_zero, List.set_cons_succ]; rfl)
      clear hS hdep hR
      refine gh_quiet (v := .agg #[.int .u64 (hI px), .int .u64 (lI px)]) ?_ ?_
      · (simp only [execOp, Act.eval, e14]; go_simp; first | done | (simp; done) | (simp [*]; done))
      · exact hK'
    | 2, ho, hun, hdep, hK, hfl, _ =>
      obtain rfl := Option.some.inj ho
      have o8 : a'.tmps[8]? = some (.int .i64 pk) := (hS.old 8 (by simp)).trans rfl
      have hK' := hK g w' (fun _ _ _ _ _ _ => rfl) (by rw [hfl 8 (by decide), hfl 9 (by decide)]; exact hR) (.int .i64 pk) (by simp only [valO, Option.bind_some]; simp only [putAll, Act.put, List.setIfInBounds_toArray, List.set_cons_zero, List.set_cons_succ]; rfl)
      clear hS hdep hR
      refine gh_quiet (v := .int .i64 pk) ?_ ?_
      · (simp only [execOp, Act.eval, o8]; go_simp; first | done | (simp; done) | (simp [*]; done))
      · exact hK'
    | 3, ho, hun, hdep, hK, hfl, _ =>
      obtain rfl := Option.some.inj ho
      have d1 : lp.getD 1 false = true := hdep { on := 1, ground := .data } (by simp) rfl
      have e15 : a'.tmps[15]? = some (.agg #[.int .u64 (hI px), .int .u64 (lI px)]) := (hS.don 1 _ 15 rfl d1 rfl).trans (by simp only [putAll, Act.put, List.setIfInBounds_toArray, List.set_cons_zero, List.set_cons_succ]; rfl)
      have d2 : lp.getD 2 false = true := hdep { on := 2, ground := .data } (by simp) rfl
      have e16 : a'.tmps[16]? = some (.int .i64 pk) := (hS.don 2 _ 16 rfl d2 rfl).trans (by simp only [putAll, Act.put, List.setIfInBounds_toArray, List.set_cons_zero, List.set_cons_succ]; rfl)
      have KE := KC w'
      clear hdep
      unfold Oper.wp
      simp only [execOp, Act.eval, e15, e16]
      simp [go_sem, e15, e16, Oper.upon]
      refine KE.mono ?_
      rintro e W2 ⟨rfl, hb2⟩
      exact hK g W2 (fun _ _ _ _ _ _ => rfl) (by rw [hfl 8 (by decide), hfl 9 (by decide)]; exact hR.below hb2) _ (by simp only [valO, Option.bind_some]; simp only [putAll, Act.put, List.setIfInBounds_toArray, List.set_cons_zero, List.set_cons_succ]; rfl)
    | 4, ho, hun, hdep, hK, hfl, _ =>
      obtain rfl := Option.some.inj ho
      have o5 : a'.tmps[5]? = some (.pointer (some ⟨w.heap.size + 1, 0, none⟩)) := (hS.old 5 (by simp)).trans rfl
      have hK' := hK g w' (fun _ _ _ _ _ _ => rfl) (by rw [hfl 8 (by decide), hfl 9 (by decide)]; exact hR) (.agg #[.int .u64 (hI x), .int .u64 (lI x)]) (by simp only [valO, Option.bind_some]; simp only [putAll, Act.put, List.setIfInBounds_toArray, List.set_cons_zero, List.set_cons_succ]; rfl)
      clear hS hdep hR
      refine gh_quiet (v := .agg #[.int .u64 (hI x), .int .u64 (lI x)]) ?_ ?_
      · (simp only [execOp, Act.eval, o5]; go_simp; first | done | (simp; done) | (simp [*]; done))
      · exact hK'
    | 5, ho, hun, hdep, hK, hfl, _ =>
      obtain rfl := Option.some.inj ho
      have o0 : a'.tmps[0]? = some (.int .i64 F) := (hS.old 0 (by simp)).trans rfl
      have hK' := hK g w' (fun _ _ _ _ _ _ => rfl) (by rw [hfl 8 (by decide), hfl 9 (by decide)]; exact hR) (.int .i64 F) (by simp only [valO, Option.bind_some]; simp only [putAll, Act.put, List.setIfInBounds_toArray, List.set_cons_zero, List.set_cons_succ]; rfl)
      clear hS hdep hR
      refine gh_quiet (v := .int .i64 F) ?_ ?_
      · (simp only [execOp, Act.eval, o0]; go_simp; first | done | (simp; done) | (simp [*]; done))
      · exact hK'
    | 6, ho, hun, hdep, hK, hfl, _ =>
      obtain rfl := Option.some.inj ho
      have d5 : lp.getD 5 false = true := hdep { on := 5, ground := .data } (by simp) rfl
      have e19 : a'.tmps[19]? = some (.int .i64 F) := (hS.don 5 _ 19 rfl d5 rfl).trans (by simp only [putAll, Act.put, List.setIfInBounds_toArray, List.set_cons_zero, List.set_cons_succ]; rfl)
      have KE := KM w'
      clear hdep
      unfold Oper.wp
      simp only [execOp, Act.eval, e19]
      simp [go_sem, e19, Oper.upon]
      refine KE.mono ?_
      rintro e W2 ⟨rfl, hb2⟩
      exact hK g W2 (fun _ _ _ _ _ _ => rfl) (by rw [hfl 8 (by decide), hfl 9 (by decide)]; exact hR.below hb2) _ (by simp only [valO, Option.bind_some]; simp only [putAll, Act.put, List.setIfInBounds_toArray, List.set_cons_zero, List.set_cons_succ]; rfl)
    | 7, ho, hun, hdep, hK, hfl, _ =>
      obtain rfl := Option.some.inj ho
      have d4 : lp.getD 4 false = true := hdep { on := 4, ground := .data } (by simp) rfl
      have e18 : a'.tmps[18]? = some (.agg #[.int .u64 (hI x), .int .u64 (lI x)]) := (hS.don 4 _ 18 rfl d4 rfl).trans (by simp only [putAll, Act.put, List.setIfInBounds_toArray, List.set_cons_zero, List.set_cons_succ]; rfl)
      have d6 : lp.getD 6 false = true := hdep { on := 6, ground := .data } (by simp) rfl
      have e20 : a'.tmps[20]? = some (.agg #[.int .u64 (hI mk), .int .u64 (lI mk)]) := (hS.don 6 _ 20 rfl d6 rfl).trans (by simp only [putAll, Act.put, List.setIfInBounds_toArray, List.set_cons_zero, List.set_cons_succ]; rfl)
      have KE := KA w'
      clear hdep
      unfold Oper.wp
      simp only [execOp, Act.eval, e18, e20]
      simp [go_sem, e18, e20, Oper.upon]
      refine KE.mono ?_
      rintro e W2 ⟨rfl, hb2⟩
      exact hK g W2 (fun _ _ _ _ _ _ => rfl) (by rw [hfl 8 (by decide), hfl 9 (by decide)]; exact hR.below hb2) _ (by simp only [valO, Option.bind_some]; simp only [putAll, Act.put, List.setIfInBounds_toArray, List.set_cons_zero, List.set_cons_succ]; rfl)
    | 8, ho, hun, hdep, hK, hfl, _ =>
      obtain rfl := Option.some.inj ho
      have d3 : lp.getD 3 false = true := hdep { on := 3, ground := .data } (by simp) rfl
      have e17 : a'.tmps[17]? = some (.agg #[.int .u64 (hI cx), .int .u64 (lI cx), .int .i64 pk]) := (hS.don 3 _ 17 rfl d3 rfl).trans (by simp only [putAll, Act.put, List.setIfInBounds_toArray, List.set_cons_zero, List.set_cons_succ]; rfl)
      have o6 : a'.tmps[6]? = some (.pointer (some ⟨w.heap.size + 2, 0, none⟩)) := (hS.old 6 (by simp)).trans rfl
      rw [hun] at hR
      have hz := hR.r
      simp only [Bool.false_eq_true, if_false] at hz
      obtain ⟨z0, z1, z2, f0, f1, f2⟩ := hz
      have hK' := hK g _ (fun _ _ _ _ _ _ => rfl) (by rw [hfl 9 (by decide), getD_set_same (by rw [hsz]; decide)]; exact hR.stP) undef rfl
      clear hS hdep hR
      unfold Oper.wp
      simp [execOp, Act.eval, e17, o6, go_sem, z0, z1, z2, f0, f1, f2, Oper.upon]
      exact hK'
    | 9, ho, hun, hdep, hK, hfl, _ =>
      obtain rfl := Option.some.inj ho
      have d7 : lp.getD 7 false = true := hdep { on := 7, ground := .data } (by simp) rfl
      have e21 : a'.tmps[21]? = some (.agg #[.int .u64 (hI y), .int .u64 (lI y)]) := (hS.don 7 _ 21 rfl d7 rfl).trans (by simp only [putAll, Act.put, List.setIfInBounds_toArray, List.set_cons_zero, List.set_cons_succ]; rfl)
      have o7 : a'.tmps[7]? = some (.pointer (some ⟨w.heap.size + 3, 0, none⟩)) := (hS.old 7 (by simp)).trans rfl
      rw [hun] at hR
      have hz := hR.s
      simp only [Bool.false_eq_true, if_false] at hz
      obtain ⟨z0, z1, f0, f1, -⟩ := hz
      have hK' := hK g _ (fun _ _ _ _ _ _ => rfl) (by rw [hfl 8 (by decide), getD_set_same (by rw [hsz]; decide)]; exact hR.stW) undef rfl
      clear hS hdep hR
      unfold Oper.wp
      simp [execOp, Act.eval, e21, o7, go_sem, z0, z1, f0, f1, Oper.upon]
      exact hK'
    | n + 10, ho, hun, hdep, hK, hfl, hq => exact absurd hq (by omega)
  case fin =>
    intro g W2 hR
    have hR : RG w px pn x cx pk y true true W2 := by simpa using hR
    have hr := hR.r
    simp only [if_true] at hr
    obtain ⟨r0, r1, r2, -, -, -⟩ := hr
    have hs := hR.s
    simp only [if_true] at hs
    obtain ⟨s0, s1, -⟩ := hs
    have HB := hidR hR.bel
    simp only [putAll, Act.put, List.setIfInBounds_toArray, List.set_cons_zero, List.set_cons_succ]
    clear hR
    refine wl_nil (P := Tryd.prog) (ops := #[]) ?_
    go_wp2
    exact bodyPost_ret (v := .tuple #[.agg #[.int .u64 (hI cx), .int .u64 (lI cx), .int .i64 pk], .agg #[.int .u64 (hI y), .int .u64 (lI y)]]) (by simp [results, Tryd.results18, go_sem, r0, r1, r2, s0, s1]) rfl ⟨rfl, HB.out⟩

set_option maxHeartbeats 2000000 in
theorem Fitted5_any (F : Int) (px : BitVec 128) (pn : Int) (x : BitVec 128) (w : World) (h0 : 0 ≤ F) (h1 : F ≤ 128) :
    Calls Tryd.prog 8 #[.int .i64 F, .agg #[.int .u64 (hI px), .int .u64 (lI px), .int .i64 pn], .agg #[.int .u64 (hI x), .int .u64 (lI x)]] w fun e w' => e = .returned (.tuple #[.agg #[.int .u64 (hI (cutW px (pn % (F + 1)))), .int .u64 (lI (cutW px (pn % (F + 1)))), .int .i64 (pn % (F + 1))], .agg #[.int .u64 (hI (x &&& maskW F)), .int .u64 (lI (x &&& maskW F))]]) ∧ Below w.heap.size w w' := by
  have KW := fun w => fitted5_any F px pn x w h0 h1
  have HF1 := hidR (rg_new w px pn x (cutW px (pn % (F + 1))) (pn % (F + 1)) (x &&& maskW F))
  revert KW HF1
  generalize x &&& maskW F = y
  generalize cutW px (pn % (F + 1)) = cx
  generalize pn % (F + 1) = pk
  intro KW HF1
  obtain ⟨p0, p1, p2, -, -, -⟩ := HF1.out.p
  obtain ⟨x0, x1, -⟩ := HF1.out.x
  go_enter Tryd.func8, Tryd.ntmps8
  go_wp2_with fail
  refine (KW _).mono ?_
  rintro e w1 ⟨rfl, hb⟩
  have HF := HF1.out.below hb
  have hz := HF.r
  have hz' := HF.s
  simp only [Bool.false_eq_true, if_false] at hz hz'
  obtain ⟨z0, z1, z2, f0, f1, f2⟩ := hz
  obtain ⟨u0, u1, g0, g1, -⟩ := hz'
  have hR := HF.stP.stW
  have hr := hR.r
  have hs := hR.s
  simp only [if_true] at hr hs
  obtain ⟨r0, r1, r2, -, -, -⟩ := hr
  obtain ⟨s0, s1, -⟩ := hs
  have HB := hidR hR.bel
  clear hR HF hb HF1 KW p0 p1 p2 x0 x1
  go_wp2
  exact bodyPost_ret (v := .tuple #[.agg #[.int .u64 (hI cx), .int .u64 (lI cx), .int .i64 pk], .agg #[.int .u64 (hI y), .int .u64 (lI y)]]) (by simp [results, Tryd.results8, go_sem, r0, r1, r2, s0, s1]) rfl ⟨rfl, HB.out⟩
end Go.Proofs.YtonagfmkplbooaaDoor
/-
  The law AlgebraLaws: three tables.
-/
namespace Go.Proofs.YtonagfmkplbooaaDoor
open Go.RowKit
set_option linter.unusedSimpArgs false
set_option linter.unusedVariables false

/-- Tables in variables, each with its routes. -/
def Kn (W : World) : List (Nat × Int × Value × List Rte) → Prop
  | [] => True
  | e :: L => (AtT W e.1 e.2.1 e.2.2.1 ∧ RwR W e.2.2.1 e.2.2.2) ∧ Kn W L
theorem Kn.below {W W' : World} (hb : Below W.heap.size W W') : ∀ {L : List (Nat × Int × Value × List Rte)}, Kn W L → Kn W' L
  | [], _ => trivial
  | e :: L, h => ⟨⟨h.1.1.below hb, h.1.2.below hb⟩, Kn.below hb h.2⟩
def Kns (w W : World) (L : List (Nat × Int × Value × List Rte)) : Prop := Kn W L ∧ Below w.heap.size w W
theorem Kns.below {w W W' : World} {L : List (Nat × Int × Value × List Rte)} (h : Kns w W L) (hb : Below W.heap.size W W') : Kns w W' L := ⟨Kn.below hb h.1, keepb hb h.2⟩
theorem Kns.new {w W W' : World} {L : List (Nat × Int × Value × List Rte)} {F : Int} {M : List Rte} {v : Value} (h : Kns w W L) (hb : Below W.heap.size W W') (hown : W'.ownsRow W.heap.size 50 4 v M.length (rowR M)) : Kns w (W'.alloc (.cells #[.int .i64 F, v] 24)) ((W'.heap.size, F, v, M) :: L) := by
  have hq := bl1 W' (.cells #[.int .i64 F, v] 24)
  exact ⟨⟨⟨att_new W' W'.heap.size F v 24 rfl, (own_rwr hown).below hq⟩, Kn.below hq (Kn.below hb h.1)⟩, keepb hq (keepb hb h.2)⟩
theorem rwr_nil (W : World) : RwR W (.slice none 0 0) [] := ⟨none, 0, rfl, .inl rfl⟩
theorem Kns.nil6 {w W : World} {L : List (Nat × Int × Value × List Rte)} {F : Int} (h : Kns w W L) : Kns w (W.alloc (.cells #[.int .i64 F, .slice none 0 0] 24)) ((W.heap.size, F, .slice none 0 0, []) :: L) := by
  have hq := bl1 W (.cells #[.int .i64 F, .slice none 0 0] 24)
  exact ⟨⟨⟨att_new W W.heap.size F _ 24 rfl, rwr_nil _⟩, Kn.below hq h.1⟩, keepb hq h.2⟩
theorem lookup_led {F : Int} {rs R : List Rte} {f : BitVec 128 → Int} (k : Led F rs f R) {x : BitVec 128} (hx : rightE F x = 0) (v : Value) (W : World) (hv : RwR W v R) :
    Calls Tryd.prog 12 #[.agg #[.int .i64 F, v], .agg #[.int .u64 (hI x), .int .u64 (lI x)]] W fun e w' => e = .returned (.int .i64 (f x)) ∧ Below W.heap.size W w' := by
  obtain ⟨hf, hn, hL, hO⟩ := tab_ok k.tab
  have h := rlookup_any F x v R W hv (by omega) (ro_cells hf hL)
  rw [mat_eq_look F x R hL hO, k.look x hx] at h
  exact h
theorem led_one {F : Int} {rs R : List Rte} {f g : BitVec 128 → Int} (k : Led F rs f R) (h : f = g) : Led F rs g R := h ▸ k
set_option maxRecDepth 20000 in
set_option maxHeartbeats 16000000 in
theorem algebraLaws_any (F : Int) (va : Value) (l : List Rte) (G : Int) (vb : Value) (m : List Rte) (E : Int) (vc : Value) (n : List Rte) (w : World) (hT : Tab w) (hva : RwR w va l) (hvb : RwR w vb m) (hvc : RwR w vc n) :
    Calls Tryd.prog 4 #[.agg #[.int .i64 F, va], .agg #[.int .i64 G, vb], .agg #[.int .i64 E, vc]] w fun e w' => e = .returned (.bool true) ∧ Below w.heap.size w w' := by
  have KK := fun w => known6_any w
  have q1 := bl1 w (.cells #[.int .i64 F, va] 24)
  have q2 := bl1 (w.alloc (.cells #[.int .i64 F, va] 24)) (.cells #[.int .i64 G, vb] 24)
  have q3 := bl1 ((w.alloc (.cells #[.int .i64 F, va] 24)).alloc (.cells #[.int .i64 G, vb] 24)) (.cells #[.int .i64 E, vc] 24)
  have hB := keepb q3 (keepb q2 q1)
  have H0 : Hid (Kns w (((w.alloc (.cells #[.int .i64 F, va] 24)).alloc (.cells #[.int .i64 G, vb] 24)).alloc (.cells #[.int .i64 E, vc] 24)) [(w.heap.size, F, va, l), (w.heap.size + 1, G, vb, m), (w.heap.size + 2, E, vc, n)]) := hidR ⟨⟨⟨((att_new w w.heap.size F va 24 rfl).below q2).below q3, hva.below hB⟩, ⟨(att_new (w.alloc (.cells #[.int .i64 F, va] 24)) (w.heap.size + 1) G vb 24 (by simp)).below q3, hvb.below hB⟩, ⟨att_new ((w.alloc (.cells #[.int .i64 F, va] 24)).alloc (.cells #[.int .i64 G, vb] 24)) (w.heap.size + 2) E vc 24 (by simp), hvc.below hB⟩, trivial⟩, hB⟩
  have HTab := hidR hT
  obtain ⟨ao, ca, rfl, -⟩ := hva
  obtain ⟨bo, cb, rfl, -⟩ := hvb
  obtain ⟨co, cc, rfl, -⟩ := hvc
  clear q1 q2 q3 hB hT
  go_enter Tryd.func4, Tryd.ntmps4
  go_wp2_with fail
  refine (KK _).mono ?_
  rintro e v1 ⟨rfl, hb⟩
  have H1 := hidR (Kns.below H0.out hb)
  clear H0
  clear hb
  clear KK
  obtain ⟨t0, s0⟩ := (H1.out.1).1.1
  go_wp2_with fail
  clear t0 s0
  refine (rightT_any F (.slice ao l.length ca) l _ ((H1.out.1).1.2)).mono ?_
  rintro e v2 ⟨⟨r, hr, rfl⟩, hb⟩
  have H2 := hidR (Kns.below H1.out hb)
  clear H1
  clear hb
  cases r with
  | false =>
    obtain ⟨t0, s0⟩ := (H2.out.1).1.1
    obtain ⟨t1, s1⟩ := (H2.out.1.2).1.1
    obtain ⟨t2, s2⟩ := (H2.out.1.2.2).1.1
    go_wp2
    go_ret
    exact ⟨rfl, H2.out.2⟩
  | true =>
    have HRa := hidR (hr rfl)
    clear hr
    obtain ⟨t0, s0⟩ := (H2.out.1.2).1.1
    go_wp2_with fail
    clear t0 s0
    refine (rightT_any G (.slice bo m.length cb) m _ ((H2.out.1.2).1.2)).mono ?_
    rintro e v3 ⟨⟨r, hr, rfl⟩, hb⟩
    have H3 := hidR (Kns.below H2.out hb)
    clear H2
    clear hb
    cases r with
    | false =>
      obtain ⟨t0, s0⟩ := (H3.out.1).1.1
      obtain ⟨t1, s1⟩ := (H3.out.1.2).1.1
      obtain ⟨t2, s2⟩ := (H3.out.1.2.2).1.1
      go_wp2
      go_ret
      exact ⟨rfl, H3.out.2⟩
    | true =>
      have HRb := hidR (hr rfl)
      clear hr
      obtain ⟨t0, s0⟩ := (H3.out.1.2.2).1.1
      go_wp2_with fail
      clear t0 s0
      refine (rightT_any E (.slice co n.length cc) n _ ((H3.out.1.2.2).1.2)).mono ?_
      rintro e v4 ⟨⟨r, hr, rfl⟩, hb⟩
      have H4 := hidR (Kns.below H3.out hb)
      clear H3
      clear hb
      cases r with
      | false =>
        obtain ⟨t0, s0⟩ := (H4.out.1).1.1
        obtain ⟨t1, s1⟩ := (H4.out.1.2).1.1
        obtain ⟨t2, s2⟩ := (H4.out.1.2.2).1.1
        go_wp2
        go_ret
        exact ⟨rfl, H4.out.2⟩
      | true =>
        have HRc := hidR (hr rfl)
        clear hr
        by_cases hF : F = G
        rotate_left
        · have dn : (F != G) = true := by simpa using hF
          obtain ⟨t0, s0⟩ := (H4.out.1).1.1
          obtain ⟨t1, s1⟩ := (H4.out.1.2).1.1
          obtain ⟨t2, s2⟩ := (H4.out.1.2.2).1.1
          clear hF
          go_wp2
          go_ret
          exact ⟨rfl, H4.out.2⟩
        subst hF
        have dF : (F != F) = false := by simp
        by_cases hF : F = E
        rotate_left
        · have dn : (F != E) = true := by simpa using hF
          obtain ⟨t0, s0⟩ := (H4.out.1).1.1
          obtain ⟨t1, s1⟩ := (H4.out.1.2).1.1
          obtain ⟨t2, s2⟩ := (H4.out.1.2.2).1.1
          clear hF
          go_wp2
          go_ret
          exact ⟨rfl, H4.out.2⟩
        subst hF
        obtain ⟨hf, n1, hL, hO⟩ := tab_ok (rightT_tab HRa.out)
        obtain ⟨-, n2, hM, -⟩ := tab_ok (rightT_tab HRb.out)
        obtain ⟨-, n3, hN, -⟩ := tab_ok (rightT_tab HRc.out)
        have hrs : (l ++ (m ++ n)).length ≤ 9000 := by have := HRa.out.1; have := HRb.out.1; have := HRc.out.1; simp; omega
        have hro : ∀ r ∈ l ++ (m ++ n), Ro F r := fun r hr => by rcases List.mem_append.mp hr with q | q; exact hL r q; rcases List.mem_append.mp q with q | q; exact hM r q; exact hN r q
        have A := led_table (rs := l ++ (m ++ n)) (rightT_tab HRa.out) (fun r h => by simp [h])
        have B := led_table (rs := l ++ (m ++ n)) (rightT_tab HRb.out) (fun r h => by simp [h])
        have C := led_table (rs := l ++ (m ++ n)) (rightT_tab HRc.out) (fun r h => by simp [h])
        have Z := led_table (rs := l ++ (m ++ n)) (empty_tab hf) (fun r h => by cases h)
        obtain ⟨Mab, Aab, Kab⟩ := over_led A B hro hrs
        obtain ⟨Mbc, Abc, Kbc⟩ := over_led B C hro hrs
        obtain ⟨Mx, Ax, Kx⟩ := over_led Aab C hro hrs
        obtain ⟨My, Ay, Ky⟩ := over_led A Abc hro hrs
        obtain ⟨Maa, Aaa, Kaa⟩ := over_led A A hro hrs
        obtain ⟨Man, Aan, Kan⟩ := over_led A Z hro hrs
        obtain ⟨Mna, Ana, Kna⟩ := over_led Z A hro hrs
        obtain ⟨Mgo, Ago, Kgo⟩ := less_led A A hro hrs
        obtain ⟨Mle, Ale, Kle⟩ := less_led A B hro hrs
        obtain ⟨Mba, Aba, Kba⟩ := over_led Ale B hro hrs
        obtain ⟨Mbb, Abb, Kbb⟩ := over_led B A hro hrs
        have Ex := even_any Ax.tab Ay.tab (Ax.eq Ay (fun x _ => by simp only [qOver, qLess, look]; repeat' split <;> simp_all))
        have Eaa := even_any Aaa.tab A.tab (Aaa.eq A (fun x _ => by simp only [qOver, qLess, look]; repeat' split <;> simp_all))
        have Ean := even_any Aan.tab A.tab (Aan.eq A (fun x _ => by simp only [qOver, qLess, look]; repeat' split <;> simp_all))
        have Ena := even_any Ana.tab A.tab (Ana.eq A (fun x _ => by simp only [qOver, qLess, look]; repeat' split <;> simp_all))
        have Ego := even_any Ago.tab Z.tab (Ago.eq Z (fun x _ => by simp only [qOver, qLess, look]; repeat' split <;> simp_all))
        have Eba := even_any Aba.tab Abb.tab (Aba.eq Abb (fun x _ => by simp only [qOver, qLess, look]; repeat' split <;> simp_all))
        clear hf n1 n2 n3 hL hO hM hN hrs hro A B C Z Aab Abc Ax Ay Aaa Aan Ana Ago Ale Aba Abb HRa HRb HRc
        have Hn := hidR (Kns.nil6 (F := F) H4.out)
        obtain ⟨t7, s7⟩ := (H4.out.1).1.1
        obtain ⟨t8, s8⟩ := (H4.out.1.2).1.1
        obtain ⟨t9, s9⟩ := (H4.out.1.2.2).1.1
        clear H4
        obtain ⟨t0, s0⟩ := (Hn.out.1.2).1.1
        obtain ⟨t1, s1⟩ := (Hn.out.1.2.2).1.1
        go_wp2_with fail
        clear t0 s0 t1 s1
        revert Hn
        generalize v4.alloc (.cells #[.int .i64 F, .slice none 0 0] 24) = Wn
        generalize v4.heap.size = Nn
        intro Hn
        clear t7 s7 t8 s8 t9 s9
        refine (Kab _ _ _ (HTab.out.keep Hn.out.2) ((Hn.out.1.2).1.2) ((Hn.out.1.2.2).1.2)).mono ?_
        rintro e v6 ⟨⟨u6, rfl, hown⟩, hb⟩
        obtain ⟨a6, c6, rfl⟩ := own_form hown
        have hq := bl1 v6 (.cells #[.int .i64 F, .slice a6 Mab.length c6] 24)
        have H6 := hidR (Kns.new (F := F) (M := Mab) Hn.out hb hown)
        clear Hn hb hown hq
        obtain ⟨t0, s0⟩ := (H6.out.1.2.2.2).1.1
        obtain ⟨t1, s1⟩ := (H6.out.1.2.2.2.2).1.1
        go_wp2_with fail
        clear t0 s0 t1 s1
        revert H6
        generalize v6.alloc (.cells #[.int .i64 F, .slice a6 Mab.length c6] 24) = W6
        generalize v6.heap.size = N6
        intro H6
        refine (Kbc _ _ _ (HTab.out.keep H6.out.2) ((H6.out.1.2.2.2).1.2) ((H6.out.1.2.2.2.2).1.2)).mono ?_
        rintro e v7 ⟨⟨u7, rfl, hown⟩, hb⟩
        obtain ⟨a7, c7, rfl⟩ := own_form hown
        have hq := bl1 v7 (.cells #[.int .i64 F, .slice a7 Mbc.length c7] 24)
        have H7 := hidR (Kns.new (F := F) (M := Mbc) H6.out hb hown)
        clear H6 hb hown hq
        obtain ⟨t0, s0⟩ := (H7.out.1.2).1.1
        obtain ⟨t1, s1⟩ := (H7.out.1.2.2.2.2.2).1.1
        go_wp2_with fail
        clear t0 s0 t1 s1
        revert H7
        generalize v7.alloc (.cells #[.int .i64 F, .slice a7 Mbc.length c7] 24) = W7
        generalize v7.heap.size = N7
        intro H7
        refine (Kx _ _ _ (HTab.out.keep H7.out.2) ((H7.out.1.2).1.2) ((H7.out.1.2.2.2.2.2).1.2)).mono ?_
        rintro e v8 ⟨⟨u8, rfl, hown⟩, hb⟩
        obtain ⟨a8, c8, rfl⟩ := own_form hown
        have hq := bl1 v8 (.cells #[.int .i64 F, .slice a8 Mx.length c8] 24)
        have H8 := hidR (Kns.new (F := F) (M := Mx) H7.out hb hown)
        clear H7 hb hown hq
        obtain ⟨t0, s0⟩ := (H8.out.1.2.2.2.2).1.1
        obtain ⟨t1, s1⟩ := (H8.out.1.2).1.1
        go_wp2_with fail
        clear t0 s0 t1 s1
        revert H8
        generalize v8.alloc (.cells #[.int .i64 F, .slice a8 Mx.length c8] 24) = W8
        generalize v8.heap.size = N8
        intro H8
        refine (Ky _ _ _ (HTab.out.keep H8.out.2) ((H8.out.1.2.2.2.2).1.2) ((H8.out.1.2).1.2)).mono ?_
        rintro e v9 ⟨⟨u9, rfl, hown⟩, hb⟩
        obtain ⟨a9, c9, rfl⟩ := own_form hown
        have hq := bl1 v9 (.cells #[.int .i64 F, .slice a9 My.length c9] 24)
        have H9 := hidR (Kns.new (F := F) (M := My) H8.out hb hown)
        clear H8 hb hown hq
        obtain ⟨t0, s0⟩ := (H9.out.1.2).1.1
        obtain ⟨t1, s1⟩ := (H9.out.1).1.1
        go_wp2_with fail
        clear t0 s0 t1 s1
        revert H9
        generalize v9.alloc (.cells #[.int .i64 F, .slice a9 My.length c9] 24) = W9
        generalize v9.heap.size = N9
        intro H9
        refine (Ex _ _ _ ((H9.out.1.2).1.2) ((H9.out.1).1.2)).mono ?_
        rintro e v10 ⟨rfl, hb⟩
        have H10 := hidR (Kns.below H9.out hb)
        clear H9
        clear hb
        obtain ⟨t0, s0⟩ := (H10.out.1.2.2.2.2.2).1.1
        go_wp2_with fail
        clear t0 s0
        refine (Kaa _ _ _ (HTab.out.keep H10.out.2) ((H10.out.1.2.2.2.2.2).1.2) ((H10.out.1.2.2.2.2.2).1.2)).mono ?_
        rintro e v11 ⟨⟨u11, rfl, hown⟩, hb⟩
        obtain ⟨a11, c11, rfl⟩ := own_form hown
        have hq := bl1 v11 (.cells #[.int .i64 F, .slice a11 Maa.length c11] 24)
        have H11 := hidR (Kns.new (F := F) (M := Maa) H10.out hb hown)
        clear H10 hb hown hq
        obtain ⟨t0, s0⟩ := (H11.out.1.2.2.2.2.2.2).1.1
        obtain ⟨t1, s1⟩ := (H11.out.1.2.2.2.2.2).1.1
        go_wp2_with fail
        clear t0 s0 t1 s1
        revert H11
        generalize v11.alloc (.cells #[.int .i64 F, .slice a11 Maa.length c11] 24) = W11
        generalize v11.heap.size = N11
        intro H11
        refine (Kan _ _ _ (HTab.out.keep H11.out.2) ((H11.out.1.2.2.2.2.2.2).1.2) ((H11.out.1.2.2.2.2.2).1.2)).mono ?_
        rintro e v12 ⟨⟨u12, rfl, hown⟩, hb⟩
        obtain ⟨a12, c12, rfl⟩ := own_form hown
        have hq := bl1 v12 (.cells #[.int .i64 F, .slice a12 Man.length c12] 24)
        have H12 := hidR (Kns.new (F := F) (M := Man) H11.out hb hown)
        clear H11 hb hown hq
        obtain ⟨t0, s0⟩ := (H12.out.1.2.2.2.2.2.2).1.1
        obtain ⟨t1, s1⟩ := (H12.out.1.2.2.2.2.2.2.2).1.1
        go_wp2_with fail
        clear t0 s0 t1 s1
        revert H12
        generalize v12.alloc (.cells #[.int .i64 F, .slice a12 Man.length c12] 24) = W12
        generalize v12.heap.size = N12
        intro H12
        refine (Kna _ _ _ (HTab.out.keep H12.out.2) ((H12.out.1.2.2.2.2.2.2).1.2) ((H12.out.1.2.2.2.2.2.2.2).1.2)).mono ?_
        rintro e v13 ⟨⟨u13, rfl, hown⟩, hb⟩
        obtain ⟨a13, c13, rfl⟩ := own_form hown
        have hq := bl1 v13 (.cells #[.int .i64 F, .slice a13 Mna.length c13] 24)
        have H13 := hidR (Kns.new (F := F) (M := Mna) H12.out hb hown)
        clear H12 hb hown hq
        obtain ⟨t0, s0⟩ := (H13.out.1.2.2.2.2.2.2.2.2).1.1
        go_wp2_with fail
        clear t0 s0
        revert H13
        generalize v13.alloc (.cells #[.int .i64 F, .slice a13 Mna.length c13] 24) = W13
        generalize v13.heap.size = N13
        intro H13
        refine (Kgo _ _ _ (HTab.out.keep H13.out.2) ((H13.out.1.2.2.2.2.2.2.2.2).1.2) ((H13.out.1.2.2.2.2.2.2.2.2).1.2)).mono ?_
        rintro e v14 ⟨⟨u14, rfl, hown⟩, hb⟩
        obtain ⟨a14, c14, rfl⟩ := own_form hown
        have hq := bl1 v14 (.cells #[.int .i64 F, .slice a14 Mgo.length c14] 24)
        have H14 := hidR (Kns.new (F := F) (M := Mgo) H13.out hb hown)
        clear H13 hb hown hq
        obtain ⟨t0, s0⟩ := (H14.out.1.2.2.2).1.1
        obtain ⟨t1, s1⟩ := (H14.out.1.2.2.2.2.2.2.2.2.2).1.1
        go_wp2_with fail
        clear t0 s0 t1 s1
        revert H14
        generalize v14.alloc (.cells #[.int .i64 F, .slice a14 Mgo.length c14] 24) = W14
        generalize v14.heap.size = N14
        intro H14
        refine (Eaa _ _ _ ((H14.out.1.2.2.2).1.2) ((H14.out.1.2.2.2.2.2.2.2.2.2).1.2)).mono ?_
        rintro e v15 ⟨rfl, hb⟩
        have H15 := hidR (Kns.below H14.out hb)
        clear H14
        clear hb
        obtain ⟨t0, s0⟩ := (H15.out.1.2.2).1.1
        obtain ⟨t1, s1⟩ := (H15.out.1.2.2.2.2.2.2.2.2.2).1.1
        go_wp2_with fail
        clear t0 s0 t1 s1
        refine (Ean _ _ _ ((H15.out.1.2.2).1.2) ((H15.out.1.2.2.2.2.2.2.2.2.2).1.2)).mono ?_
        rintro e v16 ⟨rfl, hb⟩
        have H16 := hidR (Kns.below H15.out hb)
        clear H15
        clear hb
        obtain ⟨t0, s0⟩ := (H16.out.1.2).1.1
        obtain ⟨t1, s1⟩ := (H16.out.1.2.2.2.2.2.2.2.2.2).1.1
        go_wp2_with fail
        clear t0 s0 t1 s1
        refine (Ena _ _ _ ((H16.out.1.2).1.2) ((H16.out.1.2.2.2.2.2.2.2.2.2).1.2)).mono ?_
        rintro e v17 ⟨rfl, hb⟩
        have H17 := hidR (Kns.below H16.out hb)
        clear H16
        clear hb
        obtain ⟨t0, s0⟩ := (H17.out.1).1.1
        obtain ⟨t1, s1⟩ := (H17.out.1.2.2.2.2.2.2.2.2).1.1
        go_wp2_with fail
        clear t0 s0 t1 s1
        refine (Ego _ _ _ ((H17.out.1).1.2) ((H17.out.1.2.2.2.2.2.2.2.2).1.2)).mono ?_
        rintro e v18 ⟨rfl, hb⟩
        have H18 := hidR (Kns.below H17.out hb)
        clear H17
        clear hb
        obtain ⟨t0, s0⟩ := (H18.out.1.2.2.2.2.2.2.2.2.2).1.1
        obtain ⟨t1, s1⟩ := (H18.out.1.2.2.2.2.2.2.2.2.2.2).1.1
        go_wp2_with fail
        clear t0 s0 t1 s1
        refine (Kle _ _ _ (HTab.out.keep H18.out.2) ((H18.out.1.2.2.2.2.2.2.2.2.2).1.2) ((H18.out.1.2.2.2.2.2.2.2.2.2.2).1.2)).mono ?_
        rintro e v19 ⟨⟨u19, rfl, hown⟩, hb⟩
        obtain ⟨a19, c19, rfl⟩ := own_form hown
        have hq := bl1 v19 (.cells #[.int .i64 F, .slice a19 Mle.length c19] 24)
        have H19 := hidR (Kns.new (F := F) (M := Mle) H18.out hb hown)
        clear H18 hb hown hq
        obtain ⟨t0, s0⟩ := (H19.out.1).1.1
        obtain ⟨t1, s1⟩ := (H19.out.1.2.2.2.2.2.2.2.2.2.2.2).1.1
        go_wp2_with fail
        clear t0 s0 t1 s1
        revert H19
        generalize v19.alloc (.cells #[.int .i64 F, .slice a19 Mle.length c19] 24) = W19
        generalize v19.heap.size = N19
        intro H19
        refine (Kba _ _ _ (HTab.out.keep H19.out.2) ((H19.out.1).1.2) ((H19.out.1.2.2.2.2.2.2.2.2.2.2.2).1.2)).mono ?_
        rintro e v20 ⟨⟨u20, rfl, hown⟩, hb⟩
        obtain ⟨a20, c20, rfl⟩ := own_form hown
        have hq := bl1 v20 (.cells #[.int .i64 F, .slice a20 Mba.length c20] 24)
        have H20 := hidR (Kns.new (F := F) (M := Mba) H19.out hb hown)
        clear H19 hb hown hq
        obtain ⟨t0, s0⟩ := (H20.out.1.2.2.2.2.2.2.2.2.2.2.2.2).1.1
        obtain ⟨t1, s1⟩ := (H20.out.1.2.2.2.2.2.2.2.2.2.2.2).1.1
        go_wp2_with fail
        clear t0 s0 t1 s1
        revert H20
        generalize v20.alloc (.cells #[.int .i64 F, .slice a20 Mba.length c20] 24) = W20
        generalize v20.heap.size = N20
        intro H20
        refine (Kbb _ _ _ (HTab.out.keep H20.out.2) ((H20.out.1.2.2.2.2.2.2.2.2.2.2.2.2).1.2) ((H20.out.1.2.2.2.2.2.2.2.2.2.2.2).1.2)).mono ?_
        rintro e v21 ⟨⟨u21, rfl, hown⟩, hb⟩
        obtain ⟨a21, c21, rfl⟩ := own_form hown
        have hq := bl1 v21 (.cells #[.int .i64 F, .slice a21 Mbb.length c21] 24)
        have H21 := hidR (Kns.new (F := F) (M := Mbb) H20.out hb hown)
        clear H20 hb hown hq
        obtain ⟨t0, s0⟩ := (H21.out.1.2).1.1
        obtain ⟨t1, s1⟩ := (H21.out.1).1.1
        go_wp2_with fail
        clear t0 s0 t1 s1
        revert H21
        generalize v21.alloc (.cells #[.int .i64 F, .slice a21 Mbb.length c21] 24) = W21
        generalize v21.heap.size = N21
        intro H21
        refine (Eba _ _ _ ((H21.out.1.2).1.2) ((H21.out.1).1.2)).mono ?_
        rintro e v22 ⟨rfl, hb⟩
        have H22 := hidR (Kns.below H21.out hb)
        clear H21
        clear hb
        go_wp2
        go_ret
        exact ⟨rfl, H22.out.2⟩
end Go.Proofs.YtonagfmkplbooaaDoor
/-
  How a prefix that is handed in reads as data.
-/
namespace Go.Proofs.YtonagfmkplbooaaDoor
open Go.ChangeShapes Go.WideShapes Go.ChangeAt Go.RowKit Go.Joins
set_option linter.unusedSimpArgs false
set_option linter.unusedVariables false

theorem Tryd.cellsW : Tryd.prog.cellsOf 27 = 2 := by kernel_rfl
theorem Tryd.cellsP : Tryd.prog.cellsOf 29 = 3 := by kernel_rfl
theorem Tryd.cellsI : Tryd.prog.cellsOf 3 = 1 := by kernel_rfl
theorem Tryd.cellsU : Tryd.prog.cellsOf 25 = 1 := by kernel_rfl
section
variable {H : Type} {enc : TypeId × Value → H} {w : World} {base : Nat} {spare : Nat → Bool} {held : Bool}
set_option maxRecDepth 100000 in
theorem open_pfx {r : Reach} {b0 : Nat} {v : Value} {d : DataW H} {p : List MemPlace} (hv : Value.okWide Tryd.prog w r b0 29 v) (h : DataW.Trod enc Tryd.prog w base spare held 29 v d p) :
    ∃ a b n : Int, v = .agg #[.int .u64 a, .int .u64 b, .int .i64 n] ∧ d = .agg [.agg [.lit (.int .u64 a), .lit (.int .u64 b)], .lit (.int .i64 n)] ∧ p = [] ∧ (Lit.int .u64 a).wf = true ∧ (Lit.int .u64 b).wf = true ∧ (Lit.int .i64 n).wf = true := by
  obtain ⟨cs, rfl, hsz⟩ := okWide_struct Tryd.underlying29 hv
  obtain ⟨c0, c1, c2, rfl⟩ := array3 (hsz.trans Tryd.cellsP)
  obtain ⟨fuel, hf⟩ := h
  obtain ⟨y0, y1, n, hx, _, h0, h1⟩ := trod_struct2 Tryd.underlying29 hf
  have h0' : DataW.trod enc Tryd.prog w base spare held n 27 [c0, c1] = some y0 := by simpa [Value.cells, Tryd.cellsW] using h0
  have h1' : DataW.trod enc Tryd.prog w base spare held n 3 [c2] = some y1 := by simpa [Value.cells, Tryd.cellsI] using h1
  obtain ⟨u0, u1, m, hu, _, g0, g1⟩ := trod_struct2 Tryd.underlying27 h0'
  have g0' : DataW.trod enc Tryd.prog w base spare held m 25 [c0] = some u0 := by simpa [Value.cells, Tryd.cellsU] using g0
  have g1' : DataW.trod enc Tryd.prog w base spare held m 25 [c1] = some u1 := by simpa [Value.cells, Tryd.cellsU] using g1
  obtain ⟨a, ea, rfl, wa⟩ := DataW.trod_int Tryd.underlying25 g0'
  obtain ⟨b, eb, rfl, wb⟩ := DataW.trod_int Tryd.underlying25 g1'
  obtain ⟨k, ek, rfl, wk⟩ := DataW.trod_int Tryd.underlying3 h1'
  simp at ea eb ek
  subst ea eb ek hu
  simp only [Prod.mk.injEq] at hx
  exact ⟨a, b, k, rfl, hx.1, by simpa using hx.2, wa, wb, wk⟩
set_option maxRecDepth 100000 in
theorem shut_pfx {a b n : Int} (wa : (Lit.int .u64 a).wf = true) (wb : (Lit.int .u64 b).wf = true) (wn : (Lit.int .i64 n).wf = true) :
    DataW.Trod enc Tryd.prog w base spare held 29 (.agg #[.int .u64 a, .int .u64 b, .int .i64 n]) (.agg [.agg [.lit (.int .u64 a), .lit (.int .u64 b)], .lit (.int .i64 n)]) [] := by
  have f : ∀ {z : Int}, (Lit.int .u64 z).wf = true → DataW.trod enc Tryd.prog w base spare held 1 25 [.int .u64 z] = some (.lit (.int .u64 z), []) := fun hz => by simp [DataW.trod, Tryd.underlying25, hz]
  have g : DataW.trod enc Tryd.prog w base spare held 2 3 [.int .i64 n] = some (.lit (.int .i64 n), []) := by simp [DataW.trod, Tryd.underlying3, wn]
  have s : DataW.trod enc Tryd.prog w base spare held 2 27 [.int .u64 a, .int .u64 b] = some (.agg [.lit (.int .u64 a), .lit (.int .u64 b)], []) := by
    have := trod_struct2_mk (enc := enc) (w := w) (base := base) (spare := spare) (held := held) (n := 1) (cs := [.int .u64 a, .int .u64 b]) Tryd.underlying27 (by simp [Tryd.cellsW]) (by simpa [Tryd.cellsU] using f wa) (by simpa [Tryd.cellsU] using f wb)
    simpa using this
  have := trod_struct2_mk (enc := enc) (w := w) (base := base) (spare := spare) (held := held) (n := 2) (cs := [.int .u64 a, .int .u64 b, .int .i64 n]) Tryd.underlying29 (by simp [Tryd.cellsP]) (by simpa [Tryd.cellsW] using s) (by simpa [Tryd.cellsI] using g)
  exact ⟨3, by simpa [Value.cells] using this⟩
end
end Go.Proofs.YtonagfmkplbooaaDoor
