/-
  Part 28 of the proof: 6 texts, one behind the other.
-/
import Derived.Test.YtjgpbahglkaijaaPart5
import Derived.Test.YtjgpbahglkaijaaPart4
import Derived.Test.YtjgpbahglkaijaaPart27
import Derived.Test.YtjgpbahglkaijaaPart18
import Derived.Test.YtjgpbahglkaijaaPart6
import Derived.Test.YtjgpbahglkaijaaPart17
import Derived.Test.YtjgpbahglkaijaaPart2
namespace Go.Proofs.Ytjgpbahglkaijaa
open Go.RowKit
set_option linter.unusedSimpArgs false
set_option linter.unusedVariables false

theorem Slt.old18 {l : List Oper} {a A : Act} {lp : Array Bool} {a' : Act} (h : Slt l a A lp a') (s : Nat) (hs : ∀ o ∈ l, o.dst ≠ some s) : a'.tmps[s]? = a.tmps[s]? := h.oth s (fun k o hk _ => hs o (List.mem_of_getElem? hk))
theorem cellH18 {W W' : World} {B : Nat} (e : W'.heap[B]? = W.heap[B]?) (o : Nat) : W'.cell? ⟨B, o, none⟩ = W.cell? ⟨B, o, none⟩ := World.cell?_of_block (w := W) (a := ⟨B, o, none⟩) e
theorem frozH18 {W W' : World} {B : Nat} (e : W'.heap[B]? = W.heap[B]?) (o : Nat) : W'.frozen? ⟨B, o, none⟩ = W.frozen? ⟨B, o, none⟩ := World.frozen?_of_block (w := W) (a := ⟨B, o, none⟩) e
theorem hSet18 {W : World} {b o : Nat} (u : Value) {k : Nat} (h : ¬ k = b) : (W.setCell ⟨b, o, none⟩ u).heap[k]? = W.heap[k]? := Below.heap_setCell W ⟨b, o, none⟩ u k h
theorem At.heap18 {W W' : World} {B : Nat} {x : BitVec 128} (k : At W B x) (e : W'.heap[B]? = W.heap[B]?) (hs : W.heap.size ≤ W'.heap.size) : At W' B x := by
  unfold At at *
  simp only [cellH18 e, frozH18 e]
  exact ⟨k.1, k.2.1, k.2.2.1, k.2.2.2.1, by omega⟩
theorem gh_quiet18 {P : Program} {o : Oper} {a' : Act} {w' : World} {K : Act → World → Prop} {Q' : Exit → Act → World → Prop} {v : Value} (hr : (execOp a'.eval o).run P w' = .ok (.value v) w') (hK : K (a'.put o.dst v) w') : o.wp P a' w' K Q' := by
  unfold Oper.wp
  rw [hr]
  exact hK
theorem wl_nil18 {P : Program} {ops : Array Oper} {Q : Exit → Act → World → Prop} {a : Act} {w : World} (h : wpList P ops Q [] a w) : Q .normal a w := h
theorem AtP.heapE18 {W W' : World} {B : Nat} {x : BitVec 128} {n : Int} (k : AtP W B x n) (e : W'.heap[B]? = W.heap[B]?) : AtP W' B x n := by
  obtain ⟨h0, h1, h2, f0, f1, f2⟩ := k
  exact ⟨by rw [cellH18 e]; exact h0, by rw [cellH18 e]; exact h1, by rw [cellH18 e]; exact h2, by rw [frozH18 e]; exact f0, by rw [frozH18 e]; exact f1, by rw [frozH18 e]; exact f2⟩
theorem At.setE18 {W : World} {B : Nat} {x : BitVec 128} (k : At W B x) (y : BitVec 128) : At ((W.setCell ⟨B, 0, none⟩ (.int .u64 (hI y))).setCell ⟨B, 1, none⟩ (.int .u64 (lI y))) B y := by
  obtain ⟨c0, c1, f0, f1, h⟩ := k
  refine ⟨?_, ?_, ?_, ?_, ?_⟩ <;> simp [go_sem, c0, c1, f0, f1, h]
theorem within5_zero18 (F : Int) (w : World) (h0 : 0 ≤ F) (h1 : F ≤ 128) : Calls Try.prog 57 #[.int .i64 0, .int .i64 (F + 1)] w fun e w' => e = .returned (.int .i64 0) ∧ Below w.heap.size w w' := by
  have hne : ¬ (F + 1 = 0) := by omega
  have hm : Int.tmod 0 (F + 1) = 0 := by simp
  go_enter Try.func57, Try.ntmps57
  go_wp2
  go_ret
  exact ⟨rfl, Below.refl _ _⟩
structure RF18 (w : World) (x y : BitVec 128) (f9 : Bool) (W : World) : Prop where
  p : AtP W w.heap.size 0#128 0
  x : At W (w.heap.size + 1) x
  r : AtP W (w.heap.size + 2) 0#128 0
  s : if f9 = true then At W (w.heap.size + 3) y else At W (w.heap.size + 3) 0#128
  bel : Below w.heap.size w W
theorem RF18.below {w : World} {x y : BitVec 128} {f9 : Bool} {W W' : World} (k : RF18 w x y f9 W) (hb : Below W.heap.size W W') : RF18 w x y f9 W' :=
  ⟨k.p.below hb, k.x.below hb, k.r.below hb, (by have := k.s; cases f9 <;> simp at this ⊢ <;> exact this.below hb), keepb hb k.bel⟩
theorem RF18.drew {w : World} {x y : BitVec 128} {f9 : Bool} {W : World} (k : RF18 w x y f9 W) : RF18 w x y f9 W.drew := k.below (below_drewN (Below.refl _ _) 1)
theorem AtP.set018 {W : World} {B : Nat} (k : AtP W B 0#128 0) : AtP (((W.setCell ⟨B, 0, none⟩ (.int .u64 0)).setCell ⟨B, 1, none⟩ (.int .u64 0)).setCell ⟨B, 2, none⟩ (.int .i64 0)) B 0#128 0 := by
  obtain ⟨c0, c1, c2, f0, f1, f2⟩ := k
  refine ⟨?_, ?_, ?_, ?_, ?_, ?_⟩ <;> simp [go_sem, *, hI_zero, lI_zero]
theorem RF18.stP {w : World} {x y : BitVec 128} {f9 : Bool} {W : World} (k : RF18 w x y f9 W) : RF18 w x y f9 (((W.setCell ⟨w.heap.size + 2, 0, none⟩ (.int .u64 0)).setCell ⟨w.heap.size + 2, 1, none⟩ (.int .u64 0)).setCell ⟨w.heap.size + 2, 2, none⟩ (.int .i64 0)) := by
  have hsz : W.heap.size ≤ (((W.setCell ⟨w.heap.size + 2, 0, none⟩ (.int .u64 0)).setCell ⟨w.heap.size + 2, 1, none⟩ (.int .u64 0)).setCell ⟨w.heap.size + 2, 2, none⟩ (.int .i64 0)).heap.size := by simp
  have h : ∀ z, z ≠ w.heap.size + 2 → (((W.setCell ⟨w.heap.size + 2, 0, none⟩ (.int .u64 0)).setCell ⟨w.heap.size + 2, 1, none⟩ (.int .u64 0)).setCell ⟨w.heap.size + 2, 2, none⟩ (.int .i64 0)).heap[z]? = W.heap[z]? := fun z hz => by rw [hSet18 _ hz, hSet18 _ hz, hSet18 _ hz]
  refine ⟨k.p.heapE18 (h _ (by omega)), k.x.heap18 (h _ (by omega)) hsz, k.r.set018, ?_, ((k.bel.setCell (p := ⟨w.heap.size + 2, 0, none⟩) (by simp) _).setCell (p := ⟨w.heap.size + 2, 1, none⟩) (by simp) _).setCell (p := ⟨w.heap.size + 2, 2, none⟩) (by simp) _⟩
  have := k.s
  cases f9 <;> simp at this ⊢ <;> exact this.heap18 (h _ (by omega)) hsz
theorem RF18.stW {w : World} {x y : BitVec 128} {W : World} (k : RF18 w x y false W) : RF18 w x y true ((W.setCell ⟨w.heap.size + 3, 0, none⟩ (.int .u64 (hI y))).setCell ⟨w.heap.size + 3, 1, none⟩ (.int .u64 (lI y))) := by
  have hsz : W.heap.size ≤ ((W.setCell ⟨w.heap.size + 3, 0, none⟩ (.int .u64 (hI y))).setCell ⟨w.heap.size + 3, 1, none⟩ (.int .u64 (lI y))).heap.size := by simp
  have h : ∀ z, z ≠ w.heap.size + 3 → ((W.setCell ⟨w.heap.size + 3, 0, none⟩ (.int .u64 (hI y))).setCell ⟨w.heap.size + 3, 1, none⟩ (.int .u64 (lI y))).heap[z]? = W.heap[z]? := fun z hz => by rw [hSet18 _ hz, hSet18 _ hz]
  have hs := k.s
  simp at hs
  exact ⟨k.p.heapE18 (h _ (by omega)), k.x.heap18 (h _ (by omega)) hsz, k.r.heapE18 (h _ (by omega)), by rw [if_pos rfl]; exact hs.setE18 y, (k.bel.setCell (p := ⟨w.heap.size + 3, 0, none⟩) (by simp) _).setCell (p := ⟨w.heap.size + 3, 1, none⟩) (by simp) _⟩
theorem rf_new18 (w : World) (x y : BitVec 128) : RF18 w x y false ((((w.alloc (.cells #[.int .u64 0, .int .u64 0, .int .i64 0] 49)).alloc (.cells #[.int .u64 (hI x), .int .u64 (lI x)] 47)).alloc (.cells #[.int .u64 0, .int .u64 0, .int .i64 0] 49)).alloc (.cells #[.int .u64 0, .int .u64 0] 47)) := by
  have b1 := bl1 w (.cells #[.int .u64 0, .int .u64 0, .int .i64 0] 49)
  have a1 := atp_new w w.heap.size 0#128 0 49 rfl
  rw [hI_zero, lI_zero] at a1
  revert b1 a1
  generalize h1 : w.alloc (.cells #[.int .u64 0, .int .u64 0, .int .i64 0] 49) = w1
  have s1 : w1.heap.size = w.heap.size + 1 := by rw [← h1]; simp
  clear h1
  intro b1 a1
  have b2 := bl1 w1 (.cells #[.int .u64 (hI x), .int .u64 (lI x)] 47)
  have a2 := at_new w1 (w.heap.size + 1) x 47 s1.symm
  revert b2 a2
  generalize h2 : w1.alloc (.cells #[.int .u64 (hI x), .int .u64 (lI x)] 47) = w2
  have s2 : w2.heap.size = w.heap.size + 2 := by rw [← h2]; simp [s1]
  clear h2
  intro b2 a2
  have b3 := bl1 w2 (.cells #[.int .u64 0, .int .u64 0, .int .i64 0] 49)
  have a3 := atp_new w2 (w.heap.size + 2) 0#128 0 49 s2.symm
  rw [hI_zero, lI_zero] at a3
  revert b3 a3
  generalize h3 : w2.alloc (.cells #[.int .u64 0, .int .u64 0, .int .i64 0] 49) = w3
  have s3 : w3.heap.size = w.heap.size + 3 := by rw [← h3]; simp [s2]
  clear h3
  intro b3 a3
  have b4 := bl1 w3 (.cells #[.int .u64 0, .int .u64 0] 47)
  have a4 := at_new w3 (w.heap.size + 3) 0#128 47 s3.symm
  rw [hI_zero, lI_zero] at a4
  exact ⟨((a1.below b2).below b3).below b4, (a2.below b3).below b4, a3.below b4, by simp; exact a4, keepb b4 (keepb b3 (keepb b2 b1))⟩
set_option maxRecDepth 20000 in
set_option maxHeartbeats 8000000 in
theorem fitted_zero18 (F : Int) (x : BitVec 128) (w : World) (h0 : 0 ≤ F) (h1 : F ≤ 128) :
    Calls Try.prog 35 #[.int .i64 F, .agg #[.int .u64 0, .int .u64 0, .int .i64 0], .agg #[.int .u64 (hI x), .int .u64 (lI x)]] w fun e w' => e = .returned (.tuple #[.agg #[.int .u64 0, .int .u64 0, .int .i64 0], .agg #[.int .u64 (hI (x &&& maskW F)), .int .u64 (lI (x &&& maskW F))]]) ∧ Below w.heap.size w w' := by
  have KW := fun w => within5_zero18 F w h0 h1
  have KC := fun w => rcut_any 0#128 0 w
  have hc : cutW 0#128 0 = 0#128 := by decide +kernel
  rw [hc, hI_zero, lI_zero] at KC
  have KM := fun w => rmask_any F w
  have KA := fun w => rand_any x (maskW F) w
  have HF0 : ∀ y, RF18 w x y false _ := fun y => rf_new18 w x y
  have HF1 := hid13 (HF0 (x &&& maskW F))
  revert KM KA HF1
  generalize x &&& maskW F = y
  generalize maskW F = mk
  intro KM KA HF1
  have mF : IntKind.i64.wrap (F + 1) = F + 1 := by rw [IntKind.wrap_i64]; omega
  obtain ⟨p0, p1, p2, -, -, -⟩ := HF1.out.p
  simp only [hI_zero, lI_zero] at p0 p1
  clear HF0 hc
  go_enter Try.func35, Try.ntmps35
  go_wp2_with fail
  refine (KW _).mono ?_
  rintro e w1 ⟨rfl, hb⟩
  have HF := hid13 (HF1.out.below hb)
  clear KW hb HF1 p0 p1 p2
  go_wp2_with fail
  refine gh_region (γ := Unit) (qpOk 10 10 (by decide) (fun N => by kernel_rfl) (by kernel_rfl) (by kernel_rfl) (by kernel_rfl) (by kernel_rfl)) (by kernel_rfl) (by kernel_rfl) [some 14, some 15, some 16, some 17, some 18, some 19, some 20, some 21, none, none] (fun g => [.pointer (some ⟨w.heap.size, 0, none⟩), .agg #[.int .u64 0, .int .u64 0], .int .i64 0, .agg #[.int .u64 0, .int .u64 0, .int .i64 0], .agg #[.int .u64 (hI x), .int .u64 (lI x)], .int .i64 F, .agg #[.int .u64 (hI mk), .int .u64 (lI mk)], .agg #[.int .u64 (hI y), .int .u64 (lI y)], undef, undef]) (by kernel_rfl) (by simp) (fun lp g W => RF18 w x y (lp.getD 9 false) W) () (by simpa using HF.out.drew) ?step ?fin
  case step =>
    intro q o lp g w' a' ho hsz hun hdep hR hS K Q' hK
    have hfl : ∀ j, j ≠ q → (lp.setIfInBounds q true).getD j false = lp.getD j false := fun j hj => by rw [Array.getD_eq_getD_getElem?, Array.getD_eq_getD_getElem?, Array.getElem?_setIfInBounds_ne (by omega)]
    have hq : q < 10 := (List.getElem?_eq_some_iff.mp ho).1
    obtain ⟨p0, p1, p2, -, -, -⟩ := hR.p
    simp only [hI_zero, lI_zero] at p0 p1
    obtain ⟨x0, x1, -⟩ := hR.x
    match q, ho, hun, hdep, hK, hfl, hq with
    | 0, ho, hun, hdep, hK, hfl, _ =>
      obtain rfl := Option.some.inj ho
      have o4 : a'.tmps[4]? = some (.pointer (some ⟨w.heap.size, 0, none⟩)) := (hS.old18 4 (by simp)).trans rfl
      have hK' := hK g w' (fun _ _ _ _ _ _ => rfl) (by rw [hfl 9 (by decide)]; exact hR) (.pointer (some ⟨w.heap.size, 0, none⟩)) (by simp only [valO, Option.bind_some]; simp only [putAll, Act.put, List.setIfInBounds_toArray, List.set_cons_zero, List.set_cons_succ]; rfl)
      clear hS hdep hR
      refine gh_quiet18 (v := .pointer (some ⟨w.heap.size, 0, none⟩)) ?_ ?_
      · (simp only [execOp, Act.eval, o4]; go_simp; first | done | (simp; done) | (simp [*]; done))
      · exact hK'
    | 1, ho, hun, hdep, hK, hfl, _ =>
      obtain rfl := Option.some.inj ho
      have d0 : lp.getD 0 false = true := hdep { on := 0, ground := .data } (by simp) rfl
      have e14 : a'.tmps[14]? = some (.pointer (some ⟨w.heap.size, 0, none⟩)) := (hS.don 0 _ 14 rfl d0 rfl).trans (by simp only [putAll, Act.put, List.setIfInBounds_toArray, List.set_cons_zero, List.set_cons_succ]; rfl)
      have hK' := hK g w' (fun _ _ _ _ _ _ => rfl) (by rw [hfl 9 (by decide)]; exact hR) (.agg #[.int .u64 0, .int .u64 0]) (by simp only [valO, Option.bind_some]; simp only [putAll, Act.put, List.setIfInBounds_toArray, List.set_cons_zero, List.set_cons_succ]; rfl)
      clear hS hdep hR
      refine gh_quiet18 (v := .agg #[.int .u64 0, .int .u64 0]) ?_ ?_
      · (simp only [execOp, Act.eval, e14]; go_simp; first | done | (simp; done) | (simp [*]; done))
      · exact hK'
    | 2, ho, hun, hdep, hK, hfl, _ =>
      obtain rfl := Option.some.inj ho
      have o8 : a'.tmps[8]? = some (.int .i64 0) := (hS.old18 8 (by simp)).trans rfl
      have hK' := hK g w' (fun _ _ _ _ _ _ => rfl) (by rw [hfl 9 (by decide)]; exact hR) (.int .i64 0) (by simp only [valO, Option.bind_some]; simp only [putAll, Act.put, List.setIfInBounds_toArray, List.set_cons_zero, List.set_cons_succ]; rfl)
      clear hS hdep hR
      refine gh_quiet18 (v := .int .i64 0) ?_ ?_
      · (simp only [execOp, Act.eval, o8]; go_simp; first | done | (simp; done) | (simp [*]; done))
      · exact hK'
    | 3, ho, hun, hdep, hK, hfl, _ =>
      obtain rfl := Option.some.inj ho
      have d1 : lp.getD 1 false = true := hdep { on := 1, ground := .data } (by simp) rfl
      have e15 : a'.tmps[15]? = some (.agg #[.int .u64 0, .int .u64 0]) := (hS.don 1 _ 15 rfl d1 rfl).trans (by simp only [putAll, Act.put, List.setIfInBounds_toArray, List.set_cons_zero, List.set_cons_succ]; rfl)
      have d2 : lp.getD 2 false = true := hdep { on := 2, ground := .data } (by simp) rfl
      have e16 : a'.tmps[16]? = some (.int .i64 0) := (hS.don 2 _ 16 rfl d2 rfl).trans (by simp only [putAll, Act.put, List.setIfInBounds_toArray, List.set_cons_zero, List.set_cons_succ]; rfl)
      have KE := KC w'
      clear hdep
      unfold Oper.wp
      simp only [execOp, Act.eval, e15, e16]
      simp [go_sem, e15, e16, Oper.upon]
      refine KE.mono ?_
      rintro e W2 ⟨rfl, hb2⟩
      exact hK g W2 (fun _ _ _ _ _ _ => rfl) (by rw [hfl 9 (by decide)]; exact hR.below hb2) _ (by simp only [valO, Option.bind_some]; simp only [putAll, Act.put, List.setIfInBounds_toArray, List.set_cons_zero, List.set_cons_succ]; rfl)
    | 4, ho, hun, hdep, hK, hfl, _ =>
      obtain rfl := Option.some.inj ho
      have o5 : a'.tmps[5]? = some (.pointer (some ⟨w.heap.size + 1, 0, none⟩)) := (hS.old18 5 (by simp)).trans rfl
      have hK' := hK g w' (fun _ _ _ _ _ _ => rfl) (by rw [hfl 9 (by decide)]; exact hR) (.agg #[.int .u64 (hI x), .int .u64 (lI x)]) (by simp only [valO, Option.bind_some]; simp only [putAll, Act.put, List.setIfInBounds_toArray, List.set_cons_zero, List.set_cons_succ]; rfl)
      clear hS hdep hR
      refine gh_quiet18 (v := .agg #[.int .u64 (hI x), .int .u64 (lI x)]) ?_ ?_
      · (simp only [execOp, Act.eval, o5]; go_simp; first | done | (simp; done) | (simp [*]; done))
      · exact hK'
    | 5, ho, hun, hdep, hK, hfl, _ =>
      obtain rfl := Option.some.inj ho
      have o0 : a'.tmps[0]? = some (.int .i64 F) := (hS.old18 0 (by simp)).trans rfl
      have hK' := hK g w' (fun _ _ _ _ _ _ => rfl) (by rw [hfl 9 (by decide)]; exact hR) (.int .i64 F) (by simp only [valO, Option.bind_some]; simp only [putAll, Act.put, List.setIfInBounds_toArray, List.set_cons_zero, List.set_cons_succ]; rfl)
      clear hS hdep hR
      refine gh_quiet18 (v := .int .i64 F) ?_ ?_
      · (simp only [execOp, Act.eval, o0]; go_simp; first | done | (simp; done) | (simp [*]; done))
      · exact hK'
    | 6, ho, hun, hdep, hK, hfl, _ =>
      obtain rfl := Option.some.inj ho
      have d5 : lp.getD 5 false = true := hdep { on := 5, ground := .data } (by simp) rfl
      have e19 : a'.tmps[19]? = some (.int .i64 F) := (hS.don 5 _ 19 rfl d5 rfl).trans (by simp only [putAll, Act.put, List.setIfInBounds_toArray, List.set_cons_zero, List.set_cons_succ]; rfl)
      have KE := KM w'
      clear hdep
      unfold Oper.wp
      simp only [execOp, Act.eval, e19]
      simp [go_sem, e19, Oper.upon]
      refine KE.mono ?_
      rintro e W2 ⟨rfl, hb2⟩
      exact hK g W2 (fun _ _ _ _ _ _ => rfl) (by rw [hfl 9 (by decide)]; exact hR.below hb2) _ (by simp only [valO, Option.bind_some]; simp only [putAll, Act.put, List.setIfInBounds_toArray, List.set_cons_zero, List.set_cons_succ]; rfl)
    | 7, ho, hun, hdep, hK, hfl, _ =>
      obtain rfl := Option.some.inj ho
      have d4 : lp.getD 4 false = true := hdep { on := 4, ground := .data } (by simp) rfl
      have e18 : a'.tmps[18]? = some (.agg #[.int .u64 (hI x), .int .u64 (lI x)]) := (hS.don 4 _ 18 rfl d4 rfl).trans (by simp only [putAll, Act.put, List.setIfInBounds_toArray, List.set_cons_zero, List.set_cons_succ]; rfl)
      have d6 : lp.getD 6 false = true := hdep { on := 6, ground := .data } (by simp) rfl
      have e20 : a'.tmps[20]? = some (.agg #[.int .u64 (hI mk), .int .u64 (lI mk)]) := (hS.don 6 _ 20 rfl d6 rfl).trans (by simp only [putAll, Act.put, List.setIfInBounds_toArray, List.set_cons_zero, List.set_cons_succ]; rfl)
      have KE := KA w'
      clear hdep
      unfold Oper.wp
      simp only [execOp, Act.eval, e18, e20]
      simp [go_sem, e18, e20, Oper.upon]
      refine KE.mono ?_
      rintro e W2 ⟨rfl, hb2⟩
      exact hK g W2 (fun _ _ _ _ _ _ => rfl) (by rw [hfl 9 (by decide)]; exact hR.below hb2) _ (by simp only [valO, Option.bind_some]; simp only [putAll, Act.put, List.setIfInBounds_toArray, List.set_cons_zero, List.set_cons_succ]; rfl)
    | 8, ho, hun, hdep, hK, hfl, _ =>
      obtain rfl := Option.some.inj ho
      have d3 : lp.getD 3 false = true := hdep { on := 3, ground := .data } (by simp) rfl
      have e17 : a'.tmps[17]? = some (.agg #[.int .u64 0, .int .u64 0, .int .i64 0]) := (hS.don 3 _ 17 rfl d3 rfl).trans (by simp only [putAll, Act.put, List.setIfInBounds_toArray, List.set_cons_zero, List.set_cons_succ]; rfl)
      have o6 : a'.tmps[6]? = some (.pointer (some ⟨w.heap.size + 2, 0, none⟩)) := (hS.old18 6 (by simp)).trans rfl
      obtain ⟨z0, z1, z2, f0, f1, f2⟩ := hR.r
      have hK' := hK g _ (fun _ _ _ _ _ _ => rfl) (by rw [hfl 9 (by decide)]; exact hR.stP) undef rfl
      clear hS hdep hR
      unfold Oper.wp
      simp only [hI_zero, lI_zero] at z0 z1
      simp [execOp, Act.eval, e17, o6, go_sem, z0, z1, z2, f0, f1, f2, Oper.upon]
      exact hK'
    | 9, ho, hun, hdep, hK, hfl, _ =>
      obtain rfl := Option.some.inj ho
      have d7 : lp.getD 7 false = true := hdep { on := 7, ground := .data } (by simp) rfl
      have e21 : a'.tmps[21]? = some (.agg #[.int .u64 (hI y), .int .u64 (lI y)]) := (hS.don 7 _ 21 rfl d7 rfl).trans (by simp only [putAll, Act.put, List.setIfInBounds_toArray, List.set_cons_zero, List.set_cons_succ]; rfl)
      have o7 : a'.tmps[7]? = some (.pointer (some ⟨w.heap.size + 3, 0, none⟩)) := (hS.old18 7 (by simp)).trans rfl
      rw [hun] at hR
      have hz := hR.s
      simp only [Bool.false_eq_true, if_false] at hz
      obtain ⟨z0, z1, f0, f1, -⟩ := hz
      have hK' := hK g _ (fun _ _ _ _ _ _ => rfl) (by rw [getD_set_same (by rw [hsz]; decide)]; exact hR.stW) undef rfl
      clear hS hdep hR
      unfold Oper.wp
      simp [execOp, Act.eval, e21, o7, go_sem, z0, z1, f0, f1, Oper.upon]
      exact hK'
    | n + 10, ho, hun, hdep, hK, hfl, hq => exact absurd hq (by omega)
  case fin =>
    intro g W2 hR
    have hR : RF18 w x y true W2 := by simpa using hR
    obtain ⟨r0, r1, r2, -, -, -⟩ := hR.r
    have hs := hR.s
    simp only [if_true] at hs
    obtain ⟨s0, s1, -⟩ := hs
    have HB := hid13 hR.bel
    simp only [hI_zero, lI_zero] at r0 r1
    simp only [putAll, Act.put, List.setIfInBounds_toArray, List.set_cons_zero, List.set_cons_succ]
    clear hR
    refine wl_nil18 (P := Try.prog) (ops := #[]) ?_
    go_wp2
    exact bodyPost_ret (v := .tuple #[.agg #[.int .u64 0, .int .u64 0, .int .i64 0], .agg #[.int .u64 (hI y), .int .u64 (lI y)]]) (by simp [results, Try.results35, go_sem, r0, r1, r2, s0, s1]) rfl ⟨rfl, HB.out⟩
set_option maxHeartbeats 4000000 in
theorem Fitted_zero18 (F : Int) (x : BitVec 128) (w : World) (h0 : 0 ≤ F) (h1 : F ≤ 128) :
    Calls Try.prog 19 #[.int .i64 F, .agg #[.int .u64 0, .int .u64 0, .int .i64 0], .agg #[.int .u64 (hI x), .int .u64 (lI x)]] w fun e w' => e = .returned (.tuple #[.agg #[.int .u64 0, .int .u64 0, .int .i64 0], .agg #[.int .u64 (hI (x &&& maskW F)), .int .u64 (lI (x &&& maskW F))]]) ∧ Below w.heap.size w w' := by
  have KF := fun w => fitted_zero18 F x w h0 h1
  have HF1 := hid13 (rf_new18 w x (x &&& maskW F))
  revert KF HF1
  generalize x &&& maskW F = y
  intro KF HF1
  obtain ⟨p0, p1, p2, -, -, -⟩ := HF1.out.p
  obtain ⟨x0, x1, -⟩ := HF1.out.x
  simp only [hI_zero, lI_zero] at p0 p1
  go_enter Try.func19, Try.ntmps19
  go_wp2_with fail
  refine (KF _).mono ?_
  rintro e w1 ⟨rfl, hb⟩
  have HF := HF1.out.below hb
  obtain ⟨r0, r1, r2, f0, f1, f2⟩ := HF.r
  have hs := HF.s
  simp only [Bool.false_eq_true, if_false] at hs
  obtain ⟨s0, s1, g0, g1, -⟩ := id hs
  have HG := hid13 (HF.stP.stW)
  obtain ⟨k0, k1, k2, -, -, -⟩ := HG.out.r
  have hk := HG.out.s
  simp only [if_true] at hk
  obtain ⟨k3, k4, -⟩ := hk
  simp only [hI_zero, lI_zero] at r0 r1 s0 s1 k0 k1
  clear KF hb HF1 HF p0 p1 p2 x0 x1 hs
  go_wp2
  exact bodyPost_ret (v := .tuple #[.agg #[.int .u64 0, .int .u64 0, .int .i64 0], .agg #[.int .u64 (hI y), .int .u64 (lI y)]]) (by simp [results, Try.results19, go_sem, k0, k1, k2, k3, k4]) rfl ⟨rfl, HG.out.bel⟩
end Go.Proofs.Ytjgpbahglkaijaa
namespace Go.Proofs.Ytjgpbahglkaijaa
open Go.RowKit
set_option linter.unusedSimpArgs false
set_option linter.unusedVariables false
attribute [local go_sem] Oper.semAt_some

set_option maxRecDepth 20000 in
set_option maxHeartbeats 4000000 in
theorem vcode18 (w : World) (F : Int) (v : Value) (lb : List Nat) (hcode : RwX cB w v lb) (hlb : lb.length ≤ 4194304) (hxb : ∀ b ∈ lb, b < 256) :
    Calls Try.prog 17 #[.int .i64 F, v] w fun e w' => e = .returned (.tuple #[.int .i64 (vfR F lb).1, .int .i64 (vfR F lb).2.1, .int .i64 (vfR F lb).2.2]) ∧ Below w.heap.size w w' := by
  obtain ⟨co, cc, rfl, -, -⟩ := id hcode
  have K := read18 w F co cc lb hcode hlb hxb
  clear hcode hlb hxb
  unfold ReQ at K
  obtain ⟨x1, e1⟩ : ∃ y, y = (vfR F lb).1 := ⟨_, rfl⟩
  obtain ⟨x2, e2⟩ : ∃ y, y = (vfR F lb).2.1 := ⟨_, rfl⟩
  obtain ⟨x3, e3⟩ : ∃ y, y = (vfR F lb).2.2 := ⟨_, rfl⟩
  obtain ⟨x4, e4⟩ : ∃ y, y = vfN F lb := ⟨_, rfl⟩
  rw [← e1, ← e2, ← e3]
  rw [← e1, ← e2, ← e3, ← e4] at K
  clear e1 e2 e3 e4
  go_enter Try.func17, Try.ntmps17
  go_wp2_with fail
  refine K.mono ?_
  rintro e W1 ⟨vb, rfl, hb, hq1, hq2⟩
  obtain ⟨ao, vn, vc, hvb⟩ : ∃ ao vn vc, vb = .slice ao vn vc := by
    by_cases q : x3 = 0
    · by_cases q2 : dcE lb 0 = 0 ∧ (dcI lb 0).op = 4
      · exact ⟨none, 0, 0, hq1 (.inr q2)⟩
      · obtain ⟨L, hL, -⟩ := hq2 q q2
        obtain ⟨ao, vc, h9⟩ := own_form hL.o
        exact ⟨ao, L.length, vc, h9⟩
    · exact ⟨none, 0, 0, hq1 (.inl q)⟩
  subst hvb
  have HQ := hid13 (keepb (bl1 W1 (.cells #[.slice ao vn vc, .int .i64 x1, .int .i64 x4] 86)) hb)
  clear K hb hq1 hq2
  go_wp2
  exact bodyPost_ret (v := .tuple #[.int .i64 x1, .int .i64 x2, .int .i64 x3]) (by simp [results, Try.results17, go_sem]) rfl ⟨rfl, HQ.out⟩
end Go.Proofs.Ytjgpbahglkaijaa
namespace Go.Proofs.Ytjgpbahglkaijaa
open Go.RowKit
set_option linter.unusedSimpArgs false
set_option linter.unusedVariables false

theorem kc18 : chkE 4 9 [] = 0 := by decide +kernel
theorem kd18a : dcE [4, 0, 0, 9] 0 = 0 ∧ dcI [4, 0, 0, 9] 0 = ⟨4, 9, []⟩ ∧ dcZ [4, 0, 0, 9] 0 = 1 := by
  have h := dec_enc [] [] 0 4 9 [] rfl kc18
  have e : ([] ++ wdB (4 : Int).toNat (9 : Int).toNat [] ++ []) = [4, 0, 0, 9] := by decide +kernel
  rw [e] at h
  exact h
theorem kd18b : dcE [4, 0, 0, 9, 4, 0, 0, 9] 0 = 0 ∧ dcI [4, 0, 0, 9, 4, 0, 0, 9] 0 = ⟨4, 9, []⟩ ∧ dcZ [4, 0, 0, 9, 4, 0, 0, 9] 0 = 1 := by
  have h := dec_enc [] [4, 0, 0, 9] 0 4 9 [] rfl kc18
  have e : ([] ++ wdB (4 : Int).toNat (9 : Int).toNat [] ++ [4, 0, 0, 9]) = [4, 0, 0, 9, 4, 0, 0, 9] := by decide +kernel
  rw [e] at h
  exact h
theorem kn18a : vfR 32 [4, 0, 0, 9] = (0, 0, 0) := by
  unfold vfR
  rw [if_neg (by decide), if_neg (by decide), if_pos ⟨kd18a.1, by rw [kd18a.2.1]⟩, if_neg (by decide)]
theorem kn18b : vfR 32 [4, 0, 0, 9, 4, 0, 0, 9] = (0, 1, 31) := by
  unfold vfR
  rw [if_neg (by decide), if_neg (by decide), if_pos ⟨kd18b.1, by rw [kd18b.2.1]⟩, if_pos (by decide)]
theorem rwx_new18 (w : World) (l : List Nat) (T : TypeId) : RwX cB (w.alloc (.cells (l.map cB).toArray T)) (.slice (some ⟨w.heap.size, 0, none⟩) l.length l.length) l := by
  refine ⟨_, _, rfl, Nat.le_refl _, .inr ⟨_, _, rfl, fun j x hj => ?_⟩⟩
  rw [show (0 : Nat) + j = j by omega]
  exact at_16 (new_16 _ _) j _ (by rw [List.getElem?_toArray, List.getElem?_map, hj]; rfl)
set_option maxRecDepth 100000 in
set_option maxHeartbeats 8000000 in
theorem known18 (w : World) :
    Calls Try.prog 16 #[] w fun e w' => e = .returned (.bool true) ∧ Below w.heap.size w w' := by
  have q1 := bl1 w (.cells ([4, 0, 0, 9].map cB).toArray 5)
  have K1 := vcode18 _ 32 _ [4, 0, 0, 9] (rwx_new18 w [4, 0, 0, 9] 5) (by decide) (by decide)
  rw [kn18a] at K1
  have HQ1 := hid13 q1
  have HK2 : Hid (∀ X, Calls Try.prog 17 #[.int .i64 32, .slice (some ⟨X.heap.size, 0, none⟩) 8 8] (X.alloc (.cells ([4, 0, 0, 9, 4, 0, 0, 9].map cB).toArray 5)) fun e w' => e = .returned (.tuple #[.int .i64 0, .int .i64 1, .int .i64 31]) ∧ Below X.heap.size X w') := hid13 (fun X => by
    have K := vcode18 _ 32 _ [4, 0, 0, 9, 4, 0, 0, 9] (rwx_new18 X [4, 0, 0, 9, 4, 0, 0, 9] 5) (by decide) (by decide)
    rw [kn18b] at K
    exact K.mono (fun e w' h => ⟨h.1, keepb h.2 (bl1 _ _)⟩))
  clear q1
  go_enter Try.func16, Try.ntmps16
  go_wp2_with fail
  refine K1.mono ?_
  rintro e w1 ⟨rfl, hb1⟩
  have HB1 := hid13 (keepb hb1 HQ1.out)
  clear K1 hb1
  go_wp2_with fail
  refine (HK2.out w1).mono ?_
  rintro e w2 ⟨rfl, hb2⟩
  have HB2 := hid13 (keepb hb2 HB1.out)
  clear hb2
  go_wp2
  go_ret
  exact ⟨rfl, HB2.out⟩
end Go.Proofs.Ytjgpbahglkaijaa
namespace Go.Proofs.Ytjgpbahglkaijaa
open Go.RowKit
set_option linter.unusedSimpArgs false
set_option linter.unusedVariables false

theorem rmapWords_any (n : Nat) (h : n ≤ 24) (w : World) :
    Calls Try.prog 51 #[.int .i64 (n : Int)] w fun e w' => e = .returned (.int .i64 (mwN n : Int)) ∧ w' = w := by
  by_cases c : n < 5
  · have c1 : (n : Int) < 5 := by omega
    have e : Hid (mwN n = 1) := by show _ = _; unfold mwN; rw [if_pos c]
    clear c h
    go_enter Try.func51, Try.ntmps51
    go_wp2
    go_ret
    exact ⟨by rw [e.out]; rfl, rfl⟩
  · have c1 : ¬ (n : Int) < 5 := by omega
    obtain ⟨j, hj⟩ : ∃ j, j = n - 5 := ⟨_, rfl⟩
    have hs := sh64 j (by omega)
    obtain ⟨P, hP⟩ : ∃ P : Nat, P = 2 ^ j := ⟨_, rfl⟩
    rw [← hP] at hs
    have e : Hid (mwN n = P) := by show _ = _; unfold mwN; rw [if_neg c, hP, hj]
    have hw : IntKind.i64.wrap ((n : Int) - 5) = (j : Int) := by rw [IntKind.wrap_i64]; omega
    clear c h hP hj
    go_enter Try.func51, Try.ntmps51
    go_wp2
    go_ret
    exact ⟨by rw [e.out]; rfl, rfl⟩
set_option maxRecDepth 100000 in
set_option maxHeartbeats 4000000 in
theorem risMap_any (v : Value) (m : List (BitVec 32)) (n : Nat) (w : World) (hv : RwX cU w v m) (h : n ≤ 24) :
    Calls Try.prog 52 #[v, .int .i64 (n : Int)] w fun e w' => e = .returned (.bool (isMapB m n)) ∧ Below w.heap.size w w' := by
  have KM := fun w => rmapWords_any n h w
  obtain ⟨ao, c, rfl, hc, hr⟩ := hv
  have hs1 := sh64u n h
  by_cases h1 : m.length = mwN n
  · obtain ⟨x, t, rfl⟩ : ∃ x t, m = x :: t := by
      cases m with
      | nil => have := mwN_lo n; simp at h1; omega
      | cons x t => exact ⟨x, t, rfl⟩
    obtain ⟨b, off, rfl, hcell⟩ : ∃ b off, ao = some ⟨b, off, none⟩ ∧ ∀ j y, (x :: t)[j]? = some y → w.cell? ⟨b, off + j, none⟩ = some (cU y) := by
      rcases hr with h | h
      · cases h
      · exact h
    have c0 : w.cell? ⟨b, off, none⟩ = some (.int .u32 (uI x)) := hcell 0 x rfl
    have HE : Hid (isMapB (x :: t) n = topB x (2 ^ n)) := by show _ = _; rw [isMapB_cons, decide_eq_true h1, Bool.true_and]
    obtain ⟨L, hL⟩ : ∃ L, L = (x :: t).length := ⟨_, rfl⟩
    rw [← hL] at h1 ⊢
    have hL0 : (0 : Int) < (L : Int) := by rw [hL]; simp
    rw [← h1] at KM
    obtain ⟨P, hP⟩ : ∃ P : Nat, P = 2 ^ n := ⟨_, rfl⟩
    rw [← hP] at hs1 HE
    have hs2 := sh32u x P
    have hh := hi32 x
    have HP : Hid (5 ≤ n → x <<< P = 0#32) := by
      intro h5
      refine BitVec.shiftLeft_eq_zero ?_
      rw [hP]
      have := Nat.pow_le_pow_right (n := 2) (by decide) h5
      exact this
    clear hcell hr h1 hL hc h hP
    unfold topB at HE
    cases g : x.getLsbD 31 with
    | true =>
      rw [g] at hh HE
      replace HE : Hid (isMapB (x :: t) n = (x <<< P == 0#32)) := HE
      simp only [if_true] at hh
      clear g
      by_cases h5 : 5 ≤ n
      · have HE2 : Hid (isMapB (x :: t) n = true) := by show _ = _; rw [HE.out, HP.out h5]; rfl
        have h5' : (5 : Int) ≤ (n : Int) := by omega
        clear h5 HE HP
        go_enter Try.func52, Try.ntmps52
        go_wp2_with (go_at_call 51; refine (KM _).mono ?_; rintro e w1 ⟨rfl, hw1⟩; replace hw1 := hw1.symm; subst hw1)
        go_quiet (fail)
        have HB : Hid (Below w.heap.size w (w.drewN nq)) := below_drewN (Below.refl _ _) nq
        go_wp2
        go_ret
        exact ⟨by rw [HE2.out]; rfl, HB.out⟩
      · have h5' : decide ((5 : Int) ≤ (n : Int)) = false := decide_eq_false (by omega)
        clear h5 HP
        by_cases hz : x <<< P = 0#32
        · have HE2 : Hid (isMapB (x :: t) n = true) := by show _ = _; rw [HE.out, hz]; rfl
          rw [hz, uI_zero] at hs2
          clear hz HE
          go_enter Try.func52, Try.ntmps52
          go_wp2_with (go_at_call 51; refine (KM _).mono ?_; rintro e w1 ⟨rfl, hw1⟩; replace hw1 := hw1.symm; subst hw1)
          go_quiet (fail)
          have HB : Hid (Below w.heap.size w (w.drewN nq)) := below_drewN (Below.refl _ _) nq
          go_wp2
          go_ret
          exact ⟨by rw [HE2.out]; rfl, HB.out⟩
        · have HE2 : Hid (isMapB (x :: t) n = false) := by show _ = _; rw [HE.out]; simpa using hz
          obtain ⟨Y, hY⟩ : ∃ Y, Y = uI (x <<< P) := ⟨_, rfl⟩
          have hY0 : (Y == 0) = false := by
            rw [hY]; simp only [beq_eq_false_iff_ne]
            exact fun e => hz ((uI_is0 _).1 e)
          rw [← hY] at hs2
          clear hz hY HE
          go_enter Try.func52, Try.ntmps52
          go_wp2_with (go_at_call 51; refine (KM _).mono ?_; rintro e w1 ⟨rfl, hw1⟩; replace hw1 := hw1.symm; subst hw1)
          go_quiet (fail)
          have HB : Hid (Below w.heap.size w (w.drewN nq)) := below_drewN (Below.refl _ _) nq
          go_wp2
          go_ret
          exact ⟨by rw [HE2.out]; rfl, HB.out⟩
    | false =>
      rw [g] at hh HE
      replace hh : uI x / 2147483648 = 0 := hh
      replace HE : Hid (isMapB (x :: t) n = false) := HE
      clear hs2 hs1 g HP
      go_enter Try.func52, Try.ntmps52
      go_wp2_with (go_at_call 51; refine (KM _).mono ?_; rintro e w1 ⟨rfl, hw1⟩; replace hw1 := hw1.symm; subst hw1)
      go_ret
      exact ⟨by rw [HE.out]; rfl, Below.refl _ _⟩
  · have HE : Hid (isMapB m n = false) := by show _ = _; unfold isMapB; rw [decide_eq_false h1]; rfl
    obtain ⟨L, hL⟩ : ∃ L, L = mwN n := ⟨_, rfl⟩
    rw [← hL] at KM h1
    have h1' : (((m.length : Nat) : Int) != (L : Int)) = true := by simp; omega
    clear hs1 hr hL h1
    go_enter Try.func52, Try.ntmps52
    go_wp2_with (go_at_call 51; refine (KM _).mono ?_; rintro e w1 ⟨rfl, hw1⟩; replace hw1 := hw1.symm; subst hw1)
    go_ret
    exact ⟨by rw [HE.out]; rfl, Below.refl _ _⟩
end Go.Proofs.Ytjgpbahglkaijaa
namespace Go.Proofs.Ytjgpbahglkaijaa
open Go.RowKit
set_option linter.unusedSimpArgs false
set_option linter.unusedVariables false

end Go.Proofs.Ytjgpbahglkaijaa
namespace Go.Proofs.Ytjgpbahglkaijaa
open Go.RowKit
set_option linter.unusedSimpArgs false
set_option linter.unusedVariables false

theorem and24 (x : BitVec 32) : bits .and .u32 (uI x) 16777215 = uI x % 16777216 := by
  have e : (16777215 : Int) = uI 16777215#32 := lit32 16777215 (by decide)
  have h : bits .and .u32 (uI x) (uI 16777215#32) = uI x % 16777216 := by
    rw [and32, uI_eq, uI_eq, BitVec.toNat_and]
    have : (16777215#32).toNat = 2 ^ 24 - 1 := by decide
    rw [this, Nat.and_two_pow_sub_one_eq_mod]
    have : (2 : Nat) ^ 24 = 16777216 := by decide
    omega
  rw [← e] at h
  exact h
theorem dc_err {l : List Nat} {a z : Int} (h : dcE l a = z) (hz : z ≠ 0) : dcI l a = ⟨0, 0, []⟩ ∧ dcZ l a = 0 ∧ dcE l a = z := by
  have hne : ¬ dcE l a = 0 := by rw [h]; exact hz
  exact ⟨by unfold dcI; rw [if_neg hne], by unfold dcZ; rw [if_neg hne], h⟩
theorem dc_ok {l : List Nat} {k : Nat} {m : List (BitVec 32)} (hk : k < l.length / 4) (h : rdP l k = (m, 0)) : dcI l (k : Int) = ⟨insO l k, insN l k, m⟩ ∧ dcZ l (k : Int) = 1 + (m.length : Int) ∧ dcE l (k : Int) = 0 := by
  have hs : stB l.length (k : Int) 1 = true := by unfold stB; simp; omega
  have hE : dcE l (k : Int) = 0 := by unfold dcE; rw [if_pos hs, Int.toNat_natCast, h]
  have hI : dcI l (k : Int) = ⟨insO l k, insN l k, m⟩ := by unfold dcI; rw [if_pos hE, Int.toNat_natCast, h]
  exact ⟨hI, by unfold dcZ; rw [if_pos hE, hI], hE⟩
theorem dc_bad {l : List Nat} {k : Nat} {m : List (BitVec 32)} {z : Int} (hk : k < l.length / 4) (h : rdP l k = (m, z)) (hz : z ≠ 0) : dcI l (k : Int) = ⟨0, 0, []⟩ ∧ dcZ l (k : Int) = 0 ∧ dcE l (k : Int) = z := by
  have hs : stB l.length (k : Int) 1 = true := by unfold stB; simp; omega
  exact dc_err (by unfold dcE; rw [if_pos hs, Int.toNat_natCast, h]) hz
set_option maxRecDepth 100000 in
set_option maxHeartbeats 8000000 in
theorem rdecode_out (v : Value) (l : List Nat) (a : Int) (w : World) (hv : RwX cB w v l) (hl : l.length ≤ 100000) (hx : ∀ b ∈ l, b < 256) (ha : stB l.length a 1 = false) :
    Calls Try.prog 29 #[v, .int .i64 a] w fun e w' => ∃ v', e = .returned (.tuple #[insV (dcI l a) v', .int .i64 (dcZ l a), .int .i64 (dcE l a)]) ∧ w'.ownsRow w.heap.size 110 1 v' (dcI l a).m.length ((dcI l a).m.map cU) ∧ Below w.heap.size w w' := by
  have hE : dcE l a = 30 := by unfold dcE; rw [if_neg (by rw [ha]; decide)]
  have HE := hid13 (dc_err hE (by decide))
  have hs : ¬ (0 ≤ a ∧ 4 * a + 4 ≤ (l.length : Int)) := by
    unfold stB at ha
    intro q
    have : (decide (0 ≤ a) && decide (a ≤ (l.length : Int) / 4 - 1)) = true := by simp; omega
    rw [this] at ha; cases ha
  have fin : ∀ (W : World) (hb : Below w.heap.size w W), ∃ v', (Ending.returned (.tuple #[.agg #[.int .i64 0, .int .i64 0, .slice none 0 0], .int .i64 0, .int .i64 30])) = .returned (.tuple #[insV (dcI l a) v', .int .i64 (dcZ l a), .int .i64 (dcE l a)]) ∧ W.ownsRow w.heap.size 110 1 v' (dcI l a).m.length ((dcI l a).m.map cU) ∧ Below w.heap.size w W := by
    intro W hb
    refine ⟨.slice none 0 0, ?_, ?_, hb⟩
    · rw [HE.out.1, HE.out.2.1, HE.out.2.2]; rfl
    · rw [HE.out.1]; exact World.ownsRow_nil _ _ _ _
  have HFin := hid13 fin
  obtain ⟨ao, cc, hvf, -⟩ := id hv
  by_cases d0 : a < 0
  · subst hvf
    clear hs ha hE fin hv
    go_enter Try.func29, Try.ntmps29
    go_wp2
    exact bodyPost_ret (v := .tuple #[.agg #[.int .i64 0, .int .i64 0, .slice none 0 0], .int .i64 0, .int .i64 30]) (by simp [results, Try.results29, go_sem]) rfl (HFin.out _ (bl1 _ _))
  by_cases d1 : (l.length : Int) ≤ a
  · subst hvf
    clear hs ha hE fin hv
    go_enter Try.func29, Try.ntmps29
    go_wp2
    exact bodyPost_ret (v := .tuple #[.agg #[.int .i64 0, .int .i64 0, .slice none 0 0], .int .i64 0, .int .i64 30]) (by simp [results, Try.results29, go_sem]) rfl (HFin.out _ (bl1 _ _))
  have q1 := bl1 w (.cells #[.int .i64 0, .int .i64 0, .slice none 0 0] 75)
  have K1 := rget13 v l (4 * a) 4 4 rfl (by decide) (by decide) _ (hv.below q1) (by omega) hx (by omega) (by omega)
  have hno : ¬ (0 ≤ 4 * a ∧ 4 * a ≤ (l.length : Int) - ((4 : Nat) : Int)) := by rintro ⟨q1, q2⟩; exact hs ⟨by omega, by omega⟩
  rw [decide_eq_false hno, show gtN l (4 * a) 4 = 0 by unfold gtN; rw [if_neg hno]] at K1
  have mw : IntKind.i64.wrap (4 * a) = 4 * a := by rw [IntKind.wrap_i64]; omega
  subst hvf
  clear hs ha hE fin hv hno q1
  go_enter Try.func29, Try.ntmps29
  go_wp2_with fail
  refine K1.mono ?_
  rintro e w2 ⟨rfl, hw2⟩
  replace hw2 := hw2.symm
  subst hw2
  go_wp2
  exact bodyPost_ret (v := .tuple #[.agg #[.int .i64 0, .int .i64 0, .slice none 0 0], .int .i64 0, .int .i64 30]) (by simp [results, Try.results29, go_sem]) rfl (HFin.out _ (bl1 _ _))
structure DcW (w W : World) (B : Nat) (o n : Int) (vb : Value) (R : List (BitVec 32)) : Prop where
  b : Below w.heap.size w W
  r : AtIF W w.heap.size 0 0 (.slice none 0 0)
  i : AtIF W B o n vb
  o : W.ownsRow (B + 1) 110 1 vb R.length (R.map cU)
  s : B + 1 ≤ W.heap.size
section
variable {w W W' : World} {B : Nat} {o n : Int} {vb v' : Value} {R R' : List (BitVec 32)}
theorem DcW.below (h : DcW w W B o n vb R) (hb : Below W.heap.size W W') : DcW w W' B o n vb R := ⟨keepb hb h.b, h.r.below hb, h.i.below hb, own_b13 hb h.o, Nat.le_trans h.s hb.size⟩
theorem AtIF.grown {C : Nat} {row : Option Nat} (h : AtIF W C o n vb) (hg : W.grownBy W' row) (hne : some C ≠ row) : AtIF W' C o n vb := by
  have e : W'.heap[C]? = W.heap[C]? := hg.block C (cell_in h.1.1) hne
  have f : ∀ j, W'.frozen? ⟨C, j, none⟩ = W.frozen? ⟨C, j, none⟩ := fun j => World.frozen?_of_block (a := ⟨C, j, none⟩) e
  exact ⟨⟨hg.cell h.1.1 hne, hg.cell h.1.2.1 hne, hg.cell h.1.2.2 hne⟩, (f 0).trans h.2.1, (f 1).trans h.2.2.1, (f 2).trans h.2.2.2⟩
theorem DcW.app (h : DcW w W B o n vb R) (hB : w.heap.size < B) (ho : W'.ownsRow (B + 1) 110 1 v' R'.length (R'.map cU)) (hg : W.grownBy W' vb.ownBlock) : AtIF W' B o n vb ∧ DcW w (W'.setCell ⟨B, 2, none⟩ v') B o n v' R' := by
  have hne : ∀ C, C ≤ B → some C ≠ vb.ownBlock := fun C hC e => by have := (h.o.lt C e.symm).1; omega
  have hi := h.i.grown hg (hne B (Nat.le_refl _))
  have hr := h.r.grown hg (hne w.heap.size (by omega))
  have hb : Below w.heap.size w W' := h.b.grown hg (by have := h.s; omega) (fun k e => by have := (h.o.lt k e).1; omega)
  refine ⟨hi, ?_⟩
  obtain ⟨⟨i0, i1, i2⟩, f0, f1, f2⟩ := hi
  obtain ⟨⟨r0, r1, r2⟩, g0, g1, g2⟩ := hr
  have hBw : ¬ w.heap.size = B := by omega
  have hBw' : ¬ B = w.heap.size := by omega
  refine ⟨hb.setCell (p := ⟨B, 2, none⟩) (by show w.heap.size ≤ B; omega) _, ⟨⟨?_, ?_, ?_⟩, ?_, ?_, ?_⟩, ⟨⟨?_, ?_, ?_⟩, ?_, ?_, ?_⟩, ownsRow_setCell_below ho (Nat.lt_succ_self _) _, ?_⟩
  all_goals first | (simp [go_sem, *]; done) | skip
  · simp [World.setCell]; exact Nat.le_trans h.s hg.size
end
end Go.Proofs.Ytjgpbahglkaijaa
