/-
  Part 5 of the proof: 1 texts, one behind the other.
-/
import Derived.Test.YtnaamkkjledllaaPart2
import Derived.Test.YtnaamkkjledllaaPart4
/-
  What the call of package cost's Add does.
-/
namespace Go.Proofs.Ytnaamkkjledllaa
open Go.RowKit
set_option linter.unusedSimpArgs false
set_option linter.unusedVariables false

theorem hid9 {p : Prop} (h : p) : Hid p := h
theorem wl_nil9 {P : Program} {ops : Array Oper} {Q : Exit → Act → World → Prop} {a : Act} {w : World} (h : wpList P ops Q [] a w) : Q .normal a w := h
theorem Slt.old9 {l : List Oper} {a A : Act} {lp : Array Bool} {a' : Act} (h : Slt l a A lp a') (s : Nat) (hs : ∀ o ∈ l, o.dst ≠ some s) : a'.tmps[s]? = a.tmps[s]? := h.oth s (fun k o hk _ => hs o (List.mem_of_getElem? hk))
theorem gh_quiet9 {P : Program} {o : Oper} {a' : Act} {w' : World} {K : Act → World → Prop} {Q' : Exit → Act → World → Prop} {v : Value} (hr : (execOp a'.eval o).run P w' = .ok (.value v) w') (hK : K (a'.put o.dst v) w') : o.wp P a' w' K Q' := by
  unfold Oper.wp
  rw [hr]
  exact hK
theorem bset3c {n C : Nat} {w W : World} (h : Below n w W) (hp : n ≤ C) (u v t : Value) : Below n w (((W.setCell ⟨C, 0, none⟩ u).setCell ⟨C, 1, none⟩ v).setCell ⟨C, 2, none⟩ t) := ((h.setCell hp _).setCell hp _).setCell hp _
/-- What is known in a region whose store is its operation 13, and whose last operation waits for number 7. -/
structure R9 (B A : World → Prop) (f : Nat → Bool) (W : World) : Prop where
  bef : f 13 = false → B W
  aft : f 13 = true → A W
  wait : f 14 = true → f 7 = true
theorem R9.start {B A : World → Prop} {f : Nat → Bool} {W : World} (h : B W) (hf : ∀ j, f j = false) : R9 B A f W := ⟨fun _ => h, fun q => (by rw [hf] at q; cases q), fun q => (by rw [hf] at q; cases q)⟩
theorem R9.ways {B A : World → Prop} {f : Nat → Bool} {W : World} (k : R9 B A f W) : B W ∨ A W := by
  cases h : f 13 with
  | false => exact .inl (k.bef h)
  | true => exact .inr (k.aft h)
theorem R9.quiet {B A : World → Prop} {f f' : Nat → Bool} {W : World} {i : Nat} (k : R9 B A f W) (hi : i ≠ 13) (hs : f' i = true) (ho : ∀ j, j ≠ i → f' j = f j) (hw : i = 14 → f 7 = true) : R9 B A f' W := by
  refine ⟨fun q => k.bef (by rw [← ho 13 (Ne.symm hi)]; exact q), fun q => k.aft (by rw [← ho 13 (Ne.symm hi)]; exact q), fun q => ?_⟩
  by_cases e : i = 7
  · subst e; exact hs
  · rw [ho 7 (Ne.symm e)]
    by_cases e2 : i = 14
    · exact hw e2
    · exact k.wait (by rw [← ho 14 (Ne.symm e2)]; exact q)
theorem R9.st {B A : World → Prop} {f f' : Nat → Bool} {W W' : World} (k : R9 B A f W) (h : A W') (hs : f' 13 = true) (ho : ∀ j, j ≠ 13 → f' j = f j) : R9 B A f' W' :=
  ⟨fun q => (by rw [hs] at q; cases q), fun _ => h, fun q => by rw [ho 7 (by decide)]; exact k.wait (by rw [← ho 14 (by decide)]; exact q)⟩
set_option maxRecDepth 20000 in
set_option maxHeartbeats 8000000 in
theorem add9_any (N M : Nat) (w : World) (hN : N < 6277101735386680763835789423207666416102355444464034512896) (hM : M < 6277101735386680763835789423207666416102355444464034512896) :
    Calls Try.prog 9 #[costV N, costV M] w fun e w' => e = .returned (.tuple #[costV (fitN (N + M)), .int .i64 (fitE9 (N + M))]) ∧ Below w.heap.size w w' := by
  obtain ⟨p1, p2, p3⟩ := plus_plain N M
  obtain ⟨p4, p5⟩ := plus_top N M _ p3
  have n := cost_lo N
  have m := cost_lo M
  have n0 := cost_up N hN
  have m0 := cost_up M hM
  have b1 := addC_bd (cost2 N) (cost2 M) 0 n.2.2.2.1 n.2.2.2.2 m.2.2.2.1 m.2.2.2.2 (by omega) (by omega)
  have b2 := addC_bd (cost1 N) (cost1 M) _ n.2.1 n.2.2.1 m.2.1 m.2.2.1 b1.1 b1.2
  have c2 := callAdd (cost2 N) (cost2 M) 0 n.2.2.2.1 m.2.2.2.1 (by omega) (by omega)
  have c1 := callAdd (cost1 N) (cost1 M) _ n.2.1 m.2.1 b1.1 b1.2
  have c0 := callAdd (cost0 N) (cost0 M) _ n.1 m.1 b2.1 b2.2
  rw [p1] at c2
  rw [p2] at c1
  rw [p4, p5] at c0
  have HR : Hid ((if cost0 (N + M) / 18446744073709551616 = 0 then (.agg #[.int .u64 (cost0 (N + M) % 18446744073709551616), .int .u64 (cost1 (N + M)), .int .u64 (cost2 (N + M))] : Value) else costV 0) = costV (fitN (N + M)) ∧ (if cost0 (N + M) / 18446744073709551616 = 0 then (0 : Int) else 6) = fitE9 (N + M)) := by
    by_cases h : N + M < 6277101735386680763835789423207666416102355444464034512896
    · obtain ⟨q1, q2⟩ := top_in (N + M) h
      obtain ⟨f1, f2⟩ := fit_in h
      rw [q1, q2, f1, f2]; exact ⟨rfl, rfl⟩
    · have q := top_out (N + M) h
      obtain ⟨f1, f2⟩ := fit_out h
      rw [if_neg q, if_neg q, f1, f2]; exact ⟨rfl, rfl⟩
  clear p1 p2 p3 p4 p5 b1 b2 n m n0 m0 hN hM
  rw [show costV N = .agg #[.int .u64 (cost0 N), .int .u64 (cost1 N), .int .u64 (cost2 N)] from rfl, show costV M = .agg #[.int .u64 (cost0 M), .int .u64 (cost1 M), .int .u64 (cost2 M)] from rfl]
  revert HR
  rw [show costV (fitN (N + M)) = .agg #[.int .u64 (cost0 (fitN (N + M))), .int .u64 (cost1 (fitN (N + M))), .int .u64 (cost2 (fitN (N + M)))] from rfl]
  generalize cost0 (fitN (N + M)) = v0
  generalize cost1 (fitN (N + M)) = v1
  generalize cost2 (fitN (N + M)) = v2
  generalize fitE9 (N + M) = E
  intro HR
  generalize addC (cost1 N) (cost1 M) (addC (cost2 N) (cost2 M) 0) = k1 at *
  generalize addC (cost2 N) (cost2 M) 0 = k2 at *
  generalize cost0 (N + M) / 18446744073709551616 = k0 at *
  generalize cost0 (N + M) % 18446744073709551616 = t0 at *
  generalize cost1 (N + M) = t1 at *
  generalize cost2 (N + M) = t2 at *
  generalize cost0 N = x0 at *
  generalize cost1 N = x1 at *
  generalize cost2 N = x2 at *
  generalize cost0 M = y0 at *
  generalize cost1 M = y1 at *
  generalize cost2 M = y2 at *
  have KF := fun w => fitting_any t0 t1 t2 k0 w
  rw [HR.out.1, HR.out.2] at KF
  clear HR
  have HE0 : Hid (E9 w x0 x1 x2 y0 y1 y2 0 0 0 ((((w.alloc (.cells #[.int .u64 x0, .int .u64 x1, .int .u64 x2] 24)).alloc (.cells #[.int .u64 y0, .int .u64 y1, .int .u64 y2] 24)).alloc (.cells #[.int .u64 0, .int .u64 0, .int .u64 0] 24)).alloc (.cells #[.int .u64 0, .int .u64 0, .int .u64 0] 24))) := by
    have p1 := bl1 w (.cells #[.int .u64 x0, .int .u64 x1, .int .u64 x2] 24)
    have q1 := atc_new w w.heap.size x0 x1 x2 24 rfl
    generalize hw1 : w.alloc (.cells #[.int .u64 x0, .int .u64 x1, .int .u64 x2] 24) = w1 at *
    have z1 : w.heap.size + 1 = w1.heap.size := by rw [← hw1]; simp
    have p2 := bl1 w1 (.cells #[.int .u64 y0, .int .u64 y1, .int .u64 y2] 24)
    have q2 := atc_new w1 (w.heap.size + 1) y0 y1 y2 24 z1
    generalize hw2 : w1.alloc (.cells #[.int .u64 y0, .int .u64 y1, .int .u64 y2] 24) = w2 at *
    have z2 : w.heap.size + 1 + 1 = w2.heap.size := by rw [← hw2]; simp [z1]
    have p3 := bl1 w2 (.cells #[.int .u64 0, .int .u64 0, .int .u64 0] 24)
    have q3 := atc_new w2 (w.heap.size + 1 + 1) 0 0 0 24 z2
    generalize hw3 : w2.alloc (.cells #[.int .u64 0, .int .u64 0, .int .u64 0] 24) = w3 at *
    have z3 : w.heap.size + 1 + 1 + 1 = w3.heap.size := by rw [← hw3]; simp [z2]
    have p4 := bl1 w3 (.cells #[.int .u64 0, .int .u64 0, .int .u64 0] 24)
    have q4 := atc_new w3 (w.heap.size + 1 + 1 + 1) 0 0 0 24 z3
    exact ⟨((q1.below p2).below p3).below p4, (q2.below p3).below p4, q3.below p4, q4, keepb p4 (keepb p3 (keepb p2 p1))⟩
  go_enter Try.func9, Try.ntmps9
  go_wp2_with fail
  go_loopw [7, 8] (fun cv i wr => (i = .int .i64 (2) ∧ cv = .int .u64 0 ∧ Hid (E9 w x0 x1 x2 y0 y1 y2 0 0 0 wr)) ∨ (i = .int .i64 (1) ∧ cv = .int .u64 k2 ∧ Hid (E9 w x0 x1 x2 y0 y1 y2 0 0 t2 wr)) ∨ (i = .int .i64 (0) ∧ cv = .int .u64 k1 ∧ Hid (E9 w x0 x1 x2 y0 y1 y2 0 t1 t2 wr)) ∨ (i = .int .i64 (-1) ∧ cv = .int .u64 k0 ∧ Hid (E9 w x0 x1 x2 y0 y1 y2 t0 t1 t2 wr))) (fun _ i _ => (intOf i + 1).toNat)
  case atStart => exact .inl ⟨rfl, rfl, HE0⟩
  case round =>
    clear HE0
    rcases hrel with ⟨rfl, rfl, HE⟩ | ⟨rfl, rfl, HE⟩ | ⟨rfl, rfl, HE⟩ | ⟨rfl, rfl, HE⟩
    · have HC := HE.out.drewN
      clear HE
      go_wp2_with fail
      refine gh_region (γ := Unit) (qpOk 15 15 (by decide) (fun N => by kernel_rfl) (by kernel_rfl) (by kernel_rfl) (by kernel_rfl) (by kernel_rfl)) (by kernel_rfl) (by kernel_rfl) [some 14, some 15, some 16, some 17, some 18, some 19, some 20, some 21, some 22, some 13, some 23, some 24, some 25, none, some 7] (fun g => [.int .i64 2, .int .i64 2, .pointer (some ⟨w.heap.size, 2, none⟩), .int .u64 x2, .int .i64 2, .pointer (some ⟨w.heap.size + 1, 2, none⟩), .int .u64 y2, .int .u64 0, .tuple #[.int .u64 t2, .int .u64 k2], .tuple #[.int .u64 t2, .int .u64 k2], .int .u64 t2, .int .u64 k2, .pointer (some ⟨w.heap.size + 1 + 1 + 1, 2, none⟩), undef, .int .u64 k2]) (by kernel_rfl) (by simp) (fun lp g W => R9 (E9 w x0 x1 x2 y0 y1 y2 0 0 0) (E9 w x0 x1 x2 y0 y1 y2 0 0 t2) (fun j => lp.getD j false) W) () (R9.start (HC 1) (fun j => by simp [Array.getElem?_replicate]; split <;> rfl)) ?step ?fin
      case step =>
        intro q o lp g w' a' ho hsz hun hdep hR hS K Q' hK
        have hfl : ∀ j, j ≠ q → (lp.setIfInBounds q true).getD j false = lp.getD j false := fun j hj => by rw [Array.getD_eq_getD_getElem?, Array.getD_eq_getD_getElem?, Array.getElem?_setIfInBounds_ne (by omega)]
        have hq : q < 15 := (List.getElem?_eq_some_iff.mp ho).1
        have hft : (lp.setIfInBounds q true).getD q false = true := getD_set_same (by rw [hsz]; exact hq)
        clear HC
        obtain ⟨⟨a0, a1, a2⟩, ⟨b0, b1, b2⟩⟩ : (w'.cell? ⟨w.heap.size, 0, none⟩ = some (.int .u64 x0) ∧ w'.cell? ⟨w.heap.size, 1, none⟩ = some (.int .u64 x1) ∧ w'.cell? ⟨w.heap.size, 2, none⟩ = some (.int .u64 x2)) ∧ (w'.cell? ⟨w.heap.size + 1, 0, none⟩ = some (.int .u64 y0) ∧ w'.cell? ⟨w.heap.size + 1, 1, none⟩ = some (.int .u64 y1) ∧ w'.cell? ⟨w.heap.size + 1, 2, none⟩ = some (.int .u64 y2)) := by
          rcases hR.ways with h | h <;> exact ⟨⟨h.1.1, h.1.2.1, h.1.2.2.1⟩, ⟨h.2.1.1, h.2.1.2.1, h.2.1.2.2.1⟩⟩
        match q, ho, hun, hdep, hK, hfl, hft, hq with
        | 0, ho, hun, hdep, hK, hfl, hft, _ =>
          obtain rfl := Option.some.inj ho
          have o8 : a'.tmps[8]? = some (.int .i64 2) := (hS.old9 8 (by simp)).trans rfl
          have hK' := hK g w' (fun _ _ _ _ _ _ => rfl) (hR.quiet (i := 0) (by decide) hft hfl (fun h => absurd h (by decide))) (.int .i64 2) (by simp only [valO, Option.bind_some]; simp only [putAll, Act.put, List.setIfInBounds_toArray, List.set_cons_zero, List.set_cons_succ]; rfl)
          clear hS hdep hR
          refine gh_quiet9 (v := .int .i64 2) ?_ ?_
          · (simp only [execOp, Act.eval, o8]; go_simp; first | done | (simp; done) | (simp [*]; done))
          · exact hK'
        | 1, ho, hun, hdep, hK, hfl, hft, _ =>
          obtain rfl := Option.some.inj ho
          have o8 : a'.tmps[8]? = some (.int .i64 2) := (hS.old9 8 (by simp)).trans rfl
          have hK' := hK g w' (fun _ _ _ _ _ _ => rfl) (hR.quiet (i := 1) (by decide) hft hfl (fun h => absurd h (by decide))) (.int .i64 2) (by simp only [valO, Option.bind_some]; simp only [putAll, Act.put, List.setIfInBounds_toArray, List.set_cons_zero, List.set_cons_succ]; rfl)
          clear hS hdep hR
          refine gh_quiet9 (v := .int .i64 2) ?_ ?_
          · (simp only [execOp, Act.eval, o8]; go_simp; first | done | (simp; done) | (simp [*]; done))
          · exact hK'
        | 2, ho, hun, hdep, hK, hfl, hft, _ =>
          obtain rfl := Option.some.inj ho
          have d1 : lp.getD 1 false = true := hdep { on := 1, ground := .data } (by simp) rfl
          have e15 : a'.tmps[15]? = some (.int .i64 2) := (hS.don 1 _ 15 rfl d1 rfl).trans (by simp only [putAll, Act.put, List.setIfInBounds_toArray, List.set_cons_zero, List.set_cons_succ]; rfl)
          have o2 : a'.tmps[2]? = some (.pointer (some ⟨w.heap.size, 0, none⟩)) := (hS.old9 2 (by simp)).trans rfl
          have hK' := hK g w' (fun _ _ _ _ _ _ => rfl) (hR.quiet (i := 2) (by decide) hft hfl (fun h => absurd h (by decide))) (.pointer (some ⟨w.heap.size, 2, none⟩)) (by simp only [valO, Option.bind_some]; simp only [putAll, Act.put, List.setIfInBounds_toArray, List.set_cons_zero, List.set_cons_succ]; rfl)
          clear hS hdep hR
          refine gh_quiet9 (v := .pointer (some ⟨w.heap.size, 2, none⟩)) ?_ ?_
          · (simp only [execOp, Act.eval, e15, o2]; go_simp; first | done | (simp; done) | (simp [*]; done))
          · exact hK'
        | 3, ho, hun, hdep, hK, hfl, hft, _ =>
          obtain rfl := Option.some.inj ho
          have d2 : lp.getD 2 false = true := hdep { on := 2, ground := .data } (by simp) rfl
          have e16 : a'.tmps[16]? = some (.pointer (some ⟨w.heap.size, 2, none⟩)) := (hS.don 2 _ 16 rfl d2 rfl).trans (by simp only [putAll, Act.put, List.setIfInBounds_toArray, List.set_cons_zero, List.set_cons_succ]; rfl)
          have hK' := hK g w' (fun _ _ _ _ _ _ => rfl) (hR.quiet (i := 3) (by decide) hft hfl (fun h => absurd h (by decide))) (.int .u64 x2) (by simp only [valO, Option.bind_some]; simp only [putAll, Act.put, List.setIfInBounds_toArray, List.set_cons_zero, List.set_cons_succ]; rfl)
          clear hS hdep hR
          refine gh_quiet9 (v := .int .u64 x2) ?_ ?_
          · (simp only [execOp, Act.eval, e16]; go_simp; first | done | (simp; done) | (simp [*]; done))
          · exact hK'
        | 4, ho, hun, hdep, hK, hfl, hft, _ =>
          obtain rfl := Option.some.inj ho
          have o8 : a'.tmps[8]? = some (.int .i64 2) := (hS.old9 8 (by simp)).trans rfl
          have hK' := hK g w' (fun _ _ _ _ _ _ => rfl) (hR.quiet (i := 4) (by decide) hft hfl (fun h => absurd h (by decide))) (.int .i64 2) (by simp only [valO, Option.bind_some]; simp only [putAll, Act.put, List.setIfInBounds_toArray, List.set_cons_zero, List.set_cons_succ]; rfl)
          clear hS hdep hR
          refine gh_quiet9 (v := .int .i64 2) ?_ ?_
          · (simp only [execOp, Act.eval, o8]; go_simp; first | done | (simp; done) | (simp [*]; done))
          · exact hK'
        | 5, ho, hun, hdep, hK, hfl, hft, _ =>
          obtain rfl := Option.some.inj ho
          have d4 : lp.getD 4 false = true := hdep { on := 4, ground := .data } (by simp) rfl
          have e18 : a'.tmps[18]? = some (.int .i64 2) := (hS.don 4 _ 18 rfl d4 rfl).trans (by simp only [putAll, Act.put, List.setIfInBounds_toArray, List.set_cons_zero, List.set_cons_succ]; rfl)
          have o3 : a'.tmps[3]? = some (.pointer (some ⟨w.heap.size + 1, 0, none⟩)) := (hS.old9 3 (by simp)).trans rfl
          have hK' := hK g w' (fun _ _ _ _ _ _ => rfl) (hR.quiet (i := 5) (by decide) hft hfl (fun h => absurd h (by decide))) (.pointer (some ⟨w.heap.size + 1, 2, none⟩)) (by simp only [valO, Option.bind_some]; simp only [putAll, Act.put, List.setIfInBounds_toArray, List.set_cons_zero, List.set_cons_succ]; rfl)
          clear hS hdep hR
          refine gh_quiet9 (v := .pointer (some ⟨w.heap.size + 1, 2, none⟩)) ?_ ?_
          · (simp only [execOp, Act.eval, e18, o3]; go_simp; first | done | (simp; done) | (simp [*]; done))
          · exact hK'
        | 6, ho, hun, hdep, hK, hfl, hft, _ =>
          obtain rfl := Option.some.inj ho
          have d5 : lp.getD 5 false = true := hdep { on := 5, ground := .data } (by simp) rfl
          have e19 : a'.tmps[19]? = some (.pointer (some ⟨w.heap.size + 1, 2, none⟩)) := (hS.don 5 _ 19 rfl d5 rfl).trans (by simp only [putAll, Act.put, List.setIfInBounds_toArray, List.set_cons_zero, List.set_cons_succ]; rfl)
          have hK' := hK g w' (fun _ _ _ _ _ _ => rfl) (hR.quiet (i := 6) (by decide) hft hfl (fun h => absurd h (by decide))) (.int .u64 y2) (by simp only [valO, Option.bind_some]; simp only [putAll, Act.put, List.setIfInBounds_toArray, List.set_cons_zero, List.set_cons_succ]; rfl)
          clear hS hdep hR
          refine gh_quiet9 (v := .int .u64 y2) ?_ ?_
          · (simp only [execOp, Act.eval, e19]; go_simp; first | done | (simp; done) | (simp [*]; done))
          · exact hK'
        | 7, ho, hun, hdep, hK, hfl, hft, _ =>
          obtain rfl := Option.some.inj ho
          have o7 : a'.tmps[7]? = some (.int .u64 0) := (hS.oth 7 (fun k ok hk hl he => by have := dstG_of (by kernel_rfl) k 14 ok _ 7 hk rfl he rfl; subst this; have := hR.wait hl; rw [hun] at this; cases this)).trans rfl
          have hK' := hK g w' (fun _ _ _ _ _ _ => rfl) (hR.quiet (i := 7) (by decide) hft hfl (fun h => absurd h (by decide))) (.int .u64 0) (by simp only [valO, Option.bind_some]; simp only [putAll, Act.put, List.setIfInBounds_toArray, List.set_cons_zero, List.set_cons_succ]; rfl)
          clear hS hdep hR
          refine gh_quiet9 (v := .int .u64 0) ?_ ?_
          · (simp only [execOp, Act.eval, o7]; go_simp; first | done | (simp; done) | (simp [*]; done))
          · exact hK'
        | 8, ho, hun, hdep, hK, hfl, hft, _ =>
          obtain rfl := Option.some.inj ho
          have d3 : lp.getD 3 false = true := hdep { on := 3, ground := .data } (by simp) rfl
          have e17 : a'.tmps[17]? = some (.int .u64 x2) := (hS.don 3 _ 17 rfl d3 rfl).trans (by simp only [putAll, Act.put, List.setIfInBounds_toArray, List.set_cons_zero, List.set_cons_succ]; rfl)
          have d6 : lp.getD 6 false = true := hdep { on := 6, ground := .data } (by simp) rfl
          have e20 : a'.tmps[20]? = some (.int .u64 y2) := (hS.don 6 _ 20 rfl d6 rfl).trans (by simp only [putAll, Act.put, List.setIfInBounds_toArray, List.set_cons_zero, List.set_cons_succ]; rfl)
          have d7 : lp.getD 7 false = true := hdep { on := 7, ground := .data } (by simp) rfl
          have e21 : a'.tmps[21]? = some (.int .u64 0) := (hS.don 7 _ 21 rfl d7 rfl).trans (by simp only [putAll, Act.put, List.setIfInBounds_toArray, List.set_cons_zero, List.set_cons_succ]; rfl)
          have hK' := hK g w' (fun _ _ _ _ _ _ => rfl) (hR.quiet (i := 8) (by decide) hft hfl (fun h => absurd h (by decide))) (.tuple #[.int .u64 t2, .int .u64 k2]) (by simp only [valO, Option.bind_some]; simp only [putAll, Act.put, List.setIfInBounds_toArray, List.set_cons_zero, List.set_cons_succ]; rfl)
          clear hS hdep hR
          refine gh_quiet9 (v := .tuple #[.int .u64 t2, .int .u64 k2]) ?_ ?_
          · (simp only [execOp, Act.eval, e17, e20, e21]; go_simp; first | done | (simp; done) | (simp [*]; done))
          · exact hK'
        | 9, ho, hun, hdep, hK, hfl, hft, _ =>
          obtain rfl := Option.some.inj ho
          have d8 : lp.getD 8 false = true := hdep { on := 8, ground := .data } (by simp) rfl
          have e22 : a'.tmps[22]? = some (.tuple #[.int .u64 t2, .int .u64 k2]) := (hS.don 8 _ 22 rfl d8 rfl).trans (by simp only [putAll, Act.put, List.setIfInBounds_toArray, List.set_cons_zero, List.set_cons_succ]; rfl)
          have hK' := hK g w' (fun _ _ _ _ _ _ => rfl) (hR.quiet (i := 9) (by decide) hft hfl (fun h => absurd h (by decide))) (.tuple #[.int .u64 t2, .int .u64 k2]) (by simp only [valO, Option.bind_some]; simp only [putAll, Act.put, List.setIfInBounds_toArray, List.set_cons_zero, List.set_cons_succ]; rfl)
          clear hS hdep hR
          refine gh_quiet9 (v := .tuple #[.int .u64 t2, .int .u64 k2]) ?_ ?_
          · (simp only [execOp, Act.eval, e22]; go_simp; first | done | (simp; done) | (simp [*]; done))
          · exact hK'
        | 10, ho, hun, hdep, hK, hfl, hft, _ =>
          obtain rfl := Option.some.inj ho
          have d9 : lp.getD 9 false = true := hdep { on := 9, ground := .data } (by simp) rfl
          have e13 : a'.tmps[13]? = some (.tuple #[.int .u64 t2, .int .u64 k2]) := (hS.don 9 _ 13 rfl d9 rfl).trans (by simp only [putAll, Act.put, List.setIfInBounds_toArray, List.set_cons_zero, List.set_cons_succ]; rfl)
          have hK' := hK g w' (fun _ _ _ _ _ _ => rfl) (hR.quiet (i := 10) (by decide) hft hfl (fun h => absurd h (by decide))) (.int .u64 t2) (by simp only [valO, Option.bind_some]; simp only [putAll, Act.put, List.setIfInBounds_toArray, List.set_cons_zero, List.set_cons_succ]; rfl)
          clear hS hdep hR
          refine gh_quiet9 (v := .int .u64 t2) ?_ ?_
          · (simp only [execOp, Act.eval, e13]; go_simp; first | done | (simp; done) | (simp [*]; done))
          · exact hK'
        | 11, ho, hun, hdep, hK, hfl, hft, _ =>
          obtain rfl := Option.some.inj ho
          have d9 : lp.getD 9 false = true := hdep { on := 9, ground := .data } (by simp) rfl
          have e13 : a'.tmps[13]? = some (.tuple #[.int .u64 t2, .int .u64 k2]) := (hS.don 9 _ 13 rfl d9 rfl).trans (by simp only [putAll, Act.put, List.setIfInBounds_toArray, List.set_cons_zero, List.set_cons_succ]; rfl)
          have hK' := hK g w' (fun _ _ _ _ _ _ => rfl) (hR.quiet (i := 11) (by decide) hft hfl (fun h => absurd h (by decide))) (.int .u64 k2) (by simp only [valO, Option.bind_some]; simp only [putAll, Act.put, List.setIfInBounds_toArray, List.set_cons_zero, List.set_cons_succ]; rfl)
          clear hS hdep hR
          refine gh_quiet9 (v := .int .u64 k2) ?_ ?_
          · (simp only [execOp, Act.eval, e13]; go_simp; first | done | (simp; done) | (simp [*]; done))
          · exact hK'
        | 12, ho, hun, hdep, hK, hfl, hft, _ =>
          obtain rfl := Option.some.inj ho
          have d0 : lp.getD 0 false = true := hdep { on := 0, ground := .data } (by simp) rfl
          have e14 : a'.tmps[14]? = some (.int .i64 2) := (hS.don 0 _ 14 rfl d0 rfl).trans (by simp only [putAll, Act.put, List.setIfInBounds_toArray, List.set_cons_zero, List.set_cons_succ]; rfl)
          have o6 : a'.tmps[6]? = some (.pointer (some ⟨w.heap.size + 1 + 1 + 1, 0, none⟩)) := (hS.old9 6 (by simp)).trans rfl
          have hK' := hK g w' (fun _ _ _ _ _ _ => rfl) (hR.quiet (i := 12) (by decide) hft hfl (fun h => absurd h (by decide))) (.pointer (some ⟨w.heap.size + 1 + 1 + 1, 2, none⟩)) (by simp only [valO, Option.bind_some]; simp only [putAll, Act.put, List.setIfInBounds_toArray, List.set_cons_zero, List.set_cons_succ]; rfl)
          clear hS hdep hR
          refine gh_quiet9 (v := .pointer (some ⟨w.heap.size + 1 + 1 + 1, 2, none⟩)) ?_ ?_
          · (simp only [execOp, Act.eval, e14, o6]; go_simp; first | done | (simp; done) | (simp [*]; done))
          · exact hK'
        | 13, ho, hun, hdep, hK, hfl, hft, _ =>
          obtain rfl := Option.some.inj ho
          have d12 : lp.getD 12 false = true := hdep { on := 12, ground := .data } (by simp) rfl
          have e25 : a'.tmps[25]? = some (.pointer (some ⟨w.heap.size + 1 + 1 + 1, 2, none⟩)) := (hS.don 12 _ 25 rfl d12 rfl).trans (by simp only [putAll, Act.put, List.setIfInBounds_toArray, List.set_cons_zero, List.set_cons_succ]; rfl)
          have d10 : lp.getD 10 false = true := hdep { on := 10, ground := .data } (by simp) rfl
          have e23 : a'.tmps[23]? = some (.int .u64 t2) := (hS.don 10 _ 23 rfl d10 rfl).trans (by simp only [putAll, Act.put, List.setIfInBounds_toArray, List.set_cons_zero, List.set_cons_succ]; rfl)
          obtain ⟨-, -, -, ⟨r0, r1, r2, r3, r4, r5⟩, -⟩ := hR.bef hun
          have hK' := hK g _ (fun _ _ _ _ _ _ => rfl) (hR.st (E9.set2 (X := fun _ => w') (fun _ => hR.bef hun) t2 0) hft hfl) undef rfl
          clear hS hdep hR
          unfold Oper.wp
          simp [execOp, Act.eval, e25, e23, go_sem, r0, r1, r2, r3, r4, r5, Oper.upon]
          exact hK'
        | 14, ho, hun, hdep, hK, hfl, hft, _ =>
          obtain rfl := Option.some.inj ho
          have d11 : lp.getD 11 false = true := hdep { on := 11, ground := .data } (by simp) rfl
          have e24 : a'.tmps[24]? = some (.int .u64 k2) := (hS.don 11 _ 24 rfl d11 rfl).trans (by simp only [putAll, Act.put, List.setIfInBounds_toArray, List.set_cons_zero, List.set_cons_succ]; rfl)
          have d7 : lp.getD 7 false = true := hdep { on := 7, ground := .phase } (by simp) rfl
          have hK' := hK g w' (fun _ _ _ _ _ _ => rfl) (hR.quiet (i := 14) (by decide) hft hfl (fun _ => d7)) (.int .u64 k2) (by simp only [valO, Option.bind_some]; simp only [putAll, Act.put, List.setIfInBounds_toArray, List.set_cons_zero, List.set_cons_succ]; rfl)
          clear hS hdep hR
          refine gh_quiet9 (v := .int .u64 k2) ?_ ?_
          · (simp only [execOp, Act.eval, e24]; go_simp; first | done | (simp; done) | (simp [*]; done))
          · exact hK'
        | n + 15, ho, hun, hdep, hK, hfl, hft, hq => exact absurd hq (by omega)
      case fin =>
        intro g W hR
        have HE2 := hid9 (hR.aft (by simp))
        simp only [putAll, Act.put, List.setIfInBounds_toArray, List.set_cons_zero, List.set_cons_succ]
        clear hR HC
        refine wl_nil9 (P := Try.prog) (ops := #[]) ?_
        go_wp2
        go_roundw
        case rel => exact .inr (.inl ⟨by simp, rfl, HE2⟩)
        case measure => simp [intOf]
    · have HC := HE.out.drewN
      clear HE
      go_wp2_with fail
      refine gh_region (γ := Unit) (qpOk 15 15 (by decide) (fun N => by kernel_rfl) (by kernel_rfl) (by kernel_rfl) (by kernel_rfl) (by kernel_rfl)) (by kernel_rfl) (by kernel_rfl) [some 14, some 15, some 16, some 17, some 18, some 19, some 20, some 21, some 22, some 13, some 23, some 24, some 25, none, some 7] (fun g => [.int .i64 1, .int .i64 1, .pointer (some ⟨w.heap.size, 1, none⟩), .int .u64 x1, .int .i64 1, .pointer (some ⟨w.heap.size + 1, 1, none⟩), .int .u64 y1, .int .u64 k2, .tuple #[.int .u64 t1, .int .u64 k1], .tuple #[.int .u64 t1, .int .u64 k1], .int .u64 t1, .int .u64 k1, .pointer (some ⟨w.heap.size + 1 + 1 + 1, 1, none⟩), undef, .int .u64 k1]) (by kernel_rfl) (by simp) (fun lp g W => R9 (E9 w x0 x1 x2 y0 y1 y2 0 0 t2) (E9 w x0 x1 x2 y0 y1 y2 0 t1 t2) (fun j => lp.getD j false) W) () (R9.start (HC 1) (fun j => by simp [Array.getElem?_replicate]; split <;> rfl)) ?step ?fin
      case step =>
        intro q o lp g w' a' ho hsz hun hdep hR hS K Q' hK
        have hfl : ∀ j, j ≠ q → (lp.setIfInBounds q true).getD j false = lp.getD j false := fun j hj => by rw [Array.getD_eq_getD_getElem?, Array.getD_eq_getD_getElem?, Array.getElem?_setIfInBounds_ne (by omega)]
        have hq : q < 15 := (List.getElem?_eq_some_iff.mp ho).1
        have hft : (lp.setIfInBounds q true).getD q false = true := getD_set_same (by rw [hsz]; exact hq)
        clear HC
        obtain ⟨⟨a0, a1, a2⟩, ⟨b0, b1, b2⟩⟩ : (w'.cell? ⟨w.heap.size, 0, none⟩ = some (.int .u64 x0) ∧ w'.cell? ⟨w.heap.size, 1, none⟩ = some (.int .u64 x1) ∧ w'.cell? ⟨w.heap.size, 2, none⟩ = some (.int .u64 x2)) ∧ (w'.cell? ⟨w.heap.size + 1, 0, none⟩ = some (.int .u64 y0) ∧ w'.cell? ⟨w.heap.size + 1, 1, none⟩ = some (.int .u64 y1) ∧ w'.cell? ⟨w.heap.size + 1, 2, none⟩ = some (.int .u64 y2)) := by
          rcases hR.ways with h | h <;> exact ⟨⟨h.1.1, h.1.2.1, h.1.2.2.1⟩, ⟨h.2.1.1, h.2.1.2.1, h.2.1.2.2.1⟩⟩
        match q, ho, hun, hdep, hK, hfl, hft, hq with
        | 0, ho, hun, hdep, hK, hfl, hft, _ =>
          obtain rfl := Option.some.inj ho
          have o8 : a'.tmps[8]? = some (.int .i64 1) := (hS.old9 8 (by simp)).trans rfl
          have hK' := hK g w' (fun _ _ _ _ _ _ => rfl) (hR.quiet (i := 0) (by decide) hft hfl (fun h => absurd h (by decide))) (.int .i64 1) (by simp only [valO, Option.bind_some]; simp only [putAll, Act.put, List.setIfInBounds_toArray, List.set_cons_zero, List.set_cons_succ]; rfl)
          clear hS hdep hR
          refine gh_quiet9 (v := .int .i64 1) ?_ ?_
          · (simp only [execOp, Act.eval, o8]; go_simp; first | done | (simp; done) | (simp [*]; done))
          · exact hK'
        | 1, ho, hun, hdep, hK, hfl, hft, _ =>
          obtain rfl := Option.some.inj ho
          have o8 : a'.tmps[8]? = some (.int .i64 1) := (hS.old9 8 (by simp)).trans rfl
          have hK' := hK g w' (fun _ _ _ _ _ _ => rfl) (hR.quiet (i := 1) (by decide) hft hfl (fun h => absurd h (by decide))) (.int .i64 1) (by simp only [valO, Option.bind_some]; simp only [putAll, Act.put, List.setIfInBounds_toArray, List.set_cons_zero, List.set_cons_succ]; rfl)
          clear hS hdep hR
          refine gh_quiet9 (v := .int .i64 1) ?_ ?_
          · (simp only [execOp, Act.eval, o8]; go_simp; first | done | (simp; done) | (simp [*]; done))
          · exact hK'
        | 2, ho, hun, hdep, hK, hfl, hft, _ =>
          obtain rfl := Option.some.inj ho
          have d1 : lp.getD 1 false = true := hdep { on := 1, ground := .data } (by simp) rfl
          have e15 : a'.tmps[15]? = some (.int .i64 1) := (hS.don 1 _ 15 rfl d1 rfl).trans (by simp only [putAll, Act.put, List.setIfInBounds_toArray, List.set_cons_zero, List.set_cons_succ]; rfl)
          have o2 : a'.tmps[2]? = some (.pointer (some ⟨w.heap.size, 0, none⟩)) := (hS.old9 2 (by simp)).trans rfl
          have hK' := hK g w' (fun _ _ _ _ _ _ => rfl) (hR.quiet (i := 2) (by decide) hft hfl (fun h => absurd h (by decide))) (.pointer (some ⟨w.heap.size, 1, none⟩)) (by simp only [valO, Option.bind_some]; simp only [putAll, Act.put, List.setIfInBounds_toArray, List.set_cons_zero, List.set_cons_succ]; rfl)
          clear hS hdep hR
          refine gh_quiet9 (v := .pointer (some ⟨w.heap.size, 1, none⟩)) ?_ ?_
          · (simp only [execOp, Act.eval, e15, o2]; go_simp; first | done | (simp; done) | (simp [*]; done))
          · exact hK'
        | 3, ho, hun, hdep, hK, hfl, hft, _ =>
          obtain rfl := Option.some.inj ho
          have d2 : lp.getD 2 false = true := hdep { on := 2, ground := .data } (by simp) rfl
          have e16 : a'.tmps[16]? = some (.pointer (some ⟨w.heap.size, 1, none⟩)) := (hS.don 2 _ 16 rfl d2 rfl).trans (by simp only [putAll, Act.put, List.setIfInBounds_toArray, List.set_cons_zero, List.set_cons_succ]; rfl)
          have hK' := hK g w' (fun _ _ _ _ _ _ => rfl) (hR.quiet (i := 3) (by decide) hft hfl (fun h => absurd h (by decide))) (.int .u64 x1) (by simp only [valO, Option.bind_some]; simp only [putAll, Act.put, List.setIfInBounds_toArray, List.set_cons_zero, List.set_cons_succ]; rfl)
          clear hS hdep hR
          refine gh_quiet9 (v := .int .u64 x1) ?_ ?_
          · (simp only [execOp, Act.eval, e16]; go_simp; first | done | (simp; done) | (simp [*]; done))
          · exact hK'
        | 4, ho, hun, hdep, hK, hfl, hft, _ =>
          obtain rfl := Option.some.inj ho
          have o8 : a'.tmps[8]? = some (.int .i64 1) := (hS.old9 8 (by simp)).trans rfl
          have hK' := hK g w' (fun _ _ _ _ _ _ => rfl) (hR.quiet (i := 4) (by decide) hft hfl (fun h => absurd h (by decide))) (.int .i64 1) (by simp only [valO, Option.bind_some]; simp only [putAll, Act.put, List.setIfInBounds_toArray, List.set_cons_zero, List.set_cons_succ]; rfl)
          clear hS hdep hR
          refine gh_quiet9 (v := .int .i64 1) ?_ ?_
          · (simp only [execOp, Act.eval, o8]; go_simp; first | done | (simp; done) | (simp [*]; done))
          · exact hK'
        | 5, ho, hun, hdep, hK, hfl, hft, _ =>
          obtain rfl := Option.some.inj ho
          have d4 : lp.getD 4 false = true := hdep { on := 4, ground := .data } (by simp) rfl
          have e18 : a'.tmps[18]? = some (.int .i64 1) := (hS.don 4 _ 18 rfl d4 rfl).trans (by simp only [putAll, Act.put, List.setIfInBounds_toArray, List.set_cons_zero, List.set_cons_succ]; rfl)
          have o3 : a'.tmps[3]? = some (.pointer (some ⟨w.heap.size + 1, 0, none⟩)) := (hS.old9 3 (by simp)).trans rfl
          have hK' := hK g w' (fun _ _ _ _ _ _ => rfl) (hR.quiet (i := 5) (by decide) hft hfl (fun h => absurd h (by decide))) (.pointer (some ⟨w.heap.size + 1, 1, none⟩)) (by simp only [valO, Option.bind_some]; simp only [putAll, Act.put, List.setIfInBounds_toArray, List.set_cons_zero, List.set_cons_succ]; rfl)
          clear hS hdep hR
          refine gh_quiet9 (v := .pointer (some ⟨w.heap.size + 1, 1, none⟩)) ?_ ?_
          · (simp only [execOp, Act.eval, e18, o3]; go_simp; first | done | (simp; done) | (simp [*]; done))
          · exact hK'
        | 6, ho, hun, hdep, hK, hfl, hft, _ =>
          obtain rfl := Option.some.inj ho
          have d5 : lp.getD 5 false = true := hdep { on := 5, ground := .data } (by simp) rfl
          have e19 : a'.tmps[19]? = some (.pointer (some ⟨w.heap.size + 1, 1, none⟩)) := (hS.don 5 _ 19 rfl d5 rfl).trans (by simp only [putAll, Act.put, List.setIfInBounds_toArray, List.set_cons_zero, List.set_cons_succ]; rfl)
          have hK' := hK g w' (fun _ _ _ _ _ _ => rfl) (hR.quiet (i := 6) (by decide) hft hfl (fun h => absurd h (by decide))) (.int .u64 y1) (by simp only [valO, Option.bind_some]; simp only [putAll, Act.put, List.setIfInBounds_toArray, List.set_cons_zero, List.set_cons_succ]; rfl)
          clear hS hdep hR
          refine gh_quiet9 (v := .int .u64 y1) ?_ ?_
          · (simp only [execOp, Act.eval, e19]; go_simp; first | done | (simp; done) | (simp [*]; done))
          · exact hK'
        | 7, ho, hun, hdep, hK, hfl, hft, _ =>
          obtain rfl := Option.some.inj ho
          have o7 : a'.tmps[7]? = some (.int .u64 k2) := (hS.oth 7 (fun k ok hk hl he => by have := dstG_of (by kernel_rfl) k 14 ok _ 7 hk rfl he rfl; subst this; have := hR.wait hl; rw [hun] at this; cases this)).trans rfl
          have hK' := hK g w' (fun _ _ _ _ _ _ => rfl) (hR.quiet (i := 7) (by decide) hft hfl (fun h => absurd h (by decide))) (.int .u64 k2) (by simp only [valO, Option.bind_some]; simp only [putAll, Act.put, List.setIfInBounds_toArray, List.set_cons_zero, List.set_cons_succ]; rfl)
          clear hS hdep hR
          refine gh_quiet9 (v := .int .u64 k2) ?_ ?_
          · (simp only [execOp, Act.eval, o7]; go_simp; first | done | (simp; done) | (simp [*]; done))
          · exact hK'
        | 8, ho, hun, hdep, hK, hfl, hft, _ =>
          obtain rfl := Option.some.inj ho
          have d3 : lp.getD 3 false = true := hdep { on := 3, ground := .data } (by simp) rfl
          have e17 : a'.tmps[17]? = some (.int .u64 x1) := (hS.don 3 _ 17 rfl d3 rfl).trans (by simp only [putAll, Act.put, List.setIfInBounds_toArray, List.set_cons_zero, List.set_cons_succ]; rfl)
          have d6 : lp.getD 6 false = true := hdep { on := 6, ground := .data } (by simp) rfl
          have e20 : a'.tmps[20]? = some (.int .u64 y1) := (hS.don 6 _ 20 rfl d6 rfl).trans (by simp only [putAll, Act.put, List.setIfInBounds_toArray, List.set_cons_zero, List.set_cons_succ]; rfl)
          have d7 : lp.getD 7 false = true := hdep { on := 7, ground := .data } (by simp) rfl
          have e21 : a'.tmps[21]? = some (.int .u64 k2) := (hS.don 7 _ 21 rfl d7 rfl).trans (by simp only [putAll, Act.put, List.setIfInBounds_toArray, List.set_cons_zero, List.set_cons_succ]; rfl)
          have hK' := hK g w' (fun _ _ _ _ _ _ => rfl) (hR.quiet (i := 8) (by decide) hft hfl (fun h => absurd h (by decide))) (.tuple #[.int .u64 t1, .int .u64 k1]) (by simp only [valO, Option.bind_some]; simp only [putAll, Act.put, List.setIfInBounds_toArray, List.set_cons_zero, List.set_cons_succ]; rfl)
          clear hS hdep hR
          refine gh_quiet9 (v := .tuple #[.int .u64 t1, .int .u64 k1]) ?_ ?_
          · (simp only [execOp, Act.eval, e17, e20, e21]; go_simp; first | done | (simp; done) | (simp [*]; done))
          · exact hK'
        | 9, ho, hun, hdep, hK, hfl, hft, _ =>
          obtain rfl := Option.some.inj ho
          have d8 : lp.getD 8 false = true := hdep { on := 8, ground := .data } (by simp) rfl
          have e22 : a'.tmps[22]? = some (.tuple #[.int .u64 t1, .int .u64 k1]) := (hS.don 8 _ 22 rfl d8 rfl).trans (by simp only [putAll, Act.put, List.setIfInBounds_toArray, List.set_cons_zero, List.set_cons_succ]; rfl)
          have hK' := hK g w' (fun _ _ _ _ _ _ => rfl) (hR.quiet (i := 9) (by decide) hft hfl (fun h => absurd h (by decide))) (.tuple #[.int .u64 t1, .int .u64 k1]) (by simp only [valO, Option.bind_some]; simp only [putAll, Act.put, List.setIfInBounds_toArray, List.set_cons_zero, List.set_cons_succ]; rfl)
          clear hS hdep hR
          refine gh_quiet9 (v := .tuple #[.int .u64 t1, .int .u64 k1]) ?_ ?_
          · (simp only [execOp, Act.eval, e22]; go_simp; first | done | (simp; done) | (simp [*]; done))
          · exact hK'
        | 10, ho, hun, hdep, hK, hfl, hft, _ =>
          obtain rfl := Option.some.inj ho
          have d9 : lp.getD 9 false = true := hdep { on := 9, ground := .data } (by simp) rfl
          have e13 : a'.tmps[13]? = some (.tuple #[.int .u64 t1, .int .u64 k1]) := (hS.don 9 _ 13 rfl d9 rfl).trans (by simp only [putAll, Act.put, List.setIfInBounds_toArray, List.set_cons_zero, List.set_cons_succ]; rfl)
          have hK' := hK g w' (fun _ _ _ _ _ _ => rfl) (hR.quiet (i := 10) (by decide) hft hfl (fun h => absurd h (by decide))) (.int .u64 t1) (by simp only [valO, Option.bind_some]; simp only [putAll, Act.put, List.setIfInBounds_toArray, List.set_cons_zero, List.set_cons_succ]; rfl)
          clear hS hdep hR
          refine gh_quiet9 (v := .int .u64 t1) ?_ ?_
          · (simp only [execOp, Act.eval, e13]; go_simp; first | done | (simp; done) | (simp [*]; done))
          · exact hK'
        | 11, ho, hun, hdep, hK, hfl, hft, _ =>
          obtain rfl := Option.some.inj ho
          have d9 : lp.getD 9 false = true := hdep { on := 9, ground := .data } (by simp) rfl
          have e13 : a'.tmps[13]? = some (.tuple #[.int .u64 t1, .int .u64 k1]) := (hS.don 9 _ 13 rfl d9 rfl).trans (by simp only [putAll, Act.put, List.setIfInBounds_toArray, List.set_cons_zero, List.set_cons_succ]; rfl)
          have hK' := hK g w' (fun _ _ _ _ _ _ => rfl) (hR.quiet (i := 11) (by decide) hft hfl (fun h => absurd h (by decide))) (.int .u64 k1) (by simp only [valO, Option.bind_some]; simp only [putAll, Act.put, List.setIfInBounds_toArray, List.set_cons_zero, List.set_cons_succ]; rfl)
          clear hS hdep hR
          refine gh_quiet9 (v := .int .u64 k1) ?_ ?_
          · (simp only [execOp, Act.eval, e13]; go_simp; first | done | (simp; done) | (simp [*]; done))
          · exact hK'
        | 12, ho, hun, hdep, hK, hfl, hft, _ =>
          obtain rfl := Option.some.inj ho
          have d0 : lp.getD 0 false = true := hdep { on := 0, ground := .data } (by simp) rfl
          have e14 : a'.tmps[14]? = some (.int .i64 1) := (hS.don 0 _ 14 rfl d0 rfl).trans (by simp only [putAll, Act.put, List.setIfInBounds_toArray, List.set_cons_zero, List.set_cons_succ]; rfl)
          have o6 : a'.tmps[6]? = some (.pointer (some ⟨w.heap.size + 1 + 1 + 1, 0, none⟩)) := (hS.old9 6 (by simp)).trans rfl
          have hK' := hK g w' (fun _ _ _ _ _ _ => rfl) (hR.quiet (i := 12) (by decide) hft hfl (fun h => absurd h (by decide))) (.pointer (some ⟨w.heap.size + 1 + 1 + 1, 1, none⟩)) (by simp only [valO, Option.bind_some]; simp only [putAll, Act.put, List.setIfInBounds_toArray, List.set_cons_zero, List.set_cons_succ]; rfl)
          clear hS hdep hR
          refine gh_quiet9 (v := .pointer (some ⟨w.heap.size + 1 + 1 + 1, 1, none⟩)) ?_ ?_
          · (simp only [execOp, Act.eval, e14, o6]; go_simp; first | done | (simp; done) | (simp [*]; done))
          · exact hK'
        | 13, ho, hun, hdep, hK, hfl, hft, _ =>
          obtain rfl := Option.some.inj ho
          have d12 : lp.getD 12 false = true := hdep { on := 12, ground := .data } (by simp) rfl
          have e25 : a'.tmps[25]? = some (.pointer (some ⟨w.heap.size + 1 + 1 + 1, 1, none⟩)) := (hS.don 12 _ 25 rfl d12 rfl).trans (by simp only [putAll, Act.put, List.setIfInBounds_toArray, List.set_cons_zero, List.set_cons_succ]; rfl)
          have d10 : lp.getD 10 false = true := hdep { on := 10, ground := .data } (by simp) rfl
          have e23 : a'.tmps[23]? = some (.int .u64 t1) := (hS.don 10 _ 23 rfl d10 rfl).trans (by simp only [putAll, Act.put, List.setIfInBounds_toArray, List.set_cons_zero, List.set_cons_succ]; rfl)
          obtain ⟨-, -, -, ⟨r0, r1, r2, r3, r4, r5⟩, -⟩ := hR.bef hun
          have hK' := hK g _ (fun _ _ _ _ _ _ => rfl) (hR.st (E9.set1 (X := fun _ => w') (fun _ => hR.bef hun) t1 0) hft hfl) undef rfl
          clear hS hdep hR
          unfold Oper.wp
          simp [execOp, Act.eval, e25, e23, go_sem, r0, r1, r2, r3, r4, r5, Oper.upon]
          exact hK'
        | 14, ho, hun, hdep, hK, hfl, hft, _ =>
          obtain rfl := Option.some.inj ho
          have d11 : lp.getD 11 false = true := hdep { on := 11, ground := .data } (by simp) rfl
          have e24 : a'.tmps[24]? = some (.int .u64 k1) := (hS.don 11 _ 24 rfl d11 rfl).trans (by simp only [putAll, Act.put, List.setIfInBounds_toArray, List.set_cons_zero, List.set_cons_succ]; rfl)
          have d7 : lp.getD 7 false = true := hdep { on := 7, ground := .phase } (by simp) rfl
          have hK' := hK g w' (fun _ _ _ _ _ _ => rfl) (hR.quiet (i := 14) (by decide) hft hfl (fun _ => d7)) (.int .u64 k1) (by simp only [valO, Option.bind_some]; simp only [putAll, Act.put, List.setIfInBounds_toArray, List.set_cons_zero, List.set_cons_succ]; rfl)
          clear hS hdep hR
          refine gh_quiet9 (v := .int .u64 k1) ?_ ?_
          · (simp only [execOp, Act.eval, e24]; go_simp; first | done | (simp; done) | (simp [*]; done))
          · exact hK'
        | n + 15, ho, hun, hdep, hK, hfl, hft, hq => exact absurd hq (by omega)
      case fin =>
        intro g W hR
        have HE2 := hid9 (hR.aft (by simp))
        simp only [putAll, Act.put, List.setIfInBounds_toArray, List.set_cons_zero, List.set_cons_succ]
        clear hR HC
        refine wl_nil9 (P := Try.prog) (ops := #[]) ?_
        go_wp2
        go_roundw
        case rel => exact .inr (.inr (.inl ⟨by simp, rfl, HE2⟩))
        case measure => simp [intOf]
    · have HC := HE.out.drewN
      clear HE
      go_wp2_with fail
      refine gh_region (γ := Unit) (qpOk 15 15 (by decide) (fun N => by kernel_rfl) (by kernel_rfl) (by kernel_rfl) (by kernel_rfl) (by kernel_rfl)) (by kernel_rfl) (by kernel_rfl) [some 14, some 15, some 16, some 17, some 18, some 19, some 20, some 21, some 22, some 13, some 23, some 24, some 25, none, some 7] (fun g => [.int .i64 0, .int .i64 0, .pointer (some ⟨w.heap.size, 0, none⟩), .int .u64 x0, .int .i64 0, .pointer (some ⟨w.heap.size + 1, 0, none⟩), .int .u64 y0, .int .u64 k1, .tuple #[.int .u64 t0, .int .u64 k0], .tuple #[.int .u64 t0, .int .u64 k0], .int .u64 t0, .int .u64 k0, .pointer (some ⟨w.heap.size + 1 + 1 + 1, 0, none⟩), undef, .int .u64 k0]) (by kernel_rfl) (by simp) (fun lp g W => R9 (E9 w x0 x1 x2 y0 y1 y2 0 t1 t2) (E9 w x0 x1 x2 y0 y1 y2 t0 t1 t2) (fun j => lp.getD j false) W) () (R9.start (HC 1) (fun j => by simp [Array.getElem?_replicate]; split <;> rfl)) ?step ?fin
      case step =>
        intro q o lp g w' a' ho hsz hun hdep hR hS K Q' hK
        have hfl : ∀ j, j ≠ q → (lp.setIfInBounds q true).getD j false = lp.getD j false := fun j hj => by rw [Array.getD_eq_getD_getElem?, Array.getD_eq_getD_getElem?, Array.getElem?_setIfInBounds_ne (by omega)]
        have hq : q < 15 := (List.getElem?_eq_some_iff.mp ho).1
        have hft : (lp.setIfInBounds q true).getD q false = true := getD_set_same (by rw [hsz]; exact hq)
        clear HC
        obtain ⟨⟨a0, a1, a2⟩, ⟨b0, b1, b2⟩⟩ : (w'.cell? ⟨w.heap.size, 0, none⟩ = some (.int .u64 x0) ∧ w'.cell? ⟨w.heap.size, 1, none⟩ = some (.int .u64 x1) ∧ w'.cell? ⟨w.heap.size, 2, none⟩ = some (.int .u64 x2)) ∧ (w'.cell? ⟨w.heap.size + 1, 0, none⟩ = some (.int .u64 y0) ∧ w'.cell? ⟨w.heap.size + 1, 1, none⟩ = some (.int .u64 y1) ∧ w'.cell? ⟨w.heap.size + 1, 2, none⟩ = some (.int .u64 y2)) := by
          rcases hR.ways with h | h <;> exact ⟨⟨h.1.1, h.1.2.1, h.1.2.2.1⟩, ⟨h.2.1.1, h.2.1.2.1, h.2.1.2.2.1⟩⟩
        match q, ho, hun, hdep, hK, hfl, hft, hq with
        | 0, ho, hun, hdep, hK, hfl, hft, _ =>
          obtain rfl := Option.some.inj ho
          have o8 : a'.tmps[8]? = some (.int .i64 0) := (hS.old9 8 (by simp)).trans rfl
          have hK' := hK g w' (fun _ _ _ _ _ _ => rfl) (hR.quiet (i := 0) (by decide) hft hfl (fun h => absurd h (by decide))) (.int .i64 0) (by simp only [valO, Option.bind_some]; simp only [putAll, Act.put, List.setIfInBounds_toArray, List.set_cons_zero, List.set_cons_succ]; rfl)
          clear hS hdep hR
          refine gh_quiet9 (v := .int .i64 0) ?_ ?_
          · (simp only [execOp, Act.eval, o8]; go_simp; first | done | (simp; done) | (simp [*]; done))
          · exact hK'
        | 1, ho, hun, hdep, hK, hfl, hft, _ =>
          obtain rfl := Option.some.inj ho
          have o8 : a'.tmps[8]? = some (.int .i64 0) := (hS.old9 8 (by simp)).trans rfl
          have hK' := hK g w' (fun _ _ _ _ _ _ => rfl) (hR.quiet (i := 1) (by decide) hft hfl (fun h => absurd h (by decide))) (.int .i64 0) (by simp only [valO, Option.bind_some]; simp only [putAll, Act.put, List.setIfInBounds_toArray, List.set_cons_zero, List.set_cons_succ]; rfl)
          clear hS hdep hR
          refine gh_quiet9 (v := .int .i64 0) ?_ ?_
          · (simp only [execOp, Act.eval, o8]; go_simp; first | done | (simp; done) | (simp [*]; done))
          · exact hK'
        | 2, ho, hun, hdep, hK, hfl, hft, _ =>
          obtain rfl := Option.some.inj ho
          have d1 : lp.getD 1 false = true := hdep { on := 1, ground := .data } (by simp) rfl
          have e15 : a'.tmps[15]? = some (.int .i64 0) := (hS.don 1 _ 15 rfl d1 rfl).trans (by simp only [putAll, Act.put, List.setIfInBounds_toArray, List.set_cons_zero, List.set_cons_succ]; rfl)
          have o2 : a'.tmps[2]? = some (.pointer (some ⟨w.heap.size, 0, none⟩)) := (hS.old9 2 (by simp)).trans rfl
          have hK' := hK g w' (fun _ _ _ _ _ _ => rfl) (hR.quiet (i := 2) (by decide) hft hfl (fun h => absurd h (by decide))) (.pointer (some ⟨w.heap.size, 0, none⟩)) (by simp only [valO, Option.bind_some]; simp only [putAll, Act.put, List.setIfInBounds_toArray, List.set_cons_zero, List.set_cons_succ]; rfl)
          clear hS hdep hR
          refine gh_quiet9 (v := .pointer (some ⟨w.heap.size, 0, none⟩)) ?_ ?_
          · (simp only [execOp, Act.eval, e15, o2]; go_simp; first | done | (simp; done) | (simp [*]; done))
          · exact hK'
        | 3, ho, hun, hdep, hK, hfl, hft, _ =>
          obtain rfl := Option.some.inj ho
          have d2 : lp.getD 2 false = true := hdep { on := 2, ground := .data } (by simp) rfl
          have e16 : a'.tmps[16]? = some (.pointer (some ⟨w.heap.size, 0, none⟩)) := (hS.don 2 _ 16 rfl d2 rfl).trans (by simp only [putAll, Act.put, List.setIfInBounds_toArray, List.set_cons_zero, List.set_cons_succ]; rfl)
          have hK' := hK g w' (fun _ _ _ _ _ _ => rfl) (hR.quiet (i := 3) (by decide) hft hfl (fun h => absurd h (by decide))) (.int .u64 x0) (by simp only [valO, Option.bind_some]; simp only [putAll, Act.put, List.setIfInBounds_toArray, List.set_cons_zero, List.set_cons_succ]; rfl)
          clear hS hdep hR
          refine gh_quiet9 (v := .int .u64 x0) ?_ ?_
          · (simp only [execOp, Act.eval, e16]; go_simp; first | done | (simp; done) | (simp [*]; done))
          · exact hK'
        | 4, ho, hun, hdep, hK, hfl, hft, _ =>
          obtain rfl := Option.some.inj ho
          have o8 : a'.tmps[8]? = some (.int .i64 0) := (hS.old9 8 (by simp)).trans rfl
          have hK' := hK g w' (fun _ _ _ _ _ _ => rfl) (hR.quiet (i := 4) (by decide) hft hfl (fun h => absurd h (by decide))) (.int .i64 0) (by simp only [valO, Option.bind_some]; simp only [putAll, Act.put, List.setIfInBounds_toArray, List.set_cons_zero, List.set_cons_succ]; rfl)
          clear hS hdep hR
          refine gh_quiet9 (v := .int .i64 0) ?_ ?_
          · (simp only [execOp, Act.eval, o8]; go_simp; first | done | (simp; done) | (simp [*]; done))
          · exact hK'
        | 5, ho, hun, hdep, hK, hfl, hft, _ =>
          obtain rfl := Option.some.inj ho
          have d4 : lp.getD 4 false = true := hdep { on := 4, ground := .data } (by simp) rfl
          have e18 : a'.tmps[18]? = some (.int .i64 0) := (hS.don 4 _ 18 rfl d4 rfl).trans (by simp only [putAll, Act.put, List.setIfInBounds_toArray, List.set_cons_zero, List.set_cons_succ]; rfl)
          have o3 : a'.tmps[3]? = some (.pointer (some ⟨w.heap.size + 1, 0, none⟩)) := (hS.old9 3 (by simp)).trans rfl
          have hK' := hK g w' (fun _ _ _ _ _ _ => rfl) (hR.quiet (i := 5) (by decide) hft hfl (fun h => absurd h (by decide))) (.pointer (some ⟨w.heap.size + 1, 0, none⟩)) (by simp only [valO, Option.bind_some]; simp only [putAll, Act.put, List.setIfInBounds_toArray, List.set_cons_zero, List.set_cons_succ]; rfl)
          clear hS hdep hR
          refine gh_quiet9 (v := .pointer (some ⟨w.heap.size + 1, 0, none⟩)) ?_ ?_
          · (simp only [execOp, Act.eval, e18, o3]; go_simp; first | done | (simp; done) | (simp [*]; done))
          · exact hK'
        | 6, ho, hun, hdep, hK, hfl, hft, _ =>
          obtain rfl := Option.some.inj ho
          have d5 : lp.getD 5 false = true := hdep { on := 5, ground := .data } (by simp) rfl
          have e19 : a'.tmps[19]? = some (.pointer (some ⟨w.heap.size + 1, 0, none⟩)) := (hS.don 5 _ 19 rfl d5 rfl).trans (by simp only [putAll, Act.put, List.setIfInBounds_toArray, List.set_cons_zero, List.set_cons_succ]; rfl)
          have hK' := hK g w' (fun _ _ _ _ _ _ => rfl) (hR.quiet (i := 6) (by decide) hft hfl (fun h => absurd h (by decide))) (.int .u64 y0) (by simp only [valO, Option.bind_some]; simp only [putAll, Act.put, List.setIfInBounds_toArray, List.set_cons_zero, List.set_cons_succ]; rfl)
          clear hS hdep hR
          refine gh_quiet9 (v := .int .u64 y0) ?_ ?_
          · (simp only [execOp, Act.eval, e19]; go_simp; first | done | (simp; done) | (simp [*]; done))
          · exact hK'
        | 7, ho, hun, hdep, hK, hfl, hft, _ =>
          obtain rfl := Option.some.inj ho
          have o7 : a'.tmps[7]? = some (.int .u64 k1) := (hS.oth 7 (fun k ok hk hl he => by have := dstG_of (by kernel_rfl) k 14 ok _ 7 hk rfl he rfl; subst this; have := hR.wait hl; rw [hun] at this; cases this)).trans rfl
          have hK' := hK g w' (fun _ _ _ _ _ _ => rfl) (hR.quiet (i := 7) (by decide) hft hfl (fun h => absurd h (by decide))) (.int .u64 k1) (by simp only [valO, Option.bind_some]; simp only [putAll, Act.put, List.setIfInBounds_toArray, List.set_cons_zero, List.set_cons_succ]; rfl)
          clear hS hdep hR
          refine gh_quiet9 (v := .int .u64 k1) ?_ ?_
          · (simp only [execOp, Act.eval, o7]; go_simp; first | done | (simp; done) | (simp [*]; done))
          · exact hK'
        | 8, ho, hun, hdep, hK, hfl, hft, _ =>
          obtain rfl := Option.some.inj ho
          have d3 : lp.getD 3 false = true := hdep { on := 3, ground := .data } (by simp) rfl
          have e17 : a'.tmps[17]? = some (.int .u64 x0) := (hS.don 3 _ 17 rfl d3 rfl).trans (by simp only [putAll, Act.put, List.setIfInBounds_toArray, List.set_cons_zero, List.set_cons_succ]; rfl)
          have d6 : lp.getD 6 false = true := hdep { on := 6, ground := .data } (by simp) rfl
          have e20 : a'.tmps[20]? = some (.int .u64 y0) := (hS.don 6 _ 20 rfl d6 rfl).trans (by simp only [putAll, Act.put, List.setIfInBounds_toArray, List.set_cons_zero, List.set_cons_succ]; rfl)
          have d7 : lp.getD 7 false = true := hdep { on := 7, ground := .data } (by simp) rfl
          have e21 : a'.tmps[21]? = some (.int .u64 k1) := (hS.don 7 _ 21 rfl d7 rfl).trans (by simp only [putAll, Act.put, List.setIfInBounds_toArray, List.set_cons_zero, List.set_cons_succ]; rfl)
          have hK' := hK g w' (fun _ _ _ _ _ _ => rfl) (hR.quiet (i := 8) (by decide) hft hfl (fun h => absurd h (by decide))) (.tuple #[.int .u64 t0, .int .u64 k0]) (by simp only [valO, Option.bind_some]; simp only [putAll, Act.put, List.setIfInBounds_toArray, List.set_cons_zero, List.set_cons_succ]; rfl)
          clear hS hdep hR
          refine gh_quiet9 (v := .tuple #[.int .u64 t0, .int .u64 k0]) ?_ ?_
          · (simp only [execOp, Act.eval, e17, e20, e21]; go_simp; first | done | (simp; done) | (simp [*]; done))
          · exact hK'
        | 9, ho, hun, hdep, hK, hfl, hft, _ =>
          obtain rfl := Option.some.inj ho
          have d8 : lp.getD 8 false = true := hdep { on := 8, ground := .data } (by simp) rfl
          have e22 : a'.tmps[22]? = some (.tuple #[.int .u64 t0, .int .u64 k0]) := (hS.don 8 _ 22 rfl d8 rfl).trans (by simp only [putAll, Act.put, List.setIfInBounds_toArray, List.set_cons_zero, List.set_cons_succ]; rfl)
          have hK' := hK g w' (fun _ _ _ _ _ _ => rfl) (hR.quiet (i := 9) (by decide) hft hfl (fun h => absurd h (by decide))) (.tuple #[.int .u64 t0, .int .u64 k0]) (by simp only [valO, Option.bind_some]; simp only [putAll, Act.put, List.setIfInBounds_toArray, List.set_cons_zero, List.set_cons_succ]; rfl)
          clear hS hdep hR
          refine gh_quiet9 (v := .tuple #[.int .u64 t0, .int .u64 k0]) ?_ ?_
          · (simp only [execOp, Act.eval, e22]; go_simp; first | done | (simp; done) | (simp [*]; done))
          · exact hK'
        | 10, ho, hun, hdep, hK, hfl, hft, _ =>
          obtain rfl := Option.some.inj ho
          have d9 : lp.getD 9 false = true := hdep { on := 9, ground := .data } (by simp) rfl
          have e13 : a'.tmps[13]? = some (.tuple #[.int .u64 t0, .int .u64 k0]) := (hS.don 9 _ 13 rfl d9 rfl).trans (by simp only [putAll, Act.put, List.setIfInBounds_toArray, List.set_cons_zero, List.set_cons_succ]; rfl)
          have hK' := hK g w' (fun _ _ _ _ _ _ => rfl) (hR.quiet (i := 10) (by decide) hft hfl (fun h => absurd h (by decide))) (.int .u64 t0) (by simp only [valO, Option.bind_some]; simp only [putAll, Act.put, List.setIfInBounds_toArray, List.set_cons_zero, List.set_cons_succ]; rfl)
          clear hS hdep hR
          refine gh_quiet9 (v := .int .u64 t0) ?_ ?_
          · (simp only [execOp, Act.eval, e13]; go_simp; first | done | (simp; done) | (simp [*]; done))
          · exact hK'
        | 11, ho, hun, hdep, hK, hfl, hft, _ =>
          obtain rfl := Option.some.inj ho
          have d9 : lp.getD 9 false = true := hdep { on := 9, ground := .data } (by simp) rfl
          have e13 : a'.tmps[13]? = some (.tuple #[.int .u64 t0, .int .u64 k0]) := (hS.don 9 _ 13 rfl d9 rfl).trans (by simp only [putAll, Act.put, List.setIfInBounds_toArray, List.set_cons_zero, List.set_cons_succ]; rfl)
          have hK' := hK g w' (fun _ _ _ _ _ _ => rfl) (hR.quiet (i := 11) (by decide) hft hfl (fun h => absurd h (by decide))) (.int .u64 k0) (by simp only [valO, Option.bind_some]; simp only [putAll, Act.put, List.setIfInBounds_toArray, List.set_cons_zero, List.set_cons_succ]; rfl)
          clear hS hdep hR
          refine gh_quiet9 (v := .int .u64 k0) ?_ ?_
          · (simp only [execOp, Act.eval, e13]; go_simp; first | done | (simp; done) | (simp [*]; done))
          · exact hK'
        | 12, ho, hun, hdep, hK, hfl, hft, _ =>
          obtain rfl := Option.some.inj ho
          have d0 : lp.getD 0 false = true := hdep { on := 0, ground := .data } (by simp) rfl
          have e14 : a'.tmps[14]? = some (.int .i64 0) := (hS.don 0 _ 14 rfl d0 rfl).trans (by simp only [putAll, Act.put, List.setIfInBounds_toArray, List.set_cons_zero, List.set_cons_succ]; rfl)
          have o6 : a'.tmps[6]? = some (.pointer (some ⟨w.heap.size + 1 + 1 + 1, 0, none⟩)) := (hS.old9 6 (by simp)).trans rfl
          have hK' := hK g w' (fun _ _ _ _ _ _ => rfl) (hR.quiet (i := 12) (by decide) hft hfl (fun h => absurd h (by decide))) (.pointer (some ⟨w.heap.size + 1 + 1 + 1, 0, none⟩)) (by simp only [valO, Option.bind_some]; simp only [putAll, Act.put, List.setIfInBounds_toArray, List.set_cons_zero, List.set_cons_succ]; rfl)
          clear hS hdep hR
          refine gh_quiet9 (v := .pointer (some ⟨w.heap.size + 1 + 1 + 1, 0, none⟩)) ?_ ?_
          · (simp only [execOp, Act.eval, e14, o6]; go_simp; first | done | (simp; done) | (simp [*]; done))
          · exact hK'
        | 13, ho, hun, hdep, hK, hfl, hft, _ =>
          obtain rfl := Option.some.inj ho
          have d12 : lp.getD 12 false = true := hdep { on := 12, ground := .data } (by simp) rfl
          have e25 : a'.tmps[25]? = some (.pointer (some ⟨w.heap.size + 1 + 1 + 1, 0, none⟩)) := (hS.don 12 _ 25 rfl d12 rfl).trans (by simp only [putAll, Act.put, List.setIfInBounds_toArray, List.set_cons_zero, List.set_cons_succ]; rfl)
          have d10 : lp.getD 10 false = true := hdep { on := 10, ground := .data } (by simp) rfl
          have e23 : a'.tmps[23]? = some (.int .u64 t0) := (hS.don 10 _ 23 rfl d10 rfl).trans (by simp only [putAll, Act.put, List.setIfInBounds_toArray, List.set_cons_zero, List.set_cons_succ]; rfl)
          obtain ⟨-, -, -, ⟨r0, r1, r2, r3, r4, r5⟩, -⟩ := hR.bef hun
          have hK' := hK g _ (fun _ _ _ _ _ _ => rfl) (hR.st (E9.set0 (X := fun _ => w') (fun _ => hR.bef hun) t0 0) hft hfl) undef rfl
          clear hS hdep hR
          unfold Oper.wp
          simp [execOp, Act.eval, e25, e23, go_sem, r0, r1, r2, r3, r4, r5, Oper.upon]
          exact hK'
        | 14, ho, hun, hdep, hK, hfl, hft, _ =>
          obtain rfl := Option.some.inj ho
          have d11 : lp.getD 11 false = true := hdep { on := 11, ground := .data } (by simp) rfl
          have e24 : a'.tmps[24]? = some (.int .u64 k0) := (hS.don 11 _ 24 rfl d11 rfl).trans (by simp only [putAll, Act.put, List.setIfInBounds_toArray, List.set_cons_zero, List.set_cons_succ]; rfl)
          have d7 : lp.getD 7 false = true := hdep { on := 7, ground := .phase } (by simp) rfl
          have hK' := hK g w' (fun _ _ _ _ _ _ => rfl) (hR.quiet (i := 14) (by decide) hft hfl (fun _ => d7)) (.int .u64 k0) (by simp only [valO, Option.bind_some]; simp only [putAll, Act.put, List.setIfInBounds_toArray, List.set_cons_zero, List.set_cons_succ]; rfl)
          clear hS hdep hR
          refine gh_quiet9 (v := .int .u64 k0) ?_ ?_
          · (simp only [execOp, Act.eval, e24]; go_simp; first | done | (simp; done) | (simp [*]; done))
          · exact hK'
        | n + 15, ho, hun, hdep, hK, hfl, hft, hq => exact absurd hq (by omega)
      case fin =>
        intro g W hR
        have HE2 := hid9 (hR.aft (by simp))
        simp only [putAll, Act.put, List.setIfInBounds_toArray, List.set_cons_zero, List.set_cons_succ]
        clear hR HC
        refine wl_nil9 (P := Try.prog) (ops := #[]) ?_
        go_wp2
        go_roundw
        case rel => exact .inr (.inr (.inr ⟨by simp, rfl, HE2⟩))
        case measure => simp [intOf]
    · have kA := hid9 (And.intro HE.out.2.2.1 HE.out.2.2.2.2)
      obtain ⟨-, -, -, ⟨c0, c1, c2, -, -, -⟩, -⟩ := HE.out
      clear HE
      go_wp2_with fail
      refine (KF _).mono ?_
      rintro e w1 ⟨rfl, hb⟩
      have A1 := kA.out.1.below hb
      have kE := bset3c (keepb hb kA.out.2) (show w.heap.size ≤ w.heap.size + 1 + 1 by omega) (.int .u64 v0) (.int .u64 v1) (.int .u64 v2)
      obtain ⟨u0, u1, u2, -, -, -⟩ := A1.set v0 v1 v2
      obtain ⟨r0, r1, r2, r3, r4, r5⟩ := A1
      have Hk := hid9 kE
      have Hv := hid9 (And.intro u0 (And.intro u1 u2))
      clear kE u0 u1 u2 kA hb KF c0 c1 c2
      go_wp2
      obtain ⟨u0, u1, u2⟩ := Hv.out
      exact bodyPost_ret (v := .tuple #[.agg #[.int .u64 v0, .int .u64 v1, .int .u64 v2], .int .i64 E]) (by simp [results, Try.results9, go_sem, u0, u1, u2]) rfl ⟨rfl, Hk.out⟩
end Go.Proofs.Ytnaamkkjledllaa
