/-
  Part 23 of the proof: 2 texts, one behind the other.
-/
import Derived.Test.YtmkjlcfoedglmabPart22
import Derived.RangeFuncNested
import Derived.RangeFuncBound
import Derived.RangeFuncCalls
import Derived.RangeFuncLeaves
import Derived.Shelf.Abstract
import Derived.Shelf.RegionOpen
import Derived.WalkKit
import Derived.OwnWalkIn
import Derived.TacticsInMore
import Derived.LoopNIn
import Derived.LoopIn
import Derived.Test.YtmkjlcfoedglmabPart13
import Derived.Test.YtmkjlcfoedglmabPart4
import Derived.Test.YtmkjlcfoedglmabPart2
import Derived.Test.YtmkjlcfoedglmabPart21
/-
  What the calls of package algebra's Unlike and Equal do.
-/
namespace Go.Proofs.Ytmkjlcfoedglmab
open Go.RowKit Go.Shelf
set_option linter.unusedSimpArgs false
set_option linter.unusedVariables false
attribute [local go_sem] Oper.semAt_some

/-- The three results. -/
def UnR (W : World) (B : Nat) (x : BitVec 128) (f : Bool) (e : Int) : Prop := (W.cell? ⟨B, 0, none⟩ = some (.int .u64 (hI x)) ∧ W.cell? ⟨B, 1, none⟩ = some (.int .u64 (lI x)) ∧ W.cell? ⟨B + 1, 0, none⟩ = some (.bool f) ∧ W.cell? ⟨B + 1 + 1, 0, none⟩ = some (.int .i64 e)) ∧ W.frozen? ⟨B, 0, none⟩ = false ∧ W.frozen? ⟨B, 1, none⟩ = false ∧ W.frozen? ⟨B + 1, 0, none⟩ = false ∧ W.frozen? ⟨B + 1 + 1, 0, none⟩ = false
theorem UnR.kept {W W' : World} {B : Nat} {x : BitVec 128} {f : Bool} {e : Int} (k : UnR W B x f e) {row : Option Nat} (hg : W.grownBy W' row) (hr : ∀ r, row = some r → ∃ o : Obj, W.heap[r]? = some o ∧ o.isCells = false) : UnR W' B x f e := by
  obtain ⟨⟨a, b, c, d⟩, f0, f1, f2, f3⟩ := k
  exact ⟨⟨cell_kept a hg hr, cell_kept b hg hr, cell_kept c hg hr, cell_kept d hg hr⟩, (frozen_kept a hg hr).trans f0, (frozen_kept b hg hr).trans f1, (frozen_kept c hg hr).trans f2, (frozen_kept d hg hr).trans f3⟩
theorem UnR.below {W W' : World} {B : Nat} {x : BitVec 128} {f : Bool} {e : Int} (k : UnR W B x f e) (hb : Below W.heap.size W W') : UnR W' B x f e := k.kept (row := none) (below_grown hb) (fun r e => by cases e)
theorem UnR.set {W : World} {B : Nat} {x : BitVec 128} {f : Bool} {e : Int} (k : UnR W B x f e) (y : BitVec 128) (g : Bool) (z : Int) : UnR ((((W.setCell ⟨B, 0, none⟩ (.int .u64 (hI y))).setCell ⟨B, 1, none⟩ (.int .u64 (lI y))).setCell ⟨B + 1, 0, none⟩ (.bool g)).setCell ⟨B + 1 + 1, 0, none⟩ (.int .i64 z)) B y g z := by
  obtain ⟨⟨a, b, c, d⟩, f0, f1, f2, f3⟩ := k
  refine ⟨⟨?_, ?_, ?_, ?_⟩, ?_, ?_, ?_, ?_⟩ <;> simp [go_sem, *]
theorem bsetU {n C : Nat} {w W : World} (h : Below n w W) (hp : n ≤ C) (u0 u1 u2 u3 : Value) : Below n w ((((W.setCell ⟨C, 0, none⟩ u0).setCell ⟨C, 1, none⟩ u1).setCell ⟨C + 1, 0, none⟩ u2).setCell ⟨C + 1 + 1, 0, none⟩ u3) := (((h.setCell (p := ⟨C, 0, none⟩) hp _).setCell (p := ⟨C, 1, none⟩) hp _).setCell (p := ⟨C + 1, 0, none⟩) (by simp; omega) _).setCell (p := ⟨C + 1 + 1, 0, none⟩) (by simp; omega) _
/-- The stretch that a round is handed. -/
def AtS (W : World) (B : Nat) (x y : BitVec 128) : Prop := W.cell? ⟨B, 0, none⟩ = some (.int .u64 (hI x)) ∧ W.cell? ⟨B, 1, none⟩ = some (.int .u64 (lI x)) ∧ W.cell? ⟨B, 2, none⟩ = some (.int .u64 (hI y)) ∧ W.cell? ⟨B, 3, none⟩ = some (.int .u64 (lI y))
theorem KC.refl (W : World) : KC W W := ⟨Nat.le_refl _, fun _ _ h _ => h⟩
theorem kc_put {w : World} (W : World) (l : Nat) (o o' : Obj) (hl : w.heap.size ≤ l) (h : W.heap[l]? = some o) (hc : o.isCells = false) (_ : o.isWalk = false) : KC W (W.putObj l o') := ⟨by simp, fun z x hz hx => by
  by_cases e : z = l
  · subst e
    rw [h] at hz
    cases hz
    rw [hc] at hx
    cases hx
  · rw [World.putObj_heap_other e]; exact hz⟩
theorem frs_none (L : List Str) (h : ∀ x ∈ L, x.2.1 = x.2.2) : frs L = none := by
  unfold frs
  rw [List.find?_eq_none.mpr (fun x hx => by simp [h x hx])]
  rfl
theorem frs_some (L pre : List Str) (x : Str) (hp : pre ++ [x] <+: L) (h : ∀ y ∈ pre, y.2.1 = y.2.2) (hx : x.2.1 ≠ x.2.2) : frs L = some x.1.1 := by
  obtain ⟨t, rfl⟩ := hp
  unfold frs
  rw [List.append_assoc, List.find?_append, List.find?_eq_none.mpr (fun y hy => by simp [h y hy])]
  simp [hx]
set_option maxRecDepth 100000 in
set_option maxHeartbeats 16000000 in
theorem unlike_any (F : Int) (v : Value) (l : List Rte) (G : Int) (u : Value) (m : List Rte) (w : World) (hv : RwR w v l) (hu : RwR w u m) :
    Calls Try.prog 9 #[.agg #[.int .i64 F, v], .agg #[.int .i64 G, u]] w fun e w' => (∃ z o, TwoE F l G m z ∧ (z = 0 → o = frs (al (swp F l) (swp G m))) ∧ (z ≠ 0 → o = none) ∧ e = .returned (.tuple #[.agg #[.int .u64 (hI (o.getD 0#128)), .int .u64 (lI (o.getD 0#128))], .bool o.isSome, .int .i64 z])) ∧ Below w.heap.size w w' := by
  have q1 := bl1 w (.cells #[.int .i64 F, v] 24)
  have q2 := bl1 (w.alloc (.cells #[.int .i64 F, v] 24)) (.cells #[.int .i64 G, u] 24)
  have a1 := att_new w w.heap.size F v 24 rfl
  have a2 := att_new (w.alloc (.cells #[.int .i64 F, v] 24)) (w.heap.size + 1) G u 24 (by simp)
  revert q1 q2 a1 a2
  generalize hw2 : (w.alloc (.cells #[.int .i64 F, v] 24)).alloc (.cells #[.int .i64 G, u] 24) = w2
  have s2 : w2.heap.size = w.heap.size + 2 := by rw [← hw2]; simp
  intro q1 q2 a1 a2
  have B2 := keepb q2 q1
  have T2 := a1.below q2
  have HI0 : Hid (AtT (((w2.alloc (.cells #[.int .u64 0, .int .u64 0] 27)).alloc (.cells #[.bool false] 4)).alloc (.cells #[.int .i64 0] 35)) w.heap.size F v ∧ AtT (((w2.alloc (.cells #[.int .u64 0, .int .u64 0] 27)).alloc (.cells #[.bool false] 4)).alloc (.cells #[.int .i64 0] 35)) (w.heap.size + 1) G u ∧ UnR (((w2.alloc (.cells #[.int .u64 0, .int .u64 0] 27)).alloc (.cells #[.bool false] 4)).alloc (.cells #[.int .i64 0] 35)) (w.heap.size + 2) 0#128 false 0 ∧ Below w.heap.size w (((w2.alloc (.cells #[.int .u64 0, .int .u64 0] 27)).alloc (.cells #[.bool false] 4)).alloc (.cells #[.int .i64 0] 35))) := by
    have b3 := bl1 w2 (.cells #[.int .u64 0, .int .u64 0] 27)
    have b4 := bl1 (w2.alloc (.cells #[.int .u64 0, .int .u64 0] 27)) (.cells #[.bool false] 4)
    have b5 := bl1 ((w2.alloc (.cells #[.int .u64 0, .int .u64 0] 27)).alloc (.cells #[.bool false] 4)) (.cells #[.int .i64 0] 35)
    refine hidR ⟨((T2.below b3).below b4).below b5, ((a2.below b3).below b4).below b5, ?_, keepb b5 (keepb b4 (keepb b3 B2))⟩
    refine ⟨⟨?_, ?_, ?_, ?_⟩, ?_, ?_, ?_, ?_⟩ <;> simp [go_sem, s2, hI_zero, lI_zero]
  subst hw2
  have K1 := fun W h1 h2 => segsOfTwo_any F v l G u m W h1 h2
  have K1' := K1 _ (hv.below HI0.out.2.2.2) (hu.below HI0.out.2.2.2)
  obtain ⟨ao, c, rfl, -⟩ := hv
  obtain ⟨bo, d, rfl, -⟩ := hu
  obtain ⟨⟨t0, t1⟩, ⟨y0, y1⟩, -, -⟩ := HI0.out
  clear q1 q2 a1 a2 B2 T2 K1
  refine (callsIn_wide (n := 5)).1 ?_
  refine callsIn_of_wp_marks Try.func9 rfl trivial ?_ rfl
  simp only [Try.ntmps9, List.size_toArray, List.length_cons, List.length_nil, Nat.reduceAdd, Nat.reduceSub, Array.replicate_succ, Array.replicate_zero, List.push_toArray, List.append_toArray, List.nil_append, List.cons_append]
  refine wpIn_wide.2 ?_
  go_wp2_with fail
  refine K1'.mono ?_
  rintro e w3 ⟨⟨z, va, vb, hz, rfl, hz1, hz2⟩, hb⟩
  have HR3 := hidR (HI0.out.2.2.1.below hb)
  have HB3 := hidR (keepb hb HI0.out.2.2.2)
  have HZ := hidR hz
  clear K1' hb t0 t1 y0 y1 hz
  by_cases h0 : z = 0
  · subst h0
    obtain ⟨hA, hB'⟩ := hz1 rfl
    obtain ⟨xo, xc, rfl⟩ := own_form hA
    obtain ⟨yo, yc, rfl⟩ := own_form hB'
    have HA := hidR (own_rwg hA)
    have HB' := hidR (own_rwg hB')
    have KA := along_any xo (swp F l).length xc yo (swp G m).length yc w3
    clear hz1 hz2 hA hB' HI0
    go_wp2_with fail
    refine KA.mono ?_
    rintro e w4 ⟨rfl, hw4⟩
    obtain ⟨N, hN⟩ : ∃ N, N = w3.heap.size := ⟨_, rfl⟩
    rw [← hN]
    have c1 := bl1 w3 (.cells #[.slice xo (swp F l).length xc] 34)
    have c2 := bl1 (w3.alloc (.cells #[.slice xo (swp F l).length xc] 34)) (.cells #[.slice yo (swp G m).length yc] 34)
    have c3 := bl1 ((w3.alloc (.cells #[.slice xo (swp F l).length xc] 34)).alloc (.cells #[.slice yo (swp G m).length yc] 34)) (.cells #[.func (.func 18) #[] #[]] 55)
    have HBw : Hid (Below w3.heap.size w3 w4) := hidR (by rw [hw4]; exact keepb c3 (keepb c2 c1))
    have HM : Hid (AlM N (N + 1) (N + 2) (.slice xo (swp F l).length xc) (.slice yo (swp G m).length yc) (.func (.func 18) #[] #[]) (swp F l) (swp G m) w4) := hidR ⟨by rw [hw4, hN]; simp [go_sem], by rw [hw4, hN]; simp [go_sem], by rw [hw4, hN]; simp [go_sem], HA.out.below HBw.out, HB'.out.below HBw.out⟩
    have HR4 := hidR (HR3.out.below HBw.out)
    have HB4 := hidR (keepb HBw.out HB3.out)
    have hlF : Hid ((swp F l).length ≤ 1000000000 ∧ (swp G m).length ≤ 1000000000) := hidR (by
      obtain ⟨z1, z2, -⟩ := twoE_zero HZ.out
      have h1 := (tab_ok z1).2.1
      have h2 := (tab_ok z2).2.1
      have h3 := swp_len F l
      have h4 := swp_len G m
      omega)
    clear c1 c2 c3 KA HA HB' HR3 HB3 HBw hw4 hN
    have hs4 : w.heap.size ≤ w4.heap.size := HB4.out.size
    go_wp2_with fail
    refine (wpIn_wide (n := 5)).1 ?_
    refine wpIn_rangeFunc_ownH (n := 5) rfl (by decide) (gf := 34) (lb := #[.pointer (some ⟨N, 0, none⟩), .pointer (some ⟨N + 1, 0, none⟩), .pointer (some ⟨N + 2, 0, none⟩)]) rfl trivial (enters_of Try.func34 (by kernel_rfl) rfl)
      (along_stops (5 - 1) N (N + 1) (N + 2) _ _ _ _ hlF.out.1 hlF.out.2 w4 HM.out) (fun h k => h.trans k) (fun W l o o' h1 h2 h3 h4 => kc_put (w := w4) W l o o' h1 h2 h3 h4) (Below.refl _ _) (fun _ => rfl)
      (fun pre W => ((∀ y ∈ pre, y.2.1 = y.2.2) ∧ UnR W (w.heap.size + 2) 0#128 false 0) ∧ Below w.heap.size w W)
      (fun c pre W => (c = .ret ∧ ∃ ini last, pre = ini ++ [last] ∧ (∀ y ∈ ini, y.2.1 = y.2.2) ∧ last.2.1 ≠ last.2.2 ∧ UnR W (w.heap.size + 2) last.1.1 true 0) ∧ Below w.heap.size w W)
      (OwnFrom.and (Own.from (fun s A B row hs hg hr => ⟨hs.1, hs.2.kept hg hr⟩) _) (ownFrom_below (Nat.le_refl _) hs4))
      (fun c => OwnFrom.and (Own.from (fun s A B row hs hg hr => by obtain ⟨hc, ini, last, e1, e2, e3, e4⟩ := hs; exact ⟨hc, ini, last, e1, e2, e3, e4.kept hg hr⟩) _) (ownFrom_below (Nat.le_refl _) hs4))
      ⟨⟨(fun y hy => by cases hy), HR4.out⟩, HB4.out⟩
      (fun x a' W => ∃ Bx, w.heap.size + 5 ≤ Bx ∧ AtS W Bx x.1.1 x.1.2 ∧ a' = { tmps := #[.agg #[.int .i64 F, .slice ao l.length c], .agg #[.int .i64 G, .slice bo m.length d], .pointer (some ⟨w.heap.size, 0, none⟩), .pointer (some ⟨w.heap.size + 1, 0, none⟩), .pointer (some ⟨w.heap.size + 2, 0, none⟩), .pointer (some ⟨w.heap.size + 2 + 1, 0, none⟩), .pointer (some ⟨w.heap.size + 2 + 1 + 1, 0, none⟩), .slice xo (swp F l).length xc, .slice yo (swp G m).length yc, .int .i64 0, .func (.func 18) #[] #[], .pointer (some ⟨Bx, 0, none⟩), .bool (x.2.1 != x.2.2), .tuple #[.slice xo (swp F l).length xc, .slice yo (swp G m).length yc, .int .i64 0], .agg #[.int .i64 F, .slice ao l.length c], .agg #[.int .i64 G, .slice bo m.length d], .tuple #[.slice xo (swp F l).length xc, .slice yo (swp G m).length yc, .int .i64 0], .slice xo (swp F l).length xc, .slice yo (swp G m).length yc, .int .i64 0, .int .i64 0, .bool false, undef, undef, .slice xo (swp F l).length xc, .slice yo (swp G m).length yc, .func (.func 18) #[] #[], .func (.func 34) #[] #[.pointer (some ⟨N, 0, none⟩), .pointer (some ⟨N + 1, 0, none⟩), .pointer (some ⟨N + 2, 0, none⟩)], .agg #[.int .u64 (hI x.1.1), .int .u64 (lI x.1.1), .int .u64 (hI x.1.2), .int .u64 (lI x.1.2)], .bool (x.2.1 != x.2.2), undef, undef, undef, undef], defers := [] })
      (fun x a' s A B row hs hg hr => by
        obtain ⟨Bx, h1, ⟨k0, k1, k2, k3⟩, h3⟩ := hs
        have hr' : ∀ r, row = some r → ∃ o : Obj, A.heap[r]? = some o ∧ o.isCells = false := fun r e => (hr r e).2
        exact ⟨Bx, h1, ⟨cell_kept k0 hg hr', cell_kept k1 hg hr', cell_kept k2 hg hr', cell_kept k3 hg hr'⟩, h3⟩) ?assign ?body ?done ?stop
    case assign =>
      rintro lo pre x W K hI0 hK
      obtain ⟨⟨hp, hR⟩, hB⟩ := hI0
      have bq := bl1 W (.cells #[.int .u64 (hI x.1.1), .int .u64 (lI x.1.1), .int .u64 (hI x.1.2), .int .u64 (lI x.1.2)] 60)
      have HK := hidR (hK { tmps := #[.agg #[.int .i64 F, .slice ao l.length c], .agg #[.int .i64 G, .slice bo m.length d], .pointer (some ⟨w.heap.size, 0, none⟩), .pointer (some ⟨w.heap.size + 1, 0, none⟩), .pointer (some ⟨w.heap.size + 2, 0, none⟩), .pointer (some ⟨w.heap.size + 2 + 1, 0, none⟩), .pointer (some ⟨w.heap.size + 2 + 1 + 1, 0, none⟩), .slice xo (swp F l).length xc, .slice yo (swp G m).length yc, .int .i64 0, .func (.func 18) #[] #[], .pointer (some ⟨W.heap.size, 0, none⟩), .bool (x.2.1 != x.2.2), .tuple #[.slice xo (swp F l).length xc, .slice yo (swp G m).length yc, .int .i64 0], .agg #[.int .i64 F, .slice ao l.length c], .agg #[.int .i64 G, .slice bo m.length d], .tuple #[.slice xo (swp F l).length xc, .slice yo (swp G m).length yc, .int .i64 0], .slice xo (swp F l).length xc, .slice yo (swp G m).length yc, .int .i64 0, .int .i64 0, .bool false, undef, undef, .slice xo (swp F l).length xc, .slice yo (swp G m).length yc, .func (.func 18) #[] #[], .func (.func 34) #[] #[.pointer (some ⟨N, 0, none⟩), .pointer (some ⟨N + 1, 0, none⟩), .pointer (some ⟨N + 2, 0, none⟩)], .agg #[.int .u64 (hI x.1.1), .int .u64 (lI x.1.1), .int .u64 (hI x.1.2), .int .u64 (lI x.1.2)], .bool (x.2.1 != x.2.2), undef, undef, undef, undef], defers := [] } (W.alloc (.cells #[.int .u64 (hI x.1.1), .int .u64 (lI x.1.1), .int .u64 (hI x.1.2), .int .u64 (lI x.1.2)] 60)) ((KeepsOthers.alloc _ _).from _) (below_kc bq) ⟨⟨hp, hR.below bq⟩, keepb bq hB⟩ ⟨W.heap.size, by have := cell_in hR.1.2.2.2; omega, (aty_new W W.heap.size x.1.1 x.1.2 60 rfl).1, rfl⟩)
      clear hK hp hR hB bq
      unfold encD
      simp only [List.zip_toArray, List.zip_cons_cons, List.zip_nil_left, List.zip_nil_right, List.foldl_toArray, List.foldl_cons, List.foldl_nil, List.setIfInBounds_toArray, List.set_cons_zero, List.set_cons_succ, Array.zip]
      gi_wp2
      exact HK.out
    case body =>
      rintro lo pre x a' W hl ⟨r, hr⟩ ⟨⟨hp, hR⟩, hB⟩ ⟨Bx, hBx, hS, rfl⟩ hlt
      obtain ⟨s0, s1, s2', s3⟩ := hS
      obtain ⟨⟨r0, r1, r2, r3⟩, f0, f1, f2, f3⟩ := id hR
      by_cases hx : x.2.1 = x.2.2
      · have hb1 : (x.2.1 != x.2.2) = false := by simpa using hx
        rw [hb1]
        gi_wp2
        exact ⟨KeepsFrom.refl _ _, KC.refl _, ⟨fun y hy => (List.mem_append.1 hy).elim (hp y) (fun e => by simp at e; subst e; exact hx), hR⟩, hB⟩
      · have hb1 : (x.2.1 != x.2.2) = true := by simpa using hx
        rw [hb1]
        have HU := hidR (hR.set x.1.1 true 0)
        have HBs := hidR (bsetU (C := w.heap.size + 2) hB (by omega) (.int .u64 (hI x.1.1)) (.int .u64 (lI x.1.1)) (.bool true) (.int .i64 0))
        gi_wp2
        exact ⟨((((KeepsOthers.setCell _ _ _).trans (KeepsOthers.setCell _ _ _)).trans (KeepsOthers.setCell _ _ _)).trans (KeepsOthers.setCell _ _ _)).from _, ⟨rfl, pre, x, rfl, hp, hx, HU.out⟩, HBs.out⟩
    case done =>
      rintro D ys W hD rfl ⟨⟨hp, hR⟩, hB⟩ hK
      obtain ⟨⟨r0, r1, r2, r3⟩, f0, f1, f2, f3⟩ := id hR
      have HU := hR.set 0#128 false 0
      have HBs := bsetU (C := w.heap.size + 2) hB (by omega) (.int .u64 (hI 0#128)) (.int .u64 (lI 0#128)) (.bool false) (.int .i64 0)
      rw [hI_zero, lI_zero] at HBs
      simp only [hI_zero, lI_zero] at HU r0 r1
      have hK' := ((((KeepsOthers.setCell W ⟨w.heap.size + 2, 0, none⟩ (.int .u64 0)).trans (KeepsOthers.setCell _ ⟨w.heap.size + 2, 1, none⟩ (.int .u64 0))).trans (KeepsOthers.setCell _ ⟨w.heap.size + 2 + 1, 0, none⟩ (.bool false))).trans (KeepsOthers.setCell _ ⟨w.heap.size + 2 + 1 + 1, 0, none⟩ (.int .i64 0))).same D _ hK rfl
      have HF := hidR (frs_none _ hp)
      have HX := hidR HU
      have HY := hidR HBs
      have HK := hidR hK'
      clear HU HBs hK' hp
      refine wl_nil (P := Try.prog) (ops := #[]) ?_
      go_wp2
      refine ⟨by simp, .inl ⟨_, _, rfl, run_takeDeferred HK.out, ?_⟩⟩
      obtain ⟨⟨k0, k1, k2, k3⟩, -⟩ := HX.out.kept (grownBy_putObj' _ D (.deferred none)) (fun r e => by cases e; exact ⟨_, HK.out, rfl⟩)
      refine ⟨.tuple #[.agg #[.int .u64 0, .int .u64 0], .bool false, .int .i64 0], ?_, ⟨0, none, HZ.out, fun _ => HF.out.symm, fun h => absurd rfl h, by simp [hI_zero, lI_zero]⟩, HY.out.trans (belowK_b (w := w) (Nat.le_refl _) _ D _ _ (Nat.le_trans hs4 hD) HK.out rfl rfl)⟩
      simp only [hI_zero, lI_zero] at k0 k1
      simp [results, Try.results9, go_sem, k0, k1, k2, k3]
    case stop =>
      rintro D c pre W hD hpre ⟨⟨rfl, ini, last, e1, e2, e3, hR⟩, hB⟩ hK
      have HF : Hid (frs (al (swp F l) (swp G m)) = some last.1.1) := hidR (frs_some _ ini last (by rw [← e1]; exact hpre) e2 e3)
      refine (wpIn_wide (n := 5)).2 ?_
      go_wp2
      refine ⟨by simp, .inl ⟨_, _, rfl, run_takeDeferred hK, ?_⟩⟩
      obtain ⟨⟨k0, k1, k2, k3⟩, -⟩ := hR.kept (grownBy_putObj' _ D (.deferred none)) (fun r e => by cases e; exact ⟨_, hK, rfl⟩)
      refine ⟨.tuple #[.agg #[.int .u64 (hI last.1.1), .int .u64 (lI last.1.1)], .bool true, .int .i64 0], ?_, ⟨0, some last.1.1, HZ.out, fun _ => HF.out.symm, fun h => absurd rfl h, rfl⟩, hB.trans (belowK_b (w := w) (Nat.le_refl _) _ D _ _ (Nat.le_trans hs4 hD) hK rfl rfl)⟩
      simp [results, Try.results9, go_sem, k0, k1, k2, k3]
  · have hn : (z != 0) = true := by simpa using h0
    obtain ⟨rfl, rfl⟩ := hz2 h0
    obtain ⟨⟨r0, r1, r2, r3⟩, f0, f1, f2, f3⟩ := HR3.out
    have HN := hidR h0
    obtain ⟨⟨k0, k1, k2, k3⟩, -⟩ := HR3.out.set 0#128 false z
    simp only [hI_zero, lI_zero] at k0 k1 k2 k3 r0 r1
    have HBs := hidR (bsetU (C := w.heap.size + 2) HB3.out (by omega) (.int .u64 0) (.int .u64 0) (.bool false) (.int .i64 z))
    clear h0 hz1 hz2 HR3
    go_wp2
    refine ⟨.tuple #[.agg #[.int .u64 0, .int .u64 0], .bool false, .int .i64 z], ?_, ⟨z, none, HZ.out, fun h => absurd h HN.out, fun _ => rfl, by simp [hI_zero, lI_zero]⟩, HBs.out⟩
    simp [results, Try.results9, go_sem, k0, k1, k2, k3]
set_option maxHeartbeats 4000000 in
theorem equal_any (F : Int) (v : Value) (l : List Rte) (G : Int) (u : Value) (m : List Rte) (w : World) (hv : RwR w v l) (hu : RwR w u m) :
    Calls Try.prog 8 #[.agg #[.int .i64 F, v], .agg #[.int .i64 G, u]] w fun e w' => (∃ z o, TwoE F l G m z ∧ (z = 0 → o = frs (al (swp F l) (swp G m))) ∧ (z ≠ 0 → o = none) ∧ e = .returned (.tuple #[.bool (decide (z = 0) && !o.isSome), .int .i64 z])) ∧ Below w.heap.size w w' := by
  have q1 := bl1 w (.cells #[.int .i64 F, v] 24)
  have q2 := bl1 (w.alloc (.cells #[.int .i64 F, v] 24)) (.cells #[.int .i64 G, u] 24)
  obtain ⟨t0, t1⟩ := (att_new w w.heap.size F v 24 rfl).below q2
  obtain ⟨y0, y1⟩ := att_new (w.alloc (.cells #[.int .i64 F, v] 24)) (w.heap.size + 1) G u 24 (by simp)
  have HB := hidR (keepb q2 q1)
  have KU := unlike_any F v l G u m _ (hv.below HB.out) (hu.below HB.out)
  obtain ⟨ao, c, rfl, -⟩ := hv
  obtain ⟨bo, d, rfl, -⟩ := hu
  clear q1 q2
  go_enter Try.func8, Try.ntmps8
  go_wp2_with fail
  refine KU.mono ?_
  rintro e w1 ⟨⟨z, o, hz, h1, h2, rfl⟩, hb⟩
  have HB1 := hidR (keepb (bl1 w1 (.cells #[.int .u64 (hI (o.getD 0#128)), .int .u64 (lI (o.getD 0#128))] 27)) (keepb hb HB.out))
  have HZ := hidR hz
  have H1 := hidR h1
  have H2 := hidR h2
  clear KU hb hz h1 h2 t0 t1 y0 y1 HB
  have HE : Hid (∀ b, b = (decide (z = 0) && !o.isSome) → ∃ z' o', TwoE F l G m z' ∧ (z' = 0 → o' = frs (al (swp F l) (swp G m))) ∧ (z' ≠ 0 → o' = none) ∧ (Ending.returned (.tuple #[.bool b, .int .i64 z])) = .returned (.tuple #[.bool (decide (z' = 0) && !o'.isSome), .int .i64 z'])) := hidR (fun b hb => ⟨z, o, HZ.out, H1.out, H2.out, by rw [hb]⟩)
  by_cases h0 : z = 0
  · have hn : (z == 0) = true := by simpa using h0
    have HE2 := hidR (HE.out (!o.isSome) (by simp [h0]))
    generalize o.isSome = ob at *
    clear H1 H2 HE h0
    go_wp2
    exact bodyPost_ret (v := .tuple #[.bool (!ob), .int .i64 z]) (by simp [results, Try.results8, go_sem]) rfl ⟨HE2.out, HB1.out⟩
  · have hn : (z == 0) = false := by simpa using h0
    have HE2 := hidR (HE.out false (by simp [h0]))
    generalize o.isSome = ob at *
    clear H1 H2 HE h0
    go_wp2
    exact bodyPost_ret (v := .tuple #[.bool false, .int .i64 z]) (by simp [results, Try.results8, go_sem]) rfl ⟨HE2.out, HB1.out⟩
end Go.Proofs.Ytmkjlcfoedglmab
/-
  What the calls of the law's within, fitted and Fitted of an address do, and of its SameSegs of any two.
-/
namespace Go.Proofs.Ytmkjlcfoedglmab
open Go.RowKit
set_option linter.unusedSimpArgs false
set_option linter.unusedVariables false

theorem within5_zero (F : Int) (w : World) (h0 : 0 ≤ F) (h1 : F ≤ 128) : Calls Try.prog 24 #[.int .i64 0, .int .i64 (F + 1)] w fun e w' => e = .returned (.int .i64 0) ∧ Below w.heap.size w w' := by
  have hne : ¬ (F + 1 = 0) := by omega
  have hm : Int.tmod 0 (F + 1) = 0 := by simp
  go_enter Try.func24, Try.ntmps24
  go_wp2
  go_ret
  exact ⟨rfl, Below.refl _ _⟩
structure RF (w : World) (x y : BitVec 128) (f9 : Bool) (W : World) : Prop where
  p : AtP W w.heap.size 0#128 0
  x : At W (w.heap.size + 1) x
  r : AtP W (w.heap.size + 2) 0#128 0
  s : if f9 = true then At W (w.heap.size + 3) y else At W (w.heap.size + 3) 0#128
  bel : Below w.heap.size w W
theorem RF.below {w : World} {x y : BitVec 128} {f9 : Bool} {W W' : World} (k : RF w x y f9 W) (hb : Below W.heap.size W W') : RF w x y f9 W' :=
  ⟨k.p.below hb, k.x.below hb, k.r.below hb, (by have := k.s; cases f9 <;> simp at this ⊢ <;> exact this.below hb), keepb hb k.bel⟩
theorem RF.drew {w : World} {x y : BitVec 128} {f9 : Bool} {W : World} (k : RF w x y f9 W) : RF w x y f9 W.drew := k.below (below_drewN (Below.refl _ _) 1)
theorem AtP.set0 {W : World} {B : Nat} (k : AtP W B 0#128 0) : AtP (((W.setCell ⟨B, 0, none⟩ (.int .u64 0)).setCell ⟨B, 1, none⟩ (.int .u64 0)).setCell ⟨B, 2, none⟩ (.int .i64 0)) B 0#128 0 := by
  obtain ⟨c0, c1, c2, f0, f1, f2⟩ := k
  refine ⟨?_, ?_, ?_, ?_, ?_, ?_⟩ <;> simp [go_sem, *, hI_zero, lI_zero]
theorem RF.stP {w : World} {x y : BitVec 128} {f9 : Bool} {W : World} (k : RF w x y f9 W) : RF w x y f9 (((W.setCell ⟨w.heap.size + 2, 0, none⟩ (.int .u64 0)).setCell ⟨w.heap.size + 2, 1, none⟩ (.int .u64 0)).setCell ⟨w.heap.size + 2, 2, none⟩ (.int .i64 0)) := by
  have hsz : W.heap.size ≤ (((W.setCell ⟨w.heap.size + 2, 0, none⟩ (.int .u64 0)).setCell ⟨w.heap.size + 2, 1, none⟩ (.int .u64 0)).setCell ⟨w.heap.size + 2, 2, none⟩ (.int .i64 0)).heap.size := by simp
  have h : ∀ z, z ≠ w.heap.size + 2 → (((W.setCell ⟨w.heap.size + 2, 0, none⟩ (.int .u64 0)).setCell ⟨w.heap.size + 2, 1, none⟩ (.int .u64 0)).setCell ⟨w.heap.size + 2, 2, none⟩ (.int .i64 0)).heap[z]? = W.heap[z]? := fun z hz => by rw [hSet _ hz, hSet _ hz, hSet _ hz]
  refine ⟨k.p.heapE (h _ (by omega)), k.x.heap (h _ (by omega)) hsz, k.r.set0, ?_, ((k.bel.setCell (p := ⟨w.heap.size + 2, 0, none⟩) (by simp) _).setCell (p := ⟨w.heap.size + 2, 1, none⟩) (by simp) _).setCell (p := ⟨w.heap.size + 2, 2, none⟩) (by simp) _⟩
  have := k.s
  cases f9 <;> simp at this ⊢ <;> exact this.heap (h _ (by omega)) hsz
theorem RF.stW {w : World} {x y : BitVec 128} {W : World} (k : RF w x y false W) : RF w x y true ((W.setCell ⟨w.heap.size + 3, 0, none⟩ (.int .u64 (hI y))).setCell ⟨w.heap.size + 3, 1, none⟩ (.int .u64 (lI y))) := by
  have hsz : W.heap.size ≤ ((W.setCell ⟨w.heap.size + 3, 0, none⟩ (.int .u64 (hI y))).setCell ⟨w.heap.size + 3, 1, none⟩ (.int .u64 (lI y))).heap.size := by simp
  have h : ∀ z, z ≠ w.heap.size + 3 → ((W.setCell ⟨w.heap.size + 3, 0, none⟩ (.int .u64 (hI y))).setCell ⟨w.heap.size + 3, 1, none⟩ (.int .u64 (lI y))).heap[z]? = W.heap[z]? := fun z hz => by rw [hSet _ hz, hSet _ hz]
  have hs := k.s
  simp at hs
  exact ⟨k.p.heapE (h _ (by omega)), k.x.heap (h _ (by omega)) hsz, k.r.heapE (h _ (by omega)), by rw [if_pos rfl]; exact hs.setE y, (k.bel.setCell (p := ⟨w.heap.size + 3, 0, none⟩) (by simp) _).setCell (p := ⟨w.heap.size + 3, 1, none⟩) (by simp) _⟩
theorem rf_new (w : World) (x y : BitVec 128) : RF w x y false ((((w.alloc (.cells #[.int .u64 0, .int .u64 0, .int .i64 0] 31)).alloc (.cells #[.int .u64 (hI x), .int .u64 (lI x)] 27)).alloc (.cells #[.int .u64 0, .int .u64 0, .int .i64 0] 31)).alloc (.cells #[.int .u64 0, .int .u64 0] 27)) := by
  have b1 := bl1 w (.cells #[.int .u64 0, .int .u64 0, .int .i64 0] 31)
  have a1 := atp_new w w.heap.size 0#128 0 31 rfl
  rw [hI_zero, lI_zero] at a1
  revert b1 a1
  generalize h1 : w.alloc (.cells #[.int .u64 0, .int .u64 0, .int .i64 0] 31) = w1
  have s1 : w1.heap.size = w.heap.size + 1 := by rw [← h1]; simp
  clear h1
  intro b1 a1
  have b2 := bl1 w1 (.cells #[.int .u64 (hI x), .int .u64 (lI x)] 27)
  have a2 := at_new w1 (w.heap.size + 1) x 27 s1.symm
  revert b2 a2
  generalize h2 : w1.alloc (.cells #[.int .u64 (hI x), .int .u64 (lI x)] 27) = w2
  have s2 : w2.heap.size = w.heap.size + 2 := by rw [← h2]; simp [s1]
  clear h2
  intro b2 a2
  have b3 := bl1 w2 (.cells #[.int .u64 0, .int .u64 0, .int .i64 0] 31)
  have a3 := atp_new w2 (w.heap.size + 2) 0#128 0 31 s2.symm
  rw [hI_zero, lI_zero] at a3
  revert b3 a3
  generalize h3 : w2.alloc (.cells #[.int .u64 0, .int .u64 0, .int .i64 0] 31) = w3
  have s3 : w3.heap.size = w.heap.size + 3 := by rw [← h3]; simp [s2]
  clear h3
  intro b3 a3
  have b4 := bl1 w3 (.cells #[.int .u64 0, .int .u64 0] 27)
  have a4 := at_new w3 (w.heap.size + 3) 0#128 27 s3.symm
  rw [hI_zero, lI_zero] at a4
  exact ⟨((a1.below b2).below b3).below b4, (a2.below b3).below b4, a3.below b4, by simp; exact a4, keepb b4 (keepb b3 (keepb b2 b1))⟩
set_option maxRecDepth 20000 in
set_option maxHeartbeats 8000000 in
theorem fitted_zero (F : Int) (x : BitVec 128) (w : World) (h0 : 0 ≤ F) (h1 : F ≤ 128) :
    Calls Try.prog 14 #[.int .i64 F, .agg #[.int .u64 0, .int .u64 0, .int .i64 0], .agg #[.int .u64 (hI x), .int .u64 (lI x)]] w fun e w' => e = .returned (.tuple #[.agg #[.int .u64 0, .int .u64 0, .int .i64 0], .agg #[.int .u64 (hI (x &&& maskW F)), .int .u64 (lI (x &&& maskW F))]]) ∧ Below w.heap.size w w' := by
  have KW := fun w => within5_zero F w h0 h1
  have KC := fun w => rcut_any 0#128 0 w
  have hc : cutW 0#128 0 = 0#128 := by decide +kernel
  rw [hc, hI_zero, lI_zero] at KC
  have KM := fun w => rmask_any F w
  have KA := fun w => rand_any x (maskW F) w
  have HF0 : ∀ y, RF w x y false _ := fun y => rf_new w x y
  have HF1 := hidR (HF0 (x &&& maskW F))
  revert KM KA HF1
  generalize x &&& maskW F = y
  generalize maskW F = mk
  intro KM KA HF1
  have mF : IntKind.i64.wrap (F + 1) = F + 1 := by rw [IntKind.wrap_i64]; omega
  obtain ⟨p0, p1, p2, -, -, -⟩ := HF1.out.p
  simp only [hI_zero, lI_zero] at p0 p1
  clear HF0 hc
  go_enter Try.func14, Try.ntmps14
  go_wp2_with fail
  refine (KW _).mono ?_
  rintro e w1 ⟨rfl, hb⟩
  have HF := hidR (HF1.out.below hb)
  clear KW hb HF1 p0 p1 p2
  go_wp2_with fail
  refine gh_region (γ := Unit) (qpOk 10 10 (by decide) (fun N => by kernel_rfl) (by kernel_rfl) (by kernel_rfl) (by kernel_rfl) (by kernel_rfl)) (by kernel_rfl) (by kernel_rfl) [some 14, some 15, some 16, some 17, some 18, some 19, some 20, some 21, none, none] (fun g => [.pointer (some ⟨w.heap.size, 0, none⟩), .agg #[.int .u64 0, .int .u64 0], .int .i64 0, .agg #[.int .u64 0, .int .u64 0, .int .i64 0], .agg #[.int .u64 (hI x), .int .u64 (lI x)], .int .i64 F, .agg #[.int .u64 (hI mk), .int .u64 (lI mk)], .agg #[.int .u64 (hI y), .int .u64 (lI y)], undef, undef]) (by kernel_rfl) (by simp) (fun lp g W => RF w x y (lp.getD 9 false) W) () (by simpa using HF.out.drew) ?step ?fin
  case step =>
    intro q o lp g w' a' ho hsz hun hdep hR hS K Q' hK
    have hfl : ∀ j, j ≠ q → (lp.setIfInBounds q true).getD j false = lp.getD j false := fun j hj => by rw [Array.getD_eq_getD_getElem?, Array.getD_eq_getD_getElem?, Array.getElem?_setIfInBounds_ne (by omega)]
    have hq : q < 10 := (List.getElem?_eq_some_iff.mp ho).1
    obtain ⟨p0, p1, p2, -, -, -⟩ := hR.p
    simp only [hI_zero, lI_zero] at p0 p1
    obtain ⟨x0, x1, -⟩ := hR.x
    match q, ho, hun, hdep, hK, hfl, hq with
    | 0, ho, hun, hdep, hK, hfl, _ =>
      obtain rfl := Option.some.inj ho
      have o4 : a'.tmps[4]? = some (.pointer (some ⟨w.heap.size, 0, none⟩)) := (hS.old 4 (by simp)).trans rfl
      have hK' := hK g w' (fun _ _ _ _ _ _ => rfl) (by rw [hfl 9 (by decide)]; exact hR) (.pointer (some ⟨w.heap.size, 0, none⟩)) (by simp only [valO, Option.bind_some]; simp only [putAll, Act.put, List.setIfInBounds_toArray, List.set_cons_zero, List.set_cons_succ]; rfl)
      clear hS hdep hR
      refine gh_quiet (v := .pointer (some ⟨w.heap.size, 0, none⟩)) ?_ ?_
      · (simp only [execOp, Act.eval, o4]; go_simp; first | done | (simp; done) | (simp [*]; done))
      · exact hK'
    | 1, ho, hun, hdep, hK, hfl, _ =>
      obtain rfl := Option.some.inj ho
      have d0 : lp.getD 0 false = true := hdep { on := 0, ground := .data } (by simp) rfl
      have e14 : a'.tmps[14]? = some (.pointer (some ⟨w.heap.size, 0, none⟩)) := (hS.don 0 _ 14 rfl d0 rfl).trans (by simp only [putAll, Act.put, List.setIfInBounds_toArray, List.set_cons_zero, List.set_cons_succ]; rfl)
      have hK' := hK g w' (fun _ _ _ _ _ _ => rfl) (by rw [hfl 9 (by decide)]; exact hR) (.agg #[.int .u64 0, .int .u64 0]) (by simp only [valO, Option.bind_some]; simp only [putAll, Act.put, List.setIfInBounds_toArray, List.set_cons_zero, List.set_cons_succ]; rfl)
      clear hS hdep hR
      refine gh_quiet (v := .agg #[.int .u64 0, .int .u64 0]) ?_ ?_
      · (simp only [execOp, Act.eval, e14]; go_simp; first | done | (simp; done) | (simp [*]; done))
      · exact hK'
    | 2, ho, hun, hdep, hK, hfl, _ =>
      obtain rfl := Option.some.inj ho
      have o8 : a'.tmps[8]? = some (.int .i64 0) := (hS.old 8 (by simp)).trans rfl
      have hK' := hK g w' (fun _ _ _ _ _ _ => rfl) (by rw [hfl 9 (by decide)]; exact hR) (.int .i64 0) (by simp only [valO, Option.bind_some]; simp only [putAll, Act.put, List.setIfInBounds_toArray, List.set_cons_zero, List.set_cons_succ]; rfl)
      clear hS hdep hR
      refine gh_quiet (v := .int .i64 0) ?_ ?_
      · (simp only [execOp, Act.eval, o8]; go_simp; first | done | (simp; done) | (simp [*]; done))
      · exact hK'
    | 3, ho, hun, hdep, hK, hfl, _ =>
      obtain rfl := Option.some.inj ho
      have d1 : lp.getD 1 false = true := hdep { on := 1, ground := .data } (by simp) rfl
      have e15 : a'.tmps[15]? = some (.agg #[.int .u64 0, .int .u64 0]) := (hS.don 1 _ 15 rfl d1 rfl).trans (by simp only [putAll, Act.put, List.setIfInBounds_toArray, List.set_cons_zero, List.set_cons_succ]; rfl)
      have d2 : lp.getD 2 false = true := hdep { on := 2, ground := .data } (by simp) rfl
      have e16 : a'.tmps[16]? = some (.int .i64 0) := (hS.don 2 _ 16 rfl d2 rfl).trans (by simp only [putAll, Act.put, List.setIfInBounds_toArray, List.set_cons_zero, List.set_cons_succ]; rfl)
      have KE := KC w'
      clear hdep
      unfold Oper.wp
      simp only [execOp, Act.eval, e15, e16]
      simp [go_sem, e15, e16, Oper.upon]
      refine KE.mono ?_
      rintro e W2 ⟨rfl, hb2⟩
      exact hK g W2 (fun _ _ _ _ _ _ => rfl) (by rw [hfl 9 (by decide)]; exact hR.below hb2) _ (by simp only [valO, Option.bind_some]; simp only [putAll, Act.put, List.setIfInBounds_toArray, List.set_cons_zero, List.set_cons_succ]; rfl)
    | 4, ho, hun, hdep, hK, hfl, _ =>
      obtain rfl := Option.some.inj ho
      have o5 : a'.tmps[5]? = some (.pointer (some ⟨w.heap.size + 1, 0, none⟩)) := (hS.old 5 (by simp)).trans rfl
      have hK' := hK g w' (fun _ _ _ _ _ _ => rfl) (by rw [hfl 9 (by decide)]; exact hR) (.agg #[.int .u64 (hI x), .int .u64 (lI x)]) (by simp only [valO, Option.bind_some]; simp only [putAll, Act.put, List.setIfInBounds_toArray, List.set_cons_zero, List.set_cons_succ]; rfl)
      clear hS hdep hR
      refine gh_quiet (v := .agg #[.int .u64 (hI x), .int .u64 (lI x)]) ?_ ?_
      · (simp only [execOp, Act.eval, o5]; go_simp; first | done | (simp; done) | (simp [*]; done))
      · exact hK'
    | 5, ho, hun, hdep, hK, hfl, _ =>
      obtain rfl := Option.some.inj ho
      have o0 : a'.tmps[0]? = some (.int .i64 F) := (hS.old 0 (by simp)).trans rfl
      have hK' := hK g w' (fun _ _ _ _ _ _ => rfl) (by rw [hfl 9 (by decide)]; exact hR) (.int .i64 F) (by simp only [valO, Option.bind_some]; simp only [putAll, Act.put, List.setIfInBounds_toArray, List.set_cons_zero, List.set_cons_succ]; rfl)
      clear hS hdep hR
      refine gh_quiet (v := .int .i64 F) ?_ ?_
      · (simp only [execOp, Act.eval, o0]; go_simp; first | done | (simp; done) | (simp [*]; done))
      · exact hK'
    | 6, ho, hun, hdep, hK, hfl, _ =>
      obtain rfl := Option.some.inj ho
      have d5 : lp.getD 5 false = true := hdep { on := 5, ground := .data } (by simp) rfl
      have e19 : a'.tmps[19]? = some (.int .i64 F) := (hS.don 5 _ 19 rfl d5 rfl).trans (by simp only [putAll, Act.put, List.setIfInBounds_toArray, List.set_cons_zero, List.set_cons_succ]; rfl)
      have KE := KM w'
      clear hdep
      unfold Oper.wp
      simp only [execOp, Act.eval, e19]
      simp [go_sem, e19, Oper.upon]
      refine KE.mono ?_
      rintro e W2 ⟨rfl, hb2⟩
      exact hK g W2 (fun _ _ _ _ _ _ => rfl) (by rw [hfl 9 (by decide)]; exact hR.below hb2) _ (by simp only [valO, Option.bind_some]; simp only [putAll, Act.put, List.setIfInBounds_toArray, List.set_cons_zero, List.set_cons_succ]; rfl)
    | 7, ho, hun, hdep, hK, hfl, _ =>
      obtain rfl := Option.some.inj ho
      have d4 : lp.getD 4 false = true := hdep { on := 4, ground := .data } (by simp) rfl
      have e18 : a'.tmps[18]? = some (.agg #[.int .u64 (hI x), .int .u64 (lI x)]) := (hS.don 4 _ 18 rfl d4 rfl).trans (by simp only [putAll, Act.put, List.setIfInBounds_toArray, List.set_cons_zero, List.set_cons_succ]; rfl)
      have d6 : lp.getD 6 false = true := hdep { on := 6, ground := .data } (by simp) rfl
      have e20 : a'.tmps[20]? = some (.agg #[.int .u64 (hI mk), .int .u64 (lI mk)]) := (hS.don 6 _ 20 rfl d6 rfl).trans (by simp only [putAll, Act.put, List.setIfInBounds_toArray, List.set_cons_zero, List.set_cons_succ]; rfl)
      have KE := KA w'
      clear hdep
      unfold Oper.wp
      simp only [execOp, Act.eval, e18, e20]
      simp [go_sem, e18, e20, Oper.upon]
      refine KE.mono ?_
      rintro e W2 ⟨rfl, hb2⟩
      exact hK g W2 (fun _ _ _ _ _ _ => rfl) (by rw [hfl 9 (by decide)]; exact hR.below hb2) _ (by simp only [valO, Option.bind_some]; simp only [putAll, Act.put, List.setIfInBounds_toArray, List.set_cons_zero, List.set_cons_succ]; rfl)
    | 8, ho, hun, hdep, hK, hfl, _ =>
      obtain rfl := Option.some.inj ho
      have d3 : lp.getD 3 false = true := hdep { on := 3, ground := .data } (by simp) rfl
      have e17 : a'.tmps[17]? = some (.agg #[.int .u64 0, .int .u64 0, .int .i64 0]) := (hS.don 3 _ 17 rfl d3 rfl).trans (by simp only [putAll, Act.put, List.setIfInBounds_toArray, List.set_cons_zero, List.set_cons_succ]; rfl)
      have o6 : a'.tmps[6]? = some (.pointer (some ⟨w.heap.size + 2, 0, none⟩)) := (hS.old 6 (by simp)).trans rfl
      obtain ⟨z0, z1, z2, f0, f1, f2⟩ := hR.r
      have hK' := hK g _ (fun _ _ _ _ _ _ => rfl) (by rw [hfl 9 (by decide)]; exact hR.stP) undef rfl
      clear hS hdep hR
      unfold Oper.wp
      simp only [hI_zero, lI_zero] at z0 z1
      simp [execOp, Act.eval, e17, o6, go_sem, z0, z1, z2, f0, f1, f2, Oper.upon]
      exact hK'
    | 9, ho, hun, hdep, hK, hfl, _ =>
      obtain rfl := Option.some.inj ho
      have d7 : lp.getD 7 false = true := hdep { on := 7, ground := .data } (by simp) rfl
      have e21 : a'.tmps[21]? = some (.agg #[.int .u64 (hI y), .int .u64 (lI y)]) := (hS.don 7 _ 21 rfl d7 rfl).trans (by simp only [putAll, Act.put, List.setIfInBounds_toArray, List.set_cons_zero, List.set_cons_succ]; rfl)
      have o7 : a'.tmps[7]? = some (.pointer (some ⟨w.heap.size + 3, 0, none⟩)) := (hS.old 7 (by simp)).trans rfl
      rw [hun] at hR
      have hz := hR.s
      simp only [Bool.false_eq_true, if_false] at hz
      obtain ⟨z0, z1, f0, f1, -⟩ := hz
      have hK' := hK g _ (fun _ _ _ _ _ _ => rfl) (by rw [getD_set_same (by rw [hsz]; decide)]; exact hR.stW) undef rfl
      clear hS hdep hR
      unfold Oper.wp
      simp [execOp, Act.eval, e21, o7, go_sem, z0, z1, f0, f1, Oper.upon]
      exact hK'
    | n + 10, ho, hun, hdep, hK, hfl, hq => exact absurd hq (by omega)
  case fin =>
    intro g W2 hR
    have hR : RF w x y true W2 := by simpa using hR
    obtain ⟨r0, r1, r2, -, -, -⟩ := hR.r
    have hs := hR.s
    simp only [if_true] at hs
    obtain ⟨s0, s1, -⟩ := hs
    have HB := hidR hR.bel
    simp only [hI_zero, lI_zero] at r0 r1
    simp only [putAll, Act.put, List.setIfInBounds_toArray, List.set_cons_zero, List.set_cons_succ]
    clear hR
    refine wl_nil (P := Try.prog) (ops := #[]) ?_
    go_wp2
    exact bodyPost_ret (v := .tuple #[.agg #[.int .u64 0, .int .u64 0, .int .i64 0], .agg #[.int .u64 (hI y), .int .u64 (lI y)]]) (by simp [results, Try.results14, go_sem, r0, r1, r2, s0, s1]) rfl ⟨rfl, HB.out⟩
set_option maxHeartbeats 4000000 in
theorem Fitted_zero (F : Int) (x : BitVec 128) (w : World) (h0 : 0 ≤ F) (h1 : F ≤ 128) :
    Calls Try.prog 6 #[.int .i64 F, .agg #[.int .u64 0, .int .u64 0, .int .i64 0], .agg #[.int .u64 (hI x), .int .u64 (lI x)]] w fun e w' => e = .returned (.tuple #[.agg #[.int .u64 0, .int .u64 0, .int .i64 0], .agg #[.int .u64 (hI (x &&& maskW F)), .int .u64 (lI (x &&& maskW F))]]) ∧ Below w.heap.size w w' := by
  have KF := fun w => fitted_zero F x w h0 h1
  have HF1 := hidR (rf_new w x (x &&& maskW F))
  revert KF HF1
  generalize x &&& maskW F = y
  intro KF HF1
  obtain ⟨p0, p1, p2, -, -, -⟩ := HF1.out.p
  obtain ⟨x0, x1, -⟩ := HF1.out.x
  simp only [hI_zero, lI_zero] at p0 p1
  go_enter Try.func6, Try.ntmps6
  go_wp2_with fail
  refine (KF _).mono ?_
  rintro e w1 ⟨rfl, hb⟩
  have HF := HF1.out.below hb
  obtain ⟨r0, r1, r2, f0, f1, f2⟩ := HF.r
  have hs := HF.s
  simp only [Bool.false_eq_true, if_false] at hs
  obtain ⟨s0, s1, g0, g1, -⟩ := id hs
  have HG := hidR (HF.stP.stW)
  obtain ⟨k0, k1, k2, -, -, -⟩ := HG.out.r
  have hk := HG.out.s
  simp only [if_true] at hk
  obtain ⟨k3, k4, -⟩ := hk
  simp only [hI_zero, lI_zero] at r0 r1 s0 s1 k0 k1
  clear KF hb HF1 HF p0 p1 p2 x0 x1 hs
  go_wp2
  exact bodyPost_ret (v := .tuple #[.agg #[.int .u64 0, .int .u64 0, .int .i64 0], .agg #[.int .u64 (hI y), .int .u64 (lI y)]]) (by simp [results, Try.results6, go_sem, k0, k1, k2, k3, k4]) rfl ⟨rfl, HG.out.bel⟩
theorem eqG2_run (x y : BitVec 128) (h : Int) (x' y' : BitVec 128) (h' : Int) (w : World) :
    (Op.equalIn 10000 49 (.agg #[.int .u64 (hI x), .int .u64 (lI x), .int .u64 (hI y), .int .u64 (lI y), .int .i64 h]) (.agg #[.int .u64 (hI x'), .int .u64 (lI x'), .int .u64 (hI y'), .int .u64 (lI y'), .int .i64 h'])).run Try.prog w = .ok ((x == x') && (y == y') && (h == h')) w := by
  rcases eqw x x' with ⟨q1, q2, q3⟩ | ⟨q1, q3⟩ | ⟨q1, q2, q3⟩ <;> rcases eqw y y' with ⟨r1, r2, r3⟩ | ⟨r1, r3⟩ | ⟨r1, r2, r3⟩
  all_goals
    rw [q3, r3]
    go_simp
    try simp [*]
    try (by_cases e : h = h' <;> simp [e])
set_option maxHeartbeats 4000000 in
theorem sameSegs2_any (v u : Value) (l m : List Sg) (w : World) (hv : RwG w v l) (hu : RwG w u m) (hl : l.length ≤ 1000000000) (hm : m.length ≤ 1000000000) :
    Calls Try.prog 10 #[v, u] w fun e w' => e = .returned (.bool (decide (l = m))) ∧ Below w.heap.size w w' := by
  obtain ⟨ao, c, rfl, hv⟩ := hv
  obtain ⟨au, d, rfl, hu⟩ := hu
  have HV := hidR hv
  have HU := hidR hu
  clear hv hu
  by_cases hlm : l.length = m.length
  · have dn : ((l.length : Int) != (m.length : Int)) = false := by simp [hlm]
    have HLM := hidR hlm
    clear hlm
    obtain ⟨bb, hbb⟩ : ∃ bb, bb = decide (l = m) := ⟨_, rfl⟩
    rw [← hbb]
    have HBB := hidR hbb
    clear hbb
    go_enter Try.func10, Try.ntmps10
    go_wp2_with fail
    go_loopw [5] (fun i wr => ∃ k : Nat, k ≤ l.length ∧ i = .int .i64 k ∧ Hid (l.take k = m.take k) ∧ Hid (Below w.heap.size w wr)) (fun i _ => l.length - (intOf i).toNat)
    case atStart => exact ⟨0, by omega, rfl, hidR (by simp), hidR (Below.refl _ _)⟩
    case round =>
      obtain ⟨k, hk, rfl, HK, HB⟩ := hrel
      by_cases hlt : (k : Int) < (l.length : Int)
      · have hks : k < l.length := by omega
        have hkm : k < m.length := by have := HLM.out; omega
        rcases HV.out with e | ⟨b, off, rfl, hc⟩
        · rw [e] at hks; simp at hks
        · rcases HU.out with e | ⟨b', off', rfl, hc'⟩
          · rw [e] at hkm; simp at hkm
          · obtain ⟨x0, x1, x2, x3, x4⟩ := rwg_cells hc k hks
            obtain ⟨y0, y1, y2, y3, y4⟩ := rwg_cells hc' k hkm
            have x0 := keepc HB.out x0
            have x1 := keepc HB.out x1
            have x2 := keepc HB.out x2
            have x3 := keepc HB.out x3
            have x4 := keepc HB.out x4
            have y0 := keepc HB.out y0
            have y1 := keepc HB.out y1
            have y2 := keepc HB.out y2
            have y3 := keepc HB.out y3
            have y4 := keepc HB.out y4
            have hE := fun w => eqG2_run l[k].1.1 l[k].1.2 l[k].2 m[k].1.1 m[k].1.2 m[k].2 w
            have HQ : Hid (((l[k].1.1 == m[k].1.1) && (l[k].1.2 == m[k].1.2) && (l[k].2 == m[k].2)) = true → l.take (k + 1) = m.take (k + 1)) := hidR (fun h => by
              rw [List.take_succ_eq_append_getElem hks, List.take_succ_eq_append_getElem hkm, HK.out]
              simp only [Bool.and_eq_true, beq_iff_eq] at h
              have : l[k] = m[k] := Prod.ext (Prod.ext h.1.1 h.1.2) h.2
              rw [this])
            have HN : Hid (((l[k].1.1 == m[k].1.1) && (l[k].1.2 == m[k].1.2) && (l[k].2 == m[k].2)) = false → bb = false) := hidR (fun h => by
              rw [HBB.out]
              refine decide_eq_false (fun e => ?_)
              subst e
              simp at h)
            revert hE HQ HN
            generalize ((l[k].1.1 == m[k].1.1) && (l[k].1.2 == m[k].1.2) && (l[k].2 == m[k].2)) = eb
            generalize l[k].1.1 = px at *
            generalize l[k].1.2 = pn at *
            generalize l[k].2 = ph at *
            generalize m[k].1.1 = qx at *
            generalize m[k].1.2 = qn at *
            generalize m[k].2 = qh at *
            intro hE HQ HN
            have mk : IntKind.i64.wrap ((k : Int) + 1) = (k : Int) + 1 := by rw [IntKind.wrap_i64]; omega
            have i1 : (k : Int) < (m.length : Int) := by omega
            clear HLM
            clear hc hc' HV HU
            cases eb with
            | true =>
              have HK2 := hidR (HQ.out rfl)
              go_wp2_with fail
              go_quiet (fail)
              go_wp2
              go_roundw
              case rel => exact ⟨k + 1, by omega, by go_num, HK2, hidR (below_drewN HB.out _)⟩
              case measure => simp [intOf]; omega
            | false =>
              have HK2 := hidR (HN.out rfl)
              go_wp2_with fail
              go_quiet (fail)
              go_wp2
              go_ret
              exact ⟨congrArg (fun b => Ending.returned (.bool b)) HK2.out.symm, below_drewN HB.out _⟩
      · have hd : ¬ k < l.length := by omega
        have HK2 : Hid (bb = true) := hidR (by
          rw [HBB.out]
          have := HK.out
          rw [List.take_of_length_le (by omega), List.take_of_length_le (by have := HLM.out; omega)] at this
          exact decide_eq_true this)
        clear HV HU
        go_wp2
        go_ret
        exact ⟨congrArg (fun b => Ending.returned (.bool b)) HK2.out.symm, HB.out⟩
  · have dn : ((l.length : Int) != (m.length : Int)) = true := by
      have : ¬ (l.length : Int) = (m.length : Int) := by omega
      simpa using this
    have hne : decide (l = m) = false := decide_eq_false (fun e => hlm (by rw [e]))
    rw [hne]
    clear HV HU
    go_enter Try.func10, Try.ntmps10
    go_wp2
    go_ret
    exact ⟨rfl, Below.refl _ _⟩
end Go.Proofs.Ytmkjlcfoedglmab
