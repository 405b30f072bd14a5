/-
  Part 24 of the proof: 4 texts, one behind the other.
-/
import Derived.Test.YtonagfmkplbooaaDoorPart22
import Derived.Test.YtonagfmkplbooaaDoorPart23
import Derived.Test.YtonagfmkplbooaaDoorPart13
import Derived.Test.YtonagfmkplbooaaDoorPart21
import Derived.RangeFuncNested
import Derived.RangeFuncBound
import Derived.RangeFuncCalls
import Derived.RangeFuncLeaves
import Derived.Shelf.Abstract
import Derived.Shelf.RegionOpen
import Derived.WalkKit
import Derived.OwnWalkIn
import Derived.TacticsInMore
import Derived.LoopNIn
import Derived.LoopIn
import Derived.Test.YtonagfmkplbooaaDoorPart8
/-
  The law AlgebraSegs: any table.
-/
namespace Go.Proofs.YtonagfmkplbooaaDoor
open Go.RowKit
set_option linter.unusedSimpArgs false
set_option linter.unusedVariables false

theorem tabE_one {F : Int} {l : List Rte} {z z' : Int} (h : TabE F l z) (h' : TabE F l z') : z = z' := by
  by_cases h0 : rtsE F l = 0
  · rcases h.2 h0 with ⟨a, b⟩ | ⟨a, b⟩ <;> rcases h'.2 h0 with ⟨c, d⟩ | ⟨c, d⟩
    · rw [b, d]
    · exact absurd a c
    · exact absurd c a
    · rw [b, d]
  · rw [h.1 h0, h'.1 h0]
/-- What is lent holds the routes. -/
theorem lend_rwr {W : World} {base g : Nat} {l m : List Rte} {n : Nat} (h : W.ownsRow base 50 4 (.slice (some ⟨g, 0, none⟩) n n) n (rowR (l ++ m))) (c : Nat) : RwR W (.slice (some ⟨g, 0, none⟩) l.length c) l := by
  refine ⟨_, c, rfl, .inr ⟨g, 0, rfl, fun j u hj => ?_⟩⟩
  have hj' : (rowR (l ++ m))[j]? = some u := by
    rw [rowR_app5]
    rw [List.getElem?_append_left]
    · exact hj
    · exact (List.getElem?_eq_some_iff.mp hj).1
  have := h.cells (g := g) rfl j u hj'
  rwa [addA] at this
theorem rwg_nil (W : World) : RwG W (.slice none 0 0) [] := ⟨none, 0, rfl, .inl rfl⟩
theorem RwR.sty {w W W' : World} {g : Nat} {v : Value} {l : List Rte} (h : RwR w v l) (hb : Below w.heap.size w W) (hs : Sty g W W') (hg : w.heap.size ≤ g) : RwR W' v l := h.below (hs.low hb hg)
end Go.Proofs.YtonagfmkplbooaaDoor
/-
  What the calls of package algebra's segsOfTwo and along do.
-/
namespace Go.Proofs.YtonagfmkplbooaaDoor
open Go.RowKit
set_option linter.unusedSimpArgs false
set_option linter.unusedVariables false

/-- The error of two tables. -/
def TwoE (F : Int) (l : List Rte) (G : Int) (m : List Rte) (z : Int) : Prop := ∃ x, TabE F l x ∧ ((x ≠ 0 ∧ z = x) ∨ (x = 0 ∧ ∃ y, TabE G m y ∧ ((y ≠ 0 ∧ z = y) ∨ (y = 0 ∧ ((F ≠ G ∧ z = 3) ∨ (F = G ∧ z = 0))))))
theorem twoE_one {F : Int} {l : List Rte} {G : Int} {m : List Rte} {z z' : Int} (h : TwoE F l G m z) (h' : TwoE F l G m z') : z = z' := by
  obtain ⟨x, hx, h⟩ := h
  obtain ⟨x', hx', h'⟩ := h'
  obtain rfl := tabE_one hx hx'
  rcases h with ⟨a, b⟩ | ⟨a, y, hy, h⟩
  · rcases h' with ⟨c, d⟩ | ⟨c, -⟩
    · rw [b, d]
    · exact absurd c a
  · rcases h' with ⟨c, d⟩ | ⟨c, y', hy', h'⟩
    · exact absurd a c
    · obtain rfl := tabE_one hy hy'
      rcases h with ⟨e, f⟩ | ⟨e, h⟩
      · rcases h' with ⟨e', f'⟩ | ⟨e', -⟩
        · rw [f, f']
        · exact absurd e' e
      · rcases h' with ⟨e', f'⟩ | ⟨-, h'⟩
        · exact absurd e e'
        · rcases h with ⟨q, r⟩ | ⟨q, r⟩ <;> rcases h' with ⟨q', r'⟩ | ⟨q', r'⟩
          · rw [r, r']
          · exact absurd q' q
          · exact absurd q q'
          · rw [r, r']
theorem twoE_zero {F : Int} {l : List Rte} {G : Int} {m : List Rte} (h : TwoE F l G m 0) : TabE F l 0 ∧ TabE G m 0 ∧ F = G := by
  obtain ⟨x, hx, h⟩ := h
  rcases h with ⟨a, b⟩ | ⟨a, y, hy, h⟩
  · exact absurd b.symm a
  · subst a
    rcases h with ⟨e, f⟩ | ⟨e, h⟩
    · exact absurd f.symm e
    · subst e
      rcases h with ⟨q, r⟩ | ⟨q, r⟩
      · omega
      · exact ⟨hx, hy, q⟩
set_option maxHeartbeats 8000000 in
theorem segsOfTwo_any (F : Int) (v : Value) (l : List Rte) (G : Int) (u : Value) (m : List Rte) (w : World) (hv : RwR w v l) (hu : RwR w u m) :
    Calls Tryd.prog 40 #[.agg #[.int .i64 F, v], .agg #[.int .i64 G, u]] w fun e w' => (∃ z va vb, TwoE F l G m z ∧ e = .returned (.tuple #[va, vb, .int .i64 z]) ∧ (z = 0 → w'.ownsRow w.heap.size 52 5 va (swp F l).length (rowG (swp F l)) ∧ w'.ownsRow w.heap.size 52 5 vb (swp G m).length (rowG (swp G m))) ∧ (z ≠ 0 → va = .slice none 0 0 ∧ vb = .slice none 0 0)) ∧ Below w.heap.size w w' := by
  have q1 := bl1 w (.cells #[.int .i64 F, v] 24)
  have q2 := bl1 (w.alloc (.cells #[.int .i64 F, v] 24)) (.cells #[.int .i64 G, u] 24)
  have HT := hidR ((att_new w w.heap.size F v 24 rfl).below q2)
  have HU := hidR (att_new (w.alloc (.cells #[.int .i64 F, v] 24)) (w.heap.size + 1) G u 24 (by simp))
  have HB := hidR (keepb q2 q1)
  have HV := hidR hv
  have HV2 := hidR hu
  have K1 := segs_any F v l _ (hv.below (keepb q2 q1))
  obtain ⟨ao, c, rfl, -⟩ := hv
  obtain ⟨bo, d, rfl, -⟩ := hu
  obtain ⟨t0, t1⟩ := HT.out
  obtain ⟨y0, y1⟩ := HU.out
  clear q1 q2
  go_enter Tryd.func40, Tryd.ntmps40
  go_wp2_with fail
  refine K1.mono ?_
  rintro e w1 ⟨⟨z, va, hz, rfl, hz1, hz2⟩, hb⟩
  have HB1 := hidR (keepb hb HB.out)
  have HT1 := hidR (HT.out.below hb)
  have HU1 := hidR (HU.out.below hb)
  have HZ := hidR hz
  have HZ1 := hidR hz1
  clear K1 hb HB HT HU t0 t1 y0 y1 hz1 hz
  obtain ⟨t0, t1⟩ := HT1.out
  obtain ⟨y0, y1⟩ := HU1.out
  by_cases h0 : z = 0
  · subst h0
    have K2 := segs_any G (.slice bo m.length d) m w1 (HV2.out.below HB1.out)
    clear hz2
    go_wp2_with fail
    refine K2.mono ?_
    rintro e w2 ⟨⟨y, vb, hy, rfl, hy1, hy2⟩, hb⟩
    have HB2 := hidR (keepb hb HB1.out)
    have HT2 := hidR (HT1.out.below hb)
    have HU2 := hidR (HU1.out.below hb)
    have HO1 := hidR (own_wide (own_below hb (HZ1.out (by simp))) (show w.heap.size ≤ _ by simp; omega))
    have HY := hidR hy
    have HY1 : Hid (y = 0 → w2.ownsRow w.heap.size 52 5 vb (swp G m).length (rowG (swp G m))) := hidR (fun h => own_wide (hy1 h) HB1.out.size)
    clear K2 hb HT1 HU1 t0 t1 y0 y1 hy1 hy HB1 HZ1
    obtain ⟨t0, t1⟩ := HT2.out
    obtain ⟨y0, y1⟩ := HU2.out
    by_cases h1 : y = 0
    · subst h1
      by_cases hFG : F = G
      · have dn : (F != G) = false := by simpa using hFG
        have HE : Hid (TwoE F l G m 0) := hidR ⟨0, HZ.out, .inr ⟨rfl, 0, HY.out, .inr ⟨rfl, .inr ⟨hFG, rfl⟩⟩⟩⟩
        have HY2 := hidR (HY1.out (by simp))
        clear hFG HY1 hy2
        go_wp2
        exact bodyPost_ret (v := .tuple #[va, vb, .int .i64 0]) (by simp [results, Tryd.results40, go_sem]) rfl ⟨⟨0, va, vb, HE.out, rfl, fun _ => ⟨HO1.out, HY2.out⟩, fun h => absurd rfl h⟩, HB2.out⟩
      · have dn : (F != G) = true := by simpa using hFG
        have HE : Hid (TwoE F l G m 3) := hidR ⟨0, HZ.out, .inr ⟨rfl, 0, HY.out, .inr ⟨rfl, .inl ⟨hFG, rfl⟩⟩⟩⟩
        clear hFG HY1 hy2
        go_wp2
        exact bodyPost_ret (v := .tuple #[.slice none 0 0, .slice none 0 0, .int .i64 3]) (by simp [results, Tryd.results40, go_sem]) rfl ⟨⟨3, _, _, HE.out, rfl, fun h => absurd h (by decide), fun _ => ⟨rfl, rfl⟩⟩, HB2.out⟩
    · have hn : (y != 0) = true := by simpa using h1
      have HE : Hid (TwoE F l G m y) := hidR ⟨0, HZ.out, .inr ⟨rfl, y, HY.out, .inl ⟨h1, rfl⟩⟩⟩
      have HN := hidR h1
      clear h1 HY1 hy2
      go_wp2
      exact bodyPost_ret (v := .tuple #[.slice none 0 0, .slice none 0 0, .int .i64 y]) (by simp [results, Tryd.results40, go_sem]) rfl ⟨⟨y, _, _, HE.out, rfl, fun h => absurd h HN.out, fun _ => ⟨rfl, rfl⟩⟩, HB2.out⟩
  · have hn : (z != 0) = true := by simpa using h0
    have HE : Hid (TwoE F l G m z) := hidR ⟨z, HZ.out, .inl ⟨h0, rfl⟩⟩
    have HN := hidR h0
    clear h0 HZ1 hz2
    go_wp2
    exact bodyPost_ret (v := .tuple #[.slice none 0 0, .slice none 0 0, .int .i64 z]) (by simp [results, Tryd.results40, go_sem]) rfl ⟨⟨z, _, _, HE.out, rfl, fun h => absurd h HN.out, fun _ => ⟨rfl, rfl⟩⟩, HB1.out⟩
theorem along_any (ao : Option Addr) (na ca : Nat) (bo : Option Addr) (nb cb : Nat) (w : World) : Calls Tryd.prog 52 #[.slice ao na ca, .slice bo nb cb, .func (.func 51) #[] #[]] w fun e w' => e = .returned (.func (.func 69) #[] #[.pointer (some ⟨w.heap.size, 0, none⟩), .pointer (some ⟨w.heap.size + 1, 0, none⟩), .pointer (some ⟨w.heap.size + 2, 0, none⟩)]) ∧ w' = ((w.alloc (.cells #[.slice ao na ca] 46)).alloc (.cells #[.slice bo nb cb] 46)).alloc (.cells #[.func (.func 51) #[] #[]] 94) := by
  go_enter Tryd.func52, Tryd.ntmps52
  go_wp2
  go_ret
  exact ⟨rfl, rfl⟩
/-- along's sequence, as the caller's law asks for it. -/
theorem along_stops (n A B C : Nat) (va vb : Value) (la lb : List Sg) (hla : la.length ≤ 1000000000) (hlb : lb.length ≤ 1000000000) (w : World) (hM : AlM A B C va vb (.func (.func 51) #[] #[]) la lb w) :
    SeqStopsK Fence.wide n Tryd.prog 69 #[.pointer (some ⟨A, 0, none⟩), .pointer (some ⟨B, 0, none⟩), .pointer (some ⟨C, 0, none⟩)] encD KC (fun ys => ys = al la lb) (fun pre => pre <+: al la lb) (al la lb).length w := fun l J Jx W hW hJ hJx hY h0 =>
  callsIn_wide.2 (along1_any n l A B C va vb la lb hla hlb J Jx (fun pre V V' h hb => hJ pre V V' none h (below_grown hb) (fun r e => by cases e)) hY W (hM.kc (below_kc hW)) h0)
end Go.Proofs.YtonagfmkplbooaaDoor
/-
  What the calls of package algebra's Unlike and Equal do.
-/
namespace Go.Proofs.YtonagfmkplbooaaDoor
open Go.RowKit Go.Shelf
set_option linter.unusedSimpArgs false
set_option linter.unusedVariables false
attribute [local go_sem] Oper.semAt_some

/-- The three results. -/
def UnR (W : World) (B : Nat) (x : BitVec 128) (f : Bool) (e : Int) : Prop := (W.cell? ⟨B, 0, none⟩ = some (.int .u64 (hI x)) ∧ W.cell? ⟨B, 1, none⟩ = some (.int .u64 (lI x)) ∧ W.cell? ⟨B + 1, 0, none⟩ = some (.bool f) ∧ W.cell? ⟨B + 1 + 1, 0, none⟩ = some (.int .i64 e)) ∧ W.frozen? ⟨B, 0, none⟩ = false ∧ W.frozen? ⟨B, 1, none⟩ = false ∧ W.frozen? ⟨B + 1, 0, none⟩ = false ∧ W.frozen? ⟨B + 1 + 1, 0, none⟩ = false
theorem UnR.kept {W W' : World} {B : Nat} {x : BitVec 128} {f : Bool} {e : Int} (k : UnR W B x f e) {row : Option Nat} (hg : W.grownBy W' row) (hr : ∀ r, row = some r → ∃ o : Obj, W.heap[r]? = some o ∧ o.isCells = false) : UnR W' B x f e := by
  obtain ⟨⟨a, b, c, d⟩, f0, f1, f2, f3⟩ := k
  exact ⟨⟨cell_kept a hg hr, cell_kept b hg hr, cell_kept c hg hr, cell_kept d hg hr⟩, (frozen_kept a hg hr).trans f0, (frozen_kept b hg hr).trans f1, (frozen_kept c hg hr).trans f2, (frozen_kept d hg hr).trans f3⟩
theorem UnR.below {W W' : World} {B : Nat} {x : BitVec 128} {f : Bool} {e : Int} (k : UnR W B x f e) (hb : Below W.heap.size W W') : UnR W' B x f e := k.kept (row := none) (below_grown hb) (fun r e => by cases e)
theorem UnR.set {W : World} {B : Nat} {x : BitVec 128} {f : Bool} {e : Int} (k : UnR W B x f e) (y : BitVec 128) (g : Bool) (z : Int) : UnR ((((W.setCell ⟨B, 0, none⟩ (.int .u64 (hI y))).setCell ⟨B, 1, none⟩ (.int .u64 (lI y))).setCell ⟨B + 1, 0, none⟩ (.bool g)).setCell ⟨B + 1 + 1, 0, none⟩ (.int .i64 z)) B y g z := by
  obtain ⟨⟨a, b, c, d⟩, f0, f1, f2, f3⟩ := k
  refine ⟨⟨?_, ?_, ?_, ?_⟩, ?_, ?_, ?_, ?_⟩ <;> simp [go_sem, *]
theorem bsetU {n C : Nat} {w W : World} (h : Below n w W) (hp : n ≤ C) (u0 u1 u2 u3 : Value) : Below n w ((((W.setCell ⟨C, 0, none⟩ u0).setCell ⟨C, 1, none⟩ u1).setCell ⟨C + 1, 0, none⟩ u2).setCell ⟨C + 1 + 1, 0, none⟩ u3) := (((h.setCell (p := ⟨C, 0, none⟩) hp _).setCell (p := ⟨C, 1, none⟩) hp _).setCell (p := ⟨C + 1, 0, none⟩) (by simp; omega) _).setCell (p := ⟨C + 1 + 1, 0, none⟩) (by simp; omega) _
/-- The stretch that a round is handed. -/
def AtS (W : World) (B : Nat) (x y : BitVec 128) : Prop := W.cell? ⟨B, 0, none⟩ = some (.int .u64 (hI x)) ∧ W.cell? ⟨B, 1, none⟩ = some (.int .u64 (lI x)) ∧ W.cell? ⟨B, 2, none⟩ = some (.int .u64 (hI y)) ∧ W.cell? ⟨B, 3, none⟩ = some (.int .u64 (lI y))
theorem KC.refl (W : World) : KC W W := ⟨Nat.le_refl _, fun _ _ h _ => h⟩
theorem kc_put {w : World} (W : World) (l : Nat) (o o' : Obj) (hl : w.heap.size ≤ l) (h : W.heap[l]? = some o) (hc : o.isCells = false) (_ : o.isWalk = false) : KC W (W.putObj l o') := ⟨by simp, fun z x hz hx => by
  by_cases e : z = l
  · subst e
    rw [h] at hz
    cases hz
    rw [hc] at hx
    cases hx
  · rw [World.putObj_heap_other e]; exact hz⟩
theorem frs_none (L : List Str) (h : ∀ x ∈ L, x.2.1 = x.2.2) : frs L = none := by
  unfold frs
  rw [List.find?_eq_none.mpr (fun x hx => by simp [h x hx])]
  rfl
theorem frs_some (L pre : List Str) (x : Str) (hp : pre ++ [x] <+: L) (h : ∀ y ∈ pre, y.2.1 = y.2.2) (hx : x.2.1 ≠ x.2.2) : frs L = some x.1.1 := by
  obtain ⟨t, rfl⟩ := hp
  unfold frs
  rw [List.append_assoc, List.find?_append, List.find?_eq_none.mpr (fun y hy => by simp [h y hy])]
  simp [hx]
set_option maxRecDepth 100000 in
set_option maxHeartbeats 16000000 in
theorem unlike_any (F : Int) (v : Value) (l : List Rte) (G : Int) (u : Value) (m : List Rte) (w : World) (hv : RwR w v l) (hu : RwR w u m) :
    Calls Tryd.prog 30 #[.agg #[.int .i64 F, v], .agg #[.int .i64 G, u]] w fun e w' => (∃ z o, TwoE F l G m z ∧ (z = 0 → o = frs (al (swp F l) (swp G m))) ∧ (z ≠ 0 → o = none) ∧ e = .returned (.tuple #[.agg #[.int .u64 (hI (o.getD 0#128)), .int .u64 (lI (o.getD 0#128))], .bool o.isSome, .int .i64 z])) ∧ Below w.heap.size w w' := by
  have q1 := bl1 w (.cells #[.int .i64 F, v] 24)
  have q2 := bl1 (w.alloc (.cells #[.int .i64 F, v] 24)) (.cells #[.int .i64 G, u] 24)
  have a1 := att_new w w.heap.size F v 24 rfl
  have a2 := att_new (w.alloc (.cells #[.int .i64 F, v] 24)) (w.heap.size + 1) G u 24 (by simp)
  revert q1 q2 a1 a2
  generalize hw2 : (w.alloc (.cells #[.int .i64 F, v] 24)).alloc (.cells #[.int .i64 G, u] 24) = w2
  have s2 : w2.heap.size = w.heap.size + 2 := by rw [← hw2]; simp
  intro q1 q2 a1 a2
  have B2 := keepb q2 q1
  have T2 := a1.below q2
  have HI0 : Hid (AtT (((w2.alloc (.cells #[.int .u64 0, .int .u64 0] 27)).alloc (.cells #[.bool false] 4)).alloc (.cells #[.int .i64 0] 34)) w.heap.size F v ∧ AtT (((w2.alloc (.cells #[.int .u64 0, .int .u64 0] 27)).alloc (.cells #[.bool false] 4)).alloc (.cells #[.int .i64 0] 34)) (w.heap.size + 1) G u ∧ UnR (((w2.alloc (.cells #[.int .u64 0, .int .u64 0] 27)).alloc (.cells #[.bool false] 4)).alloc (.cells #[.int .i64 0] 34)) (w.heap.size + 2) 0#128 false 0 ∧ Below w.heap.size w (((w2.alloc (.cells #[.int .u64 0, .int .u64 0] 27)).alloc (.cells #[.bool false] 4)).alloc (.cells #[.int .i64 0] 34))) := by
    have b3 := bl1 w2 (.cells #[.int .u64 0, .int .u64 0] 27)
    have b4 := bl1 (w2.alloc (.cells #[.int .u64 0, .int .u64 0] 27)) (.cells #[.bool false] 4)
    have b5 := bl1 ((w2.alloc (.cells #[.int .u64 0, .int .u64 0] 27)).alloc (.cells #[.bool false] 4)) (.cells #[.int .i64 0] 34)
    refine hidR ⟨((T2.below b3).below b4).below b5, ((a2.below b3).below b4).below b5, ?_, keepb b5 (keepb b4 (keepb b3 B2))⟩
    refine ⟨⟨?_, ?_, ?_, ?_⟩, ?_, ?_, ?_, ?_⟩ <;> simp [go_sem, s2, hI_zero, lI_zero]
  subst hw2
  have K1 := fun W h1 h2 => segsOfTwo_any F v l G u m W h1 h2
  have K1' := K1 _ (hv.below HI0.out.2.2.2) (hu.below HI0.out.2.2.2)
  obtain ⟨ao, c, rfl, -⟩ := hv
  obtain ⟨bo, d, rfl, -⟩ := hu
  obtain ⟨⟨t0, t1⟩, ⟨y0, y1⟩, -, -⟩ := HI0.out
  clear q1 q2 a1 a2 B2 T2 K1
  refine (callsIn_wide (n := 5)).1 ?_
  refine callsIn_of_wp_marks Tryd.func30 rfl trivial ?_ rfl
  simp only [Tryd.ntmps30, List.size_toArray, List.length_cons, List.length_nil, Nat.reduceAdd, Nat.reduceSub, Array.replicate_succ, Array.replicate_zero, List.push_toArray, List.append_toArray, List.nil_append, List.cons_append]
  refine wpIn_wide.2 ?_
  go_wp2_with fail
  refine K1'.mono ?_
  rintro e w3 ⟨⟨z, va, vb, hz, rfl, hz1, hz2⟩, hb⟩
  have HR3 := hidR (HI0.out.2.2.1.below hb)
  have HB3 := hidR (keepb hb HI0.out.2.2.2)
  have HZ := hidR hz
  clear K1' hb t0 t1 y0 y1 hz
  by_cases h0 : z = 0
  · subst h0
    obtain ⟨hA, hB'⟩ := hz1 rfl
    obtain ⟨xo, xc, rfl⟩ := own_form hA
    obtain ⟨yo, yc, rfl⟩ := own_form hB'
    have HA := hidR (own_rwg hA)
    have HB' := hidR (own_rwg hB')
    have KA := along_any xo (swp F l).length xc yo (swp G m).length yc w3
    clear hz1 hz2 hA hB' HI0
    go_wp2_with fail
    refine KA.mono ?_
    rintro e w4 ⟨rfl, hw4⟩
    obtain ⟨N, hN⟩ : ∃ N, N = w3.heap.size := ⟨_, rfl⟩
    rw [← hN]
    have c1 := bl1 w3 (.cells #[.slice xo (swp F l).length xc] 46)
    have c2 := bl1 (w3.alloc (.cells #[.slice xo (swp F l).length xc] 46)) (.cells #[.slice yo (swp G m).length yc] 46)
    have c3 := bl1 ((w3.alloc (.cells #[.slice xo (swp F l).length xc] 46)).alloc (.cells #[.slice yo (swp G m).length yc] 46)) (.cells #[.func (.func 51) #[] #[]] 94)
    have HBw : Hid (Below w3.heap.size w3 w4) := hidR (by rw [hw4]; exact keepb c3 (keepb c2 c1))
    have HM : Hid (AlM N (N + 1) (N + 2) (.slice xo (swp F l).length xc) (.slice yo (swp G m).length yc) (.func (.func 51) #[] #[]) (swp F l) (swp G m) w4) := hidR ⟨by rw [hw4, hN]; simp [go_sem], by rw [hw4, hN]; simp [go_sem], by rw [hw4, hN]; simp [go_sem], HA.out.below HBw.out, HB'.out.below HBw.out⟩
    have HR4 := hidR (HR3.out.below HBw.out)
    have HB4 := hidR (keepb HBw.out HB3.out)
    have hlF : Hid ((swp F l).length ≤ 1000000000 ∧ (swp G m).length ≤ 1000000000) := hidR (by
      obtain ⟨z1, z2, -⟩ := twoE_zero HZ.out
      have h1 := (tab_ok z1).2.1
      have h2 := (tab_ok z2).2.1
      have h3 := swp_len F l
      have h4 := swp_len G m
      omega)
    clear c1 c2 c3 KA HA HB' HR3 HB3 HBw hw4 hN
    have hs4 : w.heap.size ≤ w4.heap.size := HB4.out.size
    go_wp2_with fail
    refine (wpIn_wide (n := 5)).1 ?_
    refine wpIn_rangeFunc_ownH (n := 5) rfl (by decide) (gf := 69) (lb := #[.pointer (some ⟨N, 0, none⟩), .pointer (some ⟨N + 1, 0, none⟩), .pointer (some ⟨N + 2, 0, none⟩)]) rfl trivial (enters_of Tryd.func69 (by kernel_rfl) rfl)
      (along_stops (5 - 1) N (N + 1) (N + 2) _ _ _ _ hlF.out.1 hlF.out.2 w4 HM.out) (fun h k => h.trans k) (fun W l o o' h1 h2 h3 h4 => kc_put (w := w4) W l o o' h1 h2 h3 h4) (Below.refl _ _) (fun _ => rfl)
      (fun pre W => ((∀ y ∈ pre, y.2.1 = y.2.2) ∧ UnR W (w.heap.size + 2) 0#128 false 0) ∧ Below w.heap.size w W)
      (fun c pre W => (c = .ret ∧ ∃ ini last, pre = ini ++ [last] ∧ (∀ y ∈ ini, y.2.1 = y.2.2) ∧ last.2.1 ≠ last.2.2 ∧ UnR W (w.heap.size + 2) last.1.1 true 0) ∧ Below w.heap.size w W)
      (OwnFrom.and (Own.from (fun s A B row hs hg hr => ⟨hs.1, hs.2.kept hg hr⟩) _) (ownFrom_below (Nat.le_refl _) hs4))
      (fun c => OwnFrom.and (Own.from (fun s A B row hs hg hr => by obtain ⟨hc, ini, last, e1, e2, e3, e4⟩ := hs; exact ⟨hc, ini, last, e1, e2, e3, e4.kept hg hr⟩) _) (ownFrom_below (Nat.le_refl _) hs4))
      ⟨⟨(fun y hy => by cases hy), HR4.out⟩, HB4.out⟩
      (fun x a' W => ∃ Bx, w.heap.size + 5 ≤ Bx ∧ AtS W Bx x.1.1 x.1.2 ∧ a' = { tmps := #[.agg #[.int .i64 F, .slice ao l.length c], .agg #[.int .i64 G, .slice bo m.length d], .pointer (some ⟨w.heap.size, 0, none⟩), .pointer (some ⟨w.heap.size + 1, 0, none⟩), .pointer (some ⟨w.heap.size + 2, 0, none⟩), .pointer (some ⟨w.heap.size + 2 + 1, 0, none⟩), .pointer (some ⟨w.heap.size + 2 + 1 + 1, 0, none⟩), .slice xo (swp F l).length xc, .slice yo (swp G m).length yc, .int .i64 0, .func (.func 51) #[] #[], .pointer (some ⟨Bx, 0, none⟩), .bool (x.2.1 != x.2.2), .tuple #[.slice xo (swp F l).length xc, .slice yo (swp G m).length yc, .int .i64 0], .agg #[.int .i64 F, .slice ao l.length c], .agg #[.int .i64 G, .slice bo m.length d], .tuple #[.slice xo (swp F l).length xc, .slice yo (swp G m).length yc, .int .i64 0], .slice xo (swp F l).length xc, .slice yo (swp G m).length yc, .int .i64 0, .int .i64 0, .bool false, undef, undef, .slice xo (swp F l).length xc, .slice yo (swp G m).length yc, .func (.func 51) #[] #[], .func (.func 69) #[] #[.pointer (some ⟨N, 0, none⟩), .pointer (some ⟨N + 1, 0, none⟩), .pointer (some ⟨N + 2, 0, none⟩)], .agg #[.int .u64 (hI x.1.1), .int .u64 (lI x.1.1), .int .u64 (hI x.1.2), .int .u64 (lI x.1.2)], .bool (x.2.1 != x.2.2), undef, undef, undef, undef], defers := [] })
      (fun x a' s A B row hs hg hr => by
        obtain ⟨Bx, h1, ⟨k0, k1, k2, k3⟩, h3⟩ := hs
        have hr' : ∀ r, row = some r → ∃ o : Obj, A.heap[r]? = some o ∧ o.isCells = false := fun r e => (hr r e).2
        exact ⟨Bx, h1, ⟨cell_kept k0 hg hr', cell_kept k1 hg hr', cell_kept k2 hg hr', cell_kept k3 hg hr'⟩, h3⟩) ?assign ?body ?done ?stop
    case assign =>
      rintro lo pre x W K hI0 hK
      obtain ⟨⟨hp, hR⟩, hB⟩ := hI0
      have bq := bl1 W (.cells #[.int .u64 (hI x.1.1), .int .u64 (lI x.1.1), .int .u64 (hI x.1.2), .int .u64 (lI x.1.2)] 91)
      have HK := hidR (hK { tmps := #[.agg #[.int .i64 F, .slice ao l.length c], .agg #[.int .i64 G, .slice bo m.length d], .pointer (some ⟨w.heap.size, 0, none⟩), .pointer (some ⟨w.heap.size + 1, 0, none⟩), .pointer (some ⟨w.heap.size + 2, 0, none⟩), .pointer (some ⟨w.heap.size + 2 + 1, 0, none⟩), .pointer (some ⟨w.heap.size + 2 + 1 + 1, 0, none⟩), .slice xo (swp F l).length xc, .slice yo (swp G m).length yc, .int .i64 0, .func (.func 51) #[] #[], .pointer (some ⟨W.heap.size, 0, none⟩), .bool (x.2.1 != x.2.2), .tuple #[.slice xo (swp F l).length xc, .slice yo (swp G m).length yc, .int .i64 0], .agg #[.int .i64 F, .slice ao l.length c], .agg #[.int .i64 G, .slice bo m.length d], .tuple #[.slice xo (swp F l).length xc, .slice yo (swp G m).length yc, .int .i64 0], .slice xo (swp F l).length xc, .slice yo (swp G m).length yc, .int .i64 0, .int .i64 0, .bool false, undef, undef, .slice xo (swp F l).length xc, .slice yo (swp G m).length yc, .func (.func 51) #[] #[], .func (.func 69) #[] #[.pointer (some ⟨N, 0, none⟩), .pointer (some ⟨N + 1, 0, none⟩), .pointer (some ⟨N + 2, 0, none⟩)], .agg #[.int .u64 (hI x.1.1), .int .u64 (lI x.1.1), .int .u64 (hI x.1.2), .int .u64 (lI x.1.2)], .bool (x.2.1 != x.2.2), undef, undef, undef, undef], defers := [] } (W.alloc (.cells #[.int .u64 (hI x.1.1), .int .u64 (lI x.1.1), .int .u64 (hI x.1.2), .int .u64 (lI x.1.2)] 91)) ((KeepsOthers.alloc _ _).from _) (below_kc bq) ⟨⟨hp, hR.below bq⟩, keepb bq hB⟩ ⟨W.heap.size, by have := cell_in hR.1.2.2.2; omega, (aty_new W W.heap.size x.1.1 x.1.2 91 rfl).1, rfl⟩)
      clear hK hp hR hB bq
      unfold encD
      simp only [List.zip_toArray, List.zip_cons_cons, List.zip_nil_left, List.zip_nil_right, List.foldl_toArray, List.foldl_cons, List.foldl_nil, List.setIfInBounds_toArray, List.set_cons_zero, List.set_cons_succ, Array.zip]
      gi_wp2
      exact HK.out
    case body =>
      rintro lo pre x a' W hl ⟨r, hr⟩ ⟨⟨hp, hR⟩, hB⟩ ⟨Bx, hBx, hS, rfl⟩ hlt
      obtain ⟨s0, s1, s2', s3⟩ := hS
      obtain ⟨⟨r0, r1, r2, r3⟩, f0, f1, f2, f3⟩ := id hR
      by_cases hx : x.2.1 = x.2.2
      · have hb1 : (x.2.1 != x.2.2) = false := by simpa using hx
        rw [hb1]
        gi_wp2
        exact ⟨KeepsFrom.refl _ _, KC.refl _, ⟨fun y hy => (List.mem_append.1 hy).elim (hp y) (fun e => by simp at e; subst e; exact hx), hR⟩, hB⟩
      · have hb1 : (x.2.1 != x.2.2) = true := by simpa using hx
        rw [hb1]
        have HU := hidR (hR.set x.1.1 true 0)
        have HBs := hidR (bsetU (C := w.heap.size + 2) hB (by omega) (.int .u64 (hI x.1.1)) (.int .u64 (lI x.1.1)) (.bool true) (.int .i64 0))
        gi_wp2
        exact ⟨((((KeepsOthers.setCell _ _ _).trans (KeepsOthers.setCell _ _ _)).trans (KeepsOthers.setCell _ _ _)).trans (KeepsOthers.setCell _ _ _)).from _, ⟨rfl, pre, x, rfl, hp, hx, HU.out⟩, HBs.out⟩
    case done =>
      rintro D ys W hD rfl ⟨⟨hp, hR⟩, hB⟩ hK
      obtain ⟨⟨r0, r1, r2, r3⟩, f0, f1, f2, f3⟩ := id hR
      have HU := hR.set 0#128 false 0
      have HBs := bsetU (C := w.heap.size + 2) hB (by omega) (.int .u64 (hI 0#128)) (.int .u64 (lI 0#128)) (.bool false) (.int .i64 0)
      rw [hI_zero, lI_zero] at HBs
      simp only [hI_zero, lI_zero] at HU r0 r1
      have hK' := ((((KeepsOthers.setCell W ⟨w.heap.size + 2, 0, none⟩ (.int .u64 0)).trans (KeepsOthers.setCell _ ⟨w.heap.size + 2, 1, none⟩ (.int .u64 0))).trans (KeepsOthers.setCell _ ⟨w.heap.size + 2 + 1, 0, none⟩ (.bool false))).trans (KeepsOthers.setCell _ ⟨w.heap.size + 2 + 1 + 1, 0, none⟩ (.int .i64 0))).same D _ hK rfl
      have HF := hidR (frs_none _ hp)
      have HX := hidR HU
      have HY := hidR HBs
      have HK := hidR hK'
      clear HU HBs hK' hp
      refine wl_nil (P := Tryd.prog) (ops := #[]) ?_
      go_wp2
      refine ⟨by simp, .inl ⟨_, _, rfl, run_takeDeferred HK.out, ?_⟩⟩
      obtain ⟨⟨k0, k1, k2, k3⟩, -⟩ := HX.out.kept (grownBy_putObj' _ D (.deferred none)) (fun r e => by cases e; exact ⟨_, HK.out, rfl⟩)
      refine ⟨.tuple #[.agg #[.int .u64 0, .int .u64 0], .bool false, .int .i64 0], ?_, ⟨0, none, HZ.out, fun _ => HF.out.symm, fun h => absurd rfl h, by simp [hI_zero, lI_zero]⟩, HY.out.trans (belowK_b (w := w) (Nat.le_refl _) _ D _ _ (Nat.le_trans hs4 hD) HK.out rfl rfl)⟩
      simp only [hI_zero, lI_zero] at k0 k1
      simp [results, Tryd.results30, go_sem, k0, k1, k2, k3]
    case stop =>
      rintro D c pre W hD hpre ⟨⟨rfl, ini, last, e1, e2, e3, hR⟩, hB⟩ hK
      have HF : Hid (frs (al (swp F l) (swp G m)) = some last.1.1) := hidR (frs_some _ ini last (by rw [← e1]; exact hpre) e2 e3)
      refine (wpIn_wide (n := 5)).2 ?_
      go_wp2
      refine ⟨by simp, .inl ⟨_, _, rfl, run_takeDeferred hK, ?_⟩⟩
      obtain ⟨⟨k0, k1, k2, k3⟩, -⟩ := hR.kept (grownBy_putObj' _ D (.deferred none)) (fun r e => by cases e; exact ⟨_, hK, rfl⟩)
      refine ⟨.tuple #[.agg #[.int .u64 (hI last.1.1), .int .u64 (lI last.1.1)], .bool true, .int .i64 0], ?_, ⟨0, some last.1.1, HZ.out, fun _ => HF.out.symm, fun h => absurd rfl h, rfl⟩, hB.trans (belowK_b (w := w) (Nat.le_refl _) _ D _ _ (Nat.le_trans hs4 hD) hK rfl rfl)⟩
      simp [results, Tryd.results30, go_sem, k0, k1, k2, k3]
  · have hn : (z != 0) = true := by simpa using h0
    obtain ⟨rfl, rfl⟩ := hz2 h0
    obtain ⟨⟨r0, r1, r2, r3⟩, f0, f1, f2, f3⟩ := HR3.out
    have HN := hidR h0
    obtain ⟨⟨k0, k1, k2, k3⟩, -⟩ := HR3.out.set 0#128 false z
    simp only [hI_zero, lI_zero] at k0 k1 k2 k3 r0 r1
    have HBs := hidR (bsetU (C := w.heap.size + 2) HB3.out (by omega) (.int .u64 0) (.int .u64 0) (.bool false) (.int .i64 z))
    clear h0 hz1 hz2 HR3
    go_wp2
    refine ⟨.tuple #[.agg #[.int .u64 0, .int .u64 0], .bool false, .int .i64 z], ?_, ⟨z, none, HZ.out, fun h => absurd h HN.out, fun _ => rfl, by simp [hI_zero, lI_zero]⟩, HBs.out⟩
    simp [results, Tryd.results30, go_sem, k0, k1, k2, k3]
set_option maxHeartbeats 4000000 in
theorem equal_any (F : Int) (v : Value) (l : List Rte) (G : Int) (u : Value) (m : List Rte) (w : World) (hv : RwR w v l) (hu : RwR w u m) :
    Calls Tryd.prog 29 #[.agg #[.int .i64 F, v], .agg #[.int .i64 G, u]] w fun e w' => (∃ z o, TwoE F l G m z ∧ (z = 0 → o = frs (al (swp F l) (swp G m))) ∧ (z ≠ 0 → o = none) ∧ e = .returned (.tuple #[.bool (decide (z = 0) && !o.isSome), .int .i64 z])) ∧ Below w.heap.size w w' := by
  have q1 := bl1 w (.cells #[.int .i64 F, v] 24)
  have q2 := bl1 (w.alloc (.cells #[.int .i64 F, v] 24)) (.cells #[.int .i64 G, u] 24)
  obtain ⟨t0, t1⟩ := (att_new w w.heap.size F v 24 rfl).below q2
  obtain ⟨y0, y1⟩ := att_new (w.alloc (.cells #[.int .i64 F, v] 24)) (w.heap.size + 1) G u 24 (by simp)
  have HB := hidR (keepb q2 q1)
  have KU := unlike_any F v l G u m _ (hv.below HB.out) (hu.below HB.out)
  obtain ⟨ao, c, rfl, -⟩ := hv
  obtain ⟨bo, d, rfl, -⟩ := hu
  clear q1 q2
  go_enter Tryd.func29, Tryd.ntmps29
  go_wp2_with fail
  refine KU.mono ?_
  rintro e w1 ⟨⟨z, o, hz, h1, h2, rfl⟩, hb⟩
  have HB1 := hidR (keepb (bl1 w1 (.cells #[.int .u64 (hI (o.getD 0#128)), .int .u64 (lI (o.getD 0#128))] 27)) (keepb hb HB.out))
  have HZ := hidR hz
  have H1 := hidR h1
  have H2 := hidR h2
  clear KU hb hz h1 h2 t0 t1 y0 y1 HB
  have HE : Hid (∀ b, b = (decide (z = 0) && !o.isSome) → ∃ z' o', TwoE F l G m z' ∧ (z' = 0 → o' = frs (al (swp F l) (swp G m))) ∧ (z' ≠ 0 → o' = none) ∧ (Ending.returned (.tuple #[.bool b, .int .i64 z])) = .returned (.tuple #[.bool (decide (z' = 0) && !o'.isSome), .int .i64 z'])) := hidR (fun b hb => ⟨z, o, HZ.out, H1.out, H2.out, by rw [hb]⟩)
  by_cases h0 : z = 0
  · have hn : (z == 0) = true := by simpa using h0
    have HE2 := hidR (HE.out (!o.isSome) (by simp [h0]))
    generalize o.isSome = ob at *
    clear H1 H2 HE h0
    go_wp2
    exact bodyPost_ret (v := .tuple #[.bool (!ob), .int .i64 z]) (by simp [results, Tryd.results29, go_sem]) rfl ⟨HE2.out, HB1.out⟩
  · have hn : (z == 0) = false := by simpa using h0
    have HE2 := hidR (HE.out false (by simp [h0]))
    generalize o.isSome = ob at *
    clear H1 H2 HE h0
    go_wp2
    exact bodyPost_ret (v := .tuple #[.bool false, .int .i64 z]) (by simp [results, Tryd.results29, go_sem]) rfl ⟨HE2.out, HB1.out⟩
end Go.Proofs.YtonagfmkplbooaaDoor
/-
  What is joined of two right lists is right, and says what is asked of both: plain facts.
-/
namespace Go.Proofs.YtonagfmkplbooaaDoor
open Go.RowKit
set_option linter.unusedSimpArgs false
set_option linter.unusedVariables false

/-- What is joined of stretches, the last one first. -/
def foldJ (fq : Int → Int → Int) (pre : List Str) : List Sg := pre.foldl (fun st x => behS st (x.1, fq x.2.1 x.2.2)) []
/-- The segments that are joined of two lists. -/
def jnd (fq : Int → Int → Int) (la lb : List Sg) : List Sg := (foldJ fq (al la lb)).reverse
theorem chn_tol (F : Int) (f g : BitVec 128 → Int) (fq : Int → Int → Int) (hb : ∀ x, 0 ≤ fq (f x) (g x) ∧ fq (f x) (g x) ≤ 65535) : ∀ (L : List Str) (c : BitVec 128) (st : List Sg), Chn F f g (some c) L → Tol F (fun x => fq (f x) (g x)) (c, false, st) → ∃ y, Tol F (fun x => fq (f x) (g x)) (y, true, L.foldl (fun st x => behS st (x.1, fq x.2.1 x.2.2)) st)
  | [], c, st, hC, hT => hC.elim
  | e :: L, c, st, hC, hT => by
    obtain ⟨e1, e2, e3, e4, e5, e6⟩ := hC
    have v := e5 e.1.2 e3 e4 (Nat.le_refl _)
    have hq : fq e.2.1 e.2.2 = fq (f e.1.2) (g e.1.2) := by rw [v.1, v.2]
    have T := tell_ok F (fun x => fq (f x) (g x)) e.1.2 (fq e.2.1 e.2.2) (c, false, st) hT e3 (by rw [hq]; exact (hb _).1) (by rw [hq]; exact (hb _).2) (fun _ x hx h1 h2 => by
      obtain ⟨a, b⟩ := e5 x hx h1 h2
      rw [a, b])
    unfold tell3 at T
    rw [if_neg (by simp), if_neg (by rw [cmp_lt0]; simp only; omega)] at T
    simp only at T
    have ee : ((c, e.1.2), fq e.2.1 e.2.2) = (e.1, fq e.2.1 e.2.2) := by rw [← e1]
    rw [ee] at T
    rw [List.foldl_cons]
    unfold nxt at e6
    cases hn : nextB F e.1.2 with
    | true =>
      rw [if_pos hn] at e6
      rw [hn] at T
      exact chn_tol F f g fq hb L _ _ e6 T
    | false =>
      rw [if_neg (by rw [hn]; decide)] at e6
      rw [hn] at T
      cases L with
      | nil => exact ⟨_, T⟩
      | cons a L => exact e6.elim
theorem jnd_right (F : Int) (hf : fam F = true) (f g : BitVec 128 → Int) (fq : Int → Int → Int) (hb : ∀ x, 0 ≤ fq (f x) (g x) ∧ fq (f x) (g x) ≤ 65535) (la lb : List Sg) (hl : sgsGo F none la = 0) (hm : sgsGo F none lb = 0) (sf : Says F f la) (sg : Says F g lb) : sgsGo F none (jnd fq la lb) = 0 ∧ Says F (fun x => fq (f x) (g x)) (jnd fq la lb) := by
  have z : rightE F 0#128 = 0 := by unfold rightE; rw [if_pos hf, if_pos BitVec.zero_and]
  obtain ⟨y, T⟩ := chn_tol F f g fq hb (al la lb) 0#128 [] (al_all F f g la lb hl hm sf sg) ⟨trivial, rfl, fun _ => ⟨rfl, z⟩, fun s hs => by cases hs⟩
  have hm := T.mo
  unfold jnd foldJ
  constructor
  · have := good_go F _ [] T.good
    rw [List.append_nil] at this
    rw [this, sgsGo, hm]
    rfl
  · intro s hs
    exact T.says s (List.mem_reverse.mp hs)
/-- Over, Less and Only, as they ask two next hops. -/
def qOver (x y : Int) : Int := if x = 0 then y else x
def qLess (x y : Int) : Int := if y = 0 then x else 0
def qOnly (x y : Int) : Int := if y = 0 then 0 else x
end Go.Proofs.YtonagfmkplbooaaDoor
