/-
  Part 28 of the proof: 5 texts, one behind the other.
-/
import Derived.Test.YtonagfmkplbooaaGreatDoorPart25
import Derived.Test.YtonagfmkplbooaaGreatDoorPart26
import Derived.Test.YtonagfmkplbooaaGreatDoorPart27
import Derived.Test.YtonagfmkplbooaaGreatDoorPart13
import Derived.Test.YtonagfmkplbooaaGreatDoorPart21
import Derived.RangeFuncNested
import Derived.RangeFuncBound
import Derived.RangeFuncCalls
import Derived.RangeFuncLeaves
import Derived.Shelf.Abstract
import Derived.Shelf.RegionOpen
import Derived.WalkKit
import Derived.OwnWalkIn
import Derived.TacticsInMore
import Derived.LoopNIn
import Derived.LoopIn
import Derived.Test.YtonagfmkplbooaaGreatDoorPart9
import Derived.Test.YtonagfmkplbooaaGreatDoorPart14
import Derived.Test.YtonagfmkplbooaaGreatDoorPart15
/-
  The law AlgebraSegs: any table.
-/
namespace Go.Proofs.YtonagfmkplbooaaGreatDoor
open Go.RowKit
set_option linter.unusedSimpArgs false
set_option linter.unusedVariables false

theorem tabE_one {F : Int} {l : List Rte} {z z' : Int} (h : TabE F l z) (h' : TabE F l z') : z = z' := by
  by_cases h0 : rtsE F l = 0
  · rcases h.2 h0 with ⟨a, b⟩ | ⟨a, b⟩ <;> rcases h'.2 h0 with ⟨c, d⟩ | ⟨c, d⟩
    · rw [b, d]
    · exact absurd a c
    · exact absurd c a
    · rw [b, d]
  · rw [h.1 h0, h'.1 h0]
/-- What is lent holds the routes. -/
theorem lend_rwr {W : World} {base g : Nat} {l m : List Rte} {n : Nat} (h : W.ownsRow base 45 4 (.slice (some ⟨g, 0, none⟩) n n) n (rowR (l ++ m))) (c : Nat) : RwR W (.slice (some ⟨g, 0, none⟩) l.length c) l := by
  refine ⟨_, c, rfl, .inr ⟨g, 0, rfl, fun j u hj => ?_⟩⟩
  have hj' : (rowR (l ++ m))[j]? = some u := by
    rw [rowR_app5]
    rw [List.getElem?_append_left]
    · exact hj
    · exact (List.getElem?_eq_some_iff.mp hj).1
  have := h.cells (g := g) rfl j u hj'
  rwa [addA] at this
theorem rwg_nil (W : World) : RwG W (.slice none 0 0) [] := ⟨none, 0, rfl, .inl rfl⟩
theorem RwR.sty {w W W' : World} {g : Nat} {v : Value} {l : List Rte} (h : RwR w v l) (hb : Below w.heap.size w W) (hs : Sty g W W') (hg : w.heap.size ≤ g) : RwR W' v l := h.below (hs.low hb hg)
end Go.Proofs.YtonagfmkplbooaaGreatDoor
/-
  What the calls of package algebra's segsOfTwo and along do.
-/
namespace Go.Proofs.YtonagfmkplbooaaGreatDoor
open Go.RowKit
set_option linter.unusedSimpArgs false
set_option linter.unusedVariables false

/-- The error of two tables. -/
def TwoE (F : Int) (l : List Rte) (G : Int) (m : List Rte) (z : Int) : Prop := ∃ x, TabE F l x ∧ ((x ≠ 0 ∧ z = x) ∨ (x = 0 ∧ ∃ y, TabE G m y ∧ ((y ≠ 0 ∧ z = y) ∨ (y = 0 ∧ ((F ≠ G ∧ z = 3) ∨ (F = G ∧ z = 0))))))
theorem twoE_one {F : Int} {l : List Rte} {G : Int} {m : List Rte} {z z' : Int} (h : TwoE F l G m z) (h' : TwoE F l G m z') : z = z' := by
  obtain ⟨x, hx, h⟩ := h
  obtain ⟨x', hx', h'⟩ := h'
  obtain rfl := tabE_one hx hx'
  rcases h with ⟨a, b⟩ | ⟨a, y, hy, h⟩
  · rcases h' with ⟨c, d⟩ | ⟨c, -⟩
    · rw [b, d]
    · exact absurd c a
  · rcases h' with ⟨c, d⟩ | ⟨c, y', hy', h'⟩
    · exact absurd a c
    · obtain rfl := tabE_one hy hy'
      rcases h with ⟨e, f⟩ | ⟨e, h⟩
      · rcases h' with ⟨e', f'⟩ | ⟨e', -⟩
        · rw [f, f']
        · exact absurd e' e
      · rcases h' with ⟨e', f'⟩ | ⟨-, h'⟩
        · exact absurd e e'
        · rcases h with ⟨q, r⟩ | ⟨q, r⟩ <;> rcases h' with ⟨q', r'⟩ | ⟨q', r'⟩
          · rw [r, r']
          · exact absurd q' q
          · exact absurd q q'
          · rw [r, r']
theorem twoE_zero {F : Int} {l : List Rte} {G : Int} {m : List Rte} (h : TwoE F l G m 0) : TabE F l 0 ∧ TabE G m 0 ∧ F = G := by
  obtain ⟨x, hx, h⟩ := h
  rcases h with ⟨a, b⟩ | ⟨a, y, hy, h⟩
  · exact absurd b.symm a
  · subst a
    rcases h with ⟨e, f⟩ | ⟨e, h⟩
    · exact absurd f.symm e
    · subst e
      rcases h with ⟨q, r⟩ | ⟨q, r⟩
      · omega
      · exact ⟨hx, hy, q⟩
set_option maxHeartbeats 8000000 in
theorem segsOfTwo_any (F : Int) (v : Value) (l : List Rte) (G : Int) (u : Value) (m : List Rte) (w : World) (hv : RwR w v l) (hu : RwR w u m) :
    Calls Tryz.prog 33 #[.agg #[.int .i64 F, v], .agg #[.int .i64 G, u]] w fun e w' => (∃ z va vb, TwoE F l G m z ∧ e = .returned (.tuple #[va, vb, .int .i64 z]) ∧ (z = 0 → w'.ownsRow w.heap.size 47 5 va (swp F l).length (rowG (swp F l)) ∧ w'.ownsRow w.heap.size 47 5 vb (swp G m).length (rowG (swp G m))) ∧ (z ≠ 0 → va = .slice none 0 0 ∧ vb = .slice none 0 0)) ∧ Below w.heap.size w w' := by
  have q1 := bl1 w (.cells #[.int .i64 F, v] 24)
  have q2 := bl1 (w.alloc (.cells #[.int .i64 F, v] 24)) (.cells #[.int .i64 G, u] 24)
  have HT := hidR ((att_new w w.heap.size F v 24 rfl).below q2)
  have HU := hidR (att_new (w.alloc (.cells #[.int .i64 F, v] 24)) (w.heap.size + 1) G u 24 (by simp))
  have HB := hidR (keepb q2 q1)
  have HV := hidR hv
  have HV2 := hidR hu
  have K1 := segs_any F v l _ (hv.below (keepb q2 q1))
  obtain ⟨ao, c, rfl, -⟩ := hv
  obtain ⟨bo, d, rfl, -⟩ := hu
  obtain ⟨t0, t1⟩ := HT.out
  obtain ⟨y0, y1⟩ := HU.out
  clear q1 q2
  go_enter Tryz.func33, Tryz.ntmps33
  go_wp2_with fail
  refine K1.mono ?_
  rintro e w1 ⟨⟨z, va, hz, rfl, hz1, hz2⟩, hb⟩
  have HB1 := hidR (keepb hb HB.out)
  have HT1 := hidR (HT.out.below hb)
  have HU1 := hidR (HU.out.below hb)
  have HZ := hidR hz
  have HZ1 := hidR hz1
  clear K1 hb HB HT HU t0 t1 y0 y1 hz1 hz
  obtain ⟨t0, t1⟩ := HT1.out
  obtain ⟨y0, y1⟩ := HU1.out
  by_cases h0 : z = 0
  · subst h0
    have K2 := segs_any G (.slice bo m.length d) m w1 (HV2.out.below HB1.out)
    clear hz2
    go_wp2_with fail
    refine K2.mono ?_
    rintro e w2 ⟨⟨y, vb, hy, rfl, hy1, hy2⟩, hb⟩
    have HB2 := hidR (keepb hb HB1.out)
    have HT2 := hidR (HT1.out.below hb)
    have HU2 := hidR (HU1.out.below hb)
    have HO1 := hidR (own_wide (own_below hb (HZ1.out (by simp))) (show w.heap.size ≤ _ by simp; omega))
    have HY := hidR hy
    have HY1 : Hid (y = 0 → w2.ownsRow w.heap.size 47 5 vb (swp G m).length (rowG (swp G m))) := hidR (fun h => own_wide (hy1 h) HB1.out.size)
    clear K2 hb HT1 HU1 t0 t1 y0 y1 hy1 hy HB1 HZ1
    obtain ⟨t0, t1⟩ := HT2.out
    obtain ⟨y0, y1⟩ := HU2.out
    by_cases h1 : y = 0
    · subst h1
      by_cases hFG : F = G
      · have dn : (F != G) = false := by simpa using hFG
        have HE : Hid (TwoE F l G m 0) := hidR ⟨0, HZ.out, .inr ⟨rfl, 0, HY.out, .inr ⟨rfl, .inr ⟨hFG, rfl⟩⟩⟩⟩
        have HY2 := hidR (HY1.out (by simp))
        clear hFG HY1 hy2
        go_wp2
        exact bodyPost_ret (v := .tuple #[va, vb, .int .i64 0]) (by simp [results, Tryz.results33, go_sem]) rfl ⟨⟨0, va, vb, HE.out, rfl, fun _ => ⟨HO1.out, HY2.out⟩, fun h => absurd rfl h⟩, HB2.out⟩
      · have dn : (F != G) = true := by simpa using hFG
        have HE : Hid (TwoE F l G m 3) := hidR ⟨0, HZ.out, .inr ⟨rfl, 0, HY.out, .inr ⟨rfl, .inl ⟨hFG, rfl⟩⟩⟩⟩
        clear hFG HY1 hy2
        go_wp2
        exact bodyPost_ret (v := .tuple #[.slice none 0 0, .slice none 0 0, .int .i64 3]) (by simp [results, Tryz.results33, go_sem]) rfl ⟨⟨3, _, _, HE.out, rfl, fun h => absurd h (by decide), fun _ => ⟨rfl, rfl⟩⟩, HB2.out⟩
    · have hn : (y != 0) = true := by simpa using h1
      have HE : Hid (TwoE F l G m y) := hidR ⟨0, HZ.out, .inr ⟨rfl, y, HY.out, .inl ⟨h1, rfl⟩⟩⟩
      have HN := hidR h1
      clear h1 HY1 hy2
      go_wp2
      exact bodyPost_ret (v := .tuple #[.slice none 0 0, .slice none 0 0, .int .i64 y]) (by simp [results, Tryz.results33, go_sem]) rfl ⟨⟨y, _, _, HE.out, rfl, fun h => absurd h HN.out, fun _ => ⟨rfl, rfl⟩⟩, HB2.out⟩
  · have hn : (z != 0) = true := by simpa using h0
    have HE : Hid (TwoE F l G m z) := hidR ⟨z, HZ.out, .inl ⟨h0, rfl⟩⟩
    have HN := hidR h0
    clear h0 HZ1 hz2
    go_wp2
    exact bodyPost_ret (v := .tuple #[.slice none 0 0, .slice none 0 0, .int .i64 z]) (by simp [results, Tryz.results33, go_sem]) rfl ⟨⟨z, _, _, HE.out, rfl, fun h => absurd h HN.out, fun _ => ⟨rfl, rfl⟩⟩, HB1.out⟩
end Go.Proofs.YtonagfmkplbooaaGreatDoor
/-
  What the calls of package algebra's Unlike and Equal do.
-/
namespace Go.Proofs.YtonagfmkplbooaaGreatDoor
open Go.RowKit Go.Shelf
set_option linter.unusedSimpArgs false
set_option linter.unusedVariables false
attribute [local go_sem] Oper.semAt_some

/-- The three results. -/
def UnR (W : World) (B : Nat) (x : BitVec 128) (f : Bool) (e : Int) : Prop := (W.cell? ⟨B, 0, none⟩ = some (.int .u64 (hI x)) ∧ W.cell? ⟨B, 1, none⟩ = some (.int .u64 (lI x)) ∧ W.cell? ⟨B + 1, 0, none⟩ = some (.bool f) ∧ W.cell? ⟨B + 1 + 1, 0, none⟩ = some (.int .i64 e)) ∧ W.frozen? ⟨B, 0, none⟩ = false ∧ W.frozen? ⟨B, 1, none⟩ = false ∧ W.frozen? ⟨B + 1, 0, none⟩ = false ∧ W.frozen? ⟨B + 1 + 1, 0, none⟩ = false
theorem UnR.kept {W W' : World} {B : Nat} {x : BitVec 128} {f : Bool} {e : Int} (k : UnR W B x f e) {row : Option Nat} (hg : W.grownBy W' row) (hr : ∀ r, row = some r → ∃ o : Obj, W.heap[r]? = some o ∧ o.isCells = false) : UnR W' B x f e := by
  obtain ⟨⟨a, b, c, d⟩, f0, f1, f2, f3⟩ := k
  exact ⟨⟨cell_kept a hg hr, cell_kept b hg hr, cell_kept c hg hr, cell_kept d hg hr⟩, (frozen_kept a hg hr).trans f0, (frozen_kept b hg hr).trans f1, (frozen_kept c hg hr).trans f2, (frozen_kept d hg hr).trans f3⟩
theorem UnR.below {W W' : World} {B : Nat} {x : BitVec 128} {f : Bool} {e : Int} (k : UnR W B x f e) (hb : Below W.heap.size W W') : UnR W' B x f e := k.kept (row := none) (below_grown hb) (fun r e => by cases e)
theorem UnR.set {W : World} {B : Nat} {x : BitVec 128} {f : Bool} {e : Int} (k : UnR W B x f e) (y : BitVec 128) (g : Bool) (z : Int) : UnR ((((W.setCell ⟨B, 0, none⟩ (.int .u64 (hI y))).setCell ⟨B, 1, none⟩ (.int .u64 (lI y))).setCell ⟨B + 1, 0, none⟩ (.bool g)).setCell ⟨B + 1 + 1, 0, none⟩ (.int .i64 z)) B y g z := by
  obtain ⟨⟨a, b, c, d⟩, f0, f1, f2, f3⟩ := k
  refine ⟨⟨?_, ?_, ?_, ?_⟩, ?_, ?_, ?_, ?_⟩ <;> simp [go_sem, *]
theorem bsetU {n C : Nat} {w W : World} (h : Below n w W) (hp : n ≤ C) (u0 u1 u2 u3 : Value) : Below n w ((((W.setCell ⟨C, 0, none⟩ u0).setCell ⟨C, 1, none⟩ u1).setCell ⟨C + 1, 0, none⟩ u2).setCell ⟨C + 1 + 1, 0, none⟩ u3) := (((h.setCell (p := ⟨C, 0, none⟩) hp _).setCell (p := ⟨C, 1, none⟩) hp _).setCell (p := ⟨C + 1, 0, none⟩) (by simp; omega) _).setCell (p := ⟨C + 1 + 1, 0, none⟩) (by simp; omega) _
/-- The stretch that a round is handed. -/
def AtS (W : World) (B : Nat) (x y : BitVec 128) : Prop := W.cell? ⟨B, 0, none⟩ = some (.int .u64 (hI x)) ∧ W.cell? ⟨B, 1, none⟩ = some (.int .u64 (lI x)) ∧ W.cell? ⟨B, 2, none⟩ = some (.int .u64 (hI y)) ∧ W.cell? ⟨B, 3, none⟩ = some (.int .u64 (lI y))
theorem KC.refl (W : World) : KC W W := ⟨Nat.le_refl _, fun _ _ h _ => h⟩
theorem kc_put {w : World} (W : World) (l : Nat) (o o' : Obj) (hl : w.heap.size ≤ l) (h : W.heap[l]? = some o) (hc : o.isCells = false) (_ : o.isWalk = false) : KC W (W.putObj l o') := ⟨by simp, fun z x hz hx => by
  by_cases e : z = l
  · subst e
    rw [h] at hz
    cases hz
    rw [hc] at hx
    cases hx
  · rw [World.putObj_heap_other e]; exact hz⟩
theorem frs_none (L : List Str) (h : ∀ x ∈ L, x.2.1 = x.2.2) : frs L = none := by
  unfold frs
  rw [List.find?_eq_none.mpr (fun x hx => by simp [h x hx])]
  rfl
theorem frs_some (L pre : List Str) (x : Str) (hp : pre ++ [x] <+: L) (h : ∀ y ∈ pre, y.2.1 = y.2.2) (hx : x.2.1 ≠ x.2.2) : frs L = some x.1.1 := by
  obtain ⟨t, rfl⟩ := hp
  unfold frs
  rw [List.append_assoc, List.find?_append, List.find?_eq_none.mpr (fun y hy => by simp [h y hy])]
  simp [hx]
end Go.Proofs.YtonagfmkplbooaaGreatDoor
/-
  What is joined of two right lists is right, and says what is asked of both: plain facts.
-/
namespace Go.Proofs.YtonagfmkplbooaaGreatDoor
open Go.RowKit
set_option linter.unusedSimpArgs false
set_option linter.unusedVariables false

/-- What is joined of stretches, the last one first. -/
def foldJ (fq : Int → Int → Int) (pre : List Str) : List Sg := pre.foldl (fun st x => behS st (x.1, fq x.2.1 x.2.2)) []
/-- The segments that are joined of two lists. -/
def jnd (fq : Int → Int → Int) (la lb : List Sg) : List Sg := (foldJ fq (al la lb)).reverse
theorem chn_tol (F : Int) (f g : BitVec 128 → Int) (fq : Int → Int → Int) (hb : ∀ x, 0 ≤ fq (f x) (g x) ∧ fq (f x) (g x) ≤ 65535) : ∀ (L : List Str) (c : BitVec 128) (st : List Sg), Chn F f g (some c) L → Tol F (fun x => fq (f x) (g x)) (c, false, st) → ∃ y, Tol F (fun x => fq (f x) (g x)) (y, true, L.foldl (fun st x => behS st (x.1, fq x.2.1 x.2.2)) st)
  | [], c, st, hC, hT => hC.elim
  | e :: L, c, st, hC, hT => by
    obtain ⟨e1, e2, e3, e4, e5, e6⟩ := hC
    have v := e5 e.1.2 e3 e4 (Nat.le_refl _)
    have hq : fq e.2.1 e.2.2 = fq (f e.1.2) (g e.1.2) := by rw [v.1, v.2]
    have T := tell_ok F (fun x => fq (f x) (g x)) e.1.2 (fq e.2.1 e.2.2) (c, false, st) hT e3 (by rw [hq]; exact (hb _).1) (by rw [hq]; exact (hb _).2) (fun _ x hx h1 h2 => by
      obtain ⟨a, b⟩ := e5 x hx h1 h2
      rw [a, b])
    unfold tell3 at T
    rw [if_neg (by simp), if_neg (by rw [cmp_lt0]; simp only; omega)] at T
    simp only at T
    have ee : ((c, e.1.2), fq e.2.1 e.2.2) = (e.1, fq e.2.1 e.2.2) := by rw [← e1]
    rw [ee] at T
    rw [List.foldl_cons]
    unfold nxt at e6
    cases hn : nextB F e.1.2 with
    | true =>
      rw [if_pos hn] at e6
      rw [hn] at T
      exact chn_tol F f g fq hb L _ _ e6 T
    | false =>
      rw [if_neg (by rw [hn]; decide)] at e6
      rw [hn] at T
      cases L with
      | nil => exact ⟨_, T⟩
      | cons a L => exact e6.elim
theorem jnd_right (F : Int) (hf : fam F = true) (f g : BitVec 128 → Int) (fq : Int → Int → Int) (hb : ∀ x, 0 ≤ fq (f x) (g x) ∧ fq (f x) (g x) ≤ 65535) (la lb : List Sg) (hl : sgsGo F none la = 0) (hm : sgsGo F none lb = 0) (sf : Says F f la) (sg : Says F g lb) : sgsGo F none (jnd fq la lb) = 0 ∧ Says F (fun x => fq (f x) (g x)) (jnd fq la lb) := by
  have z : rightE F 0#128 = 0 := by unfold rightE; rw [if_pos hf, if_pos BitVec.zero_and]
  obtain ⟨y, T⟩ := chn_tol F f g fq hb (al la lb) 0#128 [] (al_all F f g la lb hl hm sf sg) ⟨trivial, rfl, fun _ => ⟨rfl, z⟩, fun s hs => by cases hs⟩
  have hm := T.mo
  unfold jnd foldJ
  constructor
  · have := good_go F _ [] T.good
    rw [List.append_nil] at this
    rw [this, sgsGo, hm]
    rfl
  · intro s hs
    exact T.says s (List.mem_reverse.mp hs)
/-- Over, Less and Only, as they ask two next hops. -/
def qOver (x y : Int) : Int := if x = 0 then y else x
def qLess (x y : Int) : Int := if y = 0 then x else 0
def qOnly (x y : Int) : Int := if y = 0 then 0 else x
end Go.Proofs.YtonagfmkplbooaaGreatDoor
/-
  What the call of package algebra's joined does.
-/
namespace Go.Proofs.YtonagfmkplbooaaGreatDoor
open Go.RowKit Go.Shelf
set_option linter.unusedSimpArgs false
set_option linter.unusedVariables false
attribute [local go_sem] Oper.semAt_some

theorem foldJ_one (fq : Int → Int → Int) (pre : List Str) (x : Str) : foldJ fq (pre ++ [x]) = behS (foldJ fq pre) (x.1, fq x.2.1 x.2.2) := by
  unfold foldJ
  rw [List.foldl_append]
  rfl
theorem foldJ_lenG (fq : Int → Int → Int) : ∀ (pre : List Str) (st : List Sg), (pre.foldl (fun st x => behS st (x.1, fq x.2.1 x.2.2)) st).length ≤ st.length + pre.length
  | [], st => by simp
  | x :: pre, st => by
    rw [List.foldl_cons]
    have h1 := foldJ_lenG fq pre (behS st (x.1, fq x.2.1 x.2.2))
    have h2 := behS_len st (x.1, fq x.2.1 x.2.2)
    simp only [List.length_cons]
    omega
theorem foldJ_len (fq : Int → Int → Int) (pre : List Str) : (foldJ fq pre).length ≤ pre.length := by
  have := foldJ_lenG fq pre []
  simpa [foldJ] using this
theorem al_len : ∀ (n : Nat) (l m : List Sg), l.length + m.length ≤ n → (al l m).length ≤ l.length + m.length := by
  intro n
  induction n with
  | zero =>
    intro l m h
    cases l with
    | nil => simp [al]
    | cons a l => simp at h
  | succ n ih =>
    intro l m h
    cases l with
    | nil => simp [al]
    | cons s l =>
      cases m with
      | nil => simp [al]
      | cons t m =>
        rw [al]
        simp only [List.length_cons] at h ⊢
        split
        · have := ih (s :: l) m (by simp; omega)
          simp only [List.length_cons] at this
          omega
        · split
          · have := ih l m (by omega)
            omega
          · have := ih l (t :: m) (by simp; omega)
            simp only [List.length_cons] at this
            omega
theorem jnd_len (fq : Int → Int → Int) (la lb : List Sg) : (jnd fq la lb).length ≤ la.length + lb.length := by
  unfold jnd
  rw [List.length_reverse]
  exact Nat.le_trans (foldJ_len _ _) (al_len _ la lb (Nat.le_refl _))
/-- The variable at L holds what is joined. -/
def JnI (fq : Int → Int → Int) (L : Nat) (pre : List Str) (W : World) : Prop := ∃ v, W.cell? ⟨L, 0, none⟩ = some v ∧ W.frozen? ⟨L, 0, none⟩ = false ∧ W.ownsRow L 47 5 v (foldJ fq pre).length (rowG (foldJ fq pre).reverse) ∧ ∀ z, v.ownBlock = some z → L < z
theorem own_cells6 {W : World} {base e size n : Nat} {v : Value} {xs : List Value} (h : W.ownsRow base e size v n xs) (z : Nat) (hz : v.ownBlock = some z) : ∃ o : Obj, W.heap[z]? = some o ∧ o.isCells = true := by
  rcases h.2 with ⟨rfl, _⟩ | ⟨g, cap, cur, rfl, hb, hg, _⟩
  · simp [Value.ownBlock] at hz
  · have : g = z := by simpa [Value.ownBlock] using hz
    subst this
    exact ⟨_, hg, rfl⟩
theorem jnI_own (fq : Int → Int → Int) (L : Nat) : Own (fun pre W => JnI fq L pre W) := fun s A B row hs hg hr => by
  obtain ⟨v, h1, h2, h3, h4⟩ := hs
  refine ⟨v, cell_kept h1 hg hr, (frozen_kept h1 hg hr).trans h2, own_heap h3 (fun z hz => ?_), h4⟩
  obtain ⟨o, h5, h6⟩ := own_cells6 h3 z hz
  exact grownBy_keeps_cells hg hr h5 h6
theorem kl_put {L : Nat} {w : World} (W : World) (l : Nat) (o o' : Obj) (hl : w.heap.size ≤ l) (h : W.heap[l]? = some o) (hc : o.isCells = false) (_ : o.isWalk = false) : KL L W (W.putObj l o') := by
  refine ⟨by simp, fun v hv hz => ?_⟩
  have hne : L ≠ l := by
    rintro rfl
    cases o with
    | cells a t => cases hc
    | _ => simp [World.cell?, h] at hv
  have e : (W.putObj l o').heap[L]? = W.heap[L]? := World.putObj_heap_other hne
  refine ⟨v, (cellH e 0).trans hv, fun z h => ⟨.inl h, ?_⟩, fun z x hz hx _ _ => ?_⟩
  · have := hz z h; simpa using this
  · by_cases e : z = l
    · subst e
      rw [h] at hz
      cases hz
      rw [hc] at hx
      cases hx
    · rw [World.putObj_heap_other e]; exact hz
theorem kl_below {L : Nat} {W W' : World} (h : Below W.heap.size W W') : KL L W W' := ⟨h.size, fun v hv hz => ⟨v, keepc h hv, fun z q => ⟨.inl q, Nat.lt_of_lt_of_le (hz z q) h.size⟩, fun z o ho _ _ _ => by rw [h.block z (heap_lt ho)]; exact ho⟩⟩
/-- A round's step. -/
theorem jn_step {fq : Int → Int → Int} {L : Nat} {pre : List Str} {x : Str} {w0 W w' : World} {v v' : Value} (h1 : W.cell? ⟨L, 0, none⟩ = some v) (h2 : W.frozen? ⟨L, 0, none⟩ = false) (h3 : W.ownsRow L 47 5 v (foldJ fq pre).length (rowG (foldJ fq pre).reverse)) (h4 : ∀ z, v.ownBlock = some z → L < z) (hO : BhO L v (behS (foldJ fq pre) (x.1, fq x.2.1 x.2.2)) W v' w') :
    (w'.cell? ⟨L, 0, none⟩ = some v ∧ w'.frozen? ⟨L, 0, none⟩ = false) ∧ KeepsOthers W (w'.setCell ⟨L, 0, none⟩ v') ∧ KL L W (w'.setCell ⟨L, 0, none⟩ v') ∧ JnI fq L (pre ++ [x]) (w'.setCell ⟨L, 0, none⟩ v') ∧ (Below L w0 W → Below L w0 (w'.setCell ⟨L, 0, none⟩ v')) := by
  obtain ⟨o1, o2, o3⟩ := hO
  have hL := cell_in h1
  have eL : w'.heap[L]? = W.heap[L]? := o2.block L hL (fun e => by have := h4 L e.symm; omega)
  have c1 : w'.cell? ⟨L, 0, none⟩ = some v := (cellH eL 0).trans h1
  have c2 : w'.frozen? ⟨L, 0, none⟩ = false := (World.frozen?_of_block (a := ⟨L, 0, none⟩) eL).trans h2
  have g4 : ∀ z, v'.ownBlock = some z → L < z := fun z hz => by
    rcases o3 z hz with q | q
    · exact h4 z q
    · omega
  have nL : ∀ z, v'.ownBlock = some z → ¬ z = L := fun z hz e => by have := g4 z hz; omega
  have own' : (w'.setCell ⟨L, 0, none⟩ v').ownsRow L 47 5 v' (foldJ fq (pre ++ [x])).length (rowG (foldJ fq (pre ++ [x])).reverse) := by
    rw [foldJ_one]
    exact own_heap o1 (fun z hz => hSet _ (nL z hz))
  refine ⟨⟨c1, c2⟩, (KeepsOthers.of_grownBy o2 (fun j o e hj => ?_)).trans (KeepsOthers.setCell _ _ _), ⟨?_, fun u hu hz => ?_⟩, ⟨v', ?_, ?_, own', g4⟩, fun hb => ?_⟩
  · obtain ⟨o', q1, q2⟩ := own_cells6 h3 j e
    rw [hj] at q1
    cases q1
    exact q2
  · have := o2.size; simpa using this
  · rw [h1] at hu
    cases hu
    refine ⟨v', World.cell?_setCell_same' _ _ _ (by rw [c1]; rfl), fun z hz' => ⟨o3 z hz', (own'.lt z hz').2⟩, fun z o ho hc hne hn => ?_⟩
    rw [hSet _ hne, o2.block z (heap_lt ho) (fun e => hn e.symm)]
    exact ho
  · exact World.cell?_setCell_same' _ _ _ (by rw [c1]; rfl)
  · rw [World.frozen?_setCell]; exact c2
  · exact (hb.grown o2 (Nat.le_of_lt hL) (fun k e => Nat.le_of_lt (h4 k e))).setCell (p := ⟨L, 0, none⟩) (Nat.le_refl _) _
theorem OwL.below {L : Nat} {Z : Nat → Prop} {W W' : World} (h : OwL L Z W) (hb : Below W.heap.size W W') : OwL L Z W' := by
  obtain ⟨v, h1, h2, h3⟩ := owl_new h hb
  exact ⟨v, h1, h2, fun z hz => h3 z (.inl hz)⟩
theorem alongi_any (ao : Option Addr) (na ca : Nat) (bo : Option Addr) (nb cb : Nat) (fid : Nat) (w : World) : Calls Tryz.prog 41 #[.slice ao na ca, .slice bo nb cb, .func (.func fid) #[] #[]] w fun e w' => e = .returned (.func (.func 70) #[] #[.pointer (some ⟨w.heap.size, 0, none⟩), .pointer (some ⟨w.heap.size + 1, 0, none⟩), .pointer (some ⟨w.heap.size + 2, 0, none⟩)]) ∧ w' = ((w.alloc (.cells #[.slice ao na ca] 41)).alloc (.cells #[.slice bo nb cb] 41)).alloc (.cells #[.func (.func fid) #[] #[]] 49) := by
  go_enter Tryz.func41, Tryz.ntmps41
  go_wp2
  go_ret
  exact ⟨rfl, rfl⟩
theorem aloni_stops (n A B C L fid : Nat) (Z : Nat → Prop) (fq : Int → Int → Int) (hq : ∀ x y W, Calls Tryz.prog fid #[.int .i64 x, .int .i64 y] W fun e W' => e = .returned (.int .i64 (fq x y)) ∧ W' = W) (heg : ∀ args w, (callFunc fid args).run Tryz.prog w = .ok (.enter fid args) w) (va vb : Value) (la lb : List Sg) (hla : la.length ≤ 1000000000) (hlb : lb.length ≤ 1000000000) (w : World) (hZ : AlZ Z A B C va vb la lb) (hO : OwL L Z w) (hM : AlM A B C va vb (.func (.func fid) #[] #[]) la lb w) :
    SeqStopsK Fence.wide n Tryz.prog 70 #[.pointer (some ⟨A, 0, none⟩), .pointer (some ⟨B, 0, none⟩), .pointer (some ⟨C, 0, none⟩)] (encI fq) (KL L) (fun ys => ys = al la lb) (fun pre => pre <+: al la lb) (al la lb).length w := fun l J Jx W hW hJ hJx hY h0 =>
  callsIn_wide.2 (aloni_any n l A B C L fid Z fq hq heg va vb la lb hla hlb J Jx (fun pre V V' h hb => hJ pre V V' none h (below_grown hb) (fun r e => by cases e)) hY W hZ (hO.below hW) (hM.kc (below_kc hW)) h0)
theorem rwg_blk {W : World} {v : Value} {l : List Sg} (h : RwG W v l) (b off n c : Nat) (hl : l ≠ []) (e : v = .slice (some ⟨b, off, none⟩) n c) : b < W.heap.size := by
  obtain ⟨ao, c', e', h⟩ := h
  rcases h with h | ⟨b', off', e2, hc⟩
  · exact absurd h hl
  · subst e2
    rw [e] at e'
    injection e' with e1
    injection e1 with e1
    injection e1 with e1
    subst e1
    have : 0 < l.length := by
      cases l with
      | nil => exact absurd rfl hl
      | cons a l => simp
    exact cell_in (rwg_cells hc 0 this).1
set_option maxRecDepth 100000 in
set_option maxHeartbeats 16000000 in
theorem joined_any (fid : Nat) (fq : Int → Int → Int) (hq : ∀ x y W, Calls Tryz.prog fid #[.int .i64 x, .int .i64 y] W fun e W' => e = .returned (.int .i64 (fq x y)) ∧ W' = W) (heg : ∀ args w, (callFunc fid args).run Tryz.prog w = .ok (.enter fid args) w) (va vb : Value) (la lb : List Sg) (hll : la.length + lb.length ≤ 1000000000) (w : World) (hva : RwG w va la) (hvb : RwG w vb lb) :
    Calls Tryz.prog 21 #[va, vb, .func (.func fid) #[] #[]] w fun e w' => ∃ v, e = .returned v ∧ w'.ownsRow w.heap.size 47 5 v (jnd fq la lb).length (rowG (jnd fq la lb)) ∧ Below w.heap.size w w' := by
  have HVA := hidR hva
  have HVB := hidR hvb
  have HQ := hidR hq
  have HG := hidR heg
  obtain ⟨ao, ca, rfl, -⟩ := hva
  obtain ⟨bo, cb, rfl, -⟩ := hvb
  have KA := fun W => alongi_any ao la.length ca bo lb.length cb fid W
  clear hq heg
  refine (callsIn_wide (n := 5)).1 ?_
  refine callsIn_of_wp_marks Tryz.func21 rfl trivial ?_ rfl
  simp only [Tryz.ntmps21, List.size_toArray, List.length_cons, List.length_nil, Nat.reduceAdd, Nat.reduceSub, Array.replicate_succ, Array.replicate_zero, List.push_toArray, List.append_toArray, List.nil_append, List.cons_append]
  refine wpIn_wide.2 ?_
  go_wp2_with fail
  refine (KA _).mono ?_
  rintro e w4 ⟨rfl, hw4⟩
  clear KA
  have s1 : (w.alloc (.cells #[.slice none 0 0] 41)).heap.size = w.heap.size + 1 := by simp
  rw [s1]
  have c0 := bl1 w (.cells #[.slice none 0 0] 41)
  have c1 := bl1 (w.alloc (.cells #[.slice none 0 0] 41)) (.cells #[.slice ao la.length ca] 41)
  have c2 := bl1 ((w.alloc (.cells #[.slice none 0 0] 41)).alloc (.cells #[.slice ao la.length ca] 41)) (.cells #[.slice bo lb.length cb] 41)
  have c3 := bl1 (((w.alloc (.cells #[.slice none 0 0] 41)).alloc (.cells #[.slice ao la.length ca] 41)).alloc (.cells #[.slice bo lb.length cb] 41)) (.cells #[.func (.func fid) #[] #[]] 49)
  have HB4 : Hid (Below w.heap.size w w4) := hidR (by rw [hw4]; exact keepb c3 (keepb c2 (keepb c1 c0)))
  have hs : w4.heap.size = w.heap.size + 4 := by rw [hw4]; simp
  have hL : w4.cell? ⟨w.heap.size, 0, none⟩ = some (.slice none 0 0) := by rw [hw4]; simp [go_sem]
  have hLf : w4.frozen? ⟨w.heap.size, 0, none⟩ = false := by rw [hw4]; simp [go_sem]
  have HM : Hid (AlM (w.heap.size + 1) (w.heap.size + 1 + 1) (w.heap.size + 1 + 2) (.slice ao la.length ca) (.slice bo lb.length cb) (.func (.func fid) #[] #[]) la lb w4) := hidR ⟨by rw [hw4]; simp [go_sem], by rw [hw4]; simp [go_sem], by rw [hw4]; simp [go_sem], HVA.out.below HB4.out, HVB.out.below HB4.out⟩
  have HZ : Hid (AlZ (fun z => z < w4.heap.size ∧ z ≠ w.heap.size) (w.heap.size + 1) (w.heap.size + 1 + 1) (w.heap.size + 1 + 2) (.slice ao la.length ca) (.slice bo lb.length cb) la lb) := hidR ⟨⟨by omega, by omega⟩, ⟨by omega, by omega⟩, ⟨by omega, by omega⟩, fun b off n c h e => by have := rwg_blk HVA.out b off n c h e; exact ⟨by omega, by omega⟩, fun b off n c h e => by have := rwg_blk HVB.out b off n c h e; exact ⟨by omega, by omega⟩⟩
  have HO : Hid (OwL w.heap.size (fun z => z < w4.heap.size ∧ z ≠ w.heap.size) w4) := hidR ⟨_, hL, fun z hz => by simp [Value.ownBlock] at hz, fun z hz => ⟨hz.1, hz.2, by simp [Value.ownBlock]⟩⟩
  have HI : Hid (JnI fq w.heap.size [] w4) := hidR ⟨_, hL, hLf, World.ownsRow_nil _ _ _ _, fun z hz => by simp [Value.ownBlock] at hz⟩
  have hs4 : w.heap.size ≤ w4.heap.size := by omega
  have hla : la.length ≤ 1000000000 := by omega
  have hlb : lb.length ≤ 1000000000 := by omega
  have HAL : Hid ((al la lb).length ≤ 1000000000) := hidR (Nat.le_trans (al_len _ la lb (Nat.le_refl _)) hll)
  clear c0 c1 c2 c3 hL hLf hw4 s1 hll
  go_wp2_with fail
  refine (wpIn_wide (n := 5)).1 ?_
  refine wpIn_rangeFunc_ownH (n := 5) rfl (by decide) (gf := 70) (lb := #[.pointer (some ⟨w.heap.size + 1, 0, none⟩), .pointer (some ⟨w.heap.size + 1 + 1, 0, none⟩), .pointer (some ⟨w.heap.size + 1 + 2, 0, none⟩)]) rfl trivial (enters_of Tryz.func70 (by kernel_rfl) rfl)
    (aloni_stops (5 - 1) (w.heap.size + 1) (w.heap.size + 1 + 1) (w.heap.size + 1 + 2) w.heap.size fid _ fq HQ.out HG.out _ _ _ _ hla hlb w4 HZ.out HO.out HM.out) (fun h k => h.trans k) (fun W l o o' h1 h2 h3 h4 => kl_put (w := w4) W l o o' h1 h2 h3 h4) (Below.refl _ _) (fun _ => rfl)
    (fun pre W => JnI fq w.heap.size pre W ∧ Below w.heap.size w W)
    (fun _ _ _ => False)
    (OwnFrom.and (Own.from (jnI_own fq w.heap.size) _) (ownFrom_below (Nat.le_refl _) hs4))
    (fun c s A B row h _ _ => h)
    ⟨HI.out, HB4.out⟩
    (fun x a' W => ∃ Bx, AtS W Bx x.1.1 x.1.2 ∧ a' = { tmps := #[.slice ao la.length ca, .slice bo lb.length cb, .func (.func fid) #[] #[], undef, undef, undef, .slice none 0 0, .pointer (some ⟨w.heap.size, 0, none⟩), .pointer (some ⟨Bx, 0, none⟩), .int .i64 (fq x.2.1 x.2.2), .slice ao la.length ca, .slice bo lb.length cb, .func (.func fid) #[] #[], .func (.func 70) #[] #[.pointer (some ⟨w.heap.size + 1, 0, none⟩), .pointer (some ⟨w.heap.size + 1 + 1, 0, none⟩), .pointer (some ⟨w.heap.size + 1 + 2, 0, none⟩)], .agg #[.int .u64 (hI x.1.1), .int .u64 (lI x.1.1), .int .u64 (hI x.1.2), .int .u64 (lI x.1.2)], .int .i64 (fq x.2.1 x.2.2), undef, undef, undef, undef, undef, undef, undef, undef, undef], defers := [] })
    (fun x a' s A B row hs hg hr => by
      obtain ⟨Bx, ⟨k0, k1, k2, k3⟩, h3⟩ := hs
      have hr' : ∀ r, row = some r → ∃ o : Obj, A.heap[r]? = some o ∧ o.isCells = false := fun r e => (hr r e).2
      exact ⟨Bx, ⟨cell_kept k0 hg hr', cell_kept k1 hg hr', cell_kept k2 hg hr', cell_kept k3 hg hr'⟩, h3⟩) ?assign ?body ?done ?stop
  case assign =>
    rintro lo pre x W K hI0 hK
    obtain ⟨hJ, hB⟩ := hI0
    have bq := bl1 W (.cells #[.int .u64 (hI x.1.1), .int .u64 (lI x.1.1), .int .u64 (hI x.1.2), .int .u64 (lI x.1.2)] 83)
    have HK := hidR (hK { tmps := #[.slice ao la.length ca, .slice bo lb.length cb, .func (.func fid) #[] #[], undef, undef, undef, .slice none 0 0, .pointer (some ⟨w.heap.size, 0, none⟩), .pointer (some ⟨W.heap.size, 0, none⟩), .int .i64 (fq x.2.1 x.2.2), .slice ao la.length ca, .slice bo lb.length cb, .func (.func fid) #[] #[], .func (.func 70) #[] #[.pointer (some ⟨w.heap.size + 1, 0, none⟩), .pointer (some ⟨w.heap.size + 1 + 1, 0, none⟩), .pointer (some ⟨w.heap.size + 1 + 2, 0, none⟩)], .agg #[.int .u64 (hI x.1.1), .int .u64 (lI x.1.1), .int .u64 (hI x.1.2), .int .u64 (lI x.1.2)], .int .i64 (fq x.2.1 x.2.2), undef, undef, undef, undef, undef, undef, undef, undef, undef], defers := [] } (W.alloc (.cells #[.int .u64 (hI x.1.1), .int .u64 (lI x.1.1), .int .u64 (hI x.1.2), .int .u64 (lI x.1.2)] 83)) ((KeepsOthers.alloc _ _).from _) (kl_below bq) ⟨jnI_own fq _ _ _ _ none hJ (below_grown bq) (fun r e => by cases e), keepb bq hB⟩ ⟨W.heap.size, (aty_new W W.heap.size x.1.1 x.1.2 83 rfl).1, rfl⟩)
    clear hK hJ hB bq
    unfold encI
    simp only [List.zip_toArray, List.zip_cons_cons, List.zip_nil_left, List.zip_nil_right, List.foldl_toArray, List.foldl_cons, List.foldl_nil, List.setIfInBounds_toArray, List.set_cons_zero, List.set_cons_succ, Array.zip]
    gi_wp2
    exact HK.out
  case body =>
    rintro lo pre x a' W hl ⟨r, hr⟩ ⟨⟨v, h1, h2, h3, h4⟩, hB⟩ ⟨Bx, hS, rfl⟩ hlt
    obtain ⟨s0, s1, s2', s3⟩ := hS
    have K1 := behind_any w.heap.size v (foldJ fq pre) x.1.1 x.1.2 (fq x.2.1 x.2.2) W h3 hB.size (Nat.le_trans (foldJ_len _ _) (Nat.le_trans (Nat.le_of_lt hlt) HAL.out))
    have HS := hidR (fun v' w' => jn_step (w0 := w) (x := x) (v' := v') (w' := w') h1 h2 h3 h4)
    have HB := hidR hB
    obtain ⟨vo, vc, rfl⟩ := own_form h3
    clear h3 h4 hB HVA HVB HQ HG HM HZ HO HI HAL HB4
    gi_wp2_with (refine ⟨trivial, ?_⟩; gi_at_call 42; refine (CallsIn.inRound lo (callsIn_wide.2 K1)).mono ?_; rintro e w5 ⟨v', rfl, hO⟩; obtain ⟨⟨q1, q2⟩, q3, q4, q5, q6⟩ := HS.out v' w5 hO; obtain ⟨ao', c', rfl⟩ := own_form hO.1; clear hO K1 h1 h2)
    exact ⟨q3.from _, q4, q5, q6 HB.out⟩
  case done =>
    rintro D ys W hD rfl ⟨⟨v, h1, h2, h3, h4⟩, hB⟩ hK
    have HJ : Hid (W.ownsRow w.heap.size 47 5 v (jnd fq la lb).length (rowG (jnd fq la lb))) := hidR (by unfold jnd; rw [List.length_reverse]; exact h3)
    obtain ⟨vo, vc, rfl⟩ := own_form h3
    have HH := hidR h3
    clear h3 h4
    refine wl_nil (P := Tryz.prog) (ops := #[]) ?_
    go_wp2
    refine ⟨by simp, .inl ⟨_, _, rfl, run_takeDeferred hK, ?_⟩⟩
    refine ⟨_, results_tmp rfl _ _ _, _, rfl, own_heap HJ.out (fun z hz => ?_), hB.trans (belowK_b (w := w) (Nat.le_refl _) _ D _ _ (Nat.le_trans hs4 hD) hK rfl rfl)⟩
    obtain ⟨o, h5, h6⟩ := own_cells6 HJ.out z hz
    exact grownBy_keeps_cells (grownBy_putObj' _ D (.deferred none)) (fun r e => by cases e; exact ⟨_, hK, rfl⟩) h5 h6
  case stop =>
    rintro D c pre W hD hpre h hK
    exact h.elim
end Go.Proofs.YtonagfmkplbooaaGreatDoor
