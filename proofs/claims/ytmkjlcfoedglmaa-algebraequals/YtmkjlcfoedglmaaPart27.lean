/-
  Part 27 of the proof: 3 texts, one behind the other.
-/
import Derived.Test.YtmkjlcfoedglmaaPart26
import Derived.Test.YtmkjlcfoedglmaaPart12
import Derived.Test.YtmkjlcfoedglmaaPart25
import Derived.Test.YtmkjlcfoedglmaaRows
import Derived.ProofKit
import Derived.Lib.SmallJoins
/-
  What the calls of turnpikeref6's two, Unlike and Equal do.
-/
namespace Go.Proofs.Ytmkjlcfoedglmaa
open Go.RowKit
set_option linter.unusedSimpArgs false
set_option linter.unusedVariables false

theorem gh_same3 {x y : Array Value} {d d2 d3 s : Nat} (h : ((x.toList.set d undef).set d2 undef).set d3 undef = ((y.toList.set d undef).set d2 undef).set d3 undef) (hs : s ≠ d) (hs2 : s ≠ d2) (hs3 : s ≠ d3) : x[s]? = y[s]? := by
  have := congrArg (fun z => z[s]?) h
  simp only [List.getElem?_set_ne (Ne.symm hs3), List.getElem?_set_ne (Ne.symm hs2), List.getElem?_set_ne (Ne.symm hs)] at this
  simpa using this
set_option maxHeartbeats 8000000 in
theorem rtwo_any (F : Int) (v : Value) (l : List Rte) (G : Int) (u : Value) (m : List Rte) (w : World) (hv : RwR w v l) (hu : RwR w u m) :
    Calls Try.prog 24 #[.agg #[.int .i64 F, v], .agg #[.int .i64 G, u]] w fun e w' => (∃ z, TwoE F l G m z ∧ e = .returned (.int .i64 z)) ∧ Below w.heap.size w w' := by
  have q1 := bl1 w (.cells #[.int .i64 F, v] 24)
  have q2 := bl1 (w.alloc (.cells #[.int .i64 F, v] 24)) (.cells #[.int .i64 G, u] 24)
  have HT := hidR ((att_new w w.heap.size F v 24 rfl).below q2)
  have HU := hidR (att_new (w.alloc (.cells #[.int .i64 F, v] 24)) (w.heap.size + 1) G u 24 (by simp))
  have HB := hidR (keepb q2 q1)
  have HV2 := hidR hu
  have K1 := rcheckT_any F v l _ (hv.below (keepb q2 q1))
  obtain ⟨ao, c, rfl, -⟩ := hv
  obtain ⟨bo, d, rfl, -⟩ := hu
  obtain ⟨t0, t1⟩ := HT.out
  obtain ⟨y0, y1⟩ := HU.out
  clear q1 q2
  go_enter Try.func24, Try.ntmps24
  go_wp2_with fail
  refine K1.mono ?_
  rintro e w1 ⟨⟨z, hz, rfl⟩, hb⟩
  have HB1 := hidR (keepb hb HB.out)
  have HT1 := hidR (HT.out.below hb)
  have HU1 := hidR (HU.out.below hb)
  have HZ := hidR hz
  clear K1 hb HB HT HU t0 t1 y0 y1 hz
  obtain ⟨t0, t1⟩ := HT1.out
  obtain ⟨y0, y1⟩ := HU1.out
  by_cases h0 : z = 0
  · subst h0
    have K2 := rcheckT_any G (.slice bo m.length d) m w1 (HV2.out.below HB1.out)
    go_wp2_with fail
    refine K2.mono ?_
    rintro e w2 ⟨⟨y, hy, rfl⟩, hb⟩
    have HB2 := hidR (keepb hb HB1.out)
    have HT2 := hidR (HT1.out.below hb)
    have HU2 := hidR (HU1.out.below hb)
    have HY := hidR hy
    clear K2 hb HT1 HU1 t0 t1 y0 y1 hy HB1
    obtain ⟨t0, t1⟩ := HT2.out
    obtain ⟨y0, y1⟩ := HU2.out
    by_cases h1 : y = 0
    · subst h1
      by_cases hFG : F = G
      · have dn : (F != G) = false := by simpa using hFG
        have HE : Hid (TwoE F l G m 0) := hidR ⟨0, HZ.out, .inr ⟨rfl, 0, HY.out, .inr ⟨rfl, .inr ⟨hFG, rfl⟩⟩⟩⟩
        clear hFG
        go_wp2
        go_ret
        exact ⟨⟨0, HE.out, rfl⟩, HB2.out⟩
      · have dn : (F != G) = true := by simpa using hFG
        have HE : Hid (TwoE F l G m 3) := hidR ⟨0, HZ.out, .inr ⟨rfl, 0, HY.out, .inr ⟨rfl, .inl ⟨hFG, rfl⟩⟩⟩⟩
        clear hFG
        go_wp2
        go_ret
        exact ⟨⟨3, HE.out, rfl⟩, HB2.out⟩
    · have hn : (y == 0) = false := by simpa using h1
      have HE : Hid (TwoE F l G m y) := hidR ⟨0, HZ.out, .inr ⟨rfl, y, HY.out, .inl ⟨h1, rfl⟩⟩⟩
      clear h1
      go_wp2
      go_ret
      exact ⟨⟨y, HE.out, rfl⟩, HB2.out⟩
  · have hn : (z == 0) = false := by simpa using h0
    have HE : Hid (TwoE F l G m z) := hidR ⟨z, HZ.out, .inl ⟨h0, rfl⟩⟩
    clear h0
    go_wp2
    go_ret
    exact ⟨⟨z, HE.out, rfl⟩, HB1.out⟩
/-- What is known while the edges of both tables are told. -/
structure RU (w1 : World) (F : Int) (v u : Value) (T0 : Nat) (l m : List Rte) (f1 f3 f4 : Bool) (g : Value × Value) (W : World) : Prop where
  bel : Below w1.heap.size w1 W
  one : f1 = true → f3 = false → ∃ E1, EdS F [] l E1 ∧ W.ownsRow w1.heap.size 40 2 g.1 E1.length (rowW E1)
  two : f3 = true → ∃ E1 E2, EdS F [] l E1 ∧ EdS F E1 m E2 ∧ W.ownsRow w1.heap.size 40 2 g.2 E2.length (rowW E2)
  c3 : f3 = true → f1 = true
  c4 : f4 = true → f3 = true
def UC (w wr : World) (F : Int) (v u : Value) (ga o : Nat) (ex : BitVec 128) (W : World) : Prop := AtT W w.heap.size F v ∧ AtT W (w.heap.size + 1) F u ∧ (W.cell? ⟨ga, o, none⟩ = some (.int .u64 (hI ex)) ∧ W.cell? ⟨ga, o + 1, none⟩ = some (.int .u64 (lI ex))) ∧ Below w.heap.size w W ∧ Below wr.heap.size wr W
theorem UC.below {w wr : World} {F : Int} {v u : Value} {ga o : Nat} {ex : BitVec 128} {W W' : World} (k : UC w wr F v u ga o ex W) (hb : Below W.heap.size W W') : UC w wr F v u ga o ex W' := ⟨k.1.below hb, k.2.1.below hb, ⟨keepc hb k.2.2.1.1, keepc hb k.2.2.1.2⟩, keepb hb k.2.2.2.1, keepb hb k.2.2.2.2⟩
/-- The first edge of both at which they don't lead alike. -/
theorem two_unl (F : Int) (hf : fam F = true) (l m : List Rte) (hL : ∀ r ∈ l, Ro F r) (hM : ∀ r ∈ m, Ro F r) (E1 E : List (BitVec 128)) (h1 : EdS F [] l E1) (h2 : EdS F E1 m E) : Unl F (fun x => look x 0 l) (fun x => look x 0 m) (E.find? (fun e => look e 0 l != look e 0 m)) := by
  have r1 := eds_right hf hL (fun y hy => by cases hy) h1
  have e1 : Ends F E l := fun r hr => by
    obtain ⟨a, b⟩ := eds_ends h1 r hr
    exact ⟨(h2.2.1 _).mpr (.inl a), fun q => (h2.2.1 _).mpr (.inl (b q))⟩
  exact edge_unl F _ _ E h2.1 (eds_zero_mem h2) (eds_right hf hM r1 h2) (look_flat F hf E l e1 hL) (look_flat F hf E m (eds_ends h2) hM)
set_option maxRecDepth 20000 in
set_option maxHeartbeats 16000000 in
theorem runlike_any (F : Int) (v : Value) (l : List Rte) (G : Int) (u : Value) (m : List Rte) (w : World) (hv : RwR w v l) (hu : RwR w u m) :
    Calls Try.prog 14 #[.agg #[.int .i64 F, v], .agg #[.int .i64 G, u]] w fun e w' => (∃ z o, TwoE F l G m z ∧ (z = 0 → Unl F (fun x => look x 0 l) (fun x => look x 0 m) o) ∧ (z ≠ 0 → o = none) ∧ e = .returned (.tuple #[.agg #[.int .u64 (hI (o.getD 0#128)), .int .u64 (lI (o.getD 0#128))], .bool o.isSome, .int .i64 z])) ∧ Below w.heap.size w w' := by
  have q1 := bl1 w (.cells #[.int .i64 F, v] 24)
  have q2 := bl1 (w.alloc (.cells #[.int .i64 F, v] 24)) (.cells #[.int .i64 G, u] 24)
  have q3 := bl1 ((w.alloc (.cells #[.int .i64 F, v] 24)).alloc (.cells #[.int .i64 G, u] 24)) (.cells #[.int .u64 0, .int .u64 0] 40)
  have HT := hidR (((att_new w w.heap.size F v 24 rfl).below q2).below q3)
  have HU := hidR ((att_new (w.alloc (.cells #[.int .i64 F, v] 24)) (w.heap.size + 1) G u 24 (by simp)).below q3)
  have HR := hidR (at_new ((w.alloc (.cells #[.int .i64 F, v] 24)).alloc (.cells #[.int .i64 G, u] 24)) (w.heap.size + 2) 0#128 40 (by simp))
  rw [hI_zero, lI_zero] at HR
  have HB := hidR (keepb q3 (keepb q2 q1))
  have HV := hidR (And.intro hv hu)
  have K1 := rtwo_any F v l G u m _ (hv.below HB.out) (hu.below HB.out)
  obtain ⟨ao, c, rfl, -⟩ := hv
  obtain ⟨bo, d, rfl, -⟩ := hu
  obtain ⟨t0, t1⟩ := HT.out
  obtain ⟨y0, y1⟩ := HU.out
  clear q1 q2 q3
  go_enter Try.func14, Try.ntmps14
  go_wp2_with fail
  refine K1.mono ?_
  rintro e w1 ⟨⟨z, hz, rfl⟩, hb⟩
  have HB1 := hidR (keepb hb HB.out)
  have HT1 := hidR (HT.out.below hb)
  have HU1 := hidR (HU.out.below hb)
  have HR1 := hidR (HR.out.below hb)
  have HTW := hidR hz
  clear K1 hb HB HT HU HR t0 t1 y0 y1 hz
  by_cases h0 : z = 0
  · subst h0
    obtain ⟨z1, z2, hFG⟩ := twoE_zero HTW.out
    subst hFG
    obtain ⟨hf, n1, hL, hO⟩ := tab_ok z1
    obtain ⟨-, n2, hM, hO2⟩ := tab_ok z2
    have HOK := hidR (And.intro hf (And.intro hL (And.intro hO (And.intro hM hO2))))
    have HC : Hid (∀ W, Below w1.heap.size w1 W → AtT W w.heap.size F (.slice ao l.length c) ∧ AtT W (w.heap.size + 1) F (.slice bo m.length d)) := hidR (fun W hb => ⟨HT1.out.below hb, HU1.out.below hb⟩)
    have HE1 : Hid (∀ W, Below w1.heap.size w1 W → Calls Try.prog 18 #[.slice none 0 0, .agg #[.int .i64 F, .slice ao l.length c]] W fun e w' => ∃ v' T, e = .returned v' ∧ EdS F [] l T ∧ PtO W.heap.size (.slice none 0 0) T W v' w' ∧ Below W.heap.size W w') := hidR (fun W hb => redges_any W F _ l (.slice none 0 0) [] W (Below.refl _ _) (HV.out.1.below (keepb hb HB1.out)) (World.ownsRow_nil _ _ _ _) List.Pairwise.nil (by simp; omega) (fun r hr => (hL r hr).1))
    have HE2 : Hid (∀ W, Below w1.heap.size w1 W → ∀ (g : Value) (E1 : List (BitVec 128)), EdS F [] l E1 → W.ownsRow w1.heap.size 40 2 g E1.length (rowW E1) → Calls Try.prog 18 #[g, .agg #[.int .i64 F, .slice bo m.length d]] W fun e w' => ∃ v' T, e = .returned v' ∧ EdS F E1 m T ∧ PtO w1.heap.size g T W v' w' ∧ Below w1.heap.size w1 w') := hidR (fun W hb g E1 h1 h2 => redges_any w1 F _ m g E1 W hb (HV.out.2.below HB1.out) h2 h1.1 (by have := h1.2.2; simp at this; omega) (fun r hr => (hM r hr).1))
    have HUN : Hid (∀ E1 E, EdS F [] l E1 → EdS F E1 m E → Unl F (fun x => look x 0 l) (fun x => look x 0 m) (E.find? (fun e => look e 0 l != look e 0 m))) := hidR (fun E1 E h1 h2 => two_unl F hf l m hL hM E1 E h1 h2)
    clear z1 z2 hf hL hO hM hO2
    go_wp2_with fail
    refine gh_region (γ := Value × Value) (qpOk 5 5 (by decide) (fun N => by kernel_rfl) (by kernel_rfl) (by kernel_rfl) (by kernel_rfl) (by kernel_rfl)) (by kernel_rfl) (by kernel_rfl) [some 17, some 18, some 19, some 20, some 8] (fun g => [.agg #[.int .i64 F, .slice ao l.length c], g.1, .agg #[.int .i64 F, .slice bo m.length d], g.2, g.2]) (by kernel_rfl) (by simp) (fun lp g W => RU w1 F (.slice ao l.length c) (.slice bo m.length d) w.heap.size l m (lp.getD 1 false) (lp.getD 3 false) (lp.getD 4 false) g W) (undef, undef) ⟨below_drewN (Below.refl _ _) 1, fun h => (by simp at h), fun h => (by simp at h), fun h => (by simp at h), fun h => (by simp at h)⟩ ?step ?fin
    case step =>
      intro q o lp g w' a' ho hsz hun hdep hR hS K Q' hK
      have hfl : ∀ j, j ≠ q → (lp.setIfInBounds q true).getD j false = lp.getD j false := fun j hj => by rw [Array.getD_eq_getD_getElem?, Array.getD_eq_getD_getElem?, Array.getElem?_setIfInBounds_ne (by omega)]
      have hq : q < 5 := (List.getElem?_eq_some_iff.mp ho).1
      obtain ⟨⟨t0, t1⟩, ⟨y0, y1⟩⟩ := HC.out w' hR.bel
      match q, ho, hun, hdep, hK, hfl, hq with
      | 0, ho, hun, hdep, hK, hfl, _ =>
        obtain rfl := Option.some.inj ho
        have o2 : a'.tmps[2]? = some (.pointer (some ⟨w.heap.size, 0, none⟩)) := (hS.old 2 (by simp)).trans rfl
        have hK' := hK g w' (fun _ _ _ _ _ _ => rfl) (by rw [hfl 1 (by decide), hfl 3 (by decide), hfl 4 (by decide)]; exact hR) (.agg #[.int .i64 F, .slice ao l.length c]) (by simp only [valO, Option.bind_some]; simp only [putAll, Act.put, List.setIfInBounds_toArray, List.set_cons_zero, List.set_cons_succ]; rfl)
        clear hS hdep hR
        refine gh_quiet (v := .agg #[.int .i64 F, .slice ao l.length c]) ?_ ?_
        · (simp only [execOp, Act.eval, o2]; go_simp; first | done | (simp; done) | (simp [*]; done))
        · exact hK'
      | 2, ho, hun, hdep, hK, hfl, _ =>
        obtain rfl := Option.some.inj ho
        have o3 : a'.tmps[3]? = some (.pointer (some ⟨w.heap.size + 1, 0, none⟩)) := (hS.old 3 (by simp)).trans rfl
        have hK' := hK g w' (fun _ _ _ _ _ _ => rfl) (by rw [hfl 1 (by decide), hfl 3 (by decide), hfl 4 (by decide)]; exact hR) (.agg #[.int .i64 F, .slice bo m.length d]) (by simp only [valO, Option.bind_some]; simp only [putAll, Act.put, List.setIfInBounds_toArray, List.set_cons_zero, List.set_cons_succ]; rfl)
        clear hS hdep hR
        refine gh_quiet (v := .agg #[.int .i64 F, .slice bo m.length d]) ?_ ?_
        · (simp only [execOp, Act.eval, o3]; go_simp; first | done | (simp; done) | (simp [*]; done))
        · exact hK'
      | 1, ho, hun, hdep, hK, hfl, _ =>
        obtain rfl := Option.some.inj ho
        have d0 : lp.getD 0 false = true := hdep { on := 0, ground := .data } (by simp) rfl
        have e17 : a'.tmps[17]? = some (.agg #[.int .i64 F, .slice ao l.length c]) := (hS.don 0 _ 17 rfl d0 rfl).trans (by simp only [putAll, Act.put, List.setIfInBounds_toArray, List.set_cons_zero, List.set_cons_succ]; rfl)
        have h3 : lp.getD 3 false = false := by
          cases h : lp.getD 3 false with
          | false => rfl
          | true => have := hR.c3 h; rw [hun] at this; cases this
        have h4 : lp.getD 4 false = false := by
          cases h : lp.getD 4 false with
          | false => rfl
          | true => have := hR.c4 h; rw [h3] at this; cases this
        have KE := HE1.out w' hR.bel
        clear hdep
        unfold Oper.wp
        simp only [execOp, Act.eval, e17]
        simp [go_sem, e17, Oper.upon]
        refine KE.mono ?_
        rintro e W2 ⟨v', T, rfl, hT, ho2, hb2⟩
        refine hK (v', g.2) W2 (fun k ok s hk hl hd => ?_) (by rw [hfl 3 (by decide), hfl 4 (by decide), getD_set_same (by rw [hsz]; decide), h3, h4]; exact ⟨keepb hb2 hR.bel, fun _ _ => ⟨T, hT, own_wide ho2.1 hR.bel.size⟩, fun h => (by cases h), fun h => (by cases h), fun h => (by cases h)⟩) _ (by simp only [valO, Option.bind_some]; simp only [putAll, Act.put, List.setIfInBounds_toArray, List.set_cons_zero, List.set_cons_succ]; rfl)
        refine gh_same3 (d := 18) (d2 := 20) (d3 := 8) (by simp only [putAll, Act.put, List.setIfInBounds_toArray, List.set_cons_zero, List.set_cons_succ]; try rfl) ?_ ?_ ?_
        · rintro rfl
          have := dstG_of (by kernel_rfl) k 1 ok _ 18 hk rfl hd rfl
          subst this
          rw [hun] at hl
          cases hl
        · rintro rfl
          have := dstG_of (by kernel_rfl) k 3 ok _ 20 hk rfl hd rfl
          subst this
          rw [h3] at hl
          cases hl
        · rintro rfl
          have := dstG_of (by kernel_rfl) k 4 ok _ 8 hk rfl hd rfl
          subst this
          rw [h4] at hl
          cases hl
      | 3, ho, hun, hdep, hK, hfl, _ =>
        obtain rfl := Option.some.inj ho
        have d1 : lp.getD 1 false = true := hdep { on := 1, ground := .data } (by simp) rfl
        have d2 : lp.getD 2 false = true := hdep { on := 2, ground := .data } (by simp) rfl
        have e18 : a'.tmps[18]? = some (g.1) := (hS.don 1 _ 18 rfl d1 rfl).trans (by simp only [putAll, Act.put, List.setIfInBounds_toArray, List.set_cons_zero, List.set_cons_succ]; rfl)
        have e19 : a'.tmps[19]? = some (.agg #[.int .i64 F, .slice bo m.length d]) := (hS.don 2 _ 19 rfl d2 rfl).trans (by simp only [putAll, Act.put, List.setIfInBounds_toArray, List.set_cons_zero, List.set_cons_succ]; rfl)
        have h4 : lp.getD 4 false = false := by
          cases h : lp.getD 4 false with
          | false => rfl
          | true => have := hR.c4 h; rw [hun] at this; cases this
        obtain ⟨E1, hE1, ho1⟩ := hR.one d1 hun
        have KE := HE2.out w' hR.bel g.1 E1 hE1 ho1
        clear hdep
        unfold Oper.wp
        simp only [execOp, Act.eval, e18, e19]
        simp [go_sem, e18, e19, Oper.upon]
        refine KE.mono ?_
        rintro e W2 ⟨v', T, rfl, hT, ho2, hb2⟩
        refine hK (g.1, v') W2 (fun k ok s hk hl hd => ?_) (by rw [hfl 1 (by decide), hfl 4 (by decide), getD_set_same (by rw [hsz]; decide), h4]; exact ⟨hb2, fun _ h => (by cases h), fun _ => ⟨E1, T, hE1, hT, ho2.1⟩, fun _ => d1, fun h => (by cases h)⟩) _ (by simp only [valO, Option.bind_some]; simp only [putAll, Act.put, List.setIfInBounds_toArray, List.set_cons_zero, List.set_cons_succ]; rfl)
        refine gh_same2 (d := 20) (d2 := 8) (by simp only [putAll, Act.put, List.setIfInBounds_toArray, List.set_cons_zero, List.set_cons_succ]; try rfl) ?_ ?_
        · rintro rfl
          have := dstG_of (by kernel_rfl) k 3 ok _ 20 hk rfl hd rfl
          subst this
          rw [hun] at hl
          cases hl
        · rintro rfl
          have := dstG_of (by kernel_rfl) k 4 ok _ 8 hk rfl hd rfl
          subst this
          rw [h4] at hl
          cases hl
      | 4, ho, hun, hdep, hK, hfl, _ =>
        obtain rfl := Option.some.inj ho
        have d3 : lp.getD 3 false = true := hdep { on := 3, ground := .data } (by simp) rfl
        have e20 : a'.tmps[20]? = some (g.2) := (hS.don 3 _ 20 rfl d3 rfl).trans (by simp only [putAll, Act.put, List.setIfInBounds_toArray, List.set_cons_zero, List.set_cons_succ]; rfl)
        have hK' := hK g w' (fun _ _ _ _ _ _ => rfl) (by rw [hfl 1 (by decide), hfl 3 (by decide), getD_set_same (by rw [hsz]; decide)]; exact ⟨hR.bel, hR.one, hR.two, hR.c3, fun _ => d3⟩) (g.2) (by simp only [valO, Option.bind_some]; simp only [putAll, Act.put, List.setIfInBounds_toArray, List.set_cons_zero, List.set_cons_succ]; rfl)
        clear hS hdep hR
        refine gh_quiet (v := g.2) ?_ ?_
        · (simp only [execOp, Act.eval, e20]; go_simp; first | done | (simp; done) | (simp [*]; done))
        · exact hK'
      | n + 5, ho, hun, hdep, hK, hfl, hq => exact absurd hq (by omega)
    case fin =>
      intro g W2 hR
      have hR : RU w1 F (.slice ao l.length c) (.slice bo m.length d) w.heap.size l m true true true g W2 := by simpa using hR
      obtain ⟨g1, va⟩ := g
      obtain ⟨E1, E, hE1, hE, ho⟩ := hR.two rfl
      have HB2 := hidR (keepb hR.bel HB1.out)
      have HD2 := hidR (HC.out W2 hR.bel)
      have HR2 := hidR (HR1.out.below hR.bel)
      simp only [putAll, Act.put, List.setIfInBounds_toArray, List.set_cons_zero, List.set_cons_succ]
      clear hR
      refine wl_nil (P := Try.prog) (ops := #[]) ?_
      have hE0 : E ≠ [] := fun e => by have := eds_zero_mem hE; rw [e] at this; cases this
      have hEp : 0 < E.length := by have : E.length ≠ 0 := fun e => hE0 (List.length_eq_zero_iff.mp e); omega
      obtain ⟨ga, ca, rfl, -, -⟩ := ho.form hEp
      have hEl : E.length ≤ 10000000 := by have h1 := hE.2.2; have h2 := hE1.2.2; simp at h2; omega
      have HE := hidR hE
      have HE1' := hidR hE1
      have HO := hidR ho
      obtain ⟨fo, hfo⟩ : ∃ fo, fo = E.find? (fun e => look e 0 l != look e 0 m) := ⟨_, rfl⟩
      have HFO := hidR hfo
      clear ho hE hE1 hE0 hfo HE1 HE2
      go_wp2_with fail
      go_loopw [9] (fun i wr => ∃ k : Nat, k ≤ E.length ∧ i = .int .i64 k ∧ Hid ((E.drop k).find? (fun e => look e 0 l != look e 0 m) = fo) ∧ Hid (AtT wr w.heap.size F (.slice ao l.length c) ∧ AtT wr (w.heap.size + 1) F (.slice bo m.length d)) ∧ Hid (wr.ownsRow w1.heap.size 40 2 (.slice (some ⟨ga, 0, none⟩) E.length ca) E.length (rowW E)) ∧ Hid (At wr (w.heap.size + 2) 0#128) ∧ Hid (Below w.heap.size w wr)) (fun i _ => E.length - (intOf i).toNat)
      case atStart => exact ⟨0, by omega, rfl, hidR HFO.out.symm, HD2, HO, HR2, HB2⟩
      case round =>
        clear HB2 HD2 HR2 HO
        obtain ⟨k, hk, rfl, HG, HD, HO, HR, HB⟩ := hrel
        by_cases hlt : (k : Int) < (E.length : Int)
        · have hks : k < E.length := by omega
          have hkw : IntKind.i64.wrap ((k : Int) + 1) = (k : Int) + 1 := by rw [IntKind.wrap_i64]; omega
          have HGD : Hid ((E.drop k).find? (fun e => look e 0 l != look e 0 m) = if (look E[k] 0 l != look E[k] 0 m) = true then some E[k] else (E.drop (k + 1)).find? (fun e => look e 0 l != look e 0 m)) := hidR (by
            rw [List.drop_eq_getElem_cons hks, List.find?_cons]
            cases (look E[k] 0 l != look E[k] 0 m) <;> simp)
          have K1 : Hid (∀ W, Below w.heap.size w W → Calls Try.prog 19 #[.agg #[.int .i64 F, .slice ao l.length c], .agg #[.int .u64 (hI E[k]), .int .u64 (lI E[k])]] W fun e w' => e = .returned (.int .i64 (look E[k] 0 l)) ∧ Below W.heap.size W w') := hidR (fun W hb => by
            have := rlookup_any F E[k] (.slice ao l.length c) l W (HV.out.1.below hb) (by omega) (ro_cells HOK.out.1 HOK.out.2.1)
            rwa [mat_eq_look F E[k] l HOK.out.2.1 HOK.out.2.2.1] at this)
          have K2 : Hid (∀ W, Below w.heap.size w W → Calls Try.prog 19 #[.agg #[.int .i64 F, .slice bo m.length d], .agg #[.int .u64 (hI E[k]), .int .u64 (lI E[k])]] W fun e w' => e = .returned (.int .i64 (look E[k] 0 m)) ∧ Below W.heap.size W w') := hidR (fun W hb => by
            have := rlookup_any F E[k] (.slice bo m.length d) m W (HV.out.2.below hb) (by omega) (ro_cells HOK.out.1 HOK.out.2.2.2.1)
            rwa [mat_eq_look F E[k] m HOK.out.2.2.2.1 HOK.out.2.2.2.2] at this)
          obtain ⟨x0, x1⟩ := ownW_cells HO.out k hks
          have HC4 : Hid (UC w wr F (.slice ao l.length c) (.slice bo m.length d) ga (k * 2) E[k] wr) := hidR ⟨HD.out.1, HD.out.2, ⟨x0, x1⟩, HB.out, Below.refl _ _⟩
          revert HGD K1 K2 HC4
          generalize look E[k] 0 l = fa
          generalize look E[k] 0 m = fb
          generalize E[k] = ex
          intro HGD K1 K2 HC4
          clear x0 x1
          go_wp2_with fail
          refine q_region (C := UC w wr F (.slice ao l.length c) (.slice bo m.length d) ga (k * 2) ex) (by kernel_rfl) (by kernel_rfl) (HC4.out.below (below_drewN (Below.refl _ _) 1)) ?_
          clear HC4
          refine q_run (v := .agg #[.int .i64 F, .slice ao l.length c]) (by rfl) ?_ ?_
          · (intro w1 hC; obtain ⟨⟨t0, t1⟩, ⟨y0, y1⟩, ⟨x0, x1⟩, -, -⟩ := hC; go_simp; first | done | (simp; done) | (simp [*]; done) | omega | (simp; omega) | (rw [IntKind.wrap_i64]; omega) | (intro hx; omega) | rfl)
          simp only [Act.put, List.setIfInBounds_toArray, List.set_cons_zero, List.set_cons_succ]
          refine q_run (v := .slice (some ⟨ga, 0, none⟩) E.length ca) (by rfl) ?_ ?_
          · (intro w1 hC; obtain ⟨⟨t0, t1⟩, ⟨y0, y1⟩, ⟨x0, x1⟩, -, -⟩ := hC; go_simp; first | done | (simp; done) | (simp [*]; done) | omega | (simp; omega) | (rw [IntKind.wrap_i64]; omega) | (intro hx; omega) | rfl)
          simp only [Act.put, List.setIfInBounds_toArray, List.set_cons_zero, List.set_cons_succ]
          refine q_run (v := .int .i64 (k : Int)) (by rfl) ?_ ?_
          · (intro w1 hC; obtain ⟨⟨t0, t1⟩, ⟨y0, y1⟩, ⟨x0, x1⟩, -, -⟩ := hC; go_simp; first | done | (simp; done) | (simp [*]; done) | omega | (simp; omega) | (rw [IntKind.wrap_i64]; omega) | (intro hx; omega) | rfl)
          simp only [Act.put, List.setIfInBounds_toArray, List.set_cons_zero, List.set_cons_succ]
          refine q_run (v := .pointer (some ⟨ga, k * 2, none⟩)) (by rfl) ?_ ?_
          · (intro w1 hC; obtain ⟨⟨t0, t1⟩, ⟨y0, y1⟩, ⟨x0, x1⟩, -, -⟩ := hC; go_simp; first | done | (simp; done) | (simp [*]; done) | omega | (simp; omega) | (rw [IntKind.wrap_i64]; omega) | (intro hx; omega) | rfl)
          simp only [Act.put, List.setIfInBounds_toArray, List.set_cons_zero, List.set_cons_succ]
          refine q_run (v := .agg #[.int .u64 (hI ex), .int .u64 (lI ex)]) (by rfl) ?_ ?_
          · (intro w1 hC; obtain ⟨⟨t0, t1⟩, ⟨y0, y1⟩, ⟨x0, x1⟩, -, -⟩ := hC; go_simp; first | done | (simp; done) | (simp [*]; done) | omega | (simp; omega) | (rw [IntKind.wrap_i64]; omega) | (intro hx; omega) | rfl)
          simp only [Act.put, List.setIfInBounds_toArray, List.set_cons_zero, List.set_cons_succ]
          refine q_call (v := .int .i64 fa) (f := 19) (args := #[.agg #[.int .i64 F, .slice ao l.length c], .agg #[.int .u64 (hI ex), .int .u64 (lI ex)]]) (by rfl) ?_ ?_ ?_
          · (intro w1 hC; clear hC; go_simp)
          · exact fun w1 hC => (K1.out w1 hC.2.2.2.1).mono fun e w' ⟨he, hb⟩ => ⟨he, hC.below hb⟩
          simp only [Act.put, List.setIfInBounds_toArray, List.set_cons_zero, List.set_cons_succ]
          refine q_run (v := .agg #[.int .i64 F, .slice bo m.length d]) (by rfl) ?_ ?_
          · (intro w1 hC; obtain ⟨⟨t0, t1⟩, ⟨y0, y1⟩, ⟨x0, x1⟩, -, -⟩ := hC; go_simp; first | done | (simp; done) | (simp [*]; done) | omega | (simp; omega) | (rw [IntKind.wrap_i64]; omega) | (intro hx; omega) | rfl)
          simp only [Act.put, List.setIfInBounds_toArray, List.set_cons_zero, List.set_cons_succ]
          refine q_run (v := .slice (some ⟨ga, 0, none⟩) E.length ca) (by rfl) ?_ ?_
          · (intro w1 hC; obtain ⟨⟨t0, t1⟩, ⟨y0, y1⟩, ⟨x0, x1⟩, -, -⟩ := hC; go_simp; first | done | (simp; done) | (simp [*]; done) | omega | (simp; omega) | (rw [IntKind.wrap_i64]; omega) | (intro hx; omega) | rfl)
          simp only [Act.put, List.setIfInBounds_toArray, List.set_cons_zero, List.set_cons_succ]
          refine q_run (v := .int .i64 (k : Int)) (by rfl) ?_ ?_
          · (intro w1 hC; obtain ⟨⟨t0, t1⟩, ⟨y0, y1⟩, ⟨x0, x1⟩, -, -⟩ := hC; go_simp; first | done | (simp; done) | (simp [*]; done) | omega | (simp; omega) | (rw [IntKind.wrap_i64]; omega) | (intro hx; omega) | rfl)
          simp only [Act.put, List.setIfInBounds_toArray, List.set_cons_zero, List.set_cons_succ]
          refine q_run (v := .pointer (some ⟨ga, k * 2, none⟩)) (by rfl) ?_ ?_
          · (intro w1 hC; obtain ⟨⟨t0, t1⟩, ⟨y0, y1⟩, ⟨x0, x1⟩, -, -⟩ := hC; go_simp; first | done | (simp; done) | (simp [*]; done) | omega | (simp; omega) | (rw [IntKind.wrap_i64]; omega) | (intro hx; omega) | rfl)
          simp only [Act.put, List.setIfInBounds_toArray, List.set_cons_zero, List.set_cons_succ]
          refine q_run (v := .agg #[.int .u64 (hI ex), .int .u64 (lI ex)]) (by rfl) ?_ ?_
          · (intro w1 hC; obtain ⟨⟨t0, t1⟩, ⟨y0, y1⟩, ⟨x0, x1⟩, -, -⟩ := hC; go_simp; first | done | (simp; done) | (simp [*]; done) | omega | (simp; omega) | (rw [IntKind.wrap_i64]; omega) | (intro hx; omega) | rfl)
          simp only [Act.put, List.setIfInBounds_toArray, List.set_cons_zero, List.set_cons_succ]
          refine q_call (v := .int .i64 fb) (f := 19) (args := #[.agg #[.int .i64 F, .slice bo m.length d], .agg #[.int .u64 (hI ex), .int .u64 (lI ex)]]) (by rfl) ?_ ?_ ?_
          · (intro w1 hC; clear hC; go_simp)
          · exact fun w1 hC => (K2.out w1 hC.2.2.2.1).mono fun e w' ⟨he, hb⟩ => ⟨he, hC.below hb⟩
          simp only [Act.put, List.setIfInBounds_toArray, List.set_cons_zero, List.set_cons_succ]
          refine q_run (v := .bool (fa != fb)) (by rfl) ?_ ?_
          · (intro w1 hC; obtain ⟨⟨t0, t1⟩, ⟨y0, y1⟩, ⟨x0, x1⟩, -, -⟩ := hC; go_simp; first | done | (simp; done) | (simp [*]; done) | omega | (simp; omega) | (rw [IntKind.wrap_i64]; omega) | (intro hx; omega) | rfl)
          simp only [Act.put, List.setIfInBounds_toArray, List.set_cons_zero, List.set_cons_succ]
          refine wpQuiet_nil ?_
          intro W hC
          have HW := hidR hC
          have HOW := hidR (own_below hC.2.2.2.2 HO.out)
          have HRW := hidR (HR.out.below hC.2.2.2.2)
          clear hC HO HR HB HD
          by_cases hne : fa = fb
          · have db : (fa != fb) = false := by simpa using hne
            have HG2 : Hid ((E.drop (k + 1)).find? (fun e => look e 0 l != look e 0 m) = fo) := hidR (by rw [← HG.out, HGD.out, db]; simp)
            clear HG HGD hne
            go_wp2
            go_roundw
            case rel => exact ⟨k + 1, by omega, by go_num, HG2, hidR ⟨HW.out.1, HW.out.2.1⟩, HOW, HRW, hidR HW.out.2.2.2.1⟩
            case measure => simp [intOf]; omega
          · have db : (fa != fb) = true := by simpa using hne
            have HG2 : Hid (fo = some ex) := hidR (by rw [← HG.out, HGD.out, db]; simp)
            obtain ⟨-, -, ⟨x0, x1⟩, -, -⟩ := HW.out
            obtain ⟨r0, r1, r2, r3, -⟩ := HRW.out
            obtain ⟨s0, s1, -⟩ := HRW.out.setE ex
            have HBs := hidR (bset2 (C := w.heap.size + 2) HW.out.2.2.2.1 (by omega) (.int .u64 (hI ex)) (.int .u64 (lI ex)))
            have HU := hidR (HUN.out E1 E HE1'.out HE.out)
            clear HG HGD hne HW HOW HRW
            go_wp2
            exact bodyPost_ret (v := .tuple #[.agg #[.int .u64 (hI ex), .int .u64 (lI ex)], .bool true, .int .i64 0]) (by simp [results, Try.results14, go_sem, s0, s1]) rfl ⟨⟨0, some ex, HTW.out, fun _ => by have := HU.out; rw [← HFO.out, HG2.out] at this; exact this, fun h => absurd rfl h, rfl⟩, HBs.out⟩
        · have hd : ¬ k < E.length := by omega
          have HG2 : Hid (fo = none) := hidR (by rw [← HG.out, List.drop_eq_nil_of_le (by omega)]; rfl)
          obtain ⟨r0, r1, r2, r3, -⟩ := HR.out
          obtain ⟨s0, s1, -⟩ := HR.out.setE 0#128
          have HBs := hidR (bset2 (C := w.heap.size + 2) HB.out (by omega) (.int .u64 (hI 0#128)) (.int .u64 (lI 0#128)))
          have HU := hidR (HUN.out E1 E HE1'.out HE.out)
          simp only [hI_zero, lI_zero] at s0 s1 HBs r0 r1
          have HUF : Hid ((0 : Int) = 0 → Unl F (fun x => look x 0 l) (fun x => look x 0 m) none) := hidR (fun _ => by have := HU.out; rw [← HFO.out, HG2.out] at this; exact this)
          have HZZ : Hid (Ending.returned (.tuple #[.agg #[.int .u64 0, .int .u64 0], .bool false, .int .i64 0]) = .returned (.tuple #[.agg #[.int .u64 (hI ((none : Option (BitVec 128)).getD 0#128)), .int .u64 (lI ((none : Option (BitVec 128)).getD 0#128))], .bool (none : Option (BitVec 128)).isSome, .int .i64 0])) := hidR (by simp [hI_zero, lI_zero])
          clear HG HD HO HR HB
          go_wp2
          exact bodyPost_ret (v := .tuple #[.agg #[.int .u64 0, .int .u64 0], .bool false, .int .i64 0]) (by simp [results, Try.results14, go_sem, s0, s1]) rfl (by first | exact ⟨⟨0, none, HTW.out, HUF.out, fun h => absurd rfl h, HZZ.out⟩, HBs.out⟩ | exact ⟨⟨0, HTW.out, none, HUF.out, fun h => absurd rfl h, HZZ.out⟩, HBs.out⟩ | (refine ⟨⟨0, ?_⟩, HBs.out⟩; simp; exact ⟨HTW.out, by first | exact HUF.out rfl | exact HUF.out (by simp), hI_zero.symm, lI_zero.symm⟩))
  · have hn : (z != 0) = true := by simpa using h0
    have HN := hidR h0
    obtain ⟨r0, r1, r2, r3, -⟩ := HR1.out
    obtain ⟨s0, s1, -⟩ := HR1.out.setE 0#128
    have HBs := hidR (bset2 (C := w.heap.size + 2) HB1.out (by omega) (.int .u64 (hI 0#128)) (.int .u64 (lI 0#128)))
    simp only [hI_zero, lI_zero] at s0 s1 HBs r0 r1
    clear h0
    go_wp2
    exact bodyPost_ret (v := .tuple #[.agg #[.int .u64 0, .int .u64 0], .bool false, .int .i64 z]) (by simp [results, Try.results14, go_sem, s0, s1]) rfl ⟨⟨z, none, HTW.out, fun h => absurd h HN.out, fun _ => rfl, by simp [hI_zero, lI_zero]⟩, HBs.out⟩
set_option maxHeartbeats 4000000 in
theorem requal_any (F : Int) (v : Value) (l : List Rte) (G : Int) (u : Value) (m : List Rte) (w : World) (hv : RwR w v l) (hu : RwR w u m) :
    Calls Try.prog 13 #[.agg #[.int .i64 F, v], .agg #[.int .i64 G, u]] w fun e w' => (∃ z o, TwoE F l G m z ∧ (z = 0 → Unl F (fun x => look x 0 l) (fun x => look x 0 m) o) ∧ (z ≠ 0 → o = none) ∧ e = .returned (.tuple #[.bool (decide (z = 0) && !o.isSome), .int .i64 z])) ∧ Below w.heap.size w w' := by
  have q1 := bl1 w (.cells #[.int .i64 F, v] 24)
  have q2 := bl1 (w.alloc (.cells #[.int .i64 F, v] 24)) (.cells #[.int .i64 G, u] 24)
  obtain ⟨t0, t1⟩ := (att_new w w.heap.size F v 24 rfl).below q2
  obtain ⟨y0, y1⟩ := att_new (w.alloc (.cells #[.int .i64 F, v] 24)) (w.heap.size + 1) G u 24 (by simp)
  have HB := hidR (keepb q2 q1)
  have KU := runlike_any F v l G u m _ (hv.below HB.out) (hu.below HB.out)
  obtain ⟨ao, c, rfl, -⟩ := hv
  obtain ⟨bo, d, rfl, -⟩ := hu
  clear q1 q2
  go_enter Try.func13, Try.ntmps13
  go_wp2_with fail
  refine KU.mono ?_
  rintro e w1 ⟨⟨z, o, hz, h1, h2, rfl⟩, hb⟩
  have HB1 := hidR (keepb (bl1 w1 (.cells #[.int .u64 (hI (o.getD 0#128)), .int .u64 (lI (o.getD 0#128))] 40)) (keepb hb HB.out))
  have HE : Hid (∀ b, b = (decide (z = 0) && !o.isSome) → ∃ z' o', TwoE F l G m z' ∧ (z' = 0 → Unl F (fun x => look x 0 l) (fun x => look x 0 m) o') ∧ (z' ≠ 0 → o' = none) ∧ (Ending.returned (.tuple #[.bool b, .int .i64 z])) = .returned (.tuple #[.bool (decide (z' = 0) && !o'.isSome), .int .i64 z'])) := hidR (fun b hb => ⟨z, o, hz, h1, h2, by rw [hb]⟩)
  clear KU hb hz h1 h2 t0 t1 y0 y1 HB
  by_cases h0 : z = 0
  · have hn : (z == 0) = true := by simpa using h0
    have HE2 := hidR (HE.out (!o.isSome) (by simp [h0]))
    generalize o.isSome = ob at *
    clear HE h0
    go_wp2
    exact bodyPost_ret (v := .tuple #[.bool (!ob), .int .i64 z]) (by simp [results, Try.results13, go_sem]) rfl ⟨HE2.out, HB1.out⟩
  · have hn : (z == 0) = false := by simpa using h0
    have HE2 := hidR (HE.out false (by simp [h0]))
    generalize o.isSome = ob at *
    clear HE h0
    go_wp2
    exact bodyPost_ret (v := .tuple #[.bool false, .int .i64 z]) (by simp [results, Try.results13, go_sem]) rfl ⟨HE2.out, HB1.out⟩
end Go.Proofs.Ytmkjlcfoedglmaa
/-
  The law AlgebraEquals: any two tables.
-/
namespace Go.Proofs.Ytmkjlcfoedglmaa
open Go.RowKit
set_option linter.unusedSimpArgs false
set_option linter.unusedVariables false

/-- The program's answer is the document's. -/
theorem both_unl {F : Int} {l : List Rte} {G : Int} {m : List Rte} {z z' : Int} {o o' : Option (BitVec 128)} (h : TwoE F l G m z) (h1 : z = 0 → o = frs (al (swp F l) (swp G m))) (h2 : z ≠ 0 → o = none) (h' : TwoE F l G m z') (h1' : z' = 0 → Unl F (fun x => look x 0 l) (fun x => look x 0 m) o') (h2' : z' ≠ 0 → o' = none) : z = z' ∧ o = o' := by
  obtain rfl := twoE_one h h'
  refine ⟨rfl, ?_⟩
  by_cases h0 : z = 0
  · subst h0
    obtain ⟨z1, z2, hFG⟩ := twoE_zero h
    subst hFG
    obtain ⟨hf, n1, hL, hO⟩ := tab_ok z1
    obtain ⟨-, n2, hM, hO2⟩ := tab_ok z2
    obtain ⟨a1, a2⟩ := swp_right F hf l hL hO
    obtain ⟨b1, b2⟩ := swp_right F hf m hM hO2
    have hc := al_all F _ _ _ _ a1 b1 a2 b2
    have hu := chn_unl F _ _ _ _ hc (fun z _ hz => by simp at hz)
    rw [h1 rfl]
    exact unl_one F _ _ _ _ hu (h1' rfl)
  · rw [h2 h0, h2' h0]
set_option maxRecDepth 20000 in
set_option maxHeartbeats 8000000 in
theorem algebraEquals_any (F : Int) (v : Value) (l : List Rte) (G : Int) (u : Value) (m : List Rte) (w : World) (hv : RwR w v l) (hu : RwR w u m) :
    Calls Try.prog 4 #[.agg #[.int .i64 F, v], .agg #[.int .i64 G, u]] w fun e w' => e = .returned (.bool true) ∧ Below w.heap.size w w' := by
  have KK := fun w => known6_any w
  have q1 := bl1 w (.cells #[.int .i64 F, v] 24)
  have q2 := bl1 (w.alloc (.cells #[.int .i64 F, v] 24)) (.cells #[.int .i64 G, u] 24)
  have HT := hidR ((att_new w w.heap.size F v 24 rfl).below q2)
  have HU := hidR (att_new (w.alloc (.cells #[.int .i64 F, v] 24)) (w.heap.size + 1) G u 24 (by simp))
  have HB := hidR (keepb q2 q1)
  have HV := hidR (And.intro hv hu)
  obtain ⟨ao, c, rfl, -⟩ := hv
  obtain ⟨bo, d, rfl, -⟩ := hu
  clear q1 q2
  go_enter Try.func4, Try.ntmps4
  go_wp2_with fail
  refine (KK _).mono ?_
  rintro e w1 ⟨rfl, hb⟩
  have HB1 := hidR (keepb hb HB.out)
  have HT1 := hidR (HT.out.below hb)
  have HU1 := hidR (HU.out.below hb)
  clear KK hb HB HT HU
  obtain ⟨t0, t1⟩ := HT1.out
  obtain ⟨y0, y1⟩ := HU1.out
  by_cases hl : (3000 : Int) < (l.length : Int)
  · have dl : decide ((3000 : Int) < (l.length : Int)) = true := by simpa using hl
    go_wp2
    go_ret
    exact ⟨rfl, HB1.out⟩
  · have dl : decide ((3000 : Int) < (l.length : Int)) = false := by simpa using hl
    by_cases hm : (3000 : Int) < (m.length : Int)
    · have dm : decide ((3000 : Int) < (m.length : Int)) = true := by simpa using hm
      go_wp2
      go_ret
      exact ⟨rfl, HB1.out⟩
    · have dm : decide ((3000 : Int) < (m.length : Int)) = false := by simpa using hm
      have K1 := equal_any F (.slice ao l.length c) l G (.slice bo m.length d) m w1 (HV.out.1.below HB1.out) (HV.out.2.below HB1.out)
      go_wp2_with fail
      refine K1.mono ?_
      rintro e w2 ⟨⟨za, oa, ha, ha1, ha2, rfl⟩, hb⟩
      have HB2 := hidR (keepb hb HB1.out)
      have HT2 := hidR (HT1.out.below hb)
      have HU2 := hidR (HU1.out.below hb)
      have HA := hidR (And.intro ha (And.intro ha1 ha2))
      clear K1 hb HB1 HT1 HU1 t0 t1 y0 y1 ha ha1 ha2
      obtain ⟨t0, t1⟩ := HT2.out
      obtain ⟨y0, y1⟩ := HU2.out
      have K2 := unlike_any F (.slice ao l.length c) l G (.slice bo m.length d) m w2 (HV.out.1.below HB2.out) (HV.out.2.below HB2.out)
      go_wp2_with fail
      refine K2.mono ?_
      rintro e w3 ⟨⟨zb, ob, ha, ha1, ha2, rfl⟩, hb⟩
      have b3 := bl1 w3 (.cells #[.int .u64 (hI (ob.getD 0#128)), .int .u64 (lI (ob.getD 0#128))] 40)
      have HB3 := hidR (keepb b3 (keepb hb HB2.out))
      have HT3 := hidR ((HT2.out.below hb).below b3)
      have HU3 := hidR ((HU2.out.below hb).below b3)
      have HW3 := hidR (at_new w3 w3.heap.size (ob.getD 0#128) 40 rfl)
      have HBq := hidR (And.intro ha (And.intro ha1 ha2))
      clear K2 hb b3 HB2 HT2 HU2 t0 t1 y0 y1 ha ha1 ha2
      obtain ⟨t0, t1⟩ := HT3.out
      obtain ⟨y0, y1⟩ := HU3.out
      have K3 := requal_any F (.slice ao l.length c) l G (.slice bo m.length d) m _ (HV.out.1.below HB3.out) (HV.out.2.below HB3.out)
      go_wp2_with fail
      refine K3.mono ?_
      rintro e w4 ⟨⟨zc, oc, ha, ha1, ha2, rfl⟩, hb⟩
      have HB4 := hidR (keepb hb HB3.out)
      have HT4 := hidR (HT3.out.below hb)
      have HU4 := hidR (HU3.out.below hb)
      have HW4 := hidR (HW3.out.below hb)
      obtain ⟨ez, eo⟩ := both_unl HA.out.1 HA.out.2.1 HA.out.2.2 ha ha1 ha2
      subst ez
      subst eo
      clear K3 hb HB3 HT3 HU3 HW3 t0 t1 y0 y1 ha ha1 ha2 HA
      obtain ⟨t0, t1⟩ := HT4.out
      obtain ⟨y0, y1⟩ := HU4.out
      have K4 := runlike_any F (.slice ao l.length c) l G (.slice bo m.length d) m w4 (HV.out.1.below HB4.out) (HV.out.2.below HB4.out)
      go_wp2_with fail
      refine K4.mono ?_
      rintro e w5 ⟨⟨zd, od, ha, ha1, ha2, rfl⟩, hb⟩
      obtain ⟨ez, eo⟩ := both_unl HBq.out.1 HBq.out.2.1 HBq.out.2.2 ha ha1 ha2
      subst ez
      subst eo
      have b5 := bl1 w5 (.cells #[.int .u64 (hI (ob.getD 0#128)), .int .u64 (lI (ob.getD 0#128))] 40)
      have HB5 := hidR (keepb b5 (keepb hb HB4.out))
      obtain ⟨p0, p1, -⟩ := (HW4.out.below hb).below b5
      obtain ⟨q0, q1, -⟩ := at_new w5 w5.heap.size (ob.getD 0#128) 40 rfl
      have hE := fun w => eqW_run (ob.getD 0#128) (ob.getD 0#128) w
      simp only [beq_self_eq_true] at hE
      clear K4 hb b5 HB4 HT4 HU4 HW4 t0 t1 y0 y1 ha ha1 ha2 HBq HV
      generalize (decide (za = 0) && !oa.isSome) = x1 at *
      generalize ob.isSome = x2 at *
      generalize ob.getD 0#128 = x3 at *
      have e1 : (x1 == x1) = true := by simp
      have e2 : (za == za) = true := by simp
      have e3 : (x2 == x2) = true := by simp
      have e4 : (zb == zb) = true := by simp
      go_wp2
      go_ret
      exact ⟨rfl, HB5.out⟩
end Go.Proofs.Ytmkjlcfoedglmaa
/-
  How a prefix that is handed in reads as data.
-/
namespace Go.Proofs.Ytmkjlcfoedglmaa
open Go.ChangeShapes Go.WideShapes Go.ChangeAt Go.RowKit Go.Joins
set_option linter.unusedSimpArgs false
set_option linter.unusedVariables false

theorem Try.cellsW : Try.prog.cellsOf 40 = 2 := by kernel_rfl
theorem Try.cellsP : Try.prog.cellsOf 48 = 3 := by kernel_rfl
theorem Try.cellsI : Try.prog.cellsOf 3 = 1 := by kernel_rfl
theorem Try.cellsU : Try.prog.cellsOf 38 = 1 := by kernel_rfl
section
variable {H : Type} {enc : TypeId × Value → H} {w : World} {base : Nat} {spare : Nat → Bool} {held : Bool}
set_option maxRecDepth 100000 in
theorem open_pfx {r : Reach} {b0 : Nat} {v : Value} {d : DataW H} {p : List MemPlace} (hv : Value.okWide Try.prog w r b0 48 v) (h : DataW.Trod enc Try.prog w base spare held 48 v d p) :
    ∃ a b n : Int, v = .agg #[.int .u64 a, .int .u64 b, .int .i64 n] ∧ d = .agg [.agg [.lit (.int .u64 a), .lit (.int .u64 b)], .lit (.int .i64 n)] ∧ p = [] ∧ (Lit.int .u64 a).wf = true ∧ (Lit.int .u64 b).wf = true ∧ (Lit.int .i64 n).wf = true := by
  obtain ⟨cs, rfl, hsz⟩ := okWide_struct Try.underlying48 hv
  obtain ⟨c0, c1, c2, rfl⟩ := array3 (hsz.trans Try.cellsP)
  obtain ⟨fuel, hf⟩ := h
  obtain ⟨y0, y1, n, hx, _, h0, h1⟩ := trod_struct2 Try.underlying48 hf
  have h0' : DataW.trod enc Try.prog w base spare held n 40 [c0, c1] = some y0 := by simpa [Value.cells, Try.cellsW] using h0
  have h1' : DataW.trod enc Try.prog w base spare held n 3 [c2] = some y1 := by simpa [Value.cells, Try.cellsI] using h1
  obtain ⟨u0, u1, m, hu, _, g0, g1⟩ := trod_struct2 Try.underlying40 h0'
  have g0' : DataW.trod enc Try.prog w base spare held m 38 [c0] = some u0 := by simpa [Value.cells, Try.cellsU] using g0
  have g1' : DataW.trod enc Try.prog w base spare held m 38 [c1] = some u1 := by simpa [Value.cells, Try.cellsU] using g1
  obtain ⟨a, ea, rfl, wa⟩ := DataW.trod_int Try.underlying38 g0'
  obtain ⟨b, eb, rfl, wb⟩ := DataW.trod_int Try.underlying38 g1'
  obtain ⟨k, ek, rfl, wk⟩ := DataW.trod_int Try.underlying3 h1'
  simp at ea eb ek
  subst ea eb ek hu
  simp only [Prod.mk.injEq] at hx
  exact ⟨a, b, k, rfl, hx.1, by simpa using hx.2, wa, wb, wk⟩
set_option maxRecDepth 100000 in
theorem shut_pfx {a b n : Int} (wa : (Lit.int .u64 a).wf = true) (wb : (Lit.int .u64 b).wf = true) (wn : (Lit.int .i64 n).wf = true) :
    DataW.Trod enc Try.prog w base spare held 48 (.agg #[.int .u64 a, .int .u64 b, .int .i64 n]) (.agg [.agg [.lit (.int .u64 a), .lit (.int .u64 b)], .lit (.int .i64 n)]) [] := by
  have f : ∀ {z : Int}, (Lit.int .u64 z).wf = true → DataW.trod enc Try.prog w base spare held 1 38 [.int .u64 z] = some (.lit (.int .u64 z), []) := fun hz => by simp [DataW.trod, Try.underlying38, hz]
  have g : DataW.trod enc Try.prog w base spare held 2 3 [.int .i64 n] = some (.lit (.int .i64 n), []) := by simp [DataW.trod, Try.underlying3, wn]
  have s : DataW.trod enc Try.prog w base spare held 2 40 [.int .u64 a, .int .u64 b] = some (.agg [.lit (.int .u64 a), .lit (.int .u64 b)], []) := by
    have := trod_struct2_mk (enc := enc) (w := w) (base := base) (spare := spare) (held := held) (n := 1) (cs := [.int .u64 a, .int .u64 b]) Try.underlying40 (by simp [Try.cellsW]) (by simpa [Try.cellsU] using f wa) (by simpa [Try.cellsU] using f wb)
    simpa using this
  have := trod_struct2_mk (enc := enc) (w := w) (base := base) (spare := spare) (held := held) (n := 2) (cs := [.int .u64 a, .int .u64 b, .int .i64 n]) Try.underlying48 (by simp [Try.cellsP]) (by simpa [Try.cellsW] using s) (by simpa [Try.cellsI] using g)
  exact ⟨3, by simpa [Value.cells] using this⟩
end
end Go.Proofs.Ytmkjlcfoedglmaa
