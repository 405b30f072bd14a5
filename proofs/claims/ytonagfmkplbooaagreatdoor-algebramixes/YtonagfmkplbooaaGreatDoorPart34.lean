/-
  Part 34 of the proof: 1 texts, one behind the other.
-/
import Derived.Test.YtonagfmkplbooaaGreatDoorPart29
import Derived.Test.YtonagfmkplbooaaGreatDoorPart32
import Derived.Test.YtonagfmkplbooaaGreatDoorPart25
import Derived.Test.YtonagfmkplbooaaGreatDoorPart28
import Derived.Test.YtonagfmkplbooaaGreatDoorPart33
/-
  What the calls of turnpikeref6's mixed, Over and Less do.
-/
namespace Go.Proofs.YtonagfmkplbooaaGreatDoor
open Go.RowKit
set_option linter.unusedSimpArgs false
set_option linter.unusedVariables false

def qOf (less : Bool) (x y : Int) : Int := if less = true then qLess x y else qOver x y
/-- What is known while the next hops of what two say are told. -/
structure HpM (w : World) (K : World → Prop) (B0 : Nat) (va : Value) (E : List (BitVec 128)) (vh : Value) (H : List Int) (W : World) : Prop where
  k : K W
  at' : W.ownsRow w.heap.size 27 2 va E.length (rowW E)
  hp : W.ownsRow B0 3 1 vh H.length (rowI H)
  bel : Below w.heap.size w W
  va : ∀ z, va.ownBlock = some z → z < B0
  b0 : w.heap.size + 3 ≤ B0
  bs : B0 ≤ W.heap.size
/-- What speaks of the first three variables alone. -/
def Kh (w : World) (K : World → Prop) : Prop := ∀ W W', K W → (∀ z, z < w.heap.size + 3 → W'.heap[z]? = W.heap[z]?) → K W'
section
variable {w : World} {K : World → Prop} {B0 : Nat} {va : Value} {E : List (BitVec 128)} {vh : Value} {H : List Int} {W W' : World}
theorem HpM.below (hK : Kh w K) (k : HpM w K B0 va E vh H W) (hb : Below W.heap.size W W') : HpM w K B0 va E vh H W' :=
  ⟨hK W W' k.k (fun z hz => hb.block z (by have := k.b0; have := k.bs; omega)), own_below hb k.at', own_below hb k.hp, keepb hb k.bel, k.va, k.b0, Nat.le_trans k.bs hb.size⟩
theorem HpM.app (hK : Kh w K) (k : HpM w K B0 va E vh H W) {n : Nat} (hn : H.length = n) (eh : Int) (g cap : Nat)
    (hown : W'.ownsRow B0 3 1 (.slice (some ⟨g, 0, none⟩) (n + 1) cap) (n + 1) (rowI H ++ [.int .i64 eh])) (hg : W.grownBy W' vh.ownBlock) : HpM w K B0 va E (.slice (some ⟨g, 0, none⟩) (n + 1) cap) (H ++ [eh]) W' := by
  have b0 := k.b0
  have bs := k.bs
  refine ⟨hK W W' k.k (fun z hz => hg.block z (by omega) (fun e => ?_)), own_heap k.at' (fun z e => hg.block z (k.at'.lt z e).2 (fun q => ?_)), ?_, k.bel.grown hg k.bel.size (fun z e => by have := (k.hp.lt z e).1; omega), k.va, k.b0, Nat.le_trans k.bs hg.size⟩
  · have := (k.hp.lt _ e.symm).1; omega
  · have h1 := (k.hp.lt _ q.symm).1
    have h2 := k.va z e
    omega
  · rw [List.length_append, hn, rowI_one]
    exact hown
end
def MixK (w : World) (F : Int) (v u : Value) (W : World) : Prop := AtT W w.heap.size F v ∧ AtT W (w.heap.size + 1) F u ∧ AtU W (w.heap.size + 1 + 1) 0 (.slice none 0 0)
theorem AtT.heap6 {W W' : World} {B : Nat} {F : Int} {v : Value} (k : AtT W B F v) (e : W'.heap[B]? = W.heap[B]?) : AtT W' B F v := ⟨(cellH e 0).trans k.1, (cellH e 1).trans k.2⟩
theorem mixK_heap (w : World) (F : Int) (v u : Value) : Kh w (MixK w F v u) := fun W W' k h => ⟨k.1.heap6 (h _ (by omega)), k.2.1.heap6 (h _ (by omega)), k.2.2.heap (h _ (by omega))⟩
theorem qk_of (less : Bool) (x y : Int) (hx : 0 ≤ x ∧ x ≤ 65535) (hy : 0 ≤ y ∧ y ≤ 65535) : 0 ≤ qOf less x y ∧ qOf less x y ≤ 65535 := by
  unfold qOf qLess qOver
  repeat' split
  all_goals first | exact hx | exact hy | exact ⟨by decide, by decide⟩
/-- The document's segments of what two say are what is joined. -/
theorem mix_segs (F : Int) (l m : List Rte) (q : Int → Int → Int) (hq : ∀ x y : Int, (0 ≤ x ∧ x ≤ 65535) → (0 ≤ y ∧ y ≤ 65535) → 0 ≤ q x y ∧ q x y ≤ 65535) (z1 : TabE F l 0) (z2 : TabE F m 0) (E1 E : List (BitVec 128)) (hE1 : EdS F [] l E1) (hE : EdS F E1 m E) :
    (jn F [] (E.map fun e => (e, q (look e 0 l) (look e 0 m)))).reverse = jnd q (swp F l) (swp F m) ∧ sgsGo F none (jnd q (swp F l) (swp F m)) = 0 := by
  obtain ⟨hf, -, hL, hO⟩ := tab_ok z1
  obtain ⟨-, -, hM, hO2⟩ := tab_ok z2
  obtain ⟨a1, a2⟩ := swp_right F hf l hL hO
  obtain ⟨b1, b2⟩ := swp_right F hf m hM hO2
  have r1 := eds_right hf hL (fun y hy => by cases hy) hE1
  have r2 := eds_right hf hM r1 hE
  have n1 : Ends F E l := (eds_ends hE1).sub (fun e he => (hE.2.1 e).mpr (.inl he))
  have n2 := eds_ends hE
  have bd : ∀ x, 0 ≤ q (look x 0 l) (look x 0 m) ∧ q (look x 0 l) (look x 0 m) ≤ 65535 := fun x => hq _ _ (look_bound F x l 0 (by decide) (by decide) hL) (look_bound F x m 0 (by decide) (by decide) hM)
  have fl : Flat F E (fun x => q (look x 0 l) (look x 0 m)) := fun x y hx hy h => by
    have e1 := look_flat F hf E l n1 hL x y hx hy h
    have e2 := look_flat F hf E m n2 hM x y hx hy h
    simp only at e1 e2 ⊢
    rw [e1, e2]
  obtain ⟨c1, c2⟩ := jn_flat F hf _ bd E hE.1 (eds_zero_mem hE) r2 fl
  obtain ⟨d1, d2⟩ := jnd_right F hf (fun x => look x 0 l) (fun x => look x 0 m) q bd (swp F l) (swp F m) a1 b1 a2 b2
  exact ⟨segs_unique F _ _ _ none none c1 d1 rfl rfl c2 d2, d1⟩
theorem sgsE_zero {F : Int} (hf : fam F = true) {l : List Sg} (h : sgsGo F none l = 0) : sgsE F l = 0 := by
  unfold sgsE
  rw [if_pos hf]
  cases l with
  | nil => simp [sgsGo, moO] at h
  | cons a l => rw [if_neg (by simp)]; exact h
set_option maxRecDepth 20000 in
set_option maxHeartbeats 16000000 in
theorem rmixed_any (less : Bool) (F : Int) (v : Value) (l : List Rte) (G : Int) (u : Value) (m : List Rte) (w : World) (hv : RwR w v l) (hu : RwR w u m) :
    Calls Tryz.prog 23 #[.agg #[.int .i64 F, v], .agg #[.int .i64 G, u], .bool less] w fun e w' => (∃ z v', TwoE F l G m z ∧ e = .returned (.tuple #[.agg #[.int .i64 (OfV (qOf less) F l G m z).1, v'], .int .i64 (OfV (qOf less) F l G m z).2.1]) ∧ w'.ownsRow w.heap.size 45 4 v' (OfV (qOf less) F l G m z).2.2.length (rowR (OfV (qOf less) F l G m z).2.2)) ∧ Below w.heap.size w w' := by
  obtain ⟨i0, hi, hz0, hz1, hz2⟩ := info_parts Tryz.infoI
  have q1 := bl1 w (.cells #[.int .i64 F, v] 24)
  have q2 := bl1 (w.alloc (.cells #[.int .i64 F, v] 24)) (.cells #[.int .i64 G, u] 24)
  have q3 := bl1 ((w.alloc (.cells #[.int .i64 F, v] 24)).alloc (.cells #[.int .i64 G, u] 24)) (.cells #[.int .i64 0, .slice none 0 0] 24)
  have HT := hidR (((att_new w w.heap.size F v 24 rfl).below q2).below q3)
  have HU := hidR ((att_new (w.alloc (.cells #[.int .i64 F, v] 24)) (w.heap.size + 1) G u 24 (by simp)).below q3)
  have HN : Hid (AtU ((((w.alloc (.cells #[.int .i64 F, v] 24)).alloc (.cells #[.int .i64 G, u] 24))).alloc (.cells #[.int .i64 0, .slice none 0 0] 24)) (w.heap.size + 1 + 1) 0 (.slice none 0 0)) := hidR (by refine ⟨?_, ?_, ?_, ?_⟩ <;> simp [go_sem])
  have HB := hidR (keepb q3 (keepb q2 q1))
  have K1 := rtwo_any F v l G u m _ (hv.below HB.out) (hu.below HB.out)
  have HV := hidR (And.intro hv hu)
  obtain ⟨ao, c, rfl, -⟩ := hv
  obtain ⟨bo, d, rfl, -⟩ := hu
  obtain ⟨t0, t1⟩ := HT.out
  obtain ⟨y0, y1⟩ := HU.out
  clear q1 q2 q3
  go_enter Tryz.func23, Tryz.ntmps23
  go_wp2_with fail
  refine K1.mono ?_
  rintro e w1 ⟨⟨z, hz, rfl⟩, hb⟩
  have HB1 := hidR (keepb hb HB.out)
  have HT1 := hidR (HT.out.below hb)
  have HU1 := hidR (HU.out.below hb)
  have HR1 := hidR (HN.out.below hb)
  have HTW := hidR hz
  clear K1 hb HB HT HU HN t0 t1 y0 y1 hz
  by_cases h0 : z = 0
  · subst h0
    obtain ⟨z1, z2, hFG⟩ := twoE_zero HTW.out
    subst hFG
    obtain ⟨hf, n1, hL, hO⟩ := tab_ok z1
    obtain ⟨-, n2, hM, hO2⟩ := tab_ok z2
    have HOK := hidR (And.intro hf (And.intro hL (And.intro hO (And.intro hM hO2))))
    have HZZ := hidR (And.intro z1 z2)
    have HE1 : Hid (∀ W, Below w1.heap.size w1 W → Calls Tryz.prog 26 #[.slice none 0 0, .agg #[.int .i64 F, .slice ao l.length c]] W fun e w' => ∃ v' T, e = .returned v' ∧ EdS F [] l T ∧ PtO W.heap.size (.slice none 0 0) T W v' w' ∧ Below W.heap.size W w') := hidR (fun W hb => redges_any W F (.slice ao l.length c) l (.slice none 0 0) [] W (Below.refl _ _) ((HV.out.1.below HB1.out).below hb) (World.ownsRow_nil _ _ _ _) List.Pairwise.nil (by simp; omega) (fun r hr => (HOK.out.2.1 r hr).1))
    have HE2 : Hid (∀ W, Below w1.heap.size w1 W → ∀ lv E1, EdS F [] l E1 → W.ownsRow w1.heap.size 27 2 lv E1.length (rowW E1) → Calls Tryz.prog 26 #[lv, .agg #[.int .i64 F, .slice bo m.length d]] W fun e w' => ∃ v' T, e = .returned v' ∧ EdS F E1 m T ∧ PtO w1.heap.size lv T W v' w' ∧ Below w1.heap.size w1 w') := hidR (fun W hb lv E1 hE ho => redges_any w1 F (.slice bo m.length d) m lv E1 W hb (HV.out.2.below HB1.out) ho hE.1 (by have := hE.2.2; simp at this; omega) (fun r hr => (HOK.out.2.2.2.1 r hr).1))
    have HC : Hid (∀ W, Below w1.heap.size w1 W → AtT W w.heap.size F (.slice ao l.length c) ∧ AtT W (w.heap.size + 1) F (.slice bo m.length d)) := hidR (fun W hb => ⟨HT1.out.below hb, HU1.out.below hb⟩)
    clear HT1 HU1 hf hL hO hM hO2 z1 z2
    go_wp2_with fail
    refine gh_region (γ := Value × Value) (qpOk 5 5 (by decide) (fun N => by kernel_rfl) (by kernel_rfl) (by kernel_rfl) (by kernel_rfl) (by kernel_rfl)) (by kernel_rfl) (by kernel_rfl) [some 21, some 22, some 23, some 24, some 9] (fun g => [.agg #[.int .i64 F, .slice ao l.length c], g.1, .agg #[.int .i64 F, .slice bo m.length d], g.2, g.2]) (by kernel_rfl) (by simp) (fun lp g W => RU w1 F (.slice ao l.length c) (.slice bo m.length d) w.heap.size l m (lp.getD 1 false) (lp.getD 3 false) (lp.getD 4 false) g W) (undef, undef) ⟨below_drewN (Below.refl _ _) 1, fun h => (by simp at h), fun h => (by simp at h), fun h => (by simp at h), fun h => (by simp at h)⟩ ?step ?fin
    case step =>
      intro q o lp g w' a' ho hsz hun hdep hR hS K Q' hK
      have hfl : ∀ j, j ≠ q → (lp.setIfInBounds q true).getD j false = lp.getD j false := fun j hj => by rw [Array.getD_eq_getD_getElem?, Array.getD_eq_getD_getElem?, Array.getElem?_setIfInBounds_ne (by omega)]
      have hq : q < 5 := (List.getElem?_eq_some_iff.mp ho).1
      obtain ⟨⟨t0, t1⟩, ⟨y0, y1⟩⟩ := HC.out w' hR.bel
      match q, ho, hun, hdep, hK, hfl, hq with
      | 0, ho, hun, hdep, hK, hfl, _ =>
        obtain rfl := Option.some.inj ho
        have o3 : a'.tmps[3]? = some (.pointer (some ⟨w.heap.size, 0, none⟩)) := (hS.old 3 (by simp)).trans rfl
        have hK' := hK g w' (fun _ _ _ _ _ _ => rfl) (by rw [hfl 1 (by decide), hfl 3 (by decide), hfl 4 (by decide)]; exact hR) (.agg #[.int .i64 F, .slice ao l.length c]) (by simp only [valO, Option.bind_some]; simp only [putAll, Act.put, List.setIfInBounds_toArray, List.set_cons_zero, List.set_cons_succ]; rfl)
        clear hS hdep hR
        refine gh_quiet (v := .agg #[.int .i64 F, .slice ao l.length c]) ?_ ?_
        · (simp only [execOp, Act.eval, o3]; go_simp; first | done | (simp; done) | (simp [*]; done))
        · exact hK'
      | 2, ho, hun, hdep, hK, hfl, _ =>
        obtain rfl := Option.some.inj ho
        have o4 : a'.tmps[4]? = some (.pointer (some ⟨w.heap.size + 1, 0, none⟩)) := (hS.old 4 (by simp)).trans rfl
        have hK' := hK g w' (fun _ _ _ _ _ _ => rfl) (by rw [hfl 1 (by decide), hfl 3 (by decide), hfl 4 (by decide)]; exact hR) (.agg #[.int .i64 F, .slice bo m.length d]) (by simp only [valO, Option.bind_some]; simp only [putAll, Act.put, List.setIfInBounds_toArray, List.set_cons_zero, List.set_cons_succ]; rfl)
        clear hS hdep hR
        refine gh_quiet (v := .agg #[.int .i64 F, .slice bo m.length d]) ?_ ?_
        · (simp only [execOp, Act.eval, o4]; go_simp; first | done | (simp; done) | (simp [*]; done))
        · exact hK'
      | 1, ho, hun, hdep, hK, hfl, _ =>
        obtain rfl := Option.some.inj ho
        have d0 : lp.getD 0 false = true := hdep { on := 0, ground := .data } (by simp) rfl
        have e21 : a'.tmps[21]? = some (.agg #[.int .i64 F, .slice ao l.length c]) := (hS.don 0 _ 21 rfl d0 rfl).trans (by simp only [putAll, Act.put, List.setIfInBounds_toArray, List.set_cons_zero, List.set_cons_succ]; rfl)
        have h3 : lp.getD 3 false = false := by
          cases h : lp.getD 3 false with
          | false => rfl
          | true => have := hR.c3 h; rw [hun] at this; cases this
        have h4 : lp.getD 4 false = false := by
          cases h : lp.getD 4 false with
          | false => rfl
          | true => have := hR.c4 h; rw [h3] at this; cases this
        have KE := HE1.out w' hR.bel
        clear hdep
        unfold Oper.wp
        simp only [execOp, Act.eval, e21]
        simp [go_sem, e21, Oper.upon]
        refine KE.mono ?_
        rintro e W2 ⟨v', T, rfl, hT, ho2, hb2⟩
        refine hK (v', g.2) W2 (fun k ok s hk hl hd => ?_) (by rw [hfl 3 (by decide), hfl 4 (by decide), getD_set_same (by rw [hsz]; decide), h3, h4]; exact ⟨keepb hb2 hR.bel, fun _ _ => ⟨T, hT, own_wide ho2.1 hR.bel.size⟩, fun h => (by cases h), fun h => (by cases h), fun h => (by cases h)⟩) _ (by simp only [valO, Option.bind_some]; simp only [putAll, Act.put, List.setIfInBounds_toArray, List.set_cons_zero, List.set_cons_succ]; rfl)
        refine gh_same3 (d := 22) (d2 := 24) (d3 := 9) (by simp only [putAll, Act.put, List.setIfInBounds_toArray, List.set_cons_zero, List.set_cons_succ]; try rfl) ?_ ?_ ?_
        · rintro rfl
          have := dstG_of (by kernel_rfl) k 1 ok _ 22 hk rfl hd rfl
          subst this
          rw [hun] at hl
          cases hl
        · rintro rfl
          have := dstG_of (by kernel_rfl) k 3 ok _ 24 hk rfl hd rfl
          subst this
          rw [h3] at hl
          cases hl
        · rintro rfl
          have := dstG_of (by kernel_rfl) k 4 ok _ 9 hk rfl hd rfl
          subst this
          rw [h4] at hl
          cases hl
      | 3, ho, hun, hdep, hK, hfl, _ =>
        obtain rfl := Option.some.inj ho
        have d1 : lp.getD 1 false = true := hdep { on := 1, ground := .data } (by simp) rfl
        have d2 : lp.getD 2 false = true := hdep { on := 2, ground := .data } (by simp) rfl
        have e22 : a'.tmps[22]? = some (g.1) := (hS.don 1 _ 22 rfl d1 rfl).trans (by simp only [putAll, Act.put, List.setIfInBounds_toArray, List.set_cons_zero, List.set_cons_succ]; rfl)
        have e23 : a'.tmps[23]? = some (.agg #[.int .i64 F, .slice bo m.length d]) := (hS.don 2 _ 23 rfl d2 rfl).trans (by simp only [putAll, Act.put, List.setIfInBounds_toArray, List.set_cons_zero, List.set_cons_succ]; rfl)
        have h4 : lp.getD 4 false = false := by
          cases h : lp.getD 4 false with
          | false => rfl
          | true => have := hR.c4 h; rw [hun] at this; cases this
        obtain ⟨E1, hE1, ho1⟩ := hR.one d1 hun
        have KE := HE2.out w' hR.bel g.1 E1 hE1 ho1
        clear hdep
        unfold Oper.wp
        simp only [execOp, Act.eval, e22, e23]
        simp [go_sem, e22, e23, Oper.upon]
        refine KE.mono ?_
        rintro e W2 ⟨v', T, rfl, hT, ho2, hb2⟩
        refine hK (g.1, v') W2 (fun k ok s hk hl hd => ?_) (by rw [hfl 1 (by decide), hfl 4 (by decide), getD_set_same (by rw [hsz]; decide), h4]; exact ⟨hb2, fun _ h => (by cases h), fun _ => ⟨E1, T, hE1, hT, ho2.1⟩, fun _ => d1, fun h => (by cases h)⟩) _ (by simp only [valO, Option.bind_some]; simp only [putAll, Act.put, List.setIfInBounds_toArray, List.set_cons_zero, List.set_cons_succ]; rfl)
        refine gh_same2 (d := 24) (d2 := 9) (by simp only [putAll, Act.put, List.setIfInBounds_toArray, List.set_cons_zero, List.set_cons_succ]; try rfl) ?_ ?_
        · rintro rfl
          have := dstG_of (by kernel_rfl) k 3 ok _ 24 hk rfl hd rfl
          subst this
          rw [hun] at hl
          cases hl
        · rintro rfl
          have := dstG_of (by kernel_rfl) k 4 ok _ 9 hk rfl hd rfl
          subst this
          rw [h4] at hl
          cases hl
      | 4, ho, hun, hdep, hK, hfl, _ =>
        obtain rfl := Option.some.inj ho
        have d3 : lp.getD 3 false = true := hdep { on := 3, ground := .data } (by simp) rfl
        have e24 : a'.tmps[24]? = some (g.2) := (hS.don 3 _ 24 rfl d3 rfl).trans (by simp only [putAll, Act.put, List.setIfInBounds_toArray, List.set_cons_zero, List.set_cons_succ]; rfl)
        have hK' := hK g w' (fun _ _ _ _ _ _ => rfl) (by rw [hfl 1 (by decide), hfl 3 (by decide), getD_set_same (by rw [hsz]; decide)]; exact ⟨hR.bel, hR.one, hR.two, hR.c3, fun _ => d3⟩) (g.2) (by simp only [valO, Option.bind_some]; simp only [putAll, Act.put, List.setIfInBounds_toArray, List.set_cons_zero, List.set_cons_succ]; rfl)
        clear hS hdep hR
        refine gh_quiet (v := g.2) ?_ ?_
        · (simp only [execOp, Act.eval, e24]; go_simp; first | done | (simp; done) | (simp [*]; done))
        · exact hK'
      | n + 5, ho, hun, hdep, hK, hfl, hq => exact absurd hq (by omega)
    case fin =>
      intro g W2 hR
      have hR : RU w1 F (.slice ao l.length c) (.slice bo m.length d) w.heap.size l m true true true g W2 := by simpa using hR
      obtain ⟨g1, va⟩ := g
      obtain ⟨E1, E, hE1, hE, ho⟩ := hR.two rfl
      have HB2 := hidR (keepb hR.bel HB1.out)
      have HD2 := hidR (HC.out W2 hR.bel)
      have HR2 := hidR (HR1.out.below hR.bel)
      simp only [putAll, Act.put, List.setIfInBounds_toArray, List.set_cons_zero, List.set_cons_succ]
      clear hR
      refine wl_nil (P := Tryz.prog) (ops := #[]) ?_
      have hE0 : E ≠ [] := fun e => by have := eds_zero_mem hE; rw [e] at this; cases this
      have hEp : 0 < E.length := by have : E.length ≠ 0 := fun e => hE0 (List.length_eq_zero_iff.mp e); omega
      obtain ⟨ga, ca, rfl, -, -⟩ := ho.form hEp
      have hEl : E.length ≤ 10000000 := by have h1 := hE.2.2; have h2 := hE1.2.2; simp at h2; omega
      have HSG := hidR (mix_segs F l m (qOf less) (qk_of less) HZZ.out.1 HZZ.out.2 E1 E hE1 hE)
      have HI0 : Hid (HpM w (MixK w F (.slice ao l.length c) (.slice bo m.length d)) W2.heap.size (.slice (some ⟨ga, 0, none⟩) E.length ca) E (.slice none 0 0) [] W2) := hidR ⟨⟨HD2.out.1, HD2.out.2, HR2.out⟩, own_wide ho HB1.out.size, World.ownsRow_nil _ _ _ _, HB2.out, fun z e => (ho.lt z e).2, by have := HR2.out.lt; omega, Nat.le_refl _⟩
      clear ho hE hE1 hE0 HE1 HE2 HB2 HD2 HR2 HC HR1
      go_wp2_with fail
      generalize W2.heap.size = B0 at *
      go_loopw [10, 11] (fun vh i wr => ∃ (k : Nat) (vh' : Value), k ≤ E.length ∧ i = .int .i64 k ∧ vh' = vh ∧ Hid (HpM w (MixK w F (.slice ao l.length c) (.slice bo m.length d)) B0 (.slice (some ⟨ga, 0, none⟩) E.length ca) E vh' ((E.take k).map fun e => qOf less (look e 0 l) (look e 0 m)) wr)) (fun _ i _ => E.length - (intOf i).toNat)
      case atStart => exact ⟨0, _, by omega, rfl, rfl, by simpa using HI0⟩
      case round =>
        clear HI0
        obtain ⟨k, vh, hk, rfl, rfl, HI⟩ := hrel
        by_cases hlt : (k : Int) < (E.length : Int)
        · have hks : k < E.length := by omega
          have hkw : IntKind.i64.wrap ((k : Int) + 1) = (k : Int) + 1 := by rw [IntKind.wrap_i64]; omega
          have HTE : Hid ((E.take (k + 1)).map (fun e => qOf less (look e 0 l) (look e 0 m)) = (E.take k).map (fun e => qOf less (look e 0 l) (look e 0 m)) ++ [qOf less (look E[k] 0 l) (look E[k] 0 m)]) := hidR (by rw [List.take_succ_eq_append_getElem hks, List.map_append]; rfl)
          have HHL : Hid (((E.take k).map (fun e => qOf less (look e 0 l) (look e 0 m))).length = k) := hidR (by rw [List.length_map, List.length_take]; omega)
          have K1 : Hid (∀ W, Below w.heap.size w W → Calls Tryz.prog 28 #[.agg #[.int .i64 F, .slice ao l.length c], .agg #[.int .u64 (hI E[k]), .int .u64 (lI E[k])]] W fun e w' => e = .returned (.int .i64 (look E[k] 0 l)) ∧ Below W.heap.size W w') := hidR (fun W hb => by
            have := rlookup_any F E[k] (.slice ao l.length c) l W (HV.out.1.below hb) (by omega) (ro_cells HOK.out.1 HOK.out.2.1)
            rwa [mat_eq_look F E[k] l HOK.out.2.1 HOK.out.2.2.1] at this)
          have K2 : Hid (∀ W, Below w.heap.size w W → Calls Tryz.prog 28 #[.agg #[.int .i64 F, .slice bo m.length d], .agg #[.int .u64 (hI E[k]), .int .u64 (lI E[k])]] W fun e w' => e = .returned (.int .i64 (look E[k] 0 m)) ∧ Below W.heap.size W w') := hidR (fun W hb => by
            have := rlookup_any F E[k] (.slice bo m.length d) m W (HV.out.2.below hb) (by omega) (ro_cells HOK.out.1 HOK.out.2.2.2.1)
            rwa [mat_eq_look F E[k] m HOK.out.2.2.2.1 HOK.out.2.2.2.2] at this)
          have HY : Hid (∀ W : World, W.ownsRow w.heap.size 27 2 (.slice (some ⟨ga, 0, none⟩) E.length ca) E.length (rowW E) → W.cell? ⟨ga, k * 2, none⟩ = some (.int .u64 (hI E[k])) ∧ W.cell? ⟨ga, k * 2 + 1, none⟩ = some (.int .u64 (lI E[k]))) := hidR (fun W h => ownW_cells h k hks)
          revert HTE HHL K1 K2 HY HI
          generalize (E.take k).map (fun e => qOf less (look e 0 l) (look e 0 m)) = H
          generalize look E[k] 0 l = fa
          generalize look E[k] 0 m = fb
          generalize E[k] = ex
          intro HI HTE HHL K1 K2 HY
          obtain ⟨ae, ce, rfl⟩ := own_form HI.out.hp
          rw [HHL.out]
          rw [HHL.out] at HI
          have HC4 : Hid (UC w wr F (.slice ao l.length c) (.slice bo m.length d) ga (k * 2) ex wr) := hidR ⟨HI.out.k.1, HI.out.k.2.1, HY.out wr HI.out.at', HI.out.bel, Below.refl _ _⟩
          go_wp2_with fail
          refine q_region (C := UC w wr F (.slice ao l.length c) (.slice bo m.length d) ga (k * 2) ex) (by kernel_rfl) (by kernel_rfl) (HC4.out.below (below_drewN (Below.refl _ _) 1)) ?_
          clear HC4
          refine q_run (v := .agg #[.int .i64 F, .slice ao l.length c]) (by rfl) ?_ ?_
          · (intro w1 hC; obtain ⟨⟨t0, t1⟩, ⟨y0, y1⟩, ⟨x0, x1⟩, -, -⟩ := hC; go_simp; first | done | (simp; done) | (simp [*]; done) | omega | (simp; omega) | (rw [IntKind.wrap_i64]; omega) | (intro hx; omega) | rfl)
          simp only [Act.put, List.setIfInBounds_toArray, List.set_cons_zero, List.set_cons_succ]
          refine q_run (v := .slice (some ⟨ga, 0, none⟩) E.length ca) (by rfl) ?_ ?_
          · (intro w1 hC; obtain ⟨⟨t0, t1⟩, ⟨y0, y1⟩, ⟨x0, x1⟩, -, -⟩ := hC; go_simp; first | done | (simp; done) | (simp [*]; done) | omega | (simp; omega) | (rw [IntKind.wrap_i64]; omega) | (intro hx; omega) | rfl)
          simp only [Act.put, List.setIfInBounds_toArray, List.set_cons_zero, List.set_cons_succ]
          refine q_run (v := .int .i64 (k : Int)) (by rfl) ?_ ?_
          · (intro w1 hC; obtain ⟨⟨t0, t1⟩, ⟨y0, y1⟩, ⟨x0, x1⟩, -, -⟩ := hC; go_simp; first | done | (simp; done) | (simp [*]; done) | omega | (simp; omega) | (rw [IntKind.wrap_i64]; omega) | (intro hx; omega) | rfl)
          simp only [Act.put, List.setIfInBounds_toArray, List.set_cons_zero, List.set_cons_succ]
          refine q_run (v := .pointer (some ⟨ga, k * 2, none⟩)) (by rfl) ?_ ?_
          · (intro w1 hC; obtain ⟨⟨t0, t1⟩, ⟨y0, y1⟩, ⟨x0, x1⟩, -, -⟩ := hC; go_simp; first | done | (simp; done) | (simp [*]; done) | omega | (simp; omega) | (rw [IntKind.wrap_i64]; omega) | (intro hx; omega) | rfl)
          simp only [Act.put, List.setIfInBounds_toArray, List.set_cons_zero, List.set_cons_succ]
          refine q_run (v := .agg #[.int .u64 (hI ex), .int .u64 (lI ex)]) (by rfl) ?_ ?_
          · (intro w1 hC; obtain ⟨⟨t0, t1⟩, ⟨y0, y1⟩, ⟨x0, x1⟩, -, -⟩ := hC; go_simp; first | done | (simp; done) | (simp [*]; done) | omega | (simp; omega) | (rw [IntKind.wrap_i64]; omega) | (intro hx; omega) | rfl)
          simp only [Act.put, List.setIfInBounds_toArray, List.set_cons_zero, List.set_cons_succ]
          refine q_call (v := .int .i64 fa) (f := 28) (args := #[.agg #[.int .i64 F, .slice ao l.length c], .agg #[.int .u64 (hI ex), .int .u64 (lI ex)]]) (by rfl) ?_ ?_ ?_
          · (intro w1 hC; clear hC; go_simp)
          · exact fun w1 hC => (K1.out w1 hC.2.2.2.1).mono fun e w' ⟨he, hb⟩ => ⟨he, hC.below hb⟩
          simp only [Act.put, List.setIfInBounds_toArray, List.set_cons_zero, List.set_cons_succ]
          refine q_run (v := .int .i64 fa) (by rfl) ?_ ?_
          · (intro w1 hC; obtain ⟨⟨t0, t1⟩, ⟨y0, y1⟩, ⟨x0, x1⟩, -, -⟩ := hC; go_simp; first | done | (simp; done) | (simp [*]; done) | omega | (simp; omega) | (rw [IntKind.wrap_i64]; omega) | (intro hx; omega) | rfl)
          simp only [Act.put, List.setIfInBounds_toArray, List.set_cons_zero, List.set_cons_succ]
          refine wpQuiet_nil ?_
          intro V1 hC
          have HI1 := hidR (HpM.below (mixK_heap w F (.slice ao l.length c) (.slice bo m.length d)) HI.out hC.2.2.2.2)
          clear hC HI
          have HC5 : Hid (UC w V1 F (.slice ao l.length c) (.slice bo m.length d) ga (k * 2) ex V1) := hidR ⟨HI1.out.k.1, HI1.out.k.2.1, HY.out V1 HI1.out.at', HI1.out.bel, Below.refl _ _⟩
          go_wp2_with fail
          refine q_region (C := UC w V1 F (.slice ao l.length c) (.slice bo m.length d) ga (k * 2) ex) (by kernel_rfl) (by kernel_rfl) (HC5.out.below (below_drewN (Below.refl _ _) 1)) ?_
          clear HC5
          refine q_run (v := .agg #[.int .i64 F, .slice bo m.length d]) (by rfl) ?_ ?_
          · (intro w1 hC; obtain ⟨⟨t0, t1⟩, ⟨y0, y1⟩, ⟨x0, x1⟩, -, -⟩ := hC; go_simp; first | done | (simp; done) | (simp [*]; done) | omega | (simp; omega) | (rw [IntKind.wrap_i64]; omega) | (intro hx; omega) | rfl)
          simp only [Act.put, List.setIfInBounds_toArray, List.set_cons_zero, List.set_cons_succ]
          refine q_run (v := .slice (some ⟨ga, 0, none⟩) E.length ca) (by rfl) ?_ ?_
          · (intro w1 hC; obtain ⟨⟨t0, t1⟩, ⟨y0, y1⟩, ⟨x0, x1⟩, -, -⟩ := hC; go_simp; first | done | (simp; done) | (simp [*]; done) | omega | (simp; omega) | (rw [IntKind.wrap_i64]; omega) | (intro hx; omega) | rfl)
          simp only [Act.put, List.setIfInBounds_toArray, List.set_cons_zero, List.set_cons_succ]
          refine q_run (v := .int .i64 (k : Int)) (by rfl) ?_ ?_
          · (intro w1 hC; obtain ⟨⟨t0, t1⟩, ⟨y0, y1⟩, ⟨x0, x1⟩, -, -⟩ := hC; go_simp; first | done | (simp; done) | (simp [*]; done) | omega | (simp; omega) | (rw [IntKind.wrap_i64]; omega) | (intro hx; omega) | rfl)
          simp only [Act.put, List.setIfInBounds_toArray, List.set_cons_zero, List.set_cons_succ]
          refine q_run (v := .pointer (some ⟨ga, k * 2, none⟩)) (by rfl) ?_ ?_
          · (intro w1 hC; obtain ⟨⟨t0, t1⟩, ⟨y0, y1⟩, ⟨x0, x1⟩, -, -⟩ := hC; go_simp; first | done | (simp; done) | (simp [*]; done) | omega | (simp; omega) | (rw [IntKind.wrap_i64]; omega) | (intro hx; omega) | rfl)
          simp only [Act.put, List.setIfInBounds_toArray, List.set_cons_zero, List.set_cons_succ]
          refine q_run (v := .agg #[.int .u64 (hI ex), .int .u64 (lI ex)]) (by rfl) ?_ ?_
          · (intro w1 hC; obtain ⟨⟨t0, t1⟩, ⟨y0, y1⟩, ⟨x0, x1⟩, -, -⟩ := hC; go_simp; first | done | (simp; done) | (simp [*]; done) | omega | (simp; omega) | (rw [IntKind.wrap_i64]; omega) | (intro hx; omega) | rfl)
          simp only [Act.put, List.setIfInBounds_toArray, List.set_cons_zero, List.set_cons_succ]
          refine q_call (v := .int .i64 fb) (f := 28) (args := #[.agg #[.int .i64 F, .slice bo m.length d], .agg #[.int .u64 (hI ex), .int .u64 (lI ex)]]) (by rfl) ?_ ?_ ?_
          · (intro w1 hC; clear hC; go_simp)
          · exact fun w1 hC => (K2.out w1 hC.2.2.2.1).mono fun e w' ⟨he, hb⟩ => ⟨he, hC.below hb⟩
          simp only [Act.put, List.setIfInBounds_toArray, List.set_cons_zero, List.set_cons_succ]
          refine q_run (v := .int .i64 fb) (by rfl) ?_ ?_
          · (intro w1 hC; obtain ⟨⟨t0, t1⟩, ⟨y0, y1⟩, ⟨x0, x1⟩, -, -⟩ := hC; go_simp; first | done | (simp; done) | (simp [*]; done) | omega | (simp; omega) | (rw [IntKind.wrap_i64]; omega) | (intro hx; omega) | rfl)
          simp only [Act.put, List.setIfInBounds_toArray, List.set_cons_zero, List.set_cons_succ]
          refine wpQuiet_nil ?_
          intro V2 hC
          have HI2 := hidR (HpM.below (mixK_heap w F (.slice ao l.length c) (.slice bo m.length d)) HI1.out hC.2.2.2.2)
          clear hC HI1 K1 K2 HY
          cases less with
          | true =>
            by_cases hb0 : fb = 0
            · have dn : (fb != 0) = false := by simp [hb0]
              have hq := bl1 V2 (.cells #[.int .i64 fa] 3)
              have HI3 := hidR (HpM.below (mixK_heap w F (.slice ao l.length c) (.slice bo m.length d)) HI2.out hq)
              have hownN := HI2.out.hp
              rw [HHL.out] at hownN
              have HEQ : Hid (qOf true fa fb = fa) := hidR (by unfold qOf qLess; rw [if_pos rfl, if_pos hb0])
              clear hq HI2
              go_wp2_with (first | (
                  at_builtin
                  refine wpList_append_lies _ rfl _ _ 59 rfl B0 3 i0 (.int .i64 0) 1 8 Tryz.underlying59 hi hz0 hz1 hz2 rfl (by decide) _ _ _ rfl (hownN.alloc _) ⟨V2.heap.size, 0, none⟩ 1 1 [.int .i64 fa] rfl rfl (newsI (by simp [go_sem])) (oneI _) (by decide) (by unfold maxLen; omega) (by omega) (by have := HI3.out.bs; simpa using this) _ rfl ?_
                  intro g4 cap4 w4 hown4 hgrow hat hlt4
                  have HI4 := hidR (HpM.app (mixK_heap w F (.slice ao l.length c) (.slice bo m.length d)) HI3.out HHL.out (fa) g4 cap4 hown4 hgrow)
                  clear hgrow hat hown4 hlt4 HI3 hownN))
              go_wp2
              go_roundw
              case rel => exact ⟨k + 1, _, by omega, by go_num, rfl, by rw [HTE.out, HEQ.out]; exact HI4⟩
              case measure => simp [intOf]; omega
            · have dn : (fb != 0) = true := by simp [hb0]
              have hq := bl1 V2 (.cells #[.int .i64 0] 3)
              have HI3 := hidR (HpM.below (mixK_heap w F (.slice ao l.length c) (.slice bo m.length d)) HI2.out hq)
              have hownN := HI2.out.hp
              rw [HHL.out] at hownN
              have HEQ : Hid (qOf true fa fb = 0) := hidR (by unfold qOf qLess; rw [if_pos rfl, if_neg hb0])
              clear hq HI2
              go_wp2_with (first | (
                  at_builtin
                  refine wpList_append_lies _ rfl _ _ 59 rfl B0 3 i0 (.int .i64 0) 1 8 Tryz.underlying59 hi hz0 hz1 hz2 rfl (by decide) _ _ _ rfl (hownN.alloc _) ⟨V2.heap.size, 0, none⟩ 1 1 [.int .i64 0] rfl rfl (newsI (by simp [go_sem])) (oneI _) (by decide) (by unfold maxLen; omega) (by omega) (by have := HI3.out.bs; simpa using this) _ rfl ?_
                  intro g4 cap4 w4 hown4 hgrow hat hlt4
                  have HI4 := hidR (HpM.app (mixK_heap w F (.slice ao l.length c) (.slice bo m.length d)) HI3.out HHL.out (0) g4 cap4 hown4 hgrow)
                  clear hgrow hat hown4 hlt4 HI3 hownN))
              go_wp2
              go_roundw
              case rel => exact ⟨k + 1, _, by omega, by go_num, rfl, by rw [HTE.out, HEQ.out]; exact HI4⟩
              case measure => simp [intOf]; omega
          | false =>
            by_cases ha0 : fa = 0
            · have dn : (fa == 0) = true := by simp [ha0]
              have hq := bl1 V2 (.cells #[.int .i64 fb] 3)
              have HI3 := hidR (HpM.below (mixK_heap w F (.slice ao l.length c) (.slice bo m.length d)) HI2.out hq)
              have hownN := HI2.out.hp
              rw [HHL.out] at hownN
              have HEQ : Hid (qOf false fa fb = fb) := hidR (by unfold qOf qOver; rw [if_neg (by decide), if_pos ha0])
              clear hq HI2
              go_wp2_with (first | (
                  at_builtin
                  refine wpList_append_lies _ rfl _ _ 59 rfl B0 3 i0 (.int .i64 0) 1 8 Tryz.underlying59 hi hz0 hz1 hz2 rfl (by decide) _ _ _ rfl (hownN.alloc _) ⟨V2.heap.size, 0, none⟩ 1 1 [.int .i64 fb] rfl rfl (newsI (by simp [go_sem])) (oneI _) (by decide) (by unfold maxLen; omega) (by omega) (by have := HI3.out.bs; simpa using this) _ rfl ?_
                  intro g4 cap4 w4 hown4 hgrow hat hlt4
                  have HI4 := hidR (HpM.app (mixK_heap w F (.slice ao l.length c) (.slice bo m.length d)) HI3.out HHL.out (fb) g4 cap4 hown4 hgrow)
                  clear hgrow hat hown4 hlt4 HI3 hownN))
              go_wp2
              go_roundw
              case rel => exact ⟨k + 1, _, by omega, by go_num, rfl, by rw [HTE.out, HEQ.out]; exact HI4⟩
              case measure => simp [intOf]; omega
            · have dn : (fa == 0) = false := by simp [ha0]
              have hq := bl1 V2 (.cells #[.int .i64 fa] 3)
              have HI3 := hidR (HpM.below (mixK_heap w F (.slice ao l.length c) (.slice bo m.length d)) HI2.out hq)
              have hownN := HI2.out.hp
              rw [HHL.out] at hownN
              have HEQ : Hid (qOf false fa fb = fa) := hidR (by unfold qOf qOver; rw [if_neg (by decide), if_neg ha0])
              clear hq HI2
              go_wp2_with (first | (
                  at_builtin
                  refine wpList_append_lies _ rfl _ _ 59 rfl B0 3 i0 (.int .i64 0) 1 8 Tryz.underlying59 hi hz0 hz1 hz2 rfl (by decide) _ _ _ rfl (hownN.alloc _) ⟨V2.heap.size, 0, none⟩ 1 1 [.int .i64 fa] rfl rfl (newsI (by simp [go_sem])) (oneI _) (by decide) (by unfold maxLen; omega) (by omega) (by have := HI3.out.bs; simpa using this) _ rfl ?_
                  intro g4 cap4 w4 hown4 hgrow hat hlt4
                  have HI4 := hidR (HpM.app (mixK_heap w F (.slice ao l.length c) (.slice bo m.length d)) HI3.out HHL.out (fa) g4 cap4 hown4 hgrow)
                  clear hgrow hat hown4 hlt4 HI3 hownN))
              go_wp2
              go_roundw
              case rel => exact ⟨k + 1, _, by omega, by go_num, rfl, by rw [HTE.out, HEQ.out]; exact HI4⟩
              case measure => simp [intOf]; omega
        · have hd : ¬ k < E.length := by omega
          have hke : E.take k = E := List.take_of_length_le (by omega)
          rw [hke] at HI
          have hlE : (E.map fun e => qOf less (look e 0 l) (look e 0 m)).length = E.length := by simp
          obtain ⟨gh, ch, rfl, -, -⟩ := HI.out.hp.form (by rw [hlE]; exact hEp)
          rw [hlE]
          have hZl : (E.map fun e => (e, qOf less (look e 0 l) (look e 0 m))).length = E.length := by simp
          obtain ⟨hs1, hs2⟩ := HSG.out
          have hTl : (jnd (qOf less) (swp F l) (swp F m)).length ≤ 1000000000 := by
            have a := jnd_len (qOf less) (swp F l) (swp F m)
            have h3 := swp_len F l
            have h4 := swp_len F m
            omega
          have HJ : Hid (∀ W, Below wr.heap.size wr W → Calls Tryz.prog 30 #[.int .i64 F, .slice (some ⟨ga, 0, none⟩) E.length ca, .slice (some ⟨gh, 0, none⟩) E.length ch] W fun e w' => ∃ v, e = .returned v ∧ w'.ownsRow W.heap.size 47 5 v (jnd (qOf less) (swp F l) (swp F m)).length (rowG (jnd (qOf less) (swp F l) (swp F m))) ∧ Below W.heap.size W w') := hidR (fun W hb => by
            have KJ := rjoined_any F ga ca gh ch (E.map fun e => (e, qOf less (look e 0 l) (look e 0 m))) W (fun k h => by
              have := ownW_cells (own_below hb HI.out.at') k (by simpa using h)
              simpa using this) (fun k h => by
              have := ownI_cells (l := E.map fun e => qOf less (look e 0 l) (look e 0 m)) (by have := own_below hb HI.out.hp; simpa using this) k (by simpa using h)
              simpa using this) (by rw [hZl]; omega)
            have hl2 : (jn F [] (E.map fun e => (e, qOf less (look e 0 l) (look e 0 m)))).length = (jnd (qOf less) (swp F l) (swp F m)).length := by rw [← hs1, List.length_reverse]
            rw [hZl, hs1, hl2] at KJ
            exact KJ)
          have HC : Hid (∀ W, Below wr.heap.size wr W → ∀ v, W.ownsRow wr.heap.size 47 5 v (jnd (qOf less) (swp F l) (swp F m)).length (rowG (jnd (qOf less) (swp F l) (swp F m))) → Calls Tryz.prog 29 #[.int .i64 F, v] W fun e w' => (∃ v', e = .returned (.tuple #[.agg #[.int .i64 (tabW F (jnd (qOf less) (swp F l) (swp F m))), v'], .int .i64 (tabX F (jnd (qOf less) (swp F l) (swp F m)))]) ∧ w'.ownsRow W.heap.size 45 4 v' (tabL F (jnd (qOf less) (swp F l) (swp F m))).length (rowR (tabL F (jnd (qOf less) (swp F l) (swp F m))))) ∧ Below W.heap.size W w') := hidR (fun W hb v hv => by
            have KT := rtab6_any F v _ W (own_rwg hv) hTl
            obtain ⟨e1, e2, e3⟩ := t_yes (sgsE_zero HOK.out.1 hs2)
            rw [e1, e2, e3] at KT
            exact KT)
          have HVV : Hid (OfV (qOf less) F l F m 0 = (tabW F (jnd (qOf less) (swp F l) (swp F m)), tabX F (jnd (qOf less) (swp F l) (swp F m)), tabL F (jnd (qOf less) (swp F l) (swp F m)))) := hidR (by rw [OfV, if_pos rfl])
          have HT2 : Hid (∀ W, Below wr.heap.size wr W → AtT W w.heap.size F (.slice ao l.length c)) := hidR (fun W hb => HI.out.k.1.below hb)
          have HC0 : Hid (AtU wr (w.heap.size + 1 + 1) 0 (.slice none 0 0) ∧ w.heap.size ≤ w.heap.size + 1 + 1) := hidR ⟨HI.out.k.2.2, by omega⟩
          have HBw := hidR HI.out.bel
          clear HI hke hZl hlE hs1 hs2 hTl HSG
          revert HJ HC HVV
          generalize jnd (qOf less) (swp F l) (swp F m) = T
          intro HJ HC HVV
          go_wp2_with fail
          refine gh_region (γ := (Option Addr × Nat) × (Option Addr × Nat)) (qpOk 12 12 (by decide) (fun N => by kernel_rfl) (by kernel_rfl) (by kernel_rfl) (by kernel_rfl) (by kernel_rfl)) (by kernel_rfl) (by kernel_rfl) [some 61, some 62, some 63, some 64, some 65, some 66, some 67, some 68, some 69, some 70, none, some 7] (fun g => [.pointer (some ⟨w.heap.size, 0, none⟩), .int .i64 F, .pointer (some ⟨w.heap.size, 0, none⟩), .int .i64 F, .slice (some ⟨ga, 0, none⟩) E.length ca, .slice (some ⟨gh, 0, none⟩) E.length ch, .slice g.1.1 T.length g.1.2, .tuple #[.agg #[.int .i64 (tabW F T), .slice g.2.1 (tabL F T).length g.2.2], .int .i64 (tabX F T)], .agg #[.int .i64 (tabW F T), .slice g.2.1 (tabL F T).length g.2.2], .int .i64 (tabX F T), undef, .int .i64 (tabX F T)]) (by kernel_rfl) (by simp) (fun lp g W => RC w wr (w.heap.size + 1 + 1) F T 6 (fun j => lp.getD j false) g W) ((none, 0), (none, 0)) (RC.start ⟨HC0.out, HBw.out⟩ (fun j => by simp [Array.getElem?_replicate]; split <;> rfl)) ?step ?fin
          case step =>
            intro q o lp g w' a' ho hsz hun hdep hR hS K Q' hK
            have hfl : ∀ j, j ≠ q → (lp.setIfInBounds q true).getD j false = lp.getD j false := fun j hj => by rw [Array.getD_eq_getD_getElem?, Array.getD_eq_getD_getElem?, Array.getElem?_setIfInBounds_ne (by omega)]
            have hq : q < 12 := (List.getElem?_eq_some_iff.mp ho).1
            have hft : (lp.setIfInBounds q true).getD q false = true := getD_set_same (by rw [hsz]; exact hq)
            match q, ho, hun, hdep, hK, hfl, hft, hq with
            | 0, ho, hun, hdep, hK, hfl, hft, _ =>
              obtain rfl := Option.some.inj ho
              have o3 : a'.tmps[3]? = some (.pointer (some ⟨w.heap.size, 0, none⟩)) := (hS.old 3 (by simp)).trans rfl
              have hK' := hK g w' (fun _ _ _ _ _ _ => rfl) (hR.quiet (i := 0) (by decide) (by decide) (by decide) hun hft hfl (fun h => absurd h (by decide))) (.pointer (some ⟨w.heap.size, 0, none⟩)) (by simp only [valO, Option.bind_some]; simp only [putAll, Act.put, List.setIfInBounds_toArray, List.set_cons_zero, List.set_cons_succ]; rfl)
              clear hS hdep hR
              refine gh_quiet (v := .pointer (some ⟨w.heap.size, 0, none⟩)) ?_ ?_
              · (simp only [execOp, Act.eval, o3]; go_simp; first | done | (simp; done) | (simp [*]; done) | omega | (simp; omega))
              · exact hK'
            | 1, ho, hun, hdep, hK, hfl, hft, _ =>
              obtain rfl := Option.some.inj ho
              have d0 : lp.getD 0 false = true := hdep { on := 0, ground := .data } (by simp) rfl
              have e61 : a'.tmps[61]? = some (.pointer (some ⟨w.heap.size, 0, none⟩)) := (hS.don 0 _ 61 rfl d0 rfl).trans (by simp only [putAll, Act.put, List.setIfInBounds_toArray, List.set_cons_zero, List.set_cons_succ]; rfl)
              obtain ⟨t0, t1⟩ := HT2.out w' (hR.bel (hR.now (i := 1) (by decide) hun))
              have hK' := hK g w' (fun _ _ _ _ _ _ => rfl) (hR.quiet (i := 1) (by decide) (by decide) (by decide) hun hft hfl (fun h => absurd h (by decide))) (.int .i64 F) (by simp only [valO, Option.bind_some]; simp only [putAll, Act.put, List.setIfInBounds_toArray, List.set_cons_zero, List.set_cons_succ]; rfl)
              clear hS hdep hR
              refine gh_quiet (v := .int .i64 F) ?_ ?_
              · (simp only [execOp, Act.eval, e61]; go_simp; first | done | (simp; done) | (simp [*]; done) | omega | (simp; omega))
              · exact hK'
            | 2, ho, hun, hdep, hK, hfl, hft, _ =>
              obtain rfl := Option.some.inj ho
              have o3 : a'.tmps[3]? = some (.pointer (some ⟨w.heap.size, 0, none⟩)) := (hS.old 3 (by simp)).trans rfl
              have hK' := hK g w' (fun _ _ _ _ _ _ => rfl) (hR.quiet (i := 2) (by decide) (by decide) (by decide) hun hft hfl (fun h => absurd h (by decide))) (.pointer (some ⟨w.heap.size, 0, none⟩)) (by simp only [valO, Option.bind_some]; simp only [putAll, Act.put, List.setIfInBounds_toArray, List.set_cons_zero, List.set_cons_succ]; rfl)
              clear hS hdep hR
              refine gh_quiet (v := .pointer (some ⟨w.heap.size, 0, none⟩)) ?_ ?_
              · (simp only [execOp, Act.eval, o3]; go_simp; first | done | (simp; done) | (simp [*]; done) | omega | (simp; omega))
              · exact hK'
            | 3, ho, hun, hdep, hK, hfl, hft, _ =>
              obtain rfl := Option.some.inj ho
              have d2 : lp.getD 2 false = true := hdep { on := 2, ground := .data } (by simp) rfl
              have e63 : a'.tmps[63]? = some (.pointer (some ⟨w.heap.size, 0, none⟩)) := (hS.don 2 _ 63 rfl d2 rfl).trans (by simp only [putAll, Act.put, List.setIfInBounds_toArray, List.set_cons_zero, List.set_cons_succ]; rfl)
              obtain ⟨t0, t1⟩ := HT2.out w' (hR.bel (hR.now (i := 3) (by decide) hun))
              have hK' := hK g w' (fun _ _ _ _ _ _ => rfl) (hR.quiet (i := 3) (by decide) (by decide) (by decide) hun hft hfl (fun h => absurd h (by decide))) (.int .i64 F) (by simp only [valO, Option.bind_some]; simp only [putAll, Act.put, List.setIfInBounds_toArray, List.set_cons_zero, List.set_cons_succ]; rfl)
              clear hS hdep hR
              refine gh_quiet (v := .int .i64 F) ?_ ?_
              · (simp only [execOp, Act.eval, e63]; go_simp; first | done | (simp; done) | (simp [*]; done) | omega | (simp; omega))
              · exact hK'
            | 4, ho, hun, hdep, hK, hfl, hft, _ =>
              obtain rfl := Option.some.inj ho
              have o9 : a'.tmps[9]? = some (.slice (some ⟨ga, 0, none⟩) E.length ca) := (hS.old 9 (by simp)).trans rfl
              have hK' := hK g w' (fun _ _ _ _ _ _ => rfl) (hR.quiet (i := 4) (by decide) (by decide) (by decide) hun hft hfl (fun h => absurd h (by decide))) (.slice (some ⟨ga, 0, none⟩) E.length ca) (by simp only [valO, Option.bind_some]; simp only [putAll, Act.put, List.setIfInBounds_toArray, List.set_cons_zero, List.set_cons_succ]; rfl)
              clear hS hdep hR
              refine gh_quiet (v := .slice (some ⟨ga, 0, none⟩) E.length ca) ?_ ?_
              · (simp only [execOp, Act.eval, o9]; go_simp; first | done | (simp; done) | (simp [*]; done) | omega | (simp; omega))
              · exact hK'
            | 5, ho, hun, hdep, hK, hfl, hft, _ =>
              obtain rfl := Option.some.inj ho
              have o10 : a'.tmps[10]? = some (.slice (some ⟨gh, 0, none⟩) E.length ch) := (hS.old 10 (by simp)).trans rfl
              have hK' := hK g w' (fun _ _ _ _ _ _ => rfl) (hR.quiet (i := 5) (by decide) (by decide) (by decide) hun hft hfl (fun h => absurd h (by decide))) (.slice (some ⟨gh, 0, none⟩) E.length ch) (by simp only [valO, Option.bind_some]; simp only [putAll, Act.put, List.setIfInBounds_toArray, List.set_cons_zero, List.set_cons_succ]; rfl)
              clear hS hdep hR
              refine gh_quiet (v := .slice (some ⟨gh, 0, none⟩) E.length ch) ?_ ?_
              · (simp only [execOp, Act.eval, o10]; go_simp; first | done | (simp; done) | (simp [*]; done) | omega | (simp; omega))
              · exact hK'
            | 6, ho, hun, hdep, hK, hfl, hft, _ =>
              obtain rfl := Option.some.inj ho
              have d3 : lp.getD 3 false = true := hdep { on := 3, ground := .data } (by simp) rfl
              have e64 : a'.tmps[64]? = some (.int .i64 F) := (hS.don 3 _ 64 rfl d3 rfl).trans (by simp only [putAll, Act.put, List.setIfInBounds_toArray, List.set_cons_zero, List.set_cons_succ]; rfl)
              have d4 : lp.getD 4 false = true := hdep { on := 4, ground := .data } (by simp) rfl
              have e65 : a'.tmps[65]? = some (.slice (some ⟨ga, 0, none⟩) E.length ca) := (hS.don 4 _ 65 rfl d4 rfl).trans (by simp only [putAll, Act.put, List.setIfInBounds_toArray, List.set_cons_zero, List.set_cons_succ]; rfl)
              have d5 : lp.getD 5 false = true := hdep { on := 5, ground := .data } (by simp) rfl
              have e66 : a'.tmps[66]? = some (.slice (some ⟨gh, 0, none⟩) E.length ch) := (hS.don 5 _ 66 rfl d5 rfl).trans (by simp only [putAll, Act.put, List.setIfInBounds_toArray, List.set_cons_zero, List.set_cons_succ]; rfl)
              have hb1 := hR.bel (hR.now (i := 6) (by decide) hun)
              have KJ := HJ.out w' hb1
              unfold Oper.wp
              simp only [execOp, Act.eval]
              simp [e64, e65, e66, go_sem, Oper.upon]
              refine KJ.mono ?_
              rintro e w5 ⟨v5, rfl, hown, hb5⟩
              obtain ⟨ao5, c5, rfl⟩ := own_form hown
              exact hK ((ao5, c5), g.2) w5 (fun k ok s hk hl hd => gh_same (d := 67) (s := s) (by simp only [putAll, Act.put, List.setIfInBounds_toArray, List.set_cons_zero, List.set_cons_succ]; rfl) (by rintro rfl; have := dstG_of (by kernel_rfl) k 6 ok _ 67 hk rfl hd rfl; subst this; rw [hun] at hl; cases hl)) (hR.jo hun hft hfl hown hb5) _ (by simp only [valO, Option.bind_some]; simp only [putAll, Act.put, List.setIfInBounds_toArray, List.set_cons_zero, List.set_cons_succ]; rfl)
            | 7, ho, hun, hdep, hK, hfl, hft, _ =>
              obtain rfl := Option.some.inj ho
              have d1 : lp.getD 1 false = true := hdep { on := 1, ground := .data } (by simp) rfl
              have e62 : a'.tmps[62]? = some (.int .i64 F) := (hS.don 1 _ 62 rfl d1 rfl).trans (by simp only [putAll, Act.put, List.setIfInBounds_toArray, List.set_cons_zero, List.set_cons_succ]; rfl)
              have d6 : lp.getD 6 false = true := hdep { on := 6, ground := .data } (by simp) rfl
              have e67 : a'.tmps[67]? = some (.slice g.1.1 T.length g.1.2) := (hS.don 6 _ 67 rfl d6 rfl).trans (by simp only [putAll, Act.put, List.setIfInBounds_toArray, List.set_cons_zero, List.set_cons_succ]; rfl)
              have hb1 := hR.bel (hR.now (i := 7) (by decide) hun)
              have KC := HC.out w' hb1 _ (hR.j d6)
              unfold Oper.wp
              simp only [execOp, Act.eval]
              simp [e62, e67, go_sem, Oper.upon]
              refine KC.mono ?_
              rintro e w5 ⟨⟨v5, rfl, hown⟩, hb5⟩
              obtain ⟨ao5, c5, rfl⟩ := own_form hown
              have h7 : lp.getD 8 false = false := by
                cases h : lp.getD 8 false with
                | false => rfl
                | true => have := hR.cx h; rw [hun] at this; cases this
              refine hK (g.1, (ao5, c5)) w5 (fun k ok s hk hl hd => ?_) (hR.co hun hft hfl d6 hown hb5) _ (by simp only [valO, Option.bind_some]; simp only [putAll, Act.put, List.setIfInBounds_toArray, List.set_cons_zero, List.set_cons_succ]; rfl)
              refine gh_same2 (d := 68) (d2 := 69) (by simp only [putAll, Act.put, List.setIfInBounds_toArray, List.set_cons_zero, List.set_cons_succ]; try rfl) ?_ ?_
              · rintro rfl
                have := dstG_of (by kernel_rfl) k 7 ok _ 68 hk rfl hd rfl
                subst this
                rw [hun] at hl
                cases hl
              · rintro rfl
                have := dstG_of (by kernel_rfl) k 8 ok _ 69 hk rfl hd rfl
                subst this
                rw [h7] at hl
                cases hl
            | 8, ho, hun, hdep, hK, hfl, hft, _ =>
              obtain rfl := Option.some.inj ho
              have d7 : lp.getD 7 false = true := hdep { on := 7, ground := .data } (by simp) rfl
              have e68 : a'.tmps[68]? = some (.tuple #[.agg #[.int .i64 (tabW F T), .slice g.2.1 (tabL F T).length g.2.2], .int .i64 (tabX F T)]) := (hS.don 7 _ 68 rfl d7 rfl).trans (by simp only [putAll, Act.put, List.setIfInBounds_toArray, List.set_cons_zero, List.set_cons_succ]; rfl)
              have hK' := hK g w' (fun _ _ _ _ _ _ => rfl) (hR.quiet (i := 8) (by decide) (by decide) (by decide) hun hft hfl (fun _ => d7)) (.agg #[.int .i64 (tabW F T), .slice g.2.1 (tabL F T).length g.2.2]) (by simp only [valO, Option.bind_some]; simp only [putAll, Act.put, List.setIfInBounds_toArray, List.set_cons_zero, List.set_cons_succ]; rfl)
              clear hS hdep hR
              refine gh_quiet (v := .agg #[.int .i64 (tabW F T), .slice g.2.1 (tabL F T).length g.2.2]) ?_ ?_
              · (simp only [execOp, Act.eval, e68]; go_simp; first | done | (simp; done) | (simp [*]; done) | omega | (simp; omega))
              · exact hK'
            | 9, ho, hun, hdep, hK, hfl, hft, _ =>
              obtain rfl := Option.some.inj ho
              have d7 : lp.getD 7 false = true := hdep { on := 7, ground := .data } (by simp) rfl
              have e68 : a'.tmps[68]? = some (.tuple #[.agg #[.int .i64 (tabW F T), .slice g.2.1 (tabL F T).length g.2.2], .int .i64 (tabX F T)]) := (hS.don 7 _ 68 rfl d7 rfl).trans (by simp only [putAll, Act.put, List.setIfInBounds_toArray, List.set_cons_zero, List.set_cons_succ]; rfl)
              have hK' := hK g w' (fun _ _ _ _ _ _ => rfl) (hR.quiet (i := 9) (by decide) (by decide) (by decide) hun hft hfl (fun h => absurd h (by decide))) (.int .i64 (tabX F T)) (by simp only [valO, Option.bind_some]; simp only [putAll, Act.put, List.setIfInBounds_toArray, List.set_cons_zero, List.set_cons_succ]; rfl)
              clear hS hdep hR
              refine gh_quiet (v := .int .i64 (tabX F T)) ?_ ?_
              · (simp only [execOp, Act.eval, e68]; go_simp; first | done | (simp; done) | (simp [*]; done) | omega | (simp; omega))
              · exact hK'
            | 10, ho, hun, hdep, hK, hfl, hft, _ =>
              obtain rfl := Option.some.inj ho
              have d8 : lp.getD 8 false = true := hdep { on := 8, ground := .data } (by simp) rfl
              have e69 : a'.tmps[69]? = some (.agg #[.int .i64 (tabW F T), .slice g.2.1 (tabL F T).length g.2.2]) := (hS.don 8 _ 69 rfl d8 rfl).trans (by simp only [putAll, Act.put, List.setIfInBounds_toArray, List.set_cons_zero, List.set_cons_succ]; rfl)
              have o6 : a'.tmps[6]? = some (.pointer (some ⟨w.heap.size + 1 + 1, 0, none⟩)) := (hS.old 6 (by simp)).trans rfl
              have hall : ∀ j, j < 10 → lp.getD j false = true := by
                intro j hj
                match j, hj with
                | 0, _ => exact hdep { on := 0, ground := .phase } (by simp) rfl
                | 1, _ => exact hdep { on := 1, ground := .phase } (by simp) rfl
                | 2, _ => exact hdep { on := 2, ground := .phase } (by simp) rfl
                | 3, _ => exact hdep { on := 3, ground := .phase } (by simp) rfl
                | 4, _ => exact hdep { on := 4, ground := .phase } (by simp) rfl
                | 5, _ => exact hdep { on := 5, ground := .phase } (by simp) rfl
                | 6, _ => exact hdep { on := 6, ground := .phase } (by simp) rfl
                | 7, _ => exact hdep { on := 7, ground := .phase } (by simp) rfl
                | 8, _ => exact hdep { on := 8, ground := .phase } (by simp) rfl
                | 9, _ => exact hdep { on := 9, ground := .phase } (by simp) rfl
                | n + 10, h => exact absurd h (by omega)
              obtain ⟨z0, z1, f0, f1⟩ := hR.celln hun
              have hK' := hK g _ (fun _ _ _ _ _ _ => rfl) (hR.st hun hft hfl hall) undef rfl
              clear hS hdep hR
              unfold Oper.wp
              simp [execOp, Act.eval, e69, o6, go_sem, z0, z1, f0, f1, Oper.upon]
              exact hK'
            | 11, ho, hun, hdep, hK, hfl, hft, _ =>
              obtain rfl := Option.some.inj ho
              have d9 : lp.getD 9 false = true := hdep { on := 9, ground := .data } (by simp) rfl
              have e70 : a'.tmps[70]? = some (.int .i64 (tabX F T)) := (hS.don 9 _ 70 rfl d9 rfl).trans (by simp only [putAll, Act.put, List.setIfInBounds_toArray, List.set_cons_zero, List.set_cons_succ]; rfl)
              have hK' := hK g w' (fun _ _ _ _ _ _ => rfl) (hR.quiet (i := 11) (by decide) (by decide) (by decide) hun hft hfl (fun h => absurd h (by decide))) (.int .i64 (tabX F T)) (by simp only [valO, Option.bind_some]; simp only [putAll, Act.put, List.setIfInBounds_toArray, List.set_cons_zero, List.set_cons_succ]; rfl)
              clear hS hdep hR
              refine gh_quiet (v := .int .i64 (tabX F T)) ?_ ?_
              · (simp only [execOp, Act.eval, e70]; go_simp; first | done | (simp; done) | (simp [*]; done) | omega | (simp; omega))
              · exact hK'
            | n + 12, ho, hun, hdep, hK, hfl, hft, hq => exact absurd hq (by omega)
          case fin =>
            intro g W5 hR
            obtain ⟨hown, hlow, ⟨z0, z1, f0, f1⟩⟩ := hR.end (by simp) (by simp)
            have HOwn := hidR hown
            have HLow := hidR hlow
            simp only [putAll, Act.put, List.setIfInBounds_toArray, List.set_cons_zero, List.set_cons_succ]
            clear hR hown hlow
            refine wl_nil (P := Tryz.prog) (ops := #[]) ?_
            go_wp2
            exact bodyPost_ret (v := .tuple #[.agg #[.int .i64 (tabW F T), .slice g.2.1 (tabL F T).length g.2.2], .int .i64 (tabX F T)]) (by simp [results, Tryz.results23, go_sem, z0, z1]) rfl ⟨⟨0, _, HTW.out, by rw [HVV.out], by rw [HVV.out]; exact own_wide HOwn.out HBw.out.size⟩, HLow.out⟩
  · have hn : (z != 0) = true := by simpa using h0
    obtain ⟨n0, n1, n2, n3⟩ := HR1.out
    have HVV : Hid (OfV (qOf less) F l G m z = (0, z, [])) := hidR (by rw [OfV, if_neg h0])
    have HBs := hidR ((HB1.out.setCell (p := ⟨w.heap.size + 1 + 1, 0, none⟩) (by simp; omega) (.int .i64 0)).setCell (p := ⟨w.heap.size + 1 + 1, 1, none⟩) (by simp; omega) (.slice none 0 0))
    obtain ⟨k0, k1, -, -⟩ := HR1.out.set02 0 (.slice none 0 0)
    clear h0 HR1
    go_wp2
    exact bodyPost_ret (v := .tuple #[.agg #[.int .i64 0, .slice none 0 0], .int .i64 z]) (by simp [results, Tryz.results23, go_sem, k0, k1]) rfl ⟨⟨z, _, HTW.out, by rw [HVV.out], by rw [HVV.out]; exact World.ownsRow_nil _ _ _ _⟩, HBs.out⟩
end Go.Proofs.YtonagfmkplbooaaGreatDoor
