/-
  Part 29 of the proof: 2 texts, one behind the other.
-/
import Derived.Test.YtonagfmkplbooaaGreatDoorPart28
import Derived.Test.YtonagfmkplbooaaGreatDoorPart27
import Derived.Test.YtonagfmkplbooaaGreatDoorPart13
/-
  What the calls of package algebra's ofTwo, Over, Less and Only do.
-/
namespace Go.Proofs.YtonagfmkplbooaaGreatDoor
open Go.RowKit
set_option linter.unusedSimpArgs false
set_option linter.unusedVariables false

theorem over1_any (x y : Int) (w : World) : Calls Tryz.prog 16 #[.int .i64 x, .int .i64 y] w fun e w' => e = .returned (.int .i64 (qOver x y)) ∧ w' = w := by
  go_enter Tryz.func16, Tryz.ntmps16
  by_cases h : x = 0
  · have d1 : (x != 0) = false := by simp [h]
    have HE : Hid (qOver x y = y) := hidR (by rw [qOver, if_pos h])
    clear h
    go_wp2
    go_ret
    exact ⟨by rw [HE.out]; rfl, rfl⟩
  · have d1 : (x != 0) = true := by simp [h]
    have HE : Hid (qOver x y = x) := hidR (by rw [qOver, if_neg h])
    clear h
    go_wp2
    go_ret
    exact ⟨by rw [HE.out]; rfl, rfl⟩
theorem less1_any (x y : Int) (w : World) : Calls Tryz.prog 17 #[.int .i64 x, .int .i64 y] w fun e w' => e = .returned (.int .i64 (qLess x y)) ∧ w' = w := by
  go_enter Tryz.func17, Tryz.ntmps17
  by_cases h : y = 0
  · have d1 : (y != 0) = false := by simp [h]
    have HE : Hid (qLess x y = x) := hidR (by rw [qLess, if_pos h])
    clear h
    go_wp2
    go_ret
    exact ⟨by rw [HE.out]; rfl, rfl⟩
  · have d1 : (y != 0) = true := by simp [h]
    have HE : Hid (qLess x y = 0) := hidR (by rw [qLess, if_neg h])
    clear h
    go_wp2
    go_ret
    exact ⟨by rw [HE.out]; rfl, rfl⟩
theorem only1_any (x y : Int) (w : World) : Calls Tryz.prog 22 #[.int .i64 x, .int .i64 y] w fun e w' => e = .returned (.int .i64 (qOnly x y)) ∧ w' = w := by
  go_enter Tryz.func22, Tryz.ntmps22
  by_cases h : y = 0
  · have d1 : (y == 0) = true := by simp [h]
    have HE : Hid (qOnly x y = 0) := hidR (by rw [qOnly, if_pos h])
    clear h
    go_wp2
    go_ret
    exact ⟨by rw [HE.out]; rfl, rfl⟩
  · have d1 : (y == 0) = false := by simp [h]
    have HE : Hid (qOnly x y = x) := hidR (by rw [qOnly, if_neg h])
    clear h
    go_wp2
    go_ret
    exact ⟨by rw [HE.out]; rfl, rfl⟩
theorem AtU.below {W W' : World} {B : Nat} {F : Int} {v : Value} (k : AtU W B F v) (hb : Below W.heap.size W W') : AtU W' B F v := k.heap (hb.block B k.lt)
theorem AtU.set02 {W : World} {B : Nat} {F : Int} {v : Value} (k : AtU W B F v) (G : Int) (u : Value) : AtU ((W.setCell ⟨B, 0, none⟩ (.int .i64 G)).setCell ⟨B, 1, none⟩ u) B G u := by
  obtain ⟨a, b, c, d⟩ := k
  refine ⟨?_, ?_, ?_, ?_⟩ <;> simp [go_sem, *]
/-- What is known while the segments are joined, covered, and the table is laid into the result. -/
structure RC (w w2 : World) (N : Nat) (F : Int) (T : List Sg) (m : Nat) (f : Nat → Bool) (g : (Option Addr × Nat) × (Option Addr × Nat)) (W : World) : Prop where
  all : f (m + 4) = true → ∀ j, j < m + 4 → f j = true
  cm : f (m + 1) = true → f m = true
  cx : f (m + 2) = true → f (m + 1) = true
  n2 : w.heap.size ≤ N ∧ N < w2.heap.size
  low : Below w.heap.size w W
  bel : f (m + 4) = false → Below w2.heap.size w2 W
  siz : w2.heap.size ≤ W.heap.size
  j : f m = true → W.ownsRow w2.heap.size 47 5 (.slice g.1.1 T.length g.1.2) T.length (rowG T)
  c : f (m + 1) = true → W.ownsRow w2.heap.size 45 4 (.slice g.2.1 (tabL F T).length g.2.2) (tabL F T).length (rowR (tabL F T))
  cell : if f (m + 4) = true then AtU W N (tabW F T) (.slice g.2.1 (tabL F T).length g.2.2) else AtU W N 0 (.slice none 0 0)
theorem RC.start {w w2 : World} {N : Nat} {F : Int} {T : List Sg} {m : Nat} {f : Nat → Bool} {g : (Option Addr × Nat) × (Option Addr × Nat)} (h : (AtU w2 N 0 (.slice none 0 0) ∧ w.heap.size ≤ N) ∧ Below w.heap.size w w2) (hf : ∀ j, f j = false) : RC w w2 N F T m f g w2.drew := by
  have hd := below_drewN (Below.refl w2.heap.size w2) 1
  refine ⟨fun q => (by rw [hf] at q; cases q), fun q => (by rw [hf] at q; cases q), fun q => (by rw [hf] at q; cases q), ⟨h.1.2, h.1.1.lt⟩, below_drewN h.2 1, fun _ => hd, hd.size, fun q => (by rw [hf] at q; cases q), fun q => (by rw [hf] at q; cases q), ?_⟩
  rw [hf, if_neg (by decide)]
  exact h.1.1.below hd
section
variable {w w2 : World} {N : Nat} {F : Int} {T : List Sg} {m : Nat} {f f' : Nat → Bool} {g : (Option Addr × Nat) × (Option Addr × Nat)} {W W' : World} {i : Nat}
theorem RC.now (k : RC w w2 N F T m f g W) (hi : i < m + 4) (hun : f i = false) : f (m + 4) = false := by
  cases h : f (m + 4) with
  | false => rfl
  | true => have := k.all h i hi; rw [hun] at this; cases this
theorem RC.celln (k : RC w w2 N F T m f g W) (h : f (m + 4) = false) : AtU W N 0 (.slice none 0 0) := by
  have := k.cell
  rwa [h, if_neg (by decide)] at this
theorem RC.quiet (k : RC w w2 N F T m f g W) (h1 : i ≠ m) (h2 : i ≠ m + 1) (h3 : i ≠ m + 4) (hun : f i = false) (hs : f' i = true) (ho : ∀ j, j ≠ i → f' j = f j) (hx : i = m + 2 → f (m + 1) = true) : RC w w2 N F T m f' g W := by
  have e0 := ho m (Ne.symm h1)
  have e1 := ho (m + 1) (Ne.symm h2)
  have e4 := ho (m + 4) (Ne.symm h3)
  refine ⟨fun h j hj => ?_, fun h => ?_, fun h => ?_, k.n2, k.low, fun h => k.bel (by rwa [← e4]), k.siz, fun h => k.j (by rwa [← e0]), fun h => k.c (by rwa [← e1]), ?_⟩
  · by_cases e : j = i
    · rw [e]; exact hs
    · rw [ho j e]; exact k.all (by rwa [← e4]) j hj
  · rw [e0]; exact k.cm (by rwa [← e1])
  · rw [e1]
    by_cases e : m + 2 = i
    · exact hx e.symm
    · exact k.cx (by rwa [← ho _ e])
  · rw [e4]; exact k.cell
theorem RC.jo (k : RC w w2 N F T m f g W) (hun : f m = false) (hs : f' m = true) (ho : ∀ j, j ≠ m → f' j = f j) {ao : Option Addr} {c : Nat} (hown : W'.ownsRow W.heap.size 47 5 (.slice ao T.length c) T.length (rowG T)) (hb : Below W.heap.size W W') : RC w w2 N F T m f' ((ao, c), g.2) W' := by
  have n4 := k.now (i := m) (by omega) hun
  have n1 : f (m + 1) = false := by
    cases h : f (m + 1) with
    | false => rfl
    | true => have := k.cm h; rw [hun] at this; cases this
  have e1 := ho (m + 1) (by omega)
  have e2 := ho (m + 2) (by omega)
  have e4 := ho (m + 4) (by omega)
  refine ⟨fun h => (by rw [e4, n4] at h; cases h), fun _ => hs, fun h => ?_, k.n2, keepb hb k.low, fun _ => keepb hb (k.bel n4), Nat.le_trans k.siz hb.size, fun _ => own_wide hown k.siz, fun h => (by rw [e1, n1] at h; cases h), ?_⟩
  · rw [e1]; exact k.cx (by rwa [← e2])
  · rw [e4, n4, if_neg (by decide)]; exact (k.celln n4).below hb
theorem RC.co (k : RC w w2 N F T m f g W) (hun : f (m + 1) = false) (hs : f' (m + 1) = true) (ho : ∀ j, j ≠ m + 1 → f' j = f j) (hj : f m = true) {ao : Option Addr} {c : Nat} (hown : W'.ownsRow W.heap.size 45 4 (.slice ao (tabL F T).length c) (tabL F T).length (rowR (tabL F T))) (hb : Below W.heap.size W W') : RC w w2 N F T m f' (g.1, (ao, c)) W' := by
  have n4 := k.now (i := m + 1) (by omega) hun
  have e0 := ho m (by omega)
  have e4 := ho (m + 4) (by omega)
  refine ⟨fun h => (by rw [e4, n4] at h; cases h), fun _ => (by rw [e0]; exact hj), fun _ => hs, k.n2, keepb hb k.low, fun _ => keepb hb (k.bel n4), Nat.le_trans k.siz hb.size, fun h => own_below hb (k.j hj), fun _ => own_wide hown k.siz, ?_⟩
  rw [e4, n4, if_neg (by decide)]; exact (k.celln n4).below hb
theorem RC.st (k : RC w w2 N F T m f g W) (hun : f (m + 4) = false) (hs : f' (m + 4) = true) (ho : ∀ j, j ≠ m + 4 → f' j = f j) (hall : ∀ j, j < m + 4 → f j = true) : RC w w2 N F T m f' g ((W.setCell ⟨N, 0, none⟩ (.int .i64 (tabW F T))).setCell ⟨N, 1, none⟩ (.slice g.2.1 (tabL F T).length g.2.2)) := by
  have a : ∀ j, j < m + 4 → f' j = true := fun j hj => by rw [ho j (by omega)]; exact hall j hj
  have hk : ∀ z, ¬ z = N → ((W.setCell ⟨N, 0, none⟩ (.int .i64 (tabW F T))).setCell ⟨N, 1, none⟩ (.slice g.2.1 (tabL F T).length g.2.2)).heap[z]? = W.heap[z]? := fun z hz => by rw [hSet _ hz, hSet _ hz]
  have h2 := k.n2
  refine ⟨fun _ => a, fun _ => a m (by omega), fun _ => a (m + 1) (by omega), h2, (k.low.setCell (p := ⟨N, 0, none⟩) h2.1 _).setCell (p := ⟨N, 1, none⟩) h2.1 _, fun h => (by rw [hs] at h; cases h), by have := k.siz; simpa using this, fun _ => own_heap (k.j (hall m (by omega))) (fun z hz => hk z ?_), fun _ => own_heap (k.c (hall (m + 1) (by omega))) (fun z hz => hk z ?_), ?_⟩
  · have := (k.j (hall m (by omega))).lt z hz
    omega
  · have := (k.c (hall (m + 1) (by omega))).lt z hz
    omega
  · rw [hs, if_pos rfl]
    exact (k.celln hun).set02 _ _
theorem RC.end (k : RC w w2 N F T m f g W) (h1 : f (m + 1) = true) (h4 : f (m + 4) = true) : W.ownsRow w2.heap.size 45 4 (.slice g.2.1 (tabL F T).length g.2.2) (tabL F T).length (rowR (tabL F T)) ∧ Below w.heap.size w W ∧ AtU W N (tabW F T) (.slice g.2.1 (tabL F T).length g.2.2) := by
  have := k.cell
  rw [h4, if_pos rfl] at this
  exact ⟨k.c h1, k.low, this⟩
end
/-- What is told of two tables: their error, or the table of what is asked. -/
def OfV (fq : Int → Int → Int) (F : Int) (l : List Rte) (G : Int) (m : List Rte) (z : Int) : Int × Int × List Rte := if z = 0 then (tabW F (jnd fq (swp F l) (swp G m)), tabX F (jnd fq (swp F l) (swp G m)), tabL F (jnd fq (swp F l) (swp G m))) else (0, z, [])
/-- A table in a variable. -/
def AtW6 (W : World) (B : Nat) (F : Int) (v : Value) : Prop := W.cell? ⟨B, 0, none⟩ = some (.int .i64 F) ∧ W.cell? ⟨B, 1, none⟩ = some v ∧ True ∧ True
theorem AtW6.below {W W' : World} {B : Nat} {F : Int} {v : Value} (k : AtW6 W B F v) (hb : Below W.heap.size W W') : AtW6 W' B F v := ⟨keepc hb k.1, keepc hb k.2.1, trivial, trivial⟩
set_option maxRecDepth 20000 in
set_option maxHeartbeats 16000000 in
theorem ofTwo_any (fid : Nat) (fq : Int → Int → Int) (hq : ∀ x y W, Calls Tryz.prog fid #[.int .i64 x, .int .i64 y] W fun e W' => e = .returned (.int .i64 (fq x y)) ∧ W' = W) (heg : ∀ args w, (callFunc fid args).run Tryz.prog w = .ok (.enter fid args) w) (F : Int) (v : Value) (l : List Rte) (G : Int) (u : Value) (m : List Rte) (w : World) (hT : Tab w) (hv : RwR w v l) (hu : RwR w u m) :
    Calls Tryz.prog 15 #[.agg #[.int .i64 F, v], .agg #[.int .i64 G, u], .func (.func fid) #[] #[]] w fun e w' => (∃ z v', TwoE F l G m z ∧ e = .returned (.tuple #[.agg #[.int .i64 (OfV fq F l G m z).1, v'], .int .i64 (OfV fq F l G m z).2.1]) ∧ w'.ownsRow w.heap.size 45 4 v' (OfV fq F l G m z).2.2.length (rowR (OfV fq F l G m z).2.2)) ∧ Below w.heap.size w w' := by
  have q1 := bl1 w (.cells #[.int .i64 F, v] 24)
  have q2 := bl1 (w.alloc (.cells #[.int .i64 F, v] 24)) (.cells #[.int .i64 G, u] 24)
  have q3 := bl1 ((w.alloc (.cells #[.int .i64 F, v] 24)).alloc (.cells #[.int .i64 G, u] 24)) (.cells #[.int .i64 0, .slice none 0 0] 24)
  have HT := hidR (((att_new w w.heap.size F v 24 rfl).below q2).below q3)
  have HU := hidR ((att_new (w.alloc (.cells #[.int .i64 F, v] 24)) (w.heap.size + 1) G u 24 (by simp)).below q3)
  have HN : Hid (AtU ((((w.alloc (.cells #[.int .i64 F, v] 24)).alloc (.cells #[.int .i64 G, u] 24))).alloc (.cells #[.int .i64 0, .slice none 0 0] 24)) (w.heap.size + 1 + 1) 0 (.slice none 0 0)) := hidR (by refine ⟨?_, ?_, ?_, ?_⟩ <;> simp [go_sem])
  have HB := hidR (keepb q3 (keepb q2 q1))
  have HTab := hidR hT
  have HQ := hidR hq
  have HG := hidR heg
  have K1 := segsOfTwo_any F v l G u m _ (hv.below HB.out) (hu.below HB.out)
  obtain ⟨ao, c, rfl, -⟩ := hv
  obtain ⟨bo, d, rfl, -⟩ := hu
  obtain ⟨t0, t1⟩ := HT.out
  obtain ⟨y0, y1⟩ := HU.out
  clear q1 q2 q3 hT hq heg
  go_enter Tryz.func15, Tryz.ntmps15
  go_wp2_with fail
  refine K1.mono ?_
  rintro e w2 ⟨⟨z, va, vb, hz, rfl, hz1, hz2⟩, hb⟩
  have HB2 := hidR (keepb hb HB.out)
  have HT2' := hidR (HT.out.below hb)
  have HN2 := hidR (HN.out.below hb)
  have HZ := hidR hz
  clear K1 hb HB HT HU HN t0 t1 y0 y1 hz
  by_cases h0 : z = 0
  · subst h0
    obtain ⟨hA, hB'⟩ := hz1 rfl
    have HA := hidR (own_rwg hA)
    have HB' := hidR (own_rwg hB')
    obtain ⟨xo, xc, rfl⟩ := own_form hA
    obtain ⟨yo, yc, rfl⟩ := own_form hB'
    have HV : Hid (OfV fq F l G m 0 = (tabW F (jnd fq (swp F l) (swp G m)), tabX F (jnd fq (swp F l) (swp G m)), tabL F (jnd fq (swp F l) (swp G m)))) := hidR (by rw [OfV, if_pos rfl])
    have hlen : (swp F l).length + (swp G m).length ≤ 1000000000 := by
      obtain ⟨z1, z2, -⟩ := twoE_zero HZ.out
      have h1 := (tab_ok z1).2.1
      have h2 := (tab_ok z2).2.1
      have h3 := swp_len F l
      have h4 := swp_len G m
      omega
    have hjl : (jnd fq (swp F l) (swp G m)).length ≤ 1000000000 := Nat.le_trans (jnd_len _ _ _) hlen
    have HJ : Hid (∀ W, Below w2.heap.size w2 W → Calls Tryz.prog 21 #[.slice xo (swp F l).length xc, .slice yo (swp G m).length yc, .func (.func fid) #[] #[]] W fun e w' => ∃ v, e = .returned v ∧ w'.ownsRow W.heap.size 47 5 v (jnd fq (swp F l) (swp G m)).length (rowG (jnd fq (swp F l) (swp G m))) ∧ Below W.heap.size W w') := hidR (fun W hW => joined_any fid fq HQ.out HG.out _ _ _ _ hlen W (HA.out.below hW) (HB'.out.below hW))
    have HC : Hid (∀ W, Below w2.heap.size w2 W → ∀ v, W.ownsRow w2.heap.size 47 5 v (jnd fq (swp F l) (swp G m)).length (rowG (jnd fq (swp F l) (swp G m))) → Calls Tryz.prog 20 #[.int .i64 F, v] W fun e w' => (∃ v', e = .returned (.tuple #[.agg #[.int .i64 (tabW F (jnd fq (swp F l) (swp G m))), v'], .int .i64 (tabX F (jnd fq (swp F l) (swp G m)))]) ∧ w'.ownsRow W.heap.size 45 4 v' (tabL F (jnd fq (swp F l) (swp G m))).length (rowR (tabL F (jnd fq (swp F l) (swp G m))))) ∧ Below W.heap.size W w') := hidR (fun W hW v hv => covered_any F v _ W (HTab.out.keep (keepb hW HB2.out)) (own_rwg hv) hjl)
    have HC0 : Hid (AtU w2 (w.heap.size + 1 + 1) 0 (.slice none 0 0) ∧ w.heap.size ≤ w.heap.size + 1 + 1) := hidR ⟨HN2.out, by omega⟩
    have HT2 : Hid (AtW6 w2 w.heap.size F (.slice ao l.length c)) := hidR ⟨HT2'.out.1, HT2'.out.2, trivial, trivial⟩
    revert HV HJ HC
    generalize jnd fq (swp F l) (swp G m) = T
    intro HV HJ HC
    clear hz1 hz2 hA hB' hlen hjl HA HB' HN2 HT2' HQ HG
    go_wp2_with fail
    refine gh_region (γ := (Option Addr × Nat) × (Option Addr × Nat)) (qpOk 11 11 (by decide) (fun N => by kernel_rfl) (by kernel_rfl) (by kernel_rfl) (by kernel_rfl) (by kernel_rfl)) (by kernel_rfl) (by kernel_rfl) [some 22, some 23, some 24, some 25, some 26, some 27, some 28, some 29, some 30, none, some 7] (fun g => [.pointer (some ⟨w.heap.size, 0, none⟩), .int .i64 F, .slice xo (swp F l).length xc, .slice yo (swp G m).length yc, .func (.func fid) #[] #[], .slice g.1.1 T.length g.1.2, .tuple #[.agg #[.int .i64 (tabW F T), .slice g.2.1 (tabL F T).length g.2.2], .int .i64 (tabX F T)], .agg #[.int .i64 (tabW F T), .slice g.2.1 (tabL F T).length g.2.2], .int .i64 (tabX F T), undef, .int .i64 (tabX F T)]) (by kernel_rfl) (by simp) (fun lp g W => RC w w2 (w.heap.size + 1 + 1) F T 5 (fun j => lp.getD j false) g W) ((none, 0), (none, 0)) (RC.start ⟨HC0.out, HB2.out⟩ (fun j => by simp [Array.getElem?_replicate]; split <;> rfl)) ?step ?fin
    case step =>
      intro q o lp g w' a' ho hsz hun hdep hR hS K Q' hK
      have hfl : ∀ j, j ≠ q → (lp.setIfInBounds q true).getD j false = lp.getD j false := fun j hj => by rw [Array.getD_eq_getD_getElem?, Array.getD_eq_getD_getElem?, Array.getElem?_setIfInBounds_ne (by omega)]
      have hq : q < 11 := (List.getElem?_eq_some_iff.mp ho).1
      have hft : (lp.setIfInBounds q true).getD q false = true := getD_set_same (by rw [hsz]; exact hq)
      match q, ho, hun, hdep, hK, hfl, hft, hq with
      | 0, ho, hun, hdep, hK, hfl, hft, _ =>
        obtain rfl := Option.some.inj ho
        have o3 : a'.tmps[3]? = some (.pointer (some ⟨w.heap.size, 0, none⟩)) := (hS.old 3 (by simp)).trans rfl
        have hK' := hK g w' (fun _ _ _ _ _ _ => rfl) (hR.quiet (i := 0) (by decide) (by decide) (by decide) hun hft hfl (fun h => absurd h (by decide))) (.pointer (some ⟨w.heap.size, 0, none⟩)) (by simp only [valO, Option.bind_some]; simp only [putAll, Act.put, List.setIfInBounds_toArray, List.set_cons_zero, List.set_cons_succ]; rfl)
        clear hS hdep hR
        refine gh_quiet (v := .pointer (some ⟨w.heap.size, 0, none⟩)) ?_ ?_
        · (simp only [execOp, Act.eval, o3]; go_simp; first | done | (simp; done) | (simp [*]; done) | omega | (simp; omega))
        · exact hK'
      | 1, ho, hun, hdep, hK, hfl, hft, _ =>
        obtain rfl := Option.some.inj ho
        have d0 : lp.getD 0 false = true := hdep { on := 0, ground := .data } (by simp) rfl
        have e22 : a'.tmps[22]? = some (.pointer (some ⟨w.heap.size, 0, none⟩)) := (hS.don 0 _ 22 rfl d0 rfl).trans (by simp only [putAll, Act.put, List.setIfInBounds_toArray, List.set_cons_zero, List.set_cons_succ]; rfl)
        obtain ⟨t0, t1, -, -⟩ := AtW6.below HT2.out (hR.bel (hR.now (i := 1) (by decide) hun))
        have hK' := hK g w' (fun _ _ _ _ _ _ => rfl) (hR.quiet (i := 1) (by decide) (by decide) (by decide) hun hft hfl (fun h => absurd h (by decide))) (.int .i64 F) (by simp only [valO, Option.bind_some]; simp only [putAll, Act.put, List.setIfInBounds_toArray, List.set_cons_zero, List.set_cons_succ]; rfl)
        clear hS hdep hR
        refine gh_quiet (v := .int .i64 F) ?_ ?_
        · (simp only [execOp, Act.eval, e22]; go_simp; first | done | (simp; done) | (simp [*]; done) | omega | (simp; omega))
        · exact hK'
      | 2, ho, hun, hdep, hK, hfl, hft, _ =>
        obtain rfl := Option.some.inj ho
        have o8 : a'.tmps[8]? = some (.slice xo (swp F l).length xc) := (hS.old 8 (by simp)).trans rfl
        have hK' := hK g w' (fun _ _ _ _ _ _ => rfl) (hR.quiet (i := 2) (by decide) (by decide) (by decide) hun hft hfl (fun h => absurd h (by decide))) (.slice xo (swp F l).length xc) (by simp only [valO, Option.bind_some]; simp only [putAll, Act.put, List.setIfInBounds_toArray, List.set_cons_zero, List.set_cons_succ]; rfl)
        clear hS hdep hR
        refine gh_quiet (v := .slice xo (swp F l).length xc) ?_ ?_
        · (simp only [execOp, Act.eval, o8]; go_simp; first | done | (simp; done) | (simp [*]; done) | omega | (simp; omega))
        · exact hK'
      | 3, ho, hun, hdep, hK, hfl, hft, _ =>
        obtain rfl := Option.some.inj ho
        have o9 : a'.tmps[9]? = some (.slice yo (swp G m).length yc) := (hS.old 9 (by simp)).trans rfl
        have hK' := hK g w' (fun _ _ _ _ _ _ => rfl) (hR.quiet (i := 3) (by decide) (by decide) (by decide) hun hft hfl (fun h => absurd h (by decide))) (.slice yo (swp G m).length yc) (by simp only [valO, Option.bind_some]; simp only [putAll, Act.put, List.setIfInBounds_toArray, List.set_cons_zero, List.set_cons_succ]; rfl)
        clear hS hdep hR
        refine gh_quiet (v := .slice yo (swp G m).length yc) ?_ ?_
        · (simp only [execOp, Act.eval, o9]; go_simp; first | done | (simp; done) | (simp [*]; done) | omega | (simp; omega))
        · exact hK'
      | 4, ho, hun, hdep, hK, hfl, hft, _ =>
        obtain rfl := Option.some.inj ho
        have o2 : a'.tmps[2]? = some (.func (.func fid) #[] #[]) := (hS.old 2 (by simp)).trans rfl
        have hK' := hK g w' (fun _ _ _ _ _ _ => rfl) (hR.quiet (i := 4) (by decide) (by decide) (by decide) hun hft hfl (fun h => absurd h (by decide))) (.func (.func fid) #[] #[]) (by simp only [valO, Option.bind_some]; simp only [putAll, Act.put, List.setIfInBounds_toArray, List.set_cons_zero, List.set_cons_succ]; rfl)
        clear hS hdep hR
        refine gh_quiet (v := .func (.func fid) #[] #[]) ?_ ?_
        · (simp only [execOp, Act.eval, o2]; go_simp; first | done | (simp; done) | (simp [*]; done) | omega | (simp; omega))
        · exact hK'
      | 5, ho, hun, hdep, hK, hfl, hft, _ =>
        obtain rfl := Option.some.inj ho
        have d2 : lp.getD 2 false = true := hdep { on := 2, ground := .data } (by simp) rfl
        have e24 : a'.tmps[24]? = some (.slice xo (swp F l).length xc) := (hS.don 2 _ 24 rfl d2 rfl).trans (by simp only [putAll, Act.put, List.setIfInBounds_toArray, List.set_cons_zero, List.set_cons_succ]; rfl)
        have d3 : lp.getD 3 false = true := hdep { on := 3, ground := .data } (by simp) rfl
        have e25 : a'.tmps[25]? = some (.slice yo (swp G m).length yc) := (hS.don 3 _ 25 rfl d3 rfl).trans (by simp only [putAll, Act.put, List.setIfInBounds_toArray, List.set_cons_zero, List.set_cons_succ]; rfl)
        have d4 : lp.getD 4 false = true := hdep { on := 4, ground := .data } (by simp) rfl
        have e26 : a'.tmps[26]? = some (.func (.func fid) #[] #[]) := (hS.don 4 _ 26 rfl d4 rfl).trans (by simp only [putAll, Act.put, List.setIfInBounds_toArray, List.set_cons_zero, List.set_cons_succ]; rfl)
        have hb1 := hR.bel (hR.now (i := 5) (by decide) hun)
        have KJ := HJ.out w' hb1
        unfold Oper.wp
        simp only [execOp, Act.eval]
        simp [e24, e25, e26, go_sem, Oper.upon]
        refine KJ.mono ?_
        rintro e w5 ⟨v5, rfl, hown, hb5⟩
        obtain ⟨ao5, c5, rfl⟩ := own_form hown
        exact hK ((ao5, c5), g.2) w5 (fun k ok s hk hl hd => gh_same (d := 27) (s := s) (by simp only [putAll, Act.put, List.setIfInBounds_toArray, List.set_cons_zero, List.set_cons_succ]; rfl) (by rintro rfl; have := dstG_of (by kernel_rfl) k 5 ok _ 27 hk rfl hd rfl; subst this; rw [hun] at hl; cases hl)) (hR.jo hun hft hfl hown hb5) _ (by simp only [valO, Option.bind_some]; simp only [putAll, Act.put, List.setIfInBounds_toArray, List.set_cons_zero, List.set_cons_succ]; rfl)
      | 6, ho, hun, hdep, hK, hfl, hft, _ =>
        obtain rfl := Option.some.inj ho
        have d1 : lp.getD 1 false = true := hdep { on := 1, ground := .data } (by simp) rfl
        have e23 : a'.tmps[23]? = some (.int .i64 F) := (hS.don 1 _ 23 rfl d1 rfl).trans (by simp only [putAll, Act.put, List.setIfInBounds_toArray, List.set_cons_zero, List.set_cons_succ]; rfl)
        have d5 : lp.getD 5 false = true := hdep { on := 5, ground := .data } (by simp) rfl
        have e27 : a'.tmps[27]? = some (.slice g.1.1 T.length g.1.2) := (hS.don 5 _ 27 rfl d5 rfl).trans (by simp only [putAll, Act.put, List.setIfInBounds_toArray, List.set_cons_zero, List.set_cons_succ]; rfl)
        have hb1 := hR.bel (hR.now (i := 6) (by decide) hun)
        have KC := HC.out w' hb1 _ (hR.j d5)
        unfold Oper.wp
        simp only [execOp, Act.eval]
        simp [e23, e27, go_sem, Oper.upon]
        refine KC.mono ?_
        rintro e w5 ⟨⟨v5, rfl, hown⟩, hb5⟩
        obtain ⟨ao5, c5, rfl⟩ := own_form hown
        have h7 : lp.getD 7 false = false := by
          cases h : lp.getD 7 false with
          | false => rfl
          | true => have := hR.cx h; rw [hun] at this; cases this
        refine hK (g.1, (ao5, c5)) w5 (fun k ok s hk hl hd => ?_) (hR.co hun hft hfl d5 hown hb5) _ (by simp only [valO, Option.bind_some]; simp only [putAll, Act.put, List.setIfInBounds_toArray, List.set_cons_zero, List.set_cons_succ]; rfl)
        refine gh_same2 (d := 28) (d2 := 29) (by simp only [putAll, Act.put, List.setIfInBounds_toArray, List.set_cons_zero, List.set_cons_succ]; try rfl) ?_ ?_
        · rintro rfl
          have := dstG_of (by kernel_rfl) k 6 ok _ 28 hk rfl hd rfl
          subst this
          rw [hun] at hl
          cases hl
        · rintro rfl
          have := dstG_of (by kernel_rfl) k 7 ok _ 29 hk rfl hd rfl
          subst this
          rw [h7] at hl
          cases hl
      | 7, ho, hun, hdep, hK, hfl, hft, _ =>
        obtain rfl := Option.some.inj ho
        have d6 : lp.getD 6 false = true := hdep { on := 6, ground := .data } (by simp) rfl
        have e28 : a'.tmps[28]? = some (.tuple #[.agg #[.int .i64 (tabW F T), .slice g.2.1 (tabL F T).length g.2.2], .int .i64 (tabX F T)]) := (hS.don 6 _ 28 rfl d6 rfl).trans (by simp only [putAll, Act.put, List.setIfInBounds_toArray, List.set_cons_zero, List.set_cons_succ]; rfl)
        have hK' := hK g w' (fun _ _ _ _ _ _ => rfl) (hR.quiet (i := 7) (by decide) (by decide) (by decide) hun hft hfl (fun _ => d6)) (.agg #[.int .i64 (tabW F T), .slice g.2.1 (tabL F T).length g.2.2]) (by simp only [valO, Option.bind_some]; simp only [putAll, Act.put, List.setIfInBounds_toArray, List.set_cons_zero, List.set_cons_succ]; rfl)
        clear hS hdep hR
        refine gh_quiet (v := .agg #[.int .i64 (tabW F T), .slice g.2.1 (tabL F T).length g.2.2]) ?_ ?_
        · (simp only [execOp, Act.eval, e28]; go_simp; first | done | (simp; done) | (simp [*]; done) | omega | (simp; omega))
        · exact hK'
      | 8, ho, hun, hdep, hK, hfl, hft, _ =>
        obtain rfl := Option.some.inj ho
        have d6 : lp.getD 6 false = true := hdep { on := 6, ground := .data } (by simp) rfl
        have e28 : a'.tmps[28]? = some (.tuple #[.agg #[.int .i64 (tabW F T), .slice g.2.1 (tabL F T).length g.2.2], .int .i64 (tabX F T)]) := (hS.don 6 _ 28 rfl d6 rfl).trans (by simp only [putAll, Act.put, List.setIfInBounds_toArray, List.set_cons_zero, List.set_cons_succ]; rfl)
        have hK' := hK g w' (fun _ _ _ _ _ _ => rfl) (hR.quiet (i := 8) (by decide) (by decide) (by decide) hun hft hfl (fun h => absurd h (by decide))) (.int .i64 (tabX F T)) (by simp only [valO, Option.bind_some]; simp only [putAll, Act.put, List.setIfInBounds_toArray, List.set_cons_zero, List.set_cons_succ]; rfl)
        clear hS hdep hR
        refine gh_quiet (v := .int .i64 (tabX F T)) ?_ ?_
        · (simp only [execOp, Act.eval, e28]; go_simp; first | done | (simp; done) | (simp [*]; done) | omega | (simp; omega))
        · exact hK'
      | 9, ho, hun, hdep, hK, hfl, hft, _ =>
        obtain rfl := Option.some.inj ho
        have d7 : lp.getD 7 false = true := hdep { on := 7, ground := .data } (by simp) rfl
        have e29 : a'.tmps[29]? = some (.agg #[.int .i64 (tabW F T), .slice g.2.1 (tabL F T).length g.2.2]) := (hS.don 7 _ 29 rfl d7 rfl).trans (by simp only [putAll, Act.put, List.setIfInBounds_toArray, List.set_cons_zero, List.set_cons_succ]; rfl)
        have o6 : a'.tmps[6]? = some (.pointer (some ⟨w.heap.size + 1 + 1, 0, none⟩)) := (hS.old 6 (by simp)).trans rfl
        have hall : ∀ j, j < 9 → lp.getD j false = true := by
          intro j hj
          match j, hj with
          | 0, _ => exact hdep { on := 0, ground := .phase } (by simp) rfl
          | 1, _ => exact hdep { on := 1, ground := .phase } (by simp) rfl
          | 2, _ => exact hdep { on := 2, ground := .phase } (by simp) rfl
          | 3, _ => exact hdep { on := 3, ground := .phase } (by simp) rfl
          | 4, _ => exact hdep { on := 4, ground := .phase } (by simp) rfl
          | 5, _ => exact hdep { on := 5, ground := .phase } (by simp) rfl
          | 6, _ => exact hdep { on := 6, ground := .phase } (by simp) rfl
          | 7, _ => exact hdep { on := 7, ground := .phase } (by simp) rfl
          | 8, _ => exact hdep { on := 8, ground := .phase } (by simp) rfl
          | n + 9, h => exact absurd h (by omega)
        obtain ⟨z0, z1, f0, f1⟩ := hR.celln hun
        have hK' := hK g _ (fun _ _ _ _ _ _ => rfl) (hR.st hun hft hfl hall) undef rfl
        clear hS hdep hR
        unfold Oper.wp
        simp [execOp, Act.eval, e29, o6, go_sem, z0, z1, f0, f1, Oper.upon]
        exact hK'
      | 10, ho, hun, hdep, hK, hfl, hft, _ =>
        obtain rfl := Option.some.inj ho
        have d8 : lp.getD 8 false = true := hdep { on := 8, ground := .data } (by simp) rfl
        have e30 : a'.tmps[30]? = some (.int .i64 (tabX F T)) := (hS.don 8 _ 30 rfl d8 rfl).trans (by simp only [putAll, Act.put, List.setIfInBounds_toArray, List.set_cons_zero, List.set_cons_succ]; rfl)
        have hK' := hK g w' (fun _ _ _ _ _ _ => rfl) (hR.quiet (i := 10) (by decide) (by decide) (by decide) hun hft hfl (fun h => absurd h (by decide))) (.int .i64 (tabX F T)) (by simp only [valO, Option.bind_some]; simp only [putAll, Act.put, List.setIfInBounds_toArray, List.set_cons_zero, List.set_cons_succ]; rfl)
        clear hS hdep hR
        refine gh_quiet (v := .int .i64 (tabX F T)) ?_ ?_
        · (simp only [execOp, Act.eval, e30]; go_simp; first | done | (simp; done) | (simp [*]; done) | omega | (simp; omega))
        · exact hK'
      | n + 11, ho, hun, hdep, hK, hfl, hft, hq => exact absurd hq (by omega)
    case fin =>
      intro g W5 hR
      obtain ⟨hown, hlow, ⟨z0, z1, f0, f1⟩⟩ := hR.end (by simp) (by simp)
      have HOwn := hidR hown
      have HLow := hidR hlow
      simp only [putAll, Act.put, List.setIfInBounds_toArray, List.set_cons_zero, List.set_cons_succ]
      clear hR hown hlow
      refine wl_nil (P := Tryz.prog) (ops := #[]) ?_
      go_wp2
      exact bodyPost_ret (v := .tuple #[.agg #[.int .i64 (tabW F T), .slice g.2.1 (tabL F T).length g.2.2], .int .i64 (tabX F T)]) (by simp [results, Tryz.results15, go_sem, z0, z1]) rfl ⟨⟨0, _, HZ.out, by rw [HV.out], by rw [HV.out]; exact own_wide HOwn.out HB2.out.size⟩, HLow.out⟩
  · have hn : (z != 0) = true := by simpa using h0
    obtain ⟨n0, n1, n2, n3⟩ := HN2.out
    have HV : Hid (OfV fq F l G m z = (0, z, [])) := hidR (by rw [OfV, if_neg h0])
    have HBs := hidR ((HB2.out.setCell (p := ⟨w.heap.size + 1 + 1, 0, none⟩) (by simp; omega) (.int .i64 0)).setCell (p := ⟨w.heap.size + 1 + 1, 1, none⟩) (by simp; omega) (.slice none 0 0))
    obtain ⟨k0, k1, -, -⟩ := HN2.out.set02 0 (.slice none 0 0)
    clear h0 hz1 hz2 HN2
    go_wp2
    exact bodyPost_ret (v := .tuple #[.agg #[.int .i64 0, .slice none 0 0], .int .i64 z]) (by simp [results, Tryz.results15, go_sem, k0, k1]) rfl ⟨⟨z, _, HZ.out, by rw [HV.out], by rw [HV.out]; exact World.ownsRow_nil _ _ _ _⟩, HBs.out⟩
set_option maxHeartbeats 4000000 in
theorem over_any (F : Int) (v : Value) (l : List Rte) (G : Int) (u : Value) (m : List Rte) (w : World) (hT : Tab w) (hv : RwR w v l) (hu : RwR w u m) :
    Calls Tryz.prog 6 #[.agg #[.int .i64 F, v], .agg #[.int .i64 G, u]] w fun e w' => (∃ z v', TwoE F l G m z ∧ e = .returned (.tuple #[.agg #[.int .i64 (OfV qOver F l G m z).1, v'], .int .i64 (OfV qOver F l G m z).2.1]) ∧ w'.ownsRow w.heap.size 45 4 v' (OfV qOver F l G m z).2.2.length (rowR (OfV qOver F l G m z).2.2)) ∧ Below w.heap.size w w' := by
  have q1 := bl1 w (.cells #[.int .i64 F, v] 24)
  have q2 := bl1 (w.alloc (.cells #[.int .i64 F, v] 24)) (.cells #[.int .i64 G, u] 24)
  have q3 := bl1 ((w.alloc (.cells #[.int .i64 F, v] 24)).alloc (.cells #[.int .i64 G, u] 24)) (.cells #[.int .i64 0, .slice none 0 0] 24)
  have HT := hidR (((att_new w w.heap.size F v 24 rfl).below q2).below q3)
  have HU := hidR ((att_new (w.alloc (.cells #[.int .i64 F, v] 24)) (w.heap.size + 1) G u 24 (by simp)).below q3)
  have HN : Hid (AtU ((((w.alloc (.cells #[.int .i64 F, v] 24)).alloc (.cells #[.int .i64 G, u] 24))).alloc (.cells #[.int .i64 0, .slice none 0 0] 24)) (w.heap.size + 1 + 1) 0 (.slice none 0 0)) := hidR (by refine ⟨?_, ?_, ?_, ?_⟩ <;> simp [go_sem])
  have HB := hidR (keepb q3 (keepb q2 q1))
  have K1 := ofTwo_any 16 qOver over1_any (enters_of Tryz.func16 (by kernel_rfl) rfl) F v l G u m _ (hT.keep HB.out) (hv.below HB.out) (hu.below HB.out)
  obtain ⟨ao, c, rfl, -⟩ := hv
  obtain ⟨bo, d, rfl, -⟩ := hu
  obtain ⟨t0, t1⟩ := HT.out
  obtain ⟨y0, y1⟩ := HU.out
  clear q1 q2 q3 hT
  go_enter Tryz.func6, Tryz.ntmps6
  go_wp2_with fail
  refine K1.mono ?_
  rintro e w2 ⟨⟨z, v', hz, rfl, hown⟩, hb⟩
  obtain ⟨xo, xc, rfl⟩ := own_form hown
  obtain ⟨n0, n1, n2, n3⟩ := HN.out.below hb
  obtain ⟨k0, k1, -, -⟩ := (HN.out.below hb).set02 (OfV qOver F l G m z).1 (.slice xo (OfV qOver F l G m z).2.2.length xc)
  have HBs := hidR (((keepb hb HB.out).setCell (p := ⟨w.heap.size + 1 + 1, 0, none⟩) (by simp; omega) (.int .i64 (OfV qOver F l G m z).1)).setCell (p := ⟨w.heap.size + 1 + 1, 1, none⟩) (by simp; omega) (.slice xo (OfV qOver F l G m z).2.2.length xc))
  have HOw := hidR (own_wide hown HB.out.size)
  have HLt := hidR (fun q (hq : (Value.slice xo (OfV qOver F l G m z).2.2.length xc).ownBlock = some q) => (hown.lt q hq).1)
  have HZ := hidR hz
  clear K1 hb HB HT HU HN t0 t1 y0 y1 hz hown
  revert HOw k0 k1 HBs HLt
  generalize hr : OfV qOver F l G m z = r
  intro k0 k1 HBs HOw HLt
  have HR := hidR hr
  clear hr
  go_wp2
  refine bodyPost_ret (v := .tuple #[.agg #[.int .i64 r.1, .slice xo r.2.2.length xc], .int .i64 r.2.1]) (by simp [results, Tryz.results6, go_sem, k0, k1]) rfl ⟨⟨z, _, HZ.out, by rw [HR.out], ?_⟩, HBs.out⟩
  rw [HR.out]
  refine own_heap HOw.out (fun q hq => ?_)
  have hne : ¬ q = w.heap.size + 1 + 1 := by
    have := HLt.out q hq
    simp at this
    omega
  rw [hSet _ hne, hSet _ hne]
set_option maxHeartbeats 4000000 in
theorem less_any (F : Int) (v : Value) (l : List Rte) (G : Int) (u : Value) (m : List Rte) (w : World) (hT : Tab w) (hv : RwR w v l) (hu : RwR w u m) :
    Calls Tryz.prog 7 #[.agg #[.int .i64 F, v], .agg #[.int .i64 G, u]] w fun e w' => (∃ z v', TwoE F l G m z ∧ e = .returned (.tuple #[.agg #[.int .i64 (OfV qLess F l G m z).1, v'], .int .i64 (OfV qLess F l G m z).2.1]) ∧ w'.ownsRow w.heap.size 45 4 v' (OfV qLess F l G m z).2.2.length (rowR (OfV qLess F l G m z).2.2)) ∧ Below w.heap.size w w' := by
  have q1 := bl1 w (.cells #[.int .i64 F, v] 24)
  have q2 := bl1 (w.alloc (.cells #[.int .i64 F, v] 24)) (.cells #[.int .i64 G, u] 24)
  have q3 := bl1 ((w.alloc (.cells #[.int .i64 F, v] 24)).alloc (.cells #[.int .i64 G, u] 24)) (.cells #[.int .i64 0, .slice none 0 0] 24)
  have HT := hidR (((att_new w w.heap.size F v 24 rfl).below q2).below q3)
  have HU := hidR ((att_new (w.alloc (.cells #[.int .i64 F, v] 24)) (w.heap.size + 1) G u 24 (by simp)).below q3)
  have HN : Hid (AtU ((((w.alloc (.cells #[.int .i64 F, v] 24)).alloc (.cells #[.int .i64 G, u] 24))).alloc (.cells #[.int .i64 0, .slice none 0 0] 24)) (w.heap.size + 1 + 1) 0 (.slice none 0 0)) := hidR (by refine ⟨?_, ?_, ?_, ?_⟩ <;> simp [go_sem])
  have HB := hidR (keepb q3 (keepb q2 q1))
  have K1 := ofTwo_any 17 qLess less1_any (enters_of Tryz.func17 (by kernel_rfl) rfl) F v l G u m _ (hT.keep HB.out) (hv.below HB.out) (hu.below HB.out)
  obtain ⟨ao, c, rfl, -⟩ := hv
  obtain ⟨bo, d, rfl, -⟩ := hu
  obtain ⟨t0, t1⟩ := HT.out
  obtain ⟨y0, y1⟩ := HU.out
  clear q1 q2 q3 hT
  go_enter Tryz.func7, Tryz.ntmps7
  go_wp2_with fail
  refine K1.mono ?_
  rintro e w2 ⟨⟨z, v', hz, rfl, hown⟩, hb⟩
  obtain ⟨xo, xc, rfl⟩ := own_form hown
  obtain ⟨n0, n1, n2, n3⟩ := HN.out.below hb
  obtain ⟨k0, k1, -, -⟩ := (HN.out.below hb).set02 (OfV qLess F l G m z).1 (.slice xo (OfV qLess F l G m z).2.2.length xc)
  have HBs := hidR (((keepb hb HB.out).setCell (p := ⟨w.heap.size + 1 + 1, 0, none⟩) (by simp; omega) (.int .i64 (OfV qLess F l G m z).1)).setCell (p := ⟨w.heap.size + 1 + 1, 1, none⟩) (by simp; omega) (.slice xo (OfV qLess F l G m z).2.2.length xc))
  have HOw := hidR (own_wide hown HB.out.size)
  have HLt := hidR (fun q (hq : (Value.slice xo (OfV qLess F l G m z).2.2.length xc).ownBlock = some q) => (hown.lt q hq).1)
  have HZ := hidR hz
  clear K1 hb HB HT HU HN t0 t1 y0 y1 hz hown
  revert HOw k0 k1 HBs HLt
  generalize hr : OfV qLess F l G m z = r
  intro k0 k1 HBs HOw HLt
  have HR := hidR hr
  clear hr
  go_wp2
  refine bodyPost_ret (v := .tuple #[.agg #[.int .i64 r.1, .slice xo r.2.2.length xc], .int .i64 r.2.1]) (by simp [results, Tryz.results7, go_sem, k0, k1]) rfl ⟨⟨z, _, HZ.out, by rw [HR.out], ?_⟩, HBs.out⟩
  rw [HR.out]
  refine own_heap HOw.out (fun q hq => ?_)
  have hne : ¬ q = w.heap.size + 1 + 1 := by
    have := HLt.out q hq
    simp at this
    omega
  rw [hSet _ hne, hSet _ hne]
end Go.Proofs.YtonagfmkplbooaaGreatDoor
/-
  What the calls of turnpikeref6's two, Unlike and Equal do.
-/
namespace Go.Proofs.YtonagfmkplbooaaGreatDoor
open Go.RowKit
set_option linter.unusedSimpArgs false
set_option linter.unusedVariables false

theorem gh_same3 {x y : Array Value} {d d2 d3 s : Nat} (h : ((x.toList.set d undef).set d2 undef).set d3 undef = ((y.toList.set d undef).set d2 undef).set d3 undef) (hs : s ≠ d) (hs2 : s ≠ d2) (hs3 : s ≠ d3) : x[s]? = y[s]? := by
  have := congrArg (fun z => z[s]?) h
  simp only [List.getElem?_set_ne (Ne.symm hs3), List.getElem?_set_ne (Ne.symm hs2), List.getElem?_set_ne (Ne.symm hs)] at this
  simpa using this
set_option maxHeartbeats 8000000 in
theorem rtwo_any (F : Int) (v : Value) (l : List Rte) (G : Int) (u : Value) (m : List Rte) (w : World) (hv : RwR w v l) (hu : RwR w u m) :
    Calls Tryz.prog 43 #[.agg #[.int .i64 F, v], .agg #[.int .i64 G, u]] w fun e w' => (∃ z, TwoE F l G m z ∧ e = .returned (.int .i64 z)) ∧ Below w.heap.size w w' := by
  have q1 := bl1 w (.cells #[.int .i64 F, v] 24)
  have q2 := bl1 (w.alloc (.cells #[.int .i64 F, v] 24)) (.cells #[.int .i64 G, u] 24)
  have HT := hidR ((att_new w w.heap.size F v 24 rfl).below q2)
  have HU := hidR (att_new (w.alloc (.cells #[.int .i64 F, v] 24)) (w.heap.size + 1) G u 24 (by simp))
  have HB := hidR (keepb q2 q1)
  have HV2 := hidR hu
  have K1 := rcheckT_any F v l _ (hv.below (keepb q2 q1))
  obtain ⟨ao, c, rfl, -⟩ := hv
  obtain ⟨bo, d, rfl, -⟩ := hu
  obtain ⟨t0, t1⟩ := HT.out
  obtain ⟨y0, y1⟩ := HU.out
  clear q1 q2
  go_enter Tryz.func43, Tryz.ntmps43
  go_wp2_with fail
  refine K1.mono ?_
  rintro e w1 ⟨⟨z, hz, rfl⟩, hb⟩
  have HB1 := hidR (keepb hb HB.out)
  have HT1 := hidR (HT.out.below hb)
  have HU1 := hidR (HU.out.below hb)
  have HZ := hidR hz
  clear K1 hb HB HT HU t0 t1 y0 y1 hz
  obtain ⟨t0, t1⟩ := HT1.out
  obtain ⟨y0, y1⟩ := HU1.out
  by_cases h0 : z = 0
  · subst h0
    have K2 := rcheckT_any G (.slice bo m.length d) m w1 (HV2.out.below HB1.out)
    go_wp2_with fail
    refine K2.mono ?_
    rintro e w2 ⟨⟨y, hy, rfl⟩, hb⟩
    have HB2 := hidR (keepb hb HB1.out)
    have HT2 := hidR (HT1.out.below hb)
    have HU2 := hidR (HU1.out.below hb)
    have HY := hidR hy
    clear K2 hb HT1 HU1 t0 t1 y0 y1 hy HB1
    obtain ⟨t0, t1⟩ := HT2.out
    obtain ⟨y0, y1⟩ := HU2.out
    by_cases h1 : y = 0
    · subst h1
      by_cases hFG : F = G
      · have dn : (F != G) = false := by simpa using hFG
        have HE : Hid (TwoE F l G m 0) := hidR ⟨0, HZ.out, .inr ⟨rfl, 0, HY.out, .inr ⟨rfl, .inr ⟨hFG, rfl⟩⟩⟩⟩
        clear hFG
        go_wp2
        go_ret
        exact ⟨⟨0, HE.out, rfl⟩, HB2.out⟩
      · have dn : (F != G) = true := by simpa using hFG
        have HE : Hid (TwoE F l G m 3) := hidR ⟨0, HZ.out, .inr ⟨rfl, 0, HY.out, .inr ⟨rfl, .inl ⟨hFG, rfl⟩⟩⟩⟩
        clear hFG
        go_wp2
        go_ret
        exact ⟨⟨3, HE.out, rfl⟩, HB2.out⟩
    · have hn : (y == 0) = false := by simpa using h1
      have HE : Hid (TwoE F l G m y) := hidR ⟨0, HZ.out, .inr ⟨rfl, y, HY.out, .inl ⟨h1, rfl⟩⟩⟩
      clear h1
      go_wp2
      go_ret
      exact ⟨⟨y, HE.out, rfl⟩, HB2.out⟩
  · have hn : (z == 0) = false := by simpa using h0
    have HE : Hid (TwoE F l G m z) := hidR ⟨z, HZ.out, .inl ⟨h0, rfl⟩⟩
    clear h0
    go_wp2
    go_ret
    exact ⟨⟨z, HE.out, rfl⟩, HB1.out⟩
/-- What is known while the edges of both tables are told. -/
structure RU (w1 : World) (F : Int) (v u : Value) (T0 : Nat) (l m : List Rte) (f1 f3 f4 : Bool) (g : Value × Value) (W : World) : Prop where
  bel : Below w1.heap.size w1 W
  one : f1 = true → f3 = false → ∃ E1, EdS F [] l E1 ∧ W.ownsRow w1.heap.size 27 2 g.1 E1.length (rowW E1)
  two : f3 = true → ∃ E1 E2, EdS F [] l E1 ∧ EdS F E1 m E2 ∧ W.ownsRow w1.heap.size 27 2 g.2 E2.length (rowW E2)
  c3 : f3 = true → f1 = true
  c4 : f4 = true → f3 = true
def UC (w wr : World) (F : Int) (v u : Value) (ga o : Nat) (ex : BitVec 128) (W : World) : Prop := AtT W w.heap.size F v ∧ AtT W (w.heap.size + 1) F u ∧ (W.cell? ⟨ga, o, none⟩ = some (.int .u64 (hI ex)) ∧ W.cell? ⟨ga, o + 1, none⟩ = some (.int .u64 (lI ex))) ∧ Below w.heap.size w W ∧ Below wr.heap.size wr W
theorem UC.below {w wr : World} {F : Int} {v u : Value} {ga o : Nat} {ex : BitVec 128} {W W' : World} (k : UC w wr F v u ga o ex W) (hb : Below W.heap.size W W') : UC w wr F v u ga o ex W' := ⟨k.1.below hb, k.2.1.below hb, ⟨keepc hb k.2.2.1.1, keepc hb k.2.2.1.2⟩, keepb hb k.2.2.2.1, keepb hb k.2.2.2.2⟩
/-- The first edge of both at which they don't lead alike. -/
theorem two_unl (F : Int) (hf : fam F = true) (l m : List Rte) (hL : ∀ r ∈ l, Ro F r) (hM : ∀ r ∈ m, Ro F r) (E1 E : List (BitVec 128)) (h1 : EdS F [] l E1) (h2 : EdS F E1 m E) : Unl F (fun x => look x 0 l) (fun x => look x 0 m) (E.find? (fun e => look e 0 l != look e 0 m)) := by
  have r1 := eds_right hf hL (fun y hy => by cases hy) h1
  have e1 : Ends F E l := fun r hr => by
    obtain ⟨a, b⟩ := eds_ends h1 r hr
    exact ⟨(h2.2.1 _).mpr (.inl a), fun q => (h2.2.1 _).mpr (.inl (b q))⟩
  exact edge_unl F _ _ E h2.1 (eds_zero_mem h2) (eds_right hf hM r1 h2) (look_flat F hf E l e1 hL) (look_flat F hf E m (eds_ends h2) hM)
end Go.Proofs.YtonagfmkplbooaaGreatDoor
