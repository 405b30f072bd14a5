/-
  Part 36 of the proof: 1 texts, one behind the other.
-/
import Derived.Test.YtonagfmkplbooaaGreatDoorPart34
import Derived.Test.YtonagfmkplbooaaGreatDoorPart35
import Derived.Test.YtonagfmkplbooaaGreatDoorPart5
/-
  What the calls of turnpikeref6's Over, Less and Only do.
-/
namespace Go.Proofs.YtonagfmkplbooaaGreatDoor
open Go.RowKit
set_option linter.unusedSimpArgs false
set_option linter.unusedVariables false

set_option maxHeartbeats 4000000 in
theorem rover_any (F : Int) (v : Value) (l : List Rte) (G : Int) (u : Value) (m : List Rte) (w : World) (hv : RwR w v l) (hu : RwR w u m) :
    Calls Tryz.prog 10 #[.agg #[.int .i64 F, v], .agg #[.int .i64 G, u]] w fun e w' => (∃ z v', TwoE F l G m z ∧ e = .returned (.tuple #[.agg #[.int .i64 (OfV qOver F l G m z).1, v'], .int .i64 (OfV qOver F l G m z).2.1]) ∧ w'.ownsRow w.heap.size 45 4 v' (OfV qOver F l G m z).2.2.length (rowR (OfV qOver F l G m z).2.2)) ∧ Below w.heap.size w w' := by
  have q1 := bl1 w (.cells #[.int .i64 F, v] 24)
  have q2 := bl1 (w.alloc (.cells #[.int .i64 F, v] 24)) (.cells #[.int .i64 G, u] 24)
  have q3 := bl1 ((w.alloc (.cells #[.int .i64 F, v] 24)).alloc (.cells #[.int .i64 G, u] 24)) (.cells #[.int .i64 0, .slice none 0 0] 24)
  have HT := hidR (((att_new w w.heap.size F v 24 rfl).below q2).below q3)
  have HU := hidR ((att_new (w.alloc (.cells #[.int .i64 F, v] 24)) (w.heap.size + 1) G u 24 (by simp)).below q3)
  have HN : Hid (AtU ((((w.alloc (.cells #[.int .i64 F, v] 24)).alloc (.cells #[.int .i64 G, u] 24))).alloc (.cells #[.int .i64 0, .slice none 0 0] 24)) (w.heap.size + 1 + 1) 0 (.slice none 0 0)) := hidR (by refine ⟨?_, ?_, ?_, ?_⟩ <;> simp [go_sem])
  have HB := hidR (keepb q3 (keepb q2 q1))
  have K1 := rmixed_any false F v l G u m _ (hv.below HB.out) (hu.below HB.out)
  have eq : qOf false = qOver := by funext x y; rfl
  rw [eq] at K1
  obtain ⟨ao, c, rfl, -⟩ := hv
  obtain ⟨bo, d, rfl, -⟩ := hu
  obtain ⟨t0, t1⟩ := HT.out
  obtain ⟨y0, y1⟩ := HU.out
  clear q1 q2 q3 eq
  go_enter Tryz.func10, Tryz.ntmps10
  go_wp2_with fail
  refine K1.mono ?_
  rintro e w2 ⟨⟨z, v', hz, rfl, hown⟩, hb⟩
  obtain ⟨xo, xc, rfl⟩ := own_form hown
  obtain ⟨n0, n1, n2, n3⟩ := HN.out.below hb
  obtain ⟨k0, k1, -, -⟩ := (HN.out.below hb).set02 (OfV qOver F l G m z).1 (.slice xo (OfV qOver F l G m z).2.2.length xc)
  have HBs := hidR (((keepb hb HB.out).setCell (p := ⟨w.heap.size + 1 + 1, 0, none⟩) (by simp; omega) (.int .i64 (OfV qOver F l G m z).1)).setCell (p := ⟨w.heap.size + 1 + 1, 1, none⟩) (by simp; omega) (.slice xo (OfV qOver F l G m z).2.2.length xc))
  have HOw := hidR (own_wide hown HB.out.size)
  have HLt := hidR (fun q (hq : (Value.slice xo (OfV qOver F l G m z).2.2.length xc).ownBlock = some q) => (hown.lt q hq).1)
  have HZ := hidR hz
  clear K1 hb HB HT HU HN t0 t1 y0 y1 hz hown
  revert HOw k0 k1 HBs HLt
  generalize hr : OfV qOver F l G m z = r
  intro k0 k1 HBs HOw HLt
  have HR := hidR hr
  clear hr
  go_wp2
  refine bodyPost_ret (v := .tuple #[.agg #[.int .i64 r.1, .slice xo r.2.2.length xc], .int .i64 r.2.1]) (by simp [results, Tryz.results10, go_sem, k0, k1]) rfl ⟨⟨z, _, HZ.out, by rw [HR.out], ?_⟩, HBs.out⟩
  rw [HR.out]
  refine own_heap HOw.out (fun q hq => ?_)
  have hne : ¬ q = w.heap.size + 1 + 1 := by
    have := HLt.out q hq
    simp at this
    omega
  rw [hSet _ hne, hSet _ hne]
set_option maxHeartbeats 4000000 in
theorem rless_any (F : Int) (v : Value) (l : List Rte) (G : Int) (u : Value) (m : List Rte) (w : World) (hv : RwR w v l) (hu : RwR w u m) :
    Calls Tryz.prog 11 #[.agg #[.int .i64 F, v], .agg #[.int .i64 G, u]] w fun e w' => (∃ z v', TwoE F l G m z ∧ e = .returned (.tuple #[.agg #[.int .i64 (OfV qLess F l G m z).1, v'], .int .i64 (OfV qLess F l G m z).2.1]) ∧ w'.ownsRow w.heap.size 45 4 v' (OfV qLess F l G m z).2.2.length (rowR (OfV qLess F l G m z).2.2)) ∧ Below w.heap.size w w' := by
  have q1 := bl1 w (.cells #[.int .i64 F, v] 24)
  have q2 := bl1 (w.alloc (.cells #[.int .i64 F, v] 24)) (.cells #[.int .i64 G, u] 24)
  have q3 := bl1 ((w.alloc (.cells #[.int .i64 F, v] 24)).alloc (.cells #[.int .i64 G, u] 24)) (.cells #[.int .i64 0, .slice none 0 0] 24)
  have HT := hidR (((att_new w w.heap.size F v 24 rfl).below q2).below q3)
  have HU := hidR ((att_new (w.alloc (.cells #[.int .i64 F, v] 24)) (w.heap.size + 1) G u 24 (by simp)).below q3)
  have HN : Hid (AtU ((((w.alloc (.cells #[.int .i64 F, v] 24)).alloc (.cells #[.int .i64 G, u] 24))).alloc (.cells #[.int .i64 0, .slice none 0 0] 24)) (w.heap.size + 1 + 1) 0 (.slice none 0 0)) := hidR (by refine ⟨?_, ?_, ?_, ?_⟩ <;> simp [go_sem])
  have HB := hidR (keepb q3 (keepb q2 q1))
  have K1 := rmixed_any true F v l G u m _ (hv.below HB.out) (hu.below HB.out)
  have eq : qOf true = qLess := by funext x y; rfl
  rw [eq] at K1
  obtain ⟨ao, c, rfl, -⟩ := hv
  obtain ⟨bo, d, rfl, -⟩ := hu
  obtain ⟨t0, t1⟩ := HT.out
  obtain ⟨y0, y1⟩ := HU.out
  clear q1 q2 q3 eq
  go_enter Tryz.func11, Tryz.ntmps11
  go_wp2_with fail
  refine K1.mono ?_
  rintro e w2 ⟨⟨z, v', hz, rfl, hown⟩, hb⟩
  obtain ⟨xo, xc, rfl⟩ := own_form hown
  obtain ⟨n0, n1, n2, n3⟩ := HN.out.below hb
  obtain ⟨k0, k1, -, -⟩ := (HN.out.below hb).set02 (OfV qLess F l G m z).1 (.slice xo (OfV qLess F l G m z).2.2.length xc)
  have HBs := hidR (((keepb hb HB.out).setCell (p := ⟨w.heap.size + 1 + 1, 0, none⟩) (by simp; omega) (.int .i64 (OfV qLess F l G m z).1)).setCell (p := ⟨w.heap.size + 1 + 1, 1, none⟩) (by simp; omega) (.slice xo (OfV qLess F l G m z).2.2.length xc))
  have HOw := hidR (own_wide hown HB.out.size)
  have HLt := hidR (fun q (hq : (Value.slice xo (OfV qLess F l G m z).2.2.length xc).ownBlock = some q) => (hown.lt q hq).1)
  have HZ := hidR hz
  clear K1 hb HB HT HU HN t0 t1 y0 y1 hz hown
  revert HOw k0 k1 HBs HLt
  generalize hr : OfV qLess F l G m z = r
  intro k0 k1 HBs HOw HLt
  have HR := hidR hr
  clear hr
  go_wp2
  refine bodyPost_ret (v := .tuple #[.agg #[.int .i64 r.1, .slice xo r.2.2.length xc], .int .i64 r.2.1]) (by simp [results, Tryz.results11, go_sem, k0, k1]) rfl ⟨⟨z, _, HZ.out, by rw [HR.out], ?_⟩, HBs.out⟩
  rw [HR.out]
  refine own_heap HOw.out (fun q hq => ?_)
  have hne : ¬ q = w.heap.size + 1 + 1 := by
    have := HLt.out q hq
    simp at this
    omega
  rw [hSet _ hne, hSet _ hne]
/-- What is known while the edges of a table and a prefix are told. -/
structure RV (w1 : World) (F : Int) (px : BitVec 128) (pn : Int) (l : List Rte) (f : Nat → Bool) (g : Value × Nat × Value) (W : World) : Prop where
  bel : Below w1.heap.size w1 W
  c7 : f 7 = true → f 6 = true
  c8 : f 8 = true → f 1 = true ∧ f 7 = true
  c9 : f 9 = true → f 8 = true
  one : f 1 = true → f 8 = false → ∃ E1, EdS F [] l E1 ∧ W.ownsRow w1.heap.size 27 2 g.1 E1.length (rowW E1)
  row : f 6 = true → f 8 = false → RwR W (.slice (some ⟨g.2.1, 0, none⟩) 1 1) [((px, pn), 1)] ∧ g.2.1 < W.heap.size ∧ (f 1 = true → g.1.ownBlock ≠ some g.2.1)
  two : f 8 = true → ∃ E1 E2, EdS F [] l E1 ∧ EdS F E1 [((px, pn), 1)] E2 ∧ W.ownsRow w1.heap.size 27 2 g.2.2 E2.length (rowW E2)
theorem RV.start {w1 : World} {F : Int} {px : BitVec 128} {pn : Int} {l : List Rte} {f : Nat → Bool} {g : Value × Nat × Value} {W : World} (h : Below w1.heap.size w1 W) (hf : ∀ j, f j = false) : RV w1 F px pn l f g W :=
  ⟨h, fun q => (by rw [hf] at q; cases q), fun q => (by rw [hf] at q; cases q), fun q => (by rw [hf] at q; cases q), fun q => (by rw [hf] at q; cases q), fun q => (by rw [hf] at q; cases q), fun q => (by rw [hf] at q; cases q)⟩
section
variable {w1 : World} {F : Int} {px : BitVec 128} {pn : Int} {l : List Rte} {f f' : Nat → Bool} {g : Value × Nat × Value} {W W' : World} {i : Nat}
theorem RV.quiet (k : RV w1 F px pn l f g W) (h1 : i ≠ 1) (h6 : i ≠ 6) (h8 : i ≠ 8) (hun : f i = false) (hs : f' i = true) (ho : ∀ j, j ≠ i → f' j = f j) (h7 : i = 7 → f 6 = true) (h9 : i = 9 → f 8 = true) : RV w1 F px pn l f' g W := by
  have e1 := ho 1 (Ne.symm h1)
  have e6 := ho 6 (Ne.symm h6)
  have e8 := ho 8 (Ne.symm h8)
  refine ⟨k.bel, fun h => ?_, fun h => ?_, fun h => ?_, fun a b => k.one (by rwa [← e1]) (by rwa [← e8]), fun a b => ?_, fun h => k.two (by rwa [← e8])⟩
  · rw [e6]
    by_cases q : 7 = i
    · exact h7 q.symm
    · exact k.c7 (by rwa [← ho 7 q])
  · obtain ⟨a, b⟩ := k.c8 (by rwa [← e8])
    refine ⟨by rwa [e1], ?_⟩
    by_cases q : 7 = i
    · rw [q]; exact hs
    · rw [ho 7 q]; exact b
  · rw [e8]
    by_cases q : 9 = i
    · exact h9 q.symm
    · exact k.c9 (by rwa [← ho 9 q])
  · have := k.row (by rwa [← e6]) (by rwa [← e8])
    rwa [← e1] at this
theorem RV.n8 (k : RV w1 F px pn l f g W) (h : f 1 = false ∨ f 7 = false) : f 8 = false := by
  cases q : f 8 with
  | false => rfl
  | true =>
    obtain ⟨a, b⟩ := k.c8 q
    rcases h with h | h
    · rw [a] at h; cases h
    · rw [b] at h; cases h
theorem RV.one1 (k : RV w1 F px pn l f g W) (hun : f 1 = false) (hs : f' 1 = true) (ho : ∀ j, j ≠ 1 → f' j = f j) {v' : Value} {T : List (BitVec 128)} (hT : EdS F [] l T) (hp : PtO W.heap.size (.slice none 0 0) T W v' W') (hb : Below W.heap.size W W') : RV w1 F px pn l f' (v', g.2) W' := by
  have n8 := k.n8 (.inl hun)
  have e6 := ho 6 (by decide)
  have e7 := ho 7 (by decide)
  have e8 := ho 8 (by decide)
  have e9 := ho 9 (by decide)
  refine ⟨keepb hb k.bel, fun h => ?_, fun h => (by rw [e8, n8] at h; cases h), fun h => ?_, fun _ _ => ⟨T, hT, own_wide hp.1 k.bel.size⟩, fun a b => ?_, fun h => (by rw [e8, n8] at h; cases h)⟩
  · rw [e6]; exact k.c7 (by rwa [← e7])
  · rw [e8]; exact k.c9 (by rwa [← e9])
  · obtain ⟨r1, r2, r3⟩ := k.row (by rwa [← e6]) n8
    refine ⟨r1.below hb, Nat.lt_of_lt_of_le r2 hb.size, fun _ e => ?_⟩
    rcases hp.2.2 _ e with q | q
    · simp [Value.ownBlock] at q
    · simp only at q
      omega
theorem RV.row6 (k : RV w1 F px pn l f g W) (hun : f 6 = false) (hs : f' 6 = true) (ho : ∀ j, j ≠ 6 → f' j = f j) : RV w1 F px pn l f' (g.1, W.heap.size, g.2.2) (W.alloc (.cells #[.int .u64 (hI px), .int .u64 (lI px), .int .i64 pn, .int .i64 1] 45)) := by
  have hb := bl1 W (.cells #[.int .u64 (hI px), .int .u64 (lI px), .int .i64 pn, .int .i64 1] 45)
  have n7 : f 7 = false := by
    cases q : f 7 with
    | false => rfl
    | true => have := k.c7 q; rw [hun] at this; cases this
  have n8 := k.n8 (.inr n7)
  have e1 := ho 1 (by decide)
  have e7 := ho 7 (by decide)
  have e8 := ho 8 (by decide)
  have e9 := ho 9 (by decide)
  refine ⟨keepb hb k.bel, fun _ => hs, fun h => (by rw [e8, n8] at h; cases h), fun h => ?_, fun a b => ?_, fun _ _ => ⟨one_rwr W _ rfl px pn 1, by simp, fun h e => ?_⟩, fun h => (by rw [e8, n8] at h; cases h)⟩
  · rw [e8]; exact k.c9 (by rwa [← e9])
  · obtain ⟨E1, h1, h2⟩ := k.one (by rwa [← e1]) n8
    exact ⟨E1, h1, own_below hb h2⟩
  · obtain ⟨E1, h1, h2⟩ := k.one (by rwa [← e1]) n8
    have := (h2.lt _ e).2
    simp only at this
    omega
theorem RV.two8 (k : RV w1 F px pn l f g W) (hun : f 8 = false) (hs : f' 8 = true) (ho : ∀ j, j ≠ 8 → f' j = f j) (d1 : f 1 = true) (d7 : f 7 = true) {v' : Value} {E1 T : List (BitVec 128)} (hE : EdS F [] l E1) (hT : EdS F E1 [((px, pn), 1)] T) (hown : W'.ownsRow w1.heap.size 27 2 v' T.length (rowW T)) (hb : Below w1.heap.size w1 W') : RV w1 F px pn l f' (g.1, g.2.1, v') W' := by
  have e1 := ho 1 (by decide)
  have e6 := ho 6 (by decide)
  have e7 := ho 7 (by decide)
  exact ⟨hb, fun _ => (by rw [e6]; exact k.c7 d7), fun _ => ⟨by rwa [e1], by rwa [e7]⟩, fun _ => hs, fun _ h => (by rw [hs] at h; cases h), fun _ h => (by rw [hs] at h; cases h), fun _ => ⟨E1, T, hE, hT, hown⟩⟩
end
def OnK (w : World) (F : Int) (v : Value) (px : BitVec 128) (pn : Int) (W : World) : Prop := AtT W w.heap.size F v ∧ AtP W (w.heap.size + 1) px pn ∧ AtU W (w.heap.size + 1 + 1) 0 (.slice none 0 0)
theorem onK_heap (w : World) (F : Int) (v : Value) (px : BitVec 128) (pn : Int) : Kh w (OnK w F v px pn) := fun W W' k h => ⟨k.1.heap6 (h _ (by omega)), k.2.1.heapE (h _ (by omega)), k.2.2.heap (h _ (by omega))⟩
/-- What is read in a round. -/
def UO (w wr : World) (F : Int) (v : Value) (px : BitVec 128) (pn : Int) (ga o : Nat) (ex : BitVec 128) (W : World) : Prop := AtT W w.heap.size F v ∧ AtP W (w.heap.size + 1) px pn ∧ (W.cell? ⟨ga, o, none⟩ = some (.int .u64 (hI ex)) ∧ W.cell? ⟨ga, o + 1, none⟩ = some (.int .u64 (lI ex))) ∧ Below w.heap.size w W ∧ Below wr.heap.size wr W
theorem UO.below {w wr : World} {F : Int} {v : Value} {px : BitVec 128} {pn : Int} {ga o : Nat} {ex : BitVec 128} {W W' : World} (k : UO w wr F v px pn ga o ex W) (hb : Below W.heap.size W W') : UO w wr F v px pn ga o ex W' := ⟨k.1.below hb, k.2.1.below hb, ⟨keepc hb k.2.2.1.1, keepc hb k.2.2.1.2⟩, keepb hb k.2.2.2.1, keepb hb k.2.2.2.2⟩
theorem qk_on (x y : Int) (hx : 0 ≤ x ∧ x ≤ 65535) (hy : 0 ≤ y ∧ y ≤ 65535) : 0 ≤ qOnly x y ∧ qOnly x y ≤ 65535 := by
  unfold qOnly
  split
  · exact ⟨by decide, by decide⟩
  · exact hx
theorem one_tab6 {F : Int} {px : BitVec 128} {pn : Int} (h : checkE F px pn = 0) : TabE F [((px, pn), 1)] 0 ∧ Rt F px pn := by
  have hf : fam F = true := by
    unfold checkE at h
    split at h
    · assumption
    · cases h
  have e0 : rteE F ((px, pn), 1) = 0 := by
    unfold rteE
    rw [if_pos h, if_pos (show hopB 1 = true by decide)]
  have e : rtsE F [((px, pn), 1)] = 0 := by
    unfold rtsE
    rw [if_pos hf, if_neg (by simp)]
    rw [rtsG, if_pos e0]
    rfl
  refine ⟨⟨fun q => absurd e q, fun _ => .inl ⟨fun a ha => by simp at ha, rfl⟩⟩, ?_⟩
  exact (rte_ro F _ hf e0).1
theorem on_val (px : BitVec 128) (pn : Int) (x : BitVec 128) (h : Int) (h0 : 0 ≤ pn) (h1 : pn ≤ 128) (hx : cutW px pn = px) : qOnly h (look x 0 [((px, pn), 1)]) = if rhasB px pn x = true then h else 0 := by
  rw [has_eq px pn x h0 h1 hx, look, look]
  by_cases q : (cutW x pn == px) = true
  · rw [if_pos q, if_pos (show hasR ((px, pn), 1) x = true from q), qOnly, if_neg (show ¬ (1 : Int) = 0 by decide)]
  · rw [if_neg q, if_neg (show ¬ hasR ((px, pn), 1) x = true from q), qOnly, if_pos rfl]
set_option maxRecDepth 20000 in
set_option maxHeartbeats 16000000 in
theorem ronly_any (F : Int) (v : Value) (l : List Rte) (px : BitVec 128) (pn : Int) (w : World) (hv : RwR w v l) :
    Calls Tryz.prog 12 #[.agg #[.int .i64 F, v], .agg #[.int .u64 (hI px), .int .u64 (lI px), .int .i64 pn]] w fun e w' => (∃ z v', OnE F l px pn z ∧ e = .returned (.tuple #[.agg #[.int .i64 (OnV F l px pn z).1, v'], .int .i64 (OnV F l px pn z).2.1]) ∧ w'.ownsRow w.heap.size 45 4 v' (OnV F l px pn z).2.2.length (rowR (OnV F l px pn z).2.2)) ∧ Below w.heap.size w w' := by
  obtain ⟨i0, hi, hz0, hz1, hz2⟩ := info_parts Tryz.infoI
  have q1 := bl1 w (.cells #[.int .i64 F, v] 24)
  have q2 := bl1 (w.alloc (.cells #[.int .i64 F, v] 24)) (.cells #[.int .u64 (hI px), .int .u64 (lI px), .int .i64 pn] 29)
  have q3 := bl1 ((w.alloc (.cells #[.int .i64 F, v] 24)).alloc (.cells #[.int .u64 (hI px), .int .u64 (lI px), .int .i64 pn] 29)) (.cells #[.int .i64 0, .slice none 0 0] 24)
  have HT := hidR (((att_new w w.heap.size F v 24 rfl).below q2).below q3)
  have HP : Hid (AtP (((w.alloc (.cells #[.int .i64 F, v] 24)).alloc (.cells #[.int .u64 (hI px), .int .u64 (lI px), .int .i64 pn] 29)).alloc (.cells #[.int .i64 0, .slice none 0 0] 24)) (w.heap.size + 1) px pn) := hidR ((atp_new (w.alloc (.cells #[.int .i64 F, v] 24)) (w.heap.size + 1) px pn 29 (by simp)).below q3)
  have HN : Hid (AtU (((w.alloc (.cells #[.int .i64 F, v] 24)).alloc (.cells #[.int .u64 (hI px), .int .u64 (lI px), .int .i64 pn] 29)).alloc (.cells #[.int .i64 0, .slice none 0 0] 24)) (w.heap.size + 1 + 1) 0 (.slice none 0 0)) := hidR (by refine ⟨?_, ?_, ?_, ?_⟩ <;> simp [go_sem])
  have HB := hidR (keepb q3 (keepb q2 q1))
  have K1 := rcheckT_any F v l _ (hv.below HB.out)
  have HV := hidR hv
  obtain ⟨ao, c, rfl, -⟩ := hv
  obtain ⟨t0, t1⟩ := HT.out
  clear q1 q2 q3
  go_enter Tryz.func12, Tryz.ntmps12
  go_wp2_with fail
  refine K1.mono ?_
  rintro e w3 ⟨⟨x, hx, rfl⟩, hb⟩
  have HB3 := hidR (keepb hb HB.out)
  have HT3 := hidR (HT.out.below hb)
  have HP3 := hidR (HP.out.below hb)
  have HN3 := hidR (HN.out.below hb)
  have HX := hidR hx
  clear K1 hb HB HT HP HN t0 t1 hx
  by_cases h0 : x = 0
  · subst h0
    have K2 := rcheck_any F px pn w3
    obtain ⟨t0, t1⟩ := HT3.out
    obtain ⟨p0, p1, p2, -, -, -⟩ := HP3.out
    go_wp2_with fail
    refine K2.mono ?_
    rintro e w1 ⟨rfl, hb⟩
    have HB1 := hidR (keepb hb HB3.out)
    have HT1 := hidR (HT3.out.below hb)
    have HP1 := hidR (HP3.out.below hb)
    have HR1 := hidR (HN3.out.below hb)
    have HE : Hid (OnE F l px pn (checkE F px pn)) := hidR ⟨0, HX.out, .inr ⟨rfl, rfl⟩⟩
    clear K2 hb HB3 HT3 HN3 HP3 t0 t1 p0 p1 p2
    by_cases h1 : checkE F px pn = 0
    · have hn : (checkE F px pn != 0) = false := by simp [h1]
      obtain ⟨ht, hrt⟩ := one_tab6 h1
      rw [h1] at HE hn ⊢
      obtain ⟨hf, n1, hL, hO⟩ := tab_ok HX.out
      have hF0 : F ≤ 128 := by rcases fam_ways F hf with rfl | rfl <;> decide
      have HOK := hidR (And.intro hf (And.intro hL hO))
      have HRT := hidR (And.intro ht hrt)
      have HE1 : Hid (∀ W, Below w1.heap.size w1 W → Calls Tryz.prog 26 #[.slice none 0 0, .agg #[.int .i64 F, .slice ao l.length c]] W fun e w' => ∃ v' T, e = .returned v' ∧ EdS F [] l T ∧ PtO W.heap.size (.slice none 0 0) T W v' w' ∧ Below W.heap.size W w') := hidR (fun W hb => redges_any W F (.slice ao l.length c) l (.slice none 0 0) [] W (Below.refl _ _) ((HV.out.below HB1.out).below hb) (World.ownsRow_nil _ _ _ _) List.Pairwise.nil (by simp; omega) (fun r hr => (HOK.out.2.1 r hr).1))
      have HE2 : Hid (∀ W, Below w1.heap.size w1 W → ∀ lv E1, EdS F [] l E1 → W.ownsRow w1.heap.size 27 2 lv E1.length (rowW E1) → ∀ N, RwR W (.slice (some ⟨N, 0, none⟩) 1 1) [((px, pn), 1)] → lv.ownBlock ≠ some N → Calls Tryz.prog 26 #[lv, .agg #[.int .i64 F, .slice (some ⟨N, 0, none⟩) 1 1]] W fun e w' => ∃ v' T, e = .returned v' ∧ EdS F E1 [((px, pn), 1)] T ∧ PtO w1.heap.size lv T W v' w' ∧ Below w1.heap.size w1 w') := hidR (fun W hb lv E1 hE ho N hrw hne => redgesS_any w1 F (.slice (some ⟨N, 0, none⟩) 1 1) [((px, pn), 1)] lv E1 W hb hrw (fun b off n c _ e => by injection e with e1; injection e1 with e1; injection e1 with e1; rw [← e1]; exact hne) ho hE.1 (by have := hE.2.2; simp at this ⊢; omega) (fun r hr => by simp at hr; rw [hr]; exact HRT.out.2))
      have HC : Hid (∀ W, Below w1.heap.size w1 W → AtT W w.heap.size F (.slice ao l.length c) ∧ AtP W (w.heap.size + 1) px pn) := hidR (fun W hb => ⟨HT1.out.below hb, HP1.out.below hb⟩)
      clear HT1 HP1 hf hL hO ht hrt h1
      go_wp2_with fail
      refine gh_region (γ := Value × Nat × Value) (qpOk 10 10 (by decide) (fun N => by kernel_rfl) (by kernel_rfl) (by kernel_rfl) (by kernel_rfl) (by kernel_rfl)) (by kernel_rfl) (by kernel_rfl) [some 23, some 24, some 25, some 26, some 27, some 28, some 29, some 30, some 31, some 7] (fun g => [.agg #[.int .i64 F, .slice ao l.length c], g.1, .pointer (some ⟨w.heap.size, 0, none⟩), .int .i64 F, .agg #[.int .u64 (hI px), .int .u64 (lI px), .int .i64 pn], .agg #[.int .u64 (hI px), .int .u64 (lI px), .int .i64 pn, .int .i64 1], .slice (some ⟨g.2.1, 0, none⟩) 1 1, .agg #[.int .i64 F, .slice (some ⟨g.2.1, 0, none⟩) 1 1], g.2.2, g.2.2]) (by kernel_rfl) (by simp) (fun lp g W => RV w1 F px pn l (fun j => lp.getD j false) g W) (undef, 0, undef) (RV.start (below_drewN (Below.refl _ _) 1) (fun j => by simp [Array.getElem?_replicate]; split <;> rfl)) ?step ?fin
      case step =>
        intro q o lp g w' a' ho hsz hun hdep hR hS K Q' hK
        have hfl : ∀ j, j ≠ q → (lp.setIfInBounds q true).getD j false = lp.getD j false := fun j hj => by rw [Array.getD_eq_getD_getElem?, Array.getD_eq_getD_getElem?, Array.getElem?_setIfInBounds_ne (by omega)]
        have hq : q < 10 := (List.getElem?_eq_some_iff.mp ho).1
        have hft : (lp.setIfInBounds q true).getD q false = true := getD_set_same (by rw [hsz]; exact hq)
        obtain ⟨⟨t0, t1⟩, ⟨p0, p1, p2, -, -, -⟩⟩ := HC.out w' hR.bel
        match q, ho, hun, hdep, hK, hfl, hft, hq with
        | 0, ho, hun, hdep, hK, hfl, hft, _ =>
          obtain rfl := Option.some.inj ho
          have o2 : a'.tmps[2]? = some (.pointer (some ⟨w.heap.size, 0, none⟩)) := (hS.old 2 (by simp)).trans rfl
          have hK' := hK g w' (fun _ _ _ _ _ _ => rfl) (hR.quiet (i := 0) (by decide) (by decide) (by decide) hun hft hfl (fun h => absurd h (by decide)) (fun h => absurd h (by decide))) (.agg #[.int .i64 F, .slice ao l.length c]) (by simp only [valO, Option.bind_some]; simp only [putAll, Act.put, List.setIfInBounds_toArray, List.set_cons_zero, List.set_cons_succ]; rfl)
          clear hS hdep hR
          refine gh_quiet (v := .agg #[.int .i64 F, .slice ao l.length c]) ?_ ?_
          · (simp only [execOp, Act.eval, o2]; go_simp; first | done | (simp; done) | (simp [*]; done) | omega | (simp; omega))
          · exact hK'
        | 1, ho, hun, hdep, hK, hfl, hft, _ =>
          obtain rfl := Option.some.inj ho
          have d0 : lp.getD 0 false = true := hdep { on := 0, ground := .data } (by simp) rfl
          have e23 : a'.tmps[23]? = some (.agg #[.int .i64 F, .slice ao l.length c]) := (hS.don 0 _ 23 rfl d0 rfl).trans (by simp only [putAll, Act.put, List.setIfInBounds_toArray, List.set_cons_zero, List.set_cons_succ]; rfl)
          have KE := HE1.out w' hR.bel
          clear hdep
          unfold Oper.wp
          simp only [execOp, Act.eval, e23]
          simp [go_sem, e23, Oper.upon]
          refine KE.mono ?_
          rintro e W2 ⟨v', T, rfl, hT, ho2, hb2⟩
          exact hK (v', g.2) W2 (fun k ok s hk hl hd => gh_same (d := 24) (s := s) (by simp only [putAll, Act.put, List.setIfInBounds_toArray, List.set_cons_zero, List.set_cons_succ]; rfl) (by rintro rfl; have := dstG_of (by kernel_rfl) k 1 ok _ 24 hk rfl hd rfl; subst this; rw [hun] at hl; cases hl)) (hR.one1 hun hft hfl hT ho2 hb2) _ (by simp only [valO, Option.bind_some]; simp only [putAll, Act.put, List.setIfInBounds_toArray, List.set_cons_zero, List.set_cons_succ]; rfl)
        | 2, ho, hun, hdep, hK, hfl, hft, _ =>
          obtain rfl := Option.some.inj ho
          have o2 : a'.tmps[2]? = some (.pointer (some ⟨w.heap.size, 0, none⟩)) := (hS.old 2 (by simp)).trans rfl
          have hK' := hK g w' (fun _ _ _ _ _ _ => rfl) (hR.quiet (i := 2) (by decide) (by decide) (by decide) hun hft hfl (fun h => absurd h (by decide)) (fun h => absurd h (by decide))) (.pointer (some ⟨w.heap.size, 0, none⟩)) (by simp only [valO, Option.bind_some]; simp only [putAll, Act.put, List.setIfInBounds_toArray, List.set_cons_zero, List.set_cons_succ]; rfl)
          clear hS hdep hR
          refine gh_quiet (v := .pointer (some ⟨w.heap.size, 0, none⟩)) ?_ ?_
          · (simp only [execOp, Act.eval, o2]; go_simp; first | done | (simp; done) | (simp [*]; done) | omega | (simp; omega))
          · exact hK'
        | 3, ho, hun, hdep, hK, hfl, hft, _ =>
          obtain rfl := Option.some.inj ho
          have d2 : lp.getD 2 false = true := hdep { on := 2, ground := .data } (by simp) rfl
          have e25 : a'.tmps[25]? = some (.pointer (some ⟨w.heap.size, 0, none⟩)) := (hS.don 2 _ 25 rfl d2 rfl).trans (by simp only [putAll, Act.put, List.setIfInBounds_toArray, List.set_cons_zero, List.set_cons_succ]; rfl)
          have hK' := hK g w' (fun _ _ _ _ _ _ => rfl) (hR.quiet (i := 3) (by decide) (by decide) (by decide) hun hft hfl (fun h => absurd h (by decide)) (fun h => absurd h (by decide))) (.int .i64 F) (by simp only [valO, Option.bind_some]; simp only [putAll, Act.put, List.setIfInBounds_toArray, List.set_cons_zero, List.set_cons_succ]; rfl)
          clear hS hdep hR
          refine gh_quiet (v := .int .i64 F) ?_ ?_
          · (simp only [execOp, Act.eval, e25]; go_simp; first | done | (simp; done) | (simp [*]; done) | omega | (simp; omega))
          · exact hK'
        | 4, ho, hun, hdep, hK, hfl, hft, _ =>
          obtain rfl := Option.some.inj ho
          have o3 : a'.tmps[3]? = some (.pointer (some ⟨w.heap.size + 1, 0, none⟩)) := (hS.old 3 (by simp)).trans rfl
          have hK' := hK g w' (fun _ _ _ _ _ _ => rfl) (hR.quiet (i := 4) (by decide) (by decide) (by decide) hun hft hfl (fun h => absurd h (by decide)) (fun h => absurd h (by decide))) (.agg #[.int .u64 (hI px), .int .u64 (lI px), .int .i64 pn]) (by simp only [valO, Option.bind_some]; simp only [putAll, Act.put, List.setIfInBounds_toArray, List.set_cons_zero, List.set_cons_succ]; rfl)
          clear hS hdep hR
          refine gh_quiet (v := .agg #[.int .u64 (hI px), .int .u64 (lI px), .int .i64 pn]) ?_ ?_
          · (simp only [execOp, Act.eval, o3]; go_simp; first | done | (simp; done) | (simp [*]; done) | omega | (simp; omega))
          · exact hK'
        | 5, ho, hun, hdep, hK, hfl, hft, _ =>
          obtain rfl := Option.some.inj ho
          have d4 : lp.getD 4 false = true := hdep { on := 4, ground := .data } (by simp) rfl
          have e27 : a'.tmps[27]? = some (.agg #[.int .u64 (hI px), .int .u64 (lI px), .int .i64 pn]) := (hS.don 4 _ 27 rfl d4 rfl).trans (by simp only [putAll, Act.put, List.setIfInBounds_toArray, List.set_cons_zero, List.set_cons_succ]; rfl)
          have hK' := hK g w' (fun _ _ _ _ _ _ => rfl) (hR.quiet (i := 5) (by decide) (by decide) (by decide) hun hft hfl (fun h => absurd h (by decide)) (fun h => absurd h (by decide))) (.agg #[.int .u64 (hI px), .int .u64 (lI px), .int .i64 pn, .int .i64 1]) (by simp only [valO, Option.bind_some]; simp only [putAll, Act.put, List.setIfInBounds_toArray, List.set_cons_zero, List.set_cons_succ]; rfl)
          clear hS hdep hR
          refine gh_quiet (v := .agg #[.int .u64 (hI px), .int .u64 (lI px), .int .i64 pn, .int .i64 1]) ?_ ?_
          · (simp only [execOp, Act.eval, e27]; go_simp; first | done | (simp; done) | (simp [*]; done) | omega | (simp; omega))
          · exact hK'
        | 6, ho, hun, hdep, hK, hfl, hft, _ =>
          obtain rfl := Option.some.inj ho
          have d5 : lp.getD 5 false = true := hdep { on := 5, ground := .data } (by simp) rfl
          have e28 : a'.tmps[28]? = some (.agg #[.int .u64 (hI px), .int .u64 (lI px), .int .i64 pn, .int .i64 1]) := (hS.don 5 _ 28 rfl d5 rfl).trans (by simp only [putAll, Act.put, List.setIfInBounds_toArray, List.set_cons_zero, List.set_cons_succ]; rfl)
          have h7 : lp.getD 7 false = false := by
            cases h : lp.getD 7 false with
            | false => rfl
            | true => have := hR.c7 h; rw [hun] at this; cases this
          have hK' := hK (g.1, w'.heap.size, g.2.2) (w'.alloc (.cells #[.int .u64 (hI px), .int .u64 (lI px), .int .i64 pn, .int .i64 1] 45)) (fun k ok s hk hl hd => ?same6) (hR.row6 hun hft hfl) (.slice (some ⟨w'.heap.size, 0, none⟩) 1 1) (by simp only [valO, Option.bind_some]; simp only [putAll, Act.put, List.setIfInBounds_toArray, List.set_cons_zero, List.set_cons_succ]; rfl)
          case same6 =>
            refine gh_same2 (d := 29) (d2 := 30) (by simp only [putAll, Act.put, List.setIfInBounds_toArray, List.set_cons_zero, List.set_cons_succ]; try rfl) ?_ ?_
            · rintro rfl
              have := dstG_of (by kernel_rfl) k 6 ok _ 29 hk rfl hd rfl
              subst this
              rw [hun] at hl
              cases hl
            · rintro rfl
              have := dstG_of (by kernel_rfl) k 7 ok _ 30 hk rfl hd rfl
              subst this
              rw [h7] at hl
              cases hl
          clear hS hdep hR
          unfold Oper.wp
          simp [execOp, Act.eval, e28, go_sem, Oper.upon]
          exact hK'
        | 7, ho, hun, hdep, hK, hfl, hft, _ =>
          obtain rfl := Option.some.inj ho
          have d3 : lp.getD 3 false = true := hdep { on := 3, ground := .data } (by simp) rfl
          have e26 : a'.tmps[26]? = some (.int .i64 F) := (hS.don 3 _ 26 rfl d3 rfl).trans (by simp only [putAll, Act.put, List.setIfInBounds_toArray, List.set_cons_zero, List.set_cons_succ]; rfl)
          have d6 : lp.getD 6 false = true := hdep { on := 6, ground := .data } (by simp) rfl
          have e29 : a'.tmps[29]? = some (.slice (some ⟨g.2.1, 0, none⟩) 1 1) := (hS.don 6 _ 29 rfl d6 rfl).trans (by simp only [putAll, Act.put, List.setIfInBounds_toArray, List.set_cons_zero, List.set_cons_succ]; rfl)
          have hK' := hK g w' (fun _ _ _ _ _ _ => rfl) (hR.quiet (i := 7) (by decide) (by decide) (by decide) hun hft hfl (fun _ => d6) (fun h => absurd h (by decide))) (.agg #[.int .i64 F, .slice (some ⟨g.2.1, 0, none⟩) 1 1]) (by simp only [valO, Option.bind_some]; simp only [putAll, Act.put, List.setIfInBounds_toArray, List.set_cons_zero, List.set_cons_succ]; rfl)
          clear hS hdep hR
          refine gh_quiet (v := .agg #[.int .i64 F, .slice (some ⟨g.2.1, 0, none⟩) 1 1]) ?_ ?_
          · (simp only [execOp, Act.eval, e26, e29]; go_simp; first | done | (simp; done) | (simp [*]; done) | omega | (simp; omega))
          · exact hK'
        | 8, ho, hun, hdep, hK, hfl, hft, _ =>
          obtain rfl := Option.some.inj ho
          have d1 : lp.getD 1 false = true := hdep { on := 1, ground := .data } (by simp) rfl
          have e24 : a'.tmps[24]? = some (g.1) := (hS.don 1 _ 24 rfl d1 rfl).trans (by simp only [putAll, Act.put, List.setIfInBounds_toArray, List.set_cons_zero, List.set_cons_succ]; rfl)
          have d7 : lp.getD 7 false = true := hdep { on := 7, ground := .data } (by simp) rfl
          have e30 : a'.tmps[30]? = some (.agg #[.int .i64 F, .slice (some ⟨g.2.1, 0, none⟩) 1 1]) := (hS.don 7 _ 30 rfl d7 rfl).trans (by simp only [putAll, Act.put, List.setIfInBounds_toArray, List.set_cons_zero, List.set_cons_succ]; rfl)
          have h9 : lp.getD 9 false = false := by
            cases h : lp.getD 9 false with
            | false => rfl
            | true => have := hR.c9 h; rw [hun] at this; cases this
          obtain ⟨E1, hE1, ho1⟩ := hR.one d1 hun
          obtain ⟨hrw, hlt, hne⟩ := hR.row (hR.c7 d7) hun
          have KE := HE2.out w' hR.bel g.1 E1 hE1 ho1 g.2.1 hrw (hne d1)
          clear hdep
          unfold Oper.wp
          simp only [execOp, Act.eval, e24, e30]
          simp [go_sem, e24, e30, Oper.upon]
          refine KE.mono ?_
          rintro e W2 ⟨v', T, rfl, hT, ho2, hb2⟩
          refine hK (g.1, g.2.1, v') W2 (fun k ok s hk hl hd => ?_) (hR.two8 hun hft hfl d1 d7 hE1 hT ho2.1 hb2) _ (by simp only [valO, Option.bind_some]; simp only [putAll, Act.put, List.setIfInBounds_toArray, List.set_cons_zero, List.set_cons_succ]; rfl)
          refine gh_same2 (d := 31) (d2 := 7) (by simp only [putAll, Act.put, List.setIfInBounds_toArray, List.set_cons_zero, List.set_cons_succ]; try rfl) ?_ ?_
          · rintro rfl
            have := dstG_of (by kernel_rfl) k 8 ok _ 31 hk rfl hd rfl
            subst this
            rw [hun] at hl
            cases hl
          · rintro rfl
            have := dstG_of (by kernel_rfl) k 9 ok _ 7 hk rfl hd rfl
            subst this
            rw [h9] at hl
            cases hl
        | 9, ho, hun, hdep, hK, hfl, hft, _ =>
          obtain rfl := Option.some.inj ho
          have d8 : lp.getD 8 false = true := hdep { on := 8, ground := .data } (by simp) rfl
          have e31 : a'.tmps[31]? = some (g.2.2) := (hS.don 8 _ 31 rfl d8 rfl).trans (by simp only [putAll, Act.put, List.setIfInBounds_toArray, List.set_cons_zero, List.set_cons_succ]; rfl)
          have hK' := hK g w' (fun _ _ _ _ _ _ => rfl) (hR.quiet (i := 9) (by decide) (by decide) (by decide) hun hft hfl (fun h => absurd h (by decide)) (fun _ => d8)) (g.2.2) (by simp only [valO, Option.bind_some]; simp only [putAll, Act.put, List.setIfInBounds_toArray, List.set_cons_zero, List.set_cons_succ]; rfl)
          clear hS hdep hR
          refine gh_quiet (v := g.2.2) ?_ ?_
          · (simp only [execOp, Act.eval, e31]; go_simp; first | done | (simp; done) | (simp [*]; done) | omega | (simp; omega))
          · exact hK'
        | n + 10, ho, hun, hdep, hK, hfl, hft, hq => exact absurd hq (by omega)
      case fin =>
        intro g W2 hR
        obtain ⟨g1, gn, va⟩ := g
        obtain ⟨E1, E, hE1, hE, ho⟩ := hR.two (by simp)
        have HB2 := hidR (keepb hR.bel HB1.out)
        have HD2 := hidR (HC.out W2 hR.bel)
        have HR2 := hidR (HR1.out.below hR.bel)
        simp only [putAll, Act.put, List.setIfInBounds_toArray, List.set_cons_zero, List.set_cons_succ]
        clear hR
        refine wl_nil (P := Tryz.prog) (ops := #[]) ?_
        have hE0 : E ≠ [] := fun e => by have := eds_zero_mem hE; rw [e] at this; cases this
        have hEp : 0 < E.length := by have : E.length ≠ 0 := fun e => hE0 (List.length_eq_zero_iff.mp e); omega
        obtain ⟨ga, ca, rfl, -, -⟩ := ho.form hEp
        have hEl : E.length ≤ 10000000 := by have h1 := hE.2.2; have h2 := hE1.2.2; simp at h1 h2; omega
        have HSG := hidR (mix_segs F l [((px, pn), 1)] qOnly qk_on HX.out HRT.out.1 E1 E hE1 hE)
        have HI0 : Hid (HpM w (OnK w F (.slice ao l.length c) px pn) W2.heap.size (.slice (some ⟨ga, 0, none⟩) E.length ca) E (.slice none 0 0) [] W2) := hidR ⟨⟨HD2.out.1, HD2.out.2, HR2.out⟩, own_wide ho HB1.out.size, World.ownsRow_nil _ _ _ _, HB2.out, fun z e => (ho.lt z e).2, by have := HR2.out.lt; omega, Nat.le_refl _⟩
        clear ho hE hE1 hE0 HE1 HE2 HB2 HD2 HR2 HC HR1
        go_wp2_with fail
        generalize W2.heap.size = B0 at *
        go_loopw [8, 9] (fun vh i wr => ∃ (k : Nat) (vh' : Value), k ≤ E.length ∧ i = .int .i64 k ∧ vh' = vh ∧ Hid (HpM w (OnK w F (.slice ao l.length c) px pn) B0 (.slice (some ⟨ga, 0, none⟩) E.length ca) E vh' ((E.take k).map fun e => qOnly (look e 0 l) (look e 0 [((px, pn), 1)])) wr)) (fun _ i _ => E.length - (intOf i).toNat)
        case atStart => exact ⟨0, _, by omega, rfl, rfl, by simpa using HI0⟩
        case round =>
          clear HI0
          obtain ⟨k, vh, hk, rfl, rfl, HI⟩ := hrel
          by_cases hlt : (k : Int) < (E.length : Int)
          · have hks : k < E.length := by omega
            have hkw : IntKind.i64.wrap ((k : Int) + 1) = (k : Int) + 1 := by rw [IntKind.wrap_i64]; omega
            have HTE : Hid ((E.take (k + 1)).map (fun e => qOnly (look e 0 l) (look e 0 [((px, pn), 1)])) = (E.take k).map (fun e => qOnly (look e 0 l) (look e 0 [((px, pn), 1)])) ++ [qOnly (look E[k] 0 l) (look E[k] 0 [((px, pn), 1)])]) := hidR (by rw [List.take_succ_eq_append_getElem hks, List.map_append]; rfl)
            have HHL : Hid (((E.take k).map (fun e => qOnly (look e 0 l) (look e 0 [((px, pn), 1)]))).length = k) := hidR (by rw [List.length_map, List.length_take]; omega)
            have K1 : Hid (∀ W, Below w.heap.size w W → Calls Tryz.prog 28 #[.agg #[.int .i64 F, .slice ao l.length c], .agg #[.int .u64 (hI E[k]), .int .u64 (lI E[k])]] W fun e w' => e = .returned (.int .i64 (look E[k] 0 l)) ∧ Below W.heap.size W w') := hidR (fun W hb => by
              have := rlookup_any F E[k] (.slice ao l.length c) l W (HV.out.below hb) (by omega) (ro_cells HOK.out.1 HOK.out.2.1)
              rwa [mat_eq_look F E[k] l HOK.out.2.1 HOK.out.2.2] at this)
            have K2 : Hid (∀ W, Below w.heap.size w W → Calls Tryz.prog 27 #[.agg #[.int .u64 (hI px), .int .u64 (lI px), .int .i64 pn], .agg #[.int .u64 (hI E[k]), .int .u64 (lI E[k])]] W fun e w' => e = .returned (.bool (rhasB px pn E[k])) ∧ Below W.heap.size W w') := hidR (fun W hb => rhas_any px pn E[k] W)
            have HOV := hidR (on_val px pn E[k] (look E[k] 0 l) HRT.out.2.1 (by have := HRT.out.2.2.1; omega) HRT.out.2.2.2)
            have HY : Hid (∀ W : World, W.ownsRow w.heap.size 27 2 (.slice (some ⟨ga, 0, none⟩) E.length ca) E.length (rowW E) → W.cell? ⟨ga, k * 2, none⟩ = some (.int .u64 (hI E[k])) ∧ W.cell? ⟨ga, k * 2 + 1, none⟩ = some (.int .u64 (lI E[k]))) := hidR (fun W h => ownW_cells h k hks)
            revert HTE HHL K1 K2 HOV HY HI
            generalize (E.take k).map (fun e => qOnly (look e 0 l) (look e 0 [((px, pn), 1)])) = H
            generalize qOnly (look E[k] 0 l) (look E[k] 0 [((px, pn), 1)]) = ev
            generalize look E[k] 0 l = fa
            generalize rhasB px pn E[k] = hs
            generalize E[k] = ex
            intro HI HTE HHL K1 K2 HOV HY
            obtain ⟨ae, ce, rfl⟩ := own_form HI.out.hp
            rw [HHL.out]
            rw [HHL.out] at HI
            have HC4 : Hid (UO w wr F (.slice ao l.length c) px pn ga (k * 2) ex wr) := hidR ⟨HI.out.k.1, HI.out.k.2.1, HY.out wr HI.out.at', HI.out.bel, Below.refl _ _⟩
            go_wp2_with fail
            refine q_region (C := UO w wr F (.slice ao l.length c) px pn ga (k * 2) ex) (by kernel_rfl) (by kernel_rfl) (HC4.out.below (below_drewN (Below.refl _ _) 1)) ?_
            clear HC4
            refine q_run (v := .agg #[.int .u64 (hI px), .int .u64 (lI px), .int .i64 pn]) (by rfl) ?_ ?_
            · (intro w1 hC; obtain ⟨⟨t0, t1⟩, ⟨p0, p1, p2, -, -, -⟩, ⟨x0, x1⟩, -, -⟩ := hC; go_simp; first | done | (simp; done) | (simp [*]; done) | omega | (simp; omega) | (rw [IntKind.wrap_i64]; omega) | (intro hx; omega) | rfl)
            simp only [Act.put, List.setIfInBounds_toArray, List.set_cons_zero, List.set_cons_succ]
            refine q_run (v := .slice (some ⟨ga, 0, none⟩) E.length ca) (by rfl) ?_ ?_
            · (intro w1 hC; obtain ⟨⟨t0, t1⟩, ⟨p0, p1, p2, -, -, -⟩, ⟨x0, x1⟩, -, -⟩ := hC; go_simp; first | done | (simp; done) | (simp [*]; done) | omega | (simp; omega) | (rw [IntKind.wrap_i64]; omega) | (intro hx; omega) | rfl)
            simp only [Act.put, List.setIfInBounds_toArray, List.set_cons_zero, List.set_cons_succ]
            refine q_run (v := .int .i64 (k : Int)) (by rfl) ?_ ?_
            · (intro w1 hC; obtain ⟨⟨t0, t1⟩, ⟨p0, p1, p2, -, -, -⟩, ⟨x0, x1⟩, -, -⟩ := hC; go_simp; first | done | (simp; done) | (simp [*]; done) | omega | (simp; omega) | (rw [IntKind.wrap_i64]; omega) | (intro hx; omega) | rfl)
            simp only [Act.put, List.setIfInBounds_toArray, List.set_cons_zero, List.set_cons_succ]
            refine q_run (v := .pointer (some ⟨ga, k * 2, none⟩)) (by rfl) ?_ ?_
            · (intro w1 hC; obtain ⟨⟨t0, t1⟩, ⟨p0, p1, p2, -, -, -⟩, ⟨x0, x1⟩, -, -⟩ := hC; go_simp; first | done | (simp; done) | (simp [*]; done) | omega | (simp; omega) | (rw [IntKind.wrap_i64]; omega) | (intro hx; omega) | rfl)
            simp only [Act.put, List.setIfInBounds_toArray, List.set_cons_zero, List.set_cons_succ]
            refine q_run (v := .agg #[.int .u64 (hI ex), .int .u64 (lI ex)]) (by rfl) ?_ ?_
            · (intro w1 hC; obtain ⟨⟨t0, t1⟩, ⟨p0, p1, p2, -, -, -⟩, ⟨x0, x1⟩, -, -⟩ := hC; go_simp; first | done | (simp; done) | (simp [*]; done) | omega | (simp; omega) | (rw [IntKind.wrap_i64]; omega) | (intro hx; omega) | rfl)
            simp only [Act.put, List.setIfInBounds_toArray, List.set_cons_zero, List.set_cons_succ]
            refine q_call (v := .bool hs) (f := 27) (args := #[.agg #[.int .u64 (hI px), .int .u64 (lI px), .int .i64 pn], .agg #[.int .u64 (hI ex), .int .u64 (lI ex)]]) (by rfl) ?_ ?_ ?_
            · (intro w1 hC; clear hC; go_simp)
            · exact fun w1 hC => (K2.out w1 hC.2.2.2.1).mono fun e w' ⟨he, hb⟩ => ⟨he, hC.below hb⟩
            simp only [Act.put, List.setIfInBounds_toArray, List.set_cons_zero, List.set_cons_succ]
            refine wpQuiet_nil ?_
            intro V1 hC
            have HI1 := hidR (HpM.below (onK_heap w F (.slice ao l.length c) px pn) HI.out hC.2.2.2.2)
            clear hC HI
            cases hs with
            | false =>
              have hov := HOV.out
              rw [if_neg (by decide)] at hov
              clear K1 K2 HY HOV
              have hq := bl1 V1 (.cells #[.int .i64 0] 3)
              have HI3 := hidR (HpM.below (onK_heap w F (.slice ao l.length c) px pn) HI1.out hq)
              have hownN := HI1.out.hp
              rw [HHL.out] at hownN
              have HEQ : Hid (ev = 0) := hidR (by exact hov)
              clear hq HI1
              go_wp2_with (first | (
                  at_builtin
                  refine wpList_append_lies _ rfl _ _ 59 rfl B0 3 i0 (.int .i64 0) 1 8 Tryz.underlying59 hi hz0 hz1 hz2 rfl (by decide) _ _ _ rfl (hownN.alloc _) ⟨V1.heap.size, 0, none⟩ 1 1 [.int .i64 0] rfl rfl (newsI (by simp [go_sem])) (oneI _) (by decide) (by unfold maxLen; omega) (by omega) (by have := HI3.out.bs; simpa using this) _ rfl ?_
                  intro g4 cap4 w4 hown4 hgrow hat hlt4
                  have HI4 := hidR (HpM.app (onK_heap w F (.slice ao l.length c) px pn) HI3.out HHL.out (0) g4 cap4 hown4 hgrow)
                  clear hgrow hat hown4 hlt4 HI3 hownN))
              go_wp2
              go_roundw
              case rel => exact ⟨k + 1, _, by omega, by go_num, rfl, by rw [HTE.out, HEQ.out]; exact HI4⟩
              case measure => simp [intOf]; omega
            | true =>
              have hov := HOV.out
              rw [if_pos rfl] at hov
              have HC5 : Hid (UO w V1 F (.slice ao l.length c) px pn ga (k * 2) ex V1) := hidR ⟨HI1.out.k.1, HI1.out.k.2.1, HY.out V1 HI1.out.at', HI1.out.bel, Below.refl _ _⟩
              go_wp2_with fail
              refine q_region (C := UO w V1 F (.slice ao l.length c) px pn ga (k * 2) ex) (by kernel_rfl) (by kernel_rfl) (HC5.out.below (below_drewN (Below.refl _ _) 1)) ?_
              clear HC5
              refine q_run (v := .agg #[.int .i64 F, .slice ao l.length c]) (by rfl) ?_ ?_
              · (intro w1 hC; obtain ⟨⟨t0, t1⟩, ⟨p0, p1, p2, -, -, -⟩, ⟨x0, x1⟩, -, -⟩ := hC; go_simp; first | done | (simp; done) | (simp [*]; done) | omega | (simp; omega) | (rw [IntKind.wrap_i64]; omega) | (intro hx; omega) | rfl)
              simp only [Act.put, List.setIfInBounds_toArray, List.set_cons_zero, List.set_cons_succ]
              refine q_run (v := .slice (some ⟨ga, 0, none⟩) E.length ca) (by rfl) ?_ ?_
              · (intro w1 hC; obtain ⟨⟨t0, t1⟩, ⟨p0, p1, p2, -, -, -⟩, ⟨x0, x1⟩, -, -⟩ := hC; go_simp; first | done | (simp; done) | (simp [*]; done) | omega | (simp; omega) | (rw [IntKind.wrap_i64]; omega) | (intro hx; omega) | rfl)
              simp only [Act.put, List.setIfInBounds_toArray, List.set_cons_zero, List.set_cons_succ]
              refine q_run (v := .int .i64 (k : Int)) (by rfl) ?_ ?_
              · (intro w1 hC; obtain ⟨⟨t0, t1⟩, ⟨p0, p1, p2, -, -, -⟩, ⟨x0, x1⟩, -, -⟩ := hC; go_simp; first | done | (simp; done) | (simp [*]; done) | omega | (simp; omega) | (rw [IntKind.wrap_i64]; omega) | (intro hx; omega) | rfl)
              simp only [Act.put, List.setIfInBounds_toArray, List.set_cons_zero, List.set_cons_succ]
              refine q_run (v := .pointer (some ⟨ga, k * 2, none⟩)) (by rfl) ?_ ?_
              · (intro w1 hC; obtain ⟨⟨t0, t1⟩, ⟨p0, p1, p2, -, -, -⟩, ⟨x0, x1⟩, -, -⟩ := hC; go_simp; first | done | (simp; done) | (simp [*]; done) | omega | (simp; omega) | (rw [IntKind.wrap_i64]; omega) | (intro hx; omega) | rfl)
              simp only [Act.put, List.setIfInBounds_toArray, List.set_cons_zero, List.set_cons_succ]
              refine q_run (v := .agg #[.int .u64 (hI ex), .int .u64 (lI ex)]) (by rfl) ?_ ?_
              · (intro w1 hC; obtain ⟨⟨t0, t1⟩, ⟨p0, p1, p2, -, -, -⟩, ⟨x0, x1⟩, -, -⟩ := hC; go_simp; first | done | (simp; done) | (simp [*]; done) | omega | (simp; omega) | (rw [IntKind.wrap_i64]; omega) | (intro hx; omega) | rfl)
              simp only [Act.put, List.setIfInBounds_toArray, List.set_cons_zero, List.set_cons_succ]
              refine q_call (v := .int .i64 fa) (f := 28) (args := #[.agg #[.int .i64 F, .slice ao l.length c], .agg #[.int .u64 (hI ex), .int .u64 (lI ex)]]) (by rfl) ?_ ?_ ?_
              · (intro w1 hC; clear hC; go_simp)
              · exact fun w1 hC => (K1.out w1 hC.2.2.2.1).mono fun e w' ⟨he, hb⟩ => ⟨he, hC.below hb⟩
              simp only [Act.put, List.setIfInBounds_toArray, List.set_cons_zero, List.set_cons_succ]
              refine q_run (v := .int .i64 fa) (by rfl) ?_ ?_
              · (intro w1 hC; obtain ⟨⟨t0, t1⟩, ⟨p0, p1, p2, -, -, -⟩, ⟨x0, x1⟩, -, -⟩ := hC; go_simp; first | done | (simp; done) | (simp [*]; done) | omega | (simp; omega) | (rw [IntKind.wrap_i64]; omega) | (intro hx; omega) | rfl)
              simp only [Act.put, List.setIfInBounds_toArray, List.set_cons_zero, List.set_cons_succ]
              refine wpQuiet_nil ?_
              intro V2 hC
              have HI2 := hidR (HpM.below (onK_heap w F (.slice ao l.length c) px pn) HI1.out hC.2.2.2.2)
              clear hC HI1 K1 K2 HY HOV
              have hq := bl1 V2 (.cells #[.int .i64 fa] 3)
              have HI3 := hidR (HpM.below (onK_heap w F (.slice ao l.length c) px pn) HI2.out hq)
              have hownN := HI2.out.hp
              rw [HHL.out] at hownN
              have HEQ : Hid (ev = fa) := hidR (by exact hov)
              clear hq HI2
              go_wp2_with (first | (
                  at_builtin
                  refine wpList_append_lies _ rfl _ _ 59 rfl B0 3 i0 (.int .i64 0) 1 8 Tryz.underlying59 hi hz0 hz1 hz2 rfl (by decide) _ _ _ rfl (hownN.alloc _) ⟨V2.heap.size, 0, none⟩ 1 1 [.int .i64 fa] rfl rfl (newsI (by simp [go_sem])) (oneI _) (by decide) (by unfold maxLen; omega) (by omega) (by have := HI3.out.bs; simpa using this) _ rfl ?_
                  intro g4 cap4 w4 hown4 hgrow hat hlt4
                  have HI4 := hidR (HpM.app (onK_heap w F (.slice ao l.length c) px pn) HI3.out HHL.out (fa) g4 cap4 hown4 hgrow)
                  clear hgrow hat hown4 hlt4 HI3 hownN))
              go_wp2
              go_roundw
              case rel => exact ⟨k + 1, _, by omega, by go_num, rfl, by rw [HTE.out, HEQ.out]; exact HI4⟩
              case measure => simp [intOf]; omega
          · have hd : ¬ k < E.length := by omega
            have hke : E.take k = E := List.take_of_length_le (by omega)
            rw [hke] at HI
            have hlE : (E.map fun e => qOnly (look e 0 l) (look e 0 [((px, pn), 1)])).length = E.length := by simp
            obtain ⟨gh, ch, rfl, -, -⟩ := HI.out.hp.form (by rw [hlE]; exact hEp)
            rw [hlE]
            have hZl : (E.map fun e => (e, qOnly (look e 0 l) (look e 0 [((px, pn), 1)]))).length = E.length := by simp
            obtain ⟨hs1, hs2⟩ := HSG.out
            have hTl : (jnd qOnly (swp F l) (swp F [((px, pn), 1)])).length ≤ 1000000000 := by
              have a := jnd_len qOnly (swp F l) (swp F [((px, pn), 1)])
              have h3 := swp_len F l
              have h4 := swp_len F [((px, pn), 1)]
              simp at h4
              omega
            have HJ : Hid (∀ W, Below wr.heap.size wr W → Calls Tryz.prog 30 #[.int .i64 F, .slice (some ⟨ga, 0, none⟩) E.length ca, .slice (some ⟨gh, 0, none⟩) E.length ch] W fun e w' => ∃ v, e = .returned v ∧ w'.ownsRow W.heap.size 47 5 v (jnd qOnly (swp F l) (swp F [((px, pn), 1)])).length (rowG (jnd qOnly (swp F l) (swp F [((px, pn), 1)]))) ∧ Below W.heap.size W w') := hidR (fun W hb => by
              have KJ := rjoined_any F ga ca gh ch (E.map fun e => (e, qOnly (look e 0 l) (look e 0 [((px, pn), 1)]))) W (fun k h => by
                have := ownW_cells (own_below hb HI.out.at') k (by simpa using h)
                simpa using this) (fun k h => by
                have := ownI_cells (l := E.map fun e => qOnly (look e 0 l) (look e 0 [((px, pn), 1)])) (by have := own_below hb HI.out.hp; simpa using this) k (by simpa using h)
                simpa using this) (by rw [hZl]; omega)
              have hl2 : (jn F [] (E.map fun e => (e, qOnly (look e 0 l) (look e 0 [((px, pn), 1)])))).length = (jnd qOnly (swp F l) (swp F [((px, pn), 1)])).length := by rw [← hs1, List.length_reverse]
              rw [hZl, hs1, hl2] at KJ
              exact KJ)
            have HC : Hid (∀ W, Below wr.heap.size wr W → ∀ v, W.ownsRow wr.heap.size 47 5 v (jnd qOnly (swp F l) (swp F [((px, pn), 1)])).length (rowG (jnd qOnly (swp F l) (swp F [((px, pn), 1)]))) → Calls Tryz.prog 29 #[.int .i64 F, v] W fun e w' => (∃ v', e = .returned (.tuple #[.agg #[.int .i64 (tabW F (jnd qOnly (swp F l) (swp F [((px, pn), 1)]))), v'], .int .i64 (tabX F (jnd qOnly (swp F l) (swp F [((px, pn), 1)])))]) ∧ w'.ownsRow W.heap.size 45 4 v' (tabL F (jnd qOnly (swp F l) (swp F [((px, pn), 1)]))).length (rowR (tabL F (jnd qOnly (swp F l) (swp F [((px, pn), 1)]))))) ∧ Below W.heap.size W w') := hidR (fun W hb v hv => by
              have KT := rtab6_any F v _ W (own_rwg hv) hTl
              obtain ⟨e1, e2, e3⟩ := t_yes (sgsE_zero HOK.out.1 hs2)
              rw [e1, e2, e3] at KT
              exact KT)
            have HVV : Hid (OnV F l px pn 0 = (tabW F (jnd qOnly (swp F l) (swp F [((px, pn), 1)])), tabX F (jnd qOnly (swp F l) (swp F [((px, pn), 1)])), tabL F (jnd qOnly (swp F l) (swp F [((px, pn), 1)])))) := hidR (by rw [OnV, if_pos rfl])
            have HT2 : Hid (∀ W, Below wr.heap.size wr W → AtT W w.heap.size F (.slice ao l.length c)) := hidR (fun W hb => HI.out.k.1.below hb)
            have HC0 : Hid (AtU wr (w.heap.size + 1 + 1) 0 (.slice none 0 0) ∧ w.heap.size ≤ w.heap.size + 1 + 1) := hidR ⟨HI.out.k.2.2, by omega⟩
            have HBw := hidR HI.out.bel
            clear HI hke hZl hlE hs1 hs2 hTl HSG
            revert HJ HC HVV
            generalize jnd qOnly (swp F l) (swp F [((px, pn), 1)]) = T
            intro HJ HC HVV
            go_wp2_with fail
            refine gh_region (γ := (Option Addr × Nat) × (Option Addr × Nat)) (qpOk 12 12 (by decide) (fun N => by kernel_rfl) (by kernel_rfl) (by kernel_rfl) (by kernel_rfl) (by kernel_rfl)) (by kernel_rfl) (by kernel_rfl) [some 54, some 55, some 56, some 57, some 58, some 59, some 60, some 61, some 62, some 63, none, some 5] (fun g => [.pointer (some ⟨w.heap.size, 0, none⟩), .int .i64 F, .pointer (some ⟨w.heap.size, 0, none⟩), .int .i64 F, .slice (some ⟨ga, 0, none⟩) E.length ca, .slice (some ⟨gh, 0, none⟩) E.length ch, .slice g.1.1 T.length g.1.2, .tuple #[.agg #[.int .i64 (tabW F T), .slice g.2.1 (tabL F T).length g.2.2], .int .i64 (tabX F T)], .agg #[.int .i64 (tabW F T), .slice g.2.1 (tabL F T).length g.2.2], .int .i64 (tabX F T), undef, .int .i64 (tabX F T)]) (by kernel_rfl) (by simp) (fun lp g W => RC w wr (w.heap.size + 1 + 1) F T 6 (fun j => lp.getD j false) g W) ((none, 0), (none, 0)) (RC.start ⟨HC0.out, HBw.out⟩ (fun j => by simp [Array.getElem?_replicate]; split <;> rfl)) ?step ?fin
            case step =>
              intro q o lp g w' a' ho hsz hun hdep hR hS K Q' hK
              have hfl : ∀ j, j ≠ q → (lp.setIfInBounds q true).getD j false = lp.getD j false := fun j hj => by rw [Array.getD_eq_getD_getElem?, Array.getD_eq_getD_getElem?, Array.getElem?_setIfInBounds_ne (by omega)]
              have hq : q < 12 := (List.getElem?_eq_some_iff.mp ho).1
              have hft : (lp.setIfInBounds q true).getD q false = true := getD_set_same (by rw [hsz]; exact hq)
              match q, ho, hun, hdep, hK, hfl, hft, hq with
              | 0, ho, hun, hdep, hK, hfl, hft, _ =>
                obtain rfl := Option.some.inj ho
                have o2 : a'.tmps[2]? = some (.pointer (some ⟨w.heap.size, 0, none⟩)) := (hS.old 2 (by simp)).trans rfl
                have hK' := hK g w' (fun _ _ _ _ _ _ => rfl) (hR.quiet (i := 0) (by decide) (by decide) (by decide) hun hft hfl (fun h => absurd h (by decide))) (.pointer (some ⟨w.heap.size, 0, none⟩)) (by simp only [valO, Option.bind_some]; simp only [putAll, Act.put, List.setIfInBounds_toArray, List.set_cons_zero, List.set_cons_succ]; rfl)
                clear hS hdep hR
                refine gh_quiet (v := .pointer (some ⟨w.heap.size, 0, none⟩)) ?_ ?_
                · (simp only [execOp, Act.eval, o2]; go_simp; first | done | (simp; done) | (simp [*]; done) | omega | (simp; omega))
                · exact hK'
              | 1, ho, hun, hdep, hK, hfl, hft, _ =>
                obtain rfl := Option.some.inj ho
                have d0 : lp.getD 0 false = true := hdep { on := 0, ground := .data } (by simp) rfl
                have e54 : a'.tmps[54]? = some (.pointer (some ⟨w.heap.size, 0, none⟩)) := (hS.don 0 _ 54 rfl d0 rfl).trans (by simp only [putAll, Act.put, List.setIfInBounds_toArray, List.set_cons_zero, List.set_cons_succ]; rfl)
                obtain ⟨t0, t1⟩ := HT2.out w' (hR.bel (hR.now (i := 1) (by decide) hun))
                have hK' := hK g w' (fun _ _ _ _ _ _ => rfl) (hR.quiet (i := 1) (by decide) (by decide) (by decide) hun hft hfl (fun h => absurd h (by decide))) (.int .i64 F) (by simp only [valO, Option.bind_some]; simp only [putAll, Act.put, List.setIfInBounds_toArray, List.set_cons_zero, List.set_cons_succ]; rfl)
                clear hS hdep hR
                refine gh_quiet (v := .int .i64 F) ?_ ?_
                · (simp only [execOp, Act.eval, e54]; go_simp; first | done | (simp; done) | (simp [*]; done) | omega | (simp; omega))
                · exact hK'
              | 2, ho, hun, hdep, hK, hfl, hft, _ =>
                obtain rfl := Option.some.inj ho
                have o2 : a'.tmps[2]? = some (.pointer (some ⟨w.heap.size, 0, none⟩)) := (hS.old 2 (by simp)).trans rfl
                have hK' := hK g w' (fun _ _ _ _ _ _ => rfl) (hR.quiet (i := 2) (by decide) (by decide) (by decide) hun hft hfl (fun h => absurd h (by decide))) (.pointer (some ⟨w.heap.size, 0, none⟩)) (by simp only [valO, Option.bind_some]; simp only [putAll, Act.put, List.setIfInBounds_toArray, List.set_cons_zero, List.set_cons_succ]; rfl)
                clear hS hdep hR
                refine gh_quiet (v := .pointer (some ⟨w.heap.size, 0, none⟩)) ?_ ?_
                · (simp only [execOp, Act.eval, o2]; go_simp; first | done | (simp; done) | (simp [*]; done) | omega | (simp; omega))
                · exact hK'
              | 3, ho, hun, hdep, hK, hfl, hft, _ =>
                obtain rfl := Option.some.inj ho
                have d2 : lp.getD 2 false = true := hdep { on := 2, ground := .data } (by simp) rfl
                have e56 : a'.tmps[56]? = some (.pointer (some ⟨w.heap.size, 0, none⟩)) := (hS.don 2 _ 56 rfl d2 rfl).trans (by simp only [putAll, Act.put, List.setIfInBounds_toArray, List.set_cons_zero, List.set_cons_succ]; rfl)
                obtain ⟨t0, t1⟩ := HT2.out w' (hR.bel (hR.now (i := 3) (by decide) hun))
                have hK' := hK g w' (fun _ _ _ _ _ _ => rfl) (hR.quiet (i := 3) (by decide) (by decide) (by decide) hun hft hfl (fun h => absurd h (by decide))) (.int .i64 F) (by simp only [valO, Option.bind_some]; simp only [putAll, Act.put, List.setIfInBounds_toArray, List.set_cons_zero, List.set_cons_succ]; rfl)
                clear hS hdep hR
                refine gh_quiet (v := .int .i64 F) ?_ ?_
                · (simp only [execOp, Act.eval, e56]; go_simp; first | done | (simp; done) | (simp [*]; done) | omega | (simp; omega))
                · exact hK'
              | 4, ho, hun, hdep, hK, hfl, hft, _ =>
                obtain rfl := Option.some.inj ho
                have o7 : a'.tmps[7]? = some (.slice (some ⟨ga, 0, none⟩) E.length ca) := (hS.old 7 (by simp)).trans rfl
                have hK' := hK g w' (fun _ _ _ _ _ _ => rfl) (hR.quiet (i := 4) (by decide) (by decide) (by decide) hun hft hfl (fun h => absurd h (by decide))) (.slice (some ⟨ga, 0, none⟩) E.length ca) (by simp only [valO, Option.bind_some]; simp only [putAll, Act.put, List.setIfInBounds_toArray, List.set_cons_zero, List.set_cons_succ]; rfl)
                clear hS hdep hR
                refine gh_quiet (v := .slice (some ⟨ga, 0, none⟩) E.length ca) ?_ ?_
                · (simp only [execOp, Act.eval, o7]; go_simp; first | done | (simp; done) | (simp [*]; done) | omega | (simp; omega))
                · exact hK'
              | 5, ho, hun, hdep, hK, hfl, hft, _ =>
                obtain rfl := Option.some.inj ho
                have o8 : a'.tmps[8]? = some (.slice (some ⟨gh, 0, none⟩) E.length ch) := (hS.old 8 (by simp)).trans rfl
                have hK' := hK g w' (fun _ _ _ _ _ _ => rfl) (hR.quiet (i := 5) (by decide) (by decide) (by decide) hun hft hfl (fun h => absurd h (by decide))) (.slice (some ⟨gh, 0, none⟩) E.length ch) (by simp only [valO, Option.bind_some]; simp only [putAll, Act.put, List.setIfInBounds_toArray, List.set_cons_zero, List.set_cons_succ]; rfl)
                clear hS hdep hR
                refine gh_quiet (v := .slice (some ⟨gh, 0, none⟩) E.length ch) ?_ ?_
                · (simp only [execOp, Act.eval, o8]; go_simp; first | done | (simp; done) | (simp [*]; done) | omega | (simp; omega))
                · exact hK'
              | 6, ho, hun, hdep, hK, hfl, hft, _ =>
                obtain rfl := Option.some.inj ho
                have d3 : lp.getD 3 false = true := hdep { on := 3, ground := .data } (by simp) rfl
                have e57 : a'.tmps[57]? = some (.int .i64 F) := (hS.don 3 _ 57 rfl d3 rfl).trans (by simp only [putAll, Act.put, List.setIfInBounds_toArray, List.set_cons_zero, List.set_cons_succ]; rfl)
                have d4 : lp.getD 4 false = true := hdep { on := 4, ground := .data } (by simp) rfl
                have e58 : a'.tmps[58]? = some (.slice (some ⟨ga, 0, none⟩) E.length ca) := (hS.don 4 _ 58 rfl d4 rfl).trans (by simp only [putAll, Act.put, List.setIfInBounds_toArray, List.set_cons_zero, List.set_cons_succ]; rfl)
                have d5 : lp.getD 5 false = true := hdep { on := 5, ground := .data } (by simp) rfl
                have e59 : a'.tmps[59]? = some (.slice (some ⟨gh, 0, none⟩) E.length ch) := (hS.don 5 _ 59 rfl d5 rfl).trans (by simp only [putAll, Act.put, List.setIfInBounds_toArray, List.set_cons_zero, List.set_cons_succ]; rfl)
                have hb1 := hR.bel (hR.now (i := 6) (by decide) hun)
                have KJ := HJ.out w' hb1
                unfold Oper.wp
                simp only [execOp, Act.eval]
                simp [e57, e58, e59, go_sem, Oper.upon]
                refine KJ.mono ?_
                rintro e w5 ⟨v5, rfl, hown, hb5⟩
                obtain ⟨ao5, c5, rfl⟩ := own_form hown
                exact hK ((ao5, c5), g.2) w5 (fun k ok s hk hl hd => gh_same (d := 60) (s := s) (by simp only [putAll, Act.put, List.setIfInBounds_toArray, List.set_cons_zero, List.set_cons_succ]; rfl) (by rintro rfl; have := dstG_of (by kernel_rfl) k 6 ok _ 60 hk rfl hd rfl; subst this; rw [hun] at hl; cases hl)) (hR.jo hun hft hfl hown hb5) _ (by simp only [valO, Option.bind_some]; simp only [putAll, Act.put, List.setIfInBounds_toArray, List.set_cons_zero, List.set_cons_succ]; rfl)
              | 7, ho, hun, hdep, hK, hfl, hft, _ =>
                obtain rfl := Option.some.inj ho
                have d1 : lp.getD 1 false = true := hdep { on := 1, ground := .data } (by simp) rfl
                have e55 : a'.tmps[55]? = some (.int .i64 F) := (hS.don 1 _ 55 rfl d1 rfl).trans (by simp only [putAll, Act.put, List.setIfInBounds_toArray, List.set_cons_zero, List.set_cons_succ]; rfl)
                have d6 : lp.getD 6 false = true := hdep { on := 6, ground := .data } (by simp) rfl
                have e60 : a'.tmps[60]? = some (.slice g.1.1 T.length g.1.2) := (hS.don 6 _ 60 rfl d6 rfl).trans (by simp only [putAll, Act.put, List.setIfInBounds_toArray, List.set_cons_zero, List.set_cons_succ]; rfl)
                have hb1 := hR.bel (hR.now (i := 7) (by decide) hun)
                have KC := HC.out w' hb1 _ (hR.j d6)
                unfold Oper.wp
                simp only [execOp, Act.eval]
                simp [e55, e60, go_sem, Oper.upon]
                refine KC.mono ?_
                rintro e w5 ⟨⟨v5, rfl, hown⟩, hb5⟩
                obtain ⟨ao5, c5, rfl⟩ := own_form hown
                have h7 : lp.getD 8 false = false := by
                  cases h : lp.getD 8 false with
                  | false => rfl
                  | true => have := hR.cx h; rw [hun] at this; cases this
                refine hK (g.1, (ao5, c5)) w5 (fun k ok s hk hl hd => ?_) (hR.co hun hft hfl d6 hown hb5) _ (by simp only [valO, Option.bind_some]; simp only [putAll, Act.put, List.setIfInBounds_toArray, List.set_cons_zero, List.set_cons_succ]; rfl)
                refine gh_same2 (d := 61) (d2 := 62) (by simp only [putAll, Act.put, List.setIfInBounds_toArray, List.set_cons_zero, List.set_cons_succ]; try rfl) ?_ ?_
                · rintro rfl
                  have := dstG_of (by kernel_rfl) k 7 ok _ 61 hk rfl hd rfl
                  subst this
                  rw [hun] at hl
                  cases hl
                · rintro rfl
                  have := dstG_of (by kernel_rfl) k 8 ok _ 62 hk rfl hd rfl
                  subst this
                  rw [h7] at hl
                  cases hl
              | 8, ho, hun, hdep, hK, hfl, hft, _ =>
                obtain rfl := Option.some.inj ho
                have d7 : lp.getD 7 false = true := hdep { on := 7, ground := .data } (by simp) rfl
                have e61 : a'.tmps[61]? = some (.tuple #[.agg #[.int .i64 (tabW F T), .slice g.2.1 (tabL F T).length g.2.2], .int .i64 (tabX F T)]) := (hS.don 7 _ 61 rfl d7 rfl).trans (by simp only [putAll, Act.put, List.setIfInBounds_toArray, List.set_cons_zero, List.set_cons_succ]; rfl)
                have hK' := hK g w' (fun _ _ _ _ _ _ => rfl) (hR.quiet (i := 8) (by decide) (by decide) (by decide) hun hft hfl (fun _ => d7)) (.agg #[.int .i64 (tabW F T), .slice g.2.1 (tabL F T).length g.2.2]) (by simp only [valO, Option.bind_some]; simp only [putAll, Act.put, List.setIfInBounds_toArray, List.set_cons_zero, List.set_cons_succ]; rfl)
                clear hS hdep hR
                refine gh_quiet (v := .agg #[.int .i64 (tabW F T), .slice g.2.1 (tabL F T).length g.2.2]) ?_ ?_
                · (simp only [execOp, Act.eval, e61]; go_simp; first | done | (simp; done) | (simp [*]; done) | omega | (simp; omega))
                · exact hK'
              | 9, ho, hun, hdep, hK, hfl, hft, _ =>
                obtain rfl := Option.some.inj ho
                have d7 : lp.getD 7 false = true := hdep { on := 7, ground := .data } (by simp) rfl
                have e61 : a'.tmps[61]? = some (.tuple #[.agg #[.int .i64 (tabW F T), .slice g.2.1 (tabL F T).length g.2.2], .int .i64 (tabX F T)]) := (hS.don 7 _ 61 rfl d7 rfl).trans (by simp only [putAll, Act.put, List.setIfInBounds_toArray, List.set_cons_zero, List.set_cons_succ]; rfl)
                have hK' := hK g w' (fun _ _ _ _ _ _ => rfl) (hR.quiet (i := 9) (by decide) (by decide) (by decide) hun hft hfl (fun h => absurd h (by decide))) (.int .i64 (tabX F T)) (by simp only [valO, Option.bind_some]; simp only [putAll, Act.put, List.setIfInBounds_toArray, List.set_cons_zero, List.set_cons_succ]; rfl)
                clear hS hdep hR
                refine gh_quiet (v := .int .i64 (tabX F T)) ?_ ?_
                · (simp only [execOp, Act.eval, e61]; go_simp; first | done | (simp; done) | (simp [*]; done) | omega | (simp; omega))
                · exact hK'
              | 10, ho, hun, hdep, hK, hfl, hft, _ =>
                obtain rfl := Option.some.inj ho
                have d8 : lp.getD 8 false = true := hdep { on := 8, ground := .data } (by simp) rfl
                have e62 : a'.tmps[62]? = some (.agg #[.int .i64 (tabW F T), .slice g.2.1 (tabL F T).length g.2.2]) := (hS.don 8 _ 62 rfl d8 rfl).trans (by simp only [putAll, Act.put, List.setIfInBounds_toArray, List.set_cons_zero, List.set_cons_succ]; rfl)
                have o4 : a'.tmps[4]? = some (.pointer (some ⟨w.heap.size + 1 + 1, 0, none⟩)) := (hS.old 4 (by simp)).trans rfl
                have hall : ∀ j, j < 10 → lp.getD j false = true := by
                  intro j hj
                  match j, hj with
                  | 0, _ => exact hdep { on := 0, ground := .phase } (by simp) rfl
                  | 1, _ => exact hdep { on := 1, ground := .phase } (by simp) rfl
                  | 2, _ => exact hdep { on := 2, ground := .phase } (by simp) rfl
                  | 3, _ => exact hdep { on := 3, ground := .phase } (by simp) rfl
                  | 4, _ => exact hdep { on := 4, ground := .phase } (by simp) rfl
                  | 5, _ => exact hdep { on := 5, ground := .phase } (by simp) rfl
                  | 6, _ => exact hdep { on := 6, ground := .phase } (by simp) rfl
                  | 7, _ => exact hdep { on := 7, ground := .phase } (by simp) rfl
                  | 8, _ => exact hdep { on := 8, ground := .phase } (by simp) rfl
                  | 9, _ => exact hdep { on := 9, ground := .phase } (by simp) rfl
                  | n + 10, h => exact absurd h (by omega)
                obtain ⟨z0, z1, f0, f1⟩ := hR.celln hun
                have hK' := hK g _ (fun _ _ _ _ _ _ => rfl) (hR.st hun hft hfl hall) undef rfl
                clear hS hdep hR
                unfold Oper.wp
                simp [execOp, Act.eval, e62, o4, go_sem, z0, z1, f0, f1, Oper.upon]
                exact hK'
              | 11, ho, hun, hdep, hK, hfl, hft, _ =>
                obtain rfl := Option.some.inj ho
                have d9 : lp.getD 9 false = true := hdep { on := 9, ground := .data } (by simp) rfl
                have e63 : a'.tmps[63]? = some (.int .i64 (tabX F T)) := (hS.don 9 _ 63 rfl d9 rfl).trans (by simp only [putAll, Act.put, List.setIfInBounds_toArray, List.set_cons_zero, List.set_cons_succ]; rfl)
                have hK' := hK g w' (fun _ _ _ _ _ _ => rfl) (hR.quiet (i := 11) (by decide) (by decide) (by decide) hun hft hfl (fun h => absurd h (by decide))) (.int .i64 (tabX F T)) (by simp only [valO, Option.bind_some]; simp only [putAll, Act.put, List.setIfInBounds_toArray, List.set_cons_zero, List.set_cons_succ]; rfl)
                clear hS hdep hR
                refine gh_quiet (v := .int .i64 (tabX F T)) ?_ ?_
                · (simp only [execOp, Act.eval, e63]; go_simp; first | done | (simp; done) | (simp [*]; done) | omega | (simp; omega))
                · exact hK'
              | n + 12, ho, hun, hdep, hK, hfl, hft, hq => exact absurd hq (by omega)
            case fin =>
              intro g W5 hR
              obtain ⟨hown, hlow, ⟨z0, z1, f0, f1⟩⟩ := hR.end (by simp) (by simp)
              have HOwn := hidR hown
              have HLow := hidR hlow
              simp only [putAll, Act.put, List.setIfInBounds_toArray, List.set_cons_zero, List.set_cons_succ]
              clear hR hown hlow
              refine wl_nil (P := Tryz.prog) (ops := #[]) ?_
              go_wp2
              exact bodyPost_ret (v := .tuple #[.agg #[.int .i64 (tabW F T), .slice g.2.1 (tabL F T).length g.2.2], .int .i64 (tabX F T)]) (by simp [results, Tryz.results12, go_sem, z0, z1]) rfl ⟨⟨0, _, HE.out, by rw [HVV.out], by rw [HVV.out]; exact own_wide HOwn.out HBw.out.size⟩, HLow.out⟩
    · have hn : (checkE F px pn != 0) = true := by simpa using h1
      obtain ⟨n0, n1, n2, n3⟩ := HR1.out
      have HVV : Hid (OnV F l px pn (checkE F px pn) = (0, checkE F px pn, [])) := hidR (by rw [OnV, if_neg h1])
      have HBs := hidR ((HB1.out.setCell (p := ⟨w.heap.size + 1 + 1, 0, none⟩) (by simp; omega) (.int .i64 0)).setCell (p := ⟨w.heap.size + 1 + 1, 1, none⟩) (by simp; omega) (.slice none 0 0))
      obtain ⟨k0, k1, -, -⟩ := HR1.out.set02 0 (.slice none 0 0)
      clear h1 HR1
      revert HE HVV hn
      generalize checkE F px pn = z
      intro HE hn HVV
      go_wp2
      exact bodyPost_ret (v := .tuple #[.agg #[.int .i64 0, .slice none 0 0], .int .i64 z]) (by simp [results, Tryz.results12, go_sem, k0, k1]) rfl ⟨⟨z, _, HE.out, by rw [HVV.out], by rw [HVV.out]; exact World.ownsRow_nil _ _ _ _⟩, HBs.out⟩
  · have hn : (x != 0) = true := by simpa using h0
    have hn2 : (x == 0) = false := by simpa using h0
    obtain ⟨n0, n1, n2, n3⟩ := HN3.out
    have HE : Hid (OnE F l px pn x) := hidR ⟨x, HX.out, .inl ⟨h0, rfl⟩⟩
    have HVV : Hid (OnV F l px pn x = (0, x, [])) := hidR (by rw [OnV, if_neg h0])
    have HBs := hidR ((HB3.out.setCell (p := ⟨w.heap.size + 1 + 1, 0, none⟩) (by simp; omega) (.int .i64 0)).setCell (p := ⟨w.heap.size + 1 + 1, 1, none⟩) (by simp; omega) (.slice none 0 0))
    obtain ⟨k0, k1, -, -⟩ := HN3.out.set02 0 (.slice none 0 0)
    clear h0 HN3
    go_wp2
    exact bodyPost_ret (v := .tuple #[.agg #[.int .i64 0, .slice none 0 0], .int .i64 x]) (by simp [results, Tryz.results12, go_sem, k0, k1]) rfl ⟨⟨x, _, HE.out, by rw [HVV.out], by rw [HVV.out]; exact World.ownsRow_nil _ _ _ _⟩, HBs.out⟩
end Go.Proofs.YtonagfmkplbooaaGreatDoor
