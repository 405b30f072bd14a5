/-
  Part 20 of the proof: 1 texts, one behind the other.
-/
import Derived.Test.YtkgfeegcdohkdaaDoorPart19
/-
  The law RangeSays.
-/
namespace Go.Proofs.YtkgfeegcdohkdaaDoor
open Go.RowKit
set_option linter.unusedSimpArgs false
set_option linter.unusedVariables false

/-- The word, and what lies below. -/
def C8 (w4 : World) (B : Nat) (y : BitVec 128) (W : World) : Prop := At W B y ∧ Below w4.heap.size w4 W
theorem C8.below {w4 W W' : World} {B : Nat} {y : BitVec 128} (h : C8 w4 B y W) (hb : Below W.heap.size W W') : C8 w4 B y W' := ⟨h.1.below hb, keepb hb h.2⟩
theorem C8.drew {w4 W : World} {B : Nat} {y : BitVec 128} (h : C8 w4 B y W) : C8 w4 B y W.drew := ⟨h.1, h.2.drew⟩
/-- The word and a segment of a row. -/
def C14 (w4 : World) (B g o : Nat) (y px py : BitVec 128) (W : World) : Prop := (W.cell? ⟨g, o, none⟩ = some (.int .u64 (hI px)) ∧ W.cell? ⟨g, o + 1, none⟩ = some (.int .u64 (lI px)) ∧ W.cell? ⟨g, o + 2, none⟩ = some (.int .u64 (hI py)) ∧ W.cell? ⟨g, o + 3, none⟩ = some (.int .u64 (lI py))) ∧ At W B y ∧ Below w4.heap.size w4 W
theorem C14.below {w4 W W' : World} {B g o : Nat} {y px py : BitVec 128} (h : C14 w4 B g o y px py W) (hb : Below W.heap.size W W') : C14 w4 B g o y px py W' := ⟨⟨keepc hb h.1.1, keepc hb h.1.2.1, keepc hb h.1.2.2.1, keepc hb h.1.2.2.2⟩, h.2.1.below hb, keepb hb h.2.2⟩
theorem C14.drew {w4 W : World} {B g o : Nat} {y px py : BitVec 128} (h : C14 w4 B g o y px py W) : C14 w4 B g o y px py W.drew := ⟨h.1, h.2.1, h.2.2.drew⟩
/-- Two neighbours of a row, and a sibling. -/
def C21 (w4 : World) (B g j S : Nat) (y : BitVec 128) (ax : BitVec 128) (an : Int) (bx : BitVec 128) (bn : Int) (sx : BitVec 128) (sn : Int) (W : World) : Prop := (W.cell? ⟨g, j * 3, none⟩ = some (.int .u64 (hI ax)) ∧ W.cell? ⟨g, j * 3 + 1, none⟩ = some (.int .u64 (lI ax)) ∧ W.cell? ⟨g, j * 3 + 2, none⟩ = some (.int .i64 an)) ∧ (W.cell? ⟨g, (j + 1) * 3, none⟩ = some (.int .u64 (hI bx)) ∧ W.cell? ⟨g, (j + 1) * 3 + 1, none⟩ = some (.int .u64 (lI bx)) ∧ W.cell? ⟨g, (j + 1) * 3 + 2, none⟩ = some (.int .i64 bn)) ∧ AtP W S sx sn ∧ At W B y ∧ Below w4.heap.size w4 W
theorem C21.below {w4 W W' : World} {B g j S : Nat} {y ax bx sx : BitVec 128} {an bn sn : Int} (h : C21 w4 B g j S y ax an bx bn sx sn W) (hb : Below W.heap.size W W') : C21 w4 B g j S y ax an bx bn sx sn W' := ⟨⟨keepc hb h.1.1, keepc hb h.1.2.1, keepc hb h.1.2.2⟩, ⟨keepc hb h.2.1.1, keepc hb h.2.1.2.1, keepc hb h.2.1.2.2⟩, h.2.2.1.below hb, h.2.2.2.1.below hb, keepb hb h.2.2.2.2⟩
theorem C21.drew {w4 W : World} {B g j S : Nat} {y ax bx sx : BitVec 128} {an bn sn : Int} (h : C21 w4 B g j S y ax an bx bn sx sn W) : C21 w4 B g j S y ax an bx bn sx sn W.drew := ⟨h.1, h.2.1, h.2.2.1, h.2.2.2.1, h.2.2.2.2.drew⟩
def C5 (w : World) (b1 : Nat) (v : Value) (L : List (BitVec 128 × Int)) (y : BitVec 128) (W : World) : Prop := At W w.heap.size y ∧ W.ownsRow b1 26 3 v L.length (rowP L) ∧ Below w.heap.size w W
theorem C5.below {w W W' : World} {b1 : Nat} {v : Value} {L : List (BitVec 128 × Int)} {y : BitVec 128} (h : C5 w b1 v L y W) (hb : Below W.heap.size W W') : C5 w b1 v L y W' := ⟨h.1.below hb, own_below hb h.2.1, keepb hb h.2.2⟩
set_option maxRecDepth 20000 in
set_option maxHeartbeats 16000000 in
theorem rangeSays_any (six : Bool) (v : Value) (l : List (BitVec 128 × Int)) (y0 : BitVec 128) (w : World) (hT : Tab w) (hv : Rv w v l) :
    Calls Tryd.prog 7 #[.bool six, v, .agg #[.int .u64 (hI y0), .int .u64 (lI y0)]] w fun e w' => e = .returned (.bool true) ∧ Below w.heap.size w w' := by
  have KF := fun w => family3_any six w
  obtain ⟨f0, f1⟩ := famZ_bd six
  have ff := famZ_fam six
  generalize famZ six = F at *
  have b0 := bl1 w (.cells #[.int .u64 (hI y0), .int .u64 (lI y0)] 24)
  have Y0 := Hid.mk' (at_new w w.heap.size y0 24 rfl)
  have KN := known4_any _ (hT.keep b0)
  have KS := fun w hv => lsome_any F v l w hv (by omega) f1
  have HV : Hid (Rv (w.alloc (.cells #[.int .u64 (hI y0), .int .u64 (lI y0)] 24)) v l) := hv.below b0
  have Hb0 := Hid.mk' b0
  clear hv b0
  go_enter Tryd.func7, Tryd.ntmps7
  go_wp2_with fail
  refine KN.mono ?_
  rintro e w1 ⟨rfl, hb⟩
  have Y1 := Hid.mk' (Y0.out.below hb)
  have HV1 := Hid.mk' (HV.out.below hb)
  have kB1 := keepb hb Hb0.out
  clear KN hb HV Y0 Hb0
  go_wp2_with fail
  refine (KF _).mono ?_
  rintro e w2 ⟨rfl, h12⟩
  rw [h12]
  clear KF h12 w2
  go_wp2_with fail
  refine (KS _ HV1.out).mono ?_
  rintro e w2 ⟨⟨vm, rfl, hown⟩, hb⟩
  have kB2 := keepb hb kB1
  have Y2 := Y1.out.below hb
  have hL : (someL F l).length ≤ 200 := by unfold someL; simp; omega
  have HR : Hid (∀ x ∈ someL F l, Rp F x) := by
    intro x hx
    unfold someL at hx
    obtain ⟨y, -, rfl⟩ := List.mem_map.mp hx
    exact some_rt F y.1 y.2 (by omega)
  have hsz : w.heap.size < w1.heap.size := cell_in Y1.out.1
  clear hb KS HV1 Y1
  generalize someL F l = L at *
  obtain ⟨ao, c, rfl⟩ := own_form hown
  have hC5 : C5 w w1.heap.size (.slice ao L.length c) L y0 w2.drew := ⟨Y2, hown.drew, kB2.drew⟩
  have HC5 := Hid.mk' hC5
  have Kmask := fun w => rmask_any F w
  have Kand := fun w => rand_any y0 (maskW F) w
  have hy : cutW (y0 &&& maskW F) F = y0 &&& maskW F := maskW_idem y0 F
  generalize maskW F = mF at *
  generalize y0 &&& mF = y at *
  obtain ⟨p0, p1, -, -, -⟩ := id Y2
  clear hC5 hown kB2 kB1
  go_wp2_with fail
  clear p0 p1 Y2
  refine qp_region2 4 (qpOk 4 4 (by decide) (fun N => by kernel_rfl) (by kernel_rfl) (by kernel_rfl) (by kernel_rfl) (by kernel_rfl)) (C := C5 w w1.heap.size (.slice ao L.length c) L y0) [some 25, some 26, some 27, some 28] [.agg #[.int .u64 (hI y0), .int .u64 (lI y0)], .int .i64 F, .agg #[.int .u64 (hI mF), .int .u64 (lI mF)], .agg #[.int .u64 (hI y), .int .u64 (lI y)]] (by kernel_rfl) HC5.out ?walk ?fin
  case walk =>
    dsimp only [List.take]
    refine q_run (v := .agg #[.int .u64 (hI y0), .int .u64 (lI y0)]) (by rfl) ?_ ?_
    · (intro w1 hC; obtain ⟨⟨p0, p1, -, -, -⟩, -, -⟩ := hC; go_simp; first | done | (simp; done) | (simp [*]; done) | omega | (simp; omega) | (rw [IntKind.wrap_i64]; omega) | (intro hx; omega) | rfl)
    simp only [Act.put, List.setIfInBounds_toArray, List.set_cons_zero, List.set_cons_succ]
    refine q_run (v := .int .i64 F) (by rfl) ?_ ?_
    · (intro w1 hC; obtain ⟨⟨p0, p1, -, -, -⟩, -, -⟩ := hC; go_simp; first | done | (simp; done) | (simp [*]; done) | omega | (simp; omega) | (rw [IntKind.wrap_i64]; omega) | (intro hx; omega) | rfl)
    simp only [Act.put, List.setIfInBounds_toArray, List.set_cons_zero, List.set_cons_succ]
    refine q_call (v := .agg #[.int .u64 (hI mF), .int .u64 (lI mF)]) (f := 32) (args := #[.int .i64 F]) (by rfl) ?_ ?_ ?_
    · (intro w1 hC; clear hC; go_simp)
    · exact fun w1 hC => (Kmask w1).mono fun e w' ⟨he, hb⟩ => ⟨he, hC.below hb⟩
    simp only [Act.put, List.setIfInBounds_toArray, List.set_cons_zero, List.set_cons_succ]
    refine q_call (v := .agg #[.int .u64 (hI y), .int .u64 (lI y)]) (f := 31) (args := #[.agg #[.int .u64 (hI y0), .int .u64 (lI y0)], .agg #[.int .u64 (hI mF), .int .u64 (lI mF)]]) (by rfl) ?_ ?_ ?_
    · (intro w1 hC; clear hC; go_simp)
    · exact fun w1 hC => (Kand w1).mono fun e w' ⟨he, hb⟩ => ⟨he, hC.below hb⟩
    simp only [Act.put, List.setIfInBounds_toArray, List.set_cons_zero, List.set_cons_succ]
    refine wpQuiet_nil ?_
    simp only [putAll, Act.put, List.setIfInBounds_toArray, List.set_cons_zero, List.set_cons_succ]
  case fin =>
    intro W5 hC
    obtain ⟨hY, ho5, hB5⟩ := hC
    obtain ⟨p0, p1, p2, p3, -⟩ := id hY
    simp only [putAll, Act.put, List.setIfInBounds_toArray, List.set_cons_zero, List.set_cons_succ]
    dsimp only [List.drop]
    clear HC5 Kmask Kand
    have hne : (Value.slice ao L.length c).ownBlock ≠ some w.heap.size := fun e => by have := (ho5.lt _ e).1; omega
    have Y6 := Hid.mk' (hY.set y)
    have HO6 := Hid.mk' (own_base (own_set (own_set ho5 ⟨w.heap.size, 0, none⟩ (.int .u64 (hI y)) hne) ⟨w.heap.size, 1, none⟩ (.int .u64 (lI y)) hne) (show w.heap.size ≤ w1.heap.size by omega))
    have kB6 := Hid.mk' (bset2 hB5 (Nat.le_refl _) (.int .u64 (hI y)) (.int .u64 (lI y)))
    clear hY ho5 hB5 hne
    have KM := fun w hv => merge_o F (.slice ao L.length c) L w hv (by omega) ff HR.out
    have KR := fun w hv => rows_rp F (.slice ao L.length c) L w hv (by omega) ff HR.out
    have hG : (ptAll [] (sortL L)).reverse.length ≤ L.length := by
      have := ptAll_le (sortL L) []
      rw [sortL_len] at this
      rw [List.length_reverse]
      simp at this
      omega
    have hRl : (psAll F [] (segL F (ptAll [] (sortL L)).reverse)).reverse.length ≤ 200 := by
      have := psAll_le F (segL F (ptAll [] (sortL L)).reverse) []
      rw [List.length_reverse]
      unfold segL at this ⊢
      simp only [List.length_map, List.length_nil] at this
      omega
    have HGr : Hid (∀ p ∈ (ptAll [] (sortL L)).reverse, Rp F p) := fun p hp => ptAll_rp f1 (sortL L) [] (fun a ha => by cases ha) (fun a ha => HR.out a (sortL_mem.mp ha)) p (by simpa using hp)
    have HGo : Hid ((ptAll [] (sortL L)).reverse.Pairwise Bf ∧ NS (ptAll [] (sortL L)).reverse) := ⟨merge_ord f1 L HR.out, merge_ns L⟩
    have HGh := Hid.mk' (merge_has f1 L HR.out y)
    have HRi := Hid.mk' (rows_in f1 _ HGr.out y hy)
    have HGa : Hid ((ptAll [] (sortL (ptAll [] (sortL L)).reverse)).reverse = (ptAll [] (sortL L)).reverse) := congrArg List.reverse (merge_again f1 L HR.out)
    generalize (psAll F [] (segL F (ptAll [] (sortL L)).reverse)).reverse = R at *
    generalize (ptAll [] (sortL L)).reverse = G at *
    go_wp2_with fail
    refine (KM _ (own_rw HO6.out)).mono ?_
    rintro e w3 ⟨⟨va, rfl, ha⟩, hb⟩
    have HO7 := Hid.mk' (own_below hb HO6.out)
    have Y7 := Hid.mk' (Y6.out.below hb)
    have kB7 := Hid.mk' (keepb hb kB6.out)
    have HA7 : Hid (w3.ownsRow w.heap.size 26 3 va G.length (rowP G)) := own_base ha kB6.out.size
    obtain ⟨ao1, c1, rfl⟩ := own_form ha
    clear ha hb KM HO6 Y6 kB6 p0 p1 p2 p3
    go_wp2_with fail
    refine (KR _ (own_rw HO7.out)).mono ?_
    rintro e w4 ⟨⟨vr, rfl, ha⟩, hb⟩
    have HO8 := Hid.mk' (own_below hb HO7.out)
    have HA8 := Hid.mk' (own_below hb HA7.out)
    have Y8 := Y7.out.below hb
    have kB8 := Hid.mk' (keepb hb kB7.out)
    have HD8 : Hid (w4.ownsRow w.heap.size 64 5 vr R.length (rowS R)) := own_base ha kB7.out.size
    obtain ⟨ao2, c2, rfl⟩ := own_form ha
    clear ha hb KR HO7 HA7 Y7 kB7
    have KHL := fun W (hb : Below w4.heap.size w4 W) => lhas_any (.slice ao L.length c) L y W ((own_rw HO8.out).below hb) (by omega)
    have KHG := fun W (hb : Below w4.heap.size w4 W) => lhas_any (.slice ao1 G.length c1) G y W ((own_rw HA8.out).below hb) (by omega)
    rw [HGh.out] at KHG HRi
    generalize hasL L y = hL1 at *
    have hC8 : C8 w4 w.heap.size y w4.drew := ⟨Y8, (Below.refl _ _).drew⟩
    have HC8 := Hid.mk' hC8
    obtain ⟨p0, p1, -, -, -⟩ := id Y8
    clear hC8
    go_wp2_with fail
    clear p0 p1 Y8
    refine qw_region (C := C8 w4 w.heap.size y) (by kernel_rfl) (by kernel_rfl) HC8.out ?_
    clear HC8
    refine qw_run (v := .int .i64 0) (by rfl) ?_ ?_
    · (intro w1 hC; obtain ⟨⟨p0, p1, -, -, -⟩, -⟩ := hC; go_simp; first | done | (simp; done) | (simp [*]; done) | omega | (simp; omega) | (rw [IntKind.wrap_i64]; omega) | (intro hx; omega) | rfl)
    simp only [Act.put, List.setIfInBounds_toArray, List.set_cons_zero, List.set_cons_succ]
    refine qw_run (v := .bool false) (by rfl) ?_ ?_
    · (intro w1 hC; obtain ⟨⟨p0, p1, -, -, -⟩, -⟩ := hC; go_simp; first | done | (simp; done) | (simp [*]; done) | omega | (simp; omega) | (rw [IntKind.wrap_i64]; omega) | (intro hx; omega) | rfl)
    simp only [Act.put, List.setIfInBounds_toArray, List.set_cons_zero, List.set_cons_succ]
    refine qw_run (v := .bool false) (by rfl) ?_ ?_
    · (intro w1 hC; obtain ⟨⟨p0, p1, -, -, -⟩, -⟩ := hC; go_simp; first | done | (simp; done) | (simp [*]; done) | omega | (simp; omega) | (rw [IntKind.wrap_i64]; omega) | (intro hx; omega) | rfl)
    simp only [Act.put, List.setIfInBounds_toArray, List.set_cons_zero, List.set_cons_succ]
    refine qw_run (v := .int .i64 0) (by rfl) ?_ ?_
    · (intro w1 hC; obtain ⟨⟨p0, p1, -, -, -⟩, -⟩ := hC; go_simp; first | done | (simp; done) | (simp [*]; done) | omega | (simp; omega) | (rw [IntKind.wrap_i64]; omega) | (intro hx; omega) | rfl)
    simp only [Act.put, List.setIfInBounds_toArray, List.set_cons_zero, List.set_cons_succ]
    refine qw_run (v := .bool false) (by rfl) ?_ ?_
    · (intro w1 hC; obtain ⟨⟨p0, p1, -, -, -⟩, -⟩ := hC; go_simp; first | done | (simp; done) | (simp [*]; done) | omega | (simp; omega) | (rw [IntKind.wrap_i64]; omega) | (intro hx; omega) | rfl)
    simp only [Act.put, List.setIfInBounds_toArray, List.set_cons_zero, List.set_cons_succ]
    refine qw_run (v := .bool false) (by rfl) ?_ ?_
    · (intro w1 hC; obtain ⟨⟨p0, p1, -, -, -⟩, -⟩ := hC; go_simp; first | done | (simp; done) | (simp [*]; done) | omega | (simp; omega) | (rw [IntKind.wrap_i64]; omega) | (intro hx; omega) | rfl)
    simp only [Act.put, List.setIfInBounds_toArray, List.set_cons_zero, List.set_cons_succ]
    refine qw_run (v := .bool false) (by rfl) ?_ ?_
    · (intro w1 hC; obtain ⟨⟨p0, p1, -, -, -⟩, -⟩ := hC; go_simp; first | done | (simp; done) | (simp [*]; done) | omega | (simp; omega) | (rw [IntKind.wrap_i64]; omega) | (intro hx; omega) | rfl)
    simp only [Act.put, List.setIfInBounds_toArray, List.set_cons_zero, List.set_cons_succ]
    refine qw_run (v := .slice ao L.length c) (by rfl) ?_ ?_
    · (intro w1 hC; obtain ⟨⟨p0, p1, -, -, -⟩, -⟩ := hC; go_simp; first | done | (simp; done) | (simp [*]; done) | omega | (simp; omega) | (rw [IntKind.wrap_i64]; omega) | (intro hx; omega) | rfl)
    simp only [Act.put, List.setIfInBounds_toArray, List.set_cons_zero, List.set_cons_succ]
    refine qw_run (v := .agg #[.int .u64 (hI y), .int .u64 (lI y)]) (by rfl) ?_ ?_
    · (intro w1 hC; obtain ⟨⟨p0, p1, -, -, -⟩, -⟩ := hC; go_simp; first | done | (simp; done) | (simp [*]; done) | omega | (simp; omega) | (rw [IntKind.wrap_i64]; omega) | (intro hx; omega) | rfl)
    simp only [Act.put, List.setIfInBounds_toArray, List.set_cons_zero, List.set_cons_succ]
    refine qw_call (v := .bool hL1) (f := 33) (args := #[.slice ao L.length c, .agg #[.int .u64 (hI y), .int .u64 (lI y)]]) (by rfl) ?_ ?_ ?_
    · (intro w1 hC; clear hC; go_simp)
    · exact fun w1 hC => (KHL w1 hC.2).mono fun e w' ⟨he, hb⟩ => ⟨he, hC.below hb⟩
    simp only [Act.put, List.setIfInBounds_toArray, List.set_cons_zero, List.set_cons_succ]
    refine qw_run (v := .slice ao1 G.length c1) (by rfl) ?_ ?_
    · (intro w1 hC; obtain ⟨⟨p0, p1, -, -, -⟩, -⟩ := hC; go_simp; first | done | (simp; done) | (simp [*]; done) | omega | (simp; omega) | (rw [IntKind.wrap_i64]; omega) | (intro hx; omega) | rfl)
    simp only [Act.put, List.setIfInBounds_toArray, List.set_cons_zero, List.set_cons_succ]
    refine qw_run (v := .agg #[.int .u64 (hI y), .int .u64 (lI y)]) (by rfl) ?_ ?_
    · (intro w1 hC; obtain ⟨⟨p0, p1, -, -, -⟩, -⟩ := hC; go_simp; first | done | (simp; done) | (simp [*]; done) | omega | (simp; omega) | (rw [IntKind.wrap_i64]; omega) | (intro hx; omega) | rfl)
    simp only [Act.put, List.setIfInBounds_toArray, List.set_cons_zero, List.set_cons_succ]
    refine qw_call (v := .bool hL1) (f := 33) (args := #[.slice ao1 G.length c1, .agg #[.int .u64 (hI y), .int .u64 (lI y)]]) (by rfl) ?_ ?_ ?_
    · (intro w1 hC; clear hC; go_simp)
    · exact fun w1 hC => (KHG w1 hC.2).mono fun e w' ⟨he, hb⟩ => ⟨he, hC.below hb⟩
    simp only [Act.put, List.setIfInBounds_toArray, List.set_cons_zero, List.set_cons_succ]
    refine qw_run (v := .bool false) (by rfl) ?_ ?_
    · (intro w1 hC; obtain ⟨⟨p0, p1, -, -, -⟩, -⟩ := hC; go_simp; first | done | (simp; done) | (simp [*]; done) | omega | (simp; omega) | (rw [IntKind.wrap_i64]; omega) | (intro hx; omega) | rfl)
    simp only [Act.put, List.setIfInBounds_toArray, List.set_cons_zero, List.set_cons_succ]
    refine qw_run (v := .bool false) (by rfl) ?_ ?_
    · (intro w1 hC; obtain ⟨⟨p0, p1, -, -, -⟩, -⟩ := hC; go_simp; first | done | (simp; done) | (simp [*]; done) | omega | (simp; omega) | (rw [IntKind.wrap_i64]; omega) | (intro hx; omega) | rfl)
    simp only [Act.put, List.setIfInBounds_toArray, List.set_cons_zero, List.set_cons_succ]
    refine qw_run (v := .bool false) (by rfl) ?_ ?_
    · (intro w1 hC; obtain ⟨⟨p0, p1, -, -, -⟩, -⟩ := hC; go_simp; first | done | (simp; done) | (simp [*]; done) | omega | (simp; omega) | (rw [IntKind.wrap_i64]; omega) | (intro hx; omega) | rfl)
    simp only [Act.put, List.setIfInBounds_toArray, List.set_cons_zero, List.set_cons_succ]
    refine qw_run (v := .slice ao1 G.length c1) (by rfl) ?_ ?_
    · (intro w1 hC; obtain ⟨⟨p0, p1, -, -, -⟩, -⟩ := hC; go_simp; first | done | (simp; done) | (simp [*]; done) | omega | (simp; omega) | (rw [IntKind.wrap_i64]; omega) | (intro hx; omega) | rfl)
    simp only [Act.put, List.setIfInBounds_toArray, List.set_cons_zero, List.set_cons_succ]
    refine qw_run (v := .int .i64 (G.length : Int)) (by rfl) ?_ ?_
    · (intro w1 hC; obtain ⟨⟨p0, p1, -, -, -⟩, -⟩ := hC; go_simp; first | done | (simp; done) | (simp [*]; done) | omega | (simp; omega) | (rw [IntKind.wrap_i64]; omega) | (intro hx; omega) | rfl)
    simp only [Act.put, List.setIfInBounds_toArray, List.set_cons_zero, List.set_cons_succ]
    refine qw_run (v := .slice ao L.length c) (by rfl) ?_ ?_
    · (intro w1 hC; obtain ⟨⟨p0, p1, -, -, -⟩, -⟩ := hC; go_simp; first | done | (simp; done) | (simp [*]; done) | omega | (simp; omega) | (rw [IntKind.wrap_i64]; omega) | (intro hx; omega) | rfl)
    simp only [Act.put, List.setIfInBounds_toArray, List.set_cons_zero, List.set_cons_succ]
    refine qw_run (v := .int .i64 (L.length : Int)) (by rfl) ?_ ?_
    · (intro w1 hC; obtain ⟨⟨p0, p1, -, -, -⟩, -⟩ := hC; go_simp; first | done | (simp; done) | (simp [*]; done) | omega | (simp; omega) | (rw [IntKind.wrap_i64]; omega) | (intro hx; omega) | rfl)
    simp only [Act.put, List.setIfInBounds_toArray, List.set_cons_zero, List.set_cons_succ]
    refine qw_run (v := .bool false) (by rfl) ?_ ?_
    · (intro w1 hC; obtain ⟨⟨p0, p1, -, -, -⟩, -⟩ := hC; go_simp; first | done | (simp; done) | (simp [*]; done) | omega | (simp; omega) | (rw [IntKind.wrap_i64]; omega) | (intro hx; omega) | rfl)
    simp only [Act.put, List.setIfInBounds_toArray, List.set_cons_zero, List.set_cons_succ]
    refine qw_run (v := .bool false) (by rfl) ?_ ?_
    · (intro w1 hC; obtain ⟨⟨p0, p1, -, -, -⟩, -⟩ := hC; go_simp; first | done | (simp; done) | (simp [*]; done) | omega | (simp; omega) | (rw [IntKind.wrap_i64]; omega) | (intro hx; omega) | rfl)
    simp only [Act.put, List.setIfInBounds_toArray, List.set_cons_zero, List.set_cons_succ]
    refine qw_nil ?_
    intro W8 hC8
    have HC8 := Hid.mk' hC8
    clear hC8
    go_wp2_with fail
    go_loopw [12, 13] (fun iv i wr => ∃ k : Nat, k ≤ R.length ∧ i = .int .i64 k ∧ iv = .bool (inL (R.take k) y) ∧ Hid (C8 w4 w.heap.size y wr)) (fun _ i _ => R.length - (intOf i).toNat)
    case atStart => exact ⟨0, by omega, rfl, by simp [inL], HC8⟩
    case round =>
      clear HC8
      obtain ⟨k, hk, rfl, rfl, HC⟩ := hrel
      by_cases hlt : (k : Int) < (R.length : Int)
      · have hks : k < R.length := by omega
        have hd := HD8.out
        rcases hd.2 with ⟨e, h⟩ | ⟨g, cap, cur, e, -⟩
        · omega
        · injection e with e1 e2 e3
          subst e1
          clear e2 e3
          obtain ⟨x0, x1, x2, x3, -⟩ := rows_cells hd rfl k hks
          have KC1 := fun w => rcmp_any R[k].1 y w
          have KC2 := fun w => rcmp_any y R[k].2 w
          have HI := Hid.mk' (in_take R y k hks)
          unfold ssB at HI
          have hC14 : C14 w4 w.heap.size g (k * 5) y R[k].1 R[k].2 wr := ⟨⟨keepc HC.out.2 x0, keepc HC.out.2 x1, keepc HC.out.2 x2, keepc HC.out.2 x3⟩, HC.out.1, HC.out.2⟩
          have HC14 := Hid.mk' hC14.drew
          clear hC14 hd x0 x1 x2 x3
          have mk : IntKind.i64.wrap ((k : Int) + 1) = (k : Int) + 1 := by rw [IntKind.wrap_i64]; omega
          revert KC1 KC2 HI HC14
          generalize cmpZ R[k].1 y = d1
          generalize cmpZ y R[k].2 = d2
          generalize R[k].1 = px
          generalize R[k].2 = py
          intro KC1 KC2 HI HC14
          generalize inL (R.take k) y = ib at *
          cases ib with
          | true =>
            obtain ⟨⟨x0, x1, x2, x3⟩, ⟨p0, p1, -, -, -⟩, -⟩ := HC14.out
            go_wp2_with fail
            refine qw_region (C := C14 w4 w.heap.size g (k * 5) y px py) (by kernel_rfl) (by kernel_rfl) HC14.out ?_
            clear x0 x1 x2 x3 p0 p1 HC14
            refine qw_run (v := .bool true) (by rfl) ?_ ?_
            · (intro w1 hC; obtain ⟨⟨x0, x1, x2, x3⟩, ⟨p0, p1, -, -, -⟩, -⟩ := hC; go_simp; first | done | (simp; done) | (simp [*]; done) | omega | (simp; omega) | (rw [IntKind.wrap_i64]; omega) | (intro hx; omega) | rfl)
            simp only [Act.put, List.setIfInBounds_toArray, List.set_cons_zero, List.set_cons_succ]
            refine qw_run (v := .bool true) (by rfl) ?_ ?_
            · (intro w1 hC; obtain ⟨⟨x0, x1, x2, x3⟩, ⟨p0, p1, -, -, -⟩, -⟩ := hC; go_simp; first | done | (simp; done) | (simp [*]; done) | omega | (simp; omega) | (rw [IntKind.wrap_i64]; omega) | (intro hx; omega) | rfl)
            simp only [Act.put, List.setIfInBounds_toArray, List.set_cons_zero, List.set_cons_succ]
            refine qw_skip (by rfl) ?_
            simp only [Act.put, List.setIfInBounds_toArray, List.set_cons_zero, List.set_cons_succ]
            refine qw_skip (by rfl) ?_
            simp only [Act.put, List.setIfInBounds_toArray, List.set_cons_zero, List.set_cons_succ]
            refine qw_skip (by rfl) ?_
            simp only [Act.put, List.setIfInBounds_toArray, List.set_cons_zero, List.set_cons_succ]
            refine qw_skip (by rfl) ?_
            simp only [Act.put, List.setIfInBounds_toArray, List.set_cons_zero, List.set_cons_succ]
            refine qw_skip (by rfl) ?_
            simp only [Act.put, List.setIfInBounds_toArray, List.set_cons_zero, List.set_cons_succ]
            refine qw_skip (by rfl) ?_
            simp only [Act.put, List.setIfInBounds_toArray, List.set_cons_zero, List.set_cons_succ]
            refine qw_skip (by rfl) ?_
            simp only [Act.put, List.setIfInBounds_toArray, List.set_cons_zero, List.set_cons_succ]
            refine qw_skip (by rfl) ?_
            simp only [Act.put, List.setIfInBounds_toArray, List.set_cons_zero, List.set_cons_succ]
            refine qw_skip (by rfl) ?_
            simp only [Act.put, List.setIfInBounds_toArray, List.set_cons_zero, List.set_cons_succ]
            refine qw_skip (by rfl) ?_
            simp only [Act.put, List.setIfInBounds_toArray, List.set_cons_zero, List.set_cons_succ]
            refine qw_skip (by rfl) ?_
            simp only [Act.put, List.setIfInBounds_toArray, List.set_cons_zero, List.set_cons_succ]
            refine qw_skip (by rfl) ?_
            simp only [Act.put, List.setIfInBounds_toArray, List.set_cons_zero, List.set_cons_succ]
            refine qw_skip (by rfl) ?_
            simp only [Act.put, List.setIfInBounds_toArray, List.set_cons_zero, List.set_cons_succ]
            refine qw_skip (by rfl) ?_
            simp only [Act.put, List.setIfInBounds_toArray, List.set_cons_zero, List.set_cons_succ]
            refine qw_skip (by rfl) ?_
            simp only [Act.put, List.setIfInBounds_toArray, List.set_cons_zero, List.set_cons_succ]
            refine qw_skip (by rfl) ?_
            simp only [Act.put, List.setIfInBounds_toArray, List.set_cons_zero, List.set_cons_succ]
            refine qw_skip (by rfl) ?_
            simp only [Act.put, List.setIfInBounds_toArray, List.set_cons_zero, List.set_cons_succ]
            refine qw_skip (by rfl) ?_
            simp only [Act.put, List.setIfInBounds_toArray, List.set_cons_zero, List.set_cons_succ]
            refine qw_run (v := .bool true) (by rfl) ?_ ?_
            · (intro w1 hC; obtain ⟨⟨x0, x1, x2, x3⟩, ⟨p0, p1, -, -, -⟩, -⟩ := hC; go_simp; first | done | (simp; done) | (simp [*]; done) | omega | (simp; omega) | (rw [IntKind.wrap_i64]; omega) | (intro hx; omega) | rfl)
            simp only [Act.put, List.setIfInBounds_toArray, List.set_cons_zero, List.set_cons_succ]
            refine qw_run (v := .bool true) (by rfl) ?_ ?_
            · (intro w1 hC; obtain ⟨⟨x0, x1, x2, x3⟩, ⟨p0, p1, -, -, -⟩, -⟩ := hC; go_simp; first | done | (simp; done) | (simp [*]; done) | omega | (simp; omega) | (rw [IntKind.wrap_i64]; omega) | (intro hx; omega) | rfl)
            simp only [Act.put, List.setIfInBounds_toArray, List.set_cons_zero, List.set_cons_succ]
            refine qw_nil ?_
            intro W9 hC9
            have HC9 : Hid (C8 w4 w.heap.size y W9) := ⟨hC9.2.1, hC9.2.2⟩
            clear hC9 HC
            go_wp2
            go_roundw
            case rel => exact ⟨k + 1, by omega, by go_num, by rw [HI.out]; rfl, HC9⟩
            case measure => simp [intOf]; omega
          | false =>
            by_cases hd1 : d1 ≤ 0
            · have hdd : decide (d1 ≤ 0) = true := by simpa using hd1
              rw [hdd] at HI
              obtain ⟨⟨x0, x1, x2, x3⟩, ⟨p0, p1, -, -, -⟩, -⟩ := HC14.out
              go_wp2_with fail
              refine qw_region (C := C14 w4 w.heap.size g (k * 5) y px py) (by kernel_rfl) (by kernel_rfl) HC14.out ?_
              clear x0 x1 x2 x3 p0 p1 HC14
              refine qw_run (v := .bool false) (by rfl) ?_ ?_
              · (intro w1 hC; obtain ⟨⟨x0, x1, x2, x3⟩, ⟨p0, p1, -, -, -⟩, -⟩ := hC; go_simp; first | done | (simp; done) | (simp [*]; done) | omega | (simp; omega) | (rw [IntKind.wrap_i64]; omega) | (intro hx; omega) | rfl)
              simp only [Act.put, List.setIfInBounds_toArray, List.set_cons_zero, List.set_cons_succ]
              refine qw_run (v := .bool false) (by rfl) ?_ ?_
              · (intro w1 hC; obtain ⟨⟨x0, x1, x2, x3⟩, ⟨p0, p1, -, -, -⟩, -⟩ := hC; go_simp; first | done | (simp; done) | (simp [*]; done) | omega | (simp; omega) | (rw [IntKind.wrap_i64]; omega) | (intro hx; omega) | rfl)
              simp only [Act.put, List.setIfInBounds_toArray, List.set_cons_zero, List.set_cons_succ]
              refine qw_run (v := .slice (some ⟨g, 0, none⟩) R.length c2) (by rfl) ?_ ?_
              · (intro w1 hC; obtain ⟨⟨x0, x1, x2, x3⟩, ⟨p0, p1, -, -, -⟩, -⟩ := hC; go_simp; first | done | (simp; done) | (simp [*]; done) | omega | (simp; omega) | (rw [IntKind.wrap_i64]; omega) | (intro hx; omega) | rfl)
              simp only [Act.put, List.setIfInBounds_toArray, List.set_cons_zero, List.set_cons_succ]
              refine qw_run (v := .int .i64 (k : Int)) (by rfl) ?_ ?_
              · (intro w1 hC; obtain ⟨⟨x0, x1, x2, x3⟩, ⟨p0, p1, -, -, -⟩, -⟩ := hC; go_simp; first | done | (simp; done) | (simp [*]; done) | omega | (simp; omega) | (rw [IntKind.wrap_i64]; omega) | (intro hx; omega) | rfl)
              simp only [Act.put, List.setIfInBounds_toArray, List.set_cons_zero, List.set_cons_succ]
              refine qw_run (v := .pointer (some ⟨g, k * 5, none⟩)) (by rfl) ?_ ?_
              · (intro w1 hC; obtain ⟨⟨x0, x1, x2, x3⟩, ⟨p0, p1, -, -, -⟩, -⟩ := hC; go_simp; first | done | (simp; done) | (simp [*]; done) | omega | (simp; omega) | (rw [IntKind.wrap_i64]; omega) | (intro hx; omega) | rfl)
              simp only [Act.put, List.setIfInBounds_toArray, List.set_cons_zero, List.set_cons_succ]
              refine qw_run (v := .pointer (some ⟨g, k * 5, none⟩)) (by rfl) ?_ ?_
              · (intro w1 hC; obtain ⟨⟨x0, x1, x2, x3⟩, ⟨p0, p1, -, -, -⟩, -⟩ := hC; go_simp; first | done | (simp; done) | (simp [*]; done) | omega | (simp; omega) | (rw [IntKind.wrap_i64]; omega) | (intro hx; omega) | rfl)
              simp only [Act.put, List.setIfInBounds_toArray, List.set_cons_zero, List.set_cons_succ]
              refine qw_run (v := .agg #[.int .u64 (hI px), .int .u64 (lI px)]) (by rfl) ?_ ?_
              · (intro w1 hC; obtain ⟨⟨x0, x1, x2, x3⟩, ⟨p0, p1, -, -, -⟩, -⟩ := hC; go_simp; first | done | (simp; done) | (simp [*]; done) | omega | (simp; omega) | (rw [IntKind.wrap_i64]; omega) | (intro hx; omega) | rfl)
              simp only [Act.put, List.setIfInBounds_toArray, List.set_cons_zero, List.set_cons_succ]
              refine qw_run (v := .agg #[.int .u64 (hI y), .int .u64 (lI y)]) (by rfl) ?_ ?_
              · (intro w1 hC; obtain ⟨⟨x0, x1, x2, x3⟩, ⟨p0, p1, -, -, -⟩, -⟩ := hC; go_simp; first | done | (simp; done) | (simp [*]; done) | omega | (simp; omega) | (rw [IntKind.wrap_i64]; omega) | (intro hx; omega) | rfl)
              simp only [Act.put, List.setIfInBounds_toArray, List.set_cons_zero, List.set_cons_succ]
              refine qw_call (v := .int .i64 d1) (f := 34) (args := #[.agg #[.int .u64 (hI px), .int .u64 (lI px)], .agg #[.int .u64 (hI y), .int .u64 (lI y)]]) (by rfl) ?_ ?_ ?_
              · (intro w1 hC; clear hC; go_simp)
              · exact fun w1 hC => (KC1 w1).mono fun e w' ⟨he, hb⟩ => ⟨he, hC.below hb⟩
              simp only [Act.put, List.setIfInBounds_toArray, List.set_cons_zero, List.set_cons_succ]
              refine qw_run (v := .bool true) (by rfl) ?_ ?_
              · (intro w1 hC; obtain ⟨⟨x0, x1, x2, x3⟩, ⟨p0, p1, -, -, -⟩, -⟩ := hC; go_simp; first | done | (simp; done) | (simp [*]; done) | omega | (simp; omega) | (rw [IntKind.wrap_i64]; omega) | (intro hx; omega) | rfl)
              simp only [Act.put, List.setIfInBounds_toArray, List.set_cons_zero, List.set_cons_succ]
              refine qw_run (v := .bool true) (by rfl) ?_ ?_
              · (intro w1 hC; obtain ⟨⟨x0, x1, x2, x3⟩, ⟨p0, p1, -, -, -⟩, -⟩ := hC; go_simp; first | done | (simp; done) | (simp [*]; done) | omega | (simp; omega) | (rw [IntKind.wrap_i64]; omega) | (intro hx; omega) | rfl)
              simp only [Act.put, List.setIfInBounds_toArray, List.set_cons_zero, List.set_cons_succ]
              refine qw_run (v := .agg #[.int .u64 (hI y), .int .u64 (lI y)]) (by rfl) ?_ ?_
              · (intro w1 hC; obtain ⟨⟨x0, x1, x2, x3⟩, ⟨p0, p1, -, -, -⟩, -⟩ := hC; go_simp; first | done | (simp; done) | (simp [*]; done) | omega | (simp; omega) | (rw [IntKind.wrap_i64]; omega) | (intro hx; omega) | rfl)
              simp only [Act.put, List.setIfInBounds_toArray, List.set_cons_zero, List.set_cons_succ]
              refine qw_run (v := .slice (some ⟨g, 0, none⟩) R.length c2) (by rfl) ?_ ?_
              · (intro w1 hC; obtain ⟨⟨x0, x1, x2, x3⟩, ⟨p0, p1, -, -, -⟩, -⟩ := hC; go_simp; first | done | (simp; done) | (simp [*]; done) | omega | (simp; omega) | (rw [IntKind.wrap_i64]; omega) | (intro hx; omega) | rfl)
              simp only [Act.put, List.setIfInBounds_toArray, List.set_cons_zero, List.set_cons_succ]
              refine qw_run (v := .int .i64 (k : Int)) (by rfl) ?_ ?_
              · (intro w1 hC; obtain ⟨⟨x0, x1, x2, x3⟩, ⟨p0, p1, -, -, -⟩, -⟩ := hC; go_simp; first | done | (simp; done) | (simp [*]; done) | omega | (simp; omega) | (rw [IntKind.wrap_i64]; omega) | (intro hx; omega) | rfl)
              simp only [Act.put, List.setIfInBounds_toArray, List.set_cons_zero, List.set_cons_succ]
              refine qw_run (v := .pointer (some ⟨g, k * 5, none⟩)) (by rfl) ?_ ?_
              · (intro w1 hC; obtain ⟨⟨x0, x1, x2, x3⟩, ⟨p0, p1, -, -, -⟩, -⟩ := hC; go_simp; first | done | (simp; done) | (simp [*]; done) | omega | (simp; omega) | (rw [IntKind.wrap_i64]; omega) | (intro hx; omega) | rfl)
              simp only [Act.put, List.setIfInBounds_toArray, List.set_cons_zero, List.set_cons_succ]
              refine qw_run (v := .pointer (some ⟨g, k * 5 + 2, none⟩)) (by rfl) ?_ ?_
              · (intro w1 hC; obtain ⟨⟨x0, x1, x2, x3⟩, ⟨p0, p1, -, -, -⟩, -⟩ := hC; go_simp; first | done | (simp; done) | (simp [*]; done) | omega | (simp; omega) | (rw [IntKind.wrap_i64]; omega) | (intro hx; omega) | rfl)
              simp only [Act.put, List.setIfInBounds_toArray, List.set_cons_zero, List.set_cons_succ]
              refine qw_run (v := .agg #[.int .u64 (hI py), .int .u64 (lI py)]) (by rfl) ?_ ?_
              · (intro w1 hC; obtain ⟨⟨x0, x1, x2, x3⟩, ⟨p0, p1, -, -, -⟩, -⟩ := hC; go_simp; first | done | (simp; done) | (simp [*]; done) | omega | (simp; omega) | (rw [IntKind.wrap_i64]; omega) | (intro hx; omega) | rfl)
              simp only [Act.put, List.setIfInBounds_toArray, List.set_cons_zero, List.set_cons_succ]
              refine qw_call (v := .int .i64 d2) (f := 34) (args := #[.agg #[.int .u64 (hI y), .int .u64 (lI y)], .agg #[.int .u64 (hI py), .int .u64 (lI py)]]) (by rfl) ?_ ?_ ?_
              · (intro w1 hC; clear hC; go_simp)
              · exact fun w1 hC => (KC2 w1).mono fun e w' ⟨he, hb⟩ => ⟨he, hC.below hb⟩
              simp only [Act.put, List.setIfInBounds_toArray, List.set_cons_zero, List.set_cons_succ]
              refine qw_run (v := .bool (decide (d2 ≤ 0))) (by rfl) ?_ ?_
              · (intro w1 hC; obtain ⟨⟨x0, x1, x2, x3⟩, ⟨p0, p1, -, -, -⟩, -⟩ := hC; go_simp; first | done | (simp; done) | (simp [*]; done) | omega | (simp; omega) | (rw [IntKind.wrap_i64]; omega) | (intro hx; omega) | rfl)
              simp only [Act.put, List.setIfInBounds_toArray, List.set_cons_zero, List.set_cons_succ]
              refine qw_run (v := .bool (decide (d2 ≤ 0))) (by rfl) ?_ ?_
              · (intro w1 hC; obtain ⟨⟨x0, x1, x2, x3⟩, ⟨p0, p1, -, -, -⟩, -⟩ := hC; go_simp; first | done | (simp; done) | (simp [*]; done) | omega | (simp; omega) | (rw [IntKind.wrap_i64]; omega) | (intro hx; omega) | rfl)
              simp only [Act.put, List.setIfInBounds_toArray, List.set_cons_zero, List.set_cons_succ]
              refine qw_run (v := .bool (decide (d2 ≤ 0))) (by rfl) ?_ ?_
              · (intro w1 hC; obtain ⟨⟨x0, x1, x2, x3⟩, ⟨p0, p1, -, -, -⟩, -⟩ := hC; go_simp; first | done | (simp; done) | (simp [*]; done) | omega | (simp; omega) | (rw [IntKind.wrap_i64]; omega) | (intro hx; omega) | rfl)
              simp only [Act.put, List.setIfInBounds_toArray, List.set_cons_zero, List.set_cons_succ]
              refine qw_run (v := .bool (decide (d2 ≤ 0))) (by rfl) ?_ ?_
              · (intro w1 hC; obtain ⟨⟨x0, x1, x2, x3⟩, ⟨p0, p1, -, -, -⟩, -⟩ := hC; go_simp; first | done | (simp; done) | (simp [*]; done) | omega | (simp; omega) | (rw [IntKind.wrap_i64]; omega) | (intro hx; omega) | rfl)
              simp only [Act.put, List.setIfInBounds_toArray, List.set_cons_zero, List.set_cons_succ]
              refine qw_nil ?_
              intro W9 hC9
              have HC9 : Hid (C8 w4 w.heap.size y W9) := ⟨hC9.2.1, hC9.2.2⟩
              clear hC9 HC
              go_wp2
              go_roundw
              case rel => exact ⟨k + 1, by omega, by go_num, by rw [HI.out]; simp, HC9⟩
              case measure => simp [intOf]; omega
            · have hdd : decide (d1 ≤ 0) = false := by simpa using hd1
              rw [hdd] at HI
              obtain ⟨⟨x0, x1, x2, x3⟩, ⟨p0, p1, -, -, -⟩, -⟩ := HC14.out
              go_wp2_with fail
              refine qw_region (C := C14 w4 w.heap.size g (k * 5) y px py) (by kernel_rfl) (by kernel_rfl) HC14.out ?_
              clear x0 x1 x2 x3 p0 p1 HC14
              refine qw_run (v := .bool false) (by rfl) ?_ ?_
              · (intro w1 hC; obtain ⟨⟨x0, x1, x2, x3⟩, ⟨p0, p1, -, -, -⟩, -⟩ := hC; go_simp; first | done | (simp; done) | (simp [*]; done) | omega | (simp; omega) | (rw [IntKind.wrap_i64]; omega) | (intro hx; omega) | rfl)
              simp only [Act.put, List.setIfInBounds_toArray, List.set_cons_zero, List.set_cons_succ]
              refine qw_run (v := .bool false) (by rfl) ?_ ?_
              · (intro w1 hC; obtain ⟨⟨x0, x1, x2, x3⟩, ⟨p0, p1, -, -, -⟩, -⟩ := hC; go_simp; first | done | (simp; done) | (simp [*]; done) | omega | (simp; omega) | (rw [IntKind.wrap_i64]; omega) | (intro hx; omega) | rfl)
              simp only [Act.put, List.setIfInBounds_toArray, List.set_cons_zero, List.set_cons_succ]
              refine qw_run (v := .slice (some ⟨g, 0, none⟩) R.length c2) (by rfl) ?_ ?_
              · (intro w1 hC; obtain ⟨⟨x0, x1, x2, x3⟩, ⟨p0, p1, -, -, -⟩, -⟩ := hC; go_simp; first | done | (simp; done) | (simp [*]; done) | omega | (simp; omega) | (rw [IntKind.wrap_i64]; omega) | (intro hx; omega) | rfl)
              simp only [Act.put, List.setIfInBounds_toArray, List.set_cons_zero, List.set_cons_succ]
              refine qw_run (v := .int .i64 (k : Int)) (by rfl) ?_ ?_
              · (intro w1 hC; obtain ⟨⟨x0, x1, x2, x3⟩, ⟨p0, p1, -, -, -⟩, -⟩ := hC; go_simp; first | done | (simp; done) | (simp [*]; done) | omega | (simp; omega) | (rw [IntKind.wrap_i64]; omega) | (intro hx; omega) | rfl)
              simp only [Act.put, List.setIfInBounds_toArray, List.set_cons_zero, List.set_cons_succ]
              refine qw_run (v := .pointer (some ⟨g, k * 5, none⟩)) (by rfl) ?_ ?_
              · (intro w1 hC; obtain ⟨⟨x0, x1, x2, x3⟩, ⟨p0, p1, -, -, -⟩, -⟩ := hC; go_simp; first | done | (simp; done) | (simp [*]; done) | omega | (simp; omega) | (rw [IntKind.wrap_i64]; omega) | (intro hx; omega) | rfl)
              simp only [Act.put, List.setIfInBounds_toArray, List.set_cons_zero, List.set_cons_succ]
              refine qw_run (v := .pointer (some ⟨g, k * 5, none⟩)) (by rfl) ?_ ?_
              · (intro w1 hC; obtain ⟨⟨x0, x1, x2, x3⟩, ⟨p0, p1, -, -, -⟩, -⟩ := hC; go_simp; first | done | (simp; done) | (simp [*]; done) | omega | (simp; omega) | (rw [IntKind.wrap_i64]; omega) | (intro hx; omega) | rfl)
              simp only [Act.put, List.setIfInBounds_toArray, List.set_cons_zero, List.set_cons_succ]
              refine qw_run (v := .agg #[.int .u64 (hI px), .int .u64 (lI px)]) (by rfl) ?_ ?_
              · (intro w1 hC; obtain ⟨⟨x0, x1, x2, x3⟩, ⟨p0, p1, -, -, -⟩, -⟩ := hC; go_simp; first | done | (simp; done) | (simp [*]; done) | omega | (simp; omega) | (rw [IntKind.wrap_i64]; omega) | (intro hx; omega) | rfl)
              simp only [Act.put, List.setIfInBounds_toArray, List.set_cons_zero, List.set_cons_succ]
              refine qw_run (v := .agg #[.int .u64 (hI y), .int .u64 (lI y)]) (by rfl) ?_ ?_
              · (intro w1 hC; obtain ⟨⟨x0, x1, x2, x3⟩, ⟨p0, p1, -, -, -⟩, -⟩ := hC; go_simp; first | done | (simp; done) | (simp [*]; done) | omega | (simp; omega) | (rw [IntKind.wrap_i64]; omega) | (intro hx; omega) | rfl)
              simp only [Act.put, List.setIfInBounds_toArray, List.set_cons_zero, List.set_cons_succ]
              refine qw_call (v := .int .i64 d1) (f := 34) (args := #[.agg #[.int .u64 (hI px), .int .u64 (lI px)], .agg #[.int .u64 (hI y), .int .u64 (lI y)]]) (by rfl) ?_ ?_ ?_
              · (intro w1 hC; clear hC; go_simp)
              · exact fun w1 hC => (KC1 w1).mono fun e w' ⟨he, hb⟩ => ⟨he, hC.below hb⟩
              simp only [Act.put, List.setIfInBounds_toArray, List.set_cons_zero, List.set_cons_succ]
              refine qw_run (v := .bool false) (by rfl) ?_ ?_
              · (intro w1 hC; obtain ⟨⟨x0, x1, x2, x3⟩, ⟨p0, p1, -, -, -⟩, -⟩ := hC; go_simp; first | done | (simp; done) | (simp [*]; done) | omega | (simp; omega) | (rw [IntKind.wrap_i64]; omega) | (intro hx; omega) | rfl)
              simp only [Act.put, List.setIfInBounds_toArray, List.set_cons_zero, List.set_cons_succ]
              refine qw_run (v := .bool false) (by rfl) ?_ ?_
              · (intro w1 hC; obtain ⟨⟨x0, x1, x2, x3⟩, ⟨p0, p1, -, -, -⟩, -⟩ := hC; go_simp; first | done | (simp; done) | (simp [*]; done) | omega | (simp; omega) | (rw [IntKind.wrap_i64]; omega) | (intro hx; omega) | rfl)
              simp only [Act.put, List.setIfInBounds_toArray, List.set_cons_zero, List.set_cons_succ]
              refine qw_skip (by rfl) ?_
              simp only [Act.put, List.setIfInBounds_toArray, List.set_cons_zero, List.set_cons_succ]
              refine qw_skip (by rfl) ?_
              simp only [Act.put, List.setIfInBounds_toArray, List.set_cons_zero, List.set_cons_succ]
              refine qw_skip (by rfl) ?_
              simp only [Act.put, List.setIfInBounds_toArray, List.set_cons_zero, List.set_cons_succ]
              refine qw_skip (by rfl) ?_
              simp only [Act.put, List.setIfInBounds_toArray, List.set_cons_zero, List.set_cons_succ]
              refine qw_skip (by rfl) ?_
              simp only [Act.put, List.setIfInBounds_toArray, List.set_cons_zero, List.set_cons_succ]
              refine qw_skip (by rfl) ?_
              simp only [Act.put, List.setIfInBounds_toArray, List.set_cons_zero, List.set_cons_succ]
              refine qw_skip (by rfl) ?_
              simp only [Act.put, List.setIfInBounds_toArray, List.set_cons_zero, List.set_cons_succ]
              refine qw_skip (by rfl) ?_
              simp only [Act.put, List.setIfInBounds_toArray, List.set_cons_zero, List.set_cons_succ]
              refine qw_run (v := .bool false) (by rfl) ?_ ?_
              · (intro w1 hC; obtain ⟨⟨x0, x1, x2, x3⟩, ⟨p0, p1, -, -, -⟩, -⟩ := hC; go_simp; first | done | (simp; done) | (simp [*]; done) | omega | (simp; omega) | (rw [IntKind.wrap_i64]; omega) | (intro hx; omega) | rfl)
              simp only [Act.put, List.setIfInBounds_toArray, List.set_cons_zero, List.set_cons_succ]
              refine qw_run (v := .bool false) (by rfl) ?_ ?_
              · (intro w1 hC; obtain ⟨⟨x0, x1, x2, x3⟩, ⟨p0, p1, -, -, -⟩, -⟩ := hC; go_simp; first | done | (simp; done) | (simp [*]; done) | omega | (simp; omega) | (rw [IntKind.wrap_i64]; omega) | (intro hx; omega) | rfl)
              simp only [Act.put, List.setIfInBounds_toArray, List.set_cons_zero, List.set_cons_succ]
              refine qw_run (v := .bool false) (by rfl) ?_ ?_
              · (intro w1 hC; obtain ⟨⟨x0, x1, x2, x3⟩, ⟨p0, p1, -, -, -⟩, -⟩ := hC; go_simp; first | done | (simp; done) | (simp [*]; done) | omega | (simp; omega) | (rw [IntKind.wrap_i64]; omega) | (intro hx; omega) | rfl)
              simp only [Act.put, List.setIfInBounds_toArray, List.set_cons_zero, List.set_cons_succ]
              refine qw_nil ?_
              intro W9 hC9
              have HC9 : Hid (C8 w4 w.heap.size y W9) := ⟨hC9.2.1, hC9.2.2⟩
              clear hC9 HC
              go_wp2
              go_roundw
              case rel => exact ⟨k + 1, by omega, by go_num, by rw [HI.out]; simp, HC9⟩
              case measure => simp [intOf]; omega
      · have hd0 : ¬ k < R.length := by omega
        have HIn : Hid (inL (R.take k) y = hL1) := by
          show _ = _
          rw [List.take_of_length_le (by omega)]; exact HRi.out
        rw [HIn.out]
        have hC := HC.out
        obtain ⟨p0, p1, -, -, -⟩ := id hC.1
        have KH := KHL _ hC.2
        clear hC KHL KHG
        go_wp2_with fail
        refine KH.mono ?_
        rintro e W9 ⟨rfl, hb⟩
        have HC9 := Hid.mk' (HC.out.below hb)
        clear hb KH HC p0 p1
        go_wp2_with fail
        go_loopw [14] (fun i wr => ∃ k : Nat, 1 ≤ k ∧ (k ≤ G.length ∨ k = 1) ∧ i = .int .i64 k ∧ Hid (C8 w4 w.heap.size y wr)) (fun i _ => G.length - (intOf i).toNat)
        case atStart => exact ⟨1, by omega, by omega, rfl, HC9⟩
        case round =>
          clear HC9
          obtain ⟨k5, hk5, hk6, rfl, HC⟩ := hrel
          by_cases hlt : (k5 : Int) < (G.length : Int)
          · obtain ⟨j, rfl⟩ : ∃ j, k5 = j + 1 := ⟨k5 - 1, by omega⟩
            have hj : j + 1 < G.length := by omega
            have i3 : j < G.length := by omega
            have hd := HA8.out
            rcases hd.2 with ⟨e, h⟩ | ⟨g, cap, cur, e, -⟩
            · omega
            · injection e with e1 e2 e3
              subst e1
              clear e2 e3
              obtain ⟨x0, x1, x2⟩ := row_cells hd rfl j i3
              obtain ⟨u0, u1, u2⟩ := row_cells hd rfl (j + 1) hj
              have x0 := keepc HC.out.2 x0
              have x1 := keepc HC.out.2 x1
              have x2 := keepc HC.out.2 x2
              have u0 := keepc HC.out.2 u0
              have u1 := keepc HC.out.2 u1
              have u2 := keepc HC.out.2 u2
              have hrp := HGr.out G[j] (List.getElem_mem _)
              have KB := fun w => rsib_any G[j].1 G[j].2 w hrp.1 (Int.le_trans hrp.2.1 f1)
              rw [sib_eq F G[j].1 G[j].2 hrp f1] at KB
              obtain ⟨ad1, ad2, ad3⟩ := says_adj f1 G HGr.out HGo.out.1 HGo.out.2 j hj
              have KP := fun w => rpcmp_any G[j].1 G[j].2 G[j + 1].1 G[j + 1].2 w
              have KW := fun w => rwithin_any G[j + 1].1 G[j + 1].2 G[j].1 G[j].2 w
              rw [ad2] at KW
              have hEq := fun w => eqP_run (sibV G[j].1 G[j].2) (sibN G[j].2) G[j + 1].1 G[j + 1].2 w
              have e1 : ((j + 1 : Nat) : Int) = (j : Int) + 1 := by omega
              have m1 : IntKind.i64.wrap ((j : Int) + 1 - 1) = (j : Int) := by rw [IntKind.wrap_i64]; omega
              have m2 : IntKind.i64.wrap (j : Int) = (j : Int) := by rw [IntKind.wrap_i64]; omega
              have mk : IntKind.i64.wrap ((j : Int) + 1 + 1) = (j : Int) + 1 + 1 := by rw [IntKind.wrap_i64]; omega
              have i1 : (j : Int) < (G.length : Int) := by omega
              have i2 : (j : Int) + 1 < (G.length : Int) := by omega
              rw [e1]
              clear hd hrp ad2 e1
              revert KB ad1 ad3 KP KW hEq
              generalize sibV G[j].1 G[j].2 = sx
              generalize sibN G[j].2 = sn
              generalize pcmpZ G[j].1 G[j].2 G[j + 1].1 G[j + 1].2 = z
              generalize G[j].1 = ax at *
              generalize G[j].2 = an at *
              generalize G[j + 1].1 = bx at *
              generalize G[j + 1].2 = bn at *
              intro KB ad1 ad3 KP KW hEq
              have hz : ¬ 0 ≤ z := by omega
              go_wp2_with fail
              refine (KB _).mono ?_
              rintro e W10 ⟨rfl, hb⟩
              have b10 := bl1 W10 (.cells #[.int .u64 (hI sx), .int .u64 (lI sx), .int .i64 sn] 26)
              have HC10 := Hid.mk' ((HC.out.below hb).below b10)
              have hC21 : C21 w4 w.heap.size g j W10.heap.size y ax an bx bn sx sn (W10.alloc (.cells #[.int .u64 (hI sx), .int .u64 (lI sx), .int .i64 sn] 26)) := ⟨⟨keepc b10 (keepc hb x0), keepc b10 (keepc hb x1), keepc b10 (keepc hb x2)⟩, ⟨keepc b10 (keepc hb u0), keepc b10 (keepc hb u1), keepc b10 (keepc hb u2)⟩, atp_new W10 W10.heap.size sx sn 26 rfl, HC10.out.1, HC10.out.2⟩
              have HC21 := Hid.mk' hC21.drew
              clear hC21 hb b10 HC x0 x1 x2 u0 u1 u2 KB ad1
              cases hth : decide (0 < an) with
              | true =>
                rw [ad3 (by simpa using hth)] at hEq
                clear ad3
                obtain ⟨⟨x0, x1, x2⟩, ⟨u0, u1, u2⟩, ⟨s0, s1, s2, -, -, -⟩, -, -⟩ := HC21.out
                go_wp2_with fail
                refine qw_region (C := C21 w4 w.heap.size g j W10.heap.size y ax an bx bn sx sn) (by kernel_rfl) (by kernel_rfl) HC21.out ?_
                clear x0 x1 x2 u0 u1 u2 s0 s1 s2 HC21 HC10
                refine qw_run (v := .slice (some ⟨g, 0, none⟩) G.length c1) (by rfl) ?_ ?_
                · (intro w1 hC; obtain ⟨⟨x0, x1, x2⟩, ⟨u0, u1, u2⟩, ⟨s0, s1, s2, -, -, -⟩, -, -⟩ := hC; go_simp; first | done | (simp; done) | (simp [*]; done) | omega | (simp; omega) | (rw [IntKind.wrap_i64]; omega) | (intro hx; omega) | rfl)
                simp only [Act.put, List.setIfInBounds_toArray, List.set_cons_zero, List.set_cons_succ]
                refine qw_run (v := .int .i64 ((j : Int) + 1)) (by rfl) ?_ ?_
                · (intro w1 hC; obtain ⟨⟨x0, x1, x2⟩, ⟨u0, u1, u2⟩, ⟨s0, s1, s2, -, -, -⟩, -, -⟩ := hC; go_simp; first | done | (simp; done) | (simp [*]; done) | omega | (simp; omega) | (rw [IntKind.wrap_i64]; omega) | (intro hx; omega) | rfl)
                simp only [Act.put, List.setIfInBounds_toArray, List.set_cons_zero, List.set_cons_succ]
                refine qw_run (v := .int .i64 (j : Int)) (by rfl) ?_ ?_
                · (intro w1 hC; obtain ⟨⟨x0, x1, x2⟩, ⟨u0, u1, u2⟩, ⟨s0, s1, s2, -, -, -⟩, -, -⟩ := hC; go_simp; first | done | (simp; done) | (simp [*]; done) | omega | (simp; omega) | (rw [IntKind.wrap_i64]; omega) | (intro hx; omega) | rfl)
                simp only [Act.put, List.setIfInBounds_toArray, List.set_cons_zero, List.set_cons_succ]
                refine qw_run (v := .pointer (some ⟨g, j * 3, none⟩)) (by rfl) ?_ ?_
                · (intro w1 hC; obtain ⟨⟨x0, x1, x2⟩, ⟨u0, u1, u2⟩, ⟨s0, s1, s2, -, -, -⟩, -, -⟩ := hC; go_simp; first | done | (simp; done) | (simp [*]; done) | omega | (simp; omega) | (rw [IntKind.wrap_i64]; omega) | (intro hx; omega) | rfl)
                simp only [Act.put, List.setIfInBounds_toArray, List.set_cons_zero, List.set_cons_succ]
                refine qw_run (v := .agg #[.int .u64 (hI ax), .int .u64 (lI ax), .int .i64 an]) (by rfl) ?_ ?_
                · (intro w1 hC; obtain ⟨⟨x0, x1, x2⟩, ⟨u0, u1, u2⟩, ⟨s0, s1, s2, -, -, -⟩, -, -⟩ := hC; go_simp; first | done | (simp; done) | (simp [*]; done) | omega | (simp; omega) | (rw [IntKind.wrap_i64]; omega) | (intro hx; omega) | rfl)
                simp only [Act.put, List.setIfInBounds_toArray, List.set_cons_zero, List.set_cons_succ]
                refine qw_run (v := .slice (some ⟨g, 0, none⟩) G.length c1) (by rfl) ?_ ?_
                · (intro w1 hC; obtain ⟨⟨x0, x1, x2⟩, ⟨u0, u1, u2⟩, ⟨s0, s1, s2, -, -, -⟩, -, -⟩ := hC; go_simp; first | done | (simp; done) | (simp [*]; done) | omega | (simp; omega) | (rw [IntKind.wrap_i64]; omega) | (intro hx; omega) | rfl)
                simp only [Act.put, List.setIfInBounds_toArray, List.set_cons_zero, List.set_cons_succ]
                refine qw_run (v := .int .i64 ((j : Int) + 1)) (by rfl) ?_ ?_
                · (intro w1 hC; obtain ⟨⟨x0, x1, x2⟩, ⟨u0, u1, u2⟩, ⟨s0, s1, s2, -, -, -⟩, -, -⟩ := hC; go_simp; first | done | (simp; done) | (simp [*]; done) | omega | (simp; omega) | (rw [IntKind.wrap_i64]; omega) | (intro hx; omega) | rfl)
                simp only [Act.put, List.setIfInBounds_toArray, List.set_cons_zero, List.set_cons_succ]
                refine qw_run (v := .pointer (some ⟨g, (j + 1) * 3, none⟩)) (by rfl) ?_ ?_
                · (intro w1 hC; obtain ⟨⟨x0, x1, x2⟩, ⟨u0, u1, u2⟩, ⟨s0, s1, s2, -, -, -⟩, -, -⟩ := hC; go_simp; first | done | (simp; done) | (simp [*]; done) | omega | (simp; omega) | (rw [IntKind.wrap_i64]; omega) | (intro hx; omega) | rfl)
                simp only [Act.put, List.setIfInBounds_toArray, List.set_cons_zero, List.set_cons_succ]
                refine qw_run (v := .agg #[.int .u64 (hI bx), .int .u64 (lI bx), .int .i64 bn]) (by rfl) ?_ ?_
                · (intro w1 hC; obtain ⟨⟨x0, x1, x2⟩, ⟨u0, u1, u2⟩, ⟨s0, s1, s2, -, -, -⟩, -, -⟩ := hC; go_simp; first | done | (simp; done) | (simp [*]; done) | omega | (simp; omega) | (rw [IntKind.wrap_i64]; omega) | (intro hx; omega) | rfl)
                simp only [Act.put, List.setIfInBounds_toArray, List.set_cons_zero, List.set_cons_succ]
                refine qw_call (v := .int .i64 z) (f := 36) (args := #[.agg #[.int .u64 (hI ax), .int .u64 (lI ax), .int .i64 an], .agg #[.int .u64 (hI bx), .int .u64 (lI bx), .int .i64 bn]]) (by rfl) ?_ ?_ ?_
                · (intro w1 hC; clear hC; go_simp)
                · exact fun w1 hC => (KP w1).mono fun e w' ⟨he, hb⟩ => ⟨he, hC.below hb⟩
                simp only [Act.put, List.setIfInBounds_toArray, List.set_cons_zero, List.set_cons_succ]
                refine qw_run (v := .bool false) (by rfl) ?_ ?_
                · (intro w1 hC; obtain ⟨⟨x0, x1, x2⟩, ⟨u0, u1, u2⟩, ⟨s0, s1, s2, -, -, -⟩, -, -⟩ := hC; go_simp; first | done | (simp; done) | (simp [*]; done) | omega | (simp; omega) | (rw [IntKind.wrap_i64]; omega) | (intro hx; omega) | rfl)
                simp only [Act.put, List.setIfInBounds_toArray, List.set_cons_zero, List.set_cons_succ]
                refine qw_run (v := .bool false) (by rfl) ?_ ?_
                · (intro w1 hC; obtain ⟨⟨x0, x1, x2⟩, ⟨u0, u1, u2⟩, ⟨s0, s1, s2, -, -, -⟩, -, -⟩ := hC; go_simp; first | done | (simp; done) | (simp [*]; done) | omega | (simp; omega) | (rw [IntKind.wrap_i64]; omega) | (intro hx; omega) | rfl)
                simp only [Act.put, List.setIfInBounds_toArray, List.set_cons_zero, List.set_cons_succ]
                refine qw_run (v := .slice (some ⟨g, 0, none⟩) G.length c1) (by rfl) ?_ ?_
                · (intro w1 hC; obtain ⟨⟨x0, x1, x2⟩, ⟨u0, u1, u2⟩, ⟨s0, s1, s2, -, -, -⟩, -, -⟩ := hC; go_simp; first | done | (simp; done) | (simp [*]; done) | omega | (simp; omega) | (rw [IntKind.wrap_i64]; omega) | (intro hx; omega) | rfl)
                simp only [Act.put, List.setIfInBounds_toArray, List.set_cons_zero, List.set_cons_succ]
                refine qw_run (v := .int .i64 ((j : Int) + 1)) (by rfl) ?_ ?_
                · (intro w1 hC; obtain ⟨⟨x0, x1, x2⟩, ⟨u0, u1, u2⟩, ⟨s0, s1, s2, -, -, -⟩, -, -⟩ := hC; go_simp; first | done | (simp; done) | (simp [*]; done) | omega | (simp; omega) | (rw [IntKind.wrap_i64]; omega) | (intro hx; omega) | rfl)
                simp only [Act.put, List.setIfInBounds_toArray, List.set_cons_zero, List.set_cons_succ]
                refine qw_run (v := .pointer (some ⟨g, (j + 1) * 3, none⟩)) (by rfl) ?_ ?_
                · (intro w1 hC; obtain ⟨⟨x0, x1, x2⟩, ⟨u0, u1, u2⟩, ⟨s0, s1, s2, -, -, -⟩, -, -⟩ := hC; go_simp; first | done | (simp; done) | (simp [*]; done) | omega | (simp; omega) | (rw [IntKind.wrap_i64]; omega) | (intro hx; omega) | rfl)
                simp only [Act.put, List.setIfInBounds_toArray, List.set_cons_zero, List.set_cons_succ]
                refine qw_run (v := .agg #[.int .u64 (hI bx), .int .u64 (lI bx), .int .i64 bn]) (by rfl) ?_ ?_
                · (intro w1 hC; obtain ⟨⟨x0, x1, x2⟩, ⟨u0, u1, u2⟩, ⟨s0, s1, s2, -, -, -⟩, -, -⟩ := hC; go_simp; first | done | (simp; done) | (simp [*]; done) | omega | (simp; omega) | (rw [IntKind.wrap_i64]; omega) | (intro hx; omega) | rfl)
                simp only [Act.put, List.setIfInBounds_toArray, List.set_cons_zero, List.set_cons_succ]
                refine qw_run (v := .slice (some ⟨g, 0, none⟩) G.length c1) (by rfl) ?_ ?_
                · (intro w1 hC; obtain ⟨⟨x0, x1, x2⟩, ⟨u0, u1, u2⟩, ⟨s0, s1, s2, -, -, -⟩, -, -⟩ := hC; go_simp; first | done | (simp; done) | (simp [*]; done) | omega | (simp; omega) | (rw [IntKind.wrap_i64]; omega) | (intro hx; omega) | rfl)
                simp only [Act.put, List.setIfInBounds_toArray, List.set_cons_zero, List.set_cons_succ]
                refine qw_run (v := .int .i64 ((j : Int) + 1)) (by rfl) ?_ ?_
                · (intro w1 hC; obtain ⟨⟨x0, x1, x2⟩, ⟨u0, u1, u2⟩, ⟨s0, s1, s2, -, -, -⟩, -, -⟩ := hC; go_simp; first | done | (simp; done) | (simp [*]; done) | omega | (simp; omega) | (rw [IntKind.wrap_i64]; omega) | (intro hx; omega) | rfl)
                simp only [Act.put, List.setIfInBounds_toArray, List.set_cons_zero, List.set_cons_succ]
                refine qw_run (v := .int .i64 (j : Int)) (by rfl) ?_ ?_
                · (intro w1 hC; obtain ⟨⟨x0, x1, x2⟩, ⟨u0, u1, u2⟩, ⟨s0, s1, s2, -, -, -⟩, -, -⟩ := hC; go_simp; first | done | (simp; done) | (simp [*]; done) | omega | (simp; omega) | (rw [IntKind.wrap_i64]; omega) | (intro hx; omega) | rfl)
                simp only [Act.put, List.setIfInBounds_toArray, List.set_cons_zero, List.set_cons_succ]
                refine qw_run (v := .pointer (some ⟨g, j * 3, none⟩)) (by rfl) ?_ ?_
                · (intro w1 hC; obtain ⟨⟨x0, x1, x2⟩, ⟨u0, u1, u2⟩, ⟨s0, s1, s2, -, -, -⟩, -, -⟩ := hC; go_simp; first | done | (simp; done) | (simp [*]; done) | omega | (simp; omega) | (rw [IntKind.wrap_i64]; omega) | (intro hx; omega) | rfl)
                simp only [Act.put, List.setIfInBounds_toArray, List.set_cons_zero, List.set_cons_succ]
                refine qw_run (v := .agg #[.int .u64 (hI ax), .int .u64 (lI ax), .int .i64 an]) (by rfl) ?_ ?_
                · (intro w1 hC; obtain ⟨⟨x0, x1, x2⟩, ⟨u0, u1, u2⟩, ⟨s0, s1, s2, -, -, -⟩, -, -⟩ := hC; go_simp; first | done | (simp; done) | (simp [*]; done) | omega | (simp; omega) | (rw [IntKind.wrap_i64]; omega) | (intro hx; omega) | rfl)
                simp only [Act.put, List.setIfInBounds_toArray, List.set_cons_zero, List.set_cons_succ]
                refine qw_call (v := .bool false) (f := 37) (args := #[.agg #[.int .u64 (hI bx), .int .u64 (lI bx), .int .i64 bn], .agg #[.int .u64 (hI ax), .int .u64 (lI ax), .int .i64 an]]) (by rfl) ?_ ?_ ?_
                · (intro w1 hC; clear hC; go_simp)
                · exact fun w1 hC => (KW w1).mono fun e w' ⟨he, hb⟩ => ⟨he, hC.below hb⟩
                simp only [Act.put, List.setIfInBounds_toArray, List.set_cons_zero, List.set_cons_succ]
                refine qw_run (v := .bool false) (by rfl) ?_ ?_
                · (intro w1 hC; obtain ⟨⟨x0, x1, x2⟩, ⟨u0, u1, u2⟩, ⟨s0, s1, s2, -, -, -⟩, -, -⟩ := hC; go_simp; first | done | (simp; done) | (simp [*]; done) | omega | (simp; omega) | (rw [IntKind.wrap_i64]; omega) | (intro hx; omega) | rfl)
                simp only [Act.put, List.setIfInBounds_toArray, List.set_cons_zero, List.set_cons_succ]
                refine qw_run (v := .bool false) (by rfl) ?_ ?_
                · (intro w1 hC; obtain ⟨⟨x0, x1, x2⟩, ⟨u0, u1, u2⟩, ⟨s0, s1, s2, -, -, -⟩, -, -⟩ := hC; go_simp; first | done | (simp; done) | (simp [*]; done) | omega | (simp; omega) | (rw [IntKind.wrap_i64]; omega) | (intro hx; omega) | rfl)
                simp only [Act.put, List.setIfInBounds_toArray, List.set_cons_zero, List.set_cons_succ]
                refine qw_run (v := .bool true) (by rfl) ?_ ?_
                · (intro w1 hC; obtain ⟨⟨x0, x1, x2⟩, ⟨u0, u1, u2⟩, ⟨s0, s1, s2, -, -, -⟩, -, -⟩ := hC; go_simp; first | done | (simp; done) | (simp [*]; done) | omega | (simp; omega) | (rw [IntKind.wrap_i64]; omega) | (intro hx; omega) | rfl)
                simp only [Act.put, List.setIfInBounds_toArray, List.set_cons_zero, List.set_cons_succ]
                refine qw_run (v := .bool true) (by rfl) ?_ ?_
                · (intro w1 hC; obtain ⟨⟨x0, x1, x2⟩, ⟨u0, u1, u2⟩, ⟨s0, s1, s2, -, -, -⟩, -, -⟩ := hC; go_simp; first | done | (simp; done) | (simp [*]; done) | omega | (simp; omega) | (rw [IntKind.wrap_i64]; omega) | (intro hx; omega) | rfl)
                simp only [Act.put, List.setIfInBounds_toArray, List.set_cons_zero, List.set_cons_succ]
                refine qw_run (v := .agg #[.int .u64 (hI sx), .int .u64 (lI sx), .int .i64 sn]) (by rfl) ?_ ?_
                · (intro w1 hC; obtain ⟨⟨x0, x1, x2⟩, ⟨u0, u1, u2⟩, ⟨s0, s1, s2, -, -, -⟩, -, -⟩ := hC; go_simp; first | done | (simp; done) | (simp [*]; done) | omega | (simp; omega) | (rw [IntKind.wrap_i64]; omega) | (intro hx; omega) | rfl)
                simp only [Act.put, List.setIfInBounds_toArray, List.set_cons_zero, List.set_cons_succ]
                refine qw_run (v := .slice (some ⟨g, 0, none⟩) G.length c1) (by rfl) ?_ ?_
                · (intro w1 hC; obtain ⟨⟨x0, x1, x2⟩, ⟨u0, u1, u2⟩, ⟨s0, s1, s2, -, -, -⟩, -, -⟩ := hC; go_simp; first | done | (simp; done) | (simp [*]; done) | omega | (simp; omega) | (rw [IntKind.wrap_i64]; omega) | (intro hx; omega) | rfl)
                simp only [Act.put, List.setIfInBounds_toArray, List.set_cons_zero, List.set_cons_succ]
                refine qw_run (v := .int .i64 ((j : Int) + 1)) (by rfl) ?_ ?_
                · (intro w1 hC; obtain ⟨⟨x0, x1, x2⟩, ⟨u0, u1, u2⟩, ⟨s0, s1, s2, -, -, -⟩, -, -⟩ := hC; go_simp; first | done | (simp; done) | (simp [*]; done) | omega | (simp; omega) | (rw [IntKind.wrap_i64]; omega) | (intro hx; omega) | rfl)
                simp only [Act.put, List.setIfInBounds_toArray, List.set_cons_zero, List.set_cons_succ]
                refine qw_run (v := .pointer (some ⟨g, (j + 1) * 3, none⟩)) (by rfl) ?_ ?_
                · (intro w1 hC; obtain ⟨⟨x0, x1, x2⟩, ⟨u0, u1, u2⟩, ⟨s0, s1, s2, -, -, -⟩, -, -⟩ := hC; go_simp; first | done | (simp; done) | (simp [*]; done) | omega | (simp; omega) | (rw [IntKind.wrap_i64]; omega) | (intro hx; omega) | rfl)
                simp only [Act.put, List.setIfInBounds_toArray, List.set_cons_zero, List.set_cons_succ]
                refine qw_run (v := .agg #[.int .u64 (hI bx), .int .u64 (lI bx), .int .i64 bn]) (by rfl) ?_ ?_
                · (intro w1 hC; obtain ⟨⟨x0, x1, x2⟩, ⟨u0, u1, u2⟩, ⟨s0, s1, s2, -, -, -⟩, -, -⟩ := hC; go_simp; first | done | (simp; done) | (simp [*]; done) | omega | (simp; omega) | (rw [IntKind.wrap_i64]; omega) | (intro hx; omega) | rfl)
                simp only [Act.put, List.setIfInBounds_toArray, List.set_cons_zero, List.set_cons_succ]
                refine qw_run (v := .bool false) (by rfl) ?_ ?_
                · (intro w1 hC; obtain ⟨⟨x0, x1, x2⟩, ⟨u0, u1, u2⟩, ⟨s0, s1, s2, -, -, -⟩, -, -⟩ := hC; go_simp; first | done | (simp; done) | (simp [*]; done) | omega | (simp; omega) | (rw [IntKind.wrap_i64]; omega) | (intro hx; omega) | rfl)
                simp only [Act.put, List.setIfInBounds_toArray, List.set_cons_zero, List.set_cons_succ]
                refine qw_run (v := .bool false) (by rfl) ?_ ?_
                · (intro w1 hC; obtain ⟨⟨x0, x1, x2⟩, ⟨u0, u1, u2⟩, ⟨s0, s1, s2, -, -, -⟩, -, -⟩ := hC; go_simp; first | done | (simp; done) | (simp [*]; done) | omega | (simp; omega) | (rw [IntKind.wrap_i64]; omega) | (intro hx; omega) | rfl)
                simp only [Act.put, List.setIfInBounds_toArray, List.set_cons_zero, List.set_cons_succ]
                refine qw_run (v := .bool false) (by rfl) ?_ ?_
                · (intro w1 hC; obtain ⟨⟨x0, x1, x2⟩, ⟨u0, u1, u2⟩, ⟨s0, s1, s2, -, -, -⟩, -, -⟩ := hC; go_simp; first | done | (simp; done) | (simp [*]; done) | omega | (simp; omega) | (rw [IntKind.wrap_i64]; omega) | (intro hx; omega) | rfl)
                simp only [Act.put, List.setIfInBounds_toArray, List.set_cons_zero, List.set_cons_succ]
                refine qw_nil ?_
                intro W11 hC11
                have HC11 : Hid (C8 w4 w.heap.size y W11) := ⟨hC11.2.2.2.1, hC11.2.2.2.2⟩
                clear hC11 KP KW hEq
                go_wp2
                go_roundw
                case rel => exact ⟨j + 1 + 1, by omega, by omega, by simp, HC11⟩
                case measure => simp [intOf]; omega
              | false =>
                clear ad3 hEq
                obtain ⟨⟨x0, x1, x2⟩, ⟨u0, u1, u2⟩, ⟨s0, s1, s2, -, -, -⟩, -, -⟩ := HC21.out
                go_wp2_with fail
                refine qw_region (C := C21 w4 w.heap.size g j W10.heap.size y ax an bx bn sx sn) (by kernel_rfl) (by kernel_rfl) HC21.out ?_
                clear x0 x1 x2 u0 u1 u2 s0 s1 s2 HC21 HC10
                refine qw_run (v := .slice (some ⟨g, 0, none⟩) G.length c1) (by rfl) ?_ ?_
                · (intro w1 hC; obtain ⟨⟨x0, x1, x2⟩, ⟨u0, u1, u2⟩, ⟨s0, s1, s2, -, -, -⟩, -, -⟩ := hC; go_simp; first | done | (simp; done) | (simp [*]; done) | omega | (simp; omega) | (rw [IntKind.wrap_i64]; omega) | (intro hx; omega) | rfl)
                simp only [Act.put, List.setIfInBounds_toArray, List.set_cons_zero, List.set_cons_succ]
                refine qw_run (v := .int .i64 ((j : Int) + 1)) (by rfl) ?_ ?_
                · (intro w1 hC; obtain ⟨⟨x0, x1, x2⟩, ⟨u0, u1, u2⟩, ⟨s0, s1, s2, -, -, -⟩, -, -⟩ := hC; go_simp; first | done | (simp; done) | (simp [*]; done) | omega | (simp; omega) | (rw [IntKind.wrap_i64]; omega) | (intro hx; omega) | rfl)
                simp only [Act.put, List.setIfInBounds_toArray, List.set_cons_zero, List.set_cons_succ]
                refine qw_run (v := .int .i64 (j : Int)) (by rfl) ?_ ?_
                · (intro w1 hC; obtain ⟨⟨x0, x1, x2⟩, ⟨u0, u1, u2⟩, ⟨s0, s1, s2, -, -, -⟩, -, -⟩ := hC; go_simp; first | done | (simp; done) | (simp [*]; done) | omega | (simp; omega) | (rw [IntKind.wrap_i64]; omega) | (intro hx; omega) | rfl)
                simp only [Act.put, List.setIfInBounds_toArray, List.set_cons_zero, List.set_cons_succ]
                refine qw_run (v := .pointer (some ⟨g, j * 3, none⟩)) (by rfl) ?_ ?_
                · (intro w1 hC; obtain ⟨⟨x0, x1, x2⟩, ⟨u0, u1, u2⟩, ⟨s0, s1, s2, -, -, -⟩, -, -⟩ := hC; go_simp; first | done | (simp; done) | (simp [*]; done) | omega | (simp; omega) | (rw [IntKind.wrap_i64]; omega) | (intro hx; omega) | rfl)
                simp only [Act.put, List.setIfInBounds_toArray, List.set_cons_zero, List.set_cons_succ]
                refine qw_run (v := .agg #[.int .u64 (hI ax), .int .u64 (lI ax), .int .i64 an]) (by rfl) ?_ ?_
                · (intro w1 hC; obtain ⟨⟨x0, x1, x2⟩, ⟨u0, u1, u2⟩, ⟨s0, s1, s2, -, -, -⟩, -, -⟩ := hC; go_simp; first | done | (simp; done) | (simp [*]; done) | omega | (simp; omega) | (rw [IntKind.wrap_i64]; omega) | (intro hx; omega) | rfl)
                simp only [Act.put, List.setIfInBounds_toArray, List.set_cons_zero, List.set_cons_succ]
                refine qw_run (v := .slice (some ⟨g, 0, none⟩) G.length c1) (by rfl) ?_ ?_
                · (intro w1 hC; obtain ⟨⟨x0, x1, x2⟩, ⟨u0, u1, u2⟩, ⟨s0, s1, s2, -, -, -⟩, -, -⟩ := hC; go_simp; first | done | (simp; done) | (simp [*]; done) | omega | (simp; omega) | (rw [IntKind.wrap_i64]; omega) | (intro hx; omega) | rfl)
                simp only [Act.put, List.setIfInBounds_toArray, List.set_cons_zero, List.set_cons_succ]
                refine qw_run (v := .int .i64 ((j : Int) + 1)) (by rfl) ?_ ?_
                · (intro w1 hC; obtain ⟨⟨x0, x1, x2⟩, ⟨u0, u1, u2⟩, ⟨s0, s1, s2, -, -, -⟩, -, -⟩ := hC; go_simp; first | done | (simp; done) | (simp [*]; done) | omega | (simp; omega) | (rw [IntKind.wrap_i64]; omega) | (intro hx; omega) | rfl)
                simp only [Act.put, List.setIfInBounds_toArray, List.set_cons_zero, List.set_cons_succ]
                refine qw_run (v := .pointer (some ⟨g, (j + 1) * 3, none⟩)) (by rfl) ?_ ?_
                · (intro w1 hC; obtain ⟨⟨x0, x1, x2⟩, ⟨u0, u1, u2⟩, ⟨s0, s1, s2, -, -, -⟩, -, -⟩ := hC; go_simp; first | done | (simp; done) | (simp [*]; done) | omega | (simp; omega) | (rw [IntKind.wrap_i64]; omega) | (intro hx; omega) | rfl)
                simp only [Act.put, List.setIfInBounds_toArray, List.set_cons_zero, List.set_cons_succ]
                refine qw_run (v := .agg #[.int .u64 (hI bx), .int .u64 (lI bx), .int .i64 bn]) (by rfl) ?_ ?_
                · (intro w1 hC; obtain ⟨⟨x0, x1, x2⟩, ⟨u0, u1, u2⟩, ⟨s0, s1, s2, -, -, -⟩, -, -⟩ := hC; go_simp; first | done | (simp; done) | (simp [*]; done) | omega | (simp; omega) | (rw [IntKind.wrap_i64]; omega) | (intro hx; omega) | rfl)
                simp only [Act.put, List.setIfInBounds_toArray, List.set_cons_zero, List.set_cons_succ]
                refine qw_call (v := .int .i64 z) (f := 36) (args := #[.agg #[.int .u64 (hI ax), .int .u64 (lI ax), .int .i64 an], .agg #[.int .u64 (hI bx), .int .u64 (lI bx), .int .i64 bn]]) (by rfl) ?_ ?_ ?_
                · (intro w1 hC; clear hC; go_simp)
                · exact fun w1 hC => (KP w1).mono fun e w' ⟨he, hb⟩ => ⟨he, hC.below hb⟩
                simp only [Act.put, List.setIfInBounds_toArray, List.set_cons_zero, List.set_cons_succ]
                refine qw_run (v := .bool false) (by rfl) ?_ ?_
                · (intro w1 hC; obtain ⟨⟨x0, x1, x2⟩, ⟨u0, u1, u2⟩, ⟨s0, s1, s2, -, -, -⟩, -, -⟩ := hC; go_simp; first | done | (simp; done) | (simp [*]; done) | omega | (simp; omega) | (rw [IntKind.wrap_i64]; omega) | (intro hx; omega) | rfl)
                simp only [Act.put, List.setIfInBounds_toArray, List.set_cons_zero, List.set_cons_succ]
                refine qw_run (v := .bool false) (by rfl) ?_ ?_
                · (intro w1 hC; obtain ⟨⟨x0, x1, x2⟩, ⟨u0, u1, u2⟩, ⟨s0, s1, s2, -, -, -⟩, -, -⟩ := hC; go_simp; first | done | (simp; done) | (simp [*]; done) | omega | (simp; omega) | (rw [IntKind.wrap_i64]; omega) | (intro hx; omega) | rfl)
                simp only [Act.put, List.setIfInBounds_toArray, List.set_cons_zero, List.set_cons_succ]
                refine qw_run (v := .slice (some ⟨g, 0, none⟩) G.length c1) (by rfl) ?_ ?_
                · (intro w1 hC; obtain ⟨⟨x0, x1, x2⟩, ⟨u0, u1, u2⟩, ⟨s0, s1, s2, -, -, -⟩, -, -⟩ := hC; go_simp; first | done | (simp; done) | (simp [*]; done) | omega | (simp; omega) | (rw [IntKind.wrap_i64]; omega) | (intro hx; omega) | rfl)
                simp only [Act.put, List.setIfInBounds_toArray, List.set_cons_zero, List.set_cons_succ]
                refine qw_run (v := .int .i64 ((j : Int) + 1)) (by rfl) ?_ ?_
                · (intro w1 hC; obtain ⟨⟨x0, x1, x2⟩, ⟨u0, u1, u2⟩, ⟨s0, s1, s2, -, -, -⟩, -, -⟩ := hC; go_simp; first | done | (simp; done) | (simp [*]; done) | omega | (simp; omega) | (rw [IntKind.wrap_i64]; omega) | (intro hx; omega) | rfl)
                simp only [Act.put, List.setIfInBounds_toArray, List.set_cons_zero, List.set_cons_succ]
                refine qw_run (v := .pointer (some ⟨g, (j + 1) * 3, none⟩)) (by rfl) ?_ ?_
                · (intro w1 hC; obtain ⟨⟨x0, x1, x2⟩, ⟨u0, u1, u2⟩, ⟨s0, s1, s2, -, -, -⟩, -, -⟩ := hC; go_simp; first | done | (simp; done) | (simp [*]; done) | omega | (simp; omega) | (rw [IntKind.wrap_i64]; omega) | (intro hx; omega) | rfl)
                simp only [Act.put, List.setIfInBounds_toArray, List.set_cons_zero, List.set_cons_succ]
                refine qw_run (v := .agg #[.int .u64 (hI bx), .int .u64 (lI bx), .int .i64 bn]) (by rfl) ?_ ?_
                · (intro w1 hC; obtain ⟨⟨x0, x1, x2⟩, ⟨u0, u1, u2⟩, ⟨s0, s1, s2, -, -, -⟩, -, -⟩ := hC; go_simp; first | done | (simp; done) | (simp [*]; done) | omega | (simp; omega) | (rw [IntKind.wrap_i64]; omega) | (intro hx; omega) | rfl)
                simp only [Act.put, List.setIfInBounds_toArray, List.set_cons_zero, List.set_cons_succ]
                refine qw_run (v := .slice (some ⟨g, 0, none⟩) G.length c1) (by rfl) ?_ ?_
                · (intro w1 hC; obtain ⟨⟨x0, x1, x2⟩, ⟨u0, u1, u2⟩, ⟨s0, s1, s2, -, -, -⟩, -, -⟩ := hC; go_simp; first | done | (simp; done) | (simp [*]; done) | omega | (simp; omega) | (rw [IntKind.wrap_i64]; omega) | (intro hx; omega) | rfl)
                simp only [Act.put, List.setIfInBounds_toArray, List.set_cons_zero, List.set_cons_succ]
                refine qw_run (v := .int .i64 ((j : Int) + 1)) (by rfl) ?_ ?_
                · (intro w1 hC; obtain ⟨⟨x0, x1, x2⟩, ⟨u0, u1, u2⟩, ⟨s0, s1, s2, -, -, -⟩, -, -⟩ := hC; go_simp; first | done | (simp; done) | (simp [*]; done) | omega | (simp; omega) | (rw [IntKind.wrap_i64]; omega) | (intro hx; omega) | rfl)
                simp only [Act.put, List.setIfInBounds_toArray, List.set_cons_zero, List.set_cons_succ]
                refine qw_run (v := .int .i64 (j : Int)) (by rfl) ?_ ?_
                · (intro w1 hC; obtain ⟨⟨x0, x1, x2⟩, ⟨u0, u1, u2⟩, ⟨s0, s1, s2, -, -, -⟩, -, -⟩ := hC; go_simp; first | done | (simp; done) | (simp [*]; done) | omega | (simp; omega) | (rw [IntKind.wrap_i64]; omega) | (intro hx; omega) | rfl)
                simp only [Act.put, List.setIfInBounds_toArray, List.set_cons_zero, List.set_cons_succ]
                refine qw_run (v := .pointer (some ⟨g, j * 3, none⟩)) (by rfl) ?_ ?_
                · (intro w1 hC; obtain ⟨⟨x0, x1, x2⟩, ⟨u0, u1, u2⟩, ⟨s0, s1, s2, -, -, -⟩, -, -⟩ := hC; go_simp; first | done | (simp; done) | (simp [*]; done) | omega | (simp; omega) | (rw [IntKind.wrap_i64]; omega) | (intro hx; omega) | rfl)
                simp only [Act.put, List.setIfInBounds_toArray, List.set_cons_zero, List.set_cons_succ]
                refine qw_run (v := .agg #[.int .u64 (hI ax), .int .u64 (lI ax), .int .i64 an]) (by rfl) ?_ ?_
                · (intro w1 hC; obtain ⟨⟨x0, x1, x2⟩, ⟨u0, u1, u2⟩, ⟨s0, s1, s2, -, -, -⟩, -, -⟩ := hC; go_simp; first | done | (simp; done) | (simp [*]; done) | omega | (simp; omega) | (rw [IntKind.wrap_i64]; omega) | (intro hx; omega) | rfl)
                simp only [Act.put, List.setIfInBounds_toArray, List.set_cons_zero, List.set_cons_succ]
                refine qw_call (v := .bool false) (f := 37) (args := #[.agg #[.int .u64 (hI bx), .int .u64 (lI bx), .int .i64 bn], .agg #[.int .u64 (hI ax), .int .u64 (lI ax), .int .i64 an]]) (by rfl) ?_ ?_ ?_
                · (intro w1 hC; clear hC; go_simp)
                · exact fun w1 hC => (KW w1).mono fun e w' ⟨he, hb⟩ => ⟨he, hC.below hb⟩
                simp only [Act.put, List.setIfInBounds_toArray, List.set_cons_zero, List.set_cons_succ]
                refine qw_run (v := .bool false) (by rfl) ?_ ?_
                · (intro w1 hC; obtain ⟨⟨x0, x1, x2⟩, ⟨u0, u1, u2⟩, ⟨s0, s1, s2, -, -, -⟩, -, -⟩ := hC; go_simp; first | done | (simp; done) | (simp [*]; done) | omega | (simp; omega) | (rw [IntKind.wrap_i64]; omega) | (intro hx; omega) | rfl)
                simp only [Act.put, List.setIfInBounds_toArray, List.set_cons_zero, List.set_cons_succ]
                refine qw_run (v := .bool false) (by rfl) ?_ ?_
                · (intro w1 hC; obtain ⟨⟨x0, x1, x2⟩, ⟨u0, u1, u2⟩, ⟨s0, s1, s2, -, -, -⟩, -, -⟩ := hC; go_simp; first | done | (simp; done) | (simp [*]; done) | omega | (simp; omega) | (rw [IntKind.wrap_i64]; omega) | (intro hx; omega) | rfl)
                simp only [Act.put, List.setIfInBounds_toArray, List.set_cons_zero, List.set_cons_succ]
                refine qw_run (v := .bool false) (by rfl) ?_ ?_
                · (intro w1 hC; obtain ⟨⟨x0, x1, x2⟩, ⟨u0, u1, u2⟩, ⟨s0, s1, s2, -, -, -⟩, -, -⟩ := hC; go_simp; first | done | (simp; done) | (simp [*]; done) | omega | (simp; omega) | (rw [IntKind.wrap_i64]; omega) | (intro hx; omega) | rfl)
                simp only [Act.put, List.setIfInBounds_toArray, List.set_cons_zero, List.set_cons_succ]
                refine qw_run (v := .bool false) (by rfl) ?_ ?_
                · (intro w1 hC; obtain ⟨⟨x0, x1, x2⟩, ⟨u0, u1, u2⟩, ⟨s0, s1, s2, -, -, -⟩, -, -⟩ := hC; go_simp; first | done | (simp; done) | (simp [*]; done) | omega | (simp; omega) | (rw [IntKind.wrap_i64]; omega) | (intro hx; omega) | rfl)
                simp only [Act.put, List.setIfInBounds_toArray, List.set_cons_zero, List.set_cons_succ]
                refine qw_skip (by rfl) ?_
                simp only [Act.put, List.setIfInBounds_toArray, List.set_cons_zero, List.set_cons_succ]
                refine qw_skip (by rfl) ?_
                simp only [Act.put, List.setIfInBounds_toArray, List.set_cons_zero, List.set_cons_succ]
                refine qw_skip (by rfl) ?_
                simp only [Act.put, List.setIfInBounds_toArray, List.set_cons_zero, List.set_cons_succ]
                refine qw_skip (by rfl) ?_
                simp only [Act.put, List.setIfInBounds_toArray, List.set_cons_zero, List.set_cons_succ]
                refine qw_skip (by rfl) ?_
                simp only [Act.put, List.setIfInBounds_toArray, List.set_cons_zero, List.set_cons_succ]
                refine qw_skip (by rfl) ?_
                simp only [Act.put, List.setIfInBounds_toArray, List.set_cons_zero, List.set_cons_succ]
                refine qw_run (v := .bool false) (by rfl) ?_ ?_
                · (intro w1 hC; obtain ⟨⟨x0, x1, x2⟩, ⟨u0, u1, u2⟩, ⟨s0, s1, s2, -, -, -⟩, -, -⟩ := hC; go_simp; first | done | (simp; done) | (simp [*]; done) | omega | (simp; omega) | (rw [IntKind.wrap_i64]; omega) | (intro hx; omega) | rfl)
                simp only [Act.put, List.setIfInBounds_toArray, List.set_cons_zero, List.set_cons_succ]
                refine qw_run (v := .bool false) (by rfl) ?_ ?_
                · (intro w1 hC; obtain ⟨⟨x0, x1, x2⟩, ⟨u0, u1, u2⟩, ⟨s0, s1, s2, -, -, -⟩, -, -⟩ := hC; go_simp; first | done | (simp; done) | (simp [*]; done) | omega | (simp; omega) | (rw [IntKind.wrap_i64]; omega) | (intro hx; omega) | rfl)
                simp only [Act.put, List.setIfInBounds_toArray, List.set_cons_zero, List.set_cons_succ]
                refine qw_nil ?_
                intro W11 hC11
                have HC11 : Hid (C8 w4 w.heap.size y W11) := ⟨hC11.2.2.2.1, hC11.2.2.2.2⟩
                clear hC11 KP KW
                go_wp2
                go_roundw
                case rel => exact ⟨j + 1 + 1, by omega, by omega, by simp, HC11⟩
                case measure => simp [intOf]; omega
          · have hd5 : ¬ k5 < G.length := by omega
            have KM := merge_o F (.slice ao1 G.length c1) G wr (own_rw (own_below HC.out.2 HA8.out)) (by omega) ff HGr.out
            rw [HGa.out] at KM
            go_wp2_with fail
            refine KM.mono ?_
            rintro e w12 ⟨⟨vn, rfl, hn⟩, hb⟩
            have KE := same_any vn (.slice ao1 G.length c1) G w12 ⟨_, hn⟩ ⟨_, own_below hb (own_below HC.out.2 HA8.out)⟩ (by omega)
            have kB12 := keepb hb (kB8.out.trans (HC.out.2.mono kB8.out.size))
            clear hn hb KM HC
            go_wp2_with fail
            refine KE.mono ?_
            rintro e w13 ⟨rfl, hb⟩
            have kB13 := keepb hb kB12
            clear hb KE kB12
            go_wp2
            go_ret
            exact ⟨rfl, kB13⟩
end Go.Proofs.YtkgfeegcdohkdaaDoor
