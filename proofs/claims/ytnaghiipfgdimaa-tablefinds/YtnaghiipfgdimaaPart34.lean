/-
  Part 34 of the proof: 3 texts, one behind the other.
-/
import Derived.Test.YtnaghiipfgdimaaPart25
import Derived.Test.YtnaghiipfgdimaaPart30
import Derived.Test.YtnaghiipfgdimaaPart32
import Derived.Test.YtnaghiipfgdimaaPart33
import Derived.Test.YtnaghiipfgdimaaPart18
import Derived.Test.YtnaghiipfgdimaaPart19
import Derived.Test.YtnaghiipfgdimaaPart26
import Derived.Test.YtnaghiipfgdimaaRows
import Derived.ProofKit
import Derived.Lib.SmallJoins
import Derived.Test.YtnaghiipfgdimaaPart4
import Derived.Deep.Slices
import Derived.Deep.Strs
import Derived.Carry
/-
  TableFinds: of whatever table, prefix and word the law tells true.
-/
namespace Go.Proofs.Ytnaghiipfgdimaa
open Go.RowKit Go.Shelf
set_option linter.unusedSimpArgs false
set_option linter.unusedVariables false

/-- The law's own three boxes. -/
structure Fx (S : Nat) (F : Int) (v : Value) (y : BitVec 128) (m : Int) (z : BitVec 128) (W : World) : Prop where
  t : W.heap[S]? = some (.cells #[.int .i64 F, v] 25)
  p : W.heap[S + 1]? = some (.cells #[.int .u64 (hI y), .int .u64 (lI y), .int .i64 m] 38)
  x : W.heap[S + 2]? = some (.cells #[.int .u64 (hI z), .int .u64 (lI z)] 36)
theorem Fx.keep {S : Nat} {F : Int} {v : Value} {y : BitVec 128} {m : Int} {z : BitVec 128} {W W' : World} (k : Fx S F v y m z W) (h : ∀ q, q < S + 3 → W'.heap[q]? = W.heap[q]?) : Fx S F v y m z W' := ⟨(h _ (by omega)).trans k.t, (h _ (by omega)).trans k.p, (h _ (by omega)).trans k.x⟩
theorem Fx.lt {S : Nat} {F : Int} {v : Value} {y : BitVec 128} {m : Int} {z : BitVec 128} {W : World} (k : Fx S F v y m z W) : S + 3 ≤ W.heap.size := blk_lt5 k.x
theorem Fx.below {S : Nat} {F : Int} {v : Value} {y : BitVec 128} {m : Int} {z : BitVec 128} {W W' : World} (k : Fx S F v y m z W) (h : Below W.heap.size W W') : Fx S F v y m z W' := k.keep (fun q hq => h.block q (by have := k.lt; omega))
theorem rwb_own {W : World} {base g : Nat} {l : List Rte} (h : W.ownsRow base 45 4 (.slice (some ⟨g, 0, none⟩) (l.length + 3) (l.length + 3)) (l.length + 3) (rowR (l ++ mkR l.length 3))) : RwB W g 0 l := fun j u hj => by
  rw [Nat.zero_add]
  refine (cells8 h ?_).1
  rw [rowR_app5, List.getElem?_append_left (List.getElem?_eq_some_iff.mp hj).1]
  exact hj
theorem right5_ok {F : Int} {l : List Rte} (h : RightT F l) : (F = 32 ∨ F = 128) ∧ l.length ≤ 3000 ∧ RtR F l ∧ OrdR l := by
  obtain ⟨a, b, c, d⟩ := tab8_ok (show TabE F l 0 from ⟨fun q => absurd h.2.1 q, fun _ => .inl ⟨h.2.2, rfl⟩⟩)
  exact ⟨a, h.1, fun r hr => (c r hr).1, d⟩
set_option maxRecDepth 100000 in
set_option maxHeartbeats 16000000 in
theorem tableFinds_any (F : Int) (v : Value) (l : List Rte) (px : BitVec 128) (pn : Int) (x : BitVec 128) (w : World) (hv : RwR w v l) :
    Calls Try.prog 4 #[.agg #[.int .i64 F, v], .agg #[.int .u64 (hI px), .int .u64 (lI px), .int .i64 pn], .agg #[.int .u64 (hI x), .int .u64 (lI x)]] w fun e w' => e = .returned (.bool true) ∧ Below w.heap.size w w' := by
  have q1 := bl1 w (.cells #[.int .i64 F, v] 25)
  have q2 := bl1 (w.alloc (.cells #[.int .i64 F, v] 25)) (.cells #[.int .u64 (hI px), .int .u64 (lI px), .int .i64 pn] 38)
  have q3 := bl1 ((w.alloc (.cells #[.int .i64 F, v] 25)).alloc (.cells #[.int .u64 (hI px), .int .u64 (lI px), .int .i64 pn] 38)) (.cells #[.int .u64 (hI x), .int .u64 (lI x)] 36)
  have HB0 := hidX (keepb q3 (keepb q2 q1))
  have HV0 := hidX (((hv.below q1).below q2).below q3)
  have HX0 : Hid (Fx w.heap.size F v px pn x (((w.alloc (.cells #[.int .i64 F, v] 25)).alloc (.cells #[.int .u64 (hI px), .int .u64 (lI px), .int .i64 pn] 38)).alloc (.cells #[.int .u64 (hI x), .int .u64 (lI x)] 36))) := hidX ⟨
    (q3.block _ (by simp; omega)).trans ((q2.block _ (by simp)).trans Array.getElem?_push_size),
    (q3.block _ (by simp)).trans (by have := World.alloc_heap_new (w.alloc (.cells #[.int .i64 F, v] 25)) (.cells #[.int .u64 (hI px), .int .u64 (lI px), .int .i64 pn] 38); rwa [World.size_alloc] at this),
    by have := World.alloc_heap_new ((w.alloc (.cells #[.int .i64 F, v] 25)).alloc (.cells #[.int .u64 (hI px), .int .u64 (lI px), .int .i64 pn] 38)) (.cells #[.int .u64 (hI x), .int .u64 (lI x)] 36); rwa [World.size_alloc, World.size_alloc] at this⟩
  have KK := fun W => known5_any W
  have HVw := hidX hv
  obtain ⟨ao, c, rfl, -⟩ := hv
  clear q1 q2 q3
  go_enter Try.func4, Try.ntmps4
  go_wp2_with fail
  refine (KK _).mono ?_
  rintro e w1 ⟨rfl, hb⟩
  have HB1 := hidX (keepb hb HB0.out)
  have HV1 := hidX (HV0.out.below hb)
  have HX1 := hidX (HX0.out.below hb)
  have KR := rightI_any F (.slice ao l.length c) l w1 HV1.out
  clear KK hb HB0 HV0 HX0
  have t0 := at_blk HX1.out.t 0 (.int .i64 F) rfl
  have t1 := at_blk HX1.out.t 1 (.slice ao l.length c) rfl
  go_wp2_with fail
  refine KR.mono ?_
  rintro e w2 ⟨⟨r, hr, rfl⟩, hb⟩
  have HB2 := hidX (keepb hb HB1.out)
  have HV2 := hidX (HV1.out.below hb)
  have HX2 := hidX (HX1.out.below hb)
  clear KR hb HB1 HV1 HX1 t0 t1
  cases r with
  | false =>
    clear hr
    go_wp2
    exact bodyPost_ret (v := .bool true) (by simp [results, Try.results4, go_sem]) rfl ⟨rfl, HB2.out⟩
  | true =>
    obtain ⟨hF, hl, hRt, hO⟩ := right5_ok (hr.1 rfl)
    have HG : Hid ((F = 32 ∨ F = 128) ∧ RtR F l ∧ OrdR l) := hidX ⟨hF, hRt, hO⟩
    have hF0 : 0 ≤ F := by omega
    have hF1 : F ≤ 128 := by omega
    clear hr hRt hO hF
    have KF := fitted5_any F px pn x w2 hF0 hF1
    have HRx := hidX (rt_mask F x hF0)
    have t0 := at_blk HX2.out.t 0 (.int .i64 F) rfl
    have t1 := at_blk HX2.out.t 1 (.slice ao l.length c) rfl
    have p0 := at_blk HX2.out.p 0 (.int .u64 (hI px)) rfl
    have p1 := at_blk HX2.out.p 1 (.int .u64 (lI px)) rfl
    have p2 := at_blk HX2.out.p 2 (.int .i64 pn) rfl
    have x0 := at_blk HX2.out.x 0 (.int .u64 (hI x)) rfl
    have x1 := at_blk HX2.out.x 1 (.int .u64 (lI x)) rfl
    revert KF HRx
    generalize pn % (F + 1) = m
    generalize cutW px m = y
    generalize x &&& maskW F = z
    intro KF HRx
    go_wp2_with fail
    refine KF.mono ?_
    rintro e w3 ⟨rfl, hb⟩
    have hX3 := HX2.out.below hb
    have hV3 := HV2.out.below hb
    have hB3 := keepb hb HB2.out
    clear hb KF t0 t1 p0 p1 p2 x0 x1 HX2 HV2 HB2
    have t0 := at_blk hX3.t 0 (.int .i64 F) rfl
    have t1 := at_blk hX3.t 1 (.slice ao l.length c) rfl
    have p0 := at_blk hX3.p 0 (.int .u64 (hI px)) rfl
    have p1 := at_blk hX3.p 1 (.int .u64 (lI px)) rfl
    have p2 := at_blk hX3.p 2 (.int .i64 pn) rfl
    have x0 := at_blk hX3.x 0 (.int .u64 (hI x)) rfl
    have x1 := at_blk hX3.x 1 (.int .u64 (lI x)) rfl
    have f0 := fr_blk5 (j := 0) hX3.p
    have f1 := fr_blk5 (j := 1) hX3.p
    have f2 := fr_blk5 (j := 2) hX3.p
    have g0 := fr_blk5 (j := 0) hX3.x
    have g1 := fr_blk5 (j := 1) hX3.x
    have HX4 : Hid (Fx w.heap.size F (.slice ao l.length c) y m z (((((w3.setCell ⟨w.heap.size + 1, 0, none⟩ (.int .u64 (hI y))).setCell ⟨w.heap.size + 1, 1, none⟩ (.int .u64 (lI y))).setCell ⟨w.heap.size + 1, 2, none⟩ (.int .i64 m)).setCell ⟨w.heap.size + 1 + 1, 0, none⟩ (.int .u64 (hI z))).setCell ⟨w.heap.size + 1 + 1, 1, none⟩ (.int .u64 (lI z)))) := hidX (by
      refine ⟨?_, ?_, ?_⟩
      · rw [hSet6 _ (by omega), hSet6 _ (by omega), hSet6 _ (by omega), hSet6 _ (by omega), hSet6 _ (by omega)]; exact hX3.t
      · rw [hSet6 _ (by omega), hSet6 _ (by omega)]; simpa using set_blk5 (o := 2) (set_blk5 (o := 1) (set_blk5 (o := 0) hX3.p (.int .u64 (hI y))) (.int .u64 (lI y))) (.int .i64 m)
      · have k : (((w3.setCell ⟨w.heap.size + 1, 0, none⟩ (.int .u64 (hI y))).setCell ⟨w.heap.size + 1, 1, none⟩ (.int .u64 (lI y))).setCell ⟨w.heap.size + 1, 2, none⟩ (.int .i64 m)).heap[w.heap.size + 2]? = some (.cells #[.int .u64 (hI x), .int .u64 (lI x)] 36) := by
          rw [hSet6 _ (by omega), hSet6 _ (by omega), hSet6 _ (by omega)]; exact hX3.x
        simpa using set_blk5 (o := 1) (set_blk5 (o := 0) k (.int .u64 (hI z))) (.int .u64 (lI z)))
    have HB4 : Hid (Below w.heap.size w (((((w3.setCell ⟨w.heap.size + 1, 0, none⟩ (.int .u64 (hI y))).setCell ⟨w.heap.size + 1, 1, none⟩ (.int .u64 (lI y))).setCell ⟨w.heap.size + 1, 2, none⟩ (.int .i64 m)).setCell ⟨w.heap.size + 1 + 1, 0, none⟩ (.int .u64 (hI z))).setCell ⟨w.heap.size + 1 + 1, 1, none⟩ (.int .u64 (lI z)))) := hidX (((((hB3.setCell (p := ⟨w.heap.size + 1, 0, none⟩) (by simp) _).setCell (p := ⟨w.heap.size + 1, 1, none⟩) (by simp) _).setCell (p := ⟨w.heap.size + 1, 2, none⟩) (by simp) _).setCell (p := ⟨w.heap.size + 1 + 1, 0, none⟩) (by simp; omega) _).setCell (p := ⟨w.heap.size + 1 + 1, 1, none⟩) (by simp; omega) _)
    clear hX3 hV3 hB3
    go_wp2_with fail
    clear t0 t1 p0 p1 p2 x0 x1 f0 f1 f2 g0 g1
    revert HX4 HB4
    generalize ((((w3.setCell ⟨w.heap.size + 1, 0, none⟩ (.int .u64 (hI y))).setCell ⟨w.heap.size + 1, 1, none⟩ (.int .u64 (lI y))).setCell ⟨w.heap.size + 1, 2, none⟩ (.int .i64 m)).setCell ⟨w.heap.size + 1 + 1, 0, none⟩ (.int .u64 (hI z))).setCell ⟨w.heap.size + 1 + 1, 1, none⟩ (.int .u64 (lI z)) = w4
    intro HX4 HB4
    have KL := lend5_any F (.slice ao l.length c) l w4 (HVw.out.below HB4.out) (by omega)
    refine KL.mono ?_
    rintro e w5 ⟨⟨g, rfl, ho⟩, hb⟩
    have k1 := bl1 w5 (.cells #[.int .i64 F, .slice (some ⟨g, 0, none⟩) l.length (l.length + 3)] 25)
    have hgw : w4.heap.size ≤ g ∧ g < w5.heap.size := ho.lt g (by simp [Value.ownBlock])
    have hS4 := HX4.out.lt
    have HO6 := hidX (own_below k1 ho)
    have HX6 := hidX ((HX4.out.below hb).below k1)
    have HL6 := hidX (keepb k1 hb)
    have HM6 : Hid ((w5.alloc (.cells #[.int .i64 F, .slice (some ⟨g, 0, none⟩) l.length (l.length + 3)] 25)).heap[w5.heap.size]? = some (.cells #[.int .i64 F, .slice (some ⟨g, 0, none⟩) l.length (l.length + 3)] 25)) := hidX Array.getElem?_push_size
    have t0 := at_blk HM6.out 0 (.int .i64 F) rfl
    have t1 := at_blk HM6.out 1 (.slice (some ⟨g, 0, none⟩) l.length (l.length + 3)) rfl
    have p0 := at_blk HX6.out.p 0 (.int .u64 (hI y)) rfl
    have p1 := at_blk HX6.out.p 1 (.int .u64 (lI y)) rfl
    have p2 := at_blk HX6.out.p 2 (.int .i64 m) rfl
    clear KL hb ho k1
    go_wp2_with fail
    clear t0 t1 p0 p1 p2
    revert HO6 HX6 HL6 HM6
    generalize w5.alloc (.cells #[.int .i64 F, .slice (some ⟨g, 0, none⟩) l.length (l.length + 3)] 25) = w6
    have hM5 : g < w5.heap.size := hgw.2
    revert hM5
    obtain ⟨M, hM⟩ : ∃ M, M = w5.heap.size := ⟨_, rfl⟩
    rw [← hM]
    clear hM
    intro hM5 HO6 HX6 HL6 HM6
    have hgb : w4.heap.size ≤ g := hgw.1
    clear hgw
    refine (find_any F y m (.slice (some ⟨g, 0, none⟩) l.length (l.length + 3)) l w6 (rwb_own HO6.out).rwr (by omega) (ord_mono HG.out.2.2 y m)).mono ?_
    rintro e w7 ⟨⟨i, ok, h, hP, h1, h0, rfl⟩, hb⟩
    have HFd := hidX (fnd_place HG.out.2.2 hP h1 h0)
    have HO7 := hidX (own_below hb HO6.out)
    have HX7 := hidX (HX6.out.below hb)
    have HL7 := hidX (keepb hb HL6.out)
    have HM7 := hidX ((hb.block _ (blk_lt5 HM6.out)).trans HM6.out)
    clear hb hP h1 h0 HO6 HX6 HL6 HM6
    have t0 := at_blk HM7.out 0 (.int .i64 F) rfl
    have t1 := at_blk HM7.out 1 (.slice (some ⟨g, 0, none⟩) l.length (l.length + 3)) rfl
    have x0 := at_blk HX7.out.x 0 (.int .u64 (hI z)) rfl
    have x1 := at_blk HX7.out.x 1 (.int .u64 (lI z)) rfl
    go_wp2_with fail
    clear t0 t1 x0 x1
    refine (match5_any F z g 0 (l.length + 3) l w7 hF1 HG.out.2.2 HG.out.2.1 HRx.out (by omega) (by omega) (by omega) (rwb_own HO7.out) (HO7.out.lt g (by simp [Value.ownBlock])).2).mono ?_
    rintro e w8 ⟨⟨ys, hys, rfl⟩, hb⟩
    have HMt := hidX (mat_parts HG.out.2.2 HG.out.2.1 hys)
    have HYs := hidX hys
    have k2 := bl1 w8 (.cells #[.int .u64 (hI (fstR ys).1.1), .int .u64 (lI (fstR ys).1.1), .int .i64 (fstR ys).1.2, .int .i64 (fstR ys).2] 45)
    have HO9 := hidX (own_below k2 (own_below hb HO7.out))
    have HX9 := hidX ((HX7.out.below hb).below k2)
    have HL9 := hidX (keepb k2 (keepb hb HL7.out))
    have hM8 := (hb.block _ (blk_lt5 HM7.out)).trans HM7.out
    have hMl := blk_lt5 hM8
    have HM9 := hidX ((k2.block _ hMl).trans hM8)
    have HR9 : Hid ((w8.alloc (.cells #[.int .u64 (hI (fstR ys).1.1), .int .u64 (lI (fstR ys).1.1), .int .i64 (fstR ys).1.2, .int .i64 (fstR ys).2] 45)).heap[w8.heap.size]? = some (.cells #[.int .u64 (hI (fstR ys).1.1), .int .u64 (lI (fstR ys).1.1), .int .i64 (fstR ys).1.2, .int .i64 (fstR ys).2] 45)) := hidX Array.getElem?_push_size
    clear hb hys k2 HO7 HX7 HL7 HM7 hM8
    have t0 := at_blk HM9.out 0 (.int .i64 F) rfl
    have t1 := at_blk HM9.out 1 (.slice (some ⟨g, 0, none⟩) l.length (l.length + 3)) rfl
    have x0 := at_blk HX9.out.x 0 (.int .u64 (hI z)) rfl
    have x1 := at_blk HX9.out.x 1 (.int .u64 (lI z)) rfl
    revert HMt HYs HO9 HX9 HL9 HM9 HR9 t0 t1 x0 x1
    generalize hrr : fstR ys = rr
    generalize (!ys.isEmpty) = ob
    intro HMt HYs HO9 HX9 HL9 HM9 HR9 t0 t1 x0 x1
    have Hrr := hidX hrr
    clear hrr
    go_wp2_with fail
    clear t0 t1 x0 x1
    revert HO9 HX9 HL9 HM9 HR9
    generalize w8.alloc (.cells #[.int .u64 (hI rr.1.1), .int .u64 (lI rr.1.1), .int .i64 rr.1.2, .int .i64 rr.2] 45) = w9
    obtain ⟨R, hR⟩ : ∃ R, R = w8.heap.size := ⟨_, rfl⟩
    rw [← hR]
    rw [← hR] at hMl
    clear hR
    intro HO9 HX9 HL9 HM9 HR9
    refine (look5_any F z g 0 (l.length + 3) l w9 hF1 HG.out.2.2 HG.out.2.1 HRx.out (by omega) (by omega) (by omega) (rwb_own HO9.out) (HO9.out.lt g (by simp [Value.ownBlock])).2).mono ?_
    rintro e w10 ⟨⟨ys', hys', rfl⟩, hb⟩
    obtain rfl : ys' = ys := hys'.trans HYs.out.symm
    obtain rfl : fstR ys' = rr := Hrr.out
    generalize hrr : fstR ys' = rr at *
    have HO10 := hidX (own_below hb HO9.out)
    have HX10 := hidX (HX9.out.below hb)
    have HL10 := hidX (keepb hb HL9.out)
    have HM10 := hidX ((hb.block _ (blk_lt5 HM9.out)).trans HM9.out)
    have HR10 := hidX ((hb.block _ (blk_lt5 HR9.out)).trans HR9.out)
    clear hb hys' HO9 HX9 HL9 HM9 HR9 HYs Hrr hrr
    have t0 := at_blk HM10.out 0 (.int .i64 F) rfl
    have t1 := at_blk HM10.out 1 (.slice (some ⟨g, 0, none⟩) l.length (l.length + 3)) rfl
    have t2 := at_blk HX10.out.t 0 (.int .i64 F) rfl
    have t3 := at_blk HX10.out.t 1 (.slice ao l.length c) rfl
    go_wp2_with fail
    clear t0 t1 t2 t3
    refine (kept5_any F (.slice ao l.length c) l w4 w10 (HVw.out.below HB4.out) HL10.out g HO10.out (by omega)).mono ?_
    rintro e w11 ⟨rfl, hs⟩
    have HB11 := hidX ((hs.low HL10.out hgb))
    have far : ∀ {q : Nat} {o : Obj}, w10.heap[q]? = some o → ¬ q = g → w11.heap[q]? = some o := fun h1 h2 => (hs.2.2.2.2 _ (blk_lt5 h1) h2).trans h1
    have HX11 : Hid (Fx w.heap.size F (.slice ao l.length c) y m z w11) := hidX ⟨far HX10.out.t (by omega), far HX10.out.p (by omega), far HX10.out.x (by omega)⟩
    have HR11 := hidX (far HR10.out (by omega))
    clear far hs HO10 HX10 HL10 HM10 HR10
    have t2 := at_blk HX11.out.t 0 (.int .i64 F) rfl
    have t3 := at_blk HX11.out.t 1 (.slice ao l.length c) rfl
    have p0 := at_blk HX11.out.p 0 (.int .u64 (hI y)) rfl
    have p1 := at_blk HX11.out.p 1 (.int .u64 (lI y)) rfl
    have p2 := at_blk HX11.out.p 2 (.int .i64 m) rfl
    have HW11 := hidX (HB4.out.trans (HB11.out.mono (by omega)))
    clear HB11
    go_wp2_with fail
    clear t2 t3 p0 p1 p2
    refine (rfind_any F y m (.slice ao l.length c) l w11 (HVw.out.below HW11.out) (by omega)).mono ?_
    rintro e w12 ⟨rfl, hb⟩
    rw [← HFd.out.1, ← HFd.out.2]
    have HX12 := hidX (HX11.out.below hb)
    have HR12 := hidX ((hb.block _ (blk_lt5 HR11.out)).trans HR11.out)
    have HW12 := hidX (keepb hb HW11.out)
    clear hb HX11 HR11 HW11 HFd
    have t2 := at_blk HX12.out.t 0 (.int .i64 F) rfl
    have t3 := at_blk HX12.out.t 1 (.slice ao l.length c) rfl
    have x0 := at_blk HX12.out.x 0 (.int .u64 (hI z)) rfl
    have x1 := at_blk HX12.out.x 1 (.int .u64 (lI z)) rfl
    go_wp2_with fail
    clear t2 t3 x0 x1
    refine (rmatch_any F z (.slice ao l.length c) l w12 (HVw.out.below HW12.out) (by omega) (fun r hr => ⟨(HG.out.2.1 r hr).1, by have := (HG.out.2.1 r hr).2.1; omega, (HG.out.2.1 r hr).2.2⟩)).mono ?_
    rintro e w13 ⟨rfl, hb⟩
    rw [HMt.out.1, HMt.out.2.1, HMt.out.2.2.1, HMt.out.2.2.2]
    have HR13 := hidX ((hb.block _ (blk_lt5 HR12.out)).trans HR12.out)
    have HW13 := hidX (keepb hb HW12.out)
    clear hb HX12 HR12 HW12 HMt
    have k3 := bl1 w13 (.cells #[.int .u64 (hI rr.1.1), .int .u64 (lI rr.1.1), .int .i64 rr.1.2, .int .i64 rr.2] 45)
    have hR13 := blk_lt5 HR13.out
    have HR14 := (k3.block _ hR13).trans HR13.out
    have HW14 := hidX (keepb k3 HW13.out)
    have r0 := at_blk HR14 0 (.int .u64 (hI rr.1.1)) rfl
    have r1 := at_blk HR14 1 (.int .u64 (lI rr.1.1)) rfl
    have r2 := at_blk HR14 2 (.int .i64 rr.1.2) rfl
    have r3 := at_blk HR14 3 (.int .i64 rr.2) rfl
    clear k3 HR13 HW13 HR14
    have d1 : (h == h) = true := by simp
    have d2 : (ok == ok) = true := by simp
    have d3 : (ob == ob) = true := by simp
    have d4 : (rr.2 == rr.2) = true := by simp
    go_wp2
    exact bodyPost_ret (v := .bool true) (by simp [results, Try.results4, go_sem]) rfl ⟨rfl, HW14.out⟩
end Go.Proofs.Ytnaghiipfgdimaa
/-
  How a prefix that is handed in reads as data.
-/
namespace Go.Proofs.Ytnaghiipfgdimaa
open Go.ChangeShapes Go.WideShapes Go.ChangeAt Go.RowKit Go.Joins
set_option linter.unusedSimpArgs false
set_option linter.unusedVariables false

theorem Try.cellsW : Try.prog.cellsOf 36 = 2 := by kernel_rfl
theorem Try.cellsP : Try.prog.cellsOf 38 = 3 := by kernel_rfl
theorem Try.cellsI : Try.prog.cellsOf 3 = 1 := by kernel_rfl
theorem Try.cellsU : Try.prog.cellsOf 34 = 1 := by kernel_rfl
section
variable {H : Type} {enc : TypeId × Value → H} {w : World} {base : Nat} {spare : Nat → Bool} {held : Bool}
set_option maxRecDepth 100000 in
theorem open_pfx {r : Reach} {b0 : Nat} {v : Value} {d : DataW H} {p : List MemPlace} (hv : Value.okWide Try.prog w r b0 38 v) (h : DataW.Trod enc Try.prog w base spare held 38 v d p) :
    ∃ a b n : Int, v = .agg #[.int .u64 a, .int .u64 b, .int .i64 n] ∧ d = .agg [.agg [.lit (.int .u64 a), .lit (.int .u64 b)], .lit (.int .i64 n)] ∧ p = [] ∧ (Lit.int .u64 a).wf = true ∧ (Lit.int .u64 b).wf = true ∧ (Lit.int .i64 n).wf = true := by
  obtain ⟨cs, rfl, hsz⟩ := okWide_struct Try.underlying38 hv
  obtain ⟨c0, c1, c2, rfl⟩ := array3 (hsz.trans Try.cellsP)
  obtain ⟨fuel, hf⟩ := h
  obtain ⟨y0, y1, n, hx, _, h0, h1⟩ := trod_struct2 Try.underlying38 hf
  have h0' : DataW.trod enc Try.prog w base spare held n 36 [c0, c1] = some y0 := by simpa [Value.cells, Try.cellsW] using h0
  have h1' : DataW.trod enc Try.prog w base spare held n 3 [c2] = some y1 := by simpa [Value.cells, Try.cellsI] using h1
  obtain ⟨u0, u1, m, hu, _, g0, g1⟩ := trod_struct2 Try.underlying36 h0'
  have g0' : DataW.trod enc Try.prog w base spare held m 34 [c0] = some u0 := by simpa [Value.cells, Try.cellsU] using g0
  have g1' : DataW.trod enc Try.prog w base spare held m 34 [c1] = some u1 := by simpa [Value.cells, Try.cellsU] using g1
  obtain ⟨a, ea, rfl, wa⟩ := DataW.trod_int Try.underlying34 g0'
  obtain ⟨b, eb, rfl, wb⟩ := DataW.trod_int Try.underlying34 g1'
  obtain ⟨k, ek, rfl, wk⟩ := DataW.trod_int Try.underlying3 h1'
  simp at ea eb ek
  subst ea eb ek hu
  simp only [Prod.mk.injEq] at hx
  exact ⟨a, b, k, rfl, hx.1, by simpa using hx.2, wa, wb, wk⟩
set_option maxRecDepth 100000 in
theorem shut_pfx {a b n : Int} (wa : (Lit.int .u64 a).wf = true) (wb : (Lit.int .u64 b).wf = true) (wn : (Lit.int .i64 n).wf = true) :
    DataW.Trod enc Try.prog w base spare held 38 (.agg #[.int .u64 a, .int .u64 b, .int .i64 n]) (.agg [.agg [.lit (.int .u64 a), .lit (.int .u64 b)], .lit (.int .i64 n)]) [] := by
  have f : ∀ {z : Int}, (Lit.int .u64 z).wf = true → DataW.trod enc Try.prog w base spare held 1 34 [.int .u64 z] = some (.lit (.int .u64 z), []) := fun hz => by simp [DataW.trod, Try.underlying34, hz]
  have g : DataW.trod enc Try.prog w base spare held 2 3 [.int .i64 n] = some (.lit (.int .i64 n), []) := by simp [DataW.trod, Try.underlying3, wn]
  have s : DataW.trod enc Try.prog w base spare held 2 36 [.int .u64 a, .int .u64 b] = some (.agg [.lit (.int .u64 a), .lit (.int .u64 b)], []) := by
    have := trod_struct2_mk (enc := enc) (w := w) (base := base) (spare := spare) (held := held) (n := 1) (cs := [.int .u64 a, .int .u64 b]) Try.underlying36 (by simp [Try.cellsW]) (by simpa [Try.cellsU] using f wa) (by simpa [Try.cellsU] using f wb)
    simpa using this
  have := trod_struct2_mk (enc := enc) (w := w) (base := base) (spare := spare) (held := held) (n := 2) (cs := [.int .u64 a, .int .u64 b, .int .i64 n]) Try.underlying38 (by simp [Try.cellsP]) (by simpa [Try.cellsW] using s) (by simpa [Try.cellsI] using g)
  exact ⟨3, by simpa [Value.cells] using this⟩
end
end Go.Proofs.Ytnaghiipfgdimaa
/-
  How a table that is handed in reads as data.
-/
namespace Go.Proofs.Ytnaghiipfgdimaa
open Go.ChangeShapes Go.WideShapes Go.ChangeAt Go.RowKit Go.Joins
set_option linter.unusedSimpArgs false
set_option linter.unusedVariables false

theorem Try.laidOut : laidOutB Try.prog = true := by kernel_rfl
theorem Try.cellsR : Try.prog.cellsOf 45 = 4 := by kernel_rfl
theorem Try.cellsT : Try.prog.cellsOf 25 = 2 := by kernel_rfl
theorem Try.cellsL : Try.prog.cellsOf 22 = 1 := by kernel_rfl
theorem addT (g o j : Nat) : (⟨g, o, none⟩ : Addr).add j = ⟨g, o + j, none⟩ := by unfold Addr.add; split <;> simp_all
theorem rowR_lenF (l : List Rte) : (rowR l).length = l.length * 4 := by
  induction l with
  | nil => rfl
  | cons r l ih => simp [rowR, ih]; omega
theorem rowR_all {W : World} {b off : Nat} (l : List Rte) (h : ∀ i (hi : i < l.length), W.cell? ⟨b, off + i * 4, none⟩ = some (.int .u64 (hI l[i].1.1)) ∧ W.cell? ⟨b, off + (i * 4 + 1), none⟩ = some (.int .u64 (lI l[i].1.1)) ∧ W.cell? ⟨b, off + (i * 4 + 2), none⟩ = some (.int .i64 l[i].1.2) ∧ W.cell? ⟨b, off + (i * 4 + 3), none⟩ = some (.int .i64 l[i].2)) :
    ∀ j u, (rowR l)[j]? = some u → W.cell? ⟨b, off + j, none⟩ = some u := by
  intro j u hj
  have hlt : j < (rowR l).length := (List.getElem?_eq_some_iff.1 hj).1
  rw [rowR_lenF] at hlt
  have hi : j / 4 < l.length := by omega
  obtain ⟨a0, a1, a2, a3⟩ := h (j / 4) hi
  obtain ⟨b0, b1, b2, b3⟩ := rowR_get l (j / 4) hi
  have hm : j % 4 = 0 ∨ j % 4 = 1 ∨ j % 4 = 2 ∨ j % 4 = 3 := by omega
  rcases hm with hm | hm | hm | hm
  · have e : j = j / 4 * 4 := by omega
    rw [e, b0] at hj
    rw [e, ← hj]; exact a0
  · have e : j = j / 4 * 4 + 1 := by omega
    rw [e, b1] at hj
    rw [e, ← hj]; exact a1
  · have e : j = j / 4 * 4 + 2 := by omega
    rw [e, b2] at hj
    rw [e, ← hj]; exact a2
  · have e : j = j / 4 * 4 + 3 := by omega
    rw [e, b3] at hj
    rw [e, ← hj]; exact a3
section
variable {H : Type} {enc : TypeId × Value → H} {w : World} {spare : Nat → Bool} {held : Bool}
set_option maxRecDepth 100000 in
theorem trod_word {n : Nat} {c0 c1 : Value} {x : DataW H × List MemPlace} (h : DataW.trod enc Try.prog w 0 spare held n 36 [c0, c1] = some x) :
    ∃ a b : Int, c0 = .int .u64 a ∧ c1 = .int .u64 b ∧ (Lit.int .u64 a).wf = true ∧ (Lit.int .u64 b).wf = true := by
  obtain ⟨u0, u1, m, hu, _, g0, g1⟩ := trod_struct2 Try.underlying36 h
  have g0' : DataW.trod enc Try.prog w 0 spare held m 34 [c0] = some u0 := by simpa [Value.cells, Try.cellsU] using g0
  have g1' : DataW.trod enc Try.prog w 0 spare held m 34 [c1] = some u1 := by simpa [Value.cells, Try.cellsU] using g1
  obtain ⟨a, ea, rfl, wa⟩ := DataW.trod_int Try.underlying34 g0'
  obtain ⟨b, eb, rfl, wb⟩ := DataW.trod_int Try.underlying34 g1'
  simp at ea eb
  exact ⟨a, b, ea, eb, wa, wb⟩
set_option maxRecDepth 100000 in
theorem trod_rte {n : Nat} {c0 c1 c2 c3 : Value} {x : DataW H × List MemPlace} (h : DataW.trod enc Try.prog w 0 spare held n 45 [c0, c1, c2, c3] = some x) :
    ∃ a b k g : Int, c0 = .int .u64 a ∧ c1 = .int .u64 b ∧ c2 = .int .i64 k ∧ c3 = .int .i64 g ∧ (Lit.int .u64 a).wf = true ∧ (Lit.int .u64 b).wf = true := by
  obtain ⟨y0, y1, n, hx, _, h0, h1⟩ := trod_struct2 Try.underlying45 h
  have h0' : DataW.trod enc Try.prog w 0 spare held n 38 [c0, c1, c2] = some y0 := by simpa [Value.cells, Try.cellsP] using h0
  have h1' : DataW.trod enc Try.prog w 0 spare held n 3 [c3] = some y1 := by simpa [Value.cells, Try.cellsI, Try.cellsP] using h1
  obtain ⟨z0, z1, n2, hz, _, k0, k1⟩ := trod_struct2 Try.underlying38 h0'
  have k0' : DataW.trod enc Try.prog w 0 spare held n2 36 [c0, c1] = some z0 := by simpa [Value.cells, Try.cellsW] using k0
  have k1' : DataW.trod enc Try.prog w 0 spare held n2 3 [c2] = some z1 := by simpa [Value.cells, Try.cellsI, Try.cellsW] using k1
  obtain ⟨a, b, e0, e1, wa, wb⟩ := trod_word k0'
  obtain ⟨k, ek, rfl, wk⟩ := DataW.trod_int Try.underlying3 k1'
  obtain ⟨g, eg, rfl, wg⟩ := DataW.trod_int Try.underlying3 h1'
  simp at ek eg
  exact ⟨a, b, k, g, e0, e1, ek, eg, wa, wb⟩
theorem spot_none {W : World} {a : Addr} {u : Value} (h : W.cell? a = some u) : a = ⟨a.block, a.off, none⟩ := by
  obtain ⟨b, o, s⟩ := a
  cases s with
  | none => rfl
  | some z =>
    unfold World.cell? at h
    split at h
    · simp at h
    · cases h
theorem array2v {cs : Array Value} (h : cs.size = 2) : ∃ a b, cs = #[a, b] := by
  obtain ⟨l⟩ := cs
  match l, h with
  | [a, b], _ => exact ⟨a, b, rfl⟩
set_option maxRecDepth 100000 in
theorem open_tab {r : Reach} {b0 : Nat} {v : Value} {d : DataW H} {p : List MemPlace} (hv : Value.okWide Try.prog w r b0 25 v) (h : DataW.Trod enc Try.prog w 0 (fun _ => true) held 25 v d p) :
    ∃ (F : Int) (va : Value) (l : List Rte), v = .agg #[.int .i64 F, va] ∧ RwR w va l := by
  obtain ⟨cs, rfl, hsz⟩ := okWide_struct Try.underlying25 hv
  obtain ⟨c0, va, rfl⟩ := array2v (hsz.trans Try.cellsT)
  obtain ⟨fuel, hf⟩ := h
  obtain ⟨y0, y1, n, hx, _, h0, h1⟩ := trod_struct2 Try.underlying25 hf
  have h0' : DataW.trod enc Try.prog w 0 (fun _ => true) held n 3 [c0] = some y0 := by simpa [Value.cells, Try.cellsI] using h0
  have h1' : DataW.trod enc Try.prog w 0 (fun _ => true) held n 22 [va] = some y1 := by simpa [Value.cells, Try.cellsI, Try.cellsL] using h1
  obtain ⟨F, eF, rfl, wF⟩ := DataW.trod_int Try.underlying3 h0'
  simp at eF
  subst eF
  refine ⟨F, va, ?_⟩
  rcases Deep.open_slice Try.underlying22 h1' with ⟨hcs, hx⟩ | ⟨a, len, cap, m, n, D, Pl, hcs, _, hl, hm, hmm, hx, hel⟩
  · simp at hcs
    subst hcs
    exact ⟨[], rfl, none, 0, rfl, .inl rfl⟩
  · simp at hcs
    subst hcs
    simp at hmm
    subst hmm
    rw [Try.cellsR] at hel
    obtain ⟨f, hf⟩ := Deep.choose_lt (α := Rte) (n := len) (p := fun i x => w.cell? (a.add (i * 4)) = some (.int .u64 (hI x.1.1)) ∧ w.cell? ((a.add (i * 4)).add 1) = some (.int .u64 (lI x.1.1)) ∧ w.cell? ((a.add (i * 4)).add 2) = some (.int .i64 x.1.2) ∧ w.cell? ((a.add (i * 4)).add 3) = some (.int .i64 x.2)) (fun i hi => by
      obtain ⟨cs', h1, h2⟩ := hel i (by omega)
      obtain ⟨_, hlen, hc⟩ := World.cells?_some h1
      match cs', hlen with
      | [c0, c1, c2, c3], _ =>
        obtain ⟨x, y, k, g, rfl, rfl, rfl, rfl, wx, wy⟩ := trod_rte h2
        have bx : 0 ≤ x ∧ x < 18446744073709551616 := by simp [Lit.wf, IntKind.min, IntKind.max, IntKind.signed, IntKind.bits] at wx; omega
        have bY : 0 ≤ y ∧ y < 18446744073709551616 := by simp [Lit.wf, IntKind.min, IntKind.max, IntKind.signed, IntKind.bits] at wy; omega
        refine ⟨((mkW x y, k), g), ?_, ?_, ?_, ?_⟩
        · have := hc 0 (by omega)
          rw [hI_mk x y bx.1 bx.2]
          simpa [Addr.add] using this
        · rw [lI_mk x y bY.1 bY.2]
          simpa using hc 1 (by omega)
        · simpa using hc 2 (by omega)
        · simpa using hc 3 (by omega))
    refine ⟨(List.range len).map f, rfl, some a, _, by simp; rfl, ?_⟩
    by_cases hz : len = 0
    · subst hz
      exact .inl (by simp)
    · have h00 := (hf 0 (by omega)).1
      have ea : a = ⟨a.block, a.off, none⟩ := by
        have : a.add (0 * 4) = a := by simp [Addr.add]
        rw [this] at h00
        exact spot_none h00
      refine .inr ⟨a.block, a.off, by rw [← ea], ?_⟩
      refine rowR_all _ ?_
      intro i hi
      have hi' : i < len := by simpa using hi
      have := hf i hi'
      rw [ea] at this
      simp only [addT] at this
      simpa [Nat.add_assoc] using this
end
end Go.Proofs.Ytnaghiipfgdimaa
