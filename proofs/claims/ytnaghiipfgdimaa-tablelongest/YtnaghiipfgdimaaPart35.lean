/-
  Part 35 of the proof: 1 texts, one behind the other.
-/
import Derived.Test.YtnaghiipfgdimaaPart25
import Derived.Test.YtnaghiipfgdimaaPart27
import Derived.Test.YtnaghiipfgdimaaPart32
import Derived.Test.YtnaghiipfgdimaaPart34
import Derived.Test.YtnaghiipfgdimaaPart18
/-
  TableLongest: of whatever table and word the law tells true.
-/
namespace Go.Proofs.Ytnaghiipfgdimaa
open Go.RowKit Go.Shelf
set_option linter.unusedSimpArgs false
set_option linter.unusedVariables false
attribute [local go_sem] Oper.semAt_some

theorem seqnilE (p : Option Addr) (W : World) : (binOp BinOp.eql 52 (.func (.func 56) #[] #[.pointer p]) .nilFunc).run Try.prog W = .ok (.bool false) W := by
  kernel_rfl
/-- The law's own three boxes. -/
structure Gx (S : Nat) (F : Int) (v : Value) (z : BitVec 128) (o : Bool) (W : World) : Prop where
  t : W.heap[S]? = some (.cells #[.int .i64 F, v] 25)
  x : W.heap[S + 1]? = some (.cells #[.int .u64 (hI z), .int .u64 (lI z)] 36)
  o : W.heap[S + 2]? = some (.cells #[.bool o] 4)
theorem Gx.keep {S : Nat} {F : Int} {v : Value} {z : BitVec 128} {o : Bool} {W W' : World} (k : Gx S F v z o W) (h : ∀ q, q < S + 3 → W'.heap[q]? = W.heap[q]?) : Gx S F v z o W' := ⟨(h _ (by omega)).trans k.t, (h _ (by omega)).trans k.x, (h _ (by omega)).trans k.o⟩
theorem Gx.lt {S : Nat} {F : Int} {v : Value} {z : BitVec 128} {o : Bool} {W : World} (k : Gx S F v z o W) : S + 3 ≤ W.heap.size := blk_lt5 k.o
theorem Gx.below {S : Nat} {F : Int} {v : Value} {z : BitVec 128} {o : Bool} {W W' : World} (k : Gx S F v z o W) (h : Below W.heap.size W W') : Gx S F v z o W' := k.keep (fun q hq => h.block q (by have := k.lt; omega))
theorem right5_okL {F : Int} {l : List Rte} (h : RightT F l) : (F = 32 ∨ F = 128) ∧ l.length ≤ 3000 ∧ RtR F l ∧ OrdR l := by
  obtain ⟨a, b, c, d⟩ := tab8_ok (show TabE F l 0 from ⟨fun q => absurd h.2.1 q, fun _ => .inl ⟨h.2.2, rfl⟩⟩)
  exact ⟨a, h.1, fun r hr => (c r hr).1, d⟩
theorem rowA_rwr {W : World} {ao : Option Addr} {c : Nat} {l : List Rte} (h : RowA W 4 (.slice ao l.length c) l.length (rowR l)) : RwR W (.slice ao l.length c) l := by
  obtain ⟨-, ao', c', e, hc, h⟩ := h
  injection e with e1 e2 e3
  subst e1 e3
  refine ⟨_, _, rfl, ?_⟩
  by_cases hl0 : l = []
  · exact .inl hl0
  · have hpos : 0 < l.length := List.length_pos_iff.mpr hl0
    rcases h with ⟨-, -, h⟩ | ⟨a, rfl, h⟩
    · omega
    · have hc0 := h 0 (.int .u64 (hI l[0].1.1)) (rowR_get l 0 hpos).1
      have sp := spot9 hc0
      obtain ⟨b, off, sx⟩ := a
      obtain rfl : sx = none := by
        have := congrArg Addr.spot sp
        simpa [Addr.add] using this
      exact .inr ⟨b, off, rfl, fun j u hj => by
        have := h j u hj
        rw [addO] at this
        exact this⟩
set_option maxRecDepth 100000 in
set_option maxHeartbeats 16000000 in
theorem tableLongest_any (F : Int) (ao : Option Addr) (c : Nat) (l : List Rte) (x : BitVec 128) (w : World) (hv : RowA w 4 (.slice ao l.length c) l.length (rowR l)) :
    Calls Try.prog 5 #[.agg #[.int .i64 F, .slice ao l.length c], .agg #[.int .u64 (hI x), .int .u64 (lI x)]] w fun e w' => e = .returned (.bool true) ∧ Below w.heap.size w w' := by
  have q1 := bl1 w (.cells #[.int .i64 F, .slice ao l.length c] 25)
  have q2 := bl1 (w.alloc (.cells #[.int .i64 F, .slice ao l.length c] 25)) (.cells #[.int .u64 (hI x), .int .u64 (lI x)] 36)
  have q3 := bl1 ((w.alloc (.cells #[.int .i64 F, .slice ao l.length c] 25)).alloc (.cells #[.int .u64 (hI x), .int .u64 (lI x)] 36)) (.cells #[.bool false] 4)
  have HB0 := hidX (keepb q3 (keepb q2 q1))
  have HX0 : Hid (Gx w.heap.size F (.slice ao l.length c) x false (((w.alloc (.cells #[.int .i64 F, .slice ao l.length c] 25)).alloc (.cells #[.int .u64 (hI x), .int .u64 (lI x)] 36)).alloc (.cells #[.bool false] 4))) := hidX ⟨
    (q3.block _ (by simp; omega)).trans ((q2.block _ (by simp)).trans Array.getElem?_push_size),
    (q3.block _ (by simp)).trans (by have := World.alloc_heap_new (w.alloc (.cells #[.int .i64 F, .slice ao l.length c] 25)) (.cells #[.int .u64 (hI x), .int .u64 (lI x)] 36); rwa [World.size_alloc] at this),
    by have := World.alloc_heap_new ((w.alloc (.cells #[.int .i64 F, .slice ao l.length c] 25)).alloc (.cells #[.int .u64 (hI x), .int .u64 (lI x)] 36)) (.cells #[.bool false] 4); rwa [World.size_alloc, World.size_alloc] at this⟩
  have HVw := hidX hv
  have KK := fun W => known5_any W
  clear q1 q2 q3 hv
  refine (callsIn_wide (n := 9)).1 ?_
  refine callsIn_of_wp_marks Try.func5 rfl trivial ?_ rfl
  simp only [Try.ntmps5, List.size_toArray, List.length_cons, List.length_nil, Nat.reduceAdd, Nat.reduceSub, Array.replicate_succ, Array.replicate_zero, List.push_toArray, List.append_toArray, List.nil_append, List.cons_append]
  refine wpIn_wide.2 ?_
  go_wp2_with fail
  refine (KK _).mono ?_
  rintro e w1 ⟨rfl, hb⟩
  have HB1 := hidX (keepb hb HB0.out)
  have HX1 := hidX (HX0.out.below hb)
  have KR := rightI_any F (.slice ao l.length c) l w1 (rowA_rwr (HVw.out.below HB1.out))
  clear KK hb HB0 HX0
  have t0 := at_blk HX1.out.t 0 (.int .i64 F) rfl
  have t1 := at_blk HX1.out.t 1 (.slice ao l.length c) rfl
  go_wp2_with fail
  refine KR.mono ?_
  rintro e w2 ⟨⟨r, hr, rfl⟩, hb⟩
  have HB2 := hidX (keepb hb HB1.out)
  have HX2 := hidX (HX1.out.below hb)
  clear KR hb HB1 HX1 t0 t1
  cases r with
  | false =>
    clear hr
    have o0 := at_blk HX2.out.o 0 (.bool false) rfl
    have g0 := fr_blk5 (j := 0) HX2.out.o
    have HF : Hid ((w2.setCell ⟨w.heap.size + 2, 0, none⟩ (.bool true)).heap[w.heap.size + 2]? = some (.cells #[.bool true] 4) ∧ Below w.heap.size w (w2.setCell ⟨w.heap.size + 2, 0, none⟩ (.bool true))) := hidX ⟨by simpa using set_blk5 (o := 0) HX2.out.o (.bool true), HB2.out.setCell (p := ⟨w.heap.size + 2, 0, none⟩) (by simp) _⟩
    clear HX2 HB2
    go_wp2
    have r0 := at_blk HF.out.1 0 (.bool true) rfl
    refine ⟨.bool true, ?_, rfl, HF.out.2⟩
    simp [results, Try.results5, go_sem, r0]
  | true =>
    obtain ⟨hF, hl, hRt, hO⟩ := right5_okL (hr.1 rfl)
    have HG : Hid ((F = 32 ∨ F = 128) ∧ RtR F l ∧ OrdR l) := hidX ⟨hF, hRt, hO⟩
    have hF0 : 0 ≤ F := by omega
    have hF1 : F ≤ 128 := by omega
    clear hr hRt hO hF
    have KF := fitted5_any F 0#128 0 x w2 hF0 hF1
    rw [hI_zero, lI_zero] at KF
    have HRx := hidX (rt_mask F x hF0)
    have t0 := at_blk HX2.out.t 0 (.int .i64 F) rfl
    have t1 := at_blk HX2.out.t 1 (.slice ao l.length c) rfl
    have x0 := at_blk HX2.out.x 0 (.int .u64 (hI x)) rfl
    have x1 := at_blk HX2.out.x 1 (.int .u64 (lI x)) rfl
    revert KF HRx
    generalize (0 : Int) % (F + 1) = m
    generalize cutW 0#128 m = y
    generalize x &&& maskW F = z
    intro KF HRx
    go_wp2_with fail
    refine KF.mono ?_
    rintro e w3 ⟨rfl, hb⟩
    have hX3 := HX2.out.below hb
    have hB3 := keepb hb HB2.out
    clear hb KF t0 t1 x0 x1 HX2 HB2
    have t0 := at_blk hX3.t 0 (.int .i64 F) rfl
    have t1 := at_blk hX3.t 1 (.slice ao l.length c) rfl
    have x0 := at_blk hX3.x 0 (.int .u64 (hI x)) rfl
    have x1 := at_blk hX3.x 1 (.int .u64 (lI x)) rfl
    have g0 := fr_blk5 (j := 0) hX3.x
    have g1 := fr_blk5 (j := 1) hX3.x
    have HX4 : Hid (Gx w.heap.size F (.slice ao l.length c) z false ((w3.setCell ⟨w.heap.size + 1, 0, none⟩ (.int .u64 (hI z))).setCell ⟨w.heap.size + 1, 1, none⟩ (.int .u64 (lI z)))) := hidX (by
      refine ⟨?_, ?_, ?_⟩
      · rw [hSet6 _ (by omega), hSet6 _ (by omega)]; exact hX3.t
      · simpa using set_blk5 (o := 1) (set_blk5 (o := 0) hX3.x (.int .u64 (hI z))) (.int .u64 (lI z))
      · rw [hSet6 _ (by omega), hSet6 _ (by omega)]; exact hX3.o)
    have HB4 : Hid (Below w.heap.size w ((w3.setCell ⟨w.heap.size + 1, 0, none⟩ (.int .u64 (hI z))).setCell ⟨w.heap.size + 1, 1, none⟩ (.int .u64 (lI z)))) := hidX ((hB3.setCell (p := ⟨w.heap.size + 1, 0, none⟩) (by simp) _).setCell (p := ⟨w.heap.size + 1, 1, none⟩) (by simp) _)
    clear hX3 hB3
    go_wp2_with fail
    clear t0 t1 x0 x1 g0 g1
    revert HX4 HB4
    generalize (w3.setCell ⟨w.heap.size + 1, 0, none⟩ (.int .u64 (hI z))).setCell ⟨w.heap.size + 1, 1, none⟩ (.int .u64 (lI z)) = w4
    intro HX4 HB4
    obtain ⟨T, hT⟩ : ∃ T, T = (l.filter (inR z F)).reverse := ⟨_, rfl⟩
    refine (matchT_any F z ao c l w4 hF1 HG.out.2.2 HG.out.2.1 HRx.out (by omega) (HVw.out.below HB4.out) T hT).mono ?_
    rintro e w5 ⟨rfl, hb⟩
    have HLS := hidX (long_spec HG.out.2.2 HG.out.2.1 hT)
    have HTT := hidX hT
    have k1 := bl1 w5 (.cells #[.int .u64 (hI (fstR T).1.1), .int .u64 (lI (fstR T).1.1), .int .i64 (fstR T).1.2, .int .i64 (fstR T).2] 45)
    have k2 := bl1 (w5.alloc (.cells #[.int .u64 (hI (fstR T).1.1), .int .u64 (lI (fstR T).1.1), .int .i64 (fstR T).1.2, .int .i64 (fstR T).2] 45)) (.cells #[.bool (!T.isEmpty)] 4)
    have HX6 := hidX (((HX4.out.below hb).below k1).below k2)
    have HB6 := hidX (keepb k2 (keepb k1 (keepb hb HB4.out)))
    have HM6 : Hid (((w5.alloc (.cells #[.int .u64 (hI (fstR T).1.1), .int .u64 (lI (fstR T).1.1), .int .i64 (fstR T).1.2, .int .i64 (fstR T).2] 45)).alloc (.cells #[.bool (!T.isEmpty)] 4)).heap[w5.heap.size]? = some (.cells #[.int .u64 (hI (fstR T).1.1), .int .u64 (lI (fstR T).1.1), .int .i64 (fstR T).1.2, .int .i64 (fstR T).2] 45)) := hidX ((k2.block _ (by simp)).trans Array.getElem?_push_size)
    have HD6 : Hid (((w5.alloc (.cells #[.int .u64 (hI (fstR T).1.1), .int .u64 (lI (fstR T).1.1), .int .i64 (fstR T).1.2, .int .i64 (fstR T).2] 45)).alloc (.cells #[.bool (!T.isEmpty)] 4)).heap[w5.heap.size + 1]? = some (.cells #[.bool (!T.isEmpty)] 4)) := hidX (by have := World.alloc_heap_new (w5.alloc (.cells #[.int .u64 (hI (fstR T).1.1), .int .u64 (lI (fstR T).1.1), .int .i64 (fstR T).1.2, .int .i64 (fstR T).2] 45)) (.cells #[.bool (!T.isEmpty)] 4); rwa [World.size_alloc] at this)
    have hMS : w.heap.size + 3 ≤ w5.heap.size := (HX4.out.below hb).lt
    clear hb k1 k2 HX4 HB4 hT
    revert HLS HX6 HB6 HM6 HD6
    generalize hmr : fstR T = mr
    generalize hob : (!T.isEmpty) = ob
    intro HLS HX6 HB6 HM6 HD6
    have HMR := hidX hmr
    clear hmr hob
    go_wp2_with fail
    revert HX6 HB6 HM6 HD6
    generalize (w5.alloc (.cells #[.int .u64 (hI mr.1.1), .int .u64 (lI mr.1.1), .int .i64 mr.1.2, .int .i64 mr.2] 45)).alloc (.cells #[.bool ob] 4) = w6
    obtain ⟨M, hM⟩ : ∃ M, M = w5.heap.size := ⟨_, rfl⟩
    rw [← hM] at hMS ⊢
    clear hM
    intro HX6 HB6 HM6 HD6
    have HE : Hid (∀ X, Below w6.heap.size w6 X → Gx w.heap.size F (.slice ao l.length c) z false X ∧ Below w.heap.size w X ∧ X.heap[M]? = some (.cells #[.int .u64 (hI mr.1.1), .int .u64 (lI mr.1.1), .int .i64 mr.1.2, .int .i64 mr.2] 45) ∧ X.heap[M + 1]? = some (.cells #[.bool ob] 4)) := hidX (fun X hX => ⟨HX6.out.below hX, keepb hX HB6.out, (hX.block _ (blk_lt5 HM6.out)).trans HM6.out, (hX.block _ (blk_lt5 HD6.out)).trans HD6.out⟩)
    clear HX6 HB6 HM6 HD6
    go_loopw [7, 8] (fun fv iv wr => ∃ k : Nat, k ≤ l.length ∧ iv = .int .i64 k ∧ fv = .bool ((l.take k).any fun r => hasR r z) ∧ Hid (Below w6.heap.size w6 wr)) (fun _ iv _ => l.length - (intOf iv).toNat)
    case atStart => exact ⟨0, Nat.zero_le _, rfl, rfl, hidX (Below.refl _ _)⟩
    case round =>
      obtain ⟨k, hk, rfl, rfl, HW⟩ := hrel
      obtain ⟨hX, hBw, hM, hD⟩ := HE.out _ HW.out
      have hRw := rowA_rwr (HVw.out.below hBw)
      have t1 := at_blk hX.t 1 (.slice ao l.length c) rfl
      by_cases hkl : k < l.length
      · have hk1 : (k : Int) < (l.length : Int) := by omega
        have hk0 : (0 : Int) ≤ (k : Int) := by omega
        have wk : IntKind.i64.wrap ((k : Int) + 1) = ((k + 1 : Nat) : Int) := by rw [IntKind.wrap_i64]; push_cast; omega
        have HTk : Hid (((l.take (k + 1)).any fun r => hasR r z) = (((l.take k).any fun r => hasR r z) || hasR l[k] z)) := hidX (by rw [List.take_succ_eq_append_getElem hkl, List.any_append]; simp only [List.any_cons, List.any_nil, Bool.or_false])
        have HA := hidX (HLS.out.1 l[k] (List.getElem_mem hkl))
        obtain ⟨ao', c', e, hrow⟩ := hRw
        injection e with e1 e2 e3
        subst e1 e3
        rcases hrow with h | ⟨b, off, rfl, hrow⟩
        · rw [h] at hkl; simp at hkl
        obtain ⟨x0, x1, x2, x3⟩ := rwr_cells hrow k hkl
        have z0 := at_blk hX.x 0 (.int .u64 (hI z)) rfl
        have z1 := at_blk hX.x 1 (.int .u64 (lI z)) rfl
        have q5 := bl1 wr (.cells #[.int .u64 (hI l[k].1.1), .int .u64 (lI l[k].1.1), .int .i64 l[k].1.2, .int .i64 l[k].2] 45)
        have HW5 := hidX (keepb q5 HW.out)
        have KH : ∀ W, Calls Try.prog 19 #[.agg #[.int .u64 (hI l[k].1.1), .int .u64 (lI l[k].1.1), .int .i64 l[k].1.2], .agg #[.int .u64 (hI z), .int .u64 (lI z)]] W fun e w' => e = .returned (.bool (hasR l[k] z)) ∧ Below W.heap.size W w' := fun W => by
          have hr := HG.out.2.1 l[k] (List.getElem_mem hkl)
          have := rhas_any l[k].1.1 l[k].1.2 z W
          rwa [has_eq l[k].1.1 l[k].1.2 z hr.1 (by have := hr.2.1; omega) hr.2.2] at this
        have HR5 : Hid ((wr.alloc (.cells #[.int .u64 (hI l[k].1.1), .int .u64 (lI l[k].1.1), .int .i64 l[k].1.2, .int .i64 l[k].2] 45)).heap[wr.heap.size]? = some (.cells #[.int .u64 (hI l[k].1.1), .int .u64 (lI l[k].1.1), .int .i64 l[k].1.2, .int .i64 l[k].2] 45)) := hidX Array.getElem?_push_size
        have hz5 := (HE.out _ HW5.out).1
        have z2 := at_blk hz5.x 0 (.int .u64 (hI z)) rfl
        have z3 := at_blk hz5.x 1 (.int .u64 (lI z)) rfl
        clear hrow e2 q5 hX hBw hM hD HW hz5
        revert x0 x1 x2 x3 HTk HA KH HR5 HW5 z2 z3
        generalize ((l.take k).any fun r => hasR r z) = fd
        generalize hasR l[k] z = hb
        generalize l[k] = r
        intro HTk HA x0 x1 x2 x3 HW5 KH HR5 z2 z3
        go_wp2_with fail
        clear x0 x1 x2 x3 t1 z0 z1 z2 z3
        revert HW5 HR5
        generalize wr.alloc (.cells #[.int .u64 (hI r.1.1), .int .u64 (lI r.1.1), .int .i64 r.1.2, .int .i64 r.2] 45) = W5
        generalize wr.heap.size = N
        intro HW5 HR5
        refine (KH W5).mono ?_
        rintro e W6 ⟨rfl, hbw⟩
        have HW6 := hidX (keepb hbw HW5.out)
        have HR6 := hidX ((hbw.block _ (blk_lt5 HR5.out)).trans HR5.out)
        clear hbw HW5 HR5 KH
        cases hb with
        | false =>
          rw [Bool.or_false] at HTk
          go_wp2
          go_roundw
          case rel => exact ⟨k + 1, by omega, rfl, by rw [HTk.out], HW6⟩
          case measure => simp [intOf]; omega
        | true =>
          rw [Bool.or_true] at HTk
          obtain ⟨h1, h2, h3⟩ := HA.out rfl
          subst h1
          obtain ⟨-, -, hM, hD⟩ := HE.out _ HW6.out
          have d0 := at_blk hD 0 (.bool true) rfl
          have m2 := at_blk hM 2 (.int .i64 mr.1.2) rfl
          have r2 := at_blk HR6.out 2 (.int .i64 r.1.2) rfl
          have c1 : decide (mr.1.2 < r.1.2) = false := by simp; omega
          have c1' : ¬ mr.1.2 < r.1.2 := by omega
          by_cases c2 : r.1.2 = mr.1.2
          · obtain rfl := h3 c2
            have m0 := at_blk hM 0 (.int .u64 (hI r.1.1)) rfl
            have m1 := at_blk hM 1 (.int .u64 (lI r.1.1)) rfl
            have m3 := at_blk hM 3 (.int .i64 r.2) rfl
            have r0 := at_blk HR6.out 0 (.int .u64 (hI r.1.1)) rfl
            have r1 := at_blk HR6.out 1 (.int .u64 (lI r.1.1)) rfl
            have r3 := at_blk HR6.out 3 (.int .i64 r.2) rfl
            clear hM hD HR6 h2 h3 c2
            go_wp2
            go_roundw
            case rel => exact ⟨k + 1, by omega, rfl, by rw [HTk.out], HW6⟩
            case measure => simp [intOf]; omega
          · have c3 : (r.1.2 == mr.1.2) = false := by simpa using c2
            clear hM hD HR6 h2 h3
            go_wp2
            go_roundw
            case rel => exact ⟨k + 1, by omega, rfl, by rw [HTk.out], HW6⟩
            case measure => simp [intOf]; omega
      · obtain rfl : k = l.length := by omega
        rw [List.take_length]
        have hk1 : ¬ (l.length : Int) < (l.length : Int) := by omega
        have hfd : (l.any fun r => hasR r z) = ob := by
          cases hob : ob with
          | true => exact (HLS.out.2.1 hob).2.1
          | false => exact (HLS.out.2.2 hob).2
        rw [hfd]
        clear hX hBw hM hD hRw hkl hfd
        go_wp2_with fail
        clear t1
        have HS : Hid (∀ X, Below wr.heap.size wr X → Gx w.heap.size F (.slice ao l.length c) z false X ∧ Below w.heap.size w X ∧ X.heap[M]? = some (.cells #[.int .u64 (hI mr.1.1), .int .u64 (lI mr.1.1), .int .i64 mr.1.2, .int .i64 mr.2] 45) ∧ X.heap[M + 1]? = some (.cells #[.bool ob] 4)) := hidX (fun X hX => HE.out X (keepb hX HW.out))
        have HKL : Hid (∀ X, Below wr.heap.size wr X → Calls Try.prog 16 #[.agg #[.int .i64 F, .slice ao l.length c], .agg #[.int .u64 (hI z), .int .u64 (lI z)]] X fun e w' => e = .returned (.int .i64 mr.2) ∧ Below X.heap.size X w') := hidX (fun X hX => by
          have := lookT_any F z ao c l X hF1 HG.out.2.2 HG.out.2.1 HRx.out (by omega) (HVw.out.below (HS.out X hX).2.1) T HTT.out
          rwa [HMR.out] at this)
        have HKH : Hid (ob = true → ∀ W, Calls Try.prog 19 #[.agg #[.int .u64 (hI mr.1.1), .int .u64 (lI mr.1.1), .int .i64 mr.1.2], .agg #[.int .u64 (hI z), .int .u64 (lI z)]] W fun e w' => e = .returned (.bool true) ∧ Below W.heap.size W w') := hidX (fun hob W => by
          obtain ⟨h1, -, -, h2⟩ := HLS.out.2.1 hob
          have hr := HG.out.2.1 mr h2
          have := rhas_any mr.1.1 mr.1.2 z W
          rw [has_eq mr.1.1 mr.1.2 z hr.1 (by have := hr.2.1; omega) hr.2.2, show (cutW z mr.1.2 == mr.1.1) = true from h1] at this
          exact this)
        clear HE HW
        cases ob with
        | true =>
          refine qw_region (C := fun X => Below wr.heap.size wr X) (by kernel_rfl) (by kernel_rfl) (below_drewN (Below.refl _ _) 1) ?_
          refine qw_run (v := .bool true) (by rfl) ?_ ?_
          · (intro w1 hC; clear hC; go_simp; first | done | (simp; done) | (simp [*]; done) | omega | (simp; omega) | rfl)
          simp only [Act.put, List.setIfInBounds_toArray, List.set_cons_zero, List.set_cons_succ]
          refine qw_run (v := .bool true) (by rfl) ?_ ?_
          · (intro w1 hC; have f0 := at_blk (HS.out _ hC).2.2.2 0 (.bool true) rfl; clear hC; go_simp; first | done | (simp; done) | (simp [*]; done) | omega | (simp; omega) | rfl)
          simp only [Act.put, List.setIfInBounds_toArray, List.set_cons_zero, List.set_cons_succ]
          refine qw_run (v := .bool false) (by rfl) ?_ ?_
          · (intro w1 hC; clear hC; go_simp; first | done | (simp; done) | (simp [*]; done) | omega | (simp; omega) | rfl)
          simp only [Act.put, List.setIfInBounds_toArray, List.set_cons_zero, List.set_cons_succ]
          refine qw_run (v := .bool false) (by rfl) ?_ ?_
          · (intro w1 hC; clear hC; go_simp; first | done | (simp; done) | (simp [*]; done) | omega | (simp; omega) | rfl)
          simp only [Act.put, List.setIfInBounds_toArray, List.set_cons_zero, List.set_cons_succ]
          refine qw_run (v := .agg #[.int .i64 F, .slice ao l.length c]) (by rfl) ?_ ?_
          · (intro w1 hC; have f0 := at_blk (HS.out _ hC).1.t 0 (.int .i64 F) rfl; have f1 := at_blk (HS.out _ hC).1.t 1 (.slice ao l.length c) rfl; clear hC; go_simp; first | done | (simp; done) | (simp [*]; done) | omega | (simp; omega) | rfl)
          simp only [Act.put, List.setIfInBounds_toArray, List.set_cons_zero, List.set_cons_succ]
          refine qw_run (v := .agg #[.int .u64 (hI z), .int .u64 (lI z)]) (by rfl) ?_ ?_
          · (intro w1 hC; have f0 := at_blk (HS.out _ hC).1.x 0 (.int .u64 (hI z)) rfl; have f1 := at_blk (HS.out _ hC).1.x 1 (.int .u64 (lI z)) rfl; clear hC; go_simp; first | done | (simp; done) | (simp [*]; done) | omega | (simp; omega) | rfl)
          simp only [Act.put, List.setIfInBounds_toArray, List.set_cons_zero, List.set_cons_succ]
          refine qw_call (v := .int .i64 mr.2) (f := 16) (args := #[.agg #[.int .i64 F, .slice ao l.length c], .agg #[.int .u64 (hI z), .int .u64 (lI z)]]) (by rfl) ?_ ?_ ?_
          · (intro w1 hC; clear hC; go_simp)
          · exact fun w1 hC => (HKL.out w1 hC).mono fun e w' ⟨he, hb⟩ => ⟨he, keepb hb hC⟩
          simp only [Act.put, List.setIfInBounds_toArray, List.set_cons_zero, List.set_cons_succ]
          refine qw_run (v := .pointer (some ⟨M, 3, none⟩)) (by rfl) ?_ ?_
          · (intro w1 hC; clear hC; go_simp; first | done | (simp; done) | (simp [*]; done) | omega | (simp; omega) | rfl)
          simp only [Act.put, List.setIfInBounds_toArray, List.set_cons_zero, List.set_cons_succ]
          refine qw_run (v := .int .i64 mr.2) (by rfl) ?_ ?_
          · (intro w1 hC; have f0 := at_blk (HS.out _ hC).2.2.1 3 (.int .i64 mr.2) rfl; clear hC; go_simp; first | done | (simp; done) | (simp [*]; done) | omega | (simp; omega) | rfl)
          simp only [Act.put, List.setIfInBounds_toArray, List.set_cons_zero, List.set_cons_succ]
          refine qw_run (v := .bool false) (by rfl) ?_ ?_
          · (intro w1 hC; clear hC; go_simp; first | done | (simp; done) | (simp [*]; done) | omega | (simp; omega) | rfl)
          simp only [Act.put, List.setIfInBounds_toArray, List.set_cons_zero, List.set_cons_succ]
          refine qw_run (v := .bool false) (by rfl) ?_ ?_
          · (intro w1 hC; clear hC; go_simp; first | done | (simp; done) | (simp [*]; done) | omega | (simp; omega) | rfl)
          simp only [Act.put, List.setIfInBounds_toArray, List.set_cons_zero, List.set_cons_succ]
          refine qw_run (v := .bool false) (by rfl) ?_ ?_
          · (intro w1 hC; clear hC; go_simp; first | done | (simp; done) | (simp [*]; done) | omega | (simp; omega) | rfl)
          simp only [Act.put, List.setIfInBounds_toArray, List.set_cons_zero, List.set_cons_succ]
          refine qw_run (v := .bool true) (by rfl) ?_ ?_
          · (intro w1 hC; have f0 := at_blk (HS.out _ hC).2.2.2 0 (.bool true) rfl; clear hC; go_simp; first | done | (simp; done) | (simp [*]; done) | omega | (simp; omega) | rfl)
          simp only [Act.put, List.setIfInBounds_toArray, List.set_cons_zero, List.set_cons_succ]
          refine qw_run (v := .bool true) (by rfl) ?_ ?_
          · (intro w1 hC; clear hC; go_simp; first | done | (simp; done) | (simp [*]; done) | omega | (simp; omega) | rfl)
          simp only [Act.put, List.setIfInBounds_toArray, List.set_cons_zero, List.set_cons_succ]
          refine qw_run (v := .pointer (some ⟨M, 0, none⟩)) (by rfl) ?_ ?_
          · (intro w1 hC; clear hC; go_simp; first | done | (simp; done) | (simp [*]; done) | omega | (simp; omega) | rfl)
          simp only [Act.put, List.setIfInBounds_toArray, List.set_cons_zero, List.set_cons_succ]
          refine qw_run (v := .agg #[.int .u64 (hI mr.1.1), .int .u64 (lI mr.1.1), .int .i64 mr.1.2]) (by rfl) ?_ ?_
          · (intro w1 hC; have f0 := at_blk (HS.out _ hC).2.2.1 0 (.int .u64 (hI mr.1.1)) rfl; have f1 := at_blk (HS.out _ hC).2.2.1 1 (.int .u64 (lI mr.1.1)) rfl; have f2 := at_blk (HS.out _ hC).2.2.1 2 (.int .i64 mr.1.2) rfl; clear hC; go_simp; first | done | (simp; done) | (simp [*]; done) | omega | (simp; omega) | rfl)
          simp only [Act.put, List.setIfInBounds_toArray, List.set_cons_zero, List.set_cons_succ]
          refine qw_run (v := .agg #[.int .u64 (hI z), .int .u64 (lI z)]) (by rfl) ?_ ?_
          · (intro w1 hC; have f0 := at_blk (HS.out _ hC).1.x 0 (.int .u64 (hI z)) rfl; have f1 := at_blk (HS.out _ hC).1.x 1 (.int .u64 (lI z)) rfl; clear hC; go_simp; first | done | (simp; done) | (simp [*]; done) | omega | (simp; omega) | rfl)
          simp only [Act.put, List.setIfInBounds_toArray, List.set_cons_zero, List.set_cons_succ]
          refine qw_call (v := .bool true) (f := 19) (args := #[.agg #[.int .u64 (hI mr.1.1), .int .u64 (lI mr.1.1), .int .i64 mr.1.2], .agg #[.int .u64 (hI z), .int .u64 (lI z)]]) (by rfl) ?_ ?_ ?_
          · (intro w1 hC; clear hC; go_simp)
          · exact fun w1 hC => (HKH.out rfl w1).mono fun e w' ⟨he, hb⟩ => ⟨he, keepb hb hC⟩
          simp only [Act.put, List.setIfInBounds_toArray, List.set_cons_zero, List.set_cons_succ]
          refine qw_run (v := .bool false) (by rfl) ?_ ?_
          · (intro w1 hC; clear hC; go_simp; first | done | (simp; done) | (simp [*]; done) | omega | (simp; omega) | rfl)
          simp only [Act.put, List.setIfInBounds_toArray, List.set_cons_zero, List.set_cons_succ]
          refine qw_run (v := .bool false) (by rfl) ?_ ?_
          · (intro w1 hC; clear hC; go_simp; first | done | (simp; done) | (simp [*]; done) | omega | (simp; omega) | rfl)
          simp only [Act.put, List.setIfInBounds_toArray, List.set_cons_zero, List.set_cons_succ]
          refine qw_run (v := .bool false) (by rfl) ?_ ?_
          · (intro w1 hC; clear hC; go_simp; first | done | (simp; done) | (simp [*]; done) | omega | (simp; omega) | rfl)
          simp only [Act.put, List.setIfInBounds_toArray, List.set_cons_zero, List.set_cons_succ]
          refine qw_nil ?_
          intro X9 hC9
          obtain ⟨hX, hBw, hM, hD⟩ := HS.out X9 hC9
          have HX9 := hidX hX
          have HB9 := hidX hBw
          have HM9 := hidX hM
          have HD9 := hidX hD
          have t0 := at_blk hX.t 0 (.int .i64 F) rfl
          have t1 := at_blk hX.t 1 (.slice ao l.length c) rfl
          have z0 := at_blk hX.x 0 (.int .u64 (hI z)) rfl
          have z1 := at_blk hX.x 1 (.int .u64 (lI z)) rfl
          clear hX hBw hM hD hC9 HS HKL HKH
          go_wp2_with fail
          clear t0 t1 z0 z1
          refine (over_any F z F ao c l X9 hF1 HG.out.2.2 HG.out.2.1 HRx.out (by omega) (HVw.out.below HB9.out) T HTT.out).mono ?_
          rintro e Wl ⟨⟨B, v, rfl, hBb, hown⟩, hb⟩
          obtain ⟨ao2, c2, rfl⟩ := own_form hown
          have HX10 := hidX (HX9.out.below hb)
          have HB10 := hidX (keepb hb HB9.out)
          have HM10 := hidX ((hb.block _ (blk_lt5 HM9.out)).trans HM9.out)
          have HD10 := hidX ((hb.block _ (blk_lt5 HD9.out)).trans HD9.out)
          have HBb := hidX hBb
          have HO10 := hidX hown
          have hS9 : w.heap.size + 3 ≤ X9.heap.size := HX9.out.lt
          have hMl : M + 1 < Wl.heap.size := blk_lt5 HD10.out
          have hS10 : w.heap.size + 3 ≤ Wl.heap.size := HX10.out.lt
          have E0 := fun W => seqnilE (some ⟨B, 0, none⟩) W
          have HZ : Hid (∀ q, ZsR ao2 q → X9.heap.size ≤ q ∧ q < Wl.heap.size) := hidX (fun q hq => by
            obtain ⟨b, off, rfl, rfl⟩ := hq
            rcases hown.2 with ⟨e0, _⟩ | ⟨g, cap, cur, e0, _⟩
            · cases e0
            · cases e0
              exact hown.lt _ (by simp [Value.ownBlock]))
          clear hb hBb hown HX9 HB9 HM9 HD9
          go_wp2_with fail
          clear E0
          refine (wpIn_wide (n := 9)).1 ?_
          refine rangeZA 9 (by decide) (gf := 56) (lb := #[.pointer (some ⟨B, 0, none⟩)]) rfl (enters_of Try.func56 (by kernel_rfl) rfl)
            (each1_any (9 - 1) B ao2 c2 T (by rw [HTT.out, List.length_reverse]; exact Nat.le_trans (List.length_filter_le _ _) (by omega)) Wl HBb.out (row_rwr (own_row HO10.out))) (fun q hq => (HZ.out q hq).2) (Below.refl _ _) (fun _ => rfl)
            (fun pre V => (pre = [] ∧ V.heap[w.heap.size + 2]? = some (.cells #[.bool false] 4) ∧ V.heap[M]? = some (.cells #[.int .u64 (hI mr.1.1), .int .u64 (lI mr.1.1), .int .i64 mr.1.2, .int .i64 mr.2] 45) ∧ V.heap[M + 1]? = some (.cells #[.bool true] 4) ∧ Wl.heap.size ≤ V.heap.size) ∧ Below w.heap.size w V)
            (fun cd pre V => (cd = .ret ∧ V.heap[w.heap.size + 2]? = some (.cells #[.bool true] 4)) ∧ Below w.heap.size w V)
            (fun s A B hs hb => ⟨⟨hs.1.1, hb.same _ _ hs.1.2.1 (.inl (by omega)), hb.same _ _ hs.1.2.2.1 (.inl (by omega)), hb.same _ _ hs.1.2.2.2.1 (.inl (by omega)), Nat.le_trans hs.1.2.2.2.2 hb.size⟩, hb.low hs.2 (by omega)⟩)
            (fun cd s A B hs hb => ⟨⟨hs.1.1, hb.same _ _ hs.1.2 (.inl (by omega))⟩, hb.low hs.2 (by omega)⟩)
            ⟨⟨rfl, HX10.out.o, HM10.out, HD10.out, Nat.le_refl _⟩, HB10.out⟩
            (fun _ q => q = w.heap.size + 2)
            (fun s A hs q hq => ⟨by have h1 := blk_lt5 hs.1.2.1; omega, fun h => by have := (HZ.out q h).1; omega⟩)
            (fun s A B hs hg q hq => hq)
            ?AXtrue (fun r N V => Wl.heap.size ≤ N ∧ V.heap[N]? = some (.cells #[.int .u64 (hI r.1.1), .int .u64 (lI r.1.1), .int .i64 r.1.2, .int .i64 r.2] 45))
            (fun r N A o o' hs h1 h2 => by
              obtain ⟨e1, e2⟩ := hs
              refine ⟨e1, ?_⟩
              by_cases cN : N = Wl.heap.size + 1
              · subst cN; rw [h1] at e2; cases e2; cases h2
              · exact (World.putObj_heap_other (by omega)).trans e2) ?assigntrue ?bodytrue ?donetrue ?stoptrue
          case assigntrue =>
            rintro lo pre r V K hi hK
            have hb := bl1 V (.cells #[.int .u64 (hI r.1.1), .int .u64 (lI r.1.1), .int .i64 r.1.2, .int .i64 r.2] 45)
            obtain ⟨N0, hN0⟩ : ∃ N0, N0 = V.heap.size := ⟨_, rfl⟩
            have hN : Wl.heap.size ≤ V.heap.size := hi.1.2.2.2.2
            have HK := hidX (hK N0 (V.alloc (.cells #[.int .u64 (hI r.1.1), .int .u64 (lI r.1.1), .int .i64 r.1.2, .int .i64 r.2] 45)) ⟨hb.size, fun z o h1 h2 _ => (hb.block z (Array.getElem?_eq_some_iff.1 h2).1).trans h2⟩ ⟨hb.size, fun q o hz _ => (hb.block q (blk_lt5 hz)).trans hz, fun q hz => .inl hz⟩ ⟨⟨hi.1.1, (hb.block _ (blk_lt5 hi.1.2.1)).trans hi.1.2.1, (hb.block _ (blk_lt5 hi.1.2.2.1)).trans hi.1.2.2.1, (hb.block _ (blk_lt5 hi.1.2.2.2.1)).trans hi.1.2.2.2.1, Nat.le_trans hN hb.size⟩, keepb hb hi.2⟩ ⟨by omega, by rw [hN0]; exact Array.getElem?_push_size⟩)
            have HN0 := hidX hN0
            clear hK hi hb hN0
            unfold encR
            simp only [List.zip_toArray, List.zip_cons_cons, List.zip_nil_left, List.zip_nil_right, List.foldl_toArray, List.foldl_cons, List.foldl_nil, List.setIfInBounds_toArray, List.set_cons_zero, List.set_cons_succ, Array.zip]
            gi_wp2
            rw [← HN0.out]
            exact HK.out
          case bodytrue =>
            rintro lo pre r N V hl9 - ⟨⟨rfl, hi1, hi2, hi3, -⟩, hi4⟩ ⟨e1, e2⟩ hlt
            obtain ⟨-, -, ⟨t, hT0⟩, -⟩ := HLS.out.2.1 (by first | rfl | trivial)
            have hrm : r = mr := by
              rw [hT0] at hlt
              obtain ⟨t2, ht2⟩ := hlt
              simp at ht2
              exact ht2.1
            subst hrm
            have n0 := at_blk e2 0 (.int .u64 (hI r.1.1)) rfl
            have n1 := at_blk e2 1 (.int .u64 (lI r.1.1)) rfl
            have n2 := at_blk e2 2 (.int .i64 r.1.2) rfl
            have n3 := at_blk e2 3 (.int .i64 r.2) rfl
            have m0 := at_blk hi2 0 (.int .u64 (hI r.1.1)) rfl
            have m1 := at_blk hi2 1 (.int .u64 (lI r.1.1)) rfl
            have m2 := at_blk hi2 2 (.int .i64 r.1.2) rfl
            have m3 := at_blk hi2 3 (.int .i64 r.2) rfl
            have d0 := at_blk hi3 0 (.bool true) rfl
            have o0 := at_blk hi1 0 (.bool false) rfl
            have g0 := fr_blk5 (j := 0) hi1
            have HV : Hid (V.heap[w.heap.size + 2]? = some (.cells #[.bool false] 4) ∧ Below w.heap.size w V) := hidX ⟨hi1, hi4⟩
            clear hi1 hi2 hi3 hi4 e1 e2 hlt hT0
            try dsimp only
            gi_wp2
            refine ⟨⟨by simp, fun q o h1 h2 h3 => (hSet6 _ (by omega)).trans h2⟩, ⟨by simp, fun q o h1 h2 => (hSet6 _ h2).trans h1, fun q hq => .inl hq⟩, ⟨rfl, by simpa using set_blk5 (o := 0) HV.out.1 (.bool true)⟩, HV.out.2.setCell (p := ⟨w.heap.size + 2, 0, none⟩) (by simp) _⟩
          case donetrue =>
            rintro D ys V hD hys ⟨⟨rfl, hi1, hi2, hi3, -⟩, hi4⟩ hK
            obtain ⟨-, -, ⟨t, hT0⟩, -⟩ := HLS.out.2.1 (by first | rfl | trivial)
            rw [hT0] at hys
            cases hys
          case stoptrue =>
            rintro D cd pre V hD hpre ⟨⟨rfl, e2⟩, hi3⟩ hK
            refine (wpIn_wide (n := 9)).2 ?_
            go_wp2
            refine ⟨by simp, .inl ⟨_, _, rfl, run_takeDeferred hK, ?_⟩⟩
            have d2 := (World.putObj_heap_other (w := V) (r := D) (o := .deferred none) (k := w.heap.size + 2) (by omega)).trans e2
            have r0 := at_blk d2 0 (.bool true) rfl
            refine ⟨.bool true, ?_, rfl, hi3.trans (belowK_b (w := w) (Nat.le_refl _) _ D _ _ (by omega) hK rfl rfl)⟩
            simp [results, Try.results5, go_sem, r0]
        | false =>
          refine qw_region (C := fun X => Below wr.heap.size wr X) (by kernel_rfl) (by kernel_rfl) (below_drewN (Below.refl _ _) 1) ?_
          refine qw_run (v := .bool false) (by rfl) ?_ ?_
          · (intro w1 hC; clear hC; go_simp; first | done | (simp; done) | (simp [*]; done) | omega | (simp; omega) | rfl)
          simp only [Act.put, List.setIfInBounds_toArray, List.set_cons_zero, List.set_cons_succ]
          refine qw_run (v := .bool false) (by rfl) ?_ ?_
          · (intro w1 hC; have f0 := at_blk (HS.out _ hC).2.2.2 0 (.bool false) rfl; clear hC; go_simp; first | done | (simp; done) | (simp [*]; done) | omega | (simp; omega) | rfl)
          simp only [Act.put, List.setIfInBounds_toArray, List.set_cons_zero, List.set_cons_succ]
          refine qw_run (v := .bool false) (by rfl) ?_ ?_
          · (intro w1 hC; clear hC; go_simp; first | done | (simp; done) | (simp [*]; done) | omega | (simp; omega) | rfl)
          simp only [Act.put, List.setIfInBounds_toArray, List.set_cons_zero, List.set_cons_succ]
          refine qw_run (v := .bool false) (by rfl) ?_ ?_
          · (intro w1 hC; clear hC; go_simp; first | done | (simp; done) | (simp [*]; done) | omega | (simp; omega) | rfl)
          simp only [Act.put, List.setIfInBounds_toArray, List.set_cons_zero, List.set_cons_succ]
          refine qw_run (v := .agg #[.int .i64 F, .slice ao l.length c]) (by rfl) ?_ ?_
          · (intro w1 hC; have f0 := at_blk (HS.out _ hC).1.t 0 (.int .i64 F) rfl; have f1 := at_blk (HS.out _ hC).1.t 1 (.slice ao l.length c) rfl; clear hC; go_simp; first | done | (simp; done) | (simp [*]; done) | omega | (simp; omega) | rfl)
          simp only [Act.put, List.setIfInBounds_toArray, List.set_cons_zero, List.set_cons_succ]
          refine qw_run (v := .agg #[.int .u64 (hI z), .int .u64 (lI z)]) (by rfl) ?_ ?_
          · (intro w1 hC; have f0 := at_blk (HS.out _ hC).1.x 0 (.int .u64 (hI z)) rfl; have f1 := at_blk (HS.out _ hC).1.x 1 (.int .u64 (lI z)) rfl; clear hC; go_simp; first | done | (simp; done) | (simp [*]; done) | omega | (simp; omega) | rfl)
          simp only [Act.put, List.setIfInBounds_toArray, List.set_cons_zero, List.set_cons_succ]
          refine qw_call (v := .int .i64 mr.2) (f := 16) (args := #[.agg #[.int .i64 F, .slice ao l.length c], .agg #[.int .u64 (hI z), .int .u64 (lI z)]]) (by rfl) ?_ ?_ ?_
          · (intro w1 hC; clear hC; go_simp)
          · exact fun w1 hC => (HKL.out w1 hC).mono fun e w' ⟨he, hb⟩ => ⟨he, keepb hb hC⟩
          simp only [Act.put, List.setIfInBounds_toArray, List.set_cons_zero, List.set_cons_succ]
          refine qw_run (v := .pointer (some ⟨M, 3, none⟩)) (by rfl) ?_ ?_
          · (intro w1 hC; clear hC; go_simp; first | done | (simp; done) | (simp [*]; done) | omega | (simp; omega) | rfl)
          simp only [Act.put, List.setIfInBounds_toArray, List.set_cons_zero, List.set_cons_succ]
          refine qw_run (v := .int .i64 mr.2) (by rfl) ?_ ?_
          · (intro w1 hC; have f0 := at_blk (HS.out _ hC).2.2.1 3 (.int .i64 mr.2) rfl; clear hC; go_simp; first | done | (simp; done) | (simp [*]; done) | omega | (simp; omega) | rfl)
          simp only [Act.put, List.setIfInBounds_toArray, List.set_cons_zero, List.set_cons_succ]
          refine qw_run (v := .bool false) (by rfl) ?_ ?_
          · (intro w1 hC; clear hC; go_simp; first | done | (simp; done) | (simp [*]; done) | omega | (simp; omega) | rfl)
          simp only [Act.put, List.setIfInBounds_toArray, List.set_cons_zero, List.set_cons_succ]
          refine qw_run (v := .bool false) (by rfl) ?_ ?_
          · (intro w1 hC; clear hC; go_simp; first | done | (simp; done) | (simp [*]; done) | omega | (simp; omega) | rfl)
          simp only [Act.put, List.setIfInBounds_toArray, List.set_cons_zero, List.set_cons_succ]
          refine qw_run (v := .bool false) (by rfl) ?_ ?_
          · (intro w1 hC; clear hC; go_simp; first | done | (simp; done) | (simp [*]; done) | omega | (simp; omega) | rfl)
          simp only [Act.put, List.setIfInBounds_toArray, List.set_cons_zero, List.set_cons_succ]
          refine qw_run (v := .bool false) (by rfl) ?_ ?_
          · (intro w1 hC; have f0 := at_blk (HS.out _ hC).2.2.2 0 (.bool false) rfl; clear hC; go_simp; first | done | (simp; done) | (simp [*]; done) | omega | (simp; omega) | rfl)
          simp only [Act.put, List.setIfInBounds_toArray, List.set_cons_zero, List.set_cons_succ]
          refine qw_run (v := .bool false) (by rfl) ?_ ?_
          · (intro w1 hC; clear hC; go_simp; first | done | (simp; done) | (simp [*]; done) | omega | (simp; omega) | rfl)
          simp only [Act.put, List.setIfInBounds_toArray, List.set_cons_zero, List.set_cons_succ]
          refine qw_skip (by rfl) ?_
          simp only [Act.put, List.setIfInBounds_toArray, List.set_cons_zero, List.set_cons_succ]
          refine qw_skip (by rfl) ?_
          simp only [Act.put, List.setIfInBounds_toArray, List.set_cons_zero, List.set_cons_succ]
          refine qw_skip (by rfl) ?_
          simp only [Act.put, List.setIfInBounds_toArray, List.set_cons_zero, List.set_cons_succ]
          refine qw_skip (by rfl) ?_
          simp only [Act.put, List.setIfInBounds_toArray, List.set_cons_zero, List.set_cons_succ]
          refine qw_skip (by rfl) ?_
          simp only [Act.put, List.setIfInBounds_toArray, List.set_cons_zero, List.set_cons_succ]
          refine qw_run (v := .bool false) (by rfl) ?_ ?_
          · (intro w1 hC; clear hC; go_simp; first | done | (simp; done) | (simp [*]; done) | omega | (simp; omega) | rfl)
          simp only [Act.put, List.setIfInBounds_toArray, List.set_cons_zero, List.set_cons_succ]
          refine qw_run (v := .bool false) (by rfl) ?_ ?_
          · (intro w1 hC; clear hC; go_simp; first | done | (simp; done) | (simp [*]; done) | omega | (simp; omega) | rfl)
          simp only [Act.put, List.setIfInBounds_toArray, List.set_cons_zero, List.set_cons_succ]
          refine qw_nil ?_
          intro X9 hC9
          obtain ⟨hX, hBw, hM, hD⟩ := HS.out X9 hC9
          have HX9 := hidX hX
          have HB9 := hidX hBw
          have HM9 := hidX hM
          have HD9 := hidX hD
          have t0 := at_blk hX.t 0 (.int .i64 F) rfl
          have t1 := at_blk hX.t 1 (.slice ao l.length c) rfl
          have z0 := at_blk hX.x 0 (.int .u64 (hI z)) rfl
          have z1 := at_blk hX.x 1 (.int .u64 (lI z)) rfl
          clear hX hBw hM hD hC9 HS HKL HKH
          go_wp2_with fail
          clear t0 t1 z0 z1
          refine (over_any F z F ao c l X9 hF1 HG.out.2.2 HG.out.2.1 HRx.out (by omega) (HVw.out.below HB9.out) T HTT.out).mono ?_
          rintro e Wl ⟨⟨B, v, rfl, hBb, hown⟩, hb⟩
          obtain ⟨ao2, c2, rfl⟩ := own_form hown
          have HX10 := hidX (HX9.out.below hb)
          have HB10 := hidX (keepb hb HB9.out)
          have HM10 := hidX ((hb.block _ (blk_lt5 HM9.out)).trans HM9.out)
          have HD10 := hidX ((hb.block _ (blk_lt5 HD9.out)).trans HD9.out)
          have HBb := hidX hBb
          have HO10 := hidX hown
          have hS9 : w.heap.size + 3 ≤ X9.heap.size := HX9.out.lt
          have hMl : M + 1 < Wl.heap.size := blk_lt5 HD10.out
          have hS10 : w.heap.size + 3 ≤ Wl.heap.size := HX10.out.lt
          have E0 := fun W => seqnilE (some ⟨B, 0, none⟩) W
          have HZ : Hid (∀ q, ZsR ao2 q → X9.heap.size ≤ q ∧ q < Wl.heap.size) := hidX (fun q hq => by
            obtain ⟨b, off, rfl, rfl⟩ := hq
            rcases hown.2 with ⟨e0, _⟩ | ⟨g, cap, cur, e0, _⟩
            · cases e0
            · cases e0
              exact hown.lt _ (by simp [Value.ownBlock]))
          clear hb hBb hown HX9 HB9 HM9 HD9
          go_wp2_with fail
          clear E0
          refine (wpIn_wide (n := 9)).1 ?_
          refine rangeZA 9 (by decide) (gf := 56) (lb := #[.pointer (some ⟨B, 0, none⟩)]) rfl (enters_of Try.func56 (by kernel_rfl) rfl)
            (each1_any (9 - 1) B ao2 c2 T (by rw [HTT.out, List.length_reverse]; exact Nat.le_trans (List.length_filter_le _ _) (by omega)) Wl HBb.out (row_rwr (own_row HO10.out))) (fun q hq => (HZ.out q hq).2) (Below.refl _ _) (fun _ => rfl)
            (fun pre V => (pre = [] ∧ V.heap[w.heap.size + 2]? = some (.cells #[.bool false] 4) ∧ V.heap[M]? = some (.cells #[.int .u64 (hI mr.1.1), .int .u64 (lI mr.1.1), .int .i64 mr.1.2, .int .i64 mr.2] 45) ∧ V.heap[M + 1]? = some (.cells #[.bool false] 4) ∧ Wl.heap.size ≤ V.heap.size) ∧ Below w.heap.size w V)
            (fun cd pre V => (cd = .ret ∧ V.heap[w.heap.size + 2]? = some (.cells #[.bool true] 4)) ∧ Below w.heap.size w V)
            (fun s A B hs hb => ⟨⟨hs.1.1, hb.same _ _ hs.1.2.1 (.inl (by omega)), hb.same _ _ hs.1.2.2.1 (.inl (by omega)), hb.same _ _ hs.1.2.2.2.1 (.inl (by omega)), Nat.le_trans hs.1.2.2.2.2 hb.size⟩, hb.low hs.2 (by omega)⟩)
            (fun cd s A B hs hb => ⟨⟨hs.1.1, hb.same _ _ hs.1.2 (.inl (by omega))⟩, hb.low hs.2 (by omega)⟩)
            ⟨⟨rfl, HX10.out.o, HM10.out, HD10.out, Nat.le_refl _⟩, HB10.out⟩
            (fun _ q => q = w.heap.size + 2)
            (fun s A hs q hq => ⟨by have h1 := blk_lt5 hs.1.2.1; omega, fun h => by have := (HZ.out q h).1; omega⟩)
            (fun s A B hs hg q hq => hq)
            ?AXfalse (fun r N V => Wl.heap.size ≤ N ∧ V.heap[N]? = some (.cells #[.int .u64 (hI r.1.1), .int .u64 (lI r.1.1), .int .i64 r.1.2, .int .i64 r.2] 45))
            (fun r N A o o' hs h1 h2 => by
              obtain ⟨e1, e2⟩ := hs
              refine ⟨e1, ?_⟩
              by_cases cN : N = Wl.heap.size + 1
              · subst cN; rw [h1] at e2; cases e2; cases h2
              · exact (World.putObj_heap_other (by omega)).trans e2) ?assignfalse ?bodyfalse ?donefalse ?stopfalse
          case assignfalse =>
            rintro lo pre r V K hi hK
            have hb := bl1 V (.cells #[.int .u64 (hI r.1.1), .int .u64 (lI r.1.1), .int .i64 r.1.2, .int .i64 r.2] 45)
            obtain ⟨N0, hN0⟩ : ∃ N0, N0 = V.heap.size := ⟨_, rfl⟩
            have hN : Wl.heap.size ≤ V.heap.size := hi.1.2.2.2.2
            have HK := hidX (hK N0 (V.alloc (.cells #[.int .u64 (hI r.1.1), .int .u64 (lI r.1.1), .int .i64 r.1.2, .int .i64 r.2] 45)) ⟨hb.size, fun z o h1 h2 _ => (hb.block z (Array.getElem?_eq_some_iff.1 h2).1).trans h2⟩ ⟨hb.size, fun q o hz _ => (hb.block q (blk_lt5 hz)).trans hz, fun q hz => .inl hz⟩ ⟨⟨hi.1.1, (hb.block _ (blk_lt5 hi.1.2.1)).trans hi.1.2.1, (hb.block _ (blk_lt5 hi.1.2.2.1)).trans hi.1.2.2.1, (hb.block _ (blk_lt5 hi.1.2.2.2.1)).trans hi.1.2.2.2.1, Nat.le_trans hN hb.size⟩, keepb hb hi.2⟩ ⟨by omega, by rw [hN0]; exact Array.getElem?_push_size⟩)
            have HN0 := hidX hN0
            clear hK hi hb hN0
            unfold encR
            simp only [List.zip_toArray, List.zip_cons_cons, List.zip_nil_left, List.zip_nil_right, List.foldl_toArray, List.foldl_cons, List.foldl_nil, List.setIfInBounds_toArray, List.set_cons_zero, List.set_cons_succ, Array.zip]
            gi_wp2
            rw [← HN0.out]
            exact HK.out
          case bodyfalse =>
            rintro lo pre r N V hl9 - ⟨⟨rfl, hi1, hi2, hi3, -⟩, hi4⟩ ⟨e1, e2⟩ hlt
            have hT0 := (HLS.out.2.2 (by first | rfl | trivial)).1
            rw [hT0] at hlt
            obtain ⟨t2, ht2⟩ := hlt
            simp at ht2
          case donefalse =>
            rintro D ys V hD hys ⟨⟨rfl, hi1, hi2, hi3, -⟩, hi4⟩ hK
            have d0 := at_blk hi3 0 (.bool false) rfl
            have o0 := at_blk hi1 0 (.bool false) rfl
            have g0 := fr_blk5 (j := 0) hi1
            have HV : Hid ((V.setCell ⟨w.heap.size + 2, 0, none⟩ (.bool true)).heap[w.heap.size + 2]? = some (.cells #[.bool true] 4) ∧ (V.setCell ⟨w.heap.size + 2, 0, none⟩ (.bool true)).heap[D]? = some (.deferred (some [])) ∧ Below w.heap.size w (V.setCell ⟨w.heap.size + 2, 0, none⟩ (.bool true))) := hidX ⟨by simpa using set_blk5 (o := 0) hi1 (.bool true), (hSet6 _ (by omega)).trans hK, hi4.setCell (p := ⟨w.heap.size + 2, 0, none⟩) (by simp) _⟩
            clear hi1 hi2 hi3 hi4 hK
            refine wl_nilM (P := Try.prog) (ops := #[]) ?_
            go_wp2
            obtain ⟨m1, m3, m4⟩ := HV.out
            refine ⟨by simp, .inl ⟨_, _, rfl, run_takeDeferred m3, ?_⟩⟩
            have d2 := (World.putObj_heap_other (r := D) (o := .deferred none) (k := w.heap.size + 2) (by omega)).trans m1
            have r0 := at_blk d2 0 (.bool true) rfl
            refine ⟨.bool true, ?_, rfl, m4.trans (belowK_b (w := w) (Nat.le_refl _) _ D _ _ (by omega) m3 rfl rfl)⟩
            simp [results, Try.results5, go_sem, r0]
          case stopfalse =>
            rintro D cd pre V hD hpre ⟨⟨rfl, e2⟩, hi3⟩ hK
            refine (wpIn_wide (n := 9)).2 ?_
            go_wp2
            refine ⟨by simp, .inl ⟨_, _, rfl, run_takeDeferred hK, ?_⟩⟩
            have d2 := (World.putObj_heap_other (w := V) (r := D) (o := .deferred none) (k := w.heap.size + 2) (by omega)).trans e2
            have r0 := at_blk d2 0 (.bool true) rfl
            refine ⟨.bool true, ?_, rfl, hi3.trans (belowK_b (w := w) (Nat.le_refl _) _ D _ _ (by omega) hK rfl rfl)⟩
            simp [results, Try.results5, go_sem, r0]
end Go.Proofs.Ytnaghiipfgdimaa
