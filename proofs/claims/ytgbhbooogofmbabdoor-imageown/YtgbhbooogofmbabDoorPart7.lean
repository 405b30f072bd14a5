/-
  Part 7 of the proof: 4 texts, one behind the other.
-/
import Derived.Test.YtgbhbooogofmbabDoorPart6
import Derived.Test.YtgbhbooogofmbabDoorPart4
import Derived.Test.YtgbhbooogofmbabDoorPart3
namespace Go.Proofs.YtgbhbooogofmbabDoor
open Go.RowKit
set_option linter.unusedSimpArgs false
set_option linter.unusedVariables false

set_option maxRecDepth 20000 in
set_option maxHeartbeats 8000000 in
theorem code_any17 (W D S : Int) (n b off c : Nat) (l : List Nat) (hn : n ≤ 1048572) (hc : l.length ≤ c) (h16 : 16 + 4 * n ≤ l.length) (w : World) :
    Calls Tryd.prog 19 #[.agg #[.int .i64 W, .int .i64 D, .int .i64 S, .int .i64 (n : Int), .slice (some ⟨b, off, none⟩) l.length c]] w fun e w' => e = .returned (cdV b off c (4 * n)) ∧ Below w.heap.size w w' := by
  obtain ⟨i0, hi, hz0, hz1, hz2⟩ := info13 Tryd.infoB13
  have HX := hid13 (bx_new (t := 45) (Below.refl w.heap.size w) #[.int .i64 W, .int .i64 D, .int .i64 S, .int .i64 (n : Int), .slice (some ⟨b, off, none⟩) l.length c]).drew
  have HS : Hid (∀ X, Sem.run Tryd.prog (Instr.sliceAt 22 (.slice (some ⟨b, off, none⟩) l.length c) (some (.int .i64 16)) (some (.int .i64 (16 + (n : Int) * 4))) none) X = .ok (cdV b off c (4 * n)) X) := hid13 (fun X => by
    have := slice_mid17 (P := Tryd.prog) (w := X) Tryd.underlying22 hi hz1 (some ⟨b, off, none⟩) l.length c 16 (16 + n * 4) (by omega) (by omega)
    rw [show ((16 + n * 4 : Nat) : Int) = 16 + (n : Int) * 4 by push_cast; rfl, show 16 + n * 4 - 16 = 4 * n by omega] at this
    exact this)
  have KZ := fun X => hsize_any W D S (n : Int) (by omega) (by omega) X
  generalize cdV b off c (4 * n) = Z at *
  clear hn hc h16 hi hz0 hz1 hz2
  go_enter Tryd.func19, Tryd.ntmps19
  go_wp2_with fail
  refine qw_region (C := Bx w w.heap.size [.int .i64 W, .int .i64 D, .int .i64 S, .int .i64 (n : Int), .slice (some ⟨b, off, none⟩) l.length c]) (by kernel_rfl) (by kernel_rfl) HX.out ?_
  clear HX
  refine qw_run (v := .pointer (some ⟨w.heap.size, 4, none⟩)) (by rfl) ?_ ?_
  · (intro w9 hC; clear hC; go_simp; first | done | (simp; done) | (simp [*]; done) | omega | (simp; omega) | (rw [IntKind.wrap_i64]; omega) | (intro hx; omega) | rfl)
  simp only [Act.put, List.setIfInBounds_toArray, List.set_cons_zero, List.set_cons_succ]
  refine qw_run (v := .slice (some ⟨b, off, none⟩) l.length c) (by rfl) ?_ ?_
  · (intro w9 hC; have h0 := hC.2 0 _ rfl; have h1 := hC.2 1 _ rfl; have h2 := hC.2 2 _ rfl; have h3 := hC.2 3 _ rfl; have h4 := hC.2 4 _ rfl; clear hC; go_simp; first | done | (simp; done) | (simp [*]; done) | omega | (simp; omega) | (rw [IntKind.wrap_i64]; omega) | (intro hx; omega) | rfl)
  simp only [Act.put, List.setIfInBounds_toArray, List.set_cons_zero, List.set_cons_succ]
  refine qw_run (v := .pointer (some ⟨w.heap.size, 0, none⟩)) (by rfl) ?_ ?_
  · (intro w9 hC; clear hC; go_simp; first | done | (simp; done) | (simp [*]; done) | omega | (simp; omega) | (rw [IntKind.wrap_i64]; omega) | (intro hx; omega) | rfl)
  simp only [Act.put, List.setIfInBounds_toArray, List.set_cons_zero, List.set_cons_succ]
  refine qw_run (v := .agg #[.int .i64 W, .int .i64 D, .int .i64 S, .int .i64 (n : Int)]) (by rfl) ?_ ?_
  · (intro w9 hC; have h0 := hC.2 0 _ rfl; have h1 := hC.2 1 _ rfl; have h2 := hC.2 2 _ rfl; have h3 := hC.2 3 _ rfl; have h4 := hC.2 4 _ rfl; clear hC; go_simp; first | done | (simp; done) | (simp [*]; done) | omega | (simp; omega) | (rw [IntKind.wrap_i64]; omega) | (intro hx; omega) | rfl)
  simp only [Act.put, List.setIfInBounds_toArray, List.set_cons_zero, List.set_cons_succ]
  refine qw_call (v := .int .i64 (16 + (n : Int) * 4)) (f := 30) (args := #[.agg #[.int .i64 W, .int .i64 D, .int .i64 S, .int .i64 (n : Int)]]) (by rfl) ?_ ?_ ?_
  · (intro w9 hC; clear hC; go_simp; first | done | (simp; done) | rfl)
  · exact fun w9 hC => (KZ w9).mono fun e w' ⟨he, hb⟩ => ⟨he, hC.keep hb⟩
  simp only [Act.put, List.setIfInBounds_toArray, List.set_cons_zero, List.set_cons_succ]
  refine qw_run (v := Z) (by rfl) ?_ ?_
  · (intro w9 hC; clear hC; exact ex17 (HS.out w9))
  simp only [Act.put, List.setIfInBounds_toArray, List.set_cons_zero, List.set_cons_succ]
  refine qw_run (v := Z) (by rfl) ?_ ?_
  · (intro w9 hC; clear hC; go_simp; first | done | (simp; done) | (simp [*]; done) | omega | (simp; omega) | (rw [IntKind.wrap_i64]; omega) | (intro hx; omega) | rfl)
  simp only [Act.put, List.setIfInBounds_toArray, List.set_cons_zero, List.set_cons_succ]
  refine qw_nil ?_
  intro w8 hX
  have HB := hid13 hX.1
  clear hX
  go_wp2
  exact bodyPost_ret (v := Z) (by simp [results, Tryd.results19, go_sem]) rfl ⟨rfl, HB.out⟩
def smB (l : List Nat) (z : BitVec 32) : Bool := numN13 ((l.drop 12).take 4) == (hbN (8 * (4 * rN l)) (crS (l.take 12)) ^^^ z).toNat
set_option maxRecDepth 20000 in
set_option maxHeartbeats 8000000 in
theorem sumIsOf_any (W D S : Int) (n b off c : Nat) (l : List Nat) (z : BitVec 32) (hn : n ≤ 1048572) (hc : l.length ≤ c) (h16 : 16 ≤ l.length) (hl : l.length ≤ 140737488000000) (hx : ∀ b ∈ l, b < 256) (w : World) (hcell : ∀ j x : Nat, l[j]? = some x → w.cell? ⟨b, off + j, none⟩ = some (.int .u8 (x : Int))) (hT : Hf w) (hrn : rN l = n) :
    Calls Tryd.prog 18 #[.agg #[.int .i64 W, .int .i64 D, .int .i64 S, .int .i64 (n : Int), .slice (some ⟨b, off, none⟩) l.length c], .int .u32 (uI z)] w fun e w' => e = .returned (.bool (smB l z)) ∧ Below w.heap.size w w' := by
  obtain ⟨i0, hi, hz0, hz1, hz2⟩ := info13 Tryd.infoB13
  have hvw : RwX cB w (.slice (some ⟨b, off, none⟩) l.length c) l := ⟨_, _, rfl, hc, .inr ⟨b, off, rfl, hcell⟩⟩
  have hX := bx_new (t := 45) (Below.refl w.heap.size w) #[.int .i64 W, .int .i64 D, .int .i64 S, .int .i64 (n : Int), .slice (some ⟨b, off, none⟩) l.length c]
  have hsaid : gtN l 12 4 = numN13 ((l.drop 12).take 4) := gt_take (k := 12) (m := 4) (by omega)
  have hsl : numN13 ((l.drop 12).take 4) < 4294967296 := Nat.lt_of_lt_of_le (numN_lt _ (fun b hb => hx b (List.mem_of_mem_drop (List.mem_of_mem_take hb)))) (Nat.le_trans (Nat.pow_le_pow_right (by decide) (by rw [List.length_take]; exact Nat.min_le_left _ _)) (by decide))
  have K1 := get32_any (.slice (some ⟨b, off, none⟩) l.length c) l 12 (w.alloc (.cells #[.int .i64 W, .int .i64 D, .int .i64 S, .int .i64 (n : Int), .slice (some ⟨b, off, none⟩) l.length c] 45)) (hvw.below (hX.1)) (by omega) hx (by decide) (by decide)
  obtain ⟨said, hsd⟩ : ∃ s : Int, s = ((gtN l 12 4 : Nat) : Int) := ⟨_, rfl⟩
  rw [← hsd] at K1
  have HRes : Hid ((said == uI (hbN (8 * (4 * n)) (crS (l.take 12)) ^^^ z)) = smB l z) := by
    show _ = _
    unfold smB
    rw [hsd, hsaid, uI_eq, hrn]
    rw [Bool.eq_iff_iff]
    simp
    omega
  have HS : Hid (∀ X, Sem.run Tryd.prog (Instr.sliceAt 22 (.slice (some ⟨b, off, none⟩) l.length c) none (some (.int .i64 12)) none) X = .ok (.slice (some ⟨b, off, none⟩) 12 c) X) := hid13 (fun X => run_slice_to (P := Tryd.prog) (w := X) Tryd.underlying22 hi (some ⟨b, off, none⟩) l.length c 12 (by omega))
  have KZ : Hid (∀ X, Calls Tryd.prog 30 #[.agg #[.int .i64 W, .int .i64 D, .int .i64 S, .int .i64 (n : Int)]] X fun e w' => e = .returned (.int .i64 (16 + (n : Int) * 4)) ∧ Below X.heap.size X w') := hid13 (fun X => hsize_any W D S (n : Int) (by omega) (by omega) X)
  have KU : Hid (∀ (X : World) (N : Nat), Below w.heap.size w X → X.cell? ⟨N, 0, none⟩ = some (.slice (some ⟨b, off, none⟩) 12 c) → Calls Tryd.prog 16 #[.slice (some ⟨N, 0, none⟩) 1 1] X fun e w' => e = .returned (.int .u32 (uI (crS (l.take 12)))) ∧ w' = X) := hid13 (fun X N hB hc => by
    have h : RwX cB X (.slice (some ⟨b, off, none⟩) l.length c) (l.take 12 ++ l.drop 12) := by rw [List.take_append_drop]; exact hvw.below hB
    have h2 := rwx_take h
    have h12 : (l.take 12).length = 12 := by rw [List.length_take]; omega
    rw [h12] at h2
    exact sum_one hc h2 (by rw [h12]; decide) (fun b hb => hx b (List.mem_of_mem_take hb)) (hT.below hB))
  have KJ : Hid (∀ X, Calls Tryd.prog 32 #[.int .u32 (uI (crS (l.take 12))), .int .u32 (uI z), .int .i64 ((n : Int) * 4)] X fun e w' => e = .returned (.int .u32 (uI (hbN (8 * (4 * n)) (crS (l.take 12)) ^^^ z))) ∧ w' = X) := hid13 (fun X => by
    have := joined_any (crS (l.take 12)) z ((n : Int) * 4) (by omega) (by omega) X
    rw [show ((n : Int) * 4).toNat = 4 * n by omega] at this
    exact this)
  have hm : IntKind.i64.wrap (16 + (n : Int) * 4 - 16) = (n : Int) * 4 := by rw [IntKind.wrap_i64]; omega
  generalize uI (crS (l.take 12)) = s12 at *
  generalize uI (hbN (8 * (4 * n)) (crS (l.take 12)) ^^^ z) = sj at *
  generalize uI z = sz at *
  generalize smB l z = res at *
  generalize gtE l 12 4 = y4 at *
  have HX := hid13 hX
  have hwn : wrap64 (n : Int) = (n : Int) := by unfold wrap64; omega
  clear hn hc h16 hi hz0 hz1 hz2 hl hx hcell hT hrn hvw hX hsaid hsl hsd
  go_enter Tryd.func18, Tryd.ntmps18
  go_wp2_with fail
  refine K1.mono ?_
  rintro e1 w1 ⟨rfl, hb1⟩
  have HX1 := hid13 (HX.out.keep hb1)
  clear K1 hb1 HX
  go_wp2_with fail
  refine gh_region (γ := Nat) (qpOk 14 14 (by decide) (fun N => by kernel_rfl) (by kernel_rfl) (by kernel_rfl) (by kernel_rfl) (by kernel_rfl)) (by kernel_rfl) (by kernel_rfl) [some 13, some 14, some 15, some 16, some 17, some 18, some 19, some 20, some 21, some 22, some 23, some 24, some 25, some 4] (fun g => [.int .u32 said, .pointer (some ⟨w.heap.size, 4, none⟩), .slice (some ⟨b, off, none⟩) l.length c, .slice (some ⟨b, off, none⟩) 12 c, .slice (some ⟨g, 0, none⟩) 1 1, .int .u32 s12, .int .u32 sz, .pointer (some ⟨w.heap.size, 0, none⟩), .agg #[.int .i64 W, .int .i64 D, .int .i64 S, .int .i64 (n : Int)], .int .i64 (16 + (n : Int) * 4), .int .i64 ((n : Int) * 4), .int .u32 sj, .bool (said == sj), .bool (said == sj)]) (by kernel_rfl) (by simp) (fun lp g X => Bx w w.heap.size [.int .i64 W, .int .i64 D, .int .i64 S, .int .i64 (n : Int), .slice (some ⟨b, off, none⟩) l.length c] X ∧ (lp.getD 4 false = true → X.cell? ⟨g, 0, none⟩ = some (.slice (some ⟨b, off, none⟩) 12 c))) 0 ⟨HX1.out.drew, fun h => (by simp at h)⟩ ?step0 ?fin0
  case step0 =>
    intro q o lp g w' a' ho hsz hun hdep hR hS K Q' hK
    have hfl : ∀ j, j ≠ q → (lp.setIfInBounds q true).getD j false = lp.getD j false := fun j hj => by rw [Array.getD_eq_getD_getElem?, Array.getD_eq_getD_getElem?, Array.getElem?_setIfInBounds_ne (by omega)]
    have hq : q < 14 := (List.getElem?_eq_some_iff.mp ho).1
    match q, ho, hun, hdep, hK, hfl, hq with
    | 0, ho, hun, hdep, hK, hfl, _ =>
      obtain rfl := Option.some.inj ho
      have o5 : a'.tmps[5]? = some (.int .u32 said) := (hS.old14 5 (by simp)).trans rfl
      have hK' := hK g w' (fun _ _ _ _ _ _ => rfl) (by rw [hfl 4 (by decide)]; exact hR) (.int .u32 said) (by simp only [valO, Option.bind_some]; (try simp only [putAll, Act.put, List.setIfInBounds_toArray, List.set_cons_zero, List.set_cons_succ]); (try rfl))
      clear hS hdep hR
      refine gh_quiet14 (v := .int .u32 said) ?_ ?_
      · (simp only [execOp, Act.eval, o5]; go_simp; first | done | (simp; done) | (simp [*]; done) | omega | (rw [IntKind.wrap_i64]; omega))
      · exact hK'
    | 1, ho, hun, hdep, hK, hfl, _ =>
      obtain rfl := Option.some.inj ho
      have o2 : a'.tmps[2]? = some (.pointer (some ⟨w.heap.size, 0, none⟩)) := (hS.old14 2 (by simp)).trans rfl
      have hK' := hK g w' (fun _ _ _ _ _ _ => rfl) (by rw [hfl 4 (by decide)]; exact hR) (.pointer (some ⟨w.heap.size, 4, none⟩)) (by simp only [valO, Option.bind_some]; (try simp only [putAll, Act.put, List.setIfInBounds_toArray, List.set_cons_zero, List.set_cons_succ]); (try rfl))
      clear hS hdep hR
      refine gh_quiet14 (v := .pointer (some ⟨w.heap.size, 4, none⟩)) ?_ ?_
      · (simp only [execOp, Act.eval, o2]; go_simp; first | done | (simp; done) | (simp [*]; done) | omega | (rw [IntKind.wrap_i64]; omega))
      · exact hK'
    | 2, ho, hun, hdep, hK, hfl, _ =>
      obtain rfl := Option.some.inj ho
      have d1 : lp.getD 1 false = true := hdep { on := 1, ground := .data } (by simp) rfl
      have e14 : a'.tmps[14]? = some (.pointer (some ⟨w.heap.size, 4, none⟩)) := (hS.don 1 _ 14 rfl d1 rfl).trans (by simp only [putAll, Act.put, List.setIfInBounds_toArray, List.set_cons_zero, List.set_cons_succ]; rfl)
      have k4 := hR.1.2 4 _ rfl
      have hK' := hK g w' (fun _ _ _ _ _ _ => rfl) (by rw [hfl 4 (by decide)]; exact hR) (.slice (some ⟨b, off, none⟩) l.length c) (by simp only [valO, Option.bind_some]; (try simp only [putAll, Act.put, List.setIfInBounds_toArray, List.set_cons_zero, List.set_cons_succ]); (try rfl))
      clear hS hdep hR
      refine gh_quiet14 (v := .slice (some ⟨b, off, none⟩) l.length c) ?_ ?_
      · (simp only [execOp, Act.eval, e14]; go_simp; first | done | (simp; done) | (simp [*]; done) | omega | (rw [IntKind.wrap_i64]; omega))
      · exact hK'
    | 3, ho, hun, hdep, hK, hfl, _ =>
      obtain rfl := Option.some.inj ho
      have d2 : lp.getD 2 false = true := hdep { on := 2, ground := .data } (by simp) rfl
      have e15 : a'.tmps[15]? = some (.slice (some ⟨b, off, none⟩) l.length c) := (hS.don 2 _ 15 rfl d2 rfl).trans (by simp only [putAll, Act.put, List.setIfInBounds_toArray, List.set_cons_zero, List.set_cons_succ]; rfl)
      have hK' := hK g w' (fun _ _ _ _ _ _ => rfl) (by rw [hfl 4 (by decide)]; exact hR) (.slice (some ⟨b, off, none⟩) 12 c) (by simp only [valO, Option.bind_some]; simp only [putAll, Act.put, List.setIfInBounds_toArray, List.set_cons_zero, List.set_cons_succ]; rfl)
      clear hS hdep hR
      refine gh_quiet14 (v := .slice (some ⟨b, off, none⟩) 12 c) ?_ ?_
      · (simp only [execOp, Act.eval, Option.map_some, Option.map_none, Array.getD_eq_getD_getElem?, e15, Option.getD_some]; exact ex17 (HS.out w'))
      · exact hK'
    | 4, ho, hun, hdep, hK, hfl, _ =>
      obtain rfl := Option.some.inj ho
      have d3 : lp.getD 3 false = true := hdep { on := 3, ground := .data } (by simp) rfl
      have e16 : a'.tmps[16]? = some (.slice (some ⟨b, off, none⟩) 12 c) := (hS.don 3 _ 16 rfl d3 rfl).trans (by simp only [putAll, Act.put, List.setIfInBounds_toArray, List.set_cons_zero, List.set_cons_succ]; rfl)
      have q := bl1 w' (.cells #[.slice (some ⟨b, off, none⟩) 12 c] 22)
      have hK' := hK w'.heap.size (w'.alloc (.cells #[.slice (some ⟨b, off, none⟩) 12 c] 22)) (fun k' ok s hk hl hd => gh_same14 (d := 17) (s := s) (by simp only [putAll, Act.put, List.setIfInBounds_toArray, List.set_cons_zero, List.set_cons_succ]; rfl) (by rintro rfl; have := dstG_of (by kernel_rfl) k' 4 ok _ 17 hk rfl hd rfl; subst this; rw [hun] at hl; cases hl)) (by rw [getD_set_same (by rw [hsz]; decide)]; exact ⟨hR.1.keep q, fun _ => (by simp [go_sem])⟩) (.slice (some ⟨w'.heap.size, 0, none⟩) 1 1) (by simp only [valO, Option.bind_some]; simp only [putAll, Act.put, List.setIfInBounds_toArray, List.set_cons_zero, List.set_cons_succ]; rfl)
      clear hS hdep hR hK
      unfold Oper.wp
      simp only [execOp, Act.eval, Array.getD_eq_getD_getElem?]
      simp [go_sem, e16, Oper.upon]
      exact hK'
    | 5, ho, hun, hdep, hK, hfl, _ =>
      obtain rfl := Option.some.inj ho
      have d4 : lp.getD 4 false = true := hdep { on := 4, ground := .data } (by simp) rfl
      have e17 : a'.tmps[17]? = some (.slice (some ⟨g, 0, none⟩) 1 1) := (hS.don 4 _ 17 rfl d4 rfl).trans (by simp only [putAll, Act.put, List.setIfInBounds_toArray, List.set_cons_zero, List.set_cons_succ]; rfl)
      have KC := KU.out w' g hR.1.1 (hR.2 d4)
      clear hdep
      unfold Oper.wp
      simp only [execOp, Act.eval, Array.getD_eq_getD_getElem?]
      simp [go_sem, e17, Oper.upon]
      refine KC.mono ?_
      rintro e W2 ⟨rfl, hw2⟩
      replace hw2 := hw2.symm
      subst hw2
      exact hK g w' (fun _ _ _ _ _ _ => rfl) (by rw [hfl 4 (by decide)]; exact hR) _ (by simp only [valO, Option.bind_some]; simp only [putAll, Act.put, List.setIfInBounds_toArray, List.set_cons_zero, List.set_cons_succ]; rfl)
    | 6, ho, hun, hdep, hK, hfl, _ =>
      obtain rfl := Option.some.inj ho
      have o1 : a'.tmps[1]? = some (.int .u32 sz) := (hS.old14 1 (by simp)).trans rfl
      have hK' := hK g w' (fun _ _ _ _ _ _ => rfl) (by rw [hfl 4 (by decide)]; exact hR) (.int .u32 sz) (by simp only [valO, Option.bind_some]; (try simp only [putAll, Act.put, List.setIfInBounds_toArray, List.set_cons_zero, List.set_cons_succ]); (try rfl))
      clear hS hdep hR
      refine gh_quiet14 (v := .int .u32 sz) ?_ ?_
      · (simp only [execOp, Act.eval, o1]; go_simp; first | done | (simp; done) | (simp [*]; done) | omega | (rw [IntKind.wrap_i64]; omega))
      · exact hK'
    | 7, ho, hun, hdep, hK, hfl, _ =>
      obtain rfl := Option.some.inj ho
      have o2 : a'.tmps[2]? = some (.pointer (some ⟨w.heap.size, 0, none⟩)) := (hS.old14 2 (by simp)).trans rfl
      have hK' := hK g w' (fun _ _ _ _ _ _ => rfl) (by rw [hfl 4 (by decide)]; exact hR) (.pointer (some ⟨w.heap.size, 0, none⟩)) (by simp only [valO, Option.bind_some]; (try simp only [putAll, Act.put, List.setIfInBounds_toArray, List.set_cons_zero, List.set_cons_succ]); (try rfl))
      clear hS hdep hR
      refine gh_quiet14 (v := .pointer (some ⟨w.heap.size, 0, none⟩)) ?_ ?_
      · (simp only [execOp, Act.eval, o2]; go_simp; first | done | (simp; done) | (simp [*]; done) | omega | (rw [IntKind.wrap_i64]; omega))
      · exact hK'
    | 8, ho, hun, hdep, hK, hfl, _ =>
      obtain rfl := Option.some.inj ho
      have d7 : lp.getD 7 false = true := hdep { on := 7, ground := .data } (by simp) rfl
      have e20 : a'.tmps[20]? = some (.pointer (some ⟨w.heap.size, 0, none⟩)) := (hS.don 7 _ 20 rfl d7 rfl).trans (by simp only [putAll, Act.put, List.setIfInBounds_toArray, List.set_cons_zero, List.set_cons_succ]; rfl)
      have k0 := hR.1.2 0 _ rfl
      have k1 := hR.1.2 1 _ rfl
      have k2 := hR.1.2 2 _ rfl
      have k3 := hR.1.2 3 _ rfl
      have hK' := hK g w' (fun _ _ _ _ _ _ => rfl) (by rw [hfl 4 (by decide)]; exact hR) (.agg #[.int .i64 W, .int .i64 D, .int .i64 S, .int .i64 (n : Int)]) (by simp only [valO, Option.bind_some]; (try simp only [putAll, Act.put, List.setIfInBounds_toArray, List.set_cons_zero, List.set_cons_succ]); (try rfl))
      clear hS hdep hR
      refine gh_quiet14 (v := .agg #[.int .i64 W, .int .i64 D, .int .i64 S, .int .i64 (n : Int)]) ?_ ?_
      · (simp only [execOp, Act.eval, e20]; go_simp; first | done | (simp; done) | (simp [*]; done) | omega | (rw [IntKind.wrap_i64]; omega))
      · exact hK'
    | 9, ho, hun, hdep, hK, hfl, _ =>
      obtain rfl := Option.some.inj ho
      have d8 : lp.getD 8 false = true := hdep { on := 8, ground := .data } (by simp) rfl
      have e21 : a'.tmps[21]? = some (.agg #[.int .i64 W, .int .i64 D, .int .i64 S, .int .i64 (n : Int)]) := (hS.don 8 _ 21 rfl d8 rfl).trans (by simp only [putAll, Act.put, List.setIfInBounds_toArray, List.set_cons_zero, List.set_cons_succ]; rfl)
      have KC := KZ.out w'
      clear hdep
      unfold Oper.wp
      simp only [execOp, Act.eval, Array.getD_eq_getD_getElem?]
      simp [go_sem, e21, Oper.upon]
      refine KC.mono ?_
      rintro e W2 ⟨rfl, hb⟩
      exact hK g W2 (fun _ _ _ _ _ _ => rfl) (by rw [hfl 4 (by decide)]; exact ⟨hR.1.keep hb, fun h => keepc hb (hR.2 h)⟩) _ (by simp only [valO, Option.bind_some]; simp only [putAll, Act.put, List.setIfInBounds_toArray, List.set_cons_zero, List.set_cons_succ]; rfl)
    | 10, ho, hun, hdep, hK, hfl, _ =>
      obtain rfl := Option.some.inj ho
      have d9 : lp.getD 9 false = true := hdep { on := 9, ground := .data } (by simp) rfl
      have e22 : a'.tmps[22]? = some (.int .i64 (16 + (n : Int) * 4)) := (hS.don 9 _ 22 rfl d9 rfl).trans (by simp only [putAll, Act.put, List.setIfInBounds_toArray, List.set_cons_zero, List.set_cons_succ]; rfl)
      have hK' := hK g w' (fun _ _ _ _ _ _ => rfl) (by rw [hfl 4 (by decide)]; exact hR) (.int .i64 ((n : Int) * 4)) (by simp only [valO, Option.bind_some]; (try simp only [putAll, Act.put, List.setIfInBounds_toArray, List.set_cons_zero, List.set_cons_succ]); (try rfl))
      clear hS hdep hR
      refine gh_quiet14 (v := .int .i64 ((n : Int) * 4)) ?_ ?_
      · (simp only [execOp, Act.eval, e22]; go_simp; first | done | (simp; done) | (simp [*]; done) | omega | (rw [IntKind.wrap_i64]; omega))
      · exact hK'
    | 11, ho, hun, hdep, hK, hfl, _ =>
      obtain rfl := Option.some.inj ho
      have d5 : lp.getD 5 false = true := hdep { on := 5, ground := .data } (by simp) rfl
      have e18 : a'.tmps[18]? = some (.int .u32 s12) := (hS.don 5 _ 18 rfl d5 rfl).trans (by simp only [putAll, Act.put, List.setIfInBounds_toArray, List.set_cons_zero, List.set_cons_succ]; rfl)
      have d6 : lp.getD 6 false = true := hdep { on := 6, ground := .data } (by simp) rfl
      have e19 : a'.tmps[19]? = some (.int .u32 sz) := (hS.don 6 _ 19 rfl d6 rfl).trans (by simp only [putAll, Act.put, List.setIfInBounds_toArray, List.set_cons_zero, List.set_cons_succ]; rfl)
      have d10 : lp.getD 10 false = true := hdep { on := 10, ground := .data } (by simp) rfl
      have e23 : a'.tmps[23]? = some (.int .i64 ((n : Int) * 4)) := (hS.don 10 _ 23 rfl d10 rfl).trans (by simp only [putAll, Act.put, List.setIfInBounds_toArray, List.set_cons_zero, List.set_cons_succ]; rfl)
      have KC := KJ.out w'
      clear hdep
      unfold Oper.wp
      simp only [execOp, Act.eval, Array.getD_eq_getD_getElem?]
      simp [go_sem, e18, e19, e23, Oper.upon]
      refine KC.mono ?_
      rintro e W2 ⟨rfl, hw2⟩
      replace hw2 := hw2.symm
      subst hw2
      exact hK g w' (fun _ _ _ _ _ _ => rfl) (by rw [hfl 4 (by decide)]; exact hR) _ (by simp only [valO, Option.bind_some]; simp only [putAll, Act.put, List.setIfInBounds_toArray, List.set_cons_zero, List.set_cons_succ]; rfl)
    | 12, ho, hun, hdep, hK, hfl, _ =>
      obtain rfl := Option.some.inj ho
      have d0 : lp.getD 0 false = true := hdep { on := 0, ground := .data } (by simp) rfl
      have e13 : a'.tmps[13]? = some (.int .u32 said) := (hS.don 0 _ 13 rfl d0 rfl).trans (by simp only [putAll, Act.put, List.setIfInBounds_toArray, List.set_cons_zero, List.set_cons_succ]; rfl)
      have d11 : lp.getD 11 false = true := hdep { on := 11, ground := .data } (by simp) rfl
      have e24 : a'.tmps[24]? = some (.int .u32 sj) := (hS.don 11 _ 24 rfl d11 rfl).trans (by simp only [putAll, Act.put, List.setIfInBounds_toArray, List.set_cons_zero, List.set_cons_succ]; rfl)
      have hK' := hK g w' (fun _ _ _ _ _ _ => rfl) (by rw [hfl 4 (by decide)]; exact hR) (.bool (said == sj)) (by simp only [valO, Option.bind_some]; (try simp only [putAll, Act.put, List.setIfInBounds_toArray, List.set_cons_zero, List.set_cons_succ]); (try rfl))
      clear hS hdep hR
      refine gh_quiet14 (v := .bool (said == sj)) ?_ ?_
      · (simp only [execOp, Act.eval, e13, e24]; go_simp; first | done | (simp; done) | (simp [*]; done) | omega | (rw [IntKind.wrap_i64]; omega))
      · exact hK'
    | 13, ho, hun, hdep, hK, hfl, _ =>
      obtain rfl := Option.some.inj ho
      have d12 : lp.getD 12 false = true := hdep { on := 12, ground := .data } (by simp) rfl
      have e25 : a'.tmps[25]? = some (.bool (said == sj)) := (hS.don 12 _ 25 rfl d12 rfl).trans (by simp only [putAll, Act.put, List.setIfInBounds_toArray, List.set_cons_zero, List.set_cons_succ]; rfl)
      have hK' := hK g w' (fun _ _ _ _ _ _ => rfl) (by rw [hfl 4 (by decide)]; exact hR) (.bool (said == sj)) (by simp only [valO, Option.bind_some]; (try simp only [putAll, Act.put, List.setIfInBounds_toArray, List.set_cons_zero, List.set_cons_succ]); (try rfl))
      clear hS hdep hR
      refine gh_quiet14 (v := .bool (said == sj)) ?_ ?_
      · (simp only [execOp, Act.eval, e25]; go_simp; first | done | (simp; done) | (simp [*]; done) | omega | (rw [IntKind.wrap_i64]; omega))
      · exact hK'
    | n + 14, ho, hun, hdep, hK, hfl, hq => exact absurd hq (by omega)
  case fin0 =>
    intro g V10 hR
    have HB10 := hid13 hR.1.1
    simp only [putAll, Act.put, List.setIfInBounds_toArray, List.set_cons_zero, List.set_cons_succ]
    clear hR
    go_wp2
    exact bodyPost_ret (v := .bool (said == sj)) (by simp [results, Tryd.results18, go_sem]) rfl ⟨by rw [HRes.out], HB10.out⟩
end Go.Proofs.YtgbhbooogofmbabDoor
namespace Go.Proofs.YtgbhbooogofmbabDoor
open Go.RowKit
set_option linter.unusedSimpArgs false
set_option linter.unusedVariables false

theorem bsA_list (l : List Nat) : (bsA l).toList = l.map UInt8.ofNat := by unfold bsA; exact ByteArray.toList_mk _
theorem map_u8_inj : ∀ {x y : List Nat}, (∀ b ∈ x, b < 256) → (∀ b ∈ y, b < 256) → x.map UInt8.ofNat = y.map UInt8.ofNat → x = y
  | [], [], _, _, _ => rfl
  | [], _ :: _, _, _, h => by cases h
  | _ :: _, [], _, _, h => by cases h
  | a :: x, b :: y, hx, hy, h => by
    rw [List.map_cons, List.map_cons] at h
    injection h with h1 h2
    have ha := hx a (List.mem_cons_self ..)
    have hb := hy b (List.mem_cons_self ..)
    have h3 : (UInt8.ofNat a).toNat = (UInt8.ofNat b).toNat := by rw [h1]
    rw [UInt8.toNat_ofNat', UInt8.toNat_ofNat', Nat.mod_eq_of_lt ha, Nat.mod_eq_of_lt hb] at h3
    rw [h3, map_u8_inj (fun q hq => hx q (List.mem_cons_of_mem _ hq)) (fun q hq => hy q (List.mem_cons_of_mem _ hq)) h2]
theorem bsA_eq {x y : List Nat} (hx : ∀ b ∈ x, b < 256) (hy : ∀ b ∈ y, b < 256) : ((bsA x).toList == (bsA y).toList) = decide (x = y) := by
  rw [bsA_list, bsA_list, Bool.eq_iff_iff]
  simp only [beq_iff_eq, decide_eq_true_eq]
  exact ⟨map_u8_inj hx hy, fun h => by rw [h]⟩
def rdV (v : Value) (l : List Nat) : Value := if rdE l = 0 then .agg #[.int .i64 ((rW l : Nat) : Int), .int .i64 ((rD l : Nat) : Int), .int .i64 ((rS l : Nat) : Int), .int .i64 ((rN l : Nat) : Int), v] else .agg #[.int .i64 0, .int .i64 0, .int .i64 0, .int .i64 0, .slice none 0 0]
theorem bset5 {w W : World} (h : Below w.heap.size w W) (v0 v1 v2 v3 v4 : Value) : Below w.heap.size w (((((W.setCell ⟨w.heap.size, 0, none⟩ v0).setCell ⟨w.heap.size, 1, none⟩ v1).setCell ⟨w.heap.size, 2, none⟩ v2).setCell ⟨w.heap.size, 3, none⟩ v3).setCell ⟨w.heap.size, 4, none⟩ v4) :=
  ((((h.setCell (p := ⟨w.heap.size, 0, none⟩) (Nat.le_refl _) _).setCell (p := ⟨w.heap.size, 1, none⟩) (Nat.le_refl _) _).setCell (p := ⟨w.heap.size, 2, none⟩) (Nat.le_refl _) _).setCell (p := ⟨w.heap.size, 3, none⟩) (Nat.le_refl _) _).setCell (p := ⟨w.heap.size, 4, none⟩) (Nat.le_refl _) _
set_option maxRecDepth 20000 in
set_option maxHeartbeats 8000000 in
theorem readerOf_any (v : Value) (l : List Nat) (w : World) (hv : RwX cB w v l) (hl : l.length ≤ 140737488000000) (hx : ∀ b ∈ l, b < 256) :
    Calls Tryd.prog 17 #[v] w fun e w' => e = .returned (.tuple #[rdV v l, .int .i64 (rdE l)]) ∧ Below w.heap.size w w' := by
  obtain ⟨i0, hi, hz0, hz1, hz2⟩ := info13 Tryd.infoB13
  have q1 := bl1 w (.cells #[.int .i64 0, .int .i64 0, .int .i64 0, .int .i64 0, .slice none 0 0] 45)
  by_cases h16 : l.length < 16
  · have hE : rdE l = 22 := by unfold rdE; rw [if_pos h16]
    have hV : rdV v l = .agg #[.int .i64 0, .int .i64 0, .int .i64 0, .int .i64 0, .slice none 0 0] := by unfold rdV; rw [if_neg (by rw [hE]; decide)]
    rw [hE, hV]
    obtain ⟨ao, c, rfl, hc, -⟩ := hv
    have h16' : (l.length : Int) < 16 := by omega
    have HQ := hid13 q1
    clear hE hV q1 hl hx hc h16 hi hz0 hz1 hz2
    go_enter Tryd.func17, Tryd.ntmps17
    go_wp2
    exact bodyPost_ret (v := .tuple #[.agg #[.int .i64 0, .int .i64 0, .int .i64 0, .int .i64 0, .slice none 0 0], .int .i64 22]) (by simp [results, Tryd.results17, go_sem, *]) rfl ⟨rfl, by first | exact HQ.out | exact bset5 HQ.out _ _ _ _ _⟩
  obtain ⟨b, off, c, hvf, hc, hcell⟩ := rwx_at hv (by omega)
  have h16' : ¬ (l.length : Int) < 16 := by omega
  have HV := hid13 hv
  have HX := hid13 hx
  have HL := hid13 hl
  have HQ := hid13 q1
  subst hvf
  have hs4 : Sem.run Tryd.prog (Instr.sliceAt 22 (.slice (some ⟨b, off, none⟩) l.length c) none (some (.int .i64 4)) none) (w.alloc (.cells #[.int .i64 0, .int .i64 0, .int .i64 0, .int .i64 0, .slice none 0 0] 45)) = .ok (.slice (some ⟨b, off, none⟩) 4 c) (w.alloc (.cells #[.int .i64 0, .int .i64 0, .int .i64 0, .int .i64 0, .slice none 0 0] 45)) := run_slice_to (P := Tryd.prog) (w := w.alloc (.cells #[.int .i64 0, .int .i64 0, .int .i64 0, .int .i64 0, .slice none 0 0] 45)) Tryd.underlying22 hi (some ⟨b, off, none⟩) l.length c 4 (by omega)
  have h4c : (4 : Int) ≤ (c : Int) := by omega
  have h4 : (l.take 4).length = 4 := by rw [List.length_take]; omega
  have r4 : RwX cB (w.alloc (.cells #[.int .i64 0, .int .i64 0, .int .i64 0, .int .i64 0, .slice none 0 0] 45)) (.slice (some ⟨b, off, none⟩) 4 c) (l.take 4) := by
    have h : RwX cB (w.alloc (.cells #[.int .i64 0, .int .i64 0, .int .i64 0, .int .i64 0, .slice none 0 0] 45)) (.slice (some ⟨b, off, none⟩) l.length c) (l.take 4 ++ l.drop 4) := by rw [List.take_append_drop]; exact hv.below q1
    have h2 := rwx_take h
    rw [h4] at h2
    exact h2
  have hcv := conv13 r4 (fun b hb => hx b (List.mem_of_mem_take hb))
  have hbq := bsA_eq (x := l.take 4) (y := [84, 80, 75, 49]) (fun b hb => hx b (List.mem_of_mem_take hb)) (by decide)
  rw [show (bsA [84, 80, 75, 49]).toList = [84, 80, 75, 49] from bsA_list _] at hbq
  by_cases hm : l.take 4 = [84, 80, 75, 49]
  rotate_left 1
  · have hE : rdE l = 21 := by unfold rdE; rw [if_neg h16, if_pos hm]
    have hV : rdV (.slice (some ⟨b, off, none⟩) l.length c) l = .agg #[.int .i64 0, .int .i64 0, .int .i64 0, .int .i64 0, .slice none 0 0] := by unfold rdV; rw [if_neg (by rw [hE]; decide)]
    rw [hE, hV]
    rw [decide_eq_false hm] at hbq
    generalize bsA (l.take 4) = st at *
    clear hE hV q1 hl hx hc h16 hv hcell hs4 r4 h4 hm hi hz0 hz1 hz2
    go_enter Tryd.func17, Tryd.ntmps17
    go_wp2
    exact bodyPost_ret (v := .tuple #[.agg #[.int .i64 0, .int .i64 0, .int .i64 0, .int .i64 0, .slice none 0 0], .int .i64 21]) (by simp [results, Tryd.results17, go_sem, *]) rfl ⟨rfl, by first | exact HQ.out | exact bset5 HQ.out _ _ _ _ _⟩
  rw [decide_eq_true hm] at hbq
  have hst : (bsA (l.take 4)).toList = [84, 80, 75, 49] := by rw [bsA_list, hm]; rfl
  have KH := headOf_any (.slice (some ⟨b, off, none⟩) l.length c) l (w.alloc (.cells #[.int .i64 0, .int .i64 0, .int .i64 0, .int .i64 0, .slice none 0 0] 45)) (hv.below q1) (by omega) (by omega) hx
  have HE : Hid (rdE l = if chkH (rW l) (rD l) (rS l) ≠ 0 then chkH (rW l) (rD l) (rS l) else if 1048572 < rN l then 18 else if l.length < 16 + 4 * rN l then 22 else 0) := by
    show _ = _
    unfold rdE; rw [if_neg h16, if_neg (fun q => q hm)]
  have HRV : Hid (rdV (.slice (some ⟨b, off, none⟩) l.length c) l = if rdE l = 0 then .agg #[.int .i64 ((rW l : Nat) : Int), .int .i64 ((rD l : Nat) : Int), .int .i64 ((rS l : Nat) : Int), .int .i64 ((rN l : Nat) : Int), .slice (some ⟨b, off, none⟩) l.length c] else .agg #[.int .i64 0, .int .i64 0, .int .i64 0, .int .i64 0, .slice none 0 0]) := hid13 rfl
  have HN : Hid (rN l < 4294967296) := (rd_parts (by omega) hm hx).2.2.2.2.2.2
  obtain ⟨x0, hx0⟩ : ∃ x : Int, x = (rW l : Int) := ⟨_, rfl⟩
  obtain ⟨x1, hx1⟩ : ∃ x : Int, x = (rD l : Int) := ⟨_, rfl⟩
  obtain ⟨x2, hx2⟩ : ∃ x : Int, x = (rS l : Int) := ⟨_, rfl⟩
  obtain ⟨x3, hx3⟩ : ∃ x : Int, x = (rN l : Int) := ⟨_, rfl⟩
  rw [← hx0, ← hx1, ← hx2] at HE
  rw [← hx0, ← hx1, ← hx2, ← hx3] at HRV KH
  have HX3 := hid13 hx3
  have KC := fun X => hcheck_any x0 x1 x2 x3 X
  have KT := fun X => tooLong_any x0 x1 x2 x3 X
  have KZ := fun X => hsize_any x0 x1 x2 x3 (by omega) (by have := HN.out; omega) X
  generalize rdE l = E at *
  generalize rdV (.slice (some ⟨b, off, none⟩) l.length c) l = RV at *
  generalize bsA (l.take 4) = st at *
  generalize hck : chkH x0 x1 x2 = ck at *
  clear hck q1 hl hx h16 hv hcell r4 h4 hm hi hz0 hz1 hz2 hx0 hx1 hx2 hx3 hc hbq hs4
  go_enter Tryd.func17, Tryd.ntmps17
  go_wp2_with fail
  refine KH.mono ?_
  rintro e2 w2 ⟨rfl, hb2⟩
  have HB2 := hid13 (keepb hb2 HQ.out)
  have z0 := keepc hb2 (show (w.alloc (.cells #[.int .i64 0, .int .i64 0, .int .i64 0, .int .i64 0, .slice none 0 0] 45)).cell? ⟨w.heap.size, 0, none⟩ = some (.int .i64 0) by simp [go_sem])
  have fz0 := keepf hb2 (show (w.alloc (.cells #[.int .i64 0, .int .i64 0, .int .i64 0, .int .i64 0, .slice none 0 0] 45)).cell? ⟨w.heap.size, 0, none⟩ = some (.int .i64 0) by simp [go_sem]) (show (w.alloc (.cells #[.int .i64 0, .int .i64 0, .int .i64 0, .int .i64 0, .slice none 0 0] 45)).frozen? ⟨w.heap.size, 0, none⟩ = false by simp [go_sem])
  have z1 := keepc hb2 (show (w.alloc (.cells #[.int .i64 0, .int .i64 0, .int .i64 0, .int .i64 0, .slice none 0 0] 45)).cell? ⟨w.heap.size, 1, none⟩ = some (.int .i64 0) by simp [go_sem])
  have fz1 := keepf hb2 (show (w.alloc (.cells #[.int .i64 0, .int .i64 0, .int .i64 0, .int .i64 0, .slice none 0 0] 45)).cell? ⟨w.heap.size, 1, none⟩ = some (.int .i64 0) by simp [go_sem]) (show (w.alloc (.cells #[.int .i64 0, .int .i64 0, .int .i64 0, .int .i64 0, .slice none 0 0] 45)).frozen? ⟨w.heap.size, 1, none⟩ = false by simp [go_sem])
  have z2 := keepc hb2 (show (w.alloc (.cells #[.int .i64 0, .int .i64 0, .int .i64 0, .int .i64 0, .slice none 0 0] 45)).cell? ⟨w.heap.size, 2, none⟩ = some (.int .i64 0) by simp [go_sem])
  have fz2 := keepf hb2 (show (w.alloc (.cells #[.int .i64 0, .int .i64 0, .int .i64 0, .int .i64 0, .slice none 0 0] 45)).cell? ⟨w.heap.size, 2, none⟩ = some (.int .i64 0) by simp [go_sem]) (show (w.alloc (.cells #[.int .i64 0, .int .i64 0, .int .i64 0, .int .i64 0, .slice none 0 0] 45)).frozen? ⟨w.heap.size, 2, none⟩ = false by simp [go_sem])
  have z3 := keepc hb2 (show (w.alloc (.cells #[.int .i64 0, .int .i64 0, .int .i64 0, .int .i64 0, .slice none 0 0] 45)).cell? ⟨w.heap.size, 3, none⟩ = some (.int .i64 0) by simp [go_sem])
  have fz3 := keepf hb2 (show (w.alloc (.cells #[.int .i64 0, .int .i64 0, .int .i64 0, .int .i64 0, .slice none 0 0] 45)).cell? ⟨w.heap.size, 3, none⟩ = some (.int .i64 0) by simp [go_sem]) (show (w.alloc (.cells #[.int .i64 0, .int .i64 0, .int .i64 0, .int .i64 0, .slice none 0 0] 45)).frozen? ⟨w.heap.size, 3, none⟩ = false by simp [go_sem])
  have z4 := keepc hb2 (show (w.alloc (.cells #[.int .i64 0, .int .i64 0, .int .i64 0, .int .i64 0, .slice none 0 0] 45)).cell? ⟨w.heap.size, 4, none⟩ = some (.slice none 0 0) by simp [go_sem])
  have fz4 := keepf hb2 (show (w.alloc (.cells #[.int .i64 0, .int .i64 0, .int .i64 0, .int .i64 0, .slice none 0 0] 45)).cell? ⟨w.heap.size, 4, none⟩ = some (.slice none 0 0) by simp [go_sem]) (show (w.alloc (.cells #[.int .i64 0, .int .i64 0, .int .i64 0, .int .i64 0, .slice none 0 0] 45)).frozen? ⟨w.heap.size, 4, none⟩ = false by simp [go_sem])
  have hne : ¬ w2.heap.size = w.heap.size := by have := cell_in z0; omega
  have hX3 := bx_new (t := 45) (Below.refl w2.heap.size w2) #[.int .i64 x0, .int .i64 x1, .int .i64 x2, .int .i64 x3, .slice (some ⟨b, off, none⟩) l.length c]
  have HX4 := hid13 hX3
  have y0 := hX3.2 0 _ rfl
  have y1 := hX3.2 1 _ rfl
  have y2 := hX3.2 2 _ rfl
  have y3 := hX3.2 3 _ rfl
  have y4 := hX3.2 4 _ rfl
  have q3 := bl1 w2 (.cells #[.int .i64 x0, .int .i64 x1, .int .i64 x2, .int .i64 x3, .slice (some ⟨b, off, none⟩) l.length c] 45)
  have a0 := keepc q3 z0
  have fa0 := keepf q3 z0 fz0
  have a1 := keepc q3 z1
  have fa1 := keepf q3 z1 fz1
  have a2 := keepc q3 z2
  have fa2 := keepf q3 z2 fz2
  have a3 := keepc q3 z3
  have fa3 := keepf q3 z3 fz3
  have a4 := keepc q3 z4
  have fa4 := keepf q3 z4 fz4
  have HB3 := hid13 (keepb q3 HB2.out)
  have KC3 := KC (w2.alloc (.cells #[.int .i64 x0, .int .i64 x1, .int .i64 x2, .int .i64 x3, .slice (some ⟨b, off, none⟩) l.length c] 45))
  clear KH hb2 hX3 q3 HB2 y0 y1 y2 y3 y4 KC z0 fz0 z1 fz1 z2 fz2 z3 fz3 z4 fz4
  go_wp2_with fail
  refine KC3.mono ?_
  rintro e4 w4 ⟨rfl, hb4⟩
  have HB4 := hid13 (keepb hb4 HB3.out)
  have d0 := keepc hb4 a0
  have fd0 := keepf hb4 a0 fa0
  have d1 := keepc hb4 a1
  have fd1 := keepf hb4 a1 fa1
  have d2 := keepc hb4 a2
  have fd2 := keepf hb4 a2 fa2
  have d3 := keepc hb4 a3
  have fd3 := keepf hb4 a3 fa3
  have d4 := keepc hb4 a4
  have fd4 := keepf hb4 a4 fa4
  have HX5 := hid13 (HX4.out.keep hb4)
  have y0 := HX5.out.2 0 _ rfl
  have y1 := HX5.out.2 1 _ rfl
  have y2 := HX5.out.2 2 _ rfl
  have y3 := HX5.out.2 3 _ rfl
  have y4 := HX5.out.2 4 _ rfl
  clear KC3 hb4 HB3 HX4 a0 fa0 a1 fa1 a2 fa2 a3 fa3 a4 fa4
  by_cases h0 : ck = 0
  rotate_left 1
  · have hn : (ck != 0) = true := by simpa using h0
    have HE9 : Hid (E = ck ∧ RV = .agg #[.int .i64 0, .int .i64 0, .int .i64 0, .int .i64 0, .slice none 0 0]) := by
      have h1 : E = ck := by rw [HE.out, if_pos h0]
      exact ⟨h1, by rw [HRV.out, if_neg (by rw [h1]; exact h0)]⟩
    clear HE HRV h0 y0 y1 y2 y3 y4
    go_wp2
    refine bodyPost_ret (v := .tuple #[.agg #[.int .i64 0, .int .i64 0, .int .i64 0, .int .i64 0, .slice none 0 0], .int .i64 ck]) (by simp [results, Tryd.results17, go_sem, *]) rfl ⟨by rw [HE9.out.1, HE9.out.2], by first | exact HB4.out | exact bset5 HB4.out _ _ _ _ _⟩
  have HE1 : Hid (E = if 1048572 < rN l then 18 else if l.length < 16 + 4 * rN l then 22 else 0) := by show _ = _; rw [HE.out, if_neg (fun q => q h0)]
  subst h0
  clear HE
  have KT4 := KT w4
  by_cases h1 : 1048572 < x3
  · rw [decide_eq_true h1] at KT4
    have HE9 : Hid (E = 18 ∧ RV = .agg #[.int .i64 0, .int .i64 0, .int .i64 0, .int .i64 0, .slice none 0 0]) := by
      have h2 : E = 18 := by rw [HE1.out, if_pos (by have := HX3.out; omega)]
      exact ⟨h2, by rw [HRV.out, if_neg (by rw [h2]; decide)]⟩
    clear HE1 HRV h1 KT
    go_wp2_with fail
    refine KT4.mono ?_
    rintro e5 w5 ⟨rfl, hb5⟩
    have HB5 := hid13 (keepb hb5 HB4.out)
    have g0 := keepc hb5 d0
    have fg0 := keepf hb5 d0 fd0
    have g1 := keepc hb5 d1
    have fg1 := keepf hb5 d1 fd1
    have g2 := keepc hb5 d2
    have fg2 := keepf hb5 d2 fd2
    have g3 := keepc hb5 d3
    have fg3 := keepf hb5 d3 fd3
    have g4 := keepc hb5 d4
    have fg4 := keepf hb5 d4 fd4
    clear KT4 hb5 HB4 y0 y1 y2 y3 y4 d0 fd0 d1 fd1 d2 fd2 d3 fd3 d4 fd4
    go_wp2
    refine bodyPost_ret (v := .tuple #[.agg #[.int .i64 0, .int .i64 0, .int .i64 0, .int .i64 0, .slice none 0 0], .int .i64 18]) (by simp [results, Tryd.results17, go_sem, *]) rfl ⟨by rw [HE9.out.1, HE9.out.2], by first | exact HB5.out | exact bset5 HB5.out _ _ _ _ _⟩
  have HE2 : Hid (E = if l.length < 16 + 4 * rN l then 22 else 0) := by show _ = _; rw [HE1.out, if_neg (by have := HX3.out; omega)]
  rw [decide_eq_false h1] at KT4
  clear HE1 KT
  go_wp2_with fail
  refine KT4.mono ?_
  rintro e5 w5 ⟨rfl, hb5⟩
  have HB5 := hid13 (keepb hb5 HB4.out)
  have g0 := keepc hb5 d0
  have fg0 := keepf hb5 d0 fd0
  have g1 := keepc hb5 d1
  have fg1 := keepf hb5 d1 fd1
  have g2 := keepc hb5 d2
  have fg2 := keepf hb5 d2 fd2
  have g3 := keepc hb5 d3
  have fg3 := keepf hb5 d3 fd3
  have g4 := keepc hb5 d4
  have fg4 := keepf hb5 d4 fd4
  have HX6 := hid13 (HX5.out.keep hb5)
  have hne5 : Hid (¬ w2.heap.size = w.heap.size) := hne
  clear KT4 hb5 HB4 y0 y1 y2 y3 y4 HX5 d0 fd0 d1 fd1 d2 fd2 d3 fd3 d4 fd4
  have y0 := HX6.out.2 0 _ rfl
  have y1 := HX6.out.2 1 _ rfl
  have y2 := HX6.out.2 2 _ rfl
  have y3 := HX6.out.2 3 _ rfl
  have y4 := HX6.out.2 4 _ rfl
  have KZ5 := KZ w5
  obtain ⟨sz, hsz⟩ : ∃ s : Int, s = 16 + x3 * 4 := ⟨_, rfl⟩
  rw [← hsz] at KZ5
  have HSZ := hid13 hsz
  clear KZ hsz
  by_cases h2 : (l.length : Int) < sz
  · have HE9 : Hid (E = 22 ∧ RV = .agg #[.int .i64 0, .int .i64 0, .int .i64 0, .int .i64 0, .slice none 0 0]) := by
      have h3 : E = 22 := by rw [HE2.out, if_pos (by have := HX3.out; have := HSZ.out; omega)]
      exact ⟨h3, by rw [HRV.out, if_neg (by rw [h3]; decide)]⟩
    clear HE2 HRV
    go_wp2_with fail
    refine KZ5.mono ?_
    rintro e6 w6 ⟨rfl, hb6⟩
    have HB6 := hid13 (keepb hb6 HB5.out)
    have k0 := keepc hb6 g0
    have fk0 := keepf hb6 g0 fg0
    have k1 := keepc hb6 g1
    have fk1 := keepf hb6 g1 fg1
    have k2 := keepc hb6 g2
    have fk2 := keepf hb6 g2 fg2
    have k3 := keepc hb6 g3
    have fk3 := keepf hb6 g3 fg3
    have k4 := keepc hb6 g4
    have fk4 := keepf hb6 g4 fg4
    clear KZ5 hb6 HB5 y0 y1 y2 y3 y4 g0 fg0 g1 fg1 g2 fg2 g3 fg3 g4 fg4
    go_wp2
    refine bodyPost_ret (v := .tuple #[.agg #[.int .i64 0, .int .i64 0, .int .i64 0, .int .i64 0, .slice none 0 0], .int .i64 22]) (by simp [results, Tryd.results17, go_sem, *]) rfl ⟨by rw [HE9.out.1, HE9.out.2], by first | exact HB6.out | exact bset5 HB6.out _ _ _ _ _⟩
  have HE9 : Hid (E = 0 ∧ RV = .agg #[.int .i64 x0, .int .i64 x1, .int .i64 x2, .int .i64 x3, .slice (some ⟨b, off, none⟩) l.length c]) := by
    have h3 : E = 0 := by rw [HE2.out, if_neg (by have := HX3.out; have := HSZ.out; omega)]
    exact ⟨h3, by rw [HRV.out, if_pos h3]⟩
  clear HE2 HRV
  go_wp2_with fail
  refine KZ5.mono ?_
  rintro e6 w6 ⟨rfl, hb6⟩
  have HB6 := hid13 (keepb hb6 HB5.out)
  have k0 := keepc hb6 g0
  have fk0 := keepf hb6 g0 fg0
  have k1 := keepc hb6 g1
  have fk1 := keepf hb6 g1 fg1
  have k2 := keepc hb6 g2
  have fk2 := keepf hb6 g2 fg2
  have k3 := keepc hb6 g3
  have fk3 := keepf hb6 g3 fg3
  have k4 := keepc hb6 g4
  have fk4 := keepf hb6 g4 fg4
  have HX7 := hid13 (HX6.out.keep hb6)
  clear KZ5 hb6 HB5 y0 y1 y2 y3 y4 HX6 g0 fg0 g1 fg1 g2 fg2 g3 fg3 g4 fg4
  have y0 := HX7.out.2 0 _ rfl
  have y1 := HX7.out.2 1 _ rfl
  have y2 := HX7.out.2 2 _ rfl
  have y3 := HX7.out.2 3 _ rfl
  have y4 := HX7.out.2 4 _ rfl
  go_wp2
  refine bodyPost_ret (v := .tuple #[.agg #[.int .i64 x0, .int .i64 x1, .int .i64 x2, .int .i64 x3, .slice (some ⟨b, off, none⟩) l.length c], .int .i64 0]) (by simp [results, Tryd.results17, go_sem, *]) rfl ⟨by rw [HE9.out.1, HE9.out.2], by first | exact HB6.out | exact bset5 HB6.out _ _ _ _ _⟩
end Go.Proofs.YtgbhbooogofmbabDoor
namespace Go.Proofs.YtgbhbooogofmbabDoor
open Go.RowKit Go.Shelf
set_option linter.unusedSimpArgs false
set_option linter.unusedVariables false

section
variable {P : Program}
end
end Go.Proofs.YtgbhbooogofmbabDoor
namespace Go.Proofs.YtgbhbooogofmbabDoor
open Go.RowKit Go.Shelf
set_option linter.unusedSimpArgs false
set_option linter.unusedVariables false
attribute [local go_sem] Oper.semAt_some

set_option maxHeartbeats 2000000 in
theorem clone14 (v : Value) (l : List Nat) (w : World) (hA : RowA w 1 v l.length (l.map cB)) (hl : l.length ≤ 140737480000000) :
    Calls Tryd.prog 20 #[v] w fun e w' => ∃ v', e = .returned v' ∧ w'.ownsRow w.heap.size 5 1 v' l.length (l.map cB) ∧ Below w.heap.size w w' := by
  obtain ⟨i0, hi, hz0, hz1, hz2⟩ := info13 Tryd.infoB13
  obtain ⟨-, ao, c, hvf, -⟩ := id hA
  subst hvf
  have hq : ∀ (w : World) (a : Option Addr) (n c n' c' : Nat), (binOp .eql 22 (.slice a n c) (.slice none n' c')).run Tryd.prog w = .ok (.bool a.isNone) w := fun w a n c n' c' => Lib.run_eql_slice_nil w 22 5 a n c n' c' Tryd.underlying22
  have q3 := bl1 w (.cells #[] 5)
  have HR3 := hid13 (hA.below q3)
  have HO3 : Hid ((w.alloc (.cells #[] 5)).ownsRow w.heap.size 5 1 (.slice (some ⟨w.heap.size, 0, none⟩) 0 0) 0 []) := World.ownsRow_made w #[] 0 (Nat.le_refl _) (by unfold maxLen; omega) (by simp)
  have HQ := hid13 q3
  cases ao with
  | none =>
    have hl0 : l = [] := by
      obtain ⟨-, ao', c', e, -, h⟩ := hA
      injection e with e1 e2 e3
      subst e1
      rcases h with ⟨-, -, h⟩ | ⟨b, h, -⟩
      · simpa using h
      · cases h
    subst hl0
    clear hA q3 HR3 HO3 HQ
    go_enter Tryd.func20, Tryd.ntmps20
    go_wp2
    go_ret
    exact ⟨_, rfl, World.ownsRow_nil _ _ _ _, Below.refl _ _⟩
  | some ad =>
    clear hA
    go_enter Tryd.func20, Tryd.ntmps20
    go_wp2_with (at_builtin; apply stopHere9)
    refine (show wpList _ _ _ _ _ _ from ?_)
    refine wpList_append_rowA rfl _ _ 22 rfl w.heap.size 5 i0 (.int .u8 0) 1 1 Tryd.underlying22 hi hz0 hz1 hz2 rfl (by decide) _ 0 [] rfl HO3.out _ l.length (l.map cB) rfl HR3.out (cB_one l) (by unfold maxLen; omega) (by omega) q3.size ?_
    intro ao4 c4 w4 hO4 hg4
    rw [Nat.zero_add, List.nil_append] at hO4
    rw [Nat.zero_add]
    have HB4 : Hid (Below w.heap.size w w4) := hid13 (HQ.out.grown hg4 HQ.out.size (fun z hz => (HO3.out.lt z hz).1))
    have HO4 := hid13 hO4
    clear hO4 hg4 q3 HR3 HO3 HQ
    go_wp2
    go_ret
    exact ⟨_, rfl, HO4.out, HB4.out⟩
end Go.Proofs.YtgbhbooogofmbabDoor
