/-
  Part 26 of the proof: 3 texts, one behind the other.
-/
import Derived.Test.YtjgpbahglkaijaaDoorPart25
import Derived.Test.YtjgpbahglkaijaaDoorPart4
namespace Go.Proofs.YtjgpbahglkaijaaDoor
open Go.RowKit
set_option linter.unusedSimpArgs false
set_option linter.unusedVariables false

theorem bsA_list (l : List Nat) : (bsA l).toList = l.map UInt8.ofNat := by unfold bsA; exact ByteArray.toList_mk _
theorem map_u8_inj : ∀ {x y : List Nat}, (∀ b ∈ x, b < 256) → (∀ b ∈ y, b < 256) → x.map UInt8.ofNat = y.map UInt8.ofNat → x = y
  | [], [], _, _, _ => rfl
  | [], _ :: _, _, _, h => by cases h
  | _ :: _, [], _, _, h => by cases h
  | a :: x, b :: y, hx, hy, h => by
    rw [List.map_cons, List.map_cons] at h
    injection h with h1 h2
    have ha := hx a (List.mem_cons_self ..)
    have hb := hy b (List.mem_cons_self ..)
    have h3 : (UInt8.ofNat a).toNat = (UInt8.ofNat b).toNat := by rw [h1]
    rw [UInt8.toNat_ofNat', UInt8.toNat_ofNat', Nat.mod_eq_of_lt ha, Nat.mod_eq_of_lt hb] at h3
    rw [h3, map_u8_inj (fun q hq => hx q (List.mem_cons_of_mem _ hq)) (fun q hq => hy q (List.mem_cons_of_mem _ hq)) h2]
theorem bsA_eq {x y : List Nat} (hx : ∀ b ∈ x, b < 256) (hy : ∀ b ∈ y, b < 256) : ((bsA x).toList == (bsA y).toList) = decide (x = y) := by
  rw [bsA_list, bsA_list, Bool.eq_iff_iff]
  simp only [beq_iff_eq, decide_eq_true_eq]
  exact ⟨map_u8_inj hx hy, fun h => by rw [h]⟩
def rdV (v : Value) (l : List Nat) : Value := if rdE l = 0 then .agg #[.int .i64 ((rW l : Nat) : Int), .int .i64 ((rD l : Nat) : Int), .int .i64 ((rS l : Nat) : Int), .int .i64 ((rN l : Nat) : Int), v] else .agg #[.int .i64 0, .int .i64 0, .int .i64 0, .int .i64 0, .slice none 0 0]
theorem bset5 {w W : World} (h : Below w.heap.size w W) (v0 v1 v2 v3 v4 : Value) : Below w.heap.size w (((((W.setCell ⟨w.heap.size, 0, none⟩ v0).setCell ⟨w.heap.size, 1, none⟩ v1).setCell ⟨w.heap.size, 2, none⟩ v2).setCell ⟨w.heap.size, 3, none⟩ v3).setCell ⟨w.heap.size, 4, none⟩ v4) :=
  ((((h.setCell (p := ⟨w.heap.size, 0, none⟩) (Nat.le_refl _) _).setCell (p := ⟨w.heap.size, 1, none⟩) (Nat.le_refl _) _).setCell (p := ⟨w.heap.size, 2, none⟩) (Nat.le_refl _) _).setCell (p := ⟨w.heap.size, 3, none⟩) (Nat.le_refl _) _).setCell (p := ⟨w.heap.size, 4, none⟩) (Nat.le_refl _) _
set_option maxRecDepth 20000 in
set_option maxHeartbeats 8000000 in
theorem readerOf_any (v : Value) (l : List Nat) (w : World) (hv : RwX cB w v l) (hl : l.length ≤ 140737488000000) (hx : ∀ b ∈ l, b < 256) :
    Calls Tryd.prog 12 #[v] w fun e w' => e = .returned (.tuple #[rdV v l, .int .i64 (rdE l)]) ∧ Below w.heap.size w w' := by
  obtain ⟨i0, hi, hz0, hz1, hz2⟩ := info13 Tryd.infoB13
  have q1 := bl1 w (.cells #[.int .i64 0, .int .i64 0, .int .i64 0, .int .i64 0, .slice none 0 0] 48)
  by_cases h16 : l.length < 16
  · have hE : rdE l = 22 := by unfold rdE; rw [if_pos h16]
    have hV : rdV v l = .agg #[.int .i64 0, .int .i64 0, .int .i64 0, .int .i64 0, .slice none 0 0] := by unfold rdV; rw [if_neg (by rw [hE]; decide)]
    rw [hE, hV]
    obtain ⟨ao, c, rfl, hc, -⟩ := hv
    have h16' : (l.length : Int) < 16 := by omega
    have HQ := hid13 q1
    clear hE hV q1 hl hx hc h16 hi hz0 hz1 hz2
    go_enter Tryd.func12, Tryd.ntmps12
    go_wp2
    exact bodyPost_ret (v := .tuple #[.agg #[.int .i64 0, .int .i64 0, .int .i64 0, .int .i64 0, .slice none 0 0], .int .i64 22]) (by simp [results, Tryd.results12, go_sem, *]) rfl ⟨rfl, by first | exact HQ.out | exact bset5 HQ.out _ _ _ _ _⟩
  obtain ⟨b, off, c, hvf, hc, hcell⟩ := rwx_at hv (by omega)
  have h16' : ¬ (l.length : Int) < 16 := by omega
  have HV := hid13 hv
  have HX := hid13 hx
  have HL := hid13 hl
  have HQ := hid13 q1
  subst hvf
  have hs4 : Sem.run Tryd.prog (Instr.sliceAt 22 (.slice (some ⟨b, off, none⟩) l.length c) none (some (.int .i64 4)) none) (w.alloc (.cells #[.int .i64 0, .int .i64 0, .int .i64 0, .int .i64 0, .slice none 0 0] 48)) = .ok (.slice (some ⟨b, off, none⟩) 4 c) (w.alloc (.cells #[.int .i64 0, .int .i64 0, .int .i64 0, .int .i64 0, .slice none 0 0] 48)) := run_slice_to (P := Tryd.prog) (w := w.alloc (.cells #[.int .i64 0, .int .i64 0, .int .i64 0, .int .i64 0, .slice none 0 0] 48)) Tryd.underlying22 hi (some ⟨b, off, none⟩) l.length c 4 (by omega)
  have h4c : (4 : Int) ≤ (c : Int) := by omega
  have h4 : (l.take 4).length = 4 := by rw [List.length_take]; omega
  have r4 : RwX cB (w.alloc (.cells #[.int .i64 0, .int .i64 0, .int .i64 0, .int .i64 0, .slice none 0 0] 48)) (.slice (some ⟨b, off, none⟩) 4 c) (l.take 4) := by
    have h : RwX cB (w.alloc (.cells #[.int .i64 0, .int .i64 0, .int .i64 0, .int .i64 0, .slice none 0 0] 48)) (.slice (some ⟨b, off, none⟩) l.length c) (l.take 4 ++ l.drop 4) := by rw [List.take_append_drop]; exact hv.below q1
    have h2 := rwx_take h
    rw [h4] at h2
    exact h2
  have hcv := conv13 r4 (fun b hb => hx b (List.mem_of_mem_take hb))
  have hbq := bsA_eq (x := l.take 4) (y := [84, 80, 75, 49]) (fun b hb => hx b (List.mem_of_mem_take hb)) (by decide)
  rw [show (bsA [84, 80, 75, 49]).toList = [84, 80, 75, 49] from bsA_list _] at hbq
  by_cases hm : l.take 4 = [84, 80, 75, 49]
  rotate_left 1
  · have hE : rdE l = 21 := by unfold rdE; rw [if_neg h16, if_pos hm]
    have hV : rdV (.slice (some ⟨b, off, none⟩) l.length c) l = .agg #[.int .i64 0, .int .i64 0, .int .i64 0, .int .i64 0, .slice none 0 0] := by unfold rdV; rw [if_neg (by rw [hE]; decide)]
    rw [hE, hV]
    rw [decide_eq_false hm] at hbq
    generalize bsA (l.take 4) = st at *
    clear hE hV q1 hl hx hc h16 hv hcell hs4 r4 h4 hm hi hz0 hz1 hz2
    go_enter Tryd.func12, Tryd.ntmps12
    go_wp2
    exact bodyPost_ret (v := .tuple #[.agg #[.int .i64 0, .int .i64 0, .int .i64 0, .int .i64 0, .slice none 0 0], .int .i64 21]) (by simp [results, Tryd.results12, go_sem, *]) rfl ⟨rfl, by first | exact HQ.out | exact bset5 HQ.out _ _ _ _ _⟩
  rw [decide_eq_true hm] at hbq
  have hst : (bsA (l.take 4)).toList = [84, 80, 75, 49] := by rw [bsA_list, hm]; rfl
  have KH := headOf_any (.slice (some ⟨b, off, none⟩) l.length c) l (w.alloc (.cells #[.int .i64 0, .int .i64 0, .int .i64 0, .int .i64 0, .slice none 0 0] 48)) (hv.below q1) (by omega) (by omega) hx
  have HE : Hid (rdE l = if chkH (rW l) (rD l) (rS l) ≠ 0 then chkH (rW l) (rD l) (rS l) else if 1048572 < rN l then 18 else if l.length < 16 + 4 * rN l then 22 else 0) := by
    show _ = _
    unfold rdE; rw [if_neg h16, if_neg (fun q => q hm)]
  have HRV : Hid (rdV (.slice (some ⟨b, off, none⟩) l.length c) l = if rdE l = 0 then .agg #[.int .i64 ((rW l : Nat) : Int), .int .i64 ((rD l : Nat) : Int), .int .i64 ((rS l : Nat) : Int), .int .i64 ((rN l : Nat) : Int), .slice (some ⟨b, off, none⟩) l.length c] else .agg #[.int .i64 0, .int .i64 0, .int .i64 0, .int .i64 0, .slice none 0 0]) := hid13 rfl
  have HN : Hid (rN l < 4294967296) := (rd_parts (by omega) hm hx).2.2.2.2.2.2
  obtain ⟨x0, hx0⟩ : ∃ x : Int, x = (rW l : Int) := ⟨_, rfl⟩
  obtain ⟨x1, hx1⟩ : ∃ x : Int, x = (rD l : Int) := ⟨_, rfl⟩
  obtain ⟨x2, hx2⟩ : ∃ x : Int, x = (rS l : Int) := ⟨_, rfl⟩
  obtain ⟨x3, hx3⟩ : ∃ x : Int, x = (rN l : Int) := ⟨_, rfl⟩
  rw [← hx0, ← hx1, ← hx2] at HE
  rw [← hx0, ← hx1, ← hx2, ← hx3] at HRV KH
  have HX3 := hid13 hx3
  have KC := fun X => hcheck_any x0 x1 x2 x3 X
  have KT := fun X => tooLong_any x0 x1 x2 x3 X
  have KZ := fun X => hsize_any x0 x1 x2 x3 (by omega) (by have := HN.out; omega) X
  generalize rdE l = E at *
  generalize rdV (.slice (some ⟨b, off, none⟩) l.length c) l = RV at *
  generalize bsA (l.take 4) = st at *
  generalize hck : chkH x0 x1 x2 = ck at *
  clear hck q1 hl hx h16 hv hcell r4 h4 hm hi hz0 hz1 hz2 hx0 hx1 hx2 hx3 hc hbq hs4
  go_enter Tryd.func12, Tryd.ntmps12
  go_wp2_with fail
  refine KH.mono ?_
  rintro e2 w2 ⟨rfl, hb2⟩
  have HB2 := hid13 (keepb hb2 HQ.out)
  have z0 := keepc hb2 (show (w.alloc (.cells #[.int .i64 0, .int .i64 0, .int .i64 0, .int .i64 0, .slice none 0 0] 48)).cell? ⟨w.heap.size, 0, none⟩ = some (.int .i64 0) by simp [go_sem])
  have fz0 := keepf hb2 (show (w.alloc (.cells #[.int .i64 0, .int .i64 0, .int .i64 0, .int .i64 0, .slice none 0 0] 48)).cell? ⟨w.heap.size, 0, none⟩ = some (.int .i64 0) by simp [go_sem]) (show (w.alloc (.cells #[.int .i64 0, .int .i64 0, .int .i64 0, .int .i64 0, .slice none 0 0] 48)).frozen? ⟨w.heap.size, 0, none⟩ = false by simp [go_sem])
  have z1 := keepc hb2 (show (w.alloc (.cells #[.int .i64 0, .int .i64 0, .int .i64 0, .int .i64 0, .slice none 0 0] 48)).cell? ⟨w.heap.size, 1, none⟩ = some (.int .i64 0) by simp [go_sem])
  have fz1 := keepf hb2 (show (w.alloc (.cells #[.int .i64 0, .int .i64 0, .int .i64 0, .int .i64 0, .slice none 0 0] 48)).cell? ⟨w.heap.size, 1, none⟩ = some (.int .i64 0) by simp [go_sem]) (show (w.alloc (.cells #[.int .i64 0, .int .i64 0, .int .i64 0, .int .i64 0, .slice none 0 0] 48)).frozen? ⟨w.heap.size, 1, none⟩ = false by simp [go_sem])
  have z2 := keepc hb2 (show (w.alloc (.cells #[.int .i64 0, .int .i64 0, .int .i64 0, .int .i64 0, .slice none 0 0] 48)).cell? ⟨w.heap.size, 2, none⟩ = some (.int .i64 0) by simp [go_sem])
  have fz2 := keepf hb2 (show (w.alloc (.cells #[.int .i64 0, .int .i64 0, .int .i64 0, .int .i64 0, .slice none 0 0] 48)).cell? ⟨w.heap.size, 2, none⟩ = some (.int .i64 0) by simp [go_sem]) (show (w.alloc (.cells #[.int .i64 0, .int .i64 0, .int .i64 0, .int .i64 0, .slice none 0 0] 48)).frozen? ⟨w.heap.size, 2, none⟩ = false by simp [go_sem])
  have z3 := keepc hb2 (show (w.alloc (.cells #[.int .i64 0, .int .i64 0, .int .i64 0, .int .i64 0, .slice none 0 0] 48)).cell? ⟨w.heap.size, 3, none⟩ = some (.int .i64 0) by simp [go_sem])
  have fz3 := keepf hb2 (show (w.alloc (.cells #[.int .i64 0, .int .i64 0, .int .i64 0, .int .i64 0, .slice none 0 0] 48)).cell? ⟨w.heap.size, 3, none⟩ = some (.int .i64 0) by simp [go_sem]) (show (w.alloc (.cells #[.int .i64 0, .int .i64 0, .int .i64 0, .int .i64 0, .slice none 0 0] 48)).frozen? ⟨w.heap.size, 3, none⟩ = false by simp [go_sem])
  have z4 := keepc hb2 (show (w.alloc (.cells #[.int .i64 0, .int .i64 0, .int .i64 0, .int .i64 0, .slice none 0 0] 48)).cell? ⟨w.heap.size, 4, none⟩ = some (.slice none 0 0) by simp [go_sem])
  have fz4 := keepf hb2 (show (w.alloc (.cells #[.int .i64 0, .int .i64 0, .int .i64 0, .int .i64 0, .slice none 0 0] 48)).cell? ⟨w.heap.size, 4, none⟩ = some (.slice none 0 0) by simp [go_sem]) (show (w.alloc (.cells #[.int .i64 0, .int .i64 0, .int .i64 0, .int .i64 0, .slice none 0 0] 48)).frozen? ⟨w.heap.size, 4, none⟩ = false by simp [go_sem])
  have hne : ¬ w2.heap.size = w.heap.size := by have := cell_in z0; omega
  have hX3 := bx_new (t := 48) (Below.refl w2.heap.size w2) #[.int .i64 x0, .int .i64 x1, .int .i64 x2, .int .i64 x3, .slice (some ⟨b, off, none⟩) l.length c]
  have HX4 := hid13 hX3
  have y0 := hX3.2 0 _ rfl
  have y1 := hX3.2 1 _ rfl
  have y2 := hX3.2 2 _ rfl
  have y3 := hX3.2 3 _ rfl
  have y4 := hX3.2 4 _ rfl
  have q3 := bl1 w2 (.cells #[.int .i64 x0, .int .i64 x1, .int .i64 x2, .int .i64 x3, .slice (some ⟨b, off, none⟩) l.length c] 48)
  have a0 := keepc q3 z0
  have fa0 := keepf q3 z0 fz0
  have a1 := keepc q3 z1
  have fa1 := keepf q3 z1 fz1
  have a2 := keepc q3 z2
  have fa2 := keepf q3 z2 fz2
  have a3 := keepc q3 z3
  have fa3 := keepf q3 z3 fz3
  have a4 := keepc q3 z4
  have fa4 := keepf q3 z4 fz4
  have HB3 := hid13 (keepb q3 HB2.out)
  have KC3 := KC (w2.alloc (.cells #[.int .i64 x0, .int .i64 x1, .int .i64 x2, .int .i64 x3, .slice (some ⟨b, off, none⟩) l.length c] 48))
  clear KH hb2 hX3 q3 HB2 y0 y1 y2 y3 y4 KC z0 fz0 z1 fz1 z2 fz2 z3 fz3 z4 fz4
  go_wp2_with fail
  refine KC3.mono ?_
  rintro e4 w4 ⟨rfl, hb4⟩
  have HB4 := hid13 (keepb hb4 HB3.out)
  have d0 := keepc hb4 a0
  have fd0 := keepf hb4 a0 fa0
  have d1 := keepc hb4 a1
  have fd1 := keepf hb4 a1 fa1
  have d2 := keepc hb4 a2
  have fd2 := keepf hb4 a2 fa2
  have d3 := keepc hb4 a3
  have fd3 := keepf hb4 a3 fa3
  have d4 := keepc hb4 a4
  have fd4 := keepf hb4 a4 fa4
  have HX5 := hid13 (HX4.out.keep hb4)
  have y0 := HX5.out.2 0 _ rfl
  have y1 := HX5.out.2 1 _ rfl
  have y2 := HX5.out.2 2 _ rfl
  have y3 := HX5.out.2 3 _ rfl
  have y4 := HX5.out.2 4 _ rfl
  clear KC3 hb4 HB3 HX4 a0 fa0 a1 fa1 a2 fa2 a3 fa3 a4 fa4
  by_cases h0 : ck = 0
  rotate_left 1
  · have hn : (ck != 0) = true := by simpa using h0
    have HE9 : Hid (E = ck ∧ RV = .agg #[.int .i64 0, .int .i64 0, .int .i64 0, .int .i64 0, .slice none 0 0]) := by
      have h1 : E = ck := by rw [HE.out, if_pos h0]
      exact ⟨h1, by rw [HRV.out, if_neg (by rw [h1]; exact h0)]⟩
    clear HE HRV h0 y0 y1 y2 y3 y4
    go_wp2
    refine bodyPost_ret (v := .tuple #[.agg #[.int .i64 0, .int .i64 0, .int .i64 0, .int .i64 0, .slice none 0 0], .int .i64 ck]) (by simp [results, Tryd.results12, go_sem, *]) rfl ⟨by rw [HE9.out.1, HE9.out.2], by first | exact HB4.out | exact bset5 HB4.out _ _ _ _ _⟩
  have HE1 : Hid (E = if 1048572 < rN l then 18 else if l.length < 16 + 4 * rN l then 22 else 0) := by show _ = _; rw [HE.out, if_neg (fun q => q h0)]
  subst h0
  clear HE
  have KT4 := KT w4
  by_cases h1 : 1048572 < x3
  · rw [decide_eq_true h1] at KT4
    have HE9 : Hid (E = 18 ∧ RV = .agg #[.int .i64 0, .int .i64 0, .int .i64 0, .int .i64 0, .slice none 0 0]) := by
      have h2 : E = 18 := by rw [HE1.out, if_pos (by have := HX3.out; omega)]
      exact ⟨h2, by rw [HRV.out, if_neg (by rw [h2]; decide)]⟩
    clear HE1 HRV h1 KT
    go_wp2_with fail
    refine KT4.mono ?_
    rintro e5 w5 ⟨rfl, hb5⟩
    have HB5 := hid13 (keepb hb5 HB4.out)
    have g0 := keepc hb5 d0
    have fg0 := keepf hb5 d0 fd0
    have g1 := keepc hb5 d1
    have fg1 := keepf hb5 d1 fd1
    have g2 := keepc hb5 d2
    have fg2 := keepf hb5 d2 fd2
    have g3 := keepc hb5 d3
    have fg3 := keepf hb5 d3 fd3
    have g4 := keepc hb5 d4
    have fg4 := keepf hb5 d4 fd4
    clear KT4 hb5 HB4 y0 y1 y2 y3 y4 d0 fd0 d1 fd1 d2 fd2 d3 fd3 d4 fd4
    go_wp2
    refine bodyPost_ret (v := .tuple #[.agg #[.int .i64 0, .int .i64 0, .int .i64 0, .int .i64 0, .slice none 0 0], .int .i64 18]) (by simp [results, Tryd.results12, go_sem, *]) rfl ⟨by rw [HE9.out.1, HE9.out.2], by first | exact HB5.out | exact bset5 HB5.out _ _ _ _ _⟩
  have HE2 : Hid (E = if l.length < 16 + 4 * rN l then 22 else 0) := by show _ = _; rw [HE1.out, if_neg (by have := HX3.out; omega)]
  rw [decide_eq_false h1] at KT4
  clear HE1 KT
  go_wp2_with fail
  refine KT4.mono ?_
  rintro e5 w5 ⟨rfl, hb5⟩
  have HB5 := hid13 (keepb hb5 HB4.out)
  have g0 := keepc hb5 d0
  have fg0 := keepf hb5 d0 fd0
  have g1 := keepc hb5 d1
  have fg1 := keepf hb5 d1 fd1
  have g2 := keepc hb5 d2
  have fg2 := keepf hb5 d2 fd2
  have g3 := keepc hb5 d3
  have fg3 := keepf hb5 d3 fd3
  have g4 := keepc hb5 d4
  have fg4 := keepf hb5 d4 fd4
  have HX6 := hid13 (HX5.out.keep hb5)
  have hne5 : Hid (¬ w2.heap.size = w.heap.size) := hne
  clear KT4 hb5 HB4 y0 y1 y2 y3 y4 HX5 d0 fd0 d1 fd1 d2 fd2 d3 fd3 d4 fd4
  have y0 := HX6.out.2 0 _ rfl
  have y1 := HX6.out.2 1 _ rfl
  have y2 := HX6.out.2 2 _ rfl
  have y3 := HX6.out.2 3 _ rfl
  have y4 := HX6.out.2 4 _ rfl
  have KZ5 := KZ w5
  obtain ⟨sz, hsz⟩ : ∃ s : Int, s = 16 + x3 * 4 := ⟨_, rfl⟩
  rw [← hsz] at KZ5
  have HSZ := hid13 hsz
  clear KZ hsz
  by_cases h2 : (l.length : Int) < sz
  · have HE9 : Hid (E = 22 ∧ RV = .agg #[.int .i64 0, .int .i64 0, .int .i64 0, .int .i64 0, .slice none 0 0]) := by
      have h3 : E = 22 := by rw [HE2.out, if_pos (by have := HX3.out; have := HSZ.out; omega)]
      exact ⟨h3, by rw [HRV.out, if_neg (by rw [h3]; decide)]⟩
    clear HE2 HRV
    go_wp2_with fail
    refine KZ5.mono ?_
    rintro e6 w6 ⟨rfl, hb6⟩
    have HB6 := hid13 (keepb hb6 HB5.out)
    have k0 := keepc hb6 g0
    have fk0 := keepf hb6 g0 fg0
    have k1 := keepc hb6 g1
    have fk1 := keepf hb6 g1 fg1
    have k2 := keepc hb6 g2
    have fk2 := keepf hb6 g2 fg2
    have k3 := keepc hb6 g3
    have fk3 := keepf hb6 g3 fg3
    have k4 := keepc hb6 g4
    have fk4 := keepf hb6 g4 fg4
    clear KZ5 hb6 HB5 y0 y1 y2 y3 y4 g0 fg0 g1 fg1 g2 fg2 g3 fg3 g4 fg4
    go_wp2
    refine bodyPost_ret (v := .tuple #[.agg #[.int .i64 0, .int .i64 0, .int .i64 0, .int .i64 0, .slice none 0 0], .int .i64 22]) (by simp [results, Tryd.results12, go_sem, *]) rfl ⟨by rw [HE9.out.1, HE9.out.2], by first | exact HB6.out | exact bset5 HB6.out _ _ _ _ _⟩
  have HE9 : Hid (E = 0 ∧ RV = .agg #[.int .i64 x0, .int .i64 x1, .int .i64 x2, .int .i64 x3, .slice (some ⟨b, off, none⟩) l.length c]) := by
    have h3 : E = 0 := by rw [HE2.out, if_neg (by have := HX3.out; have := HSZ.out; omega)]
    exact ⟨h3, by rw [HRV.out, if_pos h3]⟩
  clear HE2 HRV
  go_wp2_with fail
  refine KZ5.mono ?_
  rintro e6 w6 ⟨rfl, hb6⟩
  have HB6 := hid13 (keepb hb6 HB5.out)
  have k0 := keepc hb6 g0
  have fk0 := keepf hb6 g0 fg0
  have k1 := keepc hb6 g1
  have fk1 := keepf hb6 g1 fg1
  have k2 := keepc hb6 g2
  have fk2 := keepf hb6 g2 fg2
  have k3 := keepc hb6 g3
  have fk3 := keepf hb6 g3 fg3
  have k4 := keepc hb6 g4
  have fk4 := keepf hb6 g4 fg4
  have HX7 := hid13 (HX6.out.keep hb6)
  clear KZ5 hb6 HB5 y0 y1 y2 y3 y4 HX6 g0 fg0 g1 fg1 g2 fg2 g3 fg3 g4 fg4
  have y0 := HX7.out.2 0 _ rfl
  have y1 := HX7.out.2 1 _ rfl
  have y2 := HX7.out.2 2 _ rfl
  have y3 := HX7.out.2 3 _ rfl
  have y4 := HX7.out.2 4 _ rfl
  go_wp2
  refine bodyPost_ret (v := .tuple #[.agg #[.int .i64 x0, .int .i64 x1, .int .i64 x2, .int .i64 x3, .slice (some ⟨b, off, none⟩) l.length c], .int .i64 0]) (by simp [results, Tryd.results12, go_sem, *]) rfl ⟨by rw [HE9.out.1, HE9.out.2], by first | exact HB6.out | exact bset5 HB6.out _ _ _ _ _⟩
end Go.Proofs.YtjgpbahglkaijaaDoor
namespace Go.Proofs.YtjgpbahglkaijaaDoor
open Go.RowKit Go.Shelf
set_option linter.unusedSimpArgs false
set_option linter.unusedVariables false

section
variable {P : Program}
end
end Go.Proofs.YtjgpbahglkaijaaDoor
namespace Go.Proofs.YtjgpbahglkaijaaDoor
open Go.RowKit Go.Shelf
set_option linter.unusedSimpArgs false
set_option linter.unusedVariables false
attribute [local go_sem] Oper.semAt_some

set_option maxRecDepth 20000 in
set_option maxHeartbeats 2000000 in
theorem clone14 (v : Value) (l : List Nat) (w : World) (hA : RowA w 1 v l.length (l.map cB)) (hl : l.length ≤ 140737480000000) :
    Calls Tryd.prog 16 #[v] w fun e w' => ∃ v', e = .returned v' ∧ w'.ownsRow w.heap.size 5 1 v' l.length (l.map cB) ∧ Below w.heap.size w w' := by
  obtain ⟨i0, hi, hz0, hz1, hz2⟩ := info13 Tryd.infoB13
  obtain ⟨-, ao, c, hvf, -⟩ := id hA
  subst hvf
  have hq : ∀ (w : World) (a : Option Addr) (n c n' c' : Nat), (binOp .eql 22 (.slice a n c) (.slice none n' c')).run Tryd.prog w = .ok (.bool a.isNone) w := fun w a n c n' c' => Lib.run_eql_slice_nil w 22 5 a n c n' c' Tryd.underlying22
  have q3 := bl1 w (.cells #[] 5)
  have HR3 := hid13 (hA.below q3)
  have HO3 : Hid ((w.alloc (.cells #[] 5)).ownsRow w.heap.size 5 1 (.slice (some ⟨w.heap.size, 0, none⟩) 0 0) 0 []) := World.ownsRow_made w #[] 0 (Nat.le_refl _) (by unfold maxLen; omega) (by simp)
  have HQ := hid13 q3
  cases ao with
  | none =>
    have hl0 : l = [] := by
      obtain ⟨-, ao', c', e, -, h⟩ := hA
      injection e with e1 e2 e3
      subst e1
      rcases h with ⟨-, -, h⟩ | ⟨b, h, -⟩
      · simpa using h
      · cases h
    subst hl0
    clear hA q3 HR3 HO3 HQ
    go_enter Tryd.func16, Tryd.ntmps16
    go_wp2
    go_ret
    exact ⟨_, rfl, World.ownsRow_nil _ _ _ _, Below.refl _ _⟩
  | some ad =>
    clear hA
    go_enter Tryd.func16, Tryd.ntmps16
    go_wp2_with (at_builtin; apply stopHere9)
    refine (show wpList _ _ _ _ _ _ from ?_)
    refine wpList_append_rowA rfl _ _ 22 rfl w.heap.size 5 i0 (.int .u8 0) 1 1 Tryd.underlying22 hi hz0 hz1 hz2 rfl (by decide) _ 0 [] rfl HO3.out _ l.length (l.map cB) rfl HR3.out (cB_one l) (by unfold maxLen; omega) (by omega) q3.size ?_
    intro ao4 c4 w4 hO4 hg4
    rw [Nat.zero_add, List.nil_append] at hO4
    rw [Nat.zero_add]
    have HB4 : Hid (Below w.heap.size w w4) := hid13 (HQ.out.grown hg4 HQ.out.size (fun z hz => (HO3.out.lt z hz).1))
    have HO4 := hid13 hO4
    clear hO4 hg4 q3 HR3 HO3 HQ
    go_wp2
    go_ret
    exact ⟨_, rfl, HO4.out, HB4.out⟩
end Go.Proofs.YtjgpbahglkaijaaDoor
