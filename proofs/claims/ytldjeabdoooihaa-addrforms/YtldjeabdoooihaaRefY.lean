/-
  What the call of turnpikeref2's Parse does, of the family 128.
-/
import Derived.Test.YtldjeabdoooihaaRefX
namespace Go.Proofs.Ytldjeabdoooihaa
open Go.RowKit
set_option linter.unusedSimpArgs false
set_option linter.unusedVariables false

theorem At.wset {w : World} {B : Nat} {y : BitVec 128} (h : At w B y) (z : BitVec 128) (he : hI y = hI z) : At (w.setCell ⟨B, 1, none⟩ (.int .u64 (lI z))) B z := by
  obtain ⟨h0, h1, h2, h3, h4⟩ := h
  refine ⟨?_, ?_, ?_, ?_, ?_⟩ <;> simp [go_sem, *]
theorem At.wother {w : World} {B C : Nat} {x : BitVec 128} (h : At w B x) (hn : ¬ C = B) (o : Nat) (v : Value) : At (w.setCell ⟨C, o, none⟩ v) B x := by
  obtain ⟨h0, h1, h2, h3, h4⟩ := h
  have hn' : ¬ B = C := fun e => hn e.symm
  refine ⟨?_, ?_, ?_, ?_, ?_⟩ <;> simp [go_sem, *]
theorem cell_wother {w : World} {b o C p : Nat} {u : Value} (h : w.cell? ⟨b, o, none⟩ = some u) (hn : ¬ C = b) (v : Value) : (w.setCell ⟨C, p, none⟩ v).cell? ⟨b, o, none⟩ = some u := by
  have hn' : ¬ b = C := fun e => hn e.symm
  simp [go_sem, *]

set_option maxHeartbeats 8000000 in
theorem rparse_sixA (t : ByteArray) (w : World) (hl : t.size ≤ 60) (hg : gapV t < 0) :
    Calls Try.prog 8 #[.int .i64 128, .string t] w fun e w' => e = .returned (.tuple #[.agg #[.int .u64 (hI (outV (rsA t))), .int .u64 (lI (outV (rsA t)))], .int .i64 (outE (rsA t))]) ∧ Below w.heap.size w w' := by
  have KI := fun w => isFamily_any 128 w
  have hl2 : ¬ (60 : Int) < (t.size : Int) := by omega
  have KG := fun w => gap_any t w (by omega)
  have KR := fun w => groups_any t true w (by omega)
  have HBG : Hid (∀ xs, gsO t true = some xs → ∀ x ∈ xs, 0 ≤ x ∧ x ≤ 65535) := gsO_bd t true
  have HRS : Hid (rsA t = match gsO t true with | some m => if m.length = 8 then some m else none | none => none) := rfl
  generalize gapV t = a at *
  go_enter Try.func8, Try.ntmps8
  go_wp2_with fail
  refine (KI _).mono ?_
  rintro e w1 ⟨rfl, hw1⟩
  rw [hw1]; clear hw1 KI
  go_wp2_with fail
  refine (KG _).mono ?_
  rintro e w1 ⟨rfl, hw1⟩
  rw [hw1]; clear hw1 KG
  go_wp2_with fail
  refine (KR _).mono ?_
  rintro e w2 ⟨hor, hb2⟩
  clear KR
  have hZ := (at_new w w.heap.size 0#128 24 rfl).below hb2
  have kB := keepb hb2 (bl1 w _)
  clear hb2
  rcases hor with ⟨hno, rfl⟩ | ⟨L, ao, cp, hso, rfl, hown⟩
  · have HF : Hid (rsA t = none) := by show _ = _; rw [HRS.out, hno]
    obtain ⟨z0, z1, z2, z3, z4⟩ := hZ
    go_wp2
    exact bodyPost_ret (v := .tuple #[.agg #[.int .u64 0, .int .u64 0], .int .i64 12]) (by simp [results, Try.results8, go_sem, *]) rfl ⟨by rw [HF.out]; show _ = Ending.returned (.tuple #[.agg #[.int .u64 (hI 0#128), .int .u64 (lI 0#128)], .int .i64 12]); rw [hI_zero, lI_zero], bset2 kB (Nat.le_refl _) _ _⟩
  · by_cases h8 : L.length = 8
    · have HF : Hid (rsA t = some L) := by show _ = _; rw [HRS.out, hso]; exact if_pos h8
      rw [h8] at hown
      obtain ⟨g, c2, hv, hgl, hgr⟩ := hown.form (by omega)
      have hv2 : ao = some ⟨g, 0, none⟩ ∧ cp = c2 := by
        injection hv with e1 e2 e3; exact ⟨e1, e3⟩
      obtain ⟨rfl, rfl⟩ := hv2
      have hrow : Hid (∀ j, j < 8 → w2.cell? ⟨g, j, none⟩ = some (.int .i64 (L.getD j 0))) := fun j hj => row_int hown h8.symm j hj
      have HB : Hid (∀ j, j < 8 → 0 ≤ L.getD j 0 ∧ L.getD j 0 ≤ 65535) := fun j hj => by
        have := HBG.out L hso (L.getD j 0) (by rw [List.getD_eq_getElem?_getD, List.getElem?_eq_getElem (by omega)]; exact List.getElem_mem _)
        exact this
      have hgl' := (hown.lt g rfl).2
      have HXX : Hid (outV (rsA t) = gW L 8 ∧ outE (rsA t) = 0) := by show _ ∧ _; rw [HF.out]; exact ⟨rfl, rfl⟩
      clear HF
      rw [h8]
      have hgB : w.heap.size + 1 ≤ g := by simpa using (hown.lt g rfl).1
      clear HBG HRS hown hv hgl hgr hso
      go_wp2
      go_loopw [17] (fun q wr => ∃ k : Nat, k ≤ 8 ∧ q = .int .i64 k ∧ At wr w2.heap.size (gW L k) ∧ Hid (∀ j, j < 8 → wr.cell? ⟨g, j, none⟩ = some (.int .i64 (L.getD j 0))) ∧ At wr w.heap.size 0#128 ∧ Below w.heap.size w wr) (fun q _ => 8 - (intOf q).toNat)
      case atStart =>
        refine ⟨0, by omega, rfl, ?_, fun j hj => keepc (bl1 _ _) (hrow.out j hj), hZ.below (bl1 _ _), kB.alloc kB.size _⟩
        show At _ _ 0#128
        refine ⟨?_, ?_, ?_, ?_, ?_⟩ <;> simp [go_sem, hI_zero, lI_zero]
      case round =>
        have hZW := hZ.2.2.2.2
        clear hrow hZ kB
        obtain ⟨k, hk, rfl, X, hrow, hZ, kB⟩ := hrel
        by_cases hlt : k < 8
        · have hk2 : (k : Int) < 8 := by omega
          obtain ⟨v0, v1⟩ := HB.out k hlt
          have hc := hrow.out k hlt
          have KS : ∀ w, Calls Try.prog 19 #[.agg #[.int .u64 (hI (gW L k)), .int .u64 (lI (gW L k))], .int .i64 16] w fun e w' => e = .returned (.agg #[.int .u64 (hI (gW L k <<< 16)), .int .u64 (lI (gW L k <<< 16))]) ∧ Below w.heap.size w w' := fun w => rshl_any (gW L k) 16 w
          have HW : Hid (gW L (k + 1) = (gW L k <<< 16) ||| mkW 0 (L.getD k 0)) := rfl
          obtain ⟨o1, o2⟩ := orLo (gW L k <<< 16) (L.getD k 0) v0 v1
          rw [← HW.out] at o1 o2
          obtain ⟨z, HZ⟩ : ∃ z, Hid (gW L (k + 1) = z) := ⟨_, rfl⟩
          rw [HZ.out] at o1 o2
          generalize gW L k <<< 16 = y at *
          generalize gW L k = x at *
          generalize L.getD k 0 = v at *
          have hcv : IntKind.u64.wrap v = v := by simp [IntKind.wrap, IntKind.bits, IntKind.signed]; omega
          have HO2 : Hid (hI y = hI z) := o2
          clear HW o2
          obtain ⟨x0, x1, x2, x3, x4⟩ := id X
          go_wp2_with fail
          refine (KS _).mono ?_
          rintro e w5 ⟨rfl, hb5⟩
          clear KS x0 x1 x2 x3 x4
          have hs5 := hb5.size
          have X5 := (X.below hb5).set y
          have hZ5 := (hZ.below hb5).other (.int .u64 (hI y)) (.int .u64 (lI y)) (C := w2.heap.size) (by omega)
          have kB5 := bset2 (keepb hb5 kB) (C := w2.heap.size) (by omega) (.int .u64 (hI y)) (.int .u64 (lI y))
          have hrow5 : Hid (∀ j, j < 8 → ((w5.setCell ⟨w2.heap.size, 0, none⟩ (.int .u64 (hI y))).setCell ⟨w2.heap.size, 1, none⟩ (.int .u64 (lI y))).cell? ⟨g, j, none⟩ = some (.int .i64 (L.getD j 0))) := fun j hj => cell_wother (cell_wother (keepc hb5 (hrow.out j hj)) (by omega) _) (by omega) _
          have hc5 := cell_wother (p := 1) (cell_wother (p := 0) (keepc hb5 hc) (show ¬ w2.heap.size = g by omega) (.int .u64 (hI y))) (show ¬ w2.heap.size = g by omega) (.int .u64 (lI y))
          obtain ⟨y0, y1, y2, y3, y4⟩ := X.below hb5
          obtain ⟨x0, x1, x2, x3, x4⟩ := id X5
          clear X hZ kB hb5 hrow hc
          go_wp2_with fail
          go_region
          all_goals
            go_wp2
            go_roundw
            case rel => exact ⟨k + 1, by omega, by go_num, by rw [HZ.out]; exact (X5.wset z HO2.out).drew, fun j hj => cell_wother (hrow5.out j hj) (by omega) _, (hZ5.wother (by omega) _ _).drew, (kB5.setCell (p := ⟨w2.heap.size, 1, none⟩) (show w.heap.size ≤ w2.heap.size by omega) _).drew⟩
            case measure => simp [intOf]; omega
        · have hk8 : k = 8 := by omega
          subst hk8
          obtain ⟨x, HXE⟩ : ∃ x, Hid (gW L 8 = x) := ⟨_, rfl⟩
          rw [HXE.out] at X
          obtain ⟨x0, x1, x2, x3, x4⟩ := id X
          obtain ⟨z0, z1, z2, z3, z4⟩ := id hZ
          clear hrow HB
          go_wp2
          exact bodyPost_ret (v := .tuple #[.agg #[.int .u64 (hI x), .int .u64 (lI x)], .int .i64 0]) (by simp [results, Try.results8, go_sem, *]) rfl ⟨by rw [HXX.out.1, HXX.out.2, HXE.out], bset2 kB (Nat.le_refl _) _ _⟩
    · have HF : Hid (rsA t = none) := by show _ = _; rw [HRS.out, hso]; exact if_neg h8
      have h8' : ((L.length : Int) != 8) = true := by simp; omega
      obtain ⟨z0, z1, z2, z3, z4⟩ := hZ
      clear hown
      go_wp2
      exact bodyPost_ret (v := .tuple #[.agg #[.int .u64 0, .int .u64 0], .int .i64 12]) (by simp [results, Try.results8, go_sem, *]) rfl ⟨by rw [HF.out]; show _ = Ending.returned (.tuple #[.agg #[.int .u64 (hI 0#128), .int .u64 (lI 0#128)], .int .i64 12]); rw [hI_zero, lI_zero], bset2 kB (Nat.le_refl _) _ _⟩
end Go.Proofs.Ytldjeabdoooihaa
