/-
  Part 28 of the proof: 3 texts, one behind the other.
-/
import Derived.Test.YtmeaikmmhgmgnaaGreatPart27
import Derived.Test.YtmeaikmmhgmgnaaGreatPart7
import Derived.Test.YtmeaikmmhgmgnaaGreatPart10
/-
  What the call of turnpikeref2's Parse does, of the family 128, where there is a gap.
-/
namespace Go.Proofs.YtmeaikmmhgmgnaaGreat
open Go.RowKit
set_option linter.unusedSimpArgs false
set_option linter.unusedVariables false

set_option maxHeartbeats 8000000 in
set_option maxRecDepth 20000 in
theorem rparse_sixB (t : ByteArray) (w : World) (p : Nat) (hl : t.size ≤ 60) (hg : gapV t = p) :
    Calls Tryz.prog 76 #[.int .i64 128, .string t] w fun e w' => e = .returned (.tuple #[.agg #[.int .u64 (hI (outV (rsB t p))), .int .u64 (lI (outV (rsB t p)))], .int .i64 (outE (rsB t p))]) ∧ Below w.heap.size w w' := by
  obtain ⟨i0, hi, hz0, hz1, hz2⟩ := info_parts Tryz.infoI
  have hpb := gapV_bd t (by omega)
  rw [hg] at hpb
  have KI := fun w => isFamily_any 128 w
  have hl2 : ¬ (60 : Int) < (t.size : Int) := by omega
  have KG := fun w => gap_any t w (by omega)
  rw [hg] at KG
  have KA := fun w => groups_any (t.extract 0 p) false w (by simp; omega)
  have KB := fun w => groups_any (t.extract (p + 2) t.size) true w (by simp; omega)
  have HBA : Hid (∀ xs, gsO (t.extract 0 p) false = some xs → ∀ x ∈ xs, 0 ≤ x ∧ x ≤ 65535) := gsO_bd _ _
  have HBB : Hid (∀ xs, gsO (t.extract (p + 2) t.size) true = some xs → ∀ x ∈ xs, 0 ≤ x ∧ x ≤ 65535) := gsO_bd _ _
  have HLA : Hid (∀ xs, gsO (t.extract 0 p) false = some xs → xs.length ≤ 1000) := fun xs e => by have := gsO_len _ _ _ e; simp at this; omega
  have HLB : Hid (∀ xs, gsO (t.extract (p + 2) t.size) true = some xs → xs.length ≤ 1000) := fun xs e => by have := gsO_len _ _ _ e; simp at this; omega
  have HRN : Hid (∀ {o}, gsO (t.extract 0 p) false = none → rsB t p = o → o = none) := by
    intro o h1 h2; rw [← h2]; unfold rsB; rw [h1]
  have HRM : Hid (∀ {A o}, gsO (t.extract 0 p) false = some A → gsO (t.extract (p + 2) t.size) true = none → rsB t p = o → o = none) := by
    intro A o h1 h2 h3; rw [← h3]; unfold rsB; rw [h1, h2]
  have HRS : Hid (∀ {A B}, gsO (t.extract 0 p) false = some A → gsO (t.extract (p + 2) t.size) true = some B → rsB t p = if A.length + B.length ≤ 7 then some (A ++ List.replicate (8 - (A.length + B.length)) 0 ++ B) else none) := by
    intro A B h1 h2; unfold rsB; rw [h1, h2]
  have p0 : ¬ (p : Int) < 0 := by omega
  have hps : (p : Int) ≤ (t.size : Int) := by omega
  obtain ⟨m, HMP⟩ : ∃ m, Hid (p + 2 = m) := ⟨_, rfl⟩
  rw [HMP.out] at KB
  have hu3 : (p : Int) + 2 = (m : Int) := by have := HMP.out; omega
  have hu2 : IntKind.i64.wrap (m : Int) = (m : Int) := by rw [IntKind.wrap_i64]; omega
  have hps2 : (m : Int) ≤ (t.size : Int) := by omega
  clear hg
  go_enter Tryz.func76, Tryz.ntmps76
  go_wp2_with fail
  refine (KI _).mono ?_
  rintro e w1 ⟨rfl, hw1⟩
  rw [hw1]; clear hw1 KI
  go_wp2_with fail
  refine (KG _).mono ?_
  rintro e w1 ⟨rfl, hw1⟩
  rw [hw1]; clear hw1 KG
  go_wp2_with fail
  refine (KA _).mono ?_
  rintro e w2 ⟨horA, hb2⟩
  clear KA
  have hZ := (at_new w w.heap.size 0#128 35 rfl).below hb2
  have kB := keepb hb2 (bl1 w _)
  clear hb2
  rcases horA with ⟨hnoA, rfl⟩ | ⟨A, ao, ac, hsoA, rfl, hownA⟩
  · have HF : Hid (rsB t p = none) := HRN.out hnoA rfl
    clear HRN HRM HRS HBA HBB
    go_wp2_with fail
    refine (KB _).mono ?_
    rintro e w3 ⟨horB, hb3⟩
    clear KB
    have hZ := hZ.below hb3
    have kB := keepb hb3 kB
    clear hb3
    obtain ⟨z0, z1, z2, z3, z4⟩ := hZ
    rcases horB with ⟨hnoB, rfl⟩ | ⟨B, bo, bc, hsoB, rfl, hownB⟩
    · go_wp2
      exact bodyPost_ret (v := .tuple #[.agg #[.int .u64 0, .int .u64 0], .int .i64 12]) (by simp [results, Tryz.results76, go_sem, *]) rfl ⟨by rw [HF.out]; show _ = Ending.returned (.tuple #[.agg #[.int .u64 (hI 0#128), .int .u64 (lI 0#128)], .int .i64 12]); rw [hI_zero, lI_zero], bset2 kB (Nat.le_refl _) _ _⟩
    · clear hownB
      go_wp2
      exact bodyPost_ret (v := .tuple #[.agg #[.int .u64 0, .int .u64 0], .int .i64 12]) (by simp [results, Tryz.results76, go_sem, *]) rfl ⟨by rw [HF.out]; show _ = Ending.returned (.tuple #[.agg #[.int .u64 (hI 0#128), .int .u64 (lI 0#128)], .int .i64 12]); rw [hI_zero, lI_zero], bset2 kB (Nat.le_refl _) _ _⟩
  · go_wp2_with fail
    refine (KB _).mono ?_
    rintro e w3 ⟨horB, hb3⟩
    clear KB
    have hZ := hZ.below hb3
    have kB := keepb hb3 kB
    have hownA := rowBelow hb3 hownA
    rw [← HMP.out] at horB
    rcases horB with ⟨hnoB, rfl⟩ | ⟨B, bo, bc, hsoB, rfl, hownB⟩
    · have HF : Hid (rsB t p = none) := HRM.out hsoA hnoB rfl
      clear HRN HRM HRS HBA HBB hb3 hownA
      obtain ⟨z0, z1, z2, z3, z4⟩ := hZ
      go_wp2
      exact bodyPost_ret (v := .tuple #[.agg #[.int .u64 0, .int .u64 0], .int .i64 12]) (by simp [results, Tryz.results76, go_sem, *]) rfl ⟨by rw [HF.out]; show _ = Ending.returned (.tuple #[.agg #[.int .u64 (hI 0#128), .int .u64 (lI 0#128)], .int .i64 12]); rw [hI_zero, lI_zero], bset2 kB (Nat.le_refl _) _ _⟩
    · by_cases h7 : A.length + B.length ≤ 7
      · have HF : Hid (rsB t p = some (A ++ List.replicate (8 - (A.length + B.length)) 0 ++ B)) := by
          show _ = _
          rw [HRS.out hsoA hsoB, if_pos h7]
        have h7' : ¬ (7 : Int) < (A.length : Int) + (B.length : Int) := by omega
        have HBA' := HBA.out A hsoA
        have HBB' := HBB.out B hsoB
        have hbl := fun k hk => (hownB.lt k hk).2
        have hZ3 := hZ.2.2.2.2
        have hua : IntKind.i64.wrap ((A.length : Int) + (B.length : Int)) = (A.length : Int) + (B.length : Int) := by rw [IntKind.wrap_i64]; omega
        have h63a : 0 + A.length ≤ maxLen := by unfold maxLen; omega
        have h47a : (0 + A.length) * 8 ≤ 140737488355328 := by omega
        clear HRN HRM HRS HBA HBB hb3 hsoA hsoB
        go_wp2_with (first | (at_builtin; refine wpList_append_rowZ rfl _ _ 89 rfl w3.heap.size 3 i0 (.int .i64 0) 8 Tryz.underlying89 hi hz0 hz1 hz2 rfl _ _ _ rfl (World.ownsRow_nil _ _ _ _) _ _ _ _ rfl hownA (onesI _) h63a h47a (Nat.le_refl _) ?_; intro ao4 cap4 w4 hown4 hgrow))
        have hgn : w3.grownBy w4 none := hgrow
        clear hgrow hownA
        have hZ4 := hZ.grownBy hgn (by simp)
        have kB4 : Below w.heap.size w w4 := kB.grown hgn kB.size (fun k hk => by cases hk)
        have hB4 : w4.ownsRow w2.heap.size 3 1 (.slice bo B.length bc) B.length (ints B) := hownB.kept hgn (by
          cases h : (Value.slice bo B.length bc).ownBlock with
          | none => exact Or.inl rfl
          | some k => exact Or.inr (by simp))
        have hs4 := hgn.size
        rw [Nat.zero_add, List.nil_append] at hown4
        clear hZ kB hownB hgn
        (try go_wp2)
        go_loopw [8] (fun q wr => ∃ (n j : Nat) (ao : Option Addr) (cp : Nat), q = .slice ao n cp ∧ Hid (n = A.length + j) ∧ n + B.length ≤ 8 ∧ wr.ownsRow w3.heap.size 3 1 (.slice ao n cp) n (ints (A ++ List.replicate j 0)) ∧ wr.ownsRow w2.heap.size 3 1 (.slice bo B.length bc) B.length (ints B) ∧ At wr w.heap.size 0#128 ∧ Below w.heap.size w wr ∧ w3.heap.size ≤ wr.heap.size) (fun q _ => 8 - sliceLen q)
        case atStart => exact ⟨A.length, 0, ao4, cap4, rfl, rfl, by omega, by simpa using hown4, hB4, hZ4, kB4, hs4⟩
        case round =>
          clear hown4 hB4 hZ4 kB4 hs4
          obtain ⟨n, j, ao6, cp6, rfl, HN, hn8, hown, hownB, hZ, kB, hw3⟩ := hrel
          have hun : IntKind.i64.wrap ((n : Int) + (B.length : Int)) = (n : Int) + (B.length : Int) := by rw [IntKind.wrap_i64]; omega
          have hkBs := kB.size
          by_cases hlt : n + B.length < 8
          · have hlt2 : (n : Int) + (B.length : Int) < 8 := by omega
            have h63 : n + 1 ≤ maxLen := by unfold maxLen; omega
            have h47 : (n + 1) * 8 ≤ 140737488355328 := by omega
            go_wp2_with (first | (at_builtin; refine wpList_append_lies _ rfl _ _ 89 rfl w3.heap.size 3 i0 (.int .i64 0) 1 8 Tryz.underlying89 hi hz0 hz1 hz2 rfl (by decide) _ _ _ rfl (hown.alloc _) ⟨wr.heap.size, 0, none⟩ 1 1 [.int .i64 0] rfl rfl (newsS _ _ _) (oneI _) (by decide) h63 h47 (by simp; omega) _ rfl ?_; intro g5 cap5 w5 hown5 hgrow hat hlt5))
            have kB5 : Below w.heap.size w w5 := (kB.alloc hkBs _).grown hgrow (by simp; omega) (fun q hq => by have := (hown.lt q hq).1; omega)
            have hZ5 := (hZ.below (bl1 _ _)).grownBy hgrow (fun e => by have := (hown.lt _ e.symm).1; omega)
            have hB5 := own_apart (hownB.alloc _) hbl (hown.alloc _) hgrow
            have hs5 : w3.heap.size ≤ w5.heap.size := by have := hgrow.size; simp at this; omega
            clear hgrow hat
            go_roundw
            case rel => exact ⟨n + 1, j + 1, some ⟨g5, 0, none⟩, cap5, rfl, by show _ = _; have := HN.out; omega, by omega, by rw [rep_ints]; exact hown5, hB5, hZ5, kB5, hs5⟩
            case measure => simp [sliceLen]; omega
          · have hlt2 : ¬ (n : Int) + (B.length : Int) < 8 := by omega
            have h63b : n + B.length ≤ maxLen := by unfold maxLen; omega
            have h47b : (n + B.length) * 8 ≤ 140737488355328 := by omega
            have HJ : Hid (j = 8 - (A.length + B.length)) := by show _ = _; have := HN.out; omega
            go_wp2_with (first | (at_builtin; refine wpList_append_rowZ rfl _ _ 89 rfl w3.heap.size 3 i0 (.int .i64 0) 8 Tryz.underlying89 hi hz0 hz1 hz2 rfl _ _ _ rfl hown _ _ _ _ rfl hownB (onesI _) h63b h47b hw3 ?_; intro ao5 cap5 w7 hown5 hgrow))
            have kB5 : Below w.heap.size w w7 := kB.grown hgrow hkBs (fun q hq => by have := (hown.lt q hq).1; omega)
            have hZ5 := hZ.grownBy hgrow (fun e => by have := (hown.lt _ e.symm).1; omega)
            have e8 : n + B.length = 8 := by omega
            rw [e8] at hown5
            try rw [e8]
            clear hgrow hZ kB hown hownB
            obtain ⟨g, c2, hv, hgl, hgr⟩ := hown5.form (by omega)
            have hv2 : ao5 = some ⟨g, 0, none⟩ ∧ cap5 = c2 := by
              injection hv with e1 e2 e3; exact ⟨e1, e3⟩
            obtain ⟨rfl, rfl⟩ := hv2
            obtain ⟨L, HLL⟩ : ∃ L : List Int, Hid (A ++ List.replicate j 0 ++ B = L) := ⟨A ++ List.replicate j 0 ++ B, rfl⟩
            have hown6 : w7.ownsRow w3.heap.size 3 1 (.slice (some ⟨g, 0, none⟩) 8 cap5) 8 (ints L) := by
              rw [← HLL.out]; unfold ints; rw [List.map_append]; exact hown5
            have h8 : L.length = 8 := by
              rw [← HLL.out]; simp; have := HN.out; omega
            have HXX : Hid (outV (rsB t p) = gW L 8 ∧ outE (rsB t p) = 0) := by
              show _ ∧ _
              rw [HF.out, ← HJ.out, HLL.out]; exact ⟨rfl, rfl⟩
            have hrow : Hid (∀ j, j < 8 → w7.cell? ⟨g, j, none⟩ = some (.int .i64 (L.getD j 0))) := fun j hj => row_int hown6 h8.symm j hj
            have HB : Hid (∀ j, j < 8 → 0 ≤ L.getD j 0 ∧ L.getD j 0 ≤ 65535) := fun i hi => by
              have hm : L.getD i 0 ∈ L := by rw [List.getD_eq_getElem?_getD, List.getElem?_eq_getElem (by omega)]; exact List.getElem_mem _
              rw [← HLL.out] at hm
              rw [← HLL.out]
              simp only [List.mem_append, List.mem_replicate] at hm
              rcases hm with (hm | hm) | hm
              · exact HBA' _ hm
              · rw [hm.2]; omega
              · exact HBB' _ hm
            have hgl' := (hown6.lt g rfl).2
            have hgB : w.heap.size + 1 ≤ g := by have := (hown6.lt g rfl).1; omega
            clear hown5 hown6 hv hgl hgr HF HJ HN HLL HBA' HBB' hbl
            have hZ := hZ5
            have kB := kB5
            clear hZ5 kB5
            go_wp2
            go_loopw [17] (fun q wr => ∃ k : Nat, k ≤ 8 ∧ q = .int .i64 k ∧ At wr w7.heap.size (gW L k) ∧ Hid (∀ j, j < 8 → wr.cell? ⟨g, j, none⟩ = some (.int .i64 (L.getD j 0))) ∧ At wr w.heap.size 0#128 ∧ Below w.heap.size w wr) (fun q _ => 8 - (intOf q).toNat)
            case atStart =>
              refine ⟨0, by omega, rfl, ?_, fun j hj => keepc (bl1 _ _) (hrow.out j hj), hZ.below (bl1 _ _), kB.alloc kB.size _⟩
              show At _ _ 0#128
              refine ⟨?_, ?_, ?_, ?_, ?_⟩ <;> simp [go_sem, hI_zero, lI_zero]
            case round =>
              have hZW := hZ.2.2.2.2
              clear hrow hZ kB
              obtain ⟨k, hk, rfl, X, hrow, hZ, kB⟩ := hrel
              by_cases hlt : k < 8
              · have hk2 : (k : Int) < 8 := by omega
                obtain ⟨v0, v1⟩ := HB.out k hlt
                have hc := hrow.out k hlt
                have KS : ∀ w, Calls Tryz.prog 97 #[.agg #[.int .u64 (hI (gW L k)), .int .u64 (lI (gW L k))], .int .i64 16] w fun e w' => e = .returned (.agg #[.int .u64 (hI (gW L k <<< 16)), .int .u64 (lI (gW L k <<< 16))]) ∧ Below w.heap.size w w' := fun w => rshl_any (gW L k) 16 w
                have HW : Hid (gW L (k + 1) = (gW L k <<< 16) ||| mkW 0 (L.getD k 0)) := rfl
                obtain ⟨o1, o2⟩ := orLo (gW L k <<< 16) (L.getD k 0) v0 v1
                rw [← HW.out] at o1 o2
                obtain ⟨z, HZ⟩ : ∃ z, Hid (gW L (k + 1) = z) := ⟨_, rfl⟩
                rw [HZ.out] at o1 o2
                generalize gW L k <<< 16 = y at *
                generalize gW L k = x at *
                generalize L.getD k 0 = v at *
                have hcv : IntKind.u64.wrap v = v := by simp [IntKind.wrap, IntKind.bits, IntKind.signed]; omega
                have HO2 : Hid (hI y = hI z) := o2
                clear HW o2
                obtain ⟨x0, x1, x2, x3, x4⟩ := id X
                go_wp2_with fail
                refine (KS _).mono ?_
                rintro e w5 ⟨rfl, hb5⟩
                clear KS x0 x1 x2 x3 x4
                have hs5 := hb5.size
                have X5 := (X.below hb5).set y
                have hZ5 := (hZ.below hb5).other (.int .u64 (hI y)) (.int .u64 (lI y)) (C := w7.heap.size) (by omega)
                have kB5 := bset2 (keepb hb5 kB) (C := w7.heap.size) (by omega) (.int .u64 (hI y)) (.int .u64 (lI y))
                have hrow5 : Hid (∀ j, j < 8 → ((w5.setCell ⟨w7.heap.size, 0, none⟩ (.int .u64 (hI y))).setCell ⟨w7.heap.size, 1, none⟩ (.int .u64 (lI y))).cell? ⟨g, j, none⟩ = some (.int .i64 (L.getD j 0))) := fun j hj => cell_wother (cell_wother (keepc hb5 (hrow.out j hj)) (by omega) _) (by omega) _
                have hc5 := cell_wother (p := 1) (cell_wother (p := 0) (keepc hb5 hc) (show ¬ w7.heap.size = g by omega) (.int .u64 (hI y))) (show ¬ w7.heap.size = g by omega) (.int .u64 (lI y))
                obtain ⟨y0, y1, y2, y3, y4⟩ := X.below hb5
                obtain ⟨x0, x1, x2, x3, x4⟩ := id X5
                clear X hZ kB hb5 hrow hc
                go_wp2_with fail
                go_region
                all_goals
                  go_wp2
                  go_roundw
                  case rel => exact ⟨k + 1, by omega, by go_num, by rw [HZ.out]; exact (X5.wset z HO2.out).drew, fun j hj => cell_wother (hrow5.out j hj) (by omega) _, (hZ5.wother (by omega) _ _).drew, (kB5.setCell (p := ⟨w7.heap.size, 1, none⟩) (show w.heap.size ≤ w7.heap.size by omega) _).drew⟩
                  case measure => simp [intOf]; omega
              · have hk8 : k = 8 := by omega
                subst hk8
                obtain ⟨x, HXE⟩ : ∃ x, Hid (gW L 8 = x) := ⟨_, rfl⟩
                rw [HXE.out] at X
                obtain ⟨x0, x1, x2, x3, x4⟩ := id X
                obtain ⟨z0, z1, z2, z3, z4⟩ := id hZ
                clear hrow HB
                go_wp2
                exact bodyPost_ret (v := .tuple #[.agg #[.int .u64 (hI x), .int .u64 (lI x)], .int .i64 0]) (by simp [results, Tryz.results76, go_sem, *]) rfl ⟨by rw [HXX.out.1, HXX.out.2, HXE.out], bset2 kB (Nat.le_refl _) _ _⟩
      · have HF : Hid (rsB t p = none) := by
          show _ = _
          rw [HRS.out hsoA hsoB, if_neg h7]
        have h7' : (7 : Int) < (A.length : Int) + (B.length : Int) := by omega
        have la := HLA.out A hsoA
        have lb := HLB.out B hsoB
        have hua : IntKind.i64.wrap ((A.length : Int) + (B.length : Int)) = (A.length : Int) + (B.length : Int) := by rw [IntKind.wrap_i64]; omega
        clear HRN HRM HRS HBA HBB hb3 hownA hownB
        obtain ⟨z0, z1, z2, z3, z4⟩ := hZ
        go_wp2
        exact bodyPost_ret (v := .tuple #[.agg #[.int .u64 0, .int .u64 0], .int .i64 12]) (by simp [results, Tryz.results76, go_sem, *]) rfl ⟨by rw [HF.out]; show _ = Ending.returned (.tuple #[.agg #[.int .u64 (hI 0#128), .int .u64 (lI 0#128)], .int .i64 12]); rw [hI_zero, lI_zero], bset2 kB (Nat.le_refl _) _ _⟩
end Go.Proofs.YtmeaikmmhgmgnaaGreat
/-
  The law AddrReads, walked.
-/
namespace Go.Proofs.YtmeaikmmhgmgnaaGreat
open Go.RowKit
set_option linter.unusedSimpArgs false
set_option linter.unusedVariables false

theorem rparse2_any (F : Int) (t : ByteArray) (w : World) (hs : t.size ≤ maxLen) :
    Calls Tryz.prog 76 #[.int .i64 F, .string t] w fun e w' => e = .returned (.tuple #[.agg #[.int .u64 (hI (rpV F t)), .int .u64 (lI (rpV F t))], .int .i64 (rpE F t)]) ∧ Below w.heap.size w w' := by
  unfold rpV rpE
  cases hf : fam F
  · simp only [true_or, if_true, hI_zero, lI_zero]
    exact rparse_fam F t w hf
  · simp only [Bool.true_eq_false, false_or, if_false]
    by_cases hl : 60 < t.size
    · simp only [hl, if_true, hI_zero, lI_zero]
      exact rparse_long F t w hf hs hl
    · simp only [hl, if_false]
      rcases fam_ways F hf with rfl | rfl
      · simp only [if_true]
        exact rparse_four t w (by omega)
      · simp only [show ¬ (128 : Int) = 32 by decide, if_false]
        unfold rsO
        by_cases hg : gapV t < 0
        · rw [if_pos hg]
          exact rparse_sixA t w (by omega) hg
        · rw [if_neg hg]
          exact rparse_sixB t w (gapV t).toNat (by omega) (by omega)

end Go.Proofs.YtmeaikmmhgmgnaaGreat
/-
  What a call of the reference's Parse of prefixes does: what the program's does.
-/

namespace Go.Proofs.YtmeaikmmhgmgnaaGreat
open Go.RowKit
set_option linter.unusedSimpArgs false
set_option linter.unusedVariables false
def bL (l : List UInt8) : ByteArray := ⟨l.toArray⟩
theorem bL_size (l : List UInt8) : (bL l).size = l.length := rfl
theorem bL_at (l : List UInt8) (k : Nat) : byteAt (bL l) k = ((l.getD k 0).toNat : Int) := by
  unfold byteAt
  by_cases h : k < l.length
  · rw [dif_pos (by rw [bL_size]; exact h), List.getD_eq_getElem?_getD, List.getElem?_eq_getElem h]
    rfl
  · rw [dif_neg (by rw [bL_size]; exact h), List.getD_eq_getElem?_getD, List.getElem?_eq_none (by omega)]
    rfl

theorem byteAt_lst (s : ByteArray) (k : Nat) : byteAt s k = ((s.data.toList.getD k 0).toNat : Int) := bL_at s.data.toList k
theorem index_at : ∀ (l : List UInt8) (k : Nat), k < l.length → (∀ j, j < k → ¬ l.getD j 0 = 47) → l.getD k 0 = 47 → Lib.indexByte l 47 = (k : Int) := by
  intro l
  induction l with
  | nil => intro k h; simp at h
  | cons b l ih =>
    intro k hk hj hc
    cases k with
    | zero =>
      have : b = 47 := hc
      subst this
      simp [Lib.indexByte]
    | succ k =>
      have hb : ¬ (b == 47) = true := by simp; exact hj 0 (by omega)
      have := ih k (by simpa using hk) (fun j h => by have := hj (j + 1) (by omega); simpa using this) (by simpa using hc)
      show (if (b == 47) = true then (0 : Int) else if (Lib.indexByte l 47 == -1) = true then -1 else Lib.indexByte l 47 + 1) = _
      rw [if_neg hb, this, if_neg (by simp)]
      simp
theorem index_none : ∀ (l : List UInt8), (∀ j, j < l.length → ¬ l.getD j 0 = 47) → Lib.indexByte l 47 = -1 := by
  intro l
  induction l with
  | nil => intro _; rfl
  | cons b l ih =>
    intro hj
    have hb : ¬ (b == 47) = true := by simp; exact hj 0 (by simp)
    have := ih (fun j h => by have := hj (j + 1) (by simp; omega); simpa using this)
    show (if (b == 47) = true then (0 : Int) else if (Lib.indexByte l 47 == -1) = true then -1 else Lib.indexByte l 47 + 1) = _
    rw [if_neg hb, this, if_pos (by simp)]
theorem u8_47 (c : UInt8) (h : ¬ (c.toNat : Int) = 47) : ¬ c = 47 := by intro e; subst e; exact h rfl
theorem u8_47' (c : UInt8) (h : (c.toNat : Int) = 47) : c = 47 := UInt8.toNat_inj.mp (by show c.toNat = 47; omega)
theorem ixS_at (s : ByteArray) (k : Nat) (hk : k < s.size) (hj : ∀ j, j < k → ¬ byteAt s j = 47) (hc : byteAt s k = 47) : ixS s = (k : Int) :=
  index_at s.data.toList k hk (fun j h => u8_47 _ (by have := hj j h; rwa [byteAt_lst] at this)) (u8_47' _ (by rwa [byteAt_lst] at hc))
theorem ixS_none (s : ByteArray) (hj : ∀ j, j < s.size → ¬ byteAt s j = 47) : ixS s = -1 :=
  index_none s.data.toList (fun j h => u8_47 _ (by have := hj j h; rwa [byteAt_lst] at this))
theorem apE_ways (F : Int) (s : ByteArray) (hf : fam F = true) : apE F s = 0 ∨ apE F s = 12 := by
  unfold apE
  rcases fam_ways F hf with rfl | rfl
  · rw [if_pos rfl]; split <;> simp
  · rw [if_neg (by decide), if_pos rfl]; split <;> simp
theorem apE_nofam (F : Int) (s : ByteArray) (hf : fam F = false) : apE F s = 11 := by
  obtain ⟨h1, h2⟩ := fam_no F hf
  unfold apE
  rw [if_neg h1, if_neg h2]
set_option maxHeartbeats 8000000 in
set_option maxRecDepth 20000 in
theorem rpparse_any (F : Int) (s : ByteArray) (w : World) (hs : s.size ≤ maxLen) :
    Calls Tryz.prog 51 #[.int .i64 F, .string s] w fun e w' => e = .returned (.tuple #[.agg #[.int .u64 (hI (ppV F s)), .int .u64 (lI (ppV F s)), .int .i64 (ppN F s)], .int .i64 (ppE F s)]) ∧ Below w.heap.size w w' := by
  have hs' := hs
  unfold maxLen at hs
  have KF := fun w => isFamily_any F w
  cases hf : fam F
  · rw [hf] at KF
    have hE : ppE F s = 11 := by unfold ppE; rw [apE_nofam F _ hf, if_neg (by decide)]
    have hV : ppV F s = 0#128 := by unfold ppV; rw [hE, if_neg (by decide)]
    have hN : ppN F s = 0 := by unfold ppN; rw [hE, if_neg (by decide)]
    rw [hE, hV, hN, hI_zero, lI_zero]
    clear hE hV hN hf
    go_enter Tryz.func51, Tryz.ntmps51
    go_wp2_with fail
    refine (KF _).mono ?_
    rintro e w1 ⟨rfl, rfl⟩
    go_wp2
    exact bodyPost_ret (v := .tuple #[.agg #[.int .u64 0, .int .u64 0, .int .i64 0], .int .i64 11]) (by simp [results, Tryz.results51, go_sem]) rfl ⟨rfl, bl1 _ _⟩
  · rw [hf] at KF
    go_enter Tryz.func51, Tryz.ntmps51
    go_wp2_with fail
    refine (KF _).mono ?_
    rintro e w1 ⟨rfl, rfl⟩
    clear KF
    have Z0 := atp_new w w.heap.size 0#128 0 37 rfl
    have kB0 := bl1 w (.cells #[.int .u64 0, .int .u64 0, .int .i64 0] 37)
    go_wp2
    obtain ⟨W, HW⟩ : ∃ W, Hid ((w.alloc (.cells #[.int .u64 0, .int .u64 0, .int .i64 0] 37)) = W) := ⟨_, rfl⟩
    have Z : AtP W w.heap.size 0#128 0 := by rw [← HW.out]; exact Z0
    have kB : Below w.heap.size w W := by rw [← HW.out]; exact kB0
    rw [HW.out]
    clear Z0 kB0
    go_loopw [6] (fun i wr => ∃ k : Nat, i = .int .i64 (k : Int) ∧ k ≤ s.size ∧ Hid (∀ j, j < k → ¬ byteAt s j = 47) ∧ wr = W) (fun i _ => s.size - (intOf i).toNat)
    case atStart => exact ⟨0, rfl, by omega, fun j h => by omega, rfl⟩
    case round =>
      obtain ⟨k, rfl, hk, HJ, rfl⟩ := hrel
      by_cases hlt : k < s.size
      · have hbt := byteAt_in s k hlt
        have bd := byteAt_bd s k
        have hk2 : (k : Int) < (s.size : Int) := by omega
        by_cases hc : byteAt s k = 47
        · have hix := ixS_at s k hlt HJ.out hc
          have h1 : headS s = s.extract 0 k := by unfold headS; rw [hix, if_neg (by omega)]; rfl
          have h2 : tailS s = s.extract (k + 1) s.size := by unfold tailS; rw [hix, if_neg (by omega)]; rfl
          have hcb : (byteAt s k != 47) = false := by simp [hc]
          generalize byteAt s k = c at *
          have hk0 : (0 : Int) ≤ (k : Int) := by omega
          have hk1 : (k : Int) ≤ (s.size : Int) := by omega
          have hk3 : (k : Int) + 1 ≤ (s.size : Int) := by omega
          have hk4 : (0 : Int) ≤ (k : Int) + 1 := by omega
          have ht : ((k : Int) + 1).toNat = k + 1 := by omega
          have hu : IntKind.i64.wrap ((k : Int) + 1) = (k : Int) + 1 := by rw [IntKind.wrap_i64]; omega
          have KA := fun w => rparse2_any F (s.extract 0 k) w (Nat.le_trans (ext_le _ _ _) hs')
          have ev : rpV F (s.extract 0 k) = apV F (headS s) := by rw [h1]; exact (parse_eq F (s.extract 0 k)).1.symm
          have ee : rpE F (s.extract 0 k) = apE F (headS s) := by rw [h1]; exact (parse_eq F (s.extract 0 k)).2.symm
          rw [ev, ee] at KA
          clear ev ee
          have hts : (s.extract (k + 1) s.size).size ≤ 9223372036854775807 := Nat.le_trans (ext_le _ _ _) hs
          have HT : Hid (tailS s = s.extract (k + 1) s.size) := h2
          have HH : Hid (headS s = s.extract 0 k) := h1
          have hge : ¬ (s.size : Int) ≤ (k : Int) := by omega
          clear hc HJ bd h1 h2 hix
          have hZero : ∀ e, ¬ e = 0 → ppE F s = e → Hid (ppV F s = 0#128 ∧ ppN F s = 0 ∧ ppE F s = e) := fun e he hE => by
            refine ⟨?_, ?_, hE⟩
            · unfold ppV; rw [hE, if_neg he]
            · unfold ppN; rw [hE, if_neg he]
          rcases apE_ways F (headS s) hf with e0 | e0
          · rw [e0] at KA
            have hPE : ppE F s = if lenB (tailS s) = true then checkE F (apV F (headS s)) (lenV (tailS s)) else 12 := by unfold ppE; rw [if_pos e0]
            have HPV : Hid (ppV F s = if ppE F s = 0 then apV F (headS s) else 0#128) := rfl
            have HPN : Hid (ppN F s = if ppE F s = 0 then lenV (tailS s) else 0) := rfl
            generalize apV F (headS s) = x at *
            have HPE : Hid (ppE F s = if lenB (tailS s) = true then checkE F x (lenV (tailS s)) else 12) := hPE
            have Hno : Hid (lenO (tailS s) = none → Hid (ppV F s = 0#128 ∧ ppN F s = 0 ∧ ppE F s = 12)) := fun hn => hZero 12 (by decide) (by
              rw [hPE, if_neg]
              unfold lenB; rw [hn]; decide)
            clear hPE e0 hZero
            obtain ⟨t, HTT⟩ : ∃ t, Hid (s.extract (k + 1) s.size = t) := ⟨_, rfl⟩
            rw [HT.out, HTT.out] at HPE HPN Hno
            rw [HTT.out] at hts
            have hTT := HTT.out
            go_wp2_with fail
            refine (KA _).mono ?_
            rintro e w2 ⟨rfl, hb⟩
            have hA := bl1 w2 (.cells #[.int .u64 (hI x), .int .u64 (lI x)] 35)
            have Z2 := (Z.below hb).below hA
            have X2 := at_new w2 w2.heap.size x 35 rfl
            have kB2 := keepb hA (keepb hb kB)
            clear hb hA KA
            obtain ⟨z0, z1, z2, z3, z4, z5⟩ := id Z2
            by_cases hz : t.size = 0
            · have hz1 : (t.size : Int) < 1 := by omega
              have HV := Hno.out (by unfold lenO; rw [if_pos (Or.inl hz)])
              clear Hno HPE HPN HPV hz
              go_wp2
              exact bodyPost_ret (v := .tuple #[.agg #[.int .u64 0, .int .u64 0, .int .i64 0], .int .i64 12]) (by simp [results, Tryz.results51, go_sem, *]) rfl ⟨by rw [HV.out.1, HV.out.2.1, HV.out.2.2, hI_zero, lI_zero], bset3 kB2 (Nat.le_refl _) _ _ _⟩
            have hz1 : ¬ (t.size : Int) < 1 := by omega
            by_cases h3 : (3 : Int) < (t.size : Int)
            · have HV := Hno.out (by unfold lenO; rw [if_pos (Or.inr (Or.inl (by omega)))])
              clear Hno HPE HPN HPV hz
              go_wp2
              exact bodyPost_ret (v := .tuple #[.agg #[.int .u64 0, .int .u64 0, .int .i64 0], .int .i64 12]) (by simp [results, Tryz.results51, go_sem, *]) rfl ⟨by rw [HV.out.1, HV.out.2.1, HV.out.2.2, hI_zero, lI_zero], bset3 kB2 (Nat.le_refl _) _ _ _⟩
            have hpos : 0 < t.size := by omega
            have hb0 := byteAt_in t 0 hpos
            by_cases h0 : byteAt t 0 = 48 ∧ 1 < t.size
            · have HV := Hno.out (by unfold lenO; rw [if_pos (Or.inr (Or.inr h0))])
              obtain ⟨q1, q2⟩ := h0
              have q2' : (1 : Int) < (t.size : Int) := by omega
              have qb : (byteAt t 0 == 48) = true := by simp [q1]
              generalize byteAt t 0 = c at *
              clear q1 Hno HPE HPN HPV hz
              go_wp2
              exact bodyPost_ret (v := .tuple #[.agg #[.int .u64 0, .int .u64 0, .int .i64 0], .int .i64 12]) (by simp [results, Tryz.results51, go_sem, *]) rfl ⟨by rw [HV.out.1, HV.out.2.1, HV.out.2.2, hI_zero, lI_zero], bset3 kB2 (Nat.le_refl _) _ _ _⟩
            have HO : Hid (lenO t = lenR t t.size 0 0) := by
              show _ = _
              unfold lenO; rw [if_neg]
              rintro (q | q | q)
              · exact hz q
              · omega
              · exact h0 q
            have hq : (¬ (1 : Int) < (t.size : Int)) ∨ ((1 : Int) < (t.size : Int) ∧ (byteAt t 0 == 48) = false) := by
              by_cases q : (1 : Int) < (t.size : Int)
              · right; refine ⟨q, ?_⟩
                have : ¬ byteAt t 0 = 48 := fun e => h0 ⟨e, by omega⟩
                simp [this]
              · left; exact q
            have ht3 : (t.size : Int) ≤ 3 := by omega
            clear h0 hz
            have go2 : True := trivial
            rcases hq with qb | ⟨qb, q2⟩
            all_goals
              go_wp2
              obtain ⟨W2, HW2⟩ : ∃ W2, Hid ((w2.alloc (.cells #[.int .u64 (hI x), .int .u64 (lI x)] 35)) = W2) := ⟨_, rfl⟩
              rw [HW2.out] at Z2 X2 kB2 z0 z1 z2 z3 z4 z5 ⊢
              clear hb0
              go_loopw [10, 11] (fun a b wr2 => ∃ (j : Nat) (n : Int), a = .int .i64 n ∧ b = .int .i64 j ∧ j ≤ t.size ∧ 0 ≤ n ∧ n ≤ 999 ∧ Hid ((j = 0 ∧ n = 0) ∨ (j = 1 ∧ n ≤ 9) ∨ (j = 2 ∧ n ≤ 99) ∨ (j = 3 ∧ n ≤ 999)) ∧ Hid (lenR t (t.size - j) j n = lenR t t.size 0 0) ∧ wr2 = W2) (fun _ b _ => t.size - (intOf b).toNat)
              case atStart => exact ⟨0, 0, rfl, rfl, by omega, by omega, by omega, Or.inl ⟨rfl, rfl⟩, rfl, rfl⟩
              case round =>
                obtain ⟨j, n, rfl, rfl, hj, g0, g1, HB, HR, rfl⟩ := hrel
                clear qb
                by_cases hjt : j < t.size
                · have hbt := byteAt_in t j hjt
                  have bd := byteAt_bd t j
                  have HU : Hid (t.size - j = (t.size - (j + 1)) + 1) := by show _ = _; omega
                  have HS : Hid (∀ f, lenR t (f + 1) j n = if byteAt t j < 48 ∨ 57 < byteAt t j then none else lenR t f (j + 1) (10 * n + (byteAt t j - 48))) := fun f => rfl
                  generalize byteAt t j = c at *
                  have hj2 : (j : Int) < (t.size : Int) := by omega
                  by_cases d0 : c < 48
                  · have HV := Hno.out (by rw [HO.out, ← HR.out, HU.out, HS.out, if_pos (Or.inl d0)])
                    clear HS HU HR HO Hno HPE HPN HPV
                    go_wp2
                    exact bodyPost_ret (v := .tuple #[.agg #[.int .u64 0, .int .u64 0, .int .i64 0], .int .i64 12]) (by simp [results, Tryz.results51, go_sem, *]) rfl ⟨by rw [HV.out.1, HV.out.2.1, HV.out.2.2, hI_zero, lI_zero], bset3 kB2 (Nat.le_refl _) _ _ _⟩
                  by_cases d1 : 57 < c
                  · have HV := Hno.out (by rw [HO.out, ← HR.out, HU.out, HS.out, if_pos (Or.inr d1)])
                    clear HS HU HR HO Hno HPE HPN HPV
                    go_wp2
                    exact bodyPost_ret (v := .tuple #[.agg #[.int .u64 0, .int .u64 0, .int .i64 0], .int .i64 12]) (by simp [results, Tryz.results51, go_sem, *]) rfl ⟨by rw [HV.out.1, HV.out.2.1, HV.out.2.2, hI_zero, lI_zero], bset3 kB2 (Nat.le_refl _) _ _ _⟩
                  · have HF : Hid (lenR t (t.size - (j + 1)) (j + 1) (10 * n + (c - 48)) = lenR t t.size 0 0) := by
                      show _ = _
                      rw [← HR.out, HU.out, HS.out, if_neg (by omega)]
                    have hn : 10 * n + (c - 48) ≤ 999 ∧ 0 ≤ 10 * n + (c - 48) := by
                      have := HB.out
                      omega
                    have HB2 : Hid ((j + 1 = 0 ∧ 10 * n + (c - 48) = 0) ∨ (j + 1 = 1 ∧ 10 * n + (c - 48) ≤ 9) ∨ (j + 1 = 2 ∧ 10 * n + (c - 48) ≤ 99) ∨ (j + 1 = 3 ∧ 10 * n + (c - 48) ≤ 999)) := by
                      have := HB.out
                      show _ ∨ _
                      omega
                    have u1 : IntKind.u8.wrap (c - 48) = c - 48 := by simp [IntKind.wrap, IntKind.bits, IntKind.signed]; omega
                    obtain ⟨hn1, hn2⟩ := hn
                    clear HS HU HR HO HB Hno HPE HPN HPV z0 z1 z2 z3 z4 z5 Z2 X2
                    go_wp2
                    go_roundw
                    case rel => exact ⟨j + 1, 10 * n + (c - 48), rfl, by go_num, by omega, hn2, hn1, HB2, HF, trivial⟩
                    case measure => simp [intOf]; omega
                · have hj2 : ¬ (j : Int) < (t.size : Int) := by omega
                  have hLO : lenO t = some n := by
                    have e : t.size - j = 0 := by omega
                    rw [HO.out, ← HR.out, e]; rfl
                  have hlB : lenB t = true := by unfold lenB; rw [hLO]; rfl
                  have hlV : lenV t = n := by unfold lenV; rw [hLO]; rfl
                  have KC := fun w => rcheck_any F x n w
                  rw [hlB, if_pos rfl, hlV] at HPE
                  rw [hlV] at HPN
                  clear hLO hlB hlV HO HR HB Hno
                  generalize checkE F x n = c at *
                  obtain ⟨x0, x1, -, -, -⟩ := id X2
                  go_wp2_with fail
                  refine (KC _).mono ?_
                  rintro e w4 ⟨rfl, hb⟩
                  have hA := bl1 wr (.cells #[.int .u64 (hI x), .int .u64 (lI x), .int .i64 n] 37)
                  have C4 := (atp_new wr wr.heap.size x n 37 rfl).below hb
                  have Z4 := (Z2.below hA).below hb
                  have kB4 := keepb hb (keepb hA kB2)
                  clear z0 z1 z2 z3 z4 z5 x0 x1 hb hA KC Z2 X2
                  obtain ⟨z0, z1, z2, z3, z4, z5⟩ := Z4
                  obtain ⟨c0, c1, c2, -, -, -⟩ := C4
                  by_cases hc0 : c = 0
                  · subst hc0
                    have HV : Hid (ppV F s = x ∧ ppN F s = n ∧ ppE F s = 0) := by
                      refine ⟨?_, ?_, HPE.out⟩
                      · rw [HPV.out, HPE.out, if_pos rfl]
                      · rw [HPN.out, HPE.out, if_pos rfl]
                    clear HPE HPN HPV
                    go_wp2
                    exact bodyPost_ret (v := .tuple #[.agg #[.int .u64 (hI x), .int .u64 (lI x), .int .i64 n], .int .i64 0]) (by simp [results, Tryz.results51, go_sem, *]) rfl ⟨by rw [HV.out.1, HV.out.2.1, HV.out.2.2], bset3 kB4 (Nat.le_refl _) _ _ _⟩
                  · have hcb : (c != 0) = true := by simp [hc0]
                    have HV : Hid (ppV F s = 0#128 ∧ ppN F s = 0 ∧ ppE F s = c) := by
                      refine ⟨?_, ?_, HPE.out⟩
                      · rw [HPV.out, HPE.out, if_neg hc0]
                      · rw [HPN.out, HPE.out, if_neg hc0]
                    clear HPE HPN HPV
                    go_wp2
                    exact bodyPost_ret (v := .tuple #[.agg #[.int .u64 0, .int .u64 0, .int .i64 0], .int .i64 c]) (by simp [results, Tryz.results51, go_sem, *]) rfl ⟨by rw [HV.out.1, HV.out.2.1, HV.out.2.2, hI_zero, lI_zero], bset3 kB4 (Nat.le_refl _) _ _ _⟩
          · rw [e0] at KA
            have HV := hZero 12 (by decide) (by unfold ppE; rw [e0, if_neg (by decide)])
            generalize apV F (headS s) = x at *
            clear hZero e0
            go_wp2_with fail
            refine (KA _).mono ?_
            rintro e w2 ⟨rfl, hb⟩
            have hA := bl1 w2 (.cells #[.int .u64 (hI x), .int .u64 (lI x)] 35)
            have Z2 := (Z.below hb).below hA
            have kB2 := keepb hA (keepb hb kB)
            clear hb hA KA
            obtain ⟨z0, z1, z2, z3, z4, z5⟩ := id Z2
            go_wp2
            exact bodyPost_ret (v := .tuple #[.agg #[.int .u64 0, .int .u64 0, .int .i64 0], .int .i64 12]) (by simp [results, Tryz.results51, go_sem, *]) rfl ⟨by rw [HV.out.1, HV.out.2.1, HV.out.2.2, hI_zero, lI_zero], bset3 kB2 (Nat.le_refl _) _ _ _⟩
        · have hcb : (byteAt s k != 47) = true := by simp [hc]
          have HJ2 : Hid (∀ j, j < k + 1 → ¬ byteAt s j = 47) := fun j h => by
            by_cases e : j = k
            · rw [e]; exact hc
            · exact HJ.out j (by omega)
          generalize byteAt s k = c at *
          clear hc HJ
          go_wp2
          go_roundw
          case rel => exact ⟨k + 1, by go_num, by omega, HJ2, trivial⟩
          case measure => simp [intOf]; omega
      · have hk2 : ¬ (k : Int) < (s.size : Int) := by omega
        have hke : k = s.size := by omega
        have hix := ixS_none s (fun j h => HJ.out j (by omega))
        have h2 : tailS s = ⟨#[]⟩ := by unfold tailS; rw [hix, if_pos rfl]
        have hE : ppE F s = 12 := by
          unfold ppE
          rcases apE_ways F (headS s) hf with e | e
          · rw [e, if_pos rfl, h2, if_neg (by decide)]
          · rw [e, if_neg (by decide)]
        have HV : Hid (ppV F s = 0#128 ∧ ppN F s = 0 ∧ ppE F s = 12) := by
          refine ⟨?_, ?_, hE⟩
          · unfold ppV; rw [hE, if_neg (by decide)]
          · unfold ppN; rw [hE, if_neg (by decide)]
        have hge : (s.size : Int) ≤ (k : Int) := by omega
        obtain ⟨z0, z1, z2, z3, z4, z5⟩ := Z
        clear hE h2 hix HJ hke
        go_wp2
        exact bodyPost_ret (v := .tuple #[.agg #[.int .u64 0, .int .u64 0, .int .i64 0], .int .i64 12]) (by simp [results, Tryz.results51, go_sem, *]) rfl ⟨by rw [HV.out.1, HV.out.2.1, HV.out.2.2, hI_zero, lI_zero], bset3 kB (Nat.le_refl _) _ _ _⟩
end Go.Proofs.YtmeaikmmhgmgnaaGreat
